/- The closed statement MovesNames. No condition. -/
import Derived.Test.YtmofodaecakkfaaGreatDoorCards
import Derived.Test.YtmofodaecakkfaaGreatDoorTie
import Derived.WalkKit
import Derived.ProofKit
import Derived.OpenShut
import Derived.Deep.DeepHandedRow
import Derived.Lib.LaidTab
import Derived.Laws.Externs
import Derived.Test.YtmofodaecakkfaaGreatDoorCxSN
import Derived.Lib.MakeNoZero
namespace Go.Proofs.YtmofodaecakkfaaGreatDoor
open Go.ChangeShapes Go.WideShapes Go.ChangeAt Go.RowKit

theorem own : ownKnob Tryz.prog.godebug = none := by kernel_rfl
/-- Functions without a body that look at memory. -/
noncomputable def extF (_ : FuncId) (_ : List Value) (_ : Cx.St) : Option Value := none
/-- Functions without a body that make bytes. -/
noncomputable def nzF (_ : FuncId) : Option TypeId := none
theorem nz_ok : ∀ f e, nzF f = some e → ∀ (n : Nat), n ≤ 281474976710656 → ∀ w, ∃ cs : Array Value, (callFunc f #[.int .i64 n]).run Tryz.prog w = .ok (.value (.slice (some ⟨w.heap.size, 0, none⟩) n cs.size)) (w.drew.drew.alloc (.cells cs e)) ∧ n ≤ cs.size := by
  intro f e h n hn w
  unfold nzF at h
  cases h
noncomputable def E00 : Cx.Env := ⟨Tryz.prog, Tryz.prog.globals.size, fun f => Nat.beq f 104, fun _ _ _ => none, extF, nzF⟩
theorem ext_ok : ∀ f args st v, extF f args st = some v → Cx.plainV Cx.FUEL v = true ∧ ∀ (s : Cx.Ren) (w : World) (args' : Array Value), Cx.Mem s st w → Cx.VRs s args.toArray args' → (callFunc f args').run Tryz.prog w = .ok (.value v) w := by
  intro f args st v h
  unfold extF at h
  cases h
theorem noesc : ∀ f, Nat.beq f 104 = true → ∀ v w, (callFunc f #[v]).run Tryz.prog w = .ok (.value v) w := by
  intro f hf v w
  have hf' : f = 104 := Nat.eq_of_beq_eq_true hf
  subst hf'
  have h := run_callFunc_extern (P := Tryz.prog) (e := Extern.AbiNoEscape.same) Tryz.func104 (by kernel_rfl) (by kernel_rfl) (by kernel_rfl) (by kernel_rfl) #[v] w
  exact h
theorem E00_ok : E00.Ok := ⟨noesc, fun f args st v h => (by cases h), ext_ok, nz_ok⟩
theorem E00_mix : E00.P.follows .mixedOrders = true := by kernel_rfl
noncomputable def tabs0 : List (Nat × List Value) := []
noncomputable def knowns : List Cx.Kn := []
end Go.Proofs.YtmofodaecakkfaaGreatDoor
