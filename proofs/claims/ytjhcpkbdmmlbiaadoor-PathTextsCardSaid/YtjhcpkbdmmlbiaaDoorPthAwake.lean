/- The statements' own check that package path answers at all: true in any world. -/
import Derived.Test.YtjhcpkbdmmlbiaaDoorRows
import Derived.WalkKit
import Derived.ProofKit
import Derived.OpenShut
import Derived.Laws.Externs
import Derived.Test.YtjhcpkbdmmlbiaaDoorCxZ
namespace Go.Proofs.YtjhcpkbdmmlbiaaDoor
open Go.ChangeShapes Go.WideShapes Go.ChangeAt Go.RowKit

/-- The program, for the run. -/
noncomputable def E0 : Cx.Env := ⟨Tryd.prog, Tryd.prog.globals.size, fun f => Nat.beq f 56, fun _ _ _ => none, fun _ _ _ => none⟩
theorem noesc : ∀ f, Nat.beq f 56 = true → ∀ v w, (callFunc f #[v]).run Tryd.prog w = .ok (.value v) w := by
  intro f hf v w
  have hf' : f = 56 := Nat.eq_of_beq_eq_true hf
  subst hf'
  have h := run_callFunc_extern (P := Tryd.prog) (e := Extern.AbiNoEscape.same) Tryd.func56 (by kernel_rfl) (by kernel_rfl) (by kernel_rfl) (by kernel_rfl) #[v] w
  exact h
theorem E0_ok : E0.Ok := ⟨noesc, fun f args st v h => (by cases h), fun f args st v h => (by cases h)⟩
theorem E0_mix : E0.P.follows .mixedOrders = true := by kernel_rfl
theorem awake_top : Cx.topT E0 [] 5 100000 = true := by kernel_rfl
theorem law_awake (W : World) : Calls Tryd.prog 5 #[] W fun e W' => e = .returned (.bool true) ∧ Below W.heap.size W W' :=
  Cx.closedT E0_ok E0_mix awake_top W fun p hp => by cases hp

end Go.Proofs.YtjhcpkbdmmlbiaaDoor
