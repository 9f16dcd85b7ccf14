/- The statement on what is undone: what was made, and is taken away, leaves the tree as it was; what was renamed to a place where nothing stood, and back, too. It holds where what comes in is of bulk at most 1048576. -/
import Derived.Test.YtonpeoaahjoboaaRows
import Derived.WalkKit
import Derived.ProofKit
import Derived.OpenShut
import Derived.JoinedCond
import Derived.Test.YtonpeoaahjoboaaFtOpen
import Derived.Test.YtonpeoaahjoboaaPmH
namespace Go.Proofs.Ytonpeoaahjoboaa
open Go.ChangeShapes Go.WideShapes Go.ChangeAt Go.RowKit Px Nx
namespace primBack
theorem own : ownKnob Try.prog.godebug = none := by kernel_rfl
theorem laidOut : laidOutB Try.prog = true := by kernel_rfl
theorem rec_node : Try.prog.readableRec 40 = true := by kernel_rfl
theorem row_node : 40 < Try.prog.types.size := of_decide_eq_true (by kernel_rfl)
theorem rec_place : Try.prog.readableRec 22 = true := by kernel_rfl
theorem row_place : 22 < Try.prog.types.size := of_decide_eq_true (by kernel_rfl)

set_option maxRecDepth 100000 in
theorem contract (H : Type) (enc : TypeId × Value → H) (W : World) (base : Nat) (args : Array Value) (ds gs : List (DataW H)) (before : List MemPlace)
    (hval : ∀ (j : Nat) t v, Try.f5.params[j]? = some t → args[j]? = some v → Value.okWide Try.prog W .any base t v)
    (hW : DataW.Whole enc Try.prog Try.f5.params.toList Rows.primBackSpec.vars false W args.toList ds gs before) (hk : Rows.uptoSmall H (ds ++ gs) = true) :
    Calls Try.prog 5 args W fun e W' => ∃ v, e = .returned v ∧ Rows.primBackSpec.post enc Try.prog Try.f5 false true false false W args v W' := by
  have hW' := hW
  obtain ⟨p, q, hA0, hV, rfl, hfz, hnd⟩ := hW
  have hA : DataW.TrodAll enc Try.prog W 0 (fun _ => true) true Try.f5.params.toList args.toList ds p := hA0
  rw [Try.params5] at hA hval
  obtain ⟨v0, vs0, d0, ds0, p0, q0, hargs, rfl, rfl, h0, r0⟩ := trodAll_cons hA
  obtain ⟨v1, vs1, d1, ds1, p1, q1, rfl, rfl, rfl, h1, r1⟩ := trodAll_cons r0
  obtain ⟨v2, vs2, d2, ds2, p2, q2, rfl, rfl, rfl, h2, r2⟩ := trodAll_cons r1
  obtain ⟨rfl, rfl, rfl⟩ := trodAll_nil r2
  obtain rfl : args = #[v0, v1, v2] := by cases args; simp_all
  obtain ⟨rfl, rfl⟩ := trodVars_none hV
  have hB := of_decide_eq_true (show decide (Rows.uptoBulkAll _ ≤ 1048576) = true from hk)
  rw [List.append_nil, bulk_cons, bulk_cons, bulk_cons, bulk_none] at hB
  obtain ⟨cs, x, rfl, hx, hxb⟩ := open_node (hval 0 40 v0 rfl rfl) h0
  obtain ⟨place, hp, _⟩ := open_place (hval 1 22 v1 rfl rfl) h1
  obtain ⟨place2, hp2, _⟩ := open_place (hval 2 22 v2 rfl rfl) h2
  obtain ⟨pa, ca, rfl, hs1, hc1, hm1⟩ := hp
  obtain ⟨pb, cb, rfl, hs2, hc2, hm2⟩ := hp2
  have hlt : ∀ z ∈ (p0 ++ (p1 ++ (p2 ++ []))) ++ [], z.block < W.heap.size := fun z hz => by simpa using hW'.lt z hz
  refine (law_back hx (by omega) ⟨pa, ca, rfl, hs1, hc1, hm1⟩ ⟨pb, cb, rfl, hs2, hc2, hm2⟩).mono fun e W' ⟨he, hb⟩ => ?_
  subst he
  have a0 := Below.trod laidOut rec_node row_node h0 hb (fun z hz => hlt z (by simp [hz]))
  have a1 := Below.trod laidOut rec_place row_place h1 hb (fun z hz => hlt z (by simp [hz]))
  have a2 := Below.trod laidOut rec_place row_place h2 hb (fun z hz => hlt z (by simp [hz]))
  exact ⟨_, rfl, _, _, _, [], p0 ++ (p1 ++ (p2 ++ [])), [], hW', trodAll_cons_mk (shut_bool Try.underlying4 _) trodAll_mk0, trodAll_cons_mk a0 (trodAll_cons_mk a1 (trodAll_cons_mk a2 trodAll_mk0)), rfl, hb.frame _, fun h => by cases h⟩

/-- A node of nothing, for the witness. -/
def zero : Value := .agg #[.int .u8 0, .string ByteArray.empty, .slice none 0 0, .slice none 0 0]
set_option maxRecDepth 100000 in
theorem lifted (os : Os) (started : os.Started) (H : Type) (enc : TypeId × Value → H) (F : Stop.Interp) :
    ReturnsInHanded {} Try.checked os 5 .any ((Rows.OpenSpec.upto Rows.primBackSpec).pre6 enc Try.prog Try.f5 Rows.primBackUptoRow.domain false) (((Rows.OpenSpec.upto Rows.primBackSpec).at F).post enc Try.prog Try.f5 false true false false) := by
  refine returnsInHanded_of_cond (C := Try.checked) (s := Rows.OpenSpec.upto Rows.primBackSpec) (k := Rows.uptoSmall) rfl own started (by kernel_rfl) Try.func5
    (OpenSpec.witness (enc := enc) (C := Try.checked) (s := Rows.OpenSpec.upto Rows.primBackSpec) (k := Rows.uptoSmall) rfl false ⟨#[], #[zero, .slice none 0 0, .slice none 0 0], []⟩ 8 (by kernel_rfl) (by kernel_rfl) (by kernel_rfl)
      (x := ([.agg [.lit (.int .u8 0), .lit (.string []), .nil, .nil], .nil, .nil], [], [])) (by kernel_rfl) rfl (by kernel_rfl)) ?_
  intro W base args ds gs before hval hW _ hk _
  exact contract H enc W base args ds gs before hval hW hk
/-- THE STATEMENT. -/
theorem said : Rows.PrimBackUptoSaid :=
  OpenClaim.holds_of_cond 5 Try.f5 rfl rfl rfl rfl rfl rfl rfl ⟨rfl, rfl, rfl, rfl, rfl⟩ rfl rfl rfl rfl rfl (by kernel_rfl) Try.func5 (by kernel_rfl)
    (of_decide_eq_true (by kernel_rfl)) (by unfold Func.isWrapper; first | (rw [if_pos (by decide +kernel)]; kernel_rfl) | (rw [if_neg (by decide +kernel)]; exact ⟨rfl, rfl⟩))
    (fun os started H enc _ F => lifted os started H enc F)
end primBack
end Go.Proofs.Ytonpeoaahjoboaa
