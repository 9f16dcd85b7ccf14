/- The statement on one step: behind Put, Del, Move, Copy there stands what was put, nothing, what was at from, at both; elsewhere nothing turns; the root stays well formed. It holds where what comes in is of bulk at most 1048576. -/
import Derived.Test.YtcookbaedcjmjaaRows
import Derived.WalkKit
import Derived.ProofKit
import Derived.OpenShut
import Derived.JoinedCond
import Derived.Test.YtcookbaedcjmjaaFtOpen
import Derived.Test.YtcookbaedcjmjaaFtAF
namespace Go.Proofs.Ytcookbaedcjmjaa
open Go.ChangeShapes Go.WideShapes Go.ChangeAt Go.RowKit Px Nx
namespace Nx
variable {H : Type} {enc : TypeId × Value → H} {W : World}
theorem cStep : Try.prog.cellsOf 53 = 7 := by kernel_rfl
theorem list7 {α : Type} {l : List α} (h : l.length = 7) : ∃ a b c d e f g, l = [a, b, c, d, e, f, g] := by
  match l, h with
  | [a, b, c, d, e, f, g], _ => exact ⟨a, b, c, d, e, f, g, rfl⟩
set_option maxRecDepth 100000 in
theorem open_step_at (fuel : Nat) {cs : List Value} {x : DataW H × List MemPlace} (h : DataW.trod enc Try.prog W 0 (fun _ => true) true fuel 53 cs = some x) :
    ∃ s : Sp, StepR W cs s ∧ s.n.bulk + namesBulk s.a + namesBulk s.b ≤ Rows.uptoBulk x.1 := by
  obtain ⟨xs, n, hn, rfl, hl, hxl, hf⟩ := DataW.trod_struct Try.underlying53 h
  rw [cStep] at hl
  obtain ⟨y0, y1, y2, y3, rfl⟩ := list4 (hxl.trans rfl)
  obtain ⟨v0, v1, v2, v3, v4, v5, v6, rfl⟩ := list7 hl
  have g0 : DataW.trod enc Try.prog W 0 (fun _ => true) true n 5 [v0] = some y0 := by simpa [cU8] using hf 0 _ rfl
  have g1 : DataW.trod enc Try.prog W 0 (fun _ => true) true n 23 [v1] = some y1 := by simpa [cStrs] using hf 1 _ rfl
  have g2 : DataW.trod enc Try.prog W 0 (fun _ => true) true n 23 [v2] = some y2 := by simpa [cStrs] using hf 2 _ rfl
  have g3 : DataW.trod enc Try.prog W 0 (fun _ => true) true n 26 [v3, v4, v5, v6] = some y3 := by simpa [cNode] using hf 3 _ rfl
  obtain ⟨k, h0, rfl, hk⟩ := DataW.trod_int Try.underlying5 g0
  obtain rfl : v0 = .int .u8 k := by simpa using h0
  obtain ⟨p, cap, ns, rfl, hnc, hcm, hS, hNB⟩ := open_strs_at g1
  obtain ⟨q, cap', ms, rfl, hnc', hcm', hS', hNB'⟩ := open_strs_at g2
  obtain ⟨c, hc, hcb⟩ := open_node_at n g3
  have hk1 : 0 ≤ k ∧ k ≤ 255 := by simpa [Lit.wf, IntKind.min, IntKind.max, IntKind.signed, IntKind.bits] using hk
  have hk2 : k = ((UInt8.ofNat k.toNat).toNat : Int) := by
    rw [UInt8.toNat_ofNat']
    omega
  refine ⟨⟨UInt8.ofNat k.toNat, ns, ms, c⟩, ⟨p, cap, q, cap', v3, v4, v5, v6, by rw [← hk2], ⟨p, cap, rfl, hS, hnc, hcm⟩, ⟨q, cap', rfl, hS', hnc', hcm'⟩, hc⟩, ?_⟩
  simp only [List.map_cons, List.map_nil, bulk_agg, bulk_cons, bulk_none]
  omega
set_option maxRecDepth 100000 in
theorem open_step {v : Value} {d : DataW H} {ps : List MemPlace} {base : Nat} (hv : Value.okWide Try.prog W .any base 53 v) (h : DataW.Trod enc Try.prog W 0 (fun _ => true) true 53 v d ps) :
    ∃ cs s, v = .agg cs ∧ StepR W cs.toList s ∧ s.n.bulk + namesBulk s.a + namesBulk s.b ≤ Rows.uptoBulk d := by
  obtain ⟨cs, rfl, _⟩ := okWide_struct Try.underlying53 hv
  obtain ⟨fuel, hf⟩ := h
  obtain ⟨s, h1, h2⟩ := open_step_at fuel hf
  exact ⟨cs, s, rfl, h1, h2⟩
end Nx

namespace ftreeThere
theorem own : ownKnob Try.prog.godebug = none := by kernel_rfl
theorem laidOut : laidOutB Try.prog = true := by kernel_rfl
theorem rec_node : Try.prog.readableRec 26 = true := by kernel_rfl
theorem row_node : 26 < Try.prog.types.size := of_decide_eq_true (by kernel_rfl)
theorem rec_step : Try.prog.readableRec 53 = true := by kernel_rfl
theorem row_step : 53 < Try.prog.types.size := of_decide_eq_true (by kernel_rfl)
theorem rec_place : Try.prog.readableRec 23 = true := by kernel_rfl
theorem row_place : 23 < Try.prog.types.size := of_decide_eq_true (by kernel_rfl)

set_option maxRecDepth 100000 in
theorem contract (H : Type) (enc : TypeId × Value → H) (W : World) (base : Nat) (args : Array Value) (ds gs : List (DataW H)) (before : List MemPlace)
    (hval : ∀ (j : Nat) t v, Try.f5.params[j]? = some t → args[j]? = some v → Value.okWide Try.prog W .any base t v)
    (hW : DataW.Whole enc Try.prog Try.f5.params.toList Rows.ftreeThereSpec.vars false W args.toList ds gs before) (hk : Rows.uptoSmall H (ds ++ gs) = true) :
    Calls Try.prog 5 args W fun e W' => ∃ v, e = .returned v ∧ Rows.ftreeThereSpec.post enc Try.prog Try.f5 false true false false W args v W' := by
  have hW' := hW
  obtain ⟨p, q, hA0, hV, rfl, hfz, hnd⟩ := hW
  have hA : DataW.TrodAll enc Try.prog W 0 (fun _ => true) true Try.f5.params.toList args.toList ds p := hA0
  rw [Try.params5] at hA hval
  obtain ⟨v0, vs0, d0, ds0, p0, q0, hargs, rfl, rfl, h0, r0⟩ := trodAll_cons hA
  obtain ⟨v1, vs1, d1, ds1, p1, q1, rfl, rfl, rfl, h1, r1⟩ := trodAll_cons r0
  obtain ⟨v2, vs2, d2, ds2, p2, q2, rfl, rfl, rfl, h2, r2⟩ := trodAll_cons r1
  obtain ⟨rfl, rfl, rfl⟩ := trodAll_nil r2
  obtain rfl : args = #[v0, v1, v2] := by cases args; simp_all
  obtain ⟨rfl, rfl⟩ := trodVars_none hV
  have hB := of_decide_eq_true (show decide (Rows.uptoBulkAll _ ≤ 1048576) = true from hk)
  rw [List.append_nil, bulk_cons, bulk_cons, bulk_cons, bulk_none] at hB
  obtain ⟨cs, x, rfl, hx, hxb⟩ := open_node (hval 0 26 v0 rfl rfl) h0
  obtain ⟨es, s, rfl, hs, hsb⟩ := open_step (hval 1 53 v1 rfl rfl) h1
  obtain ⟨place, hp, _⟩ := open_place (hval 2 23 v2 rfl rfl) h2
  have hlt : ∀ z ∈ (p0 ++ (p1 ++ (p2 ++ []))) ++ [], z.block < W.heap.size := fun z hz => by simpa using hW'.lt z hz
  refine (law_there hx (by omega) hs (by omega) hp).mono fun e W' ⟨he, hb⟩ => ?_
  subst he
  have a0 := Below.trod laidOut rec_node row_node h0 hb (fun z hz => hlt z (by simp [hz]))
  have a1 := Below.trod laidOut rec_step row_step h1 hb (fun z hz => hlt z (by simp [hz]))
  have a2 := Below.trod laidOut rec_place row_place h2 hb (fun z hz => hlt z (by simp [hz]))
  exact ⟨_, rfl, _, _, _, [], p0 ++ (p1 ++ (p2 ++ [])), [], hW', trodAll_cons_mk (shut_bool Try.underlying4 _) trodAll_mk0, trodAll_cons_mk a0 (trodAll_cons_mk a1 (trodAll_cons_mk a2 trodAll_mk0)), rfl, hb.frame _, fun h => by cases h⟩

/-- A node of nothing, a step of nothing, for the witness. -/
def zero : Value := .agg #[.int .u8 0, .string ByteArray.empty, .slice none 0 0, .slice none 0 0]
def zeroS : Value := .agg #[.int .u8 0, .slice none 0 0, .slice none 0 0, .int .u8 0, .string ByteArray.empty, .slice none 0 0, .slice none 0 0]
set_option maxRecDepth 100000 in
theorem lifted (os : Os) (started : os.Started) (H : Type) (enc : TypeId × Value → H) (F : Stop.Interp) :
    ReturnsInHanded {} Try.checked os 5 .any ((Rows.OpenSpec.upto Rows.ftreeThereSpec).pre6 enc Try.prog Try.f5 Rows.ftreeThereUptoRow.domain false) (((Rows.OpenSpec.upto Rows.ftreeThereSpec).at F).post enc Try.prog Try.f5 false true false false) := by
  refine returnsInHanded_of_cond (C := Try.checked) (s := Rows.OpenSpec.upto Rows.ftreeThereSpec) (k := Rows.uptoSmall) rfl own started (by kernel_rfl) Try.func5
    (OpenSpec.witness (enc := enc) (C := Try.checked) (s := Rows.OpenSpec.upto Rows.ftreeThereSpec) (k := Rows.uptoSmall) rfl false ⟨#[], #[zero, zeroS, .slice none 0 0], []⟩ 8 (by kernel_rfl) (by kernel_rfl) (by kernel_rfl)
      (x := ([.agg [.lit (.int .u8 0), .lit (.string []), .nil, .nil], .agg [.lit (.int .u8 0), .nil, .nil, .agg [.lit (.int .u8 0), .lit (.string []), .nil, .nil]], .nil], [], [])) (by kernel_rfl) rfl (by kernel_rfl)) ?_
  intro W base args ds gs before hval hW _ hk _
  exact contract H enc W base args ds gs before hval hW hk
/-- THE STATEMENT. -/
theorem said : Rows.FtreeThereUptoSaid :=
  OpenClaim.holds_of_cond 5 Try.f5 rfl rfl rfl rfl rfl rfl rfl ⟨rfl, rfl, rfl, rfl, rfl⟩ rfl rfl rfl rfl rfl (by kernel_rfl) Try.func5 (by kernel_rfl)
    (of_decide_eq_true (by kernel_rfl)) (by unfold Func.isWrapper; first | (rw [if_pos (by decide +kernel)]; kernel_rfl) | (rw [if_neg (by decide +kernel)]; exact ⟨rfl, rfl⟩))
    (fun os started H enc _ F => lifted os started H enc F)
end ftreeThere
end Go.Proofs.Ytcookbaedcjmjaa
