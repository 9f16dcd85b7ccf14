/- The statement on what is refused: it changes nothing; what is done keeps the tree well formed. It holds where what comes in is of bulk at most 1048576. -/
import Derived.Test.YtonpeoaahjoboaaRows
import Derived.WalkKit
import Derived.ProofKit
import Derived.OpenShut
import Derived.JoinedCond
import Derived.Test.YtonpeoaahjoboaaFtOpen
import Derived.Test.YtonpeoaahjoboaaPmI
namespace Go.Proofs.Ytonpeoaahjoboaa
open Go.ChangeShapes Go.WideShapes Go.ChangeAt Go.RowKit Px Nx
namespace Nx
variable {H : Type} {enc : TypeId × Value → H} {W : World}
theorem cOp : Try.prog.cellsOf 26 = 5 := by kernel_rfl
theorem cBool : Try.prog.cellsOf 4 = 1 := by kernel_rfl
theorem list5 {α : Type} {l : List α} (h : l.length = 5) : ∃ a b c d e, l = [a, b, c, d, e] := by
  match l, h with
  | [a, b, c, d, e], _ => exact ⟨a, b, c, d, e, rfl⟩
set_option maxRecDepth 100000 in
theorem open_op_at (fuel : Nat) {cs : List Value} {x : DataW H × List MemPlace} (h : DataW.trod enc Try.prog W 0 (fun _ => true) true fuel 26 cs = some x) : ∃ s : Ob, ObR W cs s := by
  obtain ⟨xs, n, hn, rfl, hl, hxl, hf⟩ := DataW.trod_struct Try.underlying26 h
  rw [cOp] at hl
  obtain ⟨y0, y1, y2, y3, y4, rfl⟩ := list5 (hxl.trans rfl)
  obtain ⟨v0, v1, v2, v3, v4, rfl⟩ := list5 hl
  have g0 : DataW.trod enc Try.prog W 0 (fun _ => true) true n 5 [v0] = some y0 := by simpa [cU8] using hf 0 _ rfl
  have g1 : DataW.trod enc Try.prog W 0 (fun _ => true) true n 22 [v1] = some y1 := by simpa [cStrs] using hf 1 _ rfl
  have g2 : DataW.trod enc Try.prog W 0 (fun _ => true) true n 22 [v2] = some y2 := by simpa [cStrs] using hf 2 _ rfl
  have g3 : DataW.trod enc Try.prog W 0 (fun _ => true) true n 9 [v3] = some y3 := by simpa [cStr] using hf 3 _ rfl
  have g4 : DataW.trod enc Try.prog W 0 (fun _ => true) true n 4 [v4] = some y4 := by simpa [cBool] using hf 4 _ rfl
  obtain ⟨k, h0, rfl, hk⟩ := DataW.trod_int Try.underlying5 g0
  obtain rfl : v0 = .int .u8 k := by simpa using h0
  obtain ⟨p, cap, ns, rfl, hnc, hcm, hS, _⟩ := open_strs_at g1
  obtain ⟨q, cap', ms, rfl, hnc', hcm', hS', _⟩ := open_strs_at g2
  obtain ⟨s, h1, rfl, _⟩ := DataW.trod_string Try.underlying9 g3
  obtain rfl : v3 = .string s := by simpa using h1
  obtain ⟨d, h2, rfl⟩ := DataW.trod_bool Try.underlying4 g4
  obtain rfl : v4 = .bool d := by simpa using h2
  have hk1 : 0 ≤ k ∧ k ≤ 255 := by simpa [Lit.wf, IntKind.min, IntKind.max, IntKind.signed, IntKind.bits] using hk
  have hk2 : k = ((UInt8.ofNat k.toNat).toNat : Int) := by
    rw [UInt8.toNat_ofNat']
    omega
  exact ⟨⟨UInt8.ofNat k.toNat, ns, ms, s, d⟩, p, cap, q, cap', by rw [← hk2], ⟨p, cap, rfl, hS, hnc, hcm⟩, ⟨q, cap', rfl, hS', hnc', hcm'⟩⟩
set_option maxRecDepth 100000 in
theorem open_ops {v : Value} {d : DataW H} {ps : List MemPlace} {base : Nat} (hv : Value.okWide Try.prog W .any base 41 v) (h : DataW.Trod enc Try.prog W 0 (fun _ => true) true 41 v d ps) :
    ∃ (p : Option Addr) (c : Nat) (l : List Ob) (C : Nat → List Value), v = .slice p l.length c ∧ l.length ≤ c ∧ c ≤ maxLen ∧ Row W 5 p l.length C ∧ ∀ (i : Nat) s, l[i]? = some s → ObR W (C i) s := by
  obtain ⟨a0, len0, cap0, rfl⟩ := okWide_slice Try.underlying41 hv
  obtain ⟨fuel, hf⟩ := h
  obtain ⟨p, len, cap, m, C, elems, _, he, hlc, hcm, hel, hR, hE, _⟩ := open_row Try.underlying41 cOp (by omega) hf
  obtain ⟨ls, hll, hlR, _⟩ := gather (α := Ob) (b := fun _ => 0) (R := fun i q => ObR W (C i) q) (elems := elems) (fun i y hy => by
    obtain ⟨s, hs⟩ := open_op_at m (hE i y hy)
    exact ⟨s, hs, Nat.zero_le _⟩)
  obtain rfl : len = ls.length := by omega
  exact ⟨p, cap, ls, C, he, hlc, hcm, hR, hlR⟩
end Nx

namespace primRefused
theorem own : ownKnob Try.prog.godebug = none := by kernel_rfl
theorem laidOut : laidOutB Try.prog = true := by kernel_rfl
theorem rec_node : Try.prog.readableRec 40 = true := by kernel_rfl
theorem row_node : 40 < Try.prog.types.size := of_decide_eq_true (by kernel_rfl)
theorem rec_ops : Try.prog.readableRec 41 = true := by kernel_rfl
theorem row_ops : 41 < Try.prog.types.size := of_decide_eq_true (by kernel_rfl)

set_option maxRecDepth 100000 in
theorem contract (H : Type) (enc : TypeId × Value → H) (W : World) (base : Nat) (args : Array Value) (ds gs : List (DataW H)) (before : List MemPlace)
    (hval : ∀ (j : Nat) t v, Try.f4.params[j]? = some t → args[j]? = some v → Value.okWide Try.prog W .any base t v)
    (hW : DataW.Whole enc Try.prog Try.f4.params.toList Rows.primRefusedSpec.vars false W args.toList ds gs before) (hk : Rows.uptoSmall H (ds ++ gs) = true) :
    Calls Try.prog 4 args W fun e W' => ∃ v, e = .returned v ∧ Rows.primRefusedSpec.post enc Try.prog Try.f4 false true false false W args v W' := by
  have hW' := hW
  obtain ⟨p, q, hA0, hV, rfl, hfz, hnd⟩ := hW
  have hA : DataW.TrodAll enc Try.prog W 0 (fun _ => true) true Try.f4.params.toList args.toList ds p := hA0
  rw [Try.params4] at hA hval
  obtain ⟨v0, vs0, d0, ds0, p0, q0, hargs, rfl, rfl, h0, r0⟩ := trodAll_cons hA
  obtain ⟨v1, vs1, d1, ds1, p1, q1, rfl, rfl, rfl, h1, r1⟩ := trodAll_cons r0
  obtain ⟨rfl, rfl, rfl⟩ := trodAll_nil r1
  obtain rfl : args = #[v0, v1] := by cases args; simp_all
  obtain ⟨rfl, rfl⟩ := trodVars_none hV
  have hB := of_decide_eq_true (show decide (Rows.uptoBulkAll _ ≤ 1048576) = true from hk)
  rw [List.append_nil, bulk_cons, bulk_cons, bulk_none] at hB
  obtain ⟨cs, x, rfl, hx, hxb⟩ := open_node (hval 0 40 v0 rfl rfl) h0
  obtain ⟨pq, cq, l, C, rfl, hlc, hcm, hR, hE⟩ := open_ops (hval 1 41 v1 rfl rfl) h1
  have hlt : ∀ z ∈ (p0 ++ (p1 ++ [])) ++ [], z.block < W.heap.size := fun z hz => by simpa using hW'.lt z hz
  refine (law_refused hx (by omega) hR hE (by unfold maxLen at hcm; omega)).mono fun e W' ⟨he, hb⟩ => ?_
  subst he
  have a0 := Below.trod laidOut rec_node row_node h0 hb (fun z hz => hlt z (by simp [hz]))
  have a1 := Below.trod laidOut rec_ops row_ops h1 hb (fun z hz => hlt z (by simp [hz]))
  exact ⟨_, rfl, _, _, _, [], p0 ++ (p1 ++ []), [], hW', trodAll_cons_mk (shut_bool Try.underlying4 _) trodAll_mk0, trodAll_cons_mk a0 (trodAll_cons_mk a1 trodAll_mk0), rfl, hb.frame _, fun h => by cases h⟩

/-- A node of nothing, for the witness. -/
def zero : Value := .agg #[.int .u8 0, .string ByteArray.empty, .slice none 0 0, .slice none 0 0]
set_option maxRecDepth 100000 in
theorem lifted (os : Os) (started : os.Started) (H : Type) (enc : TypeId × Value → H) (F : Stop.Interp) :
    ReturnsInHanded {} Try.checked os 4 .any ((Rows.OpenSpec.upto Rows.primRefusedSpec).pre6 enc Try.prog Try.f4 Rows.primRefusedUptoRow.domain false) (((Rows.OpenSpec.upto Rows.primRefusedSpec).at F).post enc Try.prog Try.f4 false true false false) := by
  refine returnsInHanded_of_cond (C := Try.checked) (s := Rows.OpenSpec.upto Rows.primRefusedSpec) (k := Rows.uptoSmall) rfl own started (by kernel_rfl) Try.func4
    (OpenSpec.witness (enc := enc) (C := Try.checked) (s := Rows.OpenSpec.upto Rows.primRefusedSpec) (k := Rows.uptoSmall) rfl false ⟨#[], #[zero, .slice none 0 0], []⟩ 8 (by kernel_rfl) (by kernel_rfl) (by kernel_rfl)
      (x := ([.agg [.lit (.int .u8 0), .lit (.string []), .nil, .nil], .nil], [], [])) (by kernel_rfl) rfl (by kernel_rfl)) ?_
  intro W base args ds gs before hval hW _ hk _
  exact contract H enc W base args ds gs before hval hW hk
/-- THE STATEMENT. -/
theorem said : Rows.PrimRefusedUptoSaid :=
  OpenClaim.holds_of_cond 4 Try.f4 rfl rfl rfl rfl rfl rfl rfl ⟨rfl, rfl, rfl, rfl, rfl⟩ rfl rfl rfl rfl rfl (by kernel_rfl) Try.func4 (by kernel_rfl)
    (of_decide_eq_true (by kernel_rfl)) (by unfold Func.isWrapper; first | (rw [if_pos (by decide +kernel)]; kernel_rfl) | (rw [if_neg (by decide +kernel)]; exact ⟨rfl, rfl⟩))
    (fun os started H enc _ F => lifted os started H enc F)
end primRefused
end Go.Proofs.Ytonpeoaahjoboaa
