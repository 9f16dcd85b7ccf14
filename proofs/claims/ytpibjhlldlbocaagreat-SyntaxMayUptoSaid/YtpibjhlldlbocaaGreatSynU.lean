/- Walks of the program's syntax: does a word come to a reserved one? -/
import Derived.Test.YtpibjhlldlbocaaGreatSynT
namespace Go.Proofs.YtpibjhlldlbocaaGreat
open Go.RowKit Sx Go.Proofs

namespace Sx
/-- The map of reserved words lies at r. -/
def Resv (w : World) (r : Nat) : Prop := w.heap[r]? = some (.map (tab 21) 21)
theorem Resv.lt {w : World} {r : Nat} (h : Resv w r) : r < w.heap.size := (Array.getElem?_eq_some_iff.1 h).1
theorem Resv.grown {w w' : World} {r : Nat} (h : Resv w r) (hb : Below w.heap.size w w') : Resv w' r := by
  unfold Resv
  rw [hb.block r h.lt]
  exact h
def Word.comes (x : Word) : Bool := x.plain.2 && isReserved x.plain.1
end Sx

set_option maxRecDepth 100000 in
set_option maxHeartbeats 2000000 in
theorem comes_any {w : World} {cs : List Value} {x : Word} {r : Nat} (hx : WordR w cs x) (hB : x.bulk ≤ 2000000) (hr : Resv w r) :
    Calls Tryz.prog 56 #[.agg cs.toArray, .map (some r)] w fun e w' => e = .returned (.bool x.comes) ∧ Below w.heap.size w w' := by
  have HP : Hid (∀ wx, Below w.heap.size w wx → Calls Tryz.prog 73 #[.agg cs.toArray] wx fun e w' => e = .returned (.tuple #[.string x.plain.1, .bool x.plain.2]) ∧ Below wx.heap.size wx w') := Lib.hid fun wx hb => plain_any (hx.grown hb) hB
  have HL : Hid (∀ wx, Below w.heap.size w wx → ∃ v, (Instr.lookup 35 (.map (some r)) (.string x.plain.1) false).run Tryz.prog wx = .ok v wx ∧ (binOp .neq 72 v .nilFunc).run Tryz.prog wx = .ok (.bool (isReserved x.plain.1)) wx ∧ ∀ op t x y, (eqGuard op t x y v .nilFunc).run Tryz.prog wx = .ok () wx) := Lib.hid fun wx hb => run_lookup_tab wx r 21 _ (hr.grown hb)
  have HR : Hid (x.comes = (x.plain.2 && isReserved x.plain.1)) := Lib.hid rfl
  obtain ⟨p, c, rfl, _, _, _⟩ := hx
  generalize x.comes = R at *
  generalize x.plain.1 = s at *
  generalize isReserved s = q at *
  cases hp : x.plain.2 with
  | false =>
    rw [hp] at HP HR
    go_enter Tryz.func56, Tryz.ntmps56
    go_wp2_with fail
    refine (HP.out _ (by go_grown)).mono ?_
    rintro e w2 ⟨rfl, hb2⟩
    have HB2 : Hid (Below w.heap.size w w2) := Lib.hid ((box_self (Below.refl _ _)).trans (hb2.mono (by simp)))
    clear hb2
    go_wp2_with fail
    go_ret
    exact ⟨ret_bool (by rw [HR.out]; rfl), HB2.out⟩
  | true =>
    rw [hp] at HP HR
    go_enter Tryz.func56, Tryz.ntmps56
    go_wp2_with fail
    refine (HP.out _ (by go_grown)).mono ?_
    rintro e w2 ⟨rfl, hb2⟩
    have HB2 : Hid (Below w.heap.size w w2) := Lib.hid ((box_self (Below.refl _ _)).trans (hb2.mono (by simp)))
    clear hb2
    obtain ⟨v, hv1, hv2, hv3⟩ := HL.out w2 HB2.out
    go_wp2_with fail
    go_ret
    exact ⟨ret_bool (by rw [HR.out]; rfl), HB2.out⟩
end Go.Proofs.YtpibjhlldlbocaaGreat
