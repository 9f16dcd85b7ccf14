/- An argument that reads as a list of texts: where its texts lie; that it reads the same behind the call. -/
import Derived.Test.YtlnnnlpofocgpaaPthP
import Derived.ChangeArms
import Derived.Deep.Strs
import Derived.Carry
namespace Go.Proofs.Ytlnnnlpofocgpaa
open Go.ChangeShapes Go.WideShapes Go.RowKit Px
variable {H : Type} {enc : TypeId × Value → H} {W : World}
theorem laidOut : laidOutB Try.prog = true := by kernel_rfl
theorem recPlace : Try.prog.readableRec 23 = true := by kernel_rfl
theorem rowPlace : 23 < Try.prog.types.size := of_decide_eq_true (by kernel_rfl)
theorem cellsStr : Try.prog.cellsOf 9 = 1 := by kernel_rfl

theorem open_place {base : Nat} {v : Value} {d : DataW H} {ps : List MemPlace} (hv : Value.okWide Try.prog W .any base 23 v) (h : DataW.Trod enc Try.prog W 0 (fun _ => true) true 23 v d ps) :
    ∃ xs, PlR W v xs ∧ True := by
  obtain ⟨a0, len0, cap0, rfl⟩ := okWide_slice Try.underlying23 hv
  obtain ⟨fuel, hf⟩ := h
  rcases Go.Deep.open_strs (cs := [.slice a0 len0 cap0]) Try.underlying23 Try.underlying9 cellsStr hf with ⟨h1, _⟩ | ⟨a, len, cap, m, Sx, h1, _, h2, h3, h4, _, h5⟩
  · obtain ⟨rfl, rfl, rfl⟩ : a0 = none ∧ len0 = 0 ∧ cap0 = 0 := by simpa using h1
    exact ⟨[], ⟨none, 0, rfl, fun i hi => absurd hi (Nat.not_lt_zero _), Nat.le_refl _, Nat.zero_le _⟩, trivial⟩
  · rw [if_pos rfl] at h4
    subst h4
    obtain ⟨rfl, rfl, rfl⟩ : a0 = some a ∧ len0 = len ∧ cap0 = m := by simpa using h1
    refine ⟨(List.range len0).map Sx, ⟨some a, cap0, by simp, ?_, by simpa using h2, h3⟩, trivial⟩
    intro i hi
    have hi' : i < len0 := by simpa using hi
    have hsp : a.spot = none := by
      have h0 := (h5 0 (by omega)).1
      cases hs : a.spot with
      | none => rfl
      | some q =>
        exfalso
        have : W.cell? (a.add 0) = none := by
          show W.cell? a = none
          unfold World.cell?
          split
          · rw [hs]; rfl
          · rfl
        rw [this] at h0
        cases h0
    obtain ⟨b, o, sp⟩ := a
    obtain rfl : sp = none := hsp
    refine ⟨b, o, rfl, ?_⟩
    have h6 := (h5 i (by omega)).1
    have e1 : (⟨b, o, none⟩ : Addr).add i = ⟨b, o + i, none⟩ := by
      unfold Addr.add
      by_cases h1 : i = 0 <;> simp [h1]
    rw [e1] at h6
    rw [h6, List.getD_eq_getElem?_getD]
    simp [hi']
theorem place_after {v : Value} {d : DataW H} {ps : List MemPlace} {W' : World} (h : DataW.Trod enc Try.prog W 0 (fun _ => true) true 23 v d ps) (hb : Below W.heap.size W W') (hlt : ∀ x ∈ ps, x.block < W.heap.size) :
    DataW.Trod enc Try.prog W' 0 (fun b => decide (b < W.heap.size)) true 23 v d ps := Below.trod laidOut recPlace rowPlace h hb hlt
end Go.Proofs.Ytlnnnlpofocgpaa
