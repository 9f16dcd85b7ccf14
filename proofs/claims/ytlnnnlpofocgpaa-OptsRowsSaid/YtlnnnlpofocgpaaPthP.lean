/- Values that are lists of texts; what compares them, called behind other calls. -/
import Derived.Test.YtlnnnlpofocgpaaPthB
namespace Go.Proofs.Ytlnnnlpofocgpaa
open Go.RowKit Px

/-- A value that is a list of texts, in a world. -/
def PlR (W : World) (v : Value) (xs : List ByteArray) : Prop := ∃ p c, v = .slice p xs.length c ∧ Strs W p xs ∧ xs.length ≤ c ∧ c ≤ maxLen

theorem below_next {W w : World} (hb : Below W.heap.size W w) {w' : World} (h : Below w.heap.size w w') : Below W.heap.size W w' := hb.trans (h.mono hb.size)
theorem below_drew {W w : World} (hb : Below W.heap.size W w) (n : Nat) : Below W.heap.size W (w.drewN n) := below_drewN hb n

theorem underRef_at {W w : World} (hb : Below W.heap.size W w) {v u : Value} {xs ys : List ByteArray} (hx : PlR W v xs) (hy : PlR W u ys) :
    Calls Try.prog 20 #[v, u] w fun e w' => e = .returned (.bool (underL xs ys)) ∧ Below W.heap.size W w' := by
  obtain ⟨p, c, rfl, h1, h2, h3⟩ := hx
  obtain ⟨q, d, rfl, g1, g2, g3⟩ := hy
  exact (underRef_any c d (h1.grown hb) (g1.grown hb) (by omega) (by omega)).mono fun e w' ⟨he, n, hw⟩ => ⟨he, hw ▸ below_drew hb n⟩
theorem same_at {W w : World} (hb : Below W.heap.size W w) {v u : Value} {xs ys : List ByteArray} (hx : PlR W v xs) (hy : PlR W u ys) :
    Calls Try.prog 9 #[v, u] w fun e w' => e = .returned (.bool (sameL xs ys)) ∧ Below W.heap.size W w' := by
  obtain ⟨p, c, rfl, h1, h2, h3⟩ := hx
  obtain ⟨q, d, rfl, g1, g2, g3⟩ := hy
  exact (sameRef_any c d (h1.grown hb) (g1.grown hb) (by omega) (by omega)).mono fun e w' ⟨he, n, hw⟩ => ⟨he, hw ▸ below_drew hb n⟩
theorem PlR.grown {W w : World} (hb : Below W.heap.size W w) {v : Value} {xs : List ByteArray} (h : PlR W v xs) : PlR w v xs := by
  obtain ⟨p, c, h1, h2, h3, h4⟩ := h
  exact ⟨p, c, h1, h2.grown hb, h3, h4⟩
theorem same_pl {w : World} {v u : Value} {xs ys : List ByteArray} (hx : PlR w v xs) (hy : PlR w u ys) {r : Bool} (h : sameL xs ys = r) :
    Calls Try.prog 9 #[v, u] w fun e w' => e = .returned (.bool r) ∧ Hid (Below w.heap.size w w') :=
  (same_at (Below.refl _ _) hx hy).mono fun e w' ⟨he, hb⟩ => ⟨by rw [he, h], Lib.hid hb⟩
/-- What owns its row is a list of texts. -/
theorem plR_of_own {W : World} {base : Nat} {v : Value} {xs : List ByteArray} (h : W.ownsRow base 9 1 v xs.length (xs.map Value.string)) : PlR W v xs := by
  obtain ⟨_, h2⟩ := h
  rcases h2 with ⟨rfl, h0⟩ | ⟨g, cap, cur, rfl, _, hh, hn, hm, hc, ht⟩
  · obtain rfl : xs = [] := List.length_eq_zero_iff.1 h0
    exact ⟨none, 0, rfl, fun i hi => absurd hi (Nat.not_lt_zero _), Nat.le_refl _, Nat.zero_le _⟩
  · refine ⟨some ⟨g, 0, none⟩, cap, rfl, ?_, hn, hm⟩
    intro i hi
    refine ⟨g, 0, rfl, ?_⟩
    rw [cell_of_row W g (0 + i) cur _ _ hh]
    have h3 : (cur.toList.take (xs.length * 1))[i]? = some (.string (xs.getD i ByteArray.empty)) := by
      rw [ht, List.getElem?_map, List.getElem?_eq_getElem hi, List.getD_eq_getElem?_getD, List.getElem?_eq_getElem hi]
      rfl
    rw [List.getElem?_take_of_lt (by omega)] at h3
    rw [Nat.zero_add]
    simpa using h3
end Go.Proofs.Ytlnnnlpofocgpaa
