/- Walks over nodes, of the reference and the law: how many there are, how deep, how heavy. -/
import Derived.Test.YtlnnnlpofocgpabFtR
import Derived.Test.YtlnnnlpofocgpabFtName
import Derived.Test.YtlnnnlpofocgpabPthP
import Derived.Deep.RegionHeld3
namespace Go.Proofs.Ytlnnnlpofocgpab
open Go.RowKit Px Nx

theorem box_cell {w wr : World} {cs : Array Value} {t : TypeId} (hb : Below (w.heap.size + 1) (w.alloc (.cells cs t)) wr) (i : Nat) {v : Value} (h : cs[i]? = some v) : wr.cell? ⟨w.heap.size, i, none⟩ = some v := by
  rw [hb.cell (show w.heap.size < w.heap.size + 1 by omega)]
  rw [cell_of_row _ _ _ _ _ _ (heap_alloc_new w _)]
  exact h
theorem box_self {w wr : World} {o : Obj} (hb : Below (w.heap.size + 1) (w.alloc o) wr) : Below w.heap.size w wr :=
  ((Below.refl w.heap.size w).alloc (Nat.le_refl _) o).trans (hb.mono (Nat.le_succ _))
theorem box_old {B : Nat} {W w wr : World} {o : Obj} (h : Below B W w) (hB : B ≤ W.heap.size) (hb : Below (w.heap.size + 1) (w.alloc o) wr) : Below B W wr :=
  h.trans ((box_self hb).mono (Nat.le_trans hB h.size))
theorem cell_grown {W w : World} (hb : Below W.heap.size W w) {a : Addr} {v : Value} (h : W.cell? a = some v) : w.cell? a = some v := by
  rw [hb.cell (World.block_lt_of_cell? _ _ h)]
  exact h
theorem four {l : List Value} (h : l.length = 4) : ∃ a b c d, l = [a, b, c, d] := by
  match l, h with
  | [a, b, c, d], _ => exact ⟨a, b, c, d, rfl⟩
/-- What a kid's cells are, and where they lie. -/
theorem kid_at {W wr : World} {q : Option Addr} {n : Nat} {D : Nat → List Value} (h : Row W 4 q n D) (hb : Below W.heap.size W wr) {k : Nat} (hk : k < n) :
    ∃ b o v0 v1 v2 v3, q = some ⟨b, o, none⟩ ∧ D k = [v0, v1, v2, v3] ∧ wr.cell? ⟨b, o + k * 4, none⟩ = some v0 ∧ wr.cell? ⟨b, o + k * 4 + 1, none⟩ = some v1 ∧ wr.cell? ⟨b, o + k * 4 + 2, none⟩ = some v2 ∧ wr.cell? ⟨b, o + k * 4 + 3, none⟩ = some v3 := by
  obtain ⟨b, o, rfl, hl, hr⟩ := h k hk
  obtain ⟨v0, v1, v2, v3, hv⟩ := four hl
  rw [hv] at hr
  have hr := range_below hb hr
  exact ⟨b, o, v0, v1, v2, v3, rfl, hv, hr 0 _ rfl, hr 1 _ rfl, hr 2 _ rfl, hr 3 _ rfl⟩
theorem ret_nat {k : IntKind} {a b : Nat} (h : a = b) : Ending.returned (.int k a) = Ending.returned (.int k b) := by rw [h]

end Go.Proofs.Ytlnnnlpofocgpab
