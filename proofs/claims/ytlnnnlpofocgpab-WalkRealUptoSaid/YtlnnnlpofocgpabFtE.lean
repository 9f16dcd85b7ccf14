/- Walks over nodes: how many there are, of the program; which are the same, of both. -/
import Derived.Test.YtlnnnlpofocgpabFtD
namespace Go.Proofs.Ytlnnnlpofocgpab
open Go.RowKit Px Nx

/-- What a kid's cells are, their shapes too, and where they lie. -/
theorem kid_cells {W wr : World} {q : Option Addr} {n : Nat} {D : Nat → List Value} {x : Nd} (h : Row W 4 q n D) (hb : Below W.heap.size W wr) {k : Nat} (hk : k < n) (hx : NodeR W (D k) x) :
    ∃ b o kk tx p2 n2 c2 q2 m2 d2, q = some ⟨b, o, none⟩ ∧ D k = [.int .u8 kk, .string tx, .slice p2 n2 c2, .slice q2 m2 d2] ∧ wr.cell? ⟨b, o + k * 4, none⟩ = some (.int .u8 kk) ∧ wr.cell? ⟨b, o + k * 4 + 1, none⟩ = some (.string tx) ∧ wr.cell? ⟨b, o + k * 4 + 2, none⟩ = some (.slice p2 n2 c2) ∧ wr.cell? ⟨b, o + k * 4 + 3, none⟩ = some (.slice q2 m2 d2) := by
  obtain ⟨b, o, v0, v1, v2, v3, rfl, hD, e0, e1, e2, e3⟩ := kid_at h hb hk
  obtain ⟨p2, q2, c2, d2, hc⟩ := hx.cells
  rw [hD] at hc
  obtain ⟨rfl, rfl, rfl, rfl⟩ : v0 = _ ∧ v1 = _ ∧ v2 = _ ∧ v3 = _ := by simpa using hc
  exact ⟨b, o, _, _, _, _, _, _, _, _, rfl, hD, e0, e1, e2, e3⟩

theorem part_at {C : List Nd} {k : Nat} (h : k < C.length) : C[k]? = some C[k] := List.getElem?_eq_getElem h
theorem box2_fst {w wr : World} {cs ds : Array Value} {t u : TypeId} (hb : Below (w.heap.size + 2) ((w.alloc (.cells cs t)).alloc (.cells ds u)) wr) (i : Nat) {v : Value} (h : cs[i]? = some v) : wr.cell? ⟨w.heap.size, i, none⟩ = some v := by
  rw [hb.cell (show w.heap.size < w.heap.size + 2 by omega)]
  rw [(Below.refl (w.heap.size + 1) (w.alloc (.cells cs t))).alloc (by simp) (.cells ds u) |>.cell (show w.heap.size < w.heap.size + 1 by omega)]
  rw [cell_of_row _ _ _ _ _ _ (heap_alloc_new w _)]
  exact h
theorem box2_snd {w wr : World} {cs ds : Array Value} {t u : TypeId} (hb : Below (w.heap.size + 2) ((w.alloc (.cells cs t)).alloc (.cells ds u)) wr) (i : Nat) {v : Value} (h : ds[i]? = some v) : wr.cell? ⟨w.heap.size + 1, i, none⟩ = some v := by
  rw [hb.cell (show w.heap.size + 1 < w.heap.size + 2 by omega)]
  rw [show w.heap.size + 1 = (w.alloc (.cells cs t)).heap.size by simp]
  rw [cell_of_row _ _ _ _ _ _ (heap_alloc_new _ _)]
  exact h
theorem box2_self {w wr : World} {o o' : Obj} (hb : Below (w.heap.size + 2) ((w.alloc o).alloc o') wr) : Below w.heap.size w wr :=
  (((Below.refl w.heap.size w).alloc (Nat.le_refl _) o).alloc (by simp) o').trans (hb.mono (by omega))
theorem byte_eq (a b : UInt8) : (a == b) = decide (a.toNat = b.toNat) := by
  rw [Bool.eq_iff_iff]
  simp [UInt8.toNat_inj]
theorem text_ways (s t : ByteArray) : ∃ b, decide (s = t) = b ∧ (s.toList == t.toList) = b := by
  by_cases h : s = t
  · subst h; exact ⟨true, by simp, by simp⟩
  · exact ⟨false, decide_eq_false h, (Lib.bytes_beq_false_iff _ _).2 h⟩

end Go.Proofs.Ytlnnnlpofocgpab
