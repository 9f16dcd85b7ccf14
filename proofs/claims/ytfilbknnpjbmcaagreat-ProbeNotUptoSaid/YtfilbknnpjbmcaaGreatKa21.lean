/- Walks over nodes: what stands at a place. -/
import Derived.Test.YtfilbknnpjbmcaaGreatKa20
namespace Go.Proofs.YtfilbknnpjbmcaaGreat
open Go.RowKit Px Nx

namespace Nx
/-- The kid of a name. -/
def Nd.kid (n : Nd) (x : ByteArray) : Option Nd := if findL n.names x < 0 then .none else n.kids[(findL n.names x).toNat]?
def Nd.at_ (n : Nd) : List ByteArray → Option Nd
  | [] => some n
  | x :: r => (n.kid x).bind fun k => k.at_ r
theorem Nd.at_append (l r : List ByteArray) : ∀ n : Nd, n.at_ (l ++ r) = (n.at_ l).bind fun k => k.at_ r := by
  induction l with
  | nil => intro n; rfl
  | cons x l ih =>
    intro n
    rw [List.cons_append, Nd.at_, Nd.at_]
    cases n.kid x with
    | none => rfl
    | some k => exact ih k
theorem Nd.at_snoc (n : Nd) {l : List ByteArray} {k : Nat} {c : Nd} (hk : k < l.length) (h : n.at_ (l.take k) = some c) : n.at_ (l.take (k + 1)) = c.kid (l.getD k ByteArray.empty) := by
  rw [take_snoc_d hk, Nd.at_append, h]
  show (Option.bind (c.kid _) fun k => some k) = _
  cases c.kid (l.getD k ByteArray.empty) <;> rfl
theorem Nd.at_off (n : Nd) {l : List ByteArray} {k : Nat} {c : Nd} (hk : k < l.length) (h : n.at_ (l.take k) = some c) (hc : c.kid (l.getD k ByteArray.empty) = .none) : n.at_ l = .none := by
  have h1 := Nd.at_snoc n hk h
  rw [hc] at h1
  rw [← List.take_append_drop (k + 1) l, Nd.at_append, h1]
  rfl
theorem Nd.at_all (n : Nd) {l : List ByteArray} {k : Nat} {c : Nd} (hk : k = l.length) (h : n.at_ (l.take k) = some c) : n.at_ l = some c := by
  subst hk
  rwa [List.take_length] at h
theorem findL_ge (l : List ByteArray) (x : ByteArray) : -1 ≤ findL l x := by
  unfold findL
  split <;> omega
theorem Nd.girth_at {n c : Nd} {x : ByteArray} (h : n.kid x = some c) : c.girth ≤ n.girth := by
  unfold Nd.kid at h
  split at h
  · cases h
  · cases n with
    | mk a b l r =>
      have : c.girth ≤ Nd.girths r := Nd.girth_kid h
      rw [Nd.girth]
      omega
end Nx
/-- The kid of a node that cells hold. -/
theorem kid_held {W wr : World} {v0 v1 v2 : Value} {q : Option Addr} {m d : Nat} {c : Nd} (h : NodeR W [v0, v1, v2, .slice q m d] c) (hb : Below W.heap.size W wr) {i : Nat} (hi : i < m) :
    ∃ x b o kk tx p2 n2 c2 q2 m2 d2, c.kids[i]? = some x ∧ q = some ⟨b, o, none⟩ ∧ NodeR W [.int .u8 kk, .string tx, .slice p2 n2 c2, .slice q2 m2 d2] x ∧ wr.cell? ⟨b, o + i * 4, none⟩ = some (.int .u8 kk) ∧ wr.cell? ⟨b, o + i * 4 + 1, none⟩ = some (.string tx) ∧ wr.cell? ⟨b, o + i * 4 + 2, none⟩ = some (.slice p2 n2 c2) ∧ wr.cell? ⟨b, o + i * 4 + 3, none⟩ = some (.slice q2 m2 d2) := by
  cases h with
  | mk kind text names kids p q cp d D h1 h2 h3 h5 h6 h7 h8 =>
    have hx := List.getElem?_eq_getElem hi
    obtain ⟨b, o, kk, tx, p2, n2, c2, q2, m2, d2, he, hD, e⟩ := kid_cells h7 hb hi (h8 i _ hx)
    have hn := h8 i _ hx
    rw [hD] at hn
    exact ⟨_, b, o, kk, tx, p2, n2, c2, q2, m2, d2, hx, he, hn, e⟩
theorem held_len {W : World} {v0 v1 v2 : Value} {q : Option Addr} {m d : Nat} {c : Nd} (h : NodeR W [v0, v1, v2, .slice q m d] c) : m = c.kids.length ∧ m ≤ maxLen := by
  cases h with
  | mk kind text names kids p q cp d D h1 h2 h3 h5 h6 h7 h8 => exact ⟨rfl, Nat.le_trans h5 h6⟩
/-- A block of four cells. -/
def Four (w : World) (g : Nat) (v0 v1 v2 v3 : Value) : Prop := w.heap[g]? = some (.cells #[v0, v1, v2, v3] 25 (0, 0))
theorem Four.cell {w : World} {g : Nat} {v0 v1 v2 v3 : Value} (h : Four w g v0 v1 v2 v3) : w.cell? ⟨g, 0, none⟩ = some v0 ∧ w.cell? ⟨g, 1, none⟩ = some v1 ∧ w.cell? ⟨g, 2, none⟩ = some v2 ∧ w.cell? ⟨g, 3, none⟩ = some v3 :=
  ⟨by rw [cell_of_row _ _ _ _ _ _ h]; rfl, by rw [cell_of_row _ _ _ _ _ _ h]; rfl, by rw [cell_of_row _ _ _ _ _ _ h]; rfl, by rw [cell_of_row _ _ _ _ _ _ h]; rfl⟩
theorem Four.open_ {w : World} {g : Nat} {v0 v1 v2 v3 : Value} (h : Four w g v0 v1 v2 v3) : w.frozen? ⟨g, 0, none⟩ = false ∧ w.frozen? ⟨g, 1, none⟩ = false ∧ w.frozen? ⟨g, 2, none⟩ = false ∧ w.frozen? ⟨g, 3, none⟩ = false :=
  ⟨frozen_of_row w g 0 _ _ h, frozen_of_row w g 1 _ _ h, frozen_of_row w g 2 _ _ h, frozen_of_row w g 3 _ _ h⟩
theorem Four.kept {w w' : World} {g : Nat} {v0 v1 v2 v3 : Value} (h : Four w g v0 v1 v2 v3) (hb : Below w.heap.size w w') : Four w' g v0 v1 v2 v3 := by
  unfold Four at *
  rw [hb.block _ (by
    rcases Nat.lt_or_ge g w.heap.size with hlt | hge
    · exact hlt
    · rw [Array.getElem?_eq_none hge] at h; cases h)]
  exact h
theorem Four.set {w : World} {g : Nat} {v0 v1 v2 v3 : Value} (h : Four w g v0 v1 v2 v3) (u0 u1 u2 u3 : Value) :
    Four ((((w.setCell ⟨g, 0, none⟩ u0).setCell ⟨g, 1, none⟩ u1).setCell ⟨g, 2, none⟩ u2).setCell ⟨g, 3, none⟩ u3) g u0 u1 u2 u3 := by
  have h1 := heap_setCell_same w g 0 _ _ u0 h
  have h2 := heap_setCell_same _ g 1 _ _ u1 h1
  have h3 := heap_setCell_same _ g 2 _ _ u2 h2
  exact heap_setCell_same _ g 3 _ _ u3 h3
theorem Four.other {w : World} {g k : Nat} {v0 v1 v2 v3 : Value} (h : Four w g v0 v1 v2 v3) (hk : g ≠ k) (u0 u1 u2 u3 : Value) :
    Four ((((w.setCell ⟨k, 0, none⟩ u0).setCell ⟨k, 1, none⟩ u1).setCell ⟨k, 2, none⟩ u2).setCell ⟨k, 3, none⟩ u3) g v0 v1 v2 v3 := by
  unfold Four at *
  rw [heap_setCell_other _ _ _ _ hk, heap_setCell_other _ _ _ _ hk, heap_setCell_other _ _ _ _ hk, heap_setCell_other _ _ _ _ hk]
  exact h
theorem below_four {B g : Nat} {a w : World} (h : Below B a w) (hg : B ≤ g) (u0 u1 u2 u3 : Value) :
    Below B a ((((w.setCell ⟨g, 0, none⟩ u0).setCell ⟨g, 1, none⟩ u1).setCell ⟨g, 2, none⟩ u2).setCell ⟨g, 3, none⟩ u3) :=
  (((h.setCell (p := ⟨g, 0, none⟩) hg u0).setCell (p := ⟨g, 1, none⟩) hg u1).setCell (p := ⟨g, 2, none⟩) hg u2).setCell (p := ⟨g, 3, none⟩) hg u3
theorem size_four {w : World} {g : Nat} (u0 u1 u2 u3 : Value) : ((((w.setCell ⟨g, 0, none⟩ u0).setCell ⟨g, 1, none⟩ u1).setCell ⟨g, 2, none⟩ u2).setCell ⟨g, 3, none⟩ u3).heap.size = w.heap.size := by simp
theorem four_new (w : World) (v0 v1 v2 v3 : Value) : Four (w.alloc (.cells #[v0, v1, v2, v3] 25)) w.heap.size v0 v1 v2 v3 := heap_alloc_new w _
theorem four_first (w : World) (v0 v1 v2 v3 : Value) (o : Obj) : Four ((w.alloc (.cells #[v0, v1, v2, v3] 25)).alloc o) w.heap.size v0 v1 v2 v3 := by
  unfold Four
  rw [Below.heap_alloc _ _ _ (by simp)]
  exact heap_alloc_new w _

end Go.Proofs.YtfilbknnpjbmcaaGreat
