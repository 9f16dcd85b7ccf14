/- What a call of package prim leaves of a tree: what is refused changes nothing; what is done keeps it well formed, and not much wider. No program. -/
import Derived.Test.YtonpeoaahjoboaaPmF
import Derived.Test.YtonpeoaahjoboaaPmD
namespace Go.Proofs.Ytonpeoaahjoboaa
open Go.RowKit Px Nx
namespace Nx
structure Kept (n : Nd) (r : Int × Nd) : Prop where
  same : r.1 ≠ 0 → r.2 = n
  well : r.2.well = true
  kind : r.2.kind = n.kind
  girth : r.2.girth ≤ n.girth + 16080
theorem kept_id {n : Nd} (hw : n.well = true) (c : Int) : Kept n (c, n) := ⟨fun _ => rfl, hw, rfl, Nat.le_add_right _ _⟩
theorem kept_bif {n : Nd} (b : Bool) {x y : Int × Nd} (hx : Kept n x) (hy : Kept n y) : Kept n (bif b then x else y) := by cases b <;> assumption
theorem kept_put {n y : Nd} {p : List ByteArray} (hw : n.well = true) (hp : namesBulk p ≤ 4020) (hy : y.well = true → y.girth ≤ 8000) : Kept n (0, putD n p y) := by
  obtain ⟨h1, h2⟩ := put_well (N := y) (A := p) hw
  refine ⟨fun h => absurd rfl h, h1, h2, ?_⟩
  show (putD n p y).girth ≤ _
  unfold putD
  split
  · rename_i h
    rw [Bool.and_eq_true] at h
    have := changed_girth (y := y) p n (.inl hw)
    have := hy h.2
    omega
  · omega
theorem kept_del {n : Nd} {p : List ByteArray} (hw : n.well = true) (hp : namesBulk p ≤ 4020) : Kept n (0, delD n p) := by
  obtain ⟨h1, h2⟩ := del_well (A := p) hw
  refine ⟨fun h => absurd rfl h, h1, h2, ?_⟩
  show (delD n p).girth ≤ _
  unfold delD
  split
  · omega
  · have := changed_girth (y := absent) p n (.inl hw)
    have h3 : absent.girth ≤ 100 := of_decide_eq_true (by kernel_rfl)
    omega
theorem at_girth_le {n : Nd} {p : List ByteArray} : ((n.at_ p).getD absent).girth ≤ n.girth := by
  cases h : n.at_ p with
  | none =>
    have h3 : absent.girth ≤ 1 := of_decide_eq_true (by kernel_rfl)
    have := n.girth_pos
    show absent.girth ≤ _
    omega
  | some k => exact girth_at_all h
theorem kept_move {n : Nd} {p q : List ByteArray} (hw : n.well = true) (hp : namesBulk p ≤ 4020) (hq : namesBulk q ≤ 4020) : Kept n (0, moveD n p q) := by
  obtain ⟨h1, h2⟩ := move_well (A := p) (B := q) hw
  refine ⟨fun h => absurd rfl h, h1, h2, ?_⟩
  show (moveD n p q).girth ≤ _
  unfold moveD
  split
  · rename_i hl
    have h3 := changed_girth (y := absent) p n (.inl hw)
    have h4 := changed_girth (y := (n.at_ p).getD absent) q (changedD (fun _ => absent) p n) (.inl (left_well hw hl).1)
    have h5 : absent.girth ≤ 100 := of_decide_eq_true (by kernel_rfl)
    have h6 := at_girth_le (n := n) (p := p)
    omega
  · omega
theorem kept_copy {n : Nd} {p q : List ByteArray} (hw : n.well = true) (hq : namesBulk q ≤ 4020) : Kept n (0, copyD n p q) := by
  obtain ⟨h1, h2⟩ := copy_well (A := p) (B := q) hw
  refine ⟨fun h => absurd rfl h, h1, h2, ?_⟩
  show (copyD n p q).girth ≤ _
  unfold copyD
  split
  · have h4 := changed_girth (y := (n.at_ p).getD absent) q n (.inl hw)
    have h6 := at_girth_le (n := n) (p := p)
    omega
  · omega
theorem kept_make {n y : Nd} {p : List ByteArray} (hw : n.well = true) (hp : namesBulk p ≤ 4020) (hy : y.well = true → y.girth ≤ 8000) : Kept n (makeD n p y) := by
  unfold makeD
  exact kept_bif _ (kept_bif _ (kept_bif _ (kept_put hw hp hy) (kept_id hw _)) (kept_id hw _)) (kept_id hw _)
theorem kept_touch {n : Nd} {p : List ByteArray} (hw : n.well = true) (hp : namesBulk p ≤ 4020) : Kept n (touchD n p) := by
  unfold touchD
  exact kept_bif _ (kept_bif _ (kept_id hw _) (kept_bif _ (kept_put hw hp fun _ => by unfold fileN; rw [leaf_girth]; decide) (kept_id hw _))) (kept_id hw _)
theorem kept_remove {n : Nd} {p : List ByteArray} (hw : n.well = true) (hp : namesBulk p ≤ 4020) (c : Int) : Kept n (removeD n p c) := by
  unfold removeD
  exact kept_bif _ (kept_bif _ (kept_id hw _) (kept_bif _ (kept_del hw hp) (kept_id hw _))) (kept_id hw _)
theorem kept_rename {n : Nd} {p q : List ByteArray} (hw : n.well = true) (hp : namesBulk p ≤ 4020) (hq : namesBulk q ≤ 4020) : Kept n (renameD n p q) := by
  unfold renameD
  exact kept_bif _ (kept_bif _ (kept_id hw _) (kept_bif _ (kept_id hw _) (kept_bif _ (kept_id hw _) (kept_bif _ (kept_id hw _) (kept_bif _ (kept_move hw hp hq) (kept_id hw _)))))) (kept_id hw _)
theorem kept_copying {n : Nd} {p q : List ByteArray} (hw : n.well = true) (hq : namesBulk q ≤ 4020) (deep : Bool) : Kept n (copyingD n p q deep) := by
  unfold copyingD
  exact kept_bif _ (kept_bif _ (kept_id hw _) (kept_bif _ (kept_id hw _) (kept_bif _ (kept_id hw _) (kept_bif _ (kept_id hw _) (kept_bif _ (kept_copy hw hq) (kept_id hw _)))))) (kept_id hw _)
theorem kept_do {n : Nd} {s : Ob} (hw : n.well = true) (ha : namesBulk s.a ≤ 4020) (hb : namesBulk s.b ≤ 4020) (ht : s.text.size ≤ 1000) : Kept n (doD n s) := by
  unfold doD
  exact kept_bif _ (kept_make hw ha fun _ => by unfold dirN; rw [leaf_girth]; decide) (kept_bif _ (kept_make hw ha fun _ => by unfold fileN; rw [leaf_girth]; omega) (kept_bif _ (kept_make hw ha fun _ => by unfold linkN; rw [leaf_girth]; omega) (kept_bif _ (kept_touch hw ha)
    (kept_bif _ (kept_remove hw ha _) (kept_bif _ (kept_remove hw ha _) (kept_bif _ (kept_remove hw ha _) (kept_bif _ (kept_rename hw ha hb) (kept_copying hw hb _))))))))
end Nx
end Go.Proofs.Ytonpeoaahjoboaa
