/- Walks over nodes: one that is changed at a place, by Move. -/
import Derived.Test.YtfilbknnpjbmcaaGreatKa30
import Derived.Test.YtfilbknnpjbmcaaGreatKa31
namespace Go.Proofs.YtfilbknnpjbmcaaGreat
open Go.RowKit Px Nx
end Go.Proofs.YtfilbknnpjbmcaaGreat
/- Walks: what is done at a place of a tree: the two changes, and do. -/
namespace Go.Proofs.YtfilbknnpjbmcaaGreat
open Go.RowKit Px Nx

theorem Four.by {w w' : World} {g m : Nat} {v0 v1 v2 v3 : Value} (h : Four w g v0 v1 v2 v3) (hg : w.grownBy w' (some m)) (hne : g ≠ m) : Four w' g v0 v1 v2 v3 := h.grown hg (by simpa using hne)
theorem TreeX.by {w w' : World} {b m : Nat} {n : Nd} {v0 v1 v2 v3 : Value} (h : TreeX w b n v0 v1 v2 v3) (hg : w.grownBy w' (some m)) (hne : b ≠ m) : w'.heap[b]? = some (.cells #[v0, v1, v2, v3] 44 (0, 0)) := by
  rw [hg.block b h.lt (by simpa using hne)]
  exact h.blk
/-- A tree whose node's blocks lie in S, its own block apart. -/
structure TreeS (w : World) (S : Nat → Prop) (b : Nat) (n : Nd) (v0 v1 v2 v3 : Value) : Prop where
  blk : w.heap[b]? = some (.cells #[v0, v1, v2, v3] 44 (0, 0))
  node : NodeX w S [v0, v1, v2, v3] n
  off : ¬ S b
theorem NodeX.weak {w : World} {S S' : Nat → Prop} {cs : List Value} {x : Nd} (h : NodeX w S cs x) (hs : ∀ k, S k → S' k) : NodeX w S' cs x := h.same fun k hk => ⟨rfl, hs k hk⟩
theorem TreeS.x {w : World} {S : Nat → Prop} {b : Nat} {n : Nd} {v0 v1 v2 v3 : Value} (h : TreeS w S b n v0 v1 v2 v3) : TreeX w b n v0 v1 v2 v3 := ⟨h.blk, NodeX.weak h.node fun _k hk e => h.off (e ▸ hk)⟩
theorem TreeX.s {w : World} {b : Nat} {n : Nd} {v0 v1 v2 v3 : Value} (h : TreeX w b n v0 v1 v2 v3) : TreeS w (fun k => k ≠ b) b n v0 v1 v2 v3 := ⟨h.blk, h.node, fun h => h rfl⟩
theorem TreeS.kept {w w' : World} {S : Nat → Prop} {b : Nat} {n : Nd} {v0 v1 v2 v3 : Value} (h : TreeS w S b n v0 v1 v2 v3) (hb : Below w.heap.size w w') : TreeS w' S b n v0 v1 v2 v3 := ⟨(h.x.kept hb).blk, NodeX.grown h.node hb, h.off⟩
theorem TreeS.weak {w : World} {S S' : Nat → Prop} {b : Nat} {n : Nd} {v0 v1 v2 v3 : Value} (h : TreeS w S b n v0 v1 v2 v3) (hs : ∀ k, S k → S' k) (hb : ¬ S' b) : TreeS w S' b n v0 v1 v2 v3 := ⟨h.blk, NodeX.weak h.node hs, hb⟩
/-- Another block turns. -/
theorem TreeS.by {w w' : World} {S : Nat → Prop} {b m : Nat} {n : Nd} {v0 v1 v2 v3 : Value} (h : TreeS w S b n v0 v1 v2 v3) (hg : w.grownBy w' (some m)) (hne : b ≠ m) (hm : ¬ S m) : TreeS w' S b n v0 v1 v2 v3 :=
  ⟨by rw [hg.block b h.x.lt (by simpa using hne)]; exact h.blk, h.node.grownBy hg hm, h.off⟩
theorem tree_cells {w : World} {b : Nat} {v0 v1 v2 v3 : Value} {t : TypeId} (h : w.heap[b]? = some (.cells #[v0, v1, v2, v3] t (0, 0))) : (w.cell? ⟨b, 0, none⟩ = some v0 ∧ w.cell? ⟨b, 1, none⟩ = some v1 ∧ w.cell? ⟨b, 2, none⟩ = some v2 ∧ w.cell? ⟨b, 3, none⟩ = some v3) ∧
    (w.frozen? ⟨b, 0, none⟩ = false ∧ w.frozen? ⟨b, 1, none⟩ = false ∧ w.frozen? ⟨b, 2, none⟩ = false ∧ w.frozen? ⟨b, 3, none⟩ = false) :=
  ⟨⟨by rw [cell_of_row _ _ _ _ _ _ h]; rfl, by rw [cell_of_row _ _ _ _ _ _ h]; rfl, by rw [cell_of_row _ _ _ _ _ _ h]; rfl, by rw [cell_of_row _ _ _ _ _ _ h]; rfl⟩,
    ⟨frozen_of_row w b 0 _ _ h, frozen_of_row w b 1 _ _ h, frozen_of_row w b 2 _ _ h, frozen_of_row w b 3 _ _ h⟩⟩
theorem tree_set {w : World} {g : Nat} {v0 v1 v2 v3 : Value} {t : TypeId} (h : w.heap[g]? = some (.cells #[v0, v1, v2, v3] t (0, 0))) (u0 u1 u2 u3 : Value) :
    ((((w.setCell ⟨g, 0, none⟩ u0).setCell ⟨g, 1, none⟩ u1).setCell ⟨g, 2, none⟩ u2).setCell ⟨g, 3, none⟩ u3).heap[g]? = some (.cells #[u0, u1, u2, u3] t (0, 0)) := by
  have h1 := heap_setCell_same w g 0 _ _ u0 h
  have h2 := heap_setCell_same _ g 1 _ _ u1 h1
  have h3 := heap_setCell_same _ g 2 _ _ u2 h2
  exact heap_setCell_same _ g 3 _ _ u3 h3
/-- Nothing turned but two blocks. -/
def GrownBut (w w' : World) (b pb : Nat) : Prop := w'.os = w.os ∧ w'.tape = w.tape ∧ w'.output = w.output ∧ w.heap.size ≤ w'.heap.size ∧ ∀ k, k < w.heap.size → k ≠ b → k ≠ pb → w'.heap[k]? = w.heap[k]?
theorem but_two {w w2 w' : World} {b pb : Nat} (h : w.grownBy w2 (some pb)) (h' : w2.grownBy w' (some b)) : GrownBut w w' b pb :=
  ⟨h'.os.trans h.os, h'.tape.trans h.tape, h'.output.trans h.output, Nat.le_trans h.size h'.size, fun k hk h1 h2 => (h'.block k (Nat.lt_of_lt_of_le hk h.size) (by simpa using h1)).trans (h.block k hk (by simpa using h2))⟩
/-- One of them is new. -/
theorem but_new {w w1 w' : World} {b : Nat} (h : Below w.heap.size w w1) (h' : GrownBut w1 w' b w.heap.size) : w.grownBy w' (some b) :=
  ⟨h'.1.trans h.os, h'.2.1.trans h.tape, h'.2.2.1.trans h.output, Nat.le_trans h.size h'.2.2.2.1, fun k hk hne => (h'.2.2.2.2 k (Nat.lt_of_lt_of_le hk h.size) (by simpa using hne) (by omega)).trans (h.block k hk)⟩
theorem but_newer {w w1 w' : World} {b pb : Nat} (h : Below w.heap.size w w1) (h' : GrownBut w1 w' b pb) (hp : w.heap.size ≤ pb) : w.grownBy w' (some b) :=
  ⟨h'.1.trans h.os, h'.2.1.trans h.tape, h'.2.2.1.trans h.output, Nat.le_trans h.size h'.2.2.2.1, fun k hk hne => (h'.2.2.2.2 k (Nat.lt_of_lt_of_le hk h.size) (by simpa using hne) (by omega)).trans (h.block k hk)⟩
theorem by_below {w w1 w' : World} {b : Nat} (h : Below w.heap.size w w1) (h' : w1.grownBy w' (some b)) : w.grownBy w' (some b) := grown_trans (grown_of_below h) h'
theorem below_by {w w' : World} {m B : Nat} (h : w.grownBy w' (some m)) (hB : B ≤ m) (hs : B ≤ w.heap.size) : Below B w w' :=
  ⟨h.os, h.tape, h.output, h.size, fun k hk => h.block k (by omega) (by simp; omega)⟩

end Go.Proofs.YtfilbknnpjbmcaaGreat
/- Walks: what is done to a tree: open, leads, Put, Del, Move, Copy of the program. -/
namespace Go.Proofs.YtfilbknnpjbmcaaGreat
open Go.RowKit Px Nx
attribute [local go_sem] run_field_kind run_field_text

theorem ways (b : Bool) : b = true ∨ b = false := by cases b <;> simp
theorem kind_bool (R : Nd) (k : UInt8) : decide (R.kind = k) = (R.kind == k) := by rw [Bool.eq_iff_iff]; simp

set_option maxRecDepth 100000 in
set_option maxHeartbeats 2000000 in
theorem fat_s {w : World} {S : Nat → Prop} {b : Nat} {n : Nd} {v0 v1 v2 v3 : Value} (h : TreeS w S b n v0 v1 v2 v3) (hw : n.well = true) (hB : n.girth ≤ 200000000) {pv : Value} {place : List ByteArray} (hp : PlR w pv place) :
    Calls Tryz.prog 115 #[.pointer (some ⟨b, 0, none⟩), pv] w fun e w' => (∃ vs, e = .returned (.agg vs) ∧ NodeX w' S vs.toList ((n.at_ place).getD absent)) ∧ Below w.heap.size w w' := by
  have HBE : Hid (∀ wx, Below w.heap.size w wx → Calls Tryz.prog 116 #[.agg #[v0, v1, v2, v3], pv] wx fun e w' => (∃ vs, e = .returned (.agg vs) ∧ NodeX w S vs.toList ((n.at_ place).getD absent)) ∧ Below wx.heap.size wx w') := Lib.hid fun wx hx => below_x h.node hw hB hp wx hx
  have HT := Lib.hid h
  obtain ⟨pp, pc, rfl, _, _, _⟩ := hp
  have HA : Hid (Below w.heap.size w (w.alloc (.cells #[.int .u8 0, .string ⟨#[]⟩, .slice none 0 0, .slice none 0 0] 25))) := Lib.hid ((Below.refl _ _).alloc (Nat.le_refl _) _)
  have HZ := Lib.hid (four_new w (.int .u8 0) (.string ⟨#[]⟩) (.slice none 0 0) (.slice none 0 0))
  obtain ⟨c0, c1, c2, c3⟩ := (h.x.kept HA.out).cell
  clear h
  generalize (n.at_ place).getD absent = R at *
  generalize place.length = pl at *
  go_enter Tryz.func115, Tryz.ntmps115
  go_wp2_with fail
  refine (HBE.out _ HA.out).mono ?_
  rintro e w2 ⟨⟨vs, rfl, hvs⟩, hb2⟩
  have HZ2 := Lib.hid (HZ.out.kept hb2)
  have HB2 : Hid (Below w.heap.size w w2) := Lib.hid (HA.out.trans (hb2.mono HA.out.size))
  obtain ⟨p5, q5, c5, d5, rfl⟩ := nodeX_cells hvs
  have HVS := Lib.hid hvs
  clear hb2 hvs c0 c1 c2 c3
  obtain ⟨z0, z1, z2, z3⟩ := HZ2.out.cell
  obtain ⟨x0, x1, x2, x3⟩ := HZ2.out.open_
  go_wp2_with fail
  refine bodyPost_ret (v := .agg #[.int .u8 R.kind.toNat, .string R.text, .slice p5 R.names.length c5, .slice q5 R.kids.length d5]) (by simp [results, Tryz.results115, go_sem, z0, z1, z2, z3]) rfl ?_
  have hb9 := below_four HB2.out (Nat.le_refl _) (.int .u8 R.kind.toNat) (.string R.text) (.slice p5 R.names.length c5) (.slice q5 R.kids.length d5)
  exact ⟨⟨_, rfl, HVS.out.grown hb9⟩, hb9⟩


theorem or_new {w' : World} {S : Nat → Prop} {b B B' : Nat} {n : Nd} (hB : B ≤ B') (h : ∃ x0 x1 x2 x3, TreeS w' (fun k => (S k ∨ B ≤ k) ∨ B' ≤ k) b n x0 x1 x2 x3) : ∃ x0 x1 x2 x3, TreeS w' (fun k => S k ∨ B ≤ k) b n x0 x1 x2 x3 := by
  obtain ⟨x0, x1, x2, x3, h⟩ := h
  exact ⟨x0, x1, x2, x3, h.weak (fun k hk => hk.elim id (fun h => .inr (Nat.le_trans hB h))) (fun hh => h.off (.inl hh))⟩
theorem TreeS.new {w w' : World} {S : Nat → Prop} {b : Nat} {n : Nd} {v0 v1 v2 v3 : Value} (h : TreeS w S b n v0 v1 v2 v3) (hb : Below w.heap.size w w') {B : Nat} (hB : b < B) : TreeS w' (fun k => S k ∨ B ≤ k) b n v0 v1 v2 v3 := (h.kept hb).weak (fun _ hk => .inl hk) (fun hh => hh.elim h.off (by omega))
theorem tree_of {w' : World} {S : Nat → Prop} {b : Nat} {n : Nd} (h : ∃ x0 x1 x2 x3, TreeS w' S b n x0 x1 x2 x3) : ∃ x0 x1 x2 x3, TreeX w' b n x0 x1 x2 x3 := by
  obtain ⟨x0, x1, x2, x3, h⟩ := h
  exact ⟨x0, x1, x2, x3, h.x⟩
end Go.Proofs.YtfilbknnpjbmcaaGreat
