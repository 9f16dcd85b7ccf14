/- Walks: what is done to a tree: open, leads, Put, Del, Move, Copy of the program. -/
import Derived.Test.YtlnnnlpofocgpabFtAB
namespace Go.Proofs.Ytlnnnlpofocgpab
open Go.RowKit Px Nx
attribute [local go_sem] run_field_kind run_field_text

theorem ways (b : Bool) : b = true ∨ b = false := by cases b <;> simp
theorem kind_bool (R : Nd) (k : UInt8) : decide (R.kind = k) = (R.kind == k) := by rw [Bool.eq_iff_iff]; simp

set_option maxRecDepth 100000 in
set_option maxHeartbeats 2000000 in
theorem fat_s {w : World} {S : Nat → Prop} {b : Nat} {n : Nd} {v0 v1 v2 v3 : Value} (h : TreeS w S b n v0 v1 v2 v3) (hw : n.well = true) (hB : n.girth ≤ 2000000) {pv : Value} {place : List ByteArray} (hp : PlR w pv place) :
    Calls Try.prog 28 #[.pointer (some ⟨b, 0, none⟩), pv] w fun e w' => (∃ vs, e = .returned (.agg vs) ∧ NodeX w' S vs.toList ((n.at_ place).getD absent)) ∧ Below w.heap.size w w' := by
  have HBE : Hid (∀ wx, Below w.heap.size w wx → Calls Try.prog 40 #[.agg #[v0, v1, v2, v3], pv] wx fun e w' => (∃ vs, e = .returned (.agg vs) ∧ NodeX w S vs.toList ((n.at_ place).getD absent)) ∧ Below wx.heap.size wx w') := Lib.hid fun wx hx => below_x h.node hw hB hp wx hx
  have HT := Lib.hid h
  obtain ⟨pp, pc, rfl, _, _, _⟩ := hp
  have HA : Hid (Below w.heap.size w (w.alloc (.cells #[.int .u8 0, .string ⟨#[]⟩, .slice none 0 0, .slice none 0 0] 25))) := Lib.hid ((Below.refl _ _).alloc (Nat.le_refl _) _)
  have HZ := Lib.hid (four_new w (.int .u8 0) (.string ⟨#[]⟩) (.slice none 0 0) (.slice none 0 0))
  obtain ⟨c0, c1, c2, c3⟩ := (h.x.kept HA.out).cell
  clear h
  generalize (n.at_ place).getD absent = R at *
  generalize place.length = pl at *
  go_enter Try.func28, Try.ntmps28
  go_wp2_with fail
  refine (HBE.out _ HA.out).mono ?_
  rintro e w2 ⟨⟨vs, rfl, hvs⟩, hb2⟩
  have HZ2 := Lib.hid (HZ.out.kept hb2)
  have HB2 : Hid (Below w.heap.size w w2) := Lib.hid (HA.out.trans (hb2.mono HA.out.size))
  obtain ⟨p5, q5, c5, d5, rfl⟩ := nodeX_cells hvs
  have HVS := Lib.hid hvs
  clear hb2 hvs c0 c1 c2 c3
  obtain ⟨z0, z1, z2, z3⟩ := HZ2.out.cell
  obtain ⟨x0, x1, x2, x3⟩ := HZ2.out.open_
  go_wp2_with fail
  refine bodyPost_ret (v := .agg #[.int .u8 R.kind.toNat, .string R.text, .slice p5 R.names.length c5, .slice q5 R.kids.length d5]) (by simp [results, Try.results28, go_sem, z0, z1, z2, z3]) rfl ?_
  have hb9 := below_four HB2.out (Nat.le_refl _) (.int .u8 R.kind.toNat) (.string R.text) (.slice p5 R.names.length c5) (.slice q5 R.kids.length d5)
  exact ⟨⟨_, rfl, HVS.out.grown hb9⟩, hb9⟩


theorem or_new {w' : World} {S : Nat → Prop} {b B B' : Nat} {n : Nd} (hB : B ≤ B') (h : ∃ x0 x1 x2 x3, TreeS w' (fun k => (S k ∨ B ≤ k) ∨ B' ≤ k) b n x0 x1 x2 x3) : ∃ x0 x1 x2 x3, TreeS w' (fun k => S k ∨ B ≤ k) b n x0 x1 x2 x3 := by
  obtain ⟨x0, x1, x2, x3, h⟩ := h
  exact ⟨x0, x1, x2, x3, h.weak (fun k hk => hk.elim id (fun h => .inr (Nat.le_trans hB h))) (fun hh => h.off (.inl hh))⟩
theorem TreeS.new {w w' : World} {S : Nat → Prop} {b : Nat} {n : Nd} {v0 v1 v2 v3 : Value} (h : TreeS w S b n v0 v1 v2 v3) (hb : Below w.heap.size w w') {B : Nat} (hB : b < B) : TreeS w' (fun k => S k ∨ B ≤ k) b n v0 v1 v2 v3 := (h.kept hb).weak (fun _ hk => .inl hk) (fun hh => hh.elim h.off (by omega))
theorem tree_of {w' : World} {S : Nat → Prop} {b : Nat} {n : Nd} (h : ∃ x0 x1 x2 x3, TreeS w' S b n x0 x1 x2 x3) : ∃ x0 x1 x2 x3, TreeX w' b n x0 x1 x2 x3 := by
  obtain ⟨x0, x1, x2, x3, h⟩ := h
  exact ⟨x0, x1, x2, x3, h.x⟩
end Go.Proofs.Ytlnnnlpofocgpab
