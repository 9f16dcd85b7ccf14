/- Walks: what is done at a place of a tree: the two changes, and do. -/
import Derived.Test.YtfilbknnpjbmcaaGreatDoorKb22
import Derived.Test.YtfilbknnpjbmcaaGreatDoorKb25
namespace Go.Proofs.YtfilbknnpjbmcaaGreatDoor
open Go.RowKit Px Nx

theorem Four.by {w w' : World} {g m : Nat} {v0 v1 v2 v3 : Value} (h : Four w g v0 v1 v2 v3) (hg : w.grownBy w' (some m)) (hne : g ≠ m) : Four w' g v0 v1 v2 v3 := h.grown hg (by simpa using hne)
theorem TreeX.by {w w' : World} {b m : Nat} {n : Nd} {v0 v1 v2 v3 : Value} (h : TreeX w b n v0 v1 v2 v3) (hg : w.grownBy w' (some m)) (hne : b ≠ m) : w'.heap[b]? = some (.cells #[v0, v1, v2, v3] 54 (0, 0)) := by
 rw [hg.block b h.lt (by simpa using hne)]
 exact h.blk
structure TreeS (w : World) (S : Nat → Prop) (b : Nat) (n : Nd) (v0 v1 v2 v3 : Value) : Prop where
 blk : w.heap[b]? = some (.cells #[v0, v1, v2, v3] 54 (0, 0))
 node : NodeX w S [v0, v1, v2, v3] n
 off : ¬ S b
theorem NodeX.weak {w : World} {S S' : Nat → Prop} {cs : List Value} {x : Nd} (h : NodeX w S cs x) (hs : ∀ k, S k → S' k) : NodeX w S' cs x := h.same fun k hk => ⟨rfl, hs k hk⟩
theorem TreeS.x {w : World} {S : Nat → Prop} {b : Nat} {n : Nd} {v0 v1 v2 v3 : Value} (h : TreeS w S b n v0 v1 v2 v3) : TreeX w b n v0 v1 v2 v3 := ⟨h.blk, NodeX.weak h.node fun _k hk e => h.off (e ▸ hk)⟩
theorem TreeX.s {w : World} {b : Nat} {n : Nd} {v0 v1 v2 v3 : Value} (h : TreeX w b n v0 v1 v2 v3) : TreeS w (fun k => k ≠ b) b n v0 v1 v2 v3 := ⟨h.blk, h.node, fun h => h rfl⟩
theorem TreeS.kept {w w' : World} {S : Nat → Prop} {b : Nat} {n : Nd} {v0 v1 v2 v3 : Value} (h : TreeS w S b n v0 v1 v2 v3) (hb : Below w.heap.size w w') : TreeS w' S b n v0 v1 v2 v3 := ⟨(h.x.kept hb).blk, NodeX.grown h.node hb, h.off⟩
theorem TreeS.weak {w : World} {S S' : Nat → Prop} {b : Nat} {n : Nd} {v0 v1 v2 v3 : Value} (h : TreeS w S b n v0 v1 v2 v3) (hs : ∀ k, S k → S' k) (hb : ¬ S' b) : TreeS w S' b n v0 v1 v2 v3 := ⟨h.blk, NodeX.weak h.node hs, hb⟩
theorem TreeS.by {w w' : World} {S : Nat → Prop} {b m : Nat} {n : Nd} {v0 v1 v2 v3 : Value} (h : TreeS w S b n v0 v1 v2 v3) (hg : w.grownBy w' (some m)) (hne : b ≠ m) (hm : ¬ S m) : TreeS w' S b n v0 v1 v2 v3 :=
 ⟨by rw [hg.block b h.x.lt (by simpa using hne)]; exact h.blk, h.node.grownBy hg hm, h.off⟩
theorem tree_cells {w : World} {b : Nat} {v0 v1 v2 v3 : Value} {t : TypeId} (h : w.heap[b]? = some (.cells #[v0, v1, v2, v3] t (0, 0))) : (w.cell? ⟨b, 0, none⟩ = some v0 ∧ w.cell? ⟨b, 1, none⟩ = some v1 ∧ w.cell? ⟨b, 2, none⟩ = some v2 ∧ w.cell? ⟨b, 3, none⟩ = some v3) ∧
  (w.frozen? ⟨b, 0, none⟩ = false ∧ w.frozen? ⟨b, 1, none⟩ = false ∧ w.frozen? ⟨b, 2, none⟩ = false ∧ w.frozen? ⟨b, 3, none⟩ = false) :=
 ⟨⟨by rw [cell_of_row _ _ _ _ _ _ h]; rfl, by rw [cell_of_row _ _ _ _ _ _ h]; rfl, by rw [cell_of_row _ _ _ _ _ _ h]; rfl, by rw [cell_of_row _ _ _ _ _ _ h]; rfl⟩,
  ⟨frozen_of_row w b 0 _ _ h, frozen_of_row w b 1 _ _ h, frozen_of_row w b 2 _ _ h, frozen_of_row w b 3 _ _ h⟩⟩
theorem tree_set {w : World} {g : Nat} {v0 v1 v2 v3 : Value} {t : TypeId} (h : w.heap[g]? = some (.cells #[v0, v1, v2, v3] t (0, 0))) (u0 u1 u2 u3 : Value) :
  ((((w.setCell ⟨g, 0, none⟩ u0).setCell ⟨g, 1, none⟩ u1).setCell ⟨g, 2, none⟩ u2).setCell ⟨g, 3, none⟩ u3).heap[g]? = some (.cells #[u0, u1, u2, u3] t (0, 0)) := by
 have h1 := heap_setCell_same w g 0 _ _ u0 h
 have h2 := heap_setCell_same _ g 1 _ _ u1 h1
 have h3 := heap_setCell_same _ g 2 _ _ u2 h2
 exact heap_setCell_same _ g 3 _ _ u3 h3
def GrownBut (w w' : World) (b pb : Nat) : Prop := w'.os = w.os ∧ w'.tape = w.tape ∧ w'.output = w.output ∧ w.heap.size ≤ w'.heap.size ∧ ∀ k, k < w.heap.size → k ≠ b → k ≠ pb → w'.heap[k]? = w.heap[k]?
theorem but_two {w w2 w' : World} {b pb : Nat} (h : w.grownBy w2 (some pb)) (h' : w2.grownBy w' (some b)) : GrownBut w w' b pb :=
 ⟨h'.os.trans h.os, h'.tape.trans h.tape, h'.output.trans h.output, Nat.le_trans h.size h'.size, fun k hk h1 h2 => (h'.block k (Nat.lt_of_lt_of_le hk h.size) (by simpa using h1)).trans (h.block k hk (by simpa using h2))⟩
theorem but_new {w w1 w' : World} {b : Nat} (h : Below w.heap.size w w1) (h' : GrownBut w1 w' b w.heap.size) : w.grownBy w' (some b) :=
 ⟨h'.1.trans h.os, h'.2.1.trans h.tape, h'.2.2.1.trans h.output, Nat.le_trans h.size h'.2.2.2.1, fun k hk hne => (h'.2.2.2.2 k (Nat.lt_of_lt_of_le hk h.size) (by simpa using hne) (by omega)).trans (h.block k hk)⟩
theorem but_newer {w w1 w' : World} {b pb : Nat} (h : Below w.heap.size w w1) (h' : GrownBut w1 w' b pb) (hp : w.heap.size ≤ pb) : w.grownBy w' (some b) :=
 ⟨h'.1.trans h.os, h'.2.1.trans h.tape, h'.2.2.1.trans h.output, Nat.le_trans h.size h'.2.2.2.1, fun k hk hne => (h'.2.2.2.2 k (Nat.lt_of_lt_of_le hk h.size) (by simpa using hne) (by omega)).trans (h.block k hk)⟩
theorem by_below {w w1 w' : World} {b : Nat} (h : Below w.heap.size w w1) (h' : w1.grownBy w' (some b)) : w.grownBy w' (some b) := grown_trans (grown_of_below h) h'
set_option maxRecDepth 100000 in
set_option maxHeartbeats 2000000 in
theorem becomes1_ok {pb L : Nat} {S0 : Nat → Prop} {u0 u1 u2 u3 : Value} {y : Nd} : ChangeOk 170 pb L pb S0 (fun _ => y) (fun w => Four w pb u0 u1 u2 u3 ∧ NodeX w (fun k => S0 k ∧ k < L) [u0, u1, u2, u3] y) (fun _ _ => True) := by
 intro S hS0 hSm w cs x hSn hL hm hinv hx
 obtain ⟨hF, hY⟩ := hinv
 obtain ⟨p1, q1, c1, d1, rfl⟩ := hx.to.cells
 obtain ⟨p2, q2, c2, d2, he⟩ := hY.to.cells
 obtain ⟨rfl, rfl, rfl, rfl⟩ : u0 = _ ∧ u1 = _ ∧ u2 = _ ∧ u3 = _ := by simpa using he
 have HY := Lib.hid hY
 have HF := Lib.hid hF
 clear hx hF hY he
 generalize x.kind.toNat = k1 at *
 generalize x.text = t1 at *
 generalize x.names.length = n1 at *
 generalize x.kids.length = m1 at *
 generalize y.kind.toNat = k2 at *
 generalize y.text = t2 at *
 generalize y.names.length = n2 at *
 generalize y.kids.length = m2 at *
 go_enter Tryz.func170, Tryz.ntmps170
 go_upto_region 1 with fail
 have HB : Hid (Below w.heap.size w ((w.alloc (.cells #[.int .u8 k1, .string t1, .slice p1 n1 c1, .slice q1 m1 d1] 25)).alloc (.cells #[.int .u8 0, .string ⟨#[]⟩, .slice none 0 0, .slice none 0 0] 25))) := Lib.hid (box2_self (Below.refl _ _))
 have HZ : Hid (Four ((w.alloc (.cells #[.int .u8 k1, .string t1, .slice p1 n1 c1, .slice q1 m1 d1] 25)).alloc (.cells #[.int .u8 0, .string ⟨#[]⟩, .slice none 0 0, .slice none 0 0] 25)) (w.heap.size + 1) (.int .u8 0) (.string ⟨#[]⟩) (.slice none 0 0) (.slice none 0 0)) := Lib.hid (by have := four_new (w.alloc (.cells #[.int .u8 k1, .string t1, .slice p1 n1 c1, .slice q1 m1 d1] 25)) (.int .u8 0) (.string ⟨#[]⟩) (.slice none 0 0) (.slice none 0 0); simpa using this)
 have hsz : w.heap.size + 2 ≤ ((w.alloc (.cells #[.int .u8 k1, .string t1, .slice p1 n1 c1, .slice q1 m1 d1] 25)).alloc (.cells #[.int .u8 0, .string ⟨#[]⟩, .slice none 0 0, .slice none 0 0] 25)).heap.size := by simp
 generalize ((w.alloc (.cells #[.int .u8 k1, .string t1, .slice p1 n1 c1, .slice q1 m1 d1] 25)).alloc (.cells #[.int .u8 0, .string ⟨#[]⟩, .slice none 0 0, .slice none 0 0] 25)) = wr at *
 have HF2 := Lib.hid (HF.out.kept HB.out)
 obtain ⟨c0, c1x, c2x, c3⟩ := HF2.out.cell
 obtain ⟨z0, z1, z2, z3⟩ := HZ.out.cell
 obtain ⟨x0, x1, x2, x3⟩ := HZ.out.open_
 go_wp2_with fail
 refine bodyPost_ret (v := .agg #[.int .u8 k2, .string t2, .slice p2 n2 c2, .slice q2 m2 d2]) (by simp [results, Tryz.results170, go_sem, z0, z1, z2, z3]) rfl ?_
 have hb9 := grown_four (w := wr) (g := w.heap.size + 1) (.int .u8 k2) (.string t2) (.slice p2 n2 c2) (.slice q2 m2 d2)
 refine ⟨⟨_, rfl, ?_⟩, grown_mix (grown_of_below HB.out) hb9 (by omega), trivial⟩
 exact ((NodeX.grown HY.out HB.out).grownBy hb9 (fun h => by have := h.2; omega)).same fun k hk => ⟨rfl, hS0 k hk.1 hk.2⟩

set_option maxRecDepth 100000 in
set_option maxHeartbeats 2000000 in
theorem move1_ok {pb L : Nat} {S0 : Nat → Prop} (hpb : ¬ (S0 pb ∧ pb < L)) : ChangeOk 167 pb L pb S0 (fun _ => absent) (fun w => ∃ z0 z1 z2 z3, Four w pb z0 z1 z2 z3) (fun x w' => ∃ u0 u1 u2 u3, Four w' pb u0 u1 u2 u3 ∧ NodeX w' (fun k => S0 k ∧ k < L) [u0, u1, u2, u3] x) := by
 intro S hS0 hSm w cs x hSn hL hm hinv hx
 obtain ⟨y0, y1, y2, y3, hF⟩ := hinv
 obtain ⟨p1, q1, c1, d1, rfl⟩ := hx.to.cells
 have HX := Lib.hid hx
 have HF := Lib.hid hF
 clear hx hF
 generalize x.kind.toNat = k1 at *
 generalize x.text = t1 at *
 generalize x.names.length = n1 at *
 generalize x.kids.length = m1 at *
 go_enter Tryz.func167, Tryz.ntmps167
 go_upto_region 1 with fail
 have HB : Hid (Below w.heap.size w ((w.alloc (.cells #[.int .u8 k1, .string t1, .slice p1 n1 c1, .slice q1 m1 d1] 25)).alloc (.cells #[.int .u8 0, .string ⟨#[]⟩, .slice none 0 0, .slice none 0 0] 25))) := Lib.hid (box2_self (Below.refl _ _))
 have HV : Hid (Four ((w.alloc (.cells #[.int .u8 k1, .string t1, .slice p1 n1 c1, .slice q1 m1 d1] 25)).alloc (.cells #[.int .u8 0, .string ⟨#[]⟩, .slice none 0 0, .slice none 0 0] 25)) w.heap.size (.int .u8 k1) (.string t1) (.slice p1 n1 c1) (.slice q1 m1 d1)) := Lib.hid (four_first w _ _ _ _ _)
 have HZ : Hid (Four ((w.alloc (.cells #[.int .u8 k1, .string t1, .slice p1 n1 c1, .slice q1 m1 d1] 25)).alloc (.cells #[.int .u8 0, .string ⟨#[]⟩, .slice none 0 0, .slice none 0 0] 25)) (w.heap.size + 1) (.int .u8 0) (.string ⟨#[]⟩) (.slice none 0 0) (.slice none 0 0)) := Lib.hid (by have := four_new (w.alloc (.cells #[.int .u8 k1, .string t1, .slice p1 n1 c1, .slice q1 m1 d1] 25)) (.int .u8 0) (.string ⟨#[]⟩) (.slice none 0 0) (.slice none 0 0); simpa using this)
 have hsz : w.heap.size + 2 ≤ ((w.alloc (.cells #[.int .u8 k1, .string t1, .slice p1 n1 c1, .slice q1 m1 d1] 25)).alloc (.cells #[.int .u8 0, .string ⟨#[]⟩, .slice none 0 0, .slice none 0 0] 25)).heap.size := by simp
 generalize ((w.alloc (.cells #[.int .u8 k1, .string t1, .slice p1 n1 c1, .slice q1 m1 d1] 25)).alloc (.cells #[.int .u8 0, .string ⟨#[]⟩, .slice none 0 0, .slice none 0 0] 25)) = wr at *
 have HF2 := Lib.hid (HF.out.kept HB.out)
 have HX2 := Lib.hid (NodeX.grown HX.out HB.out)
 obtain ⟨c0, c1x, c2x, c3⟩ := HV.out.cell
 obtain ⟨e0, e1, e2, e3⟩ := HF2.out.open_
 obtain ⟨g0, g1, g2, g3⟩ := HF2.out.cell
 go_upto_region 2 with fail
 have hg := grown_four (w := wr) (g := pb) (.int .u8 k1) (.string t1) (.slice p1 n1 c1) (.slice q1 m1 d1)
 have HF3 := Lib.hid (HF2.out.set (.int .u8 k1) (.string t1) (.slice p1 n1 c1) (.slice q1 m1 d1))
 have HZ3 := Lib.hid (HZ.out.other (show w.heap.size + 1 ≠ pb by omega) (.int .u8 k1) (.string t1) (.slice p1 n1 c1) (.slice q1 m1 d1))
 have HX3 := Lib.hid (HX2.out.grownBy hg hpb)
 have hsz3 : wr.heap.size = ((((wr.setCell ⟨pb, 0, none⟩ (.int .u8 k1)).setCell ⟨pb, 1, none⟩ (.string t1)).setCell ⟨pb, 2, none⟩ (.slice p1 n1 c1)).setCell ⟨pb, 3, none⟩ (.slice q1 m1 d1)).heap.size := (size_four _ _ _ _).symm
 have HG := Lib.hid hg
 clear c0 c1x c2x c3 e0 e1 e2 e3 g0 g1 g2 g3 hg
 generalize ((((wr.setCell ⟨pb, 0, none⟩ (.int .u8 k1)).setCell ⟨pb, 1, none⟩ (.string t1)).setCell ⟨pb, 2, none⟩ (.slice p1 n1 c1)).setCell ⟨pb, 3, none⟩ (.slice q1 m1 d1)) = ws at *
 obtain ⟨z0, z1, z2, z3⟩ := HZ3.out.cell
 obtain ⟨x0, x1, x2, x3⟩ := HZ3.out.open_
 go_wp2_with fail
 refine bodyPost_ret (v := .agg #[.int .u8 0, .string ⟨#[]⟩, .slice none 0 0, .slice none 0 0]) (by simp [results, Tryz.results167, go_sem, z0, z1, z2, z3]) rfl ?_
 have hb9 := grown_four (w := ws) (g := w.heap.size + 1) (.int .u8 0) (.string ⟨#[]⟩) (.slice none 0 0) (.slice none 0 0)
 refine ⟨⟨_, rfl, absent_X _ _⟩, grown_mix (grown_trans (grown_of_below HB.out) HG.out) hb9 (by omega), _, _, _, _, HF3.out.by hb9 (by omega), ?_⟩
 exact HX3.out.grownBy hb9 (fun h => by have := h.2; omega)

set_option maxRecDepth 100000 in
theorem becomes_any {w : World} {S : Nat → Prop} {vs : Array Value} {y : Nd} (h : NodeX w S vs.toList y) :
  Calls Tryz.prog 165 #[.agg vs] w fun e w' => e = .returned (.func (.func 170) #[] #[.pointer (some ⟨w.heap.size, 0, none⟩)]) ∧ w' = w.alloc (.cells vs 25) := by
 obtain ⟨p1, q1, c1, d1, rfl⟩ := nodeX_cells h
 clear h
 generalize y.kind.toNat = k1 at *
 generalize y.text = t1 at *
 generalize y.names.length = n1 at *
 generalize y.kids.length = m1 at *
 go_enter Tryz.func165, Tryz.ntmps165
 go_wp2_with fail
 go_ret
 exact ⟨rfl, rfl⟩

set_option maxRecDepth 100000 in
set_option maxHeartbeats 2000000 in
theorem doB {w : World} {S0 : Nat → Prop} {b : Nat} {n : Nd} {v0 v1 v2 v3 : Value} (h : TreeS w S0 b n v0 v1 v2 v3) (hw : n.well = true) (hB : n.girth ≤ 200000000) {pb : Nat} {u0 u1 u2 u3 : Value} {y : Nd} {p : Option Addr} {c : Nat} {place : List ByteArray} (hpb : pb ≠ b) (hpl : pb < w.heap.size) (hpS : ¬ S0 pb)
  (hF : Four w pb u0 u1 u2 u3) (hY : NodeX w S0 [u0, u1, u2, u3] y) (hst : Strs w p place) (hlc : place.length ≤ c) (hcm : c ≤ maxLen) (hpa : ∀ a, p = some a → place.length ≠ 0 → a.block ≠ pb) (hnb : namesBulk place ≤ 200000000) :
  Calls Tryz.prog 164 #[.pointer (some ⟨b, 0, none⟩), .slice p place.length c, .func (.func 170) #[] #[.pointer (some ⟨pb, 0, none⟩)]] w fun e w' => e = .returned (.tuple #[]) ∧ (∃ x0 x1 x2 x3, TreeS w' (fun k => S0 k ∨ w.heap.size ≤ k) b (changedD (fun _ => y) place n) x0 x1 x2 x3) ∧ GrownBut w w' b pb := by
 have hbl := h.x.lt
 have hbS : ¬ (S0 b ∨ w.heap.size ≤ b) := fun hh => hh.elim h.off (by omega)
 have hpS2 : ¬ (S0 pb ∨ w.heap.size ≤ pb) := fun hh => hh.elim hpS (by omega)
 have HC : Hid (Calls Tryz.prog 169 #[.agg #[v0, v1, v2, v3], .slice p place.length c, .func (.func 170) #[] #[.pointer (some ⟨pb, 0, none⟩)]] w fun e w' => (∃ vs, e = .returned (.agg vs) ∧ NodeX w' (fun k => S0 k ∨ w.heap.size ≤ k) vs.toList (changedD (fun _ => y) place n)) ∧ w.grownBy w' (some pb) ∧ ∀ y, reachD place n = some y → True) :=
  Lib.hid (changed_becomes (L := w.heap.size) (m := pb) (S0 := S0) (f := (fun _ => y)) (Inv := (fun w1 => Four w1 pb u0 u1 u2 u3 ∧ NodeX w1 (fun k => S0 k ∧ k < w.heap.size) [u0, u1, u2, u3] y)) (Post := fun y w' => True)
   (fun w1 w2 g hi hg hL hm => ⟨hi.1.by hg (Ne.symm hm), hi.2.grownBy hg (fun h => by have := h.2; omega)⟩)
   (fun _ _ _ _ _ _ _ _ => trivial) (fun h => hpS h.1) becomes1_ok place (fun k => S0 k ∨ w.heap.size ≤ k) (fun k hk _ => .inl hk) hpS2 n [v0, v1, v2, v3] w p c (Nat.le_refl _) hlc hcm hst hpa hnb h.node.lt (.inl hw) hB ⟨hF, hY.lt⟩ (fun k hk => .inr hk) hpl)
 have HT := Lib.hid h.x
 have HOF := Lib.hid h.off
 have HBS := Lib.hid hbS
 obtain ⟨⟨c0, c1, c2, c3⟩, _⟩ := tree_cells h.blk
 obtain ⟨p5, q5, c5, d5, he⟩ := h.node.to.cells
 obtain ⟨rfl, rfl, rfl, rfl⟩ : v0 = _ ∧ v1 = _ ∧ v2 = _ ∧ v3 = _ := by simpa using he
 clear h hst he hB hw hnb hpS hpS2 hbS hF hY
 generalize n.kind.toNat = k0 at *
 generalize n.text = t0 at *
 generalize n.names.length = n0 at *
 generalize n.kids.length = m0 at *
 generalize hR : changedD (fun _ => y) place n = R at *
 clear hR
 go_enter Tryz.func164, Tryz.ntmps164
 go_wp2_with fail
 refine HC.out.mono ?_
 rintro e w2 ⟨⟨vs, rfl, hvs⟩, hg2, hp2⟩
 obtain ⟨p6, q6, c6, d6, rfl⟩ := nodeX_cells hvs
 have HVS := Lib.hid hvs
 have HG := Lib.hid hg2
 have HP := Lib.hid hp2
 have HTB := Lib.hid (HT.out.by hg2 (Ne.symm hpb))
 clear hvs hg2 hp2 c0 c1 c2 c3 HC
 obtain ⟨⟨c0, c1, c2, c3⟩, x0, x1, x2, x3⟩ := tree_cells HTB.out
 go_wp2_with fail
 go_end0
 have hb9 := grown_four (w := w2) (g := b) (.int .u8 R.kind.toNat) (.string R.text) (.slice p6 R.names.length c6) (.slice q6 R.kids.length d6)
 exact ⟨rfl, ⟨_, _, _, _, ⟨tree_set HTB.out _ _ _ _, HVS.out.grownBy hb9 HBS.out, HBS.out⟩⟩, but_two HG.out hb9⟩

set_option maxRecDepth 100000 in
set_option maxHeartbeats 2000000 in
theorem doM {w : World} {S0 : Nat → Prop} {b : Nat} {n : Nd} {v0 v1 v2 v3 : Value} (h : TreeS w S0 b n v0 v1 v2 v3) (hw : n.well = true) (hB : n.girth ≤ 200000000) {pb : Nat} {z0 z1 z2 z3 : Value} {p : Option Addr} {c : Nat} {place : List ByteArray} (hpb : pb ≠ b) (hpl : pb < w.heap.size) (hpS : ¬ S0 pb)
  (hF : Four w pb z0 z1 z2 z3) (hst : Strs w p place) (hlc : place.length ≤ c) (hcm : c ≤ maxLen) (hpa : ∀ a, p = some a → place.length ≠ 0 → a.block ≠ pb) (hnb : namesBulk place ≤ 200000000) :
  Calls Tryz.prog 164 #[.pointer (some ⟨b, 0, none⟩), .slice p place.length c, .func (.func 167) #[] #[.pointer (some ⟨pb, 0, none⟩)]] w fun e w' => e = .returned (.tuple #[]) ∧ (∃ x0 x1 x2 x3, TreeS w' (fun k => S0 k ∨ w.heap.size ≤ k) b (changedD (fun _ => absent) place n) x0 x1 x2 x3 ∧ (∀ y, reachD place n = some y → ∃ u0 u1 u2 u3, Four w' pb u0 u1 u2 u3 ∧ NodeX w' S0 [u0, u1, u2, u3] y)) ∧ GrownBut w w' b pb := by
 have hbl := h.x.lt
 have hbS : ¬ (S0 b ∨ w.heap.size ≤ b) := fun hh => hh.elim h.off (by omega)
 have hpS2 : ¬ (S0 pb ∨ w.heap.size ≤ pb) := fun hh => hh.elim hpS (by omega)
 have HC : Hid (Calls Tryz.prog 169 #[.agg #[v0, v1, v2, v3], .slice p place.length c, .func (.func 167) #[] #[.pointer (some ⟨pb, 0, none⟩)]] w fun e w' => (∃ vs, e = .returned (.agg vs) ∧ NodeX w' (fun k => S0 k ∨ w.heap.size ≤ k) vs.toList (changedD (fun _ => absent) place n)) ∧ w.grownBy w' (some pb) ∧ ∀ y, reachD place n = some y → (∃ u0 u1 u2 u3, Four w' pb u0 u1 u2 u3 ∧ NodeX w' (fun k => S0 k ∧ k < w.heap.size) [u0, u1, u2, u3] y)) :=
  Lib.hid (changed_move (L := w.heap.size) (m := pb) (S0 := S0) (f := (fun _ => absent)) (Inv := (fun w1 => ∃ z0 z1 z2 z3, Four w1 pb z0 z1 z2 z3)) (Post := fun y w' => (∃ u0 u1 u2 u3, Four w' pb u0 u1 u2 u3 ∧ NodeX w' (fun k => S0 k ∧ k < w.heap.size) [u0, u1, u2, u3] y))
   (fun w1 w2 g hi hg hL hm => let ⟨a, b, c, d, h⟩ := hi; ⟨a, b, c, d, h.by hg (Ne.symm hm)⟩)
   (fun y w1 w2 g hi hg hL hm => let ⟨a, b, c, d, h, h2⟩ := hi; ⟨a, b, c, d, h.by hg (Ne.symm hm), h2.grownBy hg (fun h => by have := h.2; omega)⟩) (fun h => hpS h.1) (move1_ok (fun h => hpS h.1)) place (fun k => S0 k ∨ w.heap.size ≤ k) (fun k hk _ => .inl hk) hpS2 n [v0, v1, v2, v3] w p c (Nat.le_refl _) hlc hcm hst hpa hnb h.node.lt (.inl hw) hB ⟨_, _, _, _, hF⟩ (fun k hk => .inr hk) hpl)
 have HT := Lib.hid h.x
 have HOF := Lib.hid h.off
 have HBS := Lib.hid hbS
 obtain ⟨⟨c0, c1, c2, c3⟩, _⟩ := tree_cells h.blk
 obtain ⟨p5, q5, c5, d5, he⟩ := h.node.to.cells
 obtain ⟨rfl, rfl, rfl, rfl⟩ : v0 = _ ∧ v1 = _ ∧ v2 = _ ∧ v3 = _ := by simpa using he
 clear h hst he hB hw hnb hpS hpS2 hbS hF
 generalize n.kind.toNat = k0 at *
 generalize n.text = t0 at *
 generalize n.names.length = n0 at *
 generalize n.kids.length = m0 at *
 generalize hR : changedD (fun _ => absent) place n = R at *
 clear hR
 go_enter Tryz.func164, Tryz.ntmps164
 go_wp2_with fail
 refine HC.out.mono ?_
 rintro e w2 ⟨⟨vs, rfl, hvs⟩, hg2, hp2⟩
 obtain ⟨p6, q6, c6, d6, rfl⟩ := nodeX_cells hvs
 have HVS := Lib.hid hvs
 have HG := Lib.hid hg2
 have HP := Lib.hid hp2
 have HTB := Lib.hid (HT.out.by hg2 (Ne.symm hpb))
 clear hvs hg2 hp2 c0 c1 c2 c3 HC
 obtain ⟨⟨c0, c1, c2, c3⟩, x0, x1, x2, x3⟩ := tree_cells HTB.out
 go_wp2_with fail
 go_end0
 have hb9 := grown_four (w := w2) (g := b) (.int .u8 R.kind.toNat) (.string R.text) (.slice p6 R.names.length c6) (.slice q6 R.kids.length d6)
 exact ⟨rfl, ⟨_, _, _, _, ⟨tree_set HTB.out _ _ _ _, HVS.out.grownBy hb9 HBS.out, HBS.out⟩, fun y hy => (let ⟨a, b, c, d, h, h2⟩ := HP.out y hy; ⟨a, b, c, d, h.by hb9 hpb, NodeX.weak (h2.grownBy hb9 (fun h => HOF.out h.1)) fun k hk => hk.1⟩)⟩, but_two HG.out hb9⟩

end Go.Proofs.YtfilbknnpjbmcaaGreatDoor
