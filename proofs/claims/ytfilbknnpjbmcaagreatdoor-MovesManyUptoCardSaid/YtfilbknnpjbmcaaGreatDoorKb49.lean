/- Walks: the statements' own check that package moves answers at all (works), true in any world: its drawn regions by Rg. -/
import Derived.Test.YtfilbknnpjbmcaaGreatDoorKb48
import Derived.Test.YtfilbknnpjbmcaaGreatDoorKb11
namespace Go.Proofs.YtfilbknnpjbmcaaGreatDoor
open Go.RowKit Px Nx Wk Dn Ox Mv
namespace Works13
def allOf (p : Nat → Prop) : Nat → Nat → Prop
 | _, 0 => True
 | i, n + 1 => p i ∧ allOf p (i + 1) n
theorem allOf_at {p : Nat → Prop} : ∀ (n i : Nat), allOf p i n → ∀ j, i ≤ j → j < i + n → p j
 | 0, i, _, j, h1, h2 => absurd h2 (by omega)
 | n + 1, i, h, j, h1, h2 => by
  rcases Nat.eq_or_lt_of_le h1 with rfl | h3
  ·exact h.1
  ·exact allOf_at n (i + 1) h.2 j h3 (by omega)
inductive Nice : Nd → Prop where
 | mk (kind : UInt8) (text : ByteArray) (names : List ByteArray) (kids : List Nd) : kind.toNat ≠ 0 → (∀ s ∈ names, s.size ≠ 0) → (∀ x ∈ kids, Nice x) → Nice (.mk kind text names kids)
theorem Bk.cell {w : World} {g : Nat} {vs : List Value} {t : TypeId} (h : Bk w g vs t) (j : Nat) : w.cell? ⟨g, j, none⟩ = vs[j]? := by
 rw [cell_of_row _ _ _ _ _ _ h]
 simp
theorem node_off {w : World} {g : Nat} {t : TypeId} (hz : Bk w g [.int .u8 0, .string ⟨#[]⟩, .slice none 0 0, .slice none 0 0] t) {cs : List Value} {n : Nd} (h : NodeR w cs n) (hn : Nice n) : NodeX w (fun b => b ≠ g) cs n := by
 induction h with
 | mk kind text names kids p q c d D h1 h2 h3 h5 h6 h7 h8 ih =>
  cases hn with
  | mk _ _ _ _ hk hs hx =>
  refine .mk kind text names kids p q c d D h1 h2 h3 (fun a ha hne => ?_) h5 h6 h7 (fun a ha hne => ?_) (fun i x hi => ih i x hi (hx x (List.mem_of_getElem? hi)))
  ·obtain ⟨b, o, hp, hc⟩ := h3 0 (by omega)
   obtain rfl : a = ⟨b, o, none⟩ := Option.some.inj (ha.symm.trans hp)
   rintro rfl
   rw [Nat.add_zero, hz.cell] at hc
   have he : names.getD 0 ByteArray.empty = names[0] := by rw [List.getD_eq_getElem?_getD, List.getElem?_eq_getElem (by omega)]; rfl
   have hne' := hs _ (List.getElem_mem (by omega : 0 < names.length))
   rw [he] at hc
   match o, hc with
   | 0, hc => cases hc
   | 1, hc => exact hne' (by injection hc with hc; injection hc with hc; rw [← hc]; rfl)
   | 2, hc => cases hc
   | 3, hc => cases hc
   | n + 4, hc => cases hc
  ·obtain ⟨b, o, hp, hl, hr⟩ := h7 0 (by omega)
   obtain rfl : a = ⟨b, o, none⟩ := Option.some.inj (ha.symm.trans hp)
   rintro rfl
   have hi : kids[0]? = some kids[0] := List.getElem?_eq_getElem (by omega)
   obtain ⟨p', q', c', d', hD⟩ := (h8 0 _ hi).cells
   have hk0 : Nice kids[0] := hx _ (List.getElem_mem _)
   have hc := hr 0 (.int .u8 (kids[0]).kind.toNat) (by rw [hD]; rfl)
   rw [Nat.zero_mul, Nat.add_zero, hz.cell] at hc
   have hkk : (kids[0]).kind.toNat ≠ 0 := by
    generalize kids[0] = x at hk0
    cases hk0 with
    | mk _ _ _ _ h _ _ => exact h
   match o, hc with
   | 0, hc => injection hc with hc; injection hc with _ hc; exact hkk (by omega)
   | 1, hc => cases hc
   | 2, hc => cases hc
   | 3, hc => cases hc
   | n + 4, hc => cases hc
theorem nice_leaf (k : UInt8) (s : ByteArray) (h : k.toNat ≠ 0) : Nice (.mk k s [] []) := .mk k s [] [] h (fun _ h => by cases h) (fun _ h => by cases h)
theorem nice_dD : Nice dD := .mk 2 _ _ _ (by decide) (fun s h => by simp only [List.mem_singleton] at h; subst h; decide) (fun x h => by simp only [List.mem_singleton] at h; subst h; exact nice_leaf 1 _ (by decide))
theorem nice_nN : Nice nN := .mk 2 _ _ _ (by decide) (fun s h => by
 simp only [List.mem_cons, List.not_mem_nil, or_false] at h
 rcases h with rfl | rfl <;> decide) (fun x h => by
 simp only [List.mem_cons, List.not_mem_nil, or_false] at h
 rcases h with rfl | rfl
 ·exact nice_leaf 1 _ (by decide)
 ·exact nice_dD)
def Own2 (B : Nat) (w : World) (v : Value) : Prop := ∃ g, v = .pointer (some ⟨g, 0, none⟩) ∧ B ≤ g ∧ Bk w g [.int .u8 0, .string ⟨#[]⟩, .slice none 0 0, .slice none 0 0] 25
def At2 (B : Nat) (w : World) (v : Value) : Prop := ∃ g c0 c1 c2 c3, v = .pointer (some ⟨g, 0, none⟩) ∧ B ≤ g ∧ Bk w g [c0, c1, c2, c3] 25 ∧ NodeR w [c0, c1, c2, c3] nN
def hold2 (B : Nat) : Nat → World → Value → Prop
 | 0, w, v => hold (.words [tA, tD]) w v
 | 1, w, v => hold (.node (fN tX)) w v
 | 2, w, v => hold (.node dD) w v
 | 3, w, v => hold (.kids [fN tX, dD]) w v
 | 4, w, v => hold (.node nN) w v
 | 5, w, v => Own2 B w v
 | _, _, _ => True
theorem hold2_kept {B : Nat} {j : Nat} {w w' : World} {v : Value} (hb : Below w.heap.size w w') (h : hold2 B j w v) : hold2 B j w' v := by
 match j, h with
 | 0, h => exact WordsAt.kept h hb
 | 1, h => exact NodeAt.kept h hb
 | 2, h => exact NodeAt.kept h hb
 | 3, h => exact KidsAt.kept h hb
 | 4, h => exact NodeAt.kept h hb
 | 5, ⟨g, e, h1, h2⟩ => exact ⟨g, e, h1, h2.kept hb⟩
 | n + 6, h => trivial
def p2 (B : Nat) (l : Array Bool) (j : Nat) (w : World) (v : Value) : Prop := (l.getD 6 false = true → j = 5 → At2 B w v) ∧ (l.getD 6 false = false → hold2 B j w v)
theorem p2_off {B : Nat} {l : Array Bool} {j : Nat} {w : World} {v : Value} (h : l.getD 6 false = false) (hh : hold2 B j w v) : p2 B l j w v := ⟨fun e => (by rw [h] at e; cases e), fun _ => hh⟩
set_option maxRecDepth 100000 in
set_option maxHeartbeats 64000000 in
theorem works_any (W : World) : Calls Tryz.prog 5 #[] W fun e w' => e = .returned (.bool true) ∧ Below W.heap.size W w' := by
 go_enter Tryz.func5, Tryz.ntmps5
 go_wp2_with fail
 refine (file_at _ _).mono ?_
 rintro e w1 ⟨⟨v, rfl, a0, a1, a2, a3, rfl, hf⟩, hb1⟩
 have HB1 : Hid (Below W.heap.size W w1) := Lib.hid ((below_alloc (Below.refl _ _)).trans (hb1.mono (below_alloc (Below.refl _ _)).size))
 have HK1 : Hid (WordsAt (w1.alloc (.cells #[a0, a1, a2, a3] 25)) (.slice (some ⟨W.heap.size, 0, none⟩) 1 1) [⟨#[101]⟩]) := Lib.hid ⟨_, rfl, ((Bk.new W [.string ⟨#[101]⟩] 9).kept hb1).al⟩
 have HK2 : Hid (KidsAt (w1.alloc (.cells #[a0, a1, a2, a3] 25)) (.slice (some ⟨w1.heap.size, 0, none⟩) 1 1) [fN ⟨#[]⟩]) := Lib.hid ⟨_, [a0, a1, a2, a3], rfl, Bk.new _ _ _, .cons _ _ _ _ rfl (NodeR.grown (below_alloc (Below.refl _ _)) hf) .nil⟩
 clear hb1 hf
 go_wp2_with fail
 refine (dir_at HK1.out HK2.out (of_decide_eq_true (by kernel_rfl)) (of_decide_eq_true (by kernel_rfl))).mono ?_
 rintro e w2 ⟨⟨v, rfl, d0, d1, d2, d3, rfl, hd⟩, hb2⟩
 obtain ⟨p, q, c, d, hcs⟩ := hd.cells
 simp only [List.cons.injEq, and_true] at hcs
 obtain ⟨rfl, rfl, rfl, rfl⟩ := hcs
 have HB2 : Hid (Below W.heap.size W (w2.alloc (.cells #[.int .u8 (dN [⟨#[101]⟩] [fN ⟨#[]⟩]).kind.toNat, .string (dN [⟨#[101]⟩] [fN ⟨#[]⟩]).text, .slice p (dN [⟨#[101]⟩] [fN ⟨#[]⟩]).names.length c, .slice q (dN [⟨#[101]⟩] [fN ⟨#[]⟩]).kids.length d] 25))) := Lib.hid (below_alloc ((below_alloc HB1.out).trans (hb2.mono (below_alloc HB1.out).size)))
 have HD : Hid (NodeR (w2.alloc (.cells #[.int .u8 (dN [⟨#[101]⟩] [fN ⟨#[]⟩]).kind.toNat, .string (dN [⟨#[101]⟩] [fN ⟨#[]⟩]).text, .slice p (dN [⟨#[101]⟩] [fN ⟨#[]⟩]).names.length c, .slice q (dN [⟨#[101]⟩] [fN ⟨#[]⟩]).kids.length d] 25)) [.int .u8 (dN [⟨#[101]⟩] [fN ⟨#[]⟩]).kind.toNat, .string (dN [⟨#[101]⟩] [fN ⟨#[]⟩]).text, .slice p (dN [⟨#[101]⟩] [fN ⟨#[]⟩]).names.length c, .slice q (dN [⟨#[101]⟩] [fN ⟨#[]⟩]).kids.length d] dD) := Lib.hid (NodeR.grown (below_alloc (Below.refl _ _)) hd)
 have HDB : Hid (Bk (w2.alloc (.cells #[.int .u8 (dN [⟨#[101]⟩] [fN ⟨#[]⟩]).kind.toNat, .string (dN [⟨#[101]⟩] [fN ⟨#[]⟩]).text, .slice p (dN [⟨#[101]⟩] [fN ⟨#[]⟩]).names.length c, .slice q (dN [⟨#[101]⟩] [fN ⟨#[]⟩]).kids.length d] 25)) w2.heap.size [.int .u8 (dN [⟨#[101]⟩] [fN ⟨#[]⟩]).kind.toNat, .string (dN [⟨#[101]⟩] [fN ⟨#[]⟩]).text, .slice p (dN [⟨#[101]⟩] [fN ⟨#[]⟩]).names.length c, .slice q (dN [⟨#[101]⟩] [fN ⟨#[]⟩]).kids.length d] 25) := Lib.hid (Bk.new _ _ _)
 clear hb2 hd HK1 HK2 HB1
 go_upto_region 2 with fail
 generalize w2.alloc (.cells #[.int .u8 (dN [⟨#[101]⟩] [fN ⟨#[]⟩]).kind.toNat, .string (dN [⟨#[101]⟩] [fN ⟨#[]⟩]).text, .slice p (dN [⟨#[101]⟩] [fN ⟨#[]⟩]).names.length c, .slice q (dN [⟨#[101]⟩] [fN ⟨#[]⟩]).kids.length d] 25) = w3 at *
 generalize w2.heap.size = gd at *
 have HC2 : Hid (∀ w, Below w3.heap.size w3 w → w.cell? ⟨gd, 0, none⟩ = some (.int .u8 (dN [⟨#[101]⟩] [fN ⟨#[]⟩]).kind.toNat) ∧ w.cell? ⟨gd, 1, none⟩ = some (.string (dN [⟨#[101]⟩] [fN ⟨#[]⟩]).text) ∧ w.cell? ⟨gd, 2, none⟩ = some (.slice p (dN [⟨#[101]⟩] [fN ⟨#[]⟩]).names.length c) ∧ w.cell? ⟨gd, 3, none⟩ = some (.slice q (dN [⟨#[101]⟩] [fN ⟨#[]⟩]).kids.length d)) := Lib.hid fun w hb => ⟨(HDB.out.kept hb).at rfl, (HDB.out.kept hb).at rfl, (HDB.out.kept hb).at rfl, (HDB.out.kept hb).at rfl⟩
 have HN2 : Hid (∀ w, Below w3.heap.size w3 w → NodeR w [.int .u8 (dN [⟨#[101]⟩] [fN ⟨#[]⟩]).kind.toNat, .string (dN [⟨#[101]⟩] [fN ⟨#[]⟩]).text, .slice p (dN [⟨#[101]⟩] [fN ⟨#[]⟩]).names.length c, .slice q (dN [⟨#[101]⟩] [fN ⟨#[]⟩]).kids.length d] dD) := Lib.hid fun w hb => NodeR.grown hb HD.out
 generalize Value.slice (some { block := W.heap.size, off := 0 }) 1 1 = s4
 generalize Value.slice (some { block := w1.heap.size, off := 0 }) 1 1 = s6
 generalize Value.agg #[a0, a1, a2, a3] = s5
 generalize hs7 : Value.agg #[.int .u8 (dN [⟨#[101]⟩] [fN ⟨#[]⟩]).kind.toNat, .string (dN [⟨#[101]⟩] [fN ⟨#[]⟩]).text, .slice p (dN [⟨#[101]⟩] [fN ⟨#[]⟩]).names.length c, .slice q (dN [⟨#[101]⟩] [fN ⟨#[]⟩]).kids.length d] = s7
 clear hs7 HDB HD
 refine Rg.region rfl 90 rfl (by kernel_rfl) (p2 w3.heap.size) [0, 1, 2, 3, 4, 5, 6] (by kernel_rfl) (by kernel_rfl) (fun i hi => allOf_at 7 0 (?_ : allOf (Rg.Step _ _ _ _ _ _ _) 0 7) i (Nat.zero_le _) hi) ?_
 ·refine ⟨?_, ?_, ?_, ?_, ?_, ?_, ?_, trivial⟩
  ·refine ⟨_, rfl, fun l a w hl hc hd hsz hb hk hv => ?_⟩
   have h6 : l.getD 6 false = false := Rg.not_yet hc hl (by kernel_rfl)
   have h6' : (l.setIfInBounds 0 true).getD 6 false = false := by rw [Rg.getD_set (by decide)]; exact h6
   refine ⟨rfl, fun K hK => ?_⟩
   have HM : Hid (∀ w' v, Below w.heap.size w w' → hold2 w3.heap.size 0 w' v → K (a.put (some 8) v) w') := Lib.hid fun w' v hb2 h => hK v w' (hb.trans (hb2.mono hb.size)) (fun j e _ _ h => p2_off h6' (hold2_kept hb2 (h.2 h6))) (fun _ => p2_off h6' h)
   clear hK hv hk hd hsz hl hc h6 h6'
   go_simp
   exact HM.out _ _ (below_alloc (Below.refl _ _)) ⟨_, rfl, Bk.new _ _ _⟩
  ·refine ⟨_, rfl, fun l a w hl hc hd hsz hb hk hv => ?_⟩
   have h6 : l.getD 6 false = false := Rg.not_yet hc hl (by kernel_rfl)
   have h6' : (l.setIfInBounds 1 true).getD 6 false = false := by rw [Rg.getD_set (by decide)]; exact h6
   refine ⟨rfl, fun K hK => ?_⟩
   have HM : Hid (∀ w' v, Below w.heap.size w w' → hold2 w3.heap.size 1 w' v → K (a.put (some 9) v) w') := Lib.hid fun w' v hb2 h => hK v w' (hb.trans (hb2.mono hb.size)) (fun j e _ _ h => p2_off h6' (hold2_kept hb2 (h.2 h6))) (fun _ => p2_off h6' h)
   clear hK hv hk hd hsz hl hc h6 h6'
   go_simp
   refine (file_at _ _).mono ?_
   rintro e w2 ⟨⟨v, rfl, hn⟩, hb2⟩
   exact HM.out _ _ hb2 hn
  ·refine ⟨_, rfl, fun l a w hl hc hd hsz hb hk hv => ?_⟩
   have h6 : l.getD 6 false = false := Rg.not_yet hc hl (by kernel_rfl)
   have h6' : (l.setIfInBounds 2 true).getD 6 false = false := by rw [Rg.getD_set (by decide)]; exact h6
   refine ⟨rfl, fun K hK => ?_⟩
   have e1 : a.tmps[1]?.getD undef = .pointer (some ⟨gd, 0, none⟩) := by rw [← Array.getD_eq_getD_getElem?]; exact hk 1 (by kernel_rfl)
   have hb0 := (Below.refl w3.heap.size w3).drew.trans hb
   obtain ⟨x0, x1, x2, x3⟩ := HC2.out w hb0
   have HND := Lib.hid (HN2.out w hb0)
   clear hb0
   have HM : Hid (∀ w' v, Below w.heap.size w w' → hold2 w3.heap.size 2 w' v → K (a.put (some 10) v) w') := Lib.hid fun w' v hb2 h => hK v w' (hb.trans (hb2.mono hb.size)) (fun j e _ _ h => p2_off h6' (hold2_kept hb2 (h.2 h6))) (fun _ => p2_off h6' h)
   clear hK hv hk hd hsz hl hc h6 h6'
   go_simp
   exact HM.out _ _ (Below.refl _ _) ⟨_, _, _, _, rfl, HND.out⟩
  ·refine ⟨_, rfl, fun l a w hl hc hd hsz hb hk hv => ?_⟩
   have h6 : l.getD 6 false = false := Rg.not_yet hc hl (by kernel_rfl)
   have h6' : (l.setIfInBounds 3 true).getD 6 false = false := by rw [Rg.getD_set (by decide)]; exact h6
   have v1 : hold (.node (fN tX)) w (a.tmps[9]?.getD undef) := by rw [← Array.getD_eq_getD_getElem?]; exact ((hv 1 (by kernel_rfl)).2 9 rfl).2 h6
   have v2 : hold (.node dD) w (a.tmps[10]?.getD undef) := by rw [← Array.getD_eq_getD_getElem?]; exact ((hv 2 (by kernel_rfl)).2 10 rfl).2 h6
   refine ⟨rfl, fun K hK => ?_⟩
   have HM : Hid (∀ w' v, Below w.heap.size w w' → hold2 w3.heap.size 3 w' v → K (a.put (some 11) v) w') := Lib.hid fun w' v hb2 h => hK v w' (hb.trans (hb2.mono hb.size)) (fun j e _ _ h => p2_off h6' (hold2_kept hb2 (h.2 h6))) (fun _ => p2_off h6' h)
   clear hK hv hk hd hsz hl hc h6 h6'
   obtain ⟨z00, z01, z02, z03, ez0, hz0⟩ := v1
   obtain ⟨z10, z11, z12, z13, ez1, hz1⟩ := v2
   have HZ0 := Lib.hid (NodeR.grown (below_alloc (o := .cells #[z00, z01, z02, z03, z10, z11, z12, z13] 25) (Below.refl w.heap.size w)) hz0)
   clear hz0
   have HZ1 := Lib.hid (NodeR.grown (below_alloc (o := .cells #[z00, z01, z02, z03, z10, z11, z12, z13] 25) (Below.refl w.heap.size w)) hz1)
   clear hz1
   go_simp
   exact HM.out _ _ (below_alloc (Below.refl _ _)) ⟨_, [z00, z01, z02, z03, z10, z11, z12, z13], rfl, Bk.new _ _ _, .cons _ _ _ _ rfl HZ0.out (.cons _ _ _ _ rfl HZ1.out .nil)⟩
  ·refine ⟨_, rfl, fun l a w hl hc hd hsz hb hk hv => ?_⟩
   have h6 : l.getD 6 false = false := Rg.not_yet hc hl (by kernel_rfl)
   have h6' : (l.setIfInBounds 4 true).getD 6 false = false := by rw [Rg.getD_set (by decide)]; exact h6
   have v0 : hold (.words [tA, tD]) w (a.tmps[8]?.getD undef) := by rw [← Array.getD_eq_getD_getElem?]; exact ((hv 0 (by kernel_rfl)).2 8 rfl).2 h6
   have v3 : hold (.kids [fN tX, dD]) w (a.tmps[11]?.getD undef) := by rw [← Array.getD_eq_getD_getElem?]; exact ((hv 3 (by kernel_rfl)).2 11 rfl).2 h6
   refine ⟨rfl, fun K hK => ?_⟩
   have HM : Hid (∀ w' v, Below w.heap.size w w' → hold2 w3.heap.size 4 w' v → K (a.put (some 12) v) w') := Lib.hid fun w' v hb2 h => hK v w' (hb.trans (hb2.mono hb.size)) (fun j e _ _ h => p2_off h6' (hold2_kept hb2 (h.2 h6))) (fun _ => p2_off h6' h)
   clear hK hv hk hd hsz hl hc h6 h6'
   have HD := Lib.hid (dir_at v0 v3 (of_decide_eq_true (by kernel_rfl)) (of_decide_eq_true (by kernel_rfl)))
   clear v0 v3
   go_simp
   refine HD.out.mono ?_
   rintro e w2 ⟨⟨v, rfl, hn⟩, hb2⟩
   exact HM.out _ _ hb2 hn
  ·refine ⟨_, rfl, fun l a w hl hc hd hsz hb hk hv => ?_⟩
   have h6 : l.getD 6 false = false := Rg.not_yet hc hl (by kernel_rfl)
   have h6' : (l.setIfInBounds 5 true).getD 6 false = false := by rw [Rg.getD_set (by decide)]; exact h6
   refine ⟨rfl, fun K hK => ?_⟩
   have HM : Hid (∀ w' v, Below w.heap.size w w' → hold2 w3.heap.size 5 w' v → K (a.put (some 2) v) w') := Lib.hid fun w' v hb2 h => hK v w' (hb.trans (hb2.mono hb.size)) (fun j e _ _ h => p2_off h6' (hold2_kept hb2 (h.2 h6))) (fun _ => p2_off h6' h)
   have HSZ := Lib.hid hb.size
   clear hK hv hk hd hsz hl hc h6 h6'
   go_simp
   exact HM.out _ _ (below_alloc (Below.refl _ _)) ⟨_, rfl, HSZ.out, Bk.new _ _ _⟩
  ·refine ⟨_, rfl, fun l a w hl hc hd hsz hb hk hv => ?_⟩
   have h6 : l.getD 6 false = false := Rg.unlisted hl
   have v5 : Own2 w3.heap.size w (a.tmps.getD 2 undef) := ((hv 5 (by kernel_rfl)).2 2 rfl).2 h6
   have v4 : NodeAt w (a.tmps.getD 12 undef) nN := ((hv 4 (by kernel_rfl)).2 12 rfl).2 h6
   refine ⟨rfl, fun K hK => ?_⟩
   obtain ⟨g, eg, hge, hz⟩ := v5
   obtain ⟨c0, c1, c2, c3, ec, hn⟩ := v4
   obtain ⟨p, q, c, d, hcs⟩ := hn.cells
   simp only [List.cons.injEq, and_true] at hcs
   obtain ⟨rfl, rfl, rfl, rfl⟩ := hcs
   refine wp_store_arr (b := g) (cs := #[.int .u8 0, .string ⟨#[]⟩, .slice none 0 0, .slice none 0 0]) rfl eg ec hz (by kernel_rfl) rfl (by first | kernel_rfl | simp [Value.oneCell'] | simp) ?_
   refine hK undef _ (below_setRow hb hge _) (fun j e hne he h => ?_) (fun h => absurd rfl h)
   refine ⟨fun _ hj => ?_, fun e => ?_⟩
   ·subst hj
    obtain rfl : (2 : Nat) = e := Option.some.inj he
    exact ⟨g, _, _, _, _, eg, hge, setRow_heap w g _ _ _ _ hz, ((node_off hz hn nice_nN).same fun b hb => ⟨by unfold World.setRow; rw [Array.getElem?_modify, if_neg (fun e => hb e.symm)], trivial⟩).to (S := fun _ => True)⟩
   ·rw [Rg.set_self hl] at e; cases e
 ·intro l a w hall hd hsz hb hk hv
  have hat := (hv 5 2 rfl).1 (hall 6 (by decide)) rfl
  clear hv hall
  obtain ⟨gn, n0, n1, n2, n3, eg, hgn, hbn, hnn⟩ := hat
  have ha := Rg.act_of hd hsz hk [(8, a.tmps.getD 8 undef), (9, a.tmps.getD 9 undef), (10, a.tmps.getD 10 undef), (11, a.tmps.getD 11 undef), (12, a.tmps.getD 12 undef), (2, .pointer (some ⟨gn, 0, none⟩))]
   (fun x hx => by
    simp only [List.mem_cons, List.not_mem_nil, or_false] at hx
    rcases hx with rfl | rfl | rfl | rfl | rfl | rfl <;> first | rfl | exact eg) rfl rfl
  clear hd hsz hk eg
  generalize a.tmps.getD 8 undef = y8 at ha
  generalize a.tmps.getD 9 undef = y9 at ha
  generalize a.tmps.getD 10 undef = y10 at ha
  generalize a.tmps.getD 11 undef = y11 at ha
  generalize a.tmps.getD 12 undef = y12 at ha
  subst ha
  simp only [Rg.setAll, List.setIfInBounds_toArray, List.set_cons_zero, List.set_cons_succ]
  have HB3 : Hid (Below w3.heap.size w3 w) := Lib.hid ((Below.refl w3.heap.size w3).drew.trans hb)
  have HBN : Hid (Bk w gn [n0, n1, n2, n3] 25) := Lib.hid hbn
  have HNN : Hid (NodeR w [n0, n1, n2, n3] nN) := Lib.hid hnn
  clear hb hbn hnn hgn
  go_wp2_with fail
  refine (file_at _ _).mono ?_
  rintro e w5 ⟨⟨v, rfl, f0, f1, f2, f3, rfl, hf⟩, hb5⟩
  have H5 : Hid (Below w.heap.size w w5) := Lib.hid ((below_alloc (Below.refl _ _)).trans (hb5.mono (below_alloc (Below.refl _ _)).size))
  have HW5 : Hid (Bk w5 w.heap.size [.string ⟨#[97]⟩, .string ⟨#[108]⟩] 9) := Lib.hid ((Bk.new w [.string ⟨#[97]⟩, .string ⟨#[108]⟩] 9).kept hb5)
  have HF5 : Hid (NodeR w5 [f0, f1, f2, f3] (fN ⟨#[120]⟩)) := Lib.hid hf
  clear hb5 hf
  go_wp2_with fail
  refine (link_at _ _).mono ?_
  rintro e w6 ⟨⟨v, rfl, g0, g1, g2, g3, rfl, hg⟩, hb6⟩
  have H6 : Hid (Below w.heap.size w w6) := Lib.hid (H5.out.trans (hb6.mono H5.out.size))
  have HW6 : Hid (WordsAt (w6.alloc (.cells #[f0, f1, f2, f3, g0, g1, g2, g3] 25)) (.slice (some ⟨w.heap.size, 0, none⟩) 2 2) [⟨#[97]⟩, ⟨#[108]⟩]) := Lib.hid ⟨_, rfl, (HW5.out.kept hb6).al⟩
  have HK6 : Hid (KidsAt (w6.alloc (.cells #[f0, f1, f2, f3, g0, g1, g2, g3] 25)) (.slice (some ⟨w6.heap.size, 0, none⟩) 2 2) [fN ⟨#[120]⟩, lN ⟨#[97]⟩]) := Lib.hid ⟨_, [f0, f1, f2, f3, g0, g1, g2, g3], rfl, Bk.new _ _ _, .cons _ _ _ _ rfl (NodeR.grown (below_alloc (Below.refl _ _)) (NodeR.grown hb6 HF5.out)) (.cons _ _ _ _ rfl (NodeR.grown (below_alloc (Below.refl _ _)) hg) .nil)⟩
  clear hb6 hg HF5 HW5 H5
  go_wp2_with fail
  refine (dir_at HW6.out HK6.out (of_decide_eq_true (by kernel_rfl)) (of_decide_eq_true (by kernel_rfl))).mono ?_
  rintro e w7 ⟨⟨v, rfl, b0, b1, b2, b3, rfl, hd⟩, hb7⟩
  obtain ⟨p', q', c', d', hcs⟩ := hd.cells
  simp only [List.cons.injEq, and_true] at hcs
  obtain ⟨rfl, rfl, rfl, rfl⟩ := hcs
  have H8 : Hid (Below w.heap.size w (w7.alloc (.cells #[.int .u8 (dN [⟨#[97]⟩, ⟨#[108]⟩] [fN ⟨#[120]⟩, lN ⟨#[97]⟩]).kind.toNat, .string (dN [⟨#[97]⟩, ⟨#[108]⟩] [fN ⟨#[120]⟩, lN ⟨#[97]⟩]).text, .slice p' (dN [⟨#[97]⟩, ⟨#[108]⟩] [fN ⟨#[120]⟩, lN ⟨#[97]⟩]).names.length c', .slice q' (dN [⟨#[97]⟩, ⟨#[108]⟩] [fN ⟨#[120]⟩, lN ⟨#[97]⟩]).kids.length d'] 25))) := Lib.hid (below_alloc ((below_alloc H6.out).trans (hb7.mono (below_alloc H6.out).size)))
  have HB8 : Hid (NodeR (w7.alloc (.cells #[.int .u8 (dN [⟨#[97]⟩, ⟨#[108]⟩] [fN ⟨#[120]⟩, lN ⟨#[97]⟩]).kind.toNat, .string (dN [⟨#[97]⟩, ⟨#[108]⟩] [fN ⟨#[120]⟩, lN ⟨#[97]⟩]).text, .slice p' (dN [⟨#[97]⟩, ⟨#[108]⟩] [fN ⟨#[120]⟩, lN ⟨#[97]⟩]).names.length c', .slice q' (dN [⟨#[97]⟩, ⟨#[108]⟩] [fN ⟨#[120]⟩, lN ⟨#[97]⟩]).kids.length d'] 25)) [.int .u8 (dN [⟨#[97]⟩, ⟨#[108]⟩] [fN ⟨#[120]⟩, lN ⟨#[97]⟩]).kind.toNat, .string (dN [⟨#[97]⟩, ⟨#[108]⟩] [fN ⟨#[120]⟩, lN ⟨#[97]⟩]).text, .slice p' (dN [⟨#[97]⟩, ⟨#[108]⟩] [fN ⟨#[120]⟩, lN ⟨#[97]⟩]).names.length c', .slice q' (dN [⟨#[97]⟩, ⟨#[108]⟩] [fN ⟨#[120]⟩, lN ⟨#[97]⟩]).kids.length d'] bN) := Lib.hid (NodeR.grown (below_alloc (Below.refl _ _)) hd)
  have HBB : Hid (Bk (w7.alloc (.cells #[.int .u8 (dN [⟨#[97]⟩, ⟨#[108]⟩] [fN ⟨#[120]⟩, lN ⟨#[97]⟩]).kind.toNat, .string (dN [⟨#[97]⟩, ⟨#[108]⟩] [fN ⟨#[120]⟩, lN ⟨#[97]⟩]).text, .slice p' (dN [⟨#[97]⟩, ⟨#[108]⟩] [fN ⟨#[120]⟩, lN ⟨#[97]⟩]).names.length c', .slice q' (dN [⟨#[97]⟩, ⟨#[108]⟩] [fN ⟨#[120]⟩, lN ⟨#[97]⟩]).kids.length d'] 25)) w7.heap.size [.int .u8 (dN [⟨#[97]⟩, ⟨#[108]⟩] [fN ⟨#[120]⟩, lN ⟨#[97]⟩]).kind.toNat, .string (dN [⟨#[97]⟩, ⟨#[108]⟩] [fN ⟨#[120]⟩, lN ⟨#[97]⟩]).text, .slice p' (dN [⟨#[97]⟩, ⟨#[108]⟩] [fN ⟨#[120]⟩, lN ⟨#[97]⟩]).names.length c', .slice q' (dN [⟨#[97]⟩, ⟨#[108]⟩] [fN ⟨#[120]⟩, lN ⟨#[97]⟩]).kids.length d'] 25) := Lib.hid (Bk.new _ _ _)
  clear hb7 hd HW6 HK6 H6
  go_upto_region 4 with fail
  generalize w7.alloc (.cells #[.int .u8 (dN [⟨#[97]⟩, ⟨#[108]⟩] [fN ⟨#[120]⟩, lN ⟨#[97]⟩]).kind.toNat, .string (dN [⟨#[97]⟩, ⟨#[108]⟩] [fN ⟨#[120]⟩, lN ⟨#[97]⟩]).text, .slice p' (dN [⟨#[97]⟩, ⟨#[108]⟩] [fN ⟨#[120]⟩, lN ⟨#[97]⟩]).names.length c', .slice q' (dN [⟨#[97]⟩, ⟨#[108]⟩] [fN ⟨#[120]⟩, lN ⟨#[97]⟩]).kids.length d'] 25) = w8 at *
  generalize w7.heap.size = gb at *
  have H38 : Hid (Below w3.heap.size w3 w8) := Lib.hid (HB3.out.trans (H8.out.mono HB3.out.size))
  have HCD : Hid (∀ w, Below w8.drew.heap.size w8.drew w → w.cell? ⟨gd, 0, none⟩ = some (.int .u8 (dN [⟨#[101]⟩] [fN ⟨#[]⟩]).kind.toNat) ∧ w.cell? ⟨gd, 1, none⟩ = some (.string (dN [⟨#[101]⟩] [fN ⟨#[]⟩]).text) ∧ w.cell? ⟨gd, 2, none⟩ = some (.slice p (dN [⟨#[101]⟩] [fN ⟨#[]⟩]).names.length c) ∧ w.cell? ⟨gd, 3, none⟩ = some (.slice q (dN [⟨#[101]⟩] [fN ⟨#[]⟩]).kids.length d)) := Lib.hid fun w hb => HC2.out w (H38.out.trans (((Below.refl w8.heap.size w8).drew.trans hb).mono H38.out.size))
  have HND1 : Hid (∀ w, Below w8.drew.heap.size w8.drew w → NodeR w [.int .u8 (dN [⟨#[101]⟩] [fN ⟨#[]⟩]).kind.toNat, .string (dN [⟨#[101]⟩] [fN ⟨#[]⟩]).text, .slice p (dN [⟨#[101]⟩] [fN ⟨#[]⟩]).names.length c, .slice q (dN [⟨#[101]⟩] [fN ⟨#[]⟩]).kids.length d] dD) := Lib.hid fun w hb => HN2.out w (H38.out.trans (((Below.refl w8.heap.size w8).drew.trans hb).mono H38.out.size))
  have HCN : Hid (∀ w, Below w8.drew.heap.size w8.drew w → w.cell? ⟨gn, 0, none⟩ = some (n0) ∧ w.cell? ⟨gn, 1, none⟩ = some (n1) ∧ w.cell? ⟨gn, 2, none⟩ = some (n2) ∧ w.cell? ⟨gn, 3, none⟩ = some (n3)) := Lib.hid fun w hb => ⟨((HBN.out.kept H8.out).kept ((Below.refl w8.heap.size w8).drew.trans hb)).at rfl, ((HBN.out.kept H8.out).kept ((Below.refl w8.heap.size w8).drew.trans hb)).at rfl, ((HBN.out.kept H8.out).kept ((Below.refl w8.heap.size w8).drew.trans hb)).at rfl, ((HBN.out.kept H8.out).kept ((Below.refl w8.heap.size w8).drew.trans hb)).at rfl⟩
  have HNN1 : Hid (∀ w, Below w8.drew.heap.size w8.drew w → NodeR w [n0, n1, n2, n3] nN) := Lib.hid fun w hb => NodeR.grown ((Below.refl w8.heap.size w8).drew.trans hb) (NodeR.grown H8.out HNN.out)
  have HCB : Hid (∀ w, Below w8.drew.heap.size w8.drew w → w.cell? ⟨gb, 0, none⟩ = some (.int .u8 (dN [⟨#[97]⟩, ⟨#[108]⟩] [fN ⟨#[120]⟩, lN ⟨#[97]⟩]).kind.toNat) ∧ w.cell? ⟨gb, 1, none⟩ = some (.string (dN [⟨#[97]⟩, ⟨#[108]⟩] [fN ⟨#[120]⟩, lN ⟨#[97]⟩]).text) ∧ w.cell? ⟨gb, 2, none⟩ = some (.slice p' (dN [⟨#[97]⟩, ⟨#[108]⟩] [fN ⟨#[120]⟩, lN ⟨#[97]⟩]).names.length c') ∧ w.cell? ⟨gb, 3, none⟩ = some (.slice q' (dN [⟨#[97]⟩, ⟨#[108]⟩] [fN ⟨#[120]⟩, lN ⟨#[97]⟩]).kids.length d')) := Lib.hid fun w hb => ⟨(HBB.out.kept ((Below.refl w8.heap.size w8).drew.trans hb)).at rfl, (HBB.out.kept ((Below.refl w8.heap.size w8).drew.trans hb)).at rfl, (HBB.out.kept ((Below.refl w8.heap.size w8).drew.trans hb)).at rfl, (HBB.out.kept ((Below.refl w8.heap.size w8).drew.trans hb)).at rfl⟩
  have HNB1 : Hid (∀ w, Below w8.drew.heap.size w8.drew w → NodeR w [.int .u8 (dN [⟨#[97]⟩, ⟨#[108]⟩] [fN ⟨#[120]⟩, lN ⟨#[97]⟩]).kind.toNat, .string (dN [⟨#[97]⟩, ⟨#[108]⟩] [fN ⟨#[120]⟩, lN ⟨#[97]⟩]).text, .slice p' (dN [⟨#[97]⟩, ⟨#[108]⟩] [fN ⟨#[120]⟩, lN ⟨#[97]⟩]).names.length c', .slice q' (dN [⟨#[97]⟩, ⟨#[108]⟩] [fN ⟨#[120]⟩, lN ⟨#[97]⟩]).kids.length d'] bN) := Lib.hid fun w hb => NodeR.grown ((Below.refl w8.heap.size w8).drew.trans hb) HB8.out
  have HBW : Hid (Below W.heap.size W w8) := Lib.hid (HB2.out.trans (H38.out.mono HB2.out.size))
  clear HB2 HB3 HC2 HN2 HBN HNN H8 HB8 HBB H38
  refine Rg.region rfl 90 rfl (by kernel_rfl) (fun _ j w v => hold (tab4.getD j .yes) w v) [0, 1, 2, 3, 4, 5, 6, 7, 8, 9, 10, 11, 12, 13, 14, 15, 16, 17, 18, 19, 20, 21, 22, 23, 24, 25, 26, 27, 28, 29, 30, 31, 32, 33, 34, 35, 36, 37, 38, 39, 40, 41, 42, 43, 44, 45, 46, 47, 48, 49, 50, 51, 52, 53, 54, 55, 56, 57, 58, 59, 60, 61, 62, 63, 64, 65, 66, 67, 68, 69, 70, 71, 72] (by kernel_rfl) (by kernel_rfl) (fun i hi => allOf_at 73 0 (?_ : allOf (Rg.Step _ _ _ _ _ _ _) 0 73) i (Nat.zero_le _) hi) ?_
  ·refine ⟨?_, ?_, ?_, ?_, ?_, ?_, ?_, ?_, ?_, ?_, ?_, ?_, ?_, ?_, ?_, ?_, ?_, ?_, ?_, ?_, ?_, ?_, ?_, ?_, ?_, ?_, ?_, ?_, ?_, ?_, ?_, ?_, ?_, ?_, ?_, ?_, ?_, ?_, ?_, ?_, ?_, ?_, ?_, ?_, ?_, ?_, ?_, ?_, ?_, ?_, ?_, ?_, ?_, ?_, ?_, ?_, ?_, ?_, ?_, ?_, ?_, ?_, ?_, ?_, ?_, ?_, ?_, ?_, ?_, ?_, ?_, ?_, ?_, trivial⟩
   ·refine ⟨_, rfl, fun l a w hl hc hd hsz hb hk hv => ?_⟩
    refine ⟨rfl, fun K hK => ?_⟩
    have e2 : a.tmps[2]?.getD undef = .pointer (some ⟨gn, 0, none⟩) := by rw [← Array.getD_eq_getD_getElem?]; exact hk 2 (by kernel_rfl)
    obtain ⟨a0, a1, a2, a3⟩ := HCN.out w hb
    have HND := Lib.hid (HNN1.out w hb)
    have HM : Hid (∀ w' v, Below w.heap.size w w' → hold (.node nN) w' v → K (a.put (some 18) v) w') := Lib.hid fun w' v hb2 h => hK v w' (hb.trans (hb2.mono hb.size)) (fun j e _ _ h => hold_kept hb2 h) (fun _ => h)
    clear hK hv hk hd hsz hl hc
    go_simp
    exact HM.out _ _ (Below.refl _ _) ⟨_, _, _, _, rfl, HND.out⟩
   ·refine ⟨_, rfl, fun l a w hl hc hd hsz hb hk hv => ?_⟩
    refine ⟨rfl, fun K hK => ?_⟩
    have HM : Hid (∀ w' v, Below w.heap.size w w' → hold (.words [⟨#[100]⟩]) w' v → K (a.put (some 19) v) w') := Lib.hid fun w' v hb2 h => hK v w' (hb.trans (hb2.mono hb.size)) (fun j e _ _ h => hold_kept hb2 h) (fun _ => h)
    clear hK hv hk hd hsz hl hc
    go_simp
    exact HM.out _ _ (below_alloc (Below.refl _ _)) ⟨_, rfl, Bk.new _ _ _⟩
   ·refine ⟨_, rfl, fun l a w hl hc hd hsz hb hk hv => ?_⟩
    refine ⟨rfl, fun K hK => ?_⟩
    have HM : Hid (∀ w' v, Below w.heap.size w w' → hold (.words [⟨#[97]⟩, ⟨#[101]⟩]) w' v → K (a.put (some 20) v) w') := Lib.hid fun w' v hb2 h => hK v w' (hb.trans (hb2.mono hb.size)) (fun j e _ _ h => hold_kept hb2 h) (fun _ => h)
    clear hK hv hk hd hsz hl hc
    go_simp
    exact HM.out _ _ (below_alloc (Below.refl _ _)) ⟨_, rfl, Bk.new _ _ _⟩
   ·refine ⟨_, rfl, fun l a w hl hc hd hsz hb hk hv => ?_⟩
    refine ⟨rfl, fun K hK => ?_⟩
    have HM : Hid (∀ w' v, Below w.heap.size w w' → hold (.node (fN ⟨#[120]⟩)) w' v → K (a.put (some 21) v) w') := Lib.hid fun w' v hb2 h => hK v w' (hb.trans (hb2.mono hb.size)) (fun j e _ _ h => hold_kept hb2 h) (fun _ => h)
    clear hK hv hk hd hsz hl hc
    go_simp
    refine (file_at _ _).mono ?_
    rintro e w2 ⟨⟨v, rfl, hn⟩, hb2⟩
    exact HM.out _ _ hb2 hn
   ·refine ⟨_, rfl, fun l a w hl hc hd hsz hb hk hv => ?_⟩
    refine ⟨rfl, fun K hK => ?_⟩
    have HM : Hid (∀ w' v, Below w.heap.size w w' → hold (.node (fN ⟨#[]⟩)) w' v → K (a.put (some 22) v) w') := Lib.hid fun w' v hb2 h => hK v w' (hb.trans (hb2.mono hb.size)) (fun j e _ _ h => hold_kept hb2 h) (fun _ => h)
    clear hK hv hk hd hsz hl hc
    go_simp
    refine (file_at _ _).mono ?_
    rintro e w2 ⟨⟨v, rfl, hn⟩, hb2⟩
    exact HM.out _ _ hb2 hn
   ·refine ⟨_, rfl, fun l a w hl hc hd hsz hb hk hv => ?_⟩
    have v3 : hold (.node (fN ⟨#[120]⟩)) w (a.tmps[21]?.getD undef) := by rw [← Array.getD_eq_getD_getElem?]; exact (hv 3 (by kernel_rfl)).2 21 rfl
    have v4 : hold (.node (fN ⟨#[]⟩)) w (a.tmps[22]?.getD undef) := by rw [← Array.getD_eq_getD_getElem?]; exact (hv 4 (by kernel_rfl)).2 22 rfl
    refine ⟨rfl, fun K hK => ?_⟩
    have HM : Hid (∀ w' v, Below w.heap.size w w' → hold (.kids [(fN ⟨#[120]⟩), (fN ⟨#[]⟩)]) w' v → K (a.put (some 23) v) w') := Lib.hid fun w' v hb2 h => hK v w' (hb.trans (hb2.mono hb.size)) (fun j e _ _ h => hold_kept hb2 h) (fun _ => h)
    clear hK hv hk hd hsz hl hc
    obtain ⟨z00, z01, z02, z03, ez0, hz0⟩ := v3
    obtain ⟨z10, z11, z12, z13, ez1, hz1⟩ := v4
    have HZ0 := Lib.hid (NodeR.grown (below_alloc (o := .cells #[z00, z01, z02, z03, z10, z11, z12, z13] 25) (Below.refl w.heap.size w)) hz0)
    clear hz0
    have HZ1 := Lib.hid (NodeR.grown (below_alloc (o := .cells #[z00, z01, z02, z03, z10, z11, z12, z13] 25) (Below.refl w.heap.size w)) hz1)
    clear hz1
    go_simp
    exact HM.out _ _ (below_alloc (Below.refl _ _)) ⟨_, [z00, z01, z02, z03, z10, z11, z12, z13], rfl, Bk.new _ _ _, (.cons _ _ _ _ rfl HZ0.out (.cons _ _ _ _ rfl HZ1.out .nil))⟩
   ·refine ⟨_, rfl, fun l a w hl hc hd hsz hb hk hv => ?_⟩
    have v2 : hold (.words [⟨#[97]⟩, ⟨#[101]⟩]) w (a.tmps[20]?.getD undef) := by rw [← Array.getD_eq_getD_getElem?]; exact (hv 2 (by kernel_rfl)).2 20 rfl
    have v5 : hold (.kids [(fN ⟨#[120]⟩), (fN ⟨#[]⟩)]) w (a.tmps[23]?.getD undef) := by rw [← Array.getD_eq_getD_getElem?]; exact (hv 5 (by kernel_rfl)).2 23 rfl
    refine ⟨rfl, fun K hK => ?_⟩
    have HM : Hid (∀ w' v, Below w.heap.size w w' → hold (.node (dN [⟨#[97]⟩, ⟨#[101]⟩] [(fN ⟨#[120]⟩), (fN ⟨#[]⟩)])) w' v → K (a.put (some 24) v) w') := Lib.hid fun w' v hb2 h => hK v w' (hb.trans (hb2.mono hb.size)) (fun j e _ _ h => hold_kept hb2 h) (fun _ => h)
    clear hK hv hk hd hsz hl hc
    have HD := Lib.hid (dir_at v2 v5 (of_decide_eq_true (by kernel_rfl)) (of_decide_eq_true (by kernel_rfl)))
    clear v2 v5
    go_simp
    refine HD.out.mono ?_
    rintro e w2 ⟨⟨v, rfl, hn⟩, hb2⟩
    exact HM.out _ _ hb2 hn
   ·refine ⟨_, rfl, fun l a w hl hc hd hsz hb hk hv => ?_⟩
    have v6 : hold (.node (dN [⟨#[97]⟩, ⟨#[101]⟩] [(fN ⟨#[120]⟩), (fN ⟨#[]⟩)])) w (a.tmps[24]?.getD undef) := by rw [← Array.getD_eq_getD_getElem?]; exact (hv 6 (by kernel_rfl)).2 24 rfl
    refine ⟨rfl, fun K hK => ?_⟩
    have HM : Hid (∀ w' v, Below w.heap.size w w' → hold (.kids [(dN [⟨#[97]⟩, ⟨#[101]⟩] [(fN ⟨#[120]⟩), (fN ⟨#[]⟩)])]) w' v → K (a.put (some 25) v) w') := Lib.hid fun w' v hb2 h => hK v w' (hb.trans (hb2.mono hb.size)) (fun j e _ _ h => hold_kept hb2 h) (fun _ => h)
    clear hK hv hk hd hsz hl hc
    obtain ⟨z00, z01, z02, z03, ez0, hz0⟩ := v6
    have HZ0 := Lib.hid (NodeR.grown (below_alloc (o := .cells #[z00, z01, z02, z03] 25) (Below.refl w.heap.size w)) hz0)
    clear hz0
    go_simp
    exact HM.out _ _ (below_alloc (Below.refl _ _)) ⟨_, [z00, z01, z02, z03], rfl, Bk.new _ _ _, (.cons _ _ _ _ rfl HZ0.out .nil)⟩
   ·refine ⟨_, rfl, fun l a w hl hc hd hsz hb hk hv => ?_⟩
    have v1 : hold (.words [⟨#[100]⟩]) w (a.tmps[19]?.getD undef) := by rw [← Array.getD_eq_getD_getElem?]; exact (hv 1 (by kernel_rfl)).2 19 rfl
    have v7 : hold (.kids [(dN [⟨#[97]⟩, ⟨#[101]⟩] [(fN ⟨#[120]⟩), (fN ⟨#[]⟩)])]) w (a.tmps[25]?.getD undef) := by rw [← Array.getD_eq_getD_getElem?]; exact (hv 7 (by kernel_rfl)).2 25 rfl
    refine ⟨rfl, fun K hK => ?_⟩
    have HM : Hid (∀ w' v, Below w.heap.size w w' → hold (.node (dN [⟨#[100]⟩] [(dN [⟨#[97]⟩, ⟨#[101]⟩] [(fN ⟨#[120]⟩), (fN ⟨#[]⟩)])])) w' v → K (a.put (some 26) v) w') := Lib.hid fun w' v hb2 h => hK v w' (hb.trans (hb2.mono hb.size)) (fun j e _ _ h => hold_kept hb2 h) (fun _ => h)
    clear hK hv hk hd hsz hl hc
    have HD := Lib.hid (dir_at v1 v7 (of_decide_eq_true (by kernel_rfl)) (of_decide_eq_true (by kernel_rfl)))
    clear v1 v7
    go_simp
    refine HD.out.mono ?_
    rintro e w2 ⟨⟨v, rfl, hn⟩, hb2⟩
    exact HM.out _ _ hb2 hn
   ·refine ⟨_, rfl, fun l a w hl hc hd hsz hb hk hv => ?_⟩
    refine ⟨rfl, fun K hK => ?_⟩
    have HM : Hid (∀ w' v, Below w.heap.size w w' → hold (.words [⟨#[109, 118]⟩, ⟨#[97]⟩, ⟨#[100]⟩]) w' v → K (a.put (some 27) v) w') := Lib.hid fun w' v hb2 h => hK v w' (hb.trans (hb2.mono hb.size)) (fun j e _ _ h => hold_kept hb2 h) (fun _ => h)
    clear hK hv hk hd hsz hl hc
    go_simp
    exact HM.out _ _ (below_alloc (Below.refl _ _)) ⟨_, rfl, Bk.new _ _ _⟩
   ·refine ⟨_, rfl, fun l a w hl hc hd hsz hb hk hv => ?_⟩
    have v0 : hold (.node nN) w (a.tmps[18]?.getD undef) := by rw [← Array.getD_eq_getD_getElem?]; exact (hv 0 (by kernel_rfl)).2 18 rfl
    have v8 : hold (.node (dN [⟨#[100]⟩] [(dN [⟨#[97]⟩, ⟨#[101]⟩] [(fN ⟨#[120]⟩), (fN ⟨#[]⟩)])])) w (a.tmps[26]?.getD undef) := by rw [← Array.getD_eq_getD_getElem?]; exact (hv 8 (by kernel_rfl)).2 26 rfl
    have v9 : hold (.words [⟨#[109, 118]⟩, ⟨#[97]⟩, ⟨#[100]⟩]) w (a.tmps[27]?.getD undef) := by rw [← Array.getD_eq_getD_getElem?]; exact (hv 9 (by kernel_rfl)).2 27 rfl
    refine ⟨rfl, fun K hK => ?_⟩
    have HM : Hid (∀ w' v, Below w.heap.size w w' → hold .yes w' v → K (a.put (some 28) v) w') := Lib.hid fun w' v hb2 h => hK v w' (hb.trans (hb2.mono hb.size)) (fun j e _ _ h => hold_kept hb2 h) (fun _ => h)
    clear hK hv hk hd hsz hl hc
    have HD := Lib.hid (call1 v0 v8 v9)
    clear v0 v8 v9
    go_simp
    refine HD.out.mono ?_
    rintro e w2 ⟨rfl, hb2⟩
    exact HM.out _ _ hb2 rfl
   ·refine ⟨_, rfl, fun l a w hl hc hd hsz hb hk hv => ?_⟩
    have v10 : hold .yes w (a.tmps[28]?.getD undef) := by rw [← Array.getD_eq_getD_getElem?]; exact (hv 10 (by kernel_rfl)).2 28 rfl
    refine ⟨rfl, fun K hK => ?_⟩
    have HM : Hid (∀ w' v, Below w.heap.size w w' → hold .yes w' v → K (a.put (some 29) v) w') := Lib.hid fun w' v hb2 h => hK v w' (hb.trans (hb2.mono hb.size)) (fun j e _ _ h => hold_kept hb2 h) (fun _ => h)
    clear hK hv hk hd hsz hl hc
    have v10 : a.tmps[28]?.getD undef = .bool true := v10
    go_simp
    exact HM.out _ _ (Below.refl _ _) rfl
   ·refine ⟨_, rfl, fun l a w hl hc hd hsz hb hk hv => ?_⟩
    have v11 : hold .yes w (a.tmps[29]?.getD undef) := by rw [← Array.getD_eq_getD_getElem?]; exact (hv 11 (by kernel_rfl)).2 29 rfl
    refine ⟨Rg.wanted (g := 11) (d := 29) rfl rfl (by rw [Array.getD_eq_getD_getElem?]; exact v11), fun K hK => ?_⟩
    have e2 : a.tmps[2]?.getD undef = .pointer (some ⟨gn, 0, none⟩) := by rw [← Array.getD_eq_getD_getElem?]; exact hk 2 (by kernel_rfl)
    obtain ⟨a0, a1, a2, a3⟩ := HCN.out w hb
    have HND := Lib.hid (HNN1.out w hb)
    have HM : Hid (∀ w' v, Below w.heap.size w w' → hold (.node nN) w' v → K (a.put (some 30) v) w') := Lib.hid fun w' v hb2 h => hK v w' (hb.trans (hb2.mono hb.size)) (fun j e _ _ h => hold_kept hb2 h) (fun _ => h)
    clear hK hv hk hd hsz hl hc
    go_simp
    exact HM.out _ _ (Below.refl _ _) ⟨_, _, _, _, rfl, HND.out⟩
   ·refine ⟨_, rfl, fun l a w hl hc hd hsz hb hk hv => ?_⟩
    have v11 : hold .yes w (a.tmps[29]?.getD undef) := by rw [← Array.getD_eq_getD_getElem?]; exact (hv 11 (by kernel_rfl)).2 29 rfl
    refine ⟨Rg.wanted (g := 11) (d := 29) rfl rfl (by rw [Array.getD_eq_getD_getElem?]; exact v11), fun K hK => ?_⟩
    have e2 : a.tmps[2]?.getD undef = .pointer (some ⟨gn, 0, none⟩) := by rw [← Array.getD_eq_getD_getElem?]; exact hk 2 (by kernel_rfl)
    obtain ⟨a0, a1, a2, a3⟩ := HCN.out w hb
    have HND := Lib.hid (HNN1.out w hb)
    have HM : Hid (∀ w' v, Below w.heap.size w w' → hold (.node nN) w' v → K (a.put (some 31) v) w') := Lib.hid fun w' v hb2 h => hK v w' (hb.trans (hb2.mono hb.size)) (fun j e _ _ h => hold_kept hb2 h) (fun _ => h)
    clear hK hv hk hd hsz hl hc
    go_simp
    exact HM.out _ _ (Below.refl _ _) ⟨_, _, _, _, rfl, HND.out⟩
   ·refine ⟨_, rfl, fun l a w hl hc hd hsz hb hk hv => ?_⟩
    have v11 : hold .yes w (a.tmps[29]?.getD undef) := by rw [← Array.getD_eq_getD_getElem?]; exact (hv 11 (by kernel_rfl)).2 29 rfl
    refine ⟨Rg.wanted (g := 11) (d := 29) rfl rfl (by rw [Array.getD_eq_getD_getElem?]; exact v11), fun K hK => ?_⟩
    have HM : Hid (∀ w' v, Below w.heap.size w w' → hold (.words [⟨#[109, 118]⟩, ⟨#[97]⟩, ⟨#[98]⟩, ⟨#[99]⟩]) w' v → K (a.put (some 32) v) w') := Lib.hid fun w' v hb2 h => hK v w' (hb.trans (hb2.mono hb.size)) (fun j e _ _ h => hold_kept hb2 h) (fun _ => h)
    clear hK hv hk hd hsz hl hc
    go_simp
    exact HM.out _ _ (below_alloc (Below.refl _ _)) ⟨_, rfl, Bk.new _ _ _⟩
   ·refine ⟨_, rfl, fun l a w hl hc hd hsz hb hk hv => ?_⟩
    have v12 : hold (.node nN) w (a.tmps[30]?.getD undef) := by rw [← Array.getD_eq_getD_getElem?]; exact (hv 12 (by kernel_rfl)).2 30 rfl
    have v13 : hold (.node nN) w (a.tmps[31]?.getD undef) := by rw [← Array.getD_eq_getD_getElem?]; exact (hv 13 (by kernel_rfl)).2 31 rfl
    have v14 : hold (.words [⟨#[109, 118]⟩, ⟨#[97]⟩, ⟨#[98]⟩, ⟨#[99]⟩]) w (a.tmps[32]?.getD undef) := by rw [← Array.getD_eq_getD_getElem?]; exact (hv 14 (by kernel_rfl)).2 32 rfl
    have v11 : hold .yes w (a.tmps[29]?.getD undef) := by rw [← Array.getD_eq_getD_getElem?]; exact (hv 11 (by kernel_rfl)).2 29 rfl
    refine ⟨Rg.wanted (g := 11) (d := 29) rfl rfl (by rw [Array.getD_eq_getD_getElem?]; exact v11), fun K hK => ?_⟩
    have HM : Hid (∀ w' v, Below w.heap.size w w' → hold .yes w' v → K (a.put (some 33) v) w') := Lib.hid fun w' v hb2 h => hK v w' (hb.trans (hb2.mono hb.size)) (fun j e _ _ h => hold_kept hb2 h) (fun _ => h)
    clear hK hv hk hd hsz hl hc
    have HD := Lib.hid (call2 v12 v13 v14)
    clear v12 v13 v14
    go_simp
    refine HD.out.mono ?_
    rintro e w2 ⟨rfl, hb2⟩
    exact HM.out _ _ hb2 rfl
   ·refine ⟨_, rfl, fun l a w hl hc hd hsz hb hk hv => ?_⟩
    have v11 : hold .yes w (a.tmps[29]?.getD undef) := by rw [← Array.getD_eq_getD_getElem?]; exact (hv 11 (by kernel_rfl)).2 29 rfl
    have v15 : hold .yes w (a.tmps[33]?.getD undef) := by rw [← Array.getD_eq_getD_getElem?]; exact (hv 15 (by kernel_rfl)).2 33 rfl
    refine ⟨rfl, fun K hK => ?_⟩
    have HM : Hid (∀ w' v, Below w.heap.size w w' → hold .yes w' v → K (a.put (some 34) v) w') := Lib.hid fun w' v hb2 h => hK v w' (hb.trans (hb2.mono hb.size)) (fun j e _ _ h => hold_kept hb2 h) (fun _ => h)
    clear hK hv hk hd hsz hl hc
    have v11 : a.tmps[29]?.getD undef = .bool true := v11
    have v15 : a.tmps[33]?.getD undef = .bool true := v15
    go_simp
    exact HM.out _ _ (Below.refl _ _) rfl
   ·refine ⟨_, rfl, fun l a w hl hc hd hsz hb hk hv => ?_⟩
    have v16 : hold .yes w (a.tmps[34]?.getD undef) := by rw [← Array.getD_eq_getD_getElem?]; exact (hv 16 (by kernel_rfl)).2 34 rfl
    refine ⟨rfl, fun K hK => ?_⟩
    have HM : Hid (∀ w' v, Below w.heap.size w w' → hold .yes w' v → K (a.put (some 35) v) w') := Lib.hid fun w' v hb2 h => hK v w' (hb.trans (hb2.mono hb.size)) (fun j e _ _ h => hold_kept hb2 h) (fun _ => h)
    clear hK hv hk hd hsz hl hc
    have v16 : a.tmps[34]?.getD undef = .bool true := v16
    go_simp
    exact HM.out _ _ (Below.refl _ _) rfl
   ·refine ⟨_, rfl, fun l a w hl hc hd hsz hb hk hv => ?_⟩
    have v17 : hold .yes w (a.tmps[35]?.getD undef) := by rw [← Array.getD_eq_getD_getElem?]; exact (hv 17 (by kernel_rfl)).2 35 rfl
    refine ⟨Rg.wanted (g := 17) (d := 35) rfl rfl (by rw [Array.getD_eq_getD_getElem?]; exact v17), fun K hK => ?_⟩
    have e2 : a.tmps[2]?.getD undef = .pointer (some ⟨gn, 0, none⟩) := by rw [← Array.getD_eq_getD_getElem?]; exact hk 2 (by kernel_rfl)
    obtain ⟨a0, a1, a2, a3⟩ := HCN.out w hb
    have HND := Lib.hid (HNN1.out w hb)
    have HM : Hid (∀ w' v, Below w.heap.size w w' → hold (.node nN) w' v → K (a.put (some 36) v) w') := Lib.hid fun w' v hb2 h => hK v w' (hb.trans (hb2.mono hb.size)) (fun j e _ _ h => hold_kept hb2 h) (fun _ => h)
    clear hK hv hk hd hsz hl hc
    go_simp
    exact HM.out _ _ (Below.refl _ _) ⟨_, _, _, _, rfl, HND.out⟩
   ·refine ⟨_, rfl, fun l a w hl hc hd hsz hb hk hv => ?_⟩
    have v17 : hold .yes w (a.tmps[35]?.getD undef) := by rw [← Array.getD_eq_getD_getElem?]; exact (hv 17 (by kernel_rfl)).2 35 rfl
    refine ⟨Rg.wanted (g := 17) (d := 35) rfl rfl (by rw [Array.getD_eq_getD_getElem?]; exact v17), fun K hK => ?_⟩
    have e2 : a.tmps[2]?.getD undef = .pointer (some ⟨gn, 0, none⟩) := by rw [← Array.getD_eq_getD_getElem?]; exact hk 2 (by kernel_rfl)
    obtain ⟨a0, a1, a2, a3⟩ := HCN.out w hb
    have HND := Lib.hid (HNN1.out w hb)
    have HM : Hid (∀ w' v, Below w.heap.size w w' → hold (.node nN) w' v → K (a.put (some 37) v) w') := Lib.hid fun w' v hb2 h => hK v w' (hb.trans (hb2.mono hb.size)) (fun j e _ _ h => hold_kept hb2 h) (fun _ => h)
    clear hK hv hk hd hsz hl hc
    go_simp
    exact HM.out _ _ (Below.refl _ _) ⟨_, _, _, _, rfl, HND.out⟩
   ·refine ⟨_, rfl, fun l a w hl hc hd hsz hb hk hv => ?_⟩
    have v17 : hold .yes w (a.tmps[35]?.getD undef) := by rw [← Array.getD_eq_getD_getElem?]; exact (hv 17 (by kernel_rfl)).2 35 rfl
    refine ⟨Rg.wanted (g := 17) (d := 35) rfl rfl (by rw [Array.getD_eq_getD_getElem?]; exact v17), fun K hK => ?_⟩
    have HM : Hid (∀ w' v, Below w.heap.size w w' → hold (.words [⟨#[109, 118]⟩, ⟨#[100]⟩, ⟨#[100]⟩]) w' v → K (a.put (some 38) v) w') := Lib.hid fun w' v hb2 h => hK v w' (hb.trans (hb2.mono hb.size)) (fun j e _ _ h => hold_kept hb2 h) (fun _ => h)
    clear hK hv hk hd hsz hl hc
    go_simp
    exact HM.out _ _ (below_alloc (Below.refl _ _)) ⟨_, rfl, Bk.new _ _ _⟩
   ·refine ⟨_, rfl, fun l a w hl hc hd hsz hb hk hv => ?_⟩
    have v18 : hold (.node nN) w (a.tmps[36]?.getD undef) := by rw [← Array.getD_eq_getD_getElem?]; exact (hv 18 (by kernel_rfl)).2 36 rfl
    have v19 : hold (.node nN) w (a.tmps[37]?.getD undef) := by rw [← Array.getD_eq_getD_getElem?]; exact (hv 19 (by kernel_rfl)).2 37 rfl
    have v20 : hold (.words [⟨#[109, 118]⟩, ⟨#[100]⟩, ⟨#[100]⟩]) w (a.tmps[38]?.getD undef) := by rw [← Array.getD_eq_getD_getElem?]; exact (hv 20 (by kernel_rfl)).2 38 rfl
    have v17 : hold .yes w (a.tmps[35]?.getD undef) := by rw [← Array.getD_eq_getD_getElem?]; exact (hv 17 (by kernel_rfl)).2 35 rfl
    refine ⟨Rg.wanted (g := 17) (d := 35) rfl rfl (by rw [Array.getD_eq_getD_getElem?]; exact v17), fun K hK => ?_⟩
    have HM : Hid (∀ w' v, Below w.heap.size w w' → hold .yes w' v → K (a.put (some 39) v) w') := Lib.hid fun w' v hb2 h => hK v w' (hb.trans (hb2.mono hb.size)) (fun j e _ _ h => hold_kept hb2 h) (fun _ => h)
    clear hK hv hk hd hsz hl hc
    have HD := Lib.hid (call3 v18 v19 v20)
    clear v18 v19 v20
    go_simp
    refine HD.out.mono ?_
    rintro e w2 ⟨rfl, hb2⟩
    exact HM.out _ _ hb2 rfl
   ·refine ⟨_, rfl, fun l a w hl hc hd hsz hb hk hv => ?_⟩
    have v17 : hold .yes w (a.tmps[35]?.getD undef) := by rw [← Array.getD_eq_getD_getElem?]; exact (hv 17 (by kernel_rfl)).2 35 rfl
    have v21 : hold .yes w (a.tmps[39]?.getD undef) := by rw [← Array.getD_eq_getD_getElem?]; exact (hv 21 (by kernel_rfl)).2 39 rfl
    refine ⟨rfl, fun K hK => ?_⟩
    have HM : Hid (∀ w' v, Below w.heap.size w w' → hold .yes w' v → K (a.put (some 40) v) w') := Lib.hid fun w' v hb2 h => hK v w' (hb.trans (hb2.mono hb.size)) (fun j e _ _ h => hold_kept hb2 h) (fun _ => h)
    clear hK hv hk hd hsz hl hc
    have v17 : a.tmps[35]?.getD undef = .bool true := v17
    have v21 : a.tmps[39]?.getD undef = .bool true := v21
    go_simp
    exact HM.out _ _ (Below.refl _ _) rfl
   ·refine ⟨_, rfl, fun l a w hl hc hd hsz hb hk hv => ?_⟩
    have v22 : hold .yes w (a.tmps[40]?.getD undef) := by rw [← Array.getD_eq_getD_getElem?]; exact (hv 22 (by kernel_rfl)).2 40 rfl
    refine ⟨rfl, fun K hK => ?_⟩
    have HM : Hid (∀ w' v, Below w.heap.size w w' → hold .yes w' v → K (a.put (some 41) v) w') := Lib.hid fun w' v hb2 h => hK v w' (hb.trans (hb2.mono hb.size)) (fun j e _ _ h => hold_kept hb2 h) (fun _ => h)
    clear hK hv hk hd hsz hl hc
    have v22 : a.tmps[40]?.getD undef = .bool true := v22
    go_simp
    exact HM.out _ _ (Below.refl _ _) rfl
   ·refine ⟨_, rfl, fun l a w hl hc hd hsz hb hk hv => ?_⟩
    have v23 : hold .yes w (a.tmps[41]?.getD undef) := by rw [← Array.getD_eq_getD_getElem?]; exact (hv 23 (by kernel_rfl)).2 41 rfl
    refine ⟨Rg.wanted (g := 23) (d := 41) rfl rfl (by rw [Array.getD_eq_getD_getElem?]; exact v23), fun K hK => ?_⟩
    have e2 : a.tmps[2]?.getD undef = .pointer (some ⟨gn, 0, none⟩) := by rw [← Array.getD_eq_getD_getElem?]; exact hk 2 (by kernel_rfl)
    obtain ⟨a0, a1, a2, a3⟩ := HCN.out w hb
    have HND := Lib.hid (HNN1.out w hb)
    have HM : Hid (∀ w' v, Below w.heap.size w w' → hold (.node nN) w' v → K (a.put (some 42) v) w') := Lib.hid fun w' v hb2 h => hK v w' (hb.trans (hb2.mono hb.size)) (fun j e _ _ h => hold_kept hb2 h) (fun _ => h)
    clear hK hv hk hd hsz hl hc
    go_simp
    exact HM.out _ _ (Below.refl _ _) ⟨_, _, _, _, rfl, HND.out⟩
   ·refine ⟨_, rfl, fun l a w hl hc hd hsz hb hk hv => ?_⟩
    have v23 : hold .yes w (a.tmps[41]?.getD undef) := by rw [← Array.getD_eq_getD_getElem?]; exact (hv 23 (by kernel_rfl)).2 41 rfl
    refine ⟨Rg.wanted (g := 23) (d := 41) rfl rfl (by rw [Array.getD_eq_getD_getElem?]; exact v23), fun K hK => ?_⟩
    have e2 : a.tmps[2]?.getD undef = .pointer (some ⟨gn, 0, none⟩) := by rw [← Array.getD_eq_getD_getElem?]; exact hk 2 (by kernel_rfl)
    obtain ⟨a0, a1, a2, a3⟩ := HCN.out w hb
    have HND := Lib.hid (HNN1.out w hb)
    have HM : Hid (∀ w' v, Below w.heap.size w w' → hold (.node nN) w' v → K (a.put (some 43) v) w') := Lib.hid fun w' v hb2 h => hK v w' (hb.trans (hb2.mono hb.size)) (fun j e _ _ h => hold_kept hb2 h) (fun _ => h)
    clear hK hv hk hd hsz hl hc
    go_simp
    exact HM.out _ _ (Below.refl _ _) ⟨_, _, _, _, rfl, HND.out⟩
   ·refine ⟨_, rfl, fun l a w hl hc hd hsz hb hk hv => ?_⟩
    have v23 : hold .yes w (a.tmps[41]?.getD undef) := by rw [← Array.getD_eq_getD_getElem?]; exact (hv 23 (by kernel_rfl)).2 41 rfl
    refine ⟨Rg.wanted (g := 23) (d := 41) rfl rfl (by rw [Array.getD_eq_getD_getElem?]; exact v23), fun K hK => ?_⟩
    have HM : Hid (∀ w' v, Below w.heap.size w w' → hold (.words [⟨#[99, 112]⟩, ⟨#[100]⟩, ⟨#[113]⟩]) w' v → K (a.put (some 44) v) w') := Lib.hid fun w' v hb2 h => hK v w' (hb.trans (hb2.mono hb.size)) (fun j e _ _ h => hold_kept hb2 h) (fun _ => h)
    clear hK hv hk hd hsz hl hc
    go_simp
    exact HM.out _ _ (below_alloc (Below.refl _ _)) ⟨_, rfl, Bk.new _ _ _⟩
   ·refine ⟨_, rfl, fun l a w hl hc hd hsz hb hk hv => ?_⟩
    have v24 : hold (.node nN) w (a.tmps[42]?.getD undef) := by rw [← Array.getD_eq_getD_getElem?]; exact (hv 24 (by kernel_rfl)).2 42 rfl
    have v25 : hold (.node nN) w (a.tmps[43]?.getD undef) := by rw [← Array.getD_eq_getD_getElem?]; exact (hv 25 (by kernel_rfl)).2 43 rfl
    have v26 : hold (.words [⟨#[99, 112]⟩, ⟨#[100]⟩, ⟨#[113]⟩]) w (a.tmps[44]?.getD undef) := by rw [← Array.getD_eq_getD_getElem?]; exact (hv 26 (by kernel_rfl)).2 44 rfl
    have v23 : hold .yes w (a.tmps[41]?.getD undef) := by rw [← Array.getD_eq_getD_getElem?]; exact (hv 23 (by kernel_rfl)).2 41 rfl
    refine ⟨Rg.wanted (g := 23) (d := 41) rfl rfl (by rw [Array.getD_eq_getD_getElem?]; exact v23), fun K hK => ?_⟩
    have HM : Hid (∀ w' v, Below w.heap.size w w' → hold .yes w' v → K (a.put (some 45) v) w') := Lib.hid fun w' v hb2 h => hK v w' (hb.trans (hb2.mono hb.size)) (fun j e _ _ h => hold_kept hb2 h) (fun _ => h)
    clear hK hv hk hd hsz hl hc
    have HD := Lib.hid (call4 v24 v25 v26)
    clear v24 v25 v26
    go_simp
    refine HD.out.mono ?_
    rintro e w2 ⟨rfl, hb2⟩
    exact HM.out _ _ hb2 rfl
   ·refine ⟨_, rfl, fun l a w hl hc hd hsz hb hk hv => ?_⟩
    have v23 : hold .yes w (a.tmps[41]?.getD undef) := by rw [← Array.getD_eq_getD_getElem?]; exact (hv 23 (by kernel_rfl)).2 41 rfl
    have v27 : hold .yes w (a.tmps[45]?.getD undef) := by rw [← Array.getD_eq_getD_getElem?]; exact (hv 27 (by kernel_rfl)).2 45 rfl
    refine ⟨rfl, fun K hK => ?_⟩
    have HM : Hid (∀ w' v, Below w.heap.size w w' → hold .yes w' v → K (a.put (some 46) v) w') := Lib.hid fun w' v hb2 h => hK v w' (hb.trans (hb2.mono hb.size)) (fun j e _ _ h => hold_kept hb2 h) (fun _ => h)
    clear hK hv hk hd hsz hl hc
    have v23 : a.tmps[41]?.getD undef = .bool true := v23
    have v27 : a.tmps[45]?.getD undef = .bool true := v27
    go_simp
    exact HM.out _ _ (Below.refl _ _) rfl
   ·refine ⟨_, rfl, fun l a w hl hc hd hsz hb hk hv => ?_⟩
    have v28 : hold .yes w (a.tmps[46]?.getD undef) := by rw [← Array.getD_eq_getD_getElem?]; exact (hv 28 (by kernel_rfl)).2 46 rfl
    refine ⟨rfl, fun K hK => ?_⟩
    have HM : Hid (∀ w' v, Below w.heap.size w w' → hold .yes w' v → K (a.put (some 47) v) w') := Lib.hid fun w' v hb2 h => hK v w' (hb.trans (hb2.mono hb.size)) (fun j e _ _ h => hold_kept hb2 h) (fun _ => h)
    clear hK hv hk hd hsz hl hc
    have v28 : a.tmps[46]?.getD undef = .bool true := v28
    go_simp
    exact HM.out _ _ (Below.refl _ _) rfl
   ·refine ⟨_, rfl, fun l a w hl hc hd hsz hb hk hv => ?_⟩
    have v29 : hold .yes w (a.tmps[47]?.getD undef) := by rw [← Array.getD_eq_getD_getElem?]; exact (hv 29 (by kernel_rfl)).2 47 rfl
    refine ⟨Rg.wanted (g := 29) (d := 47) rfl rfl (by rw [Array.getD_eq_getD_getElem?]; exact v29), fun K hK => ?_⟩
    have e2 : a.tmps[2]?.getD undef = .pointer (some ⟨gn, 0, none⟩) := by rw [← Array.getD_eq_getD_getElem?]; exact hk 2 (by kernel_rfl)
    obtain ⟨a0, a1, a2, a3⟩ := HCN.out w hb
    have HND := Lib.hid (HNN1.out w hb)
    have HM : Hid (∀ w' v, Below w.heap.size w w' → hold (.node nN) w' v → K (a.put (some 48) v) w') := Lib.hid fun w' v hb2 h => hK v w' (hb.trans (hb2.mono hb.size)) (fun j e _ _ h => hold_kept hb2 h) (fun _ => h)
    clear hK hv hk hd hsz hl hc
    go_simp
    exact HM.out _ _ (Below.refl _ _) ⟨_, _, _, _, rfl, HND.out⟩
   ·refine ⟨_, rfl, fun l a w hl hc hd hsz hb hk hv => ?_⟩
    have v29 : hold .yes w (a.tmps[47]?.getD undef) := by rw [← Array.getD_eq_getD_getElem?]; exact (hv 29 (by kernel_rfl)).2 47 rfl
    refine ⟨Rg.wanted (g := 29) (d := 47) rfl rfl (by rw [Array.getD_eq_getD_getElem?]; exact v29), fun K hK => ?_⟩
    have HM : Hid (∀ w' v, Below w.heap.size w w' → hold (.words [⟨#[97]⟩, ⟨#[100]⟩, ⟨#[113]⟩]) w' v → K (a.put (some 49) v) w') := Lib.hid fun w' v hb2 h => hK v w' (hb.trans (hb2.mono hb.size)) (fun j e _ _ h => hold_kept hb2 h) (fun _ => h)
    clear hK hv hk hd hsz hl hc
    go_simp
    exact HM.out _ _ (below_alloc (Below.refl _ _)) ⟨_, rfl, Bk.new _ _ _⟩
   ·refine ⟨_, rfl, fun l a w hl hc hd hsz hb hk hv => ?_⟩
    have v29 : hold .yes w (a.tmps[47]?.getD undef) := by rw [← Array.getD_eq_getD_getElem?]; exact (hv 29 (by kernel_rfl)).2 47 rfl
    refine ⟨Rg.wanted (g := 29) (d := 47) rfl rfl (by rw [Array.getD_eq_getD_getElem?]; exact v29), fun K hK => ?_⟩
    have HM : Hid (∀ w' v, Below w.heap.size w w' → hold (.node (fN ⟨#[120]⟩)) w' v → K (a.put (some 50) v) w') := Lib.hid fun w' v hb2 h => hK v w' (hb.trans (hb2.mono hb.size)) (fun j e _ _ h => hold_kept hb2 h) (fun _ => h)
    clear hK hv hk hd hsz hl hc
    go_simp
    refine (file_at _ _).mono ?_
    rintro e w2 ⟨⟨v, rfl, hn⟩, hb2⟩
    exact HM.out _ _ hb2 hn
   ·refine ⟨_, rfl, fun l a w hl hc hd hsz hb hk hv => ?_⟩
    have v29 : hold .yes w (a.tmps[47]?.getD undef) := by rw [← Array.getD_eq_getD_getElem?]; exact (hv 29 (by kernel_rfl)).2 47 rfl
    refine ⟨Rg.wanted (g := 29) (d := 47) rfl rfl (by rw [Array.getD_eq_getD_getElem?]; exact v29), fun K hK => ?_⟩
    have e1 : a.tmps[1]?.getD undef = .pointer (some ⟨gd, 0, none⟩) := by rw [← Array.getD_eq_getD_getElem?]; exact hk 1 (by kernel_rfl)
    obtain ⟨a0, a1, a2, a3⟩ := HCD.out w hb
    have HND := Lib.hid (HND1.out w hb)
    have HM : Hid (∀ w' v, Below w.heap.size w w' → hold (.node dD) w' v → K (a.put (some 51) v) w') := Lib.hid fun w' v hb2 h => hK v w' (hb.trans (hb2.mono hb.size)) (fun j e _ _ h => hold_kept hb2 h) (fun _ => h)
    clear hK hv hk hd hsz hl hc
    go_simp
    exact HM.out _ _ (Below.refl _ _) ⟨_, _, _, _, rfl, HND.out⟩
   ·refine ⟨_, rfl, fun l a w hl hc hd hsz hb hk hv => ?_⟩
    have v29 : hold .yes w (a.tmps[47]?.getD undef) := by rw [← Array.getD_eq_getD_getElem?]; exact (hv 29 (by kernel_rfl)).2 47 rfl
    refine ⟨Rg.wanted (g := 29) (d := 47) rfl rfl (by rw [Array.getD_eq_getD_getElem?]; exact v29), fun K hK => ?_⟩
    have e1 : a.tmps[1]?.getD undef = .pointer (some ⟨gd, 0, none⟩) := by rw [← Array.getD_eq_getD_getElem?]; exact hk 1 (by kernel_rfl)
    obtain ⟨a0, a1, a2, a3⟩ := HCD.out w hb
    have HND := Lib.hid (HND1.out w hb)
    have HM : Hid (∀ w' v, Below w.heap.size w w' → hold (.node dD) w' v → K (a.put (some 52) v) w') := Lib.hid fun w' v hb2 h => hK v w' (hb.trans (hb2.mono hb.size)) (fun j e _ _ h => hold_kept hb2 h) (fun _ => h)
    clear hK hv hk hd hsz hl hc
    go_simp
    exact HM.out _ _ (Below.refl _ _) ⟨_, _, _, _, rfl, HND.out⟩
   ·refine ⟨_, rfl, fun l a w hl hc hd hsz hb hk hv => ?_⟩
    have v32 : hold (.node (fN ⟨#[120]⟩)) w (a.tmps[50]?.getD undef) := by rw [← Array.getD_eq_getD_getElem?]; exact (hv 32 (by kernel_rfl)).2 50 rfl
    have v33 : hold (.node dD) w (a.tmps[51]?.getD undef) := by rw [← Array.getD_eq_getD_getElem?]; exact (hv 33 (by kernel_rfl)).2 51 rfl
    have v34 : hold (.node dD) w (a.tmps[52]?.getD undef) := by rw [← Array.getD_eq_getD_getElem?]; exact (hv 34 (by kernel_rfl)).2 52 rfl
    have v29 : hold .yes w (a.tmps[47]?.getD undef) := by rw [← Array.getD_eq_getD_getElem?]; exact (hv 29 (by kernel_rfl)).2 47 rfl
    refine ⟨Rg.wanted (g := 29) (d := 47) rfl rfl (by rw [Array.getD_eq_getD_getElem?]; exact v29), fun K hK => ?_⟩
    have HM : Hid (∀ w' v, Below w.heap.size w w' → hold (.kids [(fN ⟨#[120]⟩), dD, dD]) w' v → K (a.put (some 53) v) w') := Lib.hid fun w' v hb2 h => hK v w' (hb.trans (hb2.mono hb.size)) (fun j e _ _ h => hold_kept hb2 h) (fun _ => h)
    clear hK hv hk hd hsz hl hc
    obtain ⟨z00, z01, z02, z03, ez0, hz0⟩ := v32
    obtain ⟨z10, z11, z12, z13, ez1, hz1⟩ := v33
    obtain ⟨z20, z21, z22, z23, ez2, hz2⟩ := v34
    have HZ0 := Lib.hid (NodeR.grown (below_alloc (o := .cells #[z00, z01, z02, z03, z10, z11, z12, z13, z20, z21, z22, z23] 25) (Below.refl w.heap.size w)) hz0)
    clear hz0
    have HZ1 := Lib.hid (NodeR.grown (below_alloc (o := .cells #[z00, z01, z02, z03, z10, z11, z12, z13, z20, z21, z22, z23] 25) (Below.refl w.heap.size w)) hz1)
    clear hz1
    have HZ2 := Lib.hid (NodeR.grown (below_alloc (o := .cells #[z00, z01, z02, z03, z10, z11, z12, z13, z20, z21, z22, z23] 25) (Below.refl w.heap.size w)) hz2)
    clear hz2
    go_simp
    exact HM.out _ _ (below_alloc (Below.refl _ _)) ⟨_, [z00, z01, z02, z03, z10, z11, z12, z13, z20, z21, z22, z23], rfl, Bk.new _ _ _, (.cons _ _ _ _ rfl HZ0.out (.cons _ _ _ _ rfl HZ1.out (.cons _ _ _ _ rfl HZ2.out .nil)))⟩
   ·refine ⟨_, rfl, fun l a w hl hc hd hsz hb hk hv => ?_⟩
    have v31 : hold (.words [⟨#[97]⟩, ⟨#[100]⟩, ⟨#[113]⟩]) w (a.tmps[49]?.getD undef) := by rw [← Array.getD_eq_getD_getElem?]; exact (hv 31 (by kernel_rfl)).2 49 rfl
    have v35 : hold (.kids [(fN ⟨#[120]⟩), dD, dD]) w (a.tmps[53]?.getD undef) := by rw [← Array.getD_eq_getD_getElem?]; exact (hv 35 (by kernel_rfl)).2 53 rfl
    have v29 : hold .yes w (a.tmps[47]?.getD undef) := by rw [← Array.getD_eq_getD_getElem?]; exact (hv 29 (by kernel_rfl)).2 47 rfl
    refine ⟨Rg.wanted (g := 29) (d := 47) rfl rfl (by rw [Array.getD_eq_getD_getElem?]; exact v29), fun K hK => ?_⟩
    have HM : Hid (∀ w' v, Below w.heap.size w w' → hold (.node (dN [⟨#[97]⟩, ⟨#[100]⟩, ⟨#[113]⟩] [(fN ⟨#[120]⟩), dD, dD])) w' v → K (a.put (some 54) v) w') := Lib.hid fun w' v hb2 h => hK v w' (hb.trans (hb2.mono hb.size)) (fun j e _ _ h => hold_kept hb2 h) (fun _ => h)
    clear hK hv hk hd hsz hl hc
    have HD := Lib.hid (dir_at v31 v35 (of_decide_eq_true (by kernel_rfl)) (of_decide_eq_true (by kernel_rfl)))
    clear v31 v35
    go_simp
    refine HD.out.mono ?_
    rintro e w2 ⟨⟨v, rfl, hn⟩, hb2⟩
    exact HM.out _ _ hb2 hn
   ·refine ⟨_, rfl, fun l a w hl hc hd hsz hb hk hv => ?_⟩
    have v29 : hold .yes w (a.tmps[47]?.getD undef) := by rw [← Array.getD_eq_getD_getElem?]; exact (hv 29 (by kernel_rfl)).2 47 rfl
    refine ⟨Rg.wanted (g := 29) (d := 47) rfl rfl (by rw [Array.getD_eq_getD_getElem?]; exact v29), fun K hK => ?_⟩
    have HM : Hid (∀ w' v, Below w.heap.size w w' → hold (.words [⟨#[99, 112]⟩, ⟨#[45, 114]⟩, ⟨#[100]⟩, ⟨#[113]⟩]) w' v → K (a.put (some 55) v) w') := Lib.hid fun w' v hb2 h => hK v w' (hb.trans (hb2.mono hb.size)) (fun j e _ _ h => hold_kept hb2 h) (fun _ => h)
    clear hK hv hk hd hsz hl hc
    go_simp
    exact HM.out _ _ (below_alloc (Below.refl _ _)) ⟨_, rfl, Bk.new _ _ _⟩
   ·refine ⟨_, rfl, fun l a w hl hc hd hsz hb hk hv => ?_⟩
    have v30 : hold (.node nN) w (a.tmps[48]?.getD undef) := by rw [← Array.getD_eq_getD_getElem?]; exact (hv 30 (by kernel_rfl)).2 48 rfl
    have v36 : hold (.node (dN [⟨#[97]⟩, ⟨#[100]⟩, ⟨#[113]⟩] [(fN ⟨#[120]⟩), dD, dD])) w (a.tmps[54]?.getD undef) := by rw [← Array.getD_eq_getD_getElem?]; exact (hv 36 (by kernel_rfl)).2 54 rfl
    have v37 : hold (.words [⟨#[99, 112]⟩, ⟨#[45, 114]⟩, ⟨#[100]⟩, ⟨#[113]⟩]) w (a.tmps[55]?.getD undef) := by rw [← Array.getD_eq_getD_getElem?]; exact (hv 37 (by kernel_rfl)).2 55 rfl
    have v29 : hold .yes w (a.tmps[47]?.getD undef) := by rw [← Array.getD_eq_getD_getElem?]; exact (hv 29 (by kernel_rfl)).2 47 rfl
    refine ⟨Rg.wanted (g := 29) (d := 47) rfl rfl (by rw [Array.getD_eq_getD_getElem?]; exact v29), fun K hK => ?_⟩
    have HM : Hid (∀ w' v, Below w.heap.size w w' → hold .yes w' v → K (a.put (some 56) v) w') := Lib.hid fun w' v hb2 h => hK v w' (hb.trans (hb2.mono hb.size)) (fun j e _ _ h => hold_kept hb2 h) (fun _ => h)
    clear hK hv hk hd hsz hl hc
    have HD := Lib.hid (call5 v30 v36 v37)
    clear v30 v36 v37
    go_simp
    refine HD.out.mono ?_
    rintro e w2 ⟨rfl, hb2⟩
    exact HM.out _ _ hb2 rfl
   ·refine ⟨_, rfl, fun l a w hl hc hd hsz hb hk hv => ?_⟩
    have v29 : hold .yes w (a.tmps[47]?.getD undef) := by rw [← Array.getD_eq_getD_getElem?]; exact (hv 29 (by kernel_rfl)).2 47 rfl
    have v38 : hold .yes w (a.tmps[56]?.getD undef) := by rw [← Array.getD_eq_getD_getElem?]; exact (hv 38 (by kernel_rfl)).2 56 rfl
    refine ⟨rfl, fun K hK => ?_⟩
    have HM : Hid (∀ w' v, Below w.heap.size w w' → hold .yes w' v → K (a.put (some 57) v) w') := Lib.hid fun w' v hb2 h => hK v w' (hb.trans (hb2.mono hb.size)) (fun j e _ _ h => hold_kept hb2 h) (fun _ => h)
    clear hK hv hk hd hsz hl hc
    have v29 : a.tmps[47]?.getD undef = .bool true := v29
    have v38 : a.tmps[56]?.getD undef = .bool true := v38
    go_simp
    exact HM.out _ _ (Below.refl _ _) rfl
   ·refine ⟨_, rfl, fun l a w hl hc hd hsz hb hk hv => ?_⟩
    have v39 : hold .yes w (a.tmps[57]?.getD undef) := by rw [← Array.getD_eq_getD_getElem?]; exact (hv 39 (by kernel_rfl)).2 57 rfl
    refine ⟨rfl, fun K hK => ?_⟩
    have HM : Hid (∀ w' v, Below w.heap.size w w' → hold .yes w' v → K (a.put (some 58) v) w') := Lib.hid fun w' v hb2 h => hK v w' (hb.trans (hb2.mono hb.size)) (fun j e _ _ h => hold_kept hb2 h) (fun _ => h)
    clear hK hv hk hd hsz hl hc
    have v39 : a.tmps[57]?.getD undef = .bool true := v39
    go_simp
    exact HM.out _ _ (Below.refl _ _) rfl
   ·refine ⟨_, rfl, fun l a w hl hc hd hsz hb hk hv => ?_⟩
    have v40 : hold .yes w (a.tmps[58]?.getD undef) := by rw [← Array.getD_eq_getD_getElem?]; exact (hv 40 (by kernel_rfl)).2 58 rfl
    refine ⟨Rg.wanted (g := 40) (d := 58) rfl rfl (by rw [Array.getD_eq_getD_getElem?]; exact v40), fun K hK => ?_⟩
    have HM : Hid (∀ w' v, Below w.heap.size w w' → hold (.words [⟨#[97]⟩]) w' v → K (a.put (some 59) v) w') := Lib.hid fun w' v hb2 h => hK v w' (hb.trans (hb2.mono hb.size)) (fun j e _ _ h => hold_kept hb2 h) (fun _ => h)
    clear hK hv hk hd hsz hl hc
    go_simp
    exact HM.out _ _ (below_alloc (Below.refl _ _)) ⟨_, rfl, Bk.new _ _ _⟩
   ·refine ⟨_, rfl, fun l a w hl hc hd hsz hb hk hv => ?_⟩
    have v40 : hold .yes w (a.tmps[58]?.getD undef) := by rw [← Array.getD_eq_getD_getElem?]; exact (hv 40 (by kernel_rfl)).2 58 rfl
    refine ⟨Rg.wanted (g := 40) (d := 58) rfl rfl (by rw [Array.getD_eq_getD_getElem?]; exact v40), fun K hK => ?_⟩
    have HM : Hid (∀ w' v, Below w.heap.size w w' → hold (.node (fN ⟨#[120]⟩)) w' v → K (a.put (some 60) v) w') := Lib.hid fun w' v hb2 h => hK v w' (hb.trans (hb2.mono hb.size)) (fun j e _ _ h => hold_kept hb2 h) (fun _ => h)
    clear hK hv hk hd hsz hl hc
    go_simp
    refine (file_at _ _).mono ?_
    rintro e w2 ⟨⟨v, rfl, hn⟩, hb2⟩
    exact HM.out _ _ hb2 hn
   ·refine ⟨_, rfl, fun l a w hl hc hd hsz hb hk hv => ?_⟩
    have v42 : hold (.node (fN ⟨#[120]⟩)) w (a.tmps[60]?.getD undef) := by rw [← Array.getD_eq_getD_getElem?]; exact (hv 42 (by kernel_rfl)).2 60 rfl
    have v40 : hold .yes w (a.tmps[58]?.getD undef) := by rw [← Array.getD_eq_getD_getElem?]; exact (hv 40 (by kernel_rfl)).2 58 rfl
    refine ⟨Rg.wanted (g := 40) (d := 58) rfl rfl (by rw [Array.getD_eq_getD_getElem?]; exact v40), fun K hK => ?_⟩
    have HM : Hid (∀ w' v, Below w.heap.size w w' → hold (.kids [(fN ⟨#[120]⟩)]) w' v → K (a.put (some 61) v) w') := Lib.hid fun w' v hb2 h => hK v w' (hb.trans (hb2.mono hb.size)) (fun j e _ _ h => hold_kept hb2 h) (fun _ => h)
    clear hK hv hk hd hsz hl hc
    obtain ⟨z00, z01, z02, z03, ez0, hz0⟩ := v42
    have HZ0 := Lib.hid (NodeR.grown (below_alloc (o := .cells #[z00, z01, z02, z03] 25) (Below.refl w.heap.size w)) hz0)
    clear hz0
    go_simp
    exact HM.out _ _ (below_alloc (Below.refl _ _)) ⟨_, [z00, z01, z02, z03], rfl, Bk.new _ _ _, (.cons _ _ _ _ rfl HZ0.out .nil)⟩
   ·refine ⟨_, rfl, fun l a w hl hc hd hsz hb hk hv => ?_⟩
    have v41 : hold (.words [⟨#[97]⟩]) w (a.tmps[59]?.getD undef) := by rw [← Array.getD_eq_getD_getElem?]; exact (hv 41 (by kernel_rfl)).2 59 rfl
    have v43 : hold (.kids [(fN ⟨#[120]⟩)]) w (a.tmps[61]?.getD undef) := by rw [← Array.getD_eq_getD_getElem?]; exact (hv 43 (by kernel_rfl)).2 61 rfl
    have v40 : hold .yes w (a.tmps[58]?.getD undef) := by rw [← Array.getD_eq_getD_getElem?]; exact (hv 40 (by kernel_rfl)).2 58 rfl
    refine ⟨Rg.wanted (g := 40) (d := 58) rfl rfl (by rw [Array.getD_eq_getD_getElem?]; exact v40), fun K hK => ?_⟩
    have HM : Hid (∀ w' v, Below w.heap.size w w' → hold (.node (dN [⟨#[97]⟩] [(fN ⟨#[120]⟩)])) w' v → K (a.put (some 62) v) w') := Lib.hid fun w' v hb2 h => hK v w' (hb.trans (hb2.mono hb.size)) (fun j e _ _ h => hold_kept hb2 h) (fun _ => h)
    clear hK hv hk hd hsz hl hc
    have HD := Lib.hid (dir_at v41 v43 (of_decide_eq_true (by kernel_rfl)) (of_decide_eq_true (by kernel_rfl)))
    clear v41 v43
    go_simp
    refine HD.out.mono ?_
    rintro e w2 ⟨⟨v, rfl, hn⟩, hb2⟩
    exact HM.out _ _ hb2 hn
   ·refine ⟨_, rfl, fun l a w hl hc hd hsz hb hk hv => ?_⟩
    have v40 : hold .yes w (a.tmps[58]?.getD undef) := by rw [← Array.getD_eq_getD_getElem?]; exact (hv 40 (by kernel_rfl)).2 58 rfl
    refine ⟨Rg.wanted (g := 40) (d := 58) rfl rfl (by rw [Array.getD_eq_getD_getElem?]; exact v40), fun K hK => ?_⟩
    have e3 : a.tmps[3]?.getD undef = .pointer (some ⟨gb, 0, none⟩) := by rw [← Array.getD_eq_getD_getElem?]; exact hk 3 (by kernel_rfl)
    obtain ⟨a0, a1, a2, a3⟩ := HCB.out w hb
    have HND := Lib.hid (HNB1.out w hb)
    have HM : Hid (∀ w' v, Below w.heap.size w w' → hold (.node bN) w' v → K (a.put (some 63) v) w') := Lib.hid fun w' v hb2 h => hK v w' (hb.trans (hb2.mono hb.size)) (fun j e _ _ h => hold_kept hb2 h) (fun _ => h)
    clear hK hv hk hd hsz hl hc
    go_simp
    exact HM.out _ _ (Below.refl _ _) ⟨_, _, _, _, rfl, HND.out⟩
   ·refine ⟨_, rfl, fun l a w hl hc hd hsz hb hk hv => ?_⟩
    have v40 : hold .yes w (a.tmps[58]?.getD undef) := by rw [← Array.getD_eq_getD_getElem?]; exact (hv 40 (by kernel_rfl)).2 58 rfl
    refine ⟨Rg.wanted (g := 40) (d := 58) rfl rfl (by rw [Array.getD_eq_getD_getElem?]; exact v40), fun K hK => ?_⟩
    have HM : Hid (∀ w' v, Below w.heap.size w w' → hold (.words [⟨#[108, 110]⟩, ⟨#[45, 115]⟩, ⟨#[97]⟩, ⟨#[108]⟩]) w' v → K (a.put (some 64) v) w') := Lib.hid fun w' v hb2 h => hK v w' (hb.trans (hb2.mono hb.size)) (fun j e _ _ h => hold_kept hb2 h) (fun _ => h)
    clear hK hv hk hd hsz hl hc
    go_simp
    exact HM.out _ _ (below_alloc (Below.refl _ _)) ⟨_, rfl, Bk.new _ _ _⟩
   ·refine ⟨_, rfl, fun l a w hl hc hd hsz hb hk hv => ?_⟩
    have v44 : hold (.node (dN [⟨#[97]⟩] [(fN ⟨#[120]⟩)])) w (a.tmps[62]?.getD undef) := by rw [← Array.getD_eq_getD_getElem?]; exact (hv 44 (by kernel_rfl)).2 62 rfl
    have v45 : hold (.node bN) w (a.tmps[63]?.getD undef) := by rw [← Array.getD_eq_getD_getElem?]; exact (hv 45 (by kernel_rfl)).2 63 rfl
    have v46 : hold (.words [⟨#[108, 110]⟩, ⟨#[45, 115]⟩, ⟨#[97]⟩, ⟨#[108]⟩]) w (a.tmps[64]?.getD undef) := by rw [← Array.getD_eq_getD_getElem?]; exact (hv 46 (by kernel_rfl)).2 64 rfl
    have v40 : hold .yes w (a.tmps[58]?.getD undef) := by rw [← Array.getD_eq_getD_getElem?]; exact (hv 40 (by kernel_rfl)).2 58 rfl
    refine ⟨Rg.wanted (g := 40) (d := 58) rfl rfl (by rw [Array.getD_eq_getD_getElem?]; exact v40), fun K hK => ?_⟩
    have HM : Hid (∀ w' v, Below w.heap.size w w' → hold .yes w' v → K (a.put (some 65) v) w') := Lib.hid fun w' v hb2 h => hK v w' (hb.trans (hb2.mono hb.size)) (fun j e _ _ h => hold_kept hb2 h) (fun _ => h)
    clear hK hv hk hd hsz hl hc
    have HD := Lib.hid (call6 v44 v45 v46)
    clear v44 v45 v46
    go_simp
    refine HD.out.mono ?_
    rintro e w2 ⟨rfl, hb2⟩
    exact HM.out _ _ hb2 rfl
   ·refine ⟨_, rfl, fun l a w hl hc hd hsz hb hk hv => ?_⟩
    have v40 : hold .yes w (a.tmps[58]?.getD undef) := by rw [← Array.getD_eq_getD_getElem?]; exact (hv 40 (by kernel_rfl)).2 58 rfl
    have v47 : hold .yes w (a.tmps[65]?.getD undef) := by rw [← Array.getD_eq_getD_getElem?]; exact (hv 47 (by kernel_rfl)).2 65 rfl
    refine ⟨rfl, fun K hK => ?_⟩
    have HM : Hid (∀ w' v, Below w.heap.size w w' → hold .yes w' v → K (a.put (some 66) v) w') := Lib.hid fun w' v hb2 h => hK v w' (hb.trans (hb2.mono hb.size)) (fun j e _ _ h => hold_kept hb2 h) (fun _ => h)
    clear hK hv hk hd hsz hl hc
    have v40 : a.tmps[58]?.getD undef = .bool true := v40
    have v47 : a.tmps[65]?.getD undef = .bool true := v47
    go_simp
    exact HM.out _ _ (Below.refl _ _) rfl
   ·refine ⟨_, rfl, fun l a w hl hc hd hsz hb hk hv => ?_⟩
    have v48 : hold .yes w (a.tmps[66]?.getD undef) := by rw [← Array.getD_eq_getD_getElem?]; exact (hv 48 (by kernel_rfl)).2 66 rfl
    refine ⟨rfl, fun K hK => ?_⟩
    have HM : Hid (∀ w' v, Below w.heap.size w w' → hold .yes w' v → K (a.put (some 67) v) w') := Lib.hid fun w' v hb2 h => hK v w' (hb.trans (hb2.mono hb.size)) (fun j e _ _ h => hold_kept hb2 h) (fun _ => h)
    clear hK hv hk hd hsz hl hc
    have v48 : a.tmps[66]?.getD undef = .bool true := v48
    go_simp
    exact HM.out _ _ (Below.refl _ _) rfl
   ·refine ⟨_, rfl, fun l a w hl hc hd hsz hb hk hv => ?_⟩
    have v49 : hold .yes w (a.tmps[67]?.getD undef) := by rw [← Array.getD_eq_getD_getElem?]; exact (hv 49 (by kernel_rfl)).2 67 rfl
    refine ⟨Rg.wanted (g := 49) (d := 67) rfl rfl (by rw [Array.getD_eq_getD_getElem?]; exact v49), fun K hK => ?_⟩
    have e3 : a.tmps[3]?.getD undef = .pointer (some ⟨gb, 0, none⟩) := by rw [← Array.getD_eq_getD_getElem?]; exact hk 3 (by kernel_rfl)
    obtain ⟨a0, a1, a2, a3⟩ := HCB.out w hb
    have HND := Lib.hid (HNB1.out w hb)
    have HM : Hid (∀ w' v, Below w.heap.size w w' → hold (.node bN) w' v → K (a.put (some 68) v) w') := Lib.hid fun w' v hb2 h => hK v w' (hb.trans (hb2.mono hb.size)) (fun j e _ _ h => hold_kept hb2 h) (fun _ => h)
    clear hK hv hk hd hsz hl hc
    go_simp
    exact HM.out _ _ (Below.refl _ _) ⟨_, _, _, _, rfl, HND.out⟩
   ·refine ⟨_, rfl, fun l a w hl hc hd hsz hb hk hv => ?_⟩
    have v49 : hold .yes w (a.tmps[67]?.getD undef) := by rw [← Array.getD_eq_getD_getElem?]; exact (hv 49 (by kernel_rfl)).2 67 rfl
    refine ⟨Rg.wanted (g := 49) (d := 67) rfl rfl (by rw [Array.getD_eq_getD_getElem?]; exact v49), fun K hK => ?_⟩
    have HM : Hid (∀ w' v, Below w.heap.size w w' → hold (.words [⟨#[97]⟩, ⟨#[108]⟩, ⟨#[109]⟩]) w' v → K (a.put (some 69) v) w') := Lib.hid fun w' v hb2 h => hK v w' (hb.trans (hb2.mono hb.size)) (fun j e _ _ h => hold_kept hb2 h) (fun _ => h)
    clear hK hv hk hd hsz hl hc
    go_simp
    exact HM.out _ _ (below_alloc (Below.refl _ _)) ⟨_, rfl, Bk.new _ _ _⟩
   ·refine ⟨_, rfl, fun l a w hl hc hd hsz hb hk hv => ?_⟩
    have v49 : hold .yes w (a.tmps[67]?.getD undef) := by rw [← Array.getD_eq_getD_getElem?]; exact (hv 49 (by kernel_rfl)).2 67 rfl
    refine ⟨Rg.wanted (g := 49) (d := 67) rfl rfl (by rw [Array.getD_eq_getD_getElem?]; exact v49), fun K hK => ?_⟩
    have HM : Hid (∀ w' v, Below w.heap.size w w' → hold (.node (fN ⟨#[120]⟩)) w' v → K (a.put (some 70) v) w') := Lib.hid fun w' v hb2 h => hK v w' (hb.trans (hb2.mono hb.size)) (fun j e _ _ h => hold_kept hb2 h) (fun _ => h)
    clear hK hv hk hd hsz hl hc
    go_simp
    refine (file_at _ _).mono ?_
    rintro e w2 ⟨⟨v, rfl, hn⟩, hb2⟩
    exact HM.out _ _ hb2 hn
   ·refine ⟨_, rfl, fun l a w hl hc hd hsz hb hk hv => ?_⟩
    have v49 : hold .yes w (a.tmps[67]?.getD undef) := by rw [← Array.getD_eq_getD_getElem?]; exact (hv 49 (by kernel_rfl)).2 67 rfl
    refine ⟨Rg.wanted (g := 49) (d := 67) rfl rfl (by rw [Array.getD_eq_getD_getElem?]; exact v49), fun K hK => ?_⟩
    have HM : Hid (∀ w' v, Below w.heap.size w w' → hold (.node (lN ⟨#[97]⟩)) w' v → K (a.put (some 71) v) w') := Lib.hid fun w' v hb2 h => hK v w' (hb.trans (hb2.mono hb.size)) (fun j e _ _ h => hold_kept hb2 h) (fun _ => h)
    clear hK hv hk hd hsz hl hc
    go_simp
    refine (link_at _ _).mono ?_
    rintro e w2 ⟨⟨v, rfl, hn⟩, hb2⟩
    exact HM.out _ _ hb2 hn
   ·refine ⟨_, rfl, fun l a w hl hc hd hsz hb hk hv => ?_⟩
    have v49 : hold .yes w (a.tmps[67]?.getD undef) := by rw [← Array.getD_eq_getD_getElem?]; exact (hv 49 (by kernel_rfl)).2 67 rfl
    refine ⟨Rg.wanted (g := 49) (d := 67) rfl rfl (by rw [Array.getD_eq_getD_getElem?]; exact v49), fun K hK => ?_⟩
    have HM : Hid (∀ w' v, Below w.heap.size w w' → hold (.node (fN ⟨#[120]⟩)) w' v → K (a.put (some 72) v) w') := Lib.hid fun w' v hb2 h => hK v w' (hb.trans (hb2.mono hb.size)) (fun j e _ _ h => hold_kept hb2 h) (fun _ => h)
    clear hK hv hk hd hsz hl hc
    go_simp
    refine (file_at _ _).mono ?_
    rintro e w2 ⟨⟨v, rfl, hn⟩, hb2⟩
    exact HM.out _ _ hb2 hn
   ·refine ⟨_, rfl, fun l a w hl hc hd hsz hb hk hv => ?_⟩
    have v52 : hold (.node (fN ⟨#[120]⟩)) w (a.tmps[70]?.getD undef) := by rw [← Array.getD_eq_getD_getElem?]; exact (hv 52 (by kernel_rfl)).2 70 rfl
    have v53 : hold (.node (lN ⟨#[97]⟩)) w (a.tmps[71]?.getD undef) := by rw [← Array.getD_eq_getD_getElem?]; exact (hv 53 (by kernel_rfl)).2 71 rfl
    have v54 : hold (.node (fN ⟨#[120]⟩)) w (a.tmps[72]?.getD undef) := by rw [← Array.getD_eq_getD_getElem?]; exact (hv 54 (by kernel_rfl)).2 72 rfl
    have v49 : hold .yes w (a.tmps[67]?.getD undef) := by rw [← Array.getD_eq_getD_getElem?]; exact (hv 49 (by kernel_rfl)).2 67 rfl
    refine ⟨Rg.wanted (g := 49) (d := 67) rfl rfl (by rw [Array.getD_eq_getD_getElem?]; exact v49), fun K hK => ?_⟩
    have HM : Hid (∀ w' v, Below w.heap.size w w' → hold (.kids [(fN ⟨#[120]⟩), (lN ⟨#[97]⟩), (fN ⟨#[120]⟩)]) w' v → K (a.put (some 73) v) w') := Lib.hid fun w' v hb2 h => hK v w' (hb.trans (hb2.mono hb.size)) (fun j e _ _ h => hold_kept hb2 h) (fun _ => h)
    clear hK hv hk hd hsz hl hc
    obtain ⟨z00, z01, z02, z03, ez0, hz0⟩ := v52
    obtain ⟨z10, z11, z12, z13, ez1, hz1⟩ := v53
    obtain ⟨z20, z21, z22, z23, ez2, hz2⟩ := v54
    have HZ0 := Lib.hid (NodeR.grown (below_alloc (o := .cells #[z00, z01, z02, z03, z10, z11, z12, z13, z20, z21, z22, z23] 25) (Below.refl w.heap.size w)) hz0)
    clear hz0
    have HZ1 := Lib.hid (NodeR.grown (below_alloc (o := .cells #[z00, z01, z02, z03, z10, z11, z12, z13, z20, z21, z22, z23] 25) (Below.refl w.heap.size w)) hz1)
    clear hz1
    have HZ2 := Lib.hid (NodeR.grown (below_alloc (o := .cells #[z00, z01, z02, z03, z10, z11, z12, z13, z20, z21, z22, z23] 25) (Below.refl w.heap.size w)) hz2)
    clear hz2
    go_simp
    exact HM.out _ _ (below_alloc (Below.refl _ _)) ⟨_, [z00, z01, z02, z03, z10, z11, z12, z13, z20, z21, z22, z23], rfl, Bk.new _ _ _, (.cons _ _ _ _ rfl HZ0.out (.cons _ _ _ _ rfl HZ1.out (.cons _ _ _ _ rfl HZ2.out .nil)))⟩
   ·refine ⟨_, rfl, fun l a w hl hc hd hsz hb hk hv => ?_⟩
    have v51 : hold (.words [⟨#[97]⟩, ⟨#[108]⟩, ⟨#[109]⟩]) w (a.tmps[69]?.getD undef) := by rw [← Array.getD_eq_getD_getElem?]; exact (hv 51 (by kernel_rfl)).2 69 rfl
    have v55 : hold (.kids [(fN ⟨#[120]⟩), (lN ⟨#[97]⟩), (fN ⟨#[120]⟩)]) w (a.tmps[73]?.getD undef) := by rw [← Array.getD_eq_getD_getElem?]; exact (hv 55 (by kernel_rfl)).2 73 rfl
    have v49 : hold .yes w (a.tmps[67]?.getD undef) := by rw [← Array.getD_eq_getD_getElem?]; exact (hv 49 (by kernel_rfl)).2 67 rfl
    refine ⟨Rg.wanted (g := 49) (d := 67) rfl rfl (by rw [Array.getD_eq_getD_getElem?]; exact v49), fun K hK => ?_⟩
    have HM : Hid (∀ w' v, Below w.heap.size w w' → hold (.node (dN [⟨#[97]⟩, ⟨#[108]⟩, ⟨#[109]⟩] [(fN ⟨#[120]⟩), (lN ⟨#[97]⟩), (fN ⟨#[120]⟩)])) w' v → K (a.put (some 74) v) w') := Lib.hid fun w' v hb2 h => hK v w' (hb.trans (hb2.mono hb.size)) (fun j e _ _ h => hold_kept hb2 h) (fun _ => h)
    clear hK hv hk hd hsz hl hc
    have HD := Lib.hid (dir_at v51 v55 (of_decide_eq_true (by kernel_rfl)) (of_decide_eq_true (by kernel_rfl)))
    clear v51 v55
    go_simp
    refine HD.out.mono ?_
    rintro e w2 ⟨⟨v, rfl, hn⟩, hb2⟩
    exact HM.out _ _ hb2 hn
   ·refine ⟨_, rfl, fun l a w hl hc hd hsz hb hk hv => ?_⟩
    have v49 : hold .yes w (a.tmps[67]?.getD undef) := by rw [← Array.getD_eq_getD_getElem?]; exact (hv 49 (by kernel_rfl)).2 67 rfl
    refine ⟨Rg.wanted (g := 49) (d := 67) rfl rfl (by rw [Array.getD_eq_getD_getElem?]; exact v49), fun K hK => ?_⟩
    have HM : Hid (∀ w' v, Below w.heap.size w w' → hold (.words [⟨#[99, 112]⟩, ⟨#[108]⟩, ⟨#[109]⟩]) w' v → K (a.put (some 75) v) w') := Lib.hid fun w' v hb2 h => hK v w' (hb.trans (hb2.mono hb.size)) (fun j e _ _ h => hold_kept hb2 h) (fun _ => h)
    clear hK hv hk hd hsz hl hc
    go_simp
    exact HM.out _ _ (below_alloc (Below.refl _ _)) ⟨_, rfl, Bk.new _ _ _⟩
   ·refine ⟨_, rfl, fun l a w hl hc hd hsz hb hk hv => ?_⟩
    have v50 : hold (.node bN) w (a.tmps[68]?.getD undef) := by rw [← Array.getD_eq_getD_getElem?]; exact (hv 50 (by kernel_rfl)).2 68 rfl
    have v56 : hold (.node (dN [⟨#[97]⟩, ⟨#[108]⟩, ⟨#[109]⟩] [(fN ⟨#[120]⟩), (lN ⟨#[97]⟩), (fN ⟨#[120]⟩)])) w (a.tmps[74]?.getD undef) := by rw [← Array.getD_eq_getD_getElem?]; exact (hv 56 (by kernel_rfl)).2 74 rfl
    have v57 : hold (.words [⟨#[99, 112]⟩, ⟨#[108]⟩, ⟨#[109]⟩]) w (a.tmps[75]?.getD undef) := by rw [← Array.getD_eq_getD_getElem?]; exact (hv 57 (by kernel_rfl)).2 75 rfl
    have v49 : hold .yes w (a.tmps[67]?.getD undef) := by rw [← Array.getD_eq_getD_getElem?]; exact (hv 49 (by kernel_rfl)).2 67 rfl
    refine ⟨Rg.wanted (g := 49) (d := 67) rfl rfl (by rw [Array.getD_eq_getD_getElem?]; exact v49), fun K hK => ?_⟩
    have HM : Hid (∀ w' v, Below w.heap.size w w' → hold .yes w' v → K (a.put (some 76) v) w') := Lib.hid fun w' v hb2 h => hK v w' (hb.trans (hb2.mono hb.size)) (fun j e _ _ h => hold_kept hb2 h) (fun _ => h)
    clear hK hv hk hd hsz hl hc
    have HD := Lib.hid (call7 v50 v56 v57)
    clear v50 v56 v57
    go_simp
    refine HD.out.mono ?_
    rintro e w2 ⟨rfl, hb2⟩
    exact HM.out _ _ hb2 rfl
   ·refine ⟨_, rfl, fun l a w hl hc hd hsz hb hk hv => ?_⟩
    have v49 : hold .yes w (a.tmps[67]?.getD undef) := by rw [← Array.getD_eq_getD_getElem?]; exact (hv 49 (by kernel_rfl)).2 67 rfl
    have v58 : hold .yes w (a.tmps[76]?.getD undef) := by rw [← Array.getD_eq_getD_getElem?]; exact (hv 58 (by kernel_rfl)).2 76 rfl
    refine ⟨rfl, fun K hK => ?_⟩
    have HM : Hid (∀ w' v, Below w.heap.size w w' → hold .yes w' v → K (a.put (some 77) v) w') := Lib.hid fun w' v hb2 h => hK v w' (hb.trans (hb2.mono hb.size)) (fun j e _ _ h => hold_kept hb2 h) (fun _ => h)
    clear hK hv hk hd hsz hl hc
    have v49 : a.tmps[67]?.getD undef = .bool true := v49
    have v58 : a.tmps[76]?.getD undef = .bool true := v58
    go_simp
    exact HM.out _ _ (Below.refl _ _) rfl
   ·refine ⟨_, rfl, fun l a w hl hc hd hsz hb hk hv => ?_⟩
    have v59 : hold .yes w (a.tmps[77]?.getD undef) := by rw [← Array.getD_eq_getD_getElem?]; exact (hv 59 (by kernel_rfl)).2 77 rfl
    refine ⟨rfl, fun K hK => ?_⟩
    have HM : Hid (∀ w' v, Below w.heap.size w w' → hold .yes w' v → K (a.put (some 78) v) w') := Lib.hid fun w' v hb2 h => hK v w' (hb.trans (hb2.mono hb.size)) (fun j e _ _ h => hold_kept hb2 h) (fun _ => h)
    clear hK hv hk hd hsz hl hc
    have v59 : a.tmps[77]?.getD undef = .bool true := v59
    go_simp
    exact HM.out _ _ (Below.refl _ _) rfl
   ·refine ⟨_, rfl, fun l a w hl hc hd hsz hb hk hv => ?_⟩
    have v60 : hold .yes w (a.tmps[78]?.getD undef) := by rw [← Array.getD_eq_getD_getElem?]; exact (hv 60 (by kernel_rfl)).2 78 rfl
    refine ⟨Rg.wanted (g := 60) (d := 78) rfl rfl (by rw [Array.getD_eq_getD_getElem?]; exact v60), fun K hK => ?_⟩
    have e2 : a.tmps[2]?.getD undef = .pointer (some ⟨gn, 0, none⟩) := by rw [← Array.getD_eq_getD_getElem?]; exact hk 2 (by kernel_rfl)
    obtain ⟨a0, a1, a2, a3⟩ := HCN.out w hb
    have HND := Lib.hid (HNN1.out w hb)
    have HM : Hid (∀ w' v, Below w.heap.size w w' → hold (.node nN) w' v → K (a.put (some 79) v) w') := Lib.hid fun w' v hb2 h => hK v w' (hb.trans (hb2.mono hb.size)) (fun j e _ _ h => hold_kept hb2 h) (fun _ => h)
    clear hK hv hk hd hsz hl hc
    go_simp
    exact HM.out _ _ (Below.refl _ _) ⟨_, _, _, _, rfl, HND.out⟩
   ·refine ⟨_, rfl, fun l a w hl hc hd hsz hb hk hv => ?_⟩
    have v60 : hold .yes w (a.tmps[78]?.getD undef) := by rw [← Array.getD_eq_getD_getElem?]; exact (hv 60 (by kernel_rfl)).2 78 rfl
    refine ⟨Rg.wanted (g := 60) (d := 78) rfl rfl (by rw [Array.getD_eq_getD_getElem?]; exact v60), fun K hK => ?_⟩
    have e2 : a.tmps[2]?.getD undef = .pointer (some ⟨gn, 0, none⟩) := by rw [← Array.getD_eq_getD_getElem?]; exact hk 2 (by kernel_rfl)
    obtain ⟨a0, a1, a2, a3⟩ := HCN.out w hb
    have HND := Lib.hid (HNN1.out w hb)
    have HM : Hid (∀ w' v, Below w.heap.size w w' → hold (.node nN) w' v → K (a.put (some 80) v) w') := Lib.hid fun w' v hb2 h => hK v w' (hb.trans (hb2.mono hb.size)) (fun j e _ _ h => hold_kept hb2 h) (fun _ => h)
    clear hK hv hk hd hsz hl hc
    go_simp
    exact HM.out _ _ (Below.refl _ _) ⟨_, _, _, _, rfl, HND.out⟩
   ·refine ⟨_, rfl, fun l a w hl hc hd hsz hb hk hv => ?_⟩
    have v60 : hold .yes w (a.tmps[78]?.getD undef) := by rw [← Array.getD_eq_getD_getElem?]; exact (hv 60 (by kernel_rfl)).2 78 rfl
    refine ⟨Rg.wanted (g := 60) (d := 78) rfl rfl (by rw [Array.getD_eq_getD_getElem?]; exact v60), fun K hK => ?_⟩
    have HM : Hid (∀ w' v, Below w.heap.size w w' → hold (.words [⟨#[108, 110]⟩, ⟨#[97]⟩, ⟨#[98]⟩]) w' v → K (a.put (some 81) v) w') := Lib.hid fun w' v hb2 h => hK v w' (hb.trans (hb2.mono hb.size)) (fun j e _ _ h => hold_kept hb2 h) (fun _ => h)
    clear hK hv hk hd hsz hl hc
    go_simp
    exact HM.out _ _ (below_alloc (Below.refl _ _)) ⟨_, rfl, Bk.new _ _ _⟩
   ·refine ⟨_, rfl, fun l a w hl hc hd hsz hb hk hv => ?_⟩
    have v61 : hold (.node nN) w (a.tmps[79]?.getD undef) := by rw [← Array.getD_eq_getD_getElem?]; exact (hv 61 (by kernel_rfl)).2 79 rfl
    have v62 : hold (.node nN) w (a.tmps[80]?.getD undef) := by rw [← Array.getD_eq_getD_getElem?]; exact (hv 62 (by kernel_rfl)).2 80 rfl
    have v63 : hold (.words [⟨#[108, 110]⟩, ⟨#[97]⟩, ⟨#[98]⟩]) w (a.tmps[81]?.getD undef) := by rw [← Array.getD_eq_getD_getElem?]; exact (hv 63 (by kernel_rfl)).2 81 rfl
    have v60 : hold .yes w (a.tmps[78]?.getD undef) := by rw [← Array.getD_eq_getD_getElem?]; exact (hv 60 (by kernel_rfl)).2 78 rfl
    refine ⟨Rg.wanted (g := 60) (d := 78) rfl rfl (by rw [Array.getD_eq_getD_getElem?]; exact v60), fun K hK => ?_⟩
    have HM : Hid (∀ w' v, Below w.heap.size w w' → hold .yes w' v → K (a.put (some 82) v) w') := Lib.hid fun w' v hb2 h => hK v w' (hb.trans (hb2.mono hb.size)) (fun j e _ _ h => hold_kept hb2 h) (fun _ => h)
    clear hK hv hk hd hsz hl hc
    have HD := Lib.hid (call8 v61 v62 v63)
    clear v61 v62 v63
    go_simp
    refine HD.out.mono ?_
    rintro e w2 ⟨rfl, hb2⟩
    exact HM.out _ _ hb2 rfl
   ·refine ⟨_, rfl, fun l a w hl hc hd hsz hb hk hv => ?_⟩
    have v60 : hold .yes w (a.tmps[78]?.getD undef) := by rw [← Array.getD_eq_getD_getElem?]; exact (hv 60 (by kernel_rfl)).2 78 rfl
    have v64 : hold .yes w (a.tmps[82]?.getD undef) := by rw [← Array.getD_eq_getD_getElem?]; exact (hv 64 (by kernel_rfl)).2 82 rfl
    refine ⟨rfl, fun K hK => ?_⟩
    have HM : Hid (∀ w' v, Below w.heap.size w w' → hold .yes w' v → K (a.put (some 83) v) w') := Lib.hid fun w' v hb2 h => hK v w' (hb.trans (hb2.mono hb.size)) (fun j e _ _ h => hold_kept hb2 h) (fun _ => h)
    clear hK hv hk hd hsz hl hc
    have v60 : a.tmps[78]?.getD undef = .bool true := v60
    have v64 : a.tmps[82]?.getD undef = .bool true := v64
    go_simp
    exact HM.out _ _ (Below.refl _ _) rfl
   ·refine ⟨_, rfl, fun l a w hl hc hd hsz hb hk hv => ?_⟩
    have v65 : hold .yes w (a.tmps[83]?.getD undef) := by rw [← Array.getD_eq_getD_getElem?]; exact (hv 65 (by kernel_rfl)).2 83 rfl
    refine ⟨rfl, fun K hK => ?_⟩
    have HM : Hid (∀ w' v, Below w.heap.size w w' → hold .yes w' v → K (a.put (some 84) v) w') := Lib.hid fun w' v hb2 h => hK v w' (hb.trans (hb2.mono hb.size)) (fun j e _ _ h => hold_kept hb2 h) (fun _ => h)
    clear hK hv hk hd hsz hl hc
    have v65 : a.tmps[83]?.getD undef = .bool true := v65
    go_simp
    exact HM.out _ _ (Below.refl _ _) rfl
   ·refine ⟨_, rfl, fun l a w hl hc hd hsz hb hk hv => ?_⟩
    have v66 : hold .yes w (a.tmps[84]?.getD undef) := by rw [← Array.getD_eq_getD_getElem?]; exact (hv 66 (by kernel_rfl)).2 84 rfl
    refine ⟨Rg.wanted (g := 66) (d := 84) rfl rfl (by rw [Array.getD_eq_getD_getElem?]; exact v66), fun K hK => ?_⟩
    have e2 : a.tmps[2]?.getD undef = .pointer (some ⟨gn, 0, none⟩) := by rw [← Array.getD_eq_getD_getElem?]; exact hk 2 (by kernel_rfl)
    obtain ⟨a0, a1, a2, a3⟩ := HCN.out w hb
    have HND := Lib.hid (HNN1.out w hb)
    have HM : Hid (∀ w' v, Below w.heap.size w w' → hold (.node nN) w' v → K (a.put (some 85) v) w') := Lib.hid fun w' v hb2 h => hK v w' (hb.trans (hb2.mono hb.size)) (fun j e _ _ h => hold_kept hb2 h) (fun _ => h)
    clear hK hv hk hd hsz hl hc
    go_simp
    exact HM.out _ _ (Below.refl _ _) ⟨_, _, _, _, rfl, HND.out⟩
   ·refine ⟨_, rfl, fun l a w hl hc hd hsz hb hk hv => ?_⟩
    have v66 : hold .yes w (a.tmps[84]?.getD undef) := by rw [← Array.getD_eq_getD_getElem?]; exact (hv 66 (by kernel_rfl)).2 84 rfl
    refine ⟨Rg.wanted (g := 66) (d := 84) rfl rfl (by rw [Array.getD_eq_getD_getElem?]; exact v66), fun K hK => ?_⟩
    have e2 : a.tmps[2]?.getD undef = .pointer (some ⟨gn, 0, none⟩) := by rw [← Array.getD_eq_getD_getElem?]; exact hk 2 (by kernel_rfl)
    obtain ⟨a0, a1, a2, a3⟩ := HCN.out w hb
    have HND := Lib.hid (HNN1.out w hb)
    have HM : Hid (∀ w' v, Below w.heap.size w w' → hold (.node nN) w' v → K (a.put (some 86) v) w') := Lib.hid fun w' v hb2 h => hK v w' (hb.trans (hb2.mono hb.size)) (fun j e _ _ h => hold_kept hb2 h) (fun _ => h)
    clear hK hv hk hd hsz hl hc
    go_simp
    exact HM.out _ _ (Below.refl _ _) ⟨_, _, _, _, rfl, HND.out⟩
   ·refine ⟨_, rfl, fun l a w hl hc hd hsz hb hk hv => ?_⟩
    have v66 : hold .yes w (a.tmps[84]?.getD undef) := by rw [← Array.getD_eq_getD_getElem?]; exact (hv 66 (by kernel_rfl)).2 84 rfl
    refine ⟨Rg.wanted (g := 66) (d := 84) rfl rfl (by rw [Array.getD_eq_getD_getElem?]; exact v66), fun K hK => ?_⟩
    have HM : Hid (∀ w' v, Below w.heap.size w w' → hold (.words [⟨#[109, 118]⟩, ⟨#[97]⟩]) w' v → K (a.put (some 87) v) w') := Lib.hid fun w' v hb2 h => hK v w' (hb.trans (hb2.mono hb.size)) (fun j e _ _ h => hold_kept hb2 h) (fun _ => h)
    clear hK hv hk hd hsz hl hc
    go_simp
    exact HM.out _ _ (below_alloc (Below.refl _ _)) ⟨_, rfl, Bk.new _ _ _⟩
   ·refine ⟨_, rfl, fun l a w hl hc hd hsz hb hk hv => ?_⟩
    have v67 : hold (.node nN) w (a.tmps[85]?.getD undef) := by rw [← Array.getD_eq_getD_getElem?]; exact (hv 67 (by kernel_rfl)).2 85 rfl
    have v68 : hold (.node nN) w (a.tmps[86]?.getD undef) := by rw [← Array.getD_eq_getD_getElem?]; exact (hv 68 (by kernel_rfl)).2 86 rfl
    have v69 : hold (.words [⟨#[109, 118]⟩, ⟨#[97]⟩]) w (a.tmps[87]?.getD undef) := by rw [← Array.getD_eq_getD_getElem?]; exact (hv 69 (by kernel_rfl)).2 87 rfl
    have v66 : hold .yes w (a.tmps[84]?.getD undef) := by rw [← Array.getD_eq_getD_getElem?]; exact (hv 66 (by kernel_rfl)).2 84 rfl
    refine ⟨Rg.wanted (g := 66) (d := 84) rfl rfl (by rw [Array.getD_eq_getD_getElem?]; exact v66), fun K hK => ?_⟩
    have HM : Hid (∀ w' v, Below w.heap.size w w' → hold .yes w' v → K (a.put (some 88) v) w') := Lib.hid fun w' v hb2 h => hK v w' (hb.trans (hb2.mono hb.size)) (fun j e _ _ h => hold_kept hb2 h) (fun _ => h)
    clear hK hv hk hd hsz hl hc
    have HD := Lib.hid (call9 v67 v68 v69)
    clear v67 v68 v69
    go_simp
    refine HD.out.mono ?_
    rintro e w2 ⟨rfl, hb2⟩
    exact HM.out _ _ hb2 rfl
   ·refine ⟨_, rfl, fun l a w hl hc hd hsz hb hk hv => ?_⟩
    have v66 : hold .yes w (a.tmps[84]?.getD undef) := by rw [← Array.getD_eq_getD_getElem?]; exact (hv 66 (by kernel_rfl)).2 84 rfl
    have v70 : hold .yes w (a.tmps[88]?.getD undef) := by rw [← Array.getD_eq_getD_getElem?]; exact (hv 70 (by kernel_rfl)).2 88 rfl
    refine ⟨rfl, fun K hK => ?_⟩
    have HM : Hid (∀ w' v, Below w.heap.size w w' → hold .yes w' v → K (a.put (some 89) v) w') := Lib.hid fun w' v hb2 h => hK v w' (hb.trans (hb2.mono hb.size)) (fun j e _ _ h => hold_kept hb2 h) (fun _ => h)
    clear hK hv hk hd hsz hl hc
    have v66 : a.tmps[84]?.getD undef = .bool true := v66
    have v70 : a.tmps[88]?.getD undef = .bool true := v70
    go_simp
    exact HM.out _ _ (Below.refl _ _) rfl
   ·refine ⟨_, rfl, fun l a w hl hc hd hsz hb hk hv => ?_⟩
    have v71 : hold .yes w (a.tmps[89]?.getD undef) := by rw [← Array.getD_eq_getD_getElem?]; exact (hv 71 (by kernel_rfl)).2 89 rfl
    refine ⟨rfl, fun K hK => ?_⟩
    have HM : Hid (∀ w' v, Below w.heap.size w w' → hold .yes w' v → K (a.put (some 0) v) w') := Lib.hid fun w' v hb2 h => hK v w' (hb.trans (hb2.mono hb.size)) (fun j e _ _ h => hold_kept hb2 h) (fun _ => h)
    clear hK hv hk hd hsz hl hc
    have v71 : a.tmps[89]?.getD undef = .bool true := v71
    go_simp
    exact HM.out _ _ (Below.refl _ _) rfl
  ·intro l a w hall hd hsz hb hk hv
   have h0 : a.tmps[0]?.getD undef = .bool true := by rw [← Array.getD_eq_getD_getElem?]; exact hv 72 0 rfl
   have HB : Hid (Below W.heap.size W w) := Lib.hid (HBW.out.trans (((Below.refl w8.heap.size w8).drew.trans hb).mono HBW.out.size))
   have HDF : Hid (a.defers = []) := Lib.hid hd
   clear hv hall hk hd hsz hb
   go_wp2_with fail
   exact bodyPost_ret (v := .bool true) (by simp [results, Tryz.results5, go_sem, h0]) HDF.out ⟨rfl, HB.out⟩
end Works13
end Go.Proofs.YtfilbknnpjbmcaaGreatDoor
