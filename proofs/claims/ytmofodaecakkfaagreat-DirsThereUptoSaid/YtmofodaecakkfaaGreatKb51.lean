/- The statements' own check that package dirs answers at all: true in any world. -/
import Derived.Test.YtmofodaecakkfaaGreatKb50
import Derived.Test.YtmofodaecakkfaaGreatKb02
import Derived.Test.YtmofodaecakkfaaGreatKb15
import Derived.Test.YtmofodaecakkfaaGreatKb04
import Derived.Deep.Cut
import Derived.Deep.RegionHeld3
import Derived.Test.YtmofodaecakkfaaGreatKb40
namespace Go.Proofs.YtmofodaecakkfaaGreat
open Go.RowKit Px Nx Wk Dn Ox
namespace Works12
/-- A block of cells. -/
def Bk (w : World) (g : Nat) (vs : List Value) (t : TypeId) : Prop := w.heap[g]? = some (.cells vs.toArray t (0, 0))
theorem Bk.lt {w : World} {g : Nat} {vs : List Value} {t : TypeId} (h : Bk w g vs t) : g < w.heap.size := by
  rcases Nat.lt_or_ge g w.heap.size with hlt | hge
  · exact hlt
  · unfold Bk at h; rw [Array.getElem?_eq_none hge] at h; cases h
theorem Bk.kept {w w' : World} {g : Nat} {vs : List Value} {t : TypeId} (h : Bk w g vs t) (hb : Below w.heap.size w w') : Bk w' g vs t := by
  have := h.lt
  unfold Bk at *
  rw [hb.block _ this]; exact h
theorem Bk.new (w : World) (vs : List Value) (t : TypeId) : Bk (w.alloc (.cells vs.toArray t)) w.heap.size vs t := heap_alloc_new w _
theorem Bk.at {w : World} {g : Nat} {vs : List Value} {t : TypeId} (h : Bk w g vs t) {j : Nat} {v : Value} (hj : vs[j]? = some v) : w.cell? ⟨g, j, none⟩ = some v := by
  rw [cell_of_row _ _ _ _ _ _ h]
  simpa using hj
theorem Bk.strs {w : World} {g : Nat} {l : List ByteArray} {t : TypeId} (h : Bk w g (l.map Value.string) t) : Strs w (some ⟨g, 0, none⟩) l := by
  intro i hi
  refine ⟨g, 0, rfl, ?_⟩
  rw [Nat.zero_add]
  refine h.at ?_
  rw [List.getElem?_map, List.getElem?_eq_getElem hi, List.getD_eq_getElem?_getD, List.getElem?_eq_getElem hi]
  rfl
theorem Bk.pl {w : World} {g : Nat} {l : List ByteArray} {t : TypeId} (h : Bk w g (l.map Value.string) t) (hl : l.length ≤ maxLen) : PlR w (.slice (some ⟨g, 0, none⟩) l.length l.length) l := ⟨_, _, rfl, h.strs, Nat.le_refl _, hl⟩
theorem Bk.node {w : World} {g h : Nat} {l : List ByteArray} {zs : List Value} {kids : List Nd} {t t' : TypeId} (hn : Bk w g (l.map Value.string) t) (hk : Bk w h zs t') (hz : All4 (NodeR w) zs kids) (hl : l.length ≤ maxLen) (hm : kids.length ≤ maxLen) :
    NodeR w [.int .u8 2, .string ByteArray.empty, .slice (some ⟨g, 0, none⟩) l.length l.length, .slice (some ⟨h, 0, none⟩) kids.length kids.length] (.mk 2 ByteArray.empty l kids) := by
  refine .mk 2 ByteArray.empty l kids _ _ l.length kids.length (fun i => (zs.drop (i * 4)).take 4) (Nat.le_refl _) hl hn.strs (Nat.le_refl _) hm ?_ (fun i x hx => (hz.at i x hx).1)
  intro i hi
  refine ⟨h, 0, rfl, (hz.at i _ (List.getElem?_eq_getElem hi)).2, fun j u hj => ?_⟩
  have hj4 : j < 4 := by
    have := (List.getElem?_eq_some_iff.1 hj).1
    rw [List.length_take] at this
    omega
  have hj' : ((zs.drop (i * 4)).take 4)[j]? = some u := hj
  rw [List.getElem?_take_of_lt hj4, List.getElem?_drop] at hj'
  rw [Nat.zero_add]
  exact hk.at hj'
theorem Bk.by {w w' : World} {g m : Nat} {vs : List Value} {t : TypeId} (h : Bk w g vs t) (hg : w.grownBy w' (some m)) (hne : g ≠ m) : Bk w' g vs t := by
  have := h.lt
  unfold Bk at *
  rw [hg.block _ this (by simpa using hne)]; exact h
theorem leaf (w : World) (s : ByteArray) : NodeR w [.int .u8 1, .string s, .slice none 0 0, .slice none 0 0] (.mk 1 s [] []) :=
  .mk 1 s [] [] none none 0 0 (fun _ => []) (Nat.le_refl _) (Nat.zero_le _) (fun i hi => absurd hi (Nat.not_lt_zero _)) (Nat.le_refl _) (Nat.zero_le _) (fun i hi => absurd hi (Nat.not_lt_zero _)) (fun i x hx => by simp at hx)
theorem Bk.newE {w : World} {g : Nat} {vs : List Value} {t : TypeId} (hg : g = w.heap.size) : Bk (w.alloc (.cells vs.toArray t)) g vs t := hg ▸ Bk.new w vs t
theorem Bk.al {w : World} {g : Nat} {vs : List Value} {t : TypeId} {o : Obj} (h : Bk w g vs t) : Bk (w.alloc o) g vs t := h.kept (below_alloc (Below.refl _ _))
theorem below_turn {W w w' : World} {b : Nat} (h : Below W.heap.size W w) (hg : w.grownBy w' (some b)) (hb : W.heap.size ≤ b) : Below W.heap.size W w' := h.grown hg h.size fun k hk => by cases hk; exact hb
set_option maxRecDepth 100000 in
set_option maxHeartbeats 8000000 in
theorem example_any (W : World) : Calls Tryz.prog 18 #[] W fun e w' => (∃ b y0 y1 y2 y3, e = .returned (.pointer (some ⟨b, 0, none⟩)) ∧ W.heap.size ≤ b ∧ TreeX w' b root y0 y1 y2 y3) ∧ Below W.heap.size W w' := by
  go_enter Tryz.func18, Tryz.ntmps18
  go_wp2_with fail
  have HBW : Hid (Below W.heap.size W ((((W.alloc (.cells #[.string ⟨#[97]⟩, .string ⟨#[100]⟩] 9)).alloc (.cells #[.string ⟨#[101]⟩] 9)).alloc (.cells #[.int .u8 1, .string ⟨#[]⟩, .slice none 0 0, .slice none 0 0] 25)).alloc (.cells #[.int .u8 1, .string ⟨#[120]⟩, .slice none 0 0, .slice none 0 0, .int .u8 2, .string ⟨#[]⟩, .slice (some ⟨W.heap.size + 1, 0, none⟩) 1 1, .slice (some ⟨W.heap.size + 1 + 1, 0, none⟩) 1 1] 25))) := Lib.hid (below_alloc (below_alloc (below_alloc (below_alloc (Below.refl _ _)))))
  have B1 : Hid (Bk ((((W.alloc (.cells #[.string ⟨#[97]⟩, .string ⟨#[100]⟩] 9)).alloc (.cells #[.string ⟨#[101]⟩] 9)).alloc (.cells #[.int .u8 1, .string ⟨#[]⟩, .slice none 0 0, .slice none 0 0] 25)).alloc (.cells #[.int .u8 1, .string ⟨#[120]⟩, .slice none 0 0, .slice none 0 0, .int .u8 2, .string ⟨#[]⟩, .slice (some ⟨W.heap.size + 1, 0, none⟩) 1 1, .slice (some ⟨W.heap.size + 1 + 1, 0, none⟩) 1 1] 25)) (W.heap.size) [.string ⟨#[97]⟩, .string ⟨#[100]⟩] 9) := Lib.hid (Bk.al (Bk.al (Bk.al (Bk.newE (by first | rfl | simp)))))
  have B2 : Hid (Bk ((((W.alloc (.cells #[.string ⟨#[97]⟩, .string ⟨#[100]⟩] 9)).alloc (.cells #[.string ⟨#[101]⟩] 9)).alloc (.cells #[.int .u8 1, .string ⟨#[]⟩, .slice none 0 0, .slice none 0 0] 25)).alloc (.cells #[.int .u8 1, .string ⟨#[120]⟩, .slice none 0 0, .slice none 0 0, .int .u8 2, .string ⟨#[]⟩, .slice (some ⟨W.heap.size + 1, 0, none⟩) 1 1, .slice (some ⟨W.heap.size + 1 + 1, 0, none⟩) 1 1] 25)) (W.heap.size + 1) [.string ⟨#[101]⟩] 9) := Lib.hid (Bk.al (Bk.al (Bk.newE (by first | rfl | simp))))
  have B3 : Hid (Bk ((((W.alloc (.cells #[.string ⟨#[97]⟩, .string ⟨#[100]⟩] 9)).alloc (.cells #[.string ⟨#[101]⟩] 9)).alloc (.cells #[.int .u8 1, .string ⟨#[]⟩, .slice none 0 0, .slice none 0 0] 25)).alloc (.cells #[.int .u8 1, .string ⟨#[120]⟩, .slice none 0 0, .slice none 0 0, .int .u8 2, .string ⟨#[]⟩, .slice (some ⟨W.heap.size + 1, 0, none⟩) 1 1, .slice (some ⟨W.heap.size + 1 + 1, 0, none⟩) 1 1] 25)) (W.heap.size + 1 + 1) [.int .u8 1, .string ⟨#[]⟩, .slice none 0 0, .slice none 0 0] 25) := Lib.hid (Bk.al (Bk.newE (by first | rfl | simp)))
  have B4 : Hid (Bk ((((W.alloc (.cells #[.string ⟨#[97]⟩, .string ⟨#[100]⟩] 9)).alloc (.cells #[.string ⟨#[101]⟩] 9)).alloc (.cells #[.int .u8 1, .string ⟨#[]⟩, .slice none 0 0, .slice none 0 0] 25)).alloc (.cells #[.int .u8 1, .string ⟨#[120]⟩, .slice none 0 0, .slice none 0 0, .int .u8 2, .string ⟨#[]⟩, .slice (some ⟨W.heap.size + 1, 0, none⟩) 1 1, .slice (some ⟨W.heap.size + 1 + 1, 0, none⟩) 1 1] 25)) (W.heap.size + 1 + 1 + 1) [.int .u8 1, .string ⟨#[120]⟩, .slice none 0 0, .slice none 0 0, .int .u8 2, .string ⟨#[]⟩, .slice (some ⟨W.heap.size + 1, 0, none⟩) 1 1, .slice (some ⟨W.heap.size + 1 + 1, 0, none⟩) 1 1] 25) := Lib.hid (Bk.newE (by first | rfl | simp))
  generalize ((((W.alloc (.cells #[.string ⟨#[97]⟩, .string ⟨#[100]⟩] 9)).alloc (.cells #[.string ⟨#[101]⟩] 9)).alloc (.cells #[.int .u8 1, .string ⟨#[]⟩, .slice none 0 0, .slice none 0 0] 25)).alloc (.cells #[.int .u8 1, .string ⟨#[120]⟩, .slice none 0 0, .slice none 0 0, .int .u8 2, .string ⟨#[]⟩, .slice (some ⟨W.heap.size + 1, 0, none⟩) 1 1, .slice (some ⟨W.heap.size + 1 + 1, 0, none⟩) 1 1] 25)) = w7 at *
  have HN : Hid (NodeR w7 [.int .u8 2, .string ⟨#[]⟩, .slice (some ⟨W.heap.size, 0, none⟩) 2 2, .slice (some ⟨W.heap.size + 1 + 1 + 1, 0, none⟩) 2 2] root) := Lib.hid (B1.out.node (l := [tA, tD]) B4.out (.cons _ _ _ _ rfl (leaf _ _) (.one rfl (B2.out.node (l := [tE]) B3.out (.one rfl (leaf _ _)) (by decide) (by decide)))) (by decide) (by decide))
  refine (fnew_any HN.out (by have := root_small; omega) w7 (Below.refl _ _)).mono ?_
  rintro e w10 ⟨hnw, hb⟩
  rw [if_pos root_may] at hnw
  obtain ⟨b, y0, y1, y2, y3, rfl, hbb, ht, _⟩ := hnw
  have hbW : W.heap.size ≤ b := Nat.le_trans HBW.out.size hbb
  have HBX := Lib.hid (HBW.out.trans (hb.mono HBW.out.size))
  have HT := Lib.hid ht
  clear hb ht hbb HN B1 B2 B3 B4 HBW
  go_wp2_with fail
  go_ret
  exact ⟨⟨b, _, _, _, _, rfl, hbW, HT.out⟩, HBX.out⟩

set_option maxRecDepth 100000 in
set_option maxHeartbeats 8000000 in
theorem awake_any (W : World) : Calls Tryz.prog 6 #[] W fun e w' => e = .returned (.bool true) ∧ Below W.heap.size W w' := by
  go_enter Tryz.func6, Tryz.ntmps6
  go_wp2_with fail
  refine (example_any W).mono ?_
  rintro e w0 ⟨⟨b, y0, y1, y2, y3, rfl, hbW, ht⟩, hb⟩
  have HBW := Lib.hid hb
  have HT := Lib.hid ht
  clear hb ht
  go_wp2_with fail
  have hlt_P1 : b < w0.heap.size := HT.out.lt
  have hal : Below w0.heap.size w0 (w0.alloc (.cells #[.string ⟨#[109, 107, 100, 105, 114]⟩, .string ⟨#[97]⟩, .string ⟨#[100, 47, 120]⟩] 9)) := (Below.refl _ _).alloc (Nat.le_refl _) _
  have HBW' := Lib.hid (HBW.out.trans ((hal).mono HBW.out.size))
  have HT' := Lib.hid (HT.out.kept hal)
  clear HBW HT
  have HBW := HBW'
  clear HBW'
  have HT := HT'
  clear HT'
  have P1 : Hid (Bk (w0.alloc (.cells #[.string ⟨#[109, 107, 100, 105, 114]⟩, .string ⟨#[97]⟩, .string ⟨#[100, 47, 120]⟩] 9)) w0.heap.size [.string ⟨#[109, 107, 100, 105, 114]⟩, .string ⟨#[97]⟩, .string ⟨#[100, 47, 120]⟩] 9) := Lib.hid (Bk.new w0 [.string ⟨#[109, 107, 100, 105, 114]⟩, .string ⟨#[97]⟩, .string ⟨#[100, 47, 120]⟩] 9)
  have hsz_w1 : w0.heap.size + 1 = (w0.alloc (.cells #[.string ⟨#[109, 107, 100, 105, 114]⟩, .string ⟨#[97]⟩, .string ⟨#[100, 47, 120]⟩] 9)).heap.size := by simp
  clear hal
  generalize (w0.alloc (.cells #[.string ⟨#[109, 107, 100, 105, 114]⟩, .string ⟨#[97]⟩, .string ⟨#[100, 47, 120]⟩] 9)) = w1 at *
  generalize hg_P1 : w0.heap.size = gP1 at *
  clear hg_P1
  clear hsz_w1 hlt_P1
  refine (Run_any HT.out root_tree (by decide) (xs := [nMkdir, tA, tDX]) (P1.out.pl (l := [nMkdir, tA, tDX]) (by decide)) (by decide) (of_decide_eq_true (by kernel_rfl))).mono ?_
  rintro e w2 ⟨code, err, is, nn, rfl, ha, ⟨x0, x1, x2, x3, ht⟩, hg⟩
  obtain ⟨rfl, rfl, rfl, rfl⟩ := run1 ha
  clear ha
  have HT2 : Hid (TreeX w2 b r1 x0 x1 x2 x3) := Lib.hid ht
  have HBW2 := Lib.hid (below_turn HBW.out hg hbW)
  clear ht hg HT HBW P1
  have HT := HT2
  have HBW := HBW2
  clear HT2 HBW2
  go_wp2_with fail
  have hlt_P2 : b < w2.heap.size := HT.out.lt
  have hal : Below w2.heap.size w2 (w2.alloc (.cells #[.string ⟨#[114, 109]⟩, .string ⟨#[45, 114, 102]⟩, .string ⟨#[100, 47, 101]⟩, .string ⟨#[122]⟩] 9)) := (Below.refl _ _).alloc (Nat.le_refl _) _
  have HBW' := Lib.hid (HBW.out.trans ((hal).mono HBW.out.size))
  have HT' := Lib.hid (HT.out.kept hal)
  clear HBW HT
  have HBW := HBW'
  clear HBW'
  have HT := HT'
  clear HT'
  have P2 : Hid (Bk (w2.alloc (.cells #[.string ⟨#[114, 109]⟩, .string ⟨#[45, 114, 102]⟩, .string ⟨#[100, 47, 101]⟩, .string ⟨#[122]⟩] 9)) w2.heap.size [.string ⟨#[114, 109]⟩, .string ⟨#[45, 114, 102]⟩, .string ⟨#[100, 47, 101]⟩, .string ⟨#[122]⟩] 9) := Lib.hid (Bk.new w2 [.string ⟨#[114, 109]⟩, .string ⟨#[45, 114, 102]⟩, .string ⟨#[100, 47, 101]⟩, .string ⟨#[122]⟩] 9)
  have hsz_w3 : w2.heap.size + 1 = (w2.alloc (.cells #[.string ⟨#[114, 109]⟩, .string ⟨#[45, 114, 102]⟩, .string ⟨#[100, 47, 101]⟩, .string ⟨#[122]⟩] 9)).heap.size := by simp
  clear hal
  generalize (w2.alloc (.cells #[.string ⟨#[114, 109]⟩, .string ⟨#[45, 114, 102]⟩, .string ⟨#[100, 47, 101]⟩, .string ⟨#[122]⟩] 9)) = w3 at *
  generalize hg_P2 : w2.heap.size = gP2 at *
  clear hg_P2
  clear hsz_w3 hlt_P2
  refine (Run_any HT.out r1_tree (by decide) (xs := [nRm, tRF, tDE, tZ]) (P2.out.pl (l := [nRm, tRF, tDE, tZ]) (by decide)) (by decide) (of_decide_eq_true (by kernel_rfl))).mono ?_
  rintro e w4 ⟨code, err, is, nn, rfl, ha, ⟨x0, x1, x2, x3, ht⟩, hg⟩
  obtain ⟨rfl, rfl, rfl⟩ := run2 ha
  clear ha
  have HT2 : Hid (TreeX w4 b r2 x0 x1 x2 x3) := Lib.hid ht
  have HBW2 := Lib.hid (below_turn HBW.out hg hbW)
  clear ht hg HT HBW P2
  have HT := HT2
  have HBW := HBW2
  clear HT2 HBW2
  go_wp2_with fail
  have hlt_P3 : b < w4.heap.size := HT.out.lt
  have hal : Below w4.heap.size w4 (w4.alloc (.cells #[.string ⟨#[100]⟩, .string ⟨#[120]⟩] 9)) := (Below.refl _ _).alloc (Nat.le_refl _) _
  have HBW' := Lib.hid (HBW.out.trans ((hal).mono HBW.out.size))
  have HT' := Lib.hid (HT.out.kept hal)
  clear HBW HT
  have HBW := HBW'
  clear HBW'
  have HT := HT'
  clear HT'
  have P3 : Hid (Bk (w4.alloc (.cells #[.string ⟨#[100]⟩, .string ⟨#[120]⟩] 9)) w4.heap.size [.string ⟨#[100]⟩, .string ⟨#[120]⟩] 9) := Lib.hid (Bk.new w4 [.string ⟨#[100]⟩, .string ⟨#[120]⟩] 9)
  have hsz_w5 : w4.heap.size + 1 = (w4.alloc (.cells #[.string ⟨#[100]⟩, .string ⟨#[120]⟩] 9)).heap.size := by simp
  clear hal
  generalize (w4.alloc (.cells #[.string ⟨#[100]⟩, .string ⟨#[120]⟩] 9)) = w5 at *
  generalize hg_P3 : w4.heap.size = gP3 at *
  clear hg_P3
  clear hsz_w5 hlt_P3
  refine (fkind_any HT.out r2_tree.well (by have := r2_small; omega) (P3.out.pl (l := [tD, tX]) (by decide))).mono ?_
  rintro e w6 ⟨he, hb⟩
  rw [show ((r2.at_ [tD, tX]).getD absent).kind.toNat = 2 from by kernel_rfl] at he
  subst he
  have HBW' := Lib.hid (HBW.out.trans ((hb).mono HBW.out.size))
  have HT' := Lib.hid (HT.out.kept hb)
  clear HBW HT
  have HBW := HBW'
  clear HBW'
  have HT := HT'
  clear HT'
  clear hb P3
  go_wp2_with fail
  have hlt_P4 : b < w6.heap.size := HT.out.lt
  have hal : Below w6.heap.size w6 (w6.alloc (.cells #[.string ⟨#[100]⟩, .string ⟨#[101]⟩] 9)) := (Below.refl _ _).alloc (Nat.le_refl _) _
  have HBW' := Lib.hid (HBW.out.trans ((hal).mono HBW.out.size))
  have HT' := Lib.hid (HT.out.kept hal)
  clear HBW HT
  have HBW := HBW'
  clear HBW'
  have HT := HT'
  clear HT'
  have P4 : Hid (Bk (w6.alloc (.cells #[.string ⟨#[100]⟩, .string ⟨#[101]⟩] 9)) w6.heap.size [.string ⟨#[100]⟩, .string ⟨#[101]⟩] 9) := Lib.hid (Bk.new w6 [.string ⟨#[100]⟩, .string ⟨#[101]⟩] 9)
  have hsz_w7 : w6.heap.size + 1 = (w6.alloc (.cells #[.string ⟨#[100]⟩, .string ⟨#[101]⟩] 9)).heap.size := by simp
  clear hal
  generalize (w6.alloc (.cells #[.string ⟨#[100]⟩, .string ⟨#[101]⟩] 9)) = w7 at *
  generalize hg_P4 : w6.heap.size = gP4 at *
  clear hg_P4
  clear hsz_w7 hlt_P4
  refine (fkind_any HT.out r2_tree.well (by have := r2_small; omega) (P4.out.pl (l := [tD, tE]) (by decide))).mono ?_
  rintro e w8 ⟨he, hb⟩
  rw [show ((r2.at_ [tD, tE]).getD absent).kind.toNat = 0 from by kernel_rfl] at he
  subst he
  have HBW' := Lib.hid (HBW.out.trans ((hb).mono HBW.out.size))
  have HT' := Lib.hid (HT.out.kept hb)
  clear HBW HT
  have HBW := HBW'
  clear HBW'
  have HT := HT'
  clear HT'
  clear hb P4
  go_wp2_with fail
  go_ret
  exact ⟨rfl, HBW.out⟩
end Works12
end Go.Proofs.YtmofodaecakkfaaGreat
/- Walks over nodes: is all that one has in another one? (of the statement). -/
namespace Go.Proofs.YtmofodaecakkfaaGreat
open Go.RowKit Px Nx

end Go.Proofs.YtmofodaecakkfaaGreat
/- The statement on what is kept: mkdir and touch take nothing away, rmdir and rm make nothing, what is refused changes nothing. -/
namespace Go.Proofs.YtmofodaecakkfaaGreat
open Go.RowKit Px Nx Wk Dn Ox
open Works12 (Bk)
namespace Dn
theorem ans_tree {N : Nat} {n n' : Nd} {xs : List ByteArray} {code : Int} {err : ByteArray} {is : Bool} (hG : TreeN N n) (hl : xs.length ≤ 40) (h : AnsD n xs code err is n') : TreeN (N + 10280) n' := by
  have key : ∀ {O : List UInt8} {A : UInt8} {R : ByteArray → Rel} {d : Nat} {name : ByteArray} {rest : List ByteArray}, RunD O A R n name rest code err n' → (∀ S, Grows (R S) d) → d ≤ 257 → rest.length ≤ 40 → TreeN (N + 10280) n' := by
    intro O A R d name rest h hg hd hr
    rcases runD_ops h with rfl | ⟨bad, ho⟩
    · exact hG.more (by omega)
    · refine (ops_grows (hg _) ho hG).more ?_
      have h1 := parse_len (kn := O) (xs := rest) (a := 0) (b := rest.length)
      have h2 := Nat.mul_le_mul hd (Nat.le_trans h1 hr)
      omega
  rcases h with ⟨_, _, _, rfl, _⟩ | ⟨_, name, rest, rfl, ⟨_, h⟩ | ⟨_, h⟩ | ⟨_, h⟩ | ⟨_, h⟩⟩
  · exact hG.more (by omega)
  · exact key h (fun S => grows_mk _) (Nat.le_refl _) (by rw [List.length_cons] at hl; omega)
  · exact key h (fun S => grows_rmdir) (by decide) (by rw [List.length_cons] at hl; omega)
  · exact key h (fun S => grows_touch) (by decide) (by rw [List.length_cons] at hl; omega)
  · exact key h (fun S => grows_rm _ _) (by decide) (by rw [List.length_cons] at hl; omega)
end Dn
end Go.Proofs.YtmofodaecakkfaaGreat
