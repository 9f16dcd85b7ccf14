/- The statements' own check that package prim answers at all: true in any world. -/
import Derived.Test.YtonpeoaahjoboaaPmE
import Derived.Test.YtonpeoaahjoboaaPmD
namespace Go.Proofs.Ytonpeoaahjoboaa
open Go.RowKit Px Nx
namespace Works10
/-- A block of cells. -/
def Bk (w : World) (g : Nat) (vs : List Value) (t : TypeId) : Prop := w.heap[g]? = some (.cells vs.toArray t (0, 0))
theorem Bk.lt {w : World} {g : Nat} {vs : List Value} {t : TypeId} (h : Bk w g vs t) : g < w.heap.size := by
  rcases Nat.lt_or_ge g w.heap.size with hlt | hge
  · exact hlt
  · unfold Bk at h; rw [Array.getElem?_eq_none hge] at h; cases h
theorem Bk.kept {w w' : World} {g : Nat} {vs : List Value} {t : TypeId} (h : Bk w g vs t) (hb : Below w.heap.size w w') : Bk w' g vs t := by
  have := h.lt
  unfold Bk at *
  rw [hb.block _ this]; exact h
theorem Bk.new (w : World) (vs : List Value) (t : TypeId) : Bk (w.alloc (.cells vs.toArray t)) w.heap.size vs t := heap_alloc_new w _
theorem Bk.at {w : World} {g : Nat} {vs : List Value} {t : TypeId} (h : Bk w g vs t) {j : Nat} {v : Value} (hj : vs[j]? = some v) : w.cell? ⟨g, j, none⟩ = some v := by
  rw [cell_of_row _ _ _ _ _ _ h]
  simpa using hj
theorem Bk.strs {w : World} {g : Nat} {l : List ByteArray} {t : TypeId} (h : Bk w g (l.map Value.string) t) : Strs w (some ⟨g, 0, none⟩) l := by
  intro i hi
  refine ⟨g, 0, rfl, ?_⟩
  rw [Nat.zero_add]
  refine h.at ?_
  rw [List.getElem?_map, List.getElem?_eq_getElem hi, List.getD_eq_getElem?_getD, List.getElem?_eq_getElem hi]
  rfl
theorem Bk.pl {w : World} {g : Nat} {l : List ByteArray} {t : TypeId} (h : Bk w g (l.map Value.string) t) (hl : l.length ≤ maxLen) : PlR w (.slice (some ⟨g, 0, none⟩) l.length l.length) l := ⟨_, _, rfl, h.strs, Nat.le_refl _, hl⟩
theorem Bk.node {w : World} {g h : Nat} {l : List ByteArray} {zs : List Value} {kids : List Nd} {t t' : TypeId} (hn : Bk w g (l.map Value.string) t) (hk : Bk w h zs t') (hz : All4 (NodeR w) zs kids) (hl : l.length ≤ maxLen) (hm : kids.length ≤ maxLen) :
    NodeR w [.int .u8 2, .string ByteArray.empty, .slice (some ⟨g, 0, none⟩) l.length l.length, .slice (some ⟨h, 0, none⟩) kids.length kids.length] (.mk 2 ByteArray.empty l kids) := by
  refine .mk 2 ByteArray.empty l kids _ _ l.length kids.length (fun i => (zs.drop (i * 4)).take 4) (Nat.le_refl _) hl hn.strs (Nat.le_refl _) hm ?_ (fun i x hx => (hz.at i x hx).1)
  intro i hi
  refine ⟨h, 0, rfl, (hz.at i _ (List.getElem?_eq_getElem hi)).2, fun j u hj => ?_⟩
  have hj4 : j < 4 := by
    have := (List.getElem?_eq_some_iff.1 hj).1
    rw [List.length_take] at this
    omega
  have hj' : ((zs.drop (i * 4)).take 4)[j]? = some u := hj
  rw [List.getElem?_take_of_lt hj4, List.getElem?_drop] at hj'
  rw [Nat.zero_add]
  exact hk.at hj'
theorem Bk.by {w w' : World} {g m : Nat} {vs : List Value} {t : TypeId} (h : Bk w g vs t) (hg : w.grownBy w' (some m)) (hne : g ≠ m) : Bk w' g vs t := by
  have := h.lt
  unfold Bk at *
  rw [hg.block _ this (by simpa using hne)]; exact h
theorem leaf (w : World) (s : ByteArray) : NodeR w [.int .u8 1, .string s, .slice none 0 0, .slice none 0 0] (.mk 1 s [] []) :=
  .mk 1 s [] [] none none 0 0 (fun _ => []) (Nat.le_refl _) (Nat.zero_le _) (fun i hi => absurd hi (Nat.not_lt_zero _)) (Nat.le_refl _) (Nat.zero_le _) (fun i hi => absurd hi (Nat.not_lt_zero _)) (fun i x hx => by simp at hx)
theorem Bk.newE {w : World} {g : Nat} {vs : List Value} {t : TypeId} (hg : g = w.heap.size) : Bk (w.alloc (.cells vs.toArray t)) g vs t := hg ▸ Bk.new w vs t
theorem Bk.al {w : World} {g : Nat} {vs : List Value} {t : TypeId} {o : Obj} (h : Bk w g vs t) : Bk (w.alloc o) g vs t := h.kept (below_alloc (Below.refl _ _))
def tA : ByteArray := ⟨#[97]⟩
def tB : ByteArray := ⟨#[98]⟩
def tD : ByteArray := ⟨#[100]⟩
def tE : ByteArray := ⟨#[101]⟩
def tN : ByteArray := ⟨#[110]⟩
def tX : ByteArray := ⟨#[120]⟩
def root : Nd := .mk 2 ByteArray.empty [tA, tD] [.mk 1 tX [] [], .mk 2 ByteArray.empty [tE] [.mk 1 ByteArray.empty [] []]]
def r1 : Nd := (makeD root [tD, tN] dirN).2
def r2 : Nd := (renameD r1 [tA] [tD, tN, tB]).2
def r3 : Nd := (removeD r2 [tD] (wrongDir r2 [tD])).2
def r4 : Nd := (removeD r3 [tD, tE] (wrongFile r3 [tD, tE])).2
theorem root_may : root.may = true := by kernel_rfl
theorem root_small : root.girth ≤ 1000000 := of_decide_eq_true (by kernel_rfl)
theorem root_well : root.well = true := by kernel_rfl

theorem r1_small : r1.girth ≤ 1000000 := of_decide_eq_true (by kernel_rfl)
theorem r1_well : r1.well = true := by kernel_rfl
theorem r2_small : r2.girth ≤ 1000000 := of_decide_eq_true (by kernel_rfl)
theorem r2_well : r2.well = true := by kernel_rfl
theorem r3_small : r3.girth ≤ 1000000 := of_decide_eq_true (by kernel_rfl)
theorem r3_well : r3.well = true := by kernel_rfl
theorem r4_small : r4.girth ≤ 1000000 := of_decide_eq_true (by kernel_rfl)
theorem r4_well : r4.well = true := by kernel_rfl
theorem c1 : (makeD root [tD, tN] dirN).1 = 0 := by kernel_rfl
theorem c2 : (renameD r1 [tA] [tD, tN, tB]).1 = 0 := by kernel_rfl
theorem c3 : (removeD r2 [tD] (wrongDir r2 [tD])).1 = 57 := by kernel_rfl
theorem c4 : (removeD r3 [tD, tE] (wrongFile r3 [tD, tE])).1 = 0 := by kernel_rfl
theorem below_turn {W w w' : World} {b : Nat} (h : Below W.heap.size W w) (hg : w.grownBy w' (some b)) (hb : W.heap.size ≤ b) : Below W.heap.size W w' := h.grown hg h.size fun k hk => by cases hk; exact hb
theorem Bk.plT {w : World} {b g : Nat} {l : List ByteArray} {t : TypeId} (h : Bk w g (l.map Value.string) t) (hl : l.length ≤ maxLen) (hne : b < g) : PlT w b (.slice (some ⟨g, 0, none⟩) l.length l.length) l := fun w' hg => (h.by hg (by omega)).pl hl

set_option maxRecDepth 100000 in
set_option maxHeartbeats 8000000 in
theorem example_any (W : World) : Calls Try.prog 11 #[] W fun e w' => (∃ b y0 y1 y2 y3, e = .returned (.pointer (some ⟨b, 0, none⟩)) ∧ W.heap.size ≤ b ∧ TreeX w' b root y0 y1 y2 y3) ∧ Below W.heap.size W w' := by
  go_enter Try.func11, Try.ntmps11
  go_wp2_with fail
  have HBW : Hid (Below W.heap.size W ((((W.alloc (.cells #[.string ⟨#[97]⟩, .string ⟨#[100]⟩] 9)).alloc (.cells #[.string ⟨#[101]⟩] 9)).alloc (.cells #[.int .u8 1, .string ⟨#[]⟩, .slice none 0 0, .slice none 0 0] 40)).alloc (.cells #[.int .u8 1, .string ⟨#[120]⟩, .slice none 0 0, .slice none 0 0, .int .u8 2, .string ⟨#[]⟩, .slice (some ⟨W.heap.size + 1, 0, none⟩) 1 1, .slice (some ⟨W.heap.size + 1 + 1, 0, none⟩) 1 1] 40))) := Lib.hid (below_alloc (below_alloc (below_alloc (below_alloc (Below.refl _ _)))))
  have B1 : Hid (Bk ((((W.alloc (.cells #[.string ⟨#[97]⟩, .string ⟨#[100]⟩] 9)).alloc (.cells #[.string ⟨#[101]⟩] 9)).alloc (.cells #[.int .u8 1, .string ⟨#[]⟩, .slice none 0 0, .slice none 0 0] 40)).alloc (.cells #[.int .u8 1, .string ⟨#[120]⟩, .slice none 0 0, .slice none 0 0, .int .u8 2, .string ⟨#[]⟩, .slice (some ⟨W.heap.size + 1, 0, none⟩) 1 1, .slice (some ⟨W.heap.size + 1 + 1, 0, none⟩) 1 1] 40)) (W.heap.size) [.string ⟨#[97]⟩, .string ⟨#[100]⟩] 9) := Lib.hid (Bk.al (Bk.al (Bk.al (Bk.newE (by first | rfl | simp)))))
  have B2 : Hid (Bk ((((W.alloc (.cells #[.string ⟨#[97]⟩, .string ⟨#[100]⟩] 9)).alloc (.cells #[.string ⟨#[101]⟩] 9)).alloc (.cells #[.int .u8 1, .string ⟨#[]⟩, .slice none 0 0, .slice none 0 0] 40)).alloc (.cells #[.int .u8 1, .string ⟨#[120]⟩, .slice none 0 0, .slice none 0 0, .int .u8 2, .string ⟨#[]⟩, .slice (some ⟨W.heap.size + 1, 0, none⟩) 1 1, .slice (some ⟨W.heap.size + 1 + 1, 0, none⟩) 1 1] 40)) (W.heap.size + 1) [.string ⟨#[101]⟩] 9) := Lib.hid (Bk.al (Bk.al (Bk.newE (by first | rfl | simp))))
  have B3 : Hid (Bk ((((W.alloc (.cells #[.string ⟨#[97]⟩, .string ⟨#[100]⟩] 9)).alloc (.cells #[.string ⟨#[101]⟩] 9)).alloc (.cells #[.int .u8 1, .string ⟨#[]⟩, .slice none 0 0, .slice none 0 0] 40)).alloc (.cells #[.int .u8 1, .string ⟨#[120]⟩, .slice none 0 0, .slice none 0 0, .int .u8 2, .string ⟨#[]⟩, .slice (some ⟨W.heap.size + 1, 0, none⟩) 1 1, .slice (some ⟨W.heap.size + 1 + 1, 0, none⟩) 1 1] 40)) (W.heap.size + 1 + 1) [.int .u8 1, .string ⟨#[]⟩, .slice none 0 0, .slice none 0 0] 40) := Lib.hid (Bk.al (Bk.newE (by first | rfl | simp)))
  have B4 : Hid (Bk ((((W.alloc (.cells #[.string ⟨#[97]⟩, .string ⟨#[100]⟩] 9)).alloc (.cells #[.string ⟨#[101]⟩] 9)).alloc (.cells #[.int .u8 1, .string ⟨#[]⟩, .slice none 0 0, .slice none 0 0] 40)).alloc (.cells #[.int .u8 1, .string ⟨#[120]⟩, .slice none 0 0, .slice none 0 0, .int .u8 2, .string ⟨#[]⟩, .slice (some ⟨W.heap.size + 1, 0, none⟩) 1 1, .slice (some ⟨W.heap.size + 1 + 1, 0, none⟩) 1 1] 40)) (W.heap.size + 1 + 1 + 1) [.int .u8 1, .string ⟨#[120]⟩, .slice none 0 0, .slice none 0 0, .int .u8 2, .string ⟨#[]⟩, .slice (some ⟨W.heap.size + 1, 0, none⟩) 1 1, .slice (some ⟨W.heap.size + 1 + 1, 0, none⟩) 1 1] 40) := Lib.hid (Bk.newE (by first | rfl | simp))
  generalize ((((W.alloc (.cells #[.string ⟨#[97]⟩, .string ⟨#[100]⟩] 9)).alloc (.cells #[.string ⟨#[101]⟩] 9)).alloc (.cells #[.int .u8 1, .string ⟨#[]⟩, .slice none 0 0, .slice none 0 0] 40)).alloc (.cells #[.int .u8 1, .string ⟨#[120]⟩, .slice none 0 0, .slice none 0 0, .int .u8 2, .string ⟨#[]⟩, .slice (some ⟨W.heap.size + 1, 0, none⟩) 1 1, .slice (some ⟨W.heap.size + 1 + 1, 0, none⟩) 1 1] 40)) = w7 at *
  have HN : Hid (NodeR w7 [.int .u8 2, .string ⟨#[]⟩, .slice (some ⟨W.heap.size, 0, none⟩) 2 2, .slice (some ⟨W.heap.size + 1 + 1 + 1, 0, none⟩) 2 2] root) := Lib.hid (B1.out.node (l := [tA, tD]) B4.out (.cons _ _ _ _ rfl (leaf _ _) (.one rfl (B2.out.node (l := [tE]) B3.out (.one rfl (leaf _ _)) (by decide) (by decide)))) (by decide) (by decide))
  refine (fnew_any HN.out (girth_less root_small) w7 (Below.refl _ _)).mono ?_
  rintro e w10 ⟨hnw, hb⟩
  rw [if_pos root_may] at hnw
  obtain ⟨b, y0, y1, y2, y3, rfl, hbb, ht, _⟩ := hnw
  have hbW : W.heap.size ≤ b := Nat.le_trans HBW.out.size hbb
  have HBX := Lib.hid (HBW.out.trans (hb.mono HBW.out.size))
  have HT := Lib.hid ht
  clear hb ht hbb HN B1 B2 B3 B4 HBW
  go_wp2_with fail
  go_ret
  exact ⟨⟨b, _, _, _, _, rfl, hbW, HT.out⟩, HBX.out⟩

set_option maxRecDepth 100000 in
set_option maxHeartbeats 8000000 in
theorem awake_any (W : World) : Calls Try.prog 24 #[] W fun e w' => e = .returned (.bool true) ∧ Below W.heap.size W w' := by
  go_enter Try.func24, Try.ntmps24
  go_wp2_with fail
  refine (example_any W).mono ?_
  rintro e w0 ⟨⟨b, y0, y1, y2, y3, rfl, hbW, ht⟩, hb⟩
  have HBW := Lib.hid hb
  have HT := Lib.hid ht
  clear hb ht
  go_wp2_with fail
  have hlt_P1 : b < w0.heap.size := HT.out.lt
  have hal : Below w0.heap.size w0 (w0.alloc (.cells #[.string ⟨#[100]⟩, .string ⟨#[110]⟩] 9)) := (Below.refl _ _).alloc (Nat.le_refl _) _
  have HBW' := Lib.hid (HBW.out.trans ((hal).mono HBW.out.size))
  have HT' := Lib.hid (HT.out.kept hal)
  clear HBW HT
  have HBW := HBW'
  clear HBW'
  have HT := HT'
  clear HT'
  have P1 : Hid (Bk (w0.alloc (.cells #[.string ⟨#[100]⟩, .string ⟨#[110]⟩] 9)) w0.heap.size [.string ⟨#[100]⟩, .string ⟨#[110]⟩] 9) := Lib.hid (Bk.new w0 [.string ⟨#[100]⟩, .string ⟨#[110]⟩] 9)
  have hsz_w1 : w0.heap.size + 1 = (w0.alloc (.cells #[.string ⟨#[100]⟩, .string ⟨#[110]⟩] 9)).heap.size := by simp
  clear hal
  generalize (w0.alloc (.cells #[.string ⟨#[100]⟩, .string ⟨#[110]⟩] 9)) = w1 at *
  generalize hg_P1 : w0.heap.size = gP1 at *
  clear hg_P1
  clear hsz_w1 hlt_P1
  refine (MakeDir_any HT.out root_well root_small (P1.out.pl (l := [tD, tN]) (by decide)) (of_decide_eq_true (by kernel_rfl))).mono ?_
  rintro e w2 ⟨he, ⟨x0, x1, x2, x3, ht⟩, hg⟩
  rw [c1] at he
  subst he
  have HT2 : Hid (TreeX w2 b r1 x0 x1 x2 x3) := Lib.hid ht
  have HBW2 := Lib.hid (below_turn HBW.out hg hbW)
  clear ht hg HT HBW P1
  have HT := HT2
  have HBW := HBW2
  clear HT2 HBW2
  go_wp2_with fail
  have hlt_P2 : b < w2.heap.size := HT.out.lt
  have hal : Below w2.heap.size w2 (w2.alloc (.cells #[.string ⟨#[97]⟩] 9)) := (Below.refl _ _).alloc (Nat.le_refl _) _
  have HBW' := Lib.hid (HBW.out.trans ((hal).mono HBW.out.size))
  have HT' := Lib.hid (HT.out.kept hal)
  clear HBW HT
  have HBW := HBW'
  clear HBW'
  have HT := HT'
  clear HT'
  have P2 : Hid (Bk (w2.alloc (.cells #[.string ⟨#[97]⟩] 9)) w2.heap.size [.string ⟨#[97]⟩] 9) := Lib.hid (Bk.new w2 [.string ⟨#[97]⟩] 9)
  have hsz_w3 : w2.heap.size + 1 = (w2.alloc (.cells #[.string ⟨#[97]⟩] 9)).heap.size := by simp
  clear hal
  generalize (w2.alloc (.cells #[.string ⟨#[97]⟩] 9)) = w3 at *
  generalize hg_P2 : w2.heap.size = gP2 at *
  clear hg_P2
  have hlt_P3 : b < w3.heap.size := HT.out.lt
  have hal : Below w3.heap.size w3 (w3.alloc (.cells #[.string ⟨#[100]⟩, .string ⟨#[110]⟩, .string ⟨#[98]⟩] 9)) := (Below.refl _ _).alloc (Nat.le_refl _) _
  have HBW' := Lib.hid (HBW.out.trans ((hal).mono HBW.out.size))
  have HT' := Lib.hid (HT.out.kept hal)
  have P2' := Lib.hid (P2.out.kept hal)
  clear HBW HT P2
  have HBW := HBW'
  clear HBW'
  have HT := HT'
  clear HT'
  have P2 := P2'
  clear P2'
  have P3 : Hid (Bk (w3.alloc (.cells #[.string ⟨#[100]⟩, .string ⟨#[110]⟩, .string ⟨#[98]⟩] 9)) w3.heap.size [.string ⟨#[100]⟩, .string ⟨#[110]⟩, .string ⟨#[98]⟩] 9) := Lib.hid (Bk.new w3 [.string ⟨#[100]⟩, .string ⟨#[110]⟩, .string ⟨#[98]⟩] 9)
  have hsz_w4 : w3.heap.size + 1 = (w3.alloc (.cells #[.string ⟨#[100]⟩, .string ⟨#[110]⟩, .string ⟨#[98]⟩] 9)).heap.size := by simp
  clear hal
  generalize (w3.alloc (.cells #[.string ⟨#[100]⟩, .string ⟨#[110]⟩, .string ⟨#[98]⟩] 9)) = w4 at *
  generalize hg_P3 : w3.heap.size = gP3 at *
  clear hg_P3
  obtain rfl : gP3 = gP2 + 1 := hsz_w3.symm
  refine (Rename_any (pl := [tA]) (ql := [tD, tN, tB]) HT.out r1_well r1_small (P2.out.plT (l := [tA]) (by decide) (by omega)) (P3.out.plT (l := [tD, tN, tB]) (by decide) (by omega)) (of_decide_eq_true (by kernel_rfl)) (of_decide_eq_true (by kernel_rfl))).mono ?_
  rintro e w5 ⟨he, ⟨x0, x1, x2, x3, ht⟩, hg⟩
  rw [c2] at he
  subst he
  have HT2 : Hid (TreeX w5 b r2 x0 x1 x2 x3) := Lib.hid ht
  have HBW2 := Lib.hid (below_turn HBW.out hg hbW)
  clear ht hg HT HBW P2 P3 hsz_w4 hlt_P2 hlt_P3
  have HT := HT2
  have HBW := HBW2
  clear HT2 HBW2
  go_wp2_with fail
  have hlt_P4 : b < w5.heap.size := HT.out.lt
  have hal : Below w5.heap.size w5 (w5.alloc (.cells #[.string ⟨#[100]⟩] 9)) := (Below.refl _ _).alloc (Nat.le_refl _) _
  have HBW' := Lib.hid (HBW.out.trans ((hal).mono HBW.out.size))
  have HT' := Lib.hid (HT.out.kept hal)
  clear HBW HT
  have HBW := HBW'
  clear HBW'
  have HT := HT'
  clear HT'
  have P4 : Hid (Bk (w5.alloc (.cells #[.string ⟨#[100]⟩] 9)) w5.heap.size [.string ⟨#[100]⟩] 9) := Lib.hid (Bk.new w5 [.string ⟨#[100]⟩] 9)
  have hsz_w6 : w5.heap.size + 1 = (w5.alloc (.cells #[.string ⟨#[100]⟩] 9)).heap.size := by simp
  clear hal
  generalize (w5.alloc (.cells #[.string ⟨#[100]⟩] 9)) = w6 at *
  generalize hg_P4 : w5.heap.size = gP4 at *
  clear hg_P4
  clear hsz_w6 hlt_P4
  refine (RemoveDir_any HT.out r2_well r2_small (P4.out.pl (l := [tD]) (by decide)) (of_decide_eq_true (by kernel_rfl))).mono ?_
  rintro e w7 ⟨he, ⟨x0, x1, x2, x3, ht⟩, hg⟩
  rw [c3] at he
  subst he
  have HT2 : Hid (TreeX w7 b r3 x0 x1 x2 x3) := Lib.hid ht
  have HBW2 := Lib.hid (below_turn HBW.out hg hbW)
  clear ht hg HT HBW P4
  have HT := HT2
  have HBW := HBW2
  clear HT2 HBW2
  go_wp2_with fail
  have hlt_P5 : b < w7.heap.size := HT.out.lt
  have hal : Below w7.heap.size w7 (w7.alloc (.cells #[.string ⟨#[100]⟩, .string ⟨#[101]⟩] 9)) := (Below.refl _ _).alloc (Nat.le_refl _) _
  have HBW' := Lib.hid (HBW.out.trans ((hal).mono HBW.out.size))
  have HT' := Lib.hid (HT.out.kept hal)
  clear HBW HT
  have HBW := HBW'
  clear HBW'
  have HT := HT'
  clear HT'
  have P5 : Hid (Bk (w7.alloc (.cells #[.string ⟨#[100]⟩, .string ⟨#[101]⟩] 9)) w7.heap.size [.string ⟨#[100]⟩, .string ⟨#[101]⟩] 9) := Lib.hid (Bk.new w7 [.string ⟨#[100]⟩, .string ⟨#[101]⟩] 9)
  have hsz_w8 : w7.heap.size + 1 = (w7.alloc (.cells #[.string ⟨#[100]⟩, .string ⟨#[101]⟩] 9)).heap.size := by simp
  clear hal
  generalize (w7.alloc (.cells #[.string ⟨#[100]⟩, .string ⟨#[101]⟩] 9)) = w8 at *
  generalize hg_P5 : w7.heap.size = gP5 at *
  clear hg_P5
  clear hsz_w8 hlt_P5
  refine (Unlink_any HT.out r3_well r3_small (P5.out.pl (l := [tD, tE]) (by decide)) (of_decide_eq_true (by kernel_rfl))).mono ?_
  rintro e w9 ⟨he, ⟨x0, x1, x2, x3, ht⟩, hg⟩
  rw [c4] at he
  subst he
  have HT2 : Hid (TreeX w9 b r4 x0 x1 x2 x3) := Lib.hid ht
  have HBW2 := Lib.hid (below_turn HBW.out hg hbW)
  clear ht hg HT HBW P5
  have HT := HT2
  have HBW := HBW2
  clear HT2 HBW2
  go_wp2_with fail
  have hlt_P6 : b < w9.heap.size := HT.out.lt
  have hal : Below w9.heap.size w9 (w9.alloc (.cells #[.string ⟨#[100]⟩, .string ⟨#[110]⟩, .string ⟨#[98]⟩] 9)) := (Below.refl _ _).alloc (Nat.le_refl _) _
  have HBW' := Lib.hid (HBW.out.trans ((hal).mono HBW.out.size))
  have HT' := Lib.hid (HT.out.kept hal)
  clear HBW HT
  have HBW := HBW'
  clear HBW'
  have HT := HT'
  clear HT'
  have P6 : Hid (Bk (w9.alloc (.cells #[.string ⟨#[100]⟩, .string ⟨#[110]⟩, .string ⟨#[98]⟩] 9)) w9.heap.size [.string ⟨#[100]⟩, .string ⟨#[110]⟩, .string ⟨#[98]⟩] 9) := Lib.hid (Bk.new w9 [.string ⟨#[100]⟩, .string ⟨#[110]⟩, .string ⟨#[98]⟩] 9)
  have hsz_w10 : w9.heap.size + 1 = (w9.alloc (.cells #[.string ⟨#[100]⟩, .string ⟨#[110]⟩, .string ⟨#[98]⟩] 9)).heap.size := by simp
  clear hal
  generalize (w9.alloc (.cells #[.string ⟨#[100]⟩, .string ⟨#[110]⟩, .string ⟨#[98]⟩] 9)) = w10 at *
  generalize hg_P6 : w9.heap.size = gP6 at *
  clear hg_P6
  clear hsz_w10 hlt_P6
  refine (fkind_any HT.out r4_well (girth_less r4_small) (P6.out.pl (l := [tD, tN, tB]) (by decide))).mono ?_
  rintro e w11 ⟨he, hb⟩
  rw [show ((r4.at_ [tD, tN, tB]).getD absent).kind.toNat = 1 from by kernel_rfl] at he
  subst he
  have HBW' := Lib.hid (HBW.out.trans ((hb).mono HBW.out.size))
  have HT' := Lib.hid (HT.out.kept hb)
  clear HBW HT
  have HBW := HBW'
  clear HBW'
  have HT := HT'
  clear HT'
  clear hb P6
  go_wp2_with fail
  have hlt_P7 : b < w11.heap.size := HT.out.lt
  have hal : Below w11.heap.size w11 (w11.alloc (.cells #[.string ⟨#[100]⟩, .string ⟨#[110]⟩, .string ⟨#[98]⟩] 9)) := (Below.refl _ _).alloc (Nat.le_refl _) _
  have HBW' := Lib.hid (HBW.out.trans ((hal).mono HBW.out.size))
  have HT' := Lib.hid (HT.out.kept hal)
  clear HBW HT
  have HBW := HBW'
  clear HBW'
  have HT := HT'
  clear HT'
  have P7 : Hid (Bk (w11.alloc (.cells #[.string ⟨#[100]⟩, .string ⟨#[110]⟩, .string ⟨#[98]⟩] 9)) w11.heap.size [.string ⟨#[100]⟩, .string ⟨#[110]⟩, .string ⟨#[98]⟩] 9) := Lib.hid (Bk.new w11 [.string ⟨#[100]⟩, .string ⟨#[110]⟩, .string ⟨#[98]⟩] 9)
  have hsz_w12 : w11.heap.size + 1 = (w11.alloc (.cells #[.string ⟨#[100]⟩, .string ⟨#[110]⟩, .string ⟨#[98]⟩] 9)).heap.size := by simp
  clear hal
  generalize (w11.alloc (.cells #[.string ⟨#[100]⟩, .string ⟨#[110]⟩, .string ⟨#[98]⟩] 9)) = w12 at *
  generalize hg_P7 : w11.heap.size = gP7 at *
  clear hg_P7
  clear hsz_w12 hlt_P7
  refine (ftext_any HT.out r4_well (girth_less r4_small) (P7.out.pl (l := [tD, tN, tB]) (by decide))).mono ?_
  rintro e w13 ⟨he, hb⟩
  rw [show ((r4.at_ [tD, tN, tB]).getD absent).text = ⟨#[120]⟩ from by kernel_rfl] at he
  subst he
  have HBW' := Lib.hid (HBW.out.trans ((hb).mono HBW.out.size))
  have HT' := Lib.hid (HT.out.kept hb)
  clear HBW HT
  have HBW := HBW'
  clear HBW'
  have HT := HT'
  clear HT'
  clear hb P7
  go_wp2_with fail
  have hlt_P8 : b < w13.heap.size := HT.out.lt
  have hal : Below w13.heap.size w13 (w13.alloc (.cells #[.string ⟨#[97]⟩] 9)) := (Below.refl _ _).alloc (Nat.le_refl _) _
  have HBW' := Lib.hid (HBW.out.trans ((hal).mono HBW.out.size))
  have HT' := Lib.hid (HT.out.kept hal)
  clear HBW HT
  have HBW := HBW'
  clear HBW'
  have HT := HT'
  clear HT'
  have P8 : Hid (Bk (w13.alloc (.cells #[.string ⟨#[97]⟩] 9)) w13.heap.size [.string ⟨#[97]⟩] 9) := Lib.hid (Bk.new w13 [.string ⟨#[97]⟩] 9)
  have hsz_w14 : w13.heap.size + 1 = (w13.alloc (.cells #[.string ⟨#[97]⟩] 9)).heap.size := by simp
  clear hal
  generalize (w13.alloc (.cells #[.string ⟨#[97]⟩] 9)) = w14 at *
  generalize hg_P8 : w13.heap.size = gP8 at *
  clear hg_P8
  clear hsz_w14 hlt_P8
  refine (fkind_any HT.out r4_well (girth_less r4_small) (P8.out.pl (l := [tA]) (by decide))).mono ?_
  rintro e w15 ⟨he, hb⟩
  rw [show ((r4.at_ [tA]).getD absent).kind.toNat = 0 from by kernel_rfl] at he
  subst he
  have HBW' := Lib.hid (HBW.out.trans ((hb).mono HBW.out.size))
  have HT' := Lib.hid (HT.out.kept hb)
  clear HBW HT
  have HBW := HBW'
  clear HBW'
  have HT := HT'
  clear HT'
  clear hb P8
  go_wp2_with fail
  go_ret
  exact ⟨rfl, HBW.out⟩
end Works10
end Go.Proofs.Ytonpeoaahjoboaa
