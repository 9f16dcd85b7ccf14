/- The statements' own check that package ftree answers at all: true in any world. -/
import Derived.Test.YtcookbaedcjmjaaFtAC
import Derived.Test.YtcookbaedcjmjaaFtAD
namespace Go.Proofs.Ytcookbaedcjmjaa
open Go.RowKit Px Nx
namespace Works

theorem file7 (s : ByteArray) (w : World) : Calls Try.prog 9 #[.string s] w fun e w' => e = .returned (.agg #[.int .u8 1, .string s, .slice none 0 0, .slice none 0 0]) ∧ Below w.heap.size w w' := by
  go_enter Try.func9, Try.ntmps9
  go_wp2_with fail
  refine bodyPost_ret (v := .agg #[.int .u8 1, .string s, .slice none 0 0, .slice none 0 0]) (by simp [results, Try.results9, go_sem]) rfl ?_
  exact ⟨rfl, (Below.refl _ _).alloc (Nat.le_refl _) _⟩
theorem dir7 (p : Option Addr) (n c : Nat) (q : Option Addr) (m d : Nat) (w : World) : Calls Try.prog 11 #[.slice p n c, .slice q m d] w fun e w' => e = .returned (.agg #[.int .u8 2, .string ⟨#[]⟩, .slice p n c, .slice q m d]) ∧ Below w.heap.size w w' := by
  go_enter Try.func11, Try.ntmps11
  go_wp2_with fail
  refine bodyPost_ret (v := .agg #[.int .u8 2, .string ⟨#[]⟩, .slice p n c, .slice q m d]) (by simp [results, Try.results11, go_sem]) rfl ?_
  exact ⟨rfl, (Below.refl _ _).alloc (Nat.le_refl _) _⟩
/-- A block of cells. -/
def Bk (w : World) (g : Nat) (vs : List Value) (t : TypeId) : Prop := w.heap[g]? = some (.cells vs.toArray t (0, 0))
theorem Bk.lt {w : World} {g : Nat} {vs : List Value} {t : TypeId} (h : Bk w g vs t) : g < w.heap.size := by
  rcases Nat.lt_or_ge g w.heap.size with hlt | hge
  · exact hlt
  · unfold Bk at h; rw [Array.getElem?_eq_none hge] at h; cases h
theorem Bk.kept {w w' : World} {g : Nat} {vs : List Value} {t : TypeId} (h : Bk w g vs t) (hb : Below w.heap.size w w') : Bk w' g vs t := by
  have := h.lt
  unfold Bk at *
  rw [hb.block _ this]; exact h
theorem Bk.new (w : World) (vs : List Value) (t : TypeId) : Bk (w.alloc (.cells vs.toArray t)) w.heap.size vs t := heap_alloc_new w _
theorem Bk.at {w : World} {g : Nat} {vs : List Value} {t : TypeId} (h : Bk w g vs t) {j : Nat} {v : Value} (hj : vs[j]? = some v) : w.cell? ⟨g, j, none⟩ = some v := by
  rw [cell_of_row _ _ _ _ _ _ h]
  simpa using hj
theorem Bk.strs {w : World} {g : Nat} {l : List ByteArray} {t : TypeId} (h : Bk w g (l.map Value.string) t) : Strs w (some ⟨g, 0, none⟩) l := by
  intro i hi
  refine ⟨g, 0, rfl, ?_⟩
  rw [Nat.zero_add]
  refine h.at ?_
  rw [List.getElem?_map, List.getElem?_eq_getElem hi, List.getD_eq_getElem?_getD, List.getElem?_eq_getElem hi]
  rfl
theorem Bk.pl {w : World} {g : Nat} {l : List ByteArray} {t : TypeId} (h : Bk w g (l.map Value.string) t) (hl : l.length ≤ maxLen) : PlR w (.slice (some ⟨g, 0, none⟩) l.length l.length) l := ⟨_, _, rfl, h.strs, Nat.le_refl _, hl⟩
theorem Bk.node {w : World} {g h : Nat} {l : List ByteArray} {zs : List Value} {kids : List Nd} {t t' : TypeId} (hn : Bk w g (l.map Value.string) t) (hk : Bk w h zs t') (hz : All4 (NodeR w) zs kids) (hl : l.length ≤ maxLen) (hm : kids.length ≤ maxLen) :
    NodeR w [.int .u8 2, .string ByteArray.empty, .slice (some ⟨g, 0, none⟩) l.length l.length, .slice (some ⟨h, 0, none⟩) kids.length kids.length] (.mk 2 ByteArray.empty l kids) := by
  refine .mk 2 ByteArray.empty l kids _ _ l.length kids.length (fun i => (zs.drop (i * 4)).take 4) (Nat.le_refl _) hl hn.strs (Nat.le_refl _) hm ?_ (fun i x hx => (hz.at i x hx).1)
  intro i hi
  refine ⟨h, 0, rfl, (hz.at i _ (List.getElem?_eq_getElem hi)).2, fun j u hj => ?_⟩
  have hj4 : j < 4 := by
    have := (List.getElem?_eq_some_iff.1 hj).1
    rw [List.length_take] at this
    omega
  have hj' : ((zs.drop (i * 4)).take 4)[j]? = some u := hj
  rw [List.getElem?_take_of_lt hj4, List.getElem?_drop] at hj'
  rw [Nat.zero_add]
  exact hk.at hj'
theorem Bk.by {w w' : World} {g m : Nat} {vs : List Value} {t : TypeId} (h : Bk w g vs t) (hg : w.grownBy w' (some m)) (hne : g ≠ m) : Bk w' g vs t := by
  have := h.lt
  unfold Bk at *
  rw [hg.block _ this (by simpa using hne)]; exact h
theorem leaf (w : World) (s : ByteArray) : NodeR w [.int .u8 1, .string s, .slice none 0 0, .slice none 0 0] (.mk 1 s [] []) :=
  .mk 1 s [] [] none none 0 0 (fun _ => []) (Nat.le_refl _) (Nat.zero_le _) (fun i hi => absurd hi (Nat.not_lt_zero _)) (Nat.le_refl _) (Nat.zero_le _) (fun i hi => absurd hi (Nat.not_lt_zero _)) (fun i x hx => by simp at hx)
def tA : ByteArray := ⟨#[97]⟩
def tB : ByteArray := ⟨#[98]⟩
def tD : ByteArray := ⟨#[100]⟩
def tE : ByteArray := ⟨#[101]⟩
def tQ : ByteArray := ⟨#[113]⟩
def tR : ByteArray := ⟨#[114]⟩
def tX : ByteArray := ⟨#[120]⟩
def root : Nd := .mk 2 ByteArray.empty [tA, tD] [.mk 1 tX [] [], .mk 2 ByteArray.empty [tE] [.mk 1 ByteArray.empty [] []]]
def left : Nd := .mk 2 ByteArray.empty [tA, tD] [.mk 1 tX [] [], .mk 2 ByteArray.empty [] []]
def moved : Nd := moveD root [tA] [tD]
theorem root_may : root.may = true := by kernel_rfl
theorem root_well : root.well = true := by kernel_rfl
theorem root_bulk : root.bulk ≤ 2000000 := of_decide_eq_true (by kernel_rfl)
theorem moved_well : moved.well = true := by kernel_rfl
theorem moved_bulk : moved.bulk ≤ 2000000 := of_decide_eq_true (by kernel_rfl)
theorem left_well : left.well = true := by kernel_rfl
theorem left_bulk : left.bulk ≤ 2000000 := of_decide_eq_true (by kernel_rfl)
theorem gone_bulk (p : List ByteArray) (h : namesBulk p ≤ 1000) : (changedD (fun _ => absent) p root).bulk ≤ 2000000 := by
  have h1 := changed_bulk (y := absent) p root (.inl root_well)
  have h2 : root.bulk ≤ 100 := of_decide_eq_true (by kernel_rfl)
  have h3 : absent.bulk ≤ 100 := of_decide_eq_true (by kernel_rfl)
  omega
theorem same_eq {x y : Nd} (h : Nd.same x y = true) : x = y := (Nd.same_iff x y).1 h
theorem move_none : moveD root [tD] [tD, tX] = root := same_eq (by kernel_rfl)
theorem del_left : delD root [tD, tE] = left := same_eq (by kernel_rfl)
theorem put_none : putD left [tQ, tR] (.mk 1 ByteArray.empty [] []) = left := same_eq (by kernel_rfl)

set_option maxRecDepth 100000 in
set_option maxHeartbeats 8000000 in
theorem works7 (W : World) : Calls Try.prog 8 #[] W fun e w' => e = .returned (.bool true) ∧ Below W.heap.size W w' := by
  go_enter Try.func8, Try.ntmps8
  go_wp2_with fail
  have HBW : Hid (Below W.heap.size W W) := Lib.hid (Below.refl _ _)
  have hal : Below W.heap.size W (W.alloc (.cells #[.string ⟨#[97]⟩, .string ⟨#[100]⟩] 9)) := (Below.refl _ _).alloc (Nat.le_refl _) _
  have HBW' := Lib.hid (HBW.out.trans ((hal).mono HBW.out.size))
  clear HBW
  have HBW := HBW'
  clear HBW'
  have B1 : Hid (Bk (W.alloc (.cells #[.string ⟨#[97]⟩, .string ⟨#[100]⟩] 9)) W.heap.size [.string ⟨#[97]⟩, .string ⟨#[100]⟩] 9) := Lib.hid (Bk.new W [.string ⟨#[97]⟩, .string ⟨#[100]⟩] 9)
  have hsz_w1 : W.heap.size + 1 = (W.alloc (.cells #[.string ⟨#[97]⟩, .string ⟨#[100]⟩] 9)).heap.size := by simp
  clear hal
  generalize (W.alloc (.cells #[.string ⟨#[97]⟩, .string ⟨#[100]⟩] 9)) = w1 at *
  clear hsz_w1
  refine (file7 _ w1).mono ?_
  rintro e w2 ⟨rfl, hb⟩
  have HBW' := Lib.hid (HBW.out.trans ((hb).mono HBW.out.size))
  have B1' := Lib.hid (B1.out.kept hb)
  clear HBW B1
  have HBW := HBW'
  clear HBW'
  have B1 := B1'
  clear B1'
  clear hb
  go_wp2_with fail
  have hal : Below w2.heap.size w2 (w2.alloc (.cells #[.string ⟨#[101]⟩] 9)) := (Below.refl _ _).alloc (Nat.le_refl _) _
  have HBW' := Lib.hid (HBW.out.trans ((hal).mono HBW.out.size))
  have B1' := Lib.hid (B1.out.kept hal)
  clear HBW B1
  have HBW := HBW'
  clear HBW'
  have B1 := B1'
  clear B1'
  have B2 : Hid (Bk (w2.alloc (.cells #[.string ⟨#[101]⟩] 9)) w2.heap.size [.string ⟨#[101]⟩] 9) := Lib.hid (Bk.new w2 [.string ⟨#[101]⟩] 9)
  have hsz_w3 : w2.heap.size + 1 = (w2.alloc (.cells #[.string ⟨#[101]⟩] 9)).heap.size := by simp
  clear hal
  generalize (w2.alloc (.cells #[.string ⟨#[101]⟩] 9)) = w3 at *
  generalize hg_B2 : w2.heap.size = gB2 at *
  clear hg_B2 hsz_w3
  refine (file7 _ w3).mono ?_
  rintro e w4 ⟨rfl, hb⟩
  have HBW' := Lib.hid (HBW.out.trans ((hb).mono HBW.out.size))
  have B1' := Lib.hid (B1.out.kept hb)
  have B2' := Lib.hid (B2.out.kept hb)
  clear HBW B1 B2
  have HBW := HBW'
  clear HBW'
  have B1 := B1'
  clear B1'
  have B2 := B2'
  clear B2'
  clear hb
  go_wp2_with fail
  have hal : Below w4.heap.size w4 (w4.alloc (.cells #[.int .u8 1, .string ⟨#[]⟩, .slice none 0 0, .slice none 0 0] 26)) := (Below.refl _ _).alloc (Nat.le_refl _) _
  have HBW' := Lib.hid (HBW.out.trans ((hal).mono HBW.out.size))
  have B1' := Lib.hid (B1.out.kept hal)
  have B2' := Lib.hid (B2.out.kept hal)
  clear HBW B1 B2
  have HBW := HBW'
  clear HBW'
  have B1 := B1'
  clear B1'
  have B2 := B2'
  clear B2'
  have B3 : Hid (Bk (w4.alloc (.cells #[.int .u8 1, .string ⟨#[]⟩, .slice none 0 0, .slice none 0 0] 26)) w4.heap.size [.int .u8 1, .string ⟨#[]⟩, .slice none 0 0, .slice none 0 0] 26) := Lib.hid (Bk.new w4 [.int .u8 1, .string ⟨#[]⟩, .slice none 0 0, .slice none 0 0] 26)
  have hsz_w5 : w4.heap.size + 1 = (w4.alloc (.cells #[.int .u8 1, .string ⟨#[]⟩, .slice none 0 0, .slice none 0 0] 26)).heap.size := by simp
  clear hal
  generalize (w4.alloc (.cells #[.int .u8 1, .string ⟨#[]⟩, .slice none 0 0, .slice none 0 0] 26)) = w5 at *
  generalize hg_B3 : w4.heap.size = gB3 at *
  clear hg_B3 hsz_w5
  refine (dir7 _ _ _ _ _ _ w5).mono ?_
  rintro e w6 ⟨rfl, hb⟩
  have HBW' := Lib.hid (HBW.out.trans ((hb).mono HBW.out.size))
  have B1' := Lib.hid (B1.out.kept hb)
  have B2' := Lib.hid (B2.out.kept hb)
  have B3' := Lib.hid (B3.out.kept hb)
  clear HBW B1 B2 B3
  have HBW := HBW'
  clear HBW'
  have B1 := B1'
  clear B1'
  have B2 := B2'
  clear B2'
  have B3 := B3'
  clear B3'
  clear hb
  go_wp2_with fail
  have hal : Below w6.heap.size w6 (w6.alloc (.cells #[.int .u8 1, .string ⟨#[120]⟩, .slice none 0 0, .slice none 0 0, .int .u8 2, .string ⟨#[]⟩, .slice (some ⟨gB2, 0, none⟩) 1 1, .slice (some ⟨gB3, 0, none⟩) 1 1] 26)) := (Below.refl _ _).alloc (Nat.le_refl _) _
  have HBW' := Lib.hid (HBW.out.trans ((hal).mono HBW.out.size))
  have B1' := Lib.hid (B1.out.kept hal)
  have B2' := Lib.hid (B2.out.kept hal)
  have B3' := Lib.hid (B3.out.kept hal)
  clear HBW B1 B2 B3
  have HBW := HBW'
  clear HBW'
  have B1 := B1'
  clear B1'
  have B2 := B2'
  clear B2'
  have B3 := B3'
  clear B3'
  have B4 : Hid (Bk (w6.alloc (.cells #[.int .u8 1, .string ⟨#[120]⟩, .slice none 0 0, .slice none 0 0, .int .u8 2, .string ⟨#[]⟩, .slice (some ⟨gB2, 0, none⟩) 1 1, .slice (some ⟨gB3, 0, none⟩) 1 1] 26)) w6.heap.size [.int .u8 1, .string ⟨#[120]⟩, .slice none 0 0, .slice none 0 0, .int .u8 2, .string ⟨#[]⟩, .slice (some ⟨gB2, 0, none⟩) 1 1, .slice (some ⟨gB3, 0, none⟩) 1 1] 26) := Lib.hid (Bk.new w6 [.int .u8 1, .string ⟨#[120]⟩, .slice none 0 0, .slice none 0 0, .int .u8 2, .string ⟨#[]⟩, .slice (some ⟨gB2, 0, none⟩) 1 1, .slice (some ⟨gB3, 0, none⟩) 1 1] 26)
  have hsz_w7 : w6.heap.size + 1 = (w6.alloc (.cells #[.int .u8 1, .string ⟨#[120]⟩, .slice none 0 0, .slice none 0 0, .int .u8 2, .string ⟨#[]⟩, .slice (some ⟨gB2, 0, none⟩) 1 1, .slice (some ⟨gB3, 0, none⟩) 1 1] 26)).heap.size := by simp
  clear hal
  generalize (w6.alloc (.cells #[.int .u8 1, .string ⟨#[120]⟩, .slice none 0 0, .slice none 0 0, .int .u8 2, .string ⟨#[]⟩, .slice (some ⟨gB2, 0, none⟩) 1 1, .slice (some ⟨gB3, 0, none⟩) 1 1] 26)) = w7 at *
  generalize hg_B4 : w6.heap.size = gB4 at *
  clear hg_B4 hsz_w7
  refine (dir7 _ _ _ _ _ _ w7).mono ?_
  rintro e w8 ⟨rfl, hb⟩
  have HBW' := Lib.hid (HBW.out.trans ((hb).mono HBW.out.size))
  have B1' := Lib.hid (B1.out.kept hb)
  have B2' := Lib.hid (B2.out.kept hb)
  have B3' := Lib.hid (B3.out.kept hb)
  have B4' := Lib.hid (B4.out.kept hb)
  clear HBW B1 B2 B3 B4
  have HBW := HBW'
  clear HBW'
  have B1 := B1'
  clear B1'
  have B2 := B2'
  clear B2'
  have B3 := B3'
  clear B3'
  have B4 := B4'
  clear B4'
  clear hb
  go_upto_region 2 with fail
  have hal : Below w8.heap.size w8 (w8.alloc (.cells #[.int .u8 2, .string ⟨#[]⟩, .slice (some ⟨W.heap.size, 0, none⟩) 2 2, .slice (some ⟨gB4, 0, none⟩) 2 2] 26)) := (Below.refl _ _).alloc (Nat.le_refl _) _
  have HBW' := Lib.hid (HBW.out.trans ((hal).mono HBW.out.size))
  have B1' := Lib.hid (B1.out.kept hal)
  have B2' := Lib.hid (B2.out.kept hal)
  have B3' := Lib.hid (B3.out.kept hal)
  have B4' := Lib.hid (B4.out.kept hal)
  clear HBW B1 B2 B3 B4
  have HBW := HBW'
  clear HBW'
  have B1 := B1'
  clear B1'
  have B2 := B2'
  clear B2'
  have B3 := B3'
  clear B3'
  have B4 := B4'
  clear B4'
  have B5 : Hid (Bk (w8.alloc (.cells #[.int .u8 2, .string ⟨#[]⟩, .slice (some ⟨W.heap.size, 0, none⟩) 2 2, .slice (some ⟨gB4, 0, none⟩) 2 2] 26)) w8.heap.size [.int .u8 2, .string ⟨#[]⟩, .slice (some ⟨W.heap.size, 0, none⟩) 2 2, .slice (some ⟨gB4, 0, none⟩) 2 2] 26) := Lib.hid (Bk.new w8 [.int .u8 2, .string ⟨#[]⟩, .slice (some ⟨W.heap.size, 0, none⟩) 2 2, .slice (some ⟨gB4, 0, none⟩) 2 2] 26)
  have hsz_w9 : w8.heap.size + 1 = (w8.alloc (.cells #[.int .u8 2, .string ⟨#[]⟩, .slice (some ⟨W.heap.size, 0, none⟩) 2 2, .slice (some ⟨gB4, 0, none⟩) 2 2] 26)).heap.size := by simp
  clear hal
  generalize (w8.alloc (.cells #[.int .u8 2, .string ⟨#[]⟩, .slice (some ⟨W.heap.size, 0, none⟩) 2 2, .slice (some ⟨gB4, 0, none⟩) 2 2] 26)) = w9 at *
  generalize hg_B5 : w8.heap.size = gB5 at *
  clear hg_B5 hsz_w9
  have HN : Hid (NodeR w9 [.int .u8 2, .string ⟨#[]⟩, .slice (some ⟨W.heap.size, 0, none⟩) 2 2, .slice (some ⟨gB4, 0, none⟩) 2 2] root) := Lib.hid (B1.out.node (l := [tA, tD]) B4.out (.cons _ _ _ _ rfl (leaf _ _) (.one rfl (B2.out.node (l := [tE]) B3.out (.one rfl (leaf _ _)) (by decide) (by decide)))) (by decide) (by decide))
  obtain ⟨c0, c1x, c2x, c3⟩ : w9.cell? ⟨gB5, 0, none⟩ = some (.int .u8 2) ∧ w9.cell? ⟨gB5, 1, none⟩ = some (.string ⟨#[]⟩) ∧ w9.cell? ⟨gB5, 2, none⟩ = some (.slice (some ⟨W.heap.size, 0, none⟩) 2 2) ∧ w9.cell? ⟨gB5, 3, none⟩ = some (.slice (some ⟨gB4, 0, none⟩) 2 2) := ⟨B5.out.at rfl, B5.out.at rfl, B5.out.at rfl, B5.out.at rfl⟩
  go_wp2_with fail
  refine (fnew_any HN.out root_bulk w9 (Below.refl _ _)).mono ?_
  rintro e w10 ⟨hnw, hb⟩
  rw [if_pos root_may] at hnw
  obtain ⟨b, y0, y1, y2, y3, rfl, hbb, ht, _⟩ := hnw
  have hbW : W.heap.size ≤ b := Nat.le_trans HBW.out.size hbb
  have HBW' := Lib.hid (HBW.out.trans (hb.mono HBW.out.size))
  have HT := Lib.hid ht.s
  clear hb ht hbb c0 c1x c2x c3 HN B1 B2 B3 B4 B5 HBW
  have HBW := HBW'
  clear HBW'
  go_wp2_with fail
  have hal : Below w10.heap.size w10 (w10.alloc (.cells #[.string ⟨#[100]⟩, .string ⟨#[101]⟩] 9)) := (Below.refl _ _).alloc (Nat.le_refl _) _
  have HBW' := Lib.hid (HBW.out.trans ((hal).mono HBW.out.size))
  have HT' := Lib.hid (HT.out.kept hal)
  clear HBW HT
  have HBW := HBW'
  clear HBW'
  have HT := HT'
  clear HT'
  have P1 : Hid (Bk (w10.alloc (.cells #[.string ⟨#[100]⟩, .string ⟨#[101]⟩] 9)) w10.heap.size [.string ⟨#[100]⟩, .string ⟨#[101]⟩] 9) := Lib.hid (Bk.new w10 [.string ⟨#[100]⟩, .string ⟨#[101]⟩] 9)
  have hsz_w11 : w10.heap.size + 1 = (w10.alloc (.cells #[.string ⟨#[100]⟩, .string ⟨#[101]⟩] 9)).heap.size := by simp
  clear hal
  generalize (w10.alloc (.cells #[.string ⟨#[100]⟩, .string ⟨#[101]⟩] 9)) = w11 at *
  generalize hg_P1 : w10.heap.size = gP1 at *
  clear hg_P1
  clear hsz_w11
  refine (fkind_any HT.out.x root_well root_bulk (P1.out.pl (l := [tD, tE]) (by decide))).mono ?_
  rintro e w12 ⟨he, hb⟩
  rw [show ((root.at_ [tD, tE]).getD absent).kind.toNat = 1 from by kernel_rfl] at he
  subst he
  have HBW' := Lib.hid (HBW.out.trans ((hb).mono HBW.out.size))
  have HT' := Lib.hid (HT.out.kept hb)
  have P1' := Lib.hid (P1.out.kept hb)
  clear HBW HT P1
  have HBW := HBW'
  clear HBW'
  have HT := HT'
  clear HT'
  have P1 := P1'
  clear P1'
  clear hb P1
  go_wp2_with fail
  have hal : Below w12.heap.size w12 (w12.alloc (.cells #[.string ⟨#[97]⟩, .string ⟨#[98]⟩] 9)) := (Below.refl _ _).alloc (Nat.le_refl _) _
  have HBW' := Lib.hid (HBW.out.trans ((hal).mono HBW.out.size))
  have HT' := Lib.hid (HT.out.kept hal)
  clear HBW HT
  have HBW := HBW'
  clear HBW'
  have HT := HT'
  clear HT'
  have P2 : Hid (Bk (w12.alloc (.cells #[.string ⟨#[97]⟩, .string ⟨#[98]⟩] 9)) w12.heap.size [.string ⟨#[97]⟩, .string ⟨#[98]⟩] 9) := Lib.hid (Bk.new w12 [.string ⟨#[97]⟩, .string ⟨#[98]⟩] 9)
  have hsz_w13 : w12.heap.size + 1 = (w12.alloc (.cells #[.string ⟨#[97]⟩, .string ⟨#[98]⟩] 9)).heap.size := by simp
  clear hal
  generalize (w12.alloc (.cells #[.string ⟨#[97]⟩, .string ⟨#[98]⟩] 9)) = w13 at *
  generalize hg_P2 : w12.heap.size = gP2 at *
  clear hg_P2
  clear hsz_w13
  refine (fkind_any HT.out.x root_well root_bulk (P2.out.pl (l := [tA, tB]) (by decide))).mono ?_
  rintro e w14 ⟨he, hb⟩
  rw [show ((root.at_ [tA, tB]).getD absent).kind.toNat = 0 from by kernel_rfl] at he
  subst he
  have HBW' := Lib.hid (HBW.out.trans ((hb).mono HBW.out.size))
  have HT' := Lib.hid (HT.out.kept hb)
  have P2' := Lib.hid (P2.out.kept hb)
  clear HBW HT P2
  have HBW := HBW'
  clear HBW'
  have HT := HT'
  clear HT'
  have P2 := P2'
  clear P2'
  clear hb P2
  go_wp2_with fail
  refine (fclone_any HT.out.x).mono ?_
  rintro e w15 ⟨rfl, hw⟩
  have hbl := HT.out.x.lt
  have hal : Below w14.heap.size w14 w15 := by rw [hw]; exact (Below.refl _ _).alloc (Nat.le_refl _) _
  have hs15 : w15.heap.size = w14.heap.size + 1 := by rw [hw]; simp
  have HU : Hid (TreeS w15 (fun k => k ≠ b ∧ k < w14.heap.size) w14.heap.size root y0 y1 y2 y3) := Lib.hid ⟨by rw [hw]; exact heap_alloc_new w14 _, NodeX.grown (HT.out.node.lt) hal, fun h => by have := h.2; omega⟩
  have HT2 : Hid (TreeS w15 (fun k => k ≠ b ∧ k < w14.heap.size) b root y0 y1 y2 y3) := Lib.hid ⟨(HT.out.kept hal).blk, NodeX.grown (HT.out.node.lt) hal, fun h => h.1 rfl⟩
  have HBW' := Lib.hid (HBW.out.trans ((hal).mono HBW.out.size))
  clear HBW
  have HBW := HBW'
  clear HBW'
  clear hal hw HT
  generalize hu : w14.heap.size = u at *
  have hu15 : u < w15.heap.size := by omega
  clear hu hs15
  go_wp2_with fail
  have hbu : b < u := by have := HU.out.x.lt; omega
  have hal : Below w15.heap.size w15 (w15.alloc (.cells #[.string ⟨#[97]⟩] 9)) := (Below.refl _ _).alloc (Nat.le_refl _) _
  have HBW' := Lib.hid (HBW.out.trans ((hal).mono HBW.out.size))
  have HU' := Lib.hid (HU.out.kept hal)
  have HT2' := Lib.hid (HT2.out.kept hal)
  clear HBW HU HT2
  have HBW := HBW'
  clear HBW'
  have HU := HU'
  clear HU'
  have HT2 := HT2'
  clear HT2'
  have P3 : Hid (Bk (w15.alloc (.cells #[.string ⟨#[97]⟩] 9)) w15.heap.size [.string ⟨#[97]⟩] 9) := Lib.hid (Bk.new w15 [.string ⟨#[97]⟩] 9)
  have hsz_w16 : w15.heap.size + 1 = (w15.alloc (.cells #[.string ⟨#[97]⟩] 9)).heap.size := by simp
  clear hal
  generalize (w15.alloc (.cells #[.string ⟨#[97]⟩] 9)) = w16 at *
  generalize hg_P3 : w15.heap.size = gP3 at *
  clear hg_P3
  have hal : Below w16.heap.size w16 (w16.alloc (.cells #[.string ⟨#[100]⟩] 9)) := (Below.refl _ _).alloc (Nat.le_refl _) _
  have HBW' := Lib.hid (HBW.out.trans ((hal).mono HBW.out.size))
  have HU' := Lib.hid (HU.out.kept hal)
  have HT2' := Lib.hid (HT2.out.kept hal)
  have P3' := Lib.hid (P3.out.kept hal)
  clear HBW HU HT2 P3
  have HBW := HBW'
  clear HBW'
  have HU := HU'
  clear HU'
  have HT2 := HT2'
  clear HT2'
  have P3 := P3'
  clear P3'
  have P4 : Hid (Bk (w16.alloc (.cells #[.string ⟨#[100]⟩] 9)) w16.heap.size [.string ⟨#[100]⟩] 9) := Lib.hid (Bk.new w16 [.string ⟨#[100]⟩] 9)
  have hsz_w17 : w16.heap.size + 1 = (w16.alloc (.cells #[.string ⟨#[100]⟩] 9)).heap.size := by simp
  clear hal
  generalize (w16.alloc (.cells #[.string ⟨#[100]⟩] 9)) = w17 at *
  generalize hg_P4 : w16.heap.size = gP4 at *
  clear hg_P4
  obtain rfl : gP4 = gP3 + 1 := hsz_w16.symm
  have hP4 : u < gP3 + 1 := by omega
  have hu17 : u < w17.heap.size := HU.out.x.lt
  refine (move_s (pl := [tA]) (ql := [tD]) HU.out root_well root_bulk (P3.out.pl (l := [tA]) (by decide)) (fun w' hb => (P4.out.by hb (by omega)).pl (l := [tD]) (by decide)) (of_decide_eq_true (by kernel_rfl)) (of_decide_eq_true (by kernel_rfl)) (gone_bulk _ (of_decide_eq_true (by kernel_rfl)))).mono ?_
  rintro e w18 ⟨rfl, ⟨x0, x1, x2, x3, ht⟩, hg⟩
  have HBW' := Lib.hid (HBW.out.trans (below_by hg (by omega) HBW.out.size))
  have HT2' := Lib.hid (HT2.out.by hg (by omega) (fun hh => by have := hh.2; omega))
  have HU' := Lib.hid ((show TreeS _ _ _ moved _ _ _ _ from ht))
  clear hg ht HBW HT2 HU
  have HBW := HBW'
  clear HBW'
  have HT2 := HT2'
  clear HT2'
  have HU := HU'
  clear HU'
  clear P3 P4
  have hs17 : b < w17.heap.size := by omega
  generalize w17.heap.size = L1 at *
  clear hsz_w17 hP4
  go_wp2_with fail
  have hb18 : b < w18.heap.size := HT2.out.x.lt
  have hal : Below w18.heap.size w18 (w18.alloc (.cells #[.string ⟨#[100]⟩] 9)) := (Below.refl _ _).alloc (Nat.le_refl _) _
  have HBW' := Lib.hid (HBW.out.trans ((hal).mono HBW.out.size))
  have HU' := Lib.hid (HU.out.kept hal)
  have HT2' := Lib.hid (HT2.out.kept hal)
  clear HBW HU HT2
  have HBW := HBW'
  clear HBW'
  have HU := HU'
  clear HU'
  have HT2 := HT2'
  clear HT2'
  have P5 : Hid (Bk (w18.alloc (.cells #[.string ⟨#[100]⟩] 9)) w18.heap.size [.string ⟨#[100]⟩] 9) := Lib.hid (Bk.new w18 [.string ⟨#[100]⟩] 9)
  have hsz_w19 : w18.heap.size + 1 = (w18.alloc (.cells #[.string ⟨#[100]⟩] 9)).heap.size := by simp
  clear hal
  generalize (w18.alloc (.cells #[.string ⟨#[100]⟩] 9)) = w19 at *
  generalize hg_P5 : w18.heap.size = gP5 at *
  clear hg_P5
  have hal : Below w19.heap.size w19 (w19.alloc (.cells #[.string ⟨#[100]⟩, .string ⟨#[120]⟩] 9)) := (Below.refl _ _).alloc (Nat.le_refl _) _
  have HBW' := Lib.hid (HBW.out.trans ((hal).mono HBW.out.size))
  have HU' := Lib.hid (HU.out.kept hal)
  have HT2' := Lib.hid (HT2.out.kept hal)
  have P5' := Lib.hid (P5.out.kept hal)
  clear HBW HU HT2 P5
  have HBW := HBW'
  clear HBW'
  have HU := HU'
  clear HU'
  have HT2 := HT2'
  clear HT2'
  have P5 := P5'
  clear P5'
  have P6 : Hid (Bk (w19.alloc (.cells #[.string ⟨#[100]⟩, .string ⟨#[120]⟩] 9)) w19.heap.size [.string ⟨#[100]⟩, .string ⟨#[120]⟩] 9) := Lib.hid (Bk.new w19 [.string ⟨#[100]⟩, .string ⟨#[120]⟩] 9)
  have hsz_w20 : w19.heap.size + 1 = (w19.alloc (.cells #[.string ⟨#[100]⟩, .string ⟨#[120]⟩] 9)).heap.size := by simp
  clear hal
  generalize (w19.alloc (.cells #[.string ⟨#[100]⟩, .string ⟨#[120]⟩] 9)) = w20 at *
  generalize hg_P6 : w19.heap.size = gP6 at *
  clear hg_P6
  obtain rfl : gP6 = gP5 + 1 := hsz_w19.symm
  have hP6 : b < gP5 + 1 := by omega
  have hb20 : b < w20.heap.size := HT2.out.x.lt
  refine (move_s (pl := [tD]) (ql := [tD, tX]) HT2.out root_well root_bulk (P5.out.pl (l := [tD]) (by decide)) (fun w' hb => (P6.out.by hb (by omega)).pl (l := [tD, tX]) (by decide)) (of_decide_eq_true (by kernel_rfl)) (of_decide_eq_true (by kernel_rfl)) (gone_bulk _ (of_decide_eq_true (by kernel_rfl)))).mono ?_
  rintro e w21 ⟨rfl, ⟨x0, x1, x2, x3, ht⟩, hg⟩
  have HBW' := Lib.hid (HBW.out.trans (below_by hg (by omega) HBW.out.size))
  have HU' := Lib.hid (HU.out.by hg (by omega) (fun hh => hh.elim (fun h => h.1 rfl) (by omega)))
  have HT2' := Lib.hid (move_none ▸ ht)
  clear hg ht HBW HU HT2
  have HBW := HBW'
  clear HBW'
  have HU := HU'
  clear HU'
  have HT2 := HT2'
  clear HT2'
  clear P5 P6 hsz_w20 hP6
  generalize w20.heap.size = L2 at *
  go_wp2_with fail
  have hal : Below w21.heap.size w21 (w21.alloc (.cells #[.string ⟨#[100]⟩, .string ⟨#[101]⟩] 9)) := (Below.refl _ _).alloc (Nat.le_refl _) _
  have HBW' := Lib.hid (HBW.out.trans ((hal).mono HBW.out.size))
  have HU' := Lib.hid (HU.out.kept hal)
  have HT2' := Lib.hid (HT2.out.kept hal)
  clear HBW HU HT2
  have HBW := HBW'
  clear HBW'
  have HU := HU'
  clear HU'
  have HT2 := HT2'
  clear HT2'
  have P7 : Hid (Bk (w21.alloc (.cells #[.string ⟨#[100]⟩, .string ⟨#[101]⟩] 9)) w21.heap.size [.string ⟨#[100]⟩, .string ⟨#[101]⟩] 9) := Lib.hid (Bk.new w21 [.string ⟨#[100]⟩, .string ⟨#[101]⟩] 9)
  have hsz_w22 : w21.heap.size + 1 = (w21.alloc (.cells #[.string ⟨#[100]⟩, .string ⟨#[101]⟩] 9)).heap.size := by simp
  clear hal
  generalize (w21.alloc (.cells #[.string ⟨#[100]⟩, .string ⟨#[101]⟩] 9)) = w22 at *
  generalize hg_P7 : w21.heap.size = gP7 at *
  clear hg_P7
  have hb22 : b < w22.heap.size := HT2.out.x.lt
  refine (del_s (place := [tD, tE]) HT2.out root_well root_bulk (P7.out.pl (l := [tD, tE]) (by decide)) (by decide)).mono ?_
  rintro e w23 ⟨rfl, ⟨x0, x1, x2, x3, ht⟩, hg⟩
  have HBW' := Lib.hid (HBW.out.trans (below_by hg (by omega) HBW.out.size))
  have HU' := Lib.hid (HU.out.by hg (by omega) (fun hh => hh.elim (fun h => h.1 rfl) (by omega)))
  have HT2' := Lib.hid (del_left ▸ ht)
  clear hg ht HBW HU HT2
  have HBW := HBW'
  clear HBW'
  have HU := HU'
  clear HU'
  have HT2 := HT2'
  clear HT2'
  clear P7 hsz_w22
  generalize w22.heap.size = L3 at *
  go_wp2_with fail
  have hal : Below w23.heap.size w23 (w23.alloc (.cells #[.string ⟨#[113]⟩, .string ⟨#[114]⟩] 9)) := (Below.refl _ _).alloc (Nat.le_refl _) _
  have HBW' := Lib.hid (HBW.out.trans ((hal).mono HBW.out.size))
  have HU' := Lib.hid (HU.out.kept hal)
  have HT2' := Lib.hid (HT2.out.kept hal)
  clear HBW HU HT2
  have HBW := HBW'
  clear HBW'
  have HU := HU'
  clear HU'
  have HT2 := HT2'
  clear HT2'
  have P8 : Hid (Bk (w23.alloc (.cells #[.string ⟨#[113]⟩, .string ⟨#[114]⟩] 9)) w23.heap.size [.string ⟨#[113]⟩, .string ⟨#[114]⟩] 9) := Lib.hid (Bk.new w23 [.string ⟨#[113]⟩, .string ⟨#[114]⟩] 9)
  have hsz_w24 : w23.heap.size + 1 = (w23.alloc (.cells #[.string ⟨#[113]⟩, .string ⟨#[114]⟩] 9)).heap.size := by simp
  clear hal
  generalize (w23.alloc (.cells #[.string ⟨#[113]⟩, .string ⟨#[114]⟩] 9)) = w24 at *
  generalize hg_P8 : w23.heap.size = gP8 at *
  clear hg_P8
  clear hsz_w24
  refine (file7 _ w24).mono ?_
  rintro e w25 ⟨rfl, hb⟩
  have HBW' := Lib.hid (HBW.out.trans ((hb).mono HBW.out.size))
  have HU' := Lib.hid (HU.out.kept hb)
  have HT2' := Lib.hid (HT2.out.kept hb)
  have P8' := Lib.hid (P8.out.kept hb)
  clear HBW HU HT2 P8
  have HBW := HBW'
  clear HBW'
  have HU := HU'
  clear HU'
  have HT2 := HT2'
  clear HT2'
  have P8 := P8'
  clear P8'
  clear hb
  go_wp2_with fail
  have hb25 : b < w25.heap.size := HT2.out.x.lt
  refine (put_s (place := [tQ, tR]) (x := .mk 1 ByteArray.empty [] []) (cs := [.int .u8 1, .string ⟨#[]⟩, .slice none 0 0, .slice none 0 0]) HT2.out left_well left_bulk (P8.out.pl (l := [tQ, tR]) (by decide)) (by decide) (leaf _ _) (of_decide_eq_true (by kernel_rfl))).mono ?_
  rintro e w26 ⟨rfl, ⟨x0, x1, x2, x3, ht⟩, hg⟩
  have HBW' := Lib.hid (HBW.out.trans (below_by hg (by omega) HBW.out.size))
  have HU' := Lib.hid (HU.out.by hg (by omega) (fun hh => hh.elim (fun h => h.1 rfl) (by omega)))
  have HT2' := Lib.hid (put_none ▸ ht)
  clear hg ht HBW HU HT2
  have HBW := HBW'
  clear HBW'
  have HU := HU'
  clear HU'
  have HT2 := HT2'
  clear HT2'
  clear P8
  generalize w25.heap.size = L4 at *
  go_wp2_with fail
  have hal : Below w26.heap.size w26 (w26.alloc (.cells #[.string ⟨#[97]⟩] 9)) := (Below.refl _ _).alloc (Nat.le_refl _) _
  have HBW' := Lib.hid (HBW.out.trans ((hal).mono HBW.out.size))
  have HU' := Lib.hid (HU.out.kept hal)
  have HT2' := Lib.hid (HT2.out.kept hal)
  clear HBW HU HT2
  have HBW := HBW'
  clear HBW'
  have HU := HU'
  clear HU'
  have HT2 := HT2'
  clear HT2'
  have P9 : Hid (Bk (w26.alloc (.cells #[.string ⟨#[97]⟩] 9)) w26.heap.size [.string ⟨#[97]⟩] 9) := Lib.hid (Bk.new w26 [.string ⟨#[97]⟩] 9)
  have hsz_w27 : w26.heap.size + 1 = (w26.alloc (.cells #[.string ⟨#[97]⟩] 9)).heap.size := by simp
  clear hal
  generalize (w26.alloc (.cells #[.string ⟨#[97]⟩] 9)) = w27 at *
  generalize hg_P9 : w26.heap.size = gP9 at *
  clear hg_P9
  clear hsz_w27
  refine (fkind_any HU.out.x moved_well moved_bulk (P9.out.pl (l := [tA]) (by decide))).mono ?_
  rintro e w28 ⟨he, hb⟩
  rw [show ((moved.at_ [tA]).getD absent).kind.toNat = 0 from by kernel_rfl] at he
  subst he
  have HBW' := Lib.hid (HBW.out.trans ((hb).mono HBW.out.size))
  have HU' := Lib.hid (HU.out.kept hb)
  have HT2' := Lib.hid (HT2.out.kept hb)
  have P9' := Lib.hid (P9.out.kept hb)
  clear HBW HU HT2 P9
  have HBW := HBW'
  clear HBW'
  have HU := HU'
  clear HU'
  have HT2 := HT2'
  clear HT2'
  have P9 := P9'
  clear P9'
  clear hb P9
  go_wp2_with fail
  have hal : Below w28.heap.size w28 (w28.alloc (.cells #[.string ⟨#[100]⟩] 9)) := (Below.refl _ _).alloc (Nat.le_refl _) _
  have HBW' := Lib.hid (HBW.out.trans ((hal).mono HBW.out.size))
  have HU' := Lib.hid (HU.out.kept hal)
  have HT2' := Lib.hid (HT2.out.kept hal)
  clear HBW HU HT2
  have HBW := HBW'
  clear HBW'
  have HU := HU'
  clear HU'
  have HT2 := HT2'
  clear HT2'
  have PA : Hid (Bk (w28.alloc (.cells #[.string ⟨#[100]⟩] 9)) w28.heap.size [.string ⟨#[100]⟩] 9) := Lib.hid (Bk.new w28 [.string ⟨#[100]⟩] 9)
  have hsz_w29 : w28.heap.size + 1 = (w28.alloc (.cells #[.string ⟨#[100]⟩] 9)).heap.size := by simp
  clear hal
  generalize (w28.alloc (.cells #[.string ⟨#[100]⟩] 9)) = w29 at *
  generalize hg_PA : w28.heap.size = gPA at *
  clear hg_PA
  clear hsz_w29
  refine (ftext_any HU.out.x moved_well moved_bulk (PA.out.pl (l := [tD]) (by decide))).mono ?_
  rintro e w30 ⟨he, hb⟩
  rw [show ((moved.at_ [tD]).getD absent).text = ⟨#[120]⟩ from by kernel_rfl] at he
  subst he
  have HBW' := Lib.hid (HBW.out.trans ((hb).mono HBW.out.size))
  have HU' := Lib.hid (HU.out.kept hb)
  have HT2' := Lib.hid (HT2.out.kept hb)
  have PA' := Lib.hid (PA.out.kept hb)
  clear HBW HU HT2 PA
  have HBW := HBW'
  clear HBW'
  have HU := HU'
  clear HU'
  have HT2 := HT2'
  clear HT2'
  have PA := PA'
  clear PA'
  clear hb PA
  go_wp2_with fail
  have hal : Below w30.heap.size w30 (w30.alloc (.cells #[.string ⟨#[100]⟩] 9)) := (Below.refl _ _).alloc (Nat.le_refl _) _
  have HBW' := Lib.hid (HBW.out.trans ((hal).mono HBW.out.size))
  have HU' := Lib.hid (HU.out.kept hal)
  have HT2' := Lib.hid (HT2.out.kept hal)
  clear HBW HU HT2
  have HBW := HBW'
  clear HBW'
  have HU := HU'
  clear HU'
  have HT2 := HT2'
  clear HT2'
  have PB : Hid (Bk (w30.alloc (.cells #[.string ⟨#[100]⟩] 9)) w30.heap.size [.string ⟨#[100]⟩] 9) := Lib.hid (Bk.new w30 [.string ⟨#[100]⟩] 9)
  have hsz_w31 : w30.heap.size + 1 = (w30.alloc (.cells #[.string ⟨#[100]⟩] 9)).heap.size := by simp
  clear hal
  generalize (w30.alloc (.cells #[.string ⟨#[100]⟩] 9)) = w31 at *
  generalize hg_PB : w30.heap.size = gPB at *
  clear hg_PB
  clear hsz_w31
  refine (fempty_any HT2.out.x left_well left_bulk (PB.out.pl (l := [tD]) (by decide))).mono ?_
  rintro e w32 ⟨he, hb⟩
  rw [show (decide (((left.at_ [tD]).getD absent).kind = 2) && decide (((left.at_ [tD]).getD absent).names.length = 0)) = true from by kernel_rfl] at he
  subst he
  have HBW' := Lib.hid (HBW.out.trans ((hb).mono HBW.out.size))
  have HU' := Lib.hid (HU.out.kept hb)
  have HT2' := Lib.hid (HT2.out.kept hb)
  have PB' := Lib.hid (PB.out.kept hb)
  clear HBW HU HT2 PB
  have HBW := HBW'
  clear HBW'
  have HU := HU'
  clear HU'
  have HT2 := HT2'
  clear HT2'
  have PB := PB'
  clear PB'
  clear hb PB
  go_wp2_with fail
  refine (froot_any HT2.out.x left_well left_bulk).mono ?_
  rintro e w33 ⟨⟨vs, rfl, hvs⟩, hb⟩
  obtain ⟨p5, q5, c5, d5, rfl⟩ := nodeX_cells hvs
  have HBW' := Lib.hid (HBW.out.trans ((hb).mono HBW.out.size))
  clear HBW
  have HBW := HBW'
  clear HBW'
  have HV : Hid (NodeR w33 _ left) := Lib.hid hvs.to
  clear hb hvs HU HT2
  generalize left.kind.toNat = k5 at *
  generalize left.text = t5 at *
  generalize left.names.length = n5 at *
  generalize left.kids.length = m5 at *
  go_wp2_with fail
  have hal : Below w33.heap.size w33 (w33.alloc (.cells #[.string ⟨#[97]⟩, .string ⟨#[100]⟩] 9)) := (Below.refl _ _).alloc (Nat.le_refl _) _
  have HBW' := Lib.hid (HBW.out.trans ((hal).mono HBW.out.size))
  have HV' := Lib.hid (NodeR.grown (hal) HV.out)
  clear HBW HV
  have HBW := HBW'
  clear HBW'
  have HV := HV'
  clear HV'
  have C1 : Hid (Bk (w33.alloc (.cells #[.string ⟨#[97]⟩, .string ⟨#[100]⟩] 9)) w33.heap.size [.string ⟨#[97]⟩, .string ⟨#[100]⟩] 9) := Lib.hid (Bk.new w33 [.string ⟨#[97]⟩, .string ⟨#[100]⟩] 9)
  have hsz_w34 : w33.heap.size + 1 = (w33.alloc (.cells #[.string ⟨#[97]⟩, .string ⟨#[100]⟩] 9)).heap.size := by simp
  clear hal
  generalize (w33.alloc (.cells #[.string ⟨#[97]⟩, .string ⟨#[100]⟩] 9)) = w34 at *
  generalize hg_C1 : w33.heap.size = gC1 at *
  clear hg_C1 hsz_w34
  refine (file7 _ w34).mono ?_
  rintro e w35 ⟨rfl, hb⟩
  have HBW' := Lib.hid (HBW.out.trans ((hb).mono HBW.out.size))
  have HV' := Lib.hid (NodeR.grown (hb) HV.out)
  have C1' := Lib.hid (C1.out.kept hb)
  clear HBW HV C1
  have HBW := HBW'
  clear HBW'
  have HV := HV'
  clear HV'
  have C1 := C1'
  clear C1'
  clear hb
  go_wp2_with fail
  refine (dir7 _ _ _ _ _ _ w35).mono ?_
  rintro e w36 ⟨rfl, hb⟩
  have HBW' := Lib.hid (HBW.out.trans ((hb).mono HBW.out.size))
  have HV' := Lib.hid (NodeR.grown (hb) HV.out)
  have C1' := Lib.hid (C1.out.kept hb)
  clear HBW HV C1
  have HBW := HBW'
  clear HBW'
  have HV := HV'
  clear HV'
  have C1 := C1'
  clear C1'
  clear hb
  go_wp2_with fail
  have hal : Below w36.heap.size w36 (w36.alloc (.cells #[.int .u8 1, .string ⟨#[120]⟩, .slice none 0 0, .slice none 0 0, .int .u8 2, .string ⟨#[]⟩, .slice none 0 0, .slice none 0 0] 26)) := (Below.refl _ _).alloc (Nat.le_refl _) _
  have HBW' := Lib.hid (HBW.out.trans ((hal).mono HBW.out.size))
  have HV' := Lib.hid (NodeR.grown (hal) HV.out)
  have C1' := Lib.hid (C1.out.kept hal)
  clear HBW HV C1
  have HBW := HBW'
  clear HBW'
  have HV := HV'
  clear HV'
  have C1 := C1'
  clear C1'
  have C2 : Hid (Bk (w36.alloc (.cells #[.int .u8 1, .string ⟨#[120]⟩, .slice none 0 0, .slice none 0 0, .int .u8 2, .string ⟨#[]⟩, .slice none 0 0, .slice none 0 0] 26)) w36.heap.size [.int .u8 1, .string ⟨#[120]⟩, .slice none 0 0, .slice none 0 0, .int .u8 2, .string ⟨#[]⟩, .slice none 0 0, .slice none 0 0] 26) := Lib.hid (Bk.new w36 [.int .u8 1, .string ⟨#[120]⟩, .slice none 0 0, .slice none 0 0, .int .u8 2, .string ⟨#[]⟩, .slice none 0 0, .slice none 0 0] 26)
  have hsz_w37 : w36.heap.size + 1 = (w36.alloc (.cells #[.int .u8 1, .string ⟨#[120]⟩, .slice none 0 0, .slice none 0 0, .int .u8 2, .string ⟨#[]⟩, .slice none 0 0, .slice none 0 0] 26)).heap.size := by simp
  clear hal
  generalize (w36.alloc (.cells #[.int .u8 1, .string ⟨#[120]⟩, .slice none 0 0, .slice none 0 0, .int .u8 2, .string ⟨#[]⟩, .slice none 0 0, .slice none 0 0] 26)) = w37 at *
  generalize hg_C2 : w36.heap.size = gC2 at *
  clear hg_C2 hsz_w37
  refine (dir7 _ _ _ _ _ _ w37).mono ?_
  rintro e w38 ⟨rfl, hb⟩
  have HBW' := Lib.hid (HBW.out.trans ((hb).mono HBW.out.size))
  have HV' := Lib.hid (NodeR.grown (hb) HV.out)
  have C1' := Lib.hid (C1.out.kept hb)
  have C2' := Lib.hid (C2.out.kept hb)
  clear HBW HV C1 C2
  have HBW := HBW'
  clear HBW'
  have HV := HV'
  clear HV'
  have C1 := C1'
  clear C1'
  have C2 := C2'
  clear C2'
  clear hb
  go_wp2_with fail
  have HN : Hid (NodeR w38 [.int .u8 2, .string ByteArray.empty, .slice (some ⟨gC1, 0, none⟩) 2 2, .slice (some ⟨gC2, 0, none⟩) 2 2] left) := Lib.hid (C1.out.node (l := [tA, tD]) C2.out (.cons _ _ _ _ rfl (leaf _ _) (.one rfl (.mk 2 ByteArray.empty [] [] none none 0 0 (fun _ => []) (Nat.le_refl _) (Nat.zero_le _) (fun i hi => absurd hi (Nat.not_lt_zero _)) (Nat.le_refl _) (Nat.zero_le _) (fun i hi => absurd hi (Nat.not_lt_zero _)) (fun i x hx => by simp at hx)))) (by decide) (by decide))
  refine (sameNd_any HV.out HN.out left_bulk w38 (Below.refl _ _)).mono ?_
  rintro e w39 ⟨he, hb⟩
  rw [Nd.same_self] at he
  subst he
  have HZ := Lib.hid (HBW.out.trans (hb.mono HBW.out.size))
  clear hb
  go_wp2_with fail
  go_ret
  exact ⟨rfl, HZ.out⟩
end Works
end Go.Proofs.Ytcookbaedcjmjaa
