/- The statement on calls of many sources: they come to what calls of each one come to. -/
import Derived.Test.YtfilbknnpjbmcaaGreatDoorKb02
import Derived.Test.YtfilbknnpjbmcaaGreatDoorKb49
import Derived.Test.YtfilbknnpjbmcaaGreatDoorKb51
namespace Go.Proofs.YtfilbknnpjbmcaaGreatDoor
open Go.RowKit Px Nx Wk Dn Ox Mv
abbrev qMvQ_0 : Oper := { dst := some 139, op := Op.buildSlice 22 0 #[], type := 22, pos := "outright.go:191", after := #[], guard := none }
abbrev qMvQ_1 : Oper := { dst := some 147, op := Op.buildSlice 22 2 #[(0, Operand.tmp 145), (1, Operand.tmp 146)], type := 22, pos := "outright.go:191", after := #[{ on := 6, ground := Ground.data }, { on := 7, ground := Ground.data }], guard := none }
abbrev qMvQ_2 : Oper := { dst := some 141, op := Op.call { callee := Callee.builtin Builtin.append, args := #[Operand.tmp 139, Operand.tmp 140], argTypes := #[22, 22] }, type := 22, pos := "outright.go:191", after := #[{ on := 0, ground := Ground.data }, { on := 1, ground := Ground.data }], guard := none }
abbrev qMvQ_3 : Oper := { dst := some 148, op := Op.call { callee := Callee.builtin Builtin.append, args := #[Operand.tmp 141, Operand.tmp 147], argTypes := #[22, 22] }, type := 22, pos := "outright.go:191", after := #[{ on := 2, ground := Ground.data }, { on := 8, ground := Ground.data }, { on := 2, ground := Ground.chain }], guard := none }
abbrev qMvQ_4 : Oper := { dst := some 23, op := Op.assign (Operand.tmp 148), type := 22, pos := "outright.go:191", after := #[{ on := 9, ground := Ground.data }, { on := 9, ground := Ground.chain }, { on := 0, ground := Ground.phase }, { on := 1, ground := Ground.phase }, { on := 2, ground := Ground.phase }, { on := 3, ground := Ground.phase }, { on := 4, ground := Ground.phase }, { on := 5, ground := Ground.phase }, { on := 6, ground := Ground.phase }, { on := 7, ground := Ground.phase }, { on := 8, ground := Ground.phase }, { on := 9, ground := Ground.phase }], guard := none }
open Works13 (Bk)
set_option maxRecDepth 100000 in
set_option maxHeartbeats 100000000 in
theorem law_many {W : World} {cs : List Value} {n : Nd} (hn : NodeR W cs n) (hB : n.bulk ≤ 2000000) (kd : UInt8) {v : Value} {xs : List ByteArray} (hx : PlR W v xs) (goal : ByteArray) :
  Calls Tryz.prog 4 #[.agg cs.toArray, .int .u8 kd.toNat, v, .string goal] W fun e w' => e = .returned (.bool true) ∧ Below W.heap.size W w' := by
 obtain ⟨p1, q1, c1, d1, rfl⟩ := hn.cells
 have HN := Lib.hid hn
 have HX := Lib.hid hx
 obtain ⟨px, cx, rfl, hxs, hxl, hxm⟩ := hx
 have hcx : cx ≤ 9223372036854775807 := by unfold maxLen at hxm; omega
 clear hn hxm hxs
 have WA : ∀ wx, Calls Tryz.prog 5 #[] wx fun e w' => e = .returned (.bool true) ∧ Below wx.heap.size wx w' := Works13.works_any
 have HWA := Lib.hid WA
 clear WA
 obtain ⟨i0, hi, hz0, hz1, hz2⟩ := info_parts (i := Tryz.prog.info? 9) (z := some (.string ⟨#[]⟩)) (n := 1) (m := 16) (by kernel_rfl)
 have HI := Lib.hid hi
 clear hi
 go_enter Tryz.func4, Tryz.ntmps4
 go_wp2_with fail
 have HB0 : Hid (Below W.heap.size W (W.alloc (.cells #[.int .u8 n.kind.toNat, .string n.text, .slice p1 n.names.length c1, .slice q1 n.kids.length d1] 25))) := Lib.hid (below_alloc (Below.refl _ _))
 have HK0 : Hid (Bk (W.alloc (.cells #[.int .u8 n.kind.toNat, .string n.text, .slice p1 n.names.length c1, .slice q1 n.kids.length d1] 25)) W.heap.size [.int .u8 n.kind.toNat, .string n.text, .slice p1 n.names.length c1, .slice q1 n.kids.length d1] 25) := Lib.hid (Bk.new _ _ _)
 generalize (W.alloc (.cells #[.int .u8 n.kind.toNat, .string n.text, .slice p1 n.names.length c1, .slice q1 n.kids.length d1] 25)) = w0 at *
 refine (HWA.out w0).mono ?_
 rintro e w1 ⟨rfl, hb1⟩
 have HB1 : Hid (Below W.heap.size W w1) := Lib.hid (HB0.out.trans (hb1.mono HB0.out.size))
 have HK1 := Lib.hid (HK0.out.kept hb1)
 obtain ⟨x0, x1, x2, x3⟩ : w1.cell? ⟨W.heap.size, 0, none⟩ = some (.int .u8 n.kind.toNat) ∧ w1.cell? ⟨W.heap.size, 1, none⟩ = some (.string n.text) ∧ w1.cell? ⟨W.heap.size, 2, none⟩ = some (.slice p1 n.names.length c1) ∧ w1.cell? ⟨W.heap.size, 3, none⟩ = some (.slice q1 n.kids.length d1) := ⟨HK1.out.at rfl, HK1.out.at rfl, HK1.out.at rfl, HK1.out.at rfl⟩
 clear hb1 HB0 HK0
 go_wp2_with fail
 clear x0 x1 x2 x3
 refine (weight13_any HN.out w1 HB1.out).mono ?_
 rintro e w2 ⟨⟨r, rfl⟩, hb2⟩
 have HB2 : Hid (Below W.heap.size W w2) := Lib.hid (HB1.out.trans (hb2.mono HB1.out.size))
 have HK2 := Lib.hid (HK1.out.kept hb2)
 clear hb2 HB1 HK1
 by_cases hr : 3000 ≤ r
 ·go_wp2_with fail
  refine (HWA.out w2).mono ?_
  rintro e w3 ⟨rfl, hb3⟩
  have HB3 : Hid (Below W.heap.size W w3) := Lib.hid (HB2.out.trans (hb3.mono HB2.out.size))
  clear hb3
  go_wp2_with fail
  go_ret
  exact ⟨rfl, HB3.out⟩
 go_wp2_with fail
 refine (large13_any w2 _ xs (HX.out.grown HB2.out)).mono ?_
 rintro e w3 ⟨⟨lb, rfl, hlb⟩, rfl⟩
 cases lb with
 | true =>
  go_wp2_with fail
  refine (HWA.out w3).mono ?_
  rintro e w3 ⟨rfl, hb3⟩
  have HB3 : Hid (Below W.heap.size W w3) := Lib.hid (HB2.out.trans (hb3.mono HB2.out.size))
  clear hb3
  go_wp2_with fail
  go_ret
  exact ⟨rfl, HB3.out⟩
 | false =>
 have HSZ := Lib.hid (hlb rfl).2
 have HX0W : Hid (Bk w3 W.heap.size [.int .u8 n.kind.toNat, .string n.text, .slice p1 n.names.length c1, .slice q1 n.kids.length d1] 25) := HK2
 clear hlb
 by_cases h8 : xs.length ≤ 8 ∧ xs.length ≠ 0 ∧ goal.size ≤ 1000
 rotate_left
 ·have HF : Hid (∀ w3, Below W.heap.size W w3 → Below W.heap.size W w3) := Lib.hid fun _ h => h
  by_cases g1 : (8 : Int) < (xs.length : Int)
  ·go_wp2_with fail
   refine (HWA.out w3).mono ?_
   rintro e w3 ⟨rfl, hb3⟩
   have HB3 : Hid (Below W.heap.size W w3) := Lib.hid (HB2.out.trans (hb3.mono HB2.out.size))
   clear hb3
   go_wp2_with fail
   go_ret
   exact ⟨rfl, HB3.out⟩
  by_cases g0 : xs.length = 0
  ·have g2 : (((xs.length : Nat) : Int) == 0) = true := by rw [g0]; rfl
   go_wp2_with fail
   refine (HWA.out w3).mono ?_
   rintro e w3 ⟨rfl, hb3⟩
   have HB3 : Hid (Below W.heap.size W w3) := Lib.hid (HB2.out.trans (hb3.mono HB2.out.size))
   clear hb3
   go_wp2_with fail
   go_ret
   exact ⟨rfl, HB3.out⟩
  have g2 : (((xs.length : Nat) : Int) == 0) = false := beq_eq_false_iff_ne.2 (by omega)
  have g3 : (1000 : Int) < (goal.size : Int) := by omega
  go_wp2_with fail
  refine (HWA.out w3).mono ?_
  rintro e w3 ⟨rfl, hb3⟩
  have HB3 : Hid (Below W.heap.size W w3) := Lib.hid (HB2.out.trans (hb3.mono HB2.out.size))
  clear hb3
  go_wp2_with fail
  go_ret
  exact ⟨rfl, HB3.out⟩
 obtain ⟨k8, k0, kg⟩ := h8
 have g1 : ¬ (8 : Int) < (xs.length : Int) := by omega
 have g2 : (((xs.length : Nat) : Int) == 0) = false := beq_eq_false_iff_ne.2 (by omega)
 have g3 : ¬ (1000 : Int) < (goal.size : Int) := by omega
 obtain ⟨x0, x1, x2, x3⟩ : w3.cell? ⟨W.heap.size, 0, none⟩ = some (.int .u8 n.kind.toNat) ∧ w3.cell? ⟨W.heap.size, 1, none⟩ = some (.string n.text) ∧ w3.cell? ⟨W.heap.size, 2, none⟩ = some (.slice p1 n.names.length c1) ∧ w3.cell? ⟨W.heap.size, 3, none⟩ = some (.slice q1 n.kids.length d1) := ⟨HK2.out.at rfl, HK2.out.at rfl, HK2.out.at rfl, HK2.out.at rfl⟩
 have hgb : n.girth ≤ 2000000 := by have := n.girth_bulk; omega
 have HNW : Hid (∀ wx, Below W.heap.size W wx → Calls Tryz.prog 7 #[.agg #[.int .u8 n.kind.toNat, .string n.text, .slice p1 n.names.length c1, .slice q1 n.kids.length d1]] wx fun e w' => (if n.may then ∃ b v0 v1 v2 v3, e = .returned (.tuple #[.pointer (some ⟨b, 0, none⟩), .int .i64 0]) ∧ wx.heap.size ≤ b ∧ TreeX w' b n v0 v1 v2 v3 ∧ NodeX w' (fun k => wx.heap.size ≤ k ∧ k < w'.heap.size) [v0, v1, v2, v3] n else e = .returned (.tuple #[.pointer none, .int .i64 4])) ∧ Below wx.heap.size wx w') := Lib.hid fun wx hb => fnew_any HN.out (by omega) wx hb
 go_wp2_with fail
 clear x0 x1 x2 x3
 refine (HNW.out w3 HB2.out).mono ?_
 rintro e w4 ⟨hnw, hb4⟩
 have HB4 : Hid (Below W.heap.size W w4) := Lib.hid (HB2.out.trans (hb4.mono HB2.out.size))
 have HK4 := Lib.hid (HK2.out.kept hb4)
 obtain ⟨x0, x1, x2, x3⟩ : w4.cell? ⟨W.heap.size, 0, none⟩ = some (.int .u8 n.kind.toNat) ∧ w4.cell? ⟨W.heap.size, 1, none⟩ = some (.string n.text) ∧ w4.cell? ⟨W.heap.size, 2, none⟩ = some (.slice p1 n.names.length c1) ∧ w4.cell? ⟨W.heap.size, 3, none⟩ = some (.slice q1 n.kids.length d1) := ⟨HK4.out.at rfl, HK4.out.at rfl, HK4.out.at rfl, HK4.out.at rfl⟩
 clear hb4 HK2 HB2
 cases hmay : n.may with
 | false =>
  rw [hmay, if_neg (by decide)] at hnw
  subst hnw
  go_wp2_with fail
  clear x0 x1 x2 x3
  refine (HNW.out w4 HB4.out).mono ?_
  rintro e w5 ⟨hnw, hb5⟩
  rw [hmay, if_neg (by decide)] at hnw
  subst hnw
  have HB5 : Hid (Below W.heap.size W w5) := Lib.hid (HB4.out.trans (hb5.mono HB4.out.size))
  clear hb5
  go_wp2_with fail
  go_ret
  exact ⟨rfl, HB5.out⟩
 | true =>
 rw [hmay, if_pos rfl] at hnw
 obtain ⟨b, y0, y1, y2, y3, rfl, hbb, ht, hns⟩ := hnw
 have HT4 := Lib.hid ((TreeX.of_new ht hns).weak (S' := fun k => k ≠ b ∧ k < w4.heap.size) (fun k hk => ⟨hk.1, hk.2.2⟩) (fun q => q.1 rfl))
 have hbl := ht.lt
 have hWb : W.heap.size < b := Nat.lt_of_lt_of_le (Nat.lt_of_lt_of_le HX0W.out.lt (Nat.le_refl _)) hbb
 clear ht hbb hns
 go_wp2_with fail
 clear x0 x1 x2 x3
 refine (HNW.out w4 HB4.out).mono ?_
 rintro e w5 ⟨hnw, hb5⟩
 rw [hmay, if_pos rfl] at hnw
 obtain ⟨b', z0, z1, z2, z3, rfl, hbb, ht, hns⟩ := hnw
 have HU5 := Lib.hid ((TreeX.of_new ht hns).weak (S' := fun k => k ≠ b' ∧ w4.heap.size ≤ k) (fun k hk => ⟨hk.1, hk.2.1⟩) (fun hk => hk.1 rfl))
 have hbb' : b < b' := Nat.lt_of_lt_of_le hbl hbb
 have HT5 := Lib.hid (HT4.out.kept hb5)
 have HB5 : Hid (Below W.heap.size W w5) := Lib.hid (HB4.out.trans (hb5.mono HB4.out.size))
 have HBL := Lib.hid hbl
 have HB44 : Hid (w4.heap.size ≤ b') := Lib.hid hbb
 clear ht hbb hb5 hbl HB4 HT4 HK4 hns
 go_wp2_with fail
 refine (check_any goal (by omega) w5).mono ?_
 rintro e w6 ⟨rfl, hb6⟩
 have HB6 : Hid (Below W.heap.size W w6) := Lib.hid (HB5.out.trans (hb6.out.mono HB5.out.size))
 have HT6 := Lib.hid (HT5.out.kept hb6.out)
 have HU6 := Lib.hid (HU5.out.kept hb6.out)
 clear hb6 HB5 HT5 HU5
 by_cases hc : checkL goal.data.toList = 0
 rotate_left
 ·have hc' : (((checkL goal.data.toList : Nat) : Int) == 0) = false := beq_eq_false_iff_ne.2 (by omega)
  go_wp2_with fail
  go_ret
  exact ⟨rfl, HB6.out⟩
 have HCC := Lib.hid hc
 rw [hc]
 clear hc
 go_upto_region 7 with fail
 generalize kd.toNat = kn
 go_cut [13] (fun hv wx => ∃ (gh : Nat) (hd : List ByteArray), hv = .slice (some ⟨gh, 0, none⟩) hd.length hd.length ∧ Hid (Bk wx gh (hd.map Value.string) 9) ∧ Hid (Below w6.heap.size w6 wx) ∧ Hid (hd ∈ heads) ∧ Hid (w6.heap.size ≤ gh))
 case first =>
  have h5 : kn % 5 = 0 ∨ kn % 5 = 1 ∨ kn % 5 = 2 ∨ kn % 5 = 3 ∨ kn % 5 = 4 := by omega
  rcases h5 with h5 | h5 | h5 | h5 | h5
  ·have m1 : ((kn : Nat) : Int).tmod 5 = 0 := by rw [Int.tmod_eq_emod_of_nonneg (by omega)]; omega
   have m2 : ((kn : Nat) : Int) % 5 = 0 := by omega
   clear h5
   go_wp2_with fail
   go_meet
   exact ⟨_, [⟨#[109, 118]⟩, ⟨#[45, 45]⟩], rfl, Lib.hid ((((((Works13.Bk.newE (vs := ([⟨#[109, 118]⟩, ⟨#[45, 45]⟩] : List ByteArray).map Value.string) (by simp)).al).al).al).al).al), Lib.hid (below_alloc (below_alloc (below_alloc (below_alloc (below_alloc (below_alloc (Below.refl _ _))))))), Lib.hid (by unfold heads; simp), Lib.hid (by first | exact Nat.le_refl _ | omega | (simp; done) | (simp; omega))⟩
  ·have m1 : ((kn : Nat) : Int).tmod 5 = 1 := by rw [Int.tmod_eq_emod_of_nonneg (by omega)]; omega
   have m2 : ((kn : Nat) : Int) % 5 = 1 := by omega
   clear h5
   go_wp2_with fail
   go_meet
   exact ⟨_, [⟨#[99, 112]⟩, ⟨#[45, 45]⟩], rfl, Lib.hid (((((Works13.Bk.newE (vs := ([⟨#[99, 112]⟩, ⟨#[45, 45]⟩] : List ByteArray).map Value.string) (by simp)).al).al).al).al), Lib.hid (below_alloc (below_alloc (below_alloc (below_alloc (below_alloc (below_alloc (Below.refl _ _))))))), Lib.hid (by unfold heads; simp), Lib.hid (by first | exact Nat.le_refl _ | omega | (simp; done) | (simp; omega))⟩
  ·have m1 : ((kn : Nat) : Int).tmod 5 = 2 := by rw [Int.tmod_eq_emod_of_nonneg (by omega)]; omega
   have m2 : ((kn : Nat) : Int) % 5 = 2 := by omega
   clear h5
   go_wp2_with fail
   go_meet
   exact ⟨_, [⟨#[99, 112]⟩, ⟨#[45, 114]⟩, ⟨#[45, 45]⟩], rfl, Lib.hid ((((Works13.Bk.newE (vs := ([⟨#[99, 112]⟩, ⟨#[45, 114]⟩, ⟨#[45, 45]⟩] : List ByteArray).map Value.string) (by simp)).al).al).al), Lib.hid (below_alloc (below_alloc (below_alloc (below_alloc (below_alloc (below_alloc (Below.refl _ _))))))), Lib.hid (by unfold heads; simp), Lib.hid (by first | exact Nat.le_refl _ | omega | (simp; done) | (simp; omega))⟩
  ·have m1 : ((kn : Nat) : Int).tmod 5 = 3 := by rw [Int.tmod_eq_emod_of_nonneg (by omega)]; omega
   have m2 : ((kn : Nat) : Int) % 5 = 3 := by omega
   clear h5
   go_wp2_with fail
   go_meet
   exact ⟨_, [⟨#[108, 110]⟩, ⟨#[45, 115]⟩, ⟨#[45, 45]⟩], rfl, Lib.hid (((Works13.Bk.newE (vs := ([⟨#[108, 110]⟩, ⟨#[45, 115]⟩, ⟨#[45, 45]⟩] : List ByteArray).map Value.string) (by simp)).al).al), Lib.hid (below_alloc (below_alloc (below_alloc (below_alloc (below_alloc (below_alloc (Below.refl _ _))))))), Lib.hid (by unfold heads; simp), Lib.hid (by first | exact Nat.le_refl _ | omega | (simp; done) | (simp; omega))⟩
  ·have m1 : ((kn : Nat) : Int).tmod 5 = 4 := by rw [Int.tmod_eq_emod_of_nonneg (by omega)]; omega
   have m2 : ((kn : Nat) : Int) % 5 = 4 := by omega
   clear h5
   go_wp2_with fail
   go_meet
   exact ⟨_, [⟨#[108, 110]⟩, ⟨#[45, 115, 102]⟩, ⟨#[45, 45]⟩], rfl, Lib.hid ((Works13.Bk.newE (vs := ([⟨#[108, 110]⟩, ⟨#[45, 115, 102]⟩, ⟨#[45, 45]⟩] : List ByteArray).map Value.string) (by simp)).al), Lib.hid (below_alloc (below_alloc (below_alloc (below_alloc (below_alloc (below_alloc (Below.refl _ _))))))), Lib.hid (by unfold heads; simp), Lib.hid (by first | exact Nat.le_refl _ | omega | (simp; done) | (simp; omega))⟩
 case rest =>
  obtain ⟨gh, hd, rfl, HGH, HBC, HHD, HGG⟩ := hcut
  have HGB : Hid (b < gh) := Lib.hid (Nat.lt_of_lt_of_le HT6.out.x.lt HGG.out)
  clear HGG
  obtain ⟨cp, R, name, pre, rfl, hhk⟩ := head_ok HHD.out
  have HHK := Lib.hid hhk
  clear hhk HHD
  obtain ⟨hw, hk⟩ := may_well hmay
  have HB7 : Hid (Below W.heap.size W wc) := Lib.hid (HB6.out.trans (HBC.out.mono HB6.out.size))
  have HT7 := Lib.hid (HT6.out.kept HBC.out)
  have HU7 := Lib.hid (HU6.out.kept HBC.out)
  have HG : Hid (TreeG 2000000 n) := Lib.hid ⟨hw, hk, hgb⟩
  have HCK := HCC
  have hg256 : goal.size ≤ 256 := check_size (by have := HCC.out; omega)
  clear HBC HB6 HT6 HU6 hw hk hmay HCC
  go_wp2_with fail
  refine (wfindO_any HT7.out.x HG.out.well (by have := HG.out.girth; omega) HG.out.kind goal (by omega)).mono ?_
  rintro e w8 ⟨⟨o, ho, hr⟩, hb8⟩
  have HB8 : Hid (Below W.heap.size W w8) := Lib.hid (HB7.out.trans (hb8.mono HB7.out.size))
  have HT8 := Lib.hid (HT7.out.kept hb8)
  have HU8 := Lib.hid (HU7.out.kept hb8)
  have HGH8 := Lib.hid (HGH.out.kept hb8)
  have HSZ8 : Hid (b < wc.heap.size) := Lib.hid HT7.out.x.lt
  clear hb8 HB7 HT7 HU7 HGH
  have hk0 : (0 : Int) < (xs.length : Int) := by omega
  have HLW := Lib.hid ho
  cases o with
  | err c =>
   have hr' : e = .returned (.tuple #[.slice none 0 0, .int .u8 0, .int .i64 c]) := hr
   subst hr'
   have e0 : (c != 0) = true := by rcases run_err ho c rfl with rfl | rfl | rfl <;> rfl
   clear ho
   go_wp2_with fail
   go_loopw [17, 18, 19] (fun _ _ iv wr => iv = .int .i64 0 ∧ Hid (w8 = wr)) (fun _ _ _ _ => 0)
   case atStart => exact ⟨rfl, Lib.hid rfl⟩
   case round =>
    obtain ⟨rfl, hw⟩ := hrel
    obtain rfl := hw.out
    clear hw
    go_wp2_with fail
    refine (wfind_any HT8.out.x HG.out.well (by have := HG.out.girth; omega) HG.out.kind goal (by omega)).mono ?_
    rintro e w9 ⟨⟨o2, ho2, hr2⟩, hb9⟩
    have HB9 : Hid (Below W.heap.size W w9) := Lib.hid (HB8.out.trans (hb9.mono HB8.out.size))
    clear hb9 ho2
    cases o2 with
    | err c2 =>
     have hr' : e = .returned (.tuple #[.slice none 0 0, .int .u8 0, .int .i64 c2]) := hr2
     subst hr'
     go_wp2_with fail
     go_ret
     exact ⟨rfl, HB9.out⟩
    | ok q k2 =>
     obtain ⟨pv, he, hpv⟩ := hr2
     subst he
     obtain ⟨pp, cp', rfl, _, _, _⟩ := hpv
     go_wp2_with fail
     go_ret
     exact ⟨rfl, HB9.out⟩
  | ok P k =>
   obtain ⟨pv, he, hpv⟩ := hr
   subst he
   have HPO : Hid (OwnL w8 wc.heap.size pv P) := Lib.hid hpv
   obtain ⟨pp, cc, rfl⟩ := own_sliceM hpv
   clear hpv ho
   by_cases hk2 : k = 2
   rotate_left
   ·have e2 : (((k.toNat : Nat) : Int) != 2) = true := bne_iff_ne.2 fun h => hk2 (UInt8.toNat_inj.1 (by
     have : k.toNat = 2 := by omega
     exact this))
    clear hk2
    go_wp2_with fail
    go_loopw [17, 18, 19] (fun _ _ iv wr => iv = .int .i64 0 ∧ Hid (w8 = wr)) (fun _ _ _ _ => 0)
    case atStart => exact ⟨rfl, Lib.hid rfl⟩
    case round =>
     obtain ⟨rfl, hw⟩ := hrel
     obtain rfl := hw.out
     clear hw
     go_wp2_with fail
     refine (wfind_any HT8.out.x HG.out.well (by have := HG.out.girth; omega) HG.out.kind goal (by omega)).mono ?_
     rintro e w9 ⟨⟨o2, ho2, hr2⟩, hb9⟩
     have HB9 : Hid (Below W.heap.size W w9) := Lib.hid (HB8.out.trans (hb9.mono HB8.out.size))
     clear hb9
     cases o2 with
     | err c2 =>
      have hr' : e = .returned (.tuple #[.slice none 0 0, .int .u8 0, .int .i64 c2]) := hr2
      subst hr'
      have e0 : (c2 != 0) = true := by rcases run_err ho2 c2 rfl with rfl | rfl | rfl <;> rfl
      clear ho2
      go_wp2_with fail
      go_ret
      exact ⟨rfl, HB9.out⟩
     | ok q k2 =>
      obtain ⟨pv, he, hpv⟩ := hr2
      subst he
      obtain ⟨pp, cp', rfl, _, _, _⟩ := hpv
      clear ho2
      go_wp2_with fail
      go_ret
      exact ⟨rfl, HB9.out⟩
   subst hk2
   have HPT := Lib.hid (HPO.out.plT HSZ8.out)
   have HDA : Hid (DirAt n goal P) := Lib.hid ⟨HCK.out, HLW.out⟩
   have HTY : Hid (TreeY b' w8 b n y0 y1 y2 y3) := Lib.hid ⟨HT8.out.weak (fun k hk => ⟨hk.1, by have := hk.2; have := HB44.out; omega⟩) (fun q => q.1 rfl)⟩
   have HUY : Hid (TreeY b w8 b' n z0 z1 z2 z3) := Lib.hid ⟨HU8.out.weak (fun k hk => ⟨hk.1, by have := hk.2; have := HBL.out; omega⟩) (fun q => q.1 rfl)⟩
   have HXG : Hid (∀ wx, Below W.heap.size W wx → PlR wx (.slice px xs.length cx) xs) := Lib.hid fun wx hb => HX.out.grown hb
   obtain ⟨bx, ox, hpx⟩ : ∃ bx ox, px = some ⟨bx, ox, none⟩ := by
    obtain ⟨p', c', e, hs, _, _⟩ := HX.out
    cases e
    obtain ⟨bx, ox, e, _⟩ := hs 0 (by omega)
    exact ⟨bx, ox, e⟩
   subst hpx
   have HSX : Hid (∀ wx, Below W.heap.size W wx → ∀ i, i < xs.length → wx.cell? ⟨bx, ox + i, none⟩ = some (.string (xs.getD i ByteArray.empty))) := Lib.hid fun wx hb i hi => by
    obtain ⟨p', c', e, hs, _, _⟩ := HXG.out wx hb
    cases e
    obtain ⟨bx', ox', e, hc⟩ := hs i hi
    cases e
    exact hc
   have HX6 : Hid (∀ x ∈ xs, x.size ≤ 5000) := HSZ
   clear HT8 HU8 HLW HPO HX HCK
   go_wp2_with fail
   go_loopw [17, 18, 19] (fun cv sv iv wr => ∃ (k : Nat) (code : Int) (err : ByteArray), k ≤ xs.length ∧ cv = .int .i64 code ∧ sv = .string err ∧ iv = .int .i64 k ∧ Hid (LoopMM R n name xs P W wr b b' k code err) ∧ Hid (Bk wr gh ((name :: pre).map Value.string) 9) ∧ Hid (PlT wr b (.slice pp P.length cc) P)) (fun _ _ iv _ => xs.length - (intOf iv).toNat)
   case atStart => exact ⟨0, 0, ⟨#[]⟩, Nat.zero_le _, rfl, rfl, rfl, Lib.hid ⟨⟨n, _, _, _, _, many_nil _ _ _, HG.out, HTY.out⟩, HB8.out, ⟨_, _, _, _, HUY.out⟩⟩, HGH8, HPT⟩
   case round =>
    obtain ⟨k, code, err, hk, rfl, rfl, rfl, HL, HH, HP⟩ := hrel
    obtain ⟨⟨m, y0', y1', y2', y3', hmy, hgm, hty⟩, hbw, ⟨z0', z1', z2', z3', hto⟩⟩ := HL.out
    have HM := Lib.hid hmy
    have HGM := Lib.hid hgm
    have HTM := Lib.hid hty
    have HTO := Lib.hid hto
    have HBR := Lib.hid hbw
    clear HL hmy hgm hty hto hbw
    by_cases hlt : k < xs.length
    ·have hltI : ((k : Nat) : Int) < (xs.length : Int) := by omega
     go_wp2_with fail
     refine (wfind_any HTM.out.x HGM.out.well (by have := HGM.out.girth; omega) HGM.out.kind goal (by omega)).mono ?_
     rintro e w9 ⟨⟨o2, ho2, hr2⟩, hb9⟩
     have HB9 : Hid (Below W.heap.size W w9) := Lib.hid (HBR.out.trans (hb9.mono HBR.out.size))
     have HTM9 := Lib.hid (HTM.out.kept hb9)
     have HTO9 := Lib.hid (HTO.out.kept hb9)
     have HH9 := Lib.hid (HH.out.kept hb9)
     have HP9 := Lib.hid (HP.out.kept hb9)
     clear hb9 HBR HTM HTO HH HP
     cases o2 with
     | err c2 =>
      have hr' : e = .returned (.tuple #[.slice none 0 0, .int .u8 0, .int .i64 c2]) := hr2
      subst hr'
      have e0 : (c2 != 0) = true := by rcases run_err ho2 c2 rfl with rfl | rfl | rfl <;> rfl
      clear ho2
      go_wp2_with fail
      go_ret
      exact ⟨rfl, HB9.out⟩
     | ok q k2 =>
      obtain ⟨pv2, he, hpv⟩ := hr2
      subst he
      have HQ9 := Lib.hid hpv
      obtain ⟨pp2, cc2, rfl, _, _, _⟩ := hpv
      have HL2 : Hid (Leads m true goal (.ok q k2)) := Lib.hid ho2
      clear ho2
      by_cases h22 : k2 = 2
      rotate_left
      ·have e2 : (((k2.toNat : Nat) : Int) != 2) = true := bne_iff_ne.2 fun h => h22 (UInt8.toNat_inj.1 (by
        have : k2.toNat = 2 := by omega
        exact this))
       clear h22
       go_wp2_with fail
       go_ret
       exact ⟨rfl, HB9.out⟩
      subst h22
      go_wp2_with fail
      refine (show_at (Below.refl _ _) HQ9.out (Mv.leads_small HGM.out HL2.out hg256)).mono ?_
      rintro e w10 ⟨rfl, hb⟩
      have HB10 : Hid (Below W.heap.size W w10) := Lib.hid (HB9.out.trans (hb.mono HB9.out.size))
      have HTM10 := Lib.hid (HTM9.out.kept hb)
      have HTO10 := Lib.hid (HTO9.out.kept hb)
      have HH10 := Lib.hid (HH9.out.kept hb)
      have HP10 := Lib.hid (HP9.out.kept hb)
      clear hb HB9 HTM9 HTO9 HH9 HP9 HQ9
      go_wp2_with fail
      refine (show_at (Below.refl _ _) HP10.out.r (Mv.leads_small HG.out HDA.out.leads hg256)).mono ?_
      rintro e w11 ⟨rfl, hb⟩
      have HB11 : Hid (Below W.heap.size W w11) := Lib.hid (HB10.out.trans (hb.mono HB10.out.size))
      have HTM11 := Lib.hid (HTM10.out.kept hb)
      have HTO11 := Lib.hid (HTO10.out.kept hb)
      have HH11 := Lib.hid (HH10.out.kept hb)
      have HP11 := Lib.hid (HP10.out.kept hb)
      clear hb HB10 HTM10 HTO10 HH10 HP10
      have HSP : Hid ((⟨(showL q).toArray⟩ : ByteArray) = ⟨(showL P).toArray⟩ → q = P) := Lib.hid fun he => same_place HL2.out HDA.out.leads he
      generalize (⟨(showL q).toArray⟩ : ByteArray) = S1 at *
      generalize (⟨(showL P).toArray⟩ : ByteArray) = S2 at *
      by_cases hS : S1 = S2
      rotate_left
      ·have eS : (S1.toList == S2.toList) = false := by
        rw [beq_eq_false_iff_ne]
        exact fun h => hS (by
         rw [Lib.toList_data, Lib.toList_data] at h
         cases S1; cases S2
         simp only at h
         congr 1
         exact Array.ext' h)
       clear hS
       go_wp2_with fail
       go_ret
       exact ⟨rfl, HB11.out⟩
      obtain rfl := HSP.out hS
      have eS : (S1.toList == S2.toList) = true := by rw [hS]; exact beq_self_eq_true _
      clear hS HSP
      go_wp2_with fail
      refine (froot_any HTM11.out.x HGM.out.well (by have := HGM.out.girth; omega)).mono ?_
      rintro e w12 ⟨⟨us, rfl, hus⟩, hb⟩
      obtain ⟨p3, q3, c3, d3, rfl⟩ := nodeX_cells hus
      have HV12 := Lib.hid hus.to
      have HB12 : Hid (Below W.heap.size W w12) := Lib.hid (HB11.out.trans (hb.mono HB11.out.size))
      have HTM12 := Lib.hid (HTM11.out.kept hb)
      have HTO12 := Lib.hid (HTO11.out.kept hb)
      have HH12 := Lib.hid (HH11.out.kept hb)
      have HP12 := Lib.hid (HP11.out.kept hb)
      clear hb hus HB11 HTM11 HTO11 HH11 HP11
      go_wp2_with fail
      refine (weight13_any HV12.out w12 (Below.refl _ _)).mono ?_
      rintro e w13 ⟨⟨r2, rfl⟩, hb⟩
      have HB13 : Hid (Below W.heap.size W w13) := Lib.hid (HB12.out.trans (hb.mono HB12.out.size))
      have HTM13 := Lib.hid (HTM12.out.kept hb)
      have HTO13 := Lib.hid (HTO12.out.kept hb)
      have HH13 := Lib.hid (HH12.out.kept hb)
      have HP13 := Lib.hid (HP12.out.kept hb)
      clear hb HB12 HTM12 HTO12 HH12 HP12 HV12
      by_cases hr3 : 3000 ≤ r2
      ·go_wp2_with fail
       go_ret
       exact ⟨rfl, HB13.out⟩
      have HCX := Lib.hid (HSX.out w13 HB13.out k hlt)
      have hpl2 : pre.length = 1 ∨ pre.length = 2 := HHK.out.plen
      generalize hxk : xs.getD k ByteArray.empty = x at *
      have hx6 : x.size ≤ 5000 := by rw [← hxk]; exact HX6.out _ (getD_in hlt)
      go_upto_region 17 with fail
      go_cut [23] (fun hv wx => ∃ bb oo cc2, hv = .slice (some ⟨bb, oo, none⟩) ((pre ++ [x, goal]).length + 1) cc2 ∧ Hid (PlR wx hv (name :: (pre ++ [x, goal]))) ∧ Hid (Below w13.heap.size w13 wx))
      case first =>
       refine wp_region_held_drew (S := (fun wx => Below w13.heap.size w13 wx ∧ wx.cell? ⟨bx, ox + k, none⟩ = some (.string x))) (by kernel_rfl) ⟨(Below.refl _ _).drew, HCX.out⟩ (fun hHeld => ?_)
       refine tk 1 { dst := some 140, op := Op.move (Operand.tmp 13), type := 22, pos := "outright.go:191", after := #[], guard := none } ?_
       try simp only [Act.put, sA, sB, sC]
       refine tk 3 { dst := some 142, op := Op.move (Operand.tmp 2), type := 22, pos := "outright.go:191", after := #[], guard := none } ?_
       try simp only [Act.put, sA, sB, sC]
       refine tk 4 { dst := some 143, op := Op.move (Operand.tmp 19), type := 3, pos := "outright.go:191", after := #[], guard := none } ?_
       try simp only [Act.put, sA, sB, sC]
       refine tk 5 { dst := some 144, op := Op.indexAddr 22 (Operand.tmp 142) (Operand.tmp 143), type := 0, pos := "outright.go:191", after := #[{ on := 3, ground := Ground.data }, { on := 4, ground := Ground.data }], guard := none } ?_
       try simp only [Act.put, sA, sB, sC]
       refine tk 6 { dst := some 145, op := Op.load 9 (Operand.tmp 144), type := 9, pos := "outright.go:191", after := #[{ on := 5, ground := Ground.data }], guard := none } ?_
       try simp only [Act.put, sA, sB, sC]
       refine tk 7 { dst := some 146, op := Op.move (Operand.tmp 3), type := 9, pos := "outright.go:191", after := #[], guard := none } ?_
       try simp only [Act.put, sA, sB, sC]
       refine wpAnyH_ready (rs := [0, 8]) (by kernel_rfl) (by simp) ?_
       refine AllReadyH.cons (o := qMvQ_0) rfl (fun K hK => ?_) ?_
       rotate_left
       refine AllReadyH.cons (o := qMvQ_1) rfl (fun K hK => ?_) AllReadyH.nil
       ·skip
        go_simp
        go_wp2_with fail
        have HB1 : Hid (Below w13.heap.size w13 (w13.alloc (.cells #[.string x, .string goal] 9)).drew) := Lib.hid (below_alloc (Below.refl _ _)).drew
        have H81 : Hid (Bk (w13.alloc (.cells #[.string x, .string goal] 9)).drew w13.heap.size [.string x, .string goal] 9) := Lib.hid (Works13.Bk.new w13 _ _)
        generalize (w13.alloc (.cells #[.string x, .string goal] 9)).drew = wX1 at *
        refine hK.out _ _ (by exact ⟨HB1.out, cell_kept HB1.out HCX.out⟩) (fun hHeld => ?_)
        clear hK K
        try simp only [Act.put, sA, sB, sC]
        refine wpAnyH_ready (rs := [0]) (by kernel_rfl) (by simp) ?_
        refine AllReadyH.cons (o := qMvQ_0) rfl (fun K hK => ?_) AllReadyH.nil
        go_simp
        go_wp2_with fail
        have HB2 : Hid (Below w13.heap.size w13 (wX1.alloc (.cells #[] 9))) := Lib.hid (below_alloc HB1.out)
        have HO0 : Hid (World.ownsRow (wX1.alloc (.cells #[] 9)) w13.heap.size 9 1 (.slice (some ⟨wX1.heap.size, 0, none⟩) 0 0) 0 []) := Lib.hid ⟨rfl, .inr ⟨wX1.heap.size, 0, #[], rfl, HB1.out.size, heap_alloc_new wX1 _, Nat.le_refl _, Nat.zero_le _, rfl, rfl⟩⟩
        have H82 : Hid (Bk (wX1.alloc (.cells #[] 9)) (w13.heap.size) [.string x, .string goal] 9) := Lib.hid H81.out.al
        have NE : Hid (∀ j, (Value.slice (some ⟨wX1.heap.size, 0, none⟩) 0 0).ownBlock = some j → j ≠ w13.heap.size) := Lib.hid fun j hj e => by
         have h1 := H81.out.lt
         simp only [Value.ownBlock, Option.map_some, Option.some.injEq] at hj
         omega
        generalize (wX1.alloc (.cells #[] 9)) = wX2 at *
        refine hK.out _ _ (by exact ⟨HB2.out, cell_kept HB2.out HCX.out⟩) (fun hHeld => ?_)
        clear hK K
        try simp only [Act.put, sA, sB, sC]
        refine wpAnyH_ready (rs := [2]) (by kernel_rfl) (by simp) ?_
        refine AllReadyH.cons (o := qMvQ_2) rfl (fun K hK => ?_) AllReadyH.nil
        refine wp_append_strs2 _ (.tmp 139) (.tmp 140) 22 rfl w13.heap.size 9 i0 (.string ⟨#[]⟩) Tryz.underlying22 HI.out hz0 hz1 hz2 rfl _ _ _ rfl HO0.out (some ⟨gh, 0, none⟩) _ (name :: pre) rfl ((HH13.out.kept HB2.out).strs (l := name :: pre)) (by first | (simp; omega) | simp) HB2.out.size ?_
        intro vl1 wX3 g3 g4 g5
        have HB3 : Hid (Below w13.heap.size w13 wX3) := Lib.hid (HB2.out.grown g4 HB2.out.size fun j hj => (own_where HO0.out hj).1)
        have HO1 := Lib.hid g3
        have H83 : Hid (Bk wX3 (w13.heap.size) [.string x, .string goal] 9) := Lib.hid (by
         have hlt := H82.out.lt
         have hh := H82.out
         unfold Works13.Bk at *
         rw [g4.block _ hlt (fun e => NE.out _ e.symm rfl)]
         exact hh)
        have NEn : Hid (∀ j, vl1.ownBlock = some j → j ≠ w13.heap.size) := Lib.hid fun j hj e => by
         have h1 := H82.out.lt
         rcases g5 with q | q
         ·rw [q] at hj; exact NE.out j hj e
         ·rw [q] at hj; have : wX2.heap.size = j := Option.some.inj hj; omega
        clear NE
        have NE := NEn
        clear NEn
        clear g3 g4 g5
        refine hK.out _ _ (by exact ⟨HB3.out, cell_kept HB3.out HCX.out⟩) (fun hHeld => ?_)
        clear hK K
        try simp only [Act.put, sA, sB, sC]
        refine wpAnyH_ready (rs := [9]) (by kernel_rfl) (by simp) ?_
        refine AllReadyH.cons (o := qMvQ_3) rfl (fun K hK => ?_) AllReadyH.nil
        refine wp_append_strs2 _ (.tmp 141) (.tmp 147) 22 rfl w13.heap.size 9 i0 (.string ⟨#[]⟩) Tryz.underlying22 HI.out hz0 hz1 hz2 rfl _ _ _ rfl HO1.out (some ⟨w13.heap.size, 0, none⟩) _ [x, goal] rfl (H83.out.strs (l := [x, goal])) (by first | (simp; omega) | simp) HB3.out.size ?_
        intro vl2 wX4 g3 g4 g5
        have HB4 : Hid (Below w13.heap.size w13 wX4) := Lib.hid (HB3.out.grown g4 HB3.out.size fun j hj => (own_where HO1.out hj).1)
        have HO2 := Lib.hid g3
        have HPL : Hid (PlR wX4 vl2 (name :: (pre ++ [x, goal]))) := Lib.hid (plR_of_own (xs := (name :: (pre ++ [x, goal]))) (by
         have h := HO2.out
         simpa using h))
        clear g3 g4 g5
        refine hK.out _ _ (by exact ⟨HB4.out, cell_kept HB4.out HCX.out⟩) (fun hHeld => ?_)
        clear hK K
        try simp only [Act.put, sA, sB, sC]
        refine tk 10 qMvQ_4 ?_
        try simp only [Act.put, sA, sB, sC]
        refine wpAnyH_done (by kernel_rfl) ?_ _
        clear hHeld
        obtain ⟨pl, cl, hvl, hsl, _, _⟩ := id HPL.out
        obtain ⟨bb, oo, hpl, _⟩ := hsl 0 (by simp)
        subst hpl
        subst hvl
        go_wp2_with fail
        go_meet
        case rel => exact ⟨bb, oo, cl, rfl, HPL, HB4⟩
       ·skip
        go_simp
        go_wp2_with fail
        have HB1 : Hid (Below w13.heap.size w13 (w13.alloc (.cells #[] 9)).drew) := Lib.hid (below_alloc (Below.refl _ _)).drew
        have HO0 : Hid (World.ownsRow (w13.alloc (.cells #[] 9)).drew w13.heap.size 9 1 (.slice (some ⟨w13.heap.size, 0, none⟩) 0 0) 0 []) := Lib.hid ⟨rfl, .inr ⟨w13.heap.size, 0, #[], rfl, Nat.le_refl _, heap_alloc_new w13 _, Nat.le_refl _, Nat.zero_le _, rfl, rfl⟩⟩
        generalize (w13.alloc (.cells #[] 9)).drew = wX1 at *
        refine hK.out _ _ (by exact ⟨HB1.out, cell_kept HB1.out HCX.out⟩) (fun hHeld => ?_)
        clear hK K
        try simp only [Act.put, sA, sB, sC]
        refine wpAnyH_ready (rs := [2, 8]) (by kernel_rfl) (by simp) ?_
        refine AllReadyH.cons (o := qMvQ_2) rfl (fun K hK => ?_) ?_
        rotate_left
        refine AllReadyH.cons (o := qMvQ_1) rfl (fun K hK => ?_) AllReadyH.nil
        ·skip
         go_simp
         go_wp2_with fail
         have HB2 : Hid (Below w13.heap.size w13 (wX1.alloc (.cells #[.string x, .string goal] 9))) := Lib.hid (below_alloc HB1.out)
         have H82 : Hid (Bk (wX1.alloc (.cells #[.string x, .string goal] 9)) wX1.heap.size [.string x, .string goal] 9) := Lib.hid (Works13.Bk.new wX1 _ _)
         have NE := Lib.hid (fun j hj => Nat.ne_of_lt (own_where HO0.out (k := j) hj).2)
         have HOn := Lib.hid (HO0.out.alloc (.cells #[.string x, .string goal] 9))
         clear HO0
         have HO0 := HOn
         clear HOn
         generalize (wX1.alloc (.cells #[.string x, .string goal] 9)) = wX2 at *
         refine hK.out _ _ (by exact ⟨HB2.out, cell_kept HB2.out HCX.out⟩) (fun hHeld => ?_)
         clear hK K
         try simp only [Act.put, sA, sB, sC]
         refine wpAnyH_ready (rs := [2]) (by kernel_rfl) (by simp) ?_
         refine AllReadyH.cons (o := qMvQ_2) rfl (fun K hK => ?_) AllReadyH.nil
         refine wp_append_strs2 _ (.tmp 139) (.tmp 140) 22 rfl w13.heap.size 9 i0 (.string ⟨#[]⟩) Tryz.underlying22 HI.out hz0 hz1 hz2 rfl _ _ _ rfl HO0.out (some ⟨gh, 0, none⟩) _ (name :: pre) rfl ((HH13.out.kept HB2.out).strs (l := name :: pre)) (by first | (simp; omega) | simp) HB2.out.size ?_
         intro vl1 wX3 g3 g4 g5
         have HB3 : Hid (Below w13.heap.size w13 wX3) := Lib.hid (HB2.out.grown g4 HB2.out.size fun j hj => (own_where HO0.out hj).1)
         have HO1 := Lib.hid g3
         have H83 : Hid (Bk wX3 (wX1.heap.size) [.string x, .string goal] 9) := Lib.hid (by
          have hlt := H82.out.lt
          have hh := H82.out
          unfold Works13.Bk at *
          rw [g4.block _ hlt (fun e => NE.out _ e.symm rfl)]
          exact hh)
         have NEn : Hid (∀ j, vl1.ownBlock = some j → j ≠ wX1.heap.size) := Lib.hid fun j hj e => by
          have h1 := H82.out.lt
          rcases g5 with q | q
          ·rw [q] at hj; exact NE.out j hj e
          ·rw [q] at hj; have : wX2.heap.size = j := Option.some.inj hj; omega
         clear NE
         have NE := NEn
         clear NEn
         clear g3 g4 g5
         refine hK.out _ _ (by exact ⟨HB3.out, cell_kept HB3.out HCX.out⟩) (fun hHeld => ?_)
         clear hK K
         try simp only [Act.put, sA, sB, sC]
         refine wpAnyH_ready (rs := [9]) (by kernel_rfl) (by simp) ?_
         refine AllReadyH.cons (o := qMvQ_3) rfl (fun K hK => ?_) AllReadyH.nil
         refine wp_append_strs2 _ (.tmp 141) (.tmp 147) 22 rfl w13.heap.size 9 i0 (.string ⟨#[]⟩) Tryz.underlying22 HI.out hz0 hz1 hz2 rfl _ _ _ rfl HO1.out (some ⟨wX1.heap.size, 0, none⟩) _ [x, goal] rfl (H83.out.strs (l := [x, goal])) (by first | (simp; omega) | simp) HB3.out.size ?_
         intro vl2 wX4 g3 g4 g5
         have HB4 : Hid (Below w13.heap.size w13 wX4) := Lib.hid (HB3.out.grown g4 HB3.out.size fun j hj => (own_where HO1.out hj).1)
         have HO2 := Lib.hid g3
         have HPL : Hid (PlR wX4 vl2 (name :: (pre ++ [x, goal]))) := Lib.hid (plR_of_own (xs := (name :: (pre ++ [x, goal]))) (by
          have h := HO2.out
          simpa using h))
         clear g3 g4 g5
         refine hK.out _ _ (by exact ⟨HB4.out, cell_kept HB4.out HCX.out⟩) (fun hHeld => ?_)
         clear hK K
         try simp only [Act.put, sA, sB, sC]
         refine tk 10 qMvQ_4 ?_
         try simp only [Act.put, sA, sB, sC]
         refine wpAnyH_done (by kernel_rfl) ?_ _
         clear hHeld
         obtain ⟨pl, cl, hvl, hsl, _, _⟩ := id HPL.out
         obtain ⟨bb, oo, hpl, _⟩ := hsl 0 (by simp)
         subst hpl
         subst hvl
         go_wp2_with fail
         go_meet
         case rel => exact ⟨bb, oo, cl, rfl, HPL, HB4⟩
        ·skip
         refine wp_append_strs2 _ (.tmp 139) (.tmp 140) 22 rfl w13.heap.size 9 i0 (.string ⟨#[]⟩) Tryz.underlying22 HI.out hz0 hz1 hz2 rfl _ _ _ rfl HO0.out (some ⟨gh, 0, none⟩) _ (name :: pre) rfl ((HH13.out.kept HB1.out).strs (l := name :: pre)) (by first | (simp; omega) | simp) HB1.out.size ?_
         intro vl1 wX2 g3 g4 g5
         have HB2 : Hid (Below w13.heap.size w13 wX2) := Lib.hid (HB1.out.grown g4 HB1.out.size fun j hj => (own_where HO0.out hj).1)
         have HO1 := Lib.hid g3
         clear g3 g4 g5
         refine hK.out _ _ (by exact ⟨HB2.out, cell_kept HB2.out HCX.out⟩) (fun hHeld => ?_)
         clear hK K
         try simp only [Act.put, sA, sB, sC]
         refine wpAnyH_ready (rs := [8]) (by kernel_rfl) (by simp) ?_
         refine AllReadyH.cons (o := qMvQ_1) rfl (fun K hK => ?_) AllReadyH.nil
         go_simp
         go_wp2_with fail
         have HB3 : Hid (Below w13.heap.size w13 (wX2.alloc (.cells #[.string x, .string goal] 9))) := Lib.hid (below_alloc HB2.out)
         have H83 : Hid (Bk (wX2.alloc (.cells #[.string x, .string goal] 9)) wX2.heap.size [.string x, .string goal] 9) := Lib.hid (Works13.Bk.new wX2 _ _)
         have NE := Lib.hid (fun j hj => Nat.ne_of_lt (own_where HO1.out (k := j) hj).2)
         have HOn := Lib.hid (HO1.out.alloc (.cells #[.string x, .string goal] 9))
         clear HO1
         have HO1 := HOn
         clear HOn
         generalize (wX2.alloc (.cells #[.string x, .string goal] 9)) = wX3 at *
         refine hK.out _ _ (by exact ⟨HB3.out, cell_kept HB3.out HCX.out⟩) (fun hHeld => ?_)
         clear hK K
         try simp only [Act.put, sA, sB, sC]
         refine wpAnyH_ready (rs := [9]) (by kernel_rfl) (by simp) ?_
         refine AllReadyH.cons (o := qMvQ_3) rfl (fun K hK => ?_) AllReadyH.nil
         refine wp_append_strs2 _ (.tmp 141) (.tmp 147) 22 rfl w13.heap.size 9 i0 (.string ⟨#[]⟩) Tryz.underlying22 HI.out hz0 hz1 hz2 rfl _ _ _ rfl HO1.out (some ⟨wX2.heap.size, 0, none⟩) _ [x, goal] rfl (H83.out.strs (l := [x, goal])) (by first | (simp; omega) | simp) HB3.out.size ?_
         intro vl2 wX4 g3 g4 g5
         have HB4 : Hid (Below w13.heap.size w13 wX4) := Lib.hid (HB3.out.grown g4 HB3.out.size fun j hj => (own_where HO1.out hj).1)
         have HO2 := Lib.hid g3
         have HPL : Hid (PlR wX4 vl2 (name :: (pre ++ [x, goal]))) := Lib.hid (plR_of_own (xs := (name :: (pre ++ [x, goal]))) (by
          have h := HO2.out
          simpa using h))
         clear g3 g4 g5
         refine hK.out _ _ (by exact ⟨HB4.out, cell_kept HB4.out HCX.out⟩) (fun hHeld => ?_)
         clear hK K
         try simp only [Act.put, sA, sB, sC]
         refine tk 10 qMvQ_4 ?_
         try simp only [Act.put, sA, sB, sC]
         refine wpAnyH_done (by kernel_rfl) ?_ _
         clear hHeld
         obtain ⟨pl, cl, hvl, hsl, _, _⟩ := id HPL.out
         obtain ⟨bb, oo, hpl, _⟩ := hsl 0 (by simp)
         subst hpl
         subst hvl
         go_wp2_with fail
         go_meet
         case rel => exact ⟨bb, oo, cl, rfl, HPL, HB4⟩
      case rest =>
       obtain ⟨bb, oo, cc2, rfl, HPW, HBW⟩ := hcut
       clear HCX
       have HB14 : Hid (Below W.heap.size W wc) := Lib.hid (HB13.out.trans (HBW.out.mono HB13.out.size))
       have HTM14 := Lib.hid (HTM13.out.kept HBW.out)
       have HTO14 := Lib.hid (HTO13.out.kept HBW.out)
       have HH14 := Lib.hid (HH13.out.kept HBW.out)
       have HP14 := Lib.hid (HP13.out.kept HBW.out)
       have HRN := Lib.hid (HHK.out.run HTM14.out HTO14.out.lt HGM.out (l := [x, goal]) HPW.out (by simp) (by simp) (by
        intro y hy
        simp only [List.mem_cons, List.not_mem_nil, or_false] at hy
        rcases hy with rfl | rfl <;> omega) (by simp only [List.length_cons, List.length_nil]; omega))
       clear HBW HB13 HTM13 HTO13 HH13 HP13 HPW
       generalize hln : (pre ++ [x, goal]).length + 1 = ln at *
       clear hln
       go_wp2_with fail
       refine HRN.out.mono ?_
       rintro e w15 ⟨c2, s2, m2, rfl, hgo, ⟨t0, t1, t2, t3, hty⟩, hg⟩
       have HDM : Hid (DirAt m goal q) := Lib.hid ⟨HDA.out.check, HL2.out⟩
       have HTK : Hid (xs.take (k + 1) = xs.take k ++ [x]) := Lib.hid (by rw [← hxk]; exact take_snoc_d hlt)
       have HM2 : Hid (Many (R (.into q)) n name (xs.take (k + 1)) (max code c2) (err ++ s2) m2) := Lib.hid (by rw [HTK.out]; exact many_snoc HM.out HDM.out hgo)
       have HG2 : Hid (TreeG (2000000 + 5710000 * (k + 1)) m2) := Lib.hid ((HHK.out.one HGM.out HDM.out hg256 hgo).more (by omega))
       have HTM15 := Lib.hid hty
       have hxa : ∀ y ∈ xs.take (k + 1), y.size ≤ 6000 := fun y hy => by have := HX6.out y (List.mem_of_mem_take hy); omega
       have hme := many_err HM2.out HHK.out.nm hxa
       have hm1 := many_err HM.out HHK.out.nm (fun y hy => by have := HX6.out y (List.mem_of_mem_take hy); omega)
       have hesz : err.size + s2.size ≤ 60000 := by
        have h1 := hme.1
        rw [ByteArray.size_append, List.length_take] at h1
        omega
       have hc01 : c2 = 0 ∨ c2 = 1 := by
        obtain ⟨bad, _, h2, _⟩ := gom_into (l := [x]) HDM.out hgo
        rw [h2]
        by_cases hb0 : bad = []
        ·rw [if_pos hb0]; exact .inl rfl
        ·rw [if_neg hb0]; exact .inr rfl
       have HC1 := Lib.hid hm1.2
       have HC2 := Lib.hid hc01
       have HB15 := Lib.hid (Works13.below_turn HB14.out hg (Nat.le_of_lt hWb))
       have HTO15 : Hid (TreeY b w15 b' n z0' z1' z2' z3') := Lib.hid ⟨TreeS.by HTO14.out.s hg (by omega) (fun q => q.2 rfl)⟩
       have HH15 := Lib.hid (HH14.out.by hg (by have := HGB.out; omega))
       have HP15 := Lib.hid (HP14.out.by hg)
       clear hgo hty hg hxa hme hm1 hc01 HB14 HTM14 HTO14 HH14 HP14 HRN HM HGM HDM
       have HLN : Hid (LoopMM R n name xs q W w15 b b' (k + 1) (max code c2) (err ++ s2)) := Lib.hid ⟨⟨m2, _, _, _, _, HM2.out, HG2.out, HTM15.out⟩, HB15.out, ⟨_, _, _, _, HTO15.out⟩⟩
       clear HM2 HG2 HTM15 HTO15
       rcases HC1.out with rfl | rfl <;> rcases HC2.out with rfl | rfl
       ·go_wp2_with fail
        go_roundw
        case rel => exact ⟨k + 1, 0, err ++ s2, by omega, rfl, rfl, by go_num, HLN, HH15, HP15⟩
        case measure => simp [intOf]; omega
       ·go_wp2_with fail
        go_roundw
        case rel => exact ⟨k + 1, 1, err ++ s2, by omega, rfl, rfl, by go_num, HLN, HH15, HP15⟩
        case measure => simp [intOf]; omega
       ·go_wp2_with fail
        go_roundw
        case rel => exact ⟨k + 1, 1, err ++ s2, by omega, rfl, rfl, by go_num, HLN, HH15, HP15⟩
        case measure => simp [intOf]; omega
       ·go_wp2_with fail
        go_roundw
        case rel => exact ⟨k + 1, 1, err ++ s2, by omega, rfl, rfl, by go_num, HLN, HH15, HP15⟩
        case measure => simp [intOf]; omega
    ·obtain rfl : k = xs.length := by omega
     have HMA : Hid (Many (R (.into P)) n name xs code err m) := Lib.hid (by have := HM.out; rwa [List.take_length] at this)
     have hpl2 : pre.length = 1 ∨ pre.length = 2 := HHK.out.plen
     clear HM
     go_upto_region 21 with fail
     go_cut [28, 29, 30, 31] (fun cv _ sv _ wx => ∃ (c2 : Int) (s2 : ByteArray) (m2 : Nd), cv = .int .i64 c2 ∧ sv = .string s2 ∧ Hid (GoM cp R n name (xs ++ [goal]) c2 s2 m2) ∧ Hid (∃ t0 t1 t2 t3, TreeY b wx b' m2 t0 t1 t2 t3) ∧ Hid (∃ t0 t1 t2 t3, TreeY b' wx b m t0 t1 t2 t3) ∧ Hid (Below W.heap.size W wx))
     case first =>
      apply wp_region_lit
      refine wpList_plain rfl fun _ hK => ?_
      go_simp
      refine hK _ _ ?_
      clear hK
      refine wpList_plain rfl fun _ hK => ?_
      go_simp
      refine hK _ _ ?_
      clear hK
      refine wpList_plain rfl fun _ hK => ?_
      go_simp
      refine hK _ _ ?_
      clear hK
      refine wpList_plain rfl fun _ hK => ?_
      go_simp
      refine hK _ _ ?_
      clear hK
      have HB1 : Hid (Below wr.heap.size wr (wr.alloc (.cells #[] 9))) := Lib.hid (below_alloc (Below.refl _ _))
      have HO0 : Hid (World.ownsRow (wr.alloc (.cells #[] 9)) wr.heap.size 9 1 (.slice (some ⟨wr.heap.size, 0, none⟩) 0 0) 0 []) := Lib.hid ⟨rfl, .inr ⟨wr.heap.size, 0, #[], rfl, Nat.le_refl _, heap_alloc_new wr _, Nat.le_refl _, Nat.zero_le _, rfl, rfl⟩⟩
      generalize (wr.alloc (.cells #[] 9)) = wX1 at *
      refine wpList_append_strs _ rfl (.tmp 167) (.tmp 168) 22 rfl wr.heap.size 9 i0 (.string ⟨#[]⟩) Tryz.underlying22 HI.out hz0 hz1 hz2 rfl _ _ _ rfl HO0.out (some ⟨gh, 0, none⟩) _ (name :: pre) rfl ((HH.out.kept HB1.out).strs (l := name :: pre)) (by first | (simp; omega) | simp) HB1.out.size ?_
      intro vl1 wX2 g3 g4 _
      have HO1 := Lib.hid g3
      have HB2 : Hid (Below wr.heap.size wr wX2) := Lib.hid (HB1.out.grown g4 HB1.out.size fun j hj => (own_where HO0.out hj).1)
      clear g3 g4
      refine wpList_plain rfl fun _ hK => ?_
      go_simp
      refine hK _ _ ?_
      clear hK
      refine wpList_append_strs _ rfl (.tmp 169) (.tmp 170) 22 rfl wr.heap.size 9 i0 (.string ⟨#[]⟩) Tryz.underlying22 HI.out hz0 hz1 hz2 rfl _ _ _ rfl HO1.out (some ⟨bx, ox, none⟩) _ xs rfl (pl_strs (HXG.out _ (HBR.out.trans (HB2.out.mono HBR.out.size)))) (by first | (simp; omega) | simp) HB2.out.size ?_
      intro vl2 wX3 g3 g4 _
      have HO2 := Lib.hid g3
      have HB3 : Hid (Below wr.heap.size wr wX3) := Lib.hid (HB2.out.grown g4 HB2.out.size fun j hj => (own_where HO1.out hj).1)
      clear g3 g4
      refine wpList_plain rfl fun _ hK => ?_
      go_simp
      refine hK _ _ ?_
      clear hK
      refine wpList_plain rfl fun _ hK => ?_
      go_simp
      refine hK _ _ ?_
      clear hK
      have HB4 : Hid (Below wr.heap.size wr (wX3.alloc (.cells #[.string goal] 9))) := Lib.hid (below_alloc HB3.out)
      have H8 : Hid (Bk (wX3.alloc (.cells #[.string goal] 9)) wX3.heap.size [.string goal] 9) := Lib.hid (Works13.Bk.new wX3 _ _)
      have HO2a := Lib.hid (HO2.out.alloc (.cells #[.string goal] 9))
      generalize (wX3.alloc (.cells #[.string goal] 9)) = wX4 at *
      refine wpList_append_strs _ rfl (.tmp 171) (.tmp 173) 22 rfl wr.heap.size 9 i0 (.string ⟨#[]⟩) Tryz.underlying22 HI.out hz0 hz1 hz2 rfl _ _ _ rfl HO2a.out (some ⟨wX3.heap.size, 0, none⟩) _ [goal] rfl (H8.out.strs (l := [goal])) (by first | (simp; omega) | simp) HB4.out.size ?_
      intro vl3 wX5 g3 g4 _
      have HO3 := Lib.hid g3
      have HB5 : Hid (Below wr.heap.size wr wX5) := Lib.hid (HB4.out.grown g4 HB4.out.size fun j hj => (own_where HO2a.out hj).1)
      clear g3 g4
      have HPL : Hid (PlR wX5 vl3 (name :: (pre ++ (xs ++ [goal])))) := Lib.hid (plR_of_own (xs := (name :: (pre ++ (xs ++ [goal])))) (by
       have h := HO3.out
       simpa [Nat.add_assoc, Nat.add_comm, Nat.add_left_comm] using h))
      obtain ⟨pl, cl, hvl, hsl, _, _⟩ := id HPL.out
      obtain ⟨bb, oo, hpl, _⟩ := hsl 0 (by simp)
      clear hsl
      subst hpl
      subst hvl
      have HRN : Hid (Calls Tryz.prog 10 #[.iface 28 (.pointer (some ⟨b', 0, none⟩)), .slice (some ⟨bb, oo, none⟩) (name :: (pre ++ (xs ++ [goal]))).length cl] wX5 fun e w' => ∃ code err n', e = .returned (.tuple #[.int .i64 code, .string ⟨#[]⟩, .string err, .bool true]) ∧ GoM cp R n name (xs ++ [goal]) code err n' ∧ (∃ x0 x1 x2 x3, TreeY b w' b' n' x0 x1 x2 x3) ∧ wX5.grownBy w' (some b')) := Lib.hid (HHK.out.run (HTO.out.kept HB5.out) (HTM.out.kept HB5.out).lt HG.out (l := xs ++ [goal]) HPL.out (by simp; omega) (by simp; omega) (by
       intro y hy
       rcases List.mem_append.1 hy with hy | hy
       ·have := HX6.out y hy; omega
       ·rw [List.mem_singleton.1 hy]; omega) (by simp only [List.length_append, List.length_cons, List.length_nil]; omega))
      clear HPL HO0 HO1 HO2 HO2a HO3 H8
      generalize (name :: (pre ++ (xs ++ [goal]))).length = ln at *
      go_wp2_with fail
      refine HRN.out.mono ?_
      rintro e wz ⟨c2, s2, m2, rfl, hgo, hty, hg⟩
      have HGO := Lib.hid hgo
      have HTY := Lib.hid hty
      have HTZ : Hid (∃ t0 t1 t2 t3, TreeY b' wz b m t0 t1 t2 t3) := Lib.hid ⟨_, _, _, _, ⟨TreeS.by (HTM.out.kept HB5.out).s hg (by omega) (fun q => q.2 rfl)⟩⟩
      have HBZ : Hid (Below W.heap.size W wz) := Lib.hid (Works13.below_turn (HBR.out.trans (HB5.out.mono HBR.out.size)) hg (by omega))
      clear hgo hty hg HRN
      go_wp2_with fail
      go_meet
      case rel => exact ⟨c2, s2, m2, rfl, rfl, HGO, HTY, HTZ, HBZ⟩
     case rest =>
      obtain ⟨c2, s2, m2, rfl, rfl, HGO, HT1, HT2, HBC⟩ := hcut
      obtain ⟨h1, h2, h3⟩ := many_one HHK.out.det HDA.out HMA.out HGO.out
      have HG9 := Lib.hid (HHK.out.all HG.out HDA.out hg256 HGO.out)
      subst h1 h2 h3
      obtain ⟨t0, t1, t2, t3, htm⟩ := HT2.out
      obtain ⟨s0, s1, s2', s3, htu⟩ := HT1.out
      have HTA := Lib.hid htm
      have HTB := Lib.hid htu
      clear htm htu HT1 HT2
      go_wp2_with fail
      refine (froot_any HTA.out.x HG9.out.well (by have := HG9.out.girth; omega)).mono ?_
      rintro e wA ⟨⟨us, rfl, hus⟩, hb⟩
      obtain ⟨p3, q3, c3, d3, rfl⟩ := nodeX_cells hus
      have HVA := Lib.hid hus.to
      have HBA : Hid (Below W.heap.size W wA) := Lib.hid (HBC.out.trans (hb.mono HBC.out.size))
      have HTBA := Lib.hid (HTB.out.kept hb)
      clear hb hus HTA HTB HBC
      go_wp2_with fail
      refine (froot_any HTBA.out.x HG9.out.well (by have := HG9.out.girth; omega)).mono ?_
      rintro e wB ⟨⟨us, rfl, hus⟩, hb⟩
      obtain ⟨p4, q4, c4, d4, rfl⟩ := nodeX_cells hus
      have HVB := Lib.hid hus.to
      have HVA2 := Lib.hid (NodeR.grown hb HVA.out)
      have HBB : Hid (Below W.heap.size W wB) := Lib.hid (HBA.out.trans (hb.mono HBA.out.size))
      clear hb hus HTBA HBA HVA
      go_wp2_with fail
      refine (sameNd_any HVA2.out HVB.out (by have := HG9.out.girth; omega) wB (Below.refl _ _)).mono ?_
      rintro e wC ⟨he, hb⟩
      rw [Nd.same_self] at he
      subst he
      have HBD : Hid (Below W.heap.size W wC) := Lib.hid (HBB.out.trans (hb.mono HBB.out.size))
      clear hb
      go_wp2_with fail
      go_ret
      exact ⟨rfl, HBD.out⟩
end Go.Proofs.YtfilbknnpjbmcaaGreatDoor
