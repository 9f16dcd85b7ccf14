/- The statement on what is undone: it holds for any node and places. -/
import Derived.Test.YtonpeoaahjoboaaPmG
import Derived.Test.YtonpeoaahjoboaaPmK
namespace Go.Proofs.Ytonpeoaahjoboaa
open Go.RowKit Px Nx
open Works10 (Bk)
theorem plT_of {W w : World} {b : Nat} {v : Value} {l : List ByteArray} (h : PlR W v l) (hb : Below W.heap.size W w) (hbW : W.heap.size ≤ b) : PlT w b v l := fun _w' hg => h.grown (Works10.below_turn hb hg hbW)
theorem small_100 {l : List ByteArray} (h : SmallP l) : namesBulk l ≤ 100000 := Nat.le_trans (small_bulk h) (by decide)
theorem kat_two {n : Nd} {p : List ByteArray} (h : kat n p = 2) : (((n.at_ p).getD absent).kind.toNat : Int) = 2 := by
  have h2 : ((n.at_ p).getD absent).kind = 2 := h
  rw [h2]; rfl
theorem kat_zero {n : Nd} {p : List ByteArray} (h : kat n p = 0) : (((n.at_ p).getD absent).kind.toNat : Int) = 0 := by
  have h2 : ((n.at_ p).getD absent).kind = 0 := h
  rw [h2]; rfl
theorem kept_less {n : Nd} {r : Int × Nd} (h : Kept n r) (hg : n.girth ≤ 400000) : r.2.girth ≤ 1000000 := by
  have := h.girth
  omega

set_option maxRecDepth 100000 in
set_option maxHeartbeats 8000000 in
theorem law_back {W : World} {cs : List Value} {n : Nd} (hn : NodeR W cs n) (hB : n.bulk ≤ 2000000) {pa pb : Option Addr} {ca cb : Nat} {A B : List ByteArray} (ha : PlR W (.slice pa A.length ca) A) (hb : PlR W (.slice pb B.length cb) B) :
    Calls Try.prog 5 #[.agg cs.toArray, .slice pa A.length ca, .slice pb B.length cb] W fun e w' => e = .returned (.bool true) ∧ Below W.heap.size W w' := by
  obtain ⟨p1, q1, c1, d1, rfl⟩ := hn.cells
  have HN := Lib.hid hn
  have HPA := Lib.hid ha
  have HPB := Lib.hid hb
  have HL : Hid (∀ (wx : World) (g : Nat), Below W.heap.size W wx → Bk wx g [.int .u8 0, .slice pa A.length ca, .slice pb B.length cb, .string ⟨#[]⟩, .bool false] 26 → Calls Try.prog 25 #[.agg #[.int .u8 n.kind.toNat, .string n.text, .slice p1 n.names.length c1, .slice q1 n.kids.length d1], .slice (some ⟨g, 0, none⟩) 1 1] wx fun e w' => Tells (n.may = true ∧ SmallP A ∧ SmallP B) e ∧ Below wx.heap.size wx w') := Lib.hid (by
    intro wx g hx hk
    refine (long_any (l := [⟨0, A, B, ByteArray.empty, false⟩]) (C := fun _ => [.int .u8 0, .slice pa A.length ca, .slice pb B.length cb, .string ⟨#[]⟩, .bool false]) (HN.out.grown hx) hB ?_ ?_ (by simp) wx (Below.refl _ _)).mono ?_
    · intro i hi
      obtain rfl : i = 0 := by simpa using hi
      exact ⟨g, 0, rfl, rfl, fun j v hj => by rw [Nat.zero_mul, Nat.zero_add]; exact hk.at hj⟩
    · intro i s hs
      obtain ⟨hi, rfl⟩ := List.getElem?_eq_some_iff.1 hs
      obtain rfl : i = 0 := by simpa using hi
      exact ⟨pa, ca, pb, cb, rfl, HPA.out.grown hx, HPB.out.grown hx⟩
    · rintro e w' ⟨⟨lb, he, hl⟩, hb'⟩
      exact ⟨⟨lb, he, fun h => ⟨(hl h).1, ((hl h).2.2.2 0 _ rfl).1, ((hl h).2.2.2 0 _ rfl).2.1⟩⟩, hb'⟩)
  clear hn ha hb
  go_enter Try.func5, Try.ntmps5
  go_wp2_with fail
  have HBW : Hid (Below W.heap.size W ((W.alloc (.cells #[.int .u8 n.kind.toNat, .string n.text, .slice p1 n.names.length c1, .slice q1 n.kids.length d1] 40)).alloc (.cells #[.int .u8 0, .slice pa A.length ca, .slice pb B.length cb, .string ⟨#[]⟩, .bool false] 26))) := Lib.hid (below_alloc (below_alloc (Below.refl _ _)))
  have HBX : Hid (Bk ((W.alloc (.cells #[.int .u8 n.kind.toNat, .string n.text, .slice p1 n.names.length c1, .slice q1 n.kids.length d1] 40)).alloc (.cells #[.int .u8 0, .slice pa A.length ca, .slice pb B.length cb, .string ⟨#[]⟩, .bool false] 26)) W.heap.size [.int .u8 n.kind.toNat, .string n.text, .slice p1 n.names.length c1, .slice q1 n.kids.length d1] 40) := Lib.hid ((Bk.new W [.int .u8 n.kind.toNat, .string n.text, .slice p1 n.names.length c1, .slice q1 n.kids.length d1] 40).kept (below_alloc (Below.refl _ _)))
  have HOX : Hid (Bk ((W.alloc (.cells #[.int .u8 n.kind.toNat, .string n.text, .slice p1 n.names.length c1, .slice q1 n.kids.length d1] 40)).alloc (.cells #[.int .u8 0, .slice pa A.length ca, .slice pb B.length cb, .string ⟨#[]⟩, .bool false] 26)) (W.heap.size + 1) [.int .u8 0, .slice pa A.length ca, .slice pb B.length cb, .string ⟨#[]⟩, .bool false] 26) := Lib.hid (by have := Bk.new (W.alloc (.cells #[.int .u8 n.kind.toNat, .string n.text, .slice p1 n.names.length c1, .slice q1 n.kids.length d1] 40)) [.int .u8 0, .slice pa A.length ca, .slice pb B.length cb, .string ⟨#[]⟩, .bool false] 26; simpa using this)
  generalize (W.alloc (.cells #[.int .u8 n.kind.toNat, .string n.text, .slice p1 n.names.length c1, .slice q1 n.kids.length d1] 40)).alloc (.cells #[.int .u8 0, .slice pa A.length ca, .slice pb B.length cb, .string ⟨#[]⟩, .bool false] 26) = w1 at *
  refine (HL.out _ _ HBW.out HOX.out).mono ?_
  rintro e w2 ⟨⟨lb, rfl, hlb⟩, hb2⟩
  have HB2 := Lib.hid (HBW.out.trans (hb2.mono HBW.out.size))
  have HX2 := Lib.hid (HBX.out.kept hb2)
  clear hb2 HOX HBX HBW HL
  cases lb with
  | true =>
    go_wp2_with fail
    refine (Works10.awake_any w2).mono ?_
    rintro e w3 ⟨rfl, hb3⟩
    have HB3 := Lib.hid (HB2.out.trans (hb3.mono HB2.out.size))
    clear hb3
    go_wp2_with fail
    go_ret
    exact ⟨rfl, HB3.out⟩
  | false =>
    obtain ⟨hmay, hsa, hsb⟩ := hlb rfl
    clear hlb
    go_wp2_with fail
    refine (Works10.awake_any w2).mono ?_
    rintro e w3 ⟨rfl, hb3⟩
    have HB3 := Lib.hid (HB2.out.trans (hb3.mono HB2.out.size))
    have HX3 := Lib.hid (HX2.out.kept hb3)
    clear hb3 HB2 HX2
    obtain ⟨c0, c1', c2, c3⟩ : w3.cell? ⟨W.heap.size, 0, none⟩ = some (.int .u8 n.kind.toNat) ∧ w3.cell? ⟨W.heap.size, 1, none⟩ = some (.string n.text) ∧ w3.cell? ⟨W.heap.size, 2, none⟩ = some (.slice p1 n.names.length c1) ∧ w3.cell? ⟨W.heap.size, 3, none⟩ = some (.slice q1 n.kids.length d1) := ⟨HX3.out.at rfl, HX3.out.at rfl, HX3.out.at rfl, HX3.out.at rfl⟩
    go_wp2_with fail
    have hgb : n.girth ≤ 400000 := by have := may_bulk hmay; have := n.girth_bulk; omega
    refine (fnew_any HN.out (by omega) w3 HB3.out).mono ?_
    rintro e w4 ⟨hnw, hb4⟩
    rw [if_pos hmay] at hnw
    obtain ⟨b, y0, y1, y2, y3, rfl, hbb, ht, _⟩ := hnw
    have hbW : W.heap.size < b := Nat.lt_of_lt_of_le HX3.out.lt hbb
    have HT4 := Lib.hid ht
    have HB4 := Lib.hid (HB3.out.trans (hb4.mono HB3.out.size))
    have HX4 := Lib.hid (HX3.out.kept hb4)
    clear hb4 ht hbb c0 c1' c2 c3 HB3 HX3
    obtain ⟨hw, hk⟩ := may_well hmay
    have HW := Lib.hid hw
    have HK := Lib.hid hk
    have HGB := Lib.hid hgb
    have HNA := Lib.hid (small_100 hsa)
    have HNB := Lib.hid (small_100 hsb)
    have HSA := Lib.hid (small_bulk hsa)
    have HSB := Lib.hid (small_bulk hsb)
    have HBWL := Lib.hid hbW
    clear hw hk hgb hmay hsa hsb hbW
    go_upto_region 6 with fail
    go_cut [50] (fun v wx => v = .bool false ∧ ∃ x0 x1 x2 x3, Hid (TreeX wx b n x0 x1 x2 x3) ∧ Hid (Bk wx W.heap.size [.int .u8 n.kind.toNat, .string n.text, .slice p1 n.names.length c1, .slice q1 n.kids.length d1] 40) ∧ Hid (Below W.heap.size W wx))
    case first =>
      go_wp2_with fail
      have HKP := Lib.hid (kept_make (y := dirN) HW.out HSA.out (fun _ => by first | (unfold dirN; rw [leaf_girth]; decide) | (unfold fileN; rw [leaf_girth]; decide)))
      by_cases hz : (makeD n A (dirN)).1 = 0
      · obtain ⟨h1, h2, h3, h4⟩ := back_dir HW.out HK.out hz
        refine (MakeDir_any HT4.out HW.out (Nat.le_trans HGB.out (by decide)) (HPA.out.grown HB4.out) HNA.out).mono ?_
        rintro e w5 ⟨he, ⟨z0, z1, z2, z3, ht⟩, hg⟩
        rw [hz] at he
        subst he
        have HT5 : Hid (TreeX w5 b (makeD n A (dirN)).2 z0 z1 z2 z3) := Lib.hid ht
        have HX5 := Lib.hid (HX4.out.by hg (Nat.ne_of_lt HBWL.out))
        have HB5 := Lib.hid (Works10.below_turn HB4.out hg (Nat.le_of_lt HBWL.out))
        clear ht hg
        go_wp2_with fail
        have HRG := Lib.hid (kept_less HKP.out HGB.out)
        generalize (makeD n A (dirN)).2 = R at *
        clear hz HKP
        refine (fkind_any HT5.out h1 (girth_less HRG.out) (HPA.out.grown HB5.out)).mono ?_
        rintro e w6 ⟨he, hb⟩
        rw [kat_two h2] at he
        subst he
        have HT6 := Lib.hid (HT5.out.kept hb)
        have HX6 := Lib.hid (HX5.out.kept hb)
        have HB6 := Lib.hid (HB5.out.trans (hb.mono HB5.out.size))
        clear hb
        go_wp2_with fail
        refine (fempty_any HT6.out h1 (girth_less HRG.out) (HPA.out.grown HB6.out)).mono ?_
        rintro e w7 ⟨he, hb⟩
        rw [show (decide (((R.at_ A).getD absent).kind = 2) && decide (((R.at_ A).getD absent).names.length = 0)) = true from h3] at he
        subst he
        have HT7 := Lib.hid (HT6.out.kept hb)
        have HX7 := Lib.hid (HX6.out.kept hb)
        have HB7 := Lib.hid (HB6.out.trans (hb.mono HB6.out.size))
        clear hb
        go_wp2_with fail
        refine (RemoveDir_any HT7.out h1 HRG.out (HPA.out.grown HB7.out) HNA.out).mono ?_
        rintro e w8 ⟨he, ⟨z0, z1, z2, z3, ht⟩, hg⟩
        rw [h4] at he ht
        subst he
        have HT8 : Hid (TreeX w8 b n z0 z1 z2 z3) := Lib.hid ht
        have HX8 := Lib.hid (HX7.out.by hg (Nat.ne_of_lt HBWL.out))
        have HB8 := Lib.hid (Works10.below_turn HB7.out hg (Nat.le_of_lt HBWL.out))
        clear ht hg
        go_wp2_with fail
        go_meet
        exact ⟨rfl, _, _, _, _, HT8, HX8, HB8⟩
      · have hz2 : ((makeD n A (dirN)).1 == 0) = false := beq_eq_false_iff_ne.2 hz
        have HSAME := Lib.hid (HKP.out.same hz)
        refine (MakeDir_any HT4.out HW.out (Nat.le_trans HGB.out (by decide)) (HPA.out.grown HB4.out) HNA.out).mono ?_
        rintro e w5 ⟨he, ⟨z0, z1, z2, z3, ht⟩, hg⟩
        skip
        subst he
        have HT5 : Hid (TreeX w5 b (makeD n A (dirN)).2 z0 z1 z2 z3) := Lib.hid ht
        have HX5 := Lib.hid (HX4.out.by hg (Nat.ne_of_lt HBWL.out))
        have HB5 := Lib.hid (Works10.below_turn HB4.out hg (Nat.le_of_lt HBWL.out))
        clear ht hg
        go_wp2_with fail
        rw [HSAME.out] at HT5
        go_meet
        exact ⟨rfl, _, _, _, _, HT5, HX5, HB5⟩
    case rest =>
      clear HT4 HX4 HB4
      obtain ⟨rfl, x0, x1, x2, x3, HT, HX, HB⟩ := hcut
      go_upto_region 8 with fail
      go_cut [68] (fun v wx => v = .bool false ∧ ∃ x0 x1 x2 x3, Hid (TreeX wx b n x0 x1 x2 x3) ∧ Hid (Bk wx W.heap.size [.int .u8 n.kind.toNat, .string n.text, .slice p1 n.names.length c1, .slice q1 n.kids.length d1] 40) ∧ Hid (Below W.heap.size W wx))
      case first =>
        go_wp2_with fail
        have HKP := Lib.hid (kept_make (y := fileN ⟨#[102]⟩) HW.out HSA.out (fun _ => by first | (unfold dirN; rw [leaf_girth]; decide) | (unfold fileN; rw [leaf_girth]; decide)))
        by_cases hz : (makeD n A (fileN ⟨#[102]⟩)).1 = 0
        · obtain ⟨h1, h3, h4⟩ := back_file (s := ⟨#[102]⟩) (by kernel_rfl) HW.out HK.out hz
          refine (MakeFile_any (s := ⟨#[102]⟩) HT.out HW.out (Nat.le_trans HGB.out (by decide)) (HPA.out.grown HB.out) HNA.out (by decide)).mono ?_
          rintro e w5 ⟨he, ⟨z0, z1, z2, z3, ht⟩, hg⟩
          rw [hz] at he
          subst he
          have HT5 : Hid (TreeX w5 b (makeD n A (fileN ⟨#[102]⟩)).2 z0 z1 z2 z3) := Lib.hid ht
          have HX5 := Lib.hid (HX.out.by hg (Nat.ne_of_lt HBWL.out))
          have HB5 := Lib.hid (Works10.below_turn HB.out hg (Nat.le_of_lt HBWL.out))
          clear ht hg
          go_wp2_with fail
          have HRG := Lib.hid (kept_less HKP.out HGB.out)
          generalize (makeD n A (fileN ⟨#[102]⟩)).2 = R at *
          clear hz HKP
          refine (ftext_any HT5.out h1 (girth_less HRG.out) (HPA.out.grown HB5.out)).mono ?_
          rintro e w6 ⟨he, hb⟩
          rw [h3] at he
          subst he
          have HT6 := Lib.hid (HT5.out.kept hb)
          have HX6 := Lib.hid (HX5.out.kept hb)
          have HB6 := Lib.hid (HB5.out.trans (hb.mono HB5.out.size))
          clear hb
          go_wp2_with fail
          refine (Unlink_any HT6.out h1 HRG.out (HPA.out.grown HB6.out) HNA.out).mono ?_
          rintro e w8 ⟨he, ⟨z0, z1, z2, z3, ht⟩, hg⟩
          rw [h4] at he ht
          subst he
          have HT8 : Hid (TreeX w8 b n z0 z1 z2 z3) := Lib.hid ht
          have HX8 := Lib.hid (HX6.out.by hg (Nat.ne_of_lt HBWL.out))
          have HB8 := Lib.hid (Works10.below_turn HB6.out hg (Nat.le_of_lt HBWL.out))
          clear ht hg
          go_wp2_with fail
          go_meet
          exact ⟨rfl, _, _, _, _, HT8, HX8, HB8⟩
        · have hz2 : ((makeD n A (fileN ⟨#[102]⟩)).1 == 0) = false := beq_eq_false_iff_ne.2 hz
          have HSAME := Lib.hid (HKP.out.same hz)
          refine (MakeFile_any (s := ⟨#[102]⟩) HT.out HW.out (Nat.le_trans HGB.out (by decide)) (HPA.out.grown HB.out) HNA.out (by decide)).mono ?_
          rintro e w5 ⟨he, ⟨z0, z1, z2, z3, ht⟩, hg⟩
          skip
          subst he
          have HT5 : Hid (TreeX w5 b (makeD n A (fileN ⟨#[102]⟩)).2 z0 z1 z2 z3) := Lib.hid ht
          have HX5 := Lib.hid (HX.out.by hg (Nat.ne_of_lt HBWL.out))
          have HB5 := Lib.hid (Works10.below_turn HB.out hg (Nat.le_of_lt HBWL.out))
          clear ht hg
          go_wp2_with fail
          rw [HSAME.out] at HT5
          go_meet
          exact ⟨rfl, _, _, _, _, HT5, HX5, HB5⟩
      case rest =>
        clear HT HX HB
        obtain ⟨rfl, x0, x1, x2, x3, HT, HX, HB⟩ := hcut
        have HRO : Hid (∀ wx, Below wc.heap.size wc wx → Calls Try.prog 27 #[.pointer (some ⟨b, 0, none⟩)] wx fun e w' => (∃ vs, e = .returned (.agg vs) ∧ NodeX w' (fun k => wx.heap.size ≤ k ∧ k < w'.heap.size) vs.toList n) ∧ Below wx.heap.size wx w') := Lib.hid fun wx hx => froot_any (HT.out.kept hx) HW.out (Nat.le_trans HGB.out (by decide))
        obtain ⟨c0, c1', c2, c3⟩ : wc.cell? ⟨W.heap.size, 0, none⟩ = some (.int .u8 n.kind.toNat) ∧ wc.cell? ⟨W.heap.size, 1, none⟩ = some (.string n.text) ∧ wc.cell? ⟨W.heap.size, 2, none⟩ = some (.slice p1 n.names.length c1) ∧ wc.cell? ⟨W.heap.size, 3, none⟩ = some (.slice q1 n.kids.length d1) := ⟨HX.out.at rfl, HX.out.at rfl, HX.out.at rfl, HX.out.at rfl⟩
        have KK : Hid (∀ wx w2, (fun wx => Below wc.heap.size wc wx ∧ wx.cell? ⟨W.heap.size, 0, none⟩ = some (.int .u8 n.kind.toNat) ∧ wx.cell? ⟨W.heap.size, 1, none⟩ = some (.string n.text) ∧ wx.cell? ⟨W.heap.size, 2, none⟩ = some (.slice p1 n.names.length c1) ∧ wx.cell? ⟨W.heap.size, 3, none⟩ = some (.slice q1 n.kids.length d1)) wx → Below wx.heap.size wx w2 → (fun wx => Below wc.heap.size wc wx ∧ wx.cell? ⟨W.heap.size, 0, none⟩ = some (.int .u8 n.kind.toNat) ∧ wx.cell? ⟨W.heap.size, 1, none⟩ = some (.string n.text) ∧ wx.cell? ⟨W.heap.size, 2, none⟩ = some (.slice p1 n.names.length c1) ∧ wx.cell? ⟨W.heap.size, 3, none⟩ = some (.slice q1 n.kids.length d1)) w2) := Lib.hid fun wx w2 hs hb => by
          obtain ⟨s0, s1, s2, s3, s4⟩ := hs
          exact ⟨s0.trans (hb.mono s0.size), cell_kept hb s1, cell_kept hb s2, cell_kept hb s3, cell_kept hb s4⟩
        have HSM : Hid (∀ wx vs, Below wc.heap.size wc wx → NodeR wx vs n → Calls Try.prog 28 #[.agg vs.toArray, .agg #[.int .u8 n.kind.toNat, .string n.text, .slice p1 n.names.length c1, .slice q1 n.kids.length d1]] wx fun e w' => e = .returned (.bool true) ∧ Below wx.heap.size wx w') := Lib.hid fun wx vs hx hv => (sameNd_any hv (HN.out.grown (HB.out.trans (hx.mono HB.out.size))) (Nat.le_trans HGB.out (by decide)) wx (Below.refl _ _)).mono fun e w' ⟨h1, h2⟩ => ⟨by rw [h1, Nd.same_self], h2⟩
        go_upto_region 10 with fail
        refine wp_region_held_drew (S := (fun wx => Below wc.heap.size wc wx ∧ wx.cell? ⟨W.heap.size, 0, none⟩ = some (.int .u8 n.kind.toNat) ∧ wx.cell? ⟨W.heap.size, 1, none⟩ = some (.string n.text) ∧ wx.cell? ⟨W.heap.size, 2, none⟩ = some (.slice p1 n.names.length c1) ∧ wx.cell? ⟨W.heap.size, 3, none⟩ = some (.slice q1 n.kids.length d1))) (by kernel_rfl) ⟨(Below.refl _ _).drew, c0, c1', c2, c3⟩ (fun hHeld => ?_)
        refine wpAnyH_take (i := 0) (oi := { dst := some 69, op := Op.move (Operand.tmp 7), type := 28, pos := "outright.go:69", after := #[], guard := none }) (v := ?_) rfl (by kernel_rfl) (by kernel_rfl) (by kernel_rfl) (fun _ _ _ h => h) (Or.inl ⟨by rfl, ?_⟩) (by assumption) ?_
        rotate_left
        · (intro w hSw; (try dsimp only at hSw); go_simp; try with_reducible rfl)
        try simp only [Act.put, List.setIfInBounds_toArray, List.set_cons_zero, List.set_cons_succ]
        refine wpAnyH_take (i := 2) (oi := { dst := some 71, op := Op.load 40 (Operand.tmp 3), type := 40, pos := "outright.go:69", after := #[], guard := none }) (v := ?_) rfl (by kernel_rfl) (by kernel_rfl) (by kernel_rfl) (fun _ _ _ h => h) (Or.inl ⟨by rfl, ?_⟩) (by assumption) ?_
        rotate_left
        · (intro w hSw; (try dsimp only at hSw); go_simp; try with_reducible rfl)
        try simp only [Act.put, List.setIfInBounds_toArray, List.set_cons_zero, List.set_cons_succ]
        refine wpAnyH_ready (rs := [1]) (by kernel_rfl) (by simp) ?_
        refine AllReadyH.cons (o := { dst := some 70, op := Op.call { callee := Callee.value (Operand.func 27), args := #[Operand.tmp 69], argTypes := #[28] }, type := 40, pos := "outright.go:69", after := #[{ on := 0, ground := Ground.data }], guard := none }) rfl (fun K hK => ?_) AllReadyH.nil
        go_simp
        (go_at_call 27; refine (HRO.out _ (And.left (by assumption))).mono ?_; rintro e w2 ⟨⟨vs, rfl, hvs⟩, hb2⟩)
        obtain ⟨p5, q5, c5, d5, rfl⟩ := nodeX_cells hvs
        have hS2 := KK.out _ _ (by assumption) hb2
        have HSA2 := Lib.hid (fun wx (hx : Below w2.heap.size w2 wx) (hs : Below wc.heap.size wc wx) => HSM.out wx _ hs (hvs.to.grown hx))
        clear hb2 hvs
        go_wp2_with fail
        refine hK.out _ _ (by assumption) (fun hHeld => ?_)
        clear hK K
        try simp only [Act.put, List.setIfInBounds_toArray, List.set_cons_zero, List.set_cons_succ]
        refine wpAnyH_ready (rs := [3]) (by kernel_rfl) (by simp) ?_
        refine AllReadyH.cons (o := { dst := some 72, op := Op.call { callee := Callee.value (Operand.func 28), args := #[Operand.tmp 70, Operand.tmp 71], argTypes := #[40, 40] }, type := 4, pos := "outright.go:69", after := #[{ on := 1, ground := Ground.data }, { on := 2, ground := Ground.data }, { on := 1, ground := Ground.chain }], guard := none }) rfl (fun K hK => ?_) AllReadyH.nil
        go_simp
        (go_at_call 28; refine (HSA2.out _ (Below.refl _ _) (And.left (by assumption))).mono ?_; rintro e w2 ⟨rfl, hb2⟩; have hS2 := KK.out _ _ (by assumption) hb2; clear hb2)
        go_wp2_with fail
        refine hK.out _ _ (by assumption) (fun hHeld => ?_)
        clear hK K
        try simp only [Act.put, List.setIfInBounds_toArray, List.set_cons_zero, List.set_cons_succ]
        refine wpAnyH_take (i := 4) (oi := { dst := some 73, op := Op.unOp UnOp.not 4 (Operand.tmp 72), type := 4, pos := "outright.go:69", after := #[{ on := 3, ground := Ground.data }], guard := none }) (v := ?_) rfl (by kernel_rfl) (by kernel_rfl) (by kernel_rfl) (fun _ _ _ h => h) (Or.inl ⟨by rfl, ?_⟩) (by assumption) ?_
        rotate_left
        · (intro w hSw; (try dsimp only at hSw); go_simp; try with_reducible rfl)
        try simp only [Act.put, List.setIfInBounds_toArray, List.set_cons_zero, List.set_cons_succ]
        refine wpAnyH_done (by kernel_rfl) ?_ _
        have HTn := Lib.hid (HT.out.kept hHeld.1)
        have HXn := Lib.hid (HX.out.kept hHeld.1)
        have HBn := Lib.hid (HB.out.trans (hHeld.1.mono HB.out.size))
        clear hHeld HT HX HB HSM HRO KK c0 c1' c2 c3 HSA2
        go_upto_region 12 with fail
        go_cut [99] (fun v wx => v = .bool false ∧ ∃ x0 x1 x2 x3, Hid (TreeX wx b n x0 x1 x2 x3) ∧ Hid (Bk wx W.heap.size [.int .u8 n.kind.toNat, .string n.text, .slice p1 n.names.length c1, .slice q1 n.kids.length d1] 40) ∧ Hid (Below W.heap.size W wx))
        case first =>
          go_wp2_with fail
          by_cases h0 : kat n B = 0
          · skip
            refine (fkind_any HTn.out HW.out (Nat.le_trans HGB.out (by decide)) (HPB.out.grown HBn.out)).mono ?_
            rintro e w6 ⟨he, hb⟩
            rw [kat_zero h0] at he
            subst he
            have HT6 := Lib.hid (HTn.out.kept hb)
            have HX6 := Lib.hid (HXn.out.kept hb)
            have HB6 := Lib.hid (HBn.out.trans (hb.mono HBn.out.size))
            clear hb
            go_wp2_with fail
            have HKP := Lib.hid (kept_rename (p := A) (q := B) HW.out HSA.out HSB.out)
            by_cases hz : (renameD n A B).1 = 0
            · obtain ⟨h1, h2, h3⟩ := back_rename HW.out HK.out h0 hz
              refine (Rename_any (pl := A) (ql := B) HT6.out HW.out (Nat.le_trans HGB.out (by decide)) (plT_of HPA.out HB6.out (Nat.le_of_lt HBWL.out)) (plT_of HPB.out HB6.out (Nat.le_of_lt HBWL.out)) HNA.out HNB.out).mono ?_
              rintro e w7 ⟨he, ⟨z0, z1, z2, z3, ht⟩, hg⟩
              rw [hz] at he
              subst he
              have HT7 : Hid (TreeX w7 b (renameD n A B).2 z0 z1 z2 z3) := Lib.hid ht
              have HX7 := Lib.hid (HX6.out.by hg (Nat.ne_of_lt HBWL.out))
              have HB7 := Lib.hid (Works10.below_turn HB6.out hg (Nat.le_of_lt HBWL.out))
              clear ht hg
              go_wp2_with fail
              have HRG := Lib.hid (kept_less HKP.out HGB.out)
              generalize (renameD n A B).2 = R at *
              clear hz HKP
              refine (fkind_any HT7.out h1 (girth_less HRG.out) (HPA.out.grown HB7.out)).mono ?_
              rintro e w8 ⟨he, hb⟩
              rw [kat_zero h2] at he
              subst he
              have HT8 := Lib.hid (HT7.out.kept hb)
              have HX8 := Lib.hid (HX7.out.kept hb)
              have HB8 := Lib.hid (HB7.out.trans (hb.mono HB7.out.size))
              clear hb
              go_wp2_with fail
              refine (Rename_any (pl := B) (ql := A) HT8.out h1 HRG.out (plT_of HPB.out HB8.out (Nat.le_of_lt HBWL.out)) (plT_of HPA.out HB8.out (Nat.le_of_lt HBWL.out)) HNB.out HNA.out).mono ?_
              rintro e w9 ⟨he, ⟨z0, z1, z2, z3, ht⟩, hg⟩
              rw [h3] at he ht
              subst he
              have HT9 : Hid (TreeX w9 b n z0 z1 z2 z3) := Lib.hid ht
              have HX9 := Lib.hid (HX8.out.by hg (Nat.ne_of_lt HBWL.out))
              have HB9 := Lib.hid (Works10.below_turn HB8.out hg (Nat.le_of_lt HBWL.out))
              clear ht hg
              go_wp2_with fail
              go_meet
              exact ⟨rfl, _, _, _, _, HT9, HX9, HB9⟩
            · have hz2 : ((renameD n A B).1 == 0) = false := beq_eq_false_iff_ne.2 hz
              have HSAME := Lib.hid (HKP.out.same hz)
              refine (Rename_any (pl := A) (ql := B) HT6.out HW.out (Nat.le_trans HGB.out (by decide)) (plT_of HPA.out HB6.out (Nat.le_of_lt HBWL.out)) (plT_of HPB.out HB6.out (Nat.le_of_lt HBWL.out)) HNA.out HNB.out).mono ?_
              rintro e w7 ⟨he, ⟨z0, z1, z2, z3, ht⟩, hg⟩
              skip
              subst he
              have HT7 : Hid (TreeX w7 b (renameD n A B).2 z0 z1 z2 z3) := Lib.hid ht
              have HX7 := Lib.hid (HX6.out.by hg (Nat.ne_of_lt HBWL.out))
              have HB7 := Lib.hid (Works10.below_turn HB6.out hg (Nat.le_of_lt HBWL.out))
              clear ht hg
              go_wp2_with fail
              rw [HSAME.out] at HT7
              go_meet
              exact ⟨rfl, _, _, _, _, HT7, HX7, HB7⟩
          · have hk0 : ((((n.at_ B).getD absent).kind.toNat : Int) == 0) = false := beq_eq_false_iff_ne.2 fun hh => h0 (by show ((n.at_ B).getD absent).kind = 0; generalize ((n.at_ B).getD absent).kind = kk at *; exact UInt8.toNat_inj.1 (by simpa using hh))
            refine (fkind_any HTn.out HW.out (Nat.le_trans HGB.out (by decide)) (HPB.out.grown HBn.out)).mono ?_
            rintro e w6 ⟨he, hb⟩
            skip
            subst he
            have HT6 := Lib.hid (HTn.out.kept hb)
            have HX6 := Lib.hid (HXn.out.kept hb)
            have HB6 := Lib.hid (HBn.out.trans (hb.mono HBn.out.size))
            clear hb
            go_wp2_with fail
            go_meet
            exact ⟨rfl, _, _, _, _, HT6, HX6, HB6⟩
        case rest =>
          clear HTn HXn HBn
          obtain ⟨rfl, x0, x1, x2, x3, HT, HX, HB⟩ := hcut
          have HRO : Hid (∀ wx, Below wc.heap.size wc wx → Calls Try.prog 27 #[.pointer (some ⟨b, 0, none⟩)] wx fun e w' => (∃ vs, e = .returned (.agg vs) ∧ NodeX w' (fun k => wx.heap.size ≤ k ∧ k < w'.heap.size) vs.toList n) ∧ Below wx.heap.size wx w') := Lib.hid fun wx hx => froot_any (HT.out.kept hx) HW.out (Nat.le_trans HGB.out (by decide))
          obtain ⟨c0, c1', c2, c3⟩ : wc.cell? ⟨W.heap.size, 0, none⟩ = some (.int .u8 n.kind.toNat) ∧ wc.cell? ⟨W.heap.size, 1, none⟩ = some (.string n.text) ∧ wc.cell? ⟨W.heap.size, 2, none⟩ = some (.slice p1 n.names.length c1) ∧ wc.cell? ⟨W.heap.size, 3, none⟩ = some (.slice q1 n.kids.length d1) := ⟨HX.out.at rfl, HX.out.at rfl, HX.out.at rfl, HX.out.at rfl⟩
          have KK : Hid (∀ wx w2, (fun wx => Below wc.heap.size wc wx ∧ wx.cell? ⟨W.heap.size, 0, none⟩ = some (.int .u8 n.kind.toNat) ∧ wx.cell? ⟨W.heap.size, 1, none⟩ = some (.string n.text) ∧ wx.cell? ⟨W.heap.size, 2, none⟩ = some (.slice p1 n.names.length c1) ∧ wx.cell? ⟨W.heap.size, 3, none⟩ = some (.slice q1 n.kids.length d1)) wx → Below wx.heap.size wx w2 → (fun wx => Below wc.heap.size wc wx ∧ wx.cell? ⟨W.heap.size, 0, none⟩ = some (.int .u8 n.kind.toNat) ∧ wx.cell? ⟨W.heap.size, 1, none⟩ = some (.string n.text) ∧ wx.cell? ⟨W.heap.size, 2, none⟩ = some (.slice p1 n.names.length c1) ∧ wx.cell? ⟨W.heap.size, 3, none⟩ = some (.slice q1 n.kids.length d1)) w2) := Lib.hid fun wx w2 hs hb => by
            obtain ⟨s0, s1, s2, s3, s4⟩ := hs
            exact ⟨s0.trans (hb.mono s0.size), cell_kept hb s1, cell_kept hb s2, cell_kept hb s3, cell_kept hb s4⟩
          have HSM : Hid (∀ wx vs, Below wc.heap.size wc wx → NodeR wx vs n → Calls Try.prog 28 #[.agg vs.toArray, .agg #[.int .u8 n.kind.toNat, .string n.text, .slice p1 n.names.length c1, .slice q1 n.kids.length d1]] wx fun e w' => e = .returned (.bool true) ∧ Below wx.heap.size wx w') := Lib.hid fun wx vs hx hv => (sameNd_any hv (HN.out.grown (HB.out.trans (hx.mono HB.out.size))) (Nat.le_trans HGB.out (by decide)) wx (Below.refl _ _)).mono fun e w' ⟨h1, h2⟩ => ⟨by rw [h1, Nd.same_self], h2⟩
          go_upto_region 14 with fail
          refine wp_region_held_drew (S := (fun wx => Below wc.heap.size wc wx ∧ wx.cell? ⟨W.heap.size, 0, none⟩ = some (.int .u8 n.kind.toNat) ∧ wx.cell? ⟨W.heap.size, 1, none⟩ = some (.string n.text) ∧ wx.cell? ⟨W.heap.size, 2, none⟩ = some (.slice p1 n.names.length c1) ∧ wx.cell? ⟨W.heap.size, 3, none⟩ = some (.slice q1 n.kids.length d1))) (by kernel_rfl) ⟨(Below.refl _ _).drew, c0, c1', c2, c3⟩ (fun hHeld => ?_)
          refine wpAnyH_take (i := 0) (oi := { dst := some 100, op := Op.move (Operand.tmp 7), type := 28, pos := "outright.go:75", after := #[], guard := none }) (v := ?_) rfl (by kernel_rfl) (by kernel_rfl) (by kernel_rfl) (fun _ _ _ h => h) (Or.inl ⟨by rfl, ?_⟩) (by assumption) ?_
          rotate_left
          · (intro w hSw; (try dsimp only at hSw); go_simp; try with_reducible rfl)
          try simp only [Act.put, List.setIfInBounds_toArray, List.set_cons_zero, List.set_cons_succ]
          refine wpAnyH_take (i := 2) (oi := { dst := some 102, op := Op.load 40 (Operand.tmp 3), type := 40, pos := "outright.go:75", after := #[], guard := none }) (v := ?_) rfl (by kernel_rfl) (by kernel_rfl) (by kernel_rfl) (fun _ _ _ h => h) (Or.inl ⟨by rfl, ?_⟩) (by assumption) ?_
          rotate_left
          · (intro w hSw; (try dsimp only at hSw); go_simp; try with_reducible rfl)
          try simp only [Act.put, List.setIfInBounds_toArray, List.set_cons_zero, List.set_cons_succ]
          refine wpAnyH_ready (rs := [1]) (by kernel_rfl) (by simp) ?_
          refine AllReadyH.cons (o := { dst := some 101, op := Op.call { callee := Callee.value (Operand.func 27), args := #[Operand.tmp 100], argTypes := #[28] }, type := 40, pos := "outright.go:75", after := #[{ on := 0, ground := Ground.data }], guard := none }) rfl (fun K hK => ?_) AllReadyH.nil
          go_simp
          (go_at_call 27; refine (HRO.out _ (And.left (by assumption))).mono ?_; rintro e w2 ⟨⟨vs, rfl, hvs⟩, hb2⟩)
          obtain ⟨p5, q5, c5, d5, rfl⟩ := nodeX_cells hvs
          have hS2 := KK.out _ _ (by assumption) hb2
          have HSA2 := Lib.hid (fun wx (hx : Below w2.heap.size w2 wx) (hs : Below wc.heap.size wc wx) => HSM.out wx _ hs (hvs.to.grown hx))
          clear hb2 hvs
          go_wp2_with fail
          refine hK.out _ _ (by assumption) (fun hHeld => ?_)
          clear hK K
          try simp only [Act.put, List.setIfInBounds_toArray, List.set_cons_zero, List.set_cons_succ]
          refine wpAnyH_ready (rs := [3]) (by kernel_rfl) (by simp) ?_
          refine AllReadyH.cons (o := { dst := some 103, op := Op.call { callee := Callee.value (Operand.func 28), args := #[Operand.tmp 101, Operand.tmp 102], argTypes := #[40, 40] }, type := 4, pos := "outright.go:75", after := #[{ on := 1, ground := Ground.data }, { on := 2, ground := Ground.data }, { on := 1, ground := Ground.chain }], guard := none }) rfl (fun K hK => ?_) AllReadyH.nil
          go_simp
          (go_at_call 28; refine (HSA2.out _ (Below.refl _ _) (And.left (by assumption))).mono ?_; rintro e w2 ⟨rfl, hb2⟩; have hS2 := KK.out _ _ (by assumption) hb2; clear hb2)
          go_wp2_with fail
          refine hK.out _ _ (by assumption) (fun hHeld => ?_)
          clear hK K
          try simp only [Act.put, List.setIfInBounds_toArray, List.set_cons_zero, List.set_cons_succ]
          refine wpAnyH_take (i := 4) (oi := { dst := some 6, op := Op.assign (Operand.tmp 103), type := 4, pos := "outright.go:75", after := #[{ on := 3, ground := Ground.data }, { on := 3, ground := Ground.chain }, { on := 0, ground := Ground.phase }, { on := 1, ground := Ground.phase }, { on := 2, ground := Ground.phase }, { on := 3, ground := Ground.phase }], guard := none }) (v := ?_) rfl (by kernel_rfl) (by kernel_rfl) (by kernel_rfl) (fun _ _ _ h => h) (Or.inl ⟨by rfl, ?_⟩) (by assumption) ?_
          rotate_left
          · (intro w hSw; (try dsimp only at hSw); go_simp; try with_reducible rfl)
          try simp only [Act.put, List.setIfInBounds_toArray, List.set_cons_zero, List.set_cons_succ]
          refine wpAnyH_done (by kernel_rfl) ?_ _
          have HBn := Lib.hid (HB.out.trans (hHeld.1.mono HB.out.size))
          clear hHeld HT HX HB HSM HRO KK c0 c1' c2 c3 HSA2
          go_wp2_with fail
          go_ret
          exact ⟨rfl, HBn.out⟩
end Go.Proofs.Ytonpeoaahjoboaa
