/- The statement on what is kept: mkdir and touch take nothing away, rmdir and rm make nothing, what is refused changes nothing. -/
import Derived.Test.YtmofodaecakkfaaGreatKa51
import Derived.Test.YtmofodaecakkfaaGreatKa40
import Derived.Test.YtmofodaecakkfaaGreatKa52
namespace Go.Proofs.YtmofodaecakkfaaGreat
open Go.RowKit Px Nx Wk Dn Ox
open Works12 (Bk)
namespace Dn
theorem ans_tree {N : Nat} {n n' : Nd} {xs : List ByteArray} {code : Int} {err : ByteArray} {is : Bool} (hG : TreeN N n) (hl : xs.length ≤ 40) (h : AnsD n xs code err is n') : TreeN (N + 10280) n' := by
  have key : ∀ {O : List UInt8} {A : UInt8} {R : ByteArray → Rel} {d : Nat} {name : ByteArray} {rest : List ByteArray}, RunD O A R n name rest code err n' → (∀ S, Grows (R S) d) → d ≤ 257 → rest.length ≤ 40 → TreeN (N + 10280) n' := by
    intro O A R d name rest h hg hd hr
    rcases runD_ops h with rfl | ⟨bad, ho⟩
    · exact hG.more (by omega)
    · refine (ops_grows (hg _) ho hG).more ?_
      have h1 := parse_len (kn := O) (xs := rest) (a := 0) (b := rest.length)
      have h2 := Nat.mul_le_mul hd (Nat.le_trans h1 hr)
      omega
  rcases h with ⟨_, _, _, rfl, _⟩ | ⟨_, name, rest, rfl, ⟨_, h⟩ | ⟨_, h⟩ | ⟨_, h⟩ | ⟨_, h⟩⟩
  · exact hG.more (by omega)
  · exact key h (fun S => grows_mk _) (Nat.le_refl _) (by rw [List.length_cons] at hl; omega)
  · exact key h (fun S => grows_rmdir) (by decide) (by rw [List.length_cons] at hl; omega)
  · exact key h (fun S => grows_touch) (by decide) (by rw [List.length_cons] at hl; omega)
  · exact key h (fun S => grows_rm _ _) (by decide) (by rw [List.length_cons] at hl; omega)
end Dn
set_option maxRecDepth 100000 in
set_option maxHeartbeats 8000000 in
theorem law_keeps {W : World} {cs : List Value} {n : Nd} (hn : NodeR W cs n) (hB : n.bulk ≤ 2000000) {v : Value} {xs : List ByteArray} (hx : PlR W v xs) :
    Calls Tryz.prog 3 #[.agg cs.toArray, v] W fun e w' => e = .returned (.bool true) ∧ Below W.heap.size W w' := by
  obtain ⟨p1, q1, c1, d1, rfl⟩ := hn.cells
  have HN := Lib.hid hn
  have HX := Lib.hid hx
  obtain ⟨px, cx, rfl, hxs, hxl, hxm⟩ := hx
  have hcx : cx ≤ 9223372036854775807 := by unfold maxLen at hxm; omega
  clear hn hxm
  go_enter Tryz.func3, Tryz.ntmps3
  go_wp2_with fail
  have HBW : Hid (Below W.heap.size W ((W.alloc (.cells #[.int .u8 n.kind.toNat, .string n.text, .slice p1 n.names.length c1, .slice q1 n.kids.length d1] 25)).alloc (.cells #[.slice px xs.length cx] 22))) := Lib.hid (below_alloc (below_alloc (Below.refl _ _)))
  have HBX : Hid (Bk ((W.alloc (.cells #[.int .u8 n.kind.toNat, .string n.text, .slice p1 n.names.length c1, .slice q1 n.kids.length d1] 25)).alloc (.cells #[.slice px xs.length cx] 22)) W.heap.size [.int .u8 n.kind.toNat, .string n.text, .slice p1 n.names.length c1, .slice q1 n.kids.length d1] 25) := Lib.hid (Bk.al (Bk.newE rfl))
  have hc0 : Bk ((W.alloc (.cells #[.int .u8 n.kind.toNat, .string n.text, .slice p1 n.names.length c1, .slice q1 n.kids.length d1] 25)).alloc (.cells #[.slice px xs.length cx] 22)) (W.heap.size + 1) [.slice px xs.length cx] 22 := Bk.newE (by simp)
  have HL := Lib.hid (long_one HN.out hB _ HBW.out (W.heap.size + 1) _ xs (hc0.at rfl) (HX.out.grown HBW.out))
  clear hc0
  generalize ((W.alloc (.cells #[.int .u8 n.kind.toNat, .string n.text, .slice p1 n.names.length c1, .slice q1 n.kids.length d1] 25)).alloc (.cells #[.slice px xs.length cx] 22)) = w1 at *
  refine HL.out.mono ?_
  rintro e w2 ⟨⟨lb, rfl, hlb⟩, hb2⟩
  have HB2 := Lib.hid (HBW.out.trans (hb2.mono HBW.out.size))
  have HX2 := Lib.hid (HBX.out.kept hb2)
  clear hb2 HBX HBW HL
  cases lb with
  | true =>
    go_wp2_with fail
    refine (Works12.awake_any w2).mono ?_
    rintro e w3 ⟨rfl, hb3⟩
    have HB3 := Lib.hid (HB2.out.trans (hb3.mono HB2.out.size))
    clear hb3
    go_wp2_with fail
    go_ret
    exact ⟨rfl, HB3.out⟩
  | false =>
    obtain ⟨hmay, hno, hx40, hx6⟩ := hlb rfl
    have HXS := Lib.hid hx6
    clear hlb hx6
    go_wp2_with fail
    refine (Works12.awake_any w2).mono ?_
    rintro e w3 ⟨rfl, hb3⟩
    have HB3 := Lib.hid (HB2.out.trans (hb3.mono HB2.out.size))
    have HX3 := Lib.hid (HX2.out.kept hb3)
    clear hb3 HB2 HX2
    obtain ⟨c0, c1', c2, c3⟩ : w3.cell? ⟨W.heap.size, 0, none⟩ = some (.int .u8 n.kind.toNat) ∧ w3.cell? ⟨W.heap.size, 1, none⟩ = some (.string n.text) ∧ w3.cell? ⟨W.heap.size, 2, none⟩ = some (.slice p1 n.names.length c1) ∧ w3.cell? ⟨W.heap.size, 3, none⟩ = some (.slice q1 n.kids.length d1) := ⟨HX3.out.at rfl, HX3.out.at rfl, HX3.out.at rfl, HX3.out.at rfl⟩
    go_wp2_with fail
    have hgb : n.girth ≤ 330000 := by have := may_bulk hmay; have := n.girth_bulk; omega
    refine (fnew_any HN.out (by omega) w3 HB3.out).mono ?_
    rintro e w4 ⟨hnw, hb4⟩
    rw [if_pos hmay] at hnw
    obtain ⟨b, y0, y1, y2, y3, rfl, hbb, ht, _⟩ := hnw
    have hbW : W.heap.size < b := Nat.lt_of_lt_of_le HX3.out.lt hbb
    have HT4 := Lib.hid ht
    have HB4 := Lib.hid (HB3.out.trans (hb4.mono HB3.out.size))
    have HX4 := Lib.hid (HX3.out.kept hb4)
    clear hb4 ht hbb c0 c1' c2 c3 HB3 HX3
    obtain ⟨hw, hk⟩ := may_well hmay
    have HG : Hid (TreeN 200 n) := Lib.hid ⟨hw, hk, hno⟩
    clear hw hk hgb hmay hno
    go_wp2_with fail
    refine (Run_any HT4.out HG.out (Nat.le_refl _) (HX.out.grown HB4.out) hx40 HXS.out).mono ?_
    rintro e w5 ⟨code, err, is, nn, rfl, ha, ⟨x0, x1, x2, x3, ht⟩, hg⟩
    have HT5 := Lib.hid ht
    have HB5 := Lib.hid (Works12.below_turn HB4.out hg (Nat.le_of_lt hbW))
    have HX5 := Lib.hid (HX4.out.by hg (Nat.ne_of_lt hbW))
    have HG2 := Lib.hid (ans_tree HG.out hx40 ha)
    have HA := Lib.hid ha
    clear ht hg ha HT4 HB4 HX4
    go_wp2_with fail
    refine (froot_any HT5.out HG2.out.well (by have := HG2.out.girth; omega)).mono ?_
    rintro e w6 ⟨⟨us, rfl, hus⟩, hb6⟩
    obtain ⟨p2, q2, c2, d2, rfl⟩ := nodeX_cells hus
    have HB6 := Lib.hid (HB5.out.trans (hb6.mono HB5.out.size))
    have HX6 := Lib.hid (HX5.out.kept hb6)
    have HV6 := Lib.hid hus.to
    clear hb6 hus HT5 HB5 HX5
    go_upto_region 8 with fail
    have hal : Below w6.heap.size w6 (w6.alloc (.cells #[.int .u8 nn.kind.toNat, .string nn.text, .slice p2 nn.names.length c2, .slice q2 nn.kids.length d2] 25)) := below_alloc (Below.refl _ _)
    have HB7 := Lib.hid (HB6.out.trans (hal.mono HB6.out.size))
    have HX7 := Lib.hid (HX6.out.kept hal)
    have HV7 := Lib.hid (NodeR.grown hal HV6.out)
    have HK7 : Hid (Bk (w6.alloc (.cells #[.int .u8 nn.kind.toNat, .string nn.text, .slice p2 nn.names.length c2, .slice q2 nn.kids.length d2] 25)) w6.heap.size [.int .u8 nn.kind.toNat, .string nn.text, .slice p2 nn.names.length c2, .slice q2 nn.kids.length d2] 25) := Lib.hid (Bk.new w6 [.int .u8 nn.kind.toNat, .string nn.text, .slice p2 nn.names.length c2, .slice q2 nn.kids.length d2] 25)
    clear hal HB6 HX6 HV6
    generalize (w6.alloc (.cells #[.int .u8 nn.kind.toNat, .string nn.text, .slice p2 nn.names.length c2, .slice q2 nn.kids.length d2] 25)) = w7 at *
    generalize w6.heap.size = g7 at *
    have HU7 := Lib.hid (NodeR.grown HB7.out HN.out)
    have HSA : Hid (nn = n → ∀ wx, Below w7.heap.size w7 wx → Calls Tryz.prog 10 #[.agg #[.int .u8 n.kind.toNat, .string n.text, .slice p1 n.names.length c1, .slice q1 n.kids.length d1], .agg #[.int .u8 nn.kind.toNat, .string nn.text, .slice p2 nn.names.length c2, .slice q2 nn.kids.length d2]] wx fun e w' => e = .returned (.bool true) ∧ Below wx.heap.size wx w') := Lib.hid fun hz wx hb => (sameNd_any HU7.out HV7.out (by have := HG.out.girth; omega) wx hb).mono fun e w' ⟨h1, h2⟩ => ⟨by rw [h1, hz, Nd.same_self], h2⟩
    have HWE : Hid (∀ wx, Below w7.heap.size w7 wx → Calls Tryz.prog 11 #[.agg #[.int .u8 nn.kind.toNat, .string nn.text, .slice p2 nn.names.length c2, .slice q2 nn.kids.length d2]] wx fun e w' => e = .returned (.bool true) ∧ Below wx.heap.size wx w') := Lib.hid fun wx hb => (well_any HV7.out wx hb).mono fun e w' ⟨h1, h2⟩ => ⟨by rw [h1, HG2.out.well], h2⟩
    have HWU : Hid (withinD n nn = true → ∀ wx, Below w7.heap.size w7 wx → Calls Tryz.prog 12 #[.agg #[.int .u8 n.kind.toNat, .string n.text, .slice p1 n.names.length c1, .slice q1 n.kids.length d1], .agg #[.int .u8 nn.kind.toNat, .string nn.text, .slice p2 nn.names.length c2, .slice q2 nn.kids.length d2]] wx fun e w' => e = .returned (.bool true) ∧ Below wx.heap.size wx w') := Lib.hid fun hz wx hb => (within_any HU7.out HV7.out HG.out.well HG2.out.well wx hb).mono fun e w' ⟨h1, h2⟩ => ⟨by rw [h1, hz], h2⟩
    have HWD : Hid (withinD nn n = true → ∀ wx, Below w7.heap.size w7 wx → Calls Tryz.prog 12 #[.agg #[.int .u8 nn.kind.toNat, .string nn.text, .slice p2 nn.names.length c2, .slice q2 nn.kids.length d2], .agg #[.int .u8 n.kind.toNat, .string n.text, .slice p1 n.names.length c1, .slice q1 n.kids.length d1]] wx fun e w' => e = .returned (.bool true) ∧ Below wx.heap.size wx w') := Lib.hid fun hz wx hb => (within_any HV7.out HU7.out HG2.out.well HG.out.well wx hb).mono fun e w' ⟨h1, h2⟩ => ⟨by rw [h1, hz], h2⟩
    have HC : Hid (∀ wx, Below w7.heap.size w7 wx → wx.cell? ⟨W.heap.size, 0, none⟩ = some (.int .u8 n.kind.toNat) ∧ wx.cell? ⟨W.heap.size, 1, none⟩ = some (.string n.text) ∧ wx.cell? ⟨W.heap.size, 2, none⟩ = some (.slice p1 n.names.length c1) ∧ wx.cell? ⟨W.heap.size, 3, none⟩ = some (.slice q1 n.kids.length d1) ∧ wx.cell? ⟨g7, 0, none⟩ = some (.int .u8 nn.kind.toNat) ∧ wx.cell? ⟨g7, 1, none⟩ = some (.string nn.text) ∧ wx.cell? ⟨g7, 2, none⟩ = some (.slice p2 nn.names.length c2) ∧ wx.cell? ⟨g7, 3, none⟩ = some (.slice q2 nn.kids.length d2)) := Lib.hid fun wx hb => ⟨(HX7.out.kept hb).at rfl, (HX7.out.kept hb).at rfl, (HX7.out.kept hb).at rfl, (HX7.out.kept hb).at rfl, (HK7.out.kept hb).at rfl, (HK7.out.kept hb).at rfl, (HK7.out.kept hb).at rfl, (HK7.out.kept hb).at rfl⟩
    cases is with
    | false =>
      obtain ⟨rfl, rfl, hnn⟩ := ans_not HA.out
      have HS := Lib.hid (HSA.out hnn w7 (Below.refl _ _))
      obtain ⟨a0, a1, a2, a3, j0, j1, j2, j3⟩ := HC.out w7 (Below.refl _ _)
      clear hnn HSA HWE HWU HWD
      go_wp2_with fail
      refine HS.out.mono ?_
      rintro e w8 ⟨rfl, hb8⟩
      have HB8 := Lib.hid (HB7.out.trans (hb8.mono HB7.out.size))
      clear hb8
      go_wp2_with fail
      go_ret
      exact ⟨rfl, HB8.out⟩
    | true =>
      obtain ⟨hc, he, hwz, hkz, h2, h1, name, rest, rfl, hd⟩ := ans_keeps HG.out.well HG.out.kind HA.out
      clear hwz hkz
      obtain ⟨bb, oo, rfl, hcw⟩ := hxs 0 (by simp)
      have HCW0 : Hid (∀ wx, Below w7.heap.size w7 wx → wx.cell? ⟨bb, oo, none⟩ = some (.string name)) := Lib.hid fun wx hb => cell_kept (HB7.out.trans (hb.mono HB7.out.size)) hcw
      have hr1 : (0 : Int) ≤ 0 ∧ (0 : Int) < ((rest.length + 1 : Nat) : Int) := ⟨by omega, by omega⟩
      have hr4 : (0 : Int) < (rest.length : Int) + 1 := by omega
      clear hcw hxs HX HXS HA
      rcases hd with ⟨rfl | rfl, hwi⟩ | ⟨rfl | rfl, hwi⟩
      · have HCW : Hid (∀ wx, Below w7.heap.size w7 wx → wx.cell? ⟨bb, oo, none⟩ = some (.string ⟨#[109, 107, 100, 105, 114]⟩)) := HCW0
        have HWI := Lib.hid (HWU.out hwi)
        clear HCW0 hwi HWU HWD
        rcases hc with rfl | rfl | rfl
        · obtain rfl := he.1 rfl
          clear he h1 h2
          obtain ⟨a0, a1, a2, a3, j0, j1, j2, j3⟩ := HC.out w7 (Below.refl _ _)
          have cw := HCW.out w7 (Below.refl _ _)
          go_wp2_with fail
          refine (HWE.out w7 (Below.refl _ _)).mono ?_
          rintro e w8 ⟨rfl, hb8⟩
          clear a0 a1 a2 a3 j0 j1 j2 j3 cw
          obtain ⟨a0, a1, a2, a3, j0, j1, j2, j3⟩ := HC.out w8 hb8
          have cw := HCW.out w8 hb8
          go_wp2_with fail
          refine (HWI.out w8 hb8).mono ?_
          rintro e wz ⟨rfl, hbz⟩
          have HBZ := Lib.hid (HB7.out.trans (((hb8).trans (hbz.mono (hb8).size)).mono HB7.out.size))
          clear hbz
          go_wp2_with fail
          go_ret
          exact ⟨rfl, HBZ.out⟩
        · have hne0 : (err.toList == (⟨#[]⟩ : ByteArray).toList) = false := (Lib.bytes_beq_false_iff _ _).2 fun h => absurd (he.2 h) (by decide)
          have hne : (err.toList == []) = false := by rw [show (⟨#[]⟩ : ByteArray).toList = [] from by kernel_rfl] at hne0; exact hne0
          have hl1 := Lib.hid (h1 rfl)
          clear he h1 h2
          obtain ⟨a0, a1, a2, a3, j0, j1, j2, j3⟩ := HC.out w7 (Below.refl _ _)
          have cw := HCW.out w7 (Below.refl _ _)
          go_wp2_with fail
          refine (HWE.out w7 (Below.refl _ _)).mono ?_
          rintro e w8 ⟨rfl, hb8⟩
          clear a0 a1 a2 a3 j0 j1 j2 j3 cw
          by_cases hl : rest.length = 1
          · have hnn := Lib.hid (hl1.out (by rw [List.length_cons, hl]))
            have hl2 : ((rest.length : Int) + 1 == 2) = true := by rw [hl]; rfl
            clear hl1
            obtain ⟨a0, a1, a2, a3, j0, j1, j2, j3⟩ := HC.out w8 hb8
            have cw := HCW.out w8 hb8
            go_wp2_with fail
            refine (HSA.out hnn.out w8 hb8).mono ?_
            rintro e w9 ⟨rfl, hb9⟩
            have hb9' := hb8.trans (hb9.mono hb8.size)
            clear a0 a1 a2 a3 j0 j1 j2 j3 cw
            obtain ⟨a0, a1, a2, a3, j0, j1, j2, j3⟩ := HC.out w9 hb9'
            have cw := HCW.out w9 hb9'
            go_wp2_with fail
            refine (HWI.out w9 hb9').mono ?_
            rintro e wz ⟨rfl, hbz⟩
            have HBZ := Lib.hid (HB7.out.trans (((hb9').trans (hbz.mono (hb9').size)).mono HB7.out.size))
            clear hbz
            go_wp2_with fail
            go_ret
            exact ⟨rfl, HBZ.out⟩
          · have hl2 : ((rest.length : Int) + 1 == 2) = false := beq_eq_false_iff_ne.2 (by omega)
            clear hl1
            obtain ⟨a0, a1, a2, a3, j0, j1, j2, j3⟩ := HC.out w8 hb8
            have cw := HCW.out w8 hb8
            go_wp2_with fail
            refine (HWI.out w8 hb8).mono ?_
            rintro e wz ⟨rfl, hbz⟩
            have HBZ := Lib.hid (HB7.out.trans (((hb8).trans (hbz.mono (hb8).size)).mono HB7.out.size))
            clear hbz
            go_wp2_with fail
            go_ret
            exact ⟨rfl, HBZ.out⟩
        · have hne0 : (err.toList == (⟨#[]⟩ : ByteArray).toList) = false := (Lib.bytes_beq_false_iff _ _).2 fun h => absurd (he.2 h) (by decide)
          have hne : (err.toList == []) = false := by rw [show (⟨#[]⟩ : ByteArray).toList = [] from by kernel_rfl] at hne0; exact hne0
          have hnn := Lib.hid (h2 rfl)
          clear he h1 h2
          obtain ⟨a0, a1, a2, a3, j0, j1, j2, j3⟩ := HC.out w7 (Below.refl _ _)
          have cw := HCW.out w7 (Below.refl _ _)
          go_wp2_with fail
          refine (HWE.out w7 (Below.refl _ _)).mono ?_
          rintro e w8 ⟨rfl, hb8⟩
          clear a0 a1 a2 a3 j0 j1 j2 j3 cw
          obtain ⟨a0, a1, a2, a3, j0, j1, j2, j3⟩ := HC.out w8 hb8
          have cw := HCW.out w8 hb8
          go_wp2_with fail
          refine (HSA.out hnn.out w8 hb8).mono ?_
          rintro e w9 ⟨rfl, hb9⟩
          have hb9' := hb8.trans (hb9.mono hb8.size)
          clear a0 a1 a2 a3 j0 j1 j2 j3 cw
          obtain ⟨a0, a1, a2, a3, j0, j1, j2, j3⟩ := HC.out w9 hb9'
          have cw := HCW.out w9 hb9'
          go_wp2_with fail
          refine (HWI.out w9 hb9').mono ?_
          rintro e wz ⟨rfl, hbz⟩
          have HBZ := Lib.hid (HB7.out.trans (((hb9').trans (hbz.mono (hb9').size)).mono HB7.out.size))
          clear hbz
          go_wp2_with fail
          go_ret
          exact ⟨rfl, HBZ.out⟩
      · have HCW : Hid (∀ wx, Below w7.heap.size w7 wx → wx.cell? ⟨bb, oo, none⟩ = some (.string ⟨#[116, 111, 117, 99, 104]⟩)) := HCW0
        have HWI := Lib.hid (HWU.out hwi)
        clear HCW0 hwi HWU HWD
        rcases hc with rfl | rfl | rfl
        · obtain rfl := he.1 rfl
          clear he h1 h2
          obtain ⟨a0, a1, a2, a3, j0, j1, j2, j3⟩ := HC.out w7 (Below.refl _ _)
          have cw := HCW.out w7 (Below.refl _ _)
          go_wp2_with fail
          refine (HWE.out w7 (Below.refl _ _)).mono ?_
          rintro e w8 ⟨rfl, hb8⟩
          clear a0 a1 a2 a3 j0 j1 j2 j3 cw
          obtain ⟨a0, a1, a2, a3, j0, j1, j2, j3⟩ := HC.out w8 hb8
          have cw := HCW.out w8 hb8
          go_wp2_with fail
          refine (HWI.out w8 hb8).mono ?_
          rintro e wz ⟨rfl, hbz⟩
          have HBZ := Lib.hid (HB7.out.trans (((hb8).trans (hbz.mono (hb8).size)).mono HB7.out.size))
          clear hbz
          go_wp2_with fail
          go_ret
          exact ⟨rfl, HBZ.out⟩
        · have hne0 : (err.toList == (⟨#[]⟩ : ByteArray).toList) = false := (Lib.bytes_beq_false_iff _ _).2 fun h => absurd (he.2 h) (by decide)
          have hne : (err.toList == []) = false := by rw [show (⟨#[]⟩ : ByteArray).toList = [] from by kernel_rfl] at hne0; exact hne0
          have hl1 := Lib.hid (h1 rfl)
          clear he h1 h2
          obtain ⟨a0, a1, a2, a3, j0, j1, j2, j3⟩ := HC.out w7 (Below.refl _ _)
          have cw := HCW.out w7 (Below.refl _ _)
          go_wp2_with fail
          refine (HWE.out w7 (Below.refl _ _)).mono ?_
          rintro e w8 ⟨rfl, hb8⟩
          clear a0 a1 a2 a3 j0 j1 j2 j3 cw
          by_cases hl : rest.length = 1
          · have hnn := Lib.hid (hl1.out (by rw [List.length_cons, hl]))
            have hl2 : ((rest.length : Int) + 1 == 2) = true := by rw [hl]; rfl
            clear hl1
            obtain ⟨a0, a1, a2, a3, j0, j1, j2, j3⟩ := HC.out w8 hb8
            have cw := HCW.out w8 hb8
            go_wp2_with fail
            refine (HSA.out hnn.out w8 hb8).mono ?_
            rintro e w9 ⟨rfl, hb9⟩
            have hb9' := hb8.trans (hb9.mono hb8.size)
            clear a0 a1 a2 a3 j0 j1 j2 j3 cw
            obtain ⟨a0, a1, a2, a3, j0, j1, j2, j3⟩ := HC.out w9 hb9'
            have cw := HCW.out w9 hb9'
            go_wp2_with fail
            refine (HWI.out w9 hb9').mono ?_
            rintro e wz ⟨rfl, hbz⟩
            have HBZ := Lib.hid (HB7.out.trans (((hb9').trans (hbz.mono (hb9').size)).mono HB7.out.size))
            clear hbz
            go_wp2_with fail
            go_ret
            exact ⟨rfl, HBZ.out⟩
          · have hl2 : ((rest.length : Int) + 1 == 2) = false := beq_eq_false_iff_ne.2 (by omega)
            clear hl1
            obtain ⟨a0, a1, a2, a3, j0, j1, j2, j3⟩ := HC.out w8 hb8
            have cw := HCW.out w8 hb8
            go_wp2_with fail
            refine (HWI.out w8 hb8).mono ?_
            rintro e wz ⟨rfl, hbz⟩
            have HBZ := Lib.hid (HB7.out.trans (((hb8).trans (hbz.mono (hb8).size)).mono HB7.out.size))
            clear hbz
            go_wp2_with fail
            go_ret
            exact ⟨rfl, HBZ.out⟩
        · have hne0 : (err.toList == (⟨#[]⟩ : ByteArray).toList) = false := (Lib.bytes_beq_false_iff _ _).2 fun h => absurd (he.2 h) (by decide)
          have hne : (err.toList == []) = false := by rw [show (⟨#[]⟩ : ByteArray).toList = [] from by kernel_rfl] at hne0; exact hne0
          have hnn := Lib.hid (h2 rfl)
          clear he h1 h2
          obtain ⟨a0, a1, a2, a3, j0, j1, j2, j3⟩ := HC.out w7 (Below.refl _ _)
          have cw := HCW.out w7 (Below.refl _ _)
          go_wp2_with fail
          refine (HWE.out w7 (Below.refl _ _)).mono ?_
          rintro e w8 ⟨rfl, hb8⟩
          clear a0 a1 a2 a3 j0 j1 j2 j3 cw
          obtain ⟨a0, a1, a2, a3, j0, j1, j2, j3⟩ := HC.out w8 hb8
          have cw := HCW.out w8 hb8
          go_wp2_with fail
          refine (HSA.out hnn.out w8 hb8).mono ?_
          rintro e w9 ⟨rfl, hb9⟩
          have hb9' := hb8.trans (hb9.mono hb8.size)
          clear a0 a1 a2 a3 j0 j1 j2 j3 cw
          obtain ⟨a0, a1, a2, a3, j0, j1, j2, j3⟩ := HC.out w9 hb9'
          have cw := HCW.out w9 hb9'
          go_wp2_with fail
          refine (HWI.out w9 hb9').mono ?_
          rintro e wz ⟨rfl, hbz⟩
          have HBZ := Lib.hid (HB7.out.trans (((hb9').trans (hbz.mono (hb9').size)).mono HB7.out.size))
          clear hbz
          go_wp2_with fail
          go_ret
          exact ⟨rfl, HBZ.out⟩
      · have HCW : Hid (∀ wx, Below w7.heap.size w7 wx → wx.cell? ⟨bb, oo, none⟩ = some (.string ⟨#[114, 109, 100, 105, 114]⟩)) := HCW0
        have HWI := Lib.hid (HWD.out hwi)
        clear HCW0 hwi HWU HWD
        rcases hc with rfl | rfl | rfl
        · obtain rfl := he.1 rfl
          clear he h1 h2
          obtain ⟨a0, a1, a2, a3, j0, j1, j2, j3⟩ := HC.out w7 (Below.refl _ _)
          have cw := HCW.out w7 (Below.refl _ _)
          go_wp2_with fail
          refine (HWE.out w7 (Below.refl _ _)).mono ?_
          rintro e w8 ⟨rfl, hb8⟩
          clear a0 a1 a2 a3 j0 j1 j2 j3 cw
          obtain ⟨a0, a1, a2, a3, j0, j1, j2, j3⟩ := HC.out w8 hb8
          have cw := HCW.out w8 hb8
          go_wp2_with fail
          refine (HWI.out w8 hb8).mono ?_
          rintro e wz ⟨rfl, hbz⟩
          have HBZ := Lib.hid (HB7.out.trans (((hb8).trans (hbz.mono (hb8).size)).mono HB7.out.size))
          clear hbz
          go_wp2_with fail
          go_ret
          exact ⟨rfl, HBZ.out⟩
        · have hne0 : (err.toList == (⟨#[]⟩ : ByteArray).toList) = false := (Lib.bytes_beq_false_iff _ _).2 fun h => absurd (he.2 h) (by decide)
          have hne : (err.toList == []) = false := by rw [show (⟨#[]⟩ : ByteArray).toList = [] from by kernel_rfl] at hne0; exact hne0
          have hl1 := Lib.hid (h1 rfl)
          clear he h1 h2
          obtain ⟨a0, a1, a2, a3, j0, j1, j2, j3⟩ := HC.out w7 (Below.refl _ _)
          have cw := HCW.out w7 (Below.refl _ _)
          go_wp2_with fail
          refine (HWE.out w7 (Below.refl _ _)).mono ?_
          rintro e w8 ⟨rfl, hb8⟩
          clear a0 a1 a2 a3 j0 j1 j2 j3 cw
          by_cases hl : rest.length = 1
          · have hnn := Lib.hid (hl1.out (by rw [List.length_cons, hl]))
            have hl2 : ((rest.length : Int) + 1 == 2) = true := by rw [hl]; rfl
            clear hl1
            obtain ⟨a0, a1, a2, a3, j0, j1, j2, j3⟩ := HC.out w8 hb8
            have cw := HCW.out w8 hb8
            go_wp2_with fail
            refine (HSA.out hnn.out w8 hb8).mono ?_
            rintro e w9 ⟨rfl, hb9⟩
            have hb9' := hb8.trans (hb9.mono hb8.size)
            clear a0 a1 a2 a3 j0 j1 j2 j3 cw
            obtain ⟨a0, a1, a2, a3, j0, j1, j2, j3⟩ := HC.out w9 hb9'
            have cw := HCW.out w9 hb9'
            go_wp2_with fail
            refine (HWI.out w9 hb9').mono ?_
            rintro e wz ⟨rfl, hbz⟩
            have HBZ := Lib.hid (HB7.out.trans (((hb9').trans (hbz.mono (hb9').size)).mono HB7.out.size))
            clear hbz
            go_wp2_with fail
            go_ret
            exact ⟨rfl, HBZ.out⟩
          · have hl2 : ((rest.length : Int) + 1 == 2) = false := beq_eq_false_iff_ne.2 (by omega)
            clear hl1
            obtain ⟨a0, a1, a2, a3, j0, j1, j2, j3⟩ := HC.out w8 hb8
            have cw := HCW.out w8 hb8
            go_wp2_with fail
            refine (HWI.out w8 hb8).mono ?_
            rintro e wz ⟨rfl, hbz⟩
            have HBZ := Lib.hid (HB7.out.trans (((hb8).trans (hbz.mono (hb8).size)).mono HB7.out.size))
            clear hbz
            go_wp2_with fail
            go_ret
            exact ⟨rfl, HBZ.out⟩
        · have hne0 : (err.toList == (⟨#[]⟩ : ByteArray).toList) = false := (Lib.bytes_beq_false_iff _ _).2 fun h => absurd (he.2 h) (by decide)
          have hne : (err.toList == []) = false := by rw [show (⟨#[]⟩ : ByteArray).toList = [] from by kernel_rfl] at hne0; exact hne0
          have hnn := Lib.hid (h2 rfl)
          clear he h1 h2
          obtain ⟨a0, a1, a2, a3, j0, j1, j2, j3⟩ := HC.out w7 (Below.refl _ _)
          have cw := HCW.out w7 (Below.refl _ _)
          go_wp2_with fail
          refine (HWE.out w7 (Below.refl _ _)).mono ?_
          rintro e w8 ⟨rfl, hb8⟩
          clear a0 a1 a2 a3 j0 j1 j2 j3 cw
          obtain ⟨a0, a1, a2, a3, j0, j1, j2, j3⟩ := HC.out w8 hb8
          have cw := HCW.out w8 hb8
          go_wp2_with fail
          refine (HSA.out hnn.out w8 hb8).mono ?_
          rintro e w9 ⟨rfl, hb9⟩
          have hb9' := hb8.trans (hb9.mono hb8.size)
          clear a0 a1 a2 a3 j0 j1 j2 j3 cw
          obtain ⟨a0, a1, a2, a3, j0, j1, j2, j3⟩ := HC.out w9 hb9'
          have cw := HCW.out w9 hb9'
          go_wp2_with fail
          refine (HWI.out w9 hb9').mono ?_
          rintro e wz ⟨rfl, hbz⟩
          have HBZ := Lib.hid (HB7.out.trans (((hb9').trans (hbz.mono (hb9').size)).mono HB7.out.size))
          clear hbz
          go_wp2_with fail
          go_ret
          exact ⟨rfl, HBZ.out⟩
      · have HCW : Hid (∀ wx, Below w7.heap.size w7 wx → wx.cell? ⟨bb, oo, none⟩ = some (.string ⟨#[114, 109]⟩)) := HCW0
        have HWI := Lib.hid (HWD.out hwi)
        clear HCW0 hwi HWU HWD
        rcases hc with rfl | rfl | rfl
        · obtain rfl := he.1 rfl
          clear he h1 h2
          obtain ⟨a0, a1, a2, a3, j0, j1, j2, j3⟩ := HC.out w7 (Below.refl _ _)
          have cw := HCW.out w7 (Below.refl _ _)
          go_wp2_with fail
          refine (HWE.out w7 (Below.refl _ _)).mono ?_
          rintro e w8 ⟨rfl, hb8⟩
          clear a0 a1 a2 a3 j0 j1 j2 j3 cw
          obtain ⟨a0, a1, a2, a3, j0, j1, j2, j3⟩ := HC.out w8 hb8
          have cw := HCW.out w8 hb8
          go_wp2_with fail
          refine (HWI.out w8 hb8).mono ?_
          rintro e wz ⟨rfl, hbz⟩
          have HBZ := Lib.hid (HB7.out.trans (((hb8).trans (hbz.mono (hb8).size)).mono HB7.out.size))
          clear hbz
          go_wp2_with fail
          go_ret
          exact ⟨rfl, HBZ.out⟩
        · have hne0 : (err.toList == (⟨#[]⟩ : ByteArray).toList) = false := (Lib.bytes_beq_false_iff _ _).2 fun h => absurd (he.2 h) (by decide)
          have hne : (err.toList == []) = false := by rw [show (⟨#[]⟩ : ByteArray).toList = [] from by kernel_rfl] at hne0; exact hne0
          have hl1 := Lib.hid (h1 rfl)
          clear he h1 h2
          obtain ⟨a0, a1, a2, a3, j0, j1, j2, j3⟩ := HC.out w7 (Below.refl _ _)
          have cw := HCW.out w7 (Below.refl _ _)
          go_wp2_with fail
          refine (HWE.out w7 (Below.refl _ _)).mono ?_
          rintro e w8 ⟨rfl, hb8⟩
          clear a0 a1 a2 a3 j0 j1 j2 j3 cw
          by_cases hl : rest.length = 1
          · have hnn := Lib.hid (hl1.out (by rw [List.length_cons, hl]))
            have hl2 : ((rest.length : Int) + 1 == 2) = true := by rw [hl]; rfl
            clear hl1
            obtain ⟨a0, a1, a2, a3, j0, j1, j2, j3⟩ := HC.out w8 hb8
            have cw := HCW.out w8 hb8
            go_wp2_with fail
            refine (HSA.out hnn.out w8 hb8).mono ?_
            rintro e w9 ⟨rfl, hb9⟩
            have hb9' := hb8.trans (hb9.mono hb8.size)
            clear a0 a1 a2 a3 j0 j1 j2 j3 cw
            obtain ⟨a0, a1, a2, a3, j0, j1, j2, j3⟩ := HC.out w9 hb9'
            have cw := HCW.out w9 hb9'
            go_wp2_with fail
            refine (HWI.out w9 hb9').mono ?_
            rintro e wz ⟨rfl, hbz⟩
            have HBZ := Lib.hid (HB7.out.trans (((hb9').trans (hbz.mono (hb9').size)).mono HB7.out.size))
            clear hbz
            go_wp2_with fail
            go_ret
            exact ⟨rfl, HBZ.out⟩
          · have hl2 : ((rest.length : Int) + 1 == 2) = false := beq_eq_false_iff_ne.2 (by omega)
            clear hl1
            obtain ⟨a0, a1, a2, a3, j0, j1, j2, j3⟩ := HC.out w8 hb8
            have cw := HCW.out w8 hb8
            go_wp2_with fail
            refine (HWI.out w8 hb8).mono ?_
            rintro e wz ⟨rfl, hbz⟩
            have HBZ := Lib.hid (HB7.out.trans (((hb8).trans (hbz.mono (hb8).size)).mono HB7.out.size))
            clear hbz
            go_wp2_with fail
            go_ret
            exact ⟨rfl, HBZ.out⟩
        · have hne0 : (err.toList == (⟨#[]⟩ : ByteArray).toList) = false := (Lib.bytes_beq_false_iff _ _).2 fun h => absurd (he.2 h) (by decide)
          have hne : (err.toList == []) = false := by rw [show (⟨#[]⟩ : ByteArray).toList = [] from by kernel_rfl] at hne0; exact hne0
          have hnn := Lib.hid (h2 rfl)
          clear he h1 h2
          obtain ⟨a0, a1, a2, a3, j0, j1, j2, j3⟩ := HC.out w7 (Below.refl _ _)
          have cw := HCW.out w7 (Below.refl _ _)
          go_wp2_with fail
          refine (HWE.out w7 (Below.refl _ _)).mono ?_
          rintro e w8 ⟨rfl, hb8⟩
          clear a0 a1 a2 a3 j0 j1 j2 j3 cw
          obtain ⟨a0, a1, a2, a3, j0, j1, j2, j3⟩ := HC.out w8 hb8
          have cw := HCW.out w8 hb8
          go_wp2_with fail
          refine (HSA.out hnn.out w8 hb8).mono ?_
          rintro e w9 ⟨rfl, hb9⟩
          have hb9' := hb8.trans (hb9.mono hb8.size)
          clear a0 a1 a2 a3 j0 j1 j2 j3 cw
          obtain ⟨a0, a1, a2, a3, j0, j1, j2, j3⟩ := HC.out w9 hb9'
          have cw := HCW.out w9 hb9'
          go_wp2_with fail
          refine (HWI.out w9 hb9').mono ?_
          rintro e wz ⟨rfl, hbz⟩
          have HBZ := Lib.hid (HB7.out.trans (((hb9').trans (hbz.mono (hb9').size)).mono HB7.out.size))
          clear hbz
          go_wp2_with fail
          go_ret
          exact ⟨rfl, HBZ.out⟩
end Go.Proofs.YtmofodaecakkfaaGreat
