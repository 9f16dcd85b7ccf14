/- The statement on what ! ahead turns about, and what -e is. -/
import Derived.Test.YtfilbknnpjbmcaaGreatKa44
import Derived.Test.YtfilbknnpjbmcaaGreatKa45
namespace Go.Proofs.YtfilbknnpjbmcaaGreat
open Go.RowKit Px Nx Wk Pr
open Works14 (Bk)
theorem one_row (w : World) (B : Nat) (s : ByteArray) (hB : B ≤ w.heap.size) : (w.alloc (.cells #[.string s] 9)).ownsRow B 9 1 (.slice (some ⟨w.heap.size, 0, none⟩) 1 1) 1 [.string s] :=
  ⟨rfl, .inr ⟨w.heap.size, 1, _, rfl, hB, heap_alloc_new w _, Nat.le_refl _, by unfold maxLen; omega, rfl, rfl⟩⟩
theorem lit_yes' {s t : ByteArray} {l : List UInt8} (h : s = t) (ht : t.toList = l) : (s.toList == l) = true := by rw [h, ht, beq_self_eq_true]
theorem lit_no' {s t : ByteArray} {l : List UInt8} (h : s ≠ t) (ht : t.toList = l) : (s.toList == l) = false := by rw [← ht, str_eq, decide_eq_false h]
theorem eq_l : sEq.toList = [61] := by rw [Lib.toList_data]; rfl
theorem ne_l : sNe.toList = [33, 61] := by rw [Lib.toList_data]; rfl
set_option maxRecDepth 100000 in
set_option maxHeartbeats 16000000 in
theorem law_not {W : World} {cs : List Value} {n : Nd} (hn : NodeR W cs n) (hB : n.bulk ≤ 2000000) {v : Value} {xs : List ByteArray} (hx : PlR W v xs) (p : ByteArray) :
    Calls Tryz.prog 4 #[.agg cs.toArray, v, .string p] W fun e w' => e = .returned (.bool true) ∧ Below W.heap.size W w' := by
  obtain ⟨p1, q1, c1, d1, rfl⟩ := hn.cells
  have HN := Lib.hid hn
  have HX := Lib.hid hx
  obtain ⟨px, cx, rfl, hxs, hxl, hxm⟩ := hx
  have hcx : cx ≤ 9223372036854775807 := by unfold maxLen at hxm; omega
  clear hn hxm hxs
  go_enter Tryz.func4, Tryz.ntmps4
  go_wp2_with fail
  have HBW : Hid (Below W.heap.size W (W.alloc (.cells #[.int .u8 n.kind.toNat, .string n.text, .slice p1 n.names.length c1, .slice q1 n.kids.length d1] 25))) := Lib.hid (below_alloc (Below.refl _ _))
  have HBX : Hid (Bk (W.alloc (.cells #[.int .u8 n.kind.toNat, .string n.text, .slice p1 n.names.length c1, .slice q1 n.kids.length d1] 25)) W.heap.size [.int .u8 n.kind.toNat, .string n.text, .slice p1 n.names.length c1, .slice q1 n.kids.length d1] 25) := Lib.hid (Bk.newE rfl)
  have HL := Lib.hid (long_any HN.out hB _ HBW.out _ xs (HX.out.grown HBW.out))
  generalize W.alloc (.cells #[.int .u8 n.kind.toNat, .string n.text, .slice p1 n.names.length c1, .slice q1 n.kids.length d1] 25) = w1 at *
  refine HL.out.mono ?_
  rintro e w2 ⟨⟨lb, rfl, hlb⟩, hb2⟩
  have HB2 := Lib.hid (HBW.out.trans (hb2.mono HBW.out.size))
  have HX2 := Lib.hid (HBX.out.kept hb2)
  clear hb2 HBX HBW HL
  cases lb with
  | true =>
    clear hlb
    go_wp2_with fail
    refine (awake_any w2).mono ?_
    rintro e w3 ⟨rfl, hb3⟩
    have HB3 := Lib.hid (HB2.out.trans (hb3.mono HB2.out.size))
    clear hb3
    go_wp2_with fail
    go_ret
    exact ⟨rfl, HB3.out⟩
  | false =>
  obtain ⟨hmay, hno, hx100, hx6⟩ := hlb rfl
  have HXS := Lib.hid hx6
  clear hlb hx6 hno
  by_cases hpl : 600 < p.size
  · go_wp2_with fail
    refine (awake_any w2).mono ?_
    rintro e w3 ⟨rfl, hb3⟩
    have HB3 := Lib.hid (HB2.out.trans (hb3.mono HB2.out.size))
    clear hb3
    go_wp2_with fail
    go_ret
    exact ⟨rfl, HB3.out⟩
  go_wp2_with fail
  refine (awake_any w2).mono ?_
  rintro e w3 ⟨rfl, hb3⟩
  have HB3 := Lib.hid (HB2.out.trans (hb3.mono HB2.out.size))
  have HX3 := Lib.hid (HX2.out.kept hb3)
  clear hb3 HB2 HX2
  obtain ⟨x0, x1, x2, x3⟩ : w3.cell? ⟨W.heap.size, 0, none⟩ = some (.int .u8 n.kind.toNat) ∧ w3.cell? ⟨W.heap.size, 1, none⟩ = some (.string n.text) ∧ w3.cell? ⟨W.heap.size, 2, none⟩ = some (.slice p1 n.names.length c1) ∧ w3.cell? ⟨W.heap.size, 3, none⟩ = some (.slice q1 n.kids.length d1) := ⟨HX3.out.at rfl, HX3.out.at rfl, HX3.out.at rfl, HX3.out.at rfl⟩
  go_wp2_with fail
  have hgb : n.girth ≤ 330000 := by have := may_bulk hmay; have := n.girth_bulk; omega
  refine (fnew_any HN.out (by omega) w3 HB3.out).mono ?_
  rintro e w4 ⟨hnw, hb4⟩
  rw [if_pos hmay] at hnw
  obtain ⟨b, y0, y1, y2, y3, rfl, hbb, ht, _⟩ := hnw
  have HT4 := Lib.hid ht
  have HB4 := Lib.hid (HB3.out.trans (hb4.mono HB3.out.size))
  have HX4 := Lib.hid (HX3.out.kept hb4)
  clear hb4 ht hbb x0 x1 x2 x3 HB3 HX3
  obtain ⟨hw, hk⟩ := may_well hmay
  have HTR : Hid (Tr n) := Lib.hid ⟨hw, hk, by omega⟩
  obtain ⟨K, hK⟩ := orc n
  have HK := Lib.hid hK
  clear hw hk hgb hmay hK
  have HHO : Hid (∀ (wx : World) (v' : Value) (l : List ByteArray), TreeX wx b n y0 y1 y2 y3 → (∀ x ∈ l, x.size ≤ 40000) → PlR wx v' l → Calls Tryz.prog 11 #[.iface 28 (.pointer (some ⟨b, 0, none⟩)), v'] wx fun e w' => e = .returned (ansV (holdsD K l)) ∧ Below wx.heap.size wx w') := Lib.hid fun wx v' l ht hl hp => pHolds_any ht HTR.out HK.out l hl hp
  go_wp2_with fail
  have hal : Below w4.heap.size w4 (w4.alloc (.cells #[.string ⟨#[45, 101]⟩, .string p] 9)) := below_alloc (Below.refl _ _)
  have HB5 := Lib.hid (HB4.out.trans (hal.mono HB4.out.size))
  have HT5 := Lib.hid (HT4.out.kept hal)
  have P1 : Hid (Bk (w4.alloc (.cells #[.string ⟨#[45, 101]⟩, .string p] 9)) w4.heap.size [.string sE, .string p] 9) := Lib.hid (Bk.new w4 _ _)
  clear hal HB4 HT4
  generalize (w4.alloc (.cells #[.string ⟨#[45, 101]⟩, .string p] 9)) = w5 at *
  generalize w4.heap.size = g4 at *
  refine (HHO.out w5 _ [sE, p] HT5.out (fun x hx => by
    simp only [List.mem_cons, List.not_mem_nil, or_false] at hx
    rcases hx with rfl | rfl
    · decide
    · omega) (P1.out.pl (l := [sE, p]) (show 2 ≤ maxLen by decide))).mono ?_
  rintro e w6 ⟨he, hb⟩
  have he : e = .returned (.tuple #[.bool (!decide (K true p = 0)), .bool true]) := he
  subst he
  have HB6 := Lib.hid (HB5.out.trans (hb.mono HB5.out.size))
  have HT6 := Lib.hid (HT5.out.kept hb)
  clear hb HB5 HT5 P1
  go_wp2_with fail
  have hal : Below w6.heap.size w6 (w6.alloc (.cells #[.string ⟨#[45, 102]⟩, .string p] 9)) := below_alloc (Below.refl _ _)
  have HB7 := Lib.hid (HB6.out.trans (hal.mono HB6.out.size))
  have HT7 := Lib.hid (HT6.out.kept hal)
  have P1 : Hid (Bk (w6.alloc (.cells #[.string ⟨#[45, 102]⟩, .string p] 9)) w6.heap.size [.string sF, .string p] 9) := Lib.hid (Bk.new w6 _ _)
  clear hal HB6 HT6
  generalize (w6.alloc (.cells #[.string ⟨#[45, 102]⟩, .string p] 9)) = w7 at *
  generalize w6.heap.size = g6 at *
  refine (HHO.out w7 _ [sF, p] HT7.out (fun x hx => by
    simp only [List.mem_cons, List.not_mem_nil, or_false] at hx
    rcases hx with rfl | rfl
    · decide
    · omega) (P1.out.pl (l := [sF, p]) (show 2 ≤ maxLen by decide))).mono ?_
  rintro e w8 ⟨he, hb⟩
  have he : e = .returned (.tuple #[.bool (decide (K true p = 1)), .bool true]) := he
  subst he
  have HB8 := Lib.hid (HB7.out.trans (hb.mono HB7.out.size))
  have HT8 := Lib.hid (HT7.out.kept hb)
  clear hb HB7 HT7 P1
  go_wp2_with fail
  have hal : Below w8.heap.size w8 (w8.alloc (.cells #[.string ⟨#[45, 100]⟩, .string p] 9)) := below_alloc (Below.refl _ _)
  have HB9 := Lib.hid (HB8.out.trans (hal.mono HB8.out.size))
  have HT9 := Lib.hid (HT8.out.kept hal)
  have P1 : Hid (Bk (w8.alloc (.cells #[.string ⟨#[45, 100]⟩, .string p] 9)) w8.heap.size [.string sD, .string p] 9) := Lib.hid (Bk.new w8 _ _)
  clear hal HB8 HT8
  generalize (w8.alloc (.cells #[.string ⟨#[45, 100]⟩, .string p] 9)) = w9 at *
  generalize w8.heap.size = g8 at *
  refine (HHO.out w9 _ [sD, p] HT9.out (fun x hx => by
    simp only [List.mem_cons, List.not_mem_nil, or_false] at hx
    rcases hx with rfl | rfl
    · decide
    · omega) (P1.out.pl (l := [sD, p]) (show 2 ≤ maxLen by decide))).mono ?_
  rintro e w10 ⟨he, hb⟩
  have he : e = .returned (.tuple #[.bool (decide (K true p = 2)), .bool true]) := he
  subst he
  have HB10 := Lib.hid (HB9.out.trans (hb.mono HB9.out.size))
  have HT10 := Lib.hid (HT9.out.kept hb)
  clear hb HB9 HT9 P1
  obtain ⟨i0, hi, hz0, hz1, hz2⟩ := info_parts (i := Tryz.prog.info? 9) (z := some (.string ⟨#[]⟩)) (n := 1) (m := 16) (by kernel_rfl)
  have HI := Lib.hid hi
  clear hi
  have HFO := Lib.hid (orc_found HTR.out.well HTR.out.kind HK.out p)
  have HX0 : Hid (xs.length = 2 → xs.getD 0 ⟨#[]⟩ ≠ sEq → xs.getD 0 ⟨#[]⟩ ≠ sNe → 1 ≤ xs.length → xs.length ≤ 3 → holdsD K (sBang :: xs) = (holdsD K xs).map (!·)) := Lib.hid fun h2 h3 h4 h5 h6 => hold_not K h5 h6 fun _ => ⟨h3, h4⟩
  have HX1 : Hid (xs.length ≠ 2 → 1 ≤ xs.length → xs.length ≤ 3 → holdsD K (sBang :: xs) = (holdsD K xs).map (!·)) := Lib.hid fun h2 h5 h6 => hold_not K h5 h6 fun h => absurd h h2
  have PX10 := Lib.hid (HX.out.grown HB10.out)
  go_upto_region 9 with fail
  go_cut [86] (fun cv wx => cv = .bool false ∧ w10 = wx)
  case first =>
    generalize K true p = kp at *
    rcases HFO.out with rfl | rfl | rfl
    · go_wp2_with fail
      go_meet
      case rel => exact ⟨rfl, rfl⟩
    · go_wp2_with fail
      go_meet
      case rel => exact ⟨rfl, rfl⟩
    · go_wp2_with fail
      go_meet
      case rel => exact ⟨rfl, rfl⟩
  case rest =>
    obtain ⟨rfl, rfl⟩ := hcut
    go_upto_region 11 with fail
    go_cut [111] (fun cv wx => ∃ bb : Bool, cv = .bool bb ∧ w10 = wx ∧ Hid (bb = false → holdsD K (sBang :: xs) = (holdsD K xs).map (!·) ∧ xs.length ≤ 3))
    case first =>
      by_cases hl0 : xs.length = 0
      · have g1 : (xs.length : Int) < 1 := by omega
        go_wp2_with fail
        go_meet
        case rel => exact ⟨true, rfl, rfl, Lib.hid (fun h => by cases h)⟩
      by_cases hl3 : 3 < xs.length
      · have g0 : ¬ (xs.length : Int) < 1 := by omega
        have g1 : (3 : Int) < (xs.length : Int) := by omega
        go_wp2_with fail
        go_meet
        case rel => exact ⟨true, rfl, rfl, Lib.hid (fun h => by cases h)⟩
      have g0 : ¬ (xs.length : Int) < 1 := by omega
      have g1 : ¬ (3 : Int) < (xs.length : Int) := by omega
      by_cases h2 : xs.length = 2
      rotate_left
      · have g2 : ((xs.length : Int) == 2) = false := beq_eq_false_iff_ne.2 (by omega)
        go_wp2_with fail
        go_meet
        case rel => exact ⟨false, rfl, rfl, Lib.hid (fun _ => ⟨HX1.out h2 (by omega) (by omega), by omega⟩)⟩
      obtain ⟨bb, oo, hpx, hc0⟩ : ∃ bb oo, px = some ⟨bb, oo, none⟩ ∧ w10.cell? ⟨bb, oo, none⟩ = some (.string (xs.getD 0 ⟨#[]⟩)) := by
        obtain ⟨p', c', e, hs, _, _⟩ := PX10.out
        cases e
        obtain ⟨bb, oo, e, hc⟩ := hs 0 (by omega)
        exact ⟨bb, oo, e, hc⟩
      subst hpx
      have g2 : ((xs.length : Int) == 2) = true := by rw [h2]; rfl
      have H2 := Lib.hid h2
      clear h2
      have g3 : (1 : Int) ≤ (xs.length : Int) := by omega
      generalize hs0 : xs.getD 0 ⟨#[]⟩ = s0 at *
      clear hs0
      by_cases h3 : s0 = sEq
      · have e3 : (s0.toList == ([61] : List UInt8)) = true := lit_yes' h3 eq_l
        clear h3
        go_wp2_with fail
        go_meet
        case rel => exact ⟨true, rfl, rfl, Lib.hid (fun h => by cases h)⟩
      have e3 : (s0.toList == ([61] : List UInt8)) = false := lit_no' h3 eq_l
      by_cases h4 : s0 = sNe
      · have e4 : (s0.toList == ([33, 61] : List UInt8)) = true := lit_yes' h4 ne_l
        clear h3 h4
        go_wp2_with fail
        go_meet
        case rel => exact ⟨true, rfl, rfl, Lib.hid (fun h => by cases h)⟩
      have e4 : (s0.toList == ([33, 61] : List UInt8)) = false := lit_no' h4 ne_l
      have HQ : Hid (holdsD K (sBang :: xs) = (holdsD K xs).map (!·)) := Lib.hid (HX0.out H2.out h3 h4 (by omega) (by omega))
      clear h3 h4
      go_wp2_with fail
      go_meet
      case rel => exact ⟨false, rfl, rfl, Lib.hid (fun _ => ⟨HQ.out, by omega⟩)⟩
    case rest =>
      obtain ⟨bb, rfl, rfl, HQ⟩ := hcut
      cases bb with
      | true =>
        go_wp2_with fail
        go_ret
        exact ⟨rfl, HB10.out⟩
      | false =>
        have HL3 := Lib.hid (HQ.out rfl).2
        have HQ2 := Lib.hid (HQ.out rfl).1
        have HH1 := Lib.hid (HHO.out w10 _ xs HT10.out (fun x hx => by have := HXS.out x hx; omega) PX10.out)
        go_wp2_with fail
        refine HH1.out.mono ?_
        rintro e w11 ⟨he, hb⟩
        have HB11 := Lib.hid (HB10.out.trans (hb.mono HB10.out.size))
        have HT11 := Lib.hid (HT10.out.kept hb)
        clear hb HB10 HT10 HH1
        obtain ⟨a1, a2, ha, hae⟩ : ∃ a1 a2, ansV (holdsD K xs) = .tuple #[.bool a1, .bool a2] ∧ ansV ((holdsD K xs).map (!·)) = .tuple #[.bool (a2 && !a1), .bool a2] := by
          cases holdsD K xs with
          | none => exact ⟨false, false, rfl, rfl⟩
          | some h => exact ⟨h, true, rfl, rfl⟩
        rw [ha] at he
        subst he
        have HAE := Lib.hid hae
        clear ha hae
        obtain ⟨p5, c5, e5, hst, _, _⟩ := HX.out.grown HB11.out
        cases e5
        have HST := Lib.hid hst
        clear hst
        go_upto_region 14 with fail
        apply wp_region_lit
        refine wpList_plain rfl fun _ hK => ?_
        go_simp
        refine hK _ _ ?_
        clear hK
        refine wpList_plain rfl fun _ hK => ?_
        go_simp
        refine hK _ _ ?_
        clear hK
        refine wpList_plain rfl fun _ hK => ?_
        go_simp
        refine hK _ _ ?_
        clear hK
        refine wpList_plain rfl fun _ hK => ?_
        go_simp
        refine hK _ _ ?_
        clear hK
        have hal : Below w11.heap.size w11 (w11.alloc (.cells #[.string sBang] 9)) := below_alloc (Below.refl _ _)
        refine wpList_append_strs _ rfl (.tmp 122) (.tmp 123) 22 rfl w11.heap.size 9 i0 (.string ⟨#[]⟩) Tryz.underlying22 HI.out hz0 hz1 hz2 rfl _ _ _ rfl (one_row w11 w11.heap.size sBang (Nat.le_refl _)) px cx xs rfl (HST.out.grown hal) (by omega) (by simp) ?_
        intro vl w12 g3 g4 _
        have HB12 := Lib.hid (HB11.out.trans ((hal.grown g4 (by simp) fun j hj => by cases hj; exact Nat.le_refl _).mono HB11.out.size))
        have HT12 := Lib.hid (HT11.out.kept (hal.grown g4 (by simp) fun j hj => by cases hj; exact Nat.le_refl _))
        have HPL := Lib.hid (plR_of_own (xs := sBang :: xs) (by
          have e : ([Value.string sBang] ++ xs.map Value.string) = (sBang :: xs).map Value.string := by simp
          rw [e, show 1 + xs.length = (sBang :: xs).length from by rw [List.length_cons]; omega] at g3
          exact g3))
        clear g3 g4 hal HB11 HT11
        have HH2 := Lib.hid (HHO.out w12 _ (sBang :: xs) HT12.out (fun x hx => by
          rcases List.mem_cons.1 hx with rfl | hx
          · decide
          · have := HXS.out x hx; omega) HPL.out)
        rw [HQ2.out] at HH2
        obtain ⟨pl, dl, rfl, _, _, _⟩ := HPL.out
        go_wp2_with fail
        refine HH2.out.mono ?_
        rintro e w13 ⟨he, hb⟩
        rw [HAE.out] at he
        subst he
        have HB13 := Lib.hid (HB12.out.trans (hb.mono HB12.out.size))
        clear hb
        cases a1 <;> cases a2
        · go_wp2_with fail
          go_ret
          exact ⟨rfl, HB13.out⟩
        · go_wp2_with fail
          go_ret
          exact ⟨rfl, HB13.out⟩
        · go_wp2_with fail
          go_ret
          exact ⟨rfl, HB13.out⟩
        · go_wp2_with fail
          go_ret
          exact ⟨rfl, HB13.out⟩
end Go.Proofs.YtfilbknnpjbmcaaGreat
