/- Walks for lex: idle, and LexCovers. -/
import Derived.Test.YtlingnajbhlpdaaDoorLexL
import Derived.Test.YtlingnajbhlpdaaDoorLexV
namespace Go.Proofs.YtlingnajbhlpdaaDoor
open Go.RowKit Lx

set_option maxHeartbeats 2000000 in
theorem idle_walk (s : ByteArray) (w : World) (hs : s.size ≤ 100000) (h : Lx.idle false s.data.toList = true) :
    Calls Tryd.prog 14 #[.string s] w fun e w' => e = .returned (.bool true) ∧ w = w' := by
  have HH : Hid (Lx.idle false (s.data.toList.drop 0) = true) := Lib.hid h
  clear h
  go_enter Tryd.func14, Tryd.ntmps14
  go_wp2_with fail
  go_loop [3] (fun i => ∃ j : Nat, j ≤ s.size ∧ i = .int .i64 j ∧ Hid (Lx.idle false (s.data.toList.drop j) = true)) (fun i => s.size - (intOf i).toNat)
  case atStart => exact ⟨0, Nat.zero_le _, rfl, HH⟩
  case round =>
    obtain ⟨j, hj, rfl, HJ⟩ := hrel
    clear HH
    by_cases hlt : j < s.size
    · have HC := Lib.hid (Lx.at_cons s j hlt)
      cases h32 : ((s[j].toNat : Int) == 32) with
      | true =>
        have H : Hid (s[j] = 32) := Lib.hid (Lx.u8 32 (by simpa using h32) rfl)
        go_wp2
        go_round
        case rel => exact ⟨j + 1, by omega, by go_num, Lib.hid (by rw [← HJ.out, HC.out, H.out, Lx.idle_blank rfl])⟩
        case measure => simp [intOf]; omega
      | false =>
      cases h9 : ((s[j].toNat : Int) == 9) with
      | true =>
        have H : Hid (s[j] = 9) := Lib.hid (Lx.u8 9 (by simpa using h9) rfl)
        go_wp2
        go_round
        case rel => exact ⟨j + 1, by omega, by go_num, Lib.hid (by rw [← HJ.out, HC.out, H.out, Lx.idle_blank rfl])⟩
        case measure => simp [intOf]; omega
      | false =>
      have HBL : Hid (Lx.blank s[j] = false) := Lib.hid (by rw [Lx.blank, Lx.beq8, Lx.beq8]; simp at h32 h9; simp; exact ⟨by omega, by omega⟩)
      cases hI : isAt s.data.toList j [92, 10] with
      | true =>
        have hI2 := hI
        rw [isAt_prefix (by simp)] at hI2
        have HS := Lib.hid (skip_line hlt (by rw [List.take_of_length_le (by rw [len_drop]; exact Nat.le_refl _)]; exact hI2))
        have HP : Hid (Lib.hasPrefix (s.data.toList.drop j) [92, 10] = true) := Lib.hid hI2
        clear hI2
        go_wp2_with (go_at_call 15; refine (is_any s _ _ j _ rfl hs (by decide) (by omega)).mono ?_; rintro e w' ⟨rfl, rfl⟩)
        have hs2 := HS.out.1
        go_round
        case rel => exact ⟨j + 2, hs2, by go_num, Lib.hid (by
          obtain ⟨r, hr⟩ := List.isPrefixOf_iff_prefix.1 HP.out
          have hd : s.data.toList.drop (j + 2) = r := by rw [← List.drop_drop, ← hr]; rfl
          rw [hd, ← HJ.out, ← hr]; exact Lx.idle_line.symm)⟩
        case measure => simp [intOf]; omega
      | false =>
      have HNI : Hid (¬ (s[j] = 92 ∧ (s.data.toList.drop (j + 1)).head? = some 10)) := Lib.hid (skip_not hlt (by rw [List.take_of_length_le (by rw [len_drop]; exact Nat.le_refl _), ← isAt_prefix (by simp)]; exact hI))
      cases h35 : ((s[j].toNat : Int) == 35) with
      | true =>
        have H : Hid (s[j] = 35) := Lib.hid (Lx.u8 35 (by simpa using h35) rfl)
        go_wp2_with (go_at_call 15; refine (is_any s _ _ j _ rfl hs (by decide) (by omega)).mono ?_; rintro e w' ⟨rfl, rfl⟩)
        go_loop [3] (fun i => ∃ m : Nat, j ≤ m ∧ m < s.size ∧ i = .int .i64 m ∧ Hid (Lx.idle true (s.data.toList.drop (m + 1)) = true)) (fun i => s.size - (intOf i).toNat)
        case atStart => exact ⟨j, Nat.le_refl _, hlt, rfl, Lib.hid (by have h := HJ.out; rw [HC.out, H.out, Lx.idle_rem] at h; exact h)⟩
        case round =>
          obtain ⟨m, hm1, hm2, rfl, HM⟩ := hrel
          by_cases hml : m + 1 < s.size
          · have HCM := Lib.hid (Lx.at_cons s (m + 1) hml)
            have HN : Hid ((s[m + 1] == 10) = false) := Lib.hid (by
              have := HM.out
              rw [HCM.out, Lx.idle_true] at this
              cases h : (s[m + 1] == 10) with
              | false => rfl
              | true => rw [h] at this; simp at this)
            have hm10' : ((s[m + 1].toNat : Int) != 10) = true := by have := HN.out; rw [Lx.beq8] at this; simp at this; simp [this]
            have hml' : (m : Int) + 1 < s.size := by omega
            go_wp2
            go_round
            case rel => exact ⟨m + 1, by omega, by omega, by go_num, Lib.hid (by have h := HM.out; rw [HCM.out, Lx.idle_true, HN.out] at h; simpa using h)⟩
            case measure => simp [intOf]; omega
          · have hml' : ¬ (m : Int) + 1 < s.size := by omega
            go_wp2
            go_round
            case rel => exact ⟨m + 1, by omega, by go_num, Lib.hid (by rw [at_end _ _ (by omega)]; rfl)⟩
            case measure => simp [intOf]; omega
      | false =>
        exfalso
        have h := HJ.out
        rw [HC.out, Lx.idle_none HBL.out HNI.out (by intro h; rw [h] at h35; revert h35; decide)] at h
        cases h
    · go_wp2
      go_ret
      exact ⟨rfl, rfl⟩
theorem cat2_size (a : ByteArray) (tx : Lx.B) : (a ++ (⟨tx.toArray⟩ : ByteArray) ++ (⟨#[32]⟩ : ByteArray)).size = a.size + tx.length + 1 := by
  rw [ByteArray.size_append, ByteArray.size_append]; rfl

theorem idle_ext (s : ByteArray) (a b : Nat) (W : World) (hs : s.size ≤ 100000) (h : Lx.idle false ((s.data.toList.drop a).take (b - a)) = true) :
    Calls Tryd.prog 14 #[.string (s.extract a b)] W fun e w' => e = .returned (.bool true) ∧ w' = W :=
  (idle_walk (s.extract a b) W (by rw [Lib.size_eq, Lib.extract_data, List.length_take, List.length_drop, ← Lib.size_eq]; omega) (by rw [Lib.extract_data]; exact h)).mono fun _ _ h => ⟨h.1, h.2.symm⟩

set_option maxRecDepth 100000 in
set_option maxHeartbeats 4000000 in
theorem law_covers (s : ByteArray) (w : World) (hT : Table w) :
    Calls Tryd.prog 5 #[.string s] w fun e w' => e = .returned (.bool true) ∧ Below w.heap.size w w' := by
  have HT := Lib.hid hT
  clear hT
  by_cases hs : s.size ≤ 8000
  · go_enter Tryd.func5, Tryd.ntmps5
    go_wp2_with fail
    refine (works_any w HT.out).mono ?_
    rintro e w1 ⟨rfl, hb1⟩
    have HB1 := Lib.hid hb1
    clear hb1
    go_wp2_with fail
    refine (tokens_any s w1 (by omega) (HT.out.grows HB1.out)).mono ?_
    rintro e w2 ⟨v, rfl, ho, hb⟩
    have HO := Lib.hid ho
    have HB2 := Lib.hid (HB1.out.trans (hb.mono HB1.out.size))
    clear ho hb
    cases he : ((Lx.tokens s.data.toList).2.2 != 0) with
    | true =>
      go_wp2_with fail
      go_ret
      exact ⟨rfl, HB2.out⟩
    | false =>
      have hE : (Lx.tokens s.data.toList).2.2 = 0 := by simpa using he
      have HTK : Hid (Lx.tokens s.data.toList = ((Lx.tokens s.data.toList).1, (Lx.tokens s.data.toList).2.1, 0)) := Lib.hid (by rw [← hE])
      have HCV := Lib.hid (Lx.tokens_cov HTK.out)
      have hfew := Lx.tokens_few s.data.toList
      rw [← Lib.size_eq] at hfew
      clear hE
      generalize (Lx.tokens s.data.toList).1 = ts at *
      obtain ⟨A, cap, rfl, hcap, hA⟩ := own_slice HO.out
      have HA := Lib.hid hA
      clear hA
      generalize hn : ts.length = n at *
      have HN := Lib.hid hn
      clear hn
      go_wp2_with fail
      go_loopw [6, 7, 8] (fun a g i wr => ∃ (k at_ m : Nat) (ag : ByteArray), k ≤ n ∧ i = .int .i64 k ∧ a = .int .i64 at_ ∧ g = .string ag ∧ at_ ≤ s.size ∧ ag.size ≤ 2 * at_ ∧ Hid (ag.data.toList = Lx.again (ts.take k)) ∧ Hid (Lx.Cov s.data.toList at_ (ts.drop k)) ∧ wr = w2.drewN m) (fun _ _ i _ => n - (intOf i).toNat)
      case atStart => exact ⟨0, 0, 0, ByteArray.empty, Nat.zero_le _, rfl, rfl, rfl, Nat.zero_le _, by decide, Lib.hid rfl, HCV, rfl⟩
      case round =>
        obtain ⟨k, at_, m, ag, hk, rfl, rfl, rfl, hat, hag, HAG, HCO, rfl⟩ := hrel
        by_cases hkn : k < n
        · have hkt : k < ts.length := by rw [HN.out]; exact hkn
          have hco := HCO.out
          rw [List.drop_eq_getElem_cons hkt] at hco
          obtain ⟨h1, h2, h3, h4, h5, h6⟩ := hco
          have htk := tok_at ts k hkt
          obtain ⟨g, rfl, _, _, _, hcell⟩ := HA.out (by omega)
          have c1 := hcell _ _ htk.2.1
          have c2 := hcell _ _ htk.2.2
          have HAS : Hid (Lx.again (ts.take (k + 1)) = Lx.again (ts.take k) ++ ts[k].text ++ [32]) := Lib.hid (by rw [List.take_succ_eq_append_getElem hkt, Lx.again_snoc])
          rw [← Lib.size_eq] at h4
          have hne : List.isEmpty ts[k].text = false := by
            cases hx : ts[k].text with
            | nil => exact absurd hx h5
            | cons _ _ => rfl
          have h7 : 0 < ts[k].text.length := List.length_pos_iff.2 h5
          have HX6 := Lib.hid h6
          have HID : Hid (∀ W, Calls Tryd.prog 14 #[.string (s.extract at_ ts[k].at_)] W fun e w' => e = .returned (.bool true) ∧ w' = W) := Lib.hid (fun W => idle_ext s _ _ W (by omega) h2)
          have hisat : isAt s.data.toList ts[k].at_ ts[k].text = true := by
            rw [isAt_take (by rw [← Lib.size_eq]; exact h4), h3]; simp
          have HIS : Hid (∀ W, Calls Tryd.prog 15 #[.string s, .int .i64 ts[k].at_, .string ⟨ts[k].text.toArray⟩] W fun e w' => e = .returned (.bool true) ∧ w' = W) := Lib.hid (fun W =>
            (is_any s ⟨ts[k].text.toArray⟩ _ ts[k].at_ W rfl (by omega) (by rw [Lib.size_eq]; show ts[k].text.length ≤ _; omega) (by omega)).mono fun e w' h => ⟨h.1.trans (by rw [show (⟨ts[k].text.toArray⟩ : ByteArray).data.toList = ts[k].text from rfl, hisat]), h.2.symm⟩)
          clear h2 h3 h5 h6 hisat htk hcell
          generalize ts[k].at_ = ta at *
          generalize ts[k].text = tx at *
          have hta : ta ≤ s.size := by omega
          have hdl : decide ((ta : Int) < at_) = false := by simp; omega
          have HSZ : Hid ((⟨tx.toArray⟩ : ByteArray).size = tx.length) := Lib.hid (by rw [Lib.size_eq])
          go_wp2_with fail
          go_quiet ((first | (go_at_call 14; exact (HID.out _).mono fun _ _ h => ⟨h.1, _, h.2⟩) | (go_at_call 15; exact (HIS.out _).mono fun _ _ h => ⟨h.1, _, h.2⟩)))
          go_wp2_with fail
          have hwr : IntKind.i64.wrap ((ta : Int) + tx.length) = ta + tx.length := by rw [IntKind.wrap_i64]; omega
          go_quiet (fail)
          clear hwr
          have hsz := HSZ.out
          go_wp2_with fail
          go_roundw
          case rel => exact ⟨k + 1, ta + tx.length, _, _, by omega, by go_num, by go_num, rfl, by omega, by rw [cat2_size]; omega, Lib.hid (by rw [HAS.out, ← HAG.out]; simp), HX6, rfl⟩
          case measure => simp [intOf]; omega
        · obtain rfl : n = k := by omega
          have hdrop : ts.drop n = [] := List.drop_of_length_le (by rw [HN.out]; exact Nat.le_refl _)
          have hco := HCO.out
          rw [hdrop] at hco
          have HID : Hid (∀ W, Calls Tryd.prog 14 #[.string (s.extract at_ s.size)] W fun e w' => e = .returned (.bool true) ∧ w' = W) := Lib.hid (fun W => idle_ext s _ _ W (by omega) (by
            rw [List.take_of_length_le (by rw [len_drop]; exact Nat.le_refl _)]; exact hco.2))
          have HAGN : Hid (ag.data.toList = Lx.again ts) := Lib.hid (by rw [HAG.out, List.take_of_length_le (by rw [HN.out]; exact Nat.le_refl _)])
          clear hdrop hco
          go_wp2_with fail
          refine (HID.out _).mono ?_
          rintro e w' ⟨rfl, rfl⟩
          by_cases h0 : 0 < s.size
          · cases h92 : (((s[s.size - 1]).toNat : Int) == 92) with
            | true =>
              go_wp2_with fail
              go_ret
              exact ⟨rfl, below_drewN HB2.out _⟩
            | false =>
              have HCL : Hid (Lx.Clean s.data.toList) := Lib.hid (by unfold Lx.Clean; rw [last_byte s h0]; intro h; injection h with h; rw [h] at h92; revert h92; decide)
              go_wp2_with fail
              obtain ⟨us, hus, hkt⟩ := Lx.tokens_again HTK.out HCL.out (by rw [← Lib.size_eq]; exact hs)
              have HKT := Lib.hid hkt
              have HUS := Lib.hid hus
              have hun : us.length = ts.length := by have := congrArg List.length hkt; simpa using this
              have hB2m := Lib.hid (below_drewN HB2.out m)
              clear hkt hus
              refine (tokens_any ag (w2.drewN m) (by omega) (HT.out.grows hB2m.out)).mono ?_
              rw [show ag.data.toList = Lx.again ts from HAGN.out]
              rintro e w3 ⟨vm, rfl, hom, hbm⟩
              rw [HUS.out] at hom ⊢
              simp only [hun, HN.out] at hom
              have HB3 := Lib.hid (hB2m.out.trans (hbm.mono hB2m.out.size))
              have hol : w3.ownsRow w1.heap.size 31 3 (.slice A n cap) n (tokCells ts) := own_below (own_drewN HO.out m) hbm
              obtain ⟨Am, capm, rfl, hcapm, hAm⟩ := own_slice hom
              obtain ⟨Al, capl, hel, _, hAl⟩ := own_slice hol
              obtain ⟨rfl, -, rfl⟩ : A = Al ∧ n = n ∧ cap = capl := by simpa using hel
              have HAM := Lib.hid hAm
              have HAL := Lib.hid hAl
              have HUN := Lib.hid hun
              clear hom hol hAm hAl hel hun hbm
              go_wp2_with fail
              go_loopw [12] (fun i wr => ∃ k m : Nat, k ≤ n ∧ i = .int .i64 k ∧ wr = w3.drewN m) (fun i _ => n - (intOf i).toNat)
              case atStart => exact ⟨0, 0, Nat.zero_le _, rfl, rfl⟩
              case round =>
                obtain ⟨k, m, hk, rfl, rfl⟩ := hrel
                by_cases hkn : k < n
                · have h1 : k < ts.length := by rw [HN.out]; exact hkn
                  have h2 : k < us.length := by rw [HUN.out]; exact h1
                  obtain ⟨gm, rfl, _, _, _, hcm⟩ := HAM.out (by omega)
                  obtain ⟨gl, rfl, _, _, _, hcl⟩ := HAL.out (by omega)
                  have htm := tok_at us k h2
                  have htl := tok_at ts k h1
                  have hke : Lx.kt us[k] = Lx.kt ts[k] := by
                    have := congrArg (·[k]?) HKT.out
                    simpa [h1, h2] using this
                  have hk1 : us[k].kind = ts[k].kind := congrArg Prod.fst hke
                  have hk2 : us[k].text = ts[k].text := congrArg Prod.snd hke
                  have c0 := hcl _ _ htl.1
                  have c1 := hcl _ _ htl.2.1
                  have d0 := hcm _ _ htm.1
                  have d1 := hcm _ _ htm.2.1
                  rw [hk1] at d0
                  rw [hk2] at d1
                  clear hke hk1 hk2 htm htl hcm hcl
                  generalize ts[k].kind = kd at *
                  generalize ts[k].text = tx at *
                  go_wp2_with fail
                  go_quiet (fail)
                  go_wp2_with fail
                  go_roundw
                  case rel => exact ⟨k + 1, _, by omega, by go_num, rfl⟩
                  case measure => simp [intOf]; omega
                · go_wp2_with fail
                  go_ret
                  exact ⟨rfl, below_drewN HB3.out _⟩
          · have HCL : Hid (Lx.Clean s.data.toList) := Lib.hid (by unfold Lx.Clean; rw [show s.data.toList = [] from List.eq_nil_of_length_eq_zero (by rw [← Lib.size_eq]; omega)]; simp)
            go_wp2_with fail
            obtain ⟨us, hus, hkt⟩ := Lx.tokens_again HTK.out HCL.out (by rw [← Lib.size_eq]; exact hs)
            have HKT := Lib.hid hkt
            have HUS := Lib.hid hus
            have hun : us.length = ts.length := by have := congrArg List.length hkt; simpa using this
            have hB2m := Lib.hid (below_drewN HB2.out m)
            clear hkt hus
            refine (tokens_any ag (w2.drewN m) (by omega) (HT.out.grows hB2m.out)).mono ?_
            rw [show ag.data.toList = Lx.again ts from HAGN.out]
            rintro e w3 ⟨vm, rfl, hom, hbm⟩
            rw [HUS.out] at hom ⊢
            simp only [hun, HN.out] at hom
            have HB3 := Lib.hid (hB2m.out.trans (hbm.mono hB2m.out.size))
            have hol : w3.ownsRow w1.heap.size 31 3 (.slice A n cap) n (tokCells ts) := own_below (own_drewN HO.out m) hbm
            obtain ⟨Am, capm, rfl, hcapm, hAm⟩ := own_slice hom
            obtain ⟨Al, capl, hel, _, hAl⟩ := own_slice hol
            obtain ⟨rfl, -, rfl⟩ : A = Al ∧ n = n ∧ cap = capl := by simpa using hel
            have HAM := Lib.hid hAm
            have HAL := Lib.hid hAl
            have HUN := Lib.hid hun
            clear hom hol hAm hAl hel hun hbm
            go_wp2_with fail
            go_loopw [12] (fun i wr => ∃ k m : Nat, k ≤ n ∧ i = .int .i64 k ∧ wr = w3.drewN m) (fun i _ => n - (intOf i).toNat)
            case atStart => exact ⟨0, 0, Nat.zero_le _, rfl, rfl⟩
            case round =>
              obtain ⟨k, m, hk, rfl, rfl⟩ := hrel
              by_cases hkn : k < n
              · have h1 : k < ts.length := by rw [HN.out]; exact hkn
                have h2 : k < us.length := by rw [HUN.out]; exact h1
                obtain ⟨gm, rfl, _, _, _, hcm⟩ := HAM.out (by omega)
                obtain ⟨gl, rfl, _, _, _, hcl⟩ := HAL.out (by omega)
                have htm := tok_at us k h2
                have htl := tok_at ts k h1
                have hke : Lx.kt us[k] = Lx.kt ts[k] := by
                  have := congrArg (·[k]?) HKT.out
                  simpa [h1, h2] using this
                have hk1 : us[k].kind = ts[k].kind := congrArg Prod.fst hke
                have hk2 : us[k].text = ts[k].text := congrArg Prod.snd hke
                have c0 := hcl _ _ htl.1
                have c1 := hcl _ _ htl.2.1
                have d0 := hcm _ _ htm.1
                have d1 := hcm _ _ htm.2.1
                rw [hk1] at d0
                rw [hk2] at d1
                clear hke hk1 hk2 htm htl hcm hcl
                generalize ts[k].kind = kd at *
                generalize ts[k].text = tx at *
                go_wp2_with fail
                go_quiet (fail)
                go_wp2_with fail
                go_roundw
                case rel => exact ⟨k + 1, _, by omega, by go_num, rfl⟩
                case measure => simp [intOf]; omega
              · go_wp2_with fail
                go_ret
                exact ⟨rfl, below_drewN HB3.out _⟩
  · go_enter Tryd.func5, Tryd.ntmps5
    go_wp2_with fail
    refine (works_any w HT.out).mono ?_
    rintro e w1 ⟨rfl, hb1⟩
    have HB1 := Lib.hid hb1
    clear hb1
    have hbg : (8000 : Int) < s.size := by omega
    go_wp2_with fail
    refine (works_any w1 (HT.out.grows HB1.out)).mono ?_
    rintro e w2 ⟨rfl, hb2⟩
    have HB2 := Lib.hid hb2
    clear hb2
    go_wp2_with fail
    go_ret
    exact ⟨rfl, HB1.out.trans (HB2.out.mono HB1.out.size)⟩
end Go.Proofs.YtlingnajbhlpdaaDoor
