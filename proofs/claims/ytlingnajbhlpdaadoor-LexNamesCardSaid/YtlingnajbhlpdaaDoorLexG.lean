/- Walks of the reference for lex: word. -/
import Derived.Test.YtlingnajbhlpdaaDoorLexF
namespace Go.Proofs.YtlingnajbhlpdaaDoor
open Go.RowKit Lx

def WordRes (x : Nat × Bool) (w : World) (e : Ending) (w' : World) : Prop :=
  Below w.heap.size w w' ∧ e = .returned (.tuple #[.int .i64 x.1, .int .i64 (if x.2 = true then -1 else x.1)])

theorem esc_at (s : ByteArray) (j : Nat) (h : j < s.size) (h92 : s[j] = 92) : Lx.word 0 j 0 (s.data.toList.drop j) = Lx.word 0 (min (j + 2) s.size) 0 (s.data.toList.drop (min (j + 2) s.size)) := by
  rw [Lx.at_cons s j h, h92, Lx.w_esc, len_drop, List.drop_drop, show j + 1 + (s.size - (j + 1)) = s.size from by omega]
  by_cases h2 : j + 2 ≤ s.size
  · rw [Nat.min_eq_left h2]
  · rw [at_end _ (j + 1 + 1) (by omega), at_end _ (min (j + 2) s.size) (by omega)]

set_option maxRecDepth 100000 in
set_option maxHeartbeats 2000000 in
theorem wordRef_any (s : ByteArray) (k : Nat) (w : World) (hs : s.size ≤ 100000) (hk : k ≤ s.size) :
    Calls Tryd.prog 20 #[.string s, .int .i64 k] w (WordRes (Lx.word 0 k 0 (s.data.toList.drop k)) w) := by
  obtain ⟨R, hR⟩ : ∃ R, R = Lx.word 0 k 0 (s.data.toList.drop k) := ⟨_, rfl⟩
  rw [← hR]
  have HR := Lib.hid hR
  clear hR
  go_enter Tryd.func20, Tryd.ntmps20
  go_wp2_with fail
  go_loopw [6] (fun i wr => ∃ j : Nat, j ≤ s.size ∧ i = .int .i64 j ∧ Hid (R = Lx.word 0 j 0 (s.data.toList.drop j)) ∧ Hid (Below w.heap.size w wr)) (fun i _ => s.size - (intOf i).toNat)
  case atStart => exact ⟨k, hk, rfl, HR, Lib.hid (Below.refl _ _)⟩
  case round =>
    obtain ⟨j, hj, rfl, HJ, HB⟩ := hrel
    clear HR
    by_cases hlt : j < s.size
    · have HC := Lib.hid (Lx.at_cons s j hlt)
      cases h92 : ((s[j].toNat : Int) == 92) with
      | true =>
        have H : Hid (s[j] = 92) := Lib.hid (Lx.u8 92 (by simpa using h92) rfl)
        go_wp2
        go_roundw
        case rel => exact ⟨min (j + 2) s.size, by omega, by go_num, Lib.hid (by rw [HJ.out, esc_at s j hlt H.out]), HB⟩
        case measure => simp [intOf]; omega
      | false =>
        cases h39 : ((s[j].toNat : Int) == 39) with
        | true =>
          have H : Hid (s[j] = 39) := Lib.hid (Lx.u8 39 (by simpa using h39) rfl)
          go_wp2_with fail
          go_loop [8] (fun i => ∃ m : Nat, j + 1 ≤ m ∧ m ≤ s.size ∧ i = .int .i64 m ∧ Hid (R = Lx.word 1 m j (s.data.toList.drop m))) (fun i => s.size - (intOf i).toNat)
          case atStart => exact ⟨j + 1, by omega, by omega, by go_num, Lib.hid (by rw [HJ.out, HC.out, H.out, Lx.w_single])⟩
          case round =>
            obtain ⟨m, hm1, hm2, rfl, HM⟩ := hrel
            by_cases hml : m < s.size
            · have HCM := Lib.hid (Lx.at_cons s m hml)
              cases hm39 : ((s[m].toNat : Int) == 39) with
              | true =>
                have HH : Hid (s[m] = 39) := Lib.hid (Lx.u8 39 (by simpa using hm39) rfl)
                have hm39' : ((s[m].toNat : Int) != 39) = false := by simp at hm39; simp [hm39]
                go_wp2
                go_roundw
                case rel => exact ⟨m + 1, by omega, by go_num, Lib.hid (by rw [HM.out, HCM.out, HH.out, Lx.w1_cons]; rfl), HB⟩
                case measure => simp [intOf]; omega
              | false =>
                have hm39' : ((s[m].toNat : Int) != 39) = true := by simp at hm39; simp [hm39]
                have HH : Hid ((s[m] == 39) = false) := Lib.hid (by rw [Lx.beq8]; simpa using hm39)
                go_wp2
                go_round
                case rel => exact ⟨m + 1, by omega, by omega, by go_num, Lib.hid (by rw [HM.out, HCM.out, Lx.w1_cons, HH.out]; rfl)⟩
                case measure => simp [intOf]; omega
            · go_wp2
              go_ret2
              have h := HM.out
              rw [at_end _ _ (by omega), Lx.w_nil] at h
              exact ⟨HB.out, by rw [h]; rfl⟩
        | false =>
          cases h34 : ((s[j].toNat : Int) == 34) with
          | true =>
            have H : Hid (s[j] = 34) := Lib.hid (Lx.u8 34 (by simpa using h34) rfl)
            go_wp2_with fail
            go_loop [9] (fun i => ∃ m : Nat, j + 1 ≤ m ∧ m ≤ s.size + 1 ∧ i = .int .i64 m ∧ Hid (R = Lx.word 2 m j (s.data.toList.drop m))) (fun i => s.size + 1 - (intOf i).toNat)
            case atStart => exact ⟨j + 1, by omega, by omega, by go_num, Lib.hid (by rw [HJ.out, HC.out, H.out, Lx.w_double])⟩
            case round =>
              obtain ⟨m, hm1, hm2, rfl, HM⟩ := hrel
              by_cases hml : m < s.size
              · have HCM := Lib.hid (Lx.at_cons s m hml)
                cases hm34 : ((s[m].toNat : Int) == 34) with
                | true =>
                  have HH : Hid (s[m] = 34) := Lib.hid (Lx.u8 34 (by simpa using hm34) rfl)
                  have hm34' : ((s[m].toNat : Int) != 34) = false := by simp at hm34; simp [hm34]
                  go_wp2
                  go_roundw
                  case rel => exact ⟨m + 1, by omega, by go_num, Lib.hid (by rw [HM.out, HCM.out, HH.out, Lx.w2_end]), HB⟩
                  case measure => simp [intOf]; omega
                | false =>
                  have hm34' : ((s[m].toNat : Int) != 34) = true := by simp at hm34; simp [hm34]
                  have HH : Hid (s[m] ≠ 34) := Lib.hid (by intro h; rw [h] at hm34; revert hm34; decide)
                  cases hm92 : ((s[m].toNat : Int) == 92) with
                  | true =>
                    have HE : Hid (s[m] = 92) := Lib.hid (Lx.u8 92 (by simpa using hm92) rfl)
                    go_wp2
                    go_round
                    case rel => exact ⟨m + 2, by omega, by omega, by go_num, Lib.hid (by rw [HM.out, HCM.out, HE.out, Lx.w2_esc, List.drop_drop])⟩
                    case measure => simp [intOf]; omega
                  | false =>
                    have HE : Hid (s[m] ≠ 92) := Lib.hid (by intro h; rw [h] at hm92; revert hm92; decide)
                    go_wp2
                    go_round
                    case rel => exact ⟨m + 1, by omega, by omega, by go_num, Lib.hid (by rw [HM.out, HCM.out, Lx.w2_other _ _ _ HH.out HE.out])⟩
                    case measure => simp [intOf]; omega
              · go_wp2
                go_ret2
                have h := HM.out
                rw [at_end _ _ (by omega), Lx.w_nil] at h
                exact ⟨HB.out, by rw [h]; rfl⟩
          | false =>
            have hfin (hst : Lx.stop s[j] = true) : R = (j, true) := by rw [HJ.out, HC.out, Lx.w_stop _ _ _ hst]
            have HF := Lib.hid hfin
            clear hfin
            cases h32 : ((s[j].toNat : Int) == 32) with
            | true =>
              go_wp2
              go_ret2
              have hst := HF.out (by rw [show s[j] = 32 from Lx.u8 32 (by simpa using h32) rfl]; rfl)
              exact ⟨HB.out, by rw [hst]; rfl⟩
            | false =>
              cases h9 : ((s[j].toNat : Int) == 9) with
              | true =>
                go_wp2
                go_ret2
                have hst := HF.out (by rw [show s[j] = 9 from Lx.u8 9 (by simpa using h9) rfl]; rfl)
                exact ⟨HB.out, by rw [hst]; rfl⟩
              | false =>
                cases h10 : ((s[j].toNat : Int) == 10) with
                | true =>
                  go_wp2
                  go_ret2
                  have hst := HF.out (by rw [show s[j] = 10 from Lx.u8 10 (by simpa using h10) rfl]; rfl)
                  exact ⟨HB.out, by rw [hst]; rfl⟩
                | false =>
                  have ne (c : UInt8) (n : Nat) (hc : c.toNat = n) (h : ((s[j].toNat : Int) == n) = false) : s[j] ≠ c := by
                    intro h2; rw [h2, hc] at h; simp at h
                  have HN := Lib.hid (show s[j] ≠ 92 ∧ s[j] ≠ 39 ∧ s[j] ≠ 34 ∧ s[j] ≠ 32 ∧ s[j] ≠ 9 ∧ s[j] ≠ 10 from ⟨ne 92 92 rfl h92, ne 39 39 rfl h39, ne 34 34 rfl h34, ne 32 32 rfl h32, ne 9 9 rfl h9, ne 10 10 rfl h10⟩)
                  clear ne
                  cases hoc : Lx.opc s[j] with
                  | true =>
                    have hE : List.isEmpty (Lx.op (s.data.toList.drop j)) = false := by rw [HC.out, op_empty, hoc]; rfl
                    go_wp2_with (go_at_call 19; refine (opRef_any s j _ hs hj).mono ?_; rintro e w1 ⟨rfl, hb1⟩; have HB1 := Lib.hid hb1; clear hb1)
                    go_ret2
                    have hst := HF.out (by simp [Lx.stop, hoc])
                    exact ⟨HB.out.trans (HB1.out.mono HB.out.size), by rw [hst]; rfl⟩
                  | false =>
                    have hE : List.isEmpty (Lx.op (s.data.toList.drop j)) = true := by rw [HC.out, op_empty, hoc]; rfl
                    have HO := Lib.hid hoc
                    clear hoc
                    go_wp2_with (go_at_call 19; refine (opRef_any s j _ hs hj).mono ?_; rintro e w1 ⟨rfl, hb1⟩; have HB1 := Lib.hid hb1; clear hb1)
                    have hn := HN.out
                    go_roundw
                    case rel => exact ⟨j + 1, by omega, by go_num, Lib.hid (by rw [HJ.out, HC.out, Lx.w_other _ _ _ (by simp [Lx.stop, Lx.blank, HO.out, hn.2.2.2.1, hn.2.2.2.2.1, hn.2.2.2.2.2]) hn.1 hn.2.1 hn.2.2.1]), Lib.hid (HB.out.trans (HB1.out.mono HB.out.size))⟩
                    case measure => simp [intOf]; omega
    · go_wp2
      go_ret2
      have h := HJ.out
      rw [at_end _ _ (by omega), Lx.w_end] at h
      exact ⟨HB.out, by rw [h]; rfl⟩
end Go.Proofs.YtlingnajbhlpdaaDoor
