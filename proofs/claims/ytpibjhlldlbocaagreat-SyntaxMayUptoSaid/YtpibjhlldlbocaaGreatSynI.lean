/- Walks of the program's small functions: letters, digits, names, parameters. -/
import Derived.Test.YtpibjhlldlbocaaGreatSynC
namespace Go.Proofs.YtpibjhlldlbocaaGreat
open Go.RowKit Sx

namespace Sx
/-- How many bytes a name has by which a text begins, n at most. -/
def nlen : Bool → Nat → List UInt8 → Nat
  | _, 0, _ => 0
  | _, _ + 1, [] => 0
  | z, n + 1, b :: r => if letter b || (!z && digit b) then nlen false n r + 1 else 0
theorem nlen_le : ∀ (z : Bool) (n : Nat) (l : List UInt8), nlen z n l ≤ n
  | _, 0, _ => Nat.le_refl _
  | _, _ + 1, [] => Nat.zero_le _
  | z, n + 1, b :: r => by
    have := nlen_le false n r
    unfold nlen
    split <;> omega
theorem nlen_len : ∀ (z : Bool) (n : Nat) (l : List UInt8), nlen z n l ≤ l.length
  | _, 0, _ => Nat.zero_le _
  | _, _ + 1, [] => Nat.zero_le _
  | z, n + 1, b :: r => by
    have := nlen_len false n r
    unfold nlen
    split <;> simp <;> omega
theorem nlen_all : ∀ (n : Nat) (l : List UInt8), (nlen false n l == l.length) = (decide (l.length ≤ n) && l.all fun c => letter c || digit c)
  | 0, [] => rfl
  | 0, _ :: _ => rfl
  | n + 1, [] => by simp [nlen]
  | n + 1, b :: r => by
    have ih := nlen_all n r
    unfold nlen
    cases hb : (letter b || (!false && digit b)) with
    | false =>
      have hb' : (letter b || digit b) = false := by simpa using hb
      simp [List.all_cons, hb']
    | true =>
      have hb' : (letter b || digit b) = true := by simpa using hb
      rw [if_pos rfl, List.all_cons, hb', List.length_cons, Bool.true_and]
      rw [show (nlen false n r + 1 == r.length + 1) = (nlen false n r == r.length) from by rw [Bool.eq_iff_iff]; simp, ih]
      rw [show decide (r.length + 1 ≤ n + 1) = decide (r.length ≤ n) from by simp only [decide_eq_decide]; omega]
def nameLen (l : List UInt8) : Nat := nlen true 64 l
def paramLen (l : List UInt8) : Nat :=
  match l with
  | [] => 0
  | b :: _ => if 49 ≤ b.toNat ∧ b.toNat ≤ 57 ∨ b.toNat = 35 ∨ b.toNat = 63 then 1 else nameLen l
theorem name_len (l : List UInt8) : isName l = (!l.isEmpty && nameLen l == l.length) := by
  cases l with
  | nil => rfl
  | cons b r =>
    unfold nameLen nlen isName
    have h := nlen_all 63 r
    cases hb : letter b with
    | false => simp [hb]
    | true =>
      simp only [Bool.true_or, if_pos, List.length_cons, List.all_cons, hb, Bool.true_and, List.isEmpty_cons, Bool.not_false]
      rw [show (nlen false 63 r + 1 == r.length + 1) = (nlen false 63 r == r.length) from by rw [Bool.eq_iff_iff]; simp, h]
      rw [show decide (r.length < 64) = decide (r.length ≤ 63) from by simp only [decide_eq_decide]; omega]
      simp
theorem param_len (l : List UInt8) : isParam l = (!l.isEmpty && paramLen l == l.length) := by
  cases l with
  | nil => rfl
  | cons b r =>
    unfold paramLen isParam
    have h := name_len (b :: r)
    by_cases hb : 49 ≤ b.toNat ∧ b.toNat ≤ 57 ∨ b.toNat = 35 ∨ b.toNat = 63
    · simp only [if_pos hb]
      cases r with
      | nil => simp [hb]
      | cons c r =>
        have hl : letter b = false := by unfold letter; simp only [decide_eq_false_iff_not]; omega
        have : isName (b :: c :: r) = false := by unfold isName; simp [hl]
        rw [this]
        simp
    · dsimp only
      rw [if_neg hb, ← h]
      cases r with
      | nil => simp [decide_eq_false hb]
      | cons c r => simp
end Sx

theorem letter_any (b : UInt8) (w : World) : Calls Tryz.prog 82 #[.int .u8 b.toNat] w fun e w' => e = .returned (.bool (letter b)) ∧ w = w' := by
  have h1 : (b.toNat : Int) ≤ 255 := by have := b.toNat_lt; omega
  unfold letter
  generalize b.toNat = n at *
  go_enter Tryz.func82, Tryz.ntmps82
  go_wp2
  all_goals go_ret
  all_goals refine ⟨ret_bool ?_, rfl⟩
  all_goals rw [Bool.eq_iff_iff]
  all_goals simp only [Bool.or_eq_true, Bool.and_eq_true, decide_eq_true_eq, beq_iff_eq, true_iff, Bool.false_eq_true, false_iff]
  all_goals omega
theorem digit_any (b : UInt8) (w : World) : Calls Tryz.prog 83 #[.int .u8 b.toNat] w fun e w' => e = .returned (.bool (digit b)) ∧ w = w' := by
  have h1 : (b.toNat : Int) ≤ 255 := by have := b.toNat_lt; omega
  unfold digit
  generalize b.toNat = n at *
  go_enter Tryz.func83, Tryz.ntmps83
  go_wp2
  all_goals go_ret
  all_goals refine ⟨ret_bool ?_, rfl⟩
  all_goals rw [Bool.eq_iff_iff]
  all_goals simp only [Bool.or_eq_true, Bool.and_eq_true, decide_eq_true_eq, beq_iff_eq, true_iff, Bool.false_eq_true, false_iff]
  all_goals omega

theorem nlen_step {l : List UInt8} {k m : Nat} (hk : k < l.length) (hm : k < m) : k + nlen (k == 0) (m - k) (l.drop k) = if letter l[k] || (!(k == 0) && digit l[k]) then (k + 1) + nlen (k + 1 == 0) (m - (k + 1)) (l.drop (k + 1)) else k := by
  rw [List.drop_eq_getElem_cons hk]
  obtain ⟨n, hn⟩ : ∃ n, m - k = n + 1 := ⟨m - k - 1, by omega⟩
  rw [hn, show m - (k + 1) = n by omega]
  rw [show (k + 1 == 0) = false from rfl]
  rw [nlen]
  split <;> omega

theorem nameLength_any (s : ByteArray) (w : World) (hs : s.size ≤ 9223372036854775807) : Calls Tryz.prog 71 #[.string s] w fun e w' => e = .returned (.int .i64 (nameLen s.data.toList)) ∧ w = w' := by
  obtain ⟨R, hR⟩ : ∃ R, R = nameLen s.data.toList := ⟨_, rfl⟩
  rw [← hR]
  have HR : Hid (R = 0 + nlen (0 == 0) (64 - 0) (s.data.toList.drop 0)) := Lib.hid (by rw [hR, Nat.zero_add]; rfl)
  clear hR
  go_enter Tryz.func71, Tryz.ntmps71
  go_wp2_with fail
  all_goals
    go_loop [4] (fun i => ∃ k : Nat, k ≤ s.size ∧ k ≤ 64 ∧ i = .int .i64 k ∧ Hid (R = k + nlen (k == 0) (64 - k) (s.data.toList.drop k))) (fun i => s.size - (intOf i).toNat)
    case atStart => exact ⟨0, Nat.zero_le _, by omega, rfl, HR⟩
    case round =>
      clear HR
      obtain ⟨k, hk, hk2, rfl, HK⟩ := hrel
      by_cases hlt : k < s.size ∧ k < 64
      · obtain ⟨hlt, hlt2⟩ := hlt
        have HD := Lib.hid (nlen_step (l := s.data.toList) (k := k) (m := 64) (by simpa using hlt) hlt2)
        have hx : s.data.toList[k]'(by simpa using hlt) = s[k] := rfl
        rw [hx] at HD
        clear hx
        have HLK : Hid (∀ w, Calls Tryz.prog 82 #[.int .u8 s[k].toNat] w fun e w' => e = .returned (.bool (letter s[k])) ∧ w = w') := Lib.hid (letter_any _)
        have HDK : Hid (∀ w, Calls Tryz.prog 83 #[.int .u8 s[k].toNat] w fun e w' => e = .returned (.bool (digit s[k])) ∧ w = w') := Lib.hid (digit_any _)
        generalize letter s[k] = a at *
        generalize digit s[k] = d at *
        have HN1 : Hid (a = true → R = (k + 1) + nlen (k + 1 == 0) (64 - (k + 1)) (s.data.toList.drop (k + 1))) := Lib.hid fun ha => by rw [HK.out, HD.out, ha]; rfl
        have HN2 : Hid (0 < k → d = true → R = (k + 1) + nlen (k + 1 == 0) (64 - (k + 1)) (s.data.toList.drop (k + 1))) := Lib.hid fun h0 hd => by
          have hz : (k == 0) = false := by rw [Bool.eq_false_iff]; intro h; have := beq_iff_eq.1 h; omega
          rw [HK.out, HD.out, hd, hz]; simp
        have HN3 : Hid (a = false → (0 < k → d = false) → R = k) := Lib.hid fun ha hd => by
          rw [HK.out, HD.out, ha]
          cases k with
          | zero => rfl
          | succ k => rw [hd (by omega)]; simp
        go_wp2_with (first | (go_at_call 82; refine (HLK.out _).mono ?_; rintro e w' ⟨rfl, rfl⟩) | (go_at_call 83; refine (HDK.out _).mono ?_; rintro e w' ⟨rfl, rfl⟩))
        all_goals first
          | (go_round
             case rel => exact ⟨k + 1, by omega, by omega, by go_num, Lib.hid (by
               first
                 | (have ha : a = true := by assumption
                    exact HN1.out ha)
                 | (have hd : d = true := by assumption
                    exact HN2.out (by omega) hd))⟩
             case measure => simp [intOf]; omega)
          | (go_ret
             exact ⟨ret_int (by rw [HN3.out (by cases a <;> simp_all) (by intro h0; cases d <;> simp_all)]), rfl⟩)
      · have hend : nlen (k == 0) (64 - k) (s.data.toList.drop k) = 0 := by
          rcases Nat.lt_or_ge k 64 with h64 | h64
          · rw [List.drop_eq_nil_of_le (by rw [← Lib.size_eq]; omega)]
            obtain ⟨n, hn⟩ : ∃ n, 64 - k = n + 1 := ⟨64 - k - 1, by omega⟩
            rw [hn]; rfl
          · rw [show 64 - k = 0 by omega]; unfold nlen; rfl
        have HE := Lib.hid hend
        clear hend
        have hg : ¬ ((k : Int) < 64 ∧ (k : Int) < (s.size : Int)) := by omega
        go_wp2
        go_ret
        exact ⟨ret_int (by rw [HK.out, HE.out]; rfl), rfl⟩
theorem paramLength_any (s : ByteArray) (w : World) (hs : s.size ≤ 9223372036854775807) : Calls Tryz.prog 74 #[.string s] w fun e w' => e = .returned (.int .i64 (paramLen s.data.toList)) ∧ w = w' := by
  have HN : Hid (∀ w, Calls Tryz.prog 71 #[.string s] w fun e w' => e = .returned (.int .i64 (nameLen s.data.toList)) ∧ w = w') := Lib.hid fun w => nameLength_any s w hs
  by_cases h0 : s.size = 0
  · have he := empty_of h0
    have HP : Hid (paramLen s.data.toList = nameLen s.data.toList) := Lib.hid (by rw [← Lib.toList_data, he]; rfl)
    generalize paramLen s.data.toList = R at *
    generalize nameLen s.data.toList = L at *
    go_enter Tryz.func74, Tryz.ntmps74
    go_wp2_with (go_at_call 71; refine (HN.out _).mono ?_; rintro e w' ⟨rfl, rfl⟩)
    all_goals go_ret
    all_goals exact ⟨ret_int (by rw [HP.out]), rfl⟩
  · have hpos : 0 < s.size := by omega
    have he := full_of hpos
    have hne : ¬ s.toList = [] := by intro h; rw [h] at he; cases he
    have HP : Hid (paramLen s.data.toList = if 49 ≤ s[0].toNat ∧ s[0].toNat ≤ 57 ∨ s[0].toNat = 35 ∨ s[0].toNat = 63 then 1 else nameLen s.data.toList) := Lib.hid (by
      obtain ⟨r, hr⟩ := at_head hpos
      rw [hr]
      rfl)
    have h1 : (s[0].toNat : Int) ≤ 255 := by have := s[0].toNat_lt; omega
    generalize paramLen s.data.toList = R at *
    generalize nameLen s.data.toList = L at *
    generalize hn : s[0].toNat = n at *
    go_enter Tryz.func74, Tryz.ntmps74
    go_wp2_with (go_at_call 71; refine (HN.out _).mono ?_; rintro e w' ⟨rfl, rfl⟩)
    all_goals go_ret
    all_goals refine ⟨ret_int ?_, rfl⟩
    all_goals rw [HP.out]
    all_goals try simp only [beq_iff_eq, beq_eq_false_iff_ne] at *
    all_goals first
      | rw [if_pos (by omega)]; rfl
      | rw [if_neg (by omega)]
theorem param_any (s : ByteArray) (w : World) (hs : s.size ≤ 9223372036854775807) : Calls Tryz.prog 57 #[.string s] w fun e w' => e = .returned (.bool (isParam s.data.toList)) ∧ w = w' := by
  have HN : Hid (∀ w, Calls Tryz.prog 74 #[.string s] w fun e w' => e = .returned (.int .i64 (paramLen s.data.toList)) ∧ w = w') := Lib.hid fun w => paramLength_any s w hs
  have HP := Lib.hid (param_len s.data.toList)
  have hL : paramLen s.data.toList ≤ 64 := by
    unfold paramLen nameLen
    split
    · omega
    · split
      · omega
      · exact nlen_le _ _ _
  have HZ : Hid (s.data.toList.length = s.size) := Lib.hid (by simp)
  by_cases h0 : s.size = 0
  · have he := empty_of h0
    have hee : s.data.toList = [] := by rw [← Lib.toList_data]; exact he
    rw [hee]
    go_enter Tryz.func57, Tryz.ntmps57
    go_wp2_with fail
    go_ret
    exact ⟨rfl, rfl⟩
  · have hpos : 0 < s.size := by omega
    have he := full_of hpos
    have hne : ¬ s.toList = [] := by intro h; rw [h] at he; cases he
    have HE : Hid (s.data.toList.isEmpty = false) := Lib.hid (by rw [← Lib.toList_data]; exact he)
    generalize isParam s.data.toList = R at *
    generalize paramLen s.data.toList = L at *
    go_enter Tryz.func57, Tryz.ntmps57
    go_wp2_with (go_at_call 74; refine (HN.out _).mono ?_; rintro e w' ⟨rfl, rfl⟩)
    go_ret
    refine ⟨ret_bool ?_, rfl⟩
    rw [HP.out, HE.out, HZ.out, Bool.eq_iff_iff]
    simp
    omega
theorem cmdName_any (s : ByteArray) (w : World) (hs : s.size ≤ 9223372036854775807) : Calls Tryz.prog 33 #[.string s] w fun e w' => e = .returned (.bool (isCmdName s.data.toList)) ∧ w = w' := by
  have HC : Hid (∀ w, Calls Tryz.prog 57 #[.string s] w fun e w' => e = .returned (.bool (isParam s.data.toList)) ∧ w = w') := Lib.hid fun w => param_any s w hs
  cases hp : isParam s.data.toList with
  | false =>
    rw [hp] at HC
    go_enter Tryz.func33, Tryz.ntmps33
    go_wp2_with (go_at_call 57; refine (HC.out _).mono ?_; rintro e w' ⟨rfl, rfl⟩)
    go_ret
    exact ⟨ret_bool (by unfold isCmdName; rw [hp]; rfl), rfl⟩
  | true =>
    rw [hp] at HC
    have h0 : 0 < s.size := by
      rcases Nat.eq_zero_or_pos s.size with h | h
      · have : s.data.toList = [] := by rw [← Lib.toList_data]; exact empty_of h
        rw [this] at hp
        cases hp
      · exact h
    have HR : Hid (isCmdName s.data.toList = letter s[0]) := Lib.hid (by
      unfold isCmdName
      rw [hp]
      obtain ⟨r, hr⟩ := at_head h0
      rw [hr]
      rfl)
    have h1 : (s[0].toNat : Int) ≤ 255 := by have := s[0].toNat_lt; omega
    generalize isCmdName s.data.toList = R at *
    unfold letter at HR
    generalize hn : s[0].toNat = n at *
    clear hp
    go_enter Tryz.func33, Tryz.ntmps33
    go_wp2_with (go_at_call 57; refine (HC.out _).mono ?_; rintro e w' ⟨rfl, rfl⟩)
    all_goals go_ret
    all_goals refine ⟨ret_bool ?_, rfl⟩
    all_goals rw [HR.out]
    all_goals rw [Bool.eq_iff_iff]
    all_goals simp only [Bool.or_eq_true, Bool.and_eq_true, decide_eq_true_eq, beq_iff_eq, true_iff, Bool.false_eq_true, false_iff] at *
    all_goals omega
end Go.Proofs.YtpibjhlldlbocaaGreat
