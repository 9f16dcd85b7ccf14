/- Walks of the reference's small functions: letters, digits, names, parameters. -/
import Derived.Test.YtpibjhlldlbocaaGreatSynB
import Derived.Lib.Strings
namespace Go.Proofs.YtpibjhlldlbocaaGreat
open Go.RowKit Sx

namespace Sx
def letter (b : UInt8) : Bool := decide (97 ≤ b.toNat ∧ b.toNat ≤ 122 ∨ 65 ≤ b.toNat ∧ b.toNat ≤ 90 ∨ b.toNat = 95)
def digit (b : UInt8) : Bool := decide (48 ≤ b.toNat ∧ b.toNat ≤ 57)
def isName : List UInt8 → Bool
  | [] => false
  | b :: r => decide (r.length < 64) && letter b && (b :: r).all fun c => letter c || digit c
def isParam (l : List UInt8) : Bool :=
  (match l with
    | [b] => decide (49 ≤ b.toNat ∧ b.toNat ≤ 57 ∨ b.toNat = 35 ∨ b.toNat = 63)
    | _ => false) || isName l
def isCmdName (l : List UInt8) : Bool := isParam l && match l with
  | [] => false
  | b :: _ => letter b
end Sx

theorem letterRef_any (b : UInt8) (w : World) : Calls Tryz.prog 80 #[.int .u8 b.toNat] w fun e w' => e = .returned (.bool (letter b)) ∧ w = w' := by
  have h1 : (b.toNat : Int) ≤ 255 := by have := b.toNat_lt; omega
  unfold letter
  generalize b.toNat = n at *
  go_enter Tryz.func80, Tryz.ntmps80
  go_wp2
  all_goals go_ret
  all_goals refine ⟨ret_bool ?_, rfl⟩
  all_goals rw [Bool.eq_iff_iff]
  all_goals simp only [Bool.or_eq_true, Bool.and_eq_true, decide_eq_true_eq, beq_iff_eq, true_iff, Bool.false_eq_true, false_iff]
  all_goals omega
theorem digitRef_any (b : UInt8) (w : World) : Calls Tryz.prog 81 #[.int .u8 b.toNat] w fun e w' => e = .returned (.bool (digit b)) ∧ w = w' := by
  have h1 : (b.toNat : Int) ≤ 255 := by have := b.toNat_lt; omega
  unfold digit
  generalize b.toNat = n at *
  go_enter Tryz.func81, Tryz.ntmps81
  go_wp2
  all_goals go_ret
  all_goals refine ⟨ret_bool ?_, rfl⟩
  all_goals rw [Bool.eq_iff_iff]
  all_goals simp only [Bool.or_eq_true, Bool.and_eq_true, decide_eq_true_eq, beq_iff_eq, true_iff, Bool.false_eq_true, false_iff]
  all_goals omega

theorem at_all {p : UInt8 → Bool} {s : ByteArray} {k : Nat} (h : k < s.size) : (s.data.toList.drop k).all p = (p s[k] && (s.data.toList.drop (k + 1)).all p) := by
  have h' : k < s.data.toList.length := by simpa using h
  rw [List.drop_eq_getElem_cons h', List.all_cons]
  rfl
theorem inRef_any (c : UInt8) (s : ByteArray) (w : World) (hs : s.size ≤ 9223372036854775807) : Calls Tryz.prog 69 #[.int .u8 c.toNat, .string s] w fun e w' => e = .returned (.bool (s.data.toList.any (· == c))) ∧ w = w' := by
  obtain ⟨R, hR⟩ : ∃ R, R = s.data.toList.any (· == c) := ⟨_, rfl⟩
  rw [← hR]
  have HR := Lib.hid hR
  clear hR
  go_enter Tryz.func69, Tryz.ntmps69
  go_wp2_with fail
  go_loop [5] (fun i => ∃ k : Nat, k ≤ s.size ∧ i = .int .i64 k ∧ Hid (R = (s.data.toList.drop k).any (· == c))) (fun i => s.size - (intOf i).toNat)
  case atStart => exact ⟨0, Nat.zero_le _, rfl, HR⟩
  case round =>
    obtain ⟨k, hk, rfl, HK⟩ := hrel
    by_cases hlt : k < s.size
    · have HD : Hid ((s.data.toList.drop k).any (· == c) = (s[k] == c || (s.data.toList.drop (k + 1)).any (· == c))) := Lib.hid (by
        rw [List.drop_eq_getElem_cons (by simpa using hlt), List.any_cons]; rfl)
      go_wp2
      · have he : s[k] = c := by
          have h : (s[k].toNat : Int) = c.toNat := by first | assumption | simpa using ‹((s[k].toNat : Int) == c.toNat) = true›
          exact UInt8.toNat_inj.1 (by omega)
        go_ret
        exact ⟨ret_bool (by rw [HK.out, HD.out, he]; simp), rfl⟩
      · have he : (s[k] == c) = false := by
          rw [Bool.eq_false_iff]
          intro h
          have h : s[k] = c := by simpa using h
          subst h
          simp_all
        go_round
        case rel => exact ⟨k + 1, by omega, by go_num, Lib.hid (by rw [HK.out, HD.out, he]; rfl)⟩
        case measure => simp [intOf]; omega
    · have HE : Hid (k = s.size) := Lib.hid (by omega)
      go_wp2
      go_ret
      exact ⟨ret_bool (by rw [HK.out, HE.out, Lib.size_eq s, List.drop_length]; rfl), rfl⟩
theorem empty_of {s : ByteArray} (h : s.size = 0) : s.toList = [] := by
  rw [Lib.toList_data]
  exact List.length_eq_zero_iff.1 (by simpa using h)
theorem full_of {s : ByteArray} (h : 0 < s.size) : s.toList.isEmpty = false := by
  rw [Lib.toList_data, Bool.eq_false_iff]
  intro hh
  have := List.isEmpty_iff.1 hh
  have h2 : s.data.toList.length = 0 := by rw [this]; rfl
  have h3 : s.data.toList.length = s.size := by simp
  omega
theorem nameRef_any (s : ByteArray) (w : World) : Calls Tryz.prog 66 #[.string s] w fun e w' => e = .returned (.bool (isName s.data.toList)) ∧ w = w' := by
  obtain ⟨R, hR⟩ : ∃ R, R = isName s.data.toList := ⟨_, rfl⟩
  rw [← hR]
  have HR := Lib.hid hR
  clear hR
  by_cases h0 : s.size = 0
  · have he := empty_of h0
    go_enter Tryz.func66, Tryz.ntmps66
    go_wp2_with fail
    go_ret
    exact ⟨ret_bool (by rw [HR.out, ← Lib.toList_data, he]; rfl), rfl⟩
  · have hpos : 0 < s.size := by omega
    have he := full_of hpos
    have hne : ¬ s.toList = [] := by intro h; rw [h] at he; cases he
    have HN : Hid (isName s.data.toList = (decide (s.size ≤ 64) && letter s[0] && s.data.toList.all fun c => letter c || digit c)) := Lib.hid (by
      have h' : 0 < s.data.toList.length := by simpa using hpos
      have hl : s.data.toList.length = s.size := by simp
      have h1 : s.data.toList = s[0] :: s.data.toList.drop 1 := by
        have := List.drop_eq_getElem_cons h'
        rw [List.drop_zero] at this
        exact this
      have h2 : (s.data.toList.drop 1).length + 1 = s.size := by rw [List.length_drop]; omega
      generalize s.data.toList.drop 1 = r at h1 h2
      rw [h1]
      unfold isName
      dsimp only
      rw [show decide (r.length < 64) = decide (s.size ≤ 64) from by simp only [decide_eq_decide]; omega])
    by_cases hbig : 64 < s.size
    · go_enter Tryz.func66, Tryz.ntmps66
      go_wp2_with fail
      go_ret
      exact ⟨ret_bool (by rw [HR.out, HN.out, decide_eq_false (show ¬ s.size ≤ 64 by omega)]; rfl), rfl⟩
    · cases hlet : letter s[0] with
      | false =>
        have HL := Lib.hid hlet
        clear hlet
        go_enter Tryz.func66, Tryz.ntmps66
        go_wp2_with (go_at_call 80; refine (letterRef_any _ _).mono ?_; rintro e w' ⟨rfl, rfl⟩; rw [HL.out])
        go_ret
        exact ⟨ret_bool (by rw [HR.out, HN.out, HL.out]; simp), rfl⟩
      | true =>
        have HL := Lib.hid hlet
        clear hlet
        go_enter Tryz.func66, Tryz.ntmps66
        go_wp2_with (go_at_call 80; refine (letterRef_any _ _).mono ?_; rintro e w' ⟨rfl, rfl⟩; rw [HL.out])
        have HR0 : Hid (R = (s.data.toList.drop 0).all fun c => letter c || digit c) := Lib.hid (by rw [HR.out, HN.out, HL.out, decide_eq_true (show s.size ≤ 64 by omega)]; simp)
        go_loop [3] (fun i => ∃ k : Nat, k ≤ s.size ∧ i = .int .i64 k ∧ Hid (R = (s.data.toList.drop k).all fun c => letter c || digit c)) (fun i => s.size - (intOf i).toNat)
        case atStart => exact ⟨0, Nat.zero_le _, rfl, HR0⟩
        case round =>
          clear HR0
          obtain ⟨k, hk, rfl, HK⟩ := hrel
          by_cases hlt : k < s.size
          · have HD := Lib.hid (at_all (p := fun c => letter c || digit c) hlt)
            have HLK : Hid (∀ w, Calls Tryz.prog 80 #[.int .u8 s[k].toNat] w fun e w' => e = .returned (.bool (letter s[k])) ∧ w = w') := Lib.hid (letterRef_any _)
            have HDK : Hid (∀ w, Calls Tryz.prog 81 #[.int .u8 s[k].toNat] w fun e w' => e = .returned (.bool (digit s[k])) ∧ w = w') := Lib.hid (digitRef_any _)
            generalize letter s[k] = a at *
            generalize digit s[k] = d at *
            go_wp2_with (first | (go_at_call 80; refine (HLK.out _).mono ?_; rintro e w' ⟨rfl, rfl⟩) | (go_at_call 81; refine (HDK.out _).mono ?_; rintro e w' ⟨rfl, rfl⟩))
            · have ha : a = true := by assumption
              go_round
              case rel => exact ⟨k + 1, by omega, by go_num, Lib.hid (by rw [HK.out, HD.out, ha]; rfl)⟩
              case measure => simp [intOf]; omega
            · have ha : a = false := by cases a <;> simp_all
              have hd : d = false := by cases d <;> simp_all
              go_ret
              exact ⟨ret_bool (by rw [HK.out, HD.out, ha, hd]; rfl), rfl⟩
            · have hd : d = true := by cases d <;> simp_all
              go_round
              case rel => exact ⟨k + 1, by omega, by go_num, Lib.hid (by rw [HK.out, HD.out, hd]; simp)⟩
              case measure => simp [intOf]; omega
          · have HE : Hid (k = s.size) := Lib.hid (by omega)
            go_wp2
            go_ret
            exact ⟨ret_bool (by rw [HK.out, HE.out, Lib.size_eq s, List.drop_length]; rfl), rfl⟩

theorem one_of {s : ByteArray} (h : s.size = 1) : s.data.toList = [s[0]'(by omega)] := by
  have hl : s.data.toList.length = 1 := by rw [← Lib.size_eq]; exact h
  have := List.drop_eq_getElem_cons (l := s.data.toList) (i := 0) (by omega)
  rw [List.drop_zero] at this
  rw [this, List.drop_eq_nil_of_le (by omega)]
  rfl
theorem paramRef_any (s : ByteArray) (w : World) : Calls Tryz.prog 53 #[.string s] w fun e w' => e = .returned (.bool (isParam s.data.toList)) ∧ w = w' := by
  by_cases h1 : s.size = 1
  · have HP : Hid (isParam s.data.toList = (decide (49 ≤ (s[0]'(by omega)).toNat ∧ (s[0]'(by omega)).toNat ≤ 57 ∨ (s[0]'(by omega)).toNat = 35 ∨ (s[0]'(by omega)).toNat = 63) || isName s.data.toList)) := Lib.hid (by rw [one_of h1]; rfl)
    have HN : Hid (∀ w, Calls Tryz.prog 66 #[.string s] w fun e w' => e = .returned (.bool (isName s.data.toList)) ∧ w = w') := Lib.hid (nameRef_any s)
    generalize isName s.data.toList = nm at *
    generalize isParam s.data.toList = R at *
    generalize hn : (s[0]'(by omega)).toNat = n at *
    go_enter Tryz.func53, Tryz.ntmps53
    go_wp2_with (go_at_call 66; refine (HN.out _).mono ?_; rintro e w' ⟨rfl, rfl⟩)
    all_goals go_ret
    all_goals refine ⟨ret_bool ?_, rfl⟩
    all_goals rw [HP.out]
    all_goals try simp only [beq_iff_eq, beq_eq_false_iff_ne] at *
    all_goals first
      | (rw [decide_eq_true (show 49 ≤ n ∧ n ≤ 57 ∨ n = 35 ∨ n = 63 by omega)]; rfl)
      | (rw [decide_eq_false (show ¬ (49 ≤ n ∧ n ≤ 57 ∨ n = 35 ∨ n = 63) by omega)]; rfl)
  · have HP : Hid (isParam s.data.toList = isName s.data.toList) := Lib.hid (by
      unfold isParam
      have hl : s.data.toList.length ≠ 1 := by rw [← Lib.size_eq]; exact h1
      generalize s.data.toList = l at *
      match l with
      | [] => rfl
      | [_] => simp at hl
      | _ :: _ :: _ => rfl)
    have HN : Hid (∀ w, Calls Tryz.prog 66 #[.string s] w fun e w' => e = .returned (.bool (isName s.data.toList)) ∧ w = w') := Lib.hid (nameRef_any s)
    generalize isName s.data.toList = nm at *
    generalize isParam s.data.toList = R at *
    go_enter Tryz.func53, Tryz.ntmps53
    go_wp2_with (go_at_call 66; refine (HN.out _).mono ?_; rintro e w' ⟨rfl, rfl⟩)
    go_ret
    exact ⟨ret_bool HP.out.symm, rfl⟩
theorem at_head {s : ByteArray} (h : 0 < s.size) : ∃ r, s.data.toList = s[0] :: r := by
  have h' : 0 < s.data.toList.length := by rw [← Lib.size_eq]; exact h
  have := List.drop_eq_getElem_cons h'
  rw [List.drop_zero] at this
  exact ⟨_, this⟩
theorem cmdNameRef_any (s : ByteArray) (w : World) : Calls Tryz.prog 28 #[.string s] w fun e w' => e = .returned (.bool (isCmdName s.data.toList)) ∧ w = w' := by
  have HC : Hid (∀ w, Calls Tryz.prog 53 #[.string s] w fun e w' => e = .returned (.bool (isParam s.data.toList)) ∧ w = w') := Lib.hid (paramRef_any s)
  cases hp : isParam s.data.toList with
  | false =>
    rw [hp] at HC
    go_enter Tryz.func28, Tryz.ntmps28
    go_wp2_with (go_at_call 53; refine (HC.out _).mono ?_; rintro e w' ⟨rfl, rfl⟩)
    go_ret
    exact ⟨ret_bool (by unfold isCmdName; rw [hp]; rfl), rfl⟩
  | true =>
    rw [hp] at HC
    have h0 : 0 < s.size := by
      rcases Nat.eq_zero_or_pos s.size with h | h
      · have : s.data.toList = [] := by rw [← Lib.toList_data]; exact empty_of h
        rw [this] at hp
        cases hp
      · exact h
    have HR : Hid (isCmdName s.data.toList = letter s[0]) := Lib.hid (by
      unfold isCmdName
      rw [hp]
      obtain ⟨r, hr⟩ := at_head h0
      rw [hr]
      rfl)
    have h1 : (s[0].toNat : Int) ≤ 255 := by have := s[0].toNat_lt; omega
    generalize isCmdName s.data.toList = R at *
    unfold letter at HR
    generalize hn : s[0].toNat = n at *
    clear hp
    go_enter Tryz.func28, Tryz.ntmps28
    go_wp2_with (go_at_call 53; refine (HC.out _).mono ?_; rintro e w' ⟨rfl, rfl⟩)
    all_goals go_ret
    all_goals refine ⟨ret_bool ?_, rfl⟩
    all_goals rw [HR.out]
    all_goals rw [Bool.eq_iff_iff]
    all_goals simp only [Bool.or_eq_true, Bool.and_eq_true, decide_eq_true_eq, beq_iff_eq, true_iff, Bool.false_eq_true, false_iff] at *
    all_goals omega
end Go.Proofs.YtpibjhlldlbocaaGreat
