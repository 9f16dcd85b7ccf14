/- Walks of the small functions of lex: trials. -/
import Derived.Test.YtlingnajbhlpdaaDoorChecked
import Derived.Test.YtlingnajbhlpdaaDoorLexShelf
import Derived.Test.YtlingnajbhlpdaaDoorLexSpec
import Derived.WalkKit
import Derived.WalkSpells
import Derived.BigQuiet
import Derived.Deep.QuietTactic
import Derived.Lib.Hide
import Derived.Lib.Strings
namespace Go.Proofs.YtlingnajbhlpdaaDoor
open Go.RowKit Lx

theorem ret_int {k : IntKind} {a b : Int} (h : a = b) : Ending.returned (.int k a) = Ending.returned (.int k b) := by rw [h]
theorem ret_bool {a b : Bool} (h : a = b) : Ending.returned (.bool a) = Ending.returned (.bool b) := by rw [h]
theorem ret_str {a b : List UInt8} (h : a = b) : Ending.returned (.string ⟨a.toArray⟩) = Ending.returned (.string ⟨b.toArray⟩) := by rw [h]
theorem ret_ib {k : IntKind} {a b : Int} {x y : Bool} (h : a = b) (hx : x = y) : Ending.returned (.tuple #[.int k a, .bool x]) = Ending.returned (.tuple #[.int k b, .bool y]) := by rw [h, hx]
theorem len_drop (s : ByteArray) (k : Nat) : (s.data.toList.drop k).length = s.size - k := by rw [List.length_drop, Array.length_toList]; rfl
theorem ext_drop (s : ByteArray) (k : Nat) : (s.extract k s.size).data.toList = s.data.toList.drop k := by
  rw [Lib.extract_data]; exact List.take_of_length_le (by rw [len_drop]; exact Nat.le_refl _)

theorem isBlank_any (b : UInt8) (w : World) :
    Calls Tryd.prog 24 #[.int .u8 b.toNat] w fun e w' => e = .returned (.bool (Lx.blank b)) ∧ w = w' := by
  unfold Lx.blank
  rw [beq8, beq8]
  have h0 : (0 : Int) ≤ b.toNat := by omega
  have h1 : (b.toNat : Int) ≤ 255 := by have := b.toNat_lt; omega
  by_cases h : (b.toNat : Int) = 32
  · go_enter Tryd.func24, Tryd.ntmps24
    go_wp2
    go_ret
    simp [h]
  · have h2 : ((b.toNat : Int) == 32) = false := by simpa using h
    go_enter Tryd.func24, Tryd.ntmps24
    go_wp2
    go_ret
    exact ⟨congrArg (fun b => Ending.returned (Value.bool b)) (by rw [show decide ((b.toNat : Int) = ((32 : UInt8).toNat : Int)) = false from by simpa using h]; rfl), rfl⟩

theorem remarkEnd_any (s : ByteArray) (k : Nat) (w : World) (hs : s.size ≤ 100000) (hk : k ≤ s.size) :
    Calls Tryd.prog 31 #[.string s, .int .i64 k] w fun e w' => e = .returned (.int .i64 ↑(k + Lx.gap true (s.data.toList.drop k))) ∧ w = w' := by
  have hg := Lx.gap_index (s.data.toList.drop k)
  have hl := Lx.gap_le (s.data.toList.drop k) true
  have hx := Lib.indexByte_ge (s.data.toList.drop k) 10
  rw [len_drop] at hg hl
  have HE := Lib.hid (ext_drop s k)
  generalize Lx.gap true (s.data.toList.drop k) = g at hg hl ⊢
  generalize hxd : Lib.indexByte (s.data.toList.drop k) 10 = x at hg hx
  have HX := Lib.hid hxd
  clear hxd
  have hgle : (g : Int) ≤ 100000 := by omega
  by_cases hx1 : x = -1
  · rw [if_pos hx1] at hg
    have hx2 : x < 0 := by omega
    have HG := Lib.hid hg
    clear hg hx1
    go_enter Tryd.func31, Tryd.ntmps31
    go_wp2_with (go_at_call 29; refine (Tryd.strings_IndexByte _ _ _).mono ?_; rintro e w' ⟨rfl, rfl⟩; rw [HE.out, show (Int.toNat 10).toUInt8 = 10 from rfl, HX.out])
    go_ret
    have := HG.out
    exact ⟨ret_int (by omega), rfl⟩
  · rw [if_neg hx1] at hg
    have hx2 : 0 ≤ x := by omega
    have hx3 : x ≤ 100000 := by omega
    have HG := Lib.hid hg
    clear hg hx1
    go_enter Tryd.func31, Tryd.ntmps31
    go_wp2_with (go_at_call 29; refine (Tryd.strings_IndexByte _ _ _).mono ?_; rintro e w' ⟨rfl, rfl⟩; rw [HE.out, show (Int.toNat 10).toUInt8 = 10 from rfl, HX.out])
    go_ret
    have := HG.out
    exact ⟨ret_int (by omega), rfl⟩

theorem wordKind_any (s : ByteArray) (w : World) :
    Calls Tryd.prog 27 #[.string s] w fun e w' => e = .returned (.int .u8 (Lx.kindOf s.data.toList).toNat) ∧ w = w' := by
  have HK : Hid (Lx.kindOf s.data.toList = if s.toList == [33] || s.toList == [123] || s.toList == [125] then 2 else 3) := Lib.hid (by rw [Lib.toList_data]; rfl)
  by_cases h1 : (s.toList == [33]) = true
  · go_enter Tryd.func27, Tryd.ntmps27
    go_wp2
    go_ret
    exact ⟨ret_int (by rw [HK.out, h1]; rfl), rfl⟩
  · have h1' : (s.toList == [33]) = false := by simpa using h1
    clear h1
    by_cases h2 : (s.toList == [123]) = true
    · go_enter Tryd.func27, Tryd.ntmps27
      go_wp2
      go_ret
      exact ⟨ret_int (by rw [HK.out, h2]; simp), rfl⟩
    · have h2' : (s.toList == [123]) = false := by simpa using h2
      clear h2
      by_cases h3 : (s.toList == [125]) = true
      · go_enter Tryd.func27, Tryd.ntmps27
        go_wp2
        go_ret
        exact ⟨ret_int (by rw [HK.out, h3]; simp), rfl⟩
      · have h3' : (s.toList == [125]) = false := by simpa using h3
        clear h3
        go_enter Tryd.func27, Tryd.ntmps27
        go_wp2
        go_ret
        exact ⟨ret_int (by rw [HK.out, h1', h2', h3']; rfl), rfl⟩

theorem skip_line {s : ByteArray} {j : Nat} (hlt : j < s.size) (h : Lib.hasPrefix ((s.data.toList.drop j).take (s.size - j)) [92, 10] = true) :
    j + 2 ≤ s.size ∧ Lx.gap false (s.data.toList.drop j) = 2 + Lx.gap false (s.data.toList.drop (j + 2)) := by
  rw [List.take_of_length_le (by rw [len_drop]; exact Nat.le_refl _)] at h
  obtain ⟨r, hr⟩ := List.isPrefixOf_iff_prefix.1 h
  have hl := congrArg List.length hr
  rw [len_drop] at hl
  simp at hl
  have hd : s.data.toList.drop (j + 2) = r := by rw [← List.drop_drop, ← hr]; rfl
  exact ⟨by omega, by rw [← hr, hd]; exact Lx.gap_line⟩
theorem skip_not {s : ByteArray} {j : Nat} (hlt : j < s.size) (h : Lib.hasPrefix ((s.data.toList.drop j).take (s.size - j)) [92, 10] = false) :
    ¬ (s[j] = 92 ∧ (s.data.toList.drop (j + 1)).head? = some 10) := by
  rw [List.take_of_length_le (by rw [len_drop]; exact Nat.le_refl _), Lx.at_cons s j hlt] at h
  rintro ⟨h1, h2⟩
  rw [Bool.eq_false_iff] at h
  cases hr : s.data.toList.drop (j + 1) with
  | nil => rw [hr] at h2; cases h2
  | cons d r => rw [hr] at h2 h; simp at h2; subst h2; rw [h1] at h; exact h (by simp [Lib.hasPrefix])

theorem skipGap_any (s : ByteArray) (k : Nat) (w : World) (hs : s.size ≤ 100000) (hk : k ≤ s.size) :
    Calls Tryd.prog 25 #[.string s, .int .i64 k] w fun e w' => e = .returned (.int .i64 ↑(k + Lx.gap false (s.data.toList.drop k))) ∧ w = w' := by
  obtain ⟨g, hg⟩ : ∃ g, g = k + Lx.gap false (s.data.toList.drop k) := ⟨_, rfl⟩
  rw [← hg]
  have HG := Lib.hid hg
  clear hg
  go_enter Tryd.func25, Tryd.ntmps25
  go_wp2_with fail
  go_loop [1] (fun i => ∃ j : Nat, j ≤ s.size ∧ i = .int .i64 j ∧ Hid (g = j + Lx.gap false (s.data.toList.drop j))) (fun i => s.size - (intOf i).toNat)
  case atStart => exact ⟨k, hk, rfl, HG⟩
  case round =>
    obtain ⟨j, hj, rfl, HJ⟩ := hrel
    clear HG
    by_cases hlt : j < s.size
    · have HC := Lib.hid (Lx.at_cons s j hlt)
      by_cases hb : Lx.blank s[j] = true
      · go_wp2_with (go_at_call 24; refine (isBlank_any _ _).mono ?_; rintro e w' ⟨rfl, rfl⟩)
        go_round
        case rel => exact ⟨j + 1, by omega, by go_num, Lib.hid (by rw [HJ.out, HC.out, Lx.gap_blank hb]; omega)⟩
        case measure => simp [intOf]; omega
      · have hb' : Lx.blank s[j] = false := by simpa using hb
        clear hb
        have hgl : Lx.gap true (s.data.toList.drop j) ≤ s.size - j := by have := Lx.gap_le (s.data.toList.drop j) true; rwa [len_drop] at this
        go_wp2_with (first | (go_at_call 24; refine (isBlank_any _ _).mono ?_; rintro e w' ⟨rfl, rfl⟩) | (go_at_call 22; refine (Tryd.strings_HasPrefix _ _ _).mono ?_; rintro e w' ⟨rfl, rfl⟩) | (go_at_call 31; refine (remarkEnd_any _ _ _ hs hj).mono ?_; rintro e w' ⟨rfl, rfl⟩))
        · go_round
          have h2 := skip_line hlt ‹_›
          case rel => exact ⟨j + 2, h2.1, by go_num, Lib.hid (by rw [HJ.out, h2.2]; omega)⟩
          case measure => simp [intOf]; omega
        · have h3 : s[j] = 35 := Lx.u8 35 (by simpa using ‹((s[j].toNat : Int) == 35) = true›) rfl
          have h4 : Lx.gap true (s.data.toList.drop j) = 1 + Lx.gap true (s.data.toList.drop (j + 1)) := by rw [HC.out, h3, Lx.gap_true]; rfl
          have h5 : Lx.gap false (s.data.toList.drop j) = Lx.gap true (s.data.toList.drop j) + Lx.gap false (s.data.toList.drop (j + Lx.gap true (s.data.toList.drop j))) := by
            rw [show s.data.toList.drop (j + Lx.gap true (s.data.toList.drop j)) = (s.data.toList.drop j).drop (Lx.gap true (s.data.toList.drop j)) from by rw [List.drop_drop], Lx.gap_after, h4, HC.out, h3, Lx.gap_rem]; rfl
          have h6 := h4
          generalize Lx.gap true (s.data.toList.drop (j + 1)) = g2 at h6
          clear h4
          go_round
          case rel => exact ⟨j + Lx.gap true (s.data.toList.drop j), by omega, by go_num, Lib.hid (by rw [HJ.out]; omega)⟩
          case measure => simp [intOf]; omega
        · have h2 := skip_not hlt ‹_›
          go_ret
          have h3 : s[j] ≠ 35 := by
            have : ((s[j].toNat : Int) == 35) = false := by assumption
            intro h; rw [h] at this; revert this; decide
          exact ⟨ret_int (by rw [HJ.out, HC.out, Lx.gap_none hb' h2 h3]; rfl), rfl⟩
    · go_wp2
      go_ret
      exact ⟨ret_int (by rw [HJ.out, at_end _ _ (by omega), gap_nil]; simp), rfl⟩
theorem skipGap_int (s : ByteArray) (i : Int) (k : Nat) (w : World) (hi : i = k) (hs : s.size ≤ 100000) (hk : k ≤ s.size) :
    Calls Tryd.prog 25 #[.string s, .int .i64 i] w fun e w' => e = .returned (.int .i64 ↑(k + Lx.gap false (s.data.toList.drop k))) ∧ w = w' := by
  subst hi; exact skipGap_any s k w hs hk

end Go.Proofs.YtlingnajbhlpdaaDoor
