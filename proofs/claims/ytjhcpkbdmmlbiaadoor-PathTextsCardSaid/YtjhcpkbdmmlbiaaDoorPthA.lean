/- Walks: comparing places, of the program and of the reference. -/
import Derived.Test.YtjhcpkbdmmlbiaaDoorPthR
import Derived.Test.YtjhcpkbdmmlbiaaDoorPthShelf
import Derived.WalkKit
import Derived.WalkSpells
import Derived.Laws.Cover1
import Derived.BigQuiet
import Derived.Deep.QuietTactic
import Derived.Lib.SmallJoins
import Derived.Test.YtjhcpkbdmmlbiaaDoorLib
namespace Go.Proofs.YtjhcpkbdmmlbiaaDoor
open Go.RowKit Px

theorem ret_int {k : IntKind} {a b : Int} (h : a = b) : Ending.returned (.int k a) = Ending.returned (.int k b) := by rw [h]
theorem ret_bool {a b : Bool} (h : a = b) : Ending.returned (.bool a) = Ending.returned (.bool b) := by rw [h]

theorem isNaN_any (x : ByteArray) (w : World) :
    Calls Tryd.prog 57 #[.string x] w fun e w' => e = .returned (.bool false) ∧ w = w' := by
  go_enter Tryd.func57, Tryd.ntmps57
  go_wp2
  go_ret
  exact ⟨ret_bool (by simp), rfl⟩

theorem cmpOne_any (x y : ByteArray) (w : World) :
    Calls Tryd.prog 47 #[.string x, .string y] w fun e w' => e = .returned (.int .i64 (cmpB x y)) ∧ w = w' := by
  by_cases h1 : Op.bytesLess x.toList y.toList = true
  · have HV : Hid (cmpB x y = -1) := Lib.hid (by unfold cmpB; rw [if_pos h1])
    go_enter Tryd.func47, Tryd.ntmps47
    go_wp2_with (go_at_call 57; refine (isNaN_any _ _).mono ?_; rintro e w' ⟨rfl, rfl⟩)
    go_ret
    exact ⟨ret_int HV.out.symm, rfl⟩
  · have h1' : Op.bytesLess x.toList y.toList = false := by simpa using h1
    by_cases h2 : x = y
    · subst h2
      have HV : Hid (cmpB x x = 0) := Lib.hid ((cmpB_zero x x).2 rfl)
      clear h1
      have h3 : (x.toList == x.toList) = true := by simp
      go_enter Tryd.func47, Tryd.ntmps47
      go_wp2_with (go_at_call 57; refine (isNaN_any _ _).mono ?_; rintro e w' ⟨rfl, rfl⟩)
      go_ret
      exact ⟨ret_int HV.out.symm, rfl⟩
    · have HV : Hid (cmpB x y = 1) := Lib.hid (by unfold cmpB; rw [if_neg h1, if_neg h2])
      have h3 : (x.toList == y.toList) = false := by
        rw [Bool.eq_false_iff]
        intro h
        exact h2 (toList_inj (by simpa using h))
      clear h1 h2
      go_enter Tryd.func47, Tryd.ntmps47
      go_wp2_with (go_at_call 57; refine (isNaN_any _ _).mono ?_; rintro e w' ⟨rfl, rfl⟩)
      go_ret
      exact ⟨ret_int HV.out.symm, rfl⟩

set_option maxRecDepth 100000 in
theorem compare_any {w : World} {p q : Option Addr} {xs ys : List ByteArray} (c d : Nat) (hx : Strs w p xs) (hy : Strs w q ys) (hl : xs.length ≤ maxLen) (hr : ys.length ≤ maxLen) :
    Calls Tryd.prog 35 #[.slice p xs.length c, .slice q ys.length d] w fun e w' => e = .returned (.int .i64 (cmpL xs ys)) ∧ w = w' := by
  unfold maxLen at hl hr
  have HX := Lib.hid hx
  have HY := Lib.hid hy
  clear hx hy
  go_enter Tryd.func35, Tryd.ntmps35
  go_wp2_with fail
  go_loop [11] (fun i => ∃ k : Nat, k ≤ xs.length ∧ i = .int .i64 k ∧ Hid (cmpL xs ys = cmpL (xs.drop k) (ys.drop k)) ∧ Hid (k ≤ ys.length)) (fun i => xs.length - (intOf i).toNat)
  case atStart => exact ⟨0, Nat.zero_le _, rfl, Lib.hid rfl, Lib.hid (Nat.zero_le _)⟩
  case round =>
    obtain ⟨k, hk, rfl, HC, HK⟩ := hrel
    by_cases hlt : k < xs.length
    · obtain ⟨b, o, rfl, hc⟩ := HX.out k hlt
      by_cases hlt2 : k < ys.length
      · obtain ⟨b2, o2, rfl, hc2⟩ := HY.out k hlt2
        have HD := Lib.hid (cmpL_drop hlt hlt2)
        generalize xs.getD k ByteArray.empty = x at hc HD
        generalize ys.getD k ByteArray.empty = y at hc2 HD
        have hb := cmpB_le x y
        by_cases h0 : cmpB x y = 0
        · have HZ := Lib.hid h0
          clear h0 hb
          go_wp2_with (go_at_call 47; refine (cmpOne_any _ _ _).mono ?_; rintro e w' ⟨rfl, rfl⟩; rw [HZ.out])
          go_round
          case rel => exact ⟨k + 1, by omega, by go_num, Lib.hid (by rw [HC.out, HD.out, if_pos HZ.out]), Lib.hid (by omega)⟩
          case measure => simp [intOf]; omega
        · have h0' : (cmpB x y == 0) = false := by simpa using h0
          have HZ := Lib.hid h0
          go_wp2_with (go_at_call 47; refine (cmpOne_any _ _ _).mono ?_; rintro e w' ⟨rfl, rfl⟩)
          go_ret
          exact ⟨ret_int (by rw [HC.out, HD.out, if_neg HZ.out]), rfl⟩
      · have HO := Lib.hid (cmpL_over hlt (Nat.le_of_not_lt hlt2))
        go_wp2_with fail
        go_ret
        exact ⟨ret_int (by rw [HC.out, HO.out]), rfl⟩
    · have HE := Lib.hid (cmpL_end (l := xs) (r := ys) (k := k) (by omega))
      have hke : k = xs.length := by omega
      by_cases hlt2 : xs.length < ys.length
      · have HE2 : Hid (cmpL xs ys = -1) := Lib.hid (by rw [HC.out, HE.out, if_pos (by omega)])
        clear hke
        go_wp2_with fail
        go_ret
        exact ⟨ret_int HE2.out.symm, rfl⟩
      · have HE2 : Hid (cmpL xs ys = 0) := Lib.hid (by rw [HC.out, HE.out, if_neg (by omega)])
        clear hke
        go_wp2_with fail
        go_ret
        exact ⟨ret_int HE2.out.symm, rfl⟩

theorem less_any {w : World} {p q : Option Addr} {xs ys : List ByteArray} (c d : Nat) (hx : Strs w p xs) (hy : Strs w q ys) (hl : xs.length ≤ maxLen) (hr : ys.length ≤ maxLen) :
    Calls Tryd.prog 22 #[.slice p xs.length c, .slice q ys.length d] w fun e w' => e = .returned (.bool (lessL xs ys)) ∧ w = w' := by
  have HV := Lib.hid (cmpL_less xs ys)
  have h1 := (cmpL_le xs ys).1
  have h2 := (cmpL_le xs ys).2
  go_enter Tryd.func22, Tryd.ntmps22
  go_wp2_with (go_at_call 35; refine (compare_any _ _ hx hy hl hr).mono ?_; rintro e w' ⟨rfl, rfl⟩)
  go_ret
  exact ⟨ret_bool HV.out, rfl⟩
end Go.Proofs.YtjhcpkbdmmlbiaaDoor
