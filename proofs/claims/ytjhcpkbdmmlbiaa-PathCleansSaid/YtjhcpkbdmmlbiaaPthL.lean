/- Walks: less of the reference; which places are too long for a statement. -/
import Derived.Test.YtjhcpkbdmmlbiaaPthB
namespace Go.Proofs.Ytjhcpkbdmmlbiaa
open Go.RowKit Px

theorem longL_more {xs : List ByteArray} (h : 100 < xs.length) : longL xs = true := by unfold longL; rw [decide_eq_true h]; rfl
theorem any_snoc {xs : List ByteArray} {k : Nat} (h : k < xs.length) (f : ByteArray → Bool) : (xs.take (k + 1)).any f = ((xs.take k).any f || f (xs.getD k ByteArray.empty)) := by
  rw [take_snoc_d h, List.any_append]
  simp
theorem longL_at {xs : List ByteArray} {k : Nat} (h : k < xs.length) (h' : 500 < (xs.getD k ByteArray.empty).size) : longL xs = true := by
  unfold longL
  rw [Bool.or_eq_true]
  refine Or.inr (List.any_eq_true.2 ⟨xs[k], List.getElem_mem h, ?_⟩)
  rw [List.getD_eq_getElem?_getD, List.getElem?_eq_getElem h] at h'
  exact decide_eq_true h'
theorem longL_not {xs : List ByteArray} {k : Nat} (h : xs.length ≤ 100) (hk : k = xs.length) (h' : ((xs.take k).any fun x => decide (500 < x.size)) = false) : longL xs = false := by
  subst hk
  rw [List.take_length] at h'
  unfold longL
  rw [h', decide_eq_false (by omega)]
  rfl
set_option maxRecDepth 100000 in
theorem long_any {w : World} {p : Option Addr} {xs : List ByteArray} (c : Nat) (hx : Strs w p xs) (hl : xs.length ≤ maxLen) :
    Calls Try.prog 6 #[.slice p xs.length c] w fun e w' => e = .returned (.bool (longL xs)) ∧ w = w' := by
  unfold maxLen at hl
  have HX := Lib.hid hx
  clear hx
  by_cases h : 100 < xs.length
  · have HV := Lib.hid (longL_more h)
    go_enter Try.func6, Try.ntmps6
    go_wp2_with fail
    go_ret
    exact ⟨ret_bool HV.out.symm, rfl⟩
  · go_enter Try.func6, Try.ntmps6
    go_wp2_with fail
    go_loop [3] (fun i => ∃ k : Nat, k ≤ xs.length ∧ i = .int .i64 k ∧ Hid (((xs.take k).any fun x => decide (500 < x.size)) = false)) (fun i => xs.length - (intOf i).toNat)
    case atStart => exact ⟨0, Nat.zero_le _, rfl, Lib.hid rfl⟩
    case round =>
      obtain ⟨k, hk, rfl, HT⟩ := hrel
      by_cases hlt : k < xs.length
      · obtain ⟨b, o, rfl, hc⟩ := HX.out k hlt
        have HS := Lib.hid (any_snoc hlt fun x => decide (500 < x.size))
        have HV := Lib.hid (longL_at hlt)
        generalize xs.getD k ByteArray.empty = x at hc HS HV
        by_cases h5 : 500 < x.size
        · have HV2 := Lib.hid (HV.out h5)
          go_wp2_with fail
          go_ret
          exact ⟨ret_bool HV2.out.symm, rfl⟩
        · have HS2 := Lib.hid (decide_eq_false h5)
          go_wp2_with fail
          go_round
          case rel => exact ⟨k + 1, by omega, by go_num, Lib.hid (by rw [HS.out, HT.out, HS2.out]; rfl)⟩
          case measure => simp [intOf]; omega
      · have HV := Lib.hid (longL_not (xs := xs) (k := k) (by omega) (by omega) HT.out)
        go_wp2_with fail
        go_ret
        exact ⟨ret_bool HV.out.symm, rfl⟩

set_option maxRecDepth 100000 in
theorem lessRef_any {w : World} {p q : Option Addr} {xs ys : List ByteArray} (c d : Nat) (hx : Strs w p xs) (hy : Strs w q ys) (hl : xs.length ≤ maxLen) (hr : ys.length ≤ maxLen) :
    Calls Try.prog 13 #[.slice p xs.length c, .slice q ys.length d] w fun e w' => e = .returned (.bool (lessL xs ys)) ∧ ∃ n, w' = w.drewN n := by
  unfold maxLen at hl hr
  have HX := Lib.hid hx
  have HY := Lib.hid hy
  clear hx hy
  have mixed := mixed_ok
  go_enter Try.func13, Try.ntmps13
  go_wp2_with fail
  go_loopw [5] (fun i wr => ∃ k q : Nat, k ≤ xs.length ∧ i = .int .i64 k ∧ wr = w.drewN q ∧ k ≤ ys.length ∧ Hid (lessL xs ys = lessL (xs.drop k) (ys.drop k))) (fun i _ => xs.length - (intOf i).toNat)
  case atStart => exact ⟨0, 0, Nat.zero_le _, rfl, rfl, Nat.zero_le _, Lib.hid rfl⟩
  case round =>
    obtain ⟨k, m, hk, rfl, rfl, hk2, HT⟩ := hrel
    by_cases hlt : k < xs.length
    · by_cases hlt2 : k < ys.length
      · obtain ⟨b, o, rfl, hc⟩ := HX.out k hlt
        obtain ⟨b2, o2, rfl, hc2⟩ := HY.out k hlt2
        have HS := Lib.hid (lessL_drop hlt hlt2)
        generalize xs.getD k ByteArray.empty = x at hc HS
        generalize ys.getD k ByteArray.empty = y at hc2 HS
        by_cases hxy : x = y
        · subst hxy
          go_wp2_with fail
          go_region_o
          go_wp2
          go_roundw
          case rel => exact ⟨k + 1, m + 1, by omega, by go_num, rfl, by omega, Lib.hid (by rw [HT.out, HS.out, if_pos trivial])⟩
          case measure => simp [intOf]; omega
        · have hxy' : (x.toList == y.toList) = false := (Lib.bytes_beq_false_iff _ _).2 hxy
          have HV : Hid (lessL xs ys = Op.bytesLess x.toList y.toList) := Lib.hid (by rw [HT.out, HS.out, if_neg hxy])
          clear hxy
          go_wp2_with fail
          go_region_o
          go_wp2_with fail
          go_region_o
          go_wp2
          go_ret
          exact ⟨ret_bool HV.out.symm, m + 1 + 1, rfl⟩
      · have HV : Hid (lessL xs ys = decide (xs.length < ys.length)) := Lib.hid (by rw [HT.out, lessL_end (Or.inr (by omega)) hk hk2])
        go_wp2_with fail
        go_ret
        exact ⟨ret_bool (by rw [HV.out]), m, rfl⟩
    · have HV : Hid (lessL xs ys = decide (xs.length < ys.length)) := Lib.hid (by rw [HT.out, lessL_end (Or.inl (by omega)) hk hk2])
      go_wp2_with fail
      go_ret
      exact ⟨ret_bool (by rw [HV.out]), m, rfl⟩
end Go.Proofs.Ytjhcpkbdmmlbiaa
