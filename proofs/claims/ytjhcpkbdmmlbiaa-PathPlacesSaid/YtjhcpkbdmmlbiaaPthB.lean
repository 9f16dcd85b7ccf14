/- Walks: under, same, less of the reference, long. -/
import Derived.Test.YtjhcpkbdmmlbiaaPthA
namespace Go.Proofs.Ytjhcpkbdmmlbiaa
open Go.RowKit Px

theorem mixed_ok : Try.prog.follows .mixedOrders = true := by kernel_rfl
theorem below_drew1 (w : World) (n : Nat) : Below w.heap.size w (w.drewN n) := below_drewN (Below.refl _ _) n
theorem strs_getD {w : World} {b o : Nat} {xs : List ByteArray} (h : Strs w (some ⟨b, o, none⟩) xs) : ∀ j, j < xs.length → w.cell? ⟨b, o + j, none⟩ = some (.string (xs.getD j ByteArray.empty)) := by
  intro j hj
  obtain ⟨b', o', h1, h2⟩ := h j hj
  obtain ⟨rfl, rfl⟩ : b = b' ∧ o = o' := by simpa using h1
  exact h2
theorem strs_take {w : World} {p : Option Addr} {xs : List ByteArray} (h : Strs w p xs) (n : Nat) : Strs w p (xs.take n) := by
  intro i hi
  rw [List.length_take] at hi
  obtain ⟨b, o, h1, h2⟩ := h i (by omega)
  refine ⟨b, o, h1, ?_⟩
  rw [h2]
  congr 2
  rw [List.getD_eq_getElem?_getD, List.getD_eq_getElem?_getD, List.getElem?_take_of_lt (by omega)]

theorem equal_any {w : World} {p q : Option Addr} {xs ys : List ByteArray} (c d : Nat) (hx : Strs w p xs) (hy : Strs w q ys) (hl : xs.length ≤ maxLen) (he : ys.length = xs.length) :
    Calls Try.prog 22 #[.slice p xs.length c, .slice q xs.length d] w fun e w' => e = .returned (.bool (decide (xs = ys))) ∧ ∃ n, w' = w.drewN n := by
  unfold maxLen at hl
  by_cases h0 : xs = []
  · subst h0
    obtain rfl : ys = [] := List.length_eq_zero_iff.1 he
    refine (Try.slices_Equal_string_empty p q c 0 d w (by omega)).mono fun e w' ⟨h1, h2⟩ => ⟨?_, 0, h2⟩
    rw [h1]
    rfl
  · have hpos : 0 < xs.length := List.length_pos_iff.2 h0
    obtain ⟨b, o, rfl, _⟩ := hx 0 hpos
    obtain ⟨b2, o2, rfl, _⟩ := hy 0 (by omega)
    refine (Try.slices_Equal_string b o xs.length c b2 o2 xs.length d xs ys w (Nat.le_refl _) (by omega) (by omega) (by omega) (strs_getD hx) (strs_getD hy)).mono fun e w' ⟨h1, h2⟩ => ⟨?_, h2⟩
    rw [h1, List.take_length, List.take_of_length_le (Nat.le_of_eq he)]

theorem under_any {w : World} {p q : Option Addr} {xs ys : List ByteArray} (c d : Nat) (hx : Strs w p xs) (hy : Strs w q ys) (hl : xs.length ≤ maxLen) (hr : ys.length ≤ d) (hd : d ≤ maxLen) :
    Calls Try.prog 10 #[.slice p xs.length c, .slice q ys.length d] w fun e w' => e = .returned (.bool (underL xs ys)) ∧ ∃ n, w' = w.drewN n := by
  have hl' := hl
  unfold maxLen at hl hd
  by_cases h : xs.length ≤ ys.length
  · have HE := Lib.hid (equal_any (w := w) c d hx (strs_take hy xs.length) hl' (by rw [List.length_take]; omega))
    clear hx hy
    have h1 : xs.length ≤ d := by omega
    go_enter Try.func10, Try.ntmps10
    go_wp2_with (go_at_call 22; refine HE.out.mono ?_; rintro e w' ⟨rfl, n, rfl⟩)
    go_ret
    exact ⟨rfl, n, rfl⟩
  · have HV : Hid (underL xs ys = false) := Lib.hid (by
      unfold underL
      refine decide_eq_false fun he => ?_
      have := congrArg List.length he
      rw [List.length_take] at this
      omega)
    clear hx hy hl'
    go_enter Try.func10, Try.ntmps10
    go_wp2_with fail
    go_ret
    exact ⟨ret_bool HV.out.symm, 0, rfl⟩

theorem underL_more {xs ys : List ByteArray} (h : ys.length < xs.length) : underL xs ys = false := by
  unfold underL
  refine decide_eq_false fun he => ?_
  have := congrArg List.length he
  rw [List.length_take] at this
  omega
theorem take_snoc_d {xs : List ByteArray} {k : Nat} (h : k < xs.length) : xs.take (k + 1) = xs.take k ++ [xs.getD k ByteArray.empty] := by
  rw [List.take_succ_eq_append_getElem h, List.getD_eq_getElem?_getD, List.getElem?_eq_getElem h]
  rfl
theorem underL_ne {xs ys : List ByteArray} {k : Nat} (h : k < xs.length) (h' : k < ys.length) (hne : xs.getD k ByteArray.empty ≠ ys.getD k ByteArray.empty) : underL xs ys = false := by
  unfold underL
  refine decide_eq_false fun he => hne ?_
  have := congrArg (fun l => l.getD k ByteArray.empty) he
  rw [this, List.getD_eq_getElem?_getD, List.getD_eq_getElem?_getD, List.getElem?_take_of_lt h]
theorem underL_all {xs ys : List ByteArray} {k : Nat} (h : k = xs.length) (he : xs.take k = ys.take k) : underL xs ys = true := by
  subst h
  unfold underL
  rw [List.take_length] at he
  exact decide_eq_true he

set_option maxRecDepth 100000 in
theorem underRef_any {w : World} {p q : Option Addr} {xs ys : List ByteArray} (c d : Nat) (hx : Strs w p xs) (hy : Strs w q ys) (hl : xs.length ≤ maxLen) (hr : ys.length ≤ maxLen) :
    Calls Try.prog 11 #[.slice p xs.length c, .slice q ys.length d] w fun e w' => e = .returned (.bool (underL xs ys)) ∧ ∃ n, w' = w.drewN n := by
  unfold maxLen at hl hr
  have HX := Lib.hid hx
  have HY := Lib.hid hy
  clear hx hy
  by_cases h : xs.length ≤ ys.length
  · have mixed := mixed_ok
    have h10 : decide (ys.length < xs.length) = false := decide_eq_false (by omega)
    go_enter Try.func11, Try.ntmps11
    go_wp2_with fail
    go_loopw [5] (fun i wr => ∃ k q : Nat, k ≤ xs.length ∧ i = .int .i64 k ∧ wr = w.drewN q ∧ Hid (xs.take k = ys.take k)) (fun i _ => xs.length - (intOf i).toNat)
    case atStart => exact ⟨0, 0, Nat.zero_le _, rfl, rfl, Lib.hid rfl⟩
    case round =>
      obtain ⟨k, m, hk, rfl, rfl, HT⟩ := hrel
      by_cases hlt : k < xs.length
      · obtain ⟨b, o, rfl, hc⟩ := HX.out k hlt
        obtain ⟨b2, o2, rfl, hc2⟩ := HY.out k (by omega)
        have hlt2 : k < ys.length := by omega
        have HS := Lib.hid (take_snoc_d hlt)
        have HS2 := Lib.hid (take_snoc_d hlt2)
        have HNE := Lib.hid (underL_ne hlt hlt2)
        generalize xs.getD k ByteArray.empty = x at hc HS HNE
        generalize ys.getD k ByteArray.empty = y at hc2 HS2 HNE
        by_cases hxy : x = y
        · subst hxy
          go_wp2_with fail
          go_region_o
          go_wp2
          go_roundw
          case rel => exact ⟨k + 1, m + 1, by omega, by go_num, rfl, Lib.hid (by rw [HS.out, HS2.out, HT.out])⟩
          case measure => simp [intOf]; omega
        · have hxy' : (x.toList == y.toList) = false := (Lib.bytes_beq_false_iff _ _).2 hxy
          have HV := Lib.hid (HNE.out hxy)
          clear hxy
          go_wp2_with fail
          go_region_o
          go_wp2
          go_ret
          exact ⟨ret_bool HV.out.symm, m + 1, rfl⟩
      · have HV := Lib.hid (underL_all (xs := xs) (ys := ys) (k := k) (by omega) HT.out)
        go_wp2_with fail
        go_ret
        exact ⟨ret_bool HV.out.symm, m, rfl⟩
  · have HV := Lib.hid (underL_more (xs := xs) (ys := ys) (by omega))
    go_enter Try.func11, Try.ntmps11
    go_wp2_with fail
    go_ret
    exact ⟨ret_bool HV.out.symm, 0, rfl⟩

theorem sameRef_any {w : World} {p q : Option Addr} {xs ys : List ByteArray} (c d : Nat) (hx : Strs w p xs) (hy : Strs w q ys) (hl : xs.length ≤ maxLen) (hr : ys.length ≤ maxLen) :
    Calls Try.prog 15 #[.slice p xs.length c, .slice q ys.length d] w fun e w' => e = .returned (.bool (sameL xs ys)) ∧ ∃ n, w' = w.drewN n := by
  have hl' := hl
  have hr' := hr
  unfold maxLen at hl hr
  by_cases h : xs.length = ys.length
  · have HE : Hid (underL xs ys = sameL xs ys) := Lib.hid (by unfold underL sameL; rw [h, List.take_length])
    have HU := Lib.hid (underRef_any c d hx hy hl' hr')
    have h1 : ((xs.length : Int) == ys.length) = true := by simp [h]
    clear hx hy hl' hr' h
    go_enter Try.func15, Try.ntmps15
    go_wp2_with (go_at_call 11; refine HU.out.mono ?_; rintro e w' ⟨rfl, n, rfl⟩)
    go_ret
    exact ⟨ret_bool HE.out, n, rfl⟩
  · have HE : Hid (sameL xs ys = false) := Lib.hid (by unfold sameL; exact decide_eq_false fun he => h (by rw [he]))
    have h1 : ((xs.length : Int) == ys.length) = false := by simp; omega
    clear hx hy hl' hr' h
    go_enter Try.func15, Try.ntmps15
    go_wp2_with fail
    go_ret
    exact ⟨ret_bool HE.out.symm, 0, rfl⟩

theorem longL_more {xs : List ByteArray} (h : 100 < xs.length) : longL xs = true := by unfold longL; rw [decide_eq_true h]; rfl
theorem any_snoc {xs : List ByteArray} {k : Nat} (h : k < xs.length) (f : ByteArray → Bool) : (xs.take (k + 1)).any f = ((xs.take k).any f || f (xs.getD k ByteArray.empty)) := by
  rw [take_snoc_d h, List.any_append]
  simp
theorem longL_at {xs : List ByteArray} {k : Nat} (h : k < xs.length) (h' : 500 < (xs.getD k ByteArray.empty).size) : longL xs = true := by
  unfold longL
  rw [Bool.or_eq_true]
  refine Or.inr (List.any_eq_true.2 ⟨xs[k], List.getElem_mem h, ?_⟩)
  rw [List.getD_eq_getElem?_getD, List.getElem?_eq_getElem h] at h'
  exact decide_eq_true h'
theorem longL_not {xs : List ByteArray} {k : Nat} (h : xs.length ≤ 100) (hk : k = xs.length) (h' : ((xs.take k).any fun x => decide (500 < x.size)) = false) : longL xs = false := by
  subst hk
  rw [List.take_length] at h'
  unfold longL
  rw [h', decide_eq_false (by omega)]
  rfl
set_option maxRecDepth 100000 in
theorem long_any {w : World} {p : Option Addr} {xs : List ByteArray} (c : Nat) (hx : Strs w p xs) (hl : xs.length ≤ maxLen) :
    Calls Try.prog 6 #[.slice p xs.length c] w fun e w' => e = .returned (.bool (longL xs)) ∧ w = w' := by
  unfold maxLen at hl
  have HX := Lib.hid hx
  clear hx
  by_cases h : 100 < xs.length
  · have HV := Lib.hid (longL_more h)
    go_enter Try.func6, Try.ntmps6
    go_wp2_with fail
    go_ret
    exact ⟨ret_bool HV.out.symm, rfl⟩
  · go_enter Try.func6, Try.ntmps6
    go_wp2_with fail
    go_loop [3] (fun i => ∃ k : Nat, k ≤ xs.length ∧ i = .int .i64 k ∧ Hid (((xs.take k).any fun x => decide (500 < x.size)) = false)) (fun i => xs.length - (intOf i).toNat)
    case atStart => exact ⟨0, Nat.zero_le _, rfl, Lib.hid rfl⟩
    case round =>
      obtain ⟨k, hk, rfl, HT⟩ := hrel
      by_cases hlt : k < xs.length
      · obtain ⟨b, o, rfl, hc⟩ := HX.out k hlt
        have HS := Lib.hid (any_snoc hlt fun x => decide (500 < x.size))
        have HV := Lib.hid (longL_at hlt)
        generalize xs.getD k ByteArray.empty = x at hc HS HV
        by_cases h5 : 500 < x.size
        · have HV2 := Lib.hid (HV.out h5)
          go_wp2_with fail
          go_ret
          exact ⟨ret_bool HV2.out.symm, rfl⟩
        · have HS2 := Lib.hid (decide_eq_false h5)
          go_wp2_with fail
          go_round
          case rel => exact ⟨k + 1, by omega, by go_num, Lib.hid (by rw [HS.out, HT.out, HS2.out]; rfl)⟩
          case measure => simp [intOf]; omega
      · have HV := Lib.hid (longL_not (xs := xs) (k := k) (by omega) (by omega) HT.out)
        go_wp2_with fail
        go_ret
        exact ⟨ret_bool HV.out.symm, rfl⟩

set_option maxRecDepth 100000 in
theorem lessRef_any {w : World} {p q : Option Addr} {xs ys : List ByteArray} (c d : Nat) (hx : Strs w p xs) (hy : Strs w q ys) (hl : xs.length ≤ maxLen) (hr : ys.length ≤ maxLen) :
    Calls Try.prog 13 #[.slice p xs.length c, .slice q ys.length d] w fun e w' => e = .returned (.bool (lessL xs ys)) ∧ ∃ n, w' = w.drewN n := by
  unfold maxLen at hl hr
  have HX := Lib.hid hx
  have HY := Lib.hid hy
  clear hx hy
  have mixed := mixed_ok
  go_enter Try.func13, Try.ntmps13
  go_wp2_with fail
  go_loopw [5] (fun i wr => ∃ k q : Nat, k ≤ xs.length ∧ i = .int .i64 k ∧ wr = w.drewN q ∧ k ≤ ys.length ∧ Hid (lessL xs ys = lessL (xs.drop k) (ys.drop k))) (fun i _ => xs.length - (intOf i).toNat)
  case atStart => exact ⟨0, 0, Nat.zero_le _, rfl, rfl, Nat.zero_le _, Lib.hid rfl⟩
  case round =>
    obtain ⟨k, m, hk, rfl, rfl, hk2, HT⟩ := hrel
    by_cases hlt : k < xs.length
    · by_cases hlt2 : k < ys.length
      · obtain ⟨b, o, rfl, hc⟩ := HX.out k hlt
        obtain ⟨b2, o2, rfl, hc2⟩ := HY.out k hlt2
        have HS := Lib.hid (lessL_drop hlt hlt2)
        generalize xs.getD k ByteArray.empty = x at hc HS
        generalize ys.getD k ByteArray.empty = y at hc2 HS
        by_cases hxy : x = y
        · subst hxy
          go_wp2_with fail
          go_region_o
          go_wp2
          go_roundw
          case rel => exact ⟨k + 1, m + 1, by omega, by go_num, rfl, by omega, Lib.hid (by rw [HT.out, HS.out, if_pos trivial])⟩
          case measure => simp [intOf]; omega
        · have hxy' : (x.toList == y.toList) = false := (Lib.bytes_beq_false_iff _ _).2 hxy
          have HV : Hid (lessL xs ys = Op.bytesLess x.toList y.toList) := Lib.hid (by rw [HT.out, HS.out, if_neg hxy])
          clear hxy
          go_wp2_with fail
          go_region_o
          go_wp2_with fail
          go_region_o
          go_wp2
          go_ret
          exact ⟨ret_bool HV.out.symm, m + 1 + 1, rfl⟩
      · have HV : Hid (lessL xs ys = decide (xs.length < ys.length)) := Lib.hid (by rw [HT.out, lessL_end (Or.inr (by omega)) hk hk2])
        go_wp2_with fail
        go_ret
        exact ⟨ret_bool (by rw [HV.out]), m, rfl⟩
    · have HV : Hid (lessL xs ys = decide (xs.length < ys.length)) := Lib.hid (by rw [HT.out, lessL_end (Or.inl (by omega)) hk hk2])
      go_wp2_with fail
      go_ret
      exact ⟨ret_bool (by rw [HV.out]), m, rfl⟩
end Go.Proofs.Ytjhcpkbdmmlbiaa
