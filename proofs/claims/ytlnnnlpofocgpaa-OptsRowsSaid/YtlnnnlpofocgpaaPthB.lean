/- Walks: under and same, of the program and of the reference. -/
import Derived.Test.YtlnnnlpofocgpaaPthA
namespace Go.Proofs.Ytlnnnlpofocgpaa
open Go.RowKit Px

theorem mixed_ok : Try.prog.follows .mixedOrders = true := by kernel_rfl
theorem below_drew1 (w : World) (n : Nat) : Below w.heap.size w (w.drewN n) := below_drewN (Below.refl _ _) n
theorem strs_getD {w : World} {b o : Nat} {xs : List ByteArray} (h : Strs w (some ⟨b, o, none⟩) xs) : ∀ j, j < xs.length → w.cell? ⟨b, o + j, none⟩ = some (.string (xs.getD j ByteArray.empty)) := by
  intro j hj
  obtain ⟨b', o', h1, h2⟩ := h j hj
  obtain ⟨rfl, rfl⟩ : b = b' ∧ o = o' := by simpa using h1
  exact h2
theorem strs_take {w : World} {p : Option Addr} {xs : List ByteArray} (h : Strs w p xs) (n : Nat) : Strs w p (xs.take n) := by
  intro i hi
  rw [List.length_take] at hi
  obtain ⟨b, o, h1, h2⟩ := h i (by omega)
  refine ⟨b, o, h1, ?_⟩
  rw [h2]
  congr 2
  rw [List.getD_eq_getElem?_getD, List.getD_eq_getElem?_getD, List.getElem?_take_of_lt (by omega)]

theorem underL_more {xs ys : List ByteArray} (h : ys.length < xs.length) : underL xs ys = false := by
  unfold underL
  refine decide_eq_false fun he => ?_
  have := congrArg List.length he
  rw [List.length_take] at this
  omega
theorem take_snoc_d {xs : List ByteArray} {k : Nat} (h : k < xs.length) : xs.take (k + 1) = xs.take k ++ [xs.getD k ByteArray.empty] := by
  rw [List.take_succ_eq_append_getElem h, List.getD_eq_getElem?_getD, List.getElem?_eq_getElem h]
  rfl
theorem underL_ne {xs ys : List ByteArray} {k : Nat} (h : k < xs.length) (h' : k < ys.length) (hne : xs.getD k ByteArray.empty ≠ ys.getD k ByteArray.empty) : underL xs ys = false := by
  have _h0 := h'
  unfold underL
  refine decide_eq_false fun he => hne ?_
  have := congrArg (fun l => l.getD k ByteArray.empty) he
  rw [this, List.getD_eq_getElem?_getD, List.getD_eq_getElem?_getD, List.getElem?_take_of_lt h]
theorem underL_all {xs ys : List ByteArray} {k : Nat} (h : k = xs.length) (he : xs.take k = ys.take k) : underL xs ys = true := by
  subst h
  unfold underL
  rw [List.take_length] at he
  exact decide_eq_true he

set_option maxRecDepth 100000 in
theorem underRef_any {w : World} {p q : Option Addr} {xs ys : List ByteArray} (c d : Nat) (hx : Strs w p xs) (hy : Strs w q ys) (hl : xs.length ≤ maxLen) (hr : ys.length ≤ maxLen) :
    Calls Try.prog 20 #[.slice p xs.length c, .slice q ys.length d] w fun e w' => e = .returned (.bool (underL xs ys)) ∧ ∃ n, w' = w.drewN n := by
  have _h0 := hl
  unfold maxLen at hl hr
  have HX := Lib.hid hx
  have HY := Lib.hid hy
  clear hx hy
  by_cases h : xs.length ≤ ys.length
  · have mixed := mixed_ok
    have h10 : decide (ys.length < xs.length) = false := decide_eq_false (by omega)
    go_enter Try.func20, Try.ntmps20
    go_wp2_with fail
    go_loopw [5] (fun i wr => ∃ k q : Nat, k ≤ xs.length ∧ i = .int .i64 k ∧ wr = w.drewN q ∧ Hid (xs.take k = ys.take k)) (fun i _ => xs.length - (intOf i).toNat)
    case atStart => exact ⟨0, 0, Nat.zero_le _, rfl, rfl, Lib.hid rfl⟩
    case round =>
      obtain ⟨k, m, hk, rfl, rfl, HT⟩ := hrel
      by_cases hlt : k < xs.length
      · obtain ⟨b, o, rfl, hc⟩ := HX.out k hlt
        obtain ⟨b2, o2, rfl, hc2⟩ := HY.out k (by omega)
        have hlt2 : k < ys.length := by omega
        have HS := Lib.hid (take_snoc_d hlt)
        have HS2 := Lib.hid (take_snoc_d hlt2)
        have HNE := Lib.hid (underL_ne hlt hlt2)
        generalize xs.getD k ByteArray.empty = x at hc HS HNE
        generalize ys.getD k ByteArray.empty = y at hc2 HS2 HNE
        by_cases hxy : x = y
        · subst hxy
          go_wp2_with fail
          go_region_o
          go_wp2
          go_roundw
          case rel => exact ⟨k + 1, m + 1, by omega, by go_num, rfl, Lib.hid (by rw [HS.out, HS2.out, HT.out])⟩
          case measure => simp [intOf]; omega
        · have hxy' : (x.toList == y.toList) = false := (Lib.bytes_beq_false_iff _ _).2 hxy
          have HV := Lib.hid (HNE.out hxy)
          clear hxy
          go_wp2_with fail
          go_region_o
          go_wp2
          go_ret
          exact ⟨ret_bool HV.out.symm, m + 1, rfl⟩
      · have HV := Lib.hid (underL_all (xs := xs) (ys := ys) (k := k) (by omega) HT.out)
        go_wp2_with fail
        go_ret
        exact ⟨ret_bool HV.out.symm, m, rfl⟩
  · have HV := Lib.hid (underL_more (xs := xs) (ys := ys) (by omega))
    go_enter Try.func20, Try.ntmps20
    go_wp2_with fail
    go_ret
    exact ⟨ret_bool HV.out.symm, 0, rfl⟩

theorem sameRef_any {w : World} {p q : Option Addr} {xs ys : List ByteArray} (c d : Nat) (hx : Strs w p xs) (hy : Strs w q ys) (hl : xs.length ≤ maxLen) (hr : ys.length ≤ maxLen) :
    Calls Try.prog 9 #[.slice p xs.length c, .slice q ys.length d] w fun e w' => e = .returned (.bool (sameL xs ys)) ∧ ∃ n, w' = w.drewN n := by
  have hl' := hl
  have hr' := hr
  unfold maxLen at hl hr
  by_cases h : xs.length = ys.length
  · have HE : Hid (underL xs ys = sameL xs ys) := Lib.hid (by unfold underL sameL; rw [h, List.take_length])
    have HU := Lib.hid (underRef_any c d hx hy hl' hr')
    have h1 : ((xs.length : Int) == ys.length) = true := by simp [h]
    clear hx hy hl' hr' h
    go_enter Try.func9, Try.ntmps9
    go_wp2_with (go_at_call 20; refine HU.out.mono ?_; rintro e w' ⟨rfl, n, rfl⟩)
    go_ret
    exact ⟨ret_bool HE.out, n, rfl⟩
  · have HE : Hid (sameL xs ys = false) := Lib.hid (by unfold sameL; exact decide_eq_false fun he => h (by rw [he]))
    have h1 : ((xs.length : Int) == ys.length) = false := by simp; omega
    clear hx hy hl' hr' h
    go_enter Try.func9, Try.ntmps9
    go_wp2_with fail
    go_ret
    exact ⟨ret_bool HE.out.symm, 0, rfl⟩

end Go.Proofs.Ytlnnnlpofocgpaa
