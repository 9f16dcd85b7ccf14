/- Walks over nodes: how heavy one is, of the law; where a name stands, and what stands at a place, of the reference. -/
import Derived.Test.YtonpeoaahjoboaaFtF
namespace Go.Proofs.Ytonpeoaahjoboaa
open Go.RowKit Px Nx

set_option maxRecDepth 100000 in
set_option maxHeartbeats 4000000 in
theorem weight_any {W : World} {cs : List Value} {c : Nd} (h : NodeR W cs c) : ∀ w, Below W.heap.size W w →
    Calls Try.prog 42 #[.agg cs.toArray] w fun e w' => (∃ n : Int, e = .returned (.int .i64 n)) ∧ Below w.heap.size w w' := by
  induction h with
  | mk kind text names kids p q cp d D h1 h2 h3 h5 h6 h7 h8 ih =>
    intro w hb
    have hlw : names.length ≤ 9223372036854775807 := by unfold maxLen at h2; omega
    have hlk : kids.length ≤ 9223372036854775807 := by unfold maxLen at h6; omega
    have IH := Lib.hid ih
    have HRW := Lib.hid h3
    have HRK := Lib.hid h7
    have HW := Lib.hid hb
    clear ih h8 h7 h3 hb h1 h2 h5 h6
    have HN : Hid (∀ {wr : World} {k : Nat}, Below W.heap.size W wr → k < names.length → ∃ b o s, p = some ⟨b, o, none⟩ ∧ wr.cell? ⟨b, o + k, none⟩ = some (.string s)) := Lib.hid fun hb hk => by
      obtain ⟨b, o, he, hc⟩ := name_cell HRW.out hb hk
      exact ⟨b, o, _, he, hc⟩
    have HK : Hid (∀ (k : Nat), k < kids.length → ∀ w, Below W.heap.size W w → Calls Try.prog 42 #[.agg (D k).toArray] w fun e w' => (∃ n : Int, e = .returned (.int .i64 n)) ∧ Below w.heap.size w w') := Lib.hid fun k hk w hb => IH.out k _ (List.getElem?_eq_getElem hk) w hb
    clear IH HRW
    generalize names.length = nn at *
    generalize kids.length = kn at *
    go_enter Try.func42, Try.ntmps42
    go_wp2_with fail
    go_loopw [3, 4] (fun s i wr => ∃ (k : Nat) (n : Int), k ≤ nn ∧ i = .int .i64 k ∧ s = .int .i64 n ∧ Hid (Below (w.heap.size + 1) (w.alloc (.cells #[.int .u8 kind.toNat, .string text, .slice p nn cp, .slice q kn d] 40)) wr)) (fun _ i _ => nn - (intOf i).toNat)
    case atStart => exact ⟨0, _, Nat.zero_le _, rfl, rfl, Lib.hid (Below.refl _ _)⟩
    case round =>
      obtain ⟨k, n, hk, rfl, rfl, HB⟩ := hrel
      have c2 : wr.cell? ⟨w.heap.size, 2, none⟩ = some (.slice p nn cp) := box_cell HB.out 2 rfl
      have HOLD : Hid (Below W.heap.size W wr) := Lib.hid (box_old HW.out (Nat.le_refl _) HB.out)
      have HREST : Hid (∀ (m : Int), Below (w.heap.size + 1) (w.alloc (.cells #[.int .u8 kind.toNat, .string text, .slice p nn cp, .slice q kn d] 40)) wr → True) := Lib.hid fun _ _ => trivial
      clear HREST
      by_cases hlt : k < nn
      · obtain ⟨b, o, s, rfl, e0⟩ := HN.out HOLD.out hlt
        by_cases hn3 : n < 3000
        · go_wp2_with fail
          go_roundw
          case rel => exact ⟨k + 1, _, by omega, by go_num, rfl, HB⟩
          case measure => simp [intOf]; omega
        · (
          go_wp2_with fail
          have HB0 := Lib.hid HB.out
          clear HB c2 HOLD
          go_loopw [3, 5] (fun s i wr => ∃ (k : Nat) (n : Int), k ≤ kn ∧ i = .int .i64 k ∧ s = .int .i64 n ∧ Hid (Below (w.heap.size + 1) (w.alloc (.cells #[.int .u8 kind.toNat, .string text, .slice (some ⟨b, o, none⟩) nn cp, .slice q kn d] 40)) wr)) (fun _ i _ => kn - (intOf i).toNat)
          case atStart => exact ⟨0, _, Nat.zero_le _, rfl, rfl, HB0⟩
          case round =>
            clear HB0
            obtain ⟨j, m, hj, rfl, rfl, HB⟩ := hrel
            have c3 : wr.cell? ⟨w.heap.size, 3, none⟩ = some (.slice q kn d) := box_cell HB.out 3 rfl
            have HOLD : Hid (Below W.heap.size W wr) := Lib.hid (box_old HW.out (Nat.le_refl _) HB.out)
            by_cases hjn : j < kn
            · obtain ⟨b, o, v0, v1, v2, v3, rfl, hD, e0, e1, e2, e3⟩ := kid_at HRK.out HOLD.out hjn
              have HC := Lib.hid (HK.out j hjn wr HOLD.out)
              rw [hD] at HC
              clear hD
              go_wp2_with fail
              · refine HC.out.mono ?_
                rintro e w2 ⟨⟨x, rfl⟩, hb2⟩
                have HB2 : Hid (Below (w.heap.size + 1) wr w2) := Lib.hid (hb2.mono (by have := HB.out.size; simp at this; omega))
                clear hb2
                go_wp2
                go_roundw
                case rel => exact ⟨j + 1, _, by omega, by go_num, rfl, Lib.hid (HB.out.trans HB2.out)⟩
                case measure => simp [intOf]; omega
              · go_wp2
                go_ret
                exact ⟨⟨_, rfl⟩, box_self HB.out⟩
            · go_wp2
              go_ret
              exact ⟨⟨_, rfl⟩, box_self HB.out⟩)
      · (
        go_wp2_with fail
        have HB0 := Lib.hid HB.out
        clear HB c2 HOLD
        go_loopw [3, 5] (fun s i wr => ∃ (k : Nat) (n : Int), k ≤ kn ∧ i = .int .i64 k ∧ s = .int .i64 n ∧ Hid (Below (w.heap.size + 1) (w.alloc (.cells #[.int .u8 kind.toNat, .string text, .slice p nn cp, .slice q kn d] 40)) wr)) (fun _ i _ => kn - (intOf i).toNat)
        case atStart => exact ⟨0, _, Nat.zero_le _, rfl, rfl, HB0⟩
        case round =>
          clear HB0
          obtain ⟨j, m, hj, rfl, rfl, HB⟩ := hrel
          have c3 : wr.cell? ⟨w.heap.size, 3, none⟩ = some (.slice q kn d) := box_cell HB.out 3 rfl
          have HOLD : Hid (Below W.heap.size W wr) := Lib.hid (box_old HW.out (Nat.le_refl _) HB.out)
          by_cases hjn : j < kn
          · obtain ⟨b, o, v0, v1, v2, v3, rfl, hD, e0, e1, e2, e3⟩ := kid_at HRK.out HOLD.out hjn
            have HC := Lib.hid (HK.out j hjn wr HOLD.out)
            rw [hD] at HC
            clear hD
            go_wp2_with fail
            · refine HC.out.mono ?_
              rintro e w2 ⟨⟨x, rfl⟩, hb2⟩
              have HB2 : Hid (Below (w.heap.size + 1) wr w2) := Lib.hid (hb2.mono (by have := HB.out.size; simp at this; omega))
              clear hb2
              go_wp2
              go_roundw
              case rel => exact ⟨j + 1, _, by omega, by go_num, rfl, Lib.hid (HB.out.trans HB2.out)⟩
              case measure => simp [intOf]; omega
            · go_wp2
              go_ret
              exact ⟨⟨_, rfl⟩, box_self HB.out⟩
          · go_wp2
            go_ret
            exact ⟨⟨_, rfl⟩, box_self HB.out⟩)

/-- Where a name stands in a list; -1: nowhere. -/
def findL (l : List ByteArray) (x : ByteArray) : Int := match l.findIdx? (fun y => decide (y = x)) with | some i => i | none => -1
theorem findIdx_take {l : List ByteArray} {k : Nat} {f : ByteArray → Bool} (hk : k < l.length) (hn : ∀ i, i < k → f (l.getD i ByteArray.empty) = false) (hx : f (l.getD k ByteArray.empty) = true) : l.findIdx? f = some k := by
  rw [List.findIdx?_eq_some_iff_getElem]
  refine ⟨hk, ?_, fun j hj => ?_⟩
  · rw [List.getD_eq_getElem?_getD, List.getElem?_eq_getElem hk] at hx
    exact hx
  · have := hn j hj
    rw [List.getD_eq_getElem?_getD, List.getElem?_eq_getElem (by omega)] at this
    simpa using this
theorem findL_at {l : List ByteArray} {k : Nat} {x : ByteArray} (hk : k < l.length) (hn : ∀ i, i < k → l.getD i ByteArray.empty ≠ x) (hx : l.getD k ByteArray.empty = x) : findL l x = k := by
  unfold findL
  rw [findIdx_take (f := fun y => decide (y = x)) hk (fun i hi => decide_eq_false (hn i hi)) (decide_eq_true hx)]
theorem findL_none {l : List ByteArray} {x : ByteArray} (hn : ∀ i, i < l.length → l.getD i ByteArray.empty ≠ x) : findL l x = -1 := by
  unfold findL
  rw [List.findIdx?_eq_none_iff.2 ?_]
  intro y hy
  obtain ⟨i, hi, rfl⟩ := List.getElem_of_mem hy
  have := hn i hi
  rw [List.getD_eq_getElem?_getD, List.getElem?_eq_getElem hi] at this
  exact decide_eq_false this

set_option maxRecDepth 100000 in
set_option maxHeartbeats 2000000 in
theorem find_any {W : World} {cs : List Value} {c : Nd} (h : NodeR W cs c) (x : ByteArray) : ∀ w, Below W.heap.size W w →
    Calls Try.prog 94 #[.agg cs.toArray, .string x] w fun e w' => e = .returned (.int .i64 (findL c.names x)) ∧ Below w.heap.size w w' := by
  cases h with
  | mk kind text names kids p q cp d D h1 h2 h3 h5 h6 h7 h8 =>
    intro w hb
    have hlw : names.length ≤ 9223372036854775807 := by unfold maxLen at h2; omega
    have HS := Lib.hid h3
    have HW := Lib.hid hb
    clear h8 h7 h3 hb h1 h2 h5 h6
    show Calls _ _ _ _ fun e w' => e = .returned (.int .i64 (findL names x)) ∧ _
    generalize hn : names.length = n at *
    generalize kids.length = kn at *
    have HN := Lib.hid hn
    clear hn
    go_enter Try.func94, Try.ntmps94
    go_wp2_with fail
    go_loopw [5] (fun i wr => ∃ k : Nat, k ≤ n ∧ i = .int .i64 k ∧ Hid (∀ i, i < k → names.getD i ByteArray.empty ≠ x) ∧ Hid (Below (w.heap.size + 1) (w.alloc (.cells #[.int .u8 kind.toNat, .string text, .slice p n cp, .slice q kn d] 40)) wr)) (fun i _ => n - (intOf i).toNat)
    case atStart => exact ⟨0, Nat.zero_le _, rfl, Lib.hid fun i hi => absurd hi (Nat.not_lt_zero _), Lib.hid (Below.refl _ _)⟩
    case round =>
      obtain ⟨k, hk, rfl, HA, HB⟩ := hrel
      have c2 : wr.cell? ⟨w.heap.size, 2, none⟩ = some (.slice p n cp) := box_cell HB.out 2 rfl
      by_cases hlt : k < n
      · have HOLD : Hid (Below W.heap.size W wr) := Lib.hid (box_old HW.out (Nat.le_refl _) HB.out)
        obtain ⟨b, o, rfl, n0⟩ := name_cell HS.out HOLD.out (by rw [HN.out]; exact hlt : k < names.length)
        have HF := Lib.hid (findL_at (x := x) (show k < names.length by rw [HN.out]; exact hlt) HA.out)
        have HNX : Hid (names.getD k ByteArray.empty ≠ x → ∀ i, i < k + 1 → names.getD i ByteArray.empty ≠ x) := Lib.hid fun h i hi => by
          by_cases hik : i = k
          · subst hik; exact h
          · exact HA.out i (by omega)
        generalize names.getD k ByteArray.empty = y at *
        by_cases hxy : y = x
        · have hxx : (y.toList == x.toList) = true := by rw [hxy]; simp
          have HV := Lib.hid (HF.out hxy)
          clear hxy
          go_wp2_with fail
          go_ret
          exact ⟨ret_int HV.out.symm, box_self HB.out⟩
        · have hxx : (y.toList == x.toList) = false := (Lib.bytes_beq_false_iff _ _).2 hxy
          have HV := Lib.hid (HNX.out hxy)
          clear hxy
          go_wp2_with fail
          go_roundw
          case rel => exact ⟨k + 1, by omega, by go_num, HV, HB⟩
          case measure => simp [intOf]; omega
      · have HV := Lib.hid (findL_none (l := names) (x := x) fun i hi => HA.out i (by rw [HN.out] at hi; omega))
        go_wp2_with fail
        go_ret
        exact ⟨ret_int HV.out.symm, box_self HB.out⟩
end Go.Proofs.Ytonpeoaahjoboaa
