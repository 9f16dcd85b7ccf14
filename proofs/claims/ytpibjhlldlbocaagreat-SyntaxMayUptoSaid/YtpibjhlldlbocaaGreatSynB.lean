/- Walks over commands: how heavy one is, of the law: some number. -/
import Derived.Test.YtpibjhlldlbocaaGreatSynA
namespace Go.Proofs.YtpibjhlldlbocaaGreat
open Go.RowKit Sx

theorem cell_grown {W w : World} (hb : Below W.heap.size W w) {a : Addr} {v : Value} (h : W.cell? a = some v) : w.cell? a = some v := by
  rw [hb.cell (World.block_lt_of_cell? _ _ h)]
  exact h

set_option maxRecDepth 100000 in
set_option maxHeartbeats 4000000 in
theorem weight_any {W : World} {cs : List Value} {c : Cmd} (h : CmdR W cs c) : ∀ w, Below W.heap.size W w →
    Calls Tryz.prog 4 #[.agg cs.toArray] w fun e w' => (∃ n : Int, e = .returned (.int .i64 n)) ∧ Below w.heap.size w w' := by
  induction h with
  | mk kind at_ name words kids p q cp d C D h1 h2 h3 h4 h5 h6 h7 h8 ih =>
    intro w hb
    have hlw : words.length ≤ 9223372036854775807 := by unfold maxLen at h2; omega
    have hlk : kids.length ≤ 9223372036854775807 := by unfold maxLen at h6; omega
    have IH := Lib.hid ih
    have HRW := Lib.hid h3
    have HRK := Lib.hid h7
    have HWD := Lib.hid h4
    have HW := Lib.hid hb
    clear ih h8 h7 h4 h3 hb h1 h2 h5 h6
    go_enter Tryz.func4, Tryz.ntmps4
    go_wp2_with fail
    go_loopw [3, 4] (fun s i wr => ∃ (k : Nat) (n : Int), k ≤ words.length ∧ i = .int .i64 k ∧ s = .int .i64 n ∧ Hid (Below (w.heap.size + 1) (w.alloc (.cells #[.int .u8 kind.toNat, .int .i64 at_, .string name, .slice p words.length cp, .slice q kids.length d] 25)) wr)) (fun _ i _ => words.length - (intOf i).toNat)
    case atStart => exact ⟨0, _, Nat.zero_le _, rfl, rfl, Lib.hid (Below.refl _ _)⟩
    case round =>
      obtain ⟨k, n, hk, rfl, rfl, HB⟩ := hrel
      have c3 : wr.cell? ⟨w.heap.size, 3, none⟩ = some (.slice p words.length cp) := box_cell HB.out 3 rfl
      have c4 : wr.cell? ⟨w.heap.size, 4, none⟩ = some (.slice q kids.length d) := box_cell HB.out 4 rfl
      have hword : k < words.length → ∃ b o, p = some ⟨b, o, none⟩ ∧ ∃ p2 c2 n2 v1, n2 ≤ 9223372036854775807 ∧ Hid (W.cell? ⟨b, o + k * 2, none⟩ = some (.slice p2 n2 c2)) ∧ Hid (∀ j, j < n2 → ∃ b2 o2 t, p2 = some ⟨b2, o2, none⟩ ∧ W.cell? ⟨b2, o2 + j * 3 + 1, none⟩ = some (.string t)) ∧ v1 = () := by
        intro hlt
        obtain ⟨b, o, hp, hl, hr⟩ := HRW.out k hlt
        obtain ⟨p2, c2, hc, hn2, hc2, hrow⟩ := HWD.out k _ (List.getElem?_eq_getElem hlt)
        rw [hc] at hr
        refine ⟨b, o, hp, p2, c2, _, (), by unfold maxLen at hc2; omega, Lib.hid (hr 0 _ rfl), Lib.hid fun j hj => ?_, rfl⟩
        obtain ⟨b2, o2, hp2, _, hr2⟩ := hrow j hj
        have hr2 : W.rangeAt b2 (o2 + j * 3) (partCells words[k].parts[j]) := by rw [← part_at hj]; exact hr2
        exact ⟨b2, o2, _, hp2, hr2 1 _ rfl⟩
      have HWORD := Lib.hid hword
      have HOLD : Hid (Below W.heap.size W wr) := Lib.hid (box_old HW.out (Nat.le_refl _) HB.out)
      clear hword
      go_wp2_with fail
      · have hlt : k < words.length := by assumption
        obtain ⟨b, o, rfl, p2, c2, n2, _, hn2, HP, HT, _⟩ := HWORD.out hlt
        have e0 := cell_grown HOLD.out HP.out
        go_wp2_with fail
        go_loopw [3, 5] (fun s i wr => ∃ (j : Nat) (n : Int), j ≤ n2 ∧ i = .int .i64 j ∧ s = .int .i64 n ∧ Hid (Below (w.heap.size + 1) (w.alloc (.cells #[.int .u8 kind.toNat, .int .i64 at_, .string name, .slice (some ⟨b, o, none⟩) words.length cp, .slice q kids.length d] 25)) wr)) (fun _ i _ => n2 - (intOf i).toNat)
        case atStart => exact ⟨0, _, Nat.zero_le _, rfl, rfl, HB⟩
        case round =>
          clear HB HOLD c3 c4 e0
          obtain ⟨j, m, hj, rfl, rfl, HB⟩ := hrel
          have c3 : wr.cell? ⟨w.heap.size, 3, none⟩ = some (.slice (some ⟨b, o, none⟩) words.length cp) := box_cell HB.out 3 rfl
          have HOLD : Hid (Below W.heap.size W wr) := Lib.hid (box_old HW.out (Nat.le_refl _) HB.out)
          have e0 := cell_grown HOLD.out HP.out
          by_cases hjn : j < n2
          · obtain ⟨b2, o2, t, rfl, ht⟩ := HT.out j hjn
            have e1 := cell_grown HOLD.out ht
            clear ht
            go_wp2
            · go_roundw
              case rel => exact ⟨j + 1, _, by omega, by go_num, rfl, HB⟩
              case measure => simp [intOf]; omega
            · go_roundw
              case rel => exact ⟨k + 1, _, by omega, by go_num, rfl, HB⟩
              case measure => simp [intOf]; omega
          · go_wp2
            go_roundw
            case rel => exact ⟨k + 1, _, by omega, by go_num, rfl, HB⟩
            case measure => simp [intOf]; omega
      · go_wp2_with fail
        have HB0 := Lib.hid HB.out
        clear HB c3 c4 HOLD HWORD
        go_loopw [3, 6] (fun s i wr => ∃ (k : Nat) (n : Int), k ≤ kids.length ∧ i = .int .i64 k ∧ s = .int .i64 n ∧ Hid (Below (w.heap.size + 1) (w.alloc (.cells #[.int .u8 kind.toNat, .int .i64 at_, .string name, .slice p words.length cp, .slice q kids.length d] 25)) wr)) (fun _ i _ => kids.length - (intOf i).toNat)
        case atStart => exact ⟨0, _, Nat.zero_le _, rfl, rfl, HB0⟩
        case round =>
          clear HB0
          obtain ⟨j, m, hj, rfl, rfl, HB⟩ := hrel
          have c4 : wr.cell? ⟨w.heap.size, 4, none⟩ = some (.slice q kids.length d) := box_cell HB.out 4 rfl
          have HOLD : Hid (Below W.heap.size W wr) := Lib.hid (box_old HW.out (Nat.le_refl _) HB.out)
          by_cases hjn : j < kids.length
          · obtain ⟨b, o, rfl, hl, hr⟩ := HRK.out j hjn
            obtain ⟨v0, v1, v2, v3, v4, hD⟩ := five hl
            have HC := Lib.hid (IH.out j _ (List.getElem?_eq_getElem hjn) wr HOLD.out)
            rw [hD] at hr HC
            have hr' := range_below HOLD.out hr
            have e0 : wr.cell? ⟨b, o + j * 5, none⟩ = some v0 := hr' 0 _ rfl
            have e1 := hr' 1 _ rfl
            have e2 := hr' 2 _ rfl
            have e3 := hr' 3 _ rfl
            have e4 := hr' 4 _ rfl
            clear hr hr' hD hl
            go_wp2_with fail
            · refine HC.out.mono ?_
              rintro e w2 ⟨⟨x, rfl⟩, hb2⟩
              have HB2 : Hid (Below (w.heap.size + 1) wr w2) := Lib.hid (hb2.mono (by have := HB.out.size; simp at this; omega))
              clear hb2
              go_wp2
              go_roundw
              case rel => exact ⟨j + 1, _, by omega, by go_num, rfl, Lib.hid (HB.out.trans HB2.out)⟩
              case measure => simp [intOf]; omega
            · go_wp2
              go_ret
              exact ⟨⟨_, rfl⟩, box_self HB.out⟩
          · go_wp2
            go_ret
            exact ⟨⟨_, rfl⟩, box_self HB.out⟩
      · go_wp2_with fail
        have HB0 := Lib.hid HB.out
        clear HB c3 c4 HOLD HWORD
        go_loopw [3, 6] (fun s i wr => ∃ (k : Nat) (n : Int), k ≤ kids.length ∧ i = .int .i64 k ∧ s = .int .i64 n ∧ Hid (Below (w.heap.size + 1) (w.alloc (.cells #[.int .u8 kind.toNat, .int .i64 at_, .string name, .slice p words.length cp, .slice q kids.length d] 25)) wr)) (fun _ i _ => kids.length - (intOf i).toNat)
        case atStart => exact ⟨0, _, Nat.zero_le _, rfl, rfl, HB0⟩
        case round =>
          clear HB0
          obtain ⟨j, m, hj, rfl, rfl, HB⟩ := hrel
          have c4 : wr.cell? ⟨w.heap.size, 4, none⟩ = some (.slice q kids.length d) := box_cell HB.out 4 rfl
          have HOLD : Hid (Below W.heap.size W wr) := Lib.hid (box_old HW.out (Nat.le_refl _) HB.out)
          by_cases hjn : j < kids.length
          · obtain ⟨b, o, rfl, hl, hr⟩ := HRK.out j hjn
            obtain ⟨v0, v1, v2, v3, v4, hD⟩ := five hl
            have HC := Lib.hid (IH.out j _ (List.getElem?_eq_getElem hjn) wr HOLD.out)
            rw [hD] at hr HC
            have hr' := range_below HOLD.out hr
            have e0 : wr.cell? ⟨b, o + j * 5, none⟩ = some v0 := hr' 0 _ rfl
            have e1 := hr' 1 _ rfl
            have e2 := hr' 2 _ rfl
            have e3 := hr' 3 _ rfl
            have e4 := hr' 4 _ rfl
            clear hr hr' hD hl
            go_wp2_with fail
            · refine HC.out.mono ?_
              rintro e w2 ⟨⟨x, rfl⟩, hb2⟩
              have HB2 : Hid (Below (w.heap.size + 1) wr w2) := Lib.hid (hb2.mono (by have := HB.out.size; simp at this; omega))
              clear hb2
              go_wp2
              go_roundw
              case rel => exact ⟨j + 1, _, by omega, by go_num, rfl, Lib.hid (HB.out.trans HB2.out)⟩
              case measure => simp [intOf]; omega
            · go_wp2
              go_ret
              exact ⟨⟨_, rfl⟩, box_self HB.out⟩
          · go_wp2
            go_ret
            exact ⟨⟨_, rfl⟩, box_self HB.out⟩
end Go.Proofs.YtpibjhlldlbocaaGreat
