/- The statement on cleaned paths: the walk. -/
import Derived.Test.YtjhcpkbdmmlbiaaPthQ
import Derived.Test.YtjhcpkbdmmlbiaaPthS
import Derived.Handy
namespace Go.Proofs.Ytjhcpkbdmmlbiaa
open Go.RowKit Px

/-- A value that is a list of bytes. -/
def ByR (W : World) (v : Value) (ts : List UInt8) : Prop :=
  ∃ q d, v = .slice q ts.length d ∧ (∀ i, i < ts.length → ∃ b o, q = some ⟨b, o, none⟩ ∧ W.cell? ⟨b, o + i, none⟩ = some (.int .u8 (ts.getD i 0).toNat)) ∧ ts.length ≤ d ∧ d ≤ maxLen

def namesB (xs : List ByteArray) : Bool := xs.all fun x => nameL x.data.toList
theorem all_snoc {xs : List ByteArray} {k : Nat} (h : k < xs.length) (f : ByteArray → Bool) : (xs.take (k + 1)).all f = ((xs.take k).all f && f (xs.getD k ByteArray.empty)) := by
  rw [take_snoc_d h, List.all_append]
  simp
theorem flat_joined' : ∀ xs : List ByteArray, joined (xs.map fun x => x.data.toList) = flat xs
  | [] => rfl
  | x :: l => by
    rw [List.map_cons, joined, flat_joined' l]
    rfl
theorem clean_of_show {xs : List ByteArray} (h : namesB xs = true) : cleanBs (stepsB ⟨(showL xs).toArray⟩) = xs := by
  unfold namesB at h
  have h1 := clean_show (l := xs.map fun x => x.data.toList) (by
    intro p hp
    obtain ⟨x, hx, rfl⟩ := List.mem_map.1 hp
    exact List.all_eq_true.1 h x hx)
  unfold stepsB
  rw [cleanBs_map]
  have h2 : (⟨(showL xs).toArray⟩ : ByteArray).data.toList = if (xs.map fun x => x.data.toList).length = 0 then [47] else joined (xs.map fun x => x.data.toList) := by
    rw [List.length_map, flat_joined']
    unfold showL
    simp
  rw [h2, h1, back_map]
theorem show_size {xs : List ByteArray} (h : longL xs = false) : (⟨(showL xs).toArray⟩ : ByteArray).size ≤ 100000000 := by
  show (showL xs).toArray.size ≤ _
  rw [List.size_toArray]
  unfold showL
  split
  · simp
  · have h1 := flat_le h xs.length (Nat.le_refl _)
    rw [List.take_length] at h1
    have := small_len h
    omega
theorem one_next {a x : ByteArray} {P : List Px.B} (ha : stepsL a.data.toList = P) (h1 : ∀ c ∈ x.data.toList, c ≠ 47) (h2 : good x.data.toList = true) : stepsL (a ++ ⟨#[47]⟩ ++ x).data.toList = P ++ [x.data.toList] := by
  rw [append_data, append_data, ← ha, ← steps_one h1 h2, ← steps_join]
  congr 1
  simp
theorem two_next {t u x : ByteArray} {P : List Px.B} {j : Nat} {m : Bool} (ht : stepsL t.data.toList = P) (hu : u.data.toList = 47 :: tieL j m) (h1 : ∀ c ∈ x.data.toList, c ≠ 47) (h2 : good x.data.toList = true) :
    stepsL (t ++ u ++ x).data.toList = P ++ [x.data.toList] := by
  rw [append_data, append_data, ← ht, ← steps_one h1 h2, ← steps_tie t.data.toList x.data.toList m j, hu]
  congr 1
  simp
theorem tie_next {u : ByteArray} {j : Nat} (hu : u.data.toList = 47 :: tieL j false) : (u ++ ⟨#[46, 47]⟩).data.toList = 47 :: tieL (j + 1) false := by
  rw [append_data, hu, ← tieL_snoc]
  rfl
theorem tie_last {u : ByteArray} {j : Nat} (hu : u.data.toList = 47 :: tieL j false) : (u ++ ⟨#[47]⟩).data.toList = 47 :: tieL j true := by
  rw [append_data, hu, ← tieL_more]
  rfl

set_option maxRecDepth 100000 in
set_option maxHeartbeats 8000000 in
theorem law_cleans {W : World} {u t : Value} {xs : List ByteArray} {s : ByteArray} {ts : List UInt8} (hx : PlR W u xs) (ht : ByR W t ts) :
    Calls Try.prog 4 #[u, .string s, t] W fun e w' => e = .returned (.bool true) ∧ Below W.heap.size W w' := by
  have HW : Below W.heap.size W W := Below.refl _ _
  by_cases hl : longL xs = true ∨ 2000 < s.size
  · have hl' : longL xs = true ∨ (longL xs = false ∧ 2000 < s.size) := by
      revert hl
      cases longL xs <;> simp
    clear hl
    rcases hl' with h1 | ⟨h1, h2⟩
    all_goals
      go_enter Try.func4, Try.ntmps4
      go_wp2_with (first
        | (go_at_call 6; (refine (long_at (by assumption) hx).mono ?_); rintro e w' ⟨rfl, HB⟩)
        | (go_at_call 7; refine (awake_at (by assumption)).mono ?_; rintro e w' ⟨rfl, HB⟩))
      go_ret
      exact ⟨rfl, by assumption⟩
  · obtain ⟨h1, h2⟩ : longL xs = false ∧ s.size ≤ 2000 := by
      refine ⟨?_, by omega⟩
      revert hl
      cases longL xs <;> simp
    clear hl
    have HS := Lib.hid h1
    have hlen := small_len h1
    have hx0 := hx
    obtain ⟨p, c, rfl, hxs, hc1, hc2⟩ := hx
    have HX := Lib.hid hxs
    have HX0 := Lib.hid hx0
    obtain ⟨q, d, rfl, hts, hd1, hd2⟩ := ht
    have HT := Lib.hid hts
    unfold maxLen at hd2
    clear hxs hts hc1 hc2
    go_enter Try.func4, Try.ntmps4
    go_wp2_with fail
    refine (long_at HW hx0).mono ?_
    rintro e w1 ⟨rfl, hb1⟩
    have HB1 := Lib.hid hb1
    clear hb1 hx0
    rw [h1]
    go_wp2_with fail
    refine (awake_at HB1.out).mono ?_
    rintro e w2 ⟨rfl, hb2⟩
    have HB2 := Lib.hid hb2
    clear hb2 HB1 HW
    go_wp2_with fail
    go_loopw [7, 8] (fun n i wr => ∃ (k : Nat) (b : Bool), k ≤ xs.length ∧ i = .int .i64 k ∧ n = .bool b ∧ Hid (b = (xs.take k).all fun x => nameL x.data.toList) ∧ Hid (Below W.heap.size W wr)) (fun _ i _ => xs.length - (intOf i).toNat)
    case atStart => exact ⟨0, true, Nat.zero_le _, rfl, rfl, Lib.hid rfl, HB2⟩
    case round =>
      clear HB2
      obtain ⟨k, b, hk, rfl, rfl, HN, HB⟩ := hrel
      by_cases hlt : k < xs.length
      · obtain ⟨bb, o, rfl, hc0⟩ := HX.out k hlt
        have hc : wr.cell? ⟨bb, o + k, none⟩ = some (.string (xs.getD k ByteArray.empty)) := by
          rw [HB.out.cell (World.block_lt_of_cell? _ _ hc0)]
          exact hc0
        clear hc0
        have HF := Lib.hid (all_snoc hlt fun x => nameL x.data.toList)
        generalize xs.getD k ByteArray.empty = x at hc HF
        cases b with
        | false =>
          go_wp2_with fail
          go_roundw
          case rel => exact ⟨k + 1, false, by omega, by go_num, rfl, Lib.hid (by rw [HF.out, ← HN.out]; rfl), HB⟩
          case measure => simp [intOf]; omega
        | true =>
          go_wp2_with fail
          refine (name_any x wr).mono ?_
          rintro e w3 ⟨rfl, hb3⟩
          have HB3 := Lib.hid (below_next HB.out hb3)
          clear hb3
          have HF2 : Hid (nameL x.data.toList = ((xs.take (k + 1)).all fun x => nameL x.data.toList)) := Lib.hid (by rw [HF.out, ← HN.out]; rfl)
          generalize nameL x.data.toList = r at HF2
          go_wp2_with fail
          go_roundw
          case rel => exact ⟨k + 1, r, by omega, by go_num, rfl, HF2, HB3⟩
          case measure => simp [intOf]; omega
      · have HN2 : Hid (b = namesB xs) := Lib.hid (by
          rw [HN.out, show k = xs.length by omega, List.take_length]
          rfl)
        clear HN
        cases b with
        | false =>
          go_wp2_with fail
          clear HN2
          refine (steps_pl (s := s) (by omega)).mono ?_
          rintro e w9 ⟨v5, rfl, HP5, HB9⟩
          have HB10 := Lib.hid (below_next HB.out HB9.out)
          have hN : (stepsB s).length ≤ 2001 := Nat.le_trans (stepsB_len s) (by omega)
          have HTT : Hid (∀ i, i < ts.length → ∃ b o, q = some ⟨b, o, none⟩ ∧ w9.cell? ⟨b, o + i, none⟩ = some (.int .u8 (ts.getD i 0).toNat)) := Lib.hid fun i hi => by
            obtain ⟨b, o, h3, h4⟩ := HT.out i hi
            refine ⟨b, o, h3, ?_⟩
            rw [HB10.out.cell (World.block_lt_of_cell? _ _ h4)]
            exact h4
          obtain ⟨p5, c5, rfl, hS5, h51, h52⟩ := HP5.out
          have HS5 := Lib.hid hS5
          clear hS5 HP5 HB9 HB h51 h52 HX HX0
          have HTAKE : Hid (∀ k, k < (stepsB s).length → (∀ x ∈ ((stepsB s).getD k ByteArray.empty).data.toList, x ≠ 47) ∧ good ((stepsB s).getD k ByteArray.empty).data.toList = true ∧ ((stepsB s).getD k ByteArray.empty).size ≤ s.size ∧ (stepsL s.data.toList).take (k + 1) = (stepsL s.data.toList).take k ++ [((stepsB s).getD k ByteArray.empty).data.toList]) :=
            Lib.hid fun k hk => ⟨(stepB_at hk).1, (stepB_at hk).2.1, (stepB_at hk).2.2, stepB_snoc hk⟩
          have HALL : Hid (∀ k, k = (stepsB s).length → (stepsL s.data.toList).take k = stepsL s.data.toList) := Lib.hid fun k hk => stepB_all hk
          have HLIKE : Hid (∀ a : ByteArray, stepsL a.data.toList = stepsL s.data.toList → cleanBs (stepsB a) = cleanBs (stepsB s)) := Lib.hid fun a ha => clean_like ha
          generalize hn5 : (stepsB s).length = n5 at *
          have HN5 := Lib.hid hn5
          clear hn5
          go_wp2_with fail
          go_loop [10, 11, 12] (fun one two i => ∃ (k : Nat) (a tt : ByteArray), k ≤ n5 ∧ i = .int .i64 k ∧ one = .string a ∧ two = .string tt ∧ a.size ≤ k * 2001 ∧ tt.size ≤ 1 + k * 2010 ∧ Hid (stepsL a.data.toList = (stepsL s.data.toList).take k) ∧ Hid (stepsL tt.data.toList = (stepsL s.data.toList).take k)) (fun _ _ i => n5 - (intOf i).toNat)
          case atStart => exact ⟨0, ⟨#[]⟩, ⟨#[46]⟩, Nat.zero_le _, rfl, rfl, rfl, Nat.zero_le _, Nat.le_refl _, Lib.hid rfl, Lib.hid rfl⟩
          case round =>
            obtain ⟨k, a, tt, hk5, rfl, rfl, rfl, ha, htt, HA, HTW⟩ := hrel
            by_cases hlt5 : k < n5
            · obtain ⟨h71, h72, h73, h74⟩ := HTAKE.out k hlt5
              obtain ⟨bb5, o5, rfl, hc5⟩ := HS5.out k (by rw [HN5.out]; exact hlt5)
              have H71 := Lib.hid h71
              have H72 := Lib.hid h72
              have H74 := Lib.hid h74
              clear h71 h72 h74
              generalize (stepsB s).getD k ByteArray.empty = x at *
              have ha2 : a.size ≤ 5000000 := by omega
              have htt2 : tt.size ≤ 5000000 := by omega
              have HONE : Hid (stepsL (a ++ ⟨#[47]⟩ ++ x).data.toList = (stepsL s.data.toList).take (k + 1)) := Lib.hid (by rw [H74.out]; exact one_next HA.out H71.out H72.out)
              have HONES : Hid ((a ++ ⟨#[47]⟩ ++ x).size ≤ (k + 1) * 2001) := Lib.hid (by
                rw [ByteArray.size_append, ByteArray.size_append]
                show a.size + 1 + x.size ≤ _
                omega)
              have HTWO : Hid (∀ (uu : ByteArray) (j : Nat) (m : Bool), uu.data.toList = 47 :: tieL j m → stepsL (tt ++ uu ++ x).data.toList = (stepsL s.data.toList).take (k + 1)) := Lib.hid fun uu j m hu => by rw [H74.out]; exact two_next HTW.out hu H71.out H72.out
              by_cases hkt : k < ts.length
              · obtain ⟨bt, ot, rfl, hct⟩ := HTT.out k hkt
                have ht255 : (ts.getD k 0).toNat ≤ 255 := by have := (ts.getD k 0).toNat_lt; omega
                generalize (ts.getD k 0).toNat = tn at hct ht255
                have ht4 : tn % 4 < 4 := Nat.mod_lt _ (by omega)
                go_wp2_with fail
                go_loop [13, 14] (fun tie j => ∃ (m : Nat) (uu : ByteArray), m ≤ tn % 4 ∧ j = .int .i64 m ∧ tie = .string uu ∧ uu.size = 1 + 2 * m ∧ Hid (uu.data.toList = 47 :: tieL m false)) (fun _ j => tn % 4 - (intOf j).toNat)
                case atStart => exact ⟨0, ⟨#[47]⟩, Nat.zero_le _, rfl, rfl, rfl, Lib.hid rfl⟩
                case round =>
                  obtain ⟨m, uu, hm, rfl, rfl, hus, HU⟩ := hrel
                  by_cases hm4 : m < tn % 4
                  · go_wp2_with fail
                    go_round
                    case rel => exact ⟨m + 1, uu ++ ⟨#[46, 47]⟩, by omega, by go_num, rfl, by rw [ByteArray.size_append]; show uu.size + 2 = _; omega, Lib.hid (tie_next HU.out)⟩
                    case measure => simp [intOf]; omega
                  · by_cases h127 : 127 < tn
                    · go_wp2_with fail
                      go_round
                      case rel => exact ⟨k + 1, a ++ ⟨#[47]⟩ ++ x, tt ++ (uu ++ ⟨#[47]⟩) ++ x, by omega, by go_num, rfl, rfl, HONES.out, by rw [ByteArray.size_append, ByteArray.size_append, ByteArray.size_append]; show tt.size + (uu.size + 1) + x.size ≤ _; omega, HONE, Lib.hid (HTWO.out _ m true (tie_last HU.out))⟩
                      case measure => simp [intOf]; omega
                    · go_wp2_with fail
                      go_round
                      case rel => exact ⟨k + 1, a ++ ⟨#[47]⟩ ++ x, tt ++ uu ++ x, by omega, by go_num, rfl, rfl, HONES.out, by rw [ByteArray.size_append, ByteArray.size_append]; omega, HONE, Lib.hid (HTWO.out _ m false HU.out)⟩
                      case measure => simp [intOf]; omega
              · go_wp2_with fail
                go_round
                case rel => exact ⟨k + 1, a ++ ⟨#[47]⟩ ++ x, tt ++ ⟨#[47]⟩ ++ x, by omega, by go_num, rfl, rfl, HONES.out, by rw [ByteArray.size_append, ByteArray.size_append]; show tt.size + 1 + x.size ≤ _; omega, HONE, Lib.hid (HTWO.out ⟨#[47]⟩ 0 false rfl)⟩
                case measure => simp [intOf]; omega
            · have ha2 : a.size ≤ 100000000 := by omega
              have htt2 : tt.size ≤ 100000000 := by omega
              have HEA : Hid (cleanBs (stepsB a) = cleanBs (stepsB s)) := Lib.hid (HLIKE.out a (by rw [HA.out, HALL.out k (by omega)]))
              have HET : Hid (cleanBs (stepsB tt) = cleanBs (stepsB s)) := Lib.hid (HLIKE.out tt (by rw [HTW.out, HALL.out k (by omega)]))
              clear HTAKE HALL HLIKE
              go_wp2_with fail
              refine (clean_pl (s := a) ha2).mono ?_
              rintro e w10 ⟨va, rfl, HPA, HBA⟩
              go_wp2_with fail
              refine (clean_pl (s := s) (by omega)).mono ?_
              rintro e w11 ⟨vb, rfl, HPB, HBB⟩
              go_wp2_with fail
              refine (same_pl (r := true) (HPA.out.grown HBB.out) HPB.out (by unfold sameL; exact decide_eq_true HEA.out)).mono ?_
              rintro e w12 ⟨rfl, HBC⟩
              go_wp2_with fail
              refine (clean_pl (s := tt) htt2).mono ?_
              rintro e w13 ⟨vc, rfl, HPC, HBD⟩
              go_wp2_with fail
              refine (clean_pl (s := s) (by omega)).mono ?_
              rintro e w14 ⟨vd, rfl, HPD, HBE⟩
              go_wp2_with fail
              refine (same_pl (r := true) (HPC.out.grown HBE.out) HPD.out (by unfold sameL; exact decide_eq_true HET.out)).mono ?_
              rintro e w15 ⟨rfl, HBF⟩
              go_wp2_with fail
              go_ret
              exact ⟨rfl, below_next (below_next (below_next (below_next (below_next (below_next HB10.out HBA.out) HBB.out) HBC.out) HBD.out) HBE.out) HBF.out⟩
        | true =>
          go_wp2_with fail
          refine (show_at HB.out HX0.out HS.out).mono ?_
          rintro e w3 ⟨rfl, hb3⟩
          have HB3 := Lib.hid hb3
          clear hb3
          go_wp2_with fail
          refine (clean_pl (show_size HS.out)).mono ?_
          rintro e w4 ⟨v4, rfl, HP4, HB4⟩
          have HB5 := Lib.hid (below_next HB3.out HB4.out)
          go_wp2_with fail
          refine (same_pl (r := true) HP4.out (HX0.out.grown HB5.out) (by unfold sameL; exact decide_eq_true (clean_of_show HN2.out.symm))).mono ?_
          rintro e w5 ⟨rfl, HB6⟩
          have HB7 := Lib.hid (below_next HB5.out HB6.out)
          clear HB6 HB5 HB4 HB3 HP4 HN2 HB
          go_wp2_with fail
          refine (steps_pl (s := s) (by omega)).mono ?_
          rintro e w9 ⟨v5, rfl, HP5, HB9⟩
          have HB10 := Lib.hid (below_next HB7.out HB9.out)
          have hN : (stepsB s).length ≤ 2001 := Nat.le_trans (stepsB_len s) (by omega)
          have HTT : Hid (∀ i, i < ts.length → ∃ b o, q = some ⟨b, o, none⟩ ∧ w9.cell? ⟨b, o + i, none⟩ = some (.int .u8 (ts.getD i 0).toNat)) := Lib.hid fun i hi => by
            obtain ⟨b, o, h3, h4⟩ := HT.out i hi
            refine ⟨b, o, h3, ?_⟩
            rw [HB10.out.cell (World.block_lt_of_cell? _ _ h4)]
            exact h4
          obtain ⟨p5, c5, rfl, hS5, h51, h52⟩ := HP5.out
          have HS5 := Lib.hid hS5
          clear hS5 HP5 HB9 HB7 h51 h52 HX HX0
          have HTAKE : Hid (∀ k, k < (stepsB s).length → (∀ x ∈ ((stepsB s).getD k ByteArray.empty).data.toList, x ≠ 47) ∧ good ((stepsB s).getD k ByteArray.empty).data.toList = true ∧ ((stepsB s).getD k ByteArray.empty).size ≤ s.size ∧ (stepsL s.data.toList).take (k + 1) = (stepsL s.data.toList).take k ++ [((stepsB s).getD k ByteArray.empty).data.toList]) :=
            Lib.hid fun k hk => ⟨(stepB_at hk).1, (stepB_at hk).2.1, (stepB_at hk).2.2, stepB_snoc hk⟩
          have HALL : Hid (∀ k, k = (stepsB s).length → (stepsL s.data.toList).take k = stepsL s.data.toList) := Lib.hid fun k hk => stepB_all hk
          have HLIKE : Hid (∀ a : ByteArray, stepsL a.data.toList = stepsL s.data.toList → cleanBs (stepsB a) = cleanBs (stepsB s)) := Lib.hid fun a ha => clean_like ha
          generalize hn5 : (stepsB s).length = n5 at *
          have HN5 := Lib.hid hn5
          clear hn5
          go_wp2_with fail
          go_loop [10, 11, 12] (fun one two i => ∃ (k : Nat) (a tt : ByteArray), k ≤ n5 ∧ i = .int .i64 k ∧ one = .string a ∧ two = .string tt ∧ a.size ≤ k * 2001 ∧ tt.size ≤ 1 + k * 2010 ∧ Hid (stepsL a.data.toList = (stepsL s.data.toList).take k) ∧ Hid (stepsL tt.data.toList = (stepsL s.data.toList).take k)) (fun _ _ i => n5 - (intOf i).toNat)
          case atStart => exact ⟨0, ⟨#[]⟩, ⟨#[46]⟩, Nat.zero_le _, rfl, rfl, rfl, Nat.zero_le _, Nat.le_refl _, Lib.hid rfl, Lib.hid rfl⟩
          case round =>
            obtain ⟨k, a, tt, hk5, rfl, rfl, rfl, ha, htt, HA, HTW⟩ := hrel
            by_cases hlt5 : k < n5
            · obtain ⟨h71, h72, h73, h74⟩ := HTAKE.out k hlt5
              obtain ⟨bb5, o5, rfl, hc5⟩ := HS5.out k (by rw [HN5.out]; exact hlt5)
              have H71 := Lib.hid h71
              have H72 := Lib.hid h72
              have H74 := Lib.hid h74
              clear h71 h72 h74
              generalize (stepsB s).getD k ByteArray.empty = x at *
              have ha2 : a.size ≤ 5000000 := by omega
              have htt2 : tt.size ≤ 5000000 := by omega
              have HONE : Hid (stepsL (a ++ ⟨#[47]⟩ ++ x).data.toList = (stepsL s.data.toList).take (k + 1)) := Lib.hid (by rw [H74.out]; exact one_next HA.out H71.out H72.out)
              have HONES : Hid ((a ++ ⟨#[47]⟩ ++ x).size ≤ (k + 1) * 2001) := Lib.hid (by
                rw [ByteArray.size_append, ByteArray.size_append]
                show a.size + 1 + x.size ≤ _
                omega)
              have HTWO : Hid (∀ (uu : ByteArray) (j : Nat) (m : Bool), uu.data.toList = 47 :: tieL j m → stepsL (tt ++ uu ++ x).data.toList = (stepsL s.data.toList).take (k + 1)) := Lib.hid fun uu j m hu => by rw [H74.out]; exact two_next HTW.out hu H71.out H72.out
              by_cases hkt : k < ts.length
              · obtain ⟨bt, ot, rfl, hct⟩ := HTT.out k hkt
                have ht255 : (ts.getD k 0).toNat ≤ 255 := by have := (ts.getD k 0).toNat_lt; omega
                generalize (ts.getD k 0).toNat = tn at hct ht255
                have ht4 : tn % 4 < 4 := Nat.mod_lt _ (by omega)
                go_wp2_with fail
                go_loop [13, 14] (fun tie j => ∃ (m : Nat) (uu : ByteArray), m ≤ tn % 4 ∧ j = .int .i64 m ∧ tie = .string uu ∧ uu.size = 1 + 2 * m ∧ Hid (uu.data.toList = 47 :: tieL m false)) (fun _ j => tn % 4 - (intOf j).toNat)
                case atStart => exact ⟨0, ⟨#[47]⟩, Nat.zero_le _, rfl, rfl, rfl, Lib.hid rfl⟩
                case round =>
                  obtain ⟨m, uu, hm, rfl, rfl, hus, HU⟩ := hrel
                  by_cases hm4 : m < tn % 4
                  · go_wp2_with fail
                    go_round
                    case rel => exact ⟨m + 1, uu ++ ⟨#[46, 47]⟩, by omega, by go_num, rfl, by rw [ByteArray.size_append]; show uu.size + 2 = _; omega, Lib.hid (tie_next HU.out)⟩
                    case measure => simp [intOf]; omega
                  · by_cases h127 : 127 < tn
                    · go_wp2_with fail
                      go_round
                      case rel => exact ⟨k + 1, a ++ ⟨#[47]⟩ ++ x, tt ++ (uu ++ ⟨#[47]⟩) ++ x, by omega, by go_num, rfl, rfl, HONES.out, by rw [ByteArray.size_append, ByteArray.size_append, ByteArray.size_append]; show tt.size + (uu.size + 1) + x.size ≤ _; omega, HONE, Lib.hid (HTWO.out _ m true (tie_last HU.out))⟩
                      case measure => simp [intOf]; omega
                    · go_wp2_with fail
                      go_round
                      case rel => exact ⟨k + 1, a ++ ⟨#[47]⟩ ++ x, tt ++ uu ++ x, by omega, by go_num, rfl, rfl, HONES.out, by rw [ByteArray.size_append, ByteArray.size_append]; omega, HONE, Lib.hid (HTWO.out _ m false HU.out)⟩
                      case measure => simp [intOf]; omega
              · go_wp2_with fail
                go_round
                case rel => exact ⟨k + 1, a ++ ⟨#[47]⟩ ++ x, tt ++ ⟨#[47]⟩ ++ x, by omega, by go_num, rfl, rfl, HONES.out, by rw [ByteArray.size_append, ByteArray.size_append]; show tt.size + 1 + x.size ≤ _; omega, HONE, Lib.hid (HTWO.out ⟨#[47]⟩ 0 false rfl)⟩
                case measure => simp [intOf]; omega
            · have ha2 : a.size ≤ 100000000 := by omega
              have htt2 : tt.size ≤ 100000000 := by omega
              have HEA : Hid (cleanBs (stepsB a) = cleanBs (stepsB s)) := Lib.hid (HLIKE.out a (by rw [HA.out, HALL.out k (by omega)]))
              have HET : Hid (cleanBs (stepsB tt) = cleanBs (stepsB s)) := Lib.hid (HLIKE.out tt (by rw [HTW.out, HALL.out k (by omega)]))
              clear HTAKE HALL HLIKE
              go_wp2_with fail
              refine (clean_pl (s := a) ha2).mono ?_
              rintro e w10 ⟨va, rfl, HPA, HBA⟩
              go_wp2_with fail
              refine (clean_pl (s := s) (by omega)).mono ?_
              rintro e w11 ⟨vb, rfl, HPB, HBB⟩
              go_wp2_with fail
              refine (same_pl (r := true) (HPA.out.grown HBB.out) HPB.out (by unfold sameL; exact decide_eq_true HEA.out)).mono ?_
              rintro e w12 ⟨rfl, HBC⟩
              go_wp2_with fail
              refine (clean_pl (s := tt) htt2).mono ?_
              rintro e w13 ⟨vc, rfl, HPC, HBD⟩
              go_wp2_with fail
              refine (clean_pl (s := s) (by omega)).mono ?_
              rintro e w14 ⟨vd, rfl, HPD, HBE⟩
              go_wp2_with fail
              refine (same_pl (r := true) (HPC.out.grown HBE.out) HPD.out (by unfold sameL; exact decide_eq_true HET.out)).mono ?_
              rintro e w15 ⟨rfl, HBF⟩
              go_wp2_with fail
              go_ret
              exact ⟨rfl, below_next (below_next (below_next (below_next (below_next (below_next HB10.out HBA.out) HBB.out) HBC.out) HBD.out) HBE.out) HBF.out⟩
end Go.Proofs.Ytjhcpkbdmmlbiaa
