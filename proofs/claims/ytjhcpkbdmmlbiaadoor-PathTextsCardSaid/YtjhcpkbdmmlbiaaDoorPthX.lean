/- Walks of the reference: Steps and Clean. -/
import Derived.Test.YtjhcpkbdmmlbiaaDoorPthW
namespace Go.Proofs.YtjhcpkbdmmlbiaaDoor
open Go.RowKit Go.Shelf Px

attribute [local go_sem] Oper.semAt_some

def goodB (x : ByteArray) : Bool := good x.data.toList
theorem stepsB_eq (s : ByteArray) : stepsB s = (piecesB s).filter goodB := by
  unfold stepsB piecesB stepsL
  rw [List.filter_map]
  congr 2
theorem filter_snoc {xs : List ByteArray} {k : Nat} (h : k < xs.length) : (xs.take (k + 1)).filter goodB = (xs.take k).filter goodB ++ if goodB (xs.getD k ByteArray.empty) then [xs.getD k ByteArray.empty] else [] := by
  rw [take_snoc_d h, List.filter_append]
  congr 1
  rw [List.filter_cons]
  split <;> rfl
theorem filter_len (xs : List ByteArray) (k : Nat) : ((xs.take k).filter goodB).length ≤ k :=
  Nat.le_trans (List.length_filter_le _ _) (List.length_take_le _ _)
theorem good_ways (x : ByteArray) : (goodB x = true ∧ ¬ x.toList = [] ∧ (x.toList == [46]) = false) ∨ (goodB x = false ∧ x.toList = []) ∨ (goodB x = false ∧ x.toList = [46]) := by
  unfold goodB
  rw [good_not]
  by_cases h1 : x.toList = []
  · exact .inr (.inl ⟨by rw [h1]; rfl, h1⟩)
  · by_cases h2 : x.toList = [46]
    · exact .inr (.inr ⟨by rw [h2]; rfl, h2⟩)
    · refine .inl ⟨?_, h1, beq_eq_false_iff_ne.2 h2⟩
      rw [beq_eq_false_iff_ne.2 h1, beq_eq_false_iff_ne.2 h2]
      rfl
theorem piecesB_len (s : ByteArray) : (piecesB s).length ≤ s.size + 1 := by
  unfold piecesB
  rw [List.length_map, Lib.size_eq]
  exact pieces_len _

set_option maxRecDepth 100000 in
set_option maxHeartbeats 4000000 in
theorem stepsRef_own (s : ByteArray) (hs : s.size ≤ 100000) (w : World) :
    Calls Tryd.prog 8 #[.string s] w fun e W' => ∃ v, e = .returned v ∧ W'.ownsRow w.heap.size 9 1 v (stepsB s).length ((stepsB s).map Value.string) ∧ Below w.heap.size w W' := by
  obtain ⟨i0, hi, hz0, hz1, hz2⟩ := info_parts infoStr
  have hN : (piecesB s).length ≤ 100001 := Nat.le_trans (piecesB_len s) (by omega)
  refine (callsIn_wide (n := 3)).1 ?_
  refine callsIn_of_wp Tryd.func8 rfl trivial ?_ rfl
  simp only [Tryd.ntmps8, List.size_toArray, List.length_cons, List.length_nil, Nat.reduceAdd, Nat.reduceSub, Array.replicate_succ, Array.replicate_zero, List.push_toArray, List.append_toArray, List.nil_append, List.cons_append]
  gi_wp2_with (refine ⟨trivial, ?_⟩; gi_at_call 25; refine (callsIn_wide.2 (parts_own s hs _)).mono ?_; rintro e w1 ⟨v4, rfl, ho4, hb4⟩; obtain ⟨p4, c4, rfl, hS4, h41, h42⟩ := plR_of_own ho4; have HS4 := Lib.hid hS4; have HB4 := Lib.hid hb4; clear hS4 ho4 hb4 h41 h42)
  have HEQ := Lib.hid (stepsB_eq s)
  generalize hps : piecesB s = ps at *
  clear hps
  generalize hn : ps.length = n at *
  have HN := Lib.hid hn
  clear hn
  gi_loopw [3, 5] (fun o i wr => ∃ (k : Nat), k ≤ n ∧ i = .int .i64 k ∧ wr.ownsRow w1.heap.size 9 1 o ((ps.take k).filter goodB).length (((ps.take k).filter goodB).map Value.string) ∧ Hid (Below w1.heap.size w1 wr))
    (fun _ i _ => n - (intOf i).toNat)
  case atStart => exact ⟨0, Nat.zero_le _, rfl, World.ownsRow_nil _ _ _ _, Lib.hid (Below.refl _ _)⟩
  case round =>
    obtain ⟨k, hk, rfl, hrow, HB⟩ := hrel
    by_cases hlt : k < n
    · obtain ⟨b, o, rfl, hc0⟩ := HS4.out k (by rw [HN.out]; exact hlt)
      have hc : wr.cell? ⟨b, o + k, none⟩ = some (.string (ps.getD k ByteArray.empty)) := by
        rw [HB.out.cell (World.block_lt_of_cell? _ _ hc0)]
        exact hc0
      clear hc0
      have HF := Lib.hid (filter_snoc (xs := ps) (k := k) (by rw [HN.out]; exact hlt))
      have hfl := filter_len ps k
      generalize ps.getD k ByteArray.empty = x at hc HF
      rcases good_ways x with ⟨hg, h1, h2⟩ | ⟨hg, h1⟩ | ⟨hg, h1⟩
      · have HF2 : Hid ((ps.take (k + 1)).filter goodB = (ps.take k).filter goodB ++ [x]) := Lib.hid (by rw [HF.out, if_pos hg])
        have he := full_list h1
        clear hg
        gi_wp2_with (gi_at_builtin; refine wpListIn_append_own _ rfl _ _ 24 rfl w1.heap.size 9 i0 (.string ⟨#[]⟩) 1 16 Tryd.underlying24 hi hz0 hz1 hz2 rfl (by decide) _ _ _ rfl (hrow.alloc _) ⟨wr.heap.size, 0, none⟩ 1 1 [.string x] rfl rfl (cell_one_new _ _ _) (by simp [Value.oneCell']) (by unfold maxLen; omega) (by omega) (by have := HB.out.size; simp; omega) ?_; intro v' w2 hown' hgrow _; have HB1 := Lib.hid (below_append1 HB.out HB.out.size hrow hgrow))
        go_roundw
        case rel => exact ⟨k + 1, by omega, by go_num, by rw [HF2.out, List.length_append, List.map_append]; exact hown', HB1⟩
        case measure => simp [intOf]; omega
      · have HF2 : Hid ((ps.take (k + 1)).filter goodB = (ps.take k).filter goodB) := Lib.hid (by rw [HF.out, if_neg (by rw [hg]; exact Bool.false_ne_true), List.append_nil])
        clear hg
        gi_wp2
        go_roundw
        case rel => exact ⟨k + 1, by omega, by go_num, by rw [HF2.out]; exact hrow, HB⟩
        case measure => simp [intOf]; omega
      · have HF2 : Hid ((ps.take (k + 1)).filter goodB = (ps.take k).filter goodB) := Lib.hid (by rw [HF.out, if_neg (by rw [hg]; exact Bool.false_ne_true), List.append_nil])
        clear hg
        gi_wp2
        go_roundw
        case rel => exact ⟨k + 1, by omega, by go_num, by rw [HF2.out]; exact hrow, HB⟩
        case measure => simp [intOf]; omega
    · have HE : Hid (stepsB s = (ps.take k).filter goodB) := Lib.hid (by rw [HEQ.out, List.take_of_length_le (by rw [HN.out]; omega)])
      gi_wp2
      go_ret
      refine ⟨_, rfl, ?_, HB4.out.trans (HB.out.mono HB4.out.size)⟩
      rw [HE.out]
      exact own_base hrow HB4.out.size

theorem clean_take_up {xs : List ByteArray} {k : Nat} (h : k < xs.length) (hx : (xs.getD k ByteArray.empty).toList = [46, 46]) : cleanBs (xs.take (k + 1)) = (cleanBs (xs.take k)).dropLast := by
  rw [take_snoc_d h, cleanBs_up hx]
theorem clean_take_down {xs : List ByteArray} {k : Nat} (h : k < xs.length) (hx : ¬ (xs.getD k ByteArray.empty).toList = [46, 46]) : cleanBs (xs.take (k + 1)) = cleanBs (xs.take k) ++ [xs.getD k ByteArray.empty] := by
  rw [take_snoc_d h, cleanBs_down hx]
theorem clean_take_len (xs : List ByteArray) (k : Nat) : (cleanBs (xs.take k)).length ≤ k := Nat.le_trans (cleanBs_len _) (List.length_take_le _ _)

set_option maxRecDepth 100000 in
set_option maxHeartbeats 4000000 in
theorem cleanRef_own (s : ByteArray) (hs : s.size ≤ 100000) (w : World) :
    Calls Tryd.prog 10 #[.string s] w fun e W' => ∃ v, e = .returned v ∧ W'.ownsRow w.heap.size 9 1 v (cleanBs (stepsB s)).length ((cleanBs (stepsB s)).map Value.string) ∧ Below w.heap.size w W' := by
  obtain ⟨i0, hi, hz0, hz1, hz2⟩ := info_parts infoStr
  have hN : (stepsB s).length ≤ 100001 := Nat.le_trans (stepsB_len s) (by omega)
  refine (callsIn_wide (n := 3)).1 ?_
  refine callsIn_of_wp Tryd.func10 rfl trivial ?_ rfl
  simp only [Tryd.ntmps10, List.size_toArray, List.length_cons, List.length_nil, Nat.reduceAdd, Nat.reduceSub, Array.replicate_succ, Array.replicate_zero, List.push_toArray, List.append_toArray, List.nil_append, List.cons_append]
  gi_wp2_with (refine ⟨trivial, ?_⟩; gi_at_call 8; refine (callsIn_wide.2 (stepsRef_own s hs _)).mono ?_; rintro e w1 ⟨v4, rfl, ho4, hb4⟩; obtain ⟨p4, c4, rfl, hS4, h41, h42⟩ := plR_of_own ho4; have HS4 := Lib.hid hS4; have HB4 := Lib.hid hb4; clear hS4 ho4 hb4 h41 h42)
  generalize hps : stepsB s = ps at *
  have HPS := Lib.hid hps
  clear hps
  generalize hn : ps.length = n at *
  have HN := Lib.hid hn
  clear hn
  gi_loopw [3, 5] (fun o i wr => ∃ (k : Nat), k ≤ n ∧ i = .int .i64 k ∧ wr.ownsRow w1.heap.size 9 1 o (cleanBs (ps.take k)).length ((cleanBs (ps.take k)).map Value.string) ∧ Hid (Below w1.heap.size w1 wr))
    (fun _ i _ => n - (intOf i).toNat)
  case atStart => exact ⟨0, Nat.zero_le _, rfl, World.ownsRow_nil _ _ _ _, Lib.hid (Below.refl _ _)⟩
  case round =>
    obtain ⟨k, hk, rfl, hrow, HB⟩ := hrel
    by_cases hlt : k < n
    · have hlt' : k < ps.length := by rw [HN.out]; exact hlt
      obtain ⟨b, o, rfl, hc0⟩ := HS4.out k hlt'
      have hc : wr.cell? ⟨b, o + k, none⟩ = some (.string (ps.getD k ByteArray.empty)) := by
        rw [HB.out.cell (World.block_lt_of_cell? _ _ hc0)]
        exact hc0
      clear hc0
      have HU := Lib.hid (clean_take_up hlt')
      have HD := Lib.hid (clean_take_down hlt')
      have hcl := clean_take_len ps k
      clear hlt'
      generalize ps.getD k ByteArray.empty = x at hc HU HD
      generalize cleanBs (ps.take k) = cp at hrow hcl HU HD
      by_cases hx : x.toList = [46, 46]
      · have HU2 := Lib.hid (HU.out hx)
        have hx2 : (x.toList == [46, 46]) = true := by simp [hx]
        clear hx HD
        cases hkk : cp.length with
        | zero =>
          obtain rfl : cp = [] := List.length_eq_zero_iff.1 hkk
          clear hkk
          rcases hrow.2 with ⟨rfl, _⟩ | ⟨g, cap, cur, rfl, _⟩
          · gi_wp2
            go_roundw
            case rel => exact ⟨k + 1, by omega, by go_num, by rw [HU2.out]; exact hrow, HB⟩
            case measure => simp [intOf]; omega
          · gi_wp2
            go_roundw
            case rel => exact ⟨k + 1, by omega, by go_num, by rw [HU2.out]; exact hrow, HB⟩
            case measure => simp [intOf]; omega
        | succ m =>
          rw [hkk] at hrow hcl
          have HK := Lib.hid hkk
          clear hkk
          obtain ⟨g, cap, rfl⟩ := ownsRow_succ hrow
          have hcap : m + 1 ≤ cap ∧ cap ≤ maxLen := by
            rcases hrow.2 with ⟨h, _⟩ | ⟨_, _, _, h, _, _, h1, h2, _⟩
            · cases h
            · obtain ⟨_, rfl⟩ : _ ∧ cap = _ := by simpa using h
              exact ⟨h1, h2⟩
          obtain ⟨hcap1, hcap2⟩ := hcap
          unfold maxLen at hcap2
          have HR := Lib.hid (owns_shrink hrow)
          have hmm : m ≤ 100001 := by omega
          gi_wp2
          go_roundw
          case rel => exact ⟨k + 1, by omega, by go_num, by rw [HU2.out, List.length_dropLast, HK.out, List.map_dropLast]; exact HR.out, HB⟩
          case measure => simp [intOf]; omega
      · have HD2 := Lib.hid (HD.out hx)
        have hx2 : (x.toList == [46, 46]) = false := by simpa using hx
        clear hx HU
        gi_wp2_with (gi_at_builtin; refine wpListIn_append_own _ rfl _ _ 24 rfl w1.heap.size 9 i0 (.string ⟨#[]⟩) 1 16 Tryd.underlying24 hi hz0 hz1 hz2 rfl (by decide) _ _ _ rfl (hrow.alloc _) ⟨wr.heap.size, 0, none⟩ 1 1 [.string x] rfl rfl (cell_one_new _ _ _) (by simp [Value.oneCell']) (by unfold maxLen; omega) (by omega) (by have := HB.out.size; simp; omega) ?_; intro v' w2 hown' hgrow _; have HB1 := Lib.hid (below_append1 HB.out HB.out.size hrow hgrow))
        go_roundw
        case rel => exact ⟨k + 1, by omega, by go_num, by rw [HD2.out, List.length_append, List.map_append]; exact hown', HB1⟩
        case measure => simp [intOf]; omega
    · have HE : Hid (ps.take k = ps) := Lib.hid (List.take_of_length_le (by rw [HN.out]; omega))
      gi_wp2
      go_ret
      refine ⟨_, rfl, ?_, HB4.out.trans (HB.out.mono HB4.out.size)⟩
      rw [HE.out] at hrow
      rw [HPS.out]
      exact own_base hrow HB4.out.size
end Go.Proofs.YtjhcpkbdmmlbiaaDoor
