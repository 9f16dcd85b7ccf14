/- Walks for lex: cut at texts of another number; many; long scripts of one byte, plainly. -/
import Derived.Test.YtlingnajbhlpdaaDoorLexK
import Derived.OwnWalk
namespace Go.Proofs.YtlingnajbhlpdaaDoor
open Go.RowKit Lx

namespace Lx
theorem word_as : ∀ (n i q : Nat), word 0 i q (List.replicate n 97) = (i + n, true)
  | 0, i, q => rfl
  | 1, i, q => by simp [List.replicate, word, stop, blank, opc]
  | n + 2, i, q => by
    have h := word_as (n + 1) (i + 1) q
    simp only [List.replicate_succ] at h ⊢
    rw [word]
    simp only [show stop 97 = false from rfl, show ((97 : UInt8) == 92) = false from rfl, show ((97 : UInt8) == 39) = false from rfl, show ((97 : UInt8) == 34) = false from rfl, Bool.false_eq_true, if_false]
    rw [h, show i + 1 + (n + 1) = i + (n + 2) from by omega]
theorem tokens_as (n : Nat) (h : n + 2 ≤ 16384) : tokens (List.replicate (n + 2) 97) = ([⟨3, List.replicate (n + 2) 97, 0⟩], 0, 0) := by
  have hg : gap false (List.replicate (n + 2) 97) = 0 := by rw [List.replicate_succ]; exact gap_none rfl (by simp) (by decide)
  have hw := word_as (n + 2) 0 0
  have hn : nul (List.replicate (n + 2) 97) = n + 2 := by
    unfold nul
    rw [List.idxOf_eq_length (by simp [List.mem_replicate]), List.length_replicate]
  have ht : toks (n + 2 + 1) 0 (List.replicate (n + 2) 97) = .inr [⟨3, List.replicate (n + 2) 97, 0⟩] := by
    rw [toks, hg, List.drop_zero]
    generalize hl : List.replicate (n + 2) (97 : UInt8) = l at *
    have hlen : l.length = n + 2 := by rw [← hl, List.length_replicate]
    have hk : kindOf l = 3 := by
      rw [← hl]; simp only [List.replicate_succ]; rfl
    obtain ⟨r, rfl⟩ : ∃ r, l = 97 :: r := ⟨List.replicate (n + 1) 97, by rw [← hl, List.replicate_succ]⟩
    simp only [show ((97 : UInt8) == 10) = false from rfl, show opc 97 = false from rfl, Bool.false_eq_true, if_false, Nat.zero_add, Nat.sub_zero, hw]
    rw [List.take_of_length_le (by omega), List.drop_of_length_le (by omega), hk]
    simp [toks, gap_nil]
  unfold tokens
  simp only [List.length_replicate]
  rw [if_neg (by omega), ht, hn]
  simp
theorem tokens_long (l : B) (h : 16384 < l.length) : tokens l = ([], 0, 40) := by
  unfold tokens
  rw [if_pos h]
end Lx

set_option maxHeartbeats 2000000 in
theorem cut_false (s K : ByteArray) (V : Value) (T : List Lx.B) (w : World) (hs : s.size ≤ 100000) (hT : Table w) (hV : Texts w V T) (ts : List Lx.Tok) (hts : Lx.tokens s.data.toList = (ts, 0, 0)) (hn1 : ts.length = T.length) (hKn : decide (K.size = T.length) = false) :
    Calls Tryd.prog 8 #[.string s, .string K, V] w fun e w' => e = .returned (.bool false) ∧ Below w.heap.size w w' := by
  have HT := Lib.hid hT
  have HTS := Lib.hid hts
  obtain ⟨A, c, rfl, hg⟩ := hV
  generalize hnT : T.length = n at *
  have HNS := Lib.hid hn1
  have hKK : ((K.size : Int) != (n : Int)) = true := by simp at hKn; simp; omega
  clear hT hts hg hnT hn1 hKn
  go_enter Tryd.func8, Tryd.ntmps8
  go_wp2_with fail
  refine (tokens_any s w hs HT.out).mono ?_
  rintro e w1 ⟨v, rfl, ho, hbl⟩
  rw [HTS.out] at ho ⊢
  simp only [HNS.out] at ho
  have HBL := Lib.hid hbl
  obtain ⟨Al, cap, rfl, hcap, hown⟩ := own_slice ho
  clear ho hbl hown
  go_wp2_with fail
  go_ret
  exact ⟨rfl, HBL.out⟩

theorem info_byte : (Tryd.prog.info? 5).map (fun i => (i.zero, i.size, i.bytes)) = some (some (.int .u8 0), 1, 1) := by kernel_rfl
theorem rep_set (k n : Nat) (x z : Value) (h : k < n) : (List.replicate k x ++ List.replicate (n - k) z).set k x = List.replicate (k + 1) x ++ List.replicate (n - (k + 1)) z := by
  rw [List.set_append_right _ _ (by simp)]
  obtain ⟨m, rfl⟩ : ∃ m, n = k + 1 + m := ⟨n - (k + 1), by omega⟩
  rw [show k + 1 + m - k = m + 1 from by omega, show k + 1 + m - (k + 1) = m from by omega, List.replicate_succ, List.replicate_succ']
  simp

set_option maxHeartbeats 2000000 in
theorem many_any (n : Nat) (c : UInt8) (i u : Int) (w : World) (hi : i = n) (hu : u = c.toNat) (hn0 : 0 < n) (hn : n ≤ 100000) :
    Calls Tryd.prog 11 #[.int .i64 i, .int .u8 u] w fun e w' => ∃ S : ByteArray, e = .returned (.string S) ∧ S.data.toList = List.replicate n c ∧ Below w.heap.size w w' := by
  subst hi hu
  obtain ⟨i0, hi0, hz0, hz1, hz2⟩ := info_parts info_byte
  go_enter Tryd.func11, Tryd.ntmps11
  go_wp2_with (first | (at_make; refine wpList_make_full _ rfl _ _ 41 rfl w.heap.size 5 i0 _ 1 Tryd.underlying41 hi0 hz0 hz1 .i64 .i64 _ _ n rfl rfl rfl rfl (by rw [hz2]; omega) (by unfold maxLen; omega) (Nat.le_refl _) ?_; intro w1 ho hg))
  have hc0 : (madeCells (Value.int .u8 0).cells (n * 1)).toList = List.replicate 0 (Value.int .u8 c.toNat) ++ List.replicate (n - 0) (Value.int .u8 0) := by
    rw [Nat.mul_one]; exact toList_madeCells_one (Value.int .u8 0) n
  rw [hc0] at ho
  have HO := Lib.hid ho
  have HB := Lib.hid ((Below.refl w.heap.size w).grown hg (Nat.le_refl _) (by simp))
  clear ho hg hc0
  generalize hgs : w.heap.size = g at *
  have HG := Lib.hid hgs
  clear hgs
  go_loopw [6] (fun i wr => ∃ k : Nat, k ≤ n ∧ i = .int .i64 k ∧ Hid (Below g w wr) ∧ Hid (wr.ownsRow g 5 1 (.slice (some ⟨g, 0, none⟩) n n) n (List.replicate k (Value.int .u8 c.toNat) ++ List.replicate (n - k) (Value.int .u8 0)))) (fun i _ => n - (intOf i).toNat)
  case atStart => exact ⟨0, Nat.zero_le _, rfl, HB, HO⟩
  case round =>
    obtain ⟨k, hk, rfl, HBK, HR⟩ := hrel
    clear HO HB
    by_cases hlt : k < n
    · have hfz := HR.out.frozenAt k
      have HST := Lib.hid (HR.out.stored k (.int .u8 c.toNat))
      have hcl := HR.out.cellAt k (by omega)
      rw [List.getElem?_append_right (by simp), List.length_replicate, Nat.sub_self, List.getElem?_replicate, if_pos (by omega)] at hcl
      go_wp2
      have hst := HST.out.1
      rw [rep_set _ _ _ _ hlt] at hst
      have hbw := HBK.out.setCell (p := ⟨g, k, none⟩) (Nat.le_refl _) (.int .u8 c.toNat)
      go_roundw
      case rel => exact ⟨k + 1, by omega, by go_num, Lib.hid hbw, Lib.hid hst⟩
      case measure => simp [intOf]; omega
    · obtain rfl : k = n := by omega
      have hcv := run_convert_bytes_back (P := Tryd.prog) wr 41 9 5 ⟨g, 0, none⟩ k (List.replicate k c) Tryd.underlying41 Tryd.underlying5 Tryd.underlying9 (fun j hj => HR.out.cells (g := g) rfl j _ (by
        rw [List.length_replicate] at hj
        rw [List.getElem?_append_left (by simpa using hj), List.getElem?_replicate, if_pos hj, List.getElem_replicate]))
      rw [List.length_replicate] at hcv
      go_wp2
      go_ret
      exact ⟨_, rfl, rfl, HBK.out.mono (by rw [HG.out]; exact Nat.le_refl _)⟩
end Go.Proofs.YtlingnajbhlpdaaDoor
