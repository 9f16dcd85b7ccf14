/- Walks of the reference for lex: Is, op, word. -/
import Derived.Test.YtlingnajbhlpdaaDoorLexE
namespace Go.Proofs.YtlingnajbhlpdaaDoor
open Go.RowKit Lx

/-- Does t stand in l from the place n on? -/
def isAt (l : Lx.B) (n : Nat) (t : Lx.B) : Bool := decide (n + t.length ≤ l.length) && Lib.hasPrefix (l.drop n) t
theorem isAt_false {l : Lx.B} {n : Nat} {t : Lx.B} (h : l.length < n + t.length) : isAt l n t = false := by
  unfold isAt; rw [show decide (n + t.length ≤ l.length) = false from by simpa using h]; rfl
theorem isAt_take {l : Lx.B} {n : Nat} {t : Lx.B} (h : n + t.length ≤ l.length) : isAt l n t = ((l.drop n).take t.length == t) := by
  unfold isAt
  rw [show decide (n + t.length ≤ l.length) = true from by simpa using h, Bool.true_and, ← Lib.hasPrefix_of_take, show decide (t.length ≤ (l.drop n).length) = true from by rw [List.length_drop]; simp; omega, Bool.true_and]

theorem is_any (s t : ByteArray) (i : Int) (n : Nat) (w : World) (hi : i = n) (hs : s.size ≤ 100000) (ht : t.size ≤ 100000) (hn : n ≤ 200000) :
    Calls Tryd.prog 15 #[.string s, .int .i64 i, .string t] w fun e w' => e = .returned (.bool (isAt s.data.toList n t.data.toList)) ∧ w = w' := by
  subst hi
  have hls : s.data.toList.length = s.size := (Lib.size_eq s).symm
  have hlt : t.data.toList.length = t.size := (Lib.size_eq t).symm
  by_cases h : n + t.size ≤ s.size
  · have HI := Lib.hid (isAt_take (l := s.data.toList) (n := n) (t := t.data.toList) (by omega))
    rw [hlt] at HI
    clear hls hlt
    have h' : (n : Int) + t.size ≤ s.size := by omega
    go_enter Tryd.func15, Tryd.ntmps15
    go_wp2
    go_ret
    refine ⟨ret_bool ?_, rfl⟩
    rw [HI.out, Lib.extract_toList, Lib.toList_data, show n + t.size - n = t.size from by omega]
  · have HI := Lib.hid (isAt_false (l := s.data.toList) (n := n) (t := t.data.toList) (by omega))
    clear hls hlt
    have h' : (s.size : Int) < n + t.size := by omega
    go_enter Tryd.func15, Tryd.ntmps15
    go_wp2
    go_ret
    exact ⟨ret_bool (by rw [HI.out]), rfl⟩
theorem opsL_len (j : Nat) : (opsL.getD j []).length ≤ 2 := by
  by_cases h : j < 12
  · obtain rfl | rfl | rfl | rfl | rfl | rfl | rfl | rfl | rfl | rfl | rfl | rfl : j = 0 ∨ j = 1 ∨ j = 2 ∨ j = 3 ∨ j = 4 ∨ j = 5 ∨ j = 6 ∨ j = 7 ∨ j = 8 ∨ j = 9 ∨ j = 10 ∨ j = 11 := by omega
    all_goals decide
  · rw [List.getD_eq_getElem?_getD, List.getElem?_eq_none (by simp [opsL]; omega)]; simp
theorem opsV_at (j : Nat) (h : j < 12) : opsV[j]? = some (.string ⟨(opsL.getD j []).toArray⟩) := by
  obtain rfl | rfl | rfl | rfl | rfl | rfl | rfl | rfl | rfl | rfl | rfl | rfl : j = 0 ∨ j = 1 ∨ j = 2 ∨ j = 3 ∨ j = 4 ∨ j = 5 ∨ j = 6 ∨ j = 7 ∨ j = 8 ∨ j = 9 ∨ j = 10 ∨ j = 11 := by omega
  all_goals rfl
theorem opsL_ne (j : Nat) (h : j < 12) : opsL.getD j [] ≠ [] := by
  obtain rfl | rfl | rfl | rfl | rfl | rfl | rfl | rfl | rfl | rfl | rfl | rfl : j = 0 ∨ j = 1 ∨ j = 2 ∨ j = 3 ∨ j = 4 ∨ j = 5 ∨ j = 6 ∨ j = 7 ∨ j = 8 ∨ j = 9 ∨ j = 10 ∨ j = 11 := by omega
  all_goals decide
/-- At a place of a list, 'stands there' and 'is a prefix of what stands from there on' are the same. -/
theorem isAt_prefix {l : Lx.B} {n : Nat} {t : Lx.B} (h : t ≠ []) : isAt l n t = Lib.hasPrefix (l.drop n) t := by
  unfold isAt
  by_cases hp : Lib.hasPrefix (l.drop n) t = true
  · rw [hp, Bool.and_true]
    have h1 := (List.isPrefixOf_iff_prefix.1 hp).length_le
    rw [List.length_drop] at h1
    have : 0 < t.length := List.length_pos_iff.2 h
    simp; omega
  · rw [show Lib.hasPrefix (l.drop n) t = false from by simpa using hp, Bool.and_false]

theorem opRef_any (s : ByteArray) (k : Nat) (w : World) (hs : s.size ≤ 100000) (hk : k ≤ s.size) :
    Calls Tryd.prog 19 #[.string s, .int .i64 k] w fun e w' => e = .returned (.string ⟨(Lx.op (s.data.toList.drop k)).toArray⟩) ∧ Below w.heap.size w w' := by
  go_enter Tryd.func19, Tryd.ntmps19
  go_wp2_with fail
  have hw : ∃ w1 : World, w1 = w.alloc (Obj.cells opsV 9) := ⟨_, rfl⟩
  obtain ⟨w1, hw1⟩ := hw
  have HB : Hid (Below w.heap.size w w1) := Lib.hid (by rw [hw1]; exact (Below.refl _ _).alloc (Nat.le_refl _) _)
  have HC : ∀ j, j < 12 → Hid (w1.cell? ⟨w.heap.size, j, none⟩ = some (.string ⟨(opsL.getD j []).toArray⟩)) := fun j hj => Lib.hid (by rw [hw1, cell_of_row _ _ j _ _ _ (heap_alloc1 _ _)]; exact opsV_at j hj)
  unfold opsV at hw1
  rw [← hw1]
  clear hw1
  go_loop [6] (fun i => ∃ j : Nat, j ≤ 12 ∧ i = .int .i64 j ∧ Hid (Lx.op (s.data.toList.drop k) = opSearch (opsL.drop j) (s.data.toList.drop k))) (fun i => 12 - (intOf i).toNat)
  case atStart => exact ⟨0, by omega, rfl, Lib.hid (op_search _)⟩
  case round =>
    obtain ⟨j, hj, rfl, HJ⟩ := hrel
    by_cases hlt : j < 12
    · have hc := (HC j hlt).out
      have HA := Lib.hid (opSearch_at (os := opsL) (s.data.toList.drop k) hlt)
      have HP := Lib.hid (isAt_prefix (l := s.data.toList) (n := k) (opsL_ne j hlt))
      have hol := opsL_len j
      generalize opsL.getD j [] = o at hc HA HP hol
      go_wp2_with (go_at_call 15; refine (is_any _ _ _ k _ rfl hs (by rw [Lib.size_eq]; simp; omega) (by omega)).mono ?_; rintro e w' ⟨rfl, rfl⟩)
      · have h : isAt s.data.toList k o = true := by assumption
        go_ret
        exact ⟨ret_str (by rw [HJ.out, HA.out, ← HP.out, if_pos h]), HB.out⟩
      · have h : isAt s.data.toList k o = false := by assumption
        go_round
        case rel => exact ⟨j + 1, by omega, by go_num, Lib.hid (by rw [HJ.out, HA.out, ← HP.out, h]; rfl)⟩
        case measure => simp [intOf]; omega
    · go_wp2
      go_ret
      obtain rfl : j = 12 := by omega
      exact ⟨ret_str (by rw [HJ.out]; rfl), HB.out⟩

end Go.Proofs.YtlingnajbhlpdaaDoor
