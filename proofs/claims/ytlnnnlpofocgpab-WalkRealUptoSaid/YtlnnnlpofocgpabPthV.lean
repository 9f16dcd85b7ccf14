/- Walks: the last piece of a path, whether it asks for a directory, its last name. -/
import Derived.Test.YtlnnnlpofocgpabPthU
import Derived.Test.YtlnnnlpofocgpabPthShelf2
import Derived.Test.YtlnnnlpofocgpabWkShelf
import Derived.Test.YtlnnnlpofocgpabPthH
import Derived.Test.YtlnnnlpofocgpabPthN
import Derived.Test.YtlnnnlpofocgpabPthP
namespace Go.Proofs.Ytlnnnlpofocgpab
open Go.RowKit Px

theorem full_list {q : ByteArray} (h : ¬ q.toList = []) : q.toList.isEmpty = false := by
  cases e : q.toList with
  | nil => exact absurd e h
  | cons x y => rfl
/-- What a text is: nothing, a dot, two dots, or else. -/
theorem four_ways (q : ByteArray) : q.toList = [] ∨ q.toList = [46] ∨ q.toList = [46, 46] ∨ (¬ q.toList = [] ∧ (q.toList == [46]) = false ∧ (q.toList == [46, 46]) = false) := by
  by_cases h1 : q.toList = []
  · exact .inl h1
  · by_cases h2 : q.toList = [46]
    · exact .inr (.inl h2)
    · by_cases h3 : q.toList = [46, 46]
      · exact .inr (.inr (.inl h3))
      · exact .inr (.inr (.inr ⟨h1, beq_eq_false_iff_ne.2 h2, beq_eq_false_iff_ne.2 h3⟩))

theorem lastPiece_any (s : ByteArray) (w : World) (hs : s.size ≤ 100000) :
    Calls Try.prog 50 #[.string s] w fun e w' => ∃ q : ByteArray, e = .returned (.string q) ∧ Hid (q.data.toList = lastP s.data.toList) ∧ w = w' := by
  have hge := lastIndex_ge s
  by_cases h : Lib.lastIndexByte s 47 = -1
  · have HV := Lib.hid (lastP_noindex h)
    have HI := Lib.hid h
    clear h hge
    go_enter Try.func50, Try.ntmps50
    go_wp2_with (go_at_call 63; refine (Try.strings_LastIndexByte s 47 (by omega) _).mono ?_; rintro e w' ⟨rfl, rfl⟩; rw [HI.out])
    go_ret
    refine ⟨_, rfl, Lib.hid ?_, rfl⟩
    rw [HV.out]
  · obtain ⟨o, ho⟩ : ∃ o : Nat, Lib.lastIndexByte s 47 = o := ⟨(Lib.lastIndexByte s 47).toNat, by omega⟩
    obtain ⟨h1, hlt⟩ := lastP_index ho
    have HV := Lib.hid h1
    have HI := Lib.hid ho
    clear h hge ho h1
    go_enter Try.func50, Try.ntmps50
    go_wp2_with (go_at_call 63; refine (Try.strings_LastIndexByte s 47 (by omega) _).mono ?_; rintro e w' ⟨rfl, rfl⟩; rw [HI.out])
    go_ret
    refine ⟨_, rfl, Lib.hid ?_, rfl⟩
    rw [HV.out, Lib.extract_data, List.take_of_length_le (by rw [List.length_drop, ← Lib.size_eq]; exact Nat.le_refl _)]

theorem dir_any (s : ByteArray) (w : World) (hs : s.size ≤ 100000) :
    Calls Try.prog 36 #[.string s] w fun e w' => e = .returned (.bool (dirL s.data.toList)) ∧ w = w' := by
  go_enter Try.func36, Try.ntmps36
  go_wp2_with fail
  refine (lastPiece_any s w hs).mono ?_
  rintro e w' ⟨q, rfl, HQ, rfl⟩
  have HV : Hid (dirL s.data.toList = ((q.toList == [] && !(s.toList == [])) || q.toList == [46] || q.toList == [46, 46])) := Lib.hid (by
    unfold dirL
    rw [Lib.toList_data q, HQ.out, Lib.toList_data s])
  rcases four_ways q with h | h | h | ⟨h1, h2, h3⟩
  · have HV2 : Hid (dirL s.data.toList = !(s.toList == [])) := Lib.hid (by rw [HV.out, h]; simp)
    by_cases hs0 : s.toList = []
    · go_wp2
      go_ret
      exact ⟨ret_bool (by rw [HV2.out, hs0]; rfl), rfl⟩
    · have he := full_list hs0
      go_wp2
      go_ret
      exact ⟨ret_bool (by rw [HV2.out]; simp [hs0]), rfl⟩
  · have HV2 : Hid (dirL s.data.toList = true) := Lib.hid (by rw [HV.out, h]; simp)
    go_wp2
    go_ret
    exact ⟨ret_bool HV2.out.symm, rfl⟩
  · have HV2 : Hid (dirL s.data.toList = true) := Lib.hid (by rw [HV.out, h]; simp)
    go_wp2
    go_ret
    exact ⟨ret_bool HV2.out.symm, rfl⟩
  · have HV2 : Hid (dirL s.data.toList = false) := Lib.hid (by rw [HV.out, h2, h3, show (q.toList == []) = false from beq_eq_false_iff_ne.2 h1]; rfl)
    have he := full_list h1
    go_wp2
    go_ret
    exact ⟨ret_bool HV2.out.symm, rfl⟩

/-- What the last name of a path is told as. -/
def LastAt (s : ByteArray) (e : Ending) : Prop :=
  ∃ q : ByteArray, e = .returned (.tuple #[.string q, .bool (nameL (lastF s.data.toList))]) ∧ q.data.toList = if nameL (lastF s.data.toList) then lastF s.data.toList else []

end Go.Proofs.Ytlnnnlpofocgpab
