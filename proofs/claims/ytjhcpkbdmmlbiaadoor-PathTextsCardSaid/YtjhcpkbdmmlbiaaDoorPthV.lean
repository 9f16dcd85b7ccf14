/- Walks: the last piece of a path, whether it asks for a directory, its last name. -/
import Derived.Test.YtjhcpkbdmmlbiaaDoorPthU
import Derived.Test.YtjhcpkbdmmlbiaaDoorPthShelf2
import Derived.Test.YtjhcpkbdmmlbiaaDoorPthH
import Derived.Test.YtjhcpkbdmmlbiaaDoorPthN
import Derived.Test.YtjhcpkbdmmlbiaaDoorPthP
namespace Go.Proofs.YtjhcpkbdmmlbiaaDoor
open Go.RowKit Px

theorem full_list {q : ByteArray} (h : ¬ q.toList = []) : q.toList.isEmpty = false := by
  cases e : q.toList with
  | nil => exact absurd e h
  | cons x y => rfl
/-- What a text is: nothing, a dot, two dots, or else. -/
theorem four_ways (q : ByteArray) : q.toList = [] ∨ q.toList = [46] ∨ q.toList = [46, 46] ∨ (¬ q.toList = [] ∧ (q.toList == [46]) = false ∧ (q.toList == [46, 46]) = false) := by
  by_cases h1 : q.toList = []
  · exact .inl h1
  · by_cases h2 : q.toList = [46]
    · exact .inr (.inl h2)
    · by_cases h3 : q.toList = [46, 46]
      · exact .inr (.inr (.inl h3))
      · exact .inr (.inr (.inr ⟨h1, beq_eq_false_iff_ne.2 h2, beq_eq_false_iff_ne.2 h3⟩))

theorem lastPiece_any (s : ByteArray) (w : World) (hs : s.size ≤ 100000) :
    Calls Tryd.prog 26 #[.string s] w fun e w' => ∃ q : ByteArray, e = .returned (.string q) ∧ Hid (q.data.toList = lastP s.data.toList) ∧ w = w' := by
  have hge := lastIndex_ge s
  by_cases h : Lib.lastIndexByte s 47 = -1
  · have HV := Lib.hid (lastP_noindex h)
    have HI := Lib.hid h
    clear h hge
    go_enter Tryd.func26, Tryd.ntmps26
    go_wp2_with (go_at_call 39; refine (Tryd.strings_LastIndexByte s 47 (by omega) _).mono ?_; rintro e w' ⟨rfl, rfl⟩; rw [HI.out])
    go_ret
    refine ⟨_, rfl, Lib.hid ?_, rfl⟩
    rw [HV.out]
  · obtain ⟨o, ho⟩ : ∃ o : Nat, Lib.lastIndexByte s 47 = o := ⟨(Lib.lastIndexByte s 47).toNat, by omega⟩
    obtain ⟨h1, hlt⟩ := lastP_index ho
    have HV := Lib.hid h1
    have HI := Lib.hid ho
    clear h hge ho h1
    go_enter Tryd.func26, Tryd.ntmps26
    go_wp2_with (go_at_call 39; refine (Tryd.strings_LastIndexByte s 47 (by omega) _).mono ?_; rintro e w' ⟨rfl, rfl⟩; rw [HI.out])
    go_ret
    refine ⟨_, rfl, Lib.hid ?_, rfl⟩
    rw [HV.out, Lib.extract_data, List.take_of_length_le (by rw [List.length_drop, ← Lib.size_eq]; exact Nat.le_refl _)]

theorem dir_any (s : ByteArray) (w : World) (hs : s.size ≤ 100000) :
    Calls Tryd.prog 15 #[.string s] w fun e w' => e = .returned (.bool (dirL s.data.toList)) ∧ w = w' := by
  go_enter Tryd.func15, Tryd.ntmps15
  go_wp2_with fail
  refine (lastPiece_any s w hs).mono ?_
  rintro e w' ⟨q, rfl, HQ, rfl⟩
  have HV : Hid (dirL s.data.toList = ((q.toList == [] && !(s.toList == [])) || q.toList == [46] || q.toList == [46, 46])) := Lib.hid (by
    unfold dirL
    rw [Lib.toList_data q, HQ.out, Lib.toList_data s])
  rcases four_ways q with h | h | h | ⟨h1, h2, h3⟩
  · have HV2 : Hid (dirL s.data.toList = !(s.toList == [])) := Lib.hid (by rw [HV.out, h]; simp)
    by_cases hs0 : s.toList = []
    · go_wp2
      go_ret
      exact ⟨ret_bool (by rw [HV2.out, hs0]; rfl), rfl⟩
    · have he := full_list hs0
      go_wp2
      go_ret
      exact ⟨ret_bool (by rw [HV2.out]; simp [hs0]), rfl⟩
  · have HV2 : Hid (dirL s.data.toList = true) := Lib.hid (by rw [HV.out, h]; simp)
    go_wp2
    go_ret
    exact ⟨ret_bool HV2.out.symm, rfl⟩
  · have HV2 : Hid (dirL s.data.toList = true) := Lib.hid (by rw [HV.out, h]; simp)
    go_wp2
    go_ret
    exact ⟨ret_bool HV2.out.symm, rfl⟩
  · have HV2 : Hid (dirL s.data.toList = false) := Lib.hid (by rw [HV.out, h2, h3, show (q.toList == []) = false from beq_eq_false_iff_ne.2 h1]; rfl)
    have he := full_list h1
    go_wp2
    go_ret
    exact ⟨ret_bool HV2.out.symm, rfl⟩

/-- What the last name of a path is told as. -/
def LastAt (s : ByteArray) (e : Ending) : Prop :=
  ∃ q : ByteArray, e = .returned (.tuple #[.string q, .bool (nameL (lastF s.data.toList))]) ∧ q.data.toList = if nameL (lastF s.data.toList) then lastF s.data.toList else []

theorem last_any (s : ByteArray) (w : World) (hs : s.size ≤ 100000) :
    Calls Tryd.prog 11 #[.string s] w fun e w' => LastAt s e ∧ Hid (Below w.heap.size w w') := by
  go_enter Tryd.func11, Tryd.ntmps11
  go_wp2_with fail
  refine (Tryd.strings_TrimRight_one s 47 (by decide) _ (by omega)).mono ?_
  rintro e w' ⟨rfl, rfl⟩
  obtain ⟨tr, htr⟩ : ∃ tr : ByteArray, tr = ⟨(Lib.trimRightB s.data.toList 47).toArray⟩ := ⟨_, rfl⟩
  have HT : Hid (tr.data.toList = trimL s.data.toList) := Lib.hid (by rw [htr]; simp [trimL])
  rw [← htr]
  clear htr
  have hts : tr.size ≤ 100000 := by
    have h1 := trim_size s.data.toList
    rw [← HT.out, ← Lib.size_eq, ← Lib.size_eq] at h1
    omega
  go_wp2_with fail
  refine (lastPiece_any tr _ hts).mono ?_
  rintro e w' ⟨q, rfl, HQ, rfl⟩
  have HF : Hid (lastF s.data.toList = q.data.toList) := Lib.hid (by rw [HQ.out, HT.out]; rfl)
  have hqs : q.size ≤ 100000 := by
    have h1 := lastP_size tr.data.toList
    rw [← HQ.out, ← Lib.size_eq, ← Lib.size_eq] at h1
    omega
  clear HQ HT
  go_wp2_with fail
  refine (name_any q _).mono ?_
  rintro e w2 ⟨rfl, hb2⟩
  have HB2 := Lib.hid hb2
  clear hb2
  cases hn : nameL q.data.toList with
  | false =>
    have HN := Lib.hid hn
    clear hn
    go_wp2
    exact bodyPost_ret (v := .tuple #[.string ⟨#[]⟩, .bool false]) (by simp [results, Tryd.results11, go_sem]) rfl ⟨⟨⟨#[]⟩, by rw [HF.out, HN.out], by rw [HF.out, HN.out]; rfl⟩, HB2⟩
  | true =>
    have HN := Lib.hid hn
    clear hn
    go_wp2_with fail
    refine (clone_any q _ (by omega)).mono ?_
    rintro e w3 ⟨rfl, hb3⟩
    have HB3 := Lib.hid (below_next HB2.out hb3)
    clear hb3
    go_wp2
    exact bodyPost_ret (v := .tuple #[.string q, .bool true]) (by simp [results, Tryd.results11, go_sem]) rfl ⟨⟨q, by rw [HF.out, HN.out], by rw [HF.out, HN.out]; rfl⟩, HB3⟩
end Go.Proofs.YtjhcpkbdmmlbiaaDoor
