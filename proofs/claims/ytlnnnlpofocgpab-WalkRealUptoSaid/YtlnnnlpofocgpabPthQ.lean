/- Steps and Clean, as lists of texts. -/
import Derived.Test.YtlnnnlpofocgpabPthH
import Derived.Test.YtlnnnlpofocgpabPthN
import Derived.Test.YtlnnnlpofocgpabPthP
namespace Go.Proofs.Ytlnnnlpofocgpab
open Go.RowKit Px

theorem steps_pl {w : World} {s : ByteArray} (hs : s.size ≤ 100000000) :
    Calls Try.prog 35 #[.string s] w fun e w' => ∃ v, e = .returned v ∧ Hid (PlR w' v (stepsB s)) ∧ Hid (Below w.heap.size w w') :=
  (steps_own s hs w).mono fun _e _w' ⟨v, he, ho, hb⟩ => ⟨v, he, Lib.hid (plR_of_own ho), Lib.hid hb⟩
theorem clean_pl {w : World} {s : ByteArray} (hs : s.size ≤ 100000000) :
    Calls Try.prog 13 #[.string s] w fun e w' => ∃ v, e = .returned v ∧ Hid (PlR w' v (cleanBs (stepsB s))) ∧ Hid (Below w.heap.size w w') :=
  (clean_own s hs w).mono fun _e _w' ⟨v, he, ho, hb⟩ => ⟨v, he, Lib.hid (plR_of_own ho), Lib.hid hb⟩

/-- A place of names, shown and cleaned, is the place. -/
theorem flat_joined : ∀ xs : List ByteArray, joined (xs.map fun x => x.data.toList) = xs.foldr (fun x l => 47 :: (x.data.toList ++ l)) []
  | [] => rfl
  | x :: l => by
    rw [List.map_cons, joined, flat_joined l]
    rfl
theorem back_map (xs : List ByteArray) : ((xs.map fun x => x.data.toList).map fun l => (⟨l.toArray⟩ : ByteArray)) = xs := by
  rw [List.map_map]
  have : ((fun l => (⟨l.toArray⟩ : ByteArray)) ∘ fun x : ByteArray => x.data.toList) = id := by
    funext x
    exact Lib.mk_data x
  rw [this, List.map_id]
/-- Steps of a text that has the steps of another one: cleaned alike. -/
theorem clean_like {a s : ByteArray} (h : stepsL a.data.toList = stepsL s.data.toList) : cleanBs (stepsB a) = cleanBs (stepsB s) := by
  unfold stepsB
  rw [h]
theorem stepB_at {s : ByteArray} {k : Nat} (h : k < (stepsB s).length) :
    (∀ x ∈ ((stepsB s).getD k ByteArray.empty).data.toList, x ≠ 47) ∧ good ((stepsB s).getD k ByteArray.empty).data.toList = true ∧ ((stepsB s).getD k ByteArray.empty).size ≤ s.size := by
  have h' : k < (stepsL s.data.toList).length := by unfold stepsB at h; simpa using h
  have e : (stepsB s).getD k ByteArray.empty = ⟨((stepsL s.data.toList)[k]).toArray⟩ := by
    unfold stepsB
    rw [List.getD_eq_getElem?_getD, List.getElem?_map, List.getElem?_eq_getElem h']
    rfl
  have h1 := steps_mem (List.getElem_mem h')
  rw [e]
  refine ⟨by simpa using h1.1, by simpa using h1.2.1, ?_⟩
  show ((stepsL s.data.toList)[k]).toArray.size ≤ s.size
  rw [List.size_toArray, Lib.size_eq s]
  exact h1.2.2
theorem stepB_snoc {s : ByteArray} {k : Nat} (h : k < (stepsB s).length) : (stepsL s.data.toList).take (k + 1) = (stepsL s.data.toList).take k ++ [((stepsB s).getD k ByteArray.empty).data.toList] := by
  have h' : k < (stepsL s.data.toList).length := by unfold stepsB at h; simpa using h
  rw [List.take_succ_eq_append_getElem h']
  congr 2
  unfold stepsB
  rw [List.getD_eq_getElem?_getD, List.getElem?_map, List.getElem?_eq_getElem h']
  rfl
theorem stepB_all {s : ByteArray} {k : Nat} (h : k = (stepsB s).length) : (stepsL s.data.toList).take k = stepsL s.data.toList := by
  unfold stepsB at h
  rw [List.length_map] at h
  rw [h, List.take_length]
end Go.Proofs.Ytlnnnlpofocgpab
