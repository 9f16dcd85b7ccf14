/- Walks of the reference: whether a text is a name. -/
import Derived.Test.YtlnnnlpofocgpabPthN
import Derived.Test.YtlnnnlpofocgpabFtR
namespace Go.Proofs.Ytlnnnlpofocgpab
open Go.RowKit Px

theorem four_ways (q : ByteArray) : q.toList = [] ∨ q.toList = [46] ∨ q.toList = [46, 46] ∨ (¬ q.toList = [] ∧ (q.toList == [46]) = false ∧ (q.toList == [46, 46]) = false) := by
  by_cases h1 : q.toList = []
  · exact .inl h1
  · by_cases h2 : q.toList = [46]
    · exact .inr (.inl h2)
    · by_cases h3 : q.toList = [46, 46]
      · exact .inr (.inr (.inl h3))
      · exact .inr (.inr (.inr ⟨h1, beq_eq_false_iff_ne.2 h2, beq_eq_false_iff_ne.2 h3⟩))

theorem full_list {q : ByteArray} (h : ¬ q.toList = []) : q.toList.isEmpty = false := by
  cases e : q.toList with
  | nil => exact absurd e h
  | cons x y => rfl
theorem take_snoc_b (s : ByteArray) (k : Nat) (h : k < s.size) : s.data.toList.take (k + 1) = s.data.toList.take k ++ [s[k]] := by
  rw [List.take_succ_eq_append_getElem (by simpa using h)]; rfl
def okC (c : UInt8) : Bool := !(c == 0) && !(c == 47) && !(c == 10)
theorem beq_int (c : UInt8) (n : UInt8) : ((c.toNat : Int) == (n.toNat : Int)) = (c == n) := by
  by_cases h : c = n
  · subst h; simp
  · rw [beq_eq_false_iff_ne.2 h, beq_eq_false_iff_ne]
    intro e
    apply h
    apply UInt8.toNat_inj.1
    omega
theorem okC_ways (c : UInt8) : (okC c = true ∧ ((c.toNat : Int) == 0) = false ∧ ((c.toNat : Int) == 47) = false ∧ ((c.toNat : Int) == 10) = false) ∨ (okC c = false ∧ ((c.toNat : Int) == 0) = true) ∨
    (okC c = false ∧ ((c.toNat : Int) == 0) = false ∧ ((c.toNat : Int) == 47) = true) ∨ (okC c = false ∧ ((c.toNat : Int) == 0) = false ∧ ((c.toNat : Int) == 47) = false ∧ ((c.toNat : Int) == 10) = true) := by
  have e0 := beq_int c 0
  have e1 := beq_int c 47
  have e2 := beq_int c 10
  have f0 : ((0 : UInt8).toNat : Int) = 0 := rfl
  have f1 : ((47 : UInt8).toNat : Int) = 47 := rfl
  have f2 : ((10 : UInt8).toNat : Int) = 10 := rfl
  rw [f0] at e0
  rw [f1] at e1
  rw [f2] at e2
  rw [e0, e1, e2]
  unfold okC
  cases c == 0 <;> cases c == 47 <;> cases c == 10 <;> simp
theorem nameL_of {s : ByteArray} (h1 : ¬ s.toList = []) (h2 : (s.toList == [46]) = false) (h3 : (s.toList == [46, 46]) = false) (h : s.size ≤ 64) : nameL s.data.toList = s.data.toList.all okC := by
  rw [Lib.toList_data] at h1 h2 h3
  unfold nameL
  rw [show (s.data.toList == []) = false from beq_eq_false_iff_ne.2 h1, h2, h3, ← Lib.size_eq, decide_eq_true h]
  rfl
theorem all_take_b {s : ByteArray} {k : Nat} (h : k < s.size) (f : UInt8 → Bool) : (s.data.toList.take (k + 1)).all f = ((s.data.toList.take k).all f && f s[k]) := by
  rw [take_snoc_b s k h, List.all_append]
  simp
theorem all_not_b {s : ByteArray} {k : Nat} (h : k < s.size) {f : UInt8 → Bool} (hf : f s[k] = false) : s.data.toList.all f = false := by
  rw [Bool.eq_false_iff]
  intro ha
  have := List.all_eq_true.1 ha s[k] (by
    show s.data[k] ∈ _
    exact Array.getElem_mem_toList (xs := s.data) h)
  rw [hf] at this
  cases this
theorem all_full_b {s : ByteArray} {k : Nat} (h : k = s.size) {f : UInt8 → Bool} (hf : (s.data.toList.take k).all f = true) : s.data.toList.all f = true := by
  rw [List.take_of_length_le (by rw [← Lib.size_eq]; omega)] at hf
  exact hf
theorem size_of_list {s : ByteArray} {l : List UInt8} (h : s.toList = l) : s.size = l.length := by
  rw [← h, Lib.toList_data, Lib.size_eq]

end Go.Proofs.Ytlnnnlpofocgpab
