/- Walks over nodes, of the reference: Well of every kind, May. -/
import Derived.Test.YtlnnnlpofocgpabFtC
namespace Go.Proofs.Ytlnnnlpofocgpab
open Go.RowKit Px Nx

theorem empty_list {s : ByteArray} (h : s.toList = []) : s.size = 0 := size_of_list h
theorem nonempty_size {s : ByteArray} (h : ¬ s.toList = []) : ¬ s.size = 0 := fun e => h (List.length_eq_zero_iff.1 (by rw [Lib.toList_data, ← Lib.size_eq, e]))
theorem zero_ways : ∀ n : Nat, ∃ b, ((n : Int) == 0) = b ∧ decide (n = 0) = b := fun n => by
  by_cases h : n = 0
  · subst h; exact ⟨true, rfl, rfl⟩
  · exact ⟨false, beq_eq_false_iff_ne.2 (by omega), decide_eq_false h⟩
theorem eq_ways : ∀ k n : Nat, ∃ b, ((k : Int) == (n : Int)) = b ∧ decide (k = n) = b := fun k n => by
  by_cases h : k = n
  · subst h; exact ⟨true, by simp, by simp⟩
  · exact ⟨false, beq_eq_false_iff_ne.2 (by omega), decide_eq_false h⟩

end Go.Proofs.Ytlnnnlpofocgpab
