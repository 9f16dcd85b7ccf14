/- Walks: whether a text is a name. -/
import Derived.Test.YtlnnnlpofocgpabPthJ
import Derived.Test.YtlnnnlpofocgpabPthE
namespace Go.Proofs.Ytlnnnlpofocgpab
open Go.RowKit Px

theorem any_bads (l : Px.B) : (!(l.any fun b => bads.data.toList.contains b)) = l.all fun c => !(c == 0) && !(c == 47) && !(c == 10) := by
  induction l with
  | nil => rfl
  | cons x l ih =>
    rw [List.any_cons, List.all_cons, ← ih, Bool.not_or]
    congr 1
    show (!([0, 47, 10] : List UInt8).contains x) = _
    rw [List.contains_cons, List.contains_cons, List.contains_cons, List.contains_nil, Bool.or_false, Bool.not_or, Bool.not_or, Bool.and_assoc]

set_option maxRecDepth 100000 in
theorem name_any (s : ByteArray) (w : World) :
    Calls Try.prog 14 #[.string s] w fun e w' => e = .returned (.bool (nameL s.data.toList)) ∧ Below w.heap.size w w' := by
  by_cases h0 : s.toList = [] ∨ s.toList = [46] ∨ s.toList = [46, 46]
  · have HV : Hid (nameL s.data.toList = false) := Lib.hid (by
      rw [Lib.toList_data] at h0
      unfold nameL
      rcases h0 with h | h | h <;> rw [h] <;> rfl)
    rcases h0 with h | h | h
    all_goals
      go_enter Try.func14, Try.ntmps14
      go_wp2_with fail
      go_ret
      exact ⟨ret_bool HV.out.symm, Below.refl _ _⟩
  · have h1 : ¬ s.toList = [] := fun h => h0 (.inl h)
    have h2 : (s.toList == [46]) = false := beq_eq_false_iff_ne.2 fun h => h0 (.inr (.inl h))
    have h3 : (s.toList == [46, 46]) = false := beq_eq_false_iff_ne.2 fun h => h0 (.inr (.inr h))
    have h4 : s.toList.isEmpty = false := by
      cases e : s.toList with
      | nil => exact absurd e h1
      | cons x y => rfl
    clear h0
    by_cases h64 : s.size ≤ 64
    · have HV : Hid (nameL s.data.toList = !(s.data.toList.any fun b => bads.data.toList.contains b)) := Lib.hid (by
        rw [Lib.toList_data] at h1 h2 h3
        unfold nameL
        rw [any_bads, show (s.data.toList == []) = false from beq_eq_false_iff_ne.2 h1, h2, h3, ← Lib.size_eq, decide_eq_true h64]
        rfl)
      have HC := Lib.hid (containsAny_any s w (by omega))
      generalize (s.data.toList.any fun b => bads.data.toList.contains b) = R at HV HC
      unfold bads at HC
      go_enter Try.func14, Try.ntmps14
      go_wp2_with (go_at_call 31; refine HC.out.mono ?_; rintro e w' ⟨rfl, hb⟩)
      go_ret
      exact ⟨ret_bool HV.out.symm, hb⟩
    · have HV : Hid (nameL s.data.toList = false) := Lib.hid (by
        unfold nameL
        rw [← Lib.size_eq, decide_eq_false h64, Bool.and_false, Bool.false_and])
      go_enter Try.func14, Try.ntmps14
      go_wp2_with fail
      go_ret
      exact ⟨ret_bool HV.out.symm, Below.refl _ _⟩
end Go.Proofs.Ytlnnnlpofocgpab
