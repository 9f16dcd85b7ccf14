/- Walks: whether a text is a name. -/
import Derived.Test.YtfilbknnpjbmcaaGreatKa06
import Derived.Test.YtfilbknnpjbmcaaGreatKa01
import Derived.Test.YtfilbknnpjbmcaaGreatKa02
namespace Go.Proofs.YtfilbknnpjbmcaaGreat
open Go.RowKit Px

theorem any_bads (l : Px.B) : (!(l.any fun b => bads.data.toList.contains b)) = l.all fun c => !(c == 0) && !(c == 47) && !(c == 10) := by
  induction l with
  | nil => rfl
  | cons x l ih =>
    rw [List.any_cons, List.all_cons, ← ih, Bool.not_or]
    congr 1
    show (!([0, 47, 10] : List UInt8).contains x) = _
    rw [List.contains_cons, List.contains_cons, List.contains_cons, List.contains_nil, Bool.or_false, Bool.not_or, Bool.not_or, Bool.and_assoc]

set_option maxRecDepth 100000 in
theorem name_any (s : ByteArray) (w : World) :
    Calls Tryz.prog 57 #[.string s] w fun e w' => e = .returned (.bool (nameL s.data.toList)) ∧ Below w.heap.size w w' := by
  by_cases h0 : s.toList = [] ∨ s.toList = [46] ∨ s.toList = [46, 46]
  · have HV : Hid (nameL s.data.toList = false) := Lib.hid (by
      rw [Lib.toList_data] at h0
      unfold nameL
      rcases h0 with h | h | h <;> rw [h] <;> rfl)
    rcases h0 with h | h | h
    all_goals
      go_enter Tryz.func57, Tryz.ntmps57
      go_wp2_with fail
      go_ret
      exact ⟨ret_bool HV.out.symm, Below.refl _ _⟩
  · have h1 : ¬ s.toList = [] := fun h => h0 (.inl h)
    have h2 : (s.toList == [46]) = false := beq_eq_false_iff_ne.2 fun h => h0 (.inr (.inl h))
    have h3 : (s.toList == [46, 46]) = false := beq_eq_false_iff_ne.2 fun h => h0 (.inr (.inr h))
    have h4 : s.toList.isEmpty = false := by
      cases e : s.toList with
      | nil => exact absurd e h1
      | cons x y => rfl
    clear h0
    by_cases h64 : s.size ≤ 64
    · have HV : Hid (nameL s.data.toList = !(s.data.toList.any fun b => bads.data.toList.contains b)) := Lib.hid (by
        rw [Lib.toList_data] at h1 h2 h3
        unfold nameL
        rw [any_bads, show (s.data.toList == []) = false from beq_eq_false_iff_ne.2 h1, h2, h3, ← Lib.size_eq, decide_eq_true h64]
        rfl)
      have HC := Lib.hid (containsAny_any s w (by omega))
      generalize (s.data.toList.any fun b => bads.data.toList.contains b) = R at HV HC
      unfold bads at HC
      go_enter Tryz.func57, Tryz.ntmps57
      go_wp2_with (go_at_call 68; refine HC.out.mono ?_; rintro e w' ⟨rfl, hb⟩)
      go_ret
      exact ⟨ret_bool HV.out.symm, hb⟩
    · have HV : Hid (nameL s.data.toList = false) := Lib.hid (by
        unfold nameL
        rw [← Lib.size_eq, decide_eq_false h64, Bool.and_false, Bool.false_and])
      go_enter Tryz.func57, Tryz.ntmps57
      go_wp2_with fail
      go_ret
      exact ⟨ret_bool HV.out.symm, Below.refl _ _⟩
end Go.Proofs.YtfilbknnpjbmcaaGreat
/- Walks of the reference: whether a text is a name. -/
namespace Go.Proofs.YtfilbknnpjbmcaaGreat
open Go.RowKit Px

theorem four_ways (q : ByteArray) : q.toList = [] ∨ q.toList = [46] ∨ q.toList = [46, 46] ∨ (¬ q.toList = [] ∧ (q.toList == [46]) = false ∧ (q.toList == [46, 46]) = false) := by
  by_cases h1 : q.toList = []
  · exact .inl h1
  · by_cases h2 : q.toList = [46]
    · exact .inr (.inl h2)
    · by_cases h3 : q.toList = [46, 46]
      · exact .inr (.inr (.inl h3))
      · exact .inr (.inr (.inr ⟨h1, beq_eq_false_iff_ne.2 h2, beq_eq_false_iff_ne.2 h3⟩))

theorem full_list {q : ByteArray} (h : ¬ q.toList = []) : q.toList.isEmpty = false := by
  cases e : q.toList with
  | nil => exact absurd e h
  | cons x y => rfl
theorem take_snoc_b (s : ByteArray) (k : Nat) (h : k < s.size) : s.data.toList.take (k + 1) = s.data.toList.take k ++ [s[k]] := by
  rw [List.take_succ_eq_append_getElem (by simpa using h)]; rfl
def okC (c : UInt8) : Bool := !(c == 0) && !(c == 47) && !(c == 10)
theorem beq_int (c : UInt8) (n : UInt8) : ((c.toNat : Int) == (n.toNat : Int)) = (c == n) := by
  by_cases h : c = n
  · subst h; simp
  · rw [beq_eq_false_iff_ne.2 h, beq_eq_false_iff_ne]
    intro e
    apply h
    apply UInt8.toNat_inj.1
    omega
theorem okC_ways (c : UInt8) : (okC c = true ∧ ((c.toNat : Int) == 0) = false ∧ ((c.toNat : Int) == 47) = false ∧ ((c.toNat : Int) == 10) = false) ∨ (okC c = false ∧ ((c.toNat : Int) == 0) = true) ∨
    (okC c = false ∧ ((c.toNat : Int) == 0) = false ∧ ((c.toNat : Int) == 47) = true) ∨ (okC c = false ∧ ((c.toNat : Int) == 0) = false ∧ ((c.toNat : Int) == 47) = false ∧ ((c.toNat : Int) == 10) = true) := by
  have e0 := beq_int c 0
  have e1 := beq_int c 47
  have e2 := beq_int c 10
  have f0 : ((0 : UInt8).toNat : Int) = 0 := rfl
  have f1 : ((47 : UInt8).toNat : Int) = 47 := rfl
  have f2 : ((10 : UInt8).toNat : Int) = 10 := rfl
  rw [f0] at e0
  rw [f1] at e1
  rw [f2] at e2
  rw [e0, e1, e2]
  unfold okC
  cases c == 0 <;> cases c == 47 <;> cases c == 10 <;> simp
theorem nameL_of {s : ByteArray} (h1 : ¬ s.toList = []) (h2 : (s.toList == [46]) = false) (h3 : (s.toList == [46, 46]) = false) (h : s.size ≤ 64) : nameL s.data.toList = s.data.toList.all okC := by
  rw [Lib.toList_data] at h1 h2 h3
  unfold nameL
  rw [show (s.data.toList == []) = false from beq_eq_false_iff_ne.2 h1, h2, h3, ← Lib.size_eq, decide_eq_true h]
  rfl
theorem all_take_b {s : ByteArray} {k : Nat} (h : k < s.size) (f : UInt8 → Bool) : (s.data.toList.take (k + 1)).all f = ((s.data.toList.take k).all f && f s[k]) := by
  rw [take_snoc_b s k h, List.all_append]
  simp
theorem all_not_b {s : ByteArray} {k : Nat} (h : k < s.size) {f : UInt8 → Bool} (hf : f s[k] = false) : s.data.toList.all f = false := by
  rw [Bool.eq_false_iff]
  intro ha
  have := List.all_eq_true.1 ha s[k] (by
    show s.data[k] ∈ _
    exact Array.getElem_mem_toList (xs := s.data) h)
  rw [hf] at this
  cases this
theorem all_full_b {s : ByteArray} {k : Nat} (h : k = s.size) {f : UInt8 → Bool} (hf : (s.data.toList.take k).all f = true) : s.data.toList.all f = true := by
  rw [List.take_of_length_le (by rw [← Lib.size_eq]; omega)] at hf
  exact hf
theorem size_of_list {s : ByteArray} {l : List UInt8} (h : s.toList = l) : s.size = l.length := by
  rw [← h, Lib.toList_data, Lib.size_eq]

set_option maxRecDepth 100000 in
theorem nameRef_any (s : ByteArray) (w : World) (hs : s.size ≤ 2000000) :
    Calls Tryz.prog 35 #[.string s] w fun e w' => e = .returned (.bool (nameL s.data.toList)) ∧ w = w' := by
  have bad : (s.toList = [] ∨ s.toList = [46] ∨ s.toList = [46, 46]) → Hid (nameL s.data.toList = false) := fun h => Lib.hid (by
    rw [Lib.toList_data] at h
    unfold nameL
    rcases h with h | h | h <;> rw [h] <;> rfl)
  rcases four_ways s with h | h | h | ⟨h1, h2, h3⟩
  · have HV := bad (.inl h)
    have hz := size_of_list h
    clear bad hs
    go_enter Tryz.func35, Tryz.ntmps35
    go_wp2_with fail
    go_ret
    exact ⟨ret_bool HV.out.symm, rfl⟩
  · have HV := bad (.inr (.inl h))
    have hz : s.size = 1 := size_of_list h
    have hne : ¬ s.toList = [] := by rw [h]; simp
    have he := full_list hne
    have HZ := Lib.hid hz
    have hz1 : s.size ≤ 64 := by omega
    clear bad hs hz
    go_enter Tryz.func35, Tryz.ntmps35
    go_wp2_with fail
    go_ret
    exact ⟨ret_bool HV.out.symm, rfl⟩
  · have HV := bad (.inr (.inr h))
    have hz : s.size = 2 := size_of_list h
    have hne : ¬ s.toList = [] := by rw [h]; simp
    have he := full_list hne
    have hz1 : s.size ≤ 64 := by omega
    clear bad hs hz
    go_enter Tryz.func35, Tryz.ntmps35
    go_wp2_with fail
    go_ret
    exact ⟨ret_bool HV.out.symm, rfl⟩
  · clear bad
    have he := full_list h1
    by_cases h64 : 64 < s.size
    · have HV : Hid (nameL s.data.toList = false) := Lib.hid (by
        unfold nameL
        rw [← Lib.size_eq, decide_eq_false (by omega), Bool.and_false, Bool.false_and])
      go_enter Tryz.func35, Tryz.ntmps35
      go_wp2_with fail
      go_ret
      exact ⟨ret_bool HV.out.symm, rfl⟩
    · have HV := Lib.hid (nameL_of h1 h2 h3 (by omega))
      go_enter Tryz.func35, Tryz.ntmps35
      go_wp2_with fail
      go_loop [3] (fun i => ∃ k : Nat, k ≤ s.size ∧ i = .int .i64 k ∧ Hid ((s.data.toList.take k).all okC = true)) (fun i => s.size - (intOf i).toNat)
      case atStart => exact ⟨0, Nat.zero_le _, rfl, Lib.hid rfl⟩
      case round =>
        obtain ⟨k, hk, rfl, HA⟩ := hrel
        by_cases hlt : k < s.size
        · have HS := Lib.hid (all_take_b hlt okC)
          have HN : Hid (okC s[k] = false → s.data.toList.all okC = false) := Lib.hid fun h => all_not_b hlt h
          rcases okC_ways s[k] with ⟨ho, c0, c1, c2⟩ | ⟨ho, c0⟩ | ⟨ho, c0, c1⟩ | ⟨ho, c0, c1, c2⟩
          · have HO := Lib.hid ho
            clear ho
            go_wp2_with fail
            go_round
            case rel => exact ⟨k + 1, by omega, by go_num, Lib.hid (by rw [HS.out, HA.out, HO.out]; rfl)⟩
            case measure => simp [intOf]; omega
          all_goals
            have HO := Lib.hid (HN.out ho)
            clear ho
            go_wp2_with fail
            go_ret
            exact ⟨ret_bool (by rw [HV.out, HO.out]), rfl⟩
        · have HE := Lib.hid (all_full_b (s := s) (k := k) (by omega) HA.out)
          go_wp2_with fail
          go_ret
          exact ⟨ret_bool (by rw [HV.out, HE.out]), rfl⟩

end Go.Proofs.YtfilbknnpjbmcaaGreat
