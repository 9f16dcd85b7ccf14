/- More plain facts on the tokens of a list. -/
import Derived.Test.YtlingnajbhlpdaaDoorLexSpec
namespace Go.Proofs.YtlingnajbhlpdaaDoor.Lx

theorem map_inr {α β : Type} {f : α → β} {x : Sum Nat α} {y : β} (h : x.map id f = .inr y) : ∃ z, x = .inr z ∧ y = f z := by
  cases x with
  | inl q => cases h
  | inr z => exact ⟨z, rfl, by simpa [Sum.map] using h.symm⟩
theorem toks_few : ∀ (f p : Nat) (l : B) (ts : List Tok), toks f p l = .inr ts → ts.length ≤ l.length
  | 0, _, _, _, h => by
    have : ([] : List Tok) = _ := Sum.inr.inj h
    rw [← this]; simp
  | f + 1, p, l, ts, h => by
    rw [toks_gap] at h
    have hdl : (l.drop (gap false l)).length ≤ l.length := by rw [List.length_drop]; omega
    have hgg := gap_gap l
    generalize l.drop (gap false l) = m at h hdl hgg
    suffices hq : ts.length ≤ m.length by omega
    generalize p + gap false l = p' at h
    cases m with
    | nil =>
      rw [toks_nil] at h
      have : ([] : List Tok) = _ := Sum.inr.inj h
      rw [← this]; simp
    | cons c r =>
      by_cases h10 : c = 10
      · subst h10
        rw [toks_line] at h
        obtain ⟨us, hu, rfl⟩ := map_inr h
        have := toks_few f _ _ us hu
        simp only [List.length_cons]; omega
      · by_cases ho : opc c = true
        · rw [toks_op _ _ _ _ ho] at h
          obtain ⟨us, hu, rfl⟩ := map_inr h
          have := toks_few f _ _ us hu
          have hl := op_len c r ho
          rw [List.length_drop] at this
          simp only [List.length_cons] at *; omega
        · have ho : opc c = false := by simpa using ho
          rw [toks_word _ _ _ _ hgg ho h10] at h
          have hw := word_bounds (c :: r) p'
          by_cases hst : stop c = true
          · exfalso
            simp only [stop, Bool.or_eq_true, beq_iff_eq] at hst
            rcases hst with (hb | hb) | hb
            · rw [gap_blank hb] at hgg; omega
            · exact h10 hb
            · rw [hb] at ho; cases ho
          have hp := word_pos p' r (by simpa using hst)
          generalize word 0 p' 0 (c :: r) = x at h hw hp
          obtain ⟨n, ok⟩ := x
          cases ok with
          | false => cases h
          | true =>
            have h1 := hw.1 rfl
            have h2 := hp rfl
            obtain ⟨us, hu, rfl⟩ := map_inr h
            have := toks_few f _ _ us hu
            rw [List.length_drop] at this
            simp only [List.length_cons] at *
            omega
theorem tokens_few (l : B) : (tokens l).1.length ≤ l.length := by
  unfold tokens
  split
  · simp
  · cases h : toks (l.length + 1) 0 l with
    | inl q => simp
    | inr ts =>
      have := toks_few _ _ _ _ h
      simp only
      split
      · simp
      · exact this
end Go.Proofs.YtlingnajbhlpdaaDoor.Lx
