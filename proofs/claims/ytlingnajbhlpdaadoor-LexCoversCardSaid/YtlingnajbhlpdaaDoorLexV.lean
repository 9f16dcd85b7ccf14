/- Plain facts on the tokens of a list: what stands between them; their texts put together again. -/
import Derived.Test.YtlingnajbhlpdaaDoorLexQ
namespace Go.Proofs.YtlingnajbhlpdaaDoor.Lx

/-- Nothing but blanks, remarks, backslashes with a line's end. -/
def idle : Bool → B → Bool
  | _, [] => true
  | true, c :: r => if c == 10 then false else idle true r
  | false, [c] => blank c || c == 35
  | false, c :: d :: r => if blank c then idle false (d :: r) else if c == 92 && d == 10 then idle false r else if c == 35 then idle true (d :: r) else false
theorem idle_nil (m : Bool) : idle m [] = true := by cases m <;> rfl
theorem idle_true (c : UInt8) (r : B) : idle true (c :: r) = if c == 10 then false else idle true r := by cases r <;> simp [idle]
theorem idle_blank {c : UInt8} {r : B} (h : blank c = true) : idle false (c :: r) = idle false r := by
  cases r with
  | nil => simp [idle, h]
  | cons d r => simp [idle, h]
theorem idle_line {r : B} : idle false (92 :: 10 :: r) = idle false r := by simp [idle, show blank 92 = false from rfl]
theorem idle_rem {r : B} : idle false (35 :: r) = idle true r := by cases r <;> simp [idle, show blank 35 = false from rfl]
theorem idle_none {c : UInt8} {r : B} (h : blank c = false) (h2 : ¬ (c = 92 ∧ r.head? = some 10)) (h3 : c ≠ 35) : idle false (c :: r) = false := by
  cases r with
  | nil => simp [idle, h, h3]
  | cons d r =>
    have : (c == 92 && d == 10) = false := by
      rw [Bool.eq_false_iff]; intro hh; simp at hh; exact h2 ⟨hh.1, by simp [hh.2]⟩
    simp [idle, h, h3, this]
theorem idle_gap : ∀ (l : B) (m : Bool), idle m (l.take (gap m l)) = true
  | [], m => by rw [List.take_nil]; exact idle_nil m
  | [c], m => by
    cases m
    · by_cases hb : blank c = true
      · rw [gap_blank hb, gap_nil]; simp [idle, hb]
      · by_cases h3 : c = 35
        · subst h3; rfl
        · rw [gap_none (by simpa using hb) (by simp) h3]; rfl
    · rw [gap_true, gap_nil]
      by_cases h : c = 10
      · simp [h, idle_nil]
      · simp [h, idle_true, idle_nil]
  | c :: d :: r, m => by
    have h1 := idle_gap (d :: r) m
    have h1' := idle_gap (d :: r) true
    have h2 := idle_gap r m
    cases m
    · by_cases hb : blank c = true
      · rw [gap_blank hb, Nat.add_comm, List.take_succ_cons, idle_blank hb]; exact h1
      · by_cases h2' : c = 92 ∧ d = 10
        · obtain ⟨rfl, rfl⟩ := h2'
          rw [gap_line, Nat.add_comm, show gap false r + 2 = gap false r + 1 + 1 from rfl, List.take_succ_cons, List.take_succ_cons, idle_line]; exact h2
        · by_cases h3 : c = 35
          · subst h3; rw [gap_rem, Nat.add_comm, List.take_succ_cons, idle_rem]; exact h1'
          · rw [gap_none (by simpa using hb) (by simpa using h2') h3]; rfl
    · rw [gap_true c]
      by_cases h : c = 10
      · simp [h, idle_nil]
      · rw [if_neg (by simpa using h), Nat.add_comm, List.take_succ_cons, idle_true, if_neg (by simpa using h)]; exact h1
/-- Tokens stand in a list, one behind the other from a place on, with nothing else between. -/
def Cov (l : B) : Nat → List Tok → Prop
  | p, [] => p ≤ l.length ∧ idle false (l.drop p) = true
  | p, t :: ts => p ≤ t.at_ ∧ idle false ((l.drop p).take (t.at_ - p)) = true ∧ (l.drop t.at_).take t.text.length = t.text ∧ t.at_ + t.text.length ≤ l.length ∧ t.text ≠ [] ∧ Cov l (t.at_ + t.text.length) ts
theorem toks_cov (l : B) : ∀ (f p : Nat) (ts : List Tok), l.length - p < f → p ≤ l.length → toks f p (l.drop p) = .inr ts → Cov l p ts
  | 0, _, _, h, _, _ => absurd h (by omega)
  | f + 1, p, ts, hf, hp, h => by
    rw [toks_gap, List.drop_drop] at h
    have hgl := gap_le (l.drop p) false
    have hig := idle_gap (l.drop p) false
    have hgg := gap_gap (l.drop p)
    rw [List.drop_drop] at hgg
    rw [List.length_drop] at hgl
    obtain ⟨g, hg⟩ : ∃ g, g = gap false (l.drop p) := ⟨_, rfl⟩
    rw [← hg] at h hgl hig hgg
    have hld : (l.drop (p + g)).length = l.length - (p + g) := List.length_drop
    cases hm : l.drop (p + g) with
    | nil =>
      rw [hm] at hld
      rw [hm, toks_nil] at h
      obtain rfl : [] = ts := Sum.inr.inj h
      simp only [List.length_nil] at hld
      refine ⟨hp, ?_⟩
      rw [List.take_of_length_le (by rw [List.length_drop]; omega)] at hig
      exact hig
    | cons c r =>
      rw [hm] at hld h hgg
      simp only [List.length_cons] at hld
      have key (t : Tok) (us : List Tok) (h1 : t.at_ = p + g) (h2 : t.text = (c :: r).take t.text.length) (h3 : 1 ≤ t.text.length) (h4 : t.text.length ≤ (c :: r).length)
          (hu : toks f (p + g + t.text.length) (l.drop (p + g + t.text.length)) = .inr us) : Cov l p (t :: us) := by
        simp only [List.length_cons] at h4
        refine ⟨by omega, ?_, ?_, by omega, fun hh => by rw [hh] at h3; simp at h3, ?_⟩
        · rw [h1, show p + g - p = g from by omega]; exact hig
        · rw [h1, hm]; exact h2.symm
        · rw [h1]; exact toks_cov l f _ us (by omega) (by omega) hu
      by_cases h10 : c = 10
      · subst h10
        rw [toks_line] at h
        obtain ⟨us, hu, rfl⟩ := map_inr h
        refine key _ us rfl rfl (by simp) (by simp) ?_
        show toks f (p + g + 1) (l.drop (p + g + 1)) = .inr us
        rw [← List.drop_drop, hm]; exact hu
      · by_cases ho : opc c = true
        · have hl := op_len c r ho
          rw [toks_op _ _ _ _ ho] at h
          obtain ⟨us, hu, rfl⟩ := map_inr h
          refine key _ us rfl ?_ hl.1 hl.2 ?_
          · cases r with
            | nil => simp [op, ho]
            | cons d r =>
              simp only [op, ho, if_true]
              split
              · rename_i hh; simp only [Bool.and_eq_true, beq_iff_eq] at hh; simp [hh.2]
              · rfl
          · show toks f (p + g + (op (c :: r)).length) (l.drop (p + g + (op (c :: r)).length)) = .inr us
            rw [← List.drop_drop, hm]; exact hu
        · have ho : opc c = false := by simpa using ho
          rw [toks_word _ _ _ _ hgg ho h10] at h
          have hst := not_stop hgg h10 ho
          have hw := word_bounds (c :: r) (p + g)
          have hp := word_pos (p + g) r hst
          generalize word 0 (p + g) 0 (c :: r) = x at h hw hp
          obtain ⟨n, ok⟩ := x
          cases ok with
          | false => cases h
          | true =>
            have h1 := hw.1 rfl
            have h2 := hp rfl
            simp only [List.length_cons] at h1 h2
            obtain ⟨us, hu, rfl⟩ := map_inr h
            have hlt : ((c :: r).take (n - (p + g))).length = n - (p + g) := by rw [List.length_take, List.length_cons]; omega
            refine key _ us rfl ?_ (by show 1 ≤ ((c :: r).take (n - (p + g))).length; omega) (by show ((c :: r).take (n - (p + g))).length ≤ _; rw [List.length_cons]; omega) ?_
            · show (c :: r).take (n - (p + g)) = (c :: r).take ((c :: r).take (n - (p + g))).length
              rw [hlt]
            · show toks f (p + g + ((c :: r).take (n - (p + g))).length) (l.drop (p + g + ((c :: r).take (n - (p + g))).length)) = .inr us
              rw [hlt, ← List.drop_drop, hm, show p + g + (n - (p + g)) = n from by omega]; exact hu
/-- The texts, with a blank behind each. -/
def again : List Tok → B
  | [] => []
  | t :: ts => t.text ++ 32 :: again ts
theorem again_snoc : ∀ (ts : List Tok) (t : Tok), again (ts ++ [t]) = again ts ++ t.text ++ [32]
  | [], t => by simp [again]
  | u :: ts, t => by simp [again, again_snoc ts t]
theorem op_blank (x : B) (c : UInt8) (r : B) (hc : opc c = true) : ∃ y, op (c :: r) = c :: y ∧ op (c :: y ++ 32 :: x) = c :: y := by
  have h32 : (32 == c) = false := by
    rw [Bool.eq_false_iff]; intro h; have : (32 : UInt8) = c := by simpa using h
    subst this; revert hc; decide
  cases r with
  | nil => exact ⟨[], by simp [op, hc], by simp [op, hc, h32]⟩
  | cons d r =>
    by_cases h : (dbl c && d == c) = true
    · refine ⟨[c], by simp only [op, hc, if_true, h], ?_⟩
      simp only [Bool.and_eq_true] at h
      simp [op, hc, h.1]
    · have h' : (dbl c && d == c) = false := by simpa using h
      exact ⟨[], by simp [op, hc, h'], by simp [op, hc, h32]⟩
theorem word_cut (d : UInt8) (t : B) (hd : stop d = true) : ∀ (k : Nat) (l : B) (m i q n : Nat), l.length ≤ k → m ≤ 2 → (q < i ∨ m = 0) → Clean l → word m i q l = (n, true) → word m i q (l.take (n - i) ++ d :: t) = (n, true) := by
  intro k
  induction k with
  | zero =>
    intro l m i q n hl hm hq hc hw
    obtain rfl : l = [] := List.length_eq_zero_iff.1 (by omega)
    cases m with
    | zero => rw [w_end] at hw; obtain ⟨rfl, -⟩ := Prod.mk.inj hw; rw [List.take_nil]; exact w_stop _ _ _ hd
    | succ m => rw [w_nil] at hw; cases hw
  | succ k ih =>
    intro l m i q n hl hm hq hc hw
    cases l with
    | nil =>
      cases m with
      | zero => rw [w_end] at hw; obtain ⟨rfl, -⟩ := Prod.mk.inj hw; rw [List.take_nil]; exact w_stop _ _ _ hd
      | succ m => rw [w_nil] at hw; cases hw
    | cons c r =>
      simp only [List.length_cons] at hl
      have step (m' q' : Nat) (hm' : m' ≤ 2) (hq' : q' < i + 1 ∨ m' = 0) (hr : word m' (i + 1) q' r = (n, true)) :
          (c :: r).take (n - i) = c :: r.take (n - (i + 1)) ∧ word m' (i + 1) q' (r.take (n - (i + 1)) ++ d :: t) = (n, true) := by
        have hf := word_fits r.length r m' (i + 1) q' (Nat.le_refl _) hm' hq'
        rw [hr] at hf
        have := (hf.1 rfl).1
        simp only at this
        refine ⟨?_, ih r m' (i + 1) q' n (by omega) hm' hq' hc.tail hr⟩
        rw [show n - i = n - (i + 1) + 1 from by omega, List.take_succ_cons]
      match m, hm with
      | 0, _ =>
        by_cases hs : stop c = true
        · rw [w_stop _ _ _ hs] at hw
          obtain ⟨rfl, -⟩ := Prod.mk.inj hw
          rw [Nat.sub_self, List.take_zero]; exact w_stop _ _ _ hd
        · by_cases h1 : c = 92
          · subst h1
            cases r with
            | nil => exact absurd rfl hc.one
            | cons e r =>
              simp only [List.length_cons] at hl
              rw [w_esc, show min (i + 2) (i + 1 + (e :: r).length) = i + 2 from by simp; omega] at hw
              have hf := word_fits r.length r 0 (i + 2) q (Nat.le_refl _) (by omega) (.inr rfl)
              rw [show (e :: r).drop 1 = r from rfl] at hw
              rw [hw] at hf
              have := (hf.1 rfl).1
              simp only at this
              rw [show n - i = n - (i + 2) + 1 + 1 from by omega, List.take_succ_cons, List.take_succ_cons, List.cons_append, List.cons_append, w_esc,
                show min (i + 2) (i + 1 + (e :: (r.take (n - (i + 2)) ++ d :: t)).length) = i + 2 from by simp; omega]
              exact ih r 0 (i + 2) q n (by omega) (by omega) (.inr rfl) hc.tail.tail hw
          · by_cases h2 : c = 39
            · subst h2; rw [w_single] at hw
              have h := step 1 i (by omega) (.inl (by omega)) hw
              rw [h.1, List.cons_append, w_single]; exact h.2
            · by_cases h3 : c = 34
              · subst h3; rw [w_double] at hw
                have h := step 2 i (by omega) (.inl (by omega)) hw
                rw [h.1, List.cons_append, w_double]; exact h.2
              · rw [w_other _ _ _ (by simpa using hs) h1 h2 h3] at hw
                have h := step 0 q (by omega) (.inr rfl) hw
                rw [h.1, List.cons_append, w_other _ _ _ (by simpa using hs) h1 h2 h3]; exact h.2
      | 1, _ =>
        rw [w1_cons] at hw
        by_cases h1 : (c == 39) = true
        · rw [if_pos h1] at hw
          have h := step 0 0 (by omega) (.inr rfl) hw
          rw [h.1, List.cons_append, w1_cons, if_pos h1]; exact h.2
        · rw [if_neg h1] at hw
          have h := step 1 q (by omega) (.inl (by omega)) hw
          rw [h.1, List.cons_append, w1_cons, if_neg h1]; exact h.2
      | 2, _ =>
        by_cases h1 : c = 34
        · subst h1; rw [w2_end] at hw
          have h := step 0 0 (by omega) (.inr rfl) hw
          rw [h.1, List.cons_append, w2_end]; exact h.2
        · by_cases h2 : c = 92
          · subst h2
            cases r with
            | nil => exact absurd rfl hc.one
            | cons e r =>
              simp only [List.length_cons] at hl
              rw [w2_esc, show (e :: r).drop 1 = r from rfl] at hw
              have hf := word_fits r.length r 2 (i + 2) q (Nat.le_refl _) (by omega) (.inl (by omega))
              rw [hw] at hf
              have := (hf.1 rfl).1
              simp only at this
              rw [show n - i = n - (i + 2) + 1 + 1 from by omega, List.take_succ_cons, List.take_succ_cons, List.cons_append, List.cons_append, w2_esc]
              exact ih r 2 (i + 2) q n (by omega) (by omega) (.inl (by omega)) hc.tail.tail hw
          · rw [w2_other _ _ _ h1 h2] at hw
            have h := step 2 q (by omega) (.inl (by omega)) hw
            rw [h.1, List.cons_append, w2_other _ _ _ h1 h2]; exact h.2
      | m + 3, h => omega
theorem toks_blank' {c : UInt8} (f p : Nat) (r : B) (h : blank c = true) : toks f p (c :: r) = toks f (p + 1) r := by
  rw [toks_gap, toks_gap f (p + 1) r, gap_blank h, show p + (1 + gap false r) = p + 1 + gap false r from by omega, Nat.add_comm 1, List.drop_succ_cons]
def kt (t : Tok) : UInt8 × B := (t.kind, t.text)
theorem gap_zero {c : UInt8} {r : B} (h : gap false (c :: r) = 0) : blank c = false ∧ ¬ (c = 92 ∧ r.head? = some 10) ∧ c ≠ 35 := by
  refine ⟨?_, ?_, ?_⟩
  · cases hb : blank c with
    | false => rfl
    | true => rw [gap_blank hb] at h; omega
  · rintro ⟨rfl, hr⟩
    cases r with
    | nil => cases hr
    | cons d r => simp at hr; subst hr; rw [gap_line] at h; omega
  · rintro rfl; rw [gap_rem] at h; omega
theorem again_toks : ∀ (f p : Nat) (l : B) (ts : List Tok) (q F : Nat), toks f p l = .inr ts → Clean l → (again ts).length < F → ∃ us, toks F q (again ts) = .inr us ∧ us.map kt = ts.map kt
  | 0, _, _, ts, q, F, h, _, _ => by
    obtain rfl : [] = ts := Sum.inr.inj h
    exact ⟨[], toks_nil _ _, rfl⟩
  | f + 1, p, l, ts, q, F, h, hc, hF => by
    rw [toks_gap] at h
    have hgg := gap_gap l
    have hcd := hc.drop (gap false l)
    generalize l.drop (gap false l) = m at h hgg hcd
    generalize p + gap false l = p' at h
    cases m with
    | nil =>
      rw [toks_nil] at h
      obtain rfl : [] = ts := Sum.inr.inj h
      exact ⟨[], toks_nil _ _, rfl⟩
    | cons c r =>
      by_cases h10 : c = 10
      · subst h10
        rw [toks_line] at h
        obtain ⟨us, hu, rfl⟩ := map_inr h
        simp only [again, List.length_append, List.length_cons] at hF
        obtain ⟨F, rfl⟩ : ∃ F', F = F' + 1 := ⟨F - 1, by omega⟩
        obtain ⟨vs, hv, hk⟩ := again_toks f _ r us (q + 1 + 1) F hu hcd.tail (by omega)
        refine ⟨⟨1, [10], q⟩ :: vs, ?_, by simp [kt, hk]⟩
        show toks (F + 1) q (10 :: 32 :: again us) = _
        rw [toks_line, toks_blank' _ _ _ rfl, hv]; rfl
      · by_cases ho : opc c = true
        · rw [toks_op _ _ _ _ ho] at h
          obtain ⟨us, hu, rfl⟩ := map_inr h
          obtain ⟨y, hy1, hy2⟩ := op_blank (again us) c r ho
          simp only [again, List.length_append, List.length_cons] at hF
          obtain ⟨F, rfl⟩ : ∃ F', F = F' + 1 := ⟨F - 1, by omega⟩
          obtain ⟨vs, hv, hk⟩ := again_toks f _ _ us (q + (c :: y).length + 1) F hu (hcd.drop _) (by omega)
          refine ⟨⟨2, op (c :: r), q⟩ :: vs, ?_, by simp [kt, hk]⟩
          show toks (F + 1) q (op (c :: r) ++ 32 :: again us) = _
          rw [hy1, List.cons_append, toks_op _ _ _ _ ho, ← List.cons_append, hy2, List.drop_left, toks_blank' _ _ _ rfl, hv]; rfl
        · have ho : opc c = false := by simpa using ho
          rw [toks_word _ _ _ _ hgg ho h10] at h
          have hst := not_stop hgg h10 ho
          have hz := gap_zero hgg
          have hw := word_bounds (c :: r) p'
          have hp := word_pos p' r hst
          have hlong : c = 92 → ∀ n, word 0 p' 0 (c :: r) = (n, true) → p' + 2 ≤ n ∧ ∃ e r', r = e :: r' := by
            rintro rfl n hn
            cases r with
            | nil => exact absurd rfl hcd.one
            | cons e r' =>
              rw [w_esc, show min (p' + 2) (p' + 1 + (e :: r').length) = p' + 2 from by simp; omega] at hn
              have hf := word_bounds r' (p' + 2)
              rw [show (e :: r').drop 1 = r' from rfl] at hn
              rw [hn] at hf
              exact ⟨(hf.1 rfl).1, e, r', rfl⟩
          generalize hx : word 0 p' 0 (c :: r) = x at h hw hp hlong
          obtain ⟨n, ok⟩ := x
          cases ok with
          | false => cases h
          | true =>
            have h1 := hw.1 rfl
            have h2 := hp rfl
            simp only [List.length_cons] at h1 h2
            obtain ⟨us, hu, rfl⟩ := map_inr h
            simp only [again, List.length_append, List.length_cons] at hF
            have hlt : ((c :: r).take (n - p')).length = n - p' := by rw [List.length_take, List.length_cons]; omega
            obtain ⟨F, rfl⟩ : ∃ F', F = F' + 1 := ⟨F - 1, by omega⟩
            obtain ⟨vs, hv, hk⟩ := again_toks f _ _ us (q + (n - p') + 1) F hu (hcd.drop _) (by omega)
            have hcut := word_cut 32 (again us) rfl (c :: r).length (c :: r) 0 p' 0 n (Nat.le_refl _) (by omega) (.inr rfl) hcd hx
            refine ⟨⟨kindOf ((c :: r).take (n - p')), (c :: r).take (n - p'), q⟩ :: vs, ?_, by simp [kt, hk]⟩
            show toks (F + 1) q ((c :: r).take (n - p') ++ 32 :: again us) = _
            generalize hX : (c :: r).take (n - p') ++ 32 :: again us = X at hcut
            have hwq : word 0 q 0 X = (q + (n - p'), true) := by
              have e1 := word_shift p' X.length X 0 0 0 0 (Nat.le_refl _) (by omega) (.inl rfl)
              have e2 := word_shift q X.length X 0 0 0 0 (Nat.le_refl _) (by omega) (.inl rfl)
              rw [Nat.zero_add] at e1 e2
              rw [hcut] at e1
              have h3 := congrArg Prod.fst e1
              have h4 := congrArg Prod.snd e1
              simp only at h3 h4
              rw [e2, ← h4]
              congr 1; omega
            have hXt : X.take (n - p') = (c :: r).take (n - p') := by rw [← hX, List.take_append_of_le_length (by omega), List.take_of_length_le (by omega)]
            have hXd : X.drop (n - p') = 32 :: again us := by
              rw [← hX]
              have h9 := List.drop_left (l₁ := (c :: r).take (n - p')) (l₂ := 32 :: again us)
              rw [hlt] at h9
              exact h9
            obtain ⟨y, hy⟩ : ∃ y, X = c :: y ∧ (c = 92 → y.head? = r.head?) := by
              rw [← hX, show n - p' = n - p' - 1 + 1 from by omega, List.take_succ_cons, List.cons_append]
              refine ⟨_, rfl, fun h92 => ?_⟩
              obtain ⟨h5, e, r', rfl⟩ := hlong h92 n rfl
              rw [show n - p' - 1 = n - p' - 2 + 1 from by omega, List.take_succ_cons]; rfl
            have hgX : gap false X = 0 := by
              rw [hy.1]
              exact gap_none hz.1 (fun hh => hz.2.1 ⟨hh.1, by rw [← hy.2 hh.1]; exact hh.2⟩) hz.2.2
            rw [hy.1] at hgX hwq hXt hXd ⊢
            rw [toks_word _ _ _ _ hgX ho h10, hwq]
            show Sum.map id _ (toks F (q + (n - p')) _) = _
            rw [show q + (n - p') - q = n - p' from by omega, hXt, hXd, toks_blank' _ _ _ rfl, hv]; rfl
theorem cov_len (l : B) : ∀ (ts : List Tok) (p : Nat), Cov l p ts → (again ts).length + 2 * p ≤ 2 * l.length
  | [], p, h => by simp only [again, List.length_nil]; have := h.1; omega
  | t :: ts, p, h => by
    obtain ⟨h1, _, _, h4, h5, h6⟩ := h
    have := cov_len l ts _ h6
    have h7 : 0 < t.text.length := List.length_pos_iff.2 h5
    simp only [again, List.length_append, List.length_cons]
    omega
theorem cov_mem (l : B) : ∀ (ts : List Tok) (p : Nat), Cov l p ts → ∀ c ∈ again ts, c ∈ l ∨ c = 32
  | [], _, _, c, hc => by cases hc
  | t :: ts, p, h, c, hc => by
    obtain ⟨_, _, h3, _, _, h6⟩ := h
    simp only [again, List.mem_append, List.mem_cons] at hc
    rcases hc with hc | hc | hc
    · rw [← h3] at hc
      exact .inl (List.mem_of_mem_drop (List.mem_of_mem_take hc))
    · exact .inr hc
    · exact cov_mem l ts _ h6 c hc
theorem tokens_inr {l : B} {ts : List Tok} {p : Nat} (h : tokens l = (ts, p, 0)) : toks (l.length + 1) 0 l = .inr ts ∧ ¬ nul l < l.length ∧ l.length ≤ 16384 := by
  unfold tokens at h
  split at h
  · simp at h
  · rename_i hl
    cases hR : toks (l.length + 1) 0 l with
    | inl q => rw [hR] at h; simp at h
    | inr us =>
      rw [hR] at h
      simp only at h
      split at h
      · simp at h
      · rename_i hn
        obtain rfl : us = ts := (Prod.mk.inj h).1
        exact ⟨rfl, hn, by omega⟩
theorem tokens_cov {l : B} {ts : List Tok} {p : Nat} (h : tokens l = (ts, p, 0)) : Cov l 0 ts :=
  toks_cov l (l.length + 1) 0 ts (by omega) (Nat.zero_le _) (tokens_inr h).1
/-- WHAT THE DOCUMENT SAYS OF THE TEXTS, PUT TOGETHER AGAIN. -/
theorem tokens_again {l : B} {ts : List Tok} {p : Nat} (h : tokens l = (ts, p, 0)) (hc : Clean l) (hl : l.length ≤ 8000) : ∃ us, tokens (again ts) = (us, 0, 0) ∧ us.map kt = ts.map kt := by
  have h1 := tokens_inr h
  have hcov := tokens_cov h
  have hlen := cov_len l ts 0 hcov
  obtain ⟨us, hu, hk⟩ := again_toks _ _ _ _ 0 ((again ts).length + 1) h1.1 hc (by omega)
  refine ⟨us, ?_, hk⟩
  have hnul : ¬ nul (again ts) < (again ts).length := by
    intro hn
    have hm : (0 : UInt8) ∈ again ts := List.idxOf_lt_length_iff.1 hn
    rcases cov_mem l ts 0 hcov 0 hm with h2 | h2
    · exact h1.2.1 (List.idxOf_lt_length_iff.2 h2)
    · revert h2; decide
  rw [tokens, if_neg (by omega), hu]
  simp only
  rw [if_neg hnul]

end Go.Proofs.YtlingnajbhlpdaaDoor.Lx
