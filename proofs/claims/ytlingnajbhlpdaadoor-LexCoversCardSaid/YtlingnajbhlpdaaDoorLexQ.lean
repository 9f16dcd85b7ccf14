/- Plain facts on the tokens of a list: a list, a line's end and another list; the texts put together again. -/
import Derived.Test.YtlingnajbhlpdaaDoorLexP
namespace Go.Proofs.YtlingnajbhlpdaaDoor.Lx

/-- The list does not end by a backslash. -/
def Clean (l : B) : Prop := l.getLast? ≠ some 92
theorem Clean.tail {c : UInt8} {r : B} (h : Clean (c :: r)) : Clean r := by
  cases r with
  | nil => simp [Clean]
  | cons d r => simpa [Clean, List.getLast?_cons_cons] using h
theorem Clean.drop {l : B} (h : Clean l) (n : Nat) : Clean (l.drop n) := by
  induction n generalizing l with
  | zero => exact h
  | succ n ih =>
    cases l with
    | nil => exact h
    | cons c r => exact ih h.tail
theorem Clean.one {c : UInt8} (h : Clean [c]) : c ≠ 92 := by simpa [Clean] using h

theorem gap_app (t : B) : ∀ (l : B) (m : Bool), Clean l → gap m (l ++ 10 :: t) = gap m l
  | [], m, _ => by
    cases m
    · exact gap_ten t
    · rw [List.nil_append, gap_true]; rfl
  | [c], m, h => by
    cases m
    · by_cases hb : blank c = true
      · rw [List.singleton_append, gap_blank hb, gap_blank hb, gap_ten]; rfl
      · by_cases h3 : c = 35
        · subst h3; rw [List.singleton_append, gap_rem, gap_rem, gap_true]; rfl
        · rw [List.singleton_append, gap_none (by simpa using hb) (fun hh => h.one hh.1) h3, gap_none (by simpa using hb) (fun hh => h.one hh.1) h3]
    · rw [List.singleton_append, gap_true, gap_true, gap_true]; simp [gap_nil]
  | c :: d :: r, m, h => by
    have h1 := gap_app t (d :: r) m h.tail
    have h1' := gap_app t (d :: r) true h.tail
    have h2 := gap_app t r m h.tail.tail
    cases m
    · by_cases hb : blank c = true
      · rw [List.cons_append, gap_blank hb, h1, gap_blank hb]
      · by_cases h2' : c = 92 ∧ d = 10
        · obtain ⟨rfl, rfl⟩ := h2'
          rw [List.cons_append, List.cons_append, gap_line, h2, gap_line]
        · by_cases h3 : c = 35
          · subst h3; rw [List.cons_append, gap_rem, h1', gap_rem]
          · rw [List.cons_append, gap_none (by simpa using hb) (by simpa using h2') h3, gap_none (by simpa using hb) (by simpa using h2') h3]
    · rw [List.cons_append, gap_true c, h1, ← gap_true c (d :: r)]
theorem op_app (t : B) (c : UInt8) (r : B) (hc : opc c = true) : op (c :: r ++ 10 :: t) = op (c :: r) := by
  cases r with
  | nil =>
    have hne : (10 == c) = false := by rw [Bool.eq_false_iff]; intro h; have : (10 : UInt8) = c := by simpa using h
                                       subst this; revert hc; decide
    simp [op, hc, hne]
  | cons d r => rfl
/-- A word that ends is the same before what ends a word. -/
theorem word_app (d : UInt8) (t : B) (hd : stop d = true) : ∀ (n : Nat) (l : B) (m i q : Nat), l.length ≤ n → m ≤ 2 → Clean l → (word m i q l).2 = true → word m i q (l ++ d :: t) = word m i q l := by
  intro n
  induction n with
  | zero =>
    intro l m i q hl hm hc hw
    obtain rfl : l = [] := List.length_eq_zero_iff.1 (by omega)
    cases m with
    | zero => exact w_stop _ _ _ hd
    | succ m => rw [w_nil] at hw; cases hw
  | succ n ih =>
    intro l m i q hl hm hc hw
    cases l with
    | nil =>
      cases m with
      | zero => exact w_stop _ _ _ hd
      | succ m => rw [w_nil] at hw; cases hw
    | cons c r =>
      simp only [List.length_cons] at hl
      rw [List.cons_append]
      match m, hm with
      | 0, _ =>
        by_cases hs : stop c = true
        · rw [w_stop _ _ _ hs, w_stop _ _ _ hs]
        · by_cases h1 : c = 92
          · subst h1
            cases r with
            | nil => exact absurd rfl hc.one
            | cons e r =>
              rw [w_esc] at hw ⊢
              rw [w_esc]
              rw [show min (i + 2) (i + 1 + (e :: r).length) = i + 2 from by simp; omega] at hw ⊢
              rw [show min (i + 2) (i + 1 + (e :: r ++ d :: t).length) = i + 2 from by simp; omega]
              exact ih r 0 _ q (by simp at hl; omega) (by omega) hc.tail.tail hw
          · by_cases h2 : c = 39
            · subst h2; rw [w_single] at hw ⊢; rw [w_single]; exact ih r 1 _ _ (by omega) (by omega) hc.tail hw
            · by_cases h3 : c = 34
              · subst h3; rw [w_double] at hw ⊢; rw [w_double]; exact ih r 2 _ _ (by omega) (by omega) hc.tail hw
              · rw [w_other _ _ _ (by simpa using hs) h1 h2 h3] at hw ⊢
                rw [w_other _ _ _ (by simpa using hs) h1 h2 h3]; exact ih r 0 _ _ (by omega) (by omega) hc.tail hw
      | 1, _ =>
        rw [w1_cons] at hw ⊢
        rw [w1_cons]
        split
        · rename_i h; rw [if_pos h] at hw; exact ih r 0 _ _ (by omega) (by omega) hc.tail hw
        · rename_i h; rw [if_neg h] at hw; exact ih r 1 _ _ (by omega) (by omega) hc.tail hw
      | 2, _ =>
        by_cases h1 : c = 34
        · subst h1; rw [w2_end] at hw ⊢; rw [w2_end]; exact ih r 0 _ _ (by omega) (by omega) hc.tail hw
        · by_cases h2 : c = 92
          · subst h2
            cases r with
            | nil => exact absurd rfl hc.one
            | cons e r =>
              rw [w2_esc] at hw ⊢
              rw [w2_esc]
              exact ih r 2 _ q (by simp at hl; omega) (by omega) hc.tail.tail hw
          · rw [w2_other _ _ _ h1 h2] at hw ⊢; rw [w2_other _ _ _ h1 h2]; exact ih r 2 _ _ (by omega) (by omega) hc.tail hw
      | m + 3, h => omega
/-- More fuel than bytes is enough. -/
theorem toks_fuel : ∀ (f f' p : Nat) (l : B), l.length < f → l.length < f' → toks f p l = toks f' p l
  | 0, _, _, _, h, _ => absurd h (by omega)
  | _, 0, _, _, _, h => absurd h (by omega)
  | f + 1, f' + 1, p, l, h, h' => by
    rw [toks_gap, toks_gap (f' + 1)]
    have hdl : (l.drop (gap false l)).length ≤ l.length := by rw [List.length_drop]; omega
    have hgg := gap_gap l
    generalize l.drop (gap false l) = m at hdl hgg ⊢
    generalize p + gap false l = p'
    cases m with
    | nil => rw [toks_nil, toks_nil]
    | cons c r =>
      simp only [List.length_cons] at hdl
      by_cases h10 : c = 10
      · subst h10
        rw [toks_line, toks_line, toks_fuel f f' _ r (by omega) (by omega)]
      · by_cases ho : opc c = true
        · have hl := op_len c r ho
          rw [toks_op _ _ _ _ ho, toks_op _ _ _ _ ho, toks_fuel f f' _ _ (by rw [List.length_drop]; simp only [List.length_cons] at *; omega) (by rw [List.length_drop]; simp only [List.length_cons] at *; omega)]
        · have ho : opc c = false := by simpa using ho
          rw [toks_word _ _ _ _ hgg ho h10, toks_word _ _ _ _ hgg ho h10]
          by_cases hst : stop c = true
          · exfalso
            simp only [stop, Bool.or_eq_true, beq_iff_eq] at hst
            rcases hst with (hb | hb) | hb
            · rw [gap_blank hb] at hgg; omega
            · exact h10 hb
            · rw [hb] at ho; cases ho
          have hp := word_pos p' r (by simpa using hst)
          generalize word 0 p' 0 (c :: r) = x at hp
          obtain ⟨n, ok⟩ := x
          cases ok with
          | false => rfl
          | true =>
            have h2 := hp rfl
            show Sum.map id _ (toks f n _) = Sum.map id _ (toks f' n _)
            rw [toks_fuel f f' _ _ (by rw [List.length_drop]; simp only [List.length_cons] at *; omega) (by rw [List.length_drop]; simp only [List.length_cons] at *; omega)]
theorem not_stop {c : UInt8} {r : B} (hgg : gap false (c :: r) = 0) (h10 : c ≠ 10) (ho : opc c = false) : stop c = false := by
  rw [Bool.eq_false_iff]
  intro hst
  simp only [stop, Bool.or_eq_true, beq_iff_eq] at hst
  rcases hst with (hb | hb) | hb
  · rw [gap_blank hb] at hgg; omega
  · exact h10 hb
  · rw [hb] at ho; cases ho
def behind (ts : List Tok) : Sum Nat (List Tok) → Sum Nat (List Tok)
  | .inl q => .inl q
  | .inr us => .inr (ts ++ us)
theorem behind_map (t : Tok) (ts : List Tok) (x : Sum Nat (List Tok)) : (behind ts x).map id (t :: ·) = behind (t :: ts) x := by cases x <;> rfl
theorem behind_nil (x : Sum Nat (List Tok)) : behind [] x = x := by cases x <;> rfl
/-- A list that ends well, a line's end, and another list. -/
theorem toks_app (t : B) (F : Nat) : ∀ (f p : Nat) (l : B) (ts : List Tok), l.length < f → toks f p l = .inr ts → Clean l → (l ++ 10 :: t).length < F →
    toks F p (l ++ 10 :: t) = behind ts (toks F (p + l.length) (10 :: t))
  | 0, _, _, _, h, _, _, _ => absurd h (by omega)
  | f + 1, p, l, ts, hf, h, hc, hF => by
    rw [toks_gap] at h ⊢
    rw [gap_app t l false hc, List.drop_append_of_le_length (gap_le l false)]
    have hgl := gap_le l false
    have hdl : (l.drop (gap false l)).length = l.length - gap false l := by rw [List.length_drop]
    have hgg := gap_gap l
    have hcd := hc.drop (gap false l)
    have hpl : p + l.length = (p + gap false l) + (l.drop (gap false l)).length := by omega
    rw [hpl]
    simp only [List.length_append, List.length_cons] at hF
    generalize l.drop (gap false l) = m at h hdl hgg hcd ⊢
    generalize p + gap false l = p' at h ⊢
    cases m with
    | nil =>
      rw [toks_nil] at h
      obtain rfl : [] = ts := Sum.inr.inj h
      rw [behind_nil]; rfl
    | cons c r =>
      simp only [List.length_cons] at hdl
      obtain ⟨F, rfl⟩ : ∃ F', F = F' + 1 := ⟨F - 1, by omega⟩
      by_cases h10 : c = 10
      · subst h10
        rw [toks_line] at h
        obtain ⟨us, hu, rfl⟩ := map_inr h
        rw [List.cons_append, toks_line, toks_fuel F (F + 1) _ _ (by simp; omega) (by simp; omega), toks_app t (F + 1) f _ r us (by omega) hu hcd.tail (by simp; omega), behind_map]
        rw [show p' + 1 + r.length = p' + (10 :: r).length from by simp; omega]
      · by_cases ho : opc c = true
        · have hl := op_len c r ho
          rw [toks_op _ _ _ _ ho] at h
          obtain ⟨us, hu, rfl⟩ := map_inr h
          have hoa := op_app t c r ho
          rw [List.cons_append] at hoa ⊢
          rw [toks_op _ _ _ _ ho, hoa, ← List.cons_append, List.drop_append_of_le_length hl.2]
          have hld : ((c :: r).drop (op (c :: r)).length).length = (c :: r).length - (op (c :: r)).length := List.length_drop
          have hcl : (c :: r).length = r.length + 1 := rfl
          rw [toks_fuel F (F + 1) _ _ (by simp only [List.length_append, List.length_cons]; omega) (by simp only [List.length_append, List.length_cons]; omega),
            toks_app t (F + 1) f _ _ us (by omega) hu (hcd.drop _) (by simp only [List.length_append, List.length_cons]; omega), behind_map]
          rw [show p' + (op (c :: r)).length + ((c :: r).drop (op (c :: r)).length).length = p' + (c :: r).length from by omega]
        · have ho : opc c = false := by simpa using ho
          rw [toks_word _ _ _ _ hgg ho h10] at h
          have hst := not_stop hgg h10 ho
          have hw := word_bounds (c :: r) p'
          have hp := word_pos p' r hst
          have hwa := word_app 10 t rfl (c :: r).length (c :: r) 0 p' 0 (Nat.le_refl _) (by omega) hcd
          have hga : gap false (c :: r ++ 10 :: t) = 0 := by rw [gap_app t _ false hcd]; exact hgg
          generalize hx : word 0 p' 0 (c :: r) = x at h hw hp hwa
          obtain ⟨n, ok⟩ := x
          cases ok with
          | false => cases h
          | true =>
            have h1 := hw.1 rfl
            have h2 := hp rfl
            simp only at h1 h2
            have hcl : (c :: r).length = r.length + 1 := rfl
            obtain ⟨us, hu, rfl⟩ := map_inr h
            rw [List.cons_append] at hga hwa ⊢
            rw [toks_word _ _ _ _ hga ho h10, hwa rfl]
            show Sum.map id _ (toks F n _) = _
            rw [← List.cons_append, List.drop_append_of_le_length (by omega), List.take_append_of_le_length (by omega)]
            have hld : ((c :: r).drop (n - p')).length = (c :: r).length - (n - p') := List.length_drop
            rw [toks_fuel F (F + 1) _ _ (by simp only [List.length_append, List.length_cons]; omega) (by simp only [List.length_append, List.length_cons]; omega),
              toks_app t (F + 1) f _ _ us (by omega) hu (hcd.drop _) (by simp only [List.length_append, List.length_cons]; omega), behind_map]
            rw [show n + ((c :: r).drop (n - p')).length = p' + (c :: r).length from by omega]
/-- Places may be counted from elsewhere. -/
theorem word_shift (d : Nat) : ∀ (n : Nat) (l : B) (m i q q' : Nat), l.length ≤ n → m ≤ 2 → (m = 0 ∨ q' = q + d) → word m (i + d) q' l = ((word m i q l).1 + d, (word m i q l).2) := by
  intro n
  induction n with
  | zero =>
    intro l m i q q' hl hm hq
    obtain rfl : l = [] := List.length_eq_zero_iff.1 (by omega)
    cases m with
    | zero => rfl
    | succ m => rw [w_nil, w_nil]; simp; omega
  | succ n ih =>
    intro l m i q q' hl hm hq
    cases l with
    | nil =>
      cases m with
      | zero => rfl
      | succ m => rw [w_nil, w_nil]; simp; omega
    | cons c r =>
      simp only [List.length_cons] at hl
      match m, hm with
      | 0, _ =>
        by_cases hs : stop c = true
        · rw [w_stop _ _ _ hs, w_stop _ _ _ hs]
        · by_cases h1 : c = 92
          · subst h1
            rw [w_esc, w_esc, show min (i + d + 2) (i + d + 1 + r.length) = min (i + 2) (i + 1 + r.length) + d from by omega]
            exact ih _ 0 _ _ _ (by simp; omega) (by omega) (.inl rfl)
          · by_cases h2 : c = 39
            · subst h2; rw [w_single, w_single, show i + d + 1 = i + 1 + d from by omega]; exact ih r 1 _ _ _ (by omega) (by omega) (.inr rfl)
            · by_cases h3 : c = 34
              · subst h3; rw [w_double, w_double, show i + d + 1 = i + 1 + d from by omega]; exact ih r 2 _ _ _ (by omega) (by omega) (.inr rfl)
              · rw [w_other _ _ _ (by simpa using hs) h1 h2 h3, w_other _ _ _ (by simpa using hs) h1 h2 h3, show i + d + 1 = i + 1 + d from by omega]; exact ih r 0 _ _ _ (by omega) (by omega) (.inl rfl)
      | 1, _ =>
        rw [w1_cons, w1_cons, show i + d + 1 = i + 1 + d from by omega]
        split
        · exact ih r 0 _ _ _ (by omega) (by omega) (.inl rfl)
        · exact ih r 1 _ _ _ (by omega) (by omega) (.inr (by omega))
      | 2, _ =>
        by_cases h1 : c = 34
        · subst h1; rw [w2_end, w2_end, show i + d + 1 = i + 1 + d from by omega]; exact ih r 0 _ _ _ (by omega) (by omega) (.inl rfl)
        · by_cases h2 : c = 92
          · subst h2; rw [w2_esc, w2_esc, show i + d + 2 = i + 2 + d from by omega]; exact ih _ 2 _ _ _ (by simp; omega) (by omega) (.inr (by omega))
          · rw [w2_other _ _ _ h1 h2, w2_other _ _ _ h1 h2, show i + d + 1 = i + 1 + d from by omega]; exact ih r 2 _ _ _ (by omega) (by omega) (.inr (by omega))
      | m + 3, h => omega
def moved (d : Nat) (t : Tok) : Tok := { t with at_ := t.at_ + d }
def movedAll (d : Nat) : Sum Nat (List Tok) → Sum Nat (List Tok)
  | .inl q => .inl (q + d)
  | .inr ts => .inr (ts.map (moved d))
theorem movedAll_map (d : Nat) (t : Tok) (x : Sum Nat (List Tok)) : movedAll d (x.map id (t :: ·)) = (movedAll d x).map id (moved d t :: ·) := by cases x <;> rfl
theorem toks_shift (d : Nat) : ∀ (f p : Nat) (l : B), toks f (p + d) l = movedAll d (toks f p l)
  | 0, _, _ => rfl
  | f + 1, p, l => by
    rw [toks_gap, toks_gap (f + 1) p]
    have hgg := gap_gap l
    generalize l.drop (gap false l) = m at hgg ⊢
    rw [show p + d + gap false l = p + gap false l + d from by omega]
    generalize p + gap false l = p'
    cases m with
    | nil => rw [toks_nil, toks_nil]; rfl
    | cons c r =>
      by_cases h10 : c = 10
      · subst h10
        rw [toks_line, toks_line, movedAll_map, show p' + d + 1 = p' + 1 + d from by omega, toks_shift d f]; rfl
      · by_cases ho : opc c = true
        · rw [toks_op _ _ _ _ ho, toks_op _ _ _ _ ho, movedAll_map, show p' + d + (op (c :: r)).length = p' + (op (c :: r)).length + d from by omega, toks_shift d f]; rfl
        · have ho : opc c = false := by simpa using ho
          rw [toks_word _ _ _ _ hgg ho h10, toks_word _ _ _ _ hgg ho h10, word_shift d (c :: r).length (c :: r) 0 p' 0 0 (Nat.le_refl _) (by omega) (.inl rfl)]
          generalize word 0 p' 0 (c :: r) = x
          obtain ⟨n, ok⟩ := x
          cases ok with
          | false => rfl
          | true =>
            show Sum.map id _ (toks f (n + d) _) = movedAll d (Sum.map id _ (toks f n _))
            rw [movedAll_map, show n + d - (p' + d) = n - p' from by omega, toks_shift d f]; rfl
theorem nul_app (t : B) : ∀ (l : B), nul (l ++ 10 :: t) = if nul l < l.length then nul l else l.length + 1 + nul t
  | [] => by simp only [nul]; rw [List.nil_append, List.idxOf_cons]; simp; omega
  | c :: r => by
    have ih := nul_app t r
    unfold nul at ih ⊢
    rw [List.cons_append, List.idxOf_cons, List.idxOf_cons, ih]
    by_cases h : c = 0
    · simp [h]
    · rw [show (c == 0) = false from by simpa using h]
      simp only [cond_false, List.length_cons]
      split
      · rw [if_pos (by omega)]
      · rw [if_neg (by omega)]; omega
/-- WHAT THE DOCUMENT SAYS OF TWO SCRIPTS. -/
theorem two (a b : B) (ts : List Tok) (p : Nat) (h : tokens a = (ts, p, 0)) (hc : Clean a) (hlen : (a ++ 10 :: b).length ≤ 16384) :
    tokens (a ++ 10 :: b) = if (tokens b).2.2 = 0 then (ts ++ ⟨1, [10], a.length⟩ :: (tokens b).1.map (moved (a.length + 1)), 0, 0) else ([], a.length + 1 + (tokens b).2.1, (tokens b).2.2) := by
  have hl : (a ++ 10 :: b).length = a.length + b.length + 1 := by simp; omega
  rw [tokens, if_neg (by omega)] at h
  cases hR : toks (a.length + 1) 0 a with
  | inl q => rw [hR] at h; simp at h
  | inr us =>
    rw [hR] at h
    simp only at h
    by_cases hn : nul a < a.length
    · rw [if_pos hn] at h; simp at h
    · rw [if_neg hn] at h
      obtain ⟨rfl, rfl, -⟩ : us = ts ∧ 0 = p ∧ True := by simpa using h
      have h1 := toks_app b ((a ++ 10 :: b).length + 1) (a.length + 1) 0 a us (by omega) hR hc (by omega)
      obtain ⟨F, hF⟩ : ∃ F, (a ++ 10 :: b).length + 1 = F + 1 := ⟨_, rfl⟩
      rw [hF] at h1
      rw [toks_line, Nat.zero_add, toks_fuel F (b.length + 1) _ b (by omega) (by omega), show a.length + 1 = 0 + (a.length + 1) from by omega, toks_shift] at h1
      rw [tokens, if_neg (by omega), hF, h1, nul_app, if_neg hn]
      have hb : tokens b = match toks (b.length + 1) 0 b with
          | .inl q => ([], min q (nul b), 63)
          | .inr ts => if nul b < b.length then ([], nul b, 63) else (ts, 0, 0) := by rw [tokens, if_neg (by omega)]; rfl
      have hnb := nul_le b
      cases hS : toks (b.length + 1) 0 b with
      | inl q =>
        rw [hS] at hb
        rw [hb]
        simp only [movedAll, Sum.map, behind]
        rw [if_neg (by decide)]
        simp; omega
      | inr vs =>
        rw [hS] at hb
        show (if a.length + 1 + nul b < (a ++ 10 :: b).length then (([] : List Tok), a.length + 1 + nul b, (63 : Int)) else (us ++ ⟨1, [10], a.length⟩ :: vs.map (moved (a.length + 1)), 0, 0)) = _
        by_cases hnb2 : nul b < b.length
        · have hb2 : tokens b = ([], nul b, 63) := hb.trans (if_pos hnb2)
          rw [hb2, if_pos (by omega)]; rfl
        · have hb2 : tokens b = (vs, 0, 0) := hb.trans (if_neg hnb2)
          rw [hb2, if_neg (by omega)]; rfl
/-- The first k tokens moved. -/
def mv (d : Nat) : Nat → List Tok → List Tok
  | 0, ts => ts
  | _ + 1, [] => []
  | k + 1, t :: ts => moved d t :: mv d k ts
theorem mv_len (d : Nat) : ∀ (k : Nat) (ts : List Tok), (mv d k ts).length = ts.length
  | 0, _ => rfl
  | _ + 1, [] => rfl
  | k + 1, t :: ts => by simp [mv, mv_len d k ts]
theorem mv_at (d : Nat) : ∀ (k : Nat) (ts : List Tok), (mv d k ts)[k]? = ts[k]?
  | 0, _ => rfl
  | _ + 1, [] => rfl
  | k + 1, t :: ts => by simp [mv, mv_at d k ts]
theorem mv_all (d : Nat) : ∀ (ts : List Tok), mv d ts.length ts = ts.map (moved d)
  | [] => rfl
  | t :: ts => by simp [mv, mv_all d ts]
/-- Tokens stand where they can. -/
theorem toks_where : ∀ (f p : Nat) (l : B) (ts : List Tok), toks f p l = .inr ts → ∀ t ∈ ts, t.at_ ≤ p + l.length
  | 0, _, _, _, h => by
    obtain rfl : [] = _ := Sum.inr.inj h
    intro t ht; cases ht
  | f + 1, p, l, ts, h => by
    rw [toks_gap] at h
    have hgl := gap_le l false
    have hdl : (l.drop (gap false l)).length = l.length - gap false l := by rw [List.length_drop]
    have hgg := gap_gap l
    rw [show p + l.length = (p + gap false l) + (l.drop (gap false l)).length from by omega]
    generalize l.drop (gap false l) = m at h hgg ⊢
    generalize p + gap false l = p' at h ⊢
    cases m with
    | nil =>
      rw [toks_nil] at h
      obtain rfl : [] = _ := Sum.inr.inj h
      intro t ht; cases ht
    | cons c r =>
      have hcl : (c :: r).length = r.length + 1 := rfl
      by_cases h10 : c = 10
      · subst h10
        rw [toks_line] at h
        obtain ⟨us, hu, rfl⟩ := map_inr h
        intro t ht
        rcases List.mem_cons.1 ht with rfl | ht
        · show p' ≤ _; omega
        · have := toks_where f _ _ us hu t ht; omega
      · by_cases ho : opc c = true
        · rw [toks_op _ _ _ _ ho] at h
          obtain ⟨us, hu, rfl⟩ := map_inr h
          have hl := op_len c r ho
          intro t ht
          rcases List.mem_cons.1 ht with rfl | ht
          · show p' ≤ _; omega
          · have := toks_where f _ _ us hu t ht
            rw [List.length_drop] at this; omega
        · have ho : opc c = false := by simpa using ho
          rw [toks_word _ _ _ _ hgg ho h10] at h
          have hw := word_bounds (c :: r) p'
          generalize word 0 p' 0 (c :: r) = x at h hw
          obtain ⟨n, ok⟩ := x
          cases ok with
          | false => cases h
          | true =>
            have h1 := hw.1 rfl
            simp only at h1
            obtain ⟨us, hu, rfl⟩ := map_inr h
            intro t ht
            rcases List.mem_cons.1 ht with rfl | ht
            · show p' ≤ _; omega
            · have := toks_where f _ _ us hu t ht
              rw [List.length_drop] at this; omega
theorem tokens_where (l : B) : ∀ t ∈ (tokens l).1, t.at_ ≤ l.length := by
  unfold tokens
  split
  · intro t ht; cases ht
  · cases h : toks (l.length + 1) 0 l with
    | inl q => intro t ht; cases ht
    | inr ts =>
      have := toks_where _ _ _ _ h
      simp only
      split
      · intro t ht; cases ht
      · intro t ht; have := this t ht; omega

theorem tokens_place (l : B) : (tokens l).2.1 ≤ l.length := by
  unfold tokens
  split
  · simp
  · have := nul_le l
    cases h : toks (l.length + 1) 0 l with
    | inl q => simp only; omega
    | inr ts => simp only; split <;> simp <;> omega

end Go.Proofs.YtlingnajbhlpdaaDoor.Lx
