/- What lex.Tokens answers, as plain functions over lists of bytes; and what follows from them. Nothing of the program is imported here. -/
import Derived.Lib.Bytealg
namespace Go.Proofs.YtlingnajbhlpdaaDoor.Lx
abbrev B := List UInt8

/-- A blank; a byte that begins an operator; a byte at which a word ends. -/
def blank (c : UInt8) : Bool := c == 32 || c == 9
def opc (c : UInt8) : Bool := c == 38 || c == 124 || c == 59 || c == 60 || c == 62 || c == 40 || c == 41
def dbl (c : UInt8) : Bool := c == 38 || c == 124 || c == 59 || c == 60 || c == 62
def stop (c : UInt8) : Bool := blank c || c == 10 || opc c
/-- The operator at a list's head. -/
def op : B → B
  | [] => []
  | [c] => if opc c then [c] else []
  | c :: d :: _ => if opc c then (if dbl c && d == c then [c, c] else [c]) else []
/-- How many bytes of a remark, and of what is passed over ahead of a token. -/
def gap : Bool → B → Nat
  | _, [] => 0
  | true, c :: r => if c == 10 then 0 else 1 + gap true r
  | false, [c] => if blank c then 1 else if c == 35 then 1 else 0
  | false, c :: d :: r => if blank c then 1 + gap false (d :: r) else if c == 92 && d == 10 then 2 + gap false r else if c == 35 then 1 + gap true (d :: r) else 0
/-- A word, from the place i on: its end and true, or the place of its quote that does not end and false. m: 0 outside of quotes, 1 in single ones, 2 in double ones, which began at q. -/
def word : Nat → Nat → Nat → B → Nat × Bool
  | 0, i, _, [] => (i, true)
  | _ + 1, _, q, [] => (q, false)
  | 0, i, _, [c] => if stop c then (i, true) else if c == 92 then (i + 1, true) else if c == 39 || c == 34 then (i, false) else (i + 1, true)
  | 0, i, q, c :: d :: r => if stop c then (i, true) else if c == 92 then word 0 (i + 2) q r
      else if c == 39 then word 1 (i + 1) i (d :: r) else if c == 34 then word 2 (i + 1) i (d :: r) else word 0 (i + 1) q (d :: r)
  | 1, i, q, c :: r => if c == 39 then word 0 (i + 1) 0 r else word 1 (i + 1) q r
  | _ + 2, i, q, [c] => if c == 34 then (i + 1, true) else (q, false)
  | _ + 2, i, q, c :: d :: r => if c == 34 then word 0 (i + 1) 0 (d :: r) else if c == 92 then word 2 (i + 2) q r else word 2 (i + 1) q (d :: r)

structure Tok where
  kind : UInt8
  text : B
  at_ : Nat

def kindOf (t : B) : UInt8 := if t == [33] || t == [123] || t == [125] then 2 else 3
/-- The tokens of a list whose first byte is at p: or the place of a quote that does not end. -/
def toks : Nat → Nat → B → Sum Nat (List Tok)
  | 0, _, _ => .inr []
  | f + 1, p, l =>
    match l.drop (gap false l) with
    | [] => .inr []
    | c :: r =>
      if c == 10 then (toks f (p + gap false l + 1) r).map id (⟨1, [10], p + gap false l⟩ :: ·)
      else if opc c then (toks f (p + gap false l + (op (c :: r)).length) ((c :: r).drop (op (c :: r)).length)).map id (⟨2, op (c :: r), p + gap false l⟩ :: ·)
      else match word 0 (p + gap false l) 0 (c :: r) with
        | (n, false) => .inl n
        | (n, true) => (toks f n ((c :: r).drop (n - (p + gap false l)))).map id (⟨kindOf ((c :: r).take (n - (p + gap false l))), (c :: r).take (n - (p + gap false l)), p + gap false l⟩ :: ·)
def nul (l : B) : Nat := l.idxOf 0
/-- What Tokens answers: tokens, a place, an error. -/
def tokens (l : B) : List Tok × Nat × Int :=
  if 16384 < l.length then ([], 0, 40)
  else match toks (l.length + 1) 0 l with
    | .inl q => ([], min q (nul l), 63)
    | .inr ts => if nul l < l.length then ([], nul l, 63) else (ts, 0, 0)

example : (match tokens [97, 38, 38, 98, 32, 35, 99] with | (ts, p, e) => (ts.map (fun t => (t.kind, t.text, t.at_)), p, e)) = ([(3, [97], 0), (2, [38, 38], 1), (3, [98], 3)], 0, 0) := by decide
example : (match tokens [120, 39, 121] with | (ts, p, e) => (ts.map (fun t => (t.kind, t.text, t.at_)), p, e)) = ([], 1, 63) := by decide
theorem at_cons (s : ByteArray) (j : Nat) (h : j < s.size) : s.data.toList.drop j = s[j] :: s.data.toList.drop (j + 1) := by
  rw [List.drop_eq_getElem_cons (by simpa using h)]; rfl
theorem at_end (s : ByteArray) (j : Nat) (h : s.size ≤ j) : s.data.toList.drop j = [] := List.drop_of_length_le (by simpa using h)
theorem u8 {b : UInt8} {n : Nat} (c : UInt8) (h : (b.toNat : Int) = n) (hc : c.toNat = n) : b = c := UInt8.toNat_inj.1 (by omega)
theorem beq8 (b c : UInt8) : (b == c) = decide ((b.toNat : Int) = (c.toNat : Int)) := by
  rw [Bool.eq_iff_iff]; simp only [beq_iff_eq, decide_eq_true_eq]; constructor
  · rintro rfl; rfl
  · intro h; exact UInt8.toNat_inj.1 (by omega)

theorem gap_nil (m : Bool) : gap m [] = 0 := by cases m <;> rfl
theorem gap_true (c : UInt8) (r : B) : gap true (c :: r) = if c == 10 then 0 else 1 + gap true r := by cases r <;> simp [gap]
theorem gap_blank {c : UInt8} {r : B} (h : blank c = true) : gap false (c :: r) = 1 + gap false r := by
  cases r with
  | nil => simp [gap, h]
  | cons d r => simp [gap, h]
theorem gap_line {r : B} : gap false (92 :: 10 :: r) = 2 + gap false r := by simp [gap, show blank 92 = false from rfl]
theorem gap_rem {r : B} : gap false (35 :: r) = 1 + gap true r := by cases r <;> simp [gap, show blank 35 = false from rfl]
theorem gap_none {c : UInt8} {r : B} (h : blank c = false) (h2 : ¬ (c = 92 ∧ r.head? = some 10)) (h3 : c ≠ 35) : gap false (c :: r) = 0 := by
  cases r with
  | nil => simp [gap, h, h3]
  | cons d r =>
    have : (c == 92 && d == 10) = false := by
      rw [Bool.eq_false_iff]; intro hh; simp at hh; exact h2 ⟨hh.1, by simp [hh.2]⟩
    simp [gap, h, h3, this]
theorem gap_le : ∀ (l : B) (m : Bool), gap m l ≤ l.length
  | [], m => by rw [gap_nil]; exact Nat.zero_le _
  | [c], m => by
    cases m
    · simp only [gap]; split
      · simp
      · split <;> simp
    · rw [gap_true, gap_nil]; split <;> simp
  | c :: d :: r, m => by
    have h1 := gap_le (d :: r) m
    have h1' := gap_le (d :: r) true
    have h2 := gap_le r m
    cases m
    · simp only [gap, List.length_cons] at *; split
      · omega
      · split
        · omega
        · split <;> omega
    · rw [gap_true]; simp only [List.length_cons] at *; split <;> omega
theorem gap_index : ∀ l : B, (gap true l : Int) = if Lib.indexByte l 10 = -1 then (l.length : Int) else Lib.indexByte l 10
  | [] => by rw [gap_nil]; simp [Lib.indexByte]
  | c :: r => by
    have ih := gap_index r
    have hg := Lib.indexByte_ge r 10
    rw [gap_true, Lib.indexByte]
    by_cases h : c = 10
    · simp [h]
    · simp only [beq_iff_eq, h, if_false, List.length_cons]
      by_cases h2 : Lib.indexByte r 10 = -1
      · rw [if_pos h2] at ih; simp [h2]; omega
      · rw [if_neg h2] at ih; simp only [h2, if_false]; rw [if_neg (by omega)]; omega

theorem gap_ten (r : B) : gap false (10 :: r) = 0 := by cases r <;> simp [gap, show blank 10 = false from rfl]
theorem gap_after : ∀ l : B, gap false (l.drop (gap true l)) = 0
  | [] => rfl
  | c :: r => by
    rw [gap_true]
    by_cases h : c = 10
    · subst h; exact gap_ten r
    · rw [if_neg (by simpa using h), Nat.add_comm, List.drop_succ_cons]; exact gap_after r

theorem w_nil (m i q : Nat) : word (m + 1) i q [] = (q, false) := by cases m <;> rfl
theorem w_end (i q : Nat) : word 0 i q [] = (i, true) := rfl
theorem w_stop {c : UInt8} (i q : Nat) (r : B) (h : stop c = true) : word 0 i q (c :: r) = (i, true) := by cases r <;> simp [word, h]
theorem w_esc (i q : Nat) (r : B) : word 0 i q (92 :: r) = word 0 (min (i + 2) (i + 1 + r.length)) q (r.drop 1) := by
  cases r with
  | nil => simp [word, show stop 92 = false from rfl]
  | cons d r => rw [show min (i + 2) (i + 1 + (d :: r).length) = i + 2 from by simp; omega]; simp [word, show stop 92 = false from rfl]
theorem w_single (i q : Nat) (r : B) : word 0 i q (39 :: r) = word 1 (i + 1) i r := by cases r <;> simp [word, show stop 39 = false from rfl]
theorem w_double (i q : Nat) (r : B) : word 0 i q (34 :: r) = word 2 (i + 1) i r := by cases r <;> simp [word, show stop 34 = false from rfl]
theorem w_other {c : UInt8} (i q : Nat) (r : B) (h : stop c = false) (h1 : c ≠ 92) (h2 : c ≠ 39) (h3 : c ≠ 34) : word 0 i q (c :: r) = word 0 (i + 1) q r := by
  cases r <;> simp [word, h, h1, h2, h3]
theorem w1_cons (i q : Nat) (c : UInt8) (r : B) : word 1 i q (c :: r) = if c == 39 then word 0 (i + 1) 0 r else word 1 (i + 1) q r := by cases r <;> rfl
theorem w2_end (i q : Nat) (r : B) : word 2 i q (34 :: r) = word 0 (i + 1) 0 r := by cases r <;> simp [word]
theorem w2_esc (i q : Nat) (r : B) : word 2 i q (92 :: r) = word 2 (i + 2) q (r.drop 1) := by cases r <;> simp [word]
theorem w2_other {c : UInt8} (i q : Nat) (r : B) (h1 : c ≠ 34) (h2 : c ≠ 92) : word 2 i q (c :: r) = word 2 (i + 1) q r := by cases r <;> simp [word, h1, h2]
theorem w1_index : ∀ (l : B) (i q : Nat), word 1 i q l = if Lib.indexByte l 39 = -1 then (q, false) else word 0 (i + (Lib.indexByte l 39).toNat + 1) 0 (l.drop ((Lib.indexByte l 39).toNat + 1))
  | [], i, q => by rw [w_nil]; simp [Lib.indexByte]
  | c :: r, i, q => by
    have ih := w1_index r (i + 1) q
    have hg := Lib.indexByte_ge r 39
    rw [w1_cons, Lib.indexByte]
    by_cases h : c = 39
    · simp [h]
    · simp only [beq_iff_eq, h, if_false]
      rw [ih]
      by_cases h2 : Lib.indexByte r 39 = -1
      · simp [h2]
      · simp only [h2, if_false]; rw [if_neg (by omega), show (Lib.indexByte r 39 + 1).toNat = (Lib.indexByte r 39).toNat + 1 from by omega, List.drop_succ_cons]
        congr 1; omega
theorem index_lt : ∀ (l : B) (c : UInt8), Lib.indexByte l c < l.length
  | [], _ => by simp [Lib.indexByte]
  | b :: r, c => by
    have ih := index_lt r c
    rw [Lib.indexByte, List.length_cons]
    split
    · omega
    · split <;> omega
theorem stop_eq {c : UInt8} (h : stop c = true) : c ≠ 92 ∧ c ≠ 39 ∧ c ≠ 34 := by
  refine ⟨?_, ?_, ?_⟩ <;> (rintro rfl; revert h; decide)

theorem gap_gap : ∀ l : B, gap false (l.drop (gap false l)) = 0
  | [] => rfl
  | [c] => by
    by_cases h : blank c = true
    · rw [gap_blank h]; rfl
    · by_cases h3 : c = 35
      · subst h3; rfl
      · rw [gap_none (by simpa using h) (by simp) h3]; exact gap_none (by simpa using h) (by simp) h3
  | c :: d :: r => by
    by_cases h : blank c = true
    · rw [gap_blank h, Nat.add_comm, List.drop_succ_cons]; exact gap_gap (d :: r)
    · by_cases h2 : c = 92 ∧ d = 10
      · obtain ⟨rfl, rfl⟩ := h2
        rw [gap_line, Nat.add_comm]; exact gap_gap r
      · by_cases h3 : c = 35
        · subst h3
          rw [gap_rem, Nat.add_comm, List.drop_succ_cons]; exact gap_after (d :: r)
        · have : gap false (c :: d :: r) = 0 := gap_none (by simpa using h) (by simpa using h2) h3
          rw [this]; exact this
theorem toks_nil (f p : Nat) : toks f p [] = .inr [] := by cases f <;> rfl
theorem toks_gap (f p : Nat) (l : B) : toks f p l = toks f (p + gap false l) (l.drop (gap false l)) := by
  cases f with
  | zero => rfl
  | succ f => rw [toks, toks, gap_gap]; rfl
theorem opc_cases {c : UInt8} (h : opc c = true) : blank c = false ∧ c ≠ 92 ∧ c ≠ 35 ∧ c ≠ 10 := by
  refine ⟨?_, ?_, ?_, ?_⟩
  · rw [Bool.eq_false_iff]; intro hb
    simp only [blank, Bool.or_eq_true, beq_iff_eq] at hb
    rcases hb with rfl | rfl <;> (revert h; decide)
  all_goals (rintro rfl; revert h; decide)
theorem toks_line (f p : Nat) (r : B) : toks (f + 1) p (10 :: r) = (toks f (p + 1) r).map id (⟨1, [10], p⟩ :: ·) := by
  rw [toks, gap_ten]; rfl
theorem toks_op (f p : Nat) (c : UInt8) (r : B) (h : opc c = true) :
    toks (f + 1) p (c :: r) = (toks f (p + (op (c :: r)).length) ((c :: r).drop (op (c :: r)).length)).map id (⟨2, op (c :: r), p⟩ :: ·) := by
  have hc := opc_cases h
  have h0 : gap false (c :: r) = 0 := gap_none hc.1 (fun hh => hc.2.1 hh.1) hc.2.2.1
  rw [toks, h0]
  simp [h, hc.2.2.2]
theorem toks_word (f p : Nat) (c : UInt8) (r : B) (h0 : gap false (c :: r) = 0) (h : opc c = false) (h10 : c ≠ 10) :
    toks (f + 1) p (c :: r) = match word 0 p 0 (c :: r) with
        | (n, false) => .inl n
        | (n, true) => (toks f n ((c :: r).drop (n - p))).map id (⟨kindOf ((c :: r).take (n - p)), (c :: r).take (n - p), p⟩ :: ·) := by
  rw [toks, h0]
  simp only [List.drop_zero, Nat.add_zero]
  rw [if_neg (by simpa using h10), if_neg (by simpa using h)]

/-- What a word comes to lies where it can. -/
def Fits (i k : Nat) (x : Nat × Bool) : Prop := (x.2 = true → i ≤ x.1 ∧ x.1 ≤ i + k) ∧ (x.2 = false → x.1 < i + k)
theorem Fits.more {i k i' k' : Nat} {x : Nat × Bool} (h : Fits i k x) (h1 : i' ≤ i) (h2 : i + k ≤ i' + k') : Fits i' k' x :=
  ⟨fun hx => by have := h.1 hx; omega, fun hx => by have := h.2 hx; omega⟩
theorem word_fits (n : Nat) : ∀ (l : B) (m i q : Nat), l.length ≤ n → m ≤ 2 → (q < i ∨ m = 0) → Fits i l.length (word m i q l) := by
  induction n with
  | zero =>
    intro l m i q hl _ hq
    obtain rfl : l = [] := List.length_eq_zero_iff.1 (by omega)
    cases m with
    | zero => exact ⟨fun _ => ⟨Nat.le_refl _, Nat.le_refl _⟩, fun h => by cases h⟩
    | succ m => rw [w_nil]; exact ⟨fun h => (by cases h), fun _ => by simp; omega⟩
  | succ n ih =>
    intro l m i q hl hm hq
    cases l with
    | nil =>
      cases m with
      | zero => exact ⟨fun _ => ⟨Nat.le_refl _, Nat.le_refl _⟩, fun h => by cases h⟩
      | succ m => rw [w_nil]; exact ⟨fun h => (by cases h), fun _ => by simp; omega⟩
    | cons c r =>
      simp only [List.length_cons] at hl ⊢
      have hd : (r.drop 1).length = r.length - 1 := by simp
      match m, hm with
      | 0, _ =>
        by_cases hs : stop c = true
        · rw [w_stop _ _ _ hs]; exact ⟨fun _ => ⟨Nat.le_refl _, by simp⟩, fun h => by cases h⟩
        · by_cases h1 : c = 92
          · subst h1
            rw [w_esc]
            exact (ih (r.drop 1) 0 _ q (by omega) (by omega) (.inr rfl)).more (by omega) (by omega)
          · by_cases h2 : c = 39
            · subst h2; rw [w_single]; exact (ih r 1 (i + 1) i (by omega) (by omega) (.inl (by omega))).more (by omega) (by omega)
            · by_cases h3 : c = 34
              · subst h3; rw [w_double]; exact (ih r 2 (i + 1) i (by omega) (by omega) (.inl (by omega))).more (by omega) (by omega)
              · rw [w_other _ _ _ (by simpa using hs) h1 h2 h3]; exact (ih r 0 (i + 1) q (by omega) (by omega) (.inr rfl)).more (by omega) (by omega)
      | 1, _ =>
        rw [w1_cons]; split
        · exact (ih r 0 (i + 1) 0 (by omega) (by omega) (.inr rfl)).more (by omega) (by omega)
        · exact (ih r 1 (i + 1) q (by omega) (by omega) (.inl (by omega))).more (by omega) (by omega)
      | 2, _ =>
        by_cases h1 : c = 34
        · subst h1; rw [w2_end]; exact (ih r 0 (i + 1) 0 (by omega) (by omega) (.inr rfl)).more (by omega) (by omega)
        · by_cases h2 : c = 92
          · subst h2; rw [w2_esc]
            cases r with
            | nil => rw [List.drop_nil, w_nil]; exact ⟨fun h => (by cases h), fun _ => by simp; omega⟩
            | cons d r =>
              refine (ih r 2 (i + 2) q (by simp at hl; omega) (by omega) (.inl (by omega))).more (by omega) (by simp; omega)
          · rw [w2_other _ _ _ h1 h2]; exact (ih r 2 (i + 1) q (by omega) (by omega) (.inl (by omega))).more (by omega) (by omega)
      | m + 3, h => omega
theorem word_bounds (l : B) (i : Nat) : Fits i l.length (word 0 i 0 l) := word_fits l.length l 0 i 0 (Nat.le_refl _) (by omega) (.inr rfl)
theorem word_pos {c : UInt8} (i : Nat) (r : B) (hs : stop c = false) (h : (word 0 i 0 (c :: r)).2 = true) : i < (word 0 i 0 (c :: r)).1 := by
  have w1 := word_fits r.length r 1 (i + 1) i (Nat.le_refl _) (by omega) (.inl (by omega))
  have w2 := word_fits r.length r 2 (i + 1) i (Nat.le_refl _) (by omega) (.inl (by omega))
  have w0 := word_bounds r (i + 1)
  have we := word_bounds (r.drop 1) (min (i + 2) (i + 1 + r.length))
  by_cases h1 : c = 92
  · subst h1; rw [w_esc] at h ⊢; have := (we.1 h).1; omega
  · by_cases h2 : c = 39
    · subst h2; rw [w_single] at h ⊢; have := (w1.1 h).1; omega
    · by_cases h3 : c = 34
      · subst h3; rw [w_double] at h ⊢; have := (w2.1 h).1; omega
      · rw [w_other _ _ _ hs h1 h2 h3] at h ⊢; have := (w0.1 h).1; omega
theorem op_len (c : UInt8) (r : B) (h : opc c = true) : 1 ≤ (op (c :: r)).length ∧ (op (c :: r)).length ≤ (c :: r).length := by
  cases r with
  | nil => simp [op, h]
  | cons d r => simp only [op, h, if_true]; split <;> simp

theorem map_inl {α β : Type} {f : α → β} {x : Sum Nat α} {q : Nat} (h : x.map id f = .inl q) : x = .inl q := by
  cases x with
  | inl y => simpa [Sum.map] using h
  | inr y => cases h
theorem toks_lt : ∀ (f p : Nat) (l : B) (q : Nat), toks f p l = .inl q → q < p + l.length
  | 0, _, _, _, h => by cases h
  | f + 1, p, l, q, h => by
    rw [toks_gap] at h
    have hgl := gap_le l false
    have hdl : (l.drop (gap false l)).length = l.length - gap false l := List.length_drop
    have hgg := gap_gap l
    generalize l.drop (gap false l) = m at h hdl hgg
    suffices hq : q < (p + gap false l) + m.length by omega
    generalize p + gap false l = p' at h ⊢
    cases m with
    | nil => rw [toks_nil] at h; cases h
    | cons c r =>
      by_cases h10 : c = 10
      · subst h10
        rw [toks_line] at h
        have := toks_lt f _ _ q (map_inl h)
        simp only [List.length_cons]; omega
      · by_cases ho : opc c = true
        · rw [toks_op _ _ _ _ ho] at h
          have := toks_lt f _ _ q (map_inl h)
          have hl := op_len c r ho
          rw [List.length_drop] at this
          omega
        · have ho : opc c = false := by simpa using ho
          rw [toks_word _ _ _ _ hgg ho h10] at h
          have hw := word_bounds (c :: r) p'
          generalize word 0 p' 0 (c :: r) = x at h hw
          obtain ⟨n, ok⟩ := x
          cases ok with
          | false =>
            have : n = q := by simpa using h
            subst this
            exact hw.2 rfl
          | true =>
            have h1 := hw.1 rfl
            have := toks_lt f _ _ q (map_inl h)
            rw [List.length_drop] at this
            simp only at h1
            omega
theorem nul_le (l : B) : nul l ≤ l.length := List.idxOf_le_length

end Go.Proofs.YtlingnajbhlpdaaDoor.Lx
