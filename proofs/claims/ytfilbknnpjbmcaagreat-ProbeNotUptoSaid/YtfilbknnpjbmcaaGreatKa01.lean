/- The steps of a path, and a path cleaned, as lists of bytes. No program. -/
import Derived.Test.YtfilbknnpjbmcaaGreatRows
import Derived.Lib.Hide
import Derived.Lib.Strings
import Derived.Laws.Rows
namespace Go.Proofs.YtfilbknnpjbmcaaGreat
open Go
namespace Px
abbrev B := List UInt8

/-- What stands between the slashes. -/
def pieces : B → List B
  | [] => [[]]
  | c :: l => if c = 47 then [] :: pieces l else
    match pieces l with
    | p :: r => (c :: p) :: r
    | [] => [[c]]
def good (p : B) : Bool := !(p == []) && !(p == [46])
def stepsL (s : B) : List B := (pieces s).filter good
def cleanStep (out : List B) (p : B) : List B := if p = [46, 46] then out.dropLast else out ++ [p]
def cleanL (ps : List B) : List B := ps.foldl cleanStep []

theorem pieces_ne (s : B) : pieces s ≠ [] := by
  cases s with
  | nil => simp [pieces]
  | cons c l =>
    unfold pieces
    split
    · simp
    · split <;> simp
theorem pieces_join : ∀ a b : B, pieces (a ++ 47 :: b) = pieces a ++ pieces b
  | [], b => by
    simp [pieces]
  | c :: a, b => by
    rw [List.cons_append, pieces, pieces, pieces_join a b]
    split
    · rfl
    · cases h : pieces a with
      | nil => exact absurd h (pieces_ne a)
      | cons p r => rfl
theorem pieces_none : ∀ a : B, (∀ x ∈ a, x ≠ 47) → pieces a = [a]
  | [], _ => rfl
  | c :: a, h => by
    rw [pieces, if_neg (h c (by simp)), pieces_none a (fun x hx => h x (by simp [hx]))]
theorem pieces_free : ∀ a : B, ∀ p ∈ pieces a, ∀ x ∈ p, x ≠ 47
  | [], p, hp, x, hx => by
    obtain rfl : p = [] := by simpa [pieces] using hp
    cases hx
  | c :: a, p, hp, x, hx => by
    have ih := pieces_free a
    unfold pieces at hp
    split at hp
    · rcases List.mem_cons.1 hp with rfl | hp
      · cases hx
      · exact ih p hp x hx
    · rename_i hc
      cases h : pieces a with
      | nil => exact absurd h (pieces_ne a)
      | cons q r =>
        rw [h] at hp ih
        rcases List.mem_cons.1 hp with rfl | hp
        · rcases List.mem_cons.1 hx with rfl | hx
          · exact hc
          · exact ih q (by simp) x hx
        · exact ih p (by simp [hp]) x hx
theorem pieces_len : ∀ a : B, (pieces a).length ≤ a.length + 1
  | [] => by simp [pieces]
  | c :: a => by
    have := pieces_len a
    unfold pieces
    split
    · simpa using this
    · cases h : pieces a with
      | nil => exact absurd h (pieces_ne a)
      | cons q r =>
        rw [h] at this
        simp at this ⊢
        omega
theorem pieces_size : ∀ a : B, ∀ p ∈ pieces a, p.length ≤ a.length
  | [], p, hp => by
    obtain rfl : p = [] := by simpa [pieces] using hp
    simp
  | c :: a, p, hp => by
    have ih := pieces_size a
    unfold pieces at hp
    split at hp
    · rcases List.mem_cons.1 hp with rfl | hp
      · simp
      · have := ih p hp
        simp; omega
    · cases h : pieces a with
      | nil => exact absurd h (pieces_ne a)
      | cons q r =>
        rw [h] at hp ih
        rcases List.mem_cons.1 hp with rfl | hp
        · have := ih q (by simp)
          simp; omega
        · have := ih p (by simp [hp])
          simp; omega
theorem steps_join (a b : B) : stepsL (a ++ 47 :: b) = stepsL a ++ stepsL b := by
  unfold stepsL
  rw [pieces_join, List.filter_append]
theorem steps_one {p : B} (h : ∀ x ∈ p, x ≠ 47) (hg : good p = true) : stepsL p = [p] := by
  unfold stepsL
  rw [pieces_none p h]
  simp [hg]
theorem steps_bad {p : B} (h : ∀ x ∈ p, x ≠ 47) (hg : good p = false) : stepsL p = [] := by
  unfold stepsL
  rw [pieces_none p h]
  simp [hg]
theorem steps_mem {s p : B} (h : p ∈ stepsL s) : (∀ x ∈ p, x ≠ 47) ∧ good p = true ∧ p.length ≤ s.length := by
  unfold stepsL at h
  rw [List.mem_filter] at h
  exact ⟨pieces_free s p h.1, h.2, pieces_size s p h.1⟩
theorem steps_len (s : B) : (stepsL s).length ≤ s.length + 1 := by
  unfold stepsL
  exact Nat.le_trans (List.length_filter_le _ _) (pieces_len s)
theorem steps_nil : stepsL [] = [] := rfl

/-- Steps joined again: /a/b. -/
def joined : List B → B
  | [] => []
  | p :: l => 47 :: (p ++ joined l)
theorem joined_append : ∀ l r, joined (l ++ r) = joined l ++ joined r
  | [], r => rfl
  | p :: l, r => by
    rw [List.cons_append, joined, joined, joined_append l r]
    simp
/-- What a text and more steps behind it come to. -/
theorem steps_more {ps : List B} : ∀ (a : B), (∀ p ∈ ps, (∀ x ∈ p, x ≠ 47) ∧ good p = true) → stepsL (a ++ joined ps) = stepsL a ++ ps := by
  induction ps with
  | nil => intro a _; simp [joined]
  | cons p l ih =>
    intro a h
    rw [joined, show a ++ 47 :: (p ++ joined l) = (a ++ 47 :: p) ++ joined l by simp, ih _ (fun q hq => h q (by simp [hq])), steps_join, steps_one (h p (by simp)).1 (h p (by simp)).2]
    simp
/-- A tie: dots of one, each with a slash; perhaps one slash more. -/
def tieL : Nat → Bool → B
  | 0, m => if m then [47] else []
  | n + 1, m => 46 :: 47 :: tieL n m
theorem steps_tie (a : B) (p : B) (m : Bool) : ∀ n, stepsL (a ++ 47 :: (tieL n m ++ p)) = stepsL a ++ stepsL p
  | 0 => by
    rw [steps_join]
    cases m with
    | false => rfl
    | true =>
      show stepsL a ++ stepsL ([] ++ 47 :: p) = _
      rw [steps_join]
      rfl
  | n + 1 => by
    have := steps_tie [46] p m n
    rw [steps_join]
    show stepsL a ++ stepsL ([46] ++ 47 :: (tieL n m ++ p)) = _
    rw [this]
    rfl
theorem tieL_snoc : ∀ n, tieL n false ++ [46, 47] = tieL (n + 1) false
  | 0 => rfl
  | n + 1 => by
    rw [tieL, List.cons_append, List.cons_append, tieL_snoc n]
    rfl
theorem tieL_more : ∀ n, tieL n false ++ [47] = tieL n true
  | 0 => rfl
  | n + 1 => by
    rw [tieL, List.cons_append, List.cons_append, tieL_more n]
    rfl
theorem tieL_len : ∀ n m, (tieL n m).length ≤ 2 * n + 1
  | 0, m => by cases m <;> simp [tieL]
  | n + 1, m => by
    have := tieL_len n m
    simp [tieL]
    omega
theorem cleanL_snoc (l : List B) (p : B) : cleanL (l ++ [p]) = cleanStep (cleanL l) p := by
  unfold cleanL
  rw [List.foldl_append]
  rfl
theorem cleanStep_len (l : List B) (p : B) : (cleanStep l p).length ≤ l.length + 1 := by
  unfold cleanStep
  split
  · rw [List.length_dropLast]; omega
  · simp
theorem cleanL_len (l : List B) : (cleanL l).length ≤ l.length := by
  have key : ∀ (l r : List B), (l.foldl cleanStep r).length ≤ r.length + l.length := by
    intro l
    induction l with
    | nil => intro r; simp
    | cons p l ih =>
      intro r
      have h1 := ih (cleanStep r p)
      have h2 := cleanStep_len r p
      simp only [List.foldl_cons, List.length_cons]
      omega
  have := key l []
  simpa [cleanL] using this
theorem cleanL_plain {l : List B} (h : ∀ p ∈ l, p ≠ [46, 46]) : cleanL l = l := by
  have key : ∀ (l r : List B), (∀ p ∈ l, p ≠ [46, 46]) → l.foldl cleanStep r = r ++ l := by
    intro l
    induction l with
    | nil => intro r _; simp
    | cons p l ih =>
      intro r h
      rw [List.foldl_cons, ih _ (fun q hq => h q (by simp [hq])), cleanStep, if_neg (h p (by simp))]
      simp
  simpa [cleanL] using key l [] h
/-- Is a text a name? -/
def nameL (s : B) : Bool := !(s == []) && !(s == [46]) && !(s == [46, 46]) && decide (s.length ≤ 64) && s.all fun c => !(c == 0) && !(c == 47) && !(c == 10)
theorem name_good {p : B} (h : nameL p = true) : (∀ x ∈ p, x ≠ 47) ∧ good p = true ∧ p ≠ [46, 46] := by
  unfold nameL at h
  simp only [Bool.and_eq_true, List.all_eq_true, Bool.not_eq_true', decide_eq_true_eq] at h
  obtain ⟨⟨⟨⟨h1, h2⟩, h3⟩, _⟩, h5⟩ := h
  refine ⟨fun x hx => ?_, ?_, ?_⟩
  · have := (h5 x hx).1.2
    simpa using this
  · unfold good
    rw [h1, h2]
    rfl
  · simpa using h3
/-- A place of names, shown and cleaned, is the place. -/
theorem clean_show {l : List B} (h : ∀ p ∈ l, nameL p = true) : cleanL (stepsL (if l.length = 0 then [47] else joined l)) = l := by
  have h1 : stepsL (if l.length = 0 then [47] else joined l) = l := by
    split
    · rename_i h0
      rw [List.length_eq_zero_iff.1 h0]
      rfl
    · have := steps_more [] (fun p hp => ⟨(name_good (h p hp)).1, (name_good (h p hp)).2.1⟩)
      rw [List.nil_append, steps_nil, List.nil_append] at this
      exact this
  rw [h1, cleanL_plain fun p hp => (name_good (h p hp)).2.2]
end Px
end Go.Proofs.YtfilbknnpjbmcaaGreat
