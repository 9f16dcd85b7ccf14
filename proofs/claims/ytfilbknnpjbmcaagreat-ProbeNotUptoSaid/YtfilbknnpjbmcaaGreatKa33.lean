/- Paths through a tree, links too, as data: what a way leads to. No program. -/
import Derived.Test.YtfilbknnpjbmcaaGreatKa31
namespace Go.Proofs.YtfilbknnpjbmcaaGreat
open Go.RowKit Px Nx
namespace Wk

/-- Where a way ends: a place and what stands there, or an error. -/
inductive Out where
  | ok (place : List ByteArray) (kind : UInt8)
  | err (e : Int)
def dots : ByteArray := ⟨#[46, 46]⟩
def kindAt (n : Nd) (p : List ByteArray) : UInt8 := ((n.at_ p).getD absent).kind
def textAt (n : Nd) (p : List ByteArray) : ByteArray := ((n.at_ p).getD absent).text
/-- Does a way end at a name behind which that kind stands? (fo: a link at the end is followed; a: a directory is asked for.) -/
def endsD (fo a : Bool) (k : UInt8) : Bool := if k = 0 then true else if k = 3 then !fo && !a else !a
/-- A way goes on from a name, if there are more steps, or it does not end there. -/
def GoesOn (fo a : Bool) (k : UInt8) (r : List ByteArray) : Prop := r ≠ [] ∨ endsD fo a k = false
variable (n : Nd) (st : ByteArray → List ByteArray) (dr ab : ByteArray → Bool)
/-- A way from a place on: steps that are left, links followed, whether a directory is asked for; where it ends. -/
inductive Run (fo : Bool) : List ByteArray → List ByteArray → Nat → Bool → Out → Prop where
  | done (at_ : List ByteArray) (j : Nat) (a : Bool) : Run fo at_ [] j a (.ok at_ 2)
  | up (at_ r : List ByteArray) (j : Nat) (a : Bool) (o : Out) : Run fo at_.dropLast r j a o → Run fo at_ (dots :: r) j a o
  | ends (at_ : List ByteArray) (s : ByteArray) (j : Nat) (a : Bool) : s ≠ dots → endsD fo a (kindAt n (at_ ++ [s])) = true → Run fo at_ [s] j a (.ok (at_ ++ [s]) (kindAt n (at_ ++ [s])))
  | none (at_ : List ByteArray) (s : ByteArray) (r : List ByteArray) (j : Nat) (a : Bool) : s ≠ dots → GoesOn fo a (kindAt n (at_ ++ [s])) r → kindAt n (at_ ++ [s]) = 0 → Run fo at_ (s :: r) j a (.err 5)
  | dir (at_ : List ByteArray) (s : ByteArray) (r : List ByteArray) (j : Nat) (a : Bool) (o : Out) : s ≠ dots → GoesOn fo a (kindAt n (at_ ++ [s])) r → kindAt n (at_ ++ [s]) = 2 → Run fo (at_ ++ [s]) r j a o → Run fo at_ (s :: r) j a o
  | loop (at_ : List ByteArray) (s : ByteArray) (r : List ByteArray) (j : Nat) (a : Bool) : s ≠ dots → GoesOn fo a (kindAt n (at_ ++ [s])) r → kindAt n (at_ ++ [s]) = 3 → j = 8 → Run fo at_ (s :: r) j a (.err 61)
  | link (at_ : List ByteArray) (s : ByteArray) (r : List ByteArray) (j : Nat) (a : Bool) (o : Out) : s ≠ dots → GoesOn fo a (kindAt n (at_ ++ [s])) r → kindAt n (at_ ++ [s]) = 3 → j ≠ 8 →
      Run fo (if ab (textAt n (at_ ++ [s])) then [] else at_) (st (textAt n (at_ ++ [s])) ++ r) (j + 1) (a || (r.isEmpty && dr (textAt n (at_ ++ [s])))) o → Run fo at_ (s :: r) j a o
  | file (at_ : List ByteArray) (s : ByteArray) (r : List ByteArray) (j : Nat) (a : Bool) : s ≠ dots → GoesOn fo a (kindAt n (at_ ++ [s])) r → kindAt n (at_ ++ [s]) ≠ 0 → kindAt n (at_ ++ [s]) ≠ 2 → kindAt n (at_ ++ [s]) ≠ 3 → Run fo at_ (s :: r) j a (.err 55)
variable {n st dr ab}

/-- Directories all the way to a place, itself too. -/
def DirsTo (n : Nd) (p : List ByteArray) : Prop := ∀ q, q <+: p → kindAt n q = 2
/-- Directories all the way to a place, it left out. -/
def DirsUp (n : Nd) (p : List ByteArray) : Prop := ∀ q, q <+: p → q ≠ p → kindAt n q = 2
theorem dirsTo_drop {p : List ByteArray} (h : DirsTo n p) : DirsTo n p.dropLast := fun q hq => h q (hq.trans (List.dropLast_prefix p))
theorem prefix_snoc {q p : List ByteArray} {s : ByteArray} (h : q <+: p ++ [s]) : q <+: p ∨ q = p ++ [s] := by
  obtain ⟨t, ht⟩ := h
  rcases List.eq_nil_or_concat t with rfl | ⟨t', x, rfl⟩
  · right; simpa using ht
  · left
    rw [List.concat_eq_append, ← List.append_assoc] at ht
    have := List.append_inj_left' ht rfl
    exact ⟨t', this⟩
theorem dirsTo_snoc {p : List ByteArray} {s : ByteArray} (h : DirsTo n p) (hk : kindAt n (p ++ [s]) = 2) : DirsTo n (p ++ [s]) := fun q hq => by
  rcases prefix_snoc hq with h1 | h1
  · exact h q h1
  · rw [h1]; exact hk
theorem dirsUp_snoc {p : List ByteArray} {s : ByteArray} (h : DirsTo n p) : DirsUp n (p ++ [s]) := fun q hq hne => by
  rcases prefix_snoc hq with h1 | h1
  · exact h q h1
  · exact absurd h1 hne
theorem dirsTo_up {p : List ByteArray} (h : DirsTo n p) : DirsUp n p := fun q hq _ => h q hq
theorem dirsTo_nil (hn : n.kind = 2) : DirsTo n [] := fun q hq => by
  have : q = [] := List.prefix_nil.1 hq
  rw [this]
  exact hn
/-- A way that ends leads through directories, to a place of the kind that is told. -/
theorem run_real {fo : Bool} {at_ l : List ByteArray} {j : Nat} {a : Bool} {o : Out} (hn : n.kind = 2) (h : Run n st dr ab fo at_ l j a o) (hd : DirsTo n at_) : ∀ p k, o = .ok p k → DirsUp n p ∧ kindAt n p = k := by
  induction h with
  | done at_ j a => intro p k e; cases e; exact ⟨dirsTo_up hd, hd _ (List.prefix_refl _)⟩
  | up at_ r j a o _ ih => exact ih (dirsTo_drop hd)
  | ends at_ s j a h1 h2 => intro p k e; cases e; exact ⟨dirsUp_snoc hd, rfl⟩
  | none => intro p k e; cases e
  | dir at_ s r j a o h1 h2 h3 _ ih => exact ih (dirsTo_snoc hd h3)
  | loop => intro p k e; cases e
  | link at_ s r j a o h1 h2 h3 h4 _ ih =>
    refine ih ?_
    split
    · exact dirsTo_nil hn
    · exact hd
  | file => intro p k e; cases e
/-- The names of the place where a way ends. -/
theorem run_names {P : ByteArray → Prop} (hst : ∀ t, ∀ s ∈ st t, s = dots ∨ P s) {fo : Bool} {at_ l : List ByteArray} {j : Nat} {a : Bool} {o : Out} (h : Run n st dr ab fo at_ l j a o) (hat : ∀ s ∈ at_, P s ∧ s ≠ dots) (hl : ∀ s ∈ l, s = dots ∨ P s) : ∀ p k, o = .ok p k → ∀ s ∈ p, P s ∧ s ≠ dots := by
  have hone : ∀ {at_ : List ByteArray} {s : ByteArray} {r : List ByteArray}, (∀ s ∈ at_, P s ∧ s ≠ dots) → (∀ x ∈ s :: r, x = dots ∨ P x) → s ≠ dots → ∀ x ∈ at_ ++ [s], P x ∧ x ≠ dots := by
    intro at_ s r h1 h2 h3 x hx
    rcases List.mem_append.1 hx with hx | hx
    · exact h1 x hx
    · obtain rfl : x = s := by simpa using hx
      rcases h2 x (by simp) with e | e
      · exact absurd e h3
      · exact ⟨e, h3⟩
  induction h with
  | done at_ j a => intro p k e; cases e; exact hat
  | up at_ r j a o _ ih => exact ih (fun s hs => hat s (List.dropLast_subset _ hs)) (fun s hs => hl s (List.mem_cons_of_mem _ hs))
  | ends at_ s j a h1 h2 => intro p k e; cases e; exact hone hat hl h1
  | none => intro p k e; cases e
  | dir at_ s r j a o h1 h2 h3 _ ih => exact ih (hone hat hl h1) (fun s hs => hl s (List.mem_cons_of_mem _ hs))
  | loop => intro p k e; cases e
  | link at_ s r j a o h1 h2 h3 h4 _ ih =>
    refine ih ?_ ?_
    · split
      · intro s hs; cases hs
      · exact hat
    · intro x hx
      rcases List.mem_append.1 hx with hx | hx
      · exact hst _ x hx
      · exact hl x (List.mem_cons_of_mem _ hx)
  | file => intro p k e; cases e
/-- The path of a place leads to it. -/
theorem run_place {at_ l : List ByteArray} {j : Nat} {a : Bool} {o : Out} (h : Run n st dr ab false at_ l j a o) (ha : a = false) (hl : ∀ s ∈ l, s ≠ dots) (hd : DirsUp n (at_ ++ l)) (hk : l = [] → kindAt n at_ = 2) : o = .ok (at_ ++ l) (kindAt n (at_ ++ l)) := by
  have hpre : ∀ {at_ : List ByteArray} {s x : ByteArray} {r : List ByteArray}, DirsUp n (at_ ++ s :: x :: r) → kindAt n (at_ ++ [s]) = 2 := by
    intro at_ s x r h
    refine h _ ⟨x :: r, by simp⟩ (fun e => ?_)
    have := congrArg List.length e
    simp at this
  induction h with
  | done at_ j a => rw [List.append_nil, hk rfl]
  | up at_ r j a o _ ih => exact absurd rfl (hl _ (by simp))
  | ends at_ s j a h1 h2 => rfl
  | none at_ s r j a h1 h2 h3 =>
    subst ha
    cases r with
    | nil =>
      rcases h2 with h2 | h2
      · exact absurd rfl h2
      · rw [h3] at h2; cases h2
    | cons x r => rw [hpre hd] at h3; cases h3
  | dir at_ s r j a o h1 h2 h3 _ ih =>
    subst ha
    have e : at_ ++ s :: r = (at_ ++ [s]) ++ r := by simp
    rw [e] at hd ⊢
    exact ih rfl (fun s hs => hl s (List.mem_cons_of_mem _ hs)) hd (fun _ => h3)
  | loop at_ s r j a h1 h2 h3 h4 =>
    subst ha
    cases r with
    | nil =>
      rcases h2 with h2 | h2
      · exact absurd rfl h2
      · rw [h3] at h2; cases h2
    | cons x r => rw [hpre hd] at h3; cases h3
  | link at_ s r j a o h1 h2 h3 h4 _ ih =>
    subst ha
    cases r with
    | nil =>
      rcases h2 with h2 | h2
      · exact absurd rfl h2
      · rw [h3] at h2; cases h2
    | cons x r => rw [hpre hd] at h3; cases h3
  | file at_ s r j a h1 h2 h3 h4 h5 =>
    subst ha
    cases r with
    | nil =>
      rcases h2 with h2 | h2
      · exact absurd rfl h2
      · unfold endsD at h2
        rw [if_neg h3, if_neg h5] at h2
        cases h2
    | cons x r => rw [hpre hd] at h4; exact absurd rfl h4
/-- Find never tells a link; where it leads, Spot does, or Spot ends at a link. -/
theorem run_find {at_ l : List ByteArray} {j : Nat} {a : Bool} {o : Out} (h : Run n st dr ab true at_ l j a o) : ∀ p k, o = .ok p k → k ≠ 3 ∧ ∃ m q, Run n st dr ab false at_ l j a (.ok m q) ∧ (q = 3 ∨ (m = p ∧ q = k)) := by
  have hend : ∀ {a : Bool} {k : UInt8} {r : List ByteArray}, GoesOn true a k r → k ≠ 3 → GoesOn false a k r := by
    intro a k r h hk
    rcases h with h | h
    · exact .inl h
    · right
      unfold endsD at *
      rw [if_neg hk] at *
      exact h
  induction h with
  | done at_ j a => intro p k e; cases e; exact ⟨by decide, _, _, .done at_ j a, .inr ⟨rfl, rfl⟩⟩
  | up at_ r j a o _ ih =>
    intro p k e
    obtain ⟨h1, m, q, h2, h3⟩ := ih p k e
    exact ⟨h1, m, q, .up at_ r j a _ h2, h3⟩
  | ends at_ s j a h1 h2 =>
    intro p k e
    cases e
    have hk : kindAt n (at_ ++ [s]) ≠ 3 := by
      intro e
      rw [e] at h2
      unfold endsD at h2
      simp at h2
    refine ⟨hk, _, _, .ends at_ s j a h1 ?_, .inr ⟨rfl, rfl⟩⟩
    unfold endsD at *
    rw [if_neg hk] at *
    exact h2
  | none => intro p k e; cases e
  | dir at_ s r j a o h1 h2 h3 _ ih =>
    intro p k e
    obtain ⟨h4, m, q, h5, h6⟩ := ih p k e
    exact ⟨h4, m, q, .dir at_ s r j a _ h1 (hend h2 (by rw [h3]; decide)) h3 h5, h6⟩
  | loop => intro p k e; cases e
  | link at_ s r j a o h1 h2 h3 h4 _ ih =>
    intro p k e
    obtain ⟨h5, m, q, h6, h7⟩ := ih p k e
    by_cases hs : r = [] ∧ a = false
    · obtain ⟨rfl, rfl⟩ := hs
      have := Run.ends (n := n) (st := st) (dr := dr) (ab := ab) (fo := false) at_ s j false h1 (by rw [h3]; rfl)
      rw [h3] at this
      exact ⟨h5, _, _, this, .inl rfl⟩
    · refine ⟨h5, m, q, .link at_ s r j a _ h1 ?_ h3 h4 h6, h7⟩
      by_cases hr : r = []
      · right
        rw [h3]
        cases a with
        | false => exact absurd ⟨hr, rfl⟩ hs
        | true => rfl
      · exact .inl hr
  | file => intro p k e; cases e
/-- Without links: the steps, gone one by one. -/
def goD (at_ : List ByteArray) (s : ByteArray) : List ByteArray := if s = dots then at_.dropLast else at_ ++ [s]
theorem run_clean {fo : Bool} {at_ l : List ByteArray} {j : Nat} {a : Bool} {o : Out} (hno : ∀ p, kindAt n p ≠ 3) (h : Run n st dr ab fo at_ l j a o) : ∀ p k, o = .ok p k → p = l.foldl goD at_ := by
  induction h with
  | done at_ j a => intro p k e; cases e; rfl
  | up at_ r j a o _ ih => intro p k e; rw [List.foldl_cons, show goD at_ dots = at_.dropLast from if_pos rfl]; exact ih p k e
  | ends at_ s j a h1 h2 => intro p k e; cases e; rw [List.foldl_cons, show goD at_ s = at_ ++ [s] from if_neg h1]; rfl
  | none => intro p k e; cases e
  | dir at_ s r j a o h1 h2 h3 _ ih => intro p k e; rw [List.foldl_cons, show goD at_ s = at_ ++ [s] from if_neg h1]; exact ih p k e
  | loop => intro p k e; cases e
  | link at_ s r j a o h1 h2 h3 h4 _ ih => exact absurd h3 (hno _)
  | file => intro p k e; cases e
/-- With more links behind it a way comes to the same, or to a loop. -/
theorem run_more {fo : Bool} {at_ l : List ByteArray} {j : Nat} {a : Bool} {o : Out} (h : Run n st dr ab fo at_ l j a o) : ∀ j' o', j ≤ j' → j' ≤ 8 → Run n st dr ab fo at_ l j' a o' → (j = j' → o = o') ∧ (o = o' ∨ o' = .err 61) := by
  have hg : ∀ {a : Bool} {k : UInt8}, GoesOn fo a k [] → endsD fo a k = true → False := by
    intro a k h h2
    rcases h with h | h
    · exact h rfl
    · rw [h2] at h; cases h
  induction h with
  | done at_ j a => intro j' o' _ _ h'; cases h'; exact ⟨fun _ => rfl, .inl rfl⟩
  | up at_ r j a o _ ih =>
    intro j' o' hj h8 h'
    cases h' with
    | up _ _ _ _ _ h => exact ih j' o' hj h8 h
    | ends _ _ _ _ h => exact absurd rfl h
    | none _ _ _ _ _ h => exact absurd rfl h
    | dir _ _ _ _ _ _ h => exact absurd rfl h
    | loop _ _ _ _ _ h => exact absurd rfl h
    | link _ _ _ _ _ _ h => exact absurd rfl h
    | file _ _ _ _ _ h => exact absurd rfl h
  | ends at_ s j a h1 h2 =>
    intro j' o' hj h8 h'
    cases h' with
    | up => exact absurd rfl h1
    | ends => exact ⟨fun _ => rfl, .inl rfl⟩
    | none _ _ _ _ _ _ h => exact (hg h h2).elim
    | dir _ _ _ _ _ _ _ h => exact (hg h h2).elim
    | loop _ _ _ _ _ _ h => exact (hg h h2).elim
    | link _ _ _ _ _ _ _ h => exact (hg h h2).elim
    | file _ _ _ _ _ _ h => exact (hg h h2).elim
  | none at_ s r j a h1 h2 h3 =>
    intro j' o' hj h8 h'
    cases h' with
    | up => exact absurd rfl h1
    | ends _ _ _ _ _ h => exact (hg h2 h).elim
    | none => exact ⟨fun _ => rfl, .inl rfl⟩
    | dir _ _ _ _ _ _ _ _ h => rw [h3] at h; cases h
    | loop _ _ _ _ _ _ _ h => rw [h3] at h; cases h
    | link _ _ _ _ _ _ _ _ h => rw [h3] at h; cases h
    | file _ _ _ _ _ _ _ h => exact absurd h3 h
  | dir at_ s r j a o h1 h2 h3 _ ih =>
    intro j' o' hj h8 h'
    cases h' with
    | up => exact absurd rfl h1
    | ends _ _ _ _ _ h => exact (hg h2 h).elim
    | none _ _ _ _ _ _ _ h => rw [h3] at h; cases h
    | dir _ _ _ _ _ _ _ _ _ h => exact ih j' o' hj h8 h
    | loop _ _ _ _ _ _ _ h => rw [h3] at h; cases h
    | link _ _ _ _ _ _ _ _ h => rw [h3] at h; cases h
    | file _ _ _ _ _ _ _ _ h => exact absurd h3 h
  | loop at_ s r j a h1 h2 h3 h4 =>
    intro j' o' hj h8 h'
    cases h' with
    | up => exact absurd rfl h1
    | ends _ _ _ _ _ h => exact (hg h2 h).elim
    | none _ _ _ _ _ _ _ h => rw [h3] at h; cases h
    | dir _ _ _ _ _ _ _ _ h => rw [h3] at h; cases h
    | loop => exact ⟨fun _ => rfl, .inl rfl⟩
    | link _ _ _ _ _ _ _ _ _ h => exact absurd (by omega) h
    | file _ _ _ _ _ _ _ _ _ h => exact absurd h3 h
  | link at_ s r j a o h1 h2 h3 h4 _ ih =>
    intro j' o' hj h8 h'
    cases h' with
    | up => exact absurd rfl h1
    | ends _ _ _ _ _ h => exact (hg h2 h).elim
    | none _ _ _ _ _ _ _ h => rw [h3] at h; cases h
    | dir _ _ _ _ _ _ _ _ h => rw [h3] at h; cases h
    | loop _ _ _ _ _ _ _ _ h => exact ⟨fun e => absurd (e.trans h) h4, .inr rfl⟩
    | link _ _ _ _ _ _ _ _ _ h5 h =>
      obtain ⟨h6, h7⟩ := ih (j' + 1) o' (by omega) (by omega) h
      exact ⟨fun e => h6 (by omega), h7⟩
    | file _ _ _ _ _ _ _ _ _ h => exact absurd h3 h
  | file at_ s r j a h1 h2 h3 h4 h5 =>
    intro j' o' hj h8 h'
    cases h' with
    | up => exact absurd rfl h1
    | ends _ _ _ _ _ h => exact (hg h2 h).elim
    | none _ _ _ _ _ _ _ h => exact absurd h h3
    | dir _ _ _ _ _ _ _ _ h => exact absurd h h4
    | loop _ _ _ _ _ _ _ h => exact absurd h h5
    | link _ _ _ _ _ _ _ _ h => exact absurd h h5
    | file => exact ⟨fun _ => rfl, .inl rfl⟩
theorem run_det {fo : Bool} {at_ l : List ByteArray} {j : Nat} {a : Bool} {o o' : Out} (h : Run n st dr ab fo at_ l j a o) (h' : Run n st dr ab fo at_ l j a o') (hj : j ≤ 8) : o = o' := (run_more h j o' (Nat.le_refl _) hj h').1 rfl
/-- What a way with a name more comes to. -/
def NextP (R : List ByteArray → Prop) (o' : Out) : Out → Prop
  | .err _ => ∃ e, o' = .err e
  | .ok p k => (k = 0 → o' = .err 5) ∧ (k ≠ 0 → k ≠ 2 → o' = .err 55) ∧ (k = 2 → R p)
/-- A way, and one with a name more. -/
theorem run_further {at_ l : List ByteArray} {j : Nat} {a : Bool} {o : Out} (h : Run n st dr ab true at_ l j a o) (hj : j ≤ 8) {s : ByteArray} (_hs : s ≠ dots) : ∀ o', Run n st dr ab true at_ (l ++ [s]) j false o' →
    NextP (fun p => ∃ j', j' ≤ 8 ∧ Run n st dr ab true p [s] j' false o') o' o := by
  induction h with
  | done at_ j a => intro o' h'; exact ⟨fun h => (by cases h), fun _ h => absurd rfl h, fun _ => ⟨j, hj, h'⟩⟩
  | up at_ r j a o _ ih =>
    intro o' h'
    rw [List.cons_append] at h'
    generalize hm : r ++ [s] = m at h'
    cases h' with
    | up _ _ _ _ _ h => subst hm; exact ih hj o' h
    | ends => simp at hm
    | none _ _ _ _ _ h => exact absurd rfl h
    | dir _ _ _ _ _ _ h => exact absurd rfl h
    | loop _ _ _ _ _ h => exact absurd rfl h
    | link _ _ _ _ _ _ h => exact absurd rfl h
    | file _ _ _ _ _ h => exact absurd rfl h
  | ends at_ x j a h1 h2 =>
    intro o' h'
    rw [List.singleton_append] at h'
    have hk3 : kindAt n (at_ ++ [x]) ≠ 3 := by
      intro e
      rw [e] at h2
      unfold endsD at h2
      simp at h2
    cases h' with
    | up => exact absurd rfl h1
    | none _ _ _ _ _ _ _ h => exact ⟨fun _ => rfl, fun h' => absurd h h', fun h' => by rw [h] at h'; cases h'⟩
    | dir _ _ _ _ _ _ _ _ h hr => exact ⟨fun h' => (by rw [h] at h'; cases h'), fun _ h' => absurd h h', fun _ => ⟨j, hj, hr⟩⟩
    | loop _ _ _ _ _ _ _ h => exact absurd h hk3
    | link _ _ _ _ _ _ _ _ h => exact absurd h hk3
    | file _ _ _ _ _ _ _ g0 g2 => exact ⟨fun h' => absurd h' g0, fun _ _ => rfl, fun h' => absurd h' g2⟩
  | none at_ x r j a h1 h2 h3 =>
    intro o' h'
    rw [List.cons_append] at h'
    generalize hm : r ++ [s] = m at h'
    cases h' with
    | up => exact absurd rfl h1
    | ends => simp at hm
    | none => exact ⟨_, rfl⟩
    | dir _ _ _ _ _ _ _ _ h => rw [h3] at h; cases h
    | loop => exact ⟨_, rfl⟩
    | link _ _ _ _ _ _ _ _ h => rw [h3] at h; cases h
    | file => exact ⟨_, rfl⟩
  | dir at_ x r j a o h1 h2 h3 _ ih =>
    intro o' h'
    rw [List.cons_append] at h'
    generalize hm : r ++ [s] = m at h'
    cases h' with
    | up => exact absurd rfl h1
    | ends => simp at hm
    | none _ _ _ _ _ _ _ h => rw [h3] at h; cases h
    | dir _ _ _ _ _ _ _ _ _ h => subst hm; exact ih hj o' h
    | loop _ _ _ _ _ _ _ h => rw [h3] at h; cases h
    | link _ _ _ _ _ _ _ _ h => rw [h3] at h; cases h
    | file _ _ _ _ _ _ _ _ h => exact absurd h3 h
  | loop at_ x r j a h1 h2 h3 h4 =>
    intro o' h'
    rw [List.cons_append] at h'
    generalize hm : r ++ [s] = m at h'
    cases h' with
    | up => exact absurd rfl h1
    | ends => simp at hm
    | none => exact ⟨_, rfl⟩
    | dir _ _ _ _ _ _ _ _ h => rw [h3] at h; cases h
    | loop => exact ⟨_, rfl⟩
    | link _ _ _ _ _ _ _ _ _ h => exact absurd h4 h
    | file => exact ⟨_, rfl⟩
  | link at_ x r j a o h1 h2 h3 h4 _ ih =>
    intro o' h'
    rw [List.cons_append] at h'
    generalize hm : r ++ [s] = m at h'
    cases h' with
    | up => exact absurd rfl h1
    | ends => simp at hm
    | none _ _ _ _ _ _ _ h => rw [h3] at h; cases h
    | dir _ _ _ _ _ _ _ _ h => rw [h3] at h; cases h
    | loop _ _ _ _ _ _ _ _ h => exact absurd h h4
    | link _ _ _ _ _ _ _ _ _ _ h =>
      subst hm
      refine ih (by omega) o' ?_
      have e : (r ++ [s]).isEmpty = false := by cases r <;> rfl
      rw [e] at h
      rw [List.append_assoc]
      exact h
    | file _ _ _ _ _ _ _ _ _ h => exact absurd h3 h
  | file at_ x r j a h1 h2 h3 h4 h5 =>
    intro o' h'
    rw [List.cons_append] at h'
    generalize hm : r ++ [s] = m at h'
    cases h' with
    | up => exact absurd rfl h1
    | ends => simp at hm
    | none => exact ⟨_, rfl⟩
    | dir _ _ _ _ _ _ _ _ h => exact absurd h h4
    | loop => exact ⟨_, rfl⟩
    | link _ _ _ _ _ _ _ _ h => exact absurd h h5
    | file => exact ⟨_, rfl⟩
/-- Through directories that are named. -/
theorem run_through {at_ l : List ByteArray} {s : ByteArray} {j : Nat} {o : Out} (hl : ∀ x ∈ l, x ≠ dots) (hd : DirsTo n (at_ ++ l)) (h : Run n st dr ab true at_ (l ++ [s]) j false o) : Run n st dr ab true (at_ ++ l) [s] j false o := by
  induction l generalizing at_ with
  | nil => simpa using h
  | cons x l ih =>
    have hk : kindAt n (at_ ++ [x]) = 2 := hd _ ⟨l, by simp⟩
    have e : at_ ++ x :: l = (at_ ++ [x]) ++ l := by simp
    rw [e] at hd ⊢
    rw [List.cons_append] at h
    generalize hm : l ++ [s] = m at h
    cases h with
    | up => exact absurd rfl (hl _ (by simp))
    | ends => simp at hm
    | none _ _ _ _ _ _ _ h => rw [hk] at h; cases h
    | dir _ _ _ _ _ _ _ _ _ h =>
      subst hm
      exact ih (fun y hy => hl y (List.mem_cons_of_mem _ hy)) hd h
    | loop _ _ _ _ _ _ _ h => rw [hk] at h; cases h
    | link _ _ _ _ _ _ _ _ h => rw [hk] at h; cases h
    | file _ _ _ _ _ _ _ _ h => exact absurd hk h
end Wk
end Go.Proofs.YtfilbknnpjbmcaaGreat
