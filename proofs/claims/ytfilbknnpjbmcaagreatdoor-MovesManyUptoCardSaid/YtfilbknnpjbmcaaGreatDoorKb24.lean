/- Paths through a tree, links too, as data: what a way leads to. No program. -/
import Derived.Test.YtfilbknnpjbmcaaGreatDoorKb22
import Derived.Test.YtfilbknnpjbmcaaGreatDoorKb23
import Derived.Test.YtfilbknnpjbmcaaGreatDoorKb04
namespace Go.Proofs.YtfilbknnpjbmcaaGreatDoor
open Go.RowKit Px Nx
namespace Wk

inductive Out where
 | ok (place : List ByteArray) (kind : UInt8)
 | err (e : Int)
def dots : ByteArray := ⟨#[46, 46]⟩
def kindAt (n : Nd) (p : List ByteArray) : UInt8 := ((n.at_ p).getD absent).kind
def textAt (n : Nd) (p : List ByteArray) : ByteArray := ((n.at_ p).getD absent).text
def endsD (fo a : Bool) (k : UInt8) : Bool := if k = 0 then true else if k = 3 then !fo && !a else !a
def GoesOn (fo a : Bool) (k : UInt8) (r : List ByteArray) : Prop := r ≠ [] ∨ endsD fo a k = false
variable (n : Nd) (st : ByteArray → List ByteArray) (dr ab : ByteArray → Bool)
inductive Run (fo : Bool) : List ByteArray → List ByteArray → Nat → Bool → Out → Prop where
 | done (at_ : List ByteArray) (j : Nat) (a : Bool) : Run fo at_ [] j a (.ok at_ 2)
 | up (at_ r : List ByteArray) (j : Nat) (a : Bool) (o : Out) : Run fo at_.dropLast r j a o → Run fo at_ (dots :: r) j a o
 | ends (at_ : List ByteArray) (s : ByteArray) (j : Nat) (a : Bool) : s ≠ dots → endsD fo a (kindAt n (at_ ++ [s])) = true → Run fo at_ [s] j a (.ok (at_ ++ [s]) (kindAt n (at_ ++ [s])))
 | none (at_ : List ByteArray) (s : ByteArray) (r : List ByteArray) (j : Nat) (a : Bool) : s ≠ dots → GoesOn fo a (kindAt n (at_ ++ [s])) r → kindAt n (at_ ++ [s]) = 0 → Run fo at_ (s :: r) j a (.err 5)
 | dir (at_ : List ByteArray) (s : ByteArray) (r : List ByteArray) (j : Nat) (a : Bool) (o : Out) : s ≠ dots → GoesOn fo a (kindAt n (at_ ++ [s])) r → kindAt n (at_ ++ [s]) = 2 → Run fo (at_ ++ [s]) r j a o → Run fo at_ (s :: r) j a o
 | loop (at_ : List ByteArray) (s : ByteArray) (r : List ByteArray) (j : Nat) (a : Bool) : s ≠ dots → GoesOn fo a (kindAt n (at_ ++ [s])) r → kindAt n (at_ ++ [s]) = 3 → j = 8 → Run fo at_ (s :: r) j a (.err 61)
 | link (at_ : List ByteArray) (s : ByteArray) (r : List ByteArray) (j : Nat) (a : Bool) (o : Out) : s ≠ dots → GoesOn fo a (kindAt n (at_ ++ [s])) r → kindAt n (at_ ++ [s]) = 3 → j ≠ 8 →
   Run fo (if ab (textAt n (at_ ++ [s])) then [] else at_) (st (textAt n (at_ ++ [s])) ++ r) (j + 1) (a || (r.isEmpty && dr (textAt n (at_ ++ [s])))) o → Run fo at_ (s :: r) j a o
 | file (at_ : List ByteArray) (s : ByteArray) (r : List ByteArray) (j : Nat) (a : Bool) : s ≠ dots → GoesOn fo a (kindAt n (at_ ++ [s])) r → kindAt n (at_ ++ [s]) ≠ 0 → kindAt n (at_ ++ [s]) ≠ 2 → kindAt n (at_ ++ [s]) ≠ 3 → Run fo at_ (s :: r) j a (.err 55)
variable {n st dr ab}

def DirsTo (n : Nd) (p : List ByteArray) : Prop := ∀ q, q <+: p → kindAt n q = 2
def DirsUp (n : Nd) (p : List ByteArray) : Prop := ∀ q, q <+: p → q ≠ p → kindAt n q = 2
theorem dirsTo_drop {p : List ByteArray} (h : DirsTo n p) : DirsTo n p.dropLast := fun q hq => h q (hq.trans (List.dropLast_prefix p))
theorem prefix_snoc {q p : List ByteArray} {s : ByteArray} (h : q <+: p ++ [s]) : q <+: p ∨ q = p ++ [s] := by
 obtain ⟨t, ht⟩ := h
 rcases List.eq_nil_or_concat t with rfl | ⟨t', x, rfl⟩
 ·right; simpa using ht
 ·left
  rw [List.concat_eq_append, ← List.append_assoc] at ht
  have := List.append_inj_left' ht rfl
  exact ⟨t', this⟩
theorem dirsTo_snoc {p : List ByteArray} {s : ByteArray} (h : DirsTo n p) (hk : kindAt n (p ++ [s]) = 2) : DirsTo n (p ++ [s]) := fun q hq => by
 rcases prefix_snoc hq with h1 | h1
 ·exact h q h1
 ·rw [h1]; exact hk
theorem dirsUp_snoc {p : List ByteArray} {s : ByteArray} (h : DirsTo n p) : DirsUp n (p ++ [s]) := fun q hq hne => by
 rcases prefix_snoc hq with h1 | h1
 ·exact h q h1
 ·exact absurd h1 hne
theorem dirsTo_up {p : List ByteArray} (h : DirsTo n p) : DirsUp n p := fun q hq _ => h q hq
theorem dirsTo_nil (hn : n.kind = 2) : DirsTo n [] := fun q hq => by
 have : q = [] := List.prefix_nil.1 hq
 rw [this]
 exact hn
theorem run_real {fo : Bool} {at_ l : List ByteArray} {j : Nat} {a : Bool} {o : Out} (hn : n.kind = 2) (h : Run n st dr ab fo at_ l j a o) (hd : DirsTo n at_) : ∀ p k, o = .ok p k → DirsUp n p ∧ kindAt n p = k := by
 induction h with
 | done at_ j a => intro p k e; cases e; exact ⟨dirsTo_up hd, hd _ (List.prefix_refl _)⟩
 | up at_ r j a o _ ih => exact ih (dirsTo_drop hd)
 | ends at_ s j a h1 h2 => intro p k e; cases e; exact ⟨dirsUp_snoc hd, rfl⟩
 | none => intro p k e; cases e
 | dir at_ s r j a o h1 h2 h3 _ ih => exact ih (dirsTo_snoc hd h3)
 | loop => intro p k e; cases e
 | link at_ s r j a o h1 h2 h3 h4 _ ih =>
  refine ih ?_
  split
  ·exact dirsTo_nil hn
  ·exact hd
 | file => intro p k e; cases e
theorem run_names {P : ByteArray → Prop} (hst : ∀ t, ∀ s ∈ st t, s = dots ∨ P s) {fo : Bool} {at_ l : List ByteArray} {j : Nat} {a : Bool} {o : Out} (h : Run n st dr ab fo at_ l j a o) (hat : ∀ s ∈ at_, P s ∧ s ≠ dots) (hl : ∀ s ∈ l, s = dots ∨ P s) : ∀ p k, o = .ok p k → ∀ s ∈ p, P s ∧ s ≠ dots := by
 have hone : ∀ {at_ : List ByteArray} {s : ByteArray} {r : List ByteArray}, (∀ s ∈ at_, P s ∧ s ≠ dots) → (∀ x ∈ s :: r, x = dots ∨ P x) → s ≠ dots → ∀ x ∈ at_ ++ [s], P x ∧ x ≠ dots := by
  intro at_ s r h1 h2 h3 x hx
  rcases List.mem_append.1 hx with hx | hx
  ·exact h1 x hx
  ·obtain rfl : x = s := by simpa using hx
   rcases h2 x (by simp) with e | e
   ·exact absurd e h3
   ·exact ⟨e, h3⟩
 induction h with
 | done at_ j a => intro p k e; cases e; exact hat
 | up at_ r j a o _ ih => exact ih (fun s hs => hat s (List.dropLast_subset _ hs)) (fun s hs => hl s (List.mem_cons_of_mem _ hs))
 | ends at_ s j a h1 h2 => intro p k e; cases e; exact hone hat hl h1
 | none => intro p k e; cases e
 | dir at_ s r j a o h1 h2 h3 _ ih => exact ih (hone hat hl h1) (fun s hs => hl s (List.mem_cons_of_mem _ hs))
 | loop => intro p k e; cases e
 | link at_ s r j a o h1 h2 h3 h4 _ ih =>
  refine ih ?_ ?_
  ·split
   ·intro s hs; cases hs
   ·exact hat
  ·intro x hx
   rcases List.mem_append.1 hx with hx | hx
   ·exact hst _ x hx
   ·exact hl x (List.mem_cons_of_mem _ hx)
 | file => intro p k e; cases e
theorem run_more {fo : Bool} {at_ l : List ByteArray} {j : Nat} {a : Bool} {o : Out} (h : Run n st dr ab fo at_ l j a o) : ∀ j' o', j ≤ j' → j' ≤ 8 → Run n st dr ab fo at_ l j' a o' → (j = j' → o = o') ∧ (o = o' ∨ o' = .err 61) := by
 have hg : ∀ {a : Bool} {k : UInt8}, GoesOn fo a k [] → endsD fo a k = true → False := by
  intro a k h h2
  rcases h with h | h
  ·exact h rfl
  ·rw [h2] at h; cases h
 induction h with
 | done at_ j a => intro j' o' _ _ h'; cases h'; exact ⟨fun _ => rfl, .inl rfl⟩
 | up at_ r j a o _ ih =>
  intro j' o' hj h8 h'
  cases h' with
  | up _ _ _ _ _ h => exact ih j' o' hj h8 h
  | ends _ _ _ _ h => exact absurd rfl h
  | none _ _ _ _ _ h => exact absurd rfl h
  | dir _ _ _ _ _ _ h => exact absurd rfl h
  | loop _ _ _ _ _ h => exact absurd rfl h
  | link _ _ _ _ _ _ h => exact absurd rfl h
  | file _ _ _ _ _ h => exact absurd rfl h
 | ends at_ s j a h1 h2 =>
  intro j' o' hj h8 h'
  cases h' with
  | up => exact absurd rfl h1
  | ends => exact ⟨fun _ => rfl, .inl rfl⟩
  | none _ _ _ _ _ _ h => exact (hg h h2).elim
  | dir _ _ _ _ _ _ _ h => exact (hg h h2).elim
  | loop _ _ _ _ _ _ h => exact (hg h h2).elim
  | link _ _ _ _ _ _ _ h => exact (hg h h2).elim
  | file _ _ _ _ _ _ h => exact (hg h h2).elim
 | none at_ s r j a h1 h2 h3 =>
  intro j' o' hj h8 h'
  cases h' with
  | up => exact absurd rfl h1
  | ends _ _ _ _ _ h => exact (hg h2 h).elim
  | none => exact ⟨fun _ => rfl, .inl rfl⟩
  | dir _ _ _ _ _ _ _ _ h => rw [h3] at h; cases h
  | loop _ _ _ _ _ _ _ h => rw [h3] at h; cases h
  | link _ _ _ _ _ _ _ _ h => rw [h3] at h; cases h
  | file _ _ _ _ _ _ _ h => exact absurd h3 h
 | dir at_ s r j a o h1 h2 h3 _ ih =>
  intro j' o' hj h8 h'
  cases h' with
  | up => exact absurd rfl h1
  | ends _ _ _ _ _ h => exact (hg h2 h).elim
  | none _ _ _ _ _ _ _ h => rw [h3] at h; cases h
  | dir _ _ _ _ _ _ _ _ _ h => exact ih j' o' hj h8 h
  | loop _ _ _ _ _ _ _ h => rw [h3] at h; cases h
  | link _ _ _ _ _ _ _ _ h => rw [h3] at h; cases h
  | file _ _ _ _ _ _ _ _ h => exact absurd h3 h
 | loop at_ s r j a h1 h2 h3 h4 =>
  intro j' o' hj h8 h'
  cases h' with
  | up => exact absurd rfl h1
  | ends _ _ _ _ _ h => exact (hg h2 h).elim
  | none _ _ _ _ _ _ _ h => rw [h3] at h; cases h
  | dir _ _ _ _ _ _ _ _ h => rw [h3] at h; cases h
  | loop => exact ⟨fun _ => rfl, .inl rfl⟩
  | link _ _ _ _ _ _ _ _ _ h => exact absurd (by omega) h
  | file _ _ _ _ _ _ _ _ _ h => exact absurd h3 h
 | link at_ s r j a o h1 h2 h3 h4 _ ih =>
  intro j' o' hj h8 h'
  cases h' with
  | up => exact absurd rfl h1
  | ends _ _ _ _ _ h => exact (hg h2 h).elim
  | none _ _ _ _ _ _ _ h => rw [h3] at h; cases h
  | dir _ _ _ _ _ _ _ _ h => rw [h3] at h; cases h
  | loop _ _ _ _ _ _ _ _ h => exact ⟨fun e => absurd (e.trans h) h4, .inr rfl⟩
  | link _ _ _ _ _ _ _ _ _ h5 h =>
   obtain ⟨h6, h7⟩ := ih (j' + 1) o' (by omega) (by omega) h
   exact ⟨fun e => h6 (by omega), h7⟩
  | file _ _ _ _ _ _ _ _ _ h => exact absurd h3 h
 | file at_ s r j a h1 h2 h3 h4 h5 =>
  intro j' o' hj h8 h'
  cases h' with
  | up => exact absurd rfl h1
  | ends _ _ _ _ _ h => exact (hg h2 h).elim
  | none _ _ _ _ _ _ _ h => exact absurd h h3
  | dir _ _ _ _ _ _ _ _ h => exact absurd h h4
  | loop _ _ _ _ _ _ _ h => exact absurd h h5
  | link _ _ _ _ _ _ _ _ h => exact absurd h h5
  | file => exact ⟨fun _ => rfl, .inl rfl⟩
theorem run_det {fo : Bool} {at_ l : List ByteArray} {j : Nat} {a : Bool} {o o' : Out} (h : Run n st dr ab fo at_ l j a o) (h' : Run n st dr ab fo at_ l j a o') (hj : j ≤ 8) : o = o' := (run_more h j o' (Nat.le_refl _) hj h').1 rfl
end Wk
end Go.Proofs.YtfilbknnpjbmcaaGreatDoor
/- Ways behind what was made: where nothing stood, and something is made, the same way leads to it. No program. -/
namespace Go.Proofs.YtfilbknnpjbmcaaGreatDoor
open Go.RowKit Px Nx
namespace Wk
variable {n n' : Nd} {st : ByteArray → List ByteArray} {dr ab : ByteArray → Bool} {P : List ByteArray}
end Wk
namespace Wk
variable {n : Nd} {st : ByteArray → List ByteArray} {dr ab : ByteArray → Bool}
end Wk
end Go.Proofs.YtfilbknnpjbmcaaGreatDoor
/- How many nodes a tree has behind what was made in it, and how long places are. No program. -/
namespace Go.Proofs.YtfilbknnpjbmcaaGreatDoor
open Go.RowKit Px Nx
namespace Nx
theorem mem_bulkE : ∀ {l : Ents} {x : ByteArray} {k : Nd}, (x, k) ∈ l → x.size + 1 + k.bulk ≤ bulkE l
 | [], _, _, h => by simp at h
 | (y, v) :: r, x, k, h => by
  rw [bulkE]
  rcases List.mem_cons.1 h with e | e
  ·cases e; omega
  ·have := mem_bulkE e; omega
theorem names_there : ∀ (q : List ByteArray) (n k : Nd), n.well = true → n.at_ q = some k → namesBulk q + k.bulk ≤ n.bulk
 | [], n, k, _, h => by
  rw [Nd.at_] at h
  cases h
  simp [namesBulk]
 | x :: r, n, k, hw, h => by
  rw [Nd.at_] at h
  cases hk : n.kid x with
  | none => rw [hk] at h; cases h
  | some d =>
   rw [hk] at h
   have h : d.at_ r = some k := h
   by_cases hd : n.kind = 2
   ·obtain ⟨l, rfl, hg⟩ := dir_ents hw hd
    rw [kid_ofE] at hk
    have h1 := mem_bulkE (getE_mem hk)
    have h2 := names_there r d k (good_get hg hk) h
    rw [bulk_ofE]
    have e1 : namesBulk (x :: r) = x.size + 1 + namesBulk r := by simp [namesBulk]
    omega
   ·rw [kid_leaf hw hd] at hk; cases hk
theorem names_snoc (q : List ByteArray) (s : ByteArray) : namesBulk (q ++ [s]) = namesBulk q + s.size + 1 := by
 simp [namesBulk]
 omega
end Nx
namespace Wk
structure TreeN (N : Nat) (n : Nd) : Prop where
 well : n.well = true
 kind : n.kind = 2
 nodes : n.nodes ≤ N
theorem TreeN.bulk {N : Nat} {n : Nd} (h : TreeN N n) : n.bulk ≤ 322 * N := by
 have := well_bulk n h.well
 have := h.nodes
 omega
theorem TreeN.girth {N : Nat} {n : Nd} (h : TreeN N n) : n.girth ≤ 322 * N := Nat.le_trans (Nd.girth_bulk n) h.bulk
theorem TreeN.more {N M : Nat} {n : Nd} (h : TreeN N n) (hm : N ≤ M) : TreeN M n := ⟨h.well, h.kind, Nat.le_trans h.nodes hm⟩
theorem kindAt_some {n : Nd} {p : List ByteArray} (h : kindAt n p ≠ 0) : ∃ k, n.at_ p = some k ∧ k.kind = kindAt n p := by
 unfold kindAt at h ⊢
 cases hat : n.at_ p with
 | none => rw [hat] at h; exact absurd rfl h
 | some k => exact ⟨k, rfl, rfl⟩
theorem at_well : ∀ (q : List ByteArray) (n k : Nd), n.well = true → n.at_ q = some k → k.well = true
 | [], n, k, hw, h => by
  rw [Nd.at_] at h
  cases h
  exact hw
 | x :: r, n, k, hw, h => by
  rw [Nd.at_] at h
  cases hk : n.kid x with
  | none => rw [hk] at h; cases h
  | some d =>
   rw [hk] at h
   by_cases hd : n.kind = 2
   ·obtain ⟨l, rfl, hg⟩ := dir_ents hw hd
    rw [kid_ofE] at hk
    exact at_well r d k (good_get hg hk) h
   ·rw [kid_leaf hw hd] at hk; cases hk
theorem text_at {n : Nd} (hw : n.well = true) {p : List ByteArray} : (textAt n p).size ≤ 256 := by
 unfold textAt
 cases hat : n.at_ p with
 | none => exact Nat.zero_le _
 | some k => exact text_small (at_well p n k hw hat)
variable {n : Nd} {st : ByteArray → List ByteArray} {dr ab : ByteArray → Bool} {a : Bool}
theorem run_small {M : Nat} (hst : ∀ q, ∀ s ∈ st (textAt n q), s.size ≤ M) {fo : Bool} {at_ l : List ByteArray} {j : Nat} {a : Bool} {o : Out} (h : Run n st dr ab fo at_ l j a o) : (∀ s ∈ at_, s.size ≤ M) → (∀ s ∈ l, s.size ≤ M) → ∀ p k, o = .ok p k → ∀ s ∈ p, s.size ≤ M := by
 have hsnoc : ∀ {at_ : List ByteArray} {s : ByteArray} {r : List ByteArray}, (∀ x ∈ at_, x.size ≤ M) → (∀ x ∈ s :: r, x.size ≤ M) → ∀ x ∈ at_ ++ [s], x.size ≤ M := by
  intro at_ s r h1 h2 x hx
  rcases List.mem_append.1 hx with hx | hx
  ·exact h1 x hx
  ·obtain rfl : x = s := by simpa using hx
   exact h2 x (by simp)
 have htl : ∀ {s : ByteArray} {r : List ByteArray}, (∀ x ∈ s :: r, x.size ≤ M) → ∀ x ∈ r, x.size ≤ M := fun h x hx => h x (List.mem_cons_of_mem _ hx)
 induction h with
 | done at_ j a => intro h1 _ p k e; cases e; exact h1
 | up at_ r j a o _ ih => exact fun h1 h2 => ih (fun s hs => h1 s (List.dropLast_subset _ hs)) (htl h2)
 | ends at_ s j a _ _ => intro h1 h2 p k e; cases e; exact hsnoc h1 h2
 | none => intro _ _ p k e; cases e
 | dir at_ s r j a o _ _ _ _ ih => exact fun h1 h2 => ih (hsnoc h1 h2) (htl h2)
 | loop => intro _ _ p k e; cases e
 | link at_ s r j a o _ _ _ _ _ ih =>
  intro h1 h2
  refine ih ?_ fun x hx => ?_
  ·split
   ·intro x hx; simp at hx
   ·exact h1
  ·rcases List.mem_append.1 hx with hx | hx
   ·exact hst _ x hx
   ·exact htl h2 x hx
 | file => intro _ _ p k e; cases e
theorem run_err {fo : Bool} {at_ l : List ByteArray} {j : Nat} {a : Bool} {o : Out} (h : Run n st dr ab fo at_ l j a o) : ∀ e, o = .err e → e = 5 ∨ e = 55 ∨ e = 61 := by
 induction h with
 | done => intro e he; cases he
 | up _ _ _ _ _ _ ih => exact ih
 | ends => intro e he; cases he
 | none => intro e he; cases he; exact .inl rfl
 | dir _ _ _ _ _ _ _ _ _ _ ih => exact ih
 | loop => intro e he; cases he; exact .inr (.inr rfl)
 | link _ _ _ _ _ _ _ _ _ _ _ ih => exact ih
 | file => intro e he; cases he; exact .inr (.inl rfl)
theorem step_size {s : ByteArray} : ∀ x ∈ stepsB s, x.size ≤ s.size := by
 intro x hx
 obtain ⟨l, hl, rfl⟩ := List.mem_map.1 hx
 have := (steps_mem hl).2.2
 show l.toArray.size ≤ _
 rw [Array.length_toList] at this
 simpa using this
theorem place_small {N : Nat} (hG : TreeN N n) {fo : Bool} {t : ByteArray} {p : List ByteArray} {k : UInt8} (h : Run n stepsB dr ab fo [] (stepsB t) 0 a (.ok p k)) {M : Nat} (ht : t.size ≤ M) (hM : 256 ≤ M) : namesBulk p ≤ 322 * N + M + 1 := by
 have h1 := (run_real hG.kind h (dirsTo_nil hG.kind) p k rfl).1
 have h2 := run_small (M := M) (fun q s hs => by
  have a1 := step_size s hs
  have a2 := text_at hG.well (p := q)
  omega) h (fun s hs => by simp at hs) (fun s hs => by have := step_size s hs; omega) p k rfl
 rcases List.eq_nil_or_concat p with rfl | ⟨l, x, rfl⟩
 ·simp [namesBulk]
 ·rw [List.concat_eq_append] at *
  have hk := h1 l (List.prefix_append l [x]) (fun e => by have := congrArg List.length e; simp at this)
  obtain ⟨d, hd, _⟩ := kindAt_some (by rw [hk]; decide)
  have h3 := names_there l n d hG.well hd
  have h4 := h2 x (by simp)
  have h5 := hG.bulk
  rw [names_snoc]
  omega
end Wk
end Go.Proofs.YtfilbknnpjbmcaaGreatDoor
