/- Places as lists of texts: which stands ahead, which stands under which; where a slice's texts lie. No program. -/
import Derived.Test.YtfilbknnpjbmcaaGreatRows
import Derived.Below
import Derived.Deep.Strs
import Derived.Deep.Draws
import Derived.Lib.Hide
import Derived.Lib.Strings
import Derived.Sort.Walk0
import Derived.Laws.Rows
namespace Go.Proofs.YtfilbknnpjbmcaaGreat
open Go Go.RowKit
namespace Px

/-- Texts that stand where a slice points. -/
def Strs (w : World) (p : Option Addr) (xs : List ByteArray) : Prop :=
  ∀ i, i < xs.length → ∃ b o, p = some ⟨b, o, none⟩ ∧ w.cell? ⟨b, o + i, none⟩ = some (.string (xs.getD i ByteArray.empty))
theorem Strs.grown {W w : World} (hb : Below W.heap.size W w) {p : Option Addr} {xs : List ByteArray} (h : Strs W p xs) : Strs w p xs := by
  intro i hi
  obtain ⟨b, o, h1, h2⟩ := h i hi
  refine ⟨b, o, h1, ?_⟩
  rw [hb.cell (World.block_lt_of_cell? _ _ h2)]
  exact h2
theorem Strs.drewN {w : World} {n : Nat} {p : Option Addr} {xs : List ByteArray} (h : Strs w p xs) : Strs (w.drewN n) p xs := by
  intro i hi
  obtain ⟨b, o, h1, h2⟩ := h i hi
  exact ⟨b, o, h1, by simpa using h2⟩

/-- Does the first list stand ahead of the second one? -/
def lessL : List ByteArray → List ByteArray → Bool
  | _, [] => false
  | [], _ :: _ => true
  | x :: l, y :: r => if x = y then lessL l r else Op.bytesLess x.toList y.toList
/-- Is the second list the first one, or goes it on? -/
def underL (l r : List ByteArray) : Bool := decide (l = r.take l.length)
def sameL (l r : List ByteArray) : Bool := decide (l = r)
def cmpB (x y : ByteArray) : Int := if Op.bytesLess x.toList y.toList then -1 else if x = y then 0 else 1
def cmpL : List ByteArray → List ByteArray → Int
  | [], [] => 0
  | [], _ :: _ => -1
  | _ :: _, [] => 1
  | x :: l, y :: r => if cmpB x y = 0 then cmpL l r else cmpB x y
/-- Are places more than a statement goes over? -/
def longL (l : List ByteArray) : Bool := decide (100 < l.length) || l.any fun x => decide (500 < x.size)

theorem bl (x y : ByteArray) : Op.bytesLess x.toList y.toList = decide (x.toList < y.toList) := Go.Proofs.bytesLess_eq _ _
theorem toList_inj {x y : ByteArray} (h : x.toList = y.toList) : x = y := by
  rw [Lib.toList_data, Lib.toList_data] at h
  cases x; cases y
  simp at h
  simp [h]
theorem cmpB_zero (x y : ByteArray) : cmpB x y = 0 ↔ x = y := by
  unfold cmpB
  constructor
  · intro h
    split at h
    · omega
    · split at h
      · assumption
      · omega
  · rintro rfl
    rw [bl, decide_eq_false (List.lt_irrefl _)]
    simp
theorem cmpB_neg (x y : ByteArray) : decide (cmpB x y < 0) = Op.bytesLess x.toList y.toList := by
  unfold cmpB
  split
  · rename_i h; rw [h]; rfl
  · rename_i h
    rw [Bool.eq_false_iff.2 h]
    split <;> rfl
theorem cmpB_le (x y : ByteArray) : -1 ≤ cmpB x y ∧ cmpB x y ≤ 1 := by
  unfold cmpB
  split
  · omega
  · split <;> omega
theorem cmpL_le : ∀ l r : List ByteArray, -1 ≤ cmpL l r ∧ cmpL l r ≤ 1
  | [], [] => by simp [cmpL]
  | [], _ :: _ => by simp [cmpL]
  | _ :: _, [] => by simp [cmpL]
  | x :: l, y :: r => by
    have := cmpL_le l r
    have := cmpB_le x y
    unfold cmpL
    split <;> omega
theorem cmpL_less : ∀ l r : List ByteArray, decide (cmpL l r < 0) = lessL l r
  | [], [] => by simp [cmpL, lessL]
  | [], _ :: _ => by simp [cmpL, lessL]
  | _ :: _, [] => by simp [cmpL, lessL]
  | x :: l, y :: r => by
    have := cmpL_less l r
    unfold cmpL lessL
    by_cases h : x = y
    · rw [if_pos ((cmpB_zero x y).2 h), if_pos h, this]
    · rw [if_neg (fun h' => h ((cmpB_zero x y).1 h')), if_neg h, cmpB_neg]
theorem cmpL_drop {l r : List ByteArray} {k : Nat} (h : k < l.length) (h' : k < r.length) :
    cmpL (l.drop k) (r.drop k) = if cmpB (l.getD k ByteArray.empty) (r.getD k ByteArray.empty) = 0 then cmpL (l.drop (k + 1)) (r.drop (k + 1)) else cmpB (l.getD k ByteArray.empty) (r.getD k ByteArray.empty) := by
  rw [List.drop_eq_getElem_cons h, List.drop_eq_getElem_cons h', cmpL]
  simp [List.getD_eq_getElem?_getD, h, h']
theorem cmpL_end {l r : List ByteArray} {k : Nat} (h : k = l.length) : cmpL (l.drop k) (r.drop k) = if k < r.length then -1 else 0 := by
  subst h
  rw [List.drop_length]
  split
  · rename_i h
    rw [List.drop_eq_getElem_cons h, cmpL]
  · rename_i h
    rw [List.drop_of_length_le (by omega), cmpL]
theorem cmpL_over {l r : List ByteArray} {k : Nat} (h : k < l.length) (h' : r.length ≤ k) : cmpL (l.drop k) (r.drop k) = 1 := by
  rw [List.drop_eq_getElem_cons h, List.drop_of_length_le h', cmpL]
theorem lessL_drop {l r : List ByteArray} {k : Nat} (h : k < l.length) (h' : k < r.length) :
    lessL (l.drop k) (r.drop k) = if l.getD k ByteArray.empty = r.getD k ByteArray.empty then lessL (l.drop (k + 1)) (r.drop (k + 1)) else Op.bytesLess (l.getD k ByteArray.empty).toList (r.getD k ByteArray.empty).toList := by
  rw [List.drop_eq_getElem_cons h, List.drop_eq_getElem_cons h', lessL]
  simp [List.getD_eq_getElem?_getD, h, h']
theorem lessL_end {l r : List ByteArray} {k : Nat} (h : l.length ≤ k ∨ r.length ≤ k) (hl : k ≤ l.length) (hr : k ≤ r.length) : lessL (l.drop k) (r.drop k) = decide (l.length < r.length) := by
  by_cases h' : k < r.length
  · have h1 : k = l.length := by omega
    subst h1
    rw [List.drop_length, List.drop_eq_getElem_cons h', lessL, decide_eq_true h']
  · rw [List.drop_of_length_le (l := r) (by omega), decide_eq_false (by omega)]
    cases l.drop k <;> rfl

theorem lessL_irrefl : ∀ l, lessL l l = false
  | [] => rfl
  | x :: l => by
    unfold lessL
    rw [if_pos rfl, lessL_irrefl l]
theorem lessL_asymm : ∀ l r, lessL l r = true → lessL r l = false
  | _, [], h => by cases ‹List ByteArray› <;> simp [lessL] at h
  | [], _ :: _, _ => rfl
  | x :: l, y :: r, h => by
    unfold lessL at h ⊢
    by_cases e : x = y
    · rw [if_pos e] at h
      rw [if_pos e.symm, lessL_asymm l r h]
    · rw [if_neg e, bl] at h
      rw [if_neg (fun h => e h.symm), bl]
      have := of_decide_eq_true h
      exact decide_eq_false (List.lt_asymm this)
theorem lessL_total : ∀ l r, lessL l r = false → lessL r l = false → l = r
  | [], [], _, _ => rfl
  | [], _ :: _, h, _ => by simp [lessL] at h
  | _ :: _, [], _, h => by simp [lessL] at h
  | x :: l, y :: r, h, h' => by
    unfold lessL at h h'
    by_cases e : x = y
    · rw [if_pos e] at h
      rw [if_pos e.symm] at h'
      rw [e, lessL_total l r h h']
    · rw [if_neg e, bl] at h
      rw [if_neg (fun h => e h.symm), bl] at h'
      have h1 := of_decide_eq_false h
      have h2 := of_decide_eq_false h'
      exact absurd (toList_inj (List.le_antisymm (List.not_lt.1 h2) (List.not_lt.1 h1))) e
theorem lessL_trans : ∀ a b c, lessL a b = true → lessL b c = true → lessL a c = true
  | _, [], _, h, _ => by cases ‹List ByteArray› <;> simp [lessL] at h
  | _, _ :: _, [], _, h => by simp [lessL] at h
  | [], _ :: _, _ :: _, _, _ => rfl
  | x :: a, y :: b, z :: c, h, h' => by
    unfold lessL at h h' ⊢
    by_cases e : x = y
    · subst e
      rw [if_pos rfl] at h
      by_cases e' : x = z
      · rw [if_pos e'] at h'
        rw [if_pos e', lessL_trans a b c h h']
      · rw [if_neg e'] at h' ⊢
        exact h'
    · rw [if_neg e] at h
      by_cases e' : y = z
      · subst e'
        rw [if_neg e]
        exact h
      · rw [if_neg e'] at h'
        rw [bl] at h h'
        have h1 := List.lt_trans (of_decide_eq_true h) (of_decide_eq_true h')
        rw [if_neg (fun h => by subst h; exact absurd h1 (List.lt_irrefl _)), bl]
        exact decide_eq_true h1
theorem underL_iff (l r : List ByteArray) : underL l r = true ↔ l <+: r := by
  unfold underL
  rw [decide_eq_true_iff, List.prefix_iff_eq_take]
theorem underL_trans {a b c : List ByteArray} (h : underL a b = true) (h' : underL b c = true) : underL a c = true := by
  rw [underL_iff] at *
  exact h.trans h'
theorem lessL_prefix : ∀ l r : List ByteArray, lessL (l ++ r) l = false
  | [], r => by cases r <;> rfl
  | x :: l, r => by
    rw [List.cons_append, lessL, if_pos rfl, lessL_prefix l r]
theorem underL_less {a c : List ByteArray} (h : underL a c = true) : lessL c a = false := by
  rw [underL_iff] at h
  obtain ⟨r, rfl⟩ := h
  exact lessL_prefix a r
/-- What the statement on order asks of three lists. -/
def orderL (a b c : List ByteArray) : Bool :=
  if lessL a b && lessL b a || ((lessL a b || lessL b a) == sameL a b) || (lessL a b && lessL b c && !lessL a c) then false
  else !(underL a b && underL b c) || (underL a c && !lessL c a)
theorem order_true (a b c : List ByteArray) : orderL a b c = true := by
  unfold orderL
  have h1 : (lessL a b && lessL b a) = false := by
    cases h : lessL a b with
    | true => rw [lessL_asymm a b h]; rfl
    | false => rfl
  have h2 : ((lessL a b || lessL b a) == sameL a b) = false := by
    unfold sameL
    by_cases e : a = b
    · subst e
      rw [lessL_irrefl a]
      simp
    · rw [decide_eq_false e]
      cases h : lessL a b with
      | true => simp
      | false =>
        cases h' : lessL b a with
        | true => simp
        | false => exact absurd (lessL_total a b h h') e
  have h3 : (lessL a b && lessL b c && !lessL a c) = false := by
    cases h : lessL a b with
    | false => rfl
    | true =>
      cases h' : lessL b c with
      | false => rfl
      | true => rw [lessL_trans a b c h h']; rfl
  rw [h1, h2, h3]
  simp only [Bool.false_or, Bool.false_eq_true, if_false]
  cases h : underL a b with
  | false => rfl
  | true =>
    cases h' : underL b c with
    | false => rfl
    | true =>
      have := underL_trans h h'
      rw [this, underL_less this]
      rfl
end Px
end Go.Proofs.YtfilbknnpjbmcaaGreat
