/- Assignments as data: what the program and the reference ask of a word's first text. No walk but the copy of a string. -/
import Derived.Test.YtpibjhlldlbocaaGreatSynU
import Derived.Test.YtpibjhlldlbocaaGreatLib2
namespace Go.Proofs.YtpibjhlldlbocaaGreat
open Go.RowKit Sx Go.Proofs

namespace Sx
def noEq (b : UInt8) : Bool := !(b == 61)
/-- Is there an = behind a name? -/
def assigns (l : List UInt8) : Bool := !(l.dropWhile noEq).isEmpty && isName (l.takeWhile noEq)
theorem nlen_stop : ∀ (z : Bool) (m : Nat) (pre post : List UInt8), nlen z m (pre ++ 61 :: post) = nlen z m pre
  | _, 0, _, _ => by simp [nlen]
  | z, m + 1, [], post => by
    have : (letter 61 || (!z && digit 61)) = false := by cases z <;> decide
    simp [nlen, this]
  | z, m + 1, b :: pre, post => by
    have ih := nlen_stop false m pre post
    rw [List.cons_append, nlen, nlen, ih]
theorem take_drop (l : List UInt8) : l = l.takeWhile noEq ++ l.dropWhile noEq := (List.takeWhile_append_dropWhile).symm
theorem drop_head : ∀ {l : List UInt8}, l.dropWhile noEq ≠ [] → ∃ post, l.dropWhile noEq = 61 :: post
  | [], h => absurd rfl h
  | b :: l, h => by
    by_cases hb : b = 61
    · subst hb
      exact ⟨l, by rw [List.dropWhile_cons]; rfl⟩
    · have hn : noEq b = true := by unfold noEq; rw [show (b == 61) = false from beq_eq_false_iff_ne.2 hb]; rfl
      have e : (b :: l).dropWhile noEq = l.dropWhile noEq := by rw [List.dropWhile_cons, if_pos hn]
      rw [e] at h ⊢
      exact drop_head h
theorem take_none : ∀ {l : List UInt8} {b : UInt8}, b ∈ l.takeWhile noEq → b ≠ 61
  | c :: l, b, h => by
    by_cases hc : c = 61
    · subst hc
      rw [List.takeWhile_cons] at h
      simp [noEq] at h
    · have hn : noEq c = true := by unfold noEq; rw [show (c == 61) = false from beq_eq_false_iff_ne.2 hc]; rfl
      have e : (c :: l).takeWhile noEq = c :: l.takeWhile noEq := by rw [List.takeWhile_cons, if_pos hn]
      rw [e] at h
      rcases List.mem_cons.1 h with rfl | h
      · exact hc
      · exact take_none h
theorem nlen_take : ∀ (z : Bool) (m : Nat) (l : List UInt8) (b : UInt8), b ∈ l.take (nlen z m l) → b ≠ 61
  | _, 0, _, _, h => by simp [nlen] at h
  | _, _ + 1, [], _, h => by simp at h
  | z, m + 1, c :: l, b, h => by
    rw [nlen] at h
    by_cases hc : (letter c || (!z && digit c)) = true
    · rw [if_pos hc, List.take_succ_cons] at h
      rcases List.mem_cons.1 h with rfl | h
      · rintro rfl
        cases z <;> exact absurd hc (by decide)
      · exact nlen_take false m l b h
    · rw [if_neg hc] at h
      simp at h
/-- What the program asks is what the reference asks. -/
theorem assigns_len (l : List UInt8) : assigns l = (!(nameLen l == 0) && Lib.hasPrefix (l.drop (nameLen l)) [61]) := by
  unfold assigns
  by_cases hd : l.dropWhile noEq = []
  · rw [hd]
    have hp : Lib.hasPrefix (l.drop (nameLen l)) [61] = false := by
      rw [Bool.eq_false_iff]
      intro h
      have hall : l = l.takeWhile noEq := by have := take_drop l; rw [hd, List.append_nil] at this; exact this
      unfold Lib.hasPrefix at h
      cases hx : l.drop (nameLen l) with
      | nil => rw [hx] at h; cases h
      | cons b r =>
        rw [hx] at h
        have hb : b = 61 := by
          have := h
          simp [List.isPrefixOf] at this
          exact this.symm
        have hm : b ∈ l := by
          have : b ∈ l.drop (nameLen l) := by rw [hx]; simp
          exact List.mem_of_mem_drop this
        rw [hall] at hm
        exact take_none hm hb
    rw [hp]
    simp
  · obtain ⟨post, hpost⟩ := drop_head hd
    have hl := take_drop l
    have hno : ∀ b ∈ l.takeWhile noEq, b ≠ 61 := fun b hb => take_none hb
    rw [hpost] at hl
    generalize l.takeWhile noEq = pre at hl hno ⊢
    have hL : nameLen l = nameLen pre := by
      unfold nameLen
      rw [hl]
      exact nlen_stop _ _ _ _
    have hle : nameLen pre ≤ pre.length := nlen_len _ _ _
    rw [hL, name_len, hpost]
    have hpre : Lib.hasPrefix (l.drop (nameLen pre)) [61] = (nameLen pre == pre.length) := by
      rw [hl]
      unfold Lib.hasPrefix
      rcases Nat.lt_or_ge (nameLen pre) pre.length with h | h
      · rw [List.drop_append_of_le_length (by omega), List.drop_eq_getElem_cons h, List.cons_append]
        have hb := hno _ (List.getElem_mem h)
        have e1 : ((61 : UInt8) == pre[nameLen pre]) = false := by
          rw [Bool.eq_false_iff]
          intro e
          exact hb (beq_iff_eq.1 e).symm
        have e2 : (nameLen pre == pre.length) = false := by
          rw [Bool.eq_false_iff]
          intro e
          have := beq_iff_eq.1 e
          omega
        simp [List.isPrefixOf, e1, e2]
      · have he : nameLen pre = pre.length := by omega
        rw [he, List.drop_left]
        simp [List.isPrefixOf]
    rw [hpre]
    cases pre with
    | nil => rfl
    | cons b r =>
      cases h : (nameLen (b :: r) == (b :: r).length) with
      | false => simp
      | true =>
        have := beq_iff_eq.1 h
        simp [this]
theorem assigns_name {l : List UInt8} (h : assigns l = true) : l.takeWhile noEq = l.take (nameLen l) ∧ nameLen l < l.length ∧ l[nameLen l]? = some 61 := by
  have h2 := assigns_len l
  rw [h] at h2
  unfold assigns at h
  simp only [Bool.and_eq_true, Bool.not_eq_true'] at h
  have hd : l.dropWhile noEq ≠ [] := by intro e; rw [e] at h; simp at h
  obtain ⟨post, hpost⟩ := drop_head hd
  have hl := take_drop l
  rw [hpost] at hl
  have hn := h.2
  rw [name_len] at hn
  generalize l.takeWhile noEq = pre at hl hn ⊢
  have hL : nameLen l = nameLen pre := by
    unfold nameLen
    rw [hl]
    exact nlen_stop _ _ _ _
  simp only [Bool.and_eq_true, beq_iff_eq] at hn
  rw [hL, hn.2, hl]
  simp
def Word.assigns (x : Word) : Bool :=
  match x.parts with
  | [] => false
  | p :: _ => !p.var && !p.quoted && Sx.assigns p.text.data.toList
/-- The parts of what is assigned. -/
def Word.valueParts (x : Word) : List Part :=
  match x.parts with
  | [] => []
  | p :: r => (if nameLen p.text.data.toList + 1 < p.text.size then [⟨false, p.text.extract (nameLen p.text.data.toList + 1) p.text.size, false⟩] else []) ++ r
def Word.assignName (x : Word) : ByteArray :=
  match x.parts with
  | [] => ⟨#[]⟩
  | p :: _ => p.text.extract 0 (nameLen p.text.data.toList)
end Sx

theorem clone_any (s : ByteArray) (w : World) (hs : s.size ≤ 2000000) :
    Calls Tryz.prog 42 #[.string s] w fun e w' => e = .returned (.string s) ∧ Below w.heap.size w w' := by
  have HC := Lib.hid (Tryz.stringslite_Clone s w (by omega))
  go_enter Tryz.func42, Tryz.ntmps42
  go_wp2_with fail
  refine HC.out.mono ?_
  rintro e w2 ⟨rfl, hb2⟩
  have HB2 := Lib.hid hb2
  clear hb2
  go_wp2
  go_ret
  exact ⟨rfl, HB2.out⟩
end Go.Proofs.YtpibjhlldlbocaaGreat
