/- The last piece of a path, a path without slashes behind, last names, what is wrong with a path: as lists of bytes. No program. -/
import Derived.Test.YtfilbknnpjbmcaaGreatKa01
import Derived.Lib.TrimByte
import Derived.Lib.LastIndexByte
import Derived.Shelf.Strings.Trim
import Derived.Shelf.Strings.Search3
import Derived.Test.YtfilbknnpjbmcaaGreatKa03
namespace Go.Proofs.YtfilbknnpjbmcaaGreat
open Go
namespace Px

def lastP (s : B) : B := (pieces s).getLastD []
def dirL (s : B) : Bool := (lastP s == [] && !(s == [])) || lastP s == [46] || lastP s == [46, 46]
def trimL (s : B) : B := Lib.trimRightB s 47
/-- The last piece that has bytes. -/
def lastF (s : B) : B := lastP (trimL s)
def checkL (s : B) : Nat :=
  if s.any (fun c => c == 0) || s == [] then 4 else if 256 < s.length then 40 else if (stepsL s).all fun p => p == [46, 46] || nameL p then 0 else 4

theorem getLastD_append {α : Type} {l r : List α} {d : α} (h : r ≠ []) : (l ++ r).getLastD d = r.getLastD d := by
  cases r with
  | nil => exact absurd rfl h
  | cons x r =>
    rw [List.getLastD_eq_getLast?, List.getLastD_eq_getLast?, List.getLast?_append]
    cases e : (x :: r).getLast? with
    | none => rw [List.getLast?_eq_none_iff] at e; cases e
    | some y => rfl
theorem lastP_join (a b : B) : lastP (a ++ 47 :: b) = lastP b := by
  unfold lastP
  rw [pieces_join, getLastD_append (pieces_ne b)]
theorem lastP_none {a : B} (h : ∀ x ∈ a, x ≠ 47) : lastP a = a := by
  unfold lastP
  rw [pieces_none a h]
  rfl
theorem trim_snoc (a : B) : trimL (a ++ [47]) = trimL a := by
  unfold trimL Lib.trimRightB
  simp
theorem trim_other {a : B} {c : UInt8} (h : c ≠ 47) : trimL (a ++ [c]) = a ++ [c] := by
  unfold trimL Lib.trimRightB
  rw [List.reverse_append]
  show (List.dropWhile (· == 47) (c :: a.reverse)).reverse = _
  rw [List.dropWhile_cons, if_neg (by simpa using h)]
  simp
theorem trim_nil : trimL [] = [] := rfl
theorem pieces_slash (a : B) : pieces (a ++ [47]) = pieces a ++ [[]] := pieces_join a []
/-- The pieces that have bytes, from behind: the first one is the last piece of the text without slashes behind it. -/
theorem lastF_at (s : B) : lastF s = (((pieces s).reverse.find? fun p => !(p == [])).getD []) := by
  unfold lastF
  have key : ∀ (n : Nat) (s : B), s.length = n → lastP (trimL s) = (((pieces s).reverse.find? fun p => !(p == [])).getD []) := by
    intro n
    induction n with
    | zero =>
      intro s h
      obtain rfl : s = [] := List.length_eq_zero_iff.1 h
      rfl
    | succ n ih =>
      intro s h
      have hne : s ≠ [] := by intro e; rw [e] at h; cases h
      obtain ⟨a, c, rfl⟩ : ∃ a c, s = a ++ [c] := ⟨s.dropLast, s.getLast hne, (List.dropLast_concat_getLast hne).symm⟩
      have ha : a.length = n := by simpa using h
      by_cases hc : c = 47
      · subst hc
        rw [trim_snoc, pieces_slash, List.reverse_append]
        show _ = (List.find? (fun p => !(p == [])) ([] :: (pieces a).reverse)).getD []
        rw [List.find?_cons]
        simp only [BEq.rfl, Bool.not_true]
        exact ih a ha
      · rw [trim_other hc]
        have hp : lastP (a ++ [c]) ≠ [] := by
          have key2 : ∀ a : B, lastP (a ++ [c]) ≠ [] := by
            intro a
            induction a with
            | nil =>
              rw [List.nil_append, lastP_none (by simpa using hc)]
              simp
            | cons x a ih2 =>
              by_cases hx : x = 47
              · subst hx
                have := lastP_join [] (a ++ [c])
                rw [List.nil_append] at this
                rw [List.cons_append, this]
                exact ih2
              · unfold lastP at ih2 ⊢
                rw [List.cons_append, pieces, if_neg hx]
                cases hq : pieces (a ++ [c]) with
                | nil => exact absurd hq (pieces_ne _)
                | cons q r =>
                  rw [hq] at ih2
                  cases r with
                  | nil => simp
                  | cons y r =>
                    simpa using ih2
          exact key2 a
        unfold lastP at hp ⊢
        generalize pieces (a ++ [c]) = ps at hp
        cases hps : ps.reverse with
        | nil =>
          obtain rfl : ps = [] := by simpa using hps
          exact absurd rfl hp
        | cons y r =>
          have e : ps = r.reverse ++ [y] := by rw [← List.reverse_reverse ps, hps]; simp
          rw [e] at hp ⊢
          rw [getLastD_append (by simp)] at hp ⊢
          have hy : y ≠ [] := hp
          rw [List.find?_cons, show (!(y == [])) = true from by simpa using hy]
          rfl
  exact key s.length s rfl
theorem lastP_index {s : ByteArray} {k : Nat} (h : Lib.lastIndexByte s 47 = k) : lastP s.data.toList = s.data.toList.drop (k + 1) ∧ k < s.size := by
  have hs := Lib.lastIdx_spec s 47 s.size
  unfold Lib.lastIndexByte at h
  rcases hs with ⟨h1, _⟩ | ⟨i, hi, h1, h2, h3⟩
  · rw [h1] at h; omega
  · obtain rfl : i = k := by rw [h1] at h; omega
    have hlt : i < s.data.toList.length := by rw [← Lib.size_eq]; exact hi
    have hat : ∀ j, j < s.size → s.data[j]! = s.data.toList.getD j 0 := by
      intro j hj
      have hj' : j < s.data.size := hj
      rw [getElem!_pos s.data j hj', List.getD_eq_getElem?_getD, List.getElem?_eq_getElem (by rw [← Lib.size_eq]; exact hj)]
      rfl
    have h47 : s.data.toList[i] = 47 := by
      rw [hat i hi, List.getD_eq_getElem?_getD, List.getElem?_eq_getElem hlt] at h2
      apply UInt8.toNat_inj.1
      have : ((s.data.toList[i]).toNat : Int) = 47 := h2
      show _ = 47
      omega
    refine ⟨?_, hi⟩
    have hsplit : s.data.toList = s.data.toList.take i ++ 47 :: s.data.toList.drop (i + 1) := by
      rw [← h47, ← List.drop_eq_getElem_cons hlt, List.take_append_drop]
    have hd : ∀ x ∈ s.data.toList.drop (i + 1), x ≠ 47 := by
      intro x hx e
      obtain ⟨j, hj, hj2⟩ := List.mem_iff_getElem.1 hx
      rw [List.length_drop, ← Lib.size_eq] at hj
      have := h3 (i + 1 + j) (by omega) (by omega)
      rw [hat _ (by omega), List.getD_eq_getElem?_getD, List.getElem?_eq_getElem (by rw [← Lib.size_eq]; omega)] at this
      rw [List.getElem_drop] at hj2
      apply this
      have hb : i + 1 + j < s.data.toList.length := by rw [← Lib.size_eq]; omega
      show ((s.data.toList[i + 1 + j]'hb).toNat : Int) = 47
      rw [hj2, e]
      rfl
    have h4 : lastP s.data.toList = lastP (s.data.toList.take i ++ 47 :: s.data.toList.drop (i + 1)) := congrArg lastP hsplit
    rw [h4, lastP_join, lastP_none hd]
theorem lastP_noindex {s : ByteArray} (h : Lib.lastIndexByte s 47 = -1) : lastP s.data.toList = s.data.toList := by
  have hs := Lib.lastIdx_spec s 47 s.size
  unfold Lib.lastIndexByte at h
  rcases hs with ⟨_, h1⟩ | ⟨i, hi, h1, _⟩
  · refine lastP_none fun x hx e => ?_
    obtain ⟨j, hj, hj2⟩ := List.mem_iff_getElem.1 hx
    have hj' : j < s.data.size := by simpa using hj
    apply h1 j hj'
    rw [getElem!_pos s.data j hj']
    have : s.data[j] = 47 := by rw [← Array.getElem_toList, hj2, e]
    rw [this]
    rfl
  · rw [h1] at h; omega
theorem lastIndex_ge (s : ByteArray) : -1 ≤ Lib.lastIndexByte s 47 := by
  have hs := Lib.lastIdx_spec s 47 s.size
  unfold Lib.lastIndexByte
  rcases hs with ⟨h1, _⟩ | ⟨i, hi, h1, _⟩ <;> rw [h1] <;> omega
theorem trim_size (s : B) : (trimL s).length ≤ s.length := by
  unfold trimL Lib.trimRightB
  rw [List.length_reverse]
  have := (List.dropWhile_sublist (fun x : UInt8 => x == 47) (l := s.reverse)).length_le
  simpa using this
theorem lastP_size (s : B) : (lastP s).length ≤ s.length := by
  unfold lastP
  rw [List.getLastD_eq_getLast?]
  cases h : (pieces s).getLast? with
  | none => simp
  | some p => exact pieces_size s p (List.mem_of_getLast? h)
/-- Is the last piece empty? There is more than one, just if the text is not empty. -/
theorem pieces_one (s : B) (h : lastP s = []) : (1 < (pieces s).length) ↔ s ≠ [] := by
  cases s with
  | nil => simp [pieces]
  | cons c l =>
    refine ⟨fun _ => by simp, fun _ => ?_⟩
    apply Classical.byContradiction
    intro hn
    unfold lastP at h
    cases hp : pieces (c :: l) with
    | nil => exact absurd hp (pieces_ne _)
    | cons q r =>
      rw [hp] at h hn
      cases r with
      | cons y r => simp at hn
      | nil =>
        have hq : q = [] := h
        subst hq
        unfold pieces at hp
        split at hp
        · have := pieces_ne l
          simp at hp
          exact this hp
        · split at hp <;> simp at hp
end Px
end Go.Proofs.YtfilbknnpjbmcaaGreat
/- The library's contracts at this dump: trimming, whether a byte is in a text. Laid by the shelf's plain mode. -/
namespace Go.Proofs
open Go.Shelf
end Go.Proofs
