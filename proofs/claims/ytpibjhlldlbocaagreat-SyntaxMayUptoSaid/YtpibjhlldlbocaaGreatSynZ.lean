/- Walks of the program's syntax: is there an assignment of that value to that name? -/
import Derived.Test.YtpibjhlldlbocaaGreatSynX
namespace Go.Proofs.YtpibjhlldlbocaaGreat
open Go.RowKit Sx Go.Proofs

namespace Sx
def eqB : ByteArray := ⟨#[61]⟩
/-- The word that is an assignment of these parts to that name: the program's, and the reference's. -/
def dWhole (name : ByteArray) : List Part → List Part
  | [] => [⟨false, name ++ eqB, false⟩]
  | p :: r => if !p.var && !p.quoted then ⟨false, name ++ eqB ++ p.text, false⟩ :: r else ⟨false, name ++ eqB, false⟩ :: p :: r
def rWhole (name : ByteArray) : List Part → List Part
  | [] => [⟨false, name ++ eqB, false⟩]
  | p :: r => if !p.var && !p.quoted && !p.text.toList.isEmpty then ⟨false, name ++ eqB ++ p.text, false⟩ :: r else ⟨false, name ++ eqB, false⟩ :: p :: r
theorem samePs_refl : ∀ l : List Part, samePs l l = true
  | [] => rfl
  | p :: l => by
    unfold samePs sameP
    rw [samePs_refl l]
    simp
theorem nameNoEq {N : List UInt8} (h : isName N = true) : ∀ b ∈ N, noEq b = true := by
  intro b hb
  cases N with
  | nil => cases h
  | cons c r =>
    unfold isName at h
    simp only [Bool.and_eq_true] at h
    have := List.all_eq_true.1 h.2 b hb
    unfold noEq
    cases h61 : (b == 61) with
    | false => rfl
    | true =>
      have := beq_iff_eq.1 h61
      subst this
      revert this
      decide
theorem takeW_all : ∀ {N r : List UInt8}, (∀ b ∈ N, noEq b = true) → (N ++ 61 :: r).takeWhile noEq = N ∧ (N ++ 61 :: r).dropWhile noEq = 61 :: r
  | [], r, _ => by
    rw [List.nil_append, List.takeWhile_cons, List.dropWhile_cons]
    exact ⟨rfl, rfl⟩
  | b :: N, r, h => by
    have hb := h b (by simp)
    obtain ⟨h1, h2⟩ := takeW_all (N := N) (r := r) fun c hc => h c (by simp [hc])
    rw [List.cons_append, List.takeWhile_cons, if_pos hb, List.dropWhile_cons, if_pos hb, h1, h2]
    exact ⟨rfl, rfl⟩
theorem dropW_some (N r : List UInt8) : (N ++ 61 :: r).dropWhile noEq ≠ [] := by
  induction N with
  | nil => rw [List.nil_append, List.dropWhile_cons]; simp [noEq]
  | cons b N ih =>
    rw [List.cons_append, List.dropWhile_cons]
    split
    · exact ih
    · simp
theorem text_list (name t : ByteArray) : (name ++ eqB ++ t).data.toList = name.data.toList ++ 61 :: t.data.toList := by
  rw [ByteArray.data_append, ByteArray.data_append, Array.toList_append, Array.toList_append]
  simp [eqB]
theorem text_size (name t : ByteArray) : (name ++ eqB ++ t).size = name.size + 1 + t.size := by
  rw [ByteArray.size_append, ByteArray.size_append]
  rfl
/-- Whether the name is the one that is asked for. -/
theorem assigns_of (name t : ByteArray) : (assigns (name ++ eqB ++ t).data.toList && ((name ++ eqB ++ t).extract 0 (nameLen (name ++ eqB ++ t).data.toList)).toList == name.toList) = isName name.data.toList := by
  cases hN : isName name.data.toList with
  | true =>
    have hno := nameNoEq hN
    obtain ⟨h1, h2⟩ := takeW_all (r := t.data.toList) hno
    have hA : assigns (name ++ eqB ++ t).data.toList = true := by
      unfold assigns
      rw [text_list, h1, h2, hN]
      rfl
    obtain ⟨h3, _, _⟩ := assigns_name hA
    rw [hA, Bool.true_and, beq_iff_eq, Lib.toList_data, Lib.toList_data, ByteArray.data_extract, Array.toList_extract, List.extract_eq_take_drop, Nat.sub_zero, List.drop_zero, ← h3, text_list, h1]
  | false =>
    rw [Bool.eq_false_iff]
    intro h
    simp only [Bool.and_eq_true, beq_iff_eq] at h
    obtain ⟨h3, _, _⟩ := assigns_name h.1
    have h4 := h.2
    rw [Lib.toList_data, Lib.toList_data, ByteArray.data_extract, Array.toList_extract, List.extract_eq_take_drop, Nat.sub_zero, List.drop_zero, ← h3] at h4
    have h5 := h.1
    unfold assigns at h5
    rw [h4, hN] at h5
    simp at h5
theorem name_len_of {name t : ByteArray} (h : isName name.data.toList = true) : nameLen (name ++ eqB ++ t).data.toList = name.size := by
  have h1 : nameLen (name ++ eqB ++ t).data.toList = nameLen name.data.toList := by
    rw [text_list]
    unfold nameLen
    exact nlen_stop _ _ _ _
  rw [h1]
  rw [name_len] at h
  simp only [Bool.and_eq_true, beq_iff_eq] at h
  rw [h.2, ← Lib.size_eq]
theorem extract_text (name t : ByteArray) : ((name ++ eqB ++ t).extract (name.size + 1) (name ++ eqB ++ t).size).toList = t.toList := by
  rw [Lib.toList_data, Lib.toList_data, ByteArray.data_extract, Array.toList_extract, List.extract_eq_take_drop, List.take_of_length_le (by rw [List.length_drop, ← Lib.size_eq]; exact Nat.le_refl _), text_list]
  have : name.size + 1 = (name.data.toList ++ [61]).length := by rw [List.length_append, ← Lib.size_eq]; rfl
  rw [this, show name.data.toList ++ 61 :: t.data.toList = (name.data.toList ++ [61]) ++ t.data.toList by simp, List.drop_left]
def dAssign (name : ByteArray) (q : List Part) : Bool :=
  Word.assigns ⟨dWhole name q, 0⟩ && ((Word.assignName ⟨dWhole name q, 0⟩).toList == name.toList) && samePs (Word.valueParts ⟨dWhole name q, 0⟩) q && Word.may ⟨dWhole name q, 0⟩
theorem may_empty (x : Part) (t : ByteArray) (r : List Part) (a : Int) (h : t.toList.isEmpty = true) : Word.may ⟨x :: ⟨false, t, false⟩ :: r, a⟩ = false := by
  rw [Lib.toList_data] at h
  unfold Word.may mayPs mayPs partOk
  simp [h]
theorem dAssign_eq (name : ByteArray) (q : List Part) : dAssign name q = (isName name.data.toList && Word.may ⟨rWhole name q, 0⟩) := by
  have key : ∀ (t : ByteArray) (r : List Part), (Word.assigns ⟨⟨false, name ++ eqB ++ t, false⟩ :: r, 0⟩ && ((Word.assignName ⟨⟨false, name ++ eqB ++ t, false⟩ :: r, 0⟩).toList == name.toList)) = isName name.data.toList := fun t r => assigns_of name t
  have hnil : name ++ eqB = name ++ eqB ++ ⟨#[]⟩ := by rw [show (⟨#[]⟩ : ByteArray) = ByteArray.empty from rfl, ByteArray.append_empty]
  cases hN : isName name.data.toList with
  | false =>
    unfold dAssign
    have : (Word.assigns ⟨dWhole name q, 0⟩ && ((Word.assignName ⟨dWhole name q, 0⟩).toList == name.toList)) = false := by
      rw [← hN]
      unfold dWhole
      split
      · rw [hnil]; exact key _ _
      · split
        · exact key _ _
        · rw [hnil]; exact key _ _
    rw [this]
    rfl
  | true =>
    have vp : ∀ (t : ByteArray) (r : List Part), Word.valueParts ⟨⟨false, name ++ eqB ++ t, false⟩ :: r, 0⟩ = (if 0 < t.size then [⟨false, (name ++ eqB ++ t).extract (name.size + 1) (name ++ eqB ++ t).size, false⟩] else []) ++ r := by
      intro t r
      unfold Word.valueParts
      dsimp only
      rw [name_len_of hN, text_size]
      congr 1
      by_cases h : 0 < t.size
      · rw [if_pos h, if_pos (by omega)]
      · rw [if_neg h, if_neg (by omega)]
    unfold dAssign
    cases q with
    | nil =>
      rw [show dWhole name [] = [⟨false, name ++ eqB ++ ⟨#[]⟩, false⟩] by rw [← hnil]; rfl, show rWhole name [] = [⟨false, name ++ eqB ++ ⟨#[]⟩, false⟩] by rw [← hnil]; rfl, key, hN, vp]
      rw [if_neg (by decide), List.nil_append]
      rfl
    | cons p r =>
      obtain ⟨var, text, quoted⟩ := p
      cases hb : (!var && !quoted) with
      | false =>
        rw [show dWhole name (⟨var, text, quoted⟩ :: r) = ⟨false, name ++ eqB ++ ⟨#[]⟩, false⟩ :: ⟨var, text, quoted⟩ :: r by unfold dWhole; dsimp only; rw [hb, ← hnil]; rfl, show rWhole name (⟨var, text, quoted⟩ :: r) = ⟨false, name ++ eqB ++ ⟨#[]⟩, false⟩ :: ⟨var, text, quoted⟩ :: r by unfold rWhole; dsimp only; rw [hb, ← hnil]; rfl, key, hN, vp]
        rw [if_neg (by decide), List.nil_append, samePs_refl]
        rfl
      | true =>
        have hvar : var = false := by cases var with
          | false => rfl
          | true => cases hb
        have hq : quoted = false := by cases quoted with
          | false => rfl
          | true => cases var <;> cases hb
        subst hvar
        subst hq
        rw [show dWhole name (⟨false, text, false⟩ :: r) = ⟨false, name ++ eqB ++ text, false⟩ :: r from rfl, key, hN, vp]
        by_cases h : 0 < text.size
        · have he := full_of h
          rw [if_pos h, show rWhole name (⟨false, text, false⟩ :: r) = ⟨false, name ++ eqB ++ text, false⟩ :: r by unfold rWhole; dsimp only; rw [he]; rfl]
          have hs : samePs ([⟨false, (name ++ eqB ++ text).extract (name.size + 1) (name ++ eqB ++ text).size, false⟩] ++ r) (⟨false, text, false⟩ :: r) = true := by
            rw [List.singleton_append]
            unfold samePs sameP
            dsimp only
            rw [extract_text, samePs_refl]
            simp
          rw [hs]
          rfl
        · have he : text.toList.isEmpty = true := by rw [empty_of (by omega)]; rfl
          rw [if_neg h, List.nil_append, samePs_len (by simp)]
          rw [show rWhole name (⟨false, text, false⟩ :: r) = ⟨false, name ++ eqB, false⟩ :: ⟨false, text, false⟩ :: r by unfold rWhole; dsimp only; rw [he]; rfl, may_empty _ _ _ _ he]
          rfl
/-- A name of a command's is a name. -/
theorem cmdName_name (l : List UInt8) : isCmdName l = isName l := by
  unfold isCmdName isParam
  cases l with
  | nil => rfl
  | cons b r =>
    cases r with
    | nil =>
      by_cases h : 49 ≤ b.toNat ∧ b.toNat ≤ 57 ∨ b.toNat = 35 ∨ b.toNat = 63
      · have hl : letter b = false := by unfold letter; simp only [decide_eq_false_iff_not]; omega
        have hn : isName [b] = false := by unfold isName; simp [hl]
        simp [hl, hn]
      · cases hn : isName [b] with
        | false => simp [h]
        | true =>
          have hl : letter b = true := by unfold isName at hn; simp only [Bool.and_eq_true] at hn; exact hn.1.2
          simp [h, hl]
    | cons c r =>
      cases hn : isName (b :: c :: r) with
      | false => simp
      | true =>
        have hl : letter b = true := by unfold isName at hn; simp only [Bool.and_eq_true] at hn; exact hn.1.2
        simp [hl]
end Sx

theorem assign_any {w : World} {cs : List Value} {x : Word} (hx : WordR w cs x) (hB : x.bulk ≤ 2000000) :
    Calls Tryz.prog 55 #[.agg cs.toArray] w fun e w' => (∃ nm vs v, e = .returned (.tuple #[.string nm, .agg vs, .bool x.assigns]) ∧ WordR w' vs.toList v ∧ (x.assigns = true → nm = x.assignName ∧ v.parts = x.valueParts)) ∧ Below w.heap.size w w' := by
  cases hA : x.assigns with
  | false =>
    refine (assign_neg hx hB hA).mono ?_
    rintro e w' ⟨⟨nm, vs, v, h1, h2, _⟩, hb⟩
    exact ⟨⟨nm, vs, v, by rw [h1, hA], h2, fun h => by cases h⟩, hb⟩
  | true =>
    obtain ⟨p, c, rfl, h1, h2, h3⟩ := hx
    obtain ⟨parts, at_⟩ := x
    cases parts with
    | nil => cases hA
    | cons P r =>
      obtain ⟨var, text, quoted⟩ := P
      have h : (!var && !quoted && Sx.assigns text.data.toList) = true := hA
      simp only [Bool.and_eq_true, Bool.not_eq_true'] at h
      obtain ⟨⟨rfl, rfl⟩, hT⟩ := h
      obtain ⟨b, o, rfl, _⟩ := h3 0 (by simp)
      have hl : (⟨false, text, false⟩ :: r : List Part).length ≤ 2000000 := by
        have := sum_ge (f := Part.bulk) (fun p => Nat.succ_pos _) (⟨false, text, false⟩ :: r : List Part)
        unfold Word.bulk at hB
        dsimp only at hB
        omega
      have hbk : ∀ (i : Nat) q, (⟨false, text, false⟩ :: r : List Part)[i]? = some q → q.text.size ≤ 2000000 := fun i q hq => by
        have h : q.text.size + 1 ≤ ((⟨false, text, false⟩ :: r : List Part).map Part.bulk).sum := sum_at (f := Part.bulk) hq
        unfold Word.bulk at hB
        dsimp only at hB
        omega
      refine (assign_pos (at_ := at_) hl h1 (by simp) h3 hbk hT).mono ?_
      rintro e w' ⟨⟨nm, vs, v, h1, h2, h3, h4⟩, hb⟩
      exact ⟨⟨nm, vs, v, h1, h2, fun _ => ⟨h3, h4⟩⟩, hb⟩
end Go.Proofs.YtpibjhlldlbocaaGreat
