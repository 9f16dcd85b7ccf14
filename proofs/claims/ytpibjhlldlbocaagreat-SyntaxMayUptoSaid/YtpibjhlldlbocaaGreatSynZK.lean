/- What the program and the reference say of commands, as data, is the same. -/
import Derived.Test.YtpibjhlldlbocaaGreatSynZJ
namespace Go.Proofs.YtpibjhlldlbocaaGreat
open Go.RowKit Sx Go.Proofs
namespace Sx

theorem simple_same (name : ByteArray) (words : List Word) : dSimple name words = rSimple name words := by
  unfold dSimple rSimple
  split
  · cases words with
    | nil => rfl
    | cons x l => rfl
  · match words with
    | [] => rfl
    | [x] =>
      show dAssign name x.parts = (isCmdName name.data.toList && Word.may ⟨rWhole name x.parts, 0⟩)
      rw [dAssign_eq, cmdName_name]
    | _ :: _ :: _ => rfl

theorem kind_same (kd : Nat) (name : ByteArray) (words : List Word) (nk : Nat) (hnk : nk ≤ 2000000) : dAlone kd name words nk = rKind kd name words nk := by
  unfold dAlone dKind rKind
  rw [simple_same]
  by_cases k1 : kd = 1
  · subst k1
    rw [if_pos rfl, if_pos rfl, show least 1 = 0 from rfl, show most 1 = 0 from rfl]
    by_cases h : nk = 0
    · subst h; rfl
    · rw [decide_eq_false h, decide_eq_true (show (0 : Int) < (nk : Int) by omega)]; simp
  rw [if_neg k1, if_neg k1]
  by_cases k9 : kd = 9
  · subst k9
    rw [if_pos rfl, if_pos rfl, show least 9 = 1 from rfl, show most 9 = 1 from rfl]
    by_cases h : nk = 1
    · subst h; simp [Bool.and_assoc]
    · rw [decide_eq_false h]
      by_cases h0 : nk = 0
      · subst h0; rfl
      · rw [decide_eq_true (show (1 : Int) < (nk : Int) by omega)]; simp
  rw [if_neg k9, if_neg k9]
  have key : (!decide ((nk : Int) < least kd) && !decide (most kd < (nk : Int))) = rCount kd nk := by
    by_cases k2 : kd = 2
    · subst k2
      show (!decide ((nk : Int) < 1) && !decide (1 < (nk : Int))) = ((nk : Int) == 1)
      by_cases h : nk = 1
      · subst h; rfl
      · rw [beq_eq_false_iff_ne.2 (show (nk : Int) ≠ 1 by omega)]
        by_cases h0 : nk = 0
        · subst h0; rfl
        · rw [decide_eq_true (show (1 : Int) < (nk : Int) by omega)]; simp
    have two : (!decide ((nk : Int) < 2) && !decide (2 < (nk : Int))) = ((nk : Int) == 2) := by
      by_cases h : nk = 2
      · subst h; rfl
      · rw [beq_eq_false_iff_ne.2 (show (nk : Int) ≠ 2 by omega)]
        by_cases h0 : nk < 2
        · rw [decide_eq_true (show (nk : Int) < 2 by omega)]; rfl
        · rw [decide_eq_true (show (2 : Int) < (nk : Int) by omega)]; simp
    by_cases k3 : kd = 3
    · subst k3; exact two
    by_cases k4 : kd = 4
    · subst k4; exact two
    by_cases k7 : kd = 7
    · subst k7; exact two
    by_cases k8 : kd = 8
    · subst k8; exact two
    by_cases k5 : kd = 5
    · subst k5
      show (!decide ((nk : Int) < 2) && !decide ((9223372036854775807 : Int) < (nk : Int))) = decide ((nk : Int) > 1)
      rw [decide_eq_false (show ¬ (9223372036854775807 : Int) < (nk : Int) by omega)]
      by_cases h : (nk : Int) < 2
      · rw [decide_eq_true h, decide_eq_false (show ¬ (nk : Int) > 1 by omega)]; rfl
      · rw [decide_eq_false h, decide_eq_true (show (nk : Int) > 1 by omega)]; rfl
    by_cases k6 : kd = 6
    · subst k6
      show (!decide ((nk : Int) < 2) && !decide (3 < (nk : Int))) = ((nk : Int) == 2 || (nk : Int) == 3)
      by_cases h2 : nk = 2
      · subst h2; rfl
      by_cases h3 : nk = 3
      · subst h3; rfl
      rw [beq_eq_false_iff_ne.2 (show (nk : Int) ≠ 2 by omega), beq_eq_false_iff_ne.2 (show (nk : Int) ≠ 3 by omega)]
      by_cases h : (nk : Int) < 2
      · rw [decide_eq_true h]; rfl
      · rw [decide_eq_true (show (3 : Int) < (nk : Int) by omega)]; simp
    have hl : least kd = 1 := by unfold least; split <;> simp_all
    have hm : most kd = 0 := by unfold most; split <;> simp_all
    have hr : rCount kd nk = false := by unfold rCount; split <;> simp_all
    rw [hl, hm, hr]
    by_cases h : nk = 0
    · subst h; rfl
    · rw [decide_eq_true (show (0 : Int) < (nk : Int) by omega)]; simp
  rw [key]
  cases rCount kd nk <;> simp

mutual
theorem within_same : ∀ (c : Cmd) (n : Nat), c.bulk ≤ 1900000 → c.within n = (decide (c.depth ≤ n) && c.one)
  | .mk kd a name words kids, n, hB => by
    have hkb : Cmd.bulks kids ≤ 1900000 := by unfold Cmd.bulk at hB; omega
    have hlen : kids.length ≤ 2000000 := by have := Cmd.bulks_len kids; omega
    unfold Cmd.within Cmd.depth Cmd.one
    rw [kind_same _ _ _ _ hlen, withins_same kids (n - 1) hkb]
    cases n with
    | zero => simp
    | succ n =>
      have hd : decide (Cmd.depths kids + 1 ≤ n + 1) = decide (Cmd.depths kids ≤ n) := by simp
      rw [hd]
      simp only [Nat.add_sub_cancel]
      cases rKind kd.toNat name words kids.length <;> cases decide (Cmd.depths kids ≤ n) <;> cases Cmd.ones kids <;> simp
theorem withins_same : ∀ (l : List Cmd) (n : Nat), Cmd.bulks l ≤ 1900000 → Cmd.withins l n = (decide (Cmd.depths l ≤ n) && Cmd.ones l)
  | [], n, _ => by simp [Cmd.withins, Cmd.depths, Cmd.ones]
  | c :: r, n, hB => by
    have hB1 : c.bulk ≤ 1900000 := by unfold Cmd.bulks at hB; omega
    have hB2 : Cmd.bulks r ≤ 1900000 := by unfold Cmd.bulks at hB; omega
    unfold Cmd.withins Cmd.depths Cmd.ones
    rw [within_same c n hB1, withins_same r n hB2]
    have hm : decide (max c.depth (Cmd.depths r) ≤ n) = (decide (c.depth ≤ n) && decide (Cmd.depths r ≤ n)) := by
      by_cases h1 : c.depth ≤ n <;> by_cases h2 : Cmd.depths r ≤ n <;> simp [h1, h2] <;> omega
    rw [hm]
    cases decide (c.depth ≤ n) <;> cases decide (Cmd.depths r ≤ n) <;> cases c.one <;> cases Cmd.ones r <;> rfl
end

theorem may_same (c : Cmd) (hB : c.bulk ≤ 1900000) : dMay c = rMay c := by
  unfold dMay rMay
  split
  · rename_i h
    obtain ⟨kd, a, name, words, kids⟩ := c
    have hk : kd = 0 := h
    subst hk
    have hz : (⟨#[]⟩ : ByteArray).toList = [] := by rw [Lib.toList_data]
    cases words with
    | nil =>
      cases kids with
      | nil =>
        show ((0 : UInt8) == 0 && name.toList == (⟨#[]⟩ : ByteArray).toList && (0 : Nat) == 0 && (0 : Nat) == 0 && sameWs [] [] && Cmd.sames [] []) = (name.toList.isEmpty && decide (0 = 0) && decide (0 = 0))
        rw [hz, sameWs, Cmd.sames]
        cases name.toList <;> rfl
      | cons k r =>
        show ((0 : UInt8) == 0 && name.toList == (⟨#[]⟩ : ByteArray).toList && (0 : Nat) == 0 && (k :: r).length == 0 && sameWs [] [] && Cmd.sames (k :: r) []) = (name.toList.isEmpty && decide (0 = 0) && decide ((k :: r).length = 0))
        simp
    | cons x l =>
      show ((0 : UInt8) == 0 && name.toList == (⟨#[]⟩ : ByteArray).toList && (x :: l).length == 0 && kids.length == 0 && sameWs (x :: l) [] && Cmd.sames kids []) = (name.toList.isEmpty && decide ((x :: l).length = 0) && decide (kids.length = 0))
      simp
  · exact within_same c 24 hB
end Sx
end Go.Proofs.YtpibjhlldlbocaaGreat
