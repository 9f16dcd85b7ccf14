/- Walks of the reference's syntax: what simple keeps; the law without a premise. -/
import Derived.Test.YtpibjhlldlbocaaGreatSynZM
namespace Go.Proofs.YtpibjhlldlbocaaGreat
open Go.RowKit Sx Go.Proofs

set_option maxRecDepth 100000 in
set_option maxHeartbeats 4000000 in
theorem simpleRef_not {words : List Word} {p q : Option Addr} {cp m d kd : Nat} {at_ : Int} (name : ByteArray) (h1 : words.length ≤ 9223372036854775807) (hn0 : name.size ≠ 0) (hn : isCmdName name.data.toList = false ∨ words.length ≠ 1) (w : World) :
    Calls Tryz.prog 27 #[.agg #[.int .u8 kd, .int .i64 at_, .string name, .slice p words.length cp, .slice q m d]] w fun e w' => e = .returned (.bool false) ∧ Below w.heap.size w w' := by
  have HNA : Hid (∀ wx, Calls Tryz.prog 28 #[.string name] wx fun e w' => e = .returned (.bool (isCmdName name.data.toList)) ∧ wx = w') := Lib.hid fun wx => cmdNameRef_any name wx
  have he : name.toList.isEmpty = false := full_of (by omega)
  have hne : ¬ name.toList = [] := by intro h; rw [h] at he; cases he
  clear hn0
  generalize words.length = n at *
  cases hA : isCmdName name.data.toList with
  | false =>
    rw [hA] at HNA
    clear hA hn
    go_enter Tryz.func27, Tryz.ntmps27
    go_wp2_with fail
    refine (HNA.out _).mono ?_
    rintro e w3 ⟨rfl, rfl⟩
    go_wp2_with fail
    go_ret
    exact ⟨rfl, box_self (Below.refl _ _)⟩
  | true =>
    rw [hA] at HNA hn
    have hn0 : n ≠ 1 := by
      rcases hn with h | h
      · cases h
      · exact h
    have hn1 : ((n : Int) == 1) = false := beq_eq_false_iff_ne.2 (by omega)
    have hn2 : ((n : Int) != 1) = true := by rw [bne, hn1]; rfl
    clear hA hn hn0
    go_enter Tryz.func27, Tryz.ntmps27
    go_wp2_with fail
    refine (HNA.out _).mono ?_
    rintro e w3 ⟨rfl, rfl⟩
    go_wp2_with fail
    go_ret
    exact ⟨rfl, box_self (Below.refl _ _)⟩

theorem simpleRef : SimpleRef := by
  intro W words p q cp m d kd at_ C name h1 h2 h3 h4 hB w hb
  by_cases hn0 : name.size = 0
  · have he : name.toList.isEmpty = true := by rw [empty_of hn0]; rfl
    have : rSimple name words = rWords words := by unfold rSimple; rw [if_pos he]
    rw [this]
    exact simpleRef_words name h1 h2 h3 h4 hB hn0 w hb
  · have he : name.toList.isEmpty = false := full_of (by omega)
    have hr : rSimple name words = rNamed name words := by unfold rSimple; rw [he]; rfl
    rw [hr]
    have hl : words.length ≤ 9223372036854775807 := by unfold maxLen at h2; omega
    by_cases hw : words.length = 1
    · obtain ⟨x, rfl⟩ : ∃ x, words = [x] := by
        match words, hw with
        | [x], _ => exact ⟨x, rfl⟩
      cases hA : isCmdName name.data.toList with
      | false =>
        have : rNamed name [x] = false := by show (isCmdName name.data.toList && _) = false; rw [hA]; rfl
        rw [this]
        exact simpleRef_not name hl hn0 (.inl hA) w
      | true =>
        have : rNamed name [x] = Word.may ⟨rWhole name x.parts, 0⟩ := by show (isCmdName name.data.toList && _) = _; rw [hA]; rfl
        rw [this]
        exact simpleRef_named name h1 h2 h3 (h4 0 x rfl) (by simpa using hB) hn0 hA w hb
    · have : rNamed name words = false := by
        match words, hw with
        | [], _ => rfl
        | [_], h => exact absurd rfl h
        | _ :: _ :: _, _ => rfl
      rw [this]
      exact simpleRef_not name hl hn0 (.inr hw) w

theorem law_syntaxMay_any {W : World} {cs ds : List Value} {x y : Cmd} (hx : CmdR W cs x) (hy : CmdR W ds y) (hB : x.bulk ≤ 1900000) :
    Calls Tryz.prog 3 #[.agg cs.toArray, .agg ds.toArray] W fun e w' => e = .returned (.bool true) ∧ Below W.heap.size W w' := law_syntaxMay simpleRef hx hy hB
end Go.Proofs.YtpibjhlldlbocaaGreat
