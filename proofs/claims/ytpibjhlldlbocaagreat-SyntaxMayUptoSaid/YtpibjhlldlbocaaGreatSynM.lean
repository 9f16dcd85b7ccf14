/- Walks of the program's word: a part, two parts, the first part. -/
import Derived.Test.YtpibjhlldlbocaaGreatSynL
import Derived.Handy
namespace Go.Proofs.YtpibjhlldlbocaaGreat
open Go.RowKit Sx Go.Proofs

set_option maxRecDepth 100000 in
set_option maxHeartbeats 2000000 in
theorem partMay_any (p : Part) (w : World) (hs : p.text.size ≤ 2000000) :
    Calls Tryz.prog 75 #[.agg #[.bool p.var, .string p.text, .bool p.quoted]] w fun e w' => e = .returned (.bool (dPart p)) ∧ Below w.heap.size w w' := by
  obtain ⟨var, text, quoted⟩ := p
  dsimp only at *
  have HP : Hid (∀ w, Calls Tryz.prog 57 #[.string text] w fun e w' => e = .returned (.bool (isParam text.data.toList)) ∧ w = w') := Lib.hid fun w => param_any text w (by omega)
  have HC : Hid (∀ w, Calls Tryz.prog 88 #[.string text, .string bads] w fun e w' => e = .returned (.bool (text.data.toList.any fun b => bads.data.toList.contains b)) ∧ Below w.heap.size w w') := Lib.hid fun w => containsAny_any text w (by omega)
  have HO : Hid (∀ w, Calls Tryz.prog 87 #[.string text, .string ⟨#[0]⟩] w fun e w' => e = .returned (.bool (text.data.toList.any (· == 0))) ∧ w' = w) := Lib.hid fun w => by
    refine (Tryz.strings_Contains_one text 0 w).mono ?_
    rintro e w' ⟨rfl, rfl⟩
    refine ⟨ret_bool ?_, rfl⟩
    rw [← Lib.contains_iff_indexByte, List.contains_eq_any_beq]
    congr 1
    funext x
    rw [Bool.eq_iff_iff, beq_iff_eq, beq_iff_eq]
    exact eq_comm
  obtain ⟨R, hR⟩ : ∃ R, R = dPart ⟨var, text, quoted⟩ := ⟨_, rfl⟩
  rw [← hR]
  have HR : Hid (R = dPart ⟨var, text, quoted⟩) := Lib.hid hR
  clear hR
  cases var with
  | true =>
    have HR2 : Hid (R = isParam text.data.toList) := HR
    generalize isParam text.data.toList = g at *
    go_enter Tryz.func75, Tryz.ntmps75
    go_wp2_with (go_at_call 57; refine (HP.out _).mono ?_; rintro e w' ⟨rfl, rfl⟩)
    go_ret
    exact ⟨ret_bool HR2.out.symm, box_self (Below.refl _ _)⟩
  | false =>
    cases quoted with
    | true =>
      have HR2 : Hid (R = !(text.data.toList.any (· == 0))) := HR
      generalize (text.data.toList.any (· == 0)) = g at *
      go_enter Tryz.func75, Tryz.ntmps75
      go_wp2_with (go_at_call 87; refine (HO.out _).mono ?_; rintro e w' ⟨rfl, rfl⟩)
      go_ret
      exact ⟨ret_bool HR2.out.symm, box_self (Below.refl _ _)⟩
    | false =>
      by_cases hz : text.size = 0
      · have he := empty_of hz
        have HR2 : Hid (R = false) := Lib.hid (by
          rw [HR.out]
          unfold dPart
          dsimp only
          rw [← Lib.toList_data, he]
          rfl)
        go_enter Tryz.func75, Tryz.ntmps75
        go_wp2_with fail
        go_ret
        exact ⟨ret_bool HR2.out.symm, box_self (Below.refl _ _)⟩
      · have he := full_of (show 0 < text.size by omega)
        have hne : ¬ text.toList = [] := by intro h; rw [h] at he; cases he
        have HR2 : Hid (R = !(text.data.toList.any fun b => bads.data.toList.contains b)) := Lib.hid (by
          rw [HR.out]
          unfold dPart
          dsimp only
          rw [← Lib.toList_data, he]
          rfl)
        generalize (text.data.toList.any fun b => bads.data.toList.contains b) = g at *
        go_enter Tryz.func75, Tryz.ntmps75
        go_wp2_with (go_at_call 88; refine (HC.out _).mono ?_; rintro e w' ⟨rfl, hb⟩; have HB := Lib.hid hb; clear hb)
        go_ret
        exact ⟨ret_bool HR2.out.symm, (box_self (Below.refl _ _)).trans (HB.out.mono (by simp))⟩
set_option maxRecDepth 100000 in
set_option maxHeartbeats 2000000 in
theorem besideMay_any (q p : Part) (w : World) :
    Calls Tryz.prog 76 #[.agg #[.bool q.var, .string q.text, .bool q.quoted], .agg #[.bool p.var, .string p.text, .bool p.quoted]] w fun e w' => e = .returned (.bool (dBeside q p)) ∧ Below w.heap.size w w' := by
  obtain ⟨qv, qt, qq⟩ := q
  obtain ⟨pv, pt, pq⟩ := p
  dsimp only at *
  obtain ⟨R, hR⟩ : ∃ R, R = dBeside ⟨qv, qt, qq⟩ ⟨pv, pt, pq⟩ := ⟨_, rfl⟩
  rw [← hR]
  have HR : Hid (R = if qq != pq then true else if !qv && !pv then false else !(!qv && qt.toList.isEmpty && qq) && !(!pv && pt.toList.isEmpty && pq)) := Lib.hid (by rw [hR, Lib.toList_data, Lib.toList_data]; rfl)
  clear hR
  go_enter Tryz.func76, Tryz.ntmps76
  cases qv <;> cases qq <;> cases pv <;> cases pq <;> go_wp2_with fail
  all_goals go_ret
  all_goals refine ⟨ret_bool ?_, by go_grown⟩
  all_goals rw [HR.out]
  all_goals simp_all
theorem beginsAsNoWord_any (p : Part) (w : World) :
    Calls Tryz.prog 77 #[.agg #[.bool p.var, .string p.text, .bool p.quoted]] w fun e w' => e = .returned (.bool (dBegins p)) ∧ Below w.heap.size w w' := by
  obtain ⟨var, text, quoted⟩ := p
  dsimp only at *
  have HH : Hid (∀ (s : ByteArray) w, Calls Tryz.prog 72 #[.string text, .string s] w fun e w' => e = .returned (.bool (Lib.hasPrefix text.data.toList s.data.toList)) ∧ w' = w) := Lib.hid fun s w => Tryz.strings_HasPrefix text s w
  have HI : Hid (dBegins ⟨var, text, quoted⟩ = (!var && !quoted && (Lib.hasPrefix text.data.toList [35] || Lib.hasPrefix text.data.toList [126]))) := Lib.hid (by
    unfold dBegins Lib.hasPrefix
    dsimp only
    cases text.data.toList with
    | nil => rfl
    | cons b r =>
      rw [ill_cons]
      have h1 := byte_eq 35 b
      have h2 := byte_eq 126 b
      simp [List.isPrefixOf, h1, h2, eq_comm])
  generalize dBegins ⟨var, text, quoted⟩ = R at *
  generalize h35 : Lib.hasPrefix text.data.toList [35] = a at *
  generalize h126 : Lib.hasPrefix text.data.toList [126] = b at *
  have H35 := Lib.hid h35
  have H126 := Lib.hid h126
  clear h35 h126
  go_enter Tryz.func77, Tryz.ntmps77
  go_wp2_with (first | (go_at_call 72; refine (HH.out _ _).mono ?_; rintro e w' ⟨rfl, rfl⟩; first | rw [show Lib.hasPrefix text.data.toList _ = a from H35.out] | rw [show Lib.hasPrefix text.data.toList _ = b from H126.out]) | go_in)
  all_goals go_ret
  all_goals refine ⟨ret_bool ?_, by go_grown⟩
  all_goals rw [HI.out]
  all_goals simp_all
end Go.Proofs.YtpibjhlldlbocaaGreat
