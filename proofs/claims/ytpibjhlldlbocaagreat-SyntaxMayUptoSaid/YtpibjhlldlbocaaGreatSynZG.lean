/- Walks of the reference's syntax: may a simple command without a name be? -/
import Derived.Test.YtpibjhlldlbocaaGreatSynZF
import Derived.Test.YtpibjhlldlbocaaGreatSynY
namespace Go.Proofs.YtpibjhlldlbocaaGreat
open Go.RowKit Sx Go.Proofs

namespace Sx
def rWords : List Word → Bool
  | [] => false
  | x :: l => decide ((x :: l).length ≤ 64) && (x :: l).all Word.may && !x.assigns && !(x.plain.2 && isReserved x.plain.1)
end Sx

set_option maxRecDepth 100000 in
set_option maxHeartbeats 4000000 in
theorem simpleRef_words {W : World} {words : List Word} {p q : Option Addr} {cp m d kd : Nat} {at_ : Int} {C : Nat → List Value} (name : ByteArray) (h1 : words.length ≤ cp) (h2 : cp ≤ maxLen) (h3 : Row W 2 p words.length C) (h4 : ∀ (i : Nat) x, words[i]? = some x → WordR W (C i) x)
    (hB : name.size + (words.map Word.bulk).sum ≤ 1900000) (hn0 : name.size = 0) : ∀ w, Below W.heap.size W w →
    Calls Tryz.prog 27 #[.agg #[.int .u8 kd, .int .i64 at_, .string name, .slice p words.length cp, .slice q m d]] w fun e w' => e = .returned (.bool (rWords words)) ∧ Below w.heap.size w w' := by
  intro w hb
  have HW := Lib.hid hb
  have HWM : Hid (∀ wx, Below w.heap.size w wx → Calls Tryz.prog 29 #[.slice p words.length cp] wx fun e w' => e = .returned (.bool (words.all Word.may)) ∧ Below wx.heap.size wx w') := Lib.hid fun wx hx => wordsRef_any h1 h2 h3 h4 (by omega) wx (hb.trans (hx.mono hb.size))
  have HR := Lib.hid h3
  have HWD := Lib.hid h4
  have HBK := Lib.hid hB
  have hlw : words.length ≤ 9223372036854775807 := by unfold maxLen at h2; omega
  obtain ⟨R, hR⟩ : ∃ R, R = rWords words := ⟨_, rfl⟩
  rw [← hR]
  have he : name.toList = [] := empty_of hn0
  cases words with
  | nil =>
    have HDS := Lib.hid hR
    clear h1 h2 h3 h4 hB hb hR
    go_enter Tryz.func27, Tryz.ntmps27
    go_wp2_with fail
    go_ret
    exact ⟨ret_bool (by rw [HDS.out]; rfl), box_self (Below.refl _ _)⟩
  | cons x l =>
    have HDS : Hid (R = (decide ((x :: l).length ≤ 64) && (x :: l).all Word.may && !x.assigns && !(x.plain.2 && isReserved x.plain.1))) := Lib.hid hR
    clear h1 h2 h3 h4 hB hb hR hn0
    obtain ⟨b, o, rfl, _, hr⟩ := HR.out 0 (by simp)
    rw [show o + 0 * 2 = o by omega] at hr
    have hx0 := HWD.out 0 x rfl
    obtain ⟨p1, c1, hcs, _⟩ := HWD.out 0 x rfl
    rw [hcs] at hr hx0
    have hxb : x.bulk ≤ 2000000 := by
      have := HBK.out
      simp only [List.map_cons, List.sum_cons] at this
      omega
    have e0 : w.cell? ⟨b, o, none⟩ = some (.slice p1 x.parts.length c1) := (range_below HW.out hr) 0 _ rfl
    have e1 : w.cell? ⟨b, o + 1, none⟩ = some (.int .i64 x.at_) := (range_below HW.out hr) 1 _ rfl
    have HASN : Hid (∀ wx, Below w.heap.size w wx → Calls Tryz.prog 50 #[.agg #[.slice p1 x.parts.length c1, .int .i64 x.at_]] wx fun e w' => (∃ s p n c a, e = .returned (.tuple #[s, .agg #[.slice p n c, .int .i64 a], .bool x.assigns])) ∧ Below wx.heap.size wx w') := Lib.hid fun wx hx => assignRef_any (hx0.grown (HW.out.trans (hx.mono HW.out.size))) hxb
    have HPL : Hid (∀ wx, Below w.heap.size w wx → Calls Tryz.prog 49 #[.agg #[.slice p1 x.parts.length c1, .int .i64 x.at_]] wx fun e w' => e = .returned (.tuple #[.string x.plain.1, .bool x.plain.2]) ∧ Below wx.heap.size wx w') := Lib.hid fun wx hx => plainRef_any (hx0.grown (HW.out.trans (hx.mono HW.out.size))) hxb
    have HRS : Hid (∀ wx, Calls Tryz.prog 51 #[.string x.plain.1] wx fun e w' => e = .returned (.bool (isReserved x.plain.1)) ∧ Below wx.heap.size wx w') := Lib.hid fun wx => reservedRef_any _ wx
    have hnp : (0 : Int) < ((x :: l).length : Int) := by simp only [List.length_cons]; omega
    have hnq : ¬ (((x :: l).length : Int) < 1) := by simp only [List.length_cons]; omega
    have hdl : decide ((x :: l).length ≤ 64) = decide (((x :: l).length : Int) ≤ 64) := by
      by_cases h : (x :: l).length ≤ 64
      · rw [decide_eq_true h, decide_eq_true (by omega)]
      · rw [decide_eq_false h, decide_eq_false (by omega)]
    rw [hdl] at HDS
    clear hr hcs hx0 hxb HWD HBK HR hdl
    generalize (x :: l).all Word.may = G at *
    generalize hLEN : (x :: l).length = n at *
    clear hLEN
    generalize x.assigns = A at *
    generalize x.plain.2 = K at *
    generalize isReserved x.plain.1 = V at *
    generalize x.plain.1 = S at *
    generalize x.parts.length = xn at *
    generalize x.at_ = xa at *
    by_cases hbig : (n : Int) ≤ 64
    · have hbig2 : ¬ ((n : Int) > 64) := by omega
      have HD2 : Hid (R = (G && !A && !(K && V))) := Lib.hid (by rw [HDS.out, decide_eq_true hbig]; rfl)
      clear HDS
      cases G with
      | false =>
        go_enter Tryz.func27, Tryz.ntmps27
        go_wp2_with fail
        refine (HWM.out _ (box_self (Below.refl _ _))).mono ?_
        rintro e w2 ⟨rfl, hb2⟩
        have HBX : Hid (Below (w.heap.size + 1) (w.alloc (.cells #[.int .u8 kd, .int .i64 at_, .string name, .slice (some ⟨b, o, none⟩) n cp, .slice q m d] 25)) w2) := Lib.hid (hb2.mono (by simp))
        have HB2 : Hid (Below w.heap.size w w2) := Lib.hid (box_self HBX.out)
        clear hb2
        go_wp2_with fail
        go_ret
        exact ⟨ret_bool (by rw [HD2.out]; rfl), HB2.out⟩
      | true =>
        cases A with
        | true =>
          go_enter Tryz.func27, Tryz.ntmps27
          go_wp2_with fail
          refine (HWM.out _ (box_self (Below.refl _ _))).mono ?_
          rintro e w2 ⟨rfl, hb2⟩
          have HBX : Hid (Below (w.heap.size + 1) (w.alloc (.cells #[.int .u8 kd, .int .i64 at_, .string name, .slice (some ⟨b, o, none⟩) n cp, .slice q m d] 25)) w2) := Lib.hid (hb2.mono (by simp))
          have HB2 : Hid (Below w.heap.size w w2) := Lib.hid (box_self HBX.out)
          clear hb2
          have c3 : w2.cell? ⟨w.heap.size, 3, none⟩ = some (.slice (some ⟨b, o, none⟩) n cp) := box_cell HBX.out 3 rfl
          have f0 := cell_kept HB2.out e0
          have f1 := cell_kept HB2.out e1
          go_wp2_with fail
          refine (HPL.out _ HB2.out).mono ?_
          rintro e w3 ⟨rfl, hb3⟩
          have HB3 : Hid (Below w.heap.size w w3) := Lib.hid (HB2.out.trans (hb3.mono HB2.out.size))
          have g3 := cell_kept hb3 c3
          have h0 := cell_kept hb3 f0
          have h1 := cell_kept hb3 f1
          clear hb3 c3 f0 f1
          go_wp2_with fail
          refine (HASN.out _ HB3.out).mono ?_
          rintro e w4 ⟨⟨s4, p4, n4, c4, a4, rfl⟩, hb4⟩
          have HB4 : Hid (Below w.heap.size w w4) := Lib.hid (HB3.out.trans (hb4.mono HB3.out.size))
          have HB5 : Hid (Below w.heap.size w (w4.alloc (.cells #[.slice p4 n4 c4, .int .i64 a4] 31))) := Lib.hid (HB4.out.alloc HB4.out.size _)
          clear hb4 g3 h0 h1
          go_wp2_with fail
          go_ret
          exact ⟨ret_bool (by rw [HD2.out]; rfl), HB5.out⟩
        | false =>
          cases K with
          | false =>
            go_enter Tryz.func27, Tryz.ntmps27
            go_wp2_with fail
            refine (HWM.out _ (box_self (Below.refl _ _))).mono ?_
            rintro e w2 ⟨rfl, hb2⟩
            have HBX : Hid (Below (w.heap.size + 1) (w.alloc (.cells #[.int .u8 kd, .int .i64 at_, .string name, .slice (some ⟨b, o, none⟩) n cp, .slice q m d] 25)) w2) := Lib.hid (hb2.mono (by simp))
            have HB2 : Hid (Below w.heap.size w w2) := Lib.hid (box_self HBX.out)
            clear hb2
            have c3 : w2.cell? ⟨w.heap.size, 3, none⟩ = some (.slice (some ⟨b, o, none⟩) n cp) := box_cell HBX.out 3 rfl
            have f0 := cell_kept HB2.out e0
            have f1 := cell_kept HB2.out e1
            go_wp2_with fail
            refine (HPL.out _ HB2.out).mono ?_
            rintro e w3 ⟨rfl, hb3⟩
            have HB3 : Hid (Below w.heap.size w w3) := Lib.hid (HB2.out.trans (hb3.mono HB2.out.size))
            have g3 := cell_kept hb3 c3
            have h0 := cell_kept hb3 f0
            have h1 := cell_kept hb3 f1
            clear hb3 c3 f0 f1
            go_wp2_with fail
            refine (HASN.out _ HB3.out).mono ?_
            rintro e w4 ⟨⟨s4, p4, n4, c4, a4, rfl⟩, hb4⟩
            have HB4 : Hid (Below w.heap.size w w4) := Lib.hid (HB3.out.trans (hb4.mono HB3.out.size))
            have HB5 : Hid (Below w.heap.size w (w4.alloc (.cells #[.slice p4 n4 c4, .int .i64 a4] 31))) := Lib.hid (HB4.out.alloc HB4.out.size _)
            clear hb4 g3 h0 h1
            go_wp2_with fail
            go_ret
            exact ⟨ret_bool (by rw [HD2.out]; rfl), HB5.out⟩
          | true =>
            go_enter Tryz.func27, Tryz.ntmps27
            go_wp2_with fail
            refine (HWM.out _ (box_self (Below.refl _ _))).mono ?_
            rintro e w2 ⟨rfl, hb2⟩
            have HBX : Hid (Below (w.heap.size + 1) (w.alloc (.cells #[.int .u8 kd, .int .i64 at_, .string name, .slice (some ⟨b, o, none⟩) n cp, .slice q m d] 25)) w2) := Lib.hid (hb2.mono (by simp))
            have HB2 : Hid (Below w.heap.size w w2) := Lib.hid (box_self HBX.out)
            clear hb2
            have c3 : w2.cell? ⟨w.heap.size, 3, none⟩ = some (.slice (some ⟨b, o, none⟩) n cp) := box_cell HBX.out 3 rfl
            have f0 := cell_kept HB2.out e0
            have f1 := cell_kept HB2.out e1
            go_wp2_with fail
            refine (HPL.out _ HB2.out).mono ?_
            rintro e w3 ⟨rfl, hb3⟩
            have HB3 : Hid (Below w.heap.size w w3) := Lib.hid (HB2.out.trans (hb3.mono HB2.out.size))
            have g3 := cell_kept hb3 c3
            have h0 := cell_kept hb3 f0
            have h1 := cell_kept hb3 f1
            clear hb3 c3 f0 f1
            go_wp2_with fail
            refine (HASN.out _ HB3.out).mono ?_
            rintro e w4 ⟨⟨s4, p4, n4, c4, a4, rfl⟩, hb4⟩
            have HB4 : Hid (Below w.heap.size w w4) := Lib.hid (HB3.out.trans (hb4.mono HB3.out.size))
            have HB5 : Hid (Below w.heap.size w (w4.alloc (.cells #[.slice p4 n4 c4, .int .i64 a4] 31))) := Lib.hid (HB4.out.alloc HB4.out.size _)
            clear hb4 g3 h0 h1
            go_wp2_with fail
            refine (HRS.out _).mono ?_
            rintro e w6 ⟨rfl, hb6⟩
            have HB6 : Hid (Below w.heap.size w w6) := Lib.hid (HB5.out.trans (hb6.mono HB5.out.size))
            clear hb6
            go_wp2_with fail
            go_ret
            exact ⟨ret_bool (by rw [HD2.out]; rfl), HB6.out⟩
    · have HF : Hid (R = false) := Lib.hid (by rw [HDS.out, decide_eq_false hbig]; rfl)
      have hbig2 : (n : Int) > 64 := by omega
      clear HDS
      go_enter Tryz.func27, Tryz.ntmps27
      go_wp2_with fail
      go_ret
      exact ⟨ret_bool HF.out.symm, box_self (Below.refl _ _)⟩
end Go.Proofs.YtpibjhlldlbocaaGreat
