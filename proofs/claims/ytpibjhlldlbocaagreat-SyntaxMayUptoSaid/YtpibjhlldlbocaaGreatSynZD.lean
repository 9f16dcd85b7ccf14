/- Walks of the program's syntax: may a command be, whatever its kids are? -/
import Derived.Test.YtpibjhlldlbocaaGreatSynZC
namespace Go.Proofs.YtpibjhlldlbocaaGreat
open Go.RowKit Sx Go.Proofs

namespace Sx
def dKind (kd : Nat) (name : ByteArray) (words : List Word) : Bool :=
  if kd = 1 then dSimple name words
  else if kd = 9 then isCmdName name.data.toList && (decide (words.length ≤ 64) && words.all Word.may)
  else name.toList.isEmpty && decide (words.length = 0)
def dAlone (kd : Nat) (name : ByteArray) (words : List Word) (nk : Nat) : Bool :=
  !decide ((nk : Int) < least kd) && !decide (most kd < (nk : Int)) && dKind kd name words
end Sx

set_option maxRecDepth 100000 in
set_option maxHeartbeats 4000000 in
theorem mayAlone_any {W : World} {words : List Word} {p q : Option Addr} {cp nk d kd : Nat} {at_ : Int} {C : Nat → List Value} (name : ByteArray) {r : Nat} (h1 : words.length ≤ cp) (h2 : cp ≤ maxLen) (h3 : Row W 2 p words.length C) (h4 : ∀ (i : Nat) x, words[i]? = some x → WordR W (C i) x)
    (hB : name.size + (words.map Word.bulk).sum ≤ 1900000) (hr : Resv W r) (hk : nk ≤ maxLen) : ∀ w, Below W.heap.size W w →
    Calls Tryz.prog 18 #[.agg #[.int .u8 kd, .int .i64 at_, .string name, .slice p words.length cp, .slice q nk d], .map (some r)] w fun e w' => e = .returned (.bool (dAlone kd name words nk)) ∧ Below w.heap.size w w' := by
  intro w hb
  have hkl : nk ≤ 9223372036854775807 := by unfold maxLen at hk; omega
  have hns : name.size ≤ 9223372036854775807 := by omega
  have HW := Lib.hid hb
  have HWM : Hid (∀ wx, Below w.heap.size w wx → Calls Tryz.prog 34 #[.slice p words.length cp] wx fun e w' => e = .returned (.bool (decide (words.length ≤ 64) && words.all Word.may)) ∧ Below wx.heap.size wx w') := Lib.hid fun wx hx => wordsMay_any h1 h2 h3 h4 (by omega) wx (hb.trans (hx.mono hb.size))
  have HSM : Hid (∀ wx, Below w.heap.size w wx → Calls Tryz.prog 32 #[.agg #[.int .u8 1, .int .i64 at_, .string name, .slice p words.length cp, .slice q nk d], .map (some r)] wx fun e w' => e = .returned (.bool (dSimple name words)) ∧ Below wx.heap.size wx w') := Lib.hid fun wx hx => simpleMay_any name h1 h2 h3 h4 hB hr wx (hb.trans (hx.mono hb.size))
  have hlw : words.length ≤ 9223372036854775807 := by unfold maxLen at h2; omega
  obtain ⟨R, hR⟩ : ∃ R, R = dAlone kd name words nk := ⟨_, rfl⟩
  rw [← hR]
  unfold dAlone at hR
  have HDA := Lib.hid hR
  clear h1 h2 h3 h4 hB hr hb hR hk
  obtain ⟨L, hL⟩ : ∃ L, least kd = L := ⟨_, rfl⟩
  obtain ⟨M, hM⟩ : ∃ M, most kd = M := ⟨_, rfl⟩
  rw [hL, hM] at HDA
  by_cases hA : (nk : Int) < L
  · have HF : Hid (R = false) := Lib.hid (by rw [HDA.out, decide_eq_true hA]; rfl)
    clear HDA
    go_enter Tryz.func18, Tryz.ntmps18
    go_wp2_with fail
    refine (kidsOf_any kd _).mono ?_
    rintro e w2 ⟨rfl, rfl⟩
    rw [hL, hM]
    go_wp2_with fail
    go_ret
    exact ⟨ret_bool HF.out.symm, box_self (Below.refl _ _)⟩
  · by_cases hBm : M < (nk : Int)
    · have HF : Hid (R = false) := Lib.hid (by rw [HDA.out, decide_eq_true hBm]; simp)
      clear HDA
      go_enter Tryz.func18, Tryz.ntmps18
      go_wp2_with fail
      refine (kidsOf_any kd _).mono ?_
      rintro e w2 ⟨rfl, rfl⟩
      rw [hL, hM]
      go_wp2_with fail
      go_ret
      exact ⟨ret_bool HF.out.symm, box_self (Below.refl _ _)⟩
    · have HK : Hid (R = dKind kd name words) := Lib.hid (by rw [HDA.out, decide_eq_false hA, decide_eq_false hBm]; rfl)
      clear HDA
      by_cases k1 : kd = 1
      · subst k1
        have HK1 : Hid (R = dSimple name words) := HK
        clear HK
        generalize dSimple name words = g at *
        generalize words.length = n at *
        go_enter Tryz.func18, Tryz.ntmps18
        go_wp2_with fail
        refine (kidsOf_any 1 _).mono ?_
        rintro e w2 ⟨rfl, rfl⟩
        rw [hL, hM]
        go_wp2_with fail
        refine (HSM.out _ (box_self (Below.refl _ _))).mono ?_
        rintro e w3 ⟨rfl, hb3⟩
        have HB3 : Hid (Below w.heap.size w w3) := Lib.hid ((box_self (Below.refl _ _)).trans (hb3.mono (by simp)))
        clear hb3
        go_wp2
        go_ret
        exact ⟨ret_bool HK1.out.symm, HB3.out⟩
      · by_cases k9 : kd = 9
        · subst k9
          have HK9 : Hid (R = (isCmdName name.data.toList && (decide (words.length ≤ 64) && words.all Word.may))) := HK
          clear HK HSM
          generalize (decide (words.length ≤ 64) && words.all Word.may) = g at *
          have HNA : Hid (∀ wx, Calls Tryz.prog 33 #[.string name] wx fun e w' => e = .returned (.bool (isCmdName name.data.toList)) ∧ wx = w') := Lib.hid fun wx => cmdName_any name wx hns
          generalize isCmdName name.data.toList = A at *
          generalize words.length = n at *
          cases A with
          | false =>
            go_enter Tryz.func18, Tryz.ntmps18
            go_wp2_with fail
            refine (kidsOf_any 9 _).mono ?_
            rintro e w2 ⟨rfl, rfl⟩
            rw [hL, hM]
            go_wp2_with fail
            refine (HNA.out _).mono ?_
            rintro e w3 ⟨rfl, rfl⟩
            go_wp2
            go_ret
            exact ⟨ret_bool (by rw [HK9.out]; rfl), box_self (Below.refl _ _)⟩
          | true =>
            go_enter Tryz.func18, Tryz.ntmps18
            go_wp2_with fail
            refine (kidsOf_any 9 _).mono ?_
            rintro e w2 ⟨rfl, rfl⟩
            rw [hL, hM]
            go_wp2_with fail
            refine (HNA.out _).mono ?_
            rintro e w3 ⟨rfl, rfl⟩
            go_wp2_with fail
            refine (HWM.out _ (box_self (Below.refl _ _))).mono ?_
            rintro e w3 ⟨rfl, hb3⟩
            have HB3 : Hid (Below w.heap.size w w3) := Lib.hid ((box_self (Below.refl _ _)).trans (hb3.mono (by simp)))
            clear hb3
            go_wp2
            go_ret
            exact ⟨ret_bool (by rw [HK9.out]; rfl), HB3.out⟩
        · have HK0 : Hid (R = (name.toList.isEmpty && decide (words.length = 0))) := Lib.hid (by rw [HK.out]; unfold dKind; rw [if_neg k1, if_neg k9])
          clear HK HSM HWM
          have e1 : ((kd : Int) == 1) = false := beq_eq_false_iff_ne.2 (by omega)
          have e9 : ((kd : Int) == 9) = false := beq_eq_false_iff_ne.2 (by omega)
          by_cases hn0 : name.size = 0
          · have he : name.toList = [] := empty_of hn0
            by_cases hw0 : words.length = 0
            · have HT : Hid (R = true) := Lib.hid (by rw [HK0.out, he, hw0]; rfl)
              have ew : ((words.length : Int) == 0) = true := by rw [hw0]; rfl
              clear HK0 k1 k9 hn0 hw0
              go_enter Tryz.func18, Tryz.ntmps18
              go_wp2_with fail
              refine (kidsOf_any kd _).mono ?_
              rintro e w2 ⟨rfl, rfl⟩
              rw [hL, hM]
              go_wp2_with fail
              go_ret
              exact ⟨ret_bool HT.out.symm, box_self (Below.refl _ _)⟩
            · have HF : Hid (R = false) := Lib.hid (by rw [HK0.out, decide_eq_false hw0]; simp)
              have ew : ((words.length : Int) == 0) = false := beq_eq_false_iff_ne.2 (by omega)
              clear HK0 k1 k9 hn0 hw0
              go_enter Tryz.func18, Tryz.ntmps18
              go_wp2_with fail
              refine (kidsOf_any kd _).mono ?_
              rintro e w2 ⟨rfl, rfl⟩
              rw [hL, hM]
              go_wp2_with fail
              go_ret
              exact ⟨ret_bool HF.out.symm, box_self (Below.refl _ _)⟩
          · have he : name.toList.isEmpty = false := full_of (by omega)
            have hne : ¬ name.toList = [] := by intro h; rw [h] at he; cases he
            have HF : Hid (R = false) := Lib.hid (by rw [HK0.out, he]; rfl)
            clear HK0 k1 k9 hn0
            go_enter Tryz.func18, Tryz.ntmps18
            go_wp2_with fail
            refine (kidsOf_any kd _).mono ?_
            rintro e w2 ⟨rfl, rfl⟩
            rw [hL, hM]
            go_wp2_with fail
            go_ret
            exact ⟨ret_bool HF.out.symm, box_self (Below.refl _ _)⟩
end Go.Proofs.YtpibjhlldlbocaaGreat
