/- Walks of the reference's syntax: may a command be? -/
import Derived.Test.YtpibjhlldlbocaaGreatSynZI
namespace Go.Proofs.YtpibjhlldlbocaaGreat
open Go.RowKit Sx Go.Proofs

namespace Sx
def Cmd.empty : Cmd → Bool
  | .mk _ _ name words kids => name.toList.isEmpty && decide (words.length = 0) && decide (kids.length = 0)
def rMay (c : Cmd) : Bool := if c.kindOf = 0 then c.empty else decide (c.depth ≤ 24) && c.one
end Sx

set_option maxRecDepth 100000 in
set_option maxHeartbeats 4000000 in
theorem mayRef_any (HSIMPLE : SimpleRef) {W : World} {cs : List Value} {c : Cmd} (h : CmdR W cs c) (hB : c.bulk ≤ 1900000) : ∀ w, Below W.heap.size W w →
    Calls Tryz.prog 6 #[.agg cs.toArray] w fun e w' => e = .returned (.bool (rMay c)) ∧ Below w.heap.size w w' := by
  intro w hb
  have HDP : Hid (∀ wx, Below w.heap.size w wx → Calls Tryz.prog 8 #[.agg cs.toArray] wx fun e w' => e = .returned (.int .i64 c.depth) ∧ Below wx.heap.size wx w') := Lib.hid fun wx hx => depthRef_any h wx (hb.trans (hx.mono hb.size)) (by omega)
  have HON : Hid (∀ wx, Below w.heap.size w wx → Calls Tryz.prog 13 #[.agg cs.toArray] wx fun e w' => e = .returned (.bool c.one) ∧ Below wx.heap.size wx w') := Lib.hid fun wx hx => oneRef_any HSIMPLE h wx (hb.trans (hx.mono hb.size)) hB
  have hdp : c.depth ≤ 2000000 := Nat.le_trans (Cmd.depth_bulk c) (by omega)
  obtain ⟨R, hR⟩ : ∃ R, R = rMay c := ⟨_, rfl⟩
  rw [← hR]
  cases h with
  | mk kind at_ name words kids p q cp d C D h1 h2 h3 h4 h5 h6 h7 h8 =>
    have hlw : words.length ≤ 9223372036854775807 := by unfold maxLen at h2; omega
    have hlk : kids.length ≤ 9223372036854775807 := by unfold maxLen at h6; omega
    clear h1 h2 h3 h4 h5 h6 h7 h8 hb hB
    by_cases hk : kind = 0
    · have HRR : Hid (R = (name.toList.isEmpty && decide (words.length = 0) && decide (kids.length = 0))) := Lib.hid (hR.trans (if_pos hk))
      clear hR HDP HON hdp
      have hkd : kind.toNat = 0 := by rw [hk]; rfl
      rw [hkd]
      clear hk hkd
      generalize words.length = n at *
      generalize kids.length = m at *
      by_cases hn0 : name.size = 0
      · have he : name.toList = [] := empty_of hn0
        by_cases hw0 : n = 0
        · subst hw0
          by_cases hm0 : m = 0
          · subst hm0
            have HT : Hid (R = true) := Lib.hid (by rw [HRR.out, he]; rfl)
            clear HRR
            go_enter Tryz.func6, Tryz.ntmps6
            go_wp2_with fail
            go_ret
            exact ⟨ret_bool HT.out.symm, box_self (Below.refl _ _)⟩
          · have HF : Hid (R = false) := Lib.hid (by rw [HRR.out, decide_eq_false hm0]; simp)
            have em : ((m : Int) == 0) = false := beq_eq_false_iff_ne.2 (by omega)
            clear HRR
            go_enter Tryz.func6, Tryz.ntmps6
            go_wp2_with fail
            go_ret
            exact ⟨ret_bool HF.out.symm, box_self (Below.refl _ _)⟩
        · have HF : Hid (R = false) := Lib.hid (by rw [HRR.out, decide_eq_false hw0]; simp)
          have ew : ((n : Int) == 0) = false := beq_eq_false_iff_ne.2 (by omega)
          clear HRR
          go_enter Tryz.func6, Tryz.ntmps6
          go_wp2_with fail
          go_ret
          exact ⟨ret_bool HF.out.symm, box_self (Below.refl _ _)⟩
      · have he : name.toList.isEmpty = false := full_of (by omega)
        have hne : ¬ name.toList = [] := by intro h; rw [h] at he; cases he
        have HF : Hid (R = false) := Lib.hid (by rw [HRR.out, he]; rfl)
        clear HRR hn0
        go_enter Tryz.func6, Tryz.ntmps6
        go_wp2_with fail
        go_ret
        exact ⟨ret_bool HF.out.symm, box_self (Below.refl _ _)⟩
    · have HRR : Hid (R = (decide ((Cmd.mk kind at_ name words kids).depth ≤ 24) && (Cmd.mk kind at_ name words kids).one)) := Lib.hid (hR.trans (if_neg hk))
      clear hR
      have hkz : ((kind.toNat : Int) == 0) = false := beq_eq_false_iff_ne.2 (by
        intro h0
        exact hk (UInt8.toNat_inj.1 (by show kind.toNat = 0; omega)))
      clear hk
      generalize (Cmd.mk kind at_ name words kids).depth = dp at *
      generalize (Cmd.mk kind at_ name words kids).one = g at *
      generalize kind.toNat = kd at *
      generalize words.length = n at *
      generalize kids.length = m at *
      by_cases hd24 : dp ≤ 24
      · have HG : Hid (R = g) := Lib.hid (by rw [HRR.out, decide_eq_true hd24]; rfl)
        clear HRR
        go_enter Tryz.func6, Tryz.ntmps6
        go_wp2_with fail
        refine (HDP.out _ (box_self (Below.refl _ _))).mono ?_
        rintro e w3 ⟨rfl, hb3⟩
        have HBX : Hid (Below (w.heap.size + 1) (w.alloc (.cells #[.int .u8 kd, .int .i64 at_, .string name, .slice p n cp, .slice q m d] 25)) w3) := Lib.hid (hb3.mono (by simp))
        have c0 : w3.cell? ⟨w.heap.size, 0, none⟩ = some (.int .u8 kd) := box_cell HBX.out 0 rfl
        have c1 : w3.cell? ⟨w.heap.size, 1, none⟩ = some (.int .i64 at_) := box_cell HBX.out 1 rfl
        have c2 : w3.cell? ⟨w.heap.size, 2, none⟩ = some (.string name) := box_cell HBX.out 2 rfl
        have c3 : w3.cell? ⟨w.heap.size, 3, none⟩ = some (.slice p n cp) := box_cell HBX.out 3 rfl
        have c4 : w3.cell? ⟨w.heap.size, 4, none⟩ = some (.slice q m d) := box_cell HBX.out 4 rfl
        clear hb3
        go_wp2_with fail
        refine (HON.out _ (box_self HBX.out)).mono ?_
        rintro e w4 ⟨rfl, hb4⟩
        have HB4 : Hid (Below w.heap.size w w4) := Lib.hid ((box_self HBX.out).trans (hb4.mono (box_self HBX.out).size))
        clear hb4
        go_wp2_with fail
        go_ret
        exact ⟨ret_bool HG.out.symm, HB4.out⟩
      · have HF : Hid (R = false) := Lib.hid (by rw [HRR.out, decide_eq_false hd24]; rfl)
        clear HRR
        go_enter Tryz.func6, Tryz.ntmps6
        go_wp2_with fail
        refine (HDP.out _ (box_self (Below.refl _ _))).mono ?_
        rintro e w3 ⟨rfl, hb3⟩
        have HB3 : Hid (Below w.heap.size w w3) := Lib.hid ((box_self (Below.refl _ _)).trans (hb3.mono (by simp)))
        clear hb3
        go_wp2_with fail
        go_ret
        exact ⟨ret_bool HF.out.symm, HB3.out⟩
end Go.Proofs.YtpibjhlldlbocaaGreat
