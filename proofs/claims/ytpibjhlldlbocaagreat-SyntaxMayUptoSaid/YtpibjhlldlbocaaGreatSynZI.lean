/- Walks of the reference's syntax: may a command be that is one, whatever its depth? -/
import Derived.Test.YtpibjhlldlbocaaGreatSynZG
namespace Go.Proofs.YtpibjhlldlbocaaGreat
open Go.RowKit Sx Go.Proofs

namespace Sx
def rNamed (name : ByteArray) : List Word → Bool
  | [x] => isCmdName name.data.toList && Word.may ⟨rWhole name x.parts, 0⟩
  | _ => false
def rSimple (name : ByteArray) (words : List Word) : Bool :=
  if name.toList.isEmpty then rWords words else rNamed name words
def rCount (kd nk : Nat) : Bool :=
  match kd with
  | 2 => (nk : Int) == 1
  | 3 => (nk : Int) == 2
  | 4 => (nk : Int) == 2
  | 7 => (nk : Int) == 2
  | 8 => (nk : Int) == 2
  | 5 => decide ((nk : Int) > 1)
  | 6 => (nk : Int) == 2 || (nk : Int) == 3
  | _ => false
def rKind (kd : Nat) (name : ByteArray) (words : List Word) (nk : Nat) : Bool :=
  if kd = 1 then decide (nk = 0) && rSimple name words
  else if kd = 9 then decide (nk = 1) && isCmdName name.data.toList && decide (words.length ≤ 64) && words.all Word.may
  else name.toList.isEmpty && decide (words.length = 0) && rCount kd nk
mutual
def Cmd.one : Cmd → Bool
  | .mk kd _ name words kids => Cmd.ones kids && rKind kd.toNat name words kids.length
def Cmd.ones : List Cmd → Bool
  | [] => true
  | c :: r => c.one && Cmd.ones r
end
theorem Cmd.ones_drop : ∀ {l : List Cmd} {k : Nat} {c : Cmd}, l[k]? = some c → Cmd.ones (l.drop k) = (c.one && Cmd.ones (l.drop (k + 1)))
  | [], _, _, h => by simp at h
  | x :: l, 0, c, h => by
    obtain rfl : x = c := by simpa using h
    simp only [List.drop_zero, List.drop_succ_cons, Cmd.ones]
  | x :: l, k + 1, c, h => by
    simp only [List.drop_succ_cons]
    exact Cmd.ones_drop (l := l) (k := k) (c := c) (by simpa using h)
end Sx

/-- What the reference's simple keeps. -/
def SimpleRef : Prop := ∀ (W : World) (words : List Word) (p q : Option Addr) (cp m d kd : Nat) (at_ : Int) (C : Nat → List Value) (name : ByteArray),
  words.length ≤ cp → cp ≤ maxLen → Row W 2 p words.length C → (∀ (i : Nat) x, words[i]? = some x → WordR W (C i) x) →
  name.size + (words.map Word.bulk).sum ≤ 1900000 → ∀ w, Below W.heap.size W w →
  Calls Tryz.prog 27 #[.agg #[.int .u8 kd, .int .i64 at_, .string name, .slice p words.length cp, .slice q m d]] w fun e w' => e = .returned (.bool (rSimple name words)) ∧ Below w.heap.size w w'

set_option maxRecDepth 100000 in
set_option maxHeartbeats 4000000 in
theorem oneRef_any (HSIMPLE : SimpleRef) {W : World} {cs : List Value} {c : Cmd} (h : CmdR W cs c) : ∀ w, Below W.heap.size W w → c.bulk ≤ 1900000 →
    Calls Tryz.prog 13 #[.agg cs.toArray] w fun e w' => e = .returned (.bool c.one) ∧ Below w.heap.size w w' := by
  induction h with
  | mk kind at_ name words kids p q cp d C D h1 h2 h3 h4 h5 h6 h7 h8 ih =>
    intro w hb hB
    have hlen : kids.length ≤ 2000000 := by
      have := Cmd.bulks_len kids
      unfold Cmd.bulk at hB
      omega
    have hlw : words.length ≤ 9223372036854775807 := by unfold maxLen at h2; omega
    have hkb : Cmd.bulks kids ≤ 1900000 := by unfold Cmd.bulk at hB; omega
    have hnb : name.size + (words.map Word.bulk).sum ≤ 1900000 := by unfold Cmd.bulk at hB; omega
    have IH := Lib.hid ih
    have HR := Lib.hid h7
    have H8 := Lib.hid h8
    have HW := Lib.hid hb
    have HWM : Hid (∀ wx, Below w.heap.size w wx → Calls Tryz.prog 29 #[.slice p words.length cp] wx fun e w' => e = .returned (.bool (words.all Word.may)) ∧ Below wx.heap.size wx w') := Lib.hid fun wx hx => wordsRef_any h1 h2 h3 h4 (by omega) wx (hb.trans (hx.mono hb.size))
    have HSM : Hid (∀ wx, Below w.heap.size w wx → Calls Tryz.prog 27 #[.agg #[.int .u8 1, .int .i64 at_, .string name, .slice p words.length cp, .slice q 0 d]] wx fun e w' => e = .returned (.bool (rSimple name words)) ∧ Below wx.heap.size wx w') := Lib.hid fun wx hx => HSIMPLE W words p q cp 0 d 1 at_ C name h1 h2 h3 h4 hnb wx (hb.trans (hx.mono hb.size))
    obtain ⟨R, hR⟩ : ∃ R, R = (Cmd.mk kind at_ name words kids).one := ⟨_, rfl⟩
    rw [← hR]
    have HRR : Hid (R = (Cmd.ones (kids.drop 0) && rKind kind.toNat name words kids.length)) := Lib.hid hR
    clear ih h8 h7 h4 h3 hb hB hR h1 h2 hnb
    go_enter Tryz.func13, Tryz.ntmps13
    go_wp2_with fail
    go_loopw [3] (fun i wr => ∃ k : Nat, k ≤ kids.length ∧ i = .int .i64 k ∧ Hid (R = (Cmd.ones (kids.drop k) && rKind kind.toNat name words kids.length)) ∧ Hid (Below (w.heap.size + 1) (w.alloc (.cells #[.int .u8 kind.toNat, .int .i64 at_, .string name, .slice p words.length cp, .slice q kids.length d] 25)) wr)) (fun i _ => kids.length - (intOf i).toNat)
    case atStart => exact ⟨0, Nat.zero_le _, rfl, HRR, Lib.hid (Below.refl _ _)⟩
    case round =>
      clear HRR
      obtain ⟨k, hk, rfl, HK, HB⟩ := hrel
      by_cases hlt : k < kids.length
      · have HD : Hid (Cmd.ones (kids.drop k) = ((kids[k]).one && Cmd.ones (kids.drop (k + 1)))) := Lib.hid (Cmd.ones_drop (List.getElem?_eq_getElem hlt))
        have c4' : wr.cell? ⟨w.heap.size, 4, none⟩ = some (.slice q kids.length d) := box_cell HB.out 4 rfl
        obtain ⟨b, o, rfl, hll, hr⟩ := HR.out k hlt
        have HX := Lib.hid (List.getElem?_eq_getElem hlt)
        obtain ⟨zk, za, zs, zp, zq, zn, zc, zm, zd, hD⟩ := (H8.out k _ HX.out).cells
        generalize kids[k] = x at HX HD
        have hxb : x.bulk ≤ 1900000 := Nat.le_trans (Cmd.bulk_kid HX.out) hkb
        have HOLD := Lib.hid (box_old HW.out (Nat.le_refl _) HB.out)
        have HC0 : Hid (∀ wx, Below wr.heap.size wr wx → Calls Tryz.prog 13 #[.agg (D k).toArray] wx fun e w' => e = .returned (.bool x.one) ∧ Below wx.heap.size wx w') := Lib.hid fun wx hb => IH.out k x HX.out wx (HOLD.out.trans (hb.mono HOLD.out.size)) hxb
        rw [hD] at hr HC0
        have hr' := range_below HOLD.out hr
        have c50 : wr.cell? ⟨b, o + k * 5, none⟩ = some (.int .u8 zk) := hr' 0 _ rfl
        have c51 := hr' 1 _ rfl
        have c52 := hr' 2 _ rfl
        have c53 := hr' 3 _ rfl
        have c54 := hr' 4 _ rfl
        clear hr hr' hD hll HX hxb
        generalize x.one = sp at *
        go_wp2_with fail
        refine (HC0.out _ (Below.refl _ _)).mono ?_
        rintro e w2 ⟨rfl, hb2⟩
        have HB2 : Hid (Below (w.heap.size + 1) (w.alloc (.cells #[.int .u8 kind.toNat, .int .i64 at_, .string name, .slice p words.length cp, .slice (some ⟨b, o, none⟩) kids.length d] 25)) w2) := Lib.hid (HB.out.trans (hb2.mono (by have := HB.out.size; simp at this; omega)))
        clear hb2 HC0
        go_wp2
        · have hsp : sp = false := by cases sp <;> simp_all
          go_ret
          exact ⟨ret_bool (by rw [HK.out, HD.out, hsp]; rfl), box_self HB2.out⟩
        · have hsp : sp = true := by cases sp <;> simp_all
          go_roundw
          case rel => exact ⟨k + 1, by omega, by go_num, Lib.hid (by rw [HK.out, HD.out, hsp]; rfl), HB2⟩
          case measure => simp [intOf]; omega
      · have HE : Hid (k = kids.length) := Lib.hid (by omega)
        clear HR H8 IH HW
        have HT : Hid (R = rKind kind.toNat name words kids.length) := Lib.hid (by rw [HK.out, HE.out, List.drop_length]; rfl)
        have hge : ¬ ((k : Int) < (kids.length : Int)) := by omega
        clear HK HE hlt hk
        have c0 : wr.cell? ⟨w.heap.size, 0, none⟩ = some (.int .u8 kind.toNat) := box_cell HB.out 0 rfl
        have c1 : wr.cell? ⟨w.heap.size, 1, none⟩ = some (.int .i64 at_) := box_cell HB.out 1 rfl
        have c2 : wr.cell? ⟨w.heap.size, 2, none⟩ = some (.string name) := box_cell HB.out 2 rfl
        have c3 : wr.cell? ⟨w.heap.size, 3, none⟩ = some (.slice p words.length cp) := box_cell HB.out 3 rfl
        have c4 : wr.cell? ⟨w.heap.size, 4, none⟩ = some (.slice q kids.length d) := box_cell HB.out 4 rfl
        generalize kind.toNat = kd at *
        generalize kids.length = nk at *
        by_cases k1 : kd = 1
        · subst k1
          have HT1 : Hid (R = (decide (nk = 0) && rSimple name words)) := HT
          clear HT
          generalize rSimple name words = g at *
          generalize words.length = n at *
          by_cases hz : nk = 0
          · subst hz
            have hge0 : ¬ ((k : Int) < 0) := by omega
            go_wp2_with fail
            refine (HSM.out _ (box_self HB.out)).mono ?_
            rintro e w3 ⟨rfl, hb3⟩
            have HB3 : Hid (Below w.heap.size w w3) := Lib.hid ((box_self HB.out).trans (hb3.mono (box_self HB.out).size))
            clear hb3
            go_wp2_with fail
            go_ret
            exact ⟨ret_bool (by rw [HT1.out]; rfl), HB3.out⟩
          · have hzz : ((nk : Int) == 0) = false := beq_eq_false_iff_ne.2 (by omega)
            have HF : Hid (R = false) := Lib.hid (by rw [HT1.out, decide_eq_false hz]; rfl)
            clear HT1 HSM
            go_wp2_with fail
            go_ret
            exact ⟨ret_bool HF.out.symm, box_self HB.out⟩
        · by_cases k9 : kd = 9
          · subst k9
            have HT9 : Hid (R = (decide (nk = 1) && isCmdName name.data.toList && decide (words.length ≤ 64) && words.all Word.may)) := HT
            clear HT HSM
            generalize words.all Word.may = g at *
            by_cases hz : nk = 1
            · subst hz
              have hge1 : ¬ ((k : Int) < 1) := by omega
              have HNA : Hid (∀ wx, Calls Tryz.prog 28 #[.string name] wx fun e w' => e = .returned (.bool (isCmdName name.data.toList)) ∧ wx = w') := Lib.hid fun wx => cmdNameRef_any name wx
              generalize isCmdName name.data.toList = A at *
              cases A with
              | false =>
                have HF : Hid (R = false) := Lib.hid (by rw [HT9.out]; rfl)
                clear HT9
                go_wp2_with fail
                refine (HNA.out _).mono ?_
                rintro e w3 ⟨rfl, rfl⟩
                go_wp2_with fail
                go_ret
                exact ⟨ret_bool HF.out.symm, box_self HB.out⟩
              | true =>
                by_cases hbig : words.length ≤ 64
                · have HG : Hid (R = g) := Lib.hid (by rw [HT9.out, decide_eq_true hbig]; rfl)
                  clear HT9
                  generalize words.length = n at *
                  go_wp2_with fail
                  refine (HNA.out _).mono ?_
                  rintro e w3 ⟨rfl, rfl⟩
                  go_wp2_with fail
                  refine (HWM.out _ (box_self HB.out)).mono ?_
                  rintro e w3 ⟨rfl, hb3⟩
                  have HB3 : Hid (Below w.heap.size w w3) := Lib.hid ((box_self HB.out).trans (hb3.mono (box_self HB.out).size))
                  clear hb3
                  go_wp2_with fail
                  go_ret
                  exact ⟨ret_bool HG.out.symm, HB3.out⟩
                · have HF : Hid (R = false) := Lib.hid (by rw [HT9.out, decide_eq_false hbig]; rfl)
                  clear HT9
                  generalize words.length = n at *
                  go_wp2_with fail
                  refine (HNA.out _).mono ?_
                  rintro e w3 ⟨rfl, rfl⟩
                  go_wp2_with fail
                  go_ret
                  exact ⟨ret_bool HF.out.symm, box_self HB.out⟩
            · have hzz : ((nk : Int) == 1) = false := beq_eq_false_iff_ne.2 (by omega)
              have HF : Hid (R = false) := Lib.hid (by rw [HT9.out, decide_eq_false hz]; rfl)
              clear HT9
              go_wp2_with fail
              go_ret
              exact ⟨ret_bool HF.out.symm, box_self HB.out⟩
          · have HT0 : Hid (R = (name.toList.isEmpty && decide (words.length = 0) && rCount kd nk)) := Lib.hid (by rw [HT.out]; unfold rKind; rw [if_neg k1, if_neg k9])
            clear HT HSM HWM
            have e1 : ((kd : Int) == 1) = false := beq_eq_false_iff_ne.2 (by omega)
            have e9 : ((kd : Int) == 9) = false := beq_eq_false_iff_ne.2 (by omega)
            by_cases hn0 : name.size = 0
            · have he : name.toList = [] := empty_of hn0
              by_cases hw0 : words.length = 0
              · have HC : Hid (R = rCount kd nk) := Lib.hid (by rw [HT0.out, he, hw0]; rfl)
                rw [hw0] at c3
                clear HT0 hn0 hw0
                by_cases k2 : kd = 2
                · subst k2
                  have HD : Hid (R = ((nk : Int) == 1)) := HC
                  clear HC
                  go_wp2_with fail
                  go_ret
                  exact ⟨ret_bool HD.out.symm, box_self HB.out⟩
                by_cases k3 : kd = 3
                · subst k3
                  have HD : Hid (R = ((nk : Int) == 2)) := HC
                  clear HC
                  go_wp2_with fail
                  go_ret
                  exact ⟨ret_bool HD.out.symm, box_self HB.out⟩
                by_cases k4 : kd = 4
                · subst k4
                  have HD : Hid (R = ((nk : Int) == 2)) := HC
                  clear HC
                  go_wp2_with fail
                  go_ret
                  exact ⟨ret_bool HD.out.symm, box_self HB.out⟩
                by_cases k7 : kd = 7
                · subst k7
                  have HD : Hid (R = ((nk : Int) == 2)) := HC
                  clear HC
                  go_wp2_with fail
                  go_ret
                  exact ⟨ret_bool HD.out.symm, box_self HB.out⟩
                by_cases k8 : kd = 8
                · subst k8
                  have HD : Hid (R = ((nk : Int) == 2)) := HC
                  clear HC
                  go_wp2_with fail
                  go_ret
                  exact ⟨ret_bool HD.out.symm, box_self HB.out⟩
                by_cases k5 : kd = 5
                · subst k5
                  have HD : Hid (R = decide ((nk : Int) > 1)) := HC
                  clear HC
                  go_wp2_with fail
                  go_ret
                  exact ⟨ret_bool HD.out.symm, box_self HB.out⟩
                by_cases k6 : kd = 6
                · subst k6
                  have HD : Hid (R = (((nk : Int) == 2) || ((nk : Int) == 3))) := HC
                  clear HC
                  cases h2 : ((nk : Int) == 2) with
                  | true =>
                    go_wp2_with fail
                    go_ret
                    exact ⟨ret_bool (by rw [HD.out, h2]; rfl), box_self HB.out⟩
                  | false =>
                    go_wp2_with fail
                    go_ret
                    exact ⟨ret_bool (by rw [HD.out, h2]; rfl), box_self HB.out⟩
                have e2 : ((kd : Int) == 2) = false := beq_eq_false_iff_ne.2 (by omega)
                have e3 : ((kd : Int) == 3) = false := beq_eq_false_iff_ne.2 (by omega)
                have e4 : ((kd : Int) == 4) = false := beq_eq_false_iff_ne.2 (by omega)
                have e5 : ((kd : Int) == 5) = false := beq_eq_false_iff_ne.2 (by omega)
                have e6 : ((kd : Int) == 6) = false := beq_eq_false_iff_ne.2 (by omega)
                have e7 : ((kd : Int) == 7) = false := beq_eq_false_iff_ne.2 (by omega)
                have e8 : ((kd : Int) == 8) = false := beq_eq_false_iff_ne.2 (by omega)
                have HD : Hid (R = false) := Lib.hid (by rw [HC.out]; unfold rCount; split <;> simp_all)
                clear HC k1 k2 k3 k4 k5 k6 k7 k8 k9
                go_wp2_with fail
                go_ret
                exact ⟨ret_bool HD.out.symm, box_self HB.out⟩
              · have HF : Hid (R = false) := Lib.hid (by rw [HT0.out, decide_eq_false hw0]; simp)
                have ew : (0 : Int) < (words.length : Int) := by omega
                clear HT0 k1 k9 hn0 hw0
                go_wp2_with fail
                go_ret
                exact ⟨ret_bool HF.out.symm, box_self HB.out⟩
            · have he : name.toList.isEmpty = false := full_of (by omega)
              have hne : ¬ name.toList = [] := by intro h; rw [h] at he; cases he
              have HF : Hid (R = false) := Lib.hid (by rw [HT0.out, he]; rfl)
              clear HT0 k1 k9 hn0
              go_wp2_with fail
              go_ret
              exact ⟨ret_bool HF.out.symm, box_self HB.out⟩
end Go.Proofs.YtpibjhlldlbocaaGreat
