/- Walks of the program's syntax: may a command be where so many levels are left? -/
import Derived.Test.YtpibjhlldlbocaaGreatSynZD
namespace Go.Proofs.YtpibjhlldlbocaaGreat
open Go.RowKit Sx Go.Proofs

namespace Sx
mutual
def Cmd.within : Cmd → Nat → Bool
  | .mk kd _ name words kids, n => n != 0 && dAlone kd.toNat name words kids.length && Cmd.withins kids (n - 1)
def Cmd.withins : List Cmd → Nat → Bool
  | [], _ => true
  | c :: r, n => c.within n && Cmd.withins r n
end
theorem Cmd.withins_drop : ∀ {l : List Cmd} {k : Nat} {c : Cmd} (n : Nat), l[k]? = some c → Cmd.withins (l.drop k) n = (c.within n && Cmd.withins (l.drop (k + 1)) n)
  | [], _, _, _, h => by simp at h
  | x :: l, 0, c, n, h => by
    obtain rfl : x = c := by simpa using h
    simp only [List.drop_zero, List.drop_succ_cons, Cmd.withins]
  | x :: l, k + 1, c, n, h => by
    simp only [List.drop_succ_cons]
    exact Cmd.withins_drop (l := l) (k := k) (c := c) n (by simpa using h)
end Sx

set_option maxRecDepth 100000 in
set_option maxHeartbeats 2000000 in
theorem mayWithin_any {W : World} {cs : List Value} {c : Cmd} {r : Nat} (h : CmdR W cs c) (hres : Resv W r) : ∀ (n : Nat) (l : Int), l = n → n ≤ 24 → ∀ w, Below W.heap.size W w → c.bulk ≤ 1900000 →
    Calls Tryz.prog 11 #[.agg cs.toArray, .map (some r), .int .i64 l] w fun e w' => e = .returned (.bool (c.within n)) ∧ Below w.heap.size w w' := by
  induction h with
  | mk kind at_ name words kids p q cp d C D h1 h2 h3 h4 h5 h6 h7 h8 ih =>
    intro n l hln hn w hb hB
    have hlen : kids.length ≤ 2000000 := by
      have := Cmd.bulks_len kids
      unfold Cmd.bulk at hB
      omega
    have hkb : Cmd.bulks kids ≤ 1900000 := by unfold Cmd.bulk at hB; omega
    have hnb : name.size + (words.map Word.bulk).sum ≤ 1900000 := by unfold Cmd.bulk at hB; omega
    have hlk : kids.length ≤ maxLen := Nat.le_trans h5 h6
    have IH := Lib.hid ih
    have HR := Lib.hid h7
    have H8 := Lib.hid h8
    have HW := Lib.hid hb
    have HRES := Lib.hid hres
    have HMA : Hid (∀ wx, Below w.heap.size w wx → Calls Tryz.prog 18 #[.agg #[.int .u8 kind.toNat, .int .i64 at_, .string name, .slice p words.length cp, .slice q kids.length d], .map (some r)] wx fun e w' => e = .returned (.bool (dAlone kind.toNat name words kids.length)) ∧ Below wx.heap.size wx w') := Lib.hid fun wx hx => mayAlone_any name h1 h2 h3 h4 hnb hres hlk wx (hb.trans (hx.mono hb.size))
    obtain ⟨R, hR⟩ : ∃ R, R = (Cmd.mk kind at_ name words kids).within n := ⟨_, rfl⟩
    rw [← hR]
    unfold Cmd.within at hR
    have HWI := Lib.hid hR
    clear ih h8 h7 h4 h3 hb hB hres hR hnb hlk
    cases n with
    | zero =>
      obtain rfl : l = 0 := hln
      have HF : Hid (R = false) := Lib.hid (by rw [HWI.out]; rfl)
      clear HWI
      go_enter Tryz.func11, Tryz.ntmps11
      go_wp2_with fail
      go_ret
      exact ⟨ret_bool HF.out.symm, box_self (Below.refl _ _)⟩
    | succ n =>
      have hl0 : (l == 0) = false := beq_eq_false_iff_ne.2 (by omega)
      have hlp : 0 < l := by omega
      have hlm : l ≤ 24 := by omega
      have HLN := Lib.hid hln
      clear hln
      have HWJ : Hid (R = (dAlone kind.toNat name words kids.length && Cmd.withins (kids.drop 0) n)) := Lib.hid HWI.out
      clear HWI
      generalize dAlone kind.toNat name words kids.length = A at *
      generalize words.length = wn at *
      cases A with
      | false =>
        go_enter Tryz.func11, Tryz.ntmps11
        go_wp2_with fail
        refine (HMA.out _ (box_self (Below.refl _ _))).mono ?_
        rintro e w3 ⟨rfl, hb3⟩
        have HB3 : Hid (Below w.heap.size w w3) := Lib.hid ((box_self (Below.refl _ _)).trans (hb3.mono (by simp)))
        clear hb3
        go_wp2_with fail
        go_ret
        exact ⟨ret_bool (by rw [HWJ.out]; rfl), HB3.out⟩
      | true =>
        go_enter Tryz.func11, Tryz.ntmps11
        go_wp2_with fail
        refine (HMA.out _ (box_self (Below.refl _ _))).mono ?_
        rintro e w3 ⟨rfl, hb3⟩
        have HB3 : Hid (Below w.heap.size w w3) := Lib.hid ((box_self (Below.refl _ _)).trans (hb3.mono (by simp)))
        have c4 : w3.cell? ⟨w.heap.size, 4, none⟩ = some (.slice q kids.length d) := box_cell (hb3.mono (by simp)) 4 rfl
        clear hb3 HMA
        go_wp2_with fail
        go_loopw [20] (fun i wr => ∃ k : Nat, k ≤ kids.length ∧ i = .int .i64 k ∧ Hid (R = Cmd.withins (kids.drop k) n) ∧ Hid (Below w.heap.size w wr)) (fun i _ => kids.length - (intOf i).toNat)
        case atStart => exact ⟨0, Nat.zero_le _, rfl, Lib.hid HWJ.out, HB3⟩
        case round =>
          clear HWJ c4
          obtain ⟨k, hk, rfl, HK, HB⟩ := hrel
          by_cases hlt : k < kids.length
          · obtain ⟨b, o, rfl, hll, hr⟩ := HR.out k hlt
            have HX := Lib.hid (List.getElem?_eq_getElem hlt)
            obtain ⟨zk, za, zs, zp, zq, zn, zc, zm, zd, hD⟩ := (H8.out k _ HX.out).cells
            generalize kids[k] = x at HX
            have hxb : x.bulk ≤ 1900000 := Nat.le_trans (Cmd.bulk_kid HX.out) hkb
            have HD : Hid (R = (x.within n && Cmd.withins (kids.drop (k + 1)) n)) := Lib.hid (by rw [HK.out, Cmd.withins_drop n HX.out])
            have HOLD : Hid (Below W.heap.size W wr) := Lib.hid (HW.out.trans (HB.out.mono HW.out.size))
            have HC0 : Hid (∀ l' : Int, l' = n → ∀ wx, Below wr.heap.size wr wx → Calls Tryz.prog 11 #[.agg (D k).toArray, .map (some r), .int .i64 l'] wx fun e w' => e = .returned (.bool (x.within n)) ∧ Below wx.heap.size wx w') := Lib.hid fun l' hl' wx hb => IH.out k x HX.out n l' hl' (by omega) wx (HOLD.out.trans (hb.mono HOLD.out.size)) hxb
            rw [hD] at hr HC0
            have hr' := range_below HOLD.out hr
            have c50 : wr.cell? ⟨b, o + k * 5, none⟩ = some (.int .u8 zk) := hr' 0 _ rfl
            have c51 := hr' 1 _ rfl
            have c52 := hr' 2 _ rfl
            have c53 := hr' 3 _ rfl
            have c54 := hr' 4 _ rfl
            clear hr hr' hD hll HX hxb
            generalize x.within n = sp at *
            go_wp2_with fail
            refine (HC0.out _ ?_ _ ((Below.refl _ _).alloc (Nat.le_refl _) _)).mono ?_
            · have := HLN.out; omega
            rintro e w2 ⟨rfl, hb2⟩
            have HB2 : Hid (Below w.heap.size w w2) := Lib.hid ((HB.out.alloc HB.out.size _).trans (hb2.mono (by have := HB.out.size; simp; omega)))
            clear hb2 HC0
            go_wp2
            · have hsp : sp = false := by cases sp <;> simp_all
              go_ret
              exact ⟨ret_bool (by rw [HD.out, hsp]; rfl), HB2.out⟩
            · have hsp : sp = true := by cases sp <;> simp_all
              go_roundw
              case rel => exact ⟨k + 1, by omega, by go_num, Lib.hid (by rw [HD.out, hsp]; rfl), HB2⟩
              case measure => simp [intOf]; omega
          · have HE : Hid (k = kids.length) := Lib.hid (by omega)
            go_wp2
            go_ret
            exact ⟨ret_bool (by rw [HK.out, HE.out, List.drop_length]; rfl), HB.out⟩
end Go.Proofs.YtpibjhlldlbocaaGreat
