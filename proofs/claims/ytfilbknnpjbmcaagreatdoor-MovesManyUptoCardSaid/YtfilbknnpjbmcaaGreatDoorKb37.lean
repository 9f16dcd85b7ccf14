/- Walks of package moves: what is looked at. -/
import Derived.Test.YtfilbknnpjbmcaaGreatDoorKb31
import Derived.Test.YtfilbknnpjbmcaaGreatDoorKb35
import Derived.Test.YtfilbknnpjbmcaaGreatDoorKb10
import Derived.Test.YtfilbknnpjbmcaaGreatDoorKb36
namespace Go.Proofs.YtfilbknnpjbmcaaGreatDoor
open Go.RowKit Px Nx Wk Dn Mv
namespace Mv
def Goal.isIn : Goal → Bool
 | .into _ => true
 | .at_ _ => false
def Goal.place : Goal → List ByteArray
 | .into p => p
 | .at_ p => p
theorem stands_bad {n : Nd} {fo : Bool} {t : ByteArray} (h : checkL t.data.toList ≠ 0) : standsR n fo t (checkL t.data.toList : Int) [] := by unfold standsR; rw [if_pos h]; exact ⟨rfl, rfl⟩
theorem stands_err {n : Nd} {fo : Bool} {t : ByteArray} (h : checkL t.data.toList = 0) {e : Int} (ho : Leads n fo t (.err e)) : standsR n fo t e [] := by unfold standsR; rw [if_neg (by omega)]; exact ⟨_, ho, rfl, rfl⟩
theorem stands_none {n : Nd} {fo : Bool} {t : ByteArray} (h : checkL t.data.toList = 0) {p : List ByteArray} (ho : Leads n fo t (.ok p 0)) : standsR n fo t 5 [] := by unfold standsR; rw [if_neg (by omega)]; exact ⟨_, ho, rfl, rfl⟩
theorem stands_some {n : Nd} {fo : Bool} {t : ByteArray} (h : checkL t.data.toList = 0) {p : List ByteArray} {k : UInt8} (hk : k ≠ 0) (ho : Leads n fo t (.ok p k)) : standsR n fo t 0 p := by
 unfold standsR
 rw [if_neg (by omega)]
 refine ⟨_, ho, ?_⟩
 show if k = 0 then _ else _
 rw [if_neg hk]
 exact ⟨rfl, rfl⟩
theorem stands_ok {n : Nd} {fo : Bool} {t : ByteArray} {p : List ByteArray} (h : standsR n fo t 0 p) : checkL t.data.toList = 0 ∧ ∃ k, k ≠ 0 ∧ Leads n fo t (.ok p k) := by
 unfold standsR at h
 split at h
 ·rename_i h0; exact absurd h.1 (by omega)
 ·rename_i h0
  obtain ⟨o, ho, h⟩ := h
  cases o with
  | err e => exact absurd h.1.symm (bne_iff_ne.1 (err_ne ho))
  | ok q k =>
   dsimp only at h
   split at h
   ·exact absurd h.1 (by decide)
   ·rename_i hk
    obtain ⟨_, rfl⟩ := h
    exact ⟨by omega, k, hk, ho⟩
end Mv
theorem check_size {t : ByteArray} (h : checkL t.data.toList = 0) : t.size ≤ 256 := by
 unfold checkL at h
 split at h
 ·cases h
 ·split at h
  ·cases h
  ·rename_i hl; rw [Array.length_toList] at hl; exact Nat.not_lt.1 hl
theorem nil_plT (w : World) (b : Nat) : PlT w b (.slice none 0 0) [] := fun w' _ => nil_pl w'
theorem ne_false {e : Int} (h : (e != 0) = true) : (e == 0) = false := beq_eq_false_iff_ne.2 (bne_iff_ne.1 h)
def StandsQ (n : Nd) (fo : Bool) (t : ByteArray) (w : World) (b : Nat) (e : Ending) (w' : World) : Prop := ∃ c p, ∃ (pp : Option Addr) (m cp : Nat), e = .returned (.tuple #[.slice pp m cp, .int .i64 c]) ∧ standsR n fo t c p ∧ PlT w' b (.slice pp m cp) p ∧ Below w.heap.size w w'

set_option maxRecDepth 100000 in
set_option maxHeartbeats 4000000 in
theorem standsSpot_any {w : World} {b G : Nat} {n : Nd} {v0 v1 v2 v3 : Value} (h : TreeX w b n v0 v1 v2 v3) (hG : TreeG G n) (hN : G ≤ 100000000) (S : ByteArray) (up : Option Addr) (un uc : Nat) (t : ByteArray) (ht : t.size ≤ 40000) :
  Calls Tryz.prog 78 #[callV S (.slice up un uc) b, .string t, .func (.func 25) #[] #[]] w fun e w' => StandsQ n false t w b e w' := by
 have HCH : Hid (∀ wx, Calls Tryz.prog 16 #[.string t] wx fun e w' => e = .returned (.int .i64 (checkL t.data.toList)) ∧ Hid (Below wx.heap.size wx w')) := Lib.hid fun wx => check_any t (by omega) wx
 have HSP : Hid (∀ wx, Below w.heap.size w wx → Calls Tryz.prog 25 #[.iface 28 (.pointer (some ⟨b, 0, none⟩)), .string t] wx fun e w' => LeadsO n false t wx e w' ∧ Below wx.heap.size wx w') := Lib.hid fun wx hb => wspotO_any (h.kept hb) hG.well (by have := hG.girth; omega) hG.kind t (by omega)
 have hbl := h.lt
 have HAL : Hid (∀ (o : Obj), Below w.heap.size w (w.alloc o)) := Lib.hid fun o => below_alloc (Below.refl _ _)
 have HR1 := Lib.hid (stands_bad (n := n) (fo := false) (t := t))
 have HR2 := Lib.hid fun h e => stands_err (n := n) (fo := false) (t := t) h (e := e)
 have HR3 := Lib.hid fun h p => stands_none (n := n) (fo := false) (t := t) h (p := p)
 have HR4 := Lib.hid fun h p k hk => stands_some (n := n) (fo := false) (t := t) h (p := p) (k := k) hk
 clear h hG hN
 generalize checkL t.data.toList = ck at *
 unfold callV
 go_enter Tryz.func78, Tryz.ntmps78
 go_wp2_with fail
 refine (HCH.out _).mono ?_
 rintro e w1 ⟨rfl, hb1⟩
 have HB1 : Hid (Below w.heap.size w w1) := Lib.hid ((HAL.out _).trans (hb1.out.mono (HAL.out _).size))
 have c2 := cell_kept hb1.out (cell_first (w := w) (c := #[.string S, .slice up un uc, .iface 28 (.pointer (some ⟨b, 0, none⟩))]) (t := 96) (i := 2) rfl)
 clear hb1 HAL
 by_cases h0 : ck = 0
 ·subst h0
  go_wp2_with fail
  refine (HSP.out _ HB1.out).mono ?_
  rintro e w2 ⟨⟨o, ho, hv⟩, hb2⟩
  have HO : Hid (Leads n false t o) := Lib.hid ho
  have HB2 : Hid (Below w.heap.size w w2) := Lib.hid (HB1.out.trans (hb2.mono HB1.out.size))
  clear hb2 ho c2
  cases o with
  | err e1 =>
   have hv' : e = .returned (.tuple #[.slice none 0 0, .int .u8 0, .int .i64 e1]) := hv
   subst hv'
   have e0 := ne_false (err_ne HO.out)
   go_wp2_with fail
   go_ret2
   exact ⟨_, _, _, _, _, rfl, HR2.out (by first | trivial | rfl) _ HO.out, nil_plT _ _, HB2.out⟩
  | ok p k =>
   obtain ⟨pv, he, hpv⟩ := hv
   subst he
   have HP := Lib.hid (own_plG hpv (Nat.lt_of_lt_of_le hbl HB1.out.size))
   obtain ⟨pp, cp, rfl, _, _, _⟩ := plR_of_own hpv
   have k0 := beq_int k 0
   rw [show ((0 : UInt8).toNat : Int) = 0 from rfl] at k0
   clear hpv
   by_cases hk : k = 0
   ·subst hk
    have k0' : ((((0 : UInt8).toNat : Nat) : Int) == 0) = true := rfl
    clear k0
    go_wp2_with fail
    go_ret2
    exact ⟨_, _, _, _, _, rfl, HR3.out (by first | trivial | rfl) _ HO.out, nil_plT _ _, HB2.out⟩
   ·rw [beq_eq_false_iff_ne.2 hk] at k0
    have HK := Lib.hid hk
    clear hk
    go_wp2_with fail
    go_ret2
    exact ⟨_, _, _, _, _, rfl, HR4.out (by first | trivial | rfl) _ _ HK.out HO.out, HP.out, HB2.out⟩
 ·have e0 : ((ck : Int) != 0) = true := bne_iff_ne.2 (by omega)
  have H0 := Lib.hid h0
  clear h0
  go_wp2_with fail
  go_ret2
  exact ⟨_, _, _, _, _, rfl, HR1.out H0.out, nil_plT _ _, HB1.out⟩

set_option maxRecDepth 100000 in
set_option maxHeartbeats 4000000 in
theorem standsFind_any {w : World} {b G : Nat} {n : Nd} {v0 v1 v2 v3 : Value} (h : TreeX w b n v0 v1 v2 v3) (hG : TreeG G n) (hN : G ≤ 100000000) (S : ByteArray) (up : Option Addr) (un uc : Nat) (t : ByteArray) (ht : t.size ≤ 40000) :
  Calls Tryz.prog 78 #[callV S (.slice up un uc) b, .string t, .func (.func 17) #[] #[]] w fun e w' => StandsQ n true t w b e w' := by
 have HCH : Hid (∀ wx, Calls Tryz.prog 16 #[.string t] wx fun e w' => e = .returned (.int .i64 (checkL t.data.toList)) ∧ Hid (Below wx.heap.size wx w')) := Lib.hid fun wx => check_any t (by omega) wx
 have HSP : Hid (∀ wx, Below w.heap.size w wx → Calls Tryz.prog 17 #[.iface 28 (.pointer (some ⟨b, 0, none⟩)), .string t] wx fun e w' => LeadsO n true t wx e w' ∧ Below wx.heap.size wx w') := Lib.hid fun wx hb => wfindO_any (h.kept hb) hG.well (by have := hG.girth; omega) hG.kind t (by omega)
 have hbl := h.lt
 have HAL : Hid (∀ (o : Obj), Below w.heap.size w (w.alloc o)) := Lib.hid fun o => below_alloc (Below.refl _ _)
 have HR1 := Lib.hid (stands_bad (n := n) (fo := true) (t := t))
 have HR2 := Lib.hid fun h e => stands_err (n := n) (fo := true) (t := t) h (e := e)
 have HR3 := Lib.hid fun h p => stands_none (n := n) (fo := true) (t := t) h (p := p)
 have HR4 := Lib.hid fun h p k hk => stands_some (n := n) (fo := true) (t := t) h (p := p) (k := k) hk
 clear h hG hN
 generalize checkL t.data.toList = ck at *
 unfold callV
 go_enter Tryz.func78, Tryz.ntmps78
 go_wp2_with fail
 refine (HCH.out _).mono ?_
 rintro e w1 ⟨rfl, hb1⟩
 have HB1 : Hid (Below w.heap.size w w1) := Lib.hid ((HAL.out _).trans (hb1.out.mono (HAL.out _).size))
 have c2 := cell_kept hb1.out (cell_first (w := w) (c := #[.string S, .slice up un uc, .iface 28 (.pointer (some ⟨b, 0, none⟩))]) (t := 96) (i := 2) rfl)
 clear hb1 HAL
 by_cases h0 : ck = 0
 ·subst h0
  go_wp2_with fail
  refine (HSP.out _ HB1.out).mono ?_
  rintro e w2 ⟨⟨o, ho, hv⟩, hb2⟩
  have HO : Hid (Leads n true t o) := Lib.hid ho
  have HB2 : Hid (Below w.heap.size w w2) := Lib.hid (HB1.out.trans (hb2.mono HB1.out.size))
  clear hb2 ho c2
  cases o with
  | err e1 =>
   have hv' : e = .returned (.tuple #[.slice none 0 0, .int .u8 0, .int .i64 e1]) := hv
   subst hv'
   have e0 := ne_false (err_ne HO.out)
   go_wp2_with fail
   go_ret2
   exact ⟨_, _, _, _, _, rfl, HR2.out (by first | trivial | rfl) _ HO.out, nil_plT _ _, HB2.out⟩
  | ok p k =>
   obtain ⟨pv, he, hpv⟩ := hv
   subst he
   have HP := Lib.hid (own_plG hpv (Nat.lt_of_lt_of_le hbl HB1.out.size))
   obtain ⟨pp, cp, rfl, _, _, _⟩ := plR_of_own hpv
   have k0 := beq_int k 0
   rw [show ((0 : UInt8).toNat : Int) = 0 from rfl] at k0
   clear hpv
   by_cases hk : k = 0
   ·subst hk
    have k0' : ((((0 : UInt8).toNat : Nat) : Int) == 0) = true := rfl
    clear k0
    go_wp2_with fail
    go_ret2
    exact ⟨_, _, _, _, _, rfl, HR3.out (by first | trivial | rfl) _ HO.out, nil_plT _ _, HB2.out⟩
   ·rw [beq_eq_false_iff_ne.2 hk] at k0
    have HK := Lib.hid hk
    clear hk
    go_wp2_with fail
    go_ret2
    exact ⟨_, _, _, _, _, rfl, HR4.out (by first | trivial | rfl) _ _ HK.out HO.out, HP.out, HB2.out⟩
 ·have e0 : ((ck : Int) != 0) = true := bne_iff_ne.2 (by omega)
  have H0 := Lib.hid h0
  clear h0
  go_wp2_with fail
  go_ret2
  exact ⟨_, _, _, _, _, rfl, HR1.out H0.out, nil_plT _ _, HB1.out⟩

def OwnL (w : World) (B : Nat) (v : Value) (l : List ByteArray) : Prop := w.ownsRow B 9 1 v l.length (l.map Value.string)
theorem OwnL.kept {w w' : World} {B : Nat} {v : Value} {l : List ByteArray} (h : OwnL w B v l) (hb : Below w.heap.size w w') : OwnL w' B v l := own_same h fun k hk => hb.block k (own_where h hk).2
theorem OwnL.set2 {w : World} {B g : Nat} {v : Value} {l : List ByteArray} (h : OwnL w B v l) (hg : g < B) (u0 u1 : Value) : OwnL ((w.setCell ⟨g, 0, none⟩ u0).setCell ⟨g, 1, none⟩ u1) B v l := own_same h fun k hk => by
 have h1 := (own_where h hk).1
 rw [heap_setCell_other _ _ _ _ (by simp; omega), heap_setCell_other _ _ _ _ (by simp; omega)]
def LeadQ (R : Int → Goal → Prop) (w : World) (B : Nat) (e : Ending) (w' : World) : Prop := ∃ c q, ∃ (pp : Option Addr) (m cp : Nat), e = .returned (.tuple #[.slice pp m cp, .int .i64 c]) ∧ R c (.at_ q) ∧ OwnL w' B (.slice pp m cp) q ∧ Below w.heap.size w w'
set_option maxRecDepth 100000 in
set_option maxHeartbeats 4000000 in
theorem toSpot_any {w : World} {b G : Nat} {n : Nd} {v0 v1 v2 v3 : Value} (h : TreeX w b n v0 v1 v2 v3) (hG : TreeG G n) (hN : G ≤ 100000000) (S : ByteArray) (up : Option Addr) (un uc : Nat) (t : ByteArray) (ht : t.size ≤ 40000) (v : Value) (k : UInt8) {B : Nat} (hB : B ≤ w.heap.size) :
  Calls Tryz.prog 48 #[callV S (.slice up un uc) b, .string t, v, .int .u8 k.toNat] w fun e w' => LeadQ (spotR n t) w B e w' := by
 have HSP : Hid (∀ wx, Below w.heap.size w wx → Calls Tryz.prog 25 #[.iface 28 (.pointer (some ⟨b, 0, none⟩)), .string t] wx fun e w' => LeadsO n false t wx e w' ∧ Below wx.heap.size wx w') := Lib.hid fun wx hb => wspotO_any (h.kept hb) hG.well (by have := hG.girth; omega) hG.kind t (by omega)
 have hbl := h.lt
 have HAL : Hid (∀ (o : Obj), Below w.heap.size w (w.alloc o)) := Lib.hid fun o => below_alloc (Below.refl _ _)
 have hsz : (w.alloc (.cells #[.string S, .slice up un uc, .iface 28 (.pointer (some ⟨b, 0, none⟩))] 96)).heap.size = w.heap.size + 1 := by simp
 clear h hG hN
 unfold callV
 go_enter Tryz.func48, Tryz.ntmps48
 go_wp2_with fail
 refine (HSP.out _ (HAL.out _)).mono ?_
 rintro e w2 ⟨⟨o, ho, hv⟩, hb2⟩
 have HO : Hid (Leads n false t o) := Lib.hid ho
 have HB2 : Hid (Below w.heap.size w w2) := Lib.hid ((HAL.out _).trans (hb2.mono (HAL.out _).size))
 clear hb2 ho
 cases o with
 | err e1 =>
  have hv' : e = .returned (.tuple #[.slice none 0 0, .int .u8 0, .int .i64 e1]) := hv
  subst hv'
  go_wp2_with fail
  go_ret2
  exact ⟨_, _, _, _, _, rfl, ⟨_, HO.out, rfl, rfl⟩, own_nil _ _, HB2.out⟩
 | ok p q =>
  obtain ⟨pv, he, hpv⟩ := hv
  subst he
  have HP : Hid (OwnL w2 B pv p) := Lib.hid (own_less0 hpv (by rw [hsz]; omega))
  obtain ⟨pp, cp, rfl, _, _, _⟩ := plR_of_own hpv
  clear hpv
  go_wp2_with fail
  go_ret2
  exact ⟨_, _, _, _, _, rfl, ⟨_, HO.out, rfl, rfl⟩, HP.out, HB2.out⟩
namespace Mv
theorem found_some {n : Nd} {t : ByteArray} {p : List ByteArray} {k : UInt8} (hk : k ≠ 0) : foundR n t p k 0 (.at_ p) := by unfold foundR; rw [if_pos hk]; exact ⟨rfl, rfl⟩
theorem found_link {n : Nd} {t : ByteArray} {p : List ByteArray} {o : Out} (ho : Leads n false t o) (hl : linkO o = true) : foundR n t p 0 5 noGoal := by unfold foundR; rw [if_neg (by simp)]; exact ⟨_, ho, by rw [if_pos hl]; exact ⟨rfl, rfl⟩⟩
theorem found_none {n : Nd} {t : ByteArray} {p : List ByteArray} {o : Out} (ho : Leads n false t o) (hl : linkO o = false) : foundR n t p 0 0 (.at_ p) := by unfold foundR; rw [if_neg (by simp)]; exact ⟨_, ho, by rw [if_neg (by rw [hl]; decide)]; exact ⟨rfl, rfl⟩⟩
end Mv
set_option maxRecDepth 100000 in
set_option maxHeartbeats 4000000 in
theorem toFound_any {w : World} {b G : Nat} {n : Nd} {v0 v1 v2 v3 : Value} (h : TreeX w b n v0 v1 v2 v3) (hG : TreeG G n) (hN : G ≤ 100000000) (S : ByteArray) (up : Option Addr) (un uc : Nat) (t : ByteArray) (ht : t.size ≤ 40000) {pp : Option Addr} {m cp : Nat} {p : List ByteArray} {B : Nat} (hp : OwnL w B (.slice pp m cp) p) (k : UInt8) :
  Calls Tryz.prog 50 #[callV S (.slice up un uc) b, .string t, .slice pp m cp, .int .u8 k.toNat] w fun e w' => LeadQ (foundR n t p k) w B e w' := by
 have HSP : Hid (∀ wx, Below w.heap.size w wx → Calls Tryz.prog 25 #[.iface 28 (.pointer (some ⟨b, 0, none⟩)), .string t] wx fun e w' => LeadsQ n false t e w' ∧ Below wx.heap.size wx w') := Lib.hid fun wx hb => wspot_any (h.kept hb) hG.well (by have := hG.girth; omega) hG.kind t (by omega)
 have HAL : Hid (∀ (o : Obj), Below w.heap.size w (w.alloc o)) := Lib.hid fun o => below_alloc (Below.refl _ _)
 have HP := Lib.hid hp
 clear h hG hN hp
 have k0 := beq_int k 0
 rw [show ((0 : UInt8).toNat : Int) = 0 from rfl] at k0
 have k1 := ne_of k0
 unfold callV
 by_cases hk : k = 0
 ·subst hk
  have k2 : ((((0 : UInt8).toNat : Nat) : Int) != 0) = false := rfl
  clear k0 k1
  go_enter Tryz.func50, Tryz.ntmps50
  go_wp2_with fail
  refine (HSP.out _ (HAL.out _)).mono ?_
  rintro e w2 ⟨⟨o, ho, hv⟩, hb2⟩
  have HO : Hid (Leads n false t o) := Lib.hid ho
  have HB2 : Hid (Below w.heap.size w w2) := Lib.hid ((HAL.out _).trans (hb2.mono (HAL.out _).size))
  clear hb2 ho
  cases o with
  | err e1 =>
   have hv' : e = .returned (.tuple #[.slice none 0 0, .int .u8 0, .int .i64 e1]) := hv
   subst hv'
   go_wp2_with fail
   go_ret2
   exact ⟨_, _, _, _, _, rfl, found_none HO.out rfl, HP.out.kept HB2.out, HB2.out⟩
  | ok q kq =>
   obtain ⟨pv, he, hpv⟩ := hv
   subst he
   obtain ⟨pq, cq, rfl, _, _, _⟩ := hpv
   have q0 := beq_int kq 3
   rw [show ((3 : UInt8).toNat : Int) = 3 from rfl] at q0
   by_cases hq : kq = 3
   ·have HL : Hid (linkO (.ok q kq) = true) := Lib.hid (decide_eq_true hq)
    rw [beq_iff_eq.2 hq] at q0
    clear hq
    go_wp2_with fail
    go_ret2
    exact ⟨_, _, _, _, _, rfl, found_link HO.out HL.out, own_nil _ _, HB2.out⟩
   ·have HL : Hid (linkO (.ok q kq) = false) := Lib.hid (decide_eq_false hq)
    rw [beq_eq_false_iff_ne.2 hq] at q0
    clear hq
    go_wp2_with fail
    go_ret2
    exact ⟨_, _, _, _, _, rfl, found_none HO.out HL.out, HP.out.kept HB2.out, HB2.out⟩
 ·rw [beq_eq_false_iff_ne.2 hk] at k0 k1
  have HK := Lib.hid hk
  clear hk
  go_enter Tryz.func50, Tryz.ntmps50
  go_wp2_with fail
  go_ret2
  exact ⟨_, _, _, _, _, rfl, found_some HK.out, HP.out.kept (HAL.out _), HAL.out _⟩

namespace Mv
theorem lastB_some {s q : ByteArray} (hn : nameL (lastF s.data.toList) = true) (hq : q.data.toList = lastF s.data.toList) : lastB s = some q ∧ q.size ≤ 64 := by
 unfold lastB
 rw [if_pos hn]
 refine ⟨congrArg some (ByteArray.ext (by simpa using congrArg List.toArray hq.symm)), ?_⟩
 unfold nameL at hn
 simp only [Bool.and_eq_true, decide_eq_true_eq] at hn
 have := hn.1.2
 rw [← hq, Array.length_toList] at this
 exact this
theorem lastB_none {s : ByteArray} (hn : nameL (lastF s.data.toList) = false) : lastB s = none := by unfold lastB; rw [if_neg (by rw [hn]; decide)]
end Mv
theorem pl_tight {w : World} {p : Option Addr} {n c : Nat} {l : List ByteArray} (h : PlR w (.slice p n c) l) : PlR w (.slice p n n) l := by
 obtain ⟨p', c', he, hs, h1, h2⟩ := h
 obtain ⟨rfl, rfl, rfl⟩ : p = p' ∧ n = l.length ∧ c = c' := by simpa using he
 exact ⟨_, _, rfl, hs, Nat.le_refl _, Nat.le_trans h1 h2⟩
theorem one_readsN (w : World) (s : ByteArray) : Reads (w.alloc (.cells #[.string s] 9)) (.slice (some ⟨w.heap.size, 0, none⟩) 1 1) 1 1 [.string s] := by
 refine ⟨rfl, rfl, _, _, rfl, Nat.le_refl _, by decide, fun j u hj => ⟨w.heap.size, 0, rfl, ?_⟩⟩
 cases j with
 | zero =>
  obtain rfl : Value.string s = u := by simpa using hj
  exact cell_first (i := 0) rfl
 | succ j => simp at hj
theorem wpList_append_mine {P : Program} (w : World) {ops : Array Oper} {rest : List Oper} {o : Oper} {a : Act} {Q : Exit → Act → World → Prop} (hgd : o.guard = none) (s x : Operand) (t : TypeId)
  (ho : o.op = .call { callee := .builtin .append, args := #[s, x], argTypes := #[t, t] })
  (base : Nat) (e : TypeId) (i : TypeInfo) (z : Value) (size bytes : Nat) (ht : P.underlying t = some (.slice e)) (hi : P.info? e = some i) (hz : i.zero = some z)
  (hsize : i.size = size) (hby : i.bytes = bytes) (hzs : z.cells.size = size) (hsz : 0 < size)
  (v : Value) (n : Nat) (xs : List Value) (hs : a.eval s = v) {po : Option Addr} (hv : Mine w base po e size v n xs) (u : Value) (m : Nat) (ys : List Value) (hx : a.eval x = u) (hu : Reads w u m size ys)
  (h63 : n + m ≤ maxLen) (hbytes : (n + m) * bytes ≤ 140737488355328) (hbase : base ≤ w.heap.size)
  (h : ∀ v' w', Mine w' base (poIf m po) e size v' (n + m) (xs ++ ys) → Below base w w' → wpList P ops Q rest (a.put o.dst v') w') : wpList P ops Q (o :: rest) a w :=
 wpList_plain hgd fun _ hK => wp_append_mine w s x t ho base e i z size bytes ht hi hz hsize hby hzs hsz v n xs hs hv u m ys hx hu h63 hbytes hbase fun v' w' h1 h2 => hK _ _ (h v' w' h1 h2)
def PlaceQ (g : Goal) (s : ByteArray) (w : World) (b : Nat) (e : Ending) (w' : World) : Prop := ((toD g s = none ∧ e = .returned (.tuple #[.slice none 0 0, .int .i64 4])) ∨ (∃ tq, toD g s = some tq ∧ namesBulk tq ≤ namesBulk g.place + 65 ∧ ∃ (pp : Option Addr) (m cp : Nat), e = .returned (.tuple #[.slice pp m cp, .int .i64 0]) ∧ PlT w' b (.slice pp m cp) tq)) ∧ Below w.heap.size w w'
set_option maxRecDepth 100000 in
set_option maxHeartbeats 4000000 in
theorem placeOf_any {w : World} {b : Nat} (hb : b < w.heap.size) (g : Goal) {pp : Option Addr} {m cp : Nat} (hp : PlT w b (.slice pp m cp) g.place) (hpl : g.place.length ≤ 700000) (s : ByteArray) (hs : s.size ≤ 40000) :
  Calls Tryz.prog 93 #[.agg #[.slice pp m cp, .bool g.isIn], .string s] w fun e w' => PlaceQ g s w b e w' := by
 have HLA : Hid (∀ wx, Calls Tryz.prog 26 #[.string s] wx fun e w' => LastAt s e ∧ Hid (Below wx.heap.size wx w')) := Lib.hid fun wx => last_any s wx (by omega)
 have HAL : Hid (∀ (o : Obj), Below w.heap.size w (w.alloc o)) := Lib.hid fun o => below_alloc (Below.refl _ _)
 have HP := Lib.hid hp
 obtain ⟨_, _, he, _, hl, hm⟩ := hp.r
 obtain ⟨rfl, rfl, rfl⟩ : pp = _ ∧ m = g.place.length ∧ cp = _ := by simpa using he
 clear he hp
 cases g with
 | at_ p =>
  have HP2 : Hid (PlT w b (.slice pp p.length cp) p) := HP
  show Calls _ _ #[.agg #[.slice pp p.length cp, .bool false], .string s] _ _
  go_enter Tryz.func93, Tryz.ntmps93
  go_wp2_with fail
  go_ret2
  exact ⟨.inr ⟨p, rfl, Nat.le_add_right _ _, _, _, _, rfl, HP2.out.kept (HAL.out _)⟩, HAL.out _⟩
 | into p =>
  have HP2 : Hid (PlT w b (.slice pp p.length cp) p) := HP
  have hl : p.length ≤ cp := hl
  have hpl : p.length ≤ 700000 := hpl
  have hm : cp ≤ 9223372036854775807 := by unfold maxLen at hm; omega
  clear HP
  show Calls _ _ #[.agg #[.slice pp p.length cp, .bool true], .string s] _ _
  go_enter Tryz.func93, Tryz.ntmps93
  go_wp2_with fail
  refine (HLA.out _).mono ?_
  rintro e w1 ⟨⟨q, rfl, hq⟩, hb1⟩
  have HB1 : Hid (Below w.heap.size w w1) := Lib.hid ((HAL.out _).trans (hb1.out.mono (HAL.out _).size))
  have c0 := cell_kept hb1.out (cell_first (w := w) (c := #[.slice pp p.length cp, .bool true]) (t := 98) (i := 0) rfl)
  clear hb1
  cases hn : nameL (lastF s.data.toList) with
  | false =>
   have HN := Lib.hid (lastB_none hn)
   clear hn hq c0
   go_wp2_with fail
   go_ret2
   exact ⟨.inl ⟨by show (lastB s).map _ = none; rw [HN.out]; rfl, rfl⟩, HB1.out⟩
  | true =>
   rw [hn, if_pos rfl] at hq
   have HN := Lib.hid (lastB_some hn hq)
   clear hn hq
   obtain ⟨i0, hi, hz0, hz1, hz2⟩ := info_parts infoStr
   have HMI : Hid (∃ po, Mine w1 w1.heap.size po 9 1 (.slice pp p.length p.length) p.length (p.map Value.string)) := Lib.hid (mine_reads (reads_pl (pl_tight (HP2.out.r.grown HB1.out))))
   have HBA : Hid (Below w1.heap.size w1 (w1.alloc (.cells #[.string q] 9))) := Lib.hid (below_alloc (Below.refl _ _))
   have hbl : b < w1.heap.size := Nat.lt_of_lt_of_le hb HB1.out.size
   have HRE : Hid (Reads (w1.alloc (.cells #[.string q] 9)) (.slice (some ⟨w1.heap.size, 0, none⟩) 1 1) 1 1 [.string q]) := Lib.hid (one_readsN w1 q)
   obtain ⟨po, hmi⟩ := HMI.out
   have HMN := Lib.hid (hmi.kept HBA.out)
   clear hmi HMI
   go_wp2_with (at_builtin; refine wpList_append_mine (po := po) _ rfl (.tmp 28) (.tmp 30) 22 rfl w1.heap.size 9 i0 (.string ⟨#[]⟩) 1 16 Tryz.underlying22 hi hz0 hz1 hz2 rfl (by decide) _ p.length (p.map Value.string) rfl HMN.out _ 1 [.string q] rfl HRE.out (by unfold maxLen; omega) (by omega) HBA.out.size ?_; intro v7 w7 hm7 hb7)
   obtain ⟨_, p7, c7, rfl, _, _, _, _⟩ := Mine.out hm7 (by unfold maxLen; omega)
   have HPG := Lib.hid (mine_plG (m := 1) (n := p.length + 1) (l := p ++ [q]) (by decide) (by simp) (by simpa using hm7) hbl)
   have HB7 : Hid (Below w.heap.size w w7) := Lib.hid (HB1.out.trans ((HBA.out.trans hb7).mono HB1.out.size))
   clear hm7 hb7
   go_ret2
   exact ⟨.inr ⟨p ++ [q], by show (lastB s).map _ = _; rw [HN.out.1]; rfl, by rw [names_snoc]; have := HN.out.2; show _ ≤ namesBulk p + 65; omega, _, _, _, rfl, HPG.out⟩, HB7.out⟩

namespace Mv
def lineM (name : ByteArray) (x : ByteArray × Int) : List UInt8 := name.data.toList ++ [58, 32] ++ x.1.data.toList ++ [58, 32] ++ (whyD x.2).data.toList ++ [10]
def linesM (name : ByteArray) (bad : List (ByteArray × Int)) : List UInt8 := bad.flatMap (lineM name)
theorem line_catM (name y : ByteArray) (c : Int) : (name ++ ⟨#[58, 32]⟩ ++ y ++ ⟨#[58, 32]⟩ ++ whyD c ++ ⟨#[10]⟩ : ByteArray).data.toList = lineM name (y, c) := by
 simp [lineM, ByteArray.data_append]
theorem bif_sizeM {b : Bool} {x y : ByteArray} (hx : x.size ≤ 20) (hy : y.size ≤ 20) : (bif b then x else y).size ≤ 20 := by cases b <;> assumption
theorem why_size (c : Int) : (whyD c).size ≤ 20 := by
 unfold whyD
 exact bif_sizeM (of_decide_eq_true (by kernel_rfl)) (bif_sizeM (of_decide_eq_true (by kernel_rfl)) (bif_sizeM (of_decide_eq_true (by kernel_rfl)) (bif_sizeM (of_decide_eq_true (by kernel_rfl)) (bif_sizeM (of_decide_eq_true (by kernel_rfl)) (bif_sizeM (of_decide_eq_true (by kernel_rfl)) (bif_sizeM (of_decide_eq_true (by kernel_rfl)) (bif_sizeM (of_decide_eq_true (by kernel_rfl)) (of_decide_eq_true (by kernel_rfl)))))))))
end Mv
set_option maxRecDepth 100000 in
theorem refusal_any (w : World) (name y : ByteArray) (c : Int) (hn : name.size ≤ 600) (hy : y.size ≤ 40000) :
  Calls Tryz.prog 55 #[.string name, .string y, .int .i64 c] w fun e w' => e = .returned (.string ⟨(lineM name (y, c)).toArray⟩) ∧ w' = w := by
 have HE : Hid ((name ++ ⟨#[58, 32]⟩ ++ y ++ ⟨#[58, 32]⟩ ++ whyD c ++ ⟨#[10]⟩ : ByteArray) = ⟨(lineM name (y, c)).toArray⟩) := Lib.hid (by rw [← line_catM])
 have hw := why_size c
 go_enter Tryz.func55, Tryz.ntmps55
 go_wp2_with fail
 refine (why_any _ _).mono ?_
 rintro e w1 ⟨rfl, rfl⟩
 generalize whyD c = r at *
 go_wp2_with fail
 go_ret
 exact ⟨by first | rfl | (rw [HE.out]; rfl), rfl⟩
end Go.Proofs.YtfilbknnpjbmcaaGreatDoor
