/- Walks of package moves: where the goal leads to. -/
import Derived.Test.YtfilbknnpjbmcaaGreatDoorKb37
namespace Go.Proofs.YtfilbknnpjbmcaaGreatDoor
open Go.RowKit Px Nx Wk Dn Ox Mv
def utV (O M : ByteArray) (L F : Nat) : Value := .agg #[.string O, .string M, .func (.func L) #[] #[], .func (.func F) #[] #[]]
def GTwo (w : World) (g : Nat) (u0 u1 : Value) : Prop := w.heap[g]? = some (.cells #[u0, u1] 98 (0, 0))
theorem GTwo.kept {w w' : World} {g : Nat} {u0 u1 : Value} (h : GTwo w g u0 u1) (hb : Below w.heap.size w w') : GTwo w' g u0 u1 := by
 unfold GTwo at *
 rw [hb.block _ (Array.getElem?_eq_some_iff.1 h).1]
 exact h
theorem GTwo.cell {w : World} {g : Nat} {u0 u1 : Value} (h : GTwo w g u0 u1) : w.cell? ⟨g, 0, none⟩ = some u0 ∧ w.cell? ⟨g, 1, none⟩ = some u1 := ⟨by rw [cell_of_row _ _ _ _ _ _ h]; rfl, by rw [cell_of_row _ _ _ _ _ _ h]; rfl⟩
theorem GTwo.open_ {w : World} {g : Nat} {u0 u1 : Value} (h : GTwo w g u0 u1) : w.frozen? ⟨g, 0, none⟩ = false ∧ w.frozen? ⟨g, 1, none⟩ = false := ⟨frozen_of_row w g 0 _ _ h, frozen_of_row w g 1 _ _ h⟩
theorem GTwo.newE {w : World} {g : Nat} {u0 u1 : Value} (hg : g = w.heap.size) : GTwo (w.alloc (.cells #[u0, u1] 98)) g u0 u1 := hg ▸ heap_alloc_new w _
theorem below_two {w w' : World} {g : Nat} (h : Below w.heap.size w w') (hg : w.heap.size ≤ g) (u0 u1 : Value) : Below w.heap.size w ((w'.setCell ⟨g, 0, none⟩ u0).setCell ⟨g, 1, none⟩ u1) := (h.setCell (p := ⟨g, 0, none⟩) hg u0).setCell (p := ⟨g, 1, none⟩) hg u1
def LookQ (cp : Bool) (n : Nd) (t : ByteArray) (several : Bool) (w : World) (e : Ending) (w' : World) : Prop := ∃ c g, ∃ (pp : Option Addr) (m cc : Nat), e = .returned (.tuple #[.agg #[.slice pp m cc, .bool g.isIn], .int .i64 c]) ∧ goalR cp n t several c g ∧ OwnL w' w.heap.size (.slice pp m cc) g.place ∧ Below w.heap.size w w'
namespace Mv
theorem goal_bad {cp : Bool} {n : Nd} {t : ByteArray} {several : Bool} (h : checkL t.data.toList ≠ 0) : goalR cp n t several (checkL t.data.toList : Int) noGoal := by unfold goalR; rw [if_pos h]; exact ⟨rfl, rfl⟩
theorem goal_err {cp : Bool} {n : Nd} {t : ByteArray} {several : Bool} (h : checkL t.data.toList = 0) {e : Int} (ho : Leads n true t (.err e)) : goalR cp n t several e noGoal := by unfold goalR; rw [if_neg (by omega)]; exact ⟨_, ho, rfl, rfl⟩
theorem goal_dir {cp : Bool} {n : Nd} {t : ByteArray} {several : Bool} (h : checkL t.data.toList = 0) {p : List ByteArray} (ho : Leads n true t (.ok p 2)) : goalR cp n t several 0 (.into p) := by unfold goalR; rw [if_neg (by omega)]; exact ⟨_, ho, by show if _ then _ else _; rw [if_pos rfl]; exact ⟨rfl, rfl⟩⟩
theorem goal_gone {cp : Bool} {n : Nd} {t : ByteArray} {several : Bool} (h : checkL t.data.toList = 0) {p : List ByteArray} (ho : Leads n true t (.ok p 0)) (hs : several = true ∨ dirB t = true) : goalR cp n t several 5 noGoal := by unfold goalR; rw [if_neg (by omega)]; exact ⟨_, ho, by show if _ then _ else _; rw [if_neg (by decide), if_pos ⟨rfl, hs⟩]; exact ⟨rfl, rfl⟩⟩
theorem goal_file {cp : Bool} {n : Nd} {t : ByteArray} (h : checkL t.data.toList = 0) {p : List ByteArray} {k : UInt8} (hk : k ≠ 2) (hk0 : k ≠ 0) (ho : Leads n true t (.ok p k)) : goalR cp n t true 55 noGoal := by unfold goalR; rw [if_neg (by omega)]; exact ⟨_, ho, by show if _ then _ else _; rw [if_neg hk, if_neg (fun h => hk0 h.1), if_pos rfl]; exact ⟨rfl, rfl⟩⟩
theorem goal_leads {cp : Bool} {n : Nd} {t : ByteArray} (h : checkL t.data.toList = 0) {p : List ByteArray} {k : UInt8} (hk : k ≠ 2) (hk0 : k = 0 → dirB t = false) (ho : Leads n true t (.ok p k)) {c : Int} {g : Goal} (hg : leadsR cp n t p k c g) : goalR cp n t false c g := by
 unfold goalR
 rw [if_neg (by omega)]
 refine ⟨_, ho, ?_⟩
 show if _ then _ else _
 rw [if_neg hk, if_neg (fun h => by have := hk0 h.1; rcases h.2 with h2 | h2 <;> simp_all), if_neg (by decide)]
 exact hg
end Mv

set_option maxRecDepth 100000 in
set_option maxHeartbeats 8000000 in
theorem lookAtGoal_spot {w : World} {b G : Nat} {n : Nd} {v0 v1 v2 v3 : Value} (h : TreeX w b n v0 v1 v2 v3) (hG : TreeG G n) (hN : G ≤ 100000000) (S : ByteArray) (up : Option Addr) (un uc : Nat) (O M : ByteArray) (F : Nat) (t : ByteArray) (ht : t.size ≤ 40000) (several : Bool) :
  Calls Tryz.prog 54 #[utV O M 48 F, callV S (.slice up un uc) b, .string t, .bool several] w fun e w' => LookQ false n t several w e w' := by
 have HCH : Hid (∀ wx, Calls Tryz.prog 16 #[.string t] wx fun e w' => e = .returned (.int .i64 (checkL t.data.toList)) ∧ Hid (Below wx.heap.size wx w')) := Lib.hid fun wx => check_any t (by omega) wx
 have HFI : Hid (∀ wx, Below w.heap.size w wx → Calls Tryz.prog 17 #[.iface 28 (.pointer (some ⟨b, 0, none⟩)), .string t] wx fun e w' => LeadsO n true t wx e w' ∧ Below wx.heap.size wx w') := Lib.hid fun wx hb => wfindO_any (h.kept hb) hG.well (by have := hG.girth; omega) hG.kind t (by omega)
 have HDI : Hid (∀ wx, Calls Tryz.prog 64 #[.string t] wx fun e w' => e = .returned (.bool (dirB t)) ∧ wx = w') := Lib.hid fun wx => dir_any t wx (by omega)
 have HLD : Hid (∀ wx, Below w.heap.size w wx → ∀ (pp : Option Addr) (m cp : Nat) (p : List ByteArray) (k : UInt8), w.heap.size + 3 ≤ wx.heap.size → OwnL wx (w.heap.size + 3) (.slice pp m cp) p → Calls Tryz.prog 48 #[.agg #[.string S, .slice up un uc, .iface 28 (.pointer (some ⟨b, 0, none⟩))], .string t, .slice pp m cp, .int .u8 k.toNat] wx fun e w' => LeadQ (leadsR false n t p k) wx (w.heap.size + 3) e w') := Lib.hid fun wx hb pp m cp p k hz hp => (toSpot_any (h.kept hb) hG hN S up un uc t ht _ k hz).mono fun _ _ ⟨c, q, a1, a2, a3, r1, r2, r3⟩ => ⟨c, q, a1, a2, a3, r1, r2, r3⟩
 have hbl := h.lt
 clear h hG hN
 obtain ⟨ck, hck⟩ : ∃ ck, checkL t.data.toList = ck := ⟨_, rfl⟩
 simp only [hck] at HCH
 have HCK := Lib.hid hck
 clear hck
 unfold utV callV
 go_enter Tryz.func54, Tryz.ntmps54
 go_wp2_with fail
 have HB0 : Hid (Below w.heap.size w (((w.alloc (.cells #[.string O, .string M, .func (.func 48) #[] #[], .func (.func F) #[] #[]] 63)).alloc (.cells #[.string S, .slice up un uc, .iface 28 (.pointer (some ⟨b, 0, none⟩))] 96)).alloc (.cells #[.slice none 0 0, .bool false] 98))) := Lib.hid (below_alloc (below_alloc (below_alloc (Below.refl _ _))))
 have u2 : (((w.alloc (.cells #[.string O, .string M, .func (.func 48) #[] #[], .func (.func F) #[] #[]] 63)).alloc (.cells #[.string S, .slice up un uc, .iface 28 (.pointer (some ⟨b, 0, none⟩))] 96)).alloc (.cells #[.slice none 0 0, .bool false] 98)).cell? ⟨w.heap.size, 2, none⟩ = some (.func (.func 48) #[] #[]) := cell_alloc (cell_alloc (cell_first (i := 2) rfl))
 have k0 : (((w.alloc (.cells #[.string O, .string M, .func (.func 48) #[] #[], .func (.func F) #[] #[]] 63)).alloc (.cells #[.string S, .slice up un uc, .iface 28 (.pointer (some ⟨b, 0, none⟩))] 96)).alloc (.cells #[.slice none 0 0, .bool false] 98)).cell? ⟨w.heap.size + 1, 0, none⟩ = some (.string S) := cell_alloc (cell_firstE (i := 0) (by simp) rfl)
 have k1 : (((w.alloc (.cells #[.string O, .string M, .func (.func 48) #[] #[], .func (.func F) #[] #[]] 63)).alloc (.cells #[.string S, .slice up un uc, .iface 28 (.pointer (some ⟨b, 0, none⟩))] 96)).alloc (.cells #[.slice none 0 0, .bool false] 98)).cell? ⟨w.heap.size + 1, 1, none⟩ = some (.slice up un uc) := cell_alloc (cell_firstE (i := 1) (by simp) rfl)
 have k2 : (((w.alloc (.cells #[.string O, .string M, .func (.func 48) #[] #[], .func (.func F) #[] #[]] 63)).alloc (.cells #[.string S, .slice up un uc, .iface 28 (.pointer (some ⟨b, 0, none⟩))] 96)).alloc (.cells #[.slice none 0 0, .bool false] 98)).cell? ⟨w.heap.size + 1, 2, none⟩ = some (.iface 28 (.pointer (some ⟨b, 0, none⟩))) := cell_alloc (cell_firstE (i := 2) (by simp) rfl)
 have HZ0 : Hid (GTwo (((w.alloc (.cells #[.string O, .string M, .func (.func 48) #[] #[], .func (.func F) #[] #[]] 63)).alloc (.cells #[.string S, .slice up un uc, .iface 28 (.pointer (some ⟨b, 0, none⟩))] 96)).alloc (.cells #[.slice none 0 0, .bool false] 98)) (w.heap.size + 1 + 1) (.slice none 0 0) (.bool false)) := Lib.hid (GTwo.newE (by simp))
 have hs0 : (((w.alloc (.cells #[.string O, .string M, .func (.func 48) #[] #[], .func (.func F) #[] #[]] 63)).alloc (.cells #[.string S, .slice up un uc, .iface 28 (.pointer (some ⟨b, 0, none⟩))] 96)).alloc (.cells #[.slice none 0 0, .bool false] 98)).heap.size = w.heap.size + 3 := by simp
 generalize (((w.alloc (.cells #[.string O, .string M, .func (.func 48) #[] #[], .func (.func F) #[] #[]] 63)).alloc (.cells #[.string S, .slice up un uc, .iface 28 (.pointer (some ⟨b, 0, none⟩))] 96)).alloc (.cells #[.slice none 0 0, .bool false] 98)) = w0 at *
 refine (HCH.out _).mono ?_
 rintro e w1 ⟨rfl, hb1⟩
 have HB1 : Hid (Below w.heap.size w w1) := Lib.hid (HB0.out.trans (hb1.out.mono HB0.out.size))
 have HZ1 := Lib.hid (HZ0.out.kept hb1.out)
 have HS1 : Hid (w.heap.size + 3 ≤ w1.heap.size) := Lib.hid (hs0 ▸ hb1.out.size)
 clear hs0
 replace u2 := cell_kept hb1.out u2
 replace k0 := cell_kept hb1.out k0
 replace k1 := cell_kept hb1.out k1
 replace k2 := cell_kept hb1.out k2
 clear hb1 HZ0 HB0
 obtain ⟨z0, z1⟩ := HZ1.out.cell
 obtain ⟨y0, y1⟩ := HZ1.out.open_
 by_cases h0 : ck = 0
 ·subst h0
  have HT0 : Hid ((0 : Nat) = 0) := Lib.hid rfl
  go_wp2_with fail
  refine (HFI.out _ HB1.out).mono ?_
  rintro e w2 ⟨⟨o, ho, hv⟩, hb2⟩
  have HO : Hid (Leads n true t o) := Lib.hid ho
  have HB2 : Hid (Below w.heap.size w w2) := Lib.hid (HB1.out.trans (hb2.mono HB1.out.size))
  have HZ2 := Lib.hid (HZ1.out.kept hb2)
  have HS2 : Hid (w1.heap.size ≤ w2.heap.size) := Lib.hid hb2.size
  replace u2 := cell_kept hb2 u2
  replace k0 := cell_kept hb2 k0
  replace k1 := cell_kept hb2 k1
  replace k2 := cell_kept hb2 k2
  clear hb2 ho z0 z1 y0 y1 HZ1
  obtain ⟨z0, z1⟩ := HZ2.out.cell
  obtain ⟨y0, y1⟩ := HZ2.out.open_
  cases o with
  | err e1 =>
   have hv' : e = .returned (.tuple #[.slice none 0 0, .int .u8 0, .int .i64 e1]) := hv
   subst hv'
   have e0 := err_ne HO.out
   go_wp2_with fail
   refine bodyPost_ret (v := .tuple #[.agg #[.slice none 0 0, .bool false], .int .i64 e1]) (by simp [results, Tryz.results54, go_sem, z0, z1]) rfl ?_
   exact ⟨_, noGoal, _, _, _, rfl, goal_err HCK.out HO.out, own_nil _ _, below_two HB2.out (by omega) _ _⟩
  | ok p k =>
   obtain ⟨pv, he, hpv⟩ := hv
   subst he
   have HP : Hid (OwnL w2 (w.heap.size + 3) pv p) := Lib.hid (own_less0 hpv HS1.out)
   have HZS : Hid (w.heap.size + 3 ≤ w2.heap.size) := Lib.hid (Nat.le_trans HS1.out HS2.out)
   obtain ⟨pp, cp, rfl, _, _, _⟩ := plR_of_own hpv
   clear hpv
   have q2 := beq_int k 2
   rw [show ((2 : UInt8).toNat : Int) = 2 from rfl] at q2
   have q0 := beq_int k 0
   rw [show ((0 : UInt8).toNat : Int) = 0 from rfl] at q0
   by_cases hk2 : k = 2
   ·subst hk2
    have q2' : ((((2 : UInt8).toNat : Nat) : Int) == 2) = true := rfl
    clear q2 q0
    go_wp2_with fail
    refine bodyPost_ret (v := .tuple #[.agg #[.slice pp p.length cp, .bool true], .int .i64 0]) (by simp [results, Tryz.results54, go_sem, z0, z1]) rfl ?_
    exact ⟨_, (.into p), _, _, _, rfl, goal_dir HCK.out HO.out, own_less0 (HP.out.set2 (by omega) _ _) (by omega), below_two HB2.out (by omega) _ _⟩
   ·rw [beq_eq_false_iff_ne.2 hk2] at q2
    have HK2 := Lib.hid hk2
    clear hk2
    cases several with
    | true =>
     by_cases hk0 : k = 0
     ·subst hk0
      have q0' : ((((0 : UInt8).toNat : Nat) : Int) == 0) = true := rfl
      clear q0
      go_wp2_with fail
      refine bodyPost_ret (v := .tuple #[.agg #[.slice none 0 0, .bool false], .int .i64 5]) (by simp [results, Tryz.results54, go_sem, z0, z1]) rfl ?_
      exact ⟨_, noGoal, _, _, _, rfl, goal_gone HCK.out HO.out (.inl (by first | trivial | rfl)), own_nil _ _, below_two HB2.out (by omega) _ _⟩
     ·rw [beq_eq_false_iff_ne.2 hk0] at q0
      have HK0 := Lib.hid hk0
      clear hk0
      go_wp2_with fail
      refine bodyPost_ret (v := .tuple #[.agg #[.slice none 0 0, .bool false], .int .i64 55]) (by simp [results, Tryz.results54, go_sem, z0, z1]) rfl ?_
      exact ⟨_, noGoal, _, _, _, rfl, goal_file HCK.out HK2.out HK0.out HO.out, own_nil _ _, below_two HB2.out (by omega) _ _⟩
    | false =>
     by_cases hk0 : k = 0
     ·subst hk0
      have q0' : ((((0 : UInt8).toNat : Nat) : Int) == 0) = true := rfl
      clear q0
      obtain ⟨db, hdb⟩ : ∃ db, dirB t = db := ⟨_, rfl⟩
      go_wp2_with fail
      refine (HDI.out _).mono ?_
      rintro e w2 ⟨rfl, rfl⟩
      rw [hdb]
      cases db with
      | true =>
       have HD := Lib.hid hdb
       clear hdb
       go_wp2_with fail
       refine bodyPost_ret (v := .tuple #[.agg #[.slice none 0 0, .bool false], .int .i64 5]) (by simp [results, Tryz.results54, go_sem, z0, z1]) rfl ?_
       exact ⟨_, noGoal, _, _, _, rfl, goal_gone HCK.out HO.out (.inr HD.out), own_nil _ _, below_two HB2.out (by omega) _ _⟩
      | false =>
       have HDB := Lib.hid hdb
       clear hdb
       go_upto_region 13 with fail
       go_wp2_with fail
       have HG2 : Hid (∀ c g, leadsR false n t p 0 c g → goalR false n t false c g) := Lib.hid fun c g => goal_leads HCK.out (p := p) (k := 0) (by decide) (fun _ => HDB.out) HO.out
       have hc := HLD.out _ HB2.out _ _ _ _ 0 HZS.out HP.out; refine hc.mono ?_; clear hc
       rintro e w3 ⟨c, q, pq, mq, cq, rfl, hr, hp3, hb3⟩
       have HR := Lib.hid hr
       have HP3 := Lib.hid hp3
       have HB3 : Hid (Below w.heap.size w w3) := Lib.hid (HB2.out.trans (hb3.mono HB2.out.size))
       have HZ3 := Lib.hid (HZ2.out.kept hb3)
       clear hr hp3 hb3 z0 z1 y0 y1
       obtain ⟨z0, z1⟩ := HZ3.out.cell
       obtain ⟨y0, y1⟩ := HZ3.out.open_
       go_wp2_with fail
       refine bodyPost_ret (v := .tuple #[.agg #[.slice pq mq cq, .bool false], .int .i64 c]) (by simp [results, Tryz.results54, go_sem, z0, z1]) rfl ?_
       exact ⟨_, .at_ q, _, _, _, rfl, HG2.out _ _ HR.out, own_less0 (HP3.out.set2 (by omega) _ _) (by omega), below_two HB3.out (by omega) _ _⟩
     ·rw [beq_eq_false_iff_ne.2 hk0] at q0
      have HK0 := Lib.hid hk0
      clear hk0
      go_upto_region 13 with fail
      go_wp2_with fail
      have HG2 : Hid (∀ c g, leadsR false n t p k c g → goalR false n t false c g) := Lib.hid fun c g => goal_leads HCK.out HK2.out (fun h => absurd h HK0.out) HO.out
      have hc := HLD.out _ HB2.out _ _ _ _ k HZS.out HP.out; refine hc.mono ?_; clear hc
      rintro e w3 ⟨c, q, pq, mq, cq, rfl, hr, hp3, hb3⟩
      have HR := Lib.hid hr
      have HP3 := Lib.hid hp3
      have HB3 : Hid (Below w.heap.size w w3) := Lib.hid (HB2.out.trans (hb3.mono HB2.out.size))
      have HZ3 := Lib.hid (HZ2.out.kept hb3)
      clear hr hp3 hb3 z0 z1 y0 y1
      obtain ⟨z0, z1⟩ := HZ3.out.cell
      obtain ⟨y0, y1⟩ := HZ3.out.open_
      go_wp2_with fail
      refine bodyPost_ret (v := .tuple #[.agg #[.slice pq mq cq, .bool false], .int .i64 c]) (by simp [results, Tryz.results54, go_sem, z0, z1]) rfl ?_
      exact ⟨_, .at_ q, _, _, _, rfl, HG2.out _ _ HR.out, own_less0 (HP3.out.set2 (by omega) _ _) (by omega), below_two HB3.out (by omega) _ _⟩
 ·have e0 : ((ck : Int) != 0) = true := bne_iff_ne.2 (by omega)
  have H0 := Lib.hid h0
  have HB2 := HB1
  clear h0
  go_wp2_with fail
  refine bodyPost_ret (v := .tuple #[.agg #[.slice none 0 0, .bool false], .int .i64 ck]) (by simp [results, Tryz.results54, go_sem, z0, z1]) rfl ?_
  exact ⟨_, noGoal, _, _, _, rfl, (by have := goal_bad (cp := false) (n := n) (t := t) (several := several) (by rw [HCK.out]; exact H0.out); rw [HCK.out] at this; exact this), own_nil _ _, below_two HB2.out (by omega) _ _⟩

set_option maxRecDepth 100000 in
set_option maxHeartbeats 8000000 in
theorem lookAtGoal_found {w : World} {b G : Nat} {n : Nd} {v0 v1 v2 v3 : Value} (h : TreeX w b n v0 v1 v2 v3) (hG : TreeG G n) (hN : G ≤ 100000000) (S : ByteArray) (up : Option Addr) (un uc : Nat) (O M : ByteArray) (F : Nat) (t : ByteArray) (ht : t.size ≤ 40000) (several : Bool) :
  Calls Tryz.prog 54 #[utV O M 50 F, callV S (.slice up un uc) b, .string t, .bool several] w fun e w' => LookQ true n t several w e w' := by
 have HCH : Hid (∀ wx, Calls Tryz.prog 16 #[.string t] wx fun e w' => e = .returned (.int .i64 (checkL t.data.toList)) ∧ Hid (Below wx.heap.size wx w')) := Lib.hid fun wx => check_any t (by omega) wx
 have HFI : Hid (∀ wx, Below w.heap.size w wx → Calls Tryz.prog 17 #[.iface 28 (.pointer (some ⟨b, 0, none⟩)), .string t] wx fun e w' => LeadsO n true t wx e w' ∧ Below wx.heap.size wx w') := Lib.hid fun wx hb => wfindO_any (h.kept hb) hG.well (by have := hG.girth; omega) hG.kind t (by omega)
 have HDI : Hid (∀ wx, Calls Tryz.prog 64 #[.string t] wx fun e w' => e = .returned (.bool (dirB t)) ∧ wx = w') := Lib.hid fun wx => dir_any t wx (by omega)
 have HLD : Hid (∀ wx, Below w.heap.size w wx → ∀ (pp : Option Addr) (m cp : Nat) (p : List ByteArray) (k : UInt8), w.heap.size + 3 ≤ wx.heap.size → OwnL wx (w.heap.size + 3) (.slice pp m cp) p → Calls Tryz.prog 50 #[.agg #[.string S, .slice up un uc, .iface 28 (.pointer (some ⟨b, 0, none⟩))], .string t, .slice pp m cp, .int .u8 k.toNat] wx fun e w' => LeadQ (leadsR true n t p k) wx (w.heap.size + 3) e w') := Lib.hid fun wx hb pp m cp p k hz hp => (toFound_any (h.kept hb) hG hN S up un uc t ht hp k).mono fun _ _ ⟨c, q, a1, a2, a3, r1, r2, r3⟩ => ⟨c, q, a1, a2, a3, r1, r2, r3⟩
 have hbl := h.lt
 clear h hG hN
 obtain ⟨ck, hck⟩ : ∃ ck, checkL t.data.toList = ck := ⟨_, rfl⟩
 simp only [hck] at HCH
 have HCK := Lib.hid hck
 clear hck
 unfold utV callV
 go_enter Tryz.func54, Tryz.ntmps54
 go_wp2_with fail
 have HB0 : Hid (Below w.heap.size w (((w.alloc (.cells #[.string O, .string M, .func (.func 50) #[] #[], .func (.func F) #[] #[]] 63)).alloc (.cells #[.string S, .slice up un uc, .iface 28 (.pointer (some ⟨b, 0, none⟩))] 96)).alloc (.cells #[.slice none 0 0, .bool false] 98))) := Lib.hid (below_alloc (below_alloc (below_alloc (Below.refl _ _))))
 have u2 : (((w.alloc (.cells #[.string O, .string M, .func (.func 50) #[] #[], .func (.func F) #[] #[]] 63)).alloc (.cells #[.string S, .slice up un uc, .iface 28 (.pointer (some ⟨b, 0, none⟩))] 96)).alloc (.cells #[.slice none 0 0, .bool false] 98)).cell? ⟨w.heap.size, 2, none⟩ = some (.func (.func 50) #[] #[]) := cell_alloc (cell_alloc (cell_first (i := 2) rfl))
 have k0 : (((w.alloc (.cells #[.string O, .string M, .func (.func 50) #[] #[], .func (.func F) #[] #[]] 63)).alloc (.cells #[.string S, .slice up un uc, .iface 28 (.pointer (some ⟨b, 0, none⟩))] 96)).alloc (.cells #[.slice none 0 0, .bool false] 98)).cell? ⟨w.heap.size + 1, 0, none⟩ = some (.string S) := cell_alloc (cell_firstE (i := 0) (by simp) rfl)
 have k1 : (((w.alloc (.cells #[.string O, .string M, .func (.func 50) #[] #[], .func (.func F) #[] #[]] 63)).alloc (.cells #[.string S, .slice up un uc, .iface 28 (.pointer (some ⟨b, 0, none⟩))] 96)).alloc (.cells #[.slice none 0 0, .bool false] 98)).cell? ⟨w.heap.size + 1, 1, none⟩ = some (.slice up un uc) := cell_alloc (cell_firstE (i := 1) (by simp) rfl)
 have k2 : (((w.alloc (.cells #[.string O, .string M, .func (.func 50) #[] #[], .func (.func F) #[] #[]] 63)).alloc (.cells #[.string S, .slice up un uc, .iface 28 (.pointer (some ⟨b, 0, none⟩))] 96)).alloc (.cells #[.slice none 0 0, .bool false] 98)).cell? ⟨w.heap.size + 1, 2, none⟩ = some (.iface 28 (.pointer (some ⟨b, 0, none⟩))) := cell_alloc (cell_firstE (i := 2) (by simp) rfl)
 have HZ0 : Hid (GTwo (((w.alloc (.cells #[.string O, .string M, .func (.func 50) #[] #[], .func (.func F) #[] #[]] 63)).alloc (.cells #[.string S, .slice up un uc, .iface 28 (.pointer (some ⟨b, 0, none⟩))] 96)).alloc (.cells #[.slice none 0 0, .bool false] 98)) (w.heap.size + 1 + 1) (.slice none 0 0) (.bool false)) := Lib.hid (GTwo.newE (by simp))
 have hs0 : (((w.alloc (.cells #[.string O, .string M, .func (.func 50) #[] #[], .func (.func F) #[] #[]] 63)).alloc (.cells #[.string S, .slice up un uc, .iface 28 (.pointer (some ⟨b, 0, none⟩))] 96)).alloc (.cells #[.slice none 0 0, .bool false] 98)).heap.size = w.heap.size + 3 := by simp
 generalize (((w.alloc (.cells #[.string O, .string M, .func (.func 50) #[] #[], .func (.func F) #[] #[]] 63)).alloc (.cells #[.string S, .slice up un uc, .iface 28 (.pointer (some ⟨b, 0, none⟩))] 96)).alloc (.cells #[.slice none 0 0, .bool false] 98)) = w0 at *
 refine (HCH.out _).mono ?_
 rintro e w1 ⟨rfl, hb1⟩
 have HB1 : Hid (Below w.heap.size w w1) := Lib.hid (HB0.out.trans (hb1.out.mono HB0.out.size))
 have HZ1 := Lib.hid (HZ0.out.kept hb1.out)
 have HS1 : Hid (w.heap.size + 3 ≤ w1.heap.size) := Lib.hid (hs0 ▸ hb1.out.size)
 clear hs0
 replace u2 := cell_kept hb1.out u2
 replace k0 := cell_kept hb1.out k0
 replace k1 := cell_kept hb1.out k1
 replace k2 := cell_kept hb1.out k2
 clear hb1 HZ0 HB0
 obtain ⟨z0, z1⟩ := HZ1.out.cell
 obtain ⟨y0, y1⟩ := HZ1.out.open_
 by_cases h0 : ck = 0
 ·subst h0
  have HT0 : Hid ((0 : Nat) = 0) := Lib.hid rfl
  go_wp2_with fail
  refine (HFI.out _ HB1.out).mono ?_
  rintro e w2 ⟨⟨o, ho, hv⟩, hb2⟩
  have HO : Hid (Leads n true t o) := Lib.hid ho
  have HB2 : Hid (Below w.heap.size w w2) := Lib.hid (HB1.out.trans (hb2.mono HB1.out.size))
  have HZ2 := Lib.hid (HZ1.out.kept hb2)
  have HS2 : Hid (w1.heap.size ≤ w2.heap.size) := Lib.hid hb2.size
  replace u2 := cell_kept hb2 u2
  replace k0 := cell_kept hb2 k0
  replace k1 := cell_kept hb2 k1
  replace k2 := cell_kept hb2 k2
  clear hb2 ho z0 z1 y0 y1 HZ1
  obtain ⟨z0, z1⟩ := HZ2.out.cell
  obtain ⟨y0, y1⟩ := HZ2.out.open_
  cases o with
  | err e1 =>
   have hv' : e = .returned (.tuple #[.slice none 0 0, .int .u8 0, .int .i64 e1]) := hv
   subst hv'
   have e0 := err_ne HO.out
   go_wp2_with fail
   refine bodyPost_ret (v := .tuple #[.agg #[.slice none 0 0, .bool false], .int .i64 e1]) (by simp [results, Tryz.results54, go_sem, z0, z1]) rfl ?_
   exact ⟨_, noGoal, _, _, _, rfl, goal_err HCK.out HO.out, own_nil _ _, below_two HB2.out (by omega) _ _⟩
  | ok p k =>
   obtain ⟨pv, he, hpv⟩ := hv
   subst he
   have HP : Hid (OwnL w2 (w.heap.size + 3) pv p) := Lib.hid (own_less0 hpv HS1.out)
   have HZS : Hid (w.heap.size + 3 ≤ w2.heap.size) := Lib.hid (Nat.le_trans HS1.out HS2.out)
   obtain ⟨pp, cp, rfl, _, _, _⟩ := plR_of_own hpv
   clear hpv
   have q2 := beq_int k 2
   rw [show ((2 : UInt8).toNat : Int) = 2 from rfl] at q2
   have q0 := beq_int k 0
   rw [show ((0 : UInt8).toNat : Int) = 0 from rfl] at q0
   by_cases hk2 : k = 2
   ·subst hk2
    have q2' : ((((2 : UInt8).toNat : Nat) : Int) == 2) = true := rfl
    clear q2 q0
    go_wp2_with fail
    refine bodyPost_ret (v := .tuple #[.agg #[.slice pp p.length cp, .bool true], .int .i64 0]) (by simp [results, Tryz.results54, go_sem, z0, z1]) rfl ?_
    exact ⟨_, (.into p), _, _, _, rfl, goal_dir HCK.out HO.out, own_less0 (HP.out.set2 (by omega) _ _) (by omega), below_two HB2.out (by omega) _ _⟩
   ·rw [beq_eq_false_iff_ne.2 hk2] at q2
    have HK2 := Lib.hid hk2
    clear hk2
    cases several with
    | true =>
     by_cases hk0 : k = 0
     ·subst hk0
      have q0' : ((((0 : UInt8).toNat : Nat) : Int) == 0) = true := rfl
      clear q0
      go_wp2_with fail
      refine bodyPost_ret (v := .tuple #[.agg #[.slice none 0 0, .bool false], .int .i64 5]) (by simp [results, Tryz.results54, go_sem, z0, z1]) rfl ?_
      exact ⟨_, noGoal, _, _, _, rfl, goal_gone HCK.out HO.out (.inl (by first | trivial | rfl)), own_nil _ _, below_two HB2.out (by omega) _ _⟩
     ·rw [beq_eq_false_iff_ne.2 hk0] at q0
      have HK0 := Lib.hid hk0
      clear hk0
      go_wp2_with fail
      refine bodyPost_ret (v := .tuple #[.agg #[.slice none 0 0, .bool false], .int .i64 55]) (by simp [results, Tryz.results54, go_sem, z0, z1]) rfl ?_
      exact ⟨_, noGoal, _, _, _, rfl, goal_file HCK.out HK2.out HK0.out HO.out, own_nil _ _, below_two HB2.out (by omega) _ _⟩
    | false =>
     by_cases hk0 : k = 0
     ·subst hk0
      have q0' : ((((0 : UInt8).toNat : Nat) : Int) == 0) = true := rfl
      clear q0
      obtain ⟨db, hdb⟩ : ∃ db, dirB t = db := ⟨_, rfl⟩
      go_wp2_with fail
      refine (HDI.out _).mono ?_
      rintro e w2 ⟨rfl, rfl⟩
      rw [hdb]
      cases db with
      | true =>
       have HD := Lib.hid hdb
       clear hdb
       go_wp2_with fail
       refine bodyPost_ret (v := .tuple #[.agg #[.slice none 0 0, .bool false], .int .i64 5]) (by simp [results, Tryz.results54, go_sem, z0, z1]) rfl ?_
       exact ⟨_, noGoal, _, _, _, rfl, goal_gone HCK.out HO.out (.inr HD.out), own_nil _ _, below_two HB2.out (by omega) _ _⟩
      | false =>
       have HDB := Lib.hid hdb
       clear hdb
       go_upto_region 13 with fail
       go_wp2_with fail
       have HG2 : Hid (∀ c g, leadsR true n t p 0 c g → goalR true n t false c g) := Lib.hid fun c g => goal_leads HCK.out (p := p) (k := 0) (by decide) (fun _ => HDB.out) HO.out
       have hc := HLD.out _ HB2.out _ _ _ _ 0 HZS.out HP.out; refine hc.mono ?_; clear hc
       rintro e w3 ⟨c, q, pq, mq, cq, rfl, hr, hp3, hb3⟩
       have HR := Lib.hid hr
       have HP3 := Lib.hid hp3
       have HB3 : Hid (Below w.heap.size w w3) := Lib.hid (HB2.out.trans (hb3.mono HB2.out.size))
       have HZ3 := Lib.hid (HZ2.out.kept hb3)
       clear hr hp3 hb3 z0 z1 y0 y1
       obtain ⟨z0, z1⟩ := HZ3.out.cell
       obtain ⟨y0, y1⟩ := HZ3.out.open_
       go_wp2_with fail
       refine bodyPost_ret (v := .tuple #[.agg #[.slice pq mq cq, .bool false], .int .i64 c]) (by simp [results, Tryz.results54, go_sem, z0, z1]) rfl ?_
       exact ⟨_, .at_ q, _, _, _, rfl, HG2.out _ _ HR.out, own_less0 (HP3.out.set2 (by omega) _ _) (by omega), below_two HB3.out (by omega) _ _⟩
     ·rw [beq_eq_false_iff_ne.2 hk0] at q0
      have HK0 := Lib.hid hk0
      clear hk0
      go_upto_region 13 with fail
      go_wp2_with fail
      have HG2 : Hid (∀ c g, leadsR true n t p k c g → goalR true n t false c g) := Lib.hid fun c g => goal_leads HCK.out HK2.out (fun h => absurd h HK0.out) HO.out
      have hc := HLD.out _ HB2.out _ _ _ _ k HZS.out HP.out; refine hc.mono ?_; clear hc
      rintro e w3 ⟨c, q, pq, mq, cq, rfl, hr, hp3, hb3⟩
      have HR := Lib.hid hr
      have HP3 := Lib.hid hp3
      have HB3 : Hid (Below w.heap.size w w3) := Lib.hid (HB2.out.trans (hb3.mono HB2.out.size))
      have HZ3 := Lib.hid (HZ2.out.kept hb3)
      clear hr hp3 hb3 z0 z1 y0 y1
      obtain ⟨z0, z1⟩ := HZ3.out.cell
      obtain ⟨y0, y1⟩ := HZ3.out.open_
      go_wp2_with fail
      refine bodyPost_ret (v := .tuple #[.agg #[.slice pq mq cq, .bool false], .int .i64 c]) (by simp [results, Tryz.results54, go_sem, z0, z1]) rfl ?_
      exact ⟨_, .at_ q, _, _, _, rfl, HG2.out _ _ HR.out, own_less0 (HP3.out.set2 (by omega) _ _) (by omega), below_two HB3.out (by omega) _ _⟩
 ·have e0 : ((ck : Int) != 0) = true := bne_iff_ne.2 (by omega)
  have H0 := Lib.hid h0
  have HB2 := HB1
  clear h0
  go_wp2_with fail
  refine bodyPost_ret (v := .tuple #[.agg #[.slice none 0 0, .bool false], .int .i64 ck]) (by simp [results, Tryz.results54, go_sem, z0, z1]) rfl ?_
  exact ⟨_, noGoal, _, _, _, rfl, (by have := goal_bad (cp := true) (n := n) (t := t) (several := several) (by rw [HCK.out]; exact H0.out); rw [HCK.out] at this; exact this), own_nil _ _, below_two HB2.out (by omega) _ _⟩
end Go.Proofs.YtfilbknnpjbmcaaGreatDoor
