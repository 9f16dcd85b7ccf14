/- Walks of package moves: a source of each utility, and what is done with it. -/
import Derived.Test.YtfilbknnpjbmcaaGreatDoorKb37
import Derived.Test.YtfilbknnpjbmcaaGreatDoorKb39
namespace Go.Proofs.YtfilbknnpjbmcaaGreatDoor
open Go.RowKit Px Nx Wk Dn Ox Mv
attribute [local go_sem] ahead_kind meth_Kind
def LooksMv (n : Nd) (s : ByteArray) (w : World) (b : Nat) (e : Ending) (w' : World) : Prop := ∃ c p, standsR n false s c p ∧ Below w.heap.size w w' ∧ ((c ≠ 0 ∧ e = .returned (.tuple #[.nilFunc, .int .i64 c])) ∨ (c = 0 ∧ ∃ g2 g6 pv, e = .returned (.tuple #[.func (.func 79) #[] #[.pointer (some ⟨g2, 0, none⟩), .pointer (some ⟨g6, 0, none⟩)], .int .i64 0]) ∧ w'.cell? ⟨g2, 2, none⟩ = some (.iface 28 (.pointer (some ⟨b, 0, none⟩))) ∧ w'.cell? ⟨g6, 0, none⟩ = some pv ∧ PlT w' b pv p))
def LooksCp (deep : Bool) (n : Nd) (s : ByteArray) (w : World) (b : Nat) (e : Ending) (w' : World) : Prop := ∃ c p, standsR n (!deep) s c p ∧ Below w.heap.size w w' ∧ ((c ≠ 0 ∧ e = .returned (.tuple #[.nilFunc, .int .i64 c])) ∨ (c = 0 ∧ ∃ g2 g6 g8 pv, e = .returned (.tuple #[.func (.func 82) #[] #[.pointer (some ⟨g2, 0, none⟩), .pointer (some ⟨g8, 0, none⟩), .pointer (some ⟨g6, 0, none⟩)], .int .i64 0]) ∧ w'.cell? ⟨g2, 2, none⟩ = some (.iface 28 (.pointer (some ⟨b, 0, none⟩))) ∧ w'.cell? ⟨g8, 0, none⟩ = some pv ∧ w'.cell? ⟨g6, 0, none⟩ = some (.bool deep) ∧ PlT w' b pv p))
def LooksLn (S : ByteArray) (u : Value) (s : ByteArray) (w : World) (b : Nat) (e : Ending) (w' : World) : Prop := Below w.heap.size w w' ∧ (((linkN s).well = false ∧ e = .returned (.tuple #[.nilFunc, .int .i64 4])) ∨ ((linkN s).well = true ∧ ∃ g2 g3, w.heap.size ≤ g2 ∧ w.heap.size ≤ g3 ∧ e = .returned (.tuple #[.func (.func 84) #[] #[.pointer (some ⟨g2, 0, none⟩), .pointer (some ⟨g3, 0, none⟩)], .int .i64 0]) ∧ w'.cell? ⟨g2, 0, none⟩ = some (.string S) ∧ w'.cell? ⟨g2, 1, none⟩ = some u ∧ w'.cell? ⟨g2, 2, none⟩ = some (.iface 28 (.pointer (some ⟨b, 0, none⟩))) ∧ w'.cell? ⟨g3, 0, none⟩ = some (.string s)))
set_option maxRecDepth 100000 in
set_option maxHeartbeats 4000000 in
theorem renames_any {w : World} {b G : Nat} {n : Nd} {v0 v1 v2 v3 : Value} (h : TreeX w b n v0 v1 v2 v3) (hG : TreeG G n) (hN : G ≤ 100000000) (S : ByteArray) (up : Option Addr) (un uc : Nat) (s : ByteArray) (hs : s.size ≤ 40000) :
    Calls Tryz.prog 49 #[callV S (.slice up un uc) b, .string s] w fun e w' => LooksMv n s w b e w' := by
  have HST : Hid (∀ wx, Below w.heap.size w wx → Calls Tryz.prog 78 #[.agg #[.string S, .slice up un uc, .iface 28 (.pointer (some ⟨b, 0, none⟩))], .string s, .func (.func 25) #[] #[]] wx fun e w' => StandsQ n false s wx b e w') := Lib.hid fun wx hb => standsSpot_any (h.kept hb) hG hN S up un uc s hs
  have HAL : Hid (∀ (o : Obj), Below w.heap.size w (w.alloc o)) := Lib.hid fun o => below_alloc (Below.refl _ _)
  clear h hG hN
  unfold callV
  go_enter Tryz.func49, Tryz.ntmps49
  go_wp2_with fail
  refine (HST.out _ (HAL.out _)).mono ?_
  rintro e w2 ⟨c, p, pp, m, cp, rfl, hst, hp, hb2⟩
  have HS := Lib.hid hst
  have HP := Lib.hid (hp.kept (below_alloc (o := .cells #[.slice pp m cp] 22) (Below.refl _ _)))
  have HB2 : Hid (Below w.heap.size w (w2.alloc (.cells #[.slice pp m cp] 22))) := Lib.hid (below_alloc ((HAL.out _).trans (hb2.mono (HAL.out _).size)))
  have HC2 : Hid ((w2.alloc (.cells #[.slice pp m cp] 22)).cell? ⟨w.heap.size, 2, none⟩ = some (.iface 28 (.pointer (some ⟨b, 0, none⟩)))) := Lib.hid (cell_alloc (cell_kept hb2 (cell_first (i := 2) rfl)))
  have HC3 : Hid ((w2.alloc (.cells #[.slice pp m cp] 22)).cell? ⟨w2.heap.size, 0, none⟩ = some (.slice pp m cp)) := Lib.hid (cell_first (i := 0) rfl)
  clear hst hp hb2
  by_cases hc : c = 0
  · subst hc
    go_wp2_with fail
    go_ret2
    exact ⟨0, p, HS.out, HB2.out, .inr ⟨rfl, _, _, _, rfl, HC2.out, HC3.out, HP.out⟩⟩
  · have e0 : (c != 0) = true := bne_iff_ne.2 hc
    have H0 := Lib.hid hc
    clear hc
    go_wp2_with fail
    go_ret2
    exact ⟨c, p, HS.out, HB2.out, .inl ⟨H0.out, rfl⟩⟩
set_option maxRecDepth 100000 in
set_option maxHeartbeats 4000000 in
theorem renames1_any {U : Nat → Prop} {w : World} {b G : Nat} {n : Nd} {v0 v1 v2 v3 : Value} (h : TreeU U w b n v0 v1 v2 v3) (hG : TreeG G n) (hN : G ≤ 95000000) {g2 g6 : Nat} {pv tv : Value} {p tq : List ByteArray} (h2 : w.cell? ⟨g2, 2, none⟩ = some (.iface 28 (.pointer (some ⟨b, 0, none⟩)))) (h6 : w.cell? ⟨g6, 0, none⟩ = some pv) (hp : PlT w b pv p) (ht : PlT w b tv tq) (hnp : namesBulk p ≤ 710000) (hnt : namesBulk tq ≤ 710000) :
    Calls Tryz.prog 79 #[tv, .pointer (some ⟨g2, 0, none⟩), .pointer (some ⟨g6, 0, none⟩)] w fun e w' => Did U w b (renameD n p tq) e w' := by
  have HRN := Lib.hid (Rename_any h hG.well (by have := hG.girth; omega) hp ht (by omega) (by omega))
  obtain ⟨pp, cp, rfl, _, _, _⟩ := hp.r
  obtain ⟨pt, ct, rfl, _, _, _⟩ := ht.r
  clear h hG hp ht
  go_enter Tryz.func79, Tryz.ntmps79
  go_wp2_with fail
  refine HRN.out.mono ?_
  rintro e w2 hd
  obtain ⟨cc, rfl, hd⟩ := did_ex hd
  have HD := Lib.hid hd
  clear hd
  go_wp2_with fail
  go_ret
  exact HD.out
set_option maxRecDepth 100000 in
set_option maxHeartbeats 8000000 in
theorem copies_any {w : World} {b G : Nat} {n : Nd} {v0 v1 v2 v3 : Value} (h : TreeX w b n v0 v1 v2 v3) (hG : TreeG G n) (hN : G ≤ 100000000) (S : ByteArray) (up : Option Addr) (un uc : Nat) (s : ByteArray) (hs : s.size ≤ 40000) :
    Calls Tryz.prog 51 #[callV S (.slice up un uc) b, .string s] w fun e w' => LooksCp (hasB S 114 || hasB S 82) n s w b e w' := by
  have HSS : Hid (∀ wx, Below w.heap.size w wx → Calls Tryz.prog 78 #[.agg #[.string S, .slice up un uc, .iface 28 (.pointer (some ⟨b, 0, none⟩))], .string s, .func (.func 25) #[] #[]] wx fun e w' => StandsQ n false s wx b e w') := Lib.hid fun wx hb => standsSpot_any (h.kept hb) hG hN S up un uc s hs
  have HSF : Hid (∀ wx, Below w.heap.size w wx → Calls Tryz.prog 78 #[.agg #[.string S, .slice up un uc, .iface 28 (.pointer (some ⟨b, 0, none⟩))], .string s, .func (.func 17) #[] #[]] wx fun e w' => StandsQ n true s wx b e w') := Lib.hid fun wx hb => standsFind_any (h.kept hb) hG hN S up un uc s hs
  have HHR : Hid (∀ wx, Calls Tryz.prog 81 #[.agg #[.string S, .slice up un uc], .int .u8 114] wx fun e w' => e = .returned (.bool (hasB S 114)) ∧ Below wx.heap.size wx w') := Lib.hid fun wx => has_any wx S (.slice up un uc) 114
  have HHC : Hid (∀ wx, Calls Tryz.prog 81 #[.agg #[.string S, .slice up un uc], .int .u8 82] wx fun e w' => e = .returned (.bool (hasB S 82)) ∧ Below wx.heap.size wx w') := Lib.hid fun wx => has_any wx S (.slice up un uc) 82
  have HAL : Hid (∀ (o : Obj), Below w.heap.size w (w.alloc o)) := Lib.hid fun o => below_alloc (Below.refl _ _)
  clear h hG hN
  generalize hasB S 114 = x1 at *
  generalize hasB S 82 = x2 at *
  unfold callV
  go_enter Tryz.func51, Tryz.ntmps51
  go_wp2_with fail
  refine (HHR.out _).mono ?_
  rintro e w1 ⟨rfl, hb1⟩
  have HB1 : Hid (Below w.heap.size w w1) := Lib.hid ((HAL.out _).trans (hb1.mono (HAL.out _).size))
  have HCC : Hid (∀ wx, Below w1.heap.size w1 wx → wx.cell? ⟨w.heap.size, 0, none⟩ = some (.string S) ∧ wx.cell? ⟨w.heap.size, 1, none⟩ = some (.slice up un uc) ∧ wx.cell? ⟨w.heap.size, 2, none⟩ = some (.iface 28 (.pointer (some ⟨b, 0, none⟩)))) := Lib.hid fun wx hx => ⟨cell_kept hx (cell_kept hb1 (cell_first (i := 0) rfl)), cell_kept hx (cell_kept hb1 (cell_first (i := 1) rfl)), cell_kept hx (cell_kept hb1 (cell_first (i := 2) rfl))⟩
  obtain ⟨c0, c1, c2⟩ := HCC.out w1 (Below.refl _ _)
  clear hb1
  cases x1 with
  | true =>
    go_upto_region 4 with fail
    have HBA : Hid (Below w1.heap.size w1 (w1.alloc (.cells #[.bool true] 4))) := Lib.hid (below_alloc (Below.refl _ _))
    have HGD : Hid ((w1.alloc (.cells #[.bool true] 4)).cell? ⟨w1.heap.size, 0, none⟩ = some (.bool true)) := Lib.hid (cell_first (i := 0) rfl)
    clear c0 c1 c2
    obtain ⟨c0, c1, c2⟩ := HCC.out _ HBA.out
    go_wp2_with fail
    refine (HSS.out _ (HB1.out.trans (HBA.out.mono HB1.out.size))).mono ?_
    rintro e w2 ⟨c, p, pp, m, cp, rfl, hst, hp, hb2⟩
    have HS := Lib.hid hst
    have HP := Lib.hid (hp.kept (below_alloc (o := .cells #[.slice pp m cp] 22) (Below.refl _ _)))
    have HBW : Hid (Below w1.heap.size w1 (w2.alloc (.cells #[.slice pp m cp] 22))) := Lib.hid (below_alloc (HBA.out.trans (hb2.mono HBA.out.size)))
    have HB2 : Hid (Below w.heap.size w (w2.alloc (.cells #[.slice pp m cp] 22))) := Lib.hid (HB1.out.trans (HBW.out.mono HB1.out.size))
    have HC2 := Lib.hid (HCC.out _ HBW.out).2.2
    have HC3 : Hid ((w2.alloc (.cells #[.slice pp m cp] 22)).cell? ⟨w2.heap.size, 0, none⟩ = some (.slice pp m cp)) := Lib.hid (cell_first (i := 0) rfl)
    have HC4 : Hid ((w2.alloc (.cells #[.slice pp m cp] 22)).cell? ⟨w1.heap.size, 0, none⟩ = some (.bool true)) := Lib.hid (cell_alloc (cell_kept hb2 HGD.out))
    clear hst hp hb2 c0 c1 c2
    by_cases hc : c = 0
    · subst hc
      go_wp2_with fail
      go_ret2
      exact ⟨0, p, HS.out, HB2.out, .inr ⟨rfl, _, _, _, _, rfl, HC2.out, HC3.out, HC4.out, HP.out⟩⟩
    · have e0 : (c != 0) = true := bne_iff_ne.2 hc
      have H0 := Lib.hid hc
      clear hc
      go_wp2_with fail
      go_ret2
      exact ⟨c, p, HS.out, HB2.out, .inl ⟨H0.out, rfl⟩⟩
  | false =>
    go_wp2_with fail
    refine (HHC.out _).mono ?_
    rintro e w1' ⟨rfl, hb1⟩
    have HB1' : Hid (Below w.heap.size w w1') := Lib.hid (HB1.out.trans (hb1.mono HB1.out.size))
    have HCC' : Hid (∀ wx, Below w1'.heap.size w1' wx → wx.cell? ⟨w.heap.size, 0, none⟩ = some (.string S) ∧ wx.cell? ⟨w.heap.size, 1, none⟩ = some (.slice up un uc) ∧ wx.cell? ⟨w.heap.size, 2, none⟩ = some (.iface 28 (.pointer (some ⟨b, 0, none⟩)))) := Lib.hid fun wx hx => HCC.out wx (hb1.trans (hx.mono hb1.size))
    clear c0 c1 c2 hb1 HCC HB1
    obtain ⟨c0, c1, c2⟩ := HCC'.out w1' (Below.refl _ _)
    cases x2 with
    | true =>
      go_upto_region 4 with fail
      have HBA : Hid (Below w1'.heap.size w1' (w1'.alloc (.cells #[.bool true] 4))) := Lib.hid (below_alloc (Below.refl _ _))
      have HGD : Hid ((w1'.alloc (.cells #[.bool true] 4)).cell? ⟨w1'.heap.size, 0, none⟩ = some (.bool true)) := Lib.hid (cell_first (i := 0) rfl)
      clear c0 c1 c2
      obtain ⟨c0, c1, c2⟩ := HCC'.out _ HBA.out
      go_wp2_with fail
      refine (HSS.out _ (HB1'.out.trans (HBA.out.mono HB1'.out.size))).mono ?_
      rintro e w2 ⟨c, p, pp, m, cp, rfl, hst, hp, hb2⟩
      have HS := Lib.hid hst
      have HP := Lib.hid (hp.kept (below_alloc (o := .cells #[.slice pp m cp] 22) (Below.refl _ _)))
      have HBW : Hid (Below w1'.heap.size w1' (w2.alloc (.cells #[.slice pp m cp] 22))) := Lib.hid (below_alloc (HBA.out.trans (hb2.mono HBA.out.size)))
      have HB2 : Hid (Below w.heap.size w (w2.alloc (.cells #[.slice pp m cp] 22))) := Lib.hid (HB1'.out.trans (HBW.out.mono HB1'.out.size))
      have HC2 := Lib.hid (HCC'.out _ HBW.out).2.2
      have HC3 : Hid ((w2.alloc (.cells #[.slice pp m cp] 22)).cell? ⟨w2.heap.size, 0, none⟩ = some (.slice pp m cp)) := Lib.hid (cell_first (i := 0) rfl)
      have HC4 : Hid ((w2.alloc (.cells #[.slice pp m cp] 22)).cell? ⟨w1'.heap.size, 0, none⟩ = some (.bool true)) := Lib.hid (cell_alloc (cell_kept hb2 HGD.out))
      clear hst hp hb2 c0 c1 c2
      by_cases hc : c = 0
      · subst hc
        go_wp2_with fail
        go_ret2
        exact ⟨0, p, HS.out, HB2.out, .inr ⟨rfl, _, _, _, _, rfl, HC2.out, HC3.out, HC4.out, HP.out⟩⟩
      · have e0 : (c != 0) = true := bne_iff_ne.2 hc
        have H0 := Lib.hid hc
        clear hc
        go_wp2_with fail
        go_ret2
        exact ⟨c, p, HS.out, HB2.out, .inl ⟨H0.out, rfl⟩⟩
    | false =>
      go_upto_region 4 with fail
      have HBA : Hid (Below w1'.heap.size w1' (w1'.alloc (.cells #[.bool false] 4))) := Lib.hid (below_alloc (Below.refl _ _))
      have HGD : Hid ((w1'.alloc (.cells #[.bool false] 4)).cell? ⟨w1'.heap.size, 0, none⟩ = some (.bool false)) := Lib.hid (cell_first (i := 0) rfl)
      clear c0 c1 c2
      obtain ⟨c0, c1, c2⟩ := HCC'.out _ HBA.out
      go_wp2_with fail
      refine (HSF.out _ (HB1'.out.trans (HBA.out.mono HB1'.out.size))).mono ?_
      rintro e w2 ⟨c, p, pp, m, cp, rfl, hst, hp, hb2⟩
      have HS := Lib.hid hst
      have HP := Lib.hid (hp.kept (below_alloc (o := .cells #[.slice pp m cp] 22) (Below.refl _ _)))
      have HBW : Hid (Below w1'.heap.size w1' (w2.alloc (.cells #[.slice pp m cp] 22))) := Lib.hid (below_alloc (HBA.out.trans (hb2.mono HBA.out.size)))
      have HB2 : Hid (Below w.heap.size w (w2.alloc (.cells #[.slice pp m cp] 22))) := Lib.hid (HB1'.out.trans (HBW.out.mono HB1'.out.size))
      have HC2 := Lib.hid (HCC'.out _ HBW.out).2.2
      have HC3 : Hid ((w2.alloc (.cells #[.slice pp m cp] 22)).cell? ⟨w2.heap.size, 0, none⟩ = some (.slice pp m cp)) := Lib.hid (cell_first (i := 0) rfl)
      have HC4 : Hid ((w2.alloc (.cells #[.slice pp m cp] 22)).cell? ⟨w1'.heap.size, 0, none⟩ = some (.bool false)) := Lib.hid (cell_alloc (cell_kept hb2 HGD.out))
      clear hst hp hb2 c0 c1 c2
      by_cases hc : c = 0
      · subst hc
        go_wp2_with fail
        go_ret2
        exact ⟨0, p, HS.out, HB2.out, .inr ⟨rfl, _, _, _, _, rfl, HC2.out, HC3.out, HC4.out, HP.out⟩⟩
      · have e0 : (c != 0) = true := bne_iff_ne.2 hc
        have H0 := Lib.hid hc
        clear hc
        go_wp2_with fail
        go_ret2
        exact ⟨c, p, HS.out, HB2.out, .inl ⟨H0.out, rfl⟩⟩
set_option maxRecDepth 100000 in
set_option maxHeartbeats 4000000 in
theorem copies1_any {U : Nat → Prop} {w : World} {b G : Nat} {n : Nd} {v0 v1 v2 v3 : Value} (h : TreeU U w b n v0 v1 v2 v3) (hG : TreeG G n) (hN : G ≤ 95000000) {g2 g6 g8 : Nat} {deep : Bool} {pv tv : Value} {p tq : List ByteArray} (h2 : w.cell? ⟨g2, 2, none⟩ = some (.iface 28 (.pointer (some ⟨b, 0, none⟩)))) (h8 : w.cell? ⟨g8, 0, none⟩ = some pv) (h6 : w.cell? ⟨g6, 0, none⟩ = some (.bool deep)) (hp : PlT w b pv p) (ht : PlT w b tv tq) (hnp : namesBulk p ≤ 710000) (hnt : namesBulk tq ≤ 710000) :
    Calls Tryz.prog 82 #[tv, .pointer (some ⟨g2, 0, none⟩), .pointer (some ⟨g8, 0, none⟩), .pointer (some ⟨g6, 0, none⟩)] w fun e w' => Did U w b (copyingD n p tq deep) e w' := by
  have HRN := Lib.hid (Copy_any (dp := deep) h hG.well (by have := hG.girth; omega) hp ht (by omega) (by omega))
  obtain ⟨pp, cp, rfl, _, _, _⟩ := hp.r
  obtain ⟨pt, ct, rfl, _, _, _⟩ := ht.r
  clear h hG hp ht
  go_enter Tryz.func82, Tryz.ntmps82
  go_wp2_with fail
  refine HRN.out.mono ?_
  rintro e w2 hd
  obtain ⟨cc, rfl, hd⟩ := did_ex hd
  have HD := Lib.hid hd
  clear hd
  go_wp2_with fail
  go_ret
  exact HD.out

set_option maxRecDepth 100000 in
set_option maxHeartbeats 4000000 in
theorem links_any (w : World) (b : Nat) (S : ByteArray) (up : Option Addr) (un uc : Nat) (s : ByteArray) :
    Calls Tryz.prog 52 #[callV S (.slice up un uc) b, .string s] w fun e w' => LooksLn S (.slice up un uc) s w b e w' := by
  have HWE : Hid (∀ wx, Calls Tryz.prog 27 #[.agg #[.int .u8 3, .string s, .slice none 0 0, .slice none 0 0]] wx fun e w' => e = .returned (.bool (linkN s).well) ∧ Below wx.heap.size wx w') := Lib.hid fun wx => well_any (leafK wx 3 s) wx (Below.refl _ _)
  have HAL : Hid (∀ (o o' : Obj), Below w.heap.size w ((w.alloc o).alloc o')) := Lib.hid fun o o' => below_alloc (below_alloc (Below.refl _ _))
  unfold callV
  go_enter Tryz.func52, Tryz.ntmps52
  go_wp2_with fail
  refine (HWE.out _).mono ?_
  rintro e w2 ⟨rfl, hb2⟩
  have HB2 : Hid (Below w.heap.size w w2) := Lib.hid ((HAL.out _ _).trans (hb2.mono (HAL.out _ _).size))
  have HC0 : Hid (w2.cell? ⟨w.heap.size, 0, none⟩ = some (.string S)) := Lib.hid (cell_kept hb2 (cell_alloc (cell_first (i := 0) rfl)))
  have HC1 : Hid (w2.cell? ⟨w.heap.size, 1, none⟩ = some (.slice up un uc)) := Lib.hid (cell_kept hb2 (cell_alloc (cell_first (i := 1) rfl)))
  have HC2 : Hid (w2.cell? ⟨w.heap.size, 2, none⟩ = some (.iface 28 (.pointer (some ⟨b, 0, none⟩)))) := Lib.hid (cell_kept hb2 (cell_alloc (cell_first (i := 2) rfl)))
  have HC3 : Hid (w2.cell? ⟨w.heap.size + 1, 0, none⟩ = some (.string s)) := Lib.hid (cell_kept hb2 (cell_firstE (i := 0) (by simp) rfl))
  clear hb2
  obtain ⟨wl, hwl⟩ : ∃ wl, (linkN s).well = wl := ⟨_, rfl⟩
  rw [hwl]
  have HW := Lib.hid hwl
  clear hwl
  cases wl with
  | true =>
    go_wp2_with fail
    go_ret2
    exact ⟨HB2.out, .inr ⟨HW.out, _, _, Nat.le_refl _, Nat.le_succ _, rfl, HC0.out, HC1.out, HC2.out, HC3.out⟩⟩
  | false =>
    go_wp2_with fail
    go_ret2
    exact ⟨HB2.out, .inl ⟨HW.out, rfl⟩⟩
namespace Mv
theorem keptM_del {n : Nd} {p : List ByteArray} (hw : n.well = true) (hp : namesBulk p ≤ 710000) : KeptM n (0, delD n p) := by
  obtain ⟨h1, h2⟩ := del_well (A := p) hw
  refine ⟨fun h => absurd rfl h, h1, h2, ?_⟩
  show (delD n p).girth ≤ _
  unfold delD
  split
  · omega
  · have := changed_girth (y := absent) p n (.inl hw)
    have h3 : absent.girth ≤ 100 := of_decide_eq_true (by kernel_rfl)
    omega
theorem keptM_remove {n : Nd} {p : List ByteArray} (hw : n.well = true) (hp : namesBulk p ≤ 710000) (c : Int) : KeptM n (removeD n p c) := by
  unfold removeD
  exact keptM_bif _ (keptM_bif _ (keptM_id hw _) (keptM_bif _ (keptM_del hw hp) (keptM_id hw _))) (keptM_id hw _)
theorem keptM_make {n y : Nd} {p : List ByteArray} (hw : n.well = true) (hp : namesBulk p ≤ 710000) (hy : y.well = true → y.girth ≤ 8000) : KeptM n (makeD n p y) := by
  unfold makeD
  exact keptM_bif _ (keptM_bif _ (keptM_bif _ (keptM_put hw hp hy) (keptM_id hw _)) (keptM_id hw _)) (keptM_id hw _)
theorem link_girth {s : ByteArray} (hs : s.size ≤ 2000) : (linkN s).girth ≤ 8000 := by unfold linkN; rw [leaf_girth]; omega
theorem linkD_no {f : Bool} {n : Nd} {tq : List ByteArray} {s : ByteArray} (h : f = false ∨ kat n tq = 0) : linkD f n tq s = makeD n tq (linkN s) := by
  unfold linkD
  rw [if_neg (by rintro ⟨h1, h2⟩; rcases h with h | h; · rw [h] at h1; cases h1
                 · exact h2 h)]
theorem linkD_bad {n : Nd} {tq : List ByteArray} {s : ByteArray} (h : kat n tq ≠ 0) (hc : (removeD n tq (wrongFile n tq)).1 ≠ 0) : linkD true n tq s = removeD n tq (wrongFile n tq) := by unfold linkD; rw [if_pos ⟨rfl, h⟩, if_pos hc]
theorem linkD_new {n : Nd} {tq : List ByteArray} {s : ByteArray} (h : kat n tq ≠ 0) (hc : (removeD n tq (wrongFile n tq)).1 = 0) : linkD true n tq s = makeD (removeD n tq (wrongFile n tq)).2 tq (linkN s) := by unfold linkD; rw [if_pos ⟨rfl, h⟩, if_neg (by rw [hc]; decide)]
end Mv
set_option maxRecDepth 100000 in
set_option maxHeartbeats 8000000 in
theorem links1_any {U : Nat → Prop} {w : World} {b G : Nat} {n : Nd} {v0 v1 v2 v3 : Value} (h : TreeU U w b n v0 v1 v2 v3) (hG : TreeG G n) (hN : G ≤ 95000000) {g2 g3 : Nat} {S s : ByteArray} {up : Option Addr} {un uc : Nat} {tv : Value} {tq : List ByteArray} (h0 : w.cell? ⟨g2, 0, none⟩ = some (.string S)) (h1 : w.cell? ⟨g2, 1, none⟩ = some (.slice up un uc)) (h2 : w.cell? ⟨g2, 2, none⟩ = some (.iface 28 (.pointer (some ⟨b, 0, none⟩)))) (h3 : w.cell? ⟨g3, 0, none⟩ = some (.string s)) (hgb2 : g2 ≠ b) (hgb3 : g3 ≠ b) (ht : PlT w b tv tq) (hnt : namesBulk tq ≤ 710000) (hs : s.size ≤ 2000) :
    Calls Tryz.prog 84 #[tv, .pointer (some ⟨g2, 0, none⟩), .pointer (some ⟨g3, 0, none⟩)] w fun e w' => Did U w b (linkD (hasB S 102) n tq s) e w' := by
  have HHP : Hid (∀ wx, Calls Tryz.prog 81 #[.agg #[.string S, .slice up un uc], .int .u8 102] wx fun e w' => e = .returned (.bool (hasB S 102)) ∧ Below wx.heap.size wx w') := Lib.hid fun wx => has_any wx S (.slice up un uc) 102
  have HKI : Hid (∀ wx, Below w.heap.size w wx → Calls Tryz.prog 159 #[.pointer (some ⟨b, 0, none⟩), tv] wx fun e w' => e = .returned (.int .u8 (kat n tq).toNat) ∧ Below wx.heap.size wx w') := Lib.hid fun wx hb => fkind_any (h.kept hb).x hG.well (by have := hG.girth; omega) (ht.r.grown hb)
  have HUN : Hid (∀ wx, Below w.heap.size w wx → Calls Tryz.prog 85 #[.iface 28 (.pointer (some ⟨b, 0, none⟩)), tv] wx fun e w' => Did U wx b (removeD n tq (wrongFile n tq)) e w') := Lib.hid fun wx hb => Unlink_any (h.kept hb) hG.well (by have := hG.girth; omega) (ht.r.grown hb) (by omega)
  have HML : Hid (∀ wx, Below w.heap.size w wx → Calls Tryz.prog 86 #[.iface 28 (.pointer (some ⟨b, 0, none⟩)), tv, .string s] wx fun e w' => Did U wx b (makeD n tq (linkN s)) e w') := Lib.hid fun wx hb => MakeLink_any (h.kept hb) hG.well (by have := hG.girth; omega) (ht.r.grown hb) (by omega) hs
  have HKR := keptM_remove (c := wrongFile n tq) hG.well hnt
  have HM2 : Hid (∀ wx, (∃ x0 x1 x2 x3, TreeU U wx b (removeD n tq (wrongFile n tq)).2 x0 x1 x2 x3) → PlR wx tv tq → Calls Tryz.prog 86 #[.iface 28 (.pointer (some ⟨b, 0, none⟩)), tv, .string s] wx fun e w' => Did U wx b (makeD (removeD n tq (wrongFile n tq)).2 tq (linkN s)) e w') := Lib.hid fun wx hb hpl => by
    obtain ⟨x0, x1, x2, x3, hx⟩ := hb
    exact MakeLink_any hx HKR.well (by have := HKR.girth; have := hG.girth; omega) hpl (by omega) hs
  have HT := Lib.hid h
  have HTO := Lib.hid ht
  have HN1 := Lib.hid fun hh => linkD_no (f := hasB S 102) (n := n) (tq := tq) (s := s) hh
  have HN2 := Lib.hid fun hh => linkD_bad (n := n) (tq := tq) (s := s) hh
  have HN3 := Lib.hid fun hh => linkD_new (n := n) (tq := tq) (s := s) hh
  obtain ⟨pt, ct, rfl, _, _, _⟩ := ht.r
  clear h hG ht HKR
  obtain ⟨hf, hhf⟩ : ∃ hf, hasB S 102 = hf := ⟨_, rfl⟩
  rw [hhf] at HHP HN1 ⊢
  clear hhf
  have k0 := beq_int (kat n tq) 0
  rw [show ((0 : UInt8).toNat : Int) = 0 from rfl] at k0
  have k1 := ne_of k0
  have HK0 : Hid ((kat n tq == 0) = true → kat n tq = 0) := Lib.hid fun h => beq_iff_eq.1 h
  have HK1 : Hid ((kat n tq == 0) = false → kat n tq ≠ 0) := Lib.hid fun h => beq_eq_false_iff_ne.1 h
  generalize kat n tq = K at *
  obtain ⟨kz, hkz⟩ : ∃ kz, (K == 0) = kz := ⟨_, rfl⟩
  rw [hkz] at k0 k1 HK0 HK1
  clear hkz
  generalize tq.length = tl at *
  go_enter Tryz.func84, Tryz.ntmps84
  go_wp2_with fail
  refine (HHP.out _).mono ?_
  rintro e w1 ⟨rfl, hb1⟩
  have HB1 := Lib.hid hb1
  replace h2 := cell_kept hb1 h2
  replace h3 := cell_kept hb1 h3
  clear hb1 h0 h1
  cases hf with
  | false =>
    go_wp2_with fail
    refine (HML.out _ HB1.out).mono ?_
    rintro e w2 hd
    obtain ⟨cc, rfl, hd⟩ := did_ex hd
    have HD := Lib.hid (hd.from HB1.out)
    clear hd
    go_wp2_with fail
    go_ret
    rw [HN1.out (.inl (by first | trivial | rfl))]
    exact HD.out
  | true =>
    go_wp2_with fail
    refine (HKI.out _ HB1.out).mono ?_
    rintro e w2 ⟨rfl, hb2⟩
    have HB2 := Lib.hid (HB1.out.trans (hb2.mono HB1.out.size))
    replace h2 := cell_kept hb2 h2
    replace h3 := cell_kept hb2 h3
    clear hb2
    cases kz with
    | true =>
      go_wp2_with fail
      refine (HML.out _ HB2.out).mono ?_
      rintro e w3 hd
      obtain ⟨cc, rfl, hd⟩ := did_ex hd
      have HD := Lib.hid (hd.from HB2.out)
      clear hd
      go_wp2_with fail
      go_ret
      rw [HN1.out (.inr (HK0.out (by first | trivial | rfl)))]
      exact HD.out
    | false =>
      go_wp2_with fail
      refine (HUN.out _ HB2.out).mono ?_
      rintro e w3 hd
      have HD := Lib.hid (hd.from HB2.out)
      obtain ⟨he, ht3, hg3⟩ := hd
      have HT3 := Lib.hid ht3
      replace h2 := cell_grownBy hg3 h2 (by simpa using hgb2)
      replace h3 := cell_grownBy hg3 h3 (by simpa using hgb3)
      clear ht3 hg3
      obtain ⟨c3, hc3⟩ : ∃ c3 : Int, (removeD n tq (wrongFile n tq)).1 = c3 := ⟨_, rfl⟩
      rw [hc3] at he
      subst he
      have HC3 := Lib.hid hc3
      clear hc3
      by_cases hcz : c3 = 0
      · subst hcz
        go_wp2_with fail
        refine (HM2.out _ HT3.out (HTO.out _ HD.out.2.2)).mono ?_
        rintro e w4 hd
        obtain ⟨cc, rfl, hd⟩ := did_ex hd
        have HD4 := Lib.hid hd
        clear hd
        go_wp2_with fail
        go_ret
        rw [HN3.out (HK1.out (by first | trivial | rfl)) HC3.out]
        exact ⟨HD4.out.1, HD4.out.2.1, grown_two HD.out.2.2 HD4.out.2.2⟩
      · have e0 : (c3 != 0) = true := bne_iff_ne.2 hcz
        have HZ := Lib.hid hcz
        clear hcz
        go_wp2_with fail
        go_ret
        rw [HN2.out (HK1.out (by first | trivial | rfl)) (by rw [HC3.out]; exact HZ.out)]
        exact ⟨by rw [HC3.out]; rfl, HD.out.2.1, HD.out.2.2⟩
end Go.Proofs.YtfilbknnpjbmcaaGreatDoor
