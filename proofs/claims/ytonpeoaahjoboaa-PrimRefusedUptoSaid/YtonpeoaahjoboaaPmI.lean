/- The statement on what is refused, and what is done: it holds for any node and steps. -/
import Derived.Test.YtonpeoaahjoboaaPmH
namespace Go.Proofs.Ytonpeoaahjoboaa
open Go.RowKit Px Nx
open Works10 (Bk)
theorem Nx.ObR.grown {W w : World} (hb : Below W.heap.size W w) {cs : List Value} {s : Ob} (h : ObR W cs s) : ObR w cs s := by
  obtain ⟨pa, ca, pb, cb, h1, h2, h3⟩ := h
  exact ⟨pa, ca, pb, cb, h1, h2.grown hb, h3.grown hb⟩
theorem code_zero {c : Int} (h : c = 0) : (c != 0) = false := by rw [h]; rfl
theorem code_not {c : Int} (h : c ≠ 0) : (c != 0) = true := bne_iff_ne.2 h

set_option maxRecDepth 100000 in
set_option maxHeartbeats 8000000 in
theorem law_refused {W : World} {cs : List Value} {n : Nd} (hn : NodeR W cs n) (hB : n.bulk ≤ 2000000) {p : Option Addr} {c : Nat} {l : List Ob} {C : Nat → List Value} (hR : Row W 5 p l.length C) (hE : ∀ (i : Nat) s, l[i]? = some s → ObR W (C i) s) (hl : l.length ≤ 9223372036854775807) :
    Calls Try.prog 4 #[.agg cs.toArray, .slice p l.length c] W fun e w' => e = .returned (.bool true) ∧ Below W.heap.size W w' := by
  obtain ⟨p1, q1, c1, d1, rfl⟩ := hn.cells
  have HN := Lib.hid hn
  have HL : Hid (∀ (wx : World), Below W.heap.size W wx → Calls Try.prog 25 #[.agg #[.int .u8 n.kind.toNat, .string n.text, .slice p1 n.names.length c1, .slice q1 n.kids.length d1], .slice p l.length c] wx fun e w' => Tells (Short n l) e ∧ Below wx.heap.size wx w') := Lib.hid fun wx hx => long_any HN.out hB hR hE hl wx hx
  have HST : Hid (∀ {wr : World}, Below W.heap.size W wr → ∀ (i : Nat), i < l.length → ∃ b o s pa ca pb cb, l[i]? = some s ∧ p = some ⟨b, o, none⟩ ∧ PlR W (.slice pa (Ob.a s).length ca) s.a ∧ PlR W (.slice pb s.b.length cb) s.b ∧ wr.cell? ⟨b, o + i * 5, none⟩ = some (.int .u8 s.kind.toNat) ∧ wr.cell? ⟨b, o + i * 5 + 1, none⟩ = some (.slice pa s.a.length ca) ∧ wr.cell? ⟨b, o + i * 5 + 2, none⟩ = some (.slice pb s.b.length cb) ∧ wr.cell? ⟨b, o + i * 5 + 3, none⟩ = some (.string s.text) ∧ wr.cell? ⟨b, o + i * 5 + 4, none⟩ = some (.bool s.deep)) := Lib.hid fun hb i hi => by
    obtain ⟨b, o, hp, hl, hr⟩ := hR i hi
    obtain ⟨pa, ca, pb, cb, he, h1, h2⟩ := hE _ _ (List.getElem?_eq_getElem hi)
    have hr' := range_below hb hr
    rw [he] at hr'
    exact ⟨b, o, _, pa, ca, pb, cb, List.getElem?_eq_getElem hi, hp, h1, h2, hr' 0 _ rfl, hr' 1 _ rfl, hr' 2 _ rfl, hr' 3 _ rfl, hr' 4 _ rfl⟩
  clear hn hR hE
  go_enter Try.func4, Try.ntmps4
  go_wp2_with fail
  have HBW : Hid (Below W.heap.size W (W.alloc (.cells #[.int .u8 n.kind.toNat, .string n.text, .slice p1 n.names.length c1, .slice q1 n.kids.length d1] 40))) := Lib.hid (below_alloc (Below.refl _ _))
  have HBX : Hid (Bk (W.alloc (.cells #[.int .u8 n.kind.toNat, .string n.text, .slice p1 n.names.length c1, .slice q1 n.kids.length d1] 40)) W.heap.size [.int .u8 n.kind.toNat, .string n.text, .slice p1 n.names.length c1, .slice q1 n.kids.length d1] 40) := Lib.hid (Bk.new W [.int .u8 n.kind.toNat, .string n.text, .slice p1 n.names.length c1, .slice q1 n.kids.length d1] 40)
  generalize W.alloc (.cells #[.int .u8 n.kind.toNat, .string n.text, .slice p1 n.names.length c1, .slice q1 n.kids.length d1] 40) = w1 at *
  refine (HL.out _ HBW.out).mono ?_
  rintro e w2 ⟨⟨lb, rfl, hlb⟩, hb2⟩
  have HB2 := Lib.hid (HBW.out.trans (hb2.mono HBW.out.size))
  have HX2 := Lib.hid (HBX.out.kept hb2)
  clear hb2 HBX HBW HL
  cases lb with
  | true =>
    go_wp2_with fail
    refine (Works10.awake_any w2).mono ?_
    rintro e w3 ⟨rfl, hb3⟩
    have HB3 := Lib.hid (HB2.out.trans (hb3.mono HB2.out.size))
    clear hb3
    go_wp2_with fail
    go_ret
    exact ⟨rfl, HB3.out⟩
  | false =>
    obtain ⟨hmay, _, h40, hsh⟩ := hlb rfl
    have HSH := Lib.hid hsh
    clear hlb hsh
    go_wp2_with fail
    refine (Works10.awake_any w2).mono ?_
    rintro e w3 ⟨rfl, hb3⟩
    have HB3 := Lib.hid (HB2.out.trans (hb3.mono HB2.out.size))
    have HX3 := Lib.hid (HX2.out.kept hb3)
    clear hb3 HB2 HX2
    obtain ⟨c0, c1', c2, c3⟩ : w3.cell? ⟨W.heap.size, 0, none⟩ = some (.int .u8 n.kind.toNat) ∧ w3.cell? ⟨W.heap.size, 1, none⟩ = some (.string n.text) ∧ w3.cell? ⟨W.heap.size, 2, none⟩ = some (.slice p1 n.names.length c1) ∧ w3.cell? ⟨W.heap.size, 3, none⟩ = some (.slice q1 n.kids.length d1) := ⟨HX3.out.at rfl, HX3.out.at rfl, HX3.out.at rfl, HX3.out.at rfl⟩
    go_wp2_with fail
    have hgb : n.girth ≤ 330000 := by have := may_bulk hmay; have := n.girth_bulk; omega
    refine (fnew_any HN.out (by omega) w3 HB3.out).mono ?_
    rintro e w4 ⟨hnw, hb4⟩
    rw [if_pos hmay] at hnw
    obtain ⟨b, y0, y1, y2, y3, rfl, hbb, ht, _⟩ := hnw
    have hbW : W.heap.size < b := Nat.lt_of_lt_of_le HX3.out.lt hbb
    have HT4 := Lib.hid ht
    have HB4 := Lib.hid (HB3.out.trans (hb4.mono HB3.out.size))
    clear hb4 ht hbb c0 c1' c2 c3 HB3 HX3
    obtain ⟨hw, hk⟩ := may_well hmay
    have HW := Lib.hid hw
    have HGB := Lib.hid hgb
    have HBWL := Lib.hid (Nat.le_of_lt hbW)
    clear hw hk hgb hmay hbW
    generalize hln : l.length = ln at *
    have HLN := Lib.hid hln
    clear hln
    go_wp2_with fail
    go_loopw [7, 8, 9, 10] (fun i _ _ _ wr => ∃ (k : Nat) (m : Nd) (x0 x1 x2 x3 : Value), k ≤ ln ∧ i = .int .i64 k ∧ Hid (TreeX wr b m x0 x1 x2 x3) ∧ Hid (m.well = true) ∧ Hid (m.girth ≤ 330000 + k * 16080) ∧ Hid (Below W.heap.size W wr)) (fun i _ _ _ _ => ln - (intOf i).toNat)
    case atStart => exact ⟨0, n, _, _, _, _, Nat.zero_le _, rfl, HT4, HW, Lib.hid (by have := HGB.out; omega), HB4⟩
    case round =>
      clear HT4 HB4 HW HGB HN
      obtain ⟨k, m, x0, x1, x2, x3, hk, rfl, HT, HW, HG, HB⟩ := hrel
      by_cases hlt : k < ln
      · obtain ⟨bo, o, s, pa, ca, pb, cb, hs, rfl, ha, hb, e0, e1, e2, e3, e4⟩ := HST.out HB.out k hlt
        obtain ⟨hsa, hsb, hst⟩ := HSH.out k s hs
        have HPA := Lib.hid ha
        have HPB := Lib.hid hb
        have HGM : Hid (m.girth ≤ 1000000) := Lib.hid (by have := HG.out; omega)
        have HKP := Lib.hid (kept_do (s := s) HW.out (small_bulk hsa) (small_bulk hsb) hst)
        have HGM2 : Hid ((doD m s).2.girth ≤ 330000 + (k + 1) * 16080) := Lib.hid (by have := HKP.out.girth; have := HG.out; omega)
        have HGM3 : Hid ((doD m s).2.girth ≤ 2000000) := Lib.hid (by have := HGM2.out; omega)
        have HDO : Hid (∀ (wx : World) {z0 z1 z2 z3 : Value}, Below W.heap.size W wx → TreeX wx b m z0 z1 z2 z3 → Calls Try.prog 10 #[.agg #[.int .u8 s.kind.toNat, .slice pa s.a.length ca, .slice pb s.b.length cb, .string s.text, .bool s.deep], .iface 28 (.pointer (some ⟨b, 0, none⟩))] wx fun e w' => Did wx b (doD m s) e w') := Lib.hid fun wx _ _ _ _ hx hT => do_any hT HW.out HGM.out (plT_of HPA.out hx HBWL.out) (plT_of HPB.out hx HBWL.out) (small_100 hsa) (small_100 hsb) (by omega)
        clear ha hb hs hsa hsb hst HPA HPB HG
        have HRO := Lib.hid (froot_any HT.out HW.out (girth_less HGM.out))
        go_wp2_with fail
        refine HRO.out.mono ?_
        rintro e w1 ⟨⟨us, rfl, hus⟩, hb1⟩
        obtain ⟨p5, q5, c5, d5, rfl⟩ := nodeX_cells hus
        have HT1 := Lib.hid (HT.out.kept hb1)
        have HB1 := Lib.hid (HB.out.trans (hb1.mono HB.out.size))
        have hbwr : b < wr.heap.size := HT.out.lt
        have HU1 : Hid (NodeX w1 (fun k => k ≠ b) _ m) := Lib.hid (NodeX.weak hus fun k hk e => by have := hk.1; omega)
        clear hbwr
        have e0' := cell_kept hb1 e0
        have e1' := cell_kept hb1 e1
        have e2' := cell_kept hb1 e2
        have e3' := cell_kept hb1 e3
        have e4' := cell_kept hb1 e4
        clear e0 e1 e2 e3 e4 hb1 hus HT HRO HB
        go_upto_region 10 with fail
        have hal : Below w1.heap.size w1 (w1.alloc (.cells #[.int .u8 m.kind.toNat, .string m.text, .slice p5 m.names.length c5, .slice q5 m.kids.length d5] 40)) := below_alloc (Below.refl _ _)
        have HT2 := Lib.hid (HT1.out.kept hal)
        have HB2 := Lib.hid (HB1.out.trans (hal.mono HB1.out.size))
        have HU2 := Lib.hid (NodeX.grown HU1.out hal)
        have HK2 : Hid (Bk (w1.alloc (.cells #[.int .u8 m.kind.toNat, .string m.text, .slice p5 m.names.length c5, .slice q5 m.kids.length d5] 40)) w1.heap.size [.int .u8 m.kind.toNat, .string m.text, .slice p5 m.names.length c5, .slice q5 m.kids.length d5] 40) := Lib.hid (Bk.new w1 [.int .u8 m.kind.toNat, .string m.text, .slice p5 m.names.length c5, .slice q5 m.kids.length d5] 40)
        have hb1 : b < w1.heap.size := HT1.out.lt
        have e0 := cell_kept hal e0'
        have e1 := cell_kept hal e1'
        have e2 := cell_kept hal e2'
        have e3 := cell_kept hal e3'
        have e4 := cell_kept hal e4'
        clear e0' e1' e2' e3' e4' hal HT1 HB1 HU1
        generalize (w1.alloc (.cells #[.int .u8 m.kind.toNat, .string m.text, .slice p5 m.names.length c5, .slice q5 m.kids.length d5] 40)) = w2 at *
        generalize w1.heap.size = g8 at *
        go_wp2_with fail
        refine (HDO.out w2 HB2.out HT2.out).mono ?_
        rintro e w3 ⟨he, ⟨z0, z1, z2, z3, ht⟩, hg⟩
        subst he
        have HT3 := Lib.hid ht
        have HB3 := Lib.hid (Works10.below_turn HB2.out hg HBWL.out)
        have HU3 : Hid (NodeX w3 (fun k => k ≠ b) [.int .u8 m.kind.toNat, .string m.text, .slice p5 m.names.length c5, .slice q5 m.kids.length d5] m) := Lib.hid (HU2.out.grownBy hg (fun h => h rfl))
        have HK3 := Lib.hid (HK2.out.by hg (Nat.ne_of_gt hb1))
        clear ht hg HT2 HB2 HU2 HK2 HDO e0 e1 e2 e3 e4
        have HRO := Lib.hid (froot_any HT3.out HKP.out.well HGM3.out)
        have HKW := Lib.hid HKP.out.well
        have HKS := Lib.hid HKP.out.same
        clear HKP
        generalize (doD m s).2 = m2 at *
        generalize (doD m s).1 = cz at *
        go_wp2_with fail
        refine HRO.out.mono ?_
        rintro e w4 ⟨⟨us, rfl, hus⟩, hb4⟩
        obtain ⟨p6, q6, c6, d6, rfl⟩ := nodeX_cells hus
        have HT4 := Lib.hid (HT3.out.kept hb4)
        have HB4 := Lib.hid (HB3.out.trans (hb4.mono HB3.out.size))
        have HU4 := Lib.hid (NodeX.grown HU3.out hb4).to
        have HK4 := Lib.hid (HK3.out.kept hb4)
        have HV4 := Lib.hid hus.to
        clear hb4 hus HT3 HB3 HU3 HK3 HRO
        go_upto_region 12 with fail
        have hal : Below w4.heap.size w4 (w4.alloc (.cells #[.int .u8 m2.kind.toNat, .string m2.text, .slice p6 m2.names.length c6, .slice q6 m2.kids.length d6] 40)) := below_alloc (Below.refl _ _)
        have HT5 := Lib.hid (HT4.out.kept hal)
        have HB5 := Lib.hid (HB4.out.trans (hal.mono HB4.out.size))
        have HU5 := Lib.hid (NodeR.grown hal HU4.out)
        have HV5 := Lib.hid (NodeR.grown hal HV4.out)
        have HK5 := Lib.hid (HK4.out.kept hal)
        have HJ5 : Hid (Bk (w4.alloc (.cells #[.int .u8 m2.kind.toNat, .string m2.text, .slice p6 m2.names.length c6, .slice q6 m2.kids.length d6] 40)) w4.heap.size [.int .u8 m2.kind.toNat, .string m2.text, .slice p6 m2.names.length c6, .slice q6 m2.kids.length d6] 40) := Lib.hid (Bk.new w4 [.int .u8 m2.kind.toNat, .string m2.text, .slice p6 m2.names.length c6, .slice q6 m2.kids.length d6] 40)
        clear hal HT4 HB4 HU4 HV4 HK4
        generalize (w4.alloc (.cells #[.int .u8 m2.kind.toNat, .string m2.text, .slice p6 m2.names.length c6, .slice q6 m2.kids.length d6] 40)) = w5 at *
        generalize w4.heap.size = g10 at *
        have HSA : Hid (cz ≠ 0 → Calls Try.prog 28 #[.agg #[.int .u8 m.kind.toNat, .string m.text, .slice p5 m.names.length c5, .slice q5 m.kids.length d5], .agg #[.int .u8 m2.kind.toNat, .string m2.text, .slice p6 m2.names.length c6, .slice q6 m2.kids.length d6]] w5 fun e w' => e = .returned (.bool true) ∧ Below w5.heap.size w5 w') := Lib.hid fun hz => (sameNd_any HU5.out HV5.out (girth_less HGM.out) w5 (Below.refl _ _)).mono fun e w' ⟨h1, h2⟩ => ⟨by rw [h1, HKS.out hz, Nd.same_self], h2⟩
        have HWE : Hid (∀ wx, Below w5.heap.size w5 wx → Calls Try.prog 29 #[.agg #[.int .u8 m2.kind.toNat, .string m2.text, .slice p6 m2.names.length c6, .slice q6 m2.kids.length d6]] wx fun e w' => e = .returned (.bool true) ∧ Below wx.heap.size wx w') := Lib.hid fun wx hb => (well_any HV5.out wx hb).mono fun e w' ⟨h1, h2⟩ => ⟨by rw [h1, HKW.out], h2⟩
        obtain ⟨a0, a1, a2, a3⟩ : w5.cell? ⟨g8, 0, none⟩ = some (.int .u8 m.kind.toNat) ∧ w5.cell? ⟨g8, 1, none⟩ = some (.string m.text) ∧ w5.cell? ⟨g8, 2, none⟩ = some (.slice p5 m.names.length c5) ∧ w5.cell? ⟨g8, 3, none⟩ = some (.slice q5 m.kids.length d5) := ⟨HK5.out.at rfl, HK5.out.at rfl, HK5.out.at rfl, HK5.out.at rfl⟩
        obtain ⟨j0, j1, j2, j3⟩ : w5.cell? ⟨g10, 0, none⟩ = some (.int .u8 m2.kind.toNat) ∧ w5.cell? ⟨g10, 1, none⟩ = some (.string m2.text) ∧ w5.cell? ⟨g10, 2, none⟩ = some (.slice p6 m2.names.length c6) ∧ w5.cell? ⟨g10, 3, none⟩ = some (.slice q6 m2.kids.length d6) := ⟨HJ5.out.at rfl, HJ5.out.at rfl, HJ5.out.at rfl, HJ5.out.at rfl⟩
        clear HU5 HV5 HK5 HJ5
        by_cases hz : cz = 0
        · have hzf := code_zero hz
          clear hz HSA
          go_wp2_with fail
          refine (HWE.out _ (Below.refl _ _)).mono ?_
          rintro e w6 ⟨rfl, hb6⟩
          have HT6 := Lib.hid (HT5.out.kept hb6)
          have HB6 := Lib.hid (HB5.out.trans (hb6.mono HB5.out.size))
          clear hb6 HT5 HB5 a0 a1 a2 a3 j0 j1 j2 j3
          go_wp2_with fail
          go_roundw
          case rel => exact ⟨k + 1, m2, _, _, _, _, by omega, by go_num, HT6, HKW, HGM2, HB6⟩
          case measure => simp [intOf]; omega
        · have hzf := code_not hz
          have HSB := Lib.hid (HSA.out hz)
          clear hz HSA
          go_wp2_with fail
          refine HSB.out.mono ?_
          rintro e w6 ⟨rfl, hb6⟩
          have HT6 := Lib.hid (HT5.out.kept hb6)
          have HB6 := Lib.hid (HB5.out.trans (hb6.mono HB5.out.size))
          have j0' := cell_kept hb6 j0
          have j1' := cell_kept hb6 j1
          have j2' := cell_kept hb6 j2
          have j3' := cell_kept hb6 j3
          have HWE2 := Lib.hid (HWE.out w6 hb6)
          clear hb6 HT5 HB5 a0 a1 a2 a3 j0 j1 j2 j3
          go_wp2_with fail
          refine HWE2.out.mono ?_
          rintro e w7 ⟨rfl, hb7⟩
          have HT7 := Lib.hid (HT6.out.kept hb7)
          have HB7 := Lib.hid (HB6.out.trans (hb7.mono HB6.out.size))
          clear hb7 HT6 HB6 j0' j1' j2' j3'
          go_wp2_with fail
          go_roundw
          case rel => exact ⟨k + 1, m2, _, _, _, _, by omega, by go_num, HT7, HKW, HGM2, HB7⟩
          case measure => simp [intOf]; omega
      · go_wp2_with fail
        go_ret
        exact ⟨rfl, HB.out⟩
end Go.Proofs.Ytonpeoaahjoboaa
