/- Walks of package dirs: what its methods do with an operand. -/
import Derived.Test.YtmofodaecakkfaaGreatKb37
import Derived.Test.YtmofodaecakkfaaGreatKb39
import Derived.Test.YtmofodaecakkfaaGreatKb40
import Derived.Test.YtmofodaecakkfaaGreatKb12
import Derived.Test.YtmofodaecakkfaaGreatKb06
namespace Go.Proofs.YtmofodaecakkfaaGreat
open Go.RowKit Px Nx Wk Dn

/-- A call as a value: what was told, and the file system. -/
def callV (S : ByteArray) (u : Value) (b : Nat) : Value := .agg #[.string S, u, .iface 29 (.pointer (some ⟨b, 0, none⟩))]
def DidR (U : Nat → Prop) (R : Rel) (n : Nd) (t : ByteArray) (w : World) (b : Nat) (e : Ending) (w' : World) : Prop := ∃ c n', e = .returned (.int .i64 c) ∧ R n t c n' ∧ (∃ x0 x1 x2 x3, TreeU U w' b n' x0 x1 x2 x3) ∧ w.grownBy w' (some b)
theorem tree_girth {N : Nat} {n : Nd} (h : TreeN N n) (hN : N ≤ 20000) : n.girth ≤ 100000000 := by
  have := h.girth
  omega
theorem tree_girth2 {N : Nat} {n : Nd} (h : TreeN N n) (hN : N ≤ 20000) : n.girth ≤ 200000000 := by
  have := h.girth
  omega
theorem leads_small {N : Nat} {n : Nd} (h : TreeN N n) (hN : N ≤ 20000) {fo : Bool} {t : ByteArray} {p : List ByteArray} {k : UInt8} (hr : Leads n fo t (.ok p k)) (ht : t.size ≤ 40000) : namesBulk p ≤ 10000000 := by
  have := place_small h hr (M := 40000) ht (by omega)
  omega
theorem err_ne {n : Nd} {fo : Bool} {t : ByteArray} {e : Int} (h : Leads n fo t (.err e)) : (e != 0) = true := by
  rcases run_err h e rfl with rfl | rfl | rfl <;> rfl

set_option maxRecDepth 100000 in
set_option maxHeartbeats 4000000 in
theorem dremoveDir_any {U : Nat → Prop} {w : World} {b N : Nat} {n : Nd} {v0 v1 v2 v3 : Value} (h : TreeU U w b n v0 v1 v2 v3) (hG : TreeN N n) (hN : N ≤ 20000) (S : ByteArray) (up : Option Addr) (un uc : Nat) (t : ByteArray) (ht : t.size ≤ 40000) :
    Calls Tryz.prog 35 #[callV S (.slice up un uc) b, .string t] w fun e w' => DidR U rmdirR n t w b e w' := by
  have HSP : Hid (∀ wx, Below w.heap.size w wx → Calls Tryz.prog 13 #[.iface 29 (.pointer (some ⟨b, 0, none⟩)), .string t] wx fun e w' => LeadsQ n false t e w' ∧ Below wx.heap.size wx w') := Lib.hid fun wx hb => wspot_any (h.kept hb).x hG.well (tree_girth2 hG hN) hG.kind t (by omega)
  have HRM : Hid (∀ wx pv place, Below w.heap.size w wx → PlR wx pv place → namesBulk place ≤ 10000000 → Calls Tryz.prog 60 #[.iface 29 (.pointer (some ⟨b, 0, none⟩)), pv] wx fun e w' => Did U wx b (removeD n place (wrongDir n place)) e w') := Lib.hid fun wx pv place hb hp hs => RemoveDir_any (h.kept hb) hG.well (tree_girth hG hN) hp hs
  have HT := Lib.hid h
  have HAL : Hid (∀ (o : Obj), Below w.heap.size w (w.alloc o)) := Lib.hid fun o => below_alloc (Below.refl _ _)
  have HSM : Hid (∀ p k, Leads n false t (.ok p k) → namesBulk p ≤ 10000000) := Lib.hid fun p k hr => leads_small hG hN hr ht
  clear h
  unfold callV
  go_enter Tryz.func35, Tryz.ntmps35
  go_wp2_with fail
  refine (HSP.out _ (HAL.out _)).mono ?_
  rintro e w1 ⟨⟨o, ho, hv⟩, hb1⟩
  have HO : Hid (Leads n false t o) := Lib.hid ho
  have HB1 : Hid (Below w.heap.size w w1) := Lib.hid ((HAL.out _).trans (hb1.mono (HAL.out _).size))
  have c2 := box_at (by simpa using hb1) 2 rfl
  clear hb1 ho
  cases o with
  | err e1 =>
    have hv' : e = .returned (.tuple #[.slice none 0 0, .int .u8 0, .int .i64 e1]) := hv
    subst hv'
    have e0 := err_ne HO.out
    go_wp2_with fail
    go_ret
    exact ⟨_, _, rfl, ⟨_, HO.out, rfl, rfl⟩, ⟨_, _, _, _, HT.out.kept HB1.out⟩, grown_below HB1.out⟩
  | ok p k =>
    obtain ⟨pv, he, hpv⟩ := hv
    subst he
    have HP := Lib.hid hpv
    obtain ⟨pp, cp, rfl, _, _, _⟩ := hpv
    go_wp2_with fail
    refine (HRM.out _ _ _ HB1.out HP.out (HSM.out _ _ HO.out)).mono ?_
    rintro e w2 hd
    obtain ⟨cc, rfl, hd⟩ := did_ex hd
    have HD := Lib.hid (hd.from HB1.out)
    clear hd
    go_wp2_with fail
    go_ret
    obtain ⟨q1, q2, q3⟩ := HD.out
    refine ⟨_, _, rfl, ⟨_, HO.out, ?_⟩, q2, q3⟩
    cases q1
    exact ⟨rfl, rfl⟩
set_option maxRecDepth 100000 in
set_option maxHeartbeats 4000000 in
theorem dmakeMissing_any {U : Nat → Prop} {w : World} {b N : Nat} {n : Nd} {v0 v1 v2 v3 : Value} (h : TreeU U w b n v0 v1 v2 v3) (hG : TreeN N n) (hN : N ≤ 20000) (S : ByteArray) (up : Option Addr) (un uc : Nat) (t : ByteArray) (ht : t.size ≤ 40000) :
    Calls Tryz.prog 81 #[callV S (.slice up un uc) b, .string t] w fun e w' => DidR U missR n t w b e w' := by
  have HSP : Hid (∀ wx, Below w.heap.size w wx → Calls Tryz.prog 14 #[.iface 29 (.pointer (some ⟨b, 0, none⟩)), .string t] wx fun e w' => LeadsQ n true t e w' ∧ Below wx.heap.size wx w') := Lib.hid fun wx hb => wfind_any (h.kept hb).x hG.well (tree_girth2 hG hN) hG.kind t (by omega)
  have HMK : Hid (∀ wx pv place, Below w.heap.size w wx → PlR wx pv place → namesBulk place ≤ 10000000 → Calls Tryz.prog 59 #[.iface 29 (.pointer (some ⟨b, 0, none⟩)), pv] wx fun e w' => Did U wx b (makeD n place dirN) e w') := Lib.hid fun wx pv place hb hp hs => MakeDir_any (h.kept hb) hG.well (tree_girth hG hN) hp hs
  have HT := Lib.hid h
  have HAL : Hid (∀ (o : Obj), Below w.heap.size w (w.alloc o)) := Lib.hid fun o => below_alloc (Below.refl _ _)
  have HSM : Hid (∀ p k, Leads n true t (.ok p k) → namesBulk p ≤ 10000000) := Lib.hid fun p k hr => leads_small hG hN hr ht
  clear h
  unfold callV
  go_enter Tryz.func81, Tryz.ntmps81
  go_wp2_with fail
  refine (HSP.out _ (HAL.out _)).mono ?_
  rintro e w1 ⟨⟨o, ho, hv⟩, hb1⟩
  have HO : Hid (Leads n true t o) := Lib.hid ho
  have HB1 : Hid (Below w.heap.size w w1) := Lib.hid ((HAL.out _).trans (hb1.mono (HAL.out _).size))
  have c2 := box_at (by simpa using hb1) 2 rfl
  clear hb1 ho
  cases o with
  | err e1 =>
    have hv' : e = .returned (.tuple #[.slice none 0 0, .int .u8 0, .int .i64 e1]) := hv
    subst hv'
    have e0 := err_ne HO.out
    go_wp2_with fail
    go_ret
    exact ⟨_, _, rfl, ⟨_, HO.out, rfl, rfl⟩, ⟨_, _, _, _, HT.out.kept HB1.out⟩, grown_below HB1.out⟩
  | ok p k =>
    obtain ⟨pv, he, hpv⟩ := hv
    subst he
    have HP := Lib.hid hpv
    obtain ⟨pp, cp, rfl, _, _, _⟩ := hpv
    have e0 := beq_int k 0
    rw [show ((0 : UInt8).toNat : Int) = 0 from rfl] at e0
    have e2 := beq_int k 2
    rw [show ((2 : UInt8).toNat : Int) = 2 from rfl] at e2
    by_cases hk0 : k = 0
    · have hk0' : (k == 0) = true := beq_iff_eq.2 hk0
      rw [hk0'] at e0
      have HK := Lib.hid hk0
      clear hk0 hk0' e2
      go_wp2_with fail
      refine (HMK.out _ _ _ HB1.out HP.out (HSM.out _ _ HO.out)).mono ?_
      rintro e w2 hd
      obtain ⟨cc, rfl, hd⟩ := did_ex hd
      have HD := Lib.hid (hd.from HB1.out)
      clear hd
      go_wp2_with fail
      go_ret
      obtain ⟨q1, q2, q3⟩ := HD.out
      refine ⟨_, _, rfl, ⟨_, HO.out, ?_⟩, q2, q3⟩
      dsimp only
      rw [if_pos HK.out]
      cases q1
      exact ⟨rfl, rfl⟩
    · have hk0' : (k == 0) = false := beq_eq_false_iff_ne.2 hk0
      rw [hk0'] at e0
      have HK := Lib.hid hk0
      clear hk0 hk0'
      by_cases hk2 : k = 2
      · have hk2' : (k == 2) = true := beq_iff_eq.2 hk2
        rw [hk2'] at e2
        have e2n := ne_of e2
        have HK2 := Lib.hid hk2
        clear hk2 hk2'
        go_wp2_with fail
        go_ret
        refine ⟨_, _, rfl, ⟨_, HO.out, ?_⟩, ⟨_, _, _, _, HT.out.kept HB1.out⟩, grown_below HB1.out⟩
        dsimp only
        rw [if_neg HK.out, if_pos HK2.out]
        exact ⟨rfl, rfl⟩
      · have hk2' : (k == 2) = false := beq_eq_false_iff_ne.2 hk2
        rw [hk2'] at e2
        have e2n := ne_of e2
        have HK2 := Lib.hid hk2
        clear hk2 hk2'
        go_wp2_with fail
        go_ret
        refine ⟨_, _, rfl, ⟨_, HO.out, ?_⟩, ⟨_, _, _, _, HT.out.kept HB1.out⟩, grown_below HB1.out⟩
        dsimp only
        rw [if_neg HK.out, if_neg HK2.out]
        exact ⟨rfl, rfl⟩

set_option maxRecDepth 100000 in
set_option maxHeartbeats 4000000 in
theorem disLink_any {U : Nat → Prop} {w : World} {b N : Nat} {n : Nd} {v0 v1 v2 v3 : Value} (h : TreeU U w b n v0 v1 v2 v3) (hG : TreeN N n) (hN : N ≤ 20000) (S : ByteArray) (up : Option Addr) (un uc : Nat) (t : ByteArray) (ht : t.size ≤ 40000) :
    Calls Tryz.prog 61 #[callV S (.slice up un uc) b, .string t] w fun e w' => (∃ o, Leads n false t o ∧ e = .returned (.bool (linkO o))) ∧ Below w.heap.size w w' := by
  have HSP : Hid (∀ wx, Below w.heap.size w wx → Calls Tryz.prog 13 #[.iface 29 (.pointer (some ⟨b, 0, none⟩)), .string t] wx fun e w' => LeadsQ n false t e w' ∧ Below wx.heap.size wx w') := Lib.hid fun wx hb => wspot_any (h.kept hb).x hG.well (tree_girth2 hG hN) hG.kind t (by omega)
  have HAL : Hid (∀ (o : Obj), Below w.heap.size w (w.alloc o)) := Lib.hid fun o => below_alloc (Below.refl _ _)
  clear h
  unfold callV
  go_enter Tryz.func61, Tryz.ntmps61
  go_wp2_with fail
  refine (HSP.out _ (HAL.out _)).mono ?_
  rintro e w1 ⟨⟨o, ho, hv⟩, hb1⟩
  have HO : Hid (Leads n false t o) := Lib.hid ho
  have HB1 : Hid (Below w.heap.size w w1) := Lib.hid ((HAL.out _).trans (hb1.mono (HAL.out _).size))
  clear hb1 ho
  cases o with
  | err e1 =>
    have hv' : e = .returned (.tuple #[.slice none 0 0, .int .u8 0, .int .i64 e1]) := hv
    subst hv'
    go_wp2_with fail
    go_ret
    exact ⟨⟨_, HO.out, rfl⟩, HB1.out⟩
  | ok p k =>
    obtain ⟨pv, he, hpv⟩ := hv
    subst he
    obtain ⟨pp, cp, rfl, _, _, _⟩ := hpv
    have e0 := beq_int k 3
    rw [show ((3 : UInt8).toNat : Int) = 3 from rfl] at e0
    have hl : linkO (.ok p k) = (k == 3) := by unfold linkO; rw [Bool.eq_iff_iff]; simp
    obtain ⟨kb, hkb⟩ : ∃ kb, (k == 3) = kb := ⟨_, rfl⟩
    rw [hkb] at e0 hl
    have HL := Lib.hid hl
    clear hkb hl
    go_wp2_with fail
    go_ret
    exact ⟨⟨_, HO.out, by rw [HL.out]; rfl⟩, HB1.out⟩
set_option maxRecDepth 100000 in
set_option maxHeartbeats 8000000 in
theorem dtouch_any {U : Nat → Prop} {w : World} {b N : Nat} {n : Nd} {v0 v1 v2 v3 : Value} (h : TreeU U w b n v0 v1 v2 v3) (hG : TreeN N n) (hN : N ≤ 20000) (S : ByteArray) (up : Option Addr) (un uc : Nat) (t : ByteArray) (ht : t.size ≤ 40000) :
    Calls Tryz.prog 36 #[callV S (.slice up un uc) b, .string t] w fun e w' => DidR U touchR n t w b e w' := by
  have HSP : Hid (∀ wx, Below w.heap.size w wx → Calls Tryz.prog 14 #[.iface 29 (.pointer (some ⟨b, 0, none⟩)), .string t] wx fun e w' => LeadsQ n true t e w' ∧ Below wx.heap.size wx w') := Lib.hid fun wx hb => wfind_any (h.kept hb).x hG.well (tree_girth2 hG hN) hG.kind t (by omega)
  have HMK : Hid (∀ wx pv place, Below w.heap.size w wx → PlR wx pv place → namesBulk place ≤ 10000000 → Calls Tryz.prog 62 #[.iface 29 (.pointer (some ⟨b, 0, none⟩)), pv] wx fun e w' => Did U wx b (touchD n place) e w') := Lib.hid fun wx pv place hb hp hs => Touch_any (h.kept hb) hG.well (tree_girth hG hN) hp hs
  have HLK : Hid (∀ wx, Below w.heap.size w wx → Calls Tryz.prog 61 #[callV S (.slice up un uc) b, .string t] wx fun e w' => (∃ o, Leads n false t o ∧ e = .returned (.bool (linkO o))) ∧ Below wx.heap.size wx w') := Lib.hid fun wx hb => disLink_any (h.kept hb) hG hN S up un uc t ht
  unfold callV at HLK
  have HT := Lib.hid h
  have HAL : Hid (∀ (o : Obj), Below w.heap.size w (w.alloc o)) := Lib.hid fun o => below_alloc (Below.refl _ _)
  have HSM : Hid (∀ p k, Leads n true t (.ok p k) → namesBulk p ≤ 10000000) := Lib.hid fun p k hr => leads_small hG hN hr ht
  clear h
  unfold callV
  go_enter Tryz.func36, Tryz.ntmps36
  go_wp2_with fail
  refine (HSP.out _ (HAL.out _)).mono ?_
  rintro e w1 ⟨⟨o, ho, hv⟩, hb1⟩
  have HO : Hid (Leads n true t o) := Lib.hid ho
  have HB1 : Hid (Below w.heap.size w w1) := Lib.hid ((HAL.out _).trans (hb1.mono (HAL.out _).size))
  have CC := Lib.hid (show ∀ wx, Below w1.heap.size w1 wx → wx.cell? ⟨w.heap.size, 0, none⟩ = some (.string S) ∧ wx.cell? ⟨w.heap.size, 1, none⟩ = some (.slice up un uc) ∧ wx.cell? ⟨w.heap.size, 2, none⟩ = some (.iface 29 (.pointer (some ⟨b, 0, none⟩))) from fun wx hx => ⟨cell_kept hx (box_at (by simpa using hb1) 0 rfl), cell_kept hx (box_at (by simpa using hb1) 1 rfl), cell_kept hx (box_at (by simpa using hb1) 2 rfl)⟩)
  obtain ⟨c0, c1, c2⟩ := CC.out _ (Below.refl _ _)
  clear hb1 ho
  cases o with
  | err e1 =>
    have hv' : e = .returned (.tuple #[.slice none 0 0, .int .u8 0, .int .i64 e1]) := hv
    subst hv'
    have e0 := err_ne HO.out
    go_wp2_with fail
    go_ret
    exact ⟨_, _, rfl, ⟨_, HO.out, rfl, rfl⟩, ⟨_, _, _, _, HT.out.kept HB1.out⟩, grown_below HB1.out⟩
  | ok p k =>
    obtain ⟨pv, he, hpv⟩ := hv
    subst he
    have HP := Lib.hid hpv
    obtain ⟨pp, cp, rfl, _, _, _⟩ := hpv
    have e0 := beq_int k 0
    rw [show ((0 : UInt8).toNat : Int) = 0 from rfl] at e0
    by_cases hk0 : k = 0
    · have hk0' : (k == 0) = true := beq_iff_eq.2 hk0
      rw [hk0'] at e0
      have HK := Lib.hid hk0
      clear hk0 hk0'
      have hdi : dirL t.data.toList = dirB t := rfl
      have HDI := Lib.hid (dir_any t w1 (by omega))
      rw [hdi] at HDI
      clear hdi
      cases hdb : dirB t with
      | true =>
        rw [hdb] at HDI
        have HDB := Lib.hid hdb
        clear hdb
        go_wp2_with fail
        refine HDI.out.mono ?_
        rintro e w2 ⟨rfl, rfl⟩
        go_wp2_with fail
        go_ret
        refine ⟨_, _, rfl, ⟨_, HO.out, ?_⟩, ⟨_, _, _, _, HT.out.kept HB1.out⟩, grown_below HB1.out⟩
        dsimp only
        rw [if_pos HK.out, if_pos HDB.out]
        exact ⟨rfl, rfl⟩
      | false =>
        rw [hdb] at HDI
        have HDB : Hid (¬ dirB t = true) := Lib.hid (by rw [hdb]; exact Bool.false_ne_true)
        clear hdb
        go_wp2_with fail
        refine HDI.out.mono ?_
        rintro e w2 ⟨rfl, rfl⟩
        go_wp2_with fail
        refine (HLK.out _ HB1.out).mono ?_
        rintro e w2 ⟨⟨o2, ho2, rfl⟩, hb2⟩
        have HB2 := Lib.hid (HB1.out.trans (hb2.mono HB1.out.size))
        have HP2 := Lib.hid (HP.out.grown hb2)
        have HO2 := Lib.hid ho2
        clear c0 c1 c2
        obtain ⟨c0, c1, c2⟩ := CC.out _ hb2
        clear hb2 ho2
        cases hl : linkO o2 with
        | true =>
          have HL := Lib.hid hl
          clear hl
          go_wp2_with fail
          go_ret
          refine ⟨_, _, rfl, ⟨_, HO.out, ?_⟩, ⟨_, _, _, _, HT.out.kept HB2.out⟩, grown_below HB2.out⟩
          dsimp only
          rw [if_pos HK.out, if_neg HDB.out]
          exact ⟨_, HO2.out, by rw [if_pos HL.out]; exact ⟨rfl, rfl⟩⟩
        | false =>
          have HL : Hid (¬ linkO o2 = true) := Lib.hid (by rw [hl]; exact Bool.false_ne_true)
          clear hl
          go_wp2_with fail
          refine (HMK.out _ _ _ HB2.out HP2.out (HSM.out _ _ HO.out)).mono ?_
          rintro e w4 hd
          obtain ⟨cc, rfl, hd⟩ := did_ex hd
          have HD := Lib.hid (hd.from HB2.out)
          clear hd
          go_wp2_with fail
          go_ret
          obtain ⟨q1, q2, q3⟩ := HD.out
          refine ⟨_, _, rfl, ⟨_, HO.out, ?_⟩, q2, q3⟩
          dsimp only
          rw [if_pos HK.out, if_neg HDB.out]
          cases q1
          exact ⟨_, HO2.out, by rw [if_neg HL.out]; exact ⟨rfl, rfl⟩⟩
    · have hk0' : (k == 0) = false := beq_eq_false_iff_ne.2 hk0
      rw [hk0'] at e0
      have HK := Lib.hid hk0
      clear hk0 hk0'
      go_wp2_with fail
      refine (HMK.out _ _ _ HB1.out HP.out (HSM.out _ _ HO.out)).mono ?_
      rintro e w4 hd
      obtain ⟨cc, rfl, hd⟩ := did_ex hd
      have HD := Lib.hid (hd.from HB1.out)
      clear hd
      go_wp2_with fail
      go_ret
      obtain ⟨q1, q2, q3⟩ := HD.out
      refine ⟨_, _, rfl, ⟨_, HO.out, ?_⟩, q2, q3⟩
      dsimp only
      rw [if_neg HK.out]
      cases q1
      exact ⟨rfl, rfl⟩
end Go.Proofs.YtmofodaecakkfaaGreat
