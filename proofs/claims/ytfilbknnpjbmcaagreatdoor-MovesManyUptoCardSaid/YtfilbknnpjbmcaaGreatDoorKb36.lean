/- Walks: Rename and Copy of package prim, over a tree in memory. -/
import Derived.Test.YtfilbknnpjbmcaaGreatDoorKb34
namespace Go.Proofs.YtfilbknnpjbmcaaGreatDoor
open Go.RowKit Px Nx
attribute [local go_sem] ahead_kind meth_Kind meth_Put meth_Del meth_Move meth_Copy meth_Empty

theorem ucopy_any {S : Nat → Prop} {w : World} {b : Nat} {n : Nd} {v0 v1 v2 v3 : Value} (h : TreeU S w b n v0 v1 v2 v3) (hw : n.well = true) (hB : n.girth ≤ 200000000) {pv qv : Value} {pl ql : List ByteArray} (hp : PlR w pv pl) (hq : PlR w qv ql) (hnb : namesBulk ql ≤ 200000000) :
  Calls Tryz.prog 156 #[.pointer (some ⟨b, 0, none⟩), pv, qv] w fun e w' => e = .returned (.tuple #[]) ∧ (∃ x0 x1 x2 x3, TreeU S w' b (copyD n pl ql) x0 x1 x2 x3) ∧ w.grownBy w' (some b) :=
 (copy_s h.s hw hB hp hq hnb).mono fun _e _w' ⟨h1, h2, h3⟩ => ⟨h1, TreeU.of h.new h3.size h2, h3⟩
theorem umove_any {S : Nat → Prop} {w : World} {b : Nat} {n : Nd} {v0 v1 v2 v3 : Value} (h : TreeU S w b n v0 v1 v2 v3) (hw : n.well = true) (hB : n.girth ≤ 200000000) {pv qv : Value} {pl ql : List ByteArray} (hp : PlR w pv pl) (hq : ∀ w', w.grownBy w' (some b) → PlR w' qv ql) (hnp : namesBulk pl ≤ 200000000) (hnb : namesBulk ql ≤ 200000000) (hBC : (changedD (fun _ => absent) pl n).girth ≤ 200000000) :
  Calls Tryz.prog 160 #[.pointer (some ⟨b, 0, none⟩), pv, qv] w fun e w' => e = .returned (.tuple #[]) ∧ (∃ x0 x1 x2 x3, TreeU S w' b (moveD n pl ql) x0 x1 x2 x3) ∧ w.grownBy w' (some b) :=
 (move_s h.s hw hB hp hq hnp hnb hBC).mono fun _e _w' ⟨h1, h2, h3⟩ => ⟨h1, TreeU.of h.new h3.size h2, h3⟩
set_option maxRecDepth 100000 in
set_option maxHeartbeats 4000000 in
theorem givesWay_any {S : Nat → Prop} {w : World} {b : Nat} {n : Nd} {v0 v1 v2 v3 : Value} (h : TreeU S w b n v0 v1 v2 v3) (hw : n.well = true) (hB : n.girth ≤ 100000000) {k : UInt8} {pv : Value} {place : List ByteArray} (hp : PlR w pv place) :
  Calls Tryz.prog 111 #[.iface 28 (.pointer (some ⟨b, 0, none⟩)), pv, .int .u8 k.toNat] w fun e w' => e = .returned (.int .i64 (givesD n place (decide (k = 2)))) ∧ Below w.heap.size w w' := by
 have HKI : Hid (∀ wx, Below w.heap.size w wx → Calls Tryz.prog 159 #[.pointer (some ⟨b, 0, none⟩), pv] wx fun e w' => e = .returned (.int .u8 ((n.at_ place).getD absent).kind.toNat) ∧ Below wx.heap.size wx w') := Lib.hid fun wx hb => fkind_any (h.kept hb).x hw (girth_less hB) (hp.grown hb)
 have HEM : Hid (∀ wx, Below w.heap.size w wx → Calls Tryz.prog 158 #[.pointer (some ⟨b, 0, none⟩), pv] wx fun e w' => e = .returned (.bool (emptyD n place)) ∧ Below wx.heap.size wx w') := Lib.hid fun wx hb => fempty_any (h.kept hb).x hw (girth_less hB) (hp.grown hb)
 have HR : Hid (givesD n place (decide (k = 2)) = bif decide (((n.at_ place).getD absent).kind = 0) then 0 else bif decide (((n.at_ place).getD absent).kind = 2) != decide (k = 2) then 55 else bif decide (((n.at_ place).getD absent).kind = 2) && !emptyD n place then 57 else 0) := Lib.hid rfl
 obtain ⟨pp, pc, rfl, _, _, _⟩ := hp
 generalize (n.at_ place).getD absent = R at *
 have ef := beq_int k 2
 rw [show ((2 : UInt8).toNat : Int) = 2 from rfl] at ef
 have hkd : decide (k = 2) = (k == 2) := by rw [Bool.eq_iff_iff]; simp
 rw [hkd] at HR ⊢
 clear hkd
 obtain ⟨f2, hf2⟩ : ∃ kb, (k == 2) = kb := ⟨_, rfl⟩
 rw [hf2] at ef HR ⊢
 clear hf2
 rw [kind_bool, kind_bool] at HR
 have e0 := beq_int R.kind 0
 rw [show ((0 : UInt8).toNat : Int) = 0 from rfl] at e0
 obtain ⟨k0, hk0⟩ : ∃ kb, (R.kind == 0) = kb := ⟨_, rfl⟩
 rw [hk0] at e0 HR
 have e0n := ne_of e0
 clear hk0
 have e2 := beq_int R.kind 2
 rw [show ((2 : UInt8).toNat : Int) = 2 from rfl] at e2
 obtain ⟨k2, hk2⟩ : ∃ kb, (R.kind == 2) = kb := ⟨_, rfl⟩
 rw [hk2] at e2 HR
 have e2n := ne_of e2
 clear hk2
 generalize emptyD n place = em at *
 generalize place.length = pln at *
 clear h hw hB
 cases k0 with
 | true =>
  go_enter Tryz.func111, Tryz.ntmps111
  go_wp2_with fail
  refine (HKI.out _ (Below.refl _ _)).mono ?_
  rintro e w1 ⟨rfl, hb1⟩
  have HB1 : Hid (Below w.heap.size w w1) := Lib.hid (hb1)
  clear hb1
  go_wp2_with fail
  go_ret
  exact ⟨by rw [HR.out]; rfl, HB1.out⟩
 | false =>
  cases k2 with
  | false =>
   cases f2 with
   | true =>
    go_enter Tryz.func111, Tryz.ntmps111
    go_wp2_with fail
    refine (HKI.out _ (Below.refl _ _)).mono ?_
    rintro e w1 ⟨rfl, hb1⟩
    have HB1 : Hid (Below w.heap.size w w1) := Lib.hid (hb1)
    clear hb1
    go_wp2_with fail
    go_ret
    exact ⟨by rw [HR.out]; rfl, HB1.out⟩
   | false =>
    go_enter Tryz.func111, Tryz.ntmps111
    go_wp2_with fail
    refine (HKI.out _ (Below.refl _ _)).mono ?_
    rintro e w1 ⟨rfl, hb1⟩
    have HB1 : Hid (Below w.heap.size w w1) := Lib.hid (hb1)
    clear hb1
    go_wp2_with fail
    go_ret
    exact ⟨by rw [HR.out]; rfl, HB1.out⟩
  | true =>
   cases f2 with
   | false =>
    go_enter Tryz.func111, Tryz.ntmps111
    go_wp2_with fail
    refine (HKI.out _ (Below.refl _ _)).mono ?_
    rintro e w1 ⟨rfl, hb1⟩
    have HB1 : Hid (Below w.heap.size w w1) := Lib.hid (hb1)
    clear hb1
    go_wp2_with fail
    go_ret
    exact ⟨by rw [HR.out]; rfl, HB1.out⟩
   | true =>
    cases em with
    | true =>
     go_enter Tryz.func111, Tryz.ntmps111
     go_wp2_with fail
     refine (HKI.out _ (Below.refl _ _)).mono ?_
     rintro e w1 ⟨rfl, hb1⟩
     have HB1 : Hid (Below w.heap.size w w1) := Lib.hid (hb1)
     clear hb1
     go_wp2_with fail
     refine (HEM.out _ (HB1.out)).mono ?_
     rintro e w2 ⟨rfl, hb1⟩
     have HB2 : Hid (Below w.heap.size w w2) := Lib.hid ((HB1.out).trans (hb1.mono (HB1.out).size))
     clear hb1
     go_wp2_with fail
     go_ret
     exact ⟨by rw [HR.out]; rfl, HB2.out⟩
    | false =>
     go_enter Tryz.func111, Tryz.ntmps111
     go_wp2_with fail
     refine (HKI.out _ (Below.refl _ _)).mono ?_
     rintro e w1 ⟨rfl, hb1⟩
     have HB1 : Hid (Below w.heap.size w w1) := Lib.hid (hb1)
     clear hb1
     go_wp2_with fail
     refine (HEM.out _ (HB1.out)).mono ?_
     rintro e w2 ⟨rfl, hb1⟩
     have HB2 : Hid (Below w.heap.size w w2) := Lib.hid ((HB1.out).trans (hb1.mono (HB1.out).size))
     clear hb1
     go_wp2_with fail
     go_ret
     exact ⟨by rw [HR.out]; rfl, HB2.out⟩

set_option maxRecDepth 100000 in
set_option maxHeartbeats 4000000 in
theorem isCopiedOver_any {S : Nat → Prop} {w : World} {b : Nat} {n : Nd} {v0 v1 v2 v3 : Value} (h : TreeU S w b n v0 v1 v2 v3) (hw : n.well = true) (hB : n.girth ≤ 100000000) {k : UInt8} {pv : Value} {place : List ByteArray} (hp : PlR w pv place) :
  Calls Tryz.prog 114 #[.iface 28 (.pointer (some ⟨b, 0, none⟩)), pv, .int .u8 k.toNat] w fun e w' => e = .returned (.int .i64 (overD n place (decide (k = 2)))) ∧ Below w.heap.size w w' := by
 have HKI : Hid (∀ wx, Below w.heap.size w wx → Calls Tryz.prog 159 #[.pointer (some ⟨b, 0, none⟩), pv] wx fun e w' => e = .returned (.int .u8 ((n.at_ place).getD absent).kind.toNat) ∧ Below wx.heap.size wx w') := Lib.hid fun wx hb => fkind_any (h.kept hb).x hw (girth_less hB) (hp.grown hb)
 have HR : Hid (overD n place (decide (k = 2)) = bif decide (((n.at_ place).getD absent).kind = 0) then 0 else bif decide (k = 2) then 6 else bif decide (((n.at_ place).getD absent).kind = 1) then 0 else 55) := Lib.hid rfl
 obtain ⟨pp, pc, rfl, _, _, _⟩ := hp
 generalize (n.at_ place).getD absent = R at *
 have ef := beq_int k 2
 rw [show ((2 : UInt8).toNat : Int) = 2 from rfl] at ef
 have hkd : decide (k = 2) = (k == 2) := by rw [Bool.eq_iff_iff]; simp
 rw [hkd] at HR ⊢
 clear hkd
 obtain ⟨f2, hf2⟩ : ∃ kb, (k == 2) = kb := ⟨_, rfl⟩
 rw [hf2] at ef HR ⊢
 clear hf2
 rw [kind_bool, kind_bool] at HR
 have e0 := beq_int R.kind 0
 rw [show ((0 : UInt8).toNat : Int) = 0 from rfl] at e0
 obtain ⟨k0, hk0⟩ : ∃ kb, (R.kind == 0) = kb := ⟨_, rfl⟩
 rw [hk0] at e0 HR
 have e0n := ne_of e0
 clear hk0
 have e1 := beq_int R.kind 1
 rw [show ((1 : UInt8).toNat : Int) = 1 from rfl] at e1
 obtain ⟨k1, hk1⟩ : ∃ kb, (R.kind == 1) = kb := ⟨_, rfl⟩
 rw [hk1] at e1 HR
 have e1n := ne_of e1
 clear hk1
 generalize place.length = pln at *
 clear h hw hB
 cases k0 with
 | true =>
  go_enter Tryz.func114, Tryz.ntmps114
  go_wp2_with fail
  refine (HKI.out _ (Below.refl _ _)).mono ?_
  rintro e w1 ⟨rfl, hb1⟩
  have HB1 : Hid (Below w.heap.size w w1) := Lib.hid (hb1)
  clear hb1
  go_wp2_with fail
  go_ret
  exact ⟨by rw [HR.out]; rfl, HB1.out⟩
 | false =>
  cases f2 with
  | true =>
   go_enter Tryz.func114, Tryz.ntmps114
   go_wp2_with fail
   refine (HKI.out _ (Below.refl _ _)).mono ?_
   rintro e w1 ⟨rfl, hb1⟩
   have HB1 : Hid (Below w.heap.size w w1) := Lib.hid (hb1)
   clear hb1
   go_wp2_with fail
   go_ret
   exact ⟨by rw [HR.out]; rfl, HB1.out⟩
  | false =>
   cases k1 with
   | true =>
    go_enter Tryz.func114, Tryz.ntmps114
    go_wp2_with fail
    refine (HKI.out _ (Below.refl _ _)).mono ?_
    rintro e w1 ⟨rfl, hb1⟩
    have HB1 : Hid (Below w.heap.size w w1) := Lib.hid (hb1)
    clear hb1
    go_wp2_with fail
    go_ret
    exact ⟨by rw [HR.out]; rfl, HB1.out⟩
   | false =>
    go_enter Tryz.func114, Tryz.ntmps114
    go_wp2_with fail
    refine (HKI.out _ (Below.refl _ _)).mono ?_
    rintro e w1 ⟨rfl, hb1⟩
    have HB1 : Hid (Below w.heap.size w w1) := Lib.hid (hb1)
    clear hb1
    go_wp2_with fail
    go_ret
    exact ⟨by rw [HR.out]; rfl, HB1.out⟩

set_option maxRecDepth 100000 in
set_option maxHeartbeats 4000000 in
theorem rename1_any {S : Nat → Prop} {w : World} {b : Nat} {n : Nd} {v0 v1 v2 v3 : Value} (h : TreeU S w b n v0 v1 v2 v3) (hw : n.well = true) (hB : n.girth ≤ 100000000) {gf gp gq : Nat} {pv qv : Value} {pl ql : List ByteArray} (hf : w.cell? ⟨gf, 0, none⟩ = some (.iface 28 (.pointer (some ⟨b, 0, none⟩)))) (hpc : w.cell? ⟨gp, 0, none⟩ = some pv) (hqc : w.cell? ⟨gq, 0, none⟩ = some qv) (hp : PlT w b pv pl) (hq : PlT w b qv ql) (hnp : namesBulk pl ≤ 10000000) (hnq : namesBulk ql ≤ 10000000) (htp : takenD n pl = true) (htq : takenD n ql = true) :
  Calls Tryz.prog 107 #[.pointer (some ⟨gf, 0, none⟩), .pointer (some ⟨gp, 0, none⟩), .pointer (some ⟨gq, 0, none⟩)] w fun e w' => Did S w b (renameD n pl ql) e w' := by
 have HT := Lib.hid h
 have HKI : Hid (∀ wx, Below w.heap.size w wx → Calls Tryz.prog 159 #[.pointer (some ⟨b, 0, none⟩), pv] wx fun e w' => e = .returned (.int .u8 ((n.at_ pl).getD absent).kind.toNat) ∧ Below wx.heap.size wx w') := Lib.hid fun wx hb => fkind_any (h.kept hb).x hw (girth_less hB) (hp.r.grown hb)
 have HAC : Hid (∀ wx, Below w.heap.size w wx → Calls Tryz.prog 160 #[.pointer (some ⟨b, 0, none⟩), pv, qv] wx fun e w' => e = .returned (.tuple #[]) ∧ (∃ x0 x1 x2 x3, TreeU S w' b (moveD n pl ql) x0 x1 x2 x3) ∧ wx.grownBy w' (some b)) := Lib.hid fun wx hb => umove_any (h.kept hb) hw (girth_less hB) (hp.r.grown hb) (hq.kept hb) (small_less hnp) (small_less hnq) (move_small hw hB hnp)
 have HEQ : Hid (∀ wx, Below w.heap.size w wx → Calls Tryz.prog 108 #[pv, qv] wx fun e w' => e = .returned (.bool (decide (pl = ql))) ∧ Below wx.heap.size wx w') := Lib.hid fun wx hb => equal_all (hp.r.grown hb) (hq.r.grown hb)
 have HRT : Hid (∀ wx, Below w.heap.size w wx → Calls Tryz.prog 109 #[pv] wx fun e w' => e = .returned (.bool (decide (pl.length = 0))) ∧ Below wx.heap.size wx w') := Lib.hid fun wx hb => (isRoot_any (hp.r.grown hb)).mono fun e w' ⟨h1, h2⟩ => ⟨h1, h2 ▸ Below.refl _ _⟩
 have HUN : Hid (∀ wx, Below w.heap.size w wx → Calls Tryz.prog 110 #[pv, qv] wx fun e w' => e = .returned (.bool (underL pl ql)) ∧ Below wx.heap.size wx w') := Lib.hid fun wx hb => under_at (Below.refl _ _) (hp.r.grown hb) (hq.r.grown hb)
 have HGV : Hid (∀ wx, Below w.heap.size w wx → Calls Tryz.prog 111 #[.iface 28 (.pointer (some ⟨b, 0, none⟩)), qv, .int .u8 ((n.at_ pl).getD absent).kind.toNat] wx fun e w' => e = .returned (.int .i64 (givesD n ql (decide (((n.at_ pl).getD absent).kind = 2)))) ∧ Below wx.heap.size wx w') := Lib.hid fun wx hb => givesWay_any (h.kept hb) hw hB (hq.r.grown hb)
 have HR : Hid (renameD n pl ql = bif decide (((n.at_ pl).getD absent).kind = 0) then (5, n) else bif decide (pl = ql) then (6, n) else bif decide (pl.length = 0) then (57, n) else bif underL pl ql then (58, n) else bif decide (givesD n ql (decide (((n.at_ pl).getD absent).kind = 2)) = 0) then (0, moveD n pl ql) else (givesD n ql (decide (((n.at_ pl).getD absent).kind = 2)), n)) := Lib.hid (by unfold renameD; rw [htp, htq]; rfl)
 obtain ⟨pp, pc, rfl, _, _, _⟩ := hp.r
 obtain ⟨pp2, pc2, rfl, _, _, _⟩ := hq.r
 generalize (n.at_ pl).getD absent = R at *
 generalize givesD n ql (decide (R.kind = 2)) = gv at *
 have ec : (gv != 0) = !decide (gv = 0) := by rw [Bool.eq_iff_iff]; simp
 generalize decide (gv = 0) = gz at *
 generalize decide (pl = ql) = eq at *
 generalize underL pl ql = un at *
 generalize decide (pl.length = 0) = rt at *
 rw [kind_bool] at HR
 have e0 := beq_int R.kind 0
 rw [show ((0 : UInt8).toNat : Int) = 0 from rfl] at e0
 obtain ⟨k0, hk0⟩ : ∃ kb, (R.kind == 0) = kb := ⟨_, rfl⟩
 rw [hk0] at e0 HR
 have e0n := ne_of e0
 clear hk0

 generalize pl.length = pln at *
 generalize ql.length = qln at *
 clear h hp hq hw hB hnp hnq htp htq
 cases k0 with
 | true =>
  go_enter Tryz.func107, Tryz.ntmps107
  go_wp2_with fail
  refine (HKI.out _ (Below.refl _ _)).mono ?_
  rintro e w1 ⟨rfl, hb1⟩
  have HB1 : Hid (Below w.heap.size w w1) := Lib.hid (hb1)
  replace hf := cell_kept hb1 hf
  replace hpc := cell_kept hb1 hpc
  replace hqc := cell_kept hb1 hqc
  clear hb1
  go_wp2_with fail
  go_ret
  exact did HR.out ⟨_, _, _, _, HT.out.kept (HB1.out)⟩ (grown_below (HB1.out))
 | false =>
  cases eq with
  | true =>
   go_enter Tryz.func107, Tryz.ntmps107
   go_wp2_with fail
   refine (HKI.out _ (Below.refl _ _)).mono ?_
   rintro e w1 ⟨rfl, hb1⟩
   have HB1 : Hid (Below w.heap.size w w1) := Lib.hid (hb1)
   replace hf := cell_kept hb1 hf
   replace hpc := cell_kept hb1 hpc
   replace hqc := cell_kept hb1 hqc
   clear hb1
   go_wp2_with fail
   refine (HEQ.out _ (HB1.out)).mono ?_
   rintro e w2 ⟨rfl, hb1⟩
   have HB2 : Hid (Below w.heap.size w w2) := Lib.hid ((HB1.out).trans (hb1.mono (HB1.out).size))
   replace hf := cell_kept hb1 hf
   replace hpc := cell_kept hb1 hpc
   replace hqc := cell_kept hb1 hqc
   clear hb1
   go_wp2_with fail
   go_ret
   exact did HR.out ⟨_, _, _, _, HT.out.kept (HB2.out)⟩ (grown_below (HB2.out))
  | false =>
   cases rt with
   | true =>
    go_enter Tryz.func107, Tryz.ntmps107
    go_wp2_with fail
    refine (HKI.out _ (Below.refl _ _)).mono ?_
    rintro e w1 ⟨rfl, hb1⟩
    have HB1 : Hid (Below w.heap.size w w1) := Lib.hid (hb1)
    replace hf := cell_kept hb1 hf
    replace hpc := cell_kept hb1 hpc
    replace hqc := cell_kept hb1 hqc
    clear hb1
    go_wp2_with fail
    refine (HEQ.out _ (HB1.out)).mono ?_
    rintro e w2 ⟨rfl, hb1⟩
    have HB2 : Hid (Below w.heap.size w w2) := Lib.hid ((HB1.out).trans (hb1.mono (HB1.out).size))
    replace hf := cell_kept hb1 hf
    replace hpc := cell_kept hb1 hpc
    replace hqc := cell_kept hb1 hqc
    clear hb1
    go_wp2_with fail
    refine (HRT.out _ (HB2.out)).mono ?_
    rintro e w3 ⟨rfl, hb1⟩
    have HB3 : Hid (Below w.heap.size w w3) := Lib.hid ((HB2.out).trans (hb1.mono (HB2.out).size))
    replace hf := cell_kept hb1 hf
    replace hpc := cell_kept hb1 hpc
    replace hqc := cell_kept hb1 hqc
    clear hb1
    go_wp2_with fail
    go_ret
    exact did HR.out ⟨_, _, _, _, HT.out.kept (HB3.out)⟩ (grown_below (HB3.out))
   | false =>
    cases un with
    | true =>
     go_enter Tryz.func107, Tryz.ntmps107
     go_wp2_with fail
     refine (HKI.out _ (Below.refl _ _)).mono ?_
     rintro e w1 ⟨rfl, hb1⟩
     have HB1 : Hid (Below w.heap.size w w1) := Lib.hid (hb1)
     replace hf := cell_kept hb1 hf
     replace hpc := cell_kept hb1 hpc
     replace hqc := cell_kept hb1 hqc
     clear hb1
     go_wp2_with fail
     refine (HEQ.out _ (HB1.out)).mono ?_
     rintro e w2 ⟨rfl, hb1⟩
     have HB2 : Hid (Below w.heap.size w w2) := Lib.hid ((HB1.out).trans (hb1.mono (HB1.out).size))
     replace hf := cell_kept hb1 hf
     replace hpc := cell_kept hb1 hpc
     replace hqc := cell_kept hb1 hqc
     clear hb1
     go_wp2_with fail
     refine (HRT.out _ (HB2.out)).mono ?_
     rintro e w3 ⟨rfl, hb1⟩
     have HB3 : Hid (Below w.heap.size w w3) := Lib.hid ((HB2.out).trans (hb1.mono (HB2.out).size))
     replace hf := cell_kept hb1 hf
     replace hpc := cell_kept hb1 hpc
     replace hqc := cell_kept hb1 hqc
     clear hb1
     go_wp2_with fail
     refine (HUN.out _ (HB3.out)).mono ?_
     rintro e w4 ⟨rfl, hb1⟩
     have HB4 : Hid (Below w.heap.size w w4) := Lib.hid ((HB3.out).trans (hb1.mono (HB3.out).size))
     replace hf := cell_kept hb1 hf
     replace hpc := cell_kept hb1 hpc
     replace hqc := cell_kept hb1 hqc
     clear hb1
     go_wp2_with fail
     go_ret
     exact did HR.out ⟨_, _, _, _, HT.out.kept (HB4.out)⟩ (grown_below (HB4.out))
    | false =>
     cases gz with
     | false =>
      go_enter Tryz.func107, Tryz.ntmps107
      go_wp2_with fail
      refine (HKI.out _ (Below.refl _ _)).mono ?_
      rintro e w1 ⟨rfl, hb1⟩
      have HB1 : Hid (Below w.heap.size w w1) := Lib.hid (hb1)
      replace hf := cell_kept hb1 hf
      replace hpc := cell_kept hb1 hpc
      replace hqc := cell_kept hb1 hqc
      clear hb1
      go_wp2_with fail
      refine (HEQ.out _ (HB1.out)).mono ?_
      rintro e w2 ⟨rfl, hb1⟩
      have HB2 : Hid (Below w.heap.size w w2) := Lib.hid ((HB1.out).trans (hb1.mono (HB1.out).size))
      replace hf := cell_kept hb1 hf
      replace hpc := cell_kept hb1 hpc
      replace hqc := cell_kept hb1 hqc
      clear hb1
      go_wp2_with fail
      refine (HRT.out _ (HB2.out)).mono ?_
      rintro e w3 ⟨rfl, hb1⟩
      have HB3 : Hid (Below w.heap.size w w3) := Lib.hid ((HB2.out).trans (hb1.mono (HB2.out).size))
      replace hf := cell_kept hb1 hf
      replace hpc := cell_kept hb1 hpc
      replace hqc := cell_kept hb1 hqc
      clear hb1
      go_wp2_with fail
      refine (HUN.out _ (HB3.out)).mono ?_
      rintro e w4 ⟨rfl, hb1⟩
      have HB4 : Hid (Below w.heap.size w w4) := Lib.hid ((HB3.out).trans (hb1.mono (HB3.out).size))
      replace hf := cell_kept hb1 hf
      replace hpc := cell_kept hb1 hpc
      replace hqc := cell_kept hb1 hqc
      clear hb1
      go_wp2_with fail
      refine (HGV.out _ (HB4.out)).mono ?_
      rintro e w5 ⟨rfl, hb1⟩
      have HB5 : Hid (Below w.heap.size w w5) := Lib.hid ((HB4.out).trans (hb1.mono (HB4.out).size))
      replace hf := cell_kept hb1 hf
      replace hpc := cell_kept hb1 hpc
      replace hqc := cell_kept hb1 hqc
      clear hb1
      go_wp2_with fail
      go_ret
      exact did HR.out ⟨_, _, _, _, HT.out.kept (HB5.out)⟩ (grown_below (HB5.out))
     | true =>
      go_enter Tryz.func107, Tryz.ntmps107
      go_wp2_with fail
      refine (HKI.out _ (Below.refl _ _)).mono ?_
      rintro e w1 ⟨rfl, hb1⟩
      have HB1 : Hid (Below w.heap.size w w1) := Lib.hid (hb1)
      replace hf := cell_kept hb1 hf
      replace hpc := cell_kept hb1 hpc
      replace hqc := cell_kept hb1 hqc
      clear hb1
      go_wp2_with fail
      refine (HEQ.out _ (HB1.out)).mono ?_
      rintro e w2 ⟨rfl, hb1⟩
      have HB2 : Hid (Below w.heap.size w w2) := Lib.hid ((HB1.out).trans (hb1.mono (HB1.out).size))
      replace hf := cell_kept hb1 hf
      replace hpc := cell_kept hb1 hpc
      replace hqc := cell_kept hb1 hqc
      clear hb1
      go_wp2_with fail
      refine (HRT.out _ (HB2.out)).mono ?_
      rintro e w3 ⟨rfl, hb1⟩
      have HB3 : Hid (Below w.heap.size w w3) := Lib.hid ((HB2.out).trans (hb1.mono (HB2.out).size))
      replace hf := cell_kept hb1 hf
      replace hpc := cell_kept hb1 hpc
      replace hqc := cell_kept hb1 hqc
      clear hb1
      go_wp2_with fail
      refine (HUN.out _ (HB3.out)).mono ?_
      rintro e w4 ⟨rfl, hb1⟩
      have HB4 : Hid (Below w.heap.size w w4) := Lib.hid ((HB3.out).trans (hb1.mono (HB3.out).size))
      replace hf := cell_kept hb1 hf
      replace hpc := cell_kept hb1 hpc
      replace hqc := cell_kept hb1 hqc
      clear hb1
      go_wp2_with fail
      refine (HGV.out _ (HB4.out)).mono ?_
      rintro e w5 ⟨rfl, hb1⟩
      have HB5 : Hid (Below w.heap.size w w5) := Lib.hid ((HB4.out).trans (hb1.mono (HB4.out).size))
      replace hf := cell_kept hb1 hf
      replace hpc := cell_kept hb1 hpc
      replace hqc := cell_kept hb1 hqc
      clear hb1
      go_wp2_with fail
      refine (HAC.out _ (HB5.out)).mono ?_
      rintro e w9 ⟨rfl, hT9, hg9⟩
      have HT9 := Lib.hid hT9
      have HG9 := Lib.hid (grown_two (grown_below (HB5.out)) hg9)
      clear hT9 hg9
      go_wp2_with fail
      go_ret
      exact did HR.out HT9.out HG9.out

set_option maxRecDepth 100000 in
set_option maxHeartbeats 4000000 in
theorem rename_at {S : Nat → Prop} {w : World} {b : Nat} {n : Nd} {v0 v1 v2 v3 : Value} (h : TreeU S w b n v0 v1 v2 v3) (hw : n.well = true) (hB : n.girth ≤ 100000000) {pv qv : Value} {pl ql : List ByteArray} (hp : PlT w b pv pl) (hq : PlT w b qv ql) (hnp : namesBulk pl ≤ 10000000) (hnq : namesBulk ql ≤ 10000000) {wx : World} {g gf gp gq : Nat} (hb : Below w.heap.size w wx) (hc : wx.cell? ⟨g, 0, none⟩ = some pv) (hc1 : wx.cell? ⟨g, 1, none⟩ = some qv) (hf : wx.cell? ⟨gf, 0, none⟩ = some (.iface 28 (.pointer (some ⟨b, 0, none⟩)))) (hpc : wx.cell? ⟨gp, 0, none⟩ = some pv) (hqc : wx.cell? ⟨gq, 0, none⟩ = some qv) :
  Calls Tryz.prog 106 #[.iface 28 (.pointer (some ⟨b, 0, none⟩)), .func (.func 107) #[] #[.pointer (some ⟨gf, 0, none⟩), .pointer (some ⟨gp, 0, none⟩), .pointer (some ⟨gq, 0, none⟩)], .slice (some ⟨g, 0, none⟩) 2 2] wx fun e w' => ∃ cc : Int, e = .returned (.int .i64 cc) ∧ Did S w b (renameD n pl ql) e w' := by
 refine atPlaces_rename (h.kept hb).x hw (girth_less hB) (m := 2) (V := fun i => if i = 0 then pv else qv) (pl := fun i => if i = 0 then pl else ql) (by omega) (fun i hi => ?_) (fun i hi => ?_) ?_ ?_
 ·obtain rfl | rfl : i = 0 ∨ i = 1 := by omega
  ·exact hc
  ·exact hc1
 ·obtain rfl | rfl : i = 0 ∨ i = 1 := by omega
  ·exact hp.r.grown hb
  ·exact hq.r.grown hb
 ·rintro ⟨i, hi, ht⟩ w' hb'
  refine did_ex ((did (c := 5) (n' := n) ?_ ⟨_, _, _, _, (h.kept hb).kept hb'⟩ (grown_below hb')).from hb)
  unfold renameD
  obtain rfl | rfl : i = 0 ∨ i = 1 := by omega
  ·have ht' : takenD n pl = false := ht
   rw [ht']
   rfl
  ·have ht' : takenD n ql = false := ht
   rw [ht', Bool.and_false]
   rfl
 ·intro ht w' hb'
  have ht0 : takenD n pl = true := ht 0 (by omega)
  have ht1 : takenD n ql = true := ht 1 (by omega)
  refine (rename1_any ((h.kept hb).kept hb') hw hB (cell_kept hb' hf) (cell_kept hb' hpc) (cell_kept hb' hqc) ((hp.kept hb).kept hb') ((hq.kept hb).kept hb') hnp hnq ht0 ht1).mono fun e w2 h2 => ⟨_, h2.1, did_ex ((Did.from h2 hb').from hb)⟩

set_option maxRecDepth 100000 in
set_option maxHeartbeats 4000000 in
theorem Rename_any {S : Nat → Prop} {w : World} {b : Nat} {n : Nd} {v0 v1 v2 v3 : Value} (h : TreeU S w b n v0 v1 v2 v3) (hw : n.well = true) (hB : n.girth ≤ 100000000) {pv qv : Value} {pl ql : List ByteArray} (hp : PlT w b pv pl) (hq : PlT w b qv ql) (hnp : namesBulk pl ≤ 10000000) (hnq : namesBulk ql ≤ 10000000) :
  Calls Tryz.prog 80 #[.iface 28 (.pointer (some ⟨b, 0, none⟩)), pv, qv] w fun e w' => Did S w b (renameD n pl ql) e w' := by
 have HT := Lib.hid h
 have HP := Lib.hid hp
 have HQ := Lib.hid hq
 obtain ⟨pp, pc, rfl, _, _, _⟩ := hp.r
 obtain ⟨pp2, pc2, rfl, _, _, _⟩ := hq.r
 clear h hp hq
 go_enter Tryz.func80, Tryz.ntmps80
 go_wp2_with fail
 refine Calls.mono (rename_at HT.out hw hB HP.out HQ.out hnp hnq ?_ ?_ ?_ ?_ ?_ ?_) ?_
 all_goals try (first | exact Below.refl _ _ | exact below_alloc (Below.refl _ _) | exact below_alloc (below_alloc (Below.refl _ _)) | exact below_alloc (below_alloc (below_alloc (Below.refl _ _))) | exact below_alloc (below_alloc (below_alloc (below_alloc (Below.refl _ _)))) | exact below_alloc (below_alloc (below_alloc (below_alloc (below_alloc (Below.refl _ _))))) | (refine cell_firstE ?_ rfl; first | rfl | (simp; done)) | (refine cell_alloc (cell_firstE ?_ rfl); first | rfl | (simp; done)) | (refine cell_alloc (cell_alloc (cell_firstE ?_ rfl)); first | rfl | (simp; done)) | (refine cell_alloc (cell_alloc (cell_alloc (cell_firstE ?_ rfl))); first | rfl | (simp; done)) | (refine cell_alloc (cell_alloc (cell_alloc (cell_alloc (cell_firstE ?_ rfl)))); first | rfl | (simp; done)))
 rintro e w2 ⟨c, rfl, hd⟩
 have HD := Lib.hid hd
 clear hd
 go_wp2_with fail
 go_ret
 exact HD.out

set_option maxRecDepth 100000 in
set_option maxHeartbeats 4000000 in
theorem copying1_any {S : Nat → Prop} {w : World} {b : Nat} {n : Nd} {v0 v1 v2 v3 : Value} (h : TreeU S w b n v0 v1 v2 v3) (hw : n.well = true) (hB : n.girth ≤ 100000000) {gf gp gq gd : Nat} {pv qv : Value} {pl ql : List ByteArray} {dp : Bool} (hf : w.cell? ⟨gf, 0, none⟩ = some (.iface 28 (.pointer (some ⟨b, 0, none⟩)))) (hpc : w.cell? ⟨gp, 0, none⟩ = some pv) (hqc : w.cell? ⟨gq, 0, none⟩ = some qv) (hdc : w.cell? ⟨gd, 0, none⟩ = some (.bool dp)) (hp : PlT w b pv pl) (hq : PlT w b qv ql) (_hnp : namesBulk pl ≤ 10000000) (hnq : namesBulk ql ≤ 10000000) (htp : takenD n pl = true) (htq : takenD n ql = true) :
  Calls Tryz.prog 113 #[.pointer (some ⟨gf, 0, none⟩), .pointer (some ⟨gp, 0, none⟩), .pointer (some ⟨gq, 0, none⟩), .pointer (some ⟨gd, 0, none⟩)] w fun e w' => Did S w b (copyingD n pl ql dp) e w' := by
 have HT := Lib.hid h
 have HKI : Hid (∀ wx, Below w.heap.size w wx → Calls Tryz.prog 159 #[.pointer (some ⟨b, 0, none⟩), pv] wx fun e w' => e = .returned (.int .u8 ((n.at_ pl).getD absent).kind.toNat) ∧ Below wx.heap.size wx w') := Lib.hid fun wx hb => fkind_any (h.kept hb).x hw (girth_less hB) (hp.r.grown hb)
 have HAC : Hid (∀ wx, Below w.heap.size w wx → Calls Tryz.prog 156 #[.pointer (some ⟨b, 0, none⟩), pv, qv] wx fun e w' => e = .returned (.tuple #[]) ∧ (∃ x0 x1 x2 x3, TreeU S w' b (copyD n pl ql) x0 x1 x2 x3) ∧ wx.grownBy w' (some b)) := Lib.hid fun wx hb => ucopy_any (h.kept hb) hw (girth_less hB) (hp.r.grown hb) (hq.r.grown hb) (small_less hnq)
 have HEQ : Hid (∀ wx, Below w.heap.size w wx → Calls Tryz.prog 108 #[pv, qv] wx fun e w' => e = .returned (.bool (decide (pl = ql))) ∧ Below wx.heap.size wx w') := Lib.hid fun wx hb => equal_all (hp.r.grown hb) (hq.r.grown hb)
 have HRT : Hid (∀ wx, Below w.heap.size w wx → Calls Tryz.prog 109 #[pv] wx fun e w' => e = .returned (.bool (decide (pl.length = 0))) ∧ Below wx.heap.size wx w') := Lib.hid fun wx hb => (isRoot_any (hp.r.grown hb)).mono fun e w' ⟨h1, h2⟩ => ⟨h1, h2 ▸ Below.refl _ _⟩
 have HUN : Hid (∀ wx, Below w.heap.size w wx → Calls Tryz.prog 110 #[pv, qv] wx fun e w' => e = .returned (.bool (underL pl ql)) ∧ Below wx.heap.size wx w') := Lib.hid fun wx hb => under_at (Below.refl _ _) (hp.r.grown hb) (hq.r.grown hb)
 have HGV : Hid (∀ wx, Below w.heap.size w wx → Calls Tryz.prog 114 #[.iface 28 (.pointer (some ⟨b, 0, none⟩)), qv, .int .u8 ((n.at_ pl).getD absent).kind.toNat] wx fun e w' => e = .returned (.int .i64 (overD n ql (decide (((n.at_ pl).getD absent).kind = 2)))) ∧ Below wx.heap.size wx w') := Lib.hid fun wx hb => isCopiedOver_any (h.kept hb) hw hB (hq.r.grown hb)
 have HR : Hid (copyingD n pl ql dp = bif decide (((n.at_ pl).getD absent).kind = 0) then (5, n) else bif decide (pl = ql) then (6, n) else bif decide (((n.at_ pl).getD absent).kind = 2) && !dp then (55, n) else bif underL pl ql then (58, n) else bif decide (overD n ql (decide (((n.at_ pl).getD absent).kind = 2)) = 0) then (0, copyD n pl ql) else (overD n ql (decide (((n.at_ pl).getD absent).kind = 2)), n)) := Lib.hid (by unfold copyingD; rw [htp, htq]; rfl)
 obtain ⟨pp, pc, rfl, _, _, _⟩ := hp.r
 obtain ⟨pp2, pc2, rfl, _, _, _⟩ := hq.r
 generalize (n.at_ pl).getD absent = R at *
 generalize overD n ql (decide (R.kind = 2)) = gv at *
 have ec : (gv != 0) = !decide (gv = 0) := by rw [Bool.eq_iff_iff]; simp
 generalize decide (gv = 0) = gz at *
 generalize decide (pl = ql) = eq at *
 generalize underL pl ql = un at *
 generalize decide (pl.length = 0) = rt at *
 rw [kind_bool, kind_bool] at HR
 have e0 := beq_int R.kind 0
 rw [show ((0 : UInt8).toNat : Int) = 0 from rfl] at e0
 obtain ⟨k0, hk0⟩ : ∃ kb, (R.kind == 0) = kb := ⟨_, rfl⟩
 rw [hk0] at e0 HR
 have e0n := ne_of e0
 clear hk0
 have e2 := beq_int R.kind 2
 rw [show ((2 : UInt8).toNat : Int) = 2 from rfl] at e2
 obtain ⟨k2, hk2⟩ : ∃ kb, (R.kind == 2) = kb := ⟨_, rfl⟩
 rw [hk2] at e2 HR
 have e2n := ne_of e2
 clear hk2
 generalize pl.length = pln at *
 generalize ql.length = qln at *
 clear h hp hq hw hB _hnp hnq htp htq
 cases k0 with
 | true =>
  go_enter Tryz.func113, Tryz.ntmps113
  go_wp2_with fail
  refine (HKI.out _ (Below.refl _ _)).mono ?_
  rintro e w1 ⟨rfl, hb1⟩
  have HB1 : Hid (Below w.heap.size w w1) := Lib.hid (hb1)
  replace hf := cell_kept hb1 hf
  replace hpc := cell_kept hb1 hpc
  replace hqc := cell_kept hb1 hqc
  replace hdc := cell_kept hb1 hdc
  clear hb1
  go_wp2_with fail
  go_ret
  exact did HR.out ⟨_, _, _, _, HT.out.kept (HB1.out)⟩ (grown_below (HB1.out))
 | false =>
  cases eq with
  | true =>
   go_enter Tryz.func113, Tryz.ntmps113
   go_wp2_with fail
   refine (HKI.out _ (Below.refl _ _)).mono ?_
   rintro e w1 ⟨rfl, hb1⟩
   have HB1 : Hid (Below w.heap.size w w1) := Lib.hid (hb1)
   replace hf := cell_kept hb1 hf
   replace hpc := cell_kept hb1 hpc
   replace hqc := cell_kept hb1 hqc
   replace hdc := cell_kept hb1 hdc
   clear hb1
   go_wp2_with fail
   refine (HEQ.out _ (HB1.out)).mono ?_
   rintro e w2 ⟨rfl, hb1⟩
   have HB2 : Hid (Below w.heap.size w w2) := Lib.hid ((HB1.out).trans (hb1.mono (HB1.out).size))
   replace hf := cell_kept hb1 hf
   replace hpc := cell_kept hb1 hpc
   replace hqc := cell_kept hb1 hqc
   replace hdc := cell_kept hb1 hdc
   clear hb1
   go_wp2_with fail
   go_ret
   exact did HR.out ⟨_, _, _, _, HT.out.kept (HB2.out)⟩ (grown_below (HB2.out))
  | false =>
   cases k2 with
   | true =>
    cases dp with
    | false =>
     go_enter Tryz.func113, Tryz.ntmps113
     go_wp2_with fail
     refine (HKI.out _ (Below.refl _ _)).mono ?_
     rintro e w1 ⟨rfl, hb1⟩
     have HB1 : Hid (Below w.heap.size w w1) := Lib.hid (hb1)
     replace hf := cell_kept hb1 hf
     replace hpc := cell_kept hb1 hpc
     replace hqc := cell_kept hb1 hqc
     replace hdc := cell_kept hb1 hdc
     clear hb1
     go_wp2_with fail
     refine (HEQ.out _ (HB1.out)).mono ?_
     rintro e w2 ⟨rfl, hb1⟩
     have HB2 : Hid (Below w.heap.size w w2) := Lib.hid ((HB1.out).trans (hb1.mono (HB1.out).size))
     replace hf := cell_kept hb1 hf
     replace hpc := cell_kept hb1 hpc
     replace hqc := cell_kept hb1 hqc
     replace hdc := cell_kept hb1 hdc
     clear hb1
     go_wp2_with fail
     go_ret
     exact did HR.out ⟨_, _, _, _, HT.out.kept (HB2.out)⟩ (grown_below (HB2.out))
    | true =>
     cases un with
     | true =>
      go_enter Tryz.func113, Tryz.ntmps113
      go_wp2_with fail
      refine (HKI.out _ (Below.refl _ _)).mono ?_
      rintro e w1 ⟨rfl, hb1⟩
      have HB1 : Hid (Below w.heap.size w w1) := Lib.hid (hb1)
      replace hf := cell_kept hb1 hf
      replace hpc := cell_kept hb1 hpc
      replace hqc := cell_kept hb1 hqc
      replace hdc := cell_kept hb1 hdc
      clear hb1
      go_wp2_with fail
      refine (HEQ.out _ (HB1.out)).mono ?_
      rintro e w2 ⟨rfl, hb1⟩
      have HB2 : Hid (Below w.heap.size w w2) := Lib.hid ((HB1.out).trans (hb1.mono (HB1.out).size))
      replace hf := cell_kept hb1 hf
      replace hpc := cell_kept hb1 hpc
      replace hqc := cell_kept hb1 hqc
      replace hdc := cell_kept hb1 hdc
      clear hb1
      go_wp2_with fail
      refine (HUN.out _ (HB2.out)).mono ?_
      rintro e w3 ⟨rfl, hb1⟩
      have HB3 : Hid (Below w.heap.size w w3) := Lib.hid ((HB2.out).trans (hb1.mono (HB2.out).size))
      replace hf := cell_kept hb1 hf
      replace hpc := cell_kept hb1 hpc
      replace hqc := cell_kept hb1 hqc
      replace hdc := cell_kept hb1 hdc
      clear hb1
      go_wp2_with fail
      go_ret
      exact did HR.out ⟨_, _, _, _, HT.out.kept (HB3.out)⟩ (grown_below (HB3.out))
     | false =>
      cases gz with
      | false =>
       go_enter Tryz.func113, Tryz.ntmps113
       go_wp2_with fail
       refine (HKI.out _ (Below.refl _ _)).mono ?_
       rintro e w1 ⟨rfl, hb1⟩
       have HB1 : Hid (Below w.heap.size w w1) := Lib.hid (hb1)
       replace hf := cell_kept hb1 hf
       replace hpc := cell_kept hb1 hpc
       replace hqc := cell_kept hb1 hqc
       replace hdc := cell_kept hb1 hdc
       clear hb1
       go_wp2_with fail
       refine (HEQ.out _ (HB1.out)).mono ?_
       rintro e w2 ⟨rfl, hb1⟩
       have HB2 : Hid (Below w.heap.size w w2) := Lib.hid ((HB1.out).trans (hb1.mono (HB1.out).size))
       replace hf := cell_kept hb1 hf
       replace hpc := cell_kept hb1 hpc
       replace hqc := cell_kept hb1 hqc
       replace hdc := cell_kept hb1 hdc
       clear hb1
       go_wp2_with fail
       refine (HUN.out _ (HB2.out)).mono ?_
       rintro e w3 ⟨rfl, hb1⟩
       have HB3 : Hid (Below w.heap.size w w3) := Lib.hid ((HB2.out).trans (hb1.mono (HB2.out).size))
       replace hf := cell_kept hb1 hf
       replace hpc := cell_kept hb1 hpc
       replace hqc := cell_kept hb1 hqc
       replace hdc := cell_kept hb1 hdc
       clear hb1
       go_wp2_with fail
       refine (HGV.out _ (HB3.out)).mono ?_
       rintro e w4 ⟨rfl, hb1⟩
       have HB4 : Hid (Below w.heap.size w w4) := Lib.hid ((HB3.out).trans (hb1.mono (HB3.out).size))
       replace hf := cell_kept hb1 hf
       replace hpc := cell_kept hb1 hpc
       replace hqc := cell_kept hb1 hqc
       replace hdc := cell_kept hb1 hdc
       clear hb1
       go_wp2_with fail
       go_ret
       exact did HR.out ⟨_, _, _, _, HT.out.kept (HB4.out)⟩ (grown_below (HB4.out))
      | true =>
       go_enter Tryz.func113, Tryz.ntmps113
       go_wp2_with fail
       refine (HKI.out _ (Below.refl _ _)).mono ?_
       rintro e w1 ⟨rfl, hb1⟩
       have HB1 : Hid (Below w.heap.size w w1) := Lib.hid (hb1)
       replace hf := cell_kept hb1 hf
       replace hpc := cell_kept hb1 hpc
       replace hqc := cell_kept hb1 hqc
       replace hdc := cell_kept hb1 hdc
       clear hb1
       go_wp2_with fail
       refine (HEQ.out _ (HB1.out)).mono ?_
       rintro e w2 ⟨rfl, hb1⟩
       have HB2 : Hid (Below w.heap.size w w2) := Lib.hid ((HB1.out).trans (hb1.mono (HB1.out).size))
       replace hf := cell_kept hb1 hf
       replace hpc := cell_kept hb1 hpc
       replace hqc := cell_kept hb1 hqc
       replace hdc := cell_kept hb1 hdc
       clear hb1
       go_wp2_with fail
       refine (HUN.out _ (HB2.out)).mono ?_
       rintro e w3 ⟨rfl, hb1⟩
       have HB3 : Hid (Below w.heap.size w w3) := Lib.hid ((HB2.out).trans (hb1.mono (HB2.out).size))
       replace hf := cell_kept hb1 hf
       replace hpc := cell_kept hb1 hpc
       replace hqc := cell_kept hb1 hqc
       replace hdc := cell_kept hb1 hdc
       clear hb1
       go_wp2_with fail
       refine (HGV.out _ (HB3.out)).mono ?_
       rintro e w4 ⟨rfl, hb1⟩
       have HB4 : Hid (Below w.heap.size w w4) := Lib.hid ((HB3.out).trans (hb1.mono (HB3.out).size))
       replace hf := cell_kept hb1 hf
       replace hpc := cell_kept hb1 hpc
       replace hqc := cell_kept hb1 hqc
       replace hdc := cell_kept hb1 hdc
       clear hb1
       go_wp2_with fail
       refine (HAC.out _ (HB4.out)).mono ?_
       rintro e w9 ⟨rfl, hT9, hg9⟩
       have HT9 := Lib.hid hT9
       have HG9 := Lib.hid (grown_two (grown_below (HB4.out)) hg9)
       clear hT9 hg9
       go_wp2_with fail
       go_ret
       exact did HR.out HT9.out HG9.out
   | false =>
    cases un with
    | true =>
     go_enter Tryz.func113, Tryz.ntmps113
     go_wp2_with fail
     refine (HKI.out _ (Below.refl _ _)).mono ?_
     rintro e w1 ⟨rfl, hb1⟩
     have HB1 : Hid (Below w.heap.size w w1) := Lib.hid (hb1)
     replace hf := cell_kept hb1 hf
     replace hpc := cell_kept hb1 hpc
     replace hqc := cell_kept hb1 hqc
     replace hdc := cell_kept hb1 hdc
     clear hb1
     go_wp2_with fail
     refine (HEQ.out _ (HB1.out)).mono ?_
     rintro e w2 ⟨rfl, hb1⟩
     have HB2 : Hid (Below w.heap.size w w2) := Lib.hid ((HB1.out).trans (hb1.mono (HB1.out).size))
     replace hf := cell_kept hb1 hf
     replace hpc := cell_kept hb1 hpc
     replace hqc := cell_kept hb1 hqc
     replace hdc := cell_kept hb1 hdc
     clear hb1
     go_wp2_with fail
     refine (HUN.out _ (HB2.out)).mono ?_
     rintro e w3 ⟨rfl, hb1⟩
     have HB3 : Hid (Below w.heap.size w w3) := Lib.hid ((HB2.out).trans (hb1.mono (HB2.out).size))
     replace hf := cell_kept hb1 hf
     replace hpc := cell_kept hb1 hpc
     replace hqc := cell_kept hb1 hqc
     replace hdc := cell_kept hb1 hdc
     clear hb1
     go_wp2_with fail
     go_ret
     exact did HR.out ⟨_, _, _, _, HT.out.kept (HB3.out)⟩ (grown_below (HB3.out))
    | false =>
     cases gz with
     | false =>
      go_enter Tryz.func113, Tryz.ntmps113
      go_wp2_with fail
      refine (HKI.out _ (Below.refl _ _)).mono ?_
      rintro e w1 ⟨rfl, hb1⟩
      have HB1 : Hid (Below w.heap.size w w1) := Lib.hid (hb1)
      replace hf := cell_kept hb1 hf
      replace hpc := cell_kept hb1 hpc
      replace hqc := cell_kept hb1 hqc
      replace hdc := cell_kept hb1 hdc
      clear hb1
      go_wp2_with fail
      refine (HEQ.out _ (HB1.out)).mono ?_
      rintro e w2 ⟨rfl, hb1⟩
      have HB2 : Hid (Below w.heap.size w w2) := Lib.hid ((HB1.out).trans (hb1.mono (HB1.out).size))
      replace hf := cell_kept hb1 hf
      replace hpc := cell_kept hb1 hpc
      replace hqc := cell_kept hb1 hqc
      replace hdc := cell_kept hb1 hdc
      clear hb1
      go_wp2_with fail
      refine (HUN.out _ (HB2.out)).mono ?_
      rintro e w3 ⟨rfl, hb1⟩
      have HB3 : Hid (Below w.heap.size w w3) := Lib.hid ((HB2.out).trans (hb1.mono (HB2.out).size))
      replace hf := cell_kept hb1 hf
      replace hpc := cell_kept hb1 hpc
      replace hqc := cell_kept hb1 hqc
      replace hdc := cell_kept hb1 hdc
      clear hb1
      go_wp2_with fail
      refine (HGV.out _ (HB3.out)).mono ?_
      rintro e w4 ⟨rfl, hb1⟩
      have HB4 : Hid (Below w.heap.size w w4) := Lib.hid ((HB3.out).trans (hb1.mono (HB3.out).size))
      replace hf := cell_kept hb1 hf
      replace hpc := cell_kept hb1 hpc
      replace hqc := cell_kept hb1 hqc
      replace hdc := cell_kept hb1 hdc
      clear hb1
      go_wp2_with fail
      go_ret
      exact did HR.out ⟨_, _, _, _, HT.out.kept (HB4.out)⟩ (grown_below (HB4.out))
     | true =>
      go_enter Tryz.func113, Tryz.ntmps113
      go_wp2_with fail
      refine (HKI.out _ (Below.refl _ _)).mono ?_
      rintro e w1 ⟨rfl, hb1⟩
      have HB1 : Hid (Below w.heap.size w w1) := Lib.hid (hb1)
      replace hf := cell_kept hb1 hf
      replace hpc := cell_kept hb1 hpc
      replace hqc := cell_kept hb1 hqc
      replace hdc := cell_kept hb1 hdc
      clear hb1
      go_wp2_with fail
      refine (HEQ.out _ (HB1.out)).mono ?_
      rintro e w2 ⟨rfl, hb1⟩
      have HB2 : Hid (Below w.heap.size w w2) := Lib.hid ((HB1.out).trans (hb1.mono (HB1.out).size))
      replace hf := cell_kept hb1 hf
      replace hpc := cell_kept hb1 hpc
      replace hqc := cell_kept hb1 hqc
      replace hdc := cell_kept hb1 hdc
      clear hb1
      go_wp2_with fail
      refine (HUN.out _ (HB2.out)).mono ?_
      rintro e w3 ⟨rfl, hb1⟩
      have HB3 : Hid (Below w.heap.size w w3) := Lib.hid ((HB2.out).trans (hb1.mono (HB2.out).size))
      replace hf := cell_kept hb1 hf
      replace hpc := cell_kept hb1 hpc
      replace hqc := cell_kept hb1 hqc
      replace hdc := cell_kept hb1 hdc
      clear hb1
      go_wp2_with fail
      refine (HGV.out _ (HB3.out)).mono ?_
      rintro e w4 ⟨rfl, hb1⟩
      have HB4 : Hid (Below w.heap.size w w4) := Lib.hid ((HB3.out).trans (hb1.mono (HB3.out).size))
      replace hf := cell_kept hb1 hf
      replace hpc := cell_kept hb1 hpc
      replace hqc := cell_kept hb1 hqc
      replace hdc := cell_kept hb1 hdc
      clear hb1
      go_wp2_with fail
      refine (HAC.out _ (HB4.out)).mono ?_
      rintro e w9 ⟨rfl, hT9, hg9⟩
      have HT9 := Lib.hid hT9
      have HG9 := Lib.hid (grown_two (grown_below (HB4.out)) hg9)
      clear hT9 hg9
      go_wp2_with fail
      go_ret
      exact did HR.out HT9.out HG9.out

set_option maxRecDepth 100000 in
set_option maxHeartbeats 4000000 in
theorem copying_at {S : Nat → Prop} {w : World} {b : Nat} {n : Nd} {v0 v1 v2 v3 : Value} (h : TreeU S w b n v0 v1 v2 v3) (hw : n.well = true) (hB : n.girth ≤ 100000000) {pv qv : Value} {pl ql : List ByteArray} {dp : Bool} (hp : PlT w b pv pl) (hq : PlT w b qv ql) (hnp : namesBulk pl ≤ 10000000) (hnq : namesBulk ql ≤ 10000000) {wx : World} {g gf gp gq gd : Nat} (hb : Below w.heap.size w wx) (hc : wx.cell? ⟨g, 0, none⟩ = some pv) (hc1 : wx.cell? ⟨g, 1, none⟩ = some qv) (hf : wx.cell? ⟨gf, 0, none⟩ = some (.iface 28 (.pointer (some ⟨b, 0, none⟩)))) (hpc : wx.cell? ⟨gp, 0, none⟩ = some pv) (hqc : wx.cell? ⟨gq, 0, none⟩ = some qv) (hdc : wx.cell? ⟨gd, 0, none⟩ = some (.bool dp)) :
  Calls Tryz.prog 106 #[.iface 28 (.pointer (some ⟨b, 0, none⟩)), .func (.func 113) #[] #[.pointer (some ⟨gf, 0, none⟩), .pointer (some ⟨gp, 0, none⟩), .pointer (some ⟨gq, 0, none⟩), .pointer (some ⟨gd, 0, none⟩)], .slice (some ⟨g, 0, none⟩) 2 2] wx fun e w' => ∃ cc : Int, e = .returned (.int .i64 cc) ∧ Did S w b (copyingD n pl ql dp) e w' := by
 refine atPlaces_copy (h.kept hb).x hw (girth_less hB) (m := 2) (V := fun i => if i = 0 then pv else qv) (pl := fun i => if i = 0 then pl else ql) (by omega) (fun i hi => ?_) (fun i hi => ?_) ?_ ?_
 ·obtain rfl | rfl : i = 0 ∨ i = 1 := by omega
  ·exact hc
  ·exact hc1
 ·obtain rfl | rfl : i = 0 ∨ i = 1 := by omega
  ·exact hp.r.grown hb
  ·exact hq.r.grown hb
 ·rintro ⟨i, hi, ht⟩ w' hb'
  refine did_ex ((did (c := 5) (n' := n) ?_ ⟨_, _, _, _, (h.kept hb).kept hb'⟩ (grown_below hb')).from hb)
  unfold copyingD
  obtain rfl | rfl : i = 0 ∨ i = 1 := by omega
  ·have ht' : takenD n pl = false := ht
   rw [ht']
   rfl
  ·have ht' : takenD n ql = false := ht
   rw [ht', Bool.and_false]
   rfl
 ·intro ht w' hb'
  have ht0 : takenD n pl = true := ht 0 (by omega)
  have ht1 : takenD n ql = true := ht 1 (by omega)
  refine (copying1_any ((h.kept hb).kept hb') hw hB (cell_kept hb' hf) (cell_kept hb' hpc) (cell_kept hb' hqc) (cell_kept hb' hdc) ((hp.kept hb).kept hb') ((hq.kept hb).kept hb') hnp hnq ht0 ht1).mono fun e w2 h2 => ⟨_, h2.1, did_ex ((Did.from h2 hb').from hb)⟩

set_option maxRecDepth 100000 in
set_option maxHeartbeats 4000000 in
theorem Copy_any {S : Nat → Prop} {w : World} {b : Nat} {n : Nd} {v0 v1 v2 v3 : Value} (h : TreeU S w b n v0 v1 v2 v3) (hw : n.well = true) (hB : n.girth ≤ 100000000) {pv qv : Value} {pl ql : List ByteArray} {dp : Bool} (hp : PlT w b pv pl) (hq : PlT w b qv ql) (hnp : namesBulk pl ≤ 10000000) (hnq : namesBulk ql ≤ 10000000) :
  Calls Tryz.prog 83 #[.iface 28 (.pointer (some ⟨b, 0, none⟩)), pv, qv, .bool dp] w fun e w' => Did S w b (copyingD n pl ql dp) e w' := by
 have HT := Lib.hid h
 have HP := Lib.hid hp
 have HQ := Lib.hid hq
 obtain ⟨pp, pc, rfl, _, _, _⟩ := hp.r
 obtain ⟨pp2, pc2, rfl, _, _, _⟩ := hq.r
 clear h hp hq
 go_enter Tryz.func83, Tryz.ntmps83
 go_wp2_with fail
 refine Calls.mono (copying_at (dp := dp) HT.out hw hB HP.out HQ.out hnp hnq ?_ ?_ ?_ ?_ ?_ ?_ ?_) ?_
 all_goals try (first | exact Below.refl _ _ | exact below_alloc (Below.refl _ _) | exact below_alloc (below_alloc (Below.refl _ _)) | exact below_alloc (below_alloc (below_alloc (Below.refl _ _))) | exact below_alloc (below_alloc (below_alloc (below_alloc (Below.refl _ _)))) | exact below_alloc (below_alloc (below_alloc (below_alloc (below_alloc (Below.refl _ _))))) | (refine cell_firstE ?_ rfl; first | rfl | (simp; done)) | (refine cell_alloc (cell_firstE ?_ rfl); first | rfl | (simp; done)) | (refine cell_alloc (cell_alloc (cell_firstE ?_ rfl)); first | rfl | (simp; done)) | (refine cell_alloc (cell_alloc (cell_alloc (cell_firstE ?_ rfl))); first | rfl | (simp; done)) | (refine cell_alloc (cell_alloc (cell_alloc (cell_alloc (cell_firstE ?_ rfl)))); first | rfl | (simp; done)))
 rintro e w2 ⟨c, rfl, hd⟩
 have HD := Lib.hid hd
 clear hd
 go_wp2_with fail
 go_ret
 exact HD.out

end Go.Proofs.YtfilbknnpjbmcaaGreatDoor
