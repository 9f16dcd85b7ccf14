/- Walks: what is done to a tree: open, leads, Put, Del, Move, Copy of the program. -/
import Derived.Test.YtfilbknnpjbmcaaGreatDoorKb26
namespace Go.Proofs.YtfilbknnpjbmcaaGreatDoor
open Go.RowKit Px Nx
attribute [local go_sem] run_field_kind run_field_text

theorem kind_bool (R : Nd) (k : UInt8) : decide (R.kind = k) = (R.kind == k) := by rw [Bool.eq_iff_iff]; simp

set_option maxRecDepth 100000 in
set_option maxHeartbeats 2000000 in
theorem open_any {w : World} {b : Nat} {n : Nd} {v0 v1 v2 v3 : Value} (h : TreeX w b n v0 v1 v2 v3) (hw : n.well = true) (hB : n.girth ≤ 200000000) {pv : Value} {place : List ByteArray} (hp : PlR w pv place) :
  Calls Tryz.prog 168 #[.pointer (some ⟨b, 0, none⟩), pv] w fun e w' => e = .returned (.bool (openD n place)) ∧ Below w.heap.size w w' := by
 obtain ⟨p, c, rfl, hst, hlc, hcm⟩ := hp
 rcases List.eq_nil_or_concat place with rfl | ⟨l, x, rfl⟩
 ·rw [openD_nil]
  clear h hst
  go_enter Tryz.func168, Tryz.ntmps168
  go_wp2_with fail
  go_ret
  exact ⟨rfl, Below.refl _ _⟩
 ·rw [List.concat_eq_append] at *
  rw [openD_snoc]
  obtain ⟨bb, o, rfl, n0⟩ := name_cell hst (Below.refl _ _) (show l.length < (l ++ [x]).length by simp)
  have hx : (l ++ [x]).getD l.length ByteArray.empty = x := by simp
  rw [hx] at n0
  have HN := Lib.hid fun wx => name_any x wx
  have hlen : (l ++ [x]).length = l.length + 1 := by simp
  have HAT : Hid (∀ wx, Below w.heap.size w wx → Calls Tryz.prog 166 #[.pointer (some ⟨b, 0, none⟩), .slice (some ⟨bb, o, none⟩) l.length c] wx fun e w' => (∃ vs, e = .returned (.agg vs) ∧ NodeX w' (fun k => k ≠ b) vs.toList ((n.at_ l).getD absent)) ∧ Below wx.heap.size wx w') := Lib.hid fun wx hx =>
   fat_any (h.kept hx) hw hB (PlR.grown hx ⟨_, _, rfl, by have := strs_take hst l.length; simpa using this, by omega, hcm⟩)
  generalize hnb : nameL x.data.toList = nb at *
  generalize (n.at_ l).getD absent = R at *
  rw [hlen] at hlc ⊢
  clear h hst hx hlen hnb
  have hkw : IntKind.i64.wrap ((l.length : Nat) : Int) = l.length := Go.IntWalk.i64_in _ ⟨by omega, by unfold maxLen at hcm; omega⟩
  have hs : ((l.length + 1 : Nat) : Int) - 1 = l.length := by omega
  generalize hn1 : l.length + 1 = n1 at *
  generalize l.length = k at *
  have hkn : k < n1 := by omega
  have hkc : k ≤ c := by omega
  clear hn1
  have e2 := beq_int R.kind 2
  rw [show ((2 : UInt8).toNat : Int) = 2 from rfl] at e2
  rw [kind_bool]
  obtain ⟨kb, hkb⟩ : ∃ kb, (R.kind == 2) = kb := ⟨_, rfl⟩
  rw [hkb] at e2 ⊢
  clear hkb
  cases nb <;> cases kb
  all_goals
   go_enter Tryz.func168, Tryz.ntmps168
   go_wp2_with fail
   refine (HN.out _).mono ?_
   rintro e w1 ⟨rfl, hb1⟩
   have HB1 := Lib.hid hb1
   clear hb1
   go_wp2_with fail
  all_goals try (go_ret; exact ⟨rfl, HB1.out⟩)
  all_goals
   refine (HAT.out _ HB1.out).mono ?_
   rintro e w2 ⟨⟨vs, rfl, hvs⟩, hb2⟩
   have HB2 : Hid (Below w.heap.size w w2) := Lib.hid (HB1.out.trans (hb2.mono HB1.out.size))
   obtain ⟨p5, q5, c5, d5, rfl⟩ := nodeX_cells hvs
   clear hvs hb2
   go_wp2_with fail
   go_ret
   exact ⟨rfl, HB2.out⟩

set_option maxRecDepth 100000 in
set_option maxHeartbeats 4000000 in
theorem leads_any {w : World} {b : Nat} {n : Nd} {v0 v1 v2 v3 : Value} (h : TreeX w b n v0 v1 v2 v3) (hw : n.well = true) (hB : n.girth ≤ 200000000) {pv qv : Value} {pl ql : List ByteArray} (hp : PlR w pv pl) (hq : PlR w qv ql) :
  Calls Tryz.prog 163 #[.pointer (some ⟨b, 0, none⟩), pv, qv] w fun e w' => e = .returned (.bool (leadsD n pl ql)) ∧ Below w.heap.size w w' := by
 have HU1 : Hid (∀ wx, Below w.heap.size w wx → Calls Tryz.prog 110 #[pv, qv] wx fun e w' => e = .returned (.bool (underL pl ql)) ∧ Below wx.heap.size wx w') := Lib.hid fun wx hx => under_at (Below.refl _ _) (hp.grown hx) (hq.grown hx)
 have HU2 : Hid (∀ wx, Below w.heap.size w wx → Calls Tryz.prog 110 #[qv, pv] wx fun e w' => e = .returned (.bool (underL ql pl)) ∧ Below wx.heap.size wx w') := Lib.hid fun wx hx => under_at (Below.refl _ _) (hq.grown hx) (hp.grown hx)
 have HAT : Hid (∀ wx, Below w.heap.size w wx → Calls Tryz.prog 166 #[.pointer (some ⟨b, 0, none⟩), pv] wx fun e w' => (∃ vs, e = .returned (.agg vs) ∧ NodeX w' (fun k => k ≠ b) vs.toList ((n.at_ pl).getD absent)) ∧ Below wx.heap.size wx w') := Lib.hid fun wx hx => fat_any (h.kept hx) hw hB (hp.grown hx)
 have HOP : Hid (∀ wx, Below w.heap.size w wx → Calls Tryz.prog 168 #[.pointer (some ⟨b, 0, none⟩), qv] wx fun e w' => e = .returned (.bool (openD n ql)) ∧ Below wx.heap.size wx w') := Lib.hid fun wx hx => open_any (h.kept hx) hw hB (hq.grown hx)
 obtain ⟨pp, cp, rfl, _, _, _⟩ := hp
 obtain ⟨pq, cq, rfl, _, _, _⟩ := hq
 unfold leadsD
 generalize (n.at_ pl).getD absent = R at *
 have e0 := beq_int R.kind 0
 rw [show ((0 : UInt8).toNat : Int) = 0 from rfl] at e0
 rw [kind_bool]
 obtain ⟨kb, hkb⟩ : ∃ kb, (R.kind == 0) = kb := ⟨_, rfl⟩
 rw [hkb] at e0 ⊢
 have e0n := ne_of e0
 clear hkb h
 generalize underL pl ql = u1 at *
 generalize underL ql pl = u2 at *
 generalize openD n ql = ob at *
 generalize pl.length = k at *
 generalize ql.length = m at *
 cases u1
 case' false => cases u2
 case' false.false => cases kb
 all_goals
  go_enter Tryz.func163, Tryz.ntmps163
  go_wp2_with fail
  refine (HU1.out _ (Below.refl _ _)).mono ?_
  rintro e w1 ⟨rfl, hb1⟩
  have HB1 := Lib.hid hb1
  clear hb1
  go_wp2_with fail
 all_goals try (go_ret; exact ⟨by simp, HB1.out⟩)
 all_goals
  refine (HU2.out _ HB1.out).mono ?_
  rintro e w2 ⟨rfl, hb2⟩
  have HB2 : Hid (Below w.heap.size w w2) := Lib.hid (HB1.out.trans (hb2.mono HB1.out.size))
  clear hb2
  go_wp2_with fail
 all_goals try (go_ret; exact ⟨by simp, HB2.out⟩)
 all_goals
  refine (HAT.out _ HB2.out).mono ?_
  rintro e w3 ⟨⟨vs, rfl, hvs⟩, hb3⟩
  have HB3 : Hid (Below w.heap.size w w3) := Lib.hid (HB2.out.trans (hb3.mono HB2.out.size))
  obtain ⟨p5, q5, c5, d5, rfl⟩ := nodeX_cells hvs
  clear hvs hb3
  go_wp2_with fail
 all_goals try (go_ret; exact ⟨by simp, HB3.out⟩)
 all_goals
  refine (HOP.out _ HB3.out).mono ?_
  rintro e w4 ⟨rfl, hb4⟩
  have HB4 : Hid (Below w.heap.size w w4) := Lib.hid (HB3.out.trans (hb4.mono HB3.out.size))
  clear hb4
  go_wp2_with fail
  go_ret
  exact ⟨by simp, HB4.out⟩

set_option maxRecDepth 100000 in
set_option maxHeartbeats 2000000 in
theorem fat_s {w : World} {S : Nat → Prop} {b : Nat} {n : Nd} {v0 v1 v2 v3 : Value} (h : TreeS w S b n v0 v1 v2 v3) (hw : n.well = true) (hB : n.girth ≤ 200000000) {pv : Value} {place : List ByteArray} (hp : PlR w pv place) :
  Calls Tryz.prog 166 #[.pointer (some ⟨b, 0, none⟩), pv] w fun e w' => (∃ vs, e = .returned (.agg vs) ∧ NodeX w' S vs.toList ((n.at_ place).getD absent)) ∧ Below w.heap.size w w' := by
 have HBE : Hid (∀ wx, Below w.heap.size w wx → Calls Tryz.prog 28 #[.agg #[v0, v1, v2, v3], pv] wx fun e w' => (∃ vs, e = .returned (.agg vs) ∧ NodeX w S vs.toList ((n.at_ place).getD absent)) ∧ Below wx.heap.size wx w') := Lib.hid fun wx hx => below_x h.node hw hB hp wx hx
 have HT := Lib.hid h
 obtain ⟨pp, pc, rfl, _, _, _⟩ := hp
 have HA : Hid (Below w.heap.size w (w.alloc (.cells #[.int .u8 0, .string ⟨#[]⟩, .slice none 0 0, .slice none 0 0] 25))) := Lib.hid ((Below.refl _ _).alloc (Nat.le_refl _) _)
 have HZ := Lib.hid (four_new w (.int .u8 0) (.string ⟨#[]⟩) (.slice none 0 0) (.slice none 0 0))
 obtain ⟨c0, c1, c2, c3⟩ := (h.x.kept HA.out).cell
 clear h
 generalize (n.at_ place).getD absent = R at *
 generalize place.length = pl at *
 go_enter Tryz.func166, Tryz.ntmps166
 go_wp2_with fail
 refine (HBE.out _ HA.out).mono ?_
 rintro e w2 ⟨⟨vs, rfl, hvs⟩, hb2⟩
 have HZ2 := Lib.hid (HZ.out.kept hb2)
 have HB2 : Hid (Below w.heap.size w w2) := Lib.hid (HA.out.trans (hb2.mono HA.out.size))
 obtain ⟨p5, q5, c5, d5, rfl⟩ := nodeX_cells hvs
 have HVS := Lib.hid hvs
 clear hb2 hvs c0 c1 c2 c3
 obtain ⟨z0, z1, z2, z3⟩ := HZ2.out.cell
 obtain ⟨x0, x1, x2, x3⟩ := HZ2.out.open_
 go_wp2_with fail
 refine bodyPost_ret (v := .agg #[.int .u8 R.kind.toNat, .string R.text, .slice p5 R.names.length c5, .slice q5 R.kids.length d5]) (by simp [results, Tryz.results166, go_sem, z0, z1, z2, z3]) rfl ?_
 have hb9 := below_four HB2.out (Nat.le_refl _) (.int .u8 R.kind.toNat) (.string R.text) (.slice p5 R.names.length c5) (.slice q5 R.kids.length d5)
 exact ⟨⟨_, rfl, HVS.out.grown hb9⟩, hb9⟩


theorem or_new {w' : World} {S : Nat → Prop} {b B B' : Nat} {n : Nd} (hB : B ≤ B') (h : ∃ x0 x1 x2 x3, TreeS w' (fun k => (S k ∨ B ≤ k) ∨ B' ≤ k) b n x0 x1 x2 x3) : ∃ x0 x1 x2 x3, TreeS w' (fun k => S k ∨ B ≤ k) b n x0 x1 x2 x3 := by
 obtain ⟨x0, x1, x2, x3, h⟩ := h
 exact ⟨x0, x1, x2, x3, h.weak (fun k hk => hk.elim id (fun h => .inr (Nat.le_trans hB h))) (fun hh => h.off (.inl hh))⟩
theorem TreeS.new {w w' : World} {S : Nat → Prop} {b : Nat} {n : Nd} {v0 v1 v2 v3 : Value} (h : TreeS w S b n v0 v1 v2 v3) (hb : Below w.heap.size w w') {B : Nat} (hB : b < B) : TreeS w' (fun k => S k ∨ B ≤ k) b n v0 v1 v2 v3 := (h.kept hb).weak (fun _ hk => .inl hk) (fun hh => hh.elim h.off (by omega))
theorem do_behind {w : World} {S : Nat → Prop} {b : Nat} {n : Nd} {v0 v1 v2 v3 : Value} (h : TreeS w S b n v0 v1 v2 v3) (hw : n.well = true) (hB : n.girth ≤ 200000000) {vs : Array Value} {y : Nd} (hy : NodeX w S vs.toList y) {pv : Value} {place : List ByteArray} (hp : PlR w pv place) (hnb : namesBulk place ≤ 200000000) :
  Calls Tryz.prog 164 #[.pointer (some ⟨b, 0, none⟩), pv, .func (.func 170) #[] #[.pointer (some ⟨w.heap.size, 0, none⟩)]] (w.alloc (.cells vs 25)) fun e w' => e = .returned (.tuple #[]) ∧ (∃ x0 x1 x2 x3, TreeS w' (fun k => S k ∨ w.heap.size ≤ k) b (changedD (fun _ => y) place n) x0 x1 x2 x3) ∧ w.grownBy w' (some b) := by
 obtain ⟨p, c, rfl, hst, hlc, hcm⟩ := hp
 obtain ⟨p1, q1, c1, d1, rfl⟩ := nodeX_cells hy
 have hal : Below w.heap.size w (w.alloc (.cells #[.int .u8 y.kind.toNat, .string y.text, .slice p1 y.names.length c1, .slice q1 y.kids.length d1] 25)) := (Below.refl _ _).alloc (Nat.le_refl _) _
 have hlt := h.x.lt
 have h1 : TreeS (w.alloc (.cells #[.int .u8 y.kind.toNat, .string y.text, .slice p1 y.names.length c1, .slice q1 y.kids.length d1] 25)) (fun k => S k ∧ k < w.heap.size) b n v0 v1 v2 v3 := ⟨(h.kept hal).blk, NodeX.grown h.node.lt hal, fun hh => h.off hh.1⟩
 refine (doB h1 hw hB (pb := w.heap.size) (y := y) (by omega) (by simp) (fun hh => by have := hh.2; omega) (four_new w _ _ _ _) (NodeX.grown hy.lt hal) (hst.grown hal) hlc hcm ?_ hnb).mono ?_
 ·intro a ha hn
  obtain ⟨bb, o, he, hc⟩ := hst 0 (by omega)
  obtain rfl : a = ⟨bb, o, none⟩ := Option.some.inj (ha.symm.trans he)
  have := block_of_cell hc
  show bb ≠ _
  have h2 : bb < w.heap.size := this
  omega
 ·rintro e w' ⟨he, ⟨x0, x1, x2, x3, ht⟩, hb⟩
  refine ⟨he, ⟨x0, x1, x2, x3, ht.weak (fun k hk => ?_) (fun hh => hh.elim h.off (by omega))⟩, but_new hal hb⟩
  rcases hk with hk | hk
  ·exact .inl hk.1
  ·right
   simp at hk
   omega

set_option maxRecDepth 100000 in
set_option maxHeartbeats 4000000 in
theorem put_s {w : World} {S : Nat → Prop} {b : Nat} {n : Nd} {v0 v1 v2 v3 : Value} (h : TreeS w S b n v0 v1 v2 v3) (hw : n.well = true) (hB : n.girth ≤ 200000000) {pv : Value} {place : List ByteArray} (hp : PlR w pv place) (hnb : namesBulk place ≤ 200000000) {cs : List Value} {x : Nd} (hx : NodeR w cs x) (hxb : x.girth ≤ 200000000) :
  Calls Tryz.prog 161 #[.pointer (some ⟨b, 0, none⟩), pv, .agg cs.toArray] w fun e w' => e = .returned (.tuple #[]) ∧ (∃ x0 x1 x2 x3, TreeS w' (fun k => S k ∨ w.heap.size ≤ k) b (putD n place x) x0 x1 x2 x3) ∧ w.grownBy w' (some b) := by
 have HOP : Hid (∀ wx, Below w.heap.size w wx → Calls Tryz.prog 168 #[.pointer (some ⟨b, 0, none⟩), pv] wx fun e w' => e = .returned (.bool (openD n place)) ∧ Below wx.heap.size wx w') := Lib.hid fun wx hx => open_any (h.x.kept hx) hw hB (hp.grown hx)
 have HWE : Hid (∀ wx, Below w.heap.size w wx → Calls Tryz.prog 27 #[.agg cs.toArray] wx fun e w' => e = .returned (.bool x.well) ∧ Below wx.heap.size wx w') := Lib.hid fun wx hb => well_any hx wx hb
 have HCO : Hid (x.well = true → ∀ wx, Below w.heap.size w wx → Calls Tryz.prog 24 #[.agg cs.toArray] wx fun e w' => (∃ vs, e = .returned (.agg vs) ∧ NodeX w' (fun b => wx.heap.size ≤ b ∧ b < w'.heap.size) vs.toList x) ∧ Below wx.heap.size wx w') := Lib.hid fun hm wx hb => copyOf_any hx wx hb hxb (.inl hm)
 have HDO := Lib.hid fun (wx : World) (hb : Below w.heap.size w wx) (vs : Array Value) (hy : NodeX wx (fun k => S k ∨ w.heap.size ≤ k) vs.toList x) => do_behind (h.new hb h.x.lt) hw hB hy (hp.grown hb) hnb
 have HT := Lib.hid h
 have hbl := h.x.lt
 obtain ⟨p1, q1, c1, d1, rfl⟩ := hx.cells
 obtain ⟨pp, pc, rfl, _, _, _⟩ := hp
 unfold putD
 clear h hx
 generalize openD n place = ob at *
 generalize hwx : x.well = wb at *
 clear hwx
 generalize place.length = k at *
 cases ob
 ·go_enter Tryz.func161, Tryz.ntmps161
  go_wp2_with fail
  refine (HOP.out _ (box_self (Below.refl _ _))).mono ?_
  rintro e w1 ⟨rfl, hb1⟩
  have HB1 : Hid (Below (w.heap.size + 1) (w.alloc (.cells #[.int .u8 x.kind.toNat, .string x.text, .slice p1 x.names.length c1, .slice q1 x.kids.length d1] 25)) w1) := Lib.hid (hb1.mono (by simp))
  clear hb1
  have c0 := box_cell HB1.out 0 rfl
  have c1x := box_cell HB1.out 1 rfl
  have c2x := box_cell HB1.out 2 rfl
  have c3 := box_cell HB1.out 3 rfl
  go_wp2_with fail
  go_end0
  exact ⟨rfl, ⟨_, _, _, _, HT.out.new (box_self HB1.out) HT.out.x.lt⟩, grown_of_below (box_self HB1.out)⟩
 cases wb
 ·go_enter Tryz.func161, Tryz.ntmps161
  go_wp2_with fail
  refine (HOP.out _ (box_self (Below.refl _ _))).mono ?_
  rintro e w1 ⟨rfl, hb1⟩
  have HB1 : Hid (Below (w.heap.size + 1) (w.alloc (.cells #[.int .u8 x.kind.toNat, .string x.text, .slice p1 x.names.length c1, .slice q1 x.kids.length d1] 25)) w1) := Lib.hid (hb1.mono (by simp))
  clear hb1
  have c0 := box_cell HB1.out 0 rfl
  have c1x := box_cell HB1.out 1 rfl
  have c2x := box_cell HB1.out 2 rfl
  have c3 := box_cell HB1.out 3 rfl
  go_wp2_with fail
  refine (HWE.out _ (box_self HB1.out)).mono ?_
  rintro e w2 ⟨rfl, hb2⟩
  have HB2 : Hid (Below (w.heap.size + 1) (w.alloc (.cells #[.int .u8 x.kind.toNat, .string x.text, .slice p1 x.names.length c1, .slice q1 x.kids.length d1] 25)) w2) := Lib.hid (HB1.out.trans (hb2.mono (by have := HB1.out.size; simp at this; omega)))
  clear hb2 c0 c1x c2x c3
  have c0 := box_cell HB2.out 0 rfl
  have c1x := box_cell HB2.out 1 rfl
  have c2x := box_cell HB2.out 2 rfl
  have c3 := box_cell HB2.out 3 rfl
  go_wp2_with fail
  go_end0
  exact ⟨rfl, ⟨_, _, _, _, HT.out.new (box_self HB2.out) HT.out.x.lt⟩, grown_of_below (box_self HB2.out)⟩
 ·go_enter Tryz.func161, Tryz.ntmps161
  go_wp2_with fail
  refine (HOP.out _ (box_self (Below.refl _ _))).mono ?_
  rintro e w1 ⟨rfl, hb1⟩
  have HB1 : Hid (Below (w.heap.size + 1) (w.alloc (.cells #[.int .u8 x.kind.toNat, .string x.text, .slice p1 x.names.length c1, .slice q1 x.kids.length d1] 25)) w1) := Lib.hid (hb1.mono (by simp))
  clear hb1
  have c0 := box_cell HB1.out 0 rfl
  have c1x := box_cell HB1.out 1 rfl
  have c2x := box_cell HB1.out 2 rfl
  have c3 := box_cell HB1.out 3 rfl
  go_wp2_with fail
  refine (HWE.out _ (box_self HB1.out)).mono ?_
  rintro e w2 ⟨rfl, hb2⟩
  have HB2 : Hid (Below (w.heap.size + 1) (w.alloc (.cells #[.int .u8 x.kind.toNat, .string x.text, .slice p1 x.names.length c1, .slice q1 x.kids.length d1] 25)) w2) := Lib.hid (HB1.out.trans (hb2.mono (by have := HB1.out.size; simp at this; omega)))
  clear hb2 c0 c1x c2x c3
  have c0 := box_cell HB2.out 0 rfl
  have c1x := box_cell HB2.out 1 rfl
  have c2x := box_cell HB2.out 2 rfl
  have c3 := box_cell HB2.out 3 rfl
  go_wp2_with fail
  refine (HCO.out (by trivial) _ (box_self HB2.out)).mono ?_
  rintro e w3 ⟨⟨vs, rfl, hvs⟩, hb3⟩
  have HB3 : Hid (Below w.heap.size w w3) := Lib.hid ((box_self HB2.out).trans (hb3.mono (box_self HB2.out).size))
  have hs2 := (box_self HB2.out).size
  have HVS : Hid (NodeX w3 (fun k => S k ∨ w.heap.size ≤ k) vs.toList x) := Lib.hid (hvs.same fun k hk => ⟨rfl, .inr (by have := hk.1; omega)⟩)
  clear hvs hb3 c0 c1x c2x c3
  go_wp2_with fail
  refine (becomes_any HVS.out).mono ?_
  rintro e w4 ⟨rfl, rfl⟩
  go_wp2_with fail
  refine (HDO.out _ HB3.out _ HVS.out).mono ?_
  rintro e w5 ⟨rfl, ht, hb⟩
  have HX := Lib.hid (or_new HB3.out.size ht)
  have HL := Lib.hid hb
  clear ht hb
  go_wp2_with fail
  go_end0
  exact ⟨rfl, HX.out, by_below HB3.out HL.out⟩

set_option maxRecDepth 100000 in
set_option maxHeartbeats 4000000 in
theorem del_s {w : World} {S : Nat → Prop} {b : Nat} {n : Nd} {v0 v1 v2 v3 : Value} (h : TreeS w S b n v0 v1 v2 v3) (hw : n.well = true) (hB : n.girth ≤ 200000000) {pv : Value} {place : List ByteArray} (hp : PlR w pv place) (hnb : namesBulk place ≤ 200000000) :
  Calls Tryz.prog 157 #[.pointer (some ⟨b, 0, none⟩), pv] w fun e w' => e = .returned (.tuple #[]) ∧ (∃ x0 x1 x2 x3, TreeS w' (fun k => S k ∨ w.heap.size ≤ k) b (delD n place) x0 x1 x2 x3) ∧ w.grownBy w' (some b) := by
 have HDO := Lib.hid (do_behind h hw hB (absent_X w S) hp hnb (vs := #[.int .u8 0, .string ⟨#[]⟩, .slice none 0 0, .slice none 0 0]))
 have HBE := Lib.hid (becomes_any (absent_X w S) (vs := #[.int .u8 0, .string ⟨#[]⟩, .slice none 0 0, .slice none 0 0]))
 have HT := Lib.hid h
 obtain ⟨pp, pc, rfl, _, _, _⟩ := hp
 unfold delD
 clear h
 by_cases hk : place = []
 ·subst hk
  rw [if_pos rfl]
  clear HDO HBE
  go_enter Tryz.func157, Tryz.ntmps157
  go_wp2_with fail
  go_end0
  exact ⟨rfl, ⟨_, _, _, _, HT.out.new (Below.refl _ _) HT.out.x.lt⟩, grown_of_below (Below.refl _ _)⟩
 ·rw [if_neg hk]
  have hlp : 0 < place.length := List.length_pos_iff.2 hk
  generalize place.length = k at *
  go_enter Tryz.func157, Tryz.ntmps157
  go_wp2_with fail
  refine HBE.out.mono ?_
  rintro e w4 ⟨rfl, rfl⟩
  go_wp2_with fail
  refine HDO.out.mono ?_
  rintro e w5 ⟨rfl, ht, hb⟩
  have HX := Lib.hid ht
  have HL := Lib.hid hb
  clear ht hb
  go_wp2_with fail
  go_end0
  exact ⟨rfl, HX.out, HL.out⟩

set_option maxRecDepth 100000 in
set_option maxHeartbeats 4000000 in
theorem copy_s {w : World} {S : Nat → Prop} {b : Nat} {n : Nd} {v0 v1 v2 v3 : Value} (h : TreeS w S b n v0 v1 v2 v3) (hw : n.well = true) (hB : n.girth ≤ 200000000) {pv qv : Value} {pl ql : List ByteArray} (hp : PlR w pv pl) (hq : PlR w qv ql) (hnb : namesBulk ql ≤ 200000000) :
  Calls Tryz.prog 156 #[.pointer (some ⟨b, 0, none⟩), pv, qv] w fun e w' => e = .returned (.tuple #[]) ∧ (∃ x0 x1 x2 x3, TreeS w' (fun k => S k ∨ w.heap.size ≤ k) b (copyD n pl ql) x0 x1 x2 x3) ∧ w.grownBy w' (some b) := by
 have HLE := Lib.hid (leads_any h.x hw hB hp hq)
 have HAT : Hid (∀ wx, Below w.heap.size w wx → Calls Tryz.prog 166 #[.pointer (some ⟨b, 0, none⟩), pv] wx fun e w' => (∃ vs, e = .returned (.agg vs) ∧ NodeX w' S vs.toList ((n.at_ pl).getD absent)) ∧ Below wx.heap.size wx w') := Lib.hid fun wx hx => fat_s (h.kept hx) hw hB (hp.grown hx)
 have HDO := Lib.hid fun (wx : World) (hb : Below w.heap.size w wx) (vs : Array Value) (hy : NodeX wx (fun k => S k ∨ w.heap.size ≤ k) vs.toList ((n.at_ pl).getD absent)) => do_behind (h.new hb h.x.lt) hw hB hy (hq.grown hb) hnb
 have HT := Lib.hid h
 have hbl := h.x.lt
 obtain ⟨pp, cp, rfl, _, _, _⟩ := hp
 obtain ⟨pq, cq, rfl, _, _, _⟩ := hq
 unfold copyD
 clear h
 generalize leadsD n pl ql = lb at *
 generalize (n.at_ pl).getD absent = R at *
 generalize pl.length = k at *
 generalize ql.length = m at *
 cases lb
 all_goals
  go_enter Tryz.func156, Tryz.ntmps156
  go_wp2_with fail
  refine HLE.out.mono ?_
  rintro e w1 ⟨rfl, hb1⟩
  have HB1 := Lib.hid hb1
  clear hb1
  go_wp2_with fail
 ·go_end0
  exact ⟨rfl, ⟨_, _, _, _, HT.out.new HB1.out HT.out.x.lt⟩, grown_of_below HB1.out⟩
 refine (HAT.out _ HB1.out).mono ?_
 rintro e w3 ⟨⟨vs, rfl, hvs⟩, hb3⟩
 have HB3 : Hid (Below w.heap.size w w3) := Lib.hid (HB1.out.trans (hb3.mono HB1.out.size))
 have HVS : Hid (NodeX w3 (fun k => S k ∨ w.heap.size ≤ k) vs.toList R) := Lib.hid (NodeX.weak hvs fun _ hk => .inl hk)
 clear hvs hb3
 go_wp2_with fail
 refine (becomes_any HVS.out).mono ?_
 rintro e w4 ⟨rfl, rfl⟩
 go_wp2_with fail
 refine (HDO.out _ HB3.out _ HVS.out).mono ?_
 rintro e w5 ⟨rfl, ht, hb⟩
 have HX := Lib.hid (or_new HB3.out.size ht)
 have HL := Lib.hid hb
 clear ht hb
 go_wp2_with fail
 go_end0
 exact ⟨rfl, HX.out, by_below HB3.out HL.out⟩

set_option maxRecDepth 100000 in
set_option maxHeartbeats 4000000 in
theorem move_s {w : World} {S : Nat → Prop} {b : Nat} {n : Nd} {v0 v1 v2 v3 : Value} (h : TreeS w S b n v0 v1 v2 v3) (hw : n.well = true) (hB : n.girth ≤ 200000000) {pv qv : Value} {pl ql : List ByteArray} (hp : PlR w pv pl) (hq : ∀ w', w.grownBy w' (some b) → PlR w' qv ql) (hnp : namesBulk pl ≤ 200000000) (hnb : namesBulk ql ≤ 200000000) (hBC : (changedD (fun _ => absent) pl n).girth ≤ 200000000) :
  Calls Tryz.prog 160 #[.pointer (some ⟨b, 0, none⟩), pv, qv] w fun e w' => e = .returned (.tuple #[]) ∧ (∃ x0 x1 x2 x3, TreeS w' (fun k => S k ∨ w.heap.size ≤ k) b (moveD n pl ql) x0 x1 x2 x3) ∧ w.grownBy w' (some b) := by
 have HLE := Lib.hid (leads_any h.x hw hB hp (hq w (grown_of_below (Below.refl _ _))))
 have HT := Lib.hid h
 have hbl := h.x.lt
 have HP := Lib.hid hp
 have HQ := Lib.hid hq
 have HWC : Hid (leadsD n pl ql = true → reachD pl n = some ((n.at_ pl).getD absent) ∧ (changedD (fun _ => absent) pl n).well = true) := Lib.hid fun hl => moved_ok hw hl
 have HW := Lib.hid hw
 have HBB := Lib.hid hB
 obtain ⟨pp, cp, rfl, _, _, _⟩ := hp
 obtain ⟨pq, cq, rfl, _, _, _⟩ := hq w (grown_of_below (Below.refl _ _))
 clear hq
 unfold moveD
 clear h hw hB
 generalize hlb : leadsD n pl ql = lb at *
 clear hlb
 have HK : Hid (pl.length = pl.length ∧ ql.length = ql.length) := Lib.hid ⟨rfl, rfl⟩
 generalize hk : pl.length = k at HLE ⊢
 generalize hm : ql.length = m at HLE ⊢
 have HKE := Lib.hid hk
 have HME := Lib.hid hm
 clear hk hm HK
 cases lb
 all_goals
  go_enter Tryz.func160, Tryz.ntmps160
  go_wp2_with fail
  refine HLE.out.mono ?_
  rintro e w1 ⟨rfl, hb1⟩
  have HB1 := Lib.hid hb1
  clear hb1
  go_wp2_with fail
 ·first | go_end0 | ((try simp only [Exit.inBlock, Exit.then]); refine bodyPost_ret (results_none rfl _ _ _) rfl ?_)
  exact ⟨rfl, ⟨_, _, _, _, HT.out.new HB1.out HT.out.x.lt⟩, grown_of_below HB1.out⟩
 have HAL : Hid (Below w.heap.size w (w1.alloc (.cells #[.int .u8 0, .string ⟨#[]⟩, .slice none 0 0, .slice none 0 0] 25))) := Lib.hid (HB1.out.alloc HB1.out.size _)
 have hs1 := HB1.out.size
 obtain ⟨hre, hwc⟩ := HWC.out (by trivial)
 have HRE := Lib.hid hre
 have HWC2 := Lib.hid hwc
 have HD1 : Hid (Calls Tryz.prog 164 #[.pointer (some ⟨b, 0, none⟩), .slice pp k cp, .func (.func 167) #[] #[.pointer (some ⟨w1.heap.size, 0, none⟩)]] (w1.alloc (.cells #[.int .u8 0, .string ⟨#[]⟩, .slice none 0 0, .slice none 0 0] 25)) fun e w' => e = .returned (.tuple #[]) ∧ (∃ x0 x1 x2 x3, TreeS w' (fun k => (S k ∧ k < w.heap.size) ∨ (w1.alloc (.cells #[.int .u8 0, .string ⟨#[]⟩, .slice none 0 0, .slice none 0 0] 25)).heap.size ≤ k) b (changedD (fun _ => absent) pl n) x0 x1 x2 x3 ∧ (∀ y, reachD pl n = some y → ∃ u0 u1 u2 u3, Four w' w1.heap.size u0 u1 u2 u3 ∧ NodeX w' (fun k => S k ∧ k < w.heap.size) [u0, u1, u2, u3] y)) ∧ GrownBut (w1.alloc (.cells #[.int .u8 0, .string ⟨#[]⟩, .slice none 0 0, .slice none 0 0] 25)) w' b w1.heap.size) := Lib.hid (by
  obtain ⟨p', c', he, hst, hlc, hcm⟩ := HP.out
  obtain ⟨rfl, rfl⟩ : pp = p' ∧ cp = c' := by simpa using he
  rw [← HKE.out]
  refine doM (S0 := fun k => S k ∧ k < w.heap.size) ⟨(HT.out.kept HAL.out).blk, NodeX.grown HT.out.node.lt HAL.out, fun hh => HT.out.off hh.1⟩ HW.out HBB.out (pb := w1.heap.size) (by omega) (by simp) (fun hh => by have := hh.2; omega) (four_new w1 _ _ _ _) (hst.grown HAL.out) hlc hcm ?_ hnp
  intro a ha hn
  obtain ⟨bb, o, he, hc⟩ := hst 0 (by omega)
  obtain rfl : a = ⟨bb, o, none⟩ := Option.some.inj (ha.symm.trans he)
  have h2 : bb < w.heap.size := block_of_cell hc
  show bb ≠ _
  omega)
 clear HRE HWC2
 go_wp2_with fail
 refine HD1.out.mono ?_
 rintro e w3 ⟨rfl, ⟨x0, x1, x2, x3, ht3, hy3⟩, hb3⟩
 obtain ⟨u0, u1, u2, u3, hF3, hN3⟩ := hy3 _ hre
 have hnew : ∀ k, (S k ∧ k < w.heap.size) ∨ (w1.alloc (.cells #[.int .u8 0, .string ⟨#[]⟩, .slice none 0 0, .slice none 0 0] 25)).heap.size ≤ k → S k ∨ w.heap.size ≤ k := fun k hk => hk.elim (fun h => .inl h.1) (fun h => .inr (by simp at h; omega))
 have hoff : ¬ (S b ∨ w.heap.size ≤ b) := fun hh => hh.elim HT.out.off (by omega)
 have HT3 := Lib.hid (ht3.weak hnew hoff)
 have HN3 : Hid (NodeX w3 (fun k => S k ∨ w.heap.size ≤ k) [u0, u1, u2, u3] ((n.at_ pl).getD absent)) := Lib.hid (NodeX.weak hN3 fun k hk => .inl hk.1)
 clear hnew
 have HOFF := Lib.hid hoff
 clear hoff
 have HWC2 := Lib.hid hwc
 obtain ⟨c0, c1x, c2x, c3⟩ := hF3.cell
 have HL3 : Hid (w.grownBy w3 (some b)) := Lib.hid (but_newer HAL.out hb3 hs1)
 have HQ3 : Hid (PlR w3 (.slice pq m cq) ql) := Lib.hid (by rw [← HME.out]; exact HQ.out w3 HL3.out)
 obtain ⟨p5, q5, c5, d5, hu⟩ := hN3.to.cells
 obtain ⟨rfl, rfl, rfl, rfl⟩ : u0 = _ ∧ u1 = _ ∧ u2 = _ ∧ u3 = _ := by simpa using hu
 clear ht3 hy3 hb3 hF3 hN3 hre hwc hu HD1
 go_wp2_with fail
 refine (becomes_any (vs := #[_, _, _, _]) HN3.out).mono ?_
 rintro e w4 ⟨rfl, rfl⟩
 go_wp2_with fail
 refine (do_behind HT3.out HWC2.out hBC HN3.out HQ3.out hnb (vs := #[_, _, _, _])).mono ?_
 rintro e w5 ⟨rfl, ⟨x4, x5, x6, x7, ht⟩, hb⟩
 have HX := Lib.hid (ht.weak (S' := fun k => S k ∨ w.heap.size ≤ k) (fun k hk => hk.elim id (fun h => .inr (Nat.le_trans HL3.out.size h))) HOFF.out)
 have HL := Lib.hid hb
 clear ht hb c0 c1x c2x c3
 go_wp2_with fail
 go_end0
 exact ⟨rfl, ⟨_, _, _, _, HX.out⟩, grown_trans HL3.out HL.out⟩

end Go.Proofs.YtfilbknnpjbmcaaGreatDoor
