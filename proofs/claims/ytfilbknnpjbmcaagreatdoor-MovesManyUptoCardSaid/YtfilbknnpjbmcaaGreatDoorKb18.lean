/- Walks: a tree in memory: at a place, its Kind, its text, whether it is empty; a clone, a new one, its root. -/
import Derived.Test.YtfilbknnpjbmcaaGreatDoorKb17
namespace Go.Proofs.YtfilbknnpjbmcaaGreatDoor
open Go.RowKit Px Nx

theorem run_field_kind (v0 v1 v2 v3 : Value) (w : World) : (Instr.field 25 (.agg #[v0, v1, v2, v3]) 0).run Tryz.prog w = .ok v0 w := by
 simp [Instr.field, run_underlying Tryz.underlying25, asAgg, part, Tryz.isAgg5]
theorem run_field_text (v0 v1 v2 v3 : Value) (w : World) : (Instr.field 25 (.agg #[v0, v1, v2, v3]) 1).run Tryz.prog w = .ok v1 w := by
 simp [Instr.field, run_underlying Tryz.underlying25, asAgg, part, Tryz.isAgg9]
attribute [local go_sem] run_field_kind run_field_text

theorem kid_heldX {W wr : World} {S : Nat → Prop} {v0 v1 v2 : Value} {q : Option Addr} {m d : Nat} {c : Nd} (h : NodeX W S [v0, v1, v2, .slice q m d] c) (hb : Below W.heap.size W wr) {i : Nat} (hi : i < m) :
  ∃ x b o kk tx p2 n2 c2 q2 m2 d2, c.kids[i]? = some x ∧ q = some ⟨b, o, none⟩ ∧ NodeX W S [.int .u8 kk, .string tx, .slice p2 n2 c2, .slice q2 m2 d2] x ∧ wr.cell? ⟨b, o + i * 4, none⟩ = some (.int .u8 kk) ∧ wr.cell? ⟨b, o + i * 4 + 1, none⟩ = some (.string tx) ∧ wr.cell? ⟨b, o + i * 4 + 2, none⟩ = some (.slice p2 n2 c2) ∧ wr.cell? ⟨b, o + i * 4 + 3, none⟩ = some (.slice q2 m2 d2) := by
 cases h with
 | mk kind text names kids p q cp d D h1 h2 h3 h4 h5 h6 h7 h8 h9 =>
  have hx := List.getElem?_eq_getElem hi
  obtain ⟨b, o, kk, tx, p2, n2, c2, q2, m2, d2, he, hD, e⟩ := kid_cells h7 hb hi (h9 i _ hx).to
  have hn := h9 i _ hx
  rw [hD] at hn
  exact ⟨_, b, o, kk, tx, p2, n2, c2, q2, m2, d2, hx, he, hn, e⟩
theorem Nx.NodeX.grown {W w : World} {S : Nat → Prop} {cs : List Value} {x : Nd} (h : NodeX W S cs x) (hb : Below W.heap.size W w) : NodeX w S cs x := by
 induction h with
 | mk kind text names kids p q c d D h1 h2 h3 h4 h5 h6 h7 h8 _ ih => exact .mk kind text names kids p q c d D h1 h2 (h3.grown hb) h4 h5 h6 (h7.grown hb) h8 ih

set_option maxRecDepth 100000 in
set_option maxHeartbeats 4000000 in
theorem below_x {W : World} {S : Nat → Prop} {cs : List Value} {c : Nd} (h : NodeX W S cs c) (hw : c.well = true) (hB : c.girth ≤ 200000000) {pv : Value} {place : List ByteArray} (hp : PlR W pv place) : ∀ w, Below W.heap.size W w →
  Calls Tryz.prog 28 #[.agg cs.toArray, pv] w fun e w' => (∃ vs, e = .returned (.agg vs) ∧ NodeX W S vs.toList ((c.at_ place).getD absent)) ∧ Below w.heap.size w w' := by
 intro w hb
 obtain ⟨pp, pc, rfl, HSP, hpl, hpm⟩ := hp
 have hlen : place.length ≤ 9223372036854775807 := by unfold maxLen at hpm; omega
 have HP := Lib.hid HSP
 have HW := Lib.hid hb
 have HN := Lib.hid h
 have HAT0 : Hid (c.at_ (place.take 0) = some c) := Lib.hid rfl
 have HWL := Lib.hid hw
 obtain ⟨p1, q1, c1, d1, rfl⟩ := h.to.cells
 clear HSP hpm hpl hb h hw
 generalize c.kind.toNat = k1 at *
 generalize c.text = t1 at *
 generalize c.names.length = n1 at *
 generalize c.kids.length = m1 at *
 generalize hn : place.length = n at *
 have HPN := Lib.hid hn
 clear hn
 go_enter Tryz.func28, Tryz.ntmps28
 go_wp2_with fail
 go_loopw [11] (fun i wr => ∃ (k : Nat) (cur : Nd) (kk : Int) (tx : ByteArray) (p2 : Option Addr) (n2 c2 : Nat) (q2 : Option Addr) (m2 d2 : Nat), k ≤ n ∧ i = .int .i64 k ∧ Hid (c.at_ (place.take k) = some cur) ∧ Hid (NodeX W S [.int .u8 kk, .string tx, .slice p2 n2 c2, .slice q2 m2 d2] cur) ∧
  Hid (Four wr w.heap.size (.int .u8 kk) (.string tx) (.slice p2 n2 c2) (.slice q2 m2 d2)) ∧ Hid (Four wr (w.heap.size + 1) (.int .u8 0) (.string ⟨#[]⟩) (.slice none 0 0) (.slice none 0 0)) ∧ Hid (Below w.heap.size w wr) ∧ w.heap.size + 2 ≤ wr.heap.size) (fun i _ => n - (intOf i).toNat)
 case atStart => exact ⟨0, c, (k1 : Int), t1, p1, n1, c1, q1, m1, d1, Nat.zero_le _, rfl, HAT0, HN, Lib.hid (four_first w _ _ _ _ _), Lib.hid (by have := four_new (w.alloc (.cells #[.int .u8 k1, .string t1, .slice p1 n1 c1, .slice q1 m1 d1] 25)) (.int .u8 0) (.string ⟨#[]⟩) (.slice none 0 0) (.slice none 0 0); simpa using this), Lib.hid (box2_self (Below.refl _ _)), by simp⟩
 case round =>
  obtain ⟨k, cur, kk, tx, p2, n2, c2, q2, m2, d2, hk, rfl, HA, HC0, HV, HZ, HB, hsz⟩ := hrel
  obtain ⟨c0, c1x, c2x, c3⟩ := HV.out.cell
  by_cases hlt : k < n
  ·have HOLD : Hid (Below W.heap.size W wr) := Lib.hid (HW.out.trans (HB.out.mono HW.out.size))
   obtain ⟨b, o, rfl, n0⟩ := name_cell HP.out HOLD.out (by rw [HPN.out]; exact hlt : k < place.length)
   have HAS := Lib.hid (Nd.at_snoc c (show k < place.length by rw [HPN.out]; exact hlt) HA.out)
   have HOFF := Lib.hid (Nd.at_off c (show k < place.length by rw [HPN.out]; exact hlt) HA.out)
   have hcw := well_at HWL.out HA.out
   obtain ⟨hl1, hl2, hl3⟩ := well_len hcw
   have hrs := rises_of hl2
   have hcb : cur.names.length ≤ 200000000 := Nat.le_trans (names_girth cur) (Nat.le_trans (girth_at_all HA.out) hB)
   obtain ⟨hn1, hn2, hn3⟩ := held_names HC0.out.to
   obtain ⟨hm2, hm3⟩ := held_len HC0.out.to
   have hm4 : m2 ≤ 9223372036854775807 := by unfold maxLen at hm3; omega
   have HMN : Hid (cur.kids.length = m2 ∧ cur.names.length = m2) := Lib.hid ⟨hm2.symm, by omega⟩
   have HC : Hid (∀ wx, Below wr.heap.size wr wx → Calls Tryz.prog 47 #[.slice p2 n2 c2, .string (place.getD k ByteArray.empty)] wx fun e w' => (∃ (i : Nat) (b : Bool), e = .returned (.tuple #[.int .i64 i, .bool b]) ∧ SearchAt cur.names (place.getD k ByteArray.empty) i b) ∧ Below wx.heap.size wx w') := Lib.hid fun wx hb => by
    have := search_any (W := W) c2 (place.getD k ByteArray.empty) hn2 (by omega) hrs wx (HOLD.out.trans (hb.mono HOLD.out.size))
    rwa [← hn1] at this
   have HSF : Hid (∀ {i b}, SearchAt cur.names (place.getD k ByteArray.empty) i b → (b = true → i < cur.names.length ∧ findL cur.names (place.getD k ByteArray.empty) = i) ∧ (b = false → findL cur.names (place.getD k ByteArray.empty) = -1)) := Lib.hid fun h => search_find hrs h
   have HKD : Hid (cur.kid (place.getD k ByteArray.empty) = if findL cur.names (place.getD k ByteArray.empty) < 0 then .none else cur.kids[(findL cur.names (place.getD k ByteArray.empty)).toNat]?) := Lib.hid rfl
   clear hcw hl1 hl2 hl3 hrs hn1 hn2 hn3 hm2 hm3 hcb
   generalize findL cur.names (place.getD k ByteArray.empty) = fi at *
   generalize place.getD k ByteArray.empty = x at *
   go_wp2_with fail
   refine (HC.out _ (Below.refl _ _)).mono ?_
   rintro e w2 ⟨⟨i, bb, rfl, hse⟩, hb2⟩
   have HSE := Lib.hid (HSF.out hse)
   have HB2 := Lib.hid hb2
   clear hb2 hse c0 c1x c2x c3 n0 HC HSF
   have HV2 := Lib.hid (HV.out.kept HB2.out)
   have HZ2 := Lib.hid (HZ.out.kept HB2.out)
   have HBW : Hid (Below w.heap.size w w2) := Lib.hid (HB.out.trans (HB2.out.mono HB.out.size))
   have hsz2 : w.heap.size + 2 ≤ w2.heap.size := Nat.le_trans hsz HB2.out.size
   obtain ⟨c0, c1x, c2x, c3⟩ := HV2.out.cell
   obtain ⟨y0, y1, y2, y3⟩ := HV2.out.open_
   obtain ⟨z0, z1, z2, z3⟩ := HZ2.out.cell
   obtain ⟨x0, x1, x2, x3⟩ := HZ2.out.open_
   cases bb with
   | false =>
    have HV3 : Hid (c.at_ place = .none) := Lib.hid (HOFF.out (by rw [HKD.out, HSE.out.2 rfl]; rfl))
    clear HKD HOFF HAS HSE
    go_wp2_with fail
    refine bodyPost_ret (v := .agg #[.int .u8 0, .string ⟨#[]⟩, .slice none 0 0, .slice none 0 0]) (by simp [results, Tryz.results28, go_sem, z0, z1, z2, z3]) rfl ?_
    exact ⟨⟨_, rfl, by rw [HV3.out]; exact absent_X W S⟩, below_four HBW.out (by omega) _ _ _ _⟩
   | true =>
    have hi : i < m2 := by have := (HSE.out.1 rfl).1; rw [HMN.out.2] at this; exact this
    obtain ⟨y, b', o', kk', tx', p2', n2', c2', q2', m2', d2', hy, rfl, hyR, e0, e1, e2, e3⟩ := kid_heldX HC0.out (HOLD.out.trans (HB2.out.mono HOLD.out.size)) hi
    have HYR := Lib.hid hyR
    have HNEW : Hid (c.at_ (place.take (k + 1)) = some y) := Lib.hid (by
     rw [HAS.out, HKD.out, (HSE.out.1 rfl).2, if_neg (by omega)]
     exact hy)
    clear hyR hy HKD HAS HOFF HSE
    go_wp2_with fail
    go_roundw
    case rel => exact ⟨k + 1, y, kk', tx', p2', n2', c2', q2', m2', d2', by omega, by go_num, HNEW, HYR, Lib.hid (HV2.out.set _ _ _ _), Lib.hid (HZ2.out.other (by omega) _ _ _ _), Lib.hid (below_four HBW.out (Nat.le_refl _) _ _ _ _), by simpa using hsz2⟩
    case measure => simp [intOf]; omega
  ·obtain ⟨y0, y1, y2, y3⟩ := HV.out.open_
   obtain ⟨z0, z1, z2, z3⟩ := HZ.out.cell
   obtain ⟨x0, x1, x2, x3⟩ := HZ.out.open_
   have HV2 : Hid (c.at_ place = some cur) := Lib.hid (Nd.at_all c (by rw [HPN.out]; omega) HA.out)
   go_wp2_with fail
   refine bodyPost_ret (v := .agg #[.int .u8 kk, .string tx, .slice p2 n2 c2, .slice q2 m2 d2]) (by simp [results, Tryz.results28, go_sem, z0, z1, z2, z3]) rfl ?_
   exact ⟨⟨_, rfl, by rw [HV2.out]; exact HC0.out⟩, below_four HB.out (by omega) _ _ _ _⟩

structure TreeX (w : World) (b : Nat) (n : Nd) (v0 v1 v2 v3 : Value) : Prop where
 blk : w.heap[b]? = some (.cells #[v0, v1, v2, v3] 54 (0, 0))
 node : NodeX w (fun k => k ≠ b) [v0, v1, v2, v3] n
theorem TreeX.cell {w : World} {b : Nat} {n : Nd} {v0 v1 v2 v3 : Value} (h : TreeX w b n v0 v1 v2 v3) : w.cell? ⟨b, 0, none⟩ = some v0 ∧ w.cell? ⟨b, 1, none⟩ = some v1 ∧ w.cell? ⟨b, 2, none⟩ = some v2 ∧ w.cell? ⟨b, 3, none⟩ = some v3 :=
 ⟨by rw [cell_of_row _ _ _ _ _ _ h.blk]; rfl, by rw [cell_of_row _ _ _ _ _ _ h.blk]; rfl, by rw [cell_of_row _ _ _ _ _ _ h.blk]; rfl, by rw [cell_of_row _ _ _ _ _ _ h.blk]; rfl⟩
theorem TreeX.open_ {w : World} {b : Nat} {n : Nd} {v0 v1 v2 v3 : Value} (h : TreeX w b n v0 v1 v2 v3) : w.frozen? ⟨b, 0, none⟩ = false ∧ w.frozen? ⟨b, 1, none⟩ = false ∧ w.frozen? ⟨b, 2, none⟩ = false ∧ w.frozen? ⟨b, 3, none⟩ = false :=
 ⟨frozen_of_row w b 0 _ _ h.blk, frozen_of_row w b 1 _ _ h.blk, frozen_of_row w b 2 _ _ h.blk, frozen_of_row w b 3 _ _ h.blk⟩
theorem TreeX.lt {w : World} {b : Nat} {n : Nd} {v0 v1 v2 v3 : Value} (h : TreeX w b n v0 v1 v2 v3) : b < w.heap.size := block_of_cell h.cell.1
theorem TreeX.kept {w w' : World} {b : Nat} {n : Nd} {v0 v1 v2 v3 : Value} (h : TreeX w b n v0 v1 v2 v3) (hb : Below w.heap.size w w') : TreeX w' b n v0 v1 v2 v3 :=
 ⟨by rw [hb.block _ h.lt]; exact h.blk, h.node.grown hb⟩

set_option maxRecDepth 100000 in
set_option maxHeartbeats 2000000 in
theorem fat_any {w : World} {b : Nat} {n : Nd} {v0 v1 v2 v3 : Value} (h : TreeX w b n v0 v1 v2 v3) (hw : n.well = true) (hB : n.girth ≤ 200000000) {pv : Value} {place : List ByteArray} (hp : PlR w pv place) :
  Calls Tryz.prog 166 #[.pointer (some ⟨b, 0, none⟩), pv] w fun e w' => (∃ vs, e = .returned (.agg vs) ∧ NodeX w' (fun k => k ≠ b) vs.toList ((n.at_ place).getD absent)) ∧ Below w.heap.size w w' := by
 have HBE : Hid (∀ wx, Below w.heap.size w wx → Calls Tryz.prog 28 #[.agg #[v0, v1, v2, v3], pv] wx fun e w' => (∃ vs, e = .returned (.agg vs) ∧ NodeX w (fun k => k ≠ b) vs.toList ((n.at_ place).getD absent)) ∧ Below wx.heap.size wx w') := Lib.hid fun wx hx => below_x h.node hw hB hp wx hx
 have HT := Lib.hid h
 obtain ⟨pp, pc, rfl, _, _, _⟩ := hp
 have HA : Hid (Below w.heap.size w (w.alloc (.cells #[.int .u8 0, .string ⟨#[]⟩, .slice none 0 0, .slice none 0 0] 25))) := Lib.hid ((Below.refl _ _).alloc (Nat.le_refl _) _)
 have HZ := Lib.hid (four_new w (.int .u8 0) (.string ⟨#[]⟩) (.slice none 0 0) (.slice none 0 0))
 obtain ⟨c0, c1, c2, c3⟩ := (h.kept HA.out).cell
 clear h
 generalize (n.at_ place).getD absent = R at *
 generalize place.length = pl at *
 go_enter Tryz.func166, Tryz.ntmps166
 go_wp2_with fail
 refine (HBE.out _ HA.out).mono ?_
 rintro e w2 ⟨⟨vs, rfl, hvs⟩, hb2⟩
 have HZ2 := Lib.hid (HZ.out.kept hb2)
 have HB2 : Hid (Below w.heap.size w w2) := Lib.hid (HA.out.trans (hb2.mono HA.out.size))
 obtain ⟨p5, q5, c5, d5, rfl⟩ := nodeX_cells hvs
 have HVS := Lib.hid hvs
 clear hb2 hvs c0 c1 c2 c3
 obtain ⟨z0, z1, z2, z3⟩ := HZ2.out.cell
 obtain ⟨x0, x1, x2, x3⟩ := HZ2.out.open_
 go_wp2_with fail
 refine bodyPost_ret (v := .agg #[.int .u8 R.kind.toNat, .string R.text, .slice p5 R.names.length c5, .slice q5 R.kids.length d5]) (by simp [results, Tryz.results166, go_sem, z0, z1, z2, z3]) rfl ?_
 have hb9 := below_four HB2.out (Nat.le_refl _) (.int .u8 R.kind.toNat) (.string R.text) (.slice p5 R.names.length c5) (.slice q5 R.kids.length d5)
 exact ⟨⟨_, rfl, HVS.out.grown hb9⟩, hb9⟩

set_option maxRecDepth 100000 in
theorem fkind_any {w : World} {b : Nat} {n : Nd} {v0 v1 v2 v3 : Value} (h : TreeX w b n v0 v1 v2 v3) (hw : n.well = true) (hB : n.girth ≤ 200000000) {pv : Value} {place : List ByteArray} (hp : PlR w pv place) :
  Calls Tryz.prog 159 #[.pointer (some ⟨b, 0, none⟩), pv] w fun e w' => e = .returned (.int .u8 ((n.at_ place).getD absent).kind.toNat) ∧ Below w.heap.size w w' := by
 have HA := Lib.hid (fat_any h hw hB hp)
 obtain ⟨pp, pc, rfl, _, _, _⟩ := hp
 clear h
 generalize (n.at_ place).getD absent = R at *
 generalize place.length = pl at *
 go_enter Tryz.func159, Tryz.ntmps159
 go_wp2_with fail
 refine HA.out.mono ?_
 rintro e w2 ⟨⟨vs, rfl, hvs⟩, hb2⟩
 obtain ⟨p5, q5, c5, d5, rfl⟩ := nodeX_cells hvs
 have HB2 := Lib.hid hb2
 clear hvs hb2
 go_wp2_with fail
 go_ret
 exact ⟨rfl, HB2.out⟩

set_option maxRecDepth 100000 in
theorem ftext_any {w : World} {b : Nat} {n : Nd} {v0 v1 v2 v3 : Value} (h : TreeX w b n v0 v1 v2 v3) (hw : n.well = true) (hB : n.girth ≤ 200000000) {pv : Value} {place : List ByteArray} (hp : PlR w pv place) :
  Calls Tryz.prog 162 #[.pointer (some ⟨b, 0, none⟩), pv] w fun e w' => e = .returned (.string ((n.at_ place).getD absent).text) ∧ Below w.heap.size w w' := by
 have HA := Lib.hid (fat_any h hw hB hp)
 have hbk := at_girth (l := place) hB
 have hts : ((n.at_ place).getD absent).text.size ≤ 281474976710656 := by
  revert hbk
  cases (n.at_ place).getD absent with
  | mk a t l r =>
   intro hbk
   rw [Nd.girth] at hbk
   show t.size ≤ _
   omega
 obtain ⟨pp, pc, rfl, _, _, _⟩ := hp
 clear h hbk
 generalize (n.at_ place).getD absent = R at *
 generalize place.length = pl at *
 go_enter Tryz.func162, Tryz.ntmps162
 go_wp2_with fail
 refine HA.out.mono ?_
 rintro e w2 ⟨⟨vs, rfl, hvs⟩, hb2⟩
 obtain ⟨p5, q5, c5, d5, rfl⟩ := nodeX_cells hvs
 have HB2 := Lib.hid hb2
 clear hvs hb2
 go_wp2_with fail
 refine (sclone_any _ _ hts).mono ?_
 rintro e w3 ⟨rfl, hb3⟩
 have HB3 := Lib.hid hb3
 clear hb3
 go_wp2_with fail
 go_ret
 exact ⟨rfl, HB2.out.trans (HB3.out.mono HB2.out.size)⟩

set_option maxRecDepth 100000 in
theorem fempty_any {w : World} {b : Nat} {n : Nd} {v0 v1 v2 v3 : Value} (h : TreeX w b n v0 v1 v2 v3) (hw : n.well = true) (hB : n.girth ≤ 200000000) {pv : Value} {place : List ByteArray} (hp : PlR w pv place) :
  Calls Tryz.prog 158 #[.pointer (some ⟨b, 0, none⟩), pv] w fun e w' => e = .returned (.bool (decide (((n.at_ place).getD absent).kind = 2) && decide (((n.at_ place).getD absent).names.length = 0))) ∧ Below w.heap.size w w' := by
 have HA := Lib.hid (fat_any h hw hB hp)
 obtain ⟨pp, pc, rfl, _, _, _⟩ := hp
 clear h
 generalize (n.at_ place).getD absent = R at *
 generalize place.length = pl at *
 have e2 := beq_int R.kind 2
 rw [show ((2 : UInt8).toNat : Int) = 2 from rfl] at e2
 have hk : decide (R.kind = 2) = (R.kind == 2) := by rw [Bool.eq_iff_iff]; simp
 rw [hk]
 clear hk
 obtain ⟨bz, hbz, hbz'⟩ := zero_ways R.names.length
 rw [hbz']
 clear hbz'
 obtain ⟨kb, hkb⟩ : ∃ kb, (R.kind == 2) = kb := ⟨_, rfl⟩
 rw [hkb] at e2 ⊢
 clear hkb
 cases kb <;> cases bz
 all_goals
  go_enter Tryz.func158, Tryz.ntmps158
  go_wp2_with fail
  refine HA.out.mono ?_
  rintro e w2 ⟨⟨vs, rfl, hvs⟩, hb2⟩
  obtain ⟨p5, q5, c5, d5, rfl⟩ := nodeX_cells hvs
  have HB2 := Lib.hid hb2
  clear hvs hb2
  go_wp2_with fail
  go_ret
  exact ⟨rfl, HB2.out.alloc HB2.out.size _⟩

set_option maxRecDepth 100000 in
set_option maxHeartbeats 2000000 in
theorem froot_any {w : World} {b : Nat} {n : Nd} {v0 v1 v2 v3 : Value} (h : TreeX w b n v0 v1 v2 v3) (hw : n.well = true) (hB : n.girth ≤ 200000000) :
  Calls Tryz.prog 11 #[.pointer (some ⟨b, 0, none⟩)] w fun e w' => (∃ vs, e = .returned (.agg vs) ∧ NodeX w' (fun k => w.heap.size ≤ k ∧ k < w'.heap.size) vs.toList n) ∧ Below w.heap.size w w' := by
 have HCO : Hid (∀ wx, Below w.heap.size w wx → Calls Tryz.prog 24 #[.agg #[v0, v1, v2, v3]] wx fun e w' => (∃ us, e = .returned (.agg us) ∧ NodeX w' (fun b => wx.heap.size ≤ b ∧ b < w'.heap.size) us.toList n) ∧ Below wx.heap.size wx w') := Lib.hid fun wx hx => copyOf_any h.node.to wx hx hB (.inl hw)
 have HA : Hid (Below w.heap.size w (w.alloc (.cells #[.int .u8 0, .string ⟨#[]⟩, .slice none 0 0, .slice none 0 0] 25))) := Lib.hid ((Below.refl _ _).alloc (Nat.le_refl _) _)
 have HZ := Lib.hid (four_new w (.int .u8 0) (.string ⟨#[]⟩) (.slice none 0 0) (.slice none 0 0))
 obtain ⟨c0, c1, c2, c3⟩ := (h.kept HA.out).cell
 clear h
 go_enter Tryz.func11, Tryz.ntmps11
 go_wp2_with fail
 refine (HCO.out _ HA.out).mono ?_
 rintro e w2 ⟨⟨vs, rfl, hvs⟩, hb2⟩
 have HZ2 := Lib.hid (HZ.out.kept hb2)
 have HB2 : Hid (Below w.heap.size w w2) := Lib.hid (HA.out.trans (hb2.mono HA.out.size))
 have HS2 : Hid (w.heap.size + 1 ≤ w2.heap.size) := Lib.hid (by have := hb2.size; simp at this; omega)
 obtain ⟨p5, q5, c5, d5, rfl⟩ := nodeX_cells hvs
 have HVS := Lib.hid hvs
 clear hb2 hvs c0 c1 c2 c3
 obtain ⟨z0, z1, z2, z3⟩ := HZ2.out.cell
 obtain ⟨x0, x1, x2, x3⟩ := HZ2.out.open_
 go_wp2_with fail
 refine bodyPost_ret (v := .agg #[.int .u8 n.kind.toNat, .string n.text, .slice p5 n.names.length c5, .slice q5 n.kids.length d5]) (by simp [results, Tryz.results11, go_sem, z0, z1, z2, z3]) rfl ?_
 have hb9 := below_four HB2.out (Nat.le_refl _) (.int .u8 n.kind.toNat) (.string n.text) (.slice p5 n.names.length c5) (.slice q5 n.kids.length d5)
 refine ⟨⟨_, rfl, HVS.out.same fun b hb => ⟨?_, ?_⟩⟩, hb9⟩
 ·simp at hb
  rw [heap_setCell_other _ _ _ _ (by simp; omega), heap_setCell_other _ _ _ _ (by simp; omega), heap_setCell_other _ _ _ _ (by simp; omega), heap_setCell_other _ _ _ _ (by simp; omega)]
 ·simp at hb ⊢
  omega

set_option maxRecDepth 100000 in
set_option maxHeartbeats 2000000 in
theorem fnew_any {W : World} {cs : List Value} {c : Nd} (h : NodeR W cs c) (hB : c.girth ≤ 200000000) : ∀ w, Below W.heap.size W w →
  Calls Tryz.prog 7 #[.agg cs.toArray] w fun e w' => (if c.may then ∃ b v0 v1 v2 v3, e = .returned (.tuple #[.pointer (some ⟨b, 0, none⟩), .int .i64 0]) ∧ w.heap.size ≤ b ∧ TreeX w' b c v0 v1 v2 v3 ∧ NodeX w' (fun k => w.heap.size ≤ k ∧ k < w'.heap.size) [v0, v1, v2, v3] c else e = .returned (.tuple #[.pointer none, .int .i64 4])) ∧ Below w.heap.size w w' := by
 intro w hb
 have HMA : Hid (∀ wx, Below w.heap.size w wx → Calls Tryz.prog 23 #[.agg cs.toArray] wx fun e w' => e = .returned (.bool c.may) ∧ Below wx.heap.size wx w') := Lib.hid fun wx hx => may_any h wx (hb.trans (hx.mono hb.size))
 have HCO : Hid (c.may = true → ∀ wx, Below w.heap.size w wx → Calls Tryz.prog 24 #[.agg cs.toArray] wx fun e w' => (∃ us, e = .returned (.agg us) ∧ NodeX w' (fun b => wx.heap.size ≤ b ∧ b < w'.heap.size) us.toList c) ∧ Below wx.heap.size wx w') := Lib.hid fun hm wx hx => copyOf_any h wx (hb.trans (hx.mono hb.size)) hB (.inl (by unfold Nd.may at hm; simp at hm; exact hm.1.1.2))
 obtain ⟨p, q, cp, d, rfl⟩ := h.cells
 clear h hb
 generalize hmy : c.may = my at *
 clear hmy
 cases my with
 | false =>
  simp only [Bool.false_eq_true, if_false]
  go_enter Tryz.func7, Tryz.ntmps7
  go_wp2_with fail
  refine (HMA.out _ (box_self (Below.refl _ _))).mono ?_
  rintro e w2 ⟨rfl, hb2⟩
  have HB2 := Lib.hid (box_self (hb2.mono (by simp)))
  clear hb2
  go_wp2_with fail
  go_ret2
  exact ⟨rfl, HB2.out⟩
 | true =>
  simp only [if_true]
  go_enter Tryz.func7, Tryz.ntmps7
  go_wp2_with fail
  refine (HMA.out _ (box_self (Below.refl _ _))).mono ?_
  rintro e w2 ⟨rfl, hb2⟩
  have HB2 : Hid (Below (w.heap.size + 1) (w.alloc (.cells #[.int .u8 c.kind.toNat, .string c.text, .slice p c.names.length cp, .slice q c.kids.length d] 25)) w2) := Lib.hid (hb2.mono (by simp))
  clear hb2
  have c0 := box_cell HB2.out 0 rfl
  have c1 := box_cell HB2.out 1 rfl
  have c2 := box_cell HB2.out 2 rfl
  have c3 := box_cell HB2.out 3 rfl
  go_wp2_with fail
  refine (HCO.out (by trivial) _ (box_self HB2.out)).mono ?_
  rintro e w3 ⟨⟨vs, rfl, hvs⟩, hb3⟩
  obtain ⟨p5, q5, c5, d5, rfl⟩ := nodeX_cells hvs
  have HB3 : Hid (Below w.heap.size w w3) := Lib.hid ((box_self HB2.out).trans (hb3.mono (box_self HB2.out).size))
  have HVS := Lib.hid hvs
  have HS2 : Hid (w.heap.size + 1 ≤ w2.heap.size) := Lib.hid (by have := HB2.out.size; simp at this; omega)
  clear hb3 hvs c0 c1 c2 c3
  go_wp2_with fail
  go_ret2
  have hb9 := HB3.out.alloc HB3.out.size (.cells #[.int .u8 c.kind.toNat, .string c.text, .slice p5 c.names.length c5, .slice q5 c.kids.length d5] 54)
  have hg : ∀ k, k < w3.heap.size → (w3.alloc (.cells #[.int .u8 c.kind.toNat, .string c.text, .slice p5 c.names.length c5, .slice q5 c.kids.length d5] 54)).heap[k]? = w3.heap[k]? := fun k hk => Below.heap_alloc _ _ _ hk
  refine ⟨⟨w3.heap.size, _, _, _, _, rfl, HB3.out.size, ⟨heap_alloc_new w3 _, HVS.out.same fun k hk => ⟨hg k hk.2, by have := hk.2; omega⟩⟩, HVS.out.same fun k hk => ⟨hg k hk.2, by have := hk.1; have := HS2.out; omega, by have := hk.2; simp; omega⟩⟩, hb9⟩
end Go.Proofs.YtfilbknnpjbmcaaGreatDoor
