/- Walks: what is done to a tree: open, leads, Put, Del, Move, Copy of the program. -/
import Derived.Test.YtmofodaecakkfaaGreatKb31
namespace Go.Proofs.YtmofodaecakkfaaGreat
open Go.RowKit Px Nx
attribute [local go_sem] run_field_kind run_field_text

theorem kind_bool (R : Nd) (k : UInt8) : decide (R.kind = k) = (R.kind == k) := by rw [Bool.eq_iff_iff]; simp

set_option maxRecDepth 100000 in
set_option maxHeartbeats 2000000 in
theorem open_any {w : World} {b : Nat} {n : Nd} {v0 v1 v2 v3 : Value} (h : TreeX w b n v0 v1 v2 v3) (hw : n.well = true) (hB : n.girth ≤ 200000000) {pv : Value} {place : List ByteArray} (hp : PlR w pv place) :
    Calls Tryz.prog 147 #[.pointer (some ⟨b, 0, none⟩), pv] w fun e w' => e = .returned (.bool (openD n place)) ∧ Below w.heap.size w w' := by
  obtain ⟨p, c, rfl, hst, hlc, hcm⟩ := hp
  rcases List.eq_nil_or_concat place with rfl | ⟨l, x, rfl⟩
  · rw [openD_nil]
    clear h hst
    go_enter Tryz.func147, Tryz.ntmps147
    go_wp2_with fail
    go_ret
    exact ⟨rfl, Below.refl _ _⟩
  · rw [List.concat_eq_append] at *
    rw [openD_snoc]
    obtain ⟨bb, o, rfl, n0⟩ := name_cell hst (Below.refl _ _) (show l.length < (l ++ [x]).length by simp)
    have hx : (l ++ [x]).getD l.length ByteArray.empty = x := by simp
    rw [hx] at n0
    have HN := Lib.hid fun wx => name_any x wx
    have hlen : (l ++ [x]).length = l.length + 1 := by simp
    have HAT : Hid (∀ wx, Below w.heap.size w wx → Calls Tryz.prog 29 #[.pointer (some ⟨b, 0, none⟩), .slice (some ⟨bb, o, none⟩) l.length c] wx fun e w' => (∃ vs, e = .returned (.agg vs) ∧ NodeX w' (fun k => k ≠ b) vs.toList ((n.at_ l).getD absent)) ∧ Below wx.heap.size wx w') := Lib.hid fun wx hx =>
      fat_any (h.kept hx) hw hB (PlR.grown hx ⟨_, _, rfl, by have := strs_take hst l.length; simpa using this, by omega, hcm⟩)
    generalize hnb : nameL x.data.toList = nb at *
    generalize (n.at_ l).getD absent = R at *
    rw [hlen] at hlc ⊢
    clear h hst hx hlen hnb
    have hkw : IntKind.i64.wrap ((l.length : Nat) : Int) = l.length := Go.IntWalk.i64_in _ ⟨by omega, by unfold maxLen at hcm; omega⟩
    have hs : ((l.length + 1 : Nat) : Int) - 1 = l.length := by omega
    generalize hn1 : l.length + 1 = n1 at *
    generalize l.length = k at *
    have hkn : k < n1 := by omega
    have hkc : k ≤ c := by omega
    clear hn1
    have e2 := beq_int R.kind 2
    rw [show ((2 : UInt8).toNat : Int) = 2 from rfl] at e2
    rw [kind_bool]
    obtain ⟨kb, hkb⟩ : ∃ kb, (R.kind == 2) = kb := ⟨_, rfl⟩
    rw [hkb] at e2 ⊢
    clear hkb
    cases nb <;> cases kb
    all_goals
      go_enter Tryz.func147, Tryz.ntmps147
      go_wp2_with fail
      refine (HN.out _).mono ?_
      rintro e w1 ⟨rfl, hb1⟩
      have HB1 := Lib.hid hb1
      clear hb1
      go_wp2_with fail
    all_goals try (go_ret; exact ⟨rfl, HB1.out⟩)
    all_goals
      refine (HAT.out _ HB1.out).mono ?_
      rintro e w2 ⟨⟨vs, rfl, hvs⟩, hb2⟩
      have HB2 : Hid (Below w.heap.size w w2) := Lib.hid (HB1.out.trans (hb2.mono HB1.out.size))
      obtain ⟨p5, q5, c5, d5, rfl⟩ := nodeX_cells hvs
      clear hvs hb2
      go_wp2_with fail
      go_ret
      exact ⟨rfl, HB2.out⟩

theorem or_new {w' : World} {S : Nat → Prop} {b B B' : Nat} {n : Nd} (hB : B ≤ B') (h : ∃ x0 x1 x2 x3, TreeS w' (fun k => (S k ∨ B ≤ k) ∨ B' ≤ k) b n x0 x1 x2 x3) : ∃ x0 x1 x2 x3, TreeS w' (fun k => S k ∨ B ≤ k) b n x0 x1 x2 x3 := by
  obtain ⟨x0, x1, x2, x3, h⟩ := h
  exact ⟨x0, x1, x2, x3, h.weak (fun k hk => hk.elim id (fun h => .inr (Nat.le_trans hB h))) (fun hh => h.off (.inl hh))⟩
theorem TreeS.new {w w' : World} {S : Nat → Prop} {b : Nat} {n : Nd} {v0 v1 v2 v3 : Value} (h : TreeS w S b n v0 v1 v2 v3) (hb : Below w.heap.size w w') {B : Nat} (hB : b < B) : TreeS w' (fun k => S k ∨ B ≤ k) b n v0 v1 v2 v3 := (h.kept hb).weak (fun _ hk => .inl hk) (fun hh => hh.elim h.off (by omega))
/-- Behind becomes: do. -/
theorem do_behind {w : World} {S : Nat → Prop} {b : Nat} {n : Nd} {v0 v1 v2 v3 : Value} (h : TreeS w S b n v0 v1 v2 v3) (hw : n.well = true) (hB : n.girth ≤ 200000000) {vs : Array Value} {y : Nd} (hy : NodeX w S vs.toList y) {pv : Value} {place : List ByteArray} (hp : PlR w pv place) (hnb : namesBulk place ≤ 200000000) :
    Calls Tryz.prog 145 #[.pointer (some ⟨b, 0, none⟩), pv, .func (.func 149) #[] #[.pointer (some ⟨w.heap.size, 0, none⟩)]] (w.alloc (.cells vs 25)) fun e w' => e = .returned (.tuple #[]) ∧ (∃ x0 x1 x2 x3, TreeS w' (fun k => S k ∨ w.heap.size ≤ k) b (changedD (fun _ => y) place n) x0 x1 x2 x3) ∧ w.grownBy w' (some b) := by
  obtain ⟨p, c, rfl, hst, hlc, hcm⟩ := hp
  obtain ⟨p1, q1, c1, d1, rfl⟩ := nodeX_cells hy
  have hal : Below w.heap.size w (w.alloc (.cells #[.int .u8 y.kind.toNat, .string y.text, .slice p1 y.names.length c1, .slice q1 y.kids.length d1] 25)) := (Below.refl _ _).alloc (Nat.le_refl _) _
  have hlt := h.x.lt
  have h1 : TreeS (w.alloc (.cells #[.int .u8 y.kind.toNat, .string y.text, .slice p1 y.names.length c1, .slice q1 y.kids.length d1] 25)) (fun k => S k ∧ k < w.heap.size) b n v0 v1 v2 v3 := ⟨(h.kept hal).blk, NodeX.grown h.node.lt hal, fun hh => h.off hh.1⟩
  refine (doB h1 hw hB (pb := w.heap.size) (y := y) (by omega) (by simp) (fun hh => by have := hh.2; omega) (four_new w _ _ _ _) (NodeX.grown hy.lt hal) (hst.grown hal) hlc hcm ?_ hnb).mono ?_
  · intro a ha hn
    obtain ⟨bb, o, he, hc⟩ := hst 0 (by omega)
    obtain rfl : a = ⟨bb, o, none⟩ := Option.some.inj (ha.symm.trans he)
    have := block_of_cell hc
    show bb ≠ _
    have h2 : bb < w.heap.size := this
    omega
  · rintro e w' ⟨he, ⟨x0, x1, x2, x3, ht⟩, hb⟩
    refine ⟨he, ⟨x0, x1, x2, x3, ht.weak (fun k hk => ?_) (fun hh => hh.elim h.off (by omega))⟩, but_new hal hb⟩
    rcases hk with hk | hk
    · exact .inl hk.1
    · right
      simp at hk
      omega

set_option maxRecDepth 100000 in
set_option maxHeartbeats 4000000 in
theorem put_s {w : World} {S : Nat → Prop} {b : Nat} {n : Nd} {v0 v1 v2 v3 : Value} (h : TreeS w S b n v0 v1 v2 v3) (hw : n.well = true) (hB : n.girth ≤ 200000000) {pv : Value} {place : List ByteArray} (hp : PlR w pv place) (hnb : namesBulk place ≤ 200000000) {cs : List Value} {x : Nd} (hx : NodeR w cs x) (hxb : x.girth ≤ 200000000) :
    Calls Tryz.prog 143 #[.pointer (some ⟨b, 0, none⟩), pv, .agg cs.toArray] w fun e w' => e = .returned (.tuple #[]) ∧ (∃ x0 x1 x2 x3, TreeS w' (fun k => S k ∨ w.heap.size ≤ k) b (putD n place x) x0 x1 x2 x3) ∧ w.grownBy w' (some b) := by
  have HOP : Hid (∀ wx, Below w.heap.size w wx → Calls Tryz.prog 147 #[.pointer (some ⟨b, 0, none⟩), pv] wx fun e w' => e = .returned (.bool (openD n place)) ∧ Below wx.heap.size wx w') := Lib.hid fun wx hx => open_any (h.x.kept hx) hw hB (hp.grown hx)
  have HWE : Hid (∀ wx, Below w.heap.size w wx → Calls Tryz.prog 11 #[.agg cs.toArray] wx fun e w' => e = .returned (.bool x.well) ∧ Below wx.heap.size wx w') := Lib.hid fun wx hb => well_any hx wx hb
  have HCO : Hid (x.well = true → ∀ wx, Below w.heap.size w wx → Calls Tryz.prog 20 #[.agg cs.toArray] wx fun e w' => (∃ vs, e = .returned (.agg vs) ∧ NodeX w' (fun b => wx.heap.size ≤ b ∧ b < w'.heap.size) vs.toList x) ∧ Below wx.heap.size wx w') := Lib.hid fun hm wx hb => copyOf_any hx wx hb hxb (.inl hm)
  have HDO := Lib.hid fun (wx : World) (hb : Below w.heap.size w wx) (vs : Array Value) (hy : NodeX wx (fun k => S k ∨ w.heap.size ≤ k) vs.toList x) => do_behind (h.new hb h.x.lt) hw hB hy (hp.grown hb) hnb
  have HT := Lib.hid h
  have hbl := h.x.lt
  obtain ⟨p1, q1, c1, d1, rfl⟩ := hx.cells
  obtain ⟨pp, pc, rfl, _, _, _⟩ := hp
  unfold putD
  clear h hx
  generalize openD n place = ob at *
  generalize hwx : x.well = wb at *
  clear hwx
  generalize place.length = k at *
  cases ob
  · go_enter Tryz.func143, Tryz.ntmps143
    go_wp2_with fail
    refine (HOP.out _ (box_self (Below.refl _ _))).mono ?_
    rintro e w1 ⟨rfl, hb1⟩
    have HB1 : Hid (Below (w.heap.size + 1) (w.alloc (.cells #[.int .u8 x.kind.toNat, .string x.text, .slice p1 x.names.length c1, .slice q1 x.kids.length d1] 25)) w1) := Lib.hid (hb1.mono (by simp))
    clear hb1
    have c0 := box_cell HB1.out 0 rfl
    have c1x := box_cell HB1.out 1 rfl
    have c2x := box_cell HB1.out 2 rfl
    have c3 := box_cell HB1.out 3 rfl
    go_wp2_with fail
    go_end0
    exact ⟨rfl, ⟨_, _, _, _, HT.out.new (box_self HB1.out) HT.out.x.lt⟩, grown_of_below (box_self HB1.out)⟩
  cases wb
  · go_enter Tryz.func143, Tryz.ntmps143
    go_wp2_with fail
    refine (HOP.out _ (box_self (Below.refl _ _))).mono ?_
    rintro e w1 ⟨rfl, hb1⟩
    have HB1 : Hid (Below (w.heap.size + 1) (w.alloc (.cells #[.int .u8 x.kind.toNat, .string x.text, .slice p1 x.names.length c1, .slice q1 x.kids.length d1] 25)) w1) := Lib.hid (hb1.mono (by simp))
    clear hb1
    have c0 := box_cell HB1.out 0 rfl
    have c1x := box_cell HB1.out 1 rfl
    have c2x := box_cell HB1.out 2 rfl
    have c3 := box_cell HB1.out 3 rfl
    go_wp2_with fail
    refine (HWE.out _ (box_self HB1.out)).mono ?_
    rintro e w2 ⟨rfl, hb2⟩
    have HB2 : Hid (Below (w.heap.size + 1) (w.alloc (.cells #[.int .u8 x.kind.toNat, .string x.text, .slice p1 x.names.length c1, .slice q1 x.kids.length d1] 25)) w2) := Lib.hid (HB1.out.trans (hb2.mono (by have := HB1.out.size; simp at this; omega)))
    clear hb2 c0 c1x c2x c3
    have c0 := box_cell HB2.out 0 rfl
    have c1x := box_cell HB2.out 1 rfl
    have c2x := box_cell HB2.out 2 rfl
    have c3 := box_cell HB2.out 3 rfl
    go_wp2_with fail
    go_end0
    exact ⟨rfl, ⟨_, _, _, _, HT.out.new (box_self HB2.out) HT.out.x.lt⟩, grown_of_below (box_self HB2.out)⟩
  · go_enter Tryz.func143, Tryz.ntmps143
    go_wp2_with fail
    refine (HOP.out _ (box_self (Below.refl _ _))).mono ?_
    rintro e w1 ⟨rfl, hb1⟩
    have HB1 : Hid (Below (w.heap.size + 1) (w.alloc (.cells #[.int .u8 x.kind.toNat, .string x.text, .slice p1 x.names.length c1, .slice q1 x.kids.length d1] 25)) w1) := Lib.hid (hb1.mono (by simp))
    clear hb1
    have c0 := box_cell HB1.out 0 rfl
    have c1x := box_cell HB1.out 1 rfl
    have c2x := box_cell HB1.out 2 rfl
    have c3 := box_cell HB1.out 3 rfl
    go_wp2_with fail
    refine (HWE.out _ (box_self HB1.out)).mono ?_
    rintro e w2 ⟨rfl, hb2⟩
    have HB2 : Hid (Below (w.heap.size + 1) (w.alloc (.cells #[.int .u8 x.kind.toNat, .string x.text, .slice p1 x.names.length c1, .slice q1 x.kids.length d1] 25)) w2) := Lib.hid (HB1.out.trans (hb2.mono (by have := HB1.out.size; simp at this; omega)))
    clear hb2 c0 c1x c2x c3
    have c0 := box_cell HB2.out 0 rfl
    have c1x := box_cell HB2.out 1 rfl
    have c2x := box_cell HB2.out 2 rfl
    have c3 := box_cell HB2.out 3 rfl
    go_wp2_with fail
    refine (HCO.out (by trivial) _ (box_self HB2.out)).mono ?_
    rintro e w3 ⟨⟨vs, rfl, hvs⟩, hb3⟩
    have HB3 : Hid (Below w.heap.size w w3) := Lib.hid ((box_self HB2.out).trans (hb3.mono (box_self HB2.out).size))
    have hs2 := (box_self HB2.out).size
    have HVS : Hid (NodeX w3 (fun k => S k ∨ w.heap.size ≤ k) vs.toList x) := Lib.hid (hvs.same fun k hk => ⟨rfl, .inr (by have := hk.1; omega)⟩)
    clear hvs hb3 c0 c1x c2x c3
    go_wp2_with fail
    refine (becomes_any HVS.out).mono ?_
    rintro e w4 ⟨rfl, rfl⟩
    go_wp2_with fail
    refine (HDO.out _ HB3.out _ HVS.out).mono ?_
    rintro e w5 ⟨rfl, ht, hb⟩
    have HX := Lib.hid (or_new HB3.out.size ht)
    have HL := Lib.hid hb
    clear ht hb
    go_wp2_with fail
    go_end0
    exact ⟨rfl, HX.out, by_below HB3.out HL.out⟩

set_option maxRecDepth 100000 in
set_option maxHeartbeats 4000000 in
theorem del_s {w : World} {S : Nat → Prop} {b : Nat} {n : Nd} {v0 v1 v2 v3 : Value} (h : TreeS w S b n v0 v1 v2 v3) (hw : n.well = true) (hB : n.girth ≤ 200000000) {pv : Value} {place : List ByteArray} (hp : PlR w pv place) (hnb : namesBulk place ≤ 200000000) :
    Calls Tryz.prog 141 #[.pointer (some ⟨b, 0, none⟩), pv] w fun e w' => e = .returned (.tuple #[]) ∧ (∃ x0 x1 x2 x3, TreeS w' (fun k => S k ∨ w.heap.size ≤ k) b (delD n place) x0 x1 x2 x3) ∧ w.grownBy w' (some b) := by
  have HDO := Lib.hid (do_behind h hw hB (absent_X w S) hp hnb (vs := #[.int .u8 0, .string ⟨#[]⟩, .slice none 0 0, .slice none 0 0]))
  have HBE := Lib.hid (becomes_any (absent_X w S) (vs := #[.int .u8 0, .string ⟨#[]⟩, .slice none 0 0, .slice none 0 0]))
  have HT := Lib.hid h
  obtain ⟨pp, pc, rfl, _, _, _⟩ := hp
  unfold delD
  clear h
  by_cases hk : place = []
  · subst hk
    rw [if_pos rfl]
    clear HDO HBE
    go_enter Tryz.func141, Tryz.ntmps141
    go_wp2_with fail
    go_end0
    exact ⟨rfl, ⟨_, _, _, _, HT.out.new (Below.refl _ _) HT.out.x.lt⟩, grown_of_below (Below.refl _ _)⟩
  · rw [if_neg hk]
    have hlp : 0 < place.length := List.length_pos_iff.2 hk
    generalize place.length = k at *
    go_enter Tryz.func141, Tryz.ntmps141
    go_wp2_with fail
    refine HBE.out.mono ?_
    rintro e w4 ⟨rfl, rfl⟩
    go_wp2_with fail
    refine HDO.out.mono ?_
    rintro e w5 ⟨rfl, ht, hb⟩
    have HX := Lib.hid ht
    have HL := Lib.hid hb
    clear ht hb
    go_wp2_with fail
    go_end0
    exact ⟨rfl, HX.out, HL.out⟩

end Go.Proofs.YtmofodaecakkfaaGreat
