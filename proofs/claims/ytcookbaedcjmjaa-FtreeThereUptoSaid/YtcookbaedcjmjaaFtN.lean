/- Walks over nodes: the node at a place, of the program. -/
import Derived.Test.YtcookbaedcjmjaaFtM
namespace Go.Proofs.Ytcookbaedcjmjaa
open Go.RowKit Px Nx

namespace Nx
theorem at_plain {n : Nd} {l : List ByteArray} (h : n.well = true) : ((n.at_ l).getD absent).well = true ∨ (((n.at_ l).getD absent).names = [] ∧ ((n.at_ l).getD absent).kids = []) := by
  cases hn : n.at_ l with
  | none => exact .inr ⟨rfl, rfl⟩
  | some y => exact .inl (well_at h hn)
theorem well_kind {n : Nd} (h : n.well = true) : n.kind ≠ 0 := by
  cases n with
  | mk kind text names kids =>
    intro e
    obtain rfl : kind = 0 := e
    rw [Nd.well] at h
    simp at h
theorem at_some {n : Nd} {l : List ByteArray} (h : n.well = true) : ((((n.at_ l).getD absent).kind.toNat : Int) != 0) = (n.at_ l).isSome := by
  cases hn : n.at_ l with
  | none => rfl
  | some y =>
    have hk := well_kind (well_at h hn)
    show (((y.kind.toNat : Int)) != 0) = true
    rw [bne_iff_ne]
    intro e
    exact hk (UInt8.toNat_inj.1 (by show _ = 0; omega))
theorem at_bulk {n : Nd} {l : List ByteArray} (h : n.bulk ≤ 2000000) : ((n.at_ l).getD absent).bulk ≤ 2000000 := by
  cases hn : n.at_ l with
  | none => decide
  | some y => exact Nat.le_trans (bulk_at_all hn) h
/-- What At tells. -/
def Nd.atW (n : Nd) (l : List ByteArray) : Option Nd := if n.well then n.at_ l else .none
end Nx
theorem absent_X (W : World) (S : Nat → Prop) : NodeX W S [.int .u8 0, .string ByteArray.empty, .slice none 0 0, .slice none 0 0] absent :=
  .mk 0 ByteArray.empty [] [] none none 0 0 (fun _ => []) (Nat.le_refl _) (Nat.zero_le _) (fun i hi => absurd hi (Nat.not_lt_zero _)) (fun a ha _ => by cases ha) (Nat.le_refl _) (Nat.zero_le _) (fun i hi => absurd hi (Nat.not_lt_zero _)) (fun a ha _ => by cases ha) (fun i x hx => by simp at hx)

set_option maxRecDepth 100000 in
set_option maxHeartbeats 4000000 in
theorem at_x {W : World} {cs : List Value} {c : Nd} (h : NodeR W cs c) (hB : c.bulk ≤ 2000000) {pv : Value} {place : List ByteArray} (hp : PlR W pv place) : ∀ w, Below W.heap.size W w →
    Calls Try.prog 37 #[.agg cs.toArray, pv] w fun e w' => (∃ vs b, e = .returned (.tuple #[.agg vs, .bool b]) ∧ NodeX w' (fun b => w.heap.size ≤ b) vs.toList ((c.atW place).getD absent) ∧ b = (c.atW place).isSome) ∧ Below w.heap.size w w' := by
  intro w hb
  have HWE : Hid (∀ wx, Below w.heap.size w wx → Calls Try.prog 14 #[.agg cs.toArray] wx fun e w' => e = .returned (.bool c.well) ∧ Below wx.heap.size wx w') := Lib.hid fun wx hx => well_any h wx (hb.trans (hx.mono hb.size))
  have HBE : Hid (c.well = true → ∀ wx, Below w.heap.size w wx → Calls Try.prog 73 #[.agg cs.toArray, pv] wx fun e w' => (∃ vs, e = .returned (.agg vs) ∧ NodeR W vs.toList ((c.at_ place).getD absent)) ∧ Below wx.heap.size wx w') := Lib.hid fun hw wx hx => below_any h hw hB hp wx (hb.trans (hx.mono hb.size))
  have HW := Lib.hid hb
  obtain ⟨p1, q1, c1, d1, rfl⟩ := h.cells
  obtain ⟨pp, pc, rfl, _, _, _⟩ := hp
  have HATW : Hid (c.atW place = if c.well then c.at_ place else .none) := Lib.hid rfl
  clear h hb
  generalize c.kind.toNat = k1 at *
  generalize c.text = t1 at *
  generalize c.names.length = n1 at *
  generalize c.kids.length = m1 at *
  generalize place.length = pl at *
  cases hcw : c.well with
  | false =>
    rw [hcw] at HWE HATW
    have HV : Hid (c.atW place = .none) := Lib.hid HATW.out
    clear HBE HATW
    go_enter Try.func37, Try.ntmps37
    go_wp2_with fail
    refine (HWE.out _ (by go_grown)).mono ?_
    rintro e w2 ⟨rfl, hb2⟩
    have HB2 : Hid (Below w.heap.size w w2) := Lib.hid ((box2_self (Below.refl _ _)).trans (hb2.mono (by simp <;> omega)))
    have HZ : Hid (Four w2 (w.heap.size + 1) (.int .u8 0) (.string ⟨#[]⟩) (.slice none 0 0) (.slice none 0 0)) := Lib.hid (Four.kept (by have := four_new (w.alloc (.cells #[.int .u8 k1, .string t1, .slice p1 n1 c1, .slice q1 m1 d1] 26)) (.int .u8 0) (.string ⟨#[]⟩) (.slice none 0 0) (.slice none 0 0); simpa using this) hb2)
    clear hb2
    obtain ⟨z0, z1, z2, z3⟩ := HZ.out.cell
    obtain ⟨x0, x1, x2, x3⟩ := HZ.out.open_
    go_wp2_with fail
    refine bodyPost_ret (v := .tuple #[.agg #[.int .u8 0, .string ⟨#[]⟩, .slice none 0 0, .slice none 0 0], .bool false]) (by simp [results, Try.results37, go_sem, z0, z1, z2, z3]) rfl ?_
    exact ⟨⟨_, _, rfl, by rw [HV.out]; exact absent_X _ _, by rw [HV.out]; rfl⟩, below_four HB2.out (by omega) _ _ _ _⟩
  | true =>
    rw [hcw] at HWE HATW
    have HV : Hid (c.atW place = c.at_ place) := Lib.hid HATW.out
    have HBL := Lib.hid (HBE.out hcw)
    have hpl := at_plain (l := place) hcw
    have HSOME := Lib.hid (at_some (l := place) hcw)
    have hbk := at_bulk (l := place) hB
    clear HBE HATW hcw
    go_enter Try.func37, Try.ntmps37
    go_wp2_with fail
    refine (HWE.out _ (by go_grown)).mono ?_
    rintro e w2 ⟨rfl, hb2⟩
    have HB2 : Hid (Below w.heap.size w w2) := Lib.hid ((box2_self (Below.refl _ _)).trans (hb2.mono (by simp <;> omega)))
    have HX : Hid (Four w2 w.heap.size (.int .u8 k1) (.string t1) (.slice p1 n1 c1) (.slice q1 m1 d1)) := Lib.hid (Four.kept (four_first w _ _ _ _ _) hb2)
    have HZ : Hid (Four w2 (w.heap.size + 1) (.int .u8 0) (.string ⟨#[]⟩) (.slice none 0 0) (.slice none 0 0)) := Lib.hid (Four.kept (by have := four_new (w.alloc (.cells #[.int .u8 k1, .string t1, .slice p1 n1 c1, .slice q1 m1 d1] 26)) (.int .u8 0) (.string ⟨#[]⟩) (.slice none 0 0) (.slice none 0 0); simpa using this) hb2)
    have hs2 := hb2.size
    clear hb2
    obtain ⟨y0, y1, y2, y3⟩ := HX.out.cell
    go_wp2_with fail
    refine (HBL.out _ HB2.out).mono ?_
    rintro e w3 ⟨⟨vs, rfl, hvs⟩, hb3⟩
    have HCO : Hid (∀ wx, Below w3.heap.size w3 wx → Calls Try.prog 59 #[.agg vs] wx fun e w' => (∃ us, e = .returned (.agg us) ∧ NodeX w' (fun b => wx.heap.size ≤ b ∧ b < w'.heap.size) us.toList ((c.at_ place).getD absent)) ∧ Below wx.heap.size wx w') := Lib.hid fun wx hx => by
      have hold : Below W.heap.size W w3 := HW.out.trans ((HB2.out.trans (hb3.mono HB2.out.size)).mono HW.out.size)
      exact copyOf_any hvs wx (hold.trans (hx.mono hold.size)) hbk hpl
    obtain ⟨p2, q2, c2, d2, hvs2⟩ := hvs.cells
    have hvs3 : vs = #[.int .u8 ((c.at_ place).getD absent).kind.toNat, .string ((c.at_ place).getD absent).text, .slice p2 ((c.at_ place).getD absent).names.length c2, .slice q2 ((c.at_ place).getD absent).kids.length d2] := by rw [← Array.toList_inj, hvs2]
    subst hvs3
    have HB3 : Hid (Below w.heap.size w w3) := Lib.hid (HB2.out.trans (hb3.mono HB2.out.size))
    have HZ3 := Lib.hid (HZ.out.kept hb3)
    have hs3 := hb3.size
    clear hb3 hvs hvs2 y0 y1 y2 y3 hpl hbk HBL HWE HX HZ
    go_upto_region 4 with fail
    generalize hR : (c.at_ place).getD absent = R at *
    have HRR := Lib.hid hR
    clear hR
    have HZR := Lib.hid (HZ3.out.alloc (.cells #[.int .u8 R.kind.toNat, .string R.text, .slice p2 R.names.length c2, .slice q2 R.kids.length d2] 26))
    have HFR := Lib.hid (four_new w3 (.int .u8 R.kind.toNat) (.string R.text) (.slice p2 R.names.length c2) (.slice q2 R.kids.length d2))
    have HBR := Lib.hid (HB3.out.alloc HB3.out.size (.cells #[.int .u8 R.kind.toNat, .string R.text, .slice p2 R.names.length c2, .slice q2 R.kids.length d2] 26))
    have HCR : Hid (∀ wx, Below (w3.alloc (.cells #[.int .u8 R.kind.toNat, .string R.text, .slice p2 R.names.length c2, .slice q2 R.kids.length d2] 26)).heap.size (w3.alloc (.cells #[.int .u8 R.kind.toNat, .string R.text, .slice p2 R.names.length c2, .slice q2 R.kids.length d2] 26)) wx → Calls Try.prog 59 #[.agg #[.int .u8 R.kind.toNat, .string R.text, .slice p2 R.names.length c2, .slice q2 R.kids.length d2]] wx fun e w' => (∃ us, e = .returned (.agg us) ∧ NodeX w' (fun b => wx.heap.size ≤ b ∧ b < w'.heap.size) us.toList R) ∧ Below wx.heap.size wx w') := Lib.hid fun wx hx =>
      HCO.out wx (((Below.refl _ _).alloc (Nat.le_refl _) _).trans (hx.mono (by simp)))
    have hgw : w.heap.size + 2 ≤ w3.heap.size := by simp at hs2; omega
    have hsr : w3.heap.size + 1 ≤ (w3.alloc (.cells #[.int .u8 R.kind.toNat, .string R.text, .slice p2 R.names.length c2, .slice q2 R.kids.length d2] 26)).heap.size := by simp
    clear HCO HB3 HZ3
    generalize (w3.alloc (.cells #[.int .u8 R.kind.toNat, .string R.text, .slice p2 R.names.length c2, .slice q2 R.kids.length d2] 26)) = wr at *
    obtain ⟨s0, s1, s2, s3⟩ := HFR.out.cell
    generalize w3.heap.size = G at *
    refine wp_region_held_drew (S := (fun wx => wx.cell? ⟨G, 0, none⟩ = some (.int .u8 R.kind.toNat) ∧ wx.cell? ⟨G, 1, none⟩ = some (.string R.text) ∧ wx.cell? ⟨G, 2, none⟩ = some (.slice p2 R.names.length c2) ∧ wx.cell? ⟨G, 3, none⟩ = some (.slice q2 R.kids.length d2))) (by kernel_rfl) ⟨s0, s1, s2, s3⟩ (fun hHeld => ?_)
    refine wpAnyH_take (i := 0) (oi := { dst := some 14, op := Op.load 26 (Operand.tmp 6), type := 26, pos := "node.go:82", after := #[], guard := none }) (v := ?_) rfl (by kernel_rfl) (by kernel_rfl) (by kernel_rfl) (fun _ _ _ h => h) (Or.inl ⟨by rfl, ?_⟩) (by assumption) ?_
    rotate_left
    · (intro w hSw; (try dsimp only at hSw); go_simp; try with_reducible rfl)
    try simp only [Act.put, List.setIfInBounds_toArray, List.set_cons_zero, List.set_cons_succ]
    refine wpAnyH_take (i := 2) (oi := { dst := some 16, op := Op.fieldAddr 26 (Operand.tmp 6) 0, type := 0, pos := "node.go:82", after := #[{ on := 5, ground := Ground.gcOnly Departure.lateStores }], guard := none }) (v := ?_) rfl (by kernel_rfl) (by kernel_rfl) (by kernel_rfl) (fun _ _ _ h => h) (Or.inl ⟨by rfl, ?_⟩) (by assumption) ?_
    rotate_left
    · (intro w hSw; (try dsimp only at hSw); go_simp; try with_reducible rfl)
    try simp only [Act.put, List.setIfInBounds_toArray, List.set_cons_zero, List.set_cons_succ]
    refine wpAnyH_take (i := 3) (oi := { dst := some 17, op := Op.load 5 (Operand.tmp 16), type := 5, pos := "node.go:82", after := #[{ on := 2, ground := Ground.data }, { on := 5, ground := Ground.gcOnly Departure.lateStores }], guard := none }) (v := ?_) rfl (by kernel_rfl) (by kernel_rfl) (by kernel_rfl) (fun _ _ _ h => h) (Or.inl ⟨by rfl, ?_⟩) (by assumption) ?_
    rotate_left
    · (intro w hSw; (try dsimp only at hSw); go_simp; try with_reducible rfl)
    try simp only [Act.put, List.setIfInBounds_toArray, List.set_cons_zero, List.set_cons_succ]
    refine wpAnyH_take (i := 4) (oi := { dst := some 18, op := Op.binOp BinOp.neq 5 (Operand.tmp 17) (Operand.const (Value.int IntKind.u8 0)) 5, type := 4, pos := "node.go:82", after := #[{ on := 3, ground := Ground.data }, { on := 5, ground := Ground.gcOnly Departure.lateStores }], guard := none }) (v := ?_) rfl (by kernel_rfl) (by kernel_rfl) (by kernel_rfl) (fun _ _ _ h => h) (Or.inl ⟨by rfl, ?_⟩) (by assumption) ?_
    rotate_left
    · (intro w hSw; (try dsimp only at hSw); go_simp; try with_reducible rfl)
    try simp only [Act.put, List.setIfInBounds_toArray, List.set_cons_zero, List.set_cons_succ]
    refine wpAnyH_ready (rs := [1]) (by kernel_rfl) (by simp) ?_
    refine AllReadyH.cons (o := { dst := some 15, op := Op.call { callee := Callee.value (Operand.func 59), args := #[Operand.tmp 14], argTypes := #[26] }, type := 26, pos := "node.go:82", after := #[{ on := 0, ground := Ground.data }], guard := none }) rfl (fun K hK => ?_) AllReadyH.nil
    go_simp
    (go_at_call 59; refine (HCR.out _ (Below.refl _ _).drew).mono ?_; rintro e w4 ⟨⟨us, rfl, hus⟩, hb4⟩)
    have HS4 : Hid ((fun wx => wx.cell? ⟨G, 0, none⟩ = some (.int .u8 R.kind.toNat) ∧ wx.cell? ⟨G, 1, none⟩ = some (.string R.text) ∧ wx.cell? ⟨G, 2, none⟩ = some (.slice p2 R.names.length c2) ∧ wx.cell? ⟨G, 3, none⟩ = some (.slice q2 R.kids.length d2)) w4) := Lib.hid (by
      obtain ⟨s0, s1, s2, s3⟩ := hHeld
      exact ⟨cell_kept hb4 s0, cell_kept hb4 s1, cell_kept hb4 s2, cell_kept hb4 s3⟩)
    have HB4 : Hid (Below wr.heap.size wr w4) := Lib.hid ((Below.refl _ _).drew.trans hb4)
    have HN4 : Hid (NodeX w4 (fun b => wr.heap.size ≤ b ∧ b < w4.heap.size) us.toList R) := Lib.hid hus
    have HZ4 := Lib.hid (HZR.out.kept HB4.out)
    obtain ⟨p5, q5, c5, d5, rfl⟩ := nodeX_cells hus
    clear hb4 hus
    go_wp2_with fail
    refine hK.out _ _ (by exact HS4.out) (fun hHeld => ?_)
    clear hK K
    try simp only [Act.put, List.setIfInBounds_toArray, List.set_cons_zero, List.set_cons_succ]
    refine wpAnyH_ready (rs := [5]) (by kernel_rfl) (by simp) ?_
    refine AllReadyH.cons (o := { dst := none, op := Op.store 26 (Operand.tmp 4) (Operand.tmp 15), type := 0, pos := "node.go:82", after := #[{ on := 1, ground := Ground.data }, { on := 1, ground := Ground.chain }, { on := 0, ground := Ground.phase }, { on := 1, ground := Ground.phase }, { on := 2, ground := Ground.textOnly Departure.lateStores }, { on := 3, ground := Ground.textOnly Departure.lateStores }, { on := 4, ground := Ground.textOnly Departure.lateStores }], guard := none }) rfl (fun K hK => ?_) AllReadyH.nil
    obtain ⟨z0, z1, z2, z3⟩ := HZ4.out.cell
    obtain ⟨x0, x1, x2, x3⟩ := HZ4.out.open_
    clear hHeld
    go_simp
    go_wp2_with fail
    refine hK.out _ _ (by (obtain ⟨s0, s1, s2, s3⟩ := HS4.out; exact ⟨far_four s0 (by omega), far_four s1 (by omega), far_four s2 (by omega), far_four s3 (by omega)⟩)) (fun hHeld => ?_)
    clear hK K
    try simp only [Act.put, List.setIfInBounds_toArray, List.set_cons_zero, List.set_cons_succ]
    refine wpAnyH_take (i := 6) (oi := { dst := some 5, op := Op.assign (Operand.tmp 18), type := 4, pos := "node.go:82", after := #[{ on := 4, ground := Ground.data }, { on := 5, ground := Ground.chain }, { on := 0, ground := Ground.phase }, { on := 1, ground := Ground.phase }, { on := 2, ground := Ground.phase }, { on := 3, ground := Ground.phase }, { on := 4, ground := Ground.phase }, { on := 5, ground := Ground.phase }], guard := none }) (v := ?_) rfl (by kernel_rfl) (by kernel_rfl) (by kernel_rfl) (fun _ _ _ h => h) (Or.inl ⟨by rfl, ?_⟩) (by assumption) ?_
    rotate_left
    · (intro w hSw; (try dsimp only at hSw); go_simp; try with_reducible rfl)
    try simp only [Act.put, List.setIfInBounds_toArray, List.set_cons_zero, List.set_cons_succ]
    refine wpAnyH_done (by kernel_rfl) ?_ _
    go_wp2_with fail
    refine bodyPost_ret (v := .tuple #[.agg #[.int .u8 R.kind.toNat, .string R.text, .slice p5 R.names.length c5, .slice q5 R.kids.length d5], .bool ((R.kind.toNat : Int) != 0)]) (by simp [results, Try.results37, go_sem, z0, z1, z2, z3]) rfl ?_
    have hb9 := below_four (HBR.out.trans (HB4.out.mono HBR.out.size)) (show w.heap.size ≤ w.heap.size + 1 by omega) (.int .u8 R.kind.toNat) (.string R.text) (.slice p5 R.names.length c5) (.slice q5 R.kids.length d5)
    refine ⟨⟨_, _, rfl, ?_, ?_⟩, hb9⟩
    · rw [HV.out, HRR.out]
      refine HN4.out.same (S' := fun b => w.heap.size ≤ b) fun b hb => ⟨?_, by have := HBR.out.size; have := hb.1; omega⟩
      rw [heap_setCell_other _ _ _ _ (by simp; omega), heap_setCell_other _ _ _ _ (by simp; omega), heap_setCell_other _ _ _ _ (by simp; omega), heap_setCell_other _ _ _ _ (by simp; omega)]
    · rw [HV.out]
      exact HSOME.out
theorem at_any {W : World} {cs : List Value} {c : Nd} (h : NodeR W cs c) (hB : c.bulk ≤ 2000000) {pv : Value} {place : List ByteArray} (hp : PlR W pv place) : ∀ w, Below W.heap.size W w →
    Calls Try.prog 37 #[.agg cs.toArray, pv] w fun e w' => (∃ vs b, e = .returned (.tuple #[.agg vs, .bool b]) ∧ NodeR w' vs.toList ((c.atW place).getD absent) ∧ b = (c.atW place).isSome) ∧ Below w.heap.size w w' :=
  fun w hb => (at_x h hB hp w hb).mono fun _e _w' ⟨⟨vs, b, h1, h2, h3⟩, h4⟩ => ⟨⟨vs, b, h1, h2.to, h3⟩, h4⟩
end Go.Proofs.Ytcookbaedcjmjaa
