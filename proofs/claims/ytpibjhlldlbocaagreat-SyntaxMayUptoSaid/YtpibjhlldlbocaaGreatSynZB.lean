/- Walks of the program's syntax: may a simple command be? -/
import Derived.Test.YtpibjhlldlbocaaGreatSynZA
namespace Go.Proofs.YtpibjhlldlbocaaGreat
open Go.RowKit Sx Go.Proofs

namespace Sx
def dOne (name : ByteArray) : List Word → Bool
  | [x] => dAssign name x.parts
  | _ => false
def dWords : List Word → Bool
  | [] => false
  | x :: l => decide ((x :: l).length ≤ 64) && (x :: l).all Word.may && !x.assigns && !x.comes
def dSimple (name : ByteArray) (words : List Word) : Bool :=
  if name.toList.isEmpty then dWords words else dOne name words
end Sx

set_option maxRecDepth 100000 in
set_option maxHeartbeats 4000000 in
theorem simpleMay_any {W : World} {words : List Word} {p q : Option Addr} {cp m d kd : Nat} {at_ : Int} {C : Nat → List Value} (name : ByteArray) {r : Nat} (h1 : words.length ≤ cp) (h2 : cp ≤ maxLen) (h3 : Row W 2 p words.length C) (h4 : ∀ (i : Nat) x, words[i]? = some x → WordR W (C i) x)
    (hB : name.size + (words.map Word.bulk).sum ≤ 1900000) (hr : Resv W r) : ∀ w, Below W.heap.size W w →
    Calls Tryz.prog 32 #[.agg #[.int .u8 kd, .int .i64 at_, .string name, .slice p words.length cp, .slice q m d], .map (some r)] w fun e w' => e = .returned (.bool (dSimple name words)) ∧ Below w.heap.size w w' := by
  intro w hb
  have HW := Lib.hid hb
  have HWM : Hid (∀ wx, Below w.heap.size w wx → Calls Tryz.prog 34 #[.slice p words.length cp] wx fun e w' => e = .returned (.bool (decide (words.length ≤ 64) && words.all Word.may)) ∧ Below wx.heap.size wx w') := Lib.hid fun wx hx => wordsMay_any h1 h2 h3 h4 (by omega) wx (hb.trans (hx.mono hb.size))
  have HRV := Lib.hid hr
  have HR := Lib.hid h3
  have HWD := Lib.hid h4
  have HBK := Lib.hid hB
  have hlw : words.length ≤ 9223372036854775807 := by unfold maxLen at h2; omega
  obtain ⟨R, hR⟩ : ∃ R, R = dSimple name words := ⟨_, rfl⟩
  rw [← hR]
  have HDS := Lib.hid hR
  clear h1 h2 h3 h4 hB hr hb hR
  by_cases hn0 : name.size = 0
  · have he : name.toList = [] := empty_of hn0
    cases words with
    | nil =>
      go_enter Tryz.func32, Tryz.ntmps32
      go_wp2_with fail
      go_ret
      exact ⟨ret_bool (by rw [HDS.out]; unfold dSimple; rw [he]; rfl), box_self (Below.refl _ _)⟩
    | cons x l =>
      have HDS2 : Hid (R = (decide ((x :: l).length ≤ 64) && (x :: l).all Word.may && !x.assigns && !x.comes)) := Lib.hid (by rw [HDS.out]; unfold dSimple; rw [he]; rfl)
      obtain ⟨b, o, rfl, _, hr⟩ := HR.out 0 (by simp)
      rw [show o + 0 * 2 = o by omega] at hr
      have hx0 := HWD.out 0 x rfl
      obtain ⟨p1, c1, hcs, _⟩ := HWD.out 0 x rfl
      rw [hcs] at hr hx0
      have hxb : x.bulk ≤ 2000000 := by
        have := HBK.out
        simp only [List.map_cons, List.sum_cons] at this
        omega
      have e0 : w.cell? ⟨b, o, none⟩ = some (.slice p1 x.parts.length c1) := (range_below HW.out hr) 0 _ rfl
      have e1 : w.cell? ⟨b, o + 1, none⟩ = some (.int .i64 x.at_) := (range_below HW.out hr) 1 _ rfl
      have HASN : Hid (∀ wx, Below w.heap.size w wx → Calls Tryz.prog 55 #[.agg #[.slice p1 x.parts.length c1, .int .i64 x.at_]] wx fun e w' => (∃ nm vs v, e = .returned (.tuple #[.string nm, .agg vs, .bool x.assigns]) ∧ WordR w' vs.toList v ∧ (x.assigns = true → nm = x.assignName ∧ v.parts = x.valueParts)) ∧ Below wx.heap.size wx w') := Lib.hid fun wx hx => assign_any (hx0.grown (HW.out.trans (hx.mono HW.out.size))) hxb
      have HCOM : Hid (∀ wx, Below w.heap.size w wx → Calls Tryz.prog 56 #[.agg #[.slice p1 x.parts.length c1, .int .i64 x.at_], .map (some r)] wx fun e w' => e = .returned (.bool x.comes) ∧ Below wx.heap.size wx w') := Lib.hid fun wx hx => comes_any (hx0.grown (HW.out.trans (hx.mono HW.out.size))) hxb (HRV.out.grown (HW.out.trans (hx.mono HW.out.size)))
      have hnz : (((x :: l).length : Int) == 0) = false := beq_eq_false_iff_ne.2 (by simp only [List.length_cons]; omega)
      have hnp : (0 : Int) < ((x :: l).length : Int) := by simp only [List.length_cons]; omega
      clear hr hcs HDS
      generalize (decide ((x :: l).length ≤ 64) && (x :: l).all Word.may) = G at *
      generalize hLEN : (x :: l).length = n at *
      clear hLEN
      generalize x.assigns = A at *
      generalize x.comes = K at *
      cases G with
      | false =>
        go_enter Tryz.func32, Tryz.ntmps32
        go_wp2_with fail
        refine (HWM.out _ (box_self (Below.refl _ _))).mono ?_
        rintro e w2 ⟨rfl, hb2⟩
        have HB2 : Hid (Below w.heap.size w w2) := Lib.hid ((box_self (Below.refl _ _)).trans (hb2.mono (by simp)))
        clear hb2
        go_wp2_with fail
        go_ret
        exact ⟨ret_bool (by rw [HDS2.out]; rfl), HB2.out⟩
      | true =>
        go_enter Tryz.func32, Tryz.ntmps32
        go_wp2_with fail
        refine (HWM.out _ (box_self (Below.refl _ _))).mono ?_
        rintro e w2 ⟨rfl, hb2⟩
        have HBX : Hid (Below (w.heap.size + 1) (w.alloc (.cells #[.int .u8 kd, .int .i64 at_, .string name, .slice (some ⟨b, o, none⟩) n cp, .slice q m d] 25)) w2) := Lib.hid (hb2.mono (by simp))
        have HB2 : Hid (Below w.heap.size w w2) := Lib.hid (box_self HBX.out)
        have c3 : w2.cell? ⟨w.heap.size, 3, none⟩ = some (.slice (some ⟨b, o, none⟩) n cp) := box_cell HBX.out 3 rfl
        have f0 := cell_kept HB2.out e0
        have f1 := cell_kept HB2.out e1
        clear hb2
        go_wp2_with fail
        refine (HASN.out _ HB2.out).mono ?_
        rintro e w3 ⟨⟨nm, vs, v, rfl, hvs, hAB⟩, hb3⟩
        clear hAB
        obtain ⟨p3, c3', hcs3, _⟩ := hvs
        obtain ⟨vsl⟩ := vs
        dsimp only at hcs3
        subst hcs3
        generalize v.parts.length = vl at *
        generalize v.at_ = va at *
        have HB3 := Lib.hid hb3
        have g3 := cell_kept hb3 c3
        have h0 := cell_kept hb3 f0
        have h1 := cell_kept hb3 f1
        have hb4 : Below w3.heap.size w3 (w3.alloc (.cells #[.slice p3 vl c3', .int .i64 va] 31)) := (Below.refl _ _).alloc (Nat.le_refl _) _
        have k3 := cell_kept hb4 g3
        have k0 := cell_kept hb4 h0
        have k1 := cell_kept hb4 h1
        have HB4 : Hid (Below w.heap.size w (w3.alloc (.cells #[.slice p3 vl c3', .int .i64 va] 31))) := Lib.hid ((HB2.out.trans (hb3.mono HB2.out.size)).trans (hb4.mono (Nat.le_trans HB2.out.size hb3.size)))
        clear hb3 hb4
        cases A with
        | true =>
          go_wp2_with fail
          go_ret
          exact ⟨ret_bool (by rw [HDS2.out]; rfl), HB4.out⟩
        | false =>
          go_wp2_with fail
          refine (HCOM.out _ HB4.out).mono ?_
          rintro e w5 ⟨rfl, hb5⟩
          have HB5 : Hid (Below w.heap.size w w5) := Lib.hid (HB4.out.trans (hb5.mono HB4.out.size))
          clear hb5
          go_wp2_with fail
          go_ret
          exact ⟨ret_bool (by rw [HDS2.out]; rfl), HB5.out⟩
  · have he : name.toList.isEmpty = false := full_of (by omega)
    have hne : ¬ name.toList = [] := by intro h; rw [h] at he; cases he
    have HDS2 : Hid (R = dOne name words) := Lib.hid (by rw [HDS.out]; unfold dSimple; rw [he]; rfl)
    clear HDS
    by_cases hw1 : words.length = 1
    · obtain ⟨x, rfl⟩ : ∃ x, words = [x] := by
        match words, hw1 with
        | [x], _ => exact ⟨x, rfl⟩
      have HDS3 : Hid (R = dAssign name x.parts) := HDS2
      obtain ⟨b, o, rfl, _, hr⟩ := HR.out 0 (by simp)
      rw [show o + 0 * 2 = o by omega] at hr
      have hx0 := HWD.out 0 x rfl
      obtain ⟨p1, c1, hcs, _⟩ := HWD.out 0 x rfl
      rw [hcs] at hr hx0
      have hxb : name.size + x.bulk ≤ 1900000 := by
        have := HBK.out
        simp only [List.map_cons, List.sum_cons, List.map_nil, List.sum_nil] at this
        omega
      have e0 : w.cell? ⟨b, o, none⟩ = some (.slice p1 x.parts.length c1) := (range_below HW.out hr) 0 _ rfl
      have e1 : w.cell? ⟨b, o + 1, none⟩ = some (.int .i64 x.at_) := (range_below HW.out hr) 1 _ rfl
      have HAM : Hid (∀ wx, Below w.heap.size w wx → Calls Tryz.prog 54 #[.string name, .agg #[.slice p1 x.parts.length c1, .int .i64 x.at_]] wx fun e w' => e = .returned (.bool (dAssign name x.parts)) ∧ Below wx.heap.size wx w') := Lib.hid fun wx hx => assignMay_any name (hx0.grown (HW.out.trans (hx.mono HW.out.size))) hxb
      clear hr hcs HDS2 HWM HWD HR HBK
      generalize dAssign name x.parts = g at *
      generalize hLEN : [x].length = n at *
      obtain rfl : n = 1 := hLEN.symm
      clear hLEN
      have hb1 : Below w.heap.size w (w.alloc (.cells #[.int .u8 kd, .int .i64 at_, .string name, .slice (some ⟨b, o, none⟩) 1 cp, .slice q m d] 25)) := box_self (Below.refl _ _)
      have c2 : (w.alloc (.cells #[.int .u8 kd, .int .i64 at_, .string name, .slice (some ⟨b, o, none⟩) 1 cp, .slice q m d] 25)).cell? ⟨w.heap.size, 2, none⟩ = some (.string name) := box_cell (Below.refl _ _) 2 rfl
      have c3 : (w.alloc (.cells #[.int .u8 kd, .int .i64 at_, .string name, .slice (some ⟨b, o, none⟩) 1 cp, .slice q m d] 25)).cell? ⟨w.heap.size, 3, none⟩ = some (.slice (some ⟨b, o, none⟩) 1 cp) := box_cell (Below.refl _ _) 3 rfl
      have f0 := cell_kept hb1 e0
      have f1 := cell_kept hb1 e1
      have HB1 := Lib.hid hb1
      clear hb1
      have HKEEP : Hid (∀ wx w2, (fun wx => Below (w.alloc (.cells #[.int .u8 kd, .int .i64 at_, .string name, .slice (some ⟨b, o, none⟩) 1 cp, .slice q m d] 25)).heap.size (w.alloc (.cells #[.int .u8 kd, .int .i64 at_, .string name, .slice (some ⟨b, o, none⟩) 1 cp, .slice q m d] 25)) wx ∧ wx.cell? ⟨w.heap.size, 2, none⟩ = some (.string name) ∧ wx.cell? ⟨w.heap.size, 3, none⟩ = some (.slice (some ⟨b, o, none⟩) 1 cp) ∧ wx.cell? ⟨b, o, none⟩ = some (.slice p1 x.parts.length c1) ∧ wx.cell? ⟨b, o + 1, none⟩ = some (.int .i64 x.at_)) wx → Below wx.heap.size wx w2 → (fun wx => Below (w.alloc (.cells #[.int .u8 kd, .int .i64 at_, .string name, .slice (some ⟨b, o, none⟩) 1 cp, .slice q m d] 25)).heap.size (w.alloc (.cells #[.int .u8 kd, .int .i64 at_, .string name, .slice (some ⟨b, o, none⟩) 1 cp, .slice q m d] 25)) wx ∧ wx.cell? ⟨w.heap.size, 2, none⟩ = some (.string name) ∧ wx.cell? ⟨w.heap.size, 3, none⟩ = some (.slice (some ⟨b, o, none⟩) 1 cp) ∧ wx.cell? ⟨b, o, none⟩ = some (.slice p1 x.parts.length c1) ∧ wx.cell? ⟨b, o + 1, none⟩ = some (.int .i64 x.at_)) w2) := Lib.hid fun wx w2 hs hb => by
        obtain ⟨s0, s1, s2, s3, s4⟩ := hs
        exact ⟨s0.trans (hb.mono s0.size), cell_kept hb s1, cell_kept hb s2, cell_kept hb s3, cell_kept hb s4⟩
      have HC : Hid (∀ wx, Below (w.alloc (.cells #[.int .u8 kd, .int .i64 at_, .string name, .slice (some ⟨b, o, none⟩) 1 cp, .slice q m d] 25)).heap.size (w.alloc (.cells #[.int .u8 kd, .int .i64 at_, .string name, .slice (some ⟨b, o, none⟩) 1 cp, .slice q m d] 25)) wx → Calls Tryz.prog 54 #[.string name, .agg #[.slice p1 x.parts.length c1, .int .i64 x.at_]] wx fun e w' => e = .returned (.bool g) ∧ Below wx.heap.size wx w') := Lib.hid fun wx hx => HAM.out wx (HB1.out.trans (hx.mono HB1.out.size))
      go_enter Tryz.func32, Tryz.ntmps32
      go_wp2_with fail
      refine wp_region_held_drew (S := (fun wx => Below (w.alloc (.cells #[.int .u8 kd, .int .i64 at_, .string name, .slice (some ⟨b, o, none⟩) 1 cp, .slice q m d] 25)).heap.size (w.alloc (.cells #[.int .u8 kd, .int .i64 at_, .string name, .slice (some ⟨b, o, none⟩) 1 cp, .slice q m d] 25)) wx ∧ wx.cell? ⟨w.heap.size, 2, none⟩ = some (.string name) ∧ wx.cell? ⟨w.heap.size, 3, none⟩ = some (.slice (some ⟨b, o, none⟩) 1 cp) ∧ wx.cell? ⟨b, o, none⟩ = some (.slice p1 x.parts.length c1) ∧ wx.cell? ⟨b, o + 1, none⟩ = some (.int .i64 x.at_))) (by kernel_rfl) ⟨(Below.refl _ _).drew, c2, c3, f0, f1⟩ (fun hHeld => ?_)
      refine wpAnyH_take (i := 0) (oi := { dst := some 11, op := Op.fieldAddr 25 (Operand.tmp 2) 3, type := 0, pos := "syntax.go:103", after := #[], guard := none }) (v := ?_) rfl (by kernel_rfl) (by kernel_rfl) (by kernel_rfl) (fun _ _ _ h => h) (Or.inl ⟨by rfl, ?_⟩) (by assumption) ?_
      rotate_left
      · (intro w hSw; (try dsimp only at hSw); go_simp; try with_reducible rfl)
      try simp only [Act.put, List.setIfInBounds_toArray, List.set_cons_zero, List.set_cons_succ]
      refine wpAnyH_take (i := 1) (oi := { dst := some 12, op := Op.load 22 (Operand.tmp 11), type := 22, pos := "syntax.go:103", after := #[{ on := 0, ground := Ground.data }], guard := none }) (v := ?_) rfl (by kernel_rfl) (by kernel_rfl) (by kernel_rfl) (fun _ _ _ h => h) (Or.inl ⟨by rfl, ?_⟩) (by assumption) ?_
      rotate_left
      · (intro w hSw; (try dsimp only at hSw); go_simp; try with_reducible rfl)
      try simp only [Act.put, List.setIfInBounds_toArray, List.set_cons_zero, List.set_cons_succ]
      refine wpAnyH_take (i := 2) (oi := { dst := some 13, op := Op.call { callee := Callee.builtin Builtin.len, args := #[Operand.tmp 12], argTypes := #[22] }, type := 3, pos := "syntax.go:103", after := #[{ on := 1, ground := Ground.data }], guard := none }) (v := ?_) rfl (by kernel_rfl) (by kernel_rfl) (by kernel_rfl) (fun _ _ _ h => h) (Or.inl ⟨by rfl, ?_⟩) (by assumption) ?_
      rotate_left
      · (intro w hSw; (try dsimp only at hSw); go_simp; try with_reducible rfl)
      try simp only [Act.put, List.setIfInBounds_toArray, List.set_cons_zero, List.set_cons_succ]
      refine wpAnyH_take (i := 3) (oi := { dst := some 14, op := Op.binOp BinOp.eql 3 (Operand.tmp 13) (Operand.const (Value.int IntKind.i64 1)) 3, type := 4, pos := "syntax.go:103", after := #[{ on := 2, ground := Ground.data }], guard := none }) (v := ?_) rfl (by kernel_rfl) (by kernel_rfl) (by kernel_rfl) (fun _ _ _ h => h) (Or.inl ⟨by rfl, ?_⟩) (by assumption) ?_
      rotate_left
      · (intro w hSw; (try dsimp only at hSw); go_simp; try with_reducible rfl)
      try simp only [Act.put, List.setIfInBounds_toArray, List.set_cons_zero, List.set_cons_succ]
      refine wpAnyH_take (i := 4) (oi := { dst := some 15, op := Op.move (Operand.tmp 14), type := 4, pos := "syntax.go:103", after := #[{ on := 3, ground := Ground.data }], guard := none }) (v := ?_) rfl (by kernel_rfl) (by kernel_rfl) (by kernel_rfl) (fun _ _ _ h => h) (Or.inl ⟨by rfl, ?_⟩) (by assumption) ?_
      rotate_left
      · (intro w hSw; (try dsimp only at hSw); go_simp; try with_reducible rfl)
      try simp only [Act.put, List.setIfInBounds_toArray, List.set_cons_zero, List.set_cons_succ]
      refine wpAnyH_take (i := 5) (oi := { dst := some 16, op := Op.fieldAddr 25 (Operand.tmp 2) 2, type := 0, pos := "syntax.go:103", after := #[{ on := 4, ground := Ground.guard }], guard := some (4, true) }) (v := ?_) rfl (by kernel_rfl) (by kernel_rfl) (by kernel_rfl) (fun _ _ _ h => h) (Or.inl ⟨by rfl, ?_⟩) (by assumption) ?_
      rotate_left
      · (intro w hSw; (try dsimp only at hSw); go_simp; try with_reducible rfl)
      try simp only [Act.put, List.setIfInBounds_toArray, List.set_cons_zero, List.set_cons_succ]
      refine wpAnyH_take (i := 6) (oi := { dst := some 17, op := Op.load 9 (Operand.tmp 16), type := 9, pos := "syntax.go:103", after := #[{ on := 5, ground := Ground.data }, { on := 4, ground := Ground.guard }], guard := some (4, true) }) (v := ?_) rfl (by kernel_rfl) (by kernel_rfl) (by kernel_rfl) (fun _ _ _ h => h) (Or.inl ⟨by rfl, ?_⟩) (by assumption) ?_
      rotate_left
      · (intro w hSw; (try dsimp only at hSw); go_simp; try with_reducible rfl)
      try simp only [Act.put, List.setIfInBounds_toArray, List.set_cons_zero, List.set_cons_succ]
      refine wpAnyH_take (i := 7) (oi := { dst := some 18, op := Op.fieldAddr 25 (Operand.tmp 2) 3, type := 0, pos := "syntax.go:103", after := #[{ on := 4, ground := Ground.guard }], guard := some (4, true) }) (v := ?_) rfl (by kernel_rfl) (by kernel_rfl) (by kernel_rfl) (fun _ _ _ h => h) (Or.inl ⟨by rfl, ?_⟩) (by assumption) ?_
      rotate_left
      · (intro w hSw; (try dsimp only at hSw); go_simp; try with_reducible rfl)
      try simp only [Act.put, List.setIfInBounds_toArray, List.set_cons_zero, List.set_cons_succ]
      refine wpAnyH_take (i := 8) (oi := { dst := some 19, op := Op.load 22 (Operand.tmp 18), type := 22, pos := "syntax.go:103", after := #[{ on := 7, ground := Ground.data }, { on := 4, ground := Ground.guard }], guard := some (4, true) }) (v := ?_) rfl (by kernel_rfl) (by kernel_rfl) (by kernel_rfl) (fun _ _ _ h => h) (Or.inl ⟨by rfl, ?_⟩) (by assumption) ?_
      rotate_left
      · (intro w hSw; (try dsimp only at hSw); go_simp; try with_reducible rfl)
      try simp only [Act.put, List.setIfInBounds_toArray, List.set_cons_zero, List.set_cons_succ]
      refine wpAnyH_take (i := 9) (oi := { dst := some 20, op := Op.indexAddr 22 (Operand.tmp 19) (Operand.const (Value.int IntKind.i64 0)), type := 0, pos := "syntax.go:103", after := #[{ on := 8, ground := Ground.data }, { on := 4, ground := Ground.guard }], guard := some (4, true) }) (v := ?_) rfl (by kernel_rfl) (by kernel_rfl) (by kernel_rfl) (fun _ _ _ h => h) (Or.inl ⟨by rfl, ?_⟩) (by assumption) ?_
      rotate_left
      · (intro w hSw; (try dsimp only at hSw); go_simp; try with_reducible rfl)
      try simp only [Act.put, List.setIfInBounds_toArray, List.set_cons_zero, List.set_cons_succ]
      refine wpAnyH_take (i := 10) (oi := { dst := some 21, op := Op.load 31 (Operand.tmp 20), type := 31, pos := "syntax.go:103", after := #[{ on := 9, ground := Ground.data }, { on := 4, ground := Ground.guard }], guard := some (4, true) }) (v := ?_) rfl (by kernel_rfl) (by kernel_rfl) (by kernel_rfl) (fun _ _ _ h => h) (Or.inl ⟨by rfl, ?_⟩) (by assumption) ?_
      rotate_left
      · (intro w hSw; (try dsimp only at hSw); go_simp; try with_reducible rfl)
      try simp only [Act.put, List.setIfInBounds_toArray, List.set_cons_zero, List.set_cons_succ]
      refine wpAnyH_ready (rs := [11]) (by kernel_rfl) (by simp) ?_
      refine AllReadyH.cons (o := { dst := some 22, op := Op.call { callee := Callee.value (Operand.func 54), args := #[Operand.tmp 17, Operand.tmp 21], argTypes := #[9, 31] }, type := 4, pos := "syntax.go:103", after := #[{ on := 6, ground := Ground.data }, { on := 10, ground := Ground.data }, { on := 4, ground := Ground.chain }, { on := 4, ground := Ground.guard }], guard := some (4, true) }) rfl (fun K hK => ?_) AllReadyH.nil
      go_simp
      (go_at_call 54; refine (HC.out _ (And.left (by assumption))).mono ?_; rintro e w2 ⟨rfl, hb2⟩; have hS2 := HKEEP.out _ _ (by assumption) hb2; clear hb2)
      go_wp2_with fail
      refine hK.out _ _ (by first | assumption | assumption) (fun hHeld => ?_)
      clear hK K
      try simp only [Act.put, List.setIfInBounds_toArray, List.set_cons_zero, List.set_cons_succ]
      refine wpAnyH_take (i := 12) (oi := { dst := some 23, op := Op.pick (Operand.tmp 15) (Operand.tmp 22) (Operand.const (Value.bool false)), type := 4, pos := "syntax.go:103", after := #[{ on := 4, ground := Ground.data }, { on := 11, ground := Ground.data }], guard := none }) (v := ?_) rfl (by kernel_rfl) (by kernel_rfl) (by kernel_rfl) (fun _ _ _ h => h) (Or.inl ⟨by rfl, ?_⟩) (by assumption) ?_
      rotate_left
      · (intro w hSw; (try dsimp only at hSw); go_simp; try with_reducible rfl)
      try simp only [Act.put, List.setIfInBounds_toArray, List.set_cons_zero, List.set_cons_succ]
      refine wpAnyH_take (i := 13) (oi := { dst := some 4, op := Op.assign (Operand.tmp 23), type := 4, pos := "syntax.go:103", after := #[{ on := 12, ground := Ground.data }, { on := 11, ground := Ground.chain }, { on := 0, ground := Ground.phase }, { on := 1, ground := Ground.phase }, { on := 2, ground := Ground.phase }, { on := 3, ground := Ground.phase }, { on := 4, ground := Ground.phase }, { on := 5, ground := Ground.phase }, { on := 6, ground := Ground.phase }, { on := 7, ground := Ground.phase }, { on := 8, ground := Ground.phase }, { on := 9, ground := Ground.phase }, { on := 10, ground := Ground.phase }, { on := 11, ground := Ground.phase }, { on := 12, ground := Ground.phase }], guard := none }) (v := ?_) rfl (by kernel_rfl) (by kernel_rfl) (by kernel_rfl) (fun _ _ _ h => h) (Or.inl ⟨by rfl, ?_⟩) (by assumption) ?_
      rotate_left
      · (intro w hSw; (try dsimp only at hSw); go_simp; try with_reducible rfl)
      try simp only [Act.put, List.setIfInBounds_toArray, List.set_cons_zero, List.set_cons_succ]
      refine wpAnyH_done (by kernel_rfl) ?_ _
      go_wp2_with fail
      go_ret
      exact ⟨ret_bool HDS3.out.symm, HB1.out.trans (hS2.1.mono HB1.out.size)⟩
    · have hwz : ((words.length : Int) == 1) = false := beq_eq_false_iff_ne.2 (by omega)
      have HF : Hid (R = false) := Lib.hid (by
        rw [HDS2.out]
        match words, hw1 with
        | [], _ => rfl
        | [_], h => exact absurd rfl h
        | _ :: _ :: _, _ => rfl)
      go_enter Tryz.func32, Tryz.ntmps32
      go_wp2_with fail
      go_quiet (fail)
      go_wp2
      go_ret
      exact ⟨ret_bool HF.out.symm, below_drewN (box_self (Below.refl _ _)) _⟩
end Go.Proofs.YtpibjhlldlbocaaGreat
