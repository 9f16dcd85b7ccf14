/- Walks of the program's syntax: may a command be? -/
import Derived.Test.YtpibjhlldlbocaaGreatSynZE
namespace Go.Proofs.YtpibjhlldlbocaaGreat
open Go.RowKit Sx Go.Proofs

namespace Sx
def zeroC : Cmd := .mk 0 0 ⟨#[]⟩ [] []
theorem zero_cells (W : World) : CmdR W [.int .u8 0, .int .i64 0, .string ⟨#[]⟩, .slice none 0 0, .slice none 0 0] zeroC :=
  .mk 0 0 ⟨#[]⟩ [] [] none none 0 0 (fun _ => []) (fun _ => []) (Nat.le_refl _) (Nat.zero_le _) (fun i hi => absurd hi (Nat.not_lt_zero i)) (fun i x hx => by simp at hx) (Nat.le_refl _) (Nat.zero_le _) (fun i hi => absurd hi (Nat.not_lt_zero i)) (fun i x hx => by simp at hx)
def Cmd.kindOf : Cmd → UInt8
  | .mk k _ _ _ _ => k
def dMay (c : Cmd) : Bool := if c.kindOf = 0 then Cmd.same c zeroC else c.within 24
end Sx

theorem begins_res (w : World) : Calls Tryz.prog 12 #[] w fun e w' => ∃ r, e = .returned (.map (some r)) ∧ Resv w' r ∧ Below w.heap.size w w' := by
  refine (begins_any w).mono ?_
  rintro e w' ⟨rfl, rfl⟩
  exact ⟨_, rfl, heap_alloc_new _ _, (Below.refl _ _).alloc (Nat.le_refl _) _⟩

set_option maxRecDepth 100000 in
set_option maxHeartbeats 4000000 in
theorem may_any {W : World} {cs : List Value} {c : Cmd} (h : CmdR W cs c) (hB : c.bulk ≤ 1900000) : ∀ w, Below W.heap.size W w →
    Calls Tryz.prog 5 #[.agg cs.toArray] w fun e w' => e = .returned (.bool (dMay c)) ∧ Below w.heap.size w w' := by
  intro w hb
  have HSA : Hid (∀ wx, Below w.heap.size w wx → Calls Tryz.prog 9 #[.agg cs.toArray, .agg #[.int .u8 0, .int .i64 0, .string ⟨#[]⟩, .slice none 0 0, .slice none 0 0]] wx fun e w' => e = .returned (.bool (Cmd.same c zeroC)) ∧ Below wx.heap.size wx w') := Lib.hid fun wx hx => same_any h (zero_cells W) wx (hb.trans (hx.mono hb.size))
  have HWN : Hid (∀ wx r, Below w.heap.size w wx → Resv wx r → Calls Tryz.prog 11 #[.agg cs.toArray, .map (some r), .int .i64 24] wx fun e w' => e = .returned (.bool (c.within 24)) ∧ Below wx.heap.size wx w') := Lib.hid fun wx r hx hres => mayWithin_any (h.grown (hb.trans (hx.mono hb.size))) hres 24 24 rfl (Nat.le_refl _) wx (Below.refl _ _) hB
  obtain ⟨R, hR⟩ : ∃ R, R = dMay c := ⟨_, rfl⟩
  rw [← hR]
  cases h with
  | mk kind at_ name words kids p q cp d C D h1 h2 h3 h4 h5 h6 h7 h8 =>
    clear h1 h2 h3 h4 h5 h6 h7 h8 hb hB
    generalize words.length = n at *
    generalize kids.length = m at *
    by_cases hk : kind = 0
    · have HRR : Hid (R = Cmd.same (.mk kind at_ name words kids) zeroC) := Lib.hid (hR.trans (if_pos hk))
      clear hR HWN
      have hkd : kind.toNat = 0 := by rw [hk]; rfl
      rw [hkd] at HSA
      clear hk
      rw [hkd]
      clear hkd
      generalize Cmd.same (.mk kind at_ name words kids) zeroC = g at *
      go_enter Tryz.func5, Tryz.ntmps5
      go_wp2_with fail
      refine (HSA.out _ (box_self (Below.refl _ _))).mono ?_
      rintro e w3 ⟨rfl, hb3⟩
      have HB3 : Hid (Below w.heap.size w w3) := Lib.hid ((box_self (Below.refl _ _)).trans (hb3.mono (by simp)))
      clear hb3
      go_wp2_with fail
      go_ret
      exact ⟨ret_bool HRR.out.symm, HB3.out⟩
    · have HRR : Hid (R = (Cmd.mk kind at_ name words kids).within 24) := Lib.hid (hR.trans (if_neg hk))
      clear hR HSA
      have hkz : ((kind.toNat : Int) == 0) = false := beq_eq_false_iff_ne.2 (by
        intro h0
        exact hk (UInt8.toNat_inj.1 (by show kind.toNat = 0; omega)))
      clear hk
      generalize (Cmd.mk kind at_ name words kids).within 24 = g at *
      generalize kind.toNat = kd at *
      have d0 : (w.alloc (.cells #[.int .u8 kd, .int .i64 at_, .string name, .slice p n cp, .slice q m d] 25)).drew.cell? ⟨w.heap.size, 0, none⟩ = some (.int .u8 kd) := box_cell (Below.refl _ _) 0 rfl
      have d1 : (w.alloc (.cells #[.int .u8 kd, .int .i64 at_, .string name, .slice p n cp, .slice q m d] 25)).drew.cell? ⟨w.heap.size, 1, none⟩ = some (.int .i64 at_) := box_cell (Below.refl _ _) 1 rfl
      have d2 : (w.alloc (.cells #[.int .u8 kd, .int .i64 at_, .string name, .slice p n cp, .slice q m d] 25)).drew.cell? ⟨w.heap.size, 2, none⟩ = some (.string name) := box_cell (Below.refl _ _) 2 rfl
      have d3 : (w.alloc (.cells #[.int .u8 kd, .int .i64 at_, .string name, .slice p n cp, .slice q m d] 25)).drew.cell? ⟨w.heap.size, 3, none⟩ = some (.slice p n cp) := box_cell (Below.refl _ _) 3 rfl
      have d4 : (w.alloc (.cells #[.int .u8 kd, .int .i64 at_, .string name, .slice p n cp, .slice q m d] 25)).drew.cell? ⟨w.heap.size, 4, none⟩ = some (.slice q m d) := box_cell (Below.refl _ _) 4 rfl
      go_enter Tryz.func5, Tryz.ntmps5
      go_wp2_with fail
      refine wp_region_any (by kernel_rfl) (show wpAny _ _ _ _ _ _ _ (World.drew _) from ?_)
      refine wpAny_ready (rs := [0, 1]) (by kernel_rfl) (by simp) ?_
      refine AllReady.cons (o := { dst := some 9, op := Op.load 25 (Operand.tmp 1), type := 25, pos := "syntax.go:53", after := #[], guard := none }) rfl (fun K hK0 => ?_) ?_
      rotate_left
      refine AllReady.cons (o := { dst := some 10, op := Op.call { callee := Callee.value (Operand.func 12), args := #[], argTypes := #[] }, type := 35, pos := "syntax.go:53", after := #[], guard := none }) rfl (fun K hK0 => ?_) AllReady.nil
      · have hK := Lib.hid hK0
        clear hK0
        go_simp
        go_at_call 12
        refine (begins_res _).mono ?_
        rintro e w2 ⟨rs, rfl, hres2, hb2⟩
        have HRES := Lib.hid hres2
        clear hres2
        have HB2 : Hid (Below w.heap.size w w2) := Lib.hid ((box_self (Below.refl _ _)).trans ((Below.refl _ _).drew.trans (hb2.mono (by simp))))
        have k0 := cell_kept hb2 d0
        have k1 := cell_kept hb2 d1
        have k2 := cell_kept hb2 d2
        have k3 := cell_kept hb2 d3
        have k4 := cell_kept hb2 d4
        clear hb2
        go_wp2_with fail
        refine hK.out _ _ ?_
        clear hK K
        try simp only [Act.put, List.setIfInBounds_toArray, List.set_cons_zero, List.set_cons_succ]
        refine wpAny_ready (rs := [0]) (by kernel_rfl) (by simp) ?_
        refine AllReady.cons (o := { dst := some 9, op := Op.load 25 (Operand.tmp 1), type := 25, pos := "syntax.go:53", after := #[], guard := none }) rfl (fun K hK0 => ?_) AllReady.nil
        have hK := Lib.hid hK0
        clear hK0
        go_simp
        refine hK.out _ _ ?_
        clear hK K
        try simp only [Act.put, List.setIfInBounds_toArray, List.set_cons_zero, List.set_cons_succ]
        refine wpAny_ready (rs := [2]) (by kernel_rfl) (by simp) ?_
        refine AllReady.cons (o := { dst := some 11, op := Op.call { callee := Callee.value (Operand.func 11), args := #[Operand.tmp 9, Operand.tmp 10, Operand.const (Value.int IntKind.i64 24)], argTypes := #[25, 35, 3] }, type := 4, pos := "syntax.go:53", after := #[{ on := 0, ground := Ground.data }, { on := 1, ground := Ground.data }, { on := 1, ground := Ground.chain }], guard := none }) rfl (fun K hK0 => ?_) AllReady.nil
        have hK := Lib.hid hK0
        clear hK0
        go_simp
        go_at_call 11
        refine (HWN.out _ _ HB2.out HRES.out).mono ?_
        rintro e w3 ⟨rfl, hb3⟩
        have HB3 : Hid (Below w.heap.size w w3) := Lib.hid (HB2.out.trans (hb3.mono HB2.out.size))
        clear hb3
        go_wp2_with fail
        refine hK.out _ _ ?_
        clear hK K
        try simp only [Act.put, List.setIfInBounds_toArray, List.set_cons_zero, List.set_cons_succ]
        refine wpAny_take (i := 3) (oi := { dst := some 2, op := Op.assign (Operand.tmp 11), type := 4, pos := "syntax.go:53", after := #[{ on := 2, ground := Ground.data }, { on := 2, ground := Ground.chain }, { on := 0, ground := Ground.phase }, { on := 1, ground := Ground.phase }, { on := 2, ground := Ground.phase }], guard := none }) (v := ?_) rfl (by kernel_rfl) (by kernel_rfl) (by kernel_rfl) (fun _ _ _ h => h) (Or.inl ⟨by rfl, ?_⟩) ?_
        rotate_left
        · (intro w; go_simp; try with_reducible rfl)
        try simp only [Act.put, List.setIfInBounds_toArray, List.set_cons_zero, List.set_cons_succ]
        refine wpAny_done (by kernel_rfl) ?_ _
        go_wp2_with fail
        go_ret
        exact ⟨ret_bool HRR.out.symm, HB3.out⟩
      · have hK := Lib.hid hK0
        clear hK0
        go_simp
        refine hK.out _ _ ?_
        clear hK K
        try simp only [Act.put, List.setIfInBounds_toArray, List.set_cons_zero, List.set_cons_succ]
        refine wpAny_ready (rs := [1]) (by kernel_rfl) (by simp) ?_
        refine AllReady.cons (o := { dst := some 10, op := Op.call { callee := Callee.value (Operand.func 12), args := #[], argTypes := #[] }, type := 35, pos := "syntax.go:53", after := #[], guard := none }) rfl (fun K hK0 => ?_) AllReady.nil
        have hK := Lib.hid hK0
        clear hK0
        go_simp
        go_at_call 12
        refine (begins_res _).mono ?_
        rintro e w2 ⟨rs, rfl, hres2, hb2⟩
        have HRES := Lib.hid hres2
        clear hres2
        have HB2 : Hid (Below w.heap.size w w2) := Lib.hid ((box_self (Below.refl _ _)).trans ((Below.refl _ _).drew.trans (hb2.mono (by simp))))
        have k0 := cell_kept hb2 d0
        have k1 := cell_kept hb2 d1
        have k2 := cell_kept hb2 d2
        have k3 := cell_kept hb2 d3
        have k4 := cell_kept hb2 d4
        clear hb2
        go_wp2_with fail
        refine hK.out _ _ ?_
        clear hK K
        try simp only [Act.put, List.setIfInBounds_toArray, List.set_cons_zero, List.set_cons_succ]
        refine wpAny_ready (rs := [2]) (by kernel_rfl) (by simp) ?_
        refine AllReady.cons (o := { dst := some 11, op := Op.call { callee := Callee.value (Operand.func 11), args := #[Operand.tmp 9, Operand.tmp 10, Operand.const (Value.int IntKind.i64 24)], argTypes := #[25, 35, 3] }, type := 4, pos := "syntax.go:53", after := #[{ on := 0, ground := Ground.data }, { on := 1, ground := Ground.data }, { on := 1, ground := Ground.chain }], guard := none }) rfl (fun K hK0 => ?_) AllReady.nil
        have hK := Lib.hid hK0
        clear hK0
        go_simp
        go_at_call 11
        refine (HWN.out _ _ HB2.out HRES.out).mono ?_
        rintro e w3 ⟨rfl, hb3⟩
        have HB3 : Hid (Below w.heap.size w w3) := Lib.hid (HB2.out.trans (hb3.mono HB2.out.size))
        clear hb3
        go_wp2_with fail
        refine hK.out _ _ ?_
        clear hK K
        try simp only [Act.put, List.setIfInBounds_toArray, List.set_cons_zero, List.set_cons_succ]
        refine wpAny_take (i := 3) (oi := { dst := some 2, op := Op.assign (Operand.tmp 11), type := 4, pos := "syntax.go:53", after := #[{ on := 2, ground := Ground.data }, { on := 2, ground := Ground.chain }, { on := 0, ground := Ground.phase }, { on := 1, ground := Ground.phase }, { on := 2, ground := Ground.phase }], guard := none }) (v := ?_) rfl (by kernel_rfl) (by kernel_rfl) (by kernel_rfl) (fun _ _ _ h => h) (Or.inl ⟨by rfl, ?_⟩) ?_
        rotate_left
        · (intro w; go_simp; try with_reducible rfl)
        try simp only [Act.put, List.setIfInBounds_toArray, List.set_cons_zero, List.set_cons_succ]
        refine wpAny_done (by kernel_rfl) ?_ _
        go_wp2_with fail
        go_ret
        exact ⟨ret_bool HRR.out.symm, HB3.out⟩
end Go.Proofs.YtpibjhlldlbocaaGreat
