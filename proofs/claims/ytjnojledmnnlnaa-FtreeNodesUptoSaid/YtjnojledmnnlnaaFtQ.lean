/- The statement on nodes: what the program tells of any two nodes and any place is what the reference tells. -/
import Derived.Test.YtjnojledmnnlnaaFtP
namespace Go.Proofs.Ytjnojledmnnlnaa
open Go.RowKit Px Nx

set_option maxRecDepth 100000 in
set_option maxHeartbeats 8000000 in
theorem law_nodes {W : World} {va vb : List Value} {x y : Nd} (hx0 : NodeR W va x) (hy0 : NodeR W vb y) (hxb : x.bulk ≤ 2000000) {pv : Value} {place : List ByteArray} (hp : PlR W pv place) :
    Calls Try.prog 4 #[.agg va.toArray, .agg vb.toArray, pv] W fun e w' => e = .returned (.bool true) ∧ Below W.heap.size W w' := by
  obtain ⟨pa, qa, ca, da, rfl⟩ := hx0.cells
  obtain ⟨pb, qb, cb, db, rfl⟩ := hy0.cells
  obtain ⟨pp, pc, hpv, _, _, _⟩ := id hp
  generalize hka : x.kind.toNat = ka at *
  generalize hta : x.text = ta at *
  generalize hna : x.names.length = na at *
  generalize hma : x.kids.length = ma at *
  generalize hkb : y.kind.toNat = kb at *
  generalize htb : y.text = tb at *
  generalize hnb : y.names.length = nb at *
  generalize hmb : y.kids.length = mb at *
  clear hka hta hna hma hkb htb hnb hmb
  obtain ⟨wl, hwl⟩ : ∃ b, x.well = b := ⟨_, rfl⟩
  obtain ⟨my, hmy⟩ : ∃ b, x.may = b := ⟨_, rfl⟩
  obtain ⟨sm, hsm⟩ : ∃ b, Nd.same x y = b := ⟨_, rfl⟩
  obtain ⟨nd, hnd⟩ : ∃ b, x.nodes = b := ⟨_, rfl⟩
  have HP := Lib.hid hp
  have HX0 := Lib.hid hx0
  have HY0 := Lib.hid hy0
  have HWA : Hid (∀ wx, Below W.heap.size W wx → Calls Try.prog 26 #[.agg #[.int .u8 ka, .string ta, .slice pa na ca, .slice qa ma da]] wx fun e w' => (∃ n : Int, e = .returned (.int .i64 n)) ∧ Below wx.heap.size wx w') := Lib.hid fun wx h => weight_any hx0 wx h
  have HWB : Hid (∀ wx, Below W.heap.size W wx → Calls Try.prog 26 #[.agg #[.int .u8 kb, .string tb, .slice pb nb cb, .slice qb mb db]] wx fun e w' => (∃ n : Int, e = .returned (.int .i64 n)) ∧ Below wx.heap.size wx w') := Lib.hid fun wx h => weight_any hy0 wx h
  subst hpv
  go_enter Try.func4, Try.ntmps4
  go_wp2_with fail
  refine (HWA.out _ (box2_self (Below.refl _ _))).mono ?_
  rintro e w2 ⟨⟨n1, rfl⟩, hb2⟩
  have HB2 : Hid (Below (W.heap.size + 2) ((W.alloc (.cells #[.int .u8 ka, .string ta, .slice pa na ca, .slice qa ma da] 26)).alloc (.cells #[.int .u8 kb, .string tb, .slice pb nb cb, .slice qb mb db] 26)) w2) := Lib.hid (hb2.mono (by simp))
  clear hb2
  have a0 : w2.cell? ⟨W.heap.size, 0, none⟩ = some (.int .u8 ka) := box2_fst HB2.out 0 rfl
  have a1 : w2.cell? ⟨W.heap.size, 1, none⟩ = some (.string ta) := box2_fst HB2.out 1 rfl
  have a2 : w2.cell? ⟨W.heap.size, 2, none⟩ = some (.slice pa na ca) := box2_fst HB2.out 2 rfl
  have a3 : w2.cell? ⟨W.heap.size, 3, none⟩ = some (.slice qa ma da) := box2_fst HB2.out 3 rfl
  have b0 : w2.cell? ⟨W.heap.size + 1, 0, none⟩ = some (.int .u8 kb) := box2_snd HB2.out 0 rfl
  have b1 : w2.cell? ⟨W.heap.size + 1, 1, none⟩ = some (.string tb) := box2_snd HB2.out 1 rfl
  have b2 : w2.cell? ⟨W.heap.size + 1, 2, none⟩ = some (.slice pb nb cb) := box2_snd HB2.out 2 rfl
  have b3 : w2.cell? ⟨W.heap.size + 1, 3, none⟩ = some (.slice qb mb db) := box2_snd HB2.out 3 rfl
  by_cases h1 : 3000 ≤ n1
  · go_wp2_with fail
    go_ret
    exact ⟨rfl, box2_self HB2.out⟩
  · go_wp2_with fail
    refine (HWB.out _ (box2_self HB2.out)).mono ?_
    rintro e w3 ⟨⟨n2, rfl⟩, hb3⟩
    have HB3 : Hid (Below (W.heap.size + 2) ((W.alloc (.cells #[.int .u8 ka, .string ta, .slice pa na ca, .slice qa ma da] 26)).alloc (.cells #[.int .u8 kb, .string tb, .slice pb nb cb, .slice qb mb db] 26)) w3) := Lib.hid (HB2.out.trans (hb3.mono (by have := HB2.out.size; simp at this; omega)))
    clear hb3 a0 a1 a2 a3 b0 b1 b2 b3
    by_cases h2 : 3000 ≤ n2
    · go_wp2_with fail
      go_ret
      exact ⟨rfl, box2_self HB3.out⟩
    · by_cases h3 : 60 < place.length
      · go_wp2_with fail
        go_ret
        exact ⟨rfl, box2_self HB3.out⟩
      · have hpl : ¬ ((60 : Int) < (place.length : Int)) := by omega
        go_upto_region 3 with fail
        clear HWA HWB HB2
        have HB := HB3
        clear HB3
        generalize w3 = wr at *
        have HOLD : Hid (Below W.heap.size W wr) := Lib.hid (box2_self HB.out)
        have a0 : wr.cell? ⟨W.heap.size, 0, none⟩ = some (.int .u8 ka) := box2_fst HB.out 0 rfl
        have a1 : wr.cell? ⟨W.heap.size, 1, none⟩ = some (.string ta) := box2_fst HB.out 1 rfl
        have a2 : wr.cell? ⟨W.heap.size, 2, none⟩ = some (.slice pa na ca) := box2_fst HB.out 2 rfl
        have a3 : wr.cell? ⟨W.heap.size, 3, none⟩ = some (.slice qa ma da) := box2_fst HB.out 3 rfl
        have b0 : wr.cell? ⟨W.heap.size + 1, 0, none⟩ = some (.int .u8 kb) := box2_snd HB.out 0 rfl
        have b1 : wr.cell? ⟨W.heap.size + 1, 1, none⟩ = some (.string tb) := box2_snd HB.out 1 rfl
        have b2 : wr.cell? ⟨W.heap.size + 1, 2, none⟩ = some (.slice pb nb cb) := box2_snd HB.out 2 rfl
        have b3 : wr.cell? ⟨W.heap.size + 1, 3, none⟩ = some (.slice qb mb db) := box2_snd HB.out 3 rfl
        have HWE : Hid (∀ wx, Below wr.heap.size wr wx → Calls Try.prog 13 #[.agg #[.int .u8 ka, .string ta, .slice pa na ca, .slice qa ma da]] wx fun e w' => e = .returned (.bool wl) ∧ Below wx.heap.size wx w') := Lib.hid fun wx hx => by rw [← hwl]; exact well_any hx0 wx (HOLD.out.trans (hx.mono HOLD.out.size))
        have HWR : Hid (∀ wx, Below wr.heap.size wr wx → Calls Try.prog 27 #[.agg #[.int .u8 ka, .string ta, .slice pa na ca, .slice qa ma da]] wx fun e w' => e = .returned (.bool wl) ∧ Below wx.heap.size wx w') := Lib.hid fun wx hx => by rw [← hwl]; exact wellRef_any hx0 wx (HOLD.out.trans (hx.mono HOLD.out.size)) hxb
        have HMA : Hid (∀ wx, Below wr.heap.size wr wx → Calls Try.prog 14 #[.agg #[.int .u8 ka, .string ta, .slice pa na ca, .slice qa ma da]] wx fun e w' => e = .returned (.bool my) ∧ Below wx.heap.size wx w') := Lib.hid fun wx hx => by rw [← hmy]; exact may_any hx0 wx (HOLD.out.trans (hx.mono HOLD.out.size))
        have HMR : Hid (∀ wx, Below wr.heap.size wr wx → Calls Try.prog 28 #[.agg #[.int .u8 ka, .string ta, .slice pa na ca, .slice qa ma da]] wx fun e w' => e = .returned (.bool my) ∧ Below wx.heap.size wx w') := Lib.hid fun wx hx => by rw [← hmy]; exact mayRef_any hx0 hxb wx (HOLD.out.trans (hx.mono HOLD.out.size))
        have HSA : Hid (∀ wx, Below wr.heap.size wr wx → Calls Try.prog 29 #[.agg #[.int .u8 ka, .string ta, .slice pa na ca, .slice qa ma da], .agg #[.int .u8 kb, .string tb, .slice pb nb cb, .slice qb mb db]] wx fun e w' => e = .returned (.bool sm) ∧ Below wx.heap.size wx w') := Lib.hid fun wx hx => by rw [← hsm]; exact same_any hx0 hy0 wx (HOLD.out.trans (hx.mono HOLD.out.size))
        have HSR : Hid (∀ wx, Below wr.heap.size wr wx → Calls Try.prog 21 #[.agg #[.int .u8 ka, .string ta, .slice pa na ca, .slice qa ma da], .agg #[.int .u8 kb, .string tb, .slice pb nb cb, .slice qb mb db]] wx fun e w' => e = .returned (.bool sm) ∧ Below wx.heap.size wx w') := Lib.hid fun wx hx => by rw [← hsm]; exact sameRef_any hx0 hy0 hxb wx (HOLD.out.trans (hx.mono HOLD.out.size))
        have HSS : Hid (∀ wx, Below wr.heap.size wr wx → Calls Try.prog 29 #[.agg #[.int .u8 ka, .string ta, .slice pa na ca, .slice qa ma da], .agg #[.int .u8 ka, .string ta, .slice pa na ca, .slice qa ma da]] wx fun e w' => e = .returned (.bool true) ∧ Below wx.heap.size wx w') := Lib.hid fun wx hx => by rw [← Nd.same_self x]; exact same_any hx0 hx0 wx (HOLD.out.trans (hx.mono HOLD.out.size))
        have HNO : Hid (∀ wx, Below wr.heap.size wr wx → Calls Try.prog 30 #[.agg #[.int .u8 ka, .string ta, .slice pa na ca, .slice qa ma da]] wx fun e w' => e = .returned (.int .i64 nd) ∧ Below wx.heap.size wx w') := Lib.hid fun wx hx => by rw [← hnd]; exact nodes_any hx0 wx (HOLD.out.trans (hx.mono HOLD.out.size)) hxb
        have HNR : Hid (∀ wx, Below wr.heap.size wr wx → Calls Try.prog 31 #[.agg #[.int .u8 ka, .string ta, .slice pa na ca, .slice qa ma da]] wx fun e w' => e = .returned (.int .i64 nd) ∧ Below wx.heap.size wx w') := Lib.hid fun wx hx => by rw [← hnd]; exact nodesRef_any hx0 wx (HOLD.out.trans (hx.mono HOLD.out.size)) hxb
        have HKEEP : Hid (∀ wx w2, (fun wx => Below wr.heap.size wr wx ∧ wx.cell? ⟨W.heap.size, 0, none⟩ = some (.int .u8 ka) ∧ wx.cell? ⟨W.heap.size, 1, none⟩ = some (.string ta) ∧ wx.cell? ⟨W.heap.size, 2, none⟩ = some (.slice pa na ca) ∧ wx.cell? ⟨W.heap.size, 3, none⟩ = some (.slice qa ma da) ∧ wx.cell? ⟨W.heap.size + 1, 0, none⟩ = some (.int .u8 kb) ∧ wx.cell? ⟨W.heap.size + 1, 1, none⟩ = some (.string tb) ∧ wx.cell? ⟨W.heap.size + 1, 2, none⟩ = some (.slice pb nb cb) ∧ wx.cell? ⟨W.heap.size + 1, 3, none⟩ = some (.slice qb mb db)) wx → Below wx.heap.size wx w2 → (fun wx => Below wr.heap.size wr wx ∧ wx.cell? ⟨W.heap.size, 0, none⟩ = some (.int .u8 ka) ∧ wx.cell? ⟨W.heap.size, 1, none⟩ = some (.string ta) ∧ wx.cell? ⟨W.heap.size, 2, none⟩ = some (.slice pa na ca) ∧ wx.cell? ⟨W.heap.size, 3, none⟩ = some (.slice qa ma da) ∧ wx.cell? ⟨W.heap.size + 1, 0, none⟩ = some (.int .u8 kb) ∧ wx.cell? ⟨W.heap.size + 1, 1, none⟩ = some (.string tb) ∧ wx.cell? ⟨W.heap.size + 1, 2, none⟩ = some (.slice pb nb cb) ∧ wx.cell? ⟨W.heap.size + 1, 3, none⟩ = some (.slice qb mb db)) w2) := Lib.hid fun wx w2 hs hb => by
          obtain ⟨s0, s1, s2, s3, s4, s5, s6, s7, s8⟩ := hs
          exact ⟨s0.trans (hb.mono s0.size), cell_kept hb s1, cell_kept hb s2, cell_kept hb s3, cell_kept hb s4, cell_kept hb s5, cell_kept hb s6, cell_kept hb s7, cell_kept hb s8⟩
        refine wp_region_held_drew (S := (fun wx => Below wr.heap.size wr wx ∧ wx.cell? ⟨W.heap.size, 0, none⟩ = some (.int .u8 ka) ∧ wx.cell? ⟨W.heap.size, 1, none⟩ = some (.string ta) ∧ wx.cell? ⟨W.heap.size, 2, none⟩ = some (.slice pa na ca) ∧ wx.cell? ⟨W.heap.size, 3, none⟩ = some (.slice qa ma da) ∧ wx.cell? ⟨W.heap.size + 1, 0, none⟩ = some (.int .u8 kb) ∧ wx.cell? ⟨W.heap.size + 1, 1, none⟩ = some (.string tb) ∧ wx.cell? ⟨W.heap.size + 1, 2, none⟩ = some (.slice pb nb cb) ∧ wx.cell? ⟨W.heap.size + 1, 3, none⟩ = some (.slice qb mb db))) (by kernel_rfl) ⟨(Below.refl _ _).drew, a0, a1, a2, a3, b0, b1, b2, b3⟩ (fun hHeld => ?_)
        refine wpAnyH_take (i := 0) (oi := { dst := some 24, op := Op.load 26 (Operand.tmp 3), type := 26, pos := "law.go:86", after := #[], guard := none }) (v := ?_) rfl (by kernel_rfl) (by kernel_rfl) (by kernel_rfl) (fun _ _ _ h => h) (Or.inl ⟨by rfl, ?_⟩) (by assumption) ?_
        rotate_left
        · (intro w hSw; (try dsimp only at hSw); go_simp; try with_reducible rfl)
        try simp only [Act.put, List.setIfInBounds_toArray, List.set_cons_zero, List.set_cons_succ]
        refine wpAnyH_take (i := 2) (oi := { dst := some 26, op := Op.load 26 (Operand.tmp 3), type := 26, pos := "law.go:86", after := #[], guard := none }) (v := ?_) rfl (by kernel_rfl) (by kernel_rfl) (by kernel_rfl) (fun _ _ _ h => h) (Or.inl ⟨by rfl, ?_⟩) (by assumption) ?_
        rotate_left
        · (intro w hSw; (try dsimp only at hSw); go_simp; try with_reducible rfl)
        try simp only [Act.put, List.setIfInBounds_toArray, List.set_cons_zero, List.set_cons_succ]
        refine wpAnyH_ready (rs := [1]) (by kernel_rfl) (by simp) ?_
        refine AllReadyH.cons (o := { dst := some 25, op := Op.call { callee := Callee.value (Operand.func 13), args := #[Operand.tmp 24], argTypes := #[26] }, type := 4, pos := "law.go:86", after := #[{ on := 0, ground := Ground.data }], guard := none }) rfl (fun K hK => ?_) AllReadyH.nil
        go_simp
        (go_at_call 13; refine (HWE.out _ (And.left (by assumption))).mono ?_; rintro e w2 ⟨rfl, hb2⟩; have hS2 := HKEEP.out _ _ (by assumption) hb2; clear hb2)
        go_wp2_with fail
        refine hK.out _ _ (by first | assumption | assumption) (fun hHeld => ?_)
        clear hK K
        try simp only [Act.put, List.setIfInBounds_toArray, List.set_cons_zero, List.set_cons_succ]
        refine wpAnyH_ready (rs := [3]) (by kernel_rfl) (by simp) ?_
        refine AllReadyH.cons (o := { dst := some 27, op := Op.call { callee := Callee.value (Operand.func 27), args := #[Operand.tmp 26], argTypes := #[26] }, type := 4, pos := "law.go:86", after := #[{ on := 2, ground := Ground.data }, { on := 1, ground := Ground.chain }], guard := none }) rfl (fun K hK => ?_) AllReadyH.nil
        go_simp
        (go_at_call 27; refine (HWR.out _ (And.left (by assumption))).mono ?_; rintro e w2 ⟨rfl, hb2⟩; have hS2 := HKEEP.out _ _ (by assumption) hb2; clear hb2)
        go_wp2_with fail
        refine hK.out _ _ (by first | assumption | assumption) (fun hHeld => ?_)
        clear hK K
        try simp only [Act.put, List.setIfInBounds_toArray, List.set_cons_zero, List.set_cons_succ]
        refine wpAnyH_take (i := 4) (oi := { dst := some 28, op := Op.binOp BinOp.neq 4 (Operand.tmp 25) (Operand.tmp 27) 4, type := 4, pos := "law.go:86", after := #[{ on := 1, ground := Ground.data }, { on := 3, ground := Ground.data }], guard := none }) (v := ?_) rfl (by kernel_rfl) (by kernel_rfl) (by kernel_rfl) (fun _ _ _ h => h) (Or.inl ⟨by rfl, ?_⟩) (by assumption) ?_
        rotate_left
        · (intro w hSw; (try dsimp only at hSw); go_simp; try with_reducible rfl)
        try simp only [Act.put, List.setIfInBounds_toArray, List.set_cons_zero, List.set_cons_succ]
        refine wpAnyH_take (i := 5) (oi := { dst := some 29, op := Op.move (Operand.tmp 28), type := 4, pos := "law.go:86", after := #[{ on := 4, ground := Ground.data }, { on := 3, ground := Ground.chain }], guard := none }) (v := ?_) rfl (by kernel_rfl) (by kernel_rfl) (by kernel_rfl) (fun _ _ _ h => h) (Or.inl ⟨by rfl, ?_⟩) (by assumption) ?_
        rotate_left
        · (intro w hSw; (try dsimp only at hSw); go_simp; try with_reducible rfl)
        try simp only [Act.put, List.setIfInBounds_toArray, List.set_cons_zero, List.set_cons_succ]
        refine wpAnyH_take (i := 6) (oi := { dst := some 30, op := Op.load 26 (Operand.tmp 3), type := 26, pos := "law.go:86", after := #[{ on := 5, ground := Ground.guard }], guard := some (5, false) }) (v := ?_) rfl (by kernel_rfl) (by kernel_rfl) (by kernel_rfl) (fun _ _ _ h => h) (Or.inl ⟨by rfl, ?_⟩) (by assumption) ?_
        rotate_left
        · (intro w hSw; (try dsimp only at hSw); go_simp; try with_reducible rfl)
        try simp only [Act.put, List.setIfInBounds_toArray, List.set_cons_zero, List.set_cons_succ]
        refine wpAnyH_take (i := 8) (oi := { dst := some 32, op := Op.load 26 (Operand.tmp 3), type := 26, pos := "law.go:86", after := #[{ on := 5, ground := Ground.guard }], guard := some (5, false) }) (v := ?_) rfl (by kernel_rfl) (by kernel_rfl) (by kernel_rfl) (fun _ _ _ h => h) (Or.inl ⟨by rfl, ?_⟩) (by assumption) ?_
        rotate_left
        · (intro w hSw; (try dsimp only at hSw); go_simp; try with_reducible rfl)
        try simp only [Act.put, List.setIfInBounds_toArray, List.set_cons_zero, List.set_cons_succ]
        refine wpAnyH_ready (rs := [7]) (by kernel_rfl) (by simp) ?_
        refine AllReadyH.cons (o := { dst := some 31, op := Op.call { callee := Callee.value (Operand.func 14), args := #[Operand.tmp 30], argTypes := #[26] }, type := 4, pos := "law.go:86", after := #[{ on := 6, ground := Ground.data }, { on := 5, ground := Ground.chain }, { on := 5, ground := Ground.guard }], guard := some (5, false) }) rfl (fun K hK => ?_) AllReadyH.nil
        go_simp
        (go_at_call 14; refine (HMA.out _ (And.left (by assumption))).mono ?_; rintro e w2 ⟨rfl, hb2⟩; have hS2 := HKEEP.out _ _ (by assumption) hb2; clear hb2)
        go_wp2_with fail
        refine hK.out _ _ (by first | assumption | assumption) (fun hHeld => ?_)
        clear hK K
        try simp only [Act.put, List.setIfInBounds_toArray, List.set_cons_zero, List.set_cons_succ]
        refine wpAnyH_ready (rs := [9]) (by kernel_rfl) (by simp) ?_
        refine AllReadyH.cons (o := { dst := some 33, op := Op.call { callee := Callee.value (Operand.func 28), args := #[Operand.tmp 32], argTypes := #[26] }, type := 4, pos := "law.go:86", after := #[{ on := 8, ground := Ground.data }, { on := 7, ground := Ground.chain }, { on := 5, ground := Ground.guard }], guard := some (5, false) }) rfl (fun K hK => ?_) AllReadyH.nil
        go_simp
        (go_at_call 28; refine (HMR.out _ (And.left (by assumption))).mono ?_; rintro e w2 ⟨rfl, hb2⟩; have hS2 := HKEEP.out _ _ (by assumption) hb2; clear hb2)
        go_wp2_with fail
        refine hK.out _ _ (by first | assumption | assumption) (fun hHeld => ?_)
        clear hK K
        try simp only [Act.put, List.setIfInBounds_toArray, List.set_cons_zero, List.set_cons_succ]
        refine wpAnyH_take (i := 10) (oi := { dst := some 34, op := Op.binOp BinOp.neq 4 (Operand.tmp 31) (Operand.tmp 33) 4, type := 4, pos := "law.go:86", after := #[{ on := 7, ground := Ground.data }, { on := 9, ground := Ground.data }, { on := 5, ground := Ground.guard }], guard := some (5, false) }) (v := ?_) rfl (by kernel_rfl) (by kernel_rfl) (by kernel_rfl) (fun _ _ _ h => h) (Or.inl ⟨by rfl, ?_⟩) (by assumption) ?_
        rotate_left
        · (intro w hSw; (try dsimp only at hSw); go_simp; try with_reducible rfl)
        try simp only [Act.put, List.setIfInBounds_toArray, List.set_cons_zero, List.set_cons_succ]
        refine wpAnyH_take (i := 11) (oi := { dst := some 35, op := Op.pick (Operand.tmp 29) (Operand.const (Value.bool true)) (Operand.tmp 34), type := 4, pos := "law.go:86", after := #[{ on := 5, ground := Ground.data }, { on := 10, ground := Ground.data }], guard := none }) (v := ?_) rfl (by kernel_rfl) (by kernel_rfl) (by kernel_rfl) (fun _ _ _ h => h) (Or.inl ⟨by rfl, ?_⟩) (by assumption) ?_
        rotate_left
        · (intro w hSw; (try dsimp only at hSw); go_simp; try with_reducible rfl)
        try simp only [Act.put, List.setIfInBounds_toArray, List.set_cons_zero, List.set_cons_succ]
        refine wpAnyH_take (i := 12) (oi := { dst := some 36, op := Op.move (Operand.tmp 35), type := 4, pos := "law.go:86", after := #[{ on := 11, ground := Ground.data }, { on := 9, ground := Ground.chain }], guard := none }) (v := ?_) rfl (by kernel_rfl) (by kernel_rfl) (by kernel_rfl) (fun _ _ _ h => h) (Or.inl ⟨by rfl, ?_⟩) (by assumption) ?_
        rotate_left
        · (intro w hSw; (try dsimp only at hSw); go_simp; try with_reducible rfl)
        try simp only [Act.put, List.setIfInBounds_toArray, List.set_cons_zero, List.set_cons_succ]
        refine wpAnyH_take (i := 13) (oi := { dst := some 37, op := Op.load 26 (Operand.tmp 3), type := 26, pos := "law.go:86", after := #[{ on := 12, ground := Ground.guard }], guard := some (12, false) }) (v := ?_) rfl (by kernel_rfl) (by kernel_rfl) (by kernel_rfl) (fun _ _ _ h => h) (Or.inl ⟨by rfl, ?_⟩) (by assumption) ?_
        rotate_left
        · (intro w hSw; (try dsimp only at hSw); go_simp; try with_reducible rfl)
        try simp only [Act.put, List.setIfInBounds_toArray, List.set_cons_zero, List.set_cons_succ]
        refine wpAnyH_take (i := 14) (oi := { dst := some 38, op := Op.load 26 (Operand.tmp 4), type := 26, pos := "law.go:86", after := #[{ on := 12, ground := Ground.guard }], guard := some (12, false) }) (v := ?_) rfl (by kernel_rfl) (by kernel_rfl) (by kernel_rfl) (fun _ _ _ h => h) (Or.inl ⟨by rfl, ?_⟩) (by assumption) ?_
        rotate_left
        · (intro w hSw; (try dsimp only at hSw); go_simp; try with_reducible rfl)
        try simp only [Act.put, List.setIfInBounds_toArray, List.set_cons_zero, List.set_cons_succ]
        refine wpAnyH_take (i := 16) (oi := { dst := some 40, op := Op.load 26 (Operand.tmp 3), type := 26, pos := "law.go:86", after := #[{ on := 12, ground := Ground.guard }], guard := some (12, false) }) (v := ?_) rfl (by kernel_rfl) (by kernel_rfl) (by kernel_rfl) (fun _ _ _ h => h) (Or.inl ⟨by rfl, ?_⟩) (by assumption) ?_
        rotate_left
        · (intro w hSw; (try dsimp only at hSw); go_simp; try with_reducible rfl)
        try simp only [Act.put, List.setIfInBounds_toArray, List.set_cons_zero, List.set_cons_succ]
        refine wpAnyH_take (i := 17) (oi := { dst := some 41, op := Op.load 26 (Operand.tmp 4), type := 26, pos := "law.go:86", after := #[{ on := 12, ground := Ground.guard }], guard := some (12, false) }) (v := ?_) rfl (by kernel_rfl) (by kernel_rfl) (by kernel_rfl) (fun _ _ _ h => h) (Or.inl ⟨by rfl, ?_⟩) (by assumption) ?_
        rotate_left
        · (intro w hSw; (try dsimp only at hSw); go_simp; try with_reducible rfl)
        try simp only [Act.put, List.setIfInBounds_toArray, List.set_cons_zero, List.set_cons_succ]
        refine wpAnyH_ready (rs := [15]) (by kernel_rfl) (by simp) ?_
        refine AllReadyH.cons (o := { dst := some 39, op := Op.call { callee := Callee.value (Operand.func 29), args := #[Operand.tmp 37, Operand.tmp 38], argTypes := #[26, 26] }, type := 4, pos := "law.go:86", after := #[{ on := 13, ground := Ground.data }, { on := 14, ground := Ground.data }, { on := 12, ground := Ground.chain }, { on := 12, ground := Ground.guard }], guard := some (12, false) }) rfl (fun K hK => ?_) AllReadyH.nil
        go_simp
        (go_at_call 29; refine (HSA.out _ (And.left (by assumption))).mono ?_; rintro e w2 ⟨rfl, hb2⟩; have hS2 := HKEEP.out _ _ (by assumption) hb2; clear hb2)
        go_wp2_with fail
        refine hK.out _ _ (by first | assumption | assumption) (fun hHeld => ?_)
        clear hK K
        try simp only [Act.put, List.setIfInBounds_toArray, List.set_cons_zero, List.set_cons_succ]
        refine wpAnyH_ready (rs := [18]) (by kernel_rfl) (by simp) ?_
        refine AllReadyH.cons (o := { dst := some 42, op := Op.call { callee := Callee.value (Operand.func 21), args := #[Operand.tmp 40, Operand.tmp 41], argTypes := #[26, 26] }, type := 4, pos := "law.go:86", after := #[{ on := 16, ground := Ground.data }, { on := 17, ground := Ground.data }, { on := 15, ground := Ground.chain }, { on := 12, ground := Ground.guard }], guard := some (12, false) }) rfl (fun K hK => ?_) AllReadyH.nil
        go_simp
        (go_at_call 21; refine (HSR.out _ (And.left (by assumption))).mono ?_; rintro e w2 ⟨rfl, hb2⟩; have hS2 := HKEEP.out _ _ (by assumption) hb2; clear hb2)
        go_wp2_with fail
        refine hK.out _ _ (by first | assumption | assumption) (fun hHeld => ?_)
        clear hK K
        try simp only [Act.put, List.setIfInBounds_toArray, List.set_cons_zero, List.set_cons_succ]
        refine wpAnyH_take (i := 19) (oi := { dst := some 43, op := Op.binOp BinOp.neq 4 (Operand.tmp 39) (Operand.tmp 42) 4, type := 4, pos := "law.go:86", after := #[{ on := 15, ground := Ground.data }, { on := 18, ground := Ground.data }, { on := 12, ground := Ground.guard }], guard := some (12, false) }) (v := ?_) rfl (by kernel_rfl) (by kernel_rfl) (by kernel_rfl) (fun _ _ _ h => h) (Or.inl ⟨by rfl, ?_⟩) (by assumption) ?_
        rotate_left
        · (intro w hSw; (try dsimp only at hSw); go_simp; try with_reducible rfl)
        try simp only [Act.put, List.setIfInBounds_toArray, List.set_cons_zero, List.set_cons_succ]
        refine wpAnyH_take (i := 20) (oi := { dst := some 44, op := Op.pick (Operand.tmp 36) (Operand.const (Value.bool true)) (Operand.tmp 43), type := 4, pos := "law.go:86", after := #[{ on := 12, ground := Ground.data }, { on := 19, ground := Ground.data }], guard := none }) (v := ?_) rfl (by kernel_rfl) (by kernel_rfl) (by kernel_rfl) (fun _ _ _ h => h) (Or.inl ⟨by rfl, ?_⟩) (by assumption) ?_
        rotate_left
        · (intro w hSw; (try dsimp only at hSw); go_simp; try with_reducible rfl)
        try simp only [Act.put, List.setIfInBounds_toArray, List.set_cons_zero, List.set_cons_succ]
        refine wpAnyH_take (i := 21) (oi := { dst := some 45, op := Op.move (Operand.tmp 44), type := 4, pos := "law.go:86", after := #[{ on := 20, ground := Ground.data }, { on := 18, ground := Ground.chain }], guard := none }) (v := ?_) rfl (by kernel_rfl) (by kernel_rfl) (by kernel_rfl) (fun _ _ _ h => h) (Or.inl ⟨by rfl, ?_⟩) (by assumption) ?_
        rotate_left
        · (intro w hSw; (try dsimp only at hSw); go_simp; try with_reducible rfl)
        try simp only [Act.put, List.setIfInBounds_toArray, List.set_cons_zero, List.set_cons_succ]
        refine wpAnyH_take (i := 22) (oi := { dst := some 46, op := Op.load 26 (Operand.tmp 3), type := 26, pos := "law.go:86", after := #[{ on := 21, ground := Ground.guard }], guard := some (21, false) }) (v := ?_) rfl (by kernel_rfl) (by kernel_rfl) (by kernel_rfl) (fun _ _ _ h => h) (Or.inl ⟨by rfl, ?_⟩) (by assumption) ?_
        rotate_left
        · (intro w hSw; (try dsimp only at hSw); go_simp; try with_reducible rfl)
        try simp only [Act.put, List.setIfInBounds_toArray, List.set_cons_zero, List.set_cons_succ]
        refine wpAnyH_take (i := 23) (oi := { dst := some 47, op := Op.load 26 (Operand.tmp 3), type := 26, pos := "law.go:86", after := #[{ on := 21, ground := Ground.guard }], guard := some (21, false) }) (v := ?_) rfl (by kernel_rfl) (by kernel_rfl) (by kernel_rfl) (fun _ _ _ h => h) (Or.inl ⟨by rfl, ?_⟩) (by assumption) ?_
        rotate_left
        · (intro w hSw; (try dsimp only at hSw); go_simp; try with_reducible rfl)
        try simp only [Act.put, List.setIfInBounds_toArray, List.set_cons_zero, List.set_cons_succ]
        refine wpAnyH_ready (rs := [24]) (by kernel_rfl) (by simp) ?_
        refine AllReadyH.cons (o := { dst := some 48, op := Op.call { callee := Callee.value (Operand.func 29), args := #[Operand.tmp 46, Operand.tmp 47], argTypes := #[26, 26] }, type := 4, pos := "law.go:86", after := #[{ on := 22, ground := Ground.data }, { on := 23, ground := Ground.data }, { on := 21, ground := Ground.chain }, { on := 21, ground := Ground.guard }], guard := some (21, false) }) rfl (fun K hK => ?_) AllReadyH.nil
        go_simp
        (go_at_call 29; refine (HSS.out _ (And.left (by assumption))).mono ?_; rintro e w2 ⟨rfl, hb2⟩; have hS2 := HKEEP.out _ _ (by assumption) hb2; clear hb2)
        go_wp2_with fail
        refine hK.out _ _ (by first | assumption | assumption) (fun hHeld => ?_)
        clear hK K
        try simp only [Act.put, List.setIfInBounds_toArray, List.set_cons_zero, List.set_cons_succ]
        refine wpAnyH_take (i := 25) (oi := { dst := some 49, op := Op.unOp UnOp.not 4 (Operand.tmp 48), type := 4, pos := "law.go:86", after := #[{ on := 24, ground := Ground.data }, { on := 21, ground := Ground.guard }], guard := some (21, false) }) (v := ?_) rfl (by kernel_rfl) (by kernel_rfl) (by kernel_rfl) (fun _ _ _ h => h) (Or.inl ⟨by rfl, ?_⟩) (by assumption) ?_
        rotate_left
        · (intro w hSw; (try dsimp only at hSw); go_simp; try with_reducible rfl)
        try simp only [Act.put, List.setIfInBounds_toArray, List.set_cons_zero, List.set_cons_succ]
        refine wpAnyH_take (i := 26) (oi := { dst := some 50, op := Op.pick (Operand.tmp 45) (Operand.const (Value.bool true)) (Operand.tmp 49), type := 4, pos := "law.go:86", after := #[{ on := 21, ground := Ground.data }, { on := 25, ground := Ground.data }], guard := none }) (v := ?_) rfl (by kernel_rfl) (by kernel_rfl) (by kernel_rfl) (fun _ _ _ h => h) (Or.inl ⟨by rfl, ?_⟩) (by assumption) ?_
        rotate_left
        · (intro w hSw; (try dsimp only at hSw); go_simp; try with_reducible rfl)
        try simp only [Act.put, List.setIfInBounds_toArray, List.set_cons_zero, List.set_cons_succ]
        refine wpAnyH_take (i := 27) (oi := { dst := some 51, op := Op.move (Operand.tmp 50), type := 4, pos := "law.go:86", after := #[{ on := 26, ground := Ground.data }, { on := 24, ground := Ground.chain }], guard := none }) (v := ?_) rfl (by kernel_rfl) (by kernel_rfl) (by kernel_rfl) (fun _ _ _ h => h) (Or.inl ⟨by rfl, ?_⟩) (by assumption) ?_
        rotate_left
        · (intro w hSw; (try dsimp only at hSw); go_simp; try with_reducible rfl)
        try simp only [Act.put, List.setIfInBounds_toArray, List.set_cons_zero, List.set_cons_succ]
        refine wpAnyH_take (i := 28) (oi := { dst := some 52, op := Op.load 26 (Operand.tmp 3), type := 26, pos := "law.go:86", after := #[{ on := 27, ground := Ground.guard }], guard := some (27, false) }) (v := ?_) rfl (by kernel_rfl) (by kernel_rfl) (by kernel_rfl) (fun _ _ _ h => h) (Or.inl ⟨by rfl, ?_⟩) (by assumption) ?_
        rotate_left
        · (intro w hSw; (try dsimp only at hSw); go_simp; try with_reducible rfl)
        try simp only [Act.put, List.setIfInBounds_toArray, List.set_cons_zero, List.set_cons_succ]
        refine wpAnyH_take (i := 30) (oi := { dst := some 54, op := Op.load 26 (Operand.tmp 3), type := 26, pos := "law.go:86", after := #[{ on := 27, ground := Ground.guard }], guard := some (27, false) }) (v := ?_) rfl (by kernel_rfl) (by kernel_rfl) (by kernel_rfl) (fun _ _ _ h => h) (Or.inl ⟨by rfl, ?_⟩) (by assumption) ?_
        rotate_left
        · (intro w hSw; (try dsimp only at hSw); go_simp; try with_reducible rfl)
        try simp only [Act.put, List.setIfInBounds_toArray, List.set_cons_zero, List.set_cons_succ]
        refine wpAnyH_ready (rs := [29]) (by kernel_rfl) (by simp) ?_
        refine AllReadyH.cons (o := { dst := some 53, op := Op.call { callee := Callee.value (Operand.func 30), args := #[Operand.tmp 52], argTypes := #[26] }, type := 3, pos := "law.go:86", after := #[{ on := 28, ground := Ground.data }, { on := 27, ground := Ground.chain }, { on := 27, ground := Ground.guard }], guard := some (27, false) }) rfl (fun K hK => ?_) AllReadyH.nil
        go_simp
        (go_at_call 30; refine (HNO.out _ (And.left (by assumption))).mono ?_; rintro e w2 ⟨rfl, hb2⟩; have hS2 := HKEEP.out _ _ (by assumption) hb2; clear hb2)
        go_wp2_with fail
        refine hK.out _ _ (by first | assumption | assumption) (fun hHeld => ?_)
        clear hK K
        try simp only [Act.put, List.setIfInBounds_toArray, List.set_cons_zero, List.set_cons_succ]
        refine wpAnyH_ready (rs := [31]) (by kernel_rfl) (by simp) ?_
        refine AllReadyH.cons (o := { dst := some 55, op := Op.call { callee := Callee.value (Operand.func 31), args := #[Operand.tmp 54], argTypes := #[26] }, type := 3, pos := "law.go:86", after := #[{ on := 30, ground := Ground.data }, { on := 29, ground := Ground.chain }, { on := 27, ground := Ground.guard }], guard := some (27, false) }) rfl (fun K hK => ?_) AllReadyH.nil
        go_simp
        (go_at_call 31; refine (HNR.out _ (And.left (by assumption))).mono ?_; rintro e w2 ⟨rfl, hb2⟩; have hS2 := HKEEP.out _ _ (by assumption) hb2; clear hb2)
        go_wp2_with fail
        refine hK.out _ _ (by first | assumption | assumption) (fun hHeld => ?_)
        clear hK K
        try simp only [Act.put, List.setIfInBounds_toArray, List.set_cons_zero, List.set_cons_succ]
        refine wpAnyH_take (i := 32) (oi := { dst := some 56, op := Op.binOp BinOp.neq 3 (Operand.tmp 53) (Operand.tmp 55) 3, type := 4, pos := "law.go:86", after := #[{ on := 29, ground := Ground.data }, { on := 31, ground := Ground.data }, { on := 27, ground := Ground.guard }], guard := some (27, false) }) (v := ?_) rfl (by kernel_rfl) (by kernel_rfl) (by kernel_rfl) (fun _ _ _ h => h) (Or.inl ⟨by rfl, ?_⟩) (by assumption) ?_
        rotate_left
        · (intro w hSw; (try dsimp only at hSw); go_simp; try with_reducible rfl)
        try simp only [Act.put, List.setIfInBounds_toArray, List.set_cons_zero, List.set_cons_succ]
        refine wpAnyH_take (i := 33) (oi := { dst := some 57, op := Op.pick (Operand.tmp 51) (Operand.const (Value.bool true)) (Operand.tmp 56), type := 4, pos := "law.go:86", after := #[{ on := 27, ground := Ground.data }, { on := 32, ground := Ground.data }], guard := none }) (v := ?_) rfl (by kernel_rfl) (by kernel_rfl) (by kernel_rfl) (fun _ _ _ h => h) (Or.inl ⟨by rfl, ?_⟩) (by assumption) ?_
        rotate_left
        · (intro w hSw; (try dsimp only at hSw); go_simp; try with_reducible rfl)
        try simp only [Act.put, List.setIfInBounds_toArray, List.set_cons_zero, List.set_cons_succ]
        refine wpAnyH_done (by kernel_rfl) ?_ _
        have HB4 : Hid (Below (W.heap.size + 2) ((W.alloc (.cells #[.int .u8 ka, .string ta, .slice pa na ca, .slice qa ma da] 26)).alloc (.cells #[.int .u8 kb, .string tb, .slice pb nb cb, .slice qb mb db] 26)) w2) := Lib.hid (HB.out.trans ((show Below wr.heap.size wr w2 from And.left (by assumption)).mono (by have := HB.out.size; simp at this; omega)))
        clear a0 a1 a2 a3 b0 b1 b2 b3 hHeld hS2 HKEEP HWE HWR HMA HMR HSA HSR HSS HNO HNR HOLD HB hmy hsm hnd
        go_upto_region 6 with fail
        have HW5 : Hid (Four (w2.alloc (.cells #[.int .u8 0, .string ⟨#[]⟩, .slice none 0 0, .slice none 0 0] 26)) w2.heap.size (.int .u8 0) (.string ⟨#[]⟩) (.slice none 0 0) (.slice none 0 0)) := Lib.hid (four_new w2 _ _ _ _)
        have HB5 : Hid (Below (W.heap.size + 2) ((W.alloc (.cells #[.int .u8 ka, .string ta, .slice pa na ca, .slice qa ma da] 26)).alloc (.cells #[.int .u8 kb, .string tb, .slice pb nb cb, .slice qb mb db] 26)) (w2.alloc (.cells #[.int .u8 0, .string ⟨#[]⟩, .slice none 0 0, .slice none 0 0] 26))) := Lib.hid (HB4.out.alloc (by have := HB4.out.size; simp at this; omega) _)
        have hg2 : W.heap.size + 2 ≤ w2.heap.size := by have := HB4.out.size; simp at this; omega
        have hg5 : w2.heap.size + 1 ≤ (w2.alloc (.cells #[.int .u8 0, .string ⟨#[]⟩, .slice none 0 0, .slice none 0 0] 26)).heap.size := by simp
        clear HB4
        generalize w2.alloc (.cells #[.int .u8 0, .string { data := #[] }, .slice none 0 0, .slice none 0 0] 26) = w5 at *
        generalize w2.heap.size = g at *
        have HOLD5 : Hid (Below W.heap.size W w5) := Lib.hid (box2_self HB5.out)
        have a0 : w5.cell? ⟨W.heap.size, 0, none⟩ = some (.int .u8 ka) := box2_fst HB5.out 0 rfl
        have a1 : w5.cell? ⟨W.heap.size, 1, none⟩ = some (.string ta) := box2_fst HB5.out 1 rfl
        have a2 : w5.cell? ⟨W.heap.size, 2, none⟩ = some (.slice pa na ca) := box2_fst HB5.out 2 rfl
        have a3 : w5.cell? ⟨W.heap.size, 3, none⟩ = some (.slice qa ma da) := box2_fst HB5.out 3 rfl
        have b0 : w5.cell? ⟨W.heap.size + 1, 0, none⟩ = some (.int .u8 kb) := box2_snd HB5.out 0 rfl
        have b1 : w5.cell? ⟨W.heap.size + 1, 1, none⟩ = some (.string tb) := box2_snd HB5.out 1 rfl
        have b2 : w5.cell? ⟨W.heap.size + 1, 2, none⟩ = some (.slice pb nb cb) := box2_snd HB5.out 2 rfl
        have b3 : w5.cell? ⟨W.heap.size + 1, 3, none⟩ = some (.slice qb mb db) := box2_snd HB5.out 3 rfl
        have HWR5 : Hid (Calls Try.prog 27 #[.agg #[.int .u8 ka, .string ta, .slice pa na ca, .slice qa ma da]] w5 fun e w' => e = .returned (.bool wl) ∧ Below w5.heap.size w5 w') := Lib.hid (by rw [← hwl]; exact wellRef_any HX0.out w5 HOLD5.out hxb)
        have HATW : Hid (x.atW place = if wl then x.at_ place else .none) := Lib.hid (by rw [← hwl]; rfl)
        have HAR : Hid (∀ wx, Below w5.heap.size w5 wx → Calls Try.prog 32 #[.agg #[.int .u8 ka, .string ta, .slice pa na ca, .slice qa ma da], .slice pp place.length pc] wx fun e w' => (∃ vs b, e = .returned (.tuple #[.agg vs, .bool b]) ∧ NodeR W vs.toList ((x.at_ place).getD absent) ∧ b = (x.at_ place).isSome) ∧ Below wx.heap.size wx w') := Lib.hid fun wx h => atRef_any HX0.out HP.out wx (HOLD5.out.trans (h.mono HOLD5.out.size))
        go_upto_if 60 with (go_at_call 27; refine HWR5.out.mono ?_; rintro e w6 ⟨rfl, hb6⟩; have HB6 := Lib.hid hb6; clear hb6)
        clear a0 a1 a2 a3 b0 b1 b2 b3
        have HW6 := Lib.hid (HW5.out.kept HB6.out)
        have HBB : Hid (Below (W.heap.size + 2) ((W.alloc (.cells #[.int .u8 ka, .string ta, .slice pa na ca, .slice qa ma da] 26)).alloc (.cells #[.int .u8 kb, .string tb, .slice pb nb cb, .slice qb mb db] 26)) w6) := Lib.hid (HB5.out.trans (HB6.out.mono (by have := HB5.out.size; simp at this; omega)))
        have hg6 : g + 1 ≤ w6.heap.size := Nat.le_trans hg5 HB6.out.size
        go_cut [8] (fun s wx => ∃ (kk : Int) (tx : ByteArray) (p2 : Option Addr) (n2 c2 : Nat) (q2 : Option Addr) (m2 d2 : Nat) (b : Bool), s = .bool b ∧ Hid (NodeR W [.int .u8 kk, .string tx, .slice p2 n2 c2, .slice q2 m2 d2] ((x.atW place).getD absent)) ∧ Hid (b = (x.atW place).isSome) ∧
          Hid (Four wx g (.int .u8 kk) (.string tx) (.slice p2 n2 c2) (.slice q2 m2 d2)) ∧ Hid (Below (W.heap.size + 2) ((W.alloc (.cells #[.int .u8 ka, .string ta, .slice pa na ca, .slice qa ma da] 26)).alloc (.cells #[.int .u8 kb, .string tb, .slice pb nb cb, .slice qb mb db] 26)) wx))
        case first =>
          cases wl with
          | false =>
            go_wp2_with fail
            go_meet
            exact ⟨0, _, _, _, _, _, _, _, false, rfl, Lib.hid (by rw [HATW.out]; exact absent_R W), Lib.hid (by rw [HATW.out]; rfl), HW6, HBB⟩
          | true =>
            have a0 : w6.cell? ⟨W.heap.size, 0, none⟩ = some (.int .u8 ka) := box2_fst HBB.out 0 rfl
            have a1 : w6.cell? ⟨W.heap.size, 1, none⟩ = some (.string ta) := box2_fst HBB.out 1 rfl
            have a2 : w6.cell? ⟨W.heap.size, 2, none⟩ = some (.slice pa na ca) := box2_fst HBB.out 2 rfl
            have a3 : w6.cell? ⟨W.heap.size, 3, none⟩ = some (.slice qa ma da) := box2_fst HBB.out 3 rfl
            have b0 : w6.cell? ⟨W.heap.size + 1, 0, none⟩ = some (.int .u8 kb) := box2_snd HBB.out 0 rfl
            have b1 : w6.cell? ⟨W.heap.size + 1, 1, none⟩ = some (.string tb) := box2_snd HBB.out 1 rfl
            have b2 : w6.cell? ⟨W.heap.size + 1, 2, none⟩ = some (.slice pb nb cb) := box2_snd HBB.out 2 rfl
            have b3 : w6.cell? ⟨W.heap.size + 1, 3, none⟩ = some (.slice qb mb db) := box2_snd HBB.out 3 rfl
            go_wp2_with fail
            refine (HAR.out _ HB6.out).mono ?_
            rintro e w7 ⟨⟨vs, b, rfl, hvs, hbs⟩, hb7⟩
            have HBS := Lib.hid hbs
            have HVS := Lib.hid hvs
            obtain ⟨p2, q2, c2, d2, hvs2⟩ := hvs.cells
            have hvs3 : vs = #[.int .u8 ((x.at_ place).getD absent).kind.toNat, .string ((x.at_ place).getD absent).text, .slice p2 ((x.at_ place).getD absent).names.length c2, .slice q2 ((x.at_ place).getD absent).kids.length d2] := by rw [← Array.toList_inj, hvs2]
            subst hvs3
            have HW7 := Lib.hid (HW6.out.kept hb7)
            have HB7 : Hid (Below (W.heap.size + 2) ((W.alloc (.cells #[.int .u8 ka, .string ta, .slice pa na ca, .slice qa ma da] 26)).alloc (.cells #[.int .u8 kb, .string tb, .slice pb nb cb, .slice qb mb db] 26)) w7) := Lib.hid (HBB.out.trans (hb7.mono (by have := HBB.out.size; simp at this; omega)))
            clear hb7 hvs hvs2 hbs a0 a1 a2 a3 b0 b1 b2 b3
            obtain ⟨z0, z1, z2, z3⟩ := HW7.out.cell
            obtain ⟨x0, x1, x2, x3⟩ := HW7.out.open_
            go_wp2_with fail
            go_meet
            exact ⟨_, _, _, _, _, _, _, _, b, rfl, Lib.hid (by rw [HATW.out]; exact HVS.out), Lib.hid (by rw [HATW.out]; exact HBS.out), Lib.hid (HW7.out.set _ _ _ _), Lib.hid (below_four HB7.out hg2 _ _ _ _)⟩
        case rest =>
          clear HW6 HBB HB6 HW5 HB5 HWR5 HAR HATW hg5 hg6 HOLD5
          obtain ⟨kk, tx, p2, n2, c2, q2, m2, d2, b, rfl, HR, HBS, HW, HB⟩ := hcut
          have HOLD : Hid (Below W.heap.size W wc) := Lib.hid (box2_self HB.out)
          have a0 : wc.cell? ⟨W.heap.size, 0, none⟩ = some (.int .u8 ka) := box2_fst HB.out 0 rfl
          have a1 : wc.cell? ⟨W.heap.size, 1, none⟩ = some (.string ta) := box2_fst HB.out 1 rfl
          have a2 : wc.cell? ⟨W.heap.size, 2, none⟩ = some (.slice pa na ca) := box2_fst HB.out 2 rfl
          have a3 : wc.cell? ⟨W.heap.size, 3, none⟩ = some (.slice qa ma da) := box2_fst HB.out 3 rfl
          have b0 : wc.cell? ⟨W.heap.size + 1, 0, none⟩ = some (.int .u8 kb) := box2_snd HB.out 0 rfl
          have b1 : wc.cell? ⟨W.heap.size + 1, 1, none⟩ = some (.string tb) := box2_snd HB.out 1 rfl
          have b2 : wc.cell? ⟨W.heap.size + 1, 2, none⟩ = some (.slice pb nb cb) := box2_snd HB.out 2 rfl
          have b3 : wc.cell? ⟨W.heap.size + 1, 3, none⟩ = some (.slice qb mb db) := box2_snd HB.out 3 rfl
          have HGI : Hid (Calls Try.prog 34 #[.agg #[.int .u8 ka, .string ta, .slice pa na ca, .slice qa ma da]] wc fun e w' => (∃ vs, e = .returned (.agg vs) ∧ NodeX w' (fun b => wc.heap.size ≤ b ∧ b < w'.heap.size) vs.toList x) ∧ Below wc.heap.size wc w') := Lib.hid (given_any HX0.out wc HOLD.out hxb)
          go_wp2_with fail
          refine HGI.out.mono ?_
          rintro e w6 ⟨⟨vs, rfl, hvs⟩, hb6⟩
          have HV6 := Lib.hid hvs.to
          have HW6 := Lib.hid (HW.out.kept hb6)
          have HB6 : Hid (Below (W.heap.size + 2) ((W.alloc (.cells #[.int .u8 ka, .string ta, .slice pa na ca, .slice qa ma da] 26)).alloc (.cells #[.int .u8 kb, .string tb, .slice pb nb cb, .slice qb mb db] 26)) w6) := Lib.hid (HB.out.trans (hb6.mono (by have := HB.out.size; simp at this; omega)))
          have hold6 := box2_self HB6.out
          have HAT := Lib.hid (at_any hvs.to hxb (HP.out.grown hold6) w6 (Below.refl _ _))
          clear hb6 hvs hold6 a0 a1 a2 a3 b0 b1 b2 b3
          go_wp2_with fail
          refine HAT.out.mono ?_
          rintro e w7 ⟨⟨us, b2, rfl, hus, hbs⟩, hb7⟩
          obtain ⟨p3, q3, c3, d3, hus2⟩ := hus.cells
          have hus3 : us = #[.int .u8 ((x.atW place).getD absent).kind.toNat, .string ((x.atW place).getD absent).text, .slice p3 ((x.atW place).getD absent).names.length c3, .slice q3 ((x.atW place).getD absent).kids.length d3] := by rw [← Array.toList_inj, hus2]
          subst hus3
          have HBE : Hid (b2 = b) := Lib.hid (by rw [hbs, HBS.out])
          have HU7 := Lib.hid hus
          have HW7 := Lib.hid (HW6.out.kept hb7)
          have HB7 : Hid (Below (W.heap.size + 2) ((W.alloc (.cells #[.int .u8 ka, .string ta, .slice pa na ca, .slice qa ma da] 26)).alloc (.cells #[.int .u8 kb, .string tb, .slice pb nb cb, .slice qb mb db] 26)) w7) := Lib.hid (HB6.out.trans (hb7.mono (by have := HB6.out.size; simp at this; omega)))
          obtain rfl := HBE.out
          have HBK : Hid (((x.atW place).getD absent).bulk ≤ 2000000) := Lib.hid (by
            unfold Nd.atW
            split
            · exact at_bulk hxb
            · decide)
          have HSR : Hid (∀ wx, Below w7.heap.size w7 wx → Calls Try.prog 21 #[.agg #[.int .u8 ((x.atW place).getD absent).kind.toNat, .string ((x.atW place).getD absent).text, .slice p3 ((x.atW place).getD absent).names.length c3, .slice q3 ((x.atW place).getD absent).kids.length d3], .agg #[.int .u8 kk, .string tx, .slice p2 n2 c2, .slice q2 m2 d2]] wx fun e w' => e = .returned (.bool true) ∧ Below wx.heap.size wx w') := Lib.hid fun wx h => by
            rw [← Nd.same_self ((x.atW place).getD absent)]
            exact sameRef_any HU7.out (HR.out.grown (box2_self HB7.out)) HBK.out wx h
          generalize ((x.atW place).getD absent).kind.toNat = r1 at *
          generalize ((x.atW place).getD absent).text = r2 at *
          generalize ((x.atW place).getD absent).names.length = r3 at *
          generalize ((x.atW place).getD absent).kids.length = r4 at *
          clear hb7 hus hus2 hbs HAT
          obtain ⟨z0, z1, z2, z3⟩ := HW7.out.cell
          go_upto_region 9 with fail
          have HW8 := Lib.hid (HW7.out.alloc (.cells #[.int .u8 r1, .string r2, .slice p3 r3 c3, .slice q3 r4 d3] 26))
          have HF8 := Lib.hid (four_new w7 (.int .u8 r1) (.string r2) (.slice p3 r3 c3) (.slice q3 r4 d3))
          have HB8 : Hid (Below w7.heap.size w7 (w7.alloc (.cells #[.int .u8 r1, .string r2, .slice p3 r3 c3, .slice q3 r4 d3] 26))) := Lib.hid ((Below.refl _ _).alloc (Nat.le_refl _) _)
          generalize w7.alloc (.cells #[.int .u8 r1, .string r2, .slice p3 r3 c3, .slice q3 r4 d3] 26) = w8 at *
          clear z0 z1 z2 z3
          obtain ⟨z0, z1, z2, z3⟩ := HW8.out.cell
          obtain ⟨t0, t1, t2, t3⟩ := HF8.out.cell
          cases b2
          all_goals
            go_wp2_with fail
            refine (HSR.out _ HB8.out).mono ?_
            rintro e w9 ⟨rfl, hb9⟩
            have HB9 := Lib.hid hb9
            clear hb9
            go_wp2_with fail
            go_ret
            exact ⟨rfl, (box2_self HB7.out).trans ((HB8.out.trans (HB9.out.mono HB8.out.size)).mono (box2_self HB7.out).size)⟩
end Go.Proofs.Ytjnojledmnnlnaa
