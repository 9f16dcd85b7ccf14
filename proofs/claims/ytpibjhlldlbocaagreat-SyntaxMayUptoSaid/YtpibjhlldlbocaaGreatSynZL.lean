/- The law SyntaxMay: it comes to true. -/
import Derived.Test.YtpibjhlldlbocaaGreatSynZK
namespace Go.Proofs.YtpibjhlldlbocaaGreat
open Go.RowKit Sx Go.Proofs
namespace Sx
theorem sameWs_refl : ∀ l : List Word, sameWs l l = true
  | [] => rfl
  | x :: l => by unfold sameWs; rw [samePs_refl, sameWs_refl l]; rfl
mutual
theorem Cmd.same_refl : ∀ c : Cmd, Cmd.same c c = true
  | .mk k a n ws ks => by unfold Cmd.same; rw [sameWs_refl, Cmd.sames_refl ks]; simp
theorem Cmd.sames_refl : ∀ l : List Cmd, Cmd.sames l l = true
  | [] => rfl
  | c :: r => by unfold Cmd.sames; rw [Cmd.same_refl c, Cmd.sames_refl r]; rfl
end
end Sx

set_option maxRecDepth 100000 in
set_option maxHeartbeats 4000000 in
theorem law_syntaxMay (HSIMPLE : SimpleRef) {W : World} {cs ds : List Value} {x y : Cmd} (hx : CmdR W cs x) (hy : CmdR W ds y) (hB : x.bulk ≤ 1900000) :
    Calls Tryz.prog 3 #[.agg cs.toArray, .agg ds.toArray] W fun e w' => e = .returned (.bool true) ∧ Below W.heap.size W w' := by
  have hdp : x.depth ≤ 2000000 := Nat.le_trans (Cmd.depth_bulk x) (by omega)
  have HWA : Hid (∀ wx, Below W.heap.size W wx → Calls Tryz.prog 4 #[.agg cs.toArray] wx fun e w' => (∃ n : Int, e = .returned (.int .i64 n)) ∧ Below wx.heap.size wx w') := Lib.hid fun wx h => weight_any hx wx h
  have HWB : Hid (∀ wx, Below W.heap.size W wx → Calls Tryz.prog 4 #[.agg ds.toArray] wx fun e w' => (∃ n : Int, e = .returned (.int .i64 n)) ∧ Below wx.heap.size wx w') := Lib.hid fun wx h => weight_any hy wx h
  have HM : Hid (∀ wx, Below W.heap.size W wx → Calls Tryz.prog 5 #[.agg cs.toArray] wx fun e w' => e = .returned (.bool (dMay x)) ∧ Below wx.heap.size wx w') := Lib.hid fun wx hx' => may_any hx hB wx hx'
  have HMR : Hid (∀ wx, Below W.heap.size W wx → Calls Tryz.prog 6 #[.agg cs.toArray] wx fun e w' => e = .returned (.bool (dMay x)) ∧ Below wx.heap.size wx w') := Lib.hid fun wx hx' => by rw [may_same x hB]; exact mayRef_any HSIMPLE hx hB wx hx'
  have HD : Hid (∀ wx, Below W.heap.size W wx → Calls Tryz.prog 7 #[.agg cs.toArray] wx fun e w' => e = .returned (.int .i64 x.depth) ∧ Below wx.heap.size wx w') := Lib.hid fun wx hx' => depth_any hx wx hx' (by omega)
  have HDR : Hid (∀ wx, Below W.heap.size W wx → Calls Tryz.prog 8 #[.agg cs.toArray] wx fun e w' => e = .returned (.int .i64 x.depth) ∧ Below wx.heap.size wx w') := Lib.hid fun wx hx' => depthRef_any hx wx hx' (by omega)
  have HS : Hid (∀ wx, Below W.heap.size W wx → Calls Tryz.prog 9 #[.agg cs.toArray, .agg ds.toArray] wx fun e w' => e = .returned (.bool (Cmd.same x y)) ∧ Below wx.heap.size wx w') := Lib.hid fun wx hx' => same_any hx hy wx hx'
  have HSR : Hid (∀ wx, Below W.heap.size W wx → Calls Tryz.prog 10 #[.agg cs.toArray, .agg ds.toArray] wx fun e w' => e = .returned (.bool (Cmd.same x y)) ∧ Below wx.heap.size wx w') := Lib.hid fun wx hx' => sameRef_any hx hy wx hx'
  have HSS : Hid (∀ wx, Below W.heap.size W wx → Calls Tryz.prog 9 #[.agg cs.toArray, .agg cs.toArray] wx fun e w' => e = .returned (.bool true) ∧ Below wx.heap.size wx w') := Lib.hid fun wx hx' => by rw [← Cmd.same_refl x]; exact same_any hx hx wx hx'
  obtain ⟨k1, a1, s1, p1, q1, n1, c1, m1, d1, rfl⟩ := hx.cells
  obtain ⟨k2, a2, s2, p2, q2, n2, c2, m2, d2, rfl⟩ := hy.cells
  generalize dMay x = gm at *
  generalize x.depth = dp at *
  generalize Cmd.same x y = gs at *
  clear hx hy hB HSIMPLE x y
  have HBX : Hid (Below W.heap.size W ((W.alloc (.cells #[.int .u8 k1, .int .i64 a1, .string s1, .slice p1 n1 c1, .slice q1 m1 d1] 25)).alloc (.cells #[.int .u8 k2, .int .i64 a2, .string s2, .slice p2 n2 c2, .slice q2 m2 d2] 25))) := Lib.hid (((Below.refl _ _).alloc (Nat.le_refl _) _).alloc (by simp) _)
  go_enter Tryz.func3, Tryz.ntmps3
  go_wp2_with fail
  refine (HWA.out _ HBX.out).mono ?_
  rintro e w2 ⟨⟨n, rfl⟩, hb2⟩
  have HBL2 := Lib.hid hb2
  have HB2 : Hid (Below W.heap.size W w2) := Lib.hid (HBX.out.trans (hb2.mono HBX.out.size))
  have HBY : Hid (Below (W.heap.size + 2) ((W.alloc (.cells #[.int .u8 k1, .int .i64 a1, .string s1, .slice p1 n1 c1, .slice q1 m1 d1] 25)).alloc (.cells #[.int .u8 k2, .int .i64 a2, .string s2, .slice p2 n2 c2, .slice q2 m2 d2] 25)) w2) := Lib.hid (hb2.mono (by simp))
  have ca0 : w2.cell? ⟨W.heap.size, 0, none⟩ = some (.int .u8 k1) := box2_fst HBY.out 0 rfl
  have ca1 : w2.cell? ⟨W.heap.size, 1, none⟩ = some (.int .i64 a1) := box2_fst HBY.out 1 rfl
  have ca2 : w2.cell? ⟨W.heap.size, 2, none⟩ = some (.string s1) := box2_fst HBY.out 2 rfl
  have ca3 : w2.cell? ⟨W.heap.size, 3, none⟩ = some (.slice p1 n1 c1) := box2_fst HBY.out 3 rfl
  have ca4 : w2.cell? ⟨W.heap.size, 4, none⟩ = some (.slice q1 m1 d1) := box2_fst HBY.out 4 rfl
  have cb0 : w2.cell? ⟨W.heap.size + 1, 0, none⟩ = some (.int .u8 k2) := box2_snd HBY.out 0 rfl
  have cb1 : w2.cell? ⟨W.heap.size + 1, 1, none⟩ = some (.int .i64 a2) := box2_snd HBY.out 1 rfl
  have cb2 : w2.cell? ⟨W.heap.size + 1, 2, none⟩ = some (.string s2) := box2_snd HBY.out 2 rfl
  have cb3 : w2.cell? ⟨W.heap.size + 1, 3, none⟩ = some (.slice p2 n2 c2) := box2_snd HBY.out 3 rfl
  have cb4 : w2.cell? ⟨W.heap.size + 1, 4, none⟩ = some (.slice q2 m2 d2) := box2_snd HBY.out 4 rfl
  clear hb2
  by_cases hn : (n : Int) ≥ 3000
  · go_wp2_with fail
    go_ret
    exact ⟨ret_bool rfl, HB2.out⟩
  · go_wp2_with fail
    refine (HWB.out _ HB2.out).mono ?_
    rintro e w3 ⟨⟨n', rfl⟩, hb3⟩
    have HB3 : Hid (Below W.heap.size W w3) := Lib.hid (HB2.out.trans (hb3.mono HB2.out.size))
    have ea0 := cell_kept hb3 ca0
    have ea1 := cell_kept hb3 ca1
    have ea2 := cell_kept hb3 ca2
    have ea3 := cell_kept hb3 ca3
    have ea4 := cell_kept hb3 ca4
    have eb0 := cell_kept hb3 cb0
    have eb1 := cell_kept hb3 cb1
    have eb2 := cell_kept hb3 cb2
    have eb3 := cell_kept hb3 cb3
    have eb4 := cell_kept hb3 cb4
    clear ca0
    clear ca1
    clear ca2
    clear ca3
    clear ca4
    clear cb0
    clear cb1
    clear cb2
    clear cb3
    clear cb4
    clear hb3
    by_cases hn' : (n' : Int) ≥ 3000
    · go_wp2_with fail
      go_ret
      exact ⟨ret_bool rfl, HB3.out⟩
    · go_wp2_with fail
      have HM3 : Hid (∀ wx, Below w3.heap.size w3 wx → Calls Tryz.prog 5 #[.agg #[.int .u8 k1, .int .i64 a1, .string s1, .slice p1 n1 c1, .slice q1 m1 d1]] wx fun e w' => e = .returned (.bool gm) ∧ Below wx.heap.size wx w') := Lib.hid fun wx hx' => HM.out wx (HB3.out.trans (hx'.mono HB3.out.size))
      have HMR3 : Hid (∀ wx, Below w3.heap.size w3 wx → Calls Tryz.prog 6 #[.agg #[.int .u8 k1, .int .i64 a1, .string s1, .slice p1 n1 c1, .slice q1 m1 d1]] wx fun e w' => e = .returned (.bool gm) ∧ Below wx.heap.size wx w') := Lib.hid fun wx hx' => HMR.out wx (HB3.out.trans (hx'.mono HB3.out.size))
      have HD3 : Hid (∀ wx, Below w3.heap.size w3 wx → Calls Tryz.prog 7 #[.agg #[.int .u8 k1, .int .i64 a1, .string s1, .slice p1 n1 c1, .slice q1 m1 d1]] wx fun e w' => e = .returned (.int .i64 dp) ∧ Below wx.heap.size wx w') := Lib.hid fun wx hx' => HD.out wx (HB3.out.trans (hx'.mono HB3.out.size))
      have HDR3 : Hid (∀ wx, Below w3.heap.size w3 wx → Calls Tryz.prog 8 #[.agg #[.int .u8 k1, .int .i64 a1, .string s1, .slice p1 n1 c1, .slice q1 m1 d1]] wx fun e w' => e = .returned (.int .i64 dp) ∧ Below wx.heap.size wx w') := Lib.hid fun wx hx' => HDR.out wx (HB3.out.trans (hx'.mono HB3.out.size))
      have HS3 : Hid (∀ wx, Below w3.heap.size w3 wx → Calls Tryz.prog 9 #[.agg #[.int .u8 k1, .int .i64 a1, .string s1, .slice p1 n1 c1, .slice q1 m1 d1], .agg #[.int .u8 k2, .int .i64 a2, .string s2, .slice p2 n2 c2, .slice q2 m2 d2]] wx fun e w' => e = .returned (.bool gs) ∧ Below wx.heap.size wx w') := Lib.hid fun wx hx' => HS.out wx (HB3.out.trans (hx'.mono HB3.out.size))
      have HSR3 : Hid (∀ wx, Below w3.heap.size w3 wx → Calls Tryz.prog 10 #[.agg #[.int .u8 k1, .int .i64 a1, .string s1, .slice p1 n1 c1, .slice q1 m1 d1], .agg #[.int .u8 k2, .int .i64 a2, .string s2, .slice p2 n2 c2, .slice q2 m2 d2]] wx fun e w' => e = .returned (.bool gs) ∧ Below wx.heap.size wx w') := Lib.hid fun wx hx' => HSR.out wx (HB3.out.trans (hx'.mono HB3.out.size))
      have HSS3 : Hid (∀ wx, Below w3.heap.size w3 wx → Calls Tryz.prog 9 #[.agg #[.int .u8 k1, .int .i64 a1, .string s1, .slice p1 n1 c1, .slice q1 m1 d1], .agg #[.int .u8 k1, .int .i64 a1, .string s1, .slice p1 n1 c1, .slice q1 m1 d1]] wx fun e w' => e = .returned (.bool true) ∧ Below wx.heap.size wx w') := Lib.hid fun wx hx' => HSS.out wx (HB3.out.trans (hx'.mono HB3.out.size))
      clear HM HMR HD HDR HS HSR HSS HWA HWB
      have HKEEP : Hid (∀ wx w2, (fun wx => Below w3.heap.size w3 wx ∧ wx.cell? ⟨W.heap.size, 0, none⟩ = some (.int .u8 k1) ∧ wx.cell? ⟨W.heap.size, 1, none⟩ = some (.int .i64 a1) ∧ wx.cell? ⟨W.heap.size, 2, none⟩ = some (.string s1) ∧ wx.cell? ⟨W.heap.size, 3, none⟩ = some (.slice p1 n1 c1) ∧ wx.cell? ⟨W.heap.size, 4, none⟩ = some (.slice q1 m1 d1) ∧ wx.cell? ⟨W.heap.size + 1, 0, none⟩ = some (.int .u8 k2) ∧ wx.cell? ⟨W.heap.size + 1, 1, none⟩ = some (.int .i64 a2) ∧ wx.cell? ⟨W.heap.size + 1, 2, none⟩ = some (.string s2) ∧ wx.cell? ⟨W.heap.size + 1, 3, none⟩ = some (.slice p2 n2 c2) ∧ wx.cell? ⟨W.heap.size + 1, 4, none⟩ = some (.slice q2 m2 d2)) wx → Below wx.heap.size wx w2 → (fun wx => Below w3.heap.size w3 wx ∧ wx.cell? ⟨W.heap.size, 0, none⟩ = some (.int .u8 k1) ∧ wx.cell? ⟨W.heap.size, 1, none⟩ = some (.int .i64 a1) ∧ wx.cell? ⟨W.heap.size, 2, none⟩ = some (.string s1) ∧ wx.cell? ⟨W.heap.size, 3, none⟩ = some (.slice p1 n1 c1) ∧ wx.cell? ⟨W.heap.size, 4, none⟩ = some (.slice q1 m1 d1) ∧ wx.cell? ⟨W.heap.size + 1, 0, none⟩ = some (.int .u8 k2) ∧ wx.cell? ⟨W.heap.size + 1, 1, none⟩ = some (.int .i64 a2) ∧ wx.cell? ⟨W.heap.size + 1, 2, none⟩ = some (.string s2) ∧ wx.cell? ⟨W.heap.size + 1, 3, none⟩ = some (.slice p2 n2 c2) ∧ wx.cell? ⟨W.heap.size + 1, 4, none⟩ = some (.slice q2 m2 d2)) w2) := Lib.hid fun wx w2 hs hb => by
        obtain ⟨s0, s1, s2, s3, s4, s5, s6, s7, s8, s9, s10⟩ := hs
        exact ⟨s0.trans (hb.mono s0.size), cell_kept hb s1, cell_kept hb s2, cell_kept hb s3, cell_kept hb s4, cell_kept hb s5, cell_kept hb s6, cell_kept hb s7, cell_kept hb s8, cell_kept hb s9, cell_kept hb s10⟩
      refine wp_region_held_drew (S := (fun wx => Below w3.heap.size w3 wx ∧ wx.cell? ⟨W.heap.size, 0, none⟩ = some (.int .u8 k1) ∧ wx.cell? ⟨W.heap.size, 1, none⟩ = some (.int .i64 a1) ∧ wx.cell? ⟨W.heap.size, 2, none⟩ = some (.string s1) ∧ wx.cell? ⟨W.heap.size, 3, none⟩ = some (.slice p1 n1 c1) ∧ wx.cell? ⟨W.heap.size, 4, none⟩ = some (.slice q1 m1 d1) ∧ wx.cell? ⟨W.heap.size + 1, 0, none⟩ = some (.int .u8 k2) ∧ wx.cell? ⟨W.heap.size + 1, 1, none⟩ = some (.int .i64 a2) ∧ wx.cell? ⟨W.heap.size + 1, 2, none⟩ = some (.string s2) ∧ wx.cell? ⟨W.heap.size + 1, 3, none⟩ = some (.slice p2 n2 c2) ∧ wx.cell? ⟨W.heap.size + 1, 4, none⟩ = some (.slice q2 m2 d2))) (by kernel_rfl) ⟨(Below.refl _ _).drew, ea0, ea1, ea2, ea3, ea4, eb0, eb1, eb2, eb3, eb4⟩ (fun hHeld => ?_)
      refine wpAnyH_take (i := 0) (oi := { dst := some 13, op := Op.load 25 (Operand.tmp 2), type := 25, pos := "law.go:69", after := #[], guard := none }) (v := ?_) rfl (by kernel_rfl) (by kernel_rfl) (by kernel_rfl) (fun _ _ _ h => h) (Or.inl ⟨by rfl, ?_⟩) (by assumption) ?_
      rotate_left
      · (intro w hSw; (try dsimp only at hSw); go_simp; try with_reducible rfl)
      try simp only [Act.put, List.setIfInBounds_toArray, List.set_cons_zero, List.set_cons_succ]
      refine wpAnyH_take (i := 2) (oi := { dst := some 15, op := Op.load 25 (Operand.tmp 2), type := 25, pos := "law.go:69", after := #[], guard := none }) (v := ?_) rfl (by kernel_rfl) (by kernel_rfl) (by kernel_rfl) (fun _ _ _ h => h) (Or.inl ⟨by rfl, ?_⟩) (by assumption) ?_
      rotate_left
      · (intro w hSw; (try dsimp only at hSw); go_simp; try with_reducible rfl)
      try simp only [Act.put, List.setIfInBounds_toArray, List.set_cons_zero, List.set_cons_succ]
      refine wpAnyH_ready (rs := [1]) (by kernel_rfl) (by simp) ?_
      refine AllReadyH.cons (o := { dst := some 14, op := Op.call { callee := Callee.value (Operand.func 5), args := #[Operand.tmp 13], argTypes := #[25] }, type := 4, pos := "law.go:69", after := #[{ on := 0, ground := Ground.data }], guard := none }) rfl (fun K hK => ?_) AllReadyH.nil
      go_simp
      (go_at_call 5; refine (HM3.out _ (And.left (by assumption))).mono ?_; rintro e w2 ⟨rfl, hb2⟩; have hS2 := HKEEP.out _ _ (by assumption) hb2; clear hb2)
      go_wp2_with fail
      refine hK.out _ _ (by first | assumption | assumption) (fun hHeld => ?_)
      clear hK K
      try simp only [Act.put, List.setIfInBounds_toArray, List.set_cons_zero, List.set_cons_succ]
      refine wpAnyH_ready (rs := [3]) (by kernel_rfl) (by simp) ?_
      refine AllReadyH.cons (o := { dst := some 16, op := Op.call { callee := Callee.value (Operand.func 6), args := #[Operand.tmp 15], argTypes := #[25] }, type := 4, pos := "law.go:69", after := #[{ on := 2, ground := Ground.data }, { on := 1, ground := Ground.chain }], guard := none }) rfl (fun K hK => ?_) AllReadyH.nil
      go_simp
      (go_at_call 6; refine (HMR3.out _ (And.left (by assumption))).mono ?_; rintro e w2 ⟨rfl, hb2⟩; have hS2 := HKEEP.out _ _ (by assumption) hb2; clear hb2)
      go_wp2_with fail
      refine hK.out _ _ (by first | assumption | assumption) (fun hHeld => ?_)
      clear hK K
      try simp only [Act.put, List.setIfInBounds_toArray, List.set_cons_zero, List.set_cons_succ]
      refine wpAnyH_take (i := 4) (oi := { dst := some 17, op := Op.binOp BinOp.eql 4 (Operand.tmp 14) (Operand.tmp 16) 4, type := 4, pos := "law.go:69", after := #[{ on := 1, ground := Ground.data }, { on := 3, ground := Ground.data }], guard := none }) (v := ?_) rfl (by kernel_rfl) (by kernel_rfl) (by kernel_rfl) (fun _ _ _ h => h) (Or.inl ⟨by rfl, ?_⟩) (by assumption) ?_
      rotate_left
      · (intro w hSw; (try dsimp only at hSw); go_simp; try with_reducible rfl)
      try simp only [Act.put, List.setIfInBounds_toArray, List.set_cons_zero, List.set_cons_succ]
      refine wpAnyH_take (i := 5) (oi := { dst := some 18, op := Op.move (Operand.tmp 17), type := 4, pos := "law.go:69", after := #[{ on := 4, ground := Ground.data }, { on := 3, ground := Ground.chain }], guard := none }) (v := ?_) rfl (by kernel_rfl) (by kernel_rfl) (by kernel_rfl) (fun _ _ _ h => h) (Or.inl ⟨by rfl, ?_⟩) (by assumption) ?_
      rotate_left
      · (intro w hSw; (try dsimp only at hSw); go_simp; try with_reducible rfl)
      try simp only [Act.put, List.setIfInBounds_toArray, List.set_cons_zero, List.set_cons_succ]
      refine wpAnyH_take (i := 6) (oi := { dst := some 19, op := Op.load 25 (Operand.tmp 2), type := 25, pos := "law.go:69", after := #[{ on := 5, ground := Ground.guard }], guard := some (5, true) }) (v := ?_) rfl (by kernel_rfl) (by kernel_rfl) (by kernel_rfl) (fun _ _ _ h => h) (Or.inl ⟨by rfl, ?_⟩) (by assumption) ?_
      rotate_left
      · (intro w hSw; (try dsimp only at hSw); go_simp; try with_reducible rfl)
      try simp only [Act.put, List.setIfInBounds_toArray, List.set_cons_zero, List.set_cons_succ]
      refine wpAnyH_take (i := 8) (oi := { dst := some 21, op := Op.load 25 (Operand.tmp 2), type := 25, pos := "law.go:69", after := #[{ on := 5, ground := Ground.guard }], guard := some (5, true) }) (v := ?_) rfl (by kernel_rfl) (by kernel_rfl) (by kernel_rfl) (fun _ _ _ h => h) (Or.inl ⟨by rfl, ?_⟩) (by assumption) ?_
      rotate_left
      · (intro w hSw; (try dsimp only at hSw); go_simp; try with_reducible rfl)
      try simp only [Act.put, List.setIfInBounds_toArray, List.set_cons_zero, List.set_cons_succ]
      refine wpAnyH_ready (rs := [7]) (by kernel_rfl) (by simp) ?_
      refine AllReadyH.cons (o := { dst := some 20, op := Op.call { callee := Callee.value (Operand.func 7), args := #[Operand.tmp 19], argTypes := #[25] }, type := 3, pos := "law.go:69", after := #[{ on := 6, ground := Ground.data }, { on := 5, ground := Ground.chain }, { on := 5, ground := Ground.guard }], guard := some (5, true) }) rfl (fun K hK => ?_) AllReadyH.nil
      go_simp
      (go_at_call 7; refine (HD3.out _ (And.left (by assumption))).mono ?_; rintro e w2 ⟨rfl, hb2⟩; have hS2 := HKEEP.out _ _ (by assumption) hb2; clear hb2)
      go_wp2_with fail
      refine hK.out _ _ (by first | assumption | assumption) (fun hHeld => ?_)
      clear hK K
      try simp only [Act.put, List.setIfInBounds_toArray, List.set_cons_zero, List.set_cons_succ]
      refine wpAnyH_ready (rs := [9]) (by kernel_rfl) (by simp) ?_
      refine AllReadyH.cons (o := { dst := some 22, op := Op.call { callee := Callee.value (Operand.func 8), args := #[Operand.tmp 21], argTypes := #[25] }, type := 3, pos := "law.go:69", after := #[{ on := 8, ground := Ground.data }, { on := 7, ground := Ground.chain }, { on := 5, ground := Ground.guard }], guard := some (5, true) }) rfl (fun K hK => ?_) AllReadyH.nil
      go_simp
      (go_at_call 8; refine (HDR3.out _ (And.left (by assumption))).mono ?_; rintro e w2 ⟨rfl, hb2⟩; have hS2 := HKEEP.out _ _ (by assumption) hb2; clear hb2)
      go_wp2_with fail
      refine hK.out _ _ (by first | assumption | assumption) (fun hHeld => ?_)
      clear hK K
      try simp only [Act.put, List.setIfInBounds_toArray, List.set_cons_zero, List.set_cons_succ]
      refine wpAnyH_take (i := 10) (oi := { dst := some 23, op := Op.binOp BinOp.eql 3 (Operand.tmp 20) (Operand.tmp 22) 3, type := 4, pos := "law.go:69", after := #[{ on := 7, ground := Ground.data }, { on := 9, ground := Ground.data }, { on := 5, ground := Ground.guard }], guard := some (5, true) }) (v := ?_) rfl (by kernel_rfl) (by kernel_rfl) (by kernel_rfl) (fun _ _ _ h => h) (Or.inl ⟨by rfl, ?_⟩) (by assumption) ?_
      rotate_left
      · (intro w hSw; (try dsimp only at hSw); go_simp; try with_reducible rfl)
      try simp only [Act.put, List.setIfInBounds_toArray, List.set_cons_zero, List.set_cons_succ]
      refine wpAnyH_take (i := 11) (oi := { dst := some 24, op := Op.pick (Operand.tmp 18) (Operand.tmp 23) (Operand.const (Value.bool false)), type := 4, pos := "law.go:69", after := #[{ on := 5, ground := Ground.data }, { on := 10, ground := Ground.data }], guard := none }) (v := ?_) rfl (by kernel_rfl) (by kernel_rfl) (by kernel_rfl) (fun _ _ _ h => h) (Or.inl ⟨by rfl, ?_⟩) (by assumption) ?_
      rotate_left
      · (intro w hSw; (try dsimp only at hSw); go_simp; try with_reducible rfl)
      try simp only [Act.put, List.setIfInBounds_toArray, List.set_cons_zero, List.set_cons_succ]
      refine wpAnyH_take (i := 12) (oi := { dst := some 25, op := Op.move (Operand.tmp 24), type := 4, pos := "law.go:69", after := #[{ on := 11, ground := Ground.data }, { on := 9, ground := Ground.chain }], guard := none }) (v := ?_) rfl (by kernel_rfl) (by kernel_rfl) (by kernel_rfl) (fun _ _ _ h => h) (Or.inl ⟨by rfl, ?_⟩) (by assumption) ?_
      rotate_left
      · (intro w hSw; (try dsimp only at hSw); go_simp; try with_reducible rfl)
      try simp only [Act.put, List.setIfInBounds_toArray, List.set_cons_zero, List.set_cons_succ]
      refine wpAnyH_take (i := 13) (oi := { dst := some 26, op := Op.load 25 (Operand.tmp 2), type := 25, pos := "law.go:69", after := #[{ on := 12, ground := Ground.guard }], guard := some (12, true) }) (v := ?_) rfl (by kernel_rfl) (by kernel_rfl) (by kernel_rfl) (fun _ _ _ h => h) (Or.inl ⟨by rfl, ?_⟩) (by assumption) ?_
      rotate_left
      · (intro w hSw; (try dsimp only at hSw); go_simp; try with_reducible rfl)
      try simp only [Act.put, List.setIfInBounds_toArray, List.set_cons_zero, List.set_cons_succ]
      refine wpAnyH_take (i := 14) (oi := { dst := some 27, op := Op.load 25 (Operand.tmp 3), type := 25, pos := "law.go:69", after := #[{ on := 12, ground := Ground.guard }], guard := some (12, true) }) (v := ?_) rfl (by kernel_rfl) (by kernel_rfl) (by kernel_rfl) (fun _ _ _ h => h) (Or.inl ⟨by rfl, ?_⟩) (by assumption) ?_
      rotate_left
      · (intro w hSw; (try dsimp only at hSw); go_simp; try with_reducible rfl)
      try simp only [Act.put, List.setIfInBounds_toArray, List.set_cons_zero, List.set_cons_succ]
      refine wpAnyH_take (i := 16) (oi := { dst := some 29, op := Op.load 25 (Operand.tmp 2), type := 25, pos := "law.go:69", after := #[{ on := 12, ground := Ground.guard }], guard := some (12, true) }) (v := ?_) rfl (by kernel_rfl) (by kernel_rfl) (by kernel_rfl) (fun _ _ _ h => h) (Or.inl ⟨by rfl, ?_⟩) (by assumption) ?_
      rotate_left
      · (intro w hSw; (try dsimp only at hSw); go_simp; try with_reducible rfl)
      try simp only [Act.put, List.setIfInBounds_toArray, List.set_cons_zero, List.set_cons_succ]
      refine wpAnyH_take (i := 17) (oi := { dst := some 30, op := Op.load 25 (Operand.tmp 3), type := 25, pos := "law.go:69", after := #[{ on := 12, ground := Ground.guard }], guard := some (12, true) }) (v := ?_) rfl (by kernel_rfl) (by kernel_rfl) (by kernel_rfl) (fun _ _ _ h => h) (Or.inl ⟨by rfl, ?_⟩) (by assumption) ?_
      rotate_left
      · (intro w hSw; (try dsimp only at hSw); go_simp; try with_reducible rfl)
      try simp only [Act.put, List.setIfInBounds_toArray, List.set_cons_zero, List.set_cons_succ]
      refine wpAnyH_ready (rs := [15]) (by kernel_rfl) (by simp) ?_
      refine AllReadyH.cons (o := { dst := some 28, op := Op.call { callee := Callee.value (Operand.func 9), args := #[Operand.tmp 26, Operand.tmp 27], argTypes := #[25, 25] }, type := 4, pos := "law.go:69", after := #[{ on := 13, ground := Ground.data }, { on := 14, ground := Ground.data }, { on := 12, ground := Ground.chain }, { on := 12, ground := Ground.guard }], guard := some (12, true) }) rfl (fun K hK => ?_) AllReadyH.nil
      go_simp
      (go_at_call 9; refine (HS3.out _ (And.left (by assumption))).mono ?_; rintro e w2 ⟨rfl, hb2⟩; have hS2 := HKEEP.out _ _ (by assumption) hb2; clear hb2)
      go_wp2_with fail
      refine hK.out _ _ (by first | assumption | assumption) (fun hHeld => ?_)
      clear hK K
      try simp only [Act.put, List.setIfInBounds_toArray, List.set_cons_zero, List.set_cons_succ]
      refine wpAnyH_ready (rs := [18]) (by kernel_rfl) (by simp) ?_
      refine AllReadyH.cons (o := { dst := some 31, op := Op.call { callee := Callee.value (Operand.func 10), args := #[Operand.tmp 29, Operand.tmp 30], argTypes := #[25, 25] }, type := 4, pos := "law.go:69", after := #[{ on := 16, ground := Ground.data }, { on := 17, ground := Ground.data }, { on := 15, ground := Ground.chain }, { on := 12, ground := Ground.guard }], guard := some (12, true) }) rfl (fun K hK => ?_) AllReadyH.nil
      go_simp
      (go_at_call 10; refine (HSR3.out _ (And.left (by assumption))).mono ?_; rintro e w2 ⟨rfl, hb2⟩; have hS2 := HKEEP.out _ _ (by assumption) hb2; clear hb2)
      go_wp2_with fail
      refine hK.out _ _ (by first | assumption | assumption) (fun hHeld => ?_)
      clear hK K
      try simp only [Act.put, List.setIfInBounds_toArray, List.set_cons_zero, List.set_cons_succ]
      refine wpAnyH_take (i := 19) (oi := { dst := some 32, op := Op.binOp BinOp.eql 4 (Operand.tmp 28) (Operand.tmp 31) 4, type := 4, pos := "law.go:69", after := #[{ on := 15, ground := Ground.data }, { on := 18, ground := Ground.data }, { on := 12, ground := Ground.guard }], guard := some (12, true) }) (v := ?_) rfl (by kernel_rfl) (by kernel_rfl) (by kernel_rfl) (fun _ _ _ h => h) (Or.inl ⟨by rfl, ?_⟩) (by assumption) ?_
      rotate_left
      · (intro w hSw; (try dsimp only at hSw); go_simp; try with_reducible rfl)
      try simp only [Act.put, List.setIfInBounds_toArray, List.set_cons_zero, List.set_cons_succ]
      refine wpAnyH_take (i := 20) (oi := { dst := some 33, op := Op.pick (Operand.tmp 25) (Operand.tmp 32) (Operand.const (Value.bool false)), type := 4, pos := "law.go:69", after := #[{ on := 12, ground := Ground.data }, { on := 19, ground := Ground.data }], guard := none }) (v := ?_) rfl (by kernel_rfl) (by kernel_rfl) (by kernel_rfl) (fun _ _ _ h => h) (Or.inl ⟨by rfl, ?_⟩) (by assumption) ?_
      rotate_left
      · (intro w hSw; (try dsimp only at hSw); go_simp; try with_reducible rfl)
      try simp only [Act.put, List.setIfInBounds_toArray, List.set_cons_zero, List.set_cons_succ]
      refine wpAnyH_take (i := 21) (oi := { dst := some 34, op := Op.move (Operand.tmp 33), type := 4, pos := "law.go:69", after := #[{ on := 20, ground := Ground.data }, { on := 18, ground := Ground.chain }], guard := none }) (v := ?_) rfl (by kernel_rfl) (by kernel_rfl) (by kernel_rfl) (fun _ _ _ h => h) (Or.inl ⟨by rfl, ?_⟩) (by assumption) ?_
      rotate_left
      · (intro w hSw; (try dsimp only at hSw); go_simp; try with_reducible rfl)
      try simp only [Act.put, List.setIfInBounds_toArray, List.set_cons_zero, List.set_cons_succ]
      refine wpAnyH_take (i := 22) (oi := { dst := some 35, op := Op.load 25 (Operand.tmp 2), type := 25, pos := "law.go:69", after := #[{ on := 21, ground := Ground.guard }], guard := some (21, true) }) (v := ?_) rfl (by kernel_rfl) (by kernel_rfl) (by kernel_rfl) (fun _ _ _ h => h) (Or.inl ⟨by rfl, ?_⟩) (by assumption) ?_
      rotate_left
      · (intro w hSw; (try dsimp only at hSw); go_simp; try with_reducible rfl)
      try simp only [Act.put, List.setIfInBounds_toArray, List.set_cons_zero, List.set_cons_succ]
      refine wpAnyH_take (i := 23) (oi := { dst := some 36, op := Op.load 25 (Operand.tmp 2), type := 25, pos := "law.go:69", after := #[{ on := 21, ground := Ground.guard }], guard := some (21, true) }) (v := ?_) rfl (by kernel_rfl) (by kernel_rfl) (by kernel_rfl) (fun _ _ _ h => h) (Or.inl ⟨by rfl, ?_⟩) (by assumption) ?_
      rotate_left
      · (intro w hSw; (try dsimp only at hSw); go_simp; try with_reducible rfl)
      try simp only [Act.put, List.setIfInBounds_toArray, List.set_cons_zero, List.set_cons_succ]
      refine wpAnyH_ready (rs := [24]) (by kernel_rfl) (by simp) ?_
      refine AllReadyH.cons (o := { dst := some 37, op := Op.call { callee := Callee.value (Operand.func 9), args := #[Operand.tmp 35, Operand.tmp 36], argTypes := #[25, 25] }, type := 4, pos := "law.go:69", after := #[{ on := 22, ground := Ground.data }, { on := 23, ground := Ground.data }, { on := 21, ground := Ground.chain }, { on := 21, ground := Ground.guard }], guard := some (21, true) }) rfl (fun K hK => ?_) AllReadyH.nil
      go_simp
      (go_at_call 9; refine (HSS3.out _ (And.left (by assumption))).mono ?_; rintro e w2 ⟨rfl, hb2⟩; have hS2 := HKEEP.out _ _ (by assumption) hb2; clear hb2)
      go_wp2_with fail
      refine hK.out _ _ (by first | assumption | assumption) (fun hHeld => ?_)
      clear hK K
      try simp only [Act.put, List.setIfInBounds_toArray, List.set_cons_zero, List.set_cons_succ]
      refine wpAnyH_take (i := 25) (oi := { dst := some 38, op := Op.pick (Operand.tmp 34) (Operand.tmp 37) (Operand.const (Value.bool false)), type := 4, pos := "law.go:69", after := #[{ on := 21, ground := Ground.data }, { on := 24, ground := Ground.data }], guard := none }) (v := ?_) rfl (by kernel_rfl) (by kernel_rfl) (by kernel_rfl) (fun _ _ _ h => h) (Or.inl ⟨by rfl, ?_⟩) (by assumption) ?_
      rotate_left
      · (intro w hSw; (try dsimp only at hSw); go_simp; try with_reducible rfl)
      try simp only [Act.put, List.setIfInBounds_toArray, List.set_cons_zero, List.set_cons_succ]
      refine wpAnyH_take (i := 26) (oi := { dst := some 4, op := Op.assign (Operand.tmp 38), type := 4, pos := "law.go:69", after := #[{ on := 25, ground := Ground.data }, { on := 24, ground := Ground.chain }, { on := 0, ground := Ground.phase }, { on := 1, ground := Ground.phase }, { on := 2, ground := Ground.phase }, { on := 3, ground := Ground.phase }, { on := 4, ground := Ground.phase }, { on := 5, ground := Ground.phase }, { on := 6, ground := Ground.phase }, { on := 7, ground := Ground.phase }, { on := 8, ground := Ground.phase }, { on := 9, ground := Ground.phase }, { on := 10, ground := Ground.phase }, { on := 11, ground := Ground.phase }, { on := 12, ground := Ground.phase }, { on := 13, ground := Ground.phase }, { on := 14, ground := Ground.phase }, { on := 15, ground := Ground.phase }, { on := 16, ground := Ground.phase }, { on := 17, ground := Ground.phase }, { on := 18, ground := Ground.phase }, { on := 19, ground := Ground.phase }, { on := 20, ground := Ground.phase }, { on := 21, ground := Ground.phase }, { on := 22, ground := Ground.phase }, { on := 23, ground := Ground.phase }, { on := 24, ground := Ground.phase }, { on := 25, ground := Ground.phase }], guard := none }) (v := ?_) rfl (by kernel_rfl) (by kernel_rfl) (by kernel_rfl) (fun _ _ _ h => h) (Or.inl ⟨by rfl, ?_⟩) (by assumption) ?_
      rotate_left
      · (intro w hSw; (try dsimp only at hSw); go_simp; try with_reducible rfl)
      try simp only [Act.put, List.setIfInBounds_toArray, List.set_cons_zero, List.set_cons_succ]
      refine wpAnyH_done (by kernel_rfl) ?_ _
      go_wp2_with fail
      go_ret
      exact ⟨ret_bool rfl, HB3.out.trans (hS2.1.mono HB3.out.size)⟩
end Go.Proofs.YtpibjhlldlbocaaGreat
