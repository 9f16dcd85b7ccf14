/- Walks of package dirs: mkdir -p of an operand; mkdir of an operand. -/
import Derived.Test.YtmofodaecakkfaaGreatKb02
import Derived.Test.YtmofodaecakkfaaGreatKb42
import Derived.Deep.RegionHeld3
namespace Go.Proofs.YtmofodaecakkfaaGreat
open Go.RowKit Px Nx Wk Dn
abbrev qDnE_0 : Oper := { dst := some 15, op := Op.load 69 (Operand.tmp 2), type := 69, pos := "call.go:37", after := #[], guard := none }
abbrev qDnE_1 : Oper := { dst := some 20, op := Op.call { callee := Callee.value (Operand.func 82), args := #[Operand.tmp 19, Operand.const (Value.string { data := #[47] })], argTypes := #[22, 9] }, type := 9, pos := "call.go:37", after := #[{ on := 4, ground := Ground.data }], guard := none }
abbrev qDnE_2 : Oper := { dst := some 21, op := Op.binOp BinOp.add 9 (Operand.const (Value.string { data := #[47] })) (Operand.tmp 20) 9, type := 9, pos := "call.go:37", after := #[{ on := 5, ground := Ground.data }], guard := none }
abbrev qDnE_3 : Oper := { dst := some 22, op := Op.call { callee := Callee.value (Operand.func 81), args := #[Operand.tmp 15, Operand.tmp 21], argTypes := #[69, 9] }, type := 30, pos := "call.go:37", after := #[{ on := 0, ground := Ground.data }, { on := 6, ground := Ground.data }, { on := 5, ground := Ground.chain }], guard := none }
abbrev qDnE_4 : Oper := { dst := some 7, op := Op.assign (Operand.tmp 22), type := 30, pos := "call.go:37", after := #[{ on := 7, ground := Ground.data }, { on := 7, ground := Ground.chain }, { on := 0, ground := Ground.phase }, { on := 1, ground := Ground.phase }, { on := 2, ground := Ground.phase }, { on := 3, ground := Ground.phase }, { on := 4, ground := Ground.phase }, { on := 5, ground := Ground.phase }, { on := 6, ground := Ground.phase }, { on := 7, ground := Ground.phase }], guard := none }

set_option maxRecDepth 100000 in
set_option maxHeartbeats 8000000 in
theorem dmakeWay_any {U : Nat → Prop} {w : World} {b N : Nat} {n : Nd} {v0 v1 v2 v3 : Value} (h : TreeU U w b n v0 v1 v2 v3) (hG : TreeN N n) (hN : N + 257 ≤ 20000) (S : ByteArray) (up : Option Addr) (un uc : Nat) (t : ByteArray) (ht : t.size ≤ 256) :
    Calls Tryz.prog 58 #[callV S (.slice up un uc) b, .string t] w fun e w' => DidR U wayR n t w b e w' := by
  have HAL : Hid (∀ (o : Obj), Below w.heap.size w (w.alloc o)) := Lib.hid fun o => below_alloc (Below.refl _ _)
  have hlt := h.lt
  have HT := Lib.hid h
  have hsl := stepsB_len t
  clear h
  unfold callV
  go_enter Tryz.func58, Tryz.ntmps58
  go_wp2_with fail
  refine (steps_own t (by omega) _).mono ?_
  rintro e w1 ⟨vs, rfl, hown, hb1⟩
  have HPL := Lib.hid (own_plG hown (show b < (w.alloc _).heap.size by rw [World.size_alloc]; omega))
  have HB1 : Hid (Below w.heap.size w w1) := Lib.hid ((HAL.out _).trans (hb1.mono (HAL.out _).size))
  have CC := Lib.hid (show ∀ wx, w1.grownBy wx (some b) → wx.cell? ⟨w.heap.size, 0, none⟩ = some (.string S) ∧ wx.cell? ⟨w.heap.size, 1, none⟩ = some (.slice up un uc) ∧ wx.cell? ⟨w.heap.size, 2, none⟩ = some (.iface 29 (.pointer (some ⟨b, 0, none⟩))) from fun wx hx => ⟨cell_grownBy hx (box_at (by simpa using hb1) 0 rfl) (by simp; omega), cell_grownBy hx (box_at (by simpa using hb1) 1 rfl) (by simp; omega), cell_grownBy hx (box_at (by simpa using hb1) 2 rfl) (by simp; omega)⟩)
  obtain ⟨ps, cs, rfl, hst, hlc, hcm⟩ := PlG.now HPL.out
  have HST := Lib.hid hst
  clear hst
  have HT1 := Lib.hid (HT.out.kept HB1.out)
  have HW0 : Hid (∀ c n', WayR [] (stepsB t) n c n' → wayR n t c n') := Lib.hid fun c n' h => h
  clear hown hb1 HT
  go_wp2_with fail
  go_loopw [12] (fun i wr => ∃ k : Nat, k ≤ (stepsB t).length ∧ i = .int .i64 k ∧ Hid (∃ nk, (∃ x0 x1 x2 x3, TreeU U wr b nk x0 x1 x2 x3) ∧ TreeN (N + k) nk ∧ w1.grownBy wr (some b) ∧ ∀ c n', WayR ((stepsB t).take k) ((stepsB t).drop k) nk c n' → wayR n t c n')) (fun i _ => (stepsB t).length - (intOf i).toNat)
  case atStart => exact ⟨0, Nat.zero_le _, rfl, Lib.hid ⟨n, ⟨_, _, _, _, HT1.out⟩, hG, grown_of_below (Below.refl _ _), fun c n' h => HW0.out c n' h⟩⟩
  case round =>
    obtain ⟨k, hk, rfl, HI⟩ := hrel
    obtain ⟨nk, htk, hgk, hgw, hwk⟩ := HI.out
    have HN := Lib.hid hgk
    have HW := Lib.hid hwk
    clear hgk hwk HI
    by_cases hkl : k < (stepsB t).length
    · obtain ⟨bb, oo, rfl, _⟩ := HST.out k hkl
      obtain ⟨k1, hk1⟩ : ∃ k1, k1 = k + 1 := ⟨_, rfl⟩
      have hkw : IntKind.i64.wrap ((k : Int) + 1) = (k1 : Int) := by
        rw [show ((k : Int) + 1) = (k1 : Int) by omega]
        exact Go.IntWalk.i64_in _ ⟨by omega, by unfold maxLen at hcm; omega⟩
      have hkc : k1 ≤ cs := by omega
      have HJ : Hid (Calls Tryz.prog 82 #[.slice (some ⟨bb, oo, none⟩) k1 cs, .string ⟨#[47]⟩] wr.drew fun e w' => e = .returned (.string ⟨(Lib.join (((stepsB t).take (k + 1)).map (·.data.toList)) [47]).toArray⟩) ∧ Below wr.drew.heap.size wr.drew w') := Lib.hid (by rw [hk1]; exact join_steps (by omega) (HPL.out wr.drew (grown_trans hgw (grown_of_below (Below.refl _ _).drew))) hkl cs (by omega))
      have GD : Hid (w1.grownBy wr.drew (some b)) := Lib.hid (grown_trans hgw (grown_of_below (Below.refl _ _).drew))
      have HPO : Hid (pathOf ((stepsB t).take (k + 1)) = ⟨(47 :: Lib.join (((stepsB t).take (k + 1)).map (·.data.toList)) [47]).toArray⟩) := Lib.hid rfl
      have HMM : Hid (∀ wx, Below wr.drew.heap.size wr.drew wx → Calls Tryz.prog 81 #[.agg #[.string S, .slice up un uc, .iface 29 (.pointer (some ⟨b, 0, none⟩))], .string (pathOf ((stepsB t).take (k + 1)))] wx fun e w' => DidR U missR nk (pathOf ((stepsB t).take (k + 1))) wx b e w') := Lib.hid fun wx hb => by
        obtain ⟨x0, x1, x2, x3, hx⟩ := htk
        exact dmakeMissing_any ((hx.kept (Below.refl _ _).drew).kept hb) HN.out (by omega) S up un uc _ (by have := path_size t (k + 1); omega)
      have HTK : Hid ((stepsB t).take (k + 1) = (stepsB t).take k ++ [(stepsB t)[k]]) := Lib.hid (List.take_succ_eq_append_getElem hkl)
      have HDR : Hid ((stepsB t).drop k = (stepsB t)[k] :: (stepsB t).drop (k + 1)) := Lib.hid (List.drop_eq_getElem_cons hkl)
      have HK1 := Lib.hid hk1
      clear htk hgw hk1
      have hjs := join_size t (k + 1)
      generalize Lib.join (((stepsB t).take (k + 1)).map (·.data.toList)) [47] = J at *
      have hj2 : ¬ (9223372036854775807 < 1 + J.length) := by omega
      generalize (stepsB t)[k] = y at *
      generalize hL : (stepsB t).length = L at *
      have HL := Lib.hid hL
      clear hL
      go_upto_region 5 with fail
      refine wp_region_held_drew (S := (fun _ => True)) (by kernel_rfl) trivial (fun hHeld => ?_)
      refine tk 1 { dst := some 16, op := Op.move (Operand.tmp 5), type := 22, pos := "call.go:37", after := #[], guard := none } ?_
      try simp only [Act.put, List.setIfInBounds_toArray, List.set_cons_zero, List.set_cons_succ]
      refine tk 2 { dst := some 17, op := Op.move (Operand.tmp 6), type := 3, pos := "call.go:37", after := #[], guard := none } ?_
      try simp only [Act.put, List.setIfInBounds_toArray, List.set_cons_zero, List.set_cons_succ]
      refine tk 3 { dst := some 18, op := Op.binOp BinOp.add 3 (Operand.tmp 17) (Operand.const (Value.int IntKind.i64 1)) 3, type := 3, pos := "call.go:37", after := #[{ on := 2, ground := Ground.data }], guard := none } ?_
      try simp only [Act.put, List.setIfInBounds_toArray, List.set_cons_zero, List.set_cons_succ]
      refine tk 4 { dst := some 19, op := Op.slice 22 (Operand.tmp 16) none (some (Operand.tmp 18)) none, type := 22, pos := "call.go:37", after := #[{ on := 1, ground := Ground.data }, { on := 3, ground := Ground.data }], guard := none } ?_
      try simp only [Act.put, List.setIfInBounds_toArray, List.set_cons_zero, List.set_cons_succ]
      refine wpAnyH_ready (rs := [0, 5]) (by kernel_rfl) (by simp) ?_
      refine AllReadyH.cons (o := qDnE_0) rfl (fun K hK => ?_) ?_
      rotate_left
      refine AllReadyH.cons (o := qDnE_1) rfl (fun K hK => ?_) AllReadyH.nil
      · skip
        go_simp
        (go_at_call 82; refine (HJ.out).mono ?_; rintro e w5 ⟨rfl, hb5⟩)
        have HB5 := Lib.hid hb5
        clear hb5
        go_wp2_with fail
        refine hK.out _ _ (by trivial) (fun hHeld => ?_)
        clear hK K
        try simp only [Act.put, List.setIfInBounds_toArray, List.set_cons_zero, List.set_cons_succ]
        refine tk 6 qDnE_2 ?_
        try simp only [Act.put, List.setIfInBounds_toArray, List.set_cons_zero, List.set_cons_succ]
        refine wpAnyH_ready (rs := [0]) (by kernel_rfl) (by simp) ?_
        refine AllReadyH.cons (o := qDnE_0) rfl (fun K hK => ?_) AllReadyH.nil
        obtain ⟨c0, c1, c2⟩ := CC.out _ (grown_trans GD.out (grown_below HB5.out))
        go_simp
        go_wp2_with fail
        clear c0 c1 c2
        refine hK.out _ _ (by trivial) (fun hHeld => ?_)
        clear hK K
        try simp only [Act.put, List.setIfInBounds_toArray, List.set_cons_zero, List.set_cons_succ]
        refine wpAnyH_ready (rs := [7]) (by kernel_rfl) (by simp) ?_
        refine AllReadyH.cons (o := qDnE_3) rfl (fun K hK => ?_) AllReadyH.nil
        go_simp
        rw [slash_cat, ← HPO.out]
        (go_at_call 81; refine (HMM.out _ HB5.out).mono ?_; rintro e w6 hd)
        obtain ⟨cc, nn, rfl, hr, ht6, hg6⟩ := hd
        have HR := Lib.hid hr
        have HT6 := Lib.hid ht6
        have HG6 := Lib.hid hg6
        clear hr ht6 hg6
        go_wp2_with fail
        refine hK.out _ _ (by trivial) (fun hHeld => ?_)
        clear hK K
        try simp only [Act.put, List.setIfInBounds_toArray, List.set_cons_zero, List.set_cons_succ]
        refine tk 8 qDnE_4 ?_
        try simp only [Act.put, List.setIfInBounds_toArray, List.set_cons_zero, List.set_cons_succ]
        refine wpAnyH_done (by kernel_rfl) ?_ _
        clear hHeld
        have HGW := Lib.hid (grown_trans (grown_trans GD.out (grown_below HB5.out)) HG6.out)
        by_cases hc : cc = 0
        · subst hc
          go_wp2_with fail
          go_roundw
          case rel =>
            exact ⟨k + 1, (by omega), (by rw [HK1.out]), Lib.hid ⟨nn, HT6.out, (by have := grows_miss HN.out HR.out; rwa [Nat.add_assoc] at this), HGW.out, fun c n' hw => HW.out c n' (by rw [HDR.out]; exact .next (by rw [← HTK.out]; exact HR.out) (by rw [← HTK.out]; exact hw))⟩⟩
          case measure => have := HK1.out; simp [intOf]; omega
        · have e0 : (cc != 0) = true := bne_iff_ne.2 hc
          have HC := Lib.hid hc
          clear hc
          go_wp2_with fail
          exact bodyPost_ret (v := .int .i64 cc) (by simp [results, Tryz.results58, go_sem]) rfl ⟨_, _, rfl, HW.out _ _ (by rw [HDR.out]; exact .stop (by rw [← HTK.out]; exact HR.out) HC.out), HT6.out, grown_trans (grown_below HB1.out) HGW.out⟩
      · skip
        obtain ⟨c0, c1, c2⟩ := CC.out _ (GD.out)
        go_simp
        go_wp2_with fail
        clear c0 c1 c2
        refine hK.out _ _ (by trivial) (fun hHeld => ?_)
        clear hK K
        try simp only [Act.put, List.setIfInBounds_toArray, List.set_cons_zero, List.set_cons_succ]
        refine wpAnyH_ready (rs := [5]) (by kernel_rfl) (by simp) ?_
        refine AllReadyH.cons (o := qDnE_1) rfl (fun K hK => ?_) AllReadyH.nil
        go_simp
        (go_at_call 82; refine (HJ.out).mono ?_; rintro e w5 ⟨rfl, hb5⟩)
        have HB5 := Lib.hid hb5
        clear hb5
        go_wp2_with fail
        refine hK.out _ _ (by trivial) (fun hHeld => ?_)
        clear hK K
        try simp only [Act.put, List.setIfInBounds_toArray, List.set_cons_zero, List.set_cons_succ]
        refine tk 6 qDnE_2 ?_
        try simp only [Act.put, List.setIfInBounds_toArray, List.set_cons_zero, List.set_cons_succ]
        refine wpAnyH_ready (rs := [7]) (by kernel_rfl) (by simp) ?_
        refine AllReadyH.cons (o := qDnE_3) rfl (fun K hK => ?_) AllReadyH.nil
        go_simp
        rw [slash_cat, ← HPO.out]
        (go_at_call 81; refine (HMM.out _ HB5.out).mono ?_; rintro e w6 hd)
        obtain ⟨cc, nn, rfl, hr, ht6, hg6⟩ := hd
        have HR := Lib.hid hr
        have HT6 := Lib.hid ht6
        have HG6 := Lib.hid hg6
        clear hr ht6 hg6
        go_wp2_with fail
        refine hK.out _ _ (by trivial) (fun hHeld => ?_)
        clear hK K
        try simp only [Act.put, List.setIfInBounds_toArray, List.set_cons_zero, List.set_cons_succ]
        refine tk 8 qDnE_4 ?_
        try simp only [Act.put, List.setIfInBounds_toArray, List.set_cons_zero, List.set_cons_succ]
        refine wpAnyH_done (by kernel_rfl) ?_ _
        clear hHeld
        have HGW := Lib.hid (grown_trans (grown_trans GD.out (grown_below HB5.out)) HG6.out)
        by_cases hc : cc = 0
        · subst hc
          go_wp2_with fail
          go_roundw
          case rel =>
            exact ⟨k + 1, (by omega), (by rw [HK1.out]), Lib.hid ⟨nn, HT6.out, (by have := grows_miss HN.out HR.out; rwa [Nat.add_assoc] at this), HGW.out, fun c n' hw => HW.out c n' (by rw [HDR.out]; exact .next (by rw [← HTK.out]; exact HR.out) (by rw [← HTK.out]; exact hw))⟩⟩
          case measure => have := HK1.out; simp [intOf]; omega
        · have e0 : (cc != 0) = true := bne_iff_ne.2 hc
          have HC := Lib.hid hc
          clear hc
          go_wp2_with fail
          exact bodyPost_ret (v := .int .i64 cc) (by simp [results, Tryz.results58, go_sem]) rfl ⟨_, _, rfl, HW.out _ _ (by rw [HDR.out]; exact .stop (by rw [← HTK.out]; exact HR.out) HC.out), HT6.out, grown_trans (grown_below HB1.out) HGW.out⟩
    · obtain rfl : k = (stepsB t).length := by omega
      have HD : Hid (wayR n t 0 nk) := Lib.hid (HW.out 0 nk (by rw [List.drop_length]; exact .done _ _))
      have HTK := Lib.hid htk
      have HGW := Lib.hid hgw
      clear htk hgw
      generalize (stepsB t).length = L at *
      go_wp2_with fail
      exact bodyPost_ret (v := .int .i64 0) (by simp [results, Tryz.results58, go_sem]) rfl ⟨_, _, rfl, HD.out, HTK.out, grown_trans (grown_below HB1.out) HGW.out⟩

set_option maxRecDepth 100000 in
set_option maxHeartbeats 8000000 in
theorem dmakeDir_any {U : Nat → Prop} {w : World} {b N : Nat} {n : Nd} {v0 v1 v2 v3 : Value} (h : TreeU U w b n v0 v1 v2 v3) (hG : TreeN N n) (hN : N + 257 ≤ 20000) (S : ByteArray) (up : Option Addr) (un uc : Nat) (t : ByteArray) (ht : t.size ≤ 256) :
    Calls Tryz.prog 34 #[callV S (.slice up un uc) b, .string t] w fun e w' => DidR U (mkR (hasB S 112)) n t w b e w' := by
  have HSP : Hid (∀ wx, Below w.heap.size w wx → Calls Tryz.prog 13 #[.iface 29 (.pointer (some ⟨b, 0, none⟩)), .string t] wx fun e w' => LeadsQ n false t e w' ∧ Below wx.heap.size wx w') := Lib.hid fun wx hb => wspot_any (h.kept hb).x hG.well (tree_girth2 hG (by omega)) hG.kind t (by omega)
  have HRM : Hid (∀ wx pv place, Below w.heap.size w wx → PlR wx pv place → namesBulk place ≤ 10000000 → Calls Tryz.prog 59 #[.iface 29 (.pointer (some ⟨b, 0, none⟩)), pv] wx fun e w' => Did U wx b (makeD n place dirN) e w') := Lib.hid fun wx pv place hb hp hs => MakeDir_any (h.kept hb) hG.well (tree_girth hG (by omega)) hp hs
  have HMW : Hid (∀ wx, Below w.heap.size w wx → Calls Tryz.prog 58 #[callV S (.slice up un uc) b, .string t] wx fun e w' => DidR U wayR n t wx b e w') := Lib.hid fun wx hb => dmakeWay_any (h.kept hb) hG hN S up un uc t ht
  unfold callV at HMW
  have HHP : Hid (∀ wx, Calls Tryz.prog 39 #[.agg #[.string S, .slice up un uc], .int .u8 112] wx fun e w' => e = .returned (.bool (hasB S 112)) ∧ Below wx.heap.size wx w') := Lib.hid fun wx => has_any wx S (.slice up un uc) 112
  have HT := Lib.hid h
  have HAL : Hid (∀ (o : Obj), Below w.heap.size w (w.alloc o)) := Lib.hid fun o => below_alloc (Below.refl _ _)
  have HSM : Hid (∀ p k, Leads n false t (.ok p k) → namesBulk p ≤ 10000000) := Lib.hid fun p k hr => leads_small hG (by omega) hr (by omega)
  have HM1 : Hid (∀ c n', wayR n t c n' → mkR true n t c n') := Lib.hid fun c n' h => h
  have HM0 : Hid (∀ c n', mkOneR n t c n' → mkR false n t c n') := Lib.hid fun c n' h => h
  clear h
  generalize hasB S 112 = hp at *
  unfold callV
  go_enter Tryz.func34, Tryz.ntmps34
  go_wp2_with fail
  refine (HHP.out _).mono ?_
  rintro e w1 ⟨rfl, hb0⟩
  have HB0 : Hid (Below w.heap.size w w1) := Lib.hid ((HAL.out _).trans (hb0.mono (HAL.out _).size))
  have CC := Lib.hid (show ∀ wx, Below w1.heap.size w1 wx → wx.cell? ⟨w.heap.size, 0, none⟩ = some (.string S) ∧ wx.cell? ⟨w.heap.size, 1, none⟩ = some (.slice up un uc) ∧ wx.cell? ⟨w.heap.size, 2, none⟩ = some (.iface 29 (.pointer (some ⟨b, 0, none⟩))) from fun wx hx => ⟨cell_kept hx (box_at (by simpa using hb0) 0 rfl), cell_kept hx (box_at (by simpa using hb0) 1 rfl), cell_kept hx (box_at (by simpa using hb0) 2 rfl)⟩)
  obtain ⟨c0, c1, c2⟩ := CC.out _ (Below.refl _ _)
  clear hb0
  cases hp with
  | true =>
    go_wp2_with fail
    refine (HMW.out _ HB0.out).mono ?_
    rintro e w2 ⟨cc, nn, rfl, hr, ht2, hg2⟩
    have HR := Lib.hid hr
    have HT2 := Lib.hid ht2
    have HG2 := Lib.hid hg2
    clear hr ht2 hg2
    go_wp2_with fail
    go_ret
    exact ⟨_, _, rfl, HM1.out _ _ HR.out, HT2.out, grown_trans (grown_below HB0.out) HG2.out⟩
  | false =>
    go_wp2_with fail
    refine (HSP.out _ HB0.out).mono ?_
    rintro e w2 ⟨⟨o, ho, hv⟩, hb1⟩
    have HO : Hid (Leads n false t o) := Lib.hid ho
    have HB1 : Hid (Below w.heap.size w w2) := Lib.hid (HB0.out.trans (hb1.mono HB0.out.size))
    clear c0 c1 c2
    obtain ⟨c0, c1, c2⟩ := CC.out _ hb1
    clear hb1 ho
    cases o with
    | err e1 =>
      have hv' : e = .returned (.tuple #[.slice none 0 0, .int .u8 0, .int .i64 e1]) := hv
      subst hv'
      have e0 := err_ne HO.out
      go_wp2_with fail
      go_ret
      exact ⟨_, _, rfl, HM0.out _ _ ⟨_, HO.out, rfl, rfl⟩, ⟨_, _, _, _, HT.out.kept HB1.out⟩, grown_below HB1.out⟩
    | ok p k =>
      obtain ⟨pv, he, hpv⟩ := hv
      subst he
      have HP := Lib.hid hpv
      obtain ⟨pp, cp, rfl, _, _, _⟩ := hpv
      go_wp2_with fail
      refine (HRM.out _ _ _ HB1.out HP.out (HSM.out _ _ HO.out)).mono ?_
      rintro e w3 hd
      obtain ⟨cc, rfl, hd⟩ := did_ex hd
      have HD := Lib.hid (hd.from HB1.out)
      clear hd
      go_wp2_with fail
      go_ret
      obtain ⟨q1, q2, q3⟩ := HD.out
      refine ⟨_, _, rfl, HM0.out _ _ ⟨_, HO.out, ?_⟩, q2, q3⟩
      cases q1
      exact ⟨rfl, rfl⟩
end Go.Proofs.YtmofodaecakkfaaGreat
