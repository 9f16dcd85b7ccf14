/- Walks: whether a place may be taken; what is asked ahead of all. -/
import Derived.Test.YtfilbknnpjbmcaaGreatDoorKb02
import Derived.Test.YtfilbknnpjbmcaaGreatDoorKb32
namespace Go.Proofs.YtfilbknnpjbmcaaGreatDoor
open Go.RowKit Px Nx
abbrev qPmB_0 : Oper := { dst := some 11, op := Op.move (Operand.tmp 1), type := 22, pos := "ahead.go:38", after := #[], guard := none }
abbrev qPmB_1 : Oper := { dst := some 12, op := Op.move (Operand.tmp 5), type := 3, pos := "ahead.go:38", after := #[], guard := none }
abbrev qPmB_2 : Oper := { dst := some 13, op := Op.indexAddr 22 (Operand.tmp 11) (Operand.tmp 12), type := 0, pos := "ahead.go:38", after := #[{ on := 0, ground := Ground.data }, { on := 1, ground := Ground.data }], guard := none }
abbrev qPmB_3 : Oper := { dst := some 14, op := Op.load 9 (Operand.tmp 13), type := 9, pos := "ahead.go:38", after := #[{ on := 2, ground := Ground.data }], guard := none }
abbrev qPmB_4 : Oper := { dst := some 15, op := Op.call { callee := Callee.value (Operand.func 34), args := #[Operand.tmp 14], argTypes := #[9] }, type := 4, pos := "ahead.go:38", after := #[{ on := 3, ground := Ground.data }], guard := none }
abbrev qPmB_5 : Oper := { dst := some 16, op := Op.move (Operand.tmp 15), type := 4, pos := "ahead.go:38", after := #[{ on := 4, ground := Ground.data }, { on := 4, ground := Ground.chain }], guard := none }
abbrev qPmB_6 : Oper := { dst := some 17, op := Op.move (Operand.tmp 0), type := 59, pos := "ahead.go:38", after := #[{ on := 5, ground := Ground.guard }], guard := some (5, true) }
abbrev qPmB_7 : Oper := { dst := some 18, op := Op.move (Operand.tmp 1), type := 22, pos := "ahead.go:38", after := #[{ on := 5, ground := Ground.guard }], guard := some (5, true) }
abbrev qPmB_8 : Oper := { dst := some 19, op := Op.move (Operand.tmp 5), type := 3, pos := "ahead.go:38", after := #[{ on := 5, ground := Ground.guard }], guard := some (5, true) }
abbrev qPmB_9 : Oper := { dst := some 20, op := Op.move (Operand.tmp 5), type := 3, pos := "ahead.go:38", after := #[{ on := 5, ground := Ground.guard }], guard := some (5, true) }
abbrev qPmB_10 : Oper := { dst := some 21, op := Op.slice 22 (Operand.tmp 18) none (some (Operand.tmp 19)) (some (Operand.tmp 20)), type := 22, pos := "ahead.go:38", after := #[{ on := 7, ground := Ground.data }, { on := 8, ground := Ground.data }, { on := 9, ground := Ground.data }, { on := 5, ground := Ground.guard }], guard := some (5, true) }
abbrev qPmB_11 : Oper := { dst := some 22, op := Op.makeFunc (Fn.method "Kind") #[Operand.tmp 17] #[], type := 132, pos := "ahead.go:38", after := #[{ on := 6, ground := Ground.data }, { on := 5, ground := Ground.guard }], guard := some (5, true) }
abbrev qPmB_12 : Oper := { dst := some 23, op := Op.nilCheck (Operand.tmp 22), type := 132, pos := "ahead.go:38", after := #[{ on := 11, ground := Ground.data }, { on := 5, ground := Ground.guard }], guard := some (5, true) }
abbrev qPmB_13 : Oper := { dst := some 24, op := Op.move (Operand.tmp 17), type := 59, pos := "ahead.go:38", after := #[{ on := 6, ground := Ground.data }, { on := 5, ground := Ground.guard }, { on := 11, ground := Ground.data }, { on := 12, ground := Ground.data }], guard := some (5, true) }
abbrev qPmB_14 : Oper := { dst := some 25, op := Op.call { callee := Callee.invoke (Operand.tmp 24) "Kind", args := #[Operand.tmp 21], argTypes := #[22] }, type := 5, pos := "ahead.go:38", after := #[{ on := 13, ground := Ground.data }, { on := 10, ground := Ground.data }, { on := 5, ground := Ground.chain }, { on := 5, ground := Ground.guard }], guard := some (5, true) }
abbrev qPmB_15 : Oper := { dst := some 26, op := Op.binOp BinOp.eql 5 (Operand.tmp 25) (Operand.const (Value.int IntKind.u8 2)) 5, type := 4, pos := "ahead.go:38", after := #[{ on := 14, ground := Ground.data }, { on := 5, ground := Ground.guard }], guard := some (5, true) }
abbrev qPmB_16 : Oper := { dst := some 27, op := Op.pick (Operand.tmp 16) (Operand.tmp 26) (Operand.const (Value.bool false)), type := 4, pos := "ahead.go:38", after := #[{ on := 5, ground := Ground.data }, { on := 15, ground := Ground.data }], guard := none }
abbrev qPmB_17 : Oper := { dst := some 4, op := Op.assign (Operand.tmp 27), type := 4, pos := "ahead.go:38", after := #[{ on := 16, ground := Ground.data }, { on := 14, ground := Ground.chain }, { on := 0, ground := Ground.phase }, { on := 1, ground := Ground.phase }, { on := 2, ground := Ground.phase }, { on := 3, ground := Ground.phase }, { on := 4, ground := Ground.phase }, { on := 5, ground := Ground.phase }, { on := 6, ground := Ground.phase }, { on := 7, ground := Ground.phase }, { on := 8, ground := Ground.phase }, { on := 9, ground := Ground.phase }, { on := 10, ground := Ground.phase }, { on := 11, ground := Ground.phase }, { on := 12, ground := Ground.phase }, { on := 13, ground := Ground.phase }, { on := 14, ground := Ground.phase }, { on := 15, ground := Ground.phase }, { on := 16, ground := Ground.phase }], guard := none }
attribute [local go_sem] ahead_kind meth_Kind

set_option maxRecDepth 100000 in
set_option maxHeartbeats 4000000 in
theorem mayBe_any {w : World} {b : Nat} {n : Nd} {v0 v1 v2 v3 : Value} (h : TreeX w b n v0 v1 v2 v3) (hw : n.well = true) (hB : n.girth ≤ 200000000) {pv : Value} {place : List ByteArray} (hp : PlR w pv place) :
  Calls Tryz.prog 130 #[.iface 28 (.pointer (some ⟨b, 0, none⟩)), pv] w fun e w' => e = .returned (.bool (takenD n place)) ∧ Below w.heap.size w w' := by
 have HRT := Lib.hid (isRoot_any hp)
 rcases List.eq_nil_or_concat place with rfl | ⟨l, x, rfl⟩
 ·obtain ⟨p, c, rfl, hst, hlc, hcm⟩ := hp
  clear h hst
  go_enter Tryz.func130, Tryz.ntmps130
  go_wp2_with fail
  refine HRT.out.mono ?_
  rintro e w1 ⟨rfl, rfl⟩
  go_wp2_with fail
  go_ret
  exact ⟨rfl, Below.refl _ _⟩
 ·rw [List.concat_eq_append] at *
  obtain ⟨p, c, rfl, hst, hlc, hcm⟩ := hp
  obtain ⟨bb, o, rfl, n0⟩ := name_cell hst (Below.refl _ _) (show l.length < (l ++ [x]).length by simp)
  have hx : (l ++ [x]).getD l.length ByteArray.empty = x := by simp
  rw [hx] at n0
  have HN : Hid (∀ wx, Below w.heap.size w wx → Calls Tryz.prog 34 #[.string x] wx fun e w' => e = .returned (.bool (nameL x.data.toList)) ∧ Below wx.heap.size wx w') := Lib.hid fun wx _ => name_any x wx
  have hlen : (l ++ [x]).length = l.length + 1 := by simp
  have HKI : Hid (∀ wx, Below w.heap.size w wx → Calls Tryz.prog 159 #[.pointer (some ⟨b, 0, none⟩), .slice (some ⟨bb, o, none⟩) l.length l.length] wx fun e w' => e = .returned (.int .u8 ((n.at_ l).getD absent).kind.toNat) ∧ Below wx.heap.size wx w') :=
   Lib.hid fun wx hb => fkind_any (h.kept hb) hw hB (PlR.grown hb ⟨_, _, rfl, by have := strs_take hst l.length; simpa using this, Nat.le_refl _, by omega⟩)
  have hTD : takenD n (l ++ [x]) = (nameL x.data.toList && decide (((n.at_ l).getD absent).kind = 2)) := by
   unfold takenD
   rw [openD_snoc, hlen]
   simp
  rw [hTD]
  have hr0 : decide ((l ++ [x]).length = 0) = false := by simp
  rw [hr0] at HRT
  generalize nameL x.data.toList = nb at *
  generalize (n.at_ l).getD absent = R at *
  rw [hlen] at hlc HRT ⊢
  clear h hst hx hlen hTD hr0
  have hkw : IntKind.i64.wrap ((l.length : Nat) : Int) = l.length := Go.IntWalk.i64_in _ ⟨by omega, by unfold maxLen at hcm; omega⟩
  have hs : ((l.length + 1 : Nat) : Int) - 1 = l.length := by omega
  generalize hn1 : l.length + 1 = n1 at *
  generalize l.length = k at *
  have hkn : k < n1 := by omega
  have hkc : k ≤ c := by omega
  clear hn1
  have e2 := beq_int R.kind 2
  rw [show ((2 : UInt8).toNat : Int) = 2 from rfl] at e2
  rw [kind_bool]
  obtain ⟨kb, hkb⟩ : ∃ kb, (R.kind == 2) = kb := ⟨_, rfl⟩
  rw [hkb] at e2 ⊢
  clear hkb

  have KK : Hid (∀ wx w2, (fun wx => Below w.heap.size w wx ∧ wx.cell? ⟨bb, o + k, none⟩ = some (.string x)) wx → Below wx.heap.size wx w2 → (fun wx => Below w.heap.size w wx ∧ wx.cell? ⟨bb, o + k, none⟩ = some (.string x)) w2) := Lib.hid fun wx w2 hs hb => by
   obtain ⟨s0, s1⟩ := hs
   exact ⟨s0.trans (hb.mono s0.size), cell_kept hb s1⟩
  cases nb with
  | false =>
   go_enter Tryz.func130, Tryz.ntmps130
   go_wp2_with fail
   refine HRT.out.mono ?_
   rintro e w1 ⟨rfl, rfl⟩
   go_upto_region 4 with fail
   refine wp_region_held_drew (S := (fun wx => Below w.heap.size w wx ∧ wx.cell? ⟨bb, o + k, none⟩ = some (.string x))) (by kernel_rfl) ⟨(Below.refl _ _).drew, n0⟩ (fun hHeld => ?_)
   refine tk 0 qPmB_0 ?_
   try simp only [Act.put, sA, sB, sC]
   refine tk 1 qPmB_1 ?_
   try simp only [Act.put, sA, sB, sC]
   refine tk 2 qPmB_2 ?_
   try simp only [Act.put, sA, sB, sC]
   refine tk 3 qPmB_3 ?_
   try simp only [Act.put, sA, sB, sC]
   refine wpAnyH_ready (rs := [4]) (by kernel_rfl) (by simp) ?_
   refine AllReadyH.cons (o := qPmB_4) rfl (fun K hK => ?_) AllReadyH.nil
   go_simp
   (go_at_call 34; refine (HN.out _ (And.left (by assumption))).mono ?_; rintro e w2 ⟨rfl, hb2⟩; have hS2 := KK.out _ _ (by assumption) hb2; clear hb2)
   go_wp2_with fail
   refine hK.out _ _ (by first | assumption | assumption) (fun hHeld => ?_)
   clear hK K
   try simp only [Act.put, sA, sB, sC]
   refine tk 5 qPmB_5 ?_
   try simp only [Act.put, sA, sB, sC]
   refine tkn 6 qPmB_6 ?_
   try simp only [Act.put, sA, sB, sC]
   refine tkn 7 qPmB_7 ?_
   try simp only [Act.put, sA, sB, sC]
   refine tkn 8 qPmB_8 ?_
   try simp only [Act.put, sA, sB, sC]
   refine tkn 9 qPmB_9 ?_
   try simp only [Act.put, sA, sB, sC]
   refine tkn 10 qPmB_10 ?_
   try simp only [Act.put, sA, sB, sC]
   refine tkn 11 qPmB_11 ?_
   try simp only [Act.put, sA, sB, sC]
   refine tkn 12 qPmB_12 ?_
   try simp only [Act.put, sA, sB, sC]
   refine tkn 13 qPmB_13 ?_
   try simp only [Act.put, sA, sB, sC]
   refine tkn 14 qPmB_14 ?_
   try simp only [Act.put, sA, sB, sC]
   refine tkn 15 qPmB_15 ?_
   try simp only [Act.put, sA, sB, sC]
   refine tk 16 qPmB_16 ?_
   try simp only [Act.put, sA, sB, sC]
   refine tk 17 qPmB_17 ?_
   try simp only [Act.put, sA, sB, sC]
   refine wpAnyH_done (by kernel_rfl) ?_ _
   have HB := Lib.hid hHeld.1
   clear hHeld
   go_wp2_with fail
   go_ret
   exact ⟨rfl, HB.out⟩
  | true =>
   go_enter Tryz.func130, Tryz.ntmps130
   go_wp2_with fail
   refine HRT.out.mono ?_
   rintro e w1 ⟨rfl, rfl⟩
   go_upto_region 4 with fail
   refine wp_region_held_drew (S := (fun wx => Below w.heap.size w wx ∧ wx.cell? ⟨bb, o + k, none⟩ = some (.string x))) (by kernel_rfl) ⟨(Below.refl _ _).drew, n0⟩ (fun hHeld => ?_)
   refine tk 0 qPmB_0 ?_
   try simp only [Act.put, sA, sB, sC]
   refine tk 1 qPmB_1 ?_
   try simp only [Act.put, sA, sB, sC]
   refine tk 2 qPmB_2 ?_
   try simp only [Act.put, sA, sB, sC]
   refine tk 3 qPmB_3 ?_
   try simp only [Act.put, sA, sB, sC]
   refine wpAnyH_ready (rs := [4]) (by kernel_rfl) (by simp) ?_
   refine AllReadyH.cons (o := qPmB_4) rfl (fun K hK => ?_) AllReadyH.nil
   go_simp
   (go_at_call 34; refine (HN.out _ (And.left (by assumption))).mono ?_; rintro e w2 ⟨rfl, hb2⟩; have hS2 := KK.out _ _ (by assumption) hb2; clear hb2)
   go_wp2_with fail
   refine hK.out _ _ (by first | assumption | assumption) (fun hHeld => ?_)
   clear hK K
   try simp only [Act.put, sA, sB, sC]
   refine tk 5 qPmB_5 ?_
   try simp only [Act.put, sA, sB, sC]
   refine tk 6 qPmB_6 ?_
   try simp only [Act.put, sA, sB, sC]
   refine tk 7 qPmB_7 ?_
   try simp only [Act.put, sA, sB, sC]
   refine tk 8 qPmB_8 ?_
   try simp only [Act.put, sA, sB, sC]
   refine tk 9 qPmB_9 ?_
   try simp only [Act.put, sA, sB, sC]
   refine tk 10 qPmB_10 ?_
   try simp only [Act.put, sA, sB, sC]
   refine tk 11 qPmB_11 ?_
   try simp only [Act.put, sA, sB, sC]
   refine tk 12 qPmB_12 ?_
   try simp only [Act.put, sA, sB, sC]
   refine tk 13 qPmB_13 ?_
   try simp only [Act.put, sA, sB, sC]
   refine wpAnyH_ready (rs := [14]) (by kernel_rfl) (by simp) ?_
   refine AllReadyH.cons (o := qPmB_14) rfl (fun K hK => ?_) AllReadyH.nil
   go_simp
   (go_at_call 159; refine (HKI.out _ (And.left (by assumption))).mono ?_; rintro e w2 ⟨rfl, hb2⟩; have hS2 := KK.out _ _ (by assumption) hb2; clear hb2)
   go_wp2_with fail
   refine hK.out _ _ (by first | assumption | assumption) (fun hHeld => ?_)
   clear hK K
   try simp only [Act.put, sA, sB, sC]
   refine tk 15 qPmB_15 ?_
   try simp only [Act.put, sA, sB, sC]
   refine tk 16 qPmB_16 ?_
   try simp only [Act.put, sA, sB, sC]
   refine tk 17 qPmB_17 ?_
   try simp only [Act.put, sA, sB, sC]
   refine wpAnyH_done (by kernel_rfl) ?_ _
   have HB := Lib.hid hHeld.1
   clear hHeld
   go_wp2_with fail
   go_ret
   exact ⟨rfl, HB.out⟩

set_option maxRecDepth 100000 in
set_option maxHeartbeats 4000000 in
theorem atPlaces_make {w : World} {b : Nat} {n : Nd} {v0 v1 v2 v3 : Value} (h : TreeX w b n v0 v1 v2 v3) (hw : n.well = true) (hB : n.girth ≤ 200000000) {g m : Nat} {V : Nat → Value} {pl : Nat → List ByteArray} {caps : Array Value} (hm : m ≤ 2)
  (hc : ∀ i, i < m → w.cell? ⟨g, i, none⟩ = some (V i)) (hp : ∀ i, i < m → PlR w (V i) (pl i)) {Q : Ending → World → Prop}
  (hno : (∃ i, i < m ∧ takenD n (pl i) = false) → ∀ w', Below w.heap.size w w' → Q (.returned (.int .i64 5)) w')
  (hyes : (∀ i, i < m → takenD n (pl i) = true) → ∀ w', Below w.heap.size w w' → Calls Tryz.prog 132 caps w' fun e w2 => ∃ c : Int, e = .returned (.int .i64 c) ∧ Q e w2) :
  Calls Tryz.prog 106 #[.iface 28 (.pointer (some ⟨b, 0, none⟩)), .func (.func 132) #[] caps, .slice (some ⟨g, 0, none⟩) m m] w Q := by
 have HT := Lib.hid h
 have HC := Lib.hid hc
 have HP := Lib.hid hp
 have HNO := Lib.hid hno
 have HYES := Lib.hid hyes
 clear h hc hp hno hyes
 have HM : Hid (∀ i, i < m → ∀ wx, Below w.heap.size w wx → Calls Tryz.prog 130 #[.iface 28 (.pointer (some ⟨b, 0, none⟩)), V i] wx fun e w' => e = .returned (.bool (takenD n (pl i))) ∧ Below wx.heap.size wx w') :=
  Lib.hid fun i hi wx hb => mayBe_any (HT.out.kept hb) hw hB ((HP.out i hi).grown hb)
 go_enter Tryz.func106, Tryz.ntmps106
 go_wp2_with fail
 refine (pisNone_any b w).mono ?_
 rintro e w1 ⟨rfl, rfl⟩
 go_wp2_with fail
 go_loopw [8, 13] (fun _ i wr => ∃ k : Nat, k ≤ m ∧ i = .int .i64 k ∧ Hid (∀ j, j < k → takenD n (pl j) = true) ∧ Hid (Below w.heap.size w wr)) (fun _ i _ => m - (intOf i).toNat)
 case atStart => exact ⟨0, Nat.zero_le _, rfl, Lib.hid (fun j hj => absurd hj (Nat.not_lt_zero _)), Lib.hid (Below.refl _ _)⟩
 case round =>
  obtain ⟨k, hk, rfl, HA, HB⟩ := hrel
  by_cases hlt : k < m
  ·have c0 : wr.cell? ⟨g, k, none⟩ = some (V k) := cell_kept HB.out (HC.out k hlt)
   have HMK := Lib.hid (HM.out k hlt wr HB.out)
   obtain ⟨tb, htb⟩ : ∃ tb, takenD n (pl k) = tb := ⟨_, rfl⟩
   rw [htb] at HMK
   have HTB := Lib.hid htb
   clear htb
   generalize V k = vk at *
   go_wp2_with fail
   refine HMK.out.mono ?_
   rintro e w2 ⟨rfl, hb2⟩
   have HB2 : Hid (Below w.heap.size w w2) := Lib.hid (HB.out.trans (hb2.mono HB.out.size))
   clear hb2 c0
   cases tb with
   | false =>
    go_wp2_with fail
    exact HNO.out ⟨k, hlt, HTB.out⟩ _ HB2.out
   | true =>
    go_wp2_with fail
    go_roundw
    case rel => exact ⟨k + 1, by omega, by go_num, Lib.hid (fun j hj => (Nat.lt_succ_iff_lt_or_eq.1 hj).elim (HA.out j) (fun e => e ▸ HTB.out)), HB2⟩
    case measure => simp [intOf]; omega
  ·have HY := Lib.hid (HYES.out (fun i hi => HA.out i (by omega)) wr HB.out)
   go_wp2_with fail
   refine HY.out.mono ?_
   rintro e w2 ⟨c, rfl, hq⟩
   have HQ := Lib.hid hq
   clear hq
   go_wp2_with fail
   exact HQ.out


set_option maxRecDepth 100000 in
set_option maxHeartbeats 4000000 in
theorem atPlaces_remove {w : World} {b : Nat} {n : Nd} {v0 v1 v2 v3 : Value} (h : TreeX w b n v0 v1 v2 v3) (hw : n.well = true) (hB : n.girth ≤ 200000000) {g m : Nat} {V : Nat → Value} {pl : Nat → List ByteArray} {caps : Array Value} (hm : m ≤ 2)
  (hc : ∀ i, i < m → w.cell? ⟨g, i, none⟩ = some (V i)) (hp : ∀ i, i < m → PlR w (V i) (pl i)) {Q : Ending → World → Prop}
  (hno : (∃ i, i < m ∧ takenD n (pl i) = false) → ∀ w', Below w.heap.size w w' → Q (.returned (.int .i64 5)) w')
  (hyes : (∀ i, i < m → takenD n (pl i) = true) → ∀ w', Below w.heap.size w w' → Calls Tryz.prog 131 caps w' fun e w2 => ∃ c : Int, e = .returned (.int .i64 c) ∧ Q e w2) :
  Calls Tryz.prog 106 #[.iface 28 (.pointer (some ⟨b, 0, none⟩)), .func (.func 131) #[] caps, .slice (some ⟨g, 0, none⟩) m m] w Q := by
 have HT := Lib.hid h
 have HC := Lib.hid hc
 have HP := Lib.hid hp
 have HNO := Lib.hid hno
 have HYES := Lib.hid hyes
 clear h hc hp hno hyes
 have HM : Hid (∀ i, i < m → ∀ wx, Below w.heap.size w wx → Calls Tryz.prog 130 #[.iface 28 (.pointer (some ⟨b, 0, none⟩)), V i] wx fun e w' => e = .returned (.bool (takenD n (pl i))) ∧ Below wx.heap.size wx w') :=
  Lib.hid fun i hi wx hb => mayBe_any (HT.out.kept hb) hw hB ((HP.out i hi).grown hb)
 go_enter Tryz.func106, Tryz.ntmps106
 go_wp2_with fail
 refine (pisNone_any b w).mono ?_
 rintro e w1 ⟨rfl, rfl⟩
 go_wp2_with fail
 go_loopw [8, 13] (fun _ i wr => ∃ k : Nat, k ≤ m ∧ i = .int .i64 k ∧ Hid (∀ j, j < k → takenD n (pl j) = true) ∧ Hid (Below w.heap.size w wr)) (fun _ i _ => m - (intOf i).toNat)
 case atStart => exact ⟨0, Nat.zero_le _, rfl, Lib.hid (fun j hj => absurd hj (Nat.not_lt_zero _)), Lib.hid (Below.refl _ _)⟩
 case round =>
  obtain ⟨k, hk, rfl, HA, HB⟩ := hrel
  by_cases hlt : k < m
  ·have c0 : wr.cell? ⟨g, k, none⟩ = some (V k) := cell_kept HB.out (HC.out k hlt)
   have HMK := Lib.hid (HM.out k hlt wr HB.out)
   obtain ⟨tb, htb⟩ : ∃ tb, takenD n (pl k) = tb := ⟨_, rfl⟩
   rw [htb] at HMK
   have HTB := Lib.hid htb
   clear htb
   generalize V k = vk at *
   go_wp2_with fail
   refine HMK.out.mono ?_
   rintro e w2 ⟨rfl, hb2⟩
   have HB2 : Hid (Below w.heap.size w w2) := Lib.hid (HB.out.trans (hb2.mono HB.out.size))
   clear hb2 c0
   cases tb with
   | false =>
    go_wp2_with fail
    exact HNO.out ⟨k, hlt, HTB.out⟩ _ HB2.out
   | true =>
    go_wp2_with fail
    go_roundw
    case rel => exact ⟨k + 1, by omega, by go_num, Lib.hid (fun j hj => (Nat.lt_succ_iff_lt_or_eq.1 hj).elim (HA.out j) (fun e => e ▸ HTB.out)), HB2⟩
    case measure => simp [intOf]; omega
  ·have HY := Lib.hid (HYES.out (fun i hi => HA.out i (by omega)) wr HB.out)
   go_wp2_with fail
   refine HY.out.mono ?_
   rintro e w2 ⟨c, rfl, hq⟩
   have HQ := Lib.hid hq
   clear hq
   go_wp2_with fail
   exact HQ.out


set_option maxRecDepth 100000 in
set_option maxHeartbeats 4000000 in
theorem atPlaces_rename {w : World} {b : Nat} {n : Nd} {v0 v1 v2 v3 : Value} (h : TreeX w b n v0 v1 v2 v3) (hw : n.well = true) (hB : n.girth ≤ 200000000) {g m : Nat} {V : Nat → Value} {pl : Nat → List ByteArray} {caps : Array Value} (hm : m ≤ 2)
  (hc : ∀ i, i < m → w.cell? ⟨g, i, none⟩ = some (V i)) (hp : ∀ i, i < m → PlR w (V i) (pl i)) {Q : Ending → World → Prop}
  (hno : (∃ i, i < m ∧ takenD n (pl i) = false) → ∀ w', Below w.heap.size w w' → Q (.returned (.int .i64 5)) w')
  (hyes : (∀ i, i < m → takenD n (pl i) = true) → ∀ w', Below w.heap.size w w' → Calls Tryz.prog 107 caps w' fun e w2 => ∃ c : Int, e = .returned (.int .i64 c) ∧ Q e w2) :
  Calls Tryz.prog 106 #[.iface 28 (.pointer (some ⟨b, 0, none⟩)), .func (.func 107) #[] caps, .slice (some ⟨g, 0, none⟩) m m] w Q := by
 have HT := Lib.hid h
 have HC := Lib.hid hc
 have HP := Lib.hid hp
 have HNO := Lib.hid hno
 have HYES := Lib.hid hyes
 clear h hc hp hno hyes
 have HM : Hid (∀ i, i < m → ∀ wx, Below w.heap.size w wx → Calls Tryz.prog 130 #[.iface 28 (.pointer (some ⟨b, 0, none⟩)), V i] wx fun e w' => e = .returned (.bool (takenD n (pl i))) ∧ Below wx.heap.size wx w') :=
  Lib.hid fun i hi wx hb => mayBe_any (HT.out.kept hb) hw hB ((HP.out i hi).grown hb)
 go_enter Tryz.func106, Tryz.ntmps106
 go_wp2_with fail
 refine (pisNone_any b w).mono ?_
 rintro e w1 ⟨rfl, rfl⟩
 go_wp2_with fail
 go_loopw [8, 13] (fun _ i wr => ∃ k : Nat, k ≤ m ∧ i = .int .i64 k ∧ Hid (∀ j, j < k → takenD n (pl j) = true) ∧ Hid (Below w.heap.size w wr)) (fun _ i _ => m - (intOf i).toNat)
 case atStart => exact ⟨0, Nat.zero_le _, rfl, Lib.hid (fun j hj => absurd hj (Nat.not_lt_zero _)), Lib.hid (Below.refl _ _)⟩
 case round =>
  obtain ⟨k, hk, rfl, HA, HB⟩ := hrel
  by_cases hlt : k < m
  ·have c0 : wr.cell? ⟨g, k, none⟩ = some (V k) := cell_kept HB.out (HC.out k hlt)
   have HMK := Lib.hid (HM.out k hlt wr HB.out)
   obtain ⟨tb, htb⟩ : ∃ tb, takenD n (pl k) = tb := ⟨_, rfl⟩
   rw [htb] at HMK
   have HTB := Lib.hid htb
   clear htb
   generalize V k = vk at *
   go_wp2_with fail
   refine HMK.out.mono ?_
   rintro e w2 ⟨rfl, hb2⟩
   have HB2 : Hid (Below w.heap.size w w2) := Lib.hid (HB.out.trans (hb2.mono HB.out.size))
   clear hb2 c0
   cases tb with
   | false =>
    go_wp2_with fail
    exact HNO.out ⟨k, hlt, HTB.out⟩ _ HB2.out
   | true =>
    go_wp2_with fail
    go_roundw
    case rel => exact ⟨k + 1, by omega, by go_num, Lib.hid (fun j hj => (Nat.lt_succ_iff_lt_or_eq.1 hj).elim (HA.out j) (fun e => e ▸ HTB.out)), HB2⟩
    case measure => simp [intOf]; omega
  ·have HY := Lib.hid (HYES.out (fun i hi => HA.out i (by omega)) wr HB.out)
   go_wp2_with fail
   refine HY.out.mono ?_
   rintro e w2 ⟨c, rfl, hq⟩
   have HQ := Lib.hid hq
   clear hq
   go_wp2_with fail
   exact HQ.out


set_option maxRecDepth 100000 in
set_option maxHeartbeats 4000000 in
theorem atPlaces_copy {w : World} {b : Nat} {n : Nd} {v0 v1 v2 v3 : Value} (h : TreeX w b n v0 v1 v2 v3) (hw : n.well = true) (hB : n.girth ≤ 200000000) {g m : Nat} {V : Nat → Value} {pl : Nat → List ByteArray} {caps : Array Value} (hm : m ≤ 2)
  (hc : ∀ i, i < m → w.cell? ⟨g, i, none⟩ = some (V i)) (hp : ∀ i, i < m → PlR w (V i) (pl i)) {Q : Ending → World → Prop}
  (hno : (∃ i, i < m ∧ takenD n (pl i) = false) → ∀ w', Below w.heap.size w w' → Q (.returned (.int .i64 5)) w')
  (hyes : (∀ i, i < m → takenD n (pl i) = true) → ∀ w', Below w.heap.size w w' → Calls Tryz.prog 113 caps w' fun e w2 => ∃ c : Int, e = .returned (.int .i64 c) ∧ Q e w2) :
  Calls Tryz.prog 106 #[.iface 28 (.pointer (some ⟨b, 0, none⟩)), .func (.func 113) #[] caps, .slice (some ⟨g, 0, none⟩) m m] w Q := by
 have HT := Lib.hid h
 have HC := Lib.hid hc
 have HP := Lib.hid hp
 have HNO := Lib.hid hno
 have HYES := Lib.hid hyes
 clear h hc hp hno hyes
 have HM : Hid (∀ i, i < m → ∀ wx, Below w.heap.size w wx → Calls Tryz.prog 130 #[.iface 28 (.pointer (some ⟨b, 0, none⟩)), V i] wx fun e w' => e = .returned (.bool (takenD n (pl i))) ∧ Below wx.heap.size wx w') :=
  Lib.hid fun i hi wx hb => mayBe_any (HT.out.kept hb) hw hB ((HP.out i hi).grown hb)
 go_enter Tryz.func106, Tryz.ntmps106
 go_wp2_with fail
 refine (pisNone_any b w).mono ?_
 rintro e w1 ⟨rfl, rfl⟩
 go_wp2_with fail
 go_loopw [8, 13] (fun _ i wr => ∃ k : Nat, k ≤ m ∧ i = .int .i64 k ∧ Hid (∀ j, j < k → takenD n (pl j) = true) ∧ Hid (Below w.heap.size w wr)) (fun _ i _ => m - (intOf i).toNat)
 case atStart => exact ⟨0, Nat.zero_le _, rfl, Lib.hid (fun j hj => absurd hj (Nat.not_lt_zero _)), Lib.hid (Below.refl _ _)⟩
 case round =>
  obtain ⟨k, hk, rfl, HA, HB⟩ := hrel
  by_cases hlt : k < m
  ·have c0 : wr.cell? ⟨g, k, none⟩ = some (V k) := cell_kept HB.out (HC.out k hlt)
   have HMK := Lib.hid (HM.out k hlt wr HB.out)
   obtain ⟨tb, htb⟩ : ∃ tb, takenD n (pl k) = tb := ⟨_, rfl⟩
   rw [htb] at HMK
   have HTB := Lib.hid htb
   clear htb
   generalize V k = vk at *
   go_wp2_with fail
   refine HMK.out.mono ?_
   rintro e w2 ⟨rfl, hb2⟩
   have HB2 : Hid (Below w.heap.size w w2) := Lib.hid (HB.out.trans (hb2.mono HB.out.size))
   clear hb2 c0
   cases tb with
   | false =>
    go_wp2_with fail
    exact HNO.out ⟨k, hlt, HTB.out⟩ _ HB2.out
   | true =>
    go_wp2_with fail
    go_roundw
    case rel => exact ⟨k + 1, by omega, by go_num, Lib.hid (fun j hj => (Nat.lt_succ_iff_lt_or_eq.1 hj).elim (HA.out j) (fun e => e ▸ HTB.out)), HB2⟩
    case measure => simp [intOf]; omega
  ·have HY := Lib.hid (HYES.out (fun i hi => HA.out i (by omega)) wr HB.out)
   go_wp2_with fail
   refine HY.out.mono ?_
   rintro e w2 ⟨c, rfl, hq⟩
   have HQ := Lib.hid hq
   clear hq
   go_wp2_with fail
   exact HQ.out

end Go.Proofs.YtfilbknnpjbmcaaGreatDoor
