/- Walks of package moves: Run. -/
import Derived.Test.YtfilbknnpjbmcaaGreatDoorKb02
import Derived.Test.YtfilbknnpjbmcaaGreatDoorKb43
import Derived.Deep.RegionHeld3
namespace Go.Proofs.YtfilbknnpjbmcaaGreatDoor
open Go.RowKit Px Nx Wk Dn Ox Mv
abbrev qMvH_0 : Oper := { dst := some 15, op := Op.move (Operand.tmp 1), type := 22, pos := "moves.go:16", after := #[], guard := none }
abbrev qMvH_1 : Oper := { dst := some 16, op := Op.indexAddr 22 (Operand.tmp 15) (Operand.const (Value.int IntKind.i64 0)), type := 0, pos := "moves.go:16", after := #[{ on := 1, ground := Ground.data }], guard := none }
abbrev qMvH_2 : Oper := { dst := some 17, op := Op.load 9 (Operand.tmp 16), type := 9, pos := "moves.go:16", after := #[{ on := 2, ground := Ground.data }], guard := none }
abbrev qMvH_3 : Oper := { dst := some 14, op := Op.call { callee := Callee.value (Operand.func 29), args := #[], argTypes := #[] }, type := 65, pos := "moves.go:16", after := #[], guard := none }
abbrev qMvH_4 : Oper := { dst := some 8, op := Op.alloc 63, type := 0, pos := "moves.go:16", after := #[], guard := none }
abbrev qMvH_5 : Oper := { dst := some 18, op := Op.lookup 65 (Operand.tmp 14) (Operand.tmp 17) true, type := 64, pos := "moves.go:16", after := #[{ on := 0, ground := Ground.data }, { on := 3, ground := Ground.data }], guard := none }
abbrev qMvH_6 : Oper := { dst := some 13, op := Op.move (Operand.tmp 18), type := 64, pos := "moves.go:16", after := #[{ on := 4, ground := Ground.data }], guard := none }
abbrev qMvH_7 : Oper := { dst := some 19, op := Op.extract (Operand.tmp 13) 0, type := 63, pos := "moves.go:16", after := #[{ on := 5, ground := Ground.data }], guard := none }
abbrev qMvH_8 : Oper := { dst := some 20, op := Op.extract (Operand.tmp 13) 1, type := 4, pos := "moves.go:16", after := #[{ on := 5, ground := Ground.data }, { on := 9, ground := Ground.gcOnly Departure.lateStores }], guard := none }
abbrev qMvH_9 : Oper := { dst := none, op := Op.store 63 (Operand.tmp 8) (Operand.tmp 19), type := 0, pos := "moves.go:16", after := #[{ on := 8, ground := Ground.data }, { on := 6, ground := Ground.data }, { on := 0, ground := Ground.chain }, { on := 0, ground := Ground.phase }, { on := 1, ground := Ground.phase }, { on := 2, ground := Ground.phase }, { on := 3, ground := Ground.phase }, { on := 4, ground := Ground.phase }, { on := 5, ground := Ground.phase }, { on := 6, ground := Ground.phase }, { on := 7, ground := Ground.textOnly Departure.lateStores }, { on := 8, ground := Ground.phase }], guard := none }
abbrev qMvH_10 : Oper := { dst := some 9, op := Op.assign (Operand.tmp 20), type := 4, pos := "moves.go:16", after := #[{ on := 7, ground := Ground.data }, { on := 9, ground := Ground.chain }, { on := 0, ground := Ground.phase }, { on := 1, ground := Ground.phase }, { on := 2, ground := Ground.phase }, { on := 3, ground := Ground.phase }, { on := 4, ground := Ground.phase }, { on := 5, ground := Ground.phase }, { on := 6, ground := Ground.phase }, { on := 7, ground := Ground.phase }, { on := 8, ground := Ground.phase }, { on := 9, ground := Ground.phase }], guard := none }
abbrev qMvH_11 : Oper := { dst := some 29, op := Op.move (Operand.tmp 0), type := 59, pos := "moves.go:20", after := #[], guard := none }
abbrev qMvH_12 : Oper := { dst := some 30, op := Op.move (Operand.tmp 1), type := 22, pos := "moves.go:20", after := #[], guard := none }
abbrev qMvH_13 : Oper := { dst := some 31, op := Op.indexAddr 22 (Operand.tmp 30) (Operand.const (Value.int IntKind.i64 0)), type := 0, pos := "moves.go:20", after := #[{ on := 2, ground := Ground.data }], guard := none }
abbrev qMvH_14 : Oper := { dst := some 33, op := Op.move (Operand.tmp 1), type := 22, pos := "moves.go:20", after := #[], guard := none }
abbrev qMvH_15 : Oper := { dst := some 34, op := Op.slice 22 (Operand.tmp 33) (some (Operand.const (Value.int IntKind.i64 1))) none none, type := 22, pos := "moves.go:20", after := #[{ on := 5, ground := Ground.data }], guard := none }
abbrev qMvH_16 : Oper := { dst := some 28, op := Op.load 63 (Operand.tmp 8), type := 63, pos := "moves.go:20", after := #[], guard := none }
abbrev qMvH_17 : Oper := { dst := some 32, op := Op.load 9 (Operand.tmp 31), type := 9, pos := "moves.go:20", after := #[{ on := 3, ground := Ground.data }], guard := none }
abbrev qMvH_18 : Oper := { dst := some 35, op := Op.call { callee := Callee.value (Operand.func 31), args := #[Operand.tmp 28, Operand.tmp 29, Operand.tmp 32, Operand.tmp 34], argTypes := #[63, 59, 9, 22] }, type := 68, pos := "moves.go:20", after := #[{ on := 0, ground := Ground.data }, { on := 1, ground := Ground.data }, { on := 4, ground := Ground.data }, { on := 6, ground := Ground.data }], guard := none }
abbrev qMvH_19 : Oper := { dst := some 27, op := Op.move (Operand.tmp 35), type := 68, pos := "moves.go:20", after := #[{ on := 7, ground := Ground.data }], guard := none }
abbrev qMvH_20 : Oper := { dst := some 36, op := Op.extract (Operand.tmp 27) 0, type := 3, pos := "moves.go:20", after := #[{ on := 8, ground := Ground.data }], guard := none }
abbrev qMvH_21 : Oper := { dst := some 37, op := Op.extract (Operand.tmp 27) 1, type := 9, pos := "moves.go:20", after := #[{ on := 8, ground := Ground.data }, { on := 11, ground := Ground.gcOnly Departure.lateStores }], guard := none }
abbrev qMvH_22 : Oper := { dst := some 4, op := Op.assign (Operand.tmp 36), type := 3, pos := "moves.go:20", after := #[{ on := 9, ground := Ground.data }, { on := 7, ground := Ground.chain }, { on := 0, ground := Ground.phase }, { on := 1, ground := Ground.phase }, { on := 2, ground := Ground.phase }, { on := 3, ground := Ground.phase }, { on := 4, ground := Ground.phase }, { on := 5, ground := Ground.phase }, { on := 6, ground := Ground.phase }, { on := 7, ground := Ground.phase }, { on := 8, ground := Ground.phase }, { on := 9, ground := Ground.phase }, { on := 10, ground := Ground.textOnly Departure.lateStores }], guard := none }
abbrev qMvH_23 : Oper := { dst := some 6, op := Op.assign (Operand.tmp 37), type := 9, pos := "moves.go:20", after := #[{ on := 10, ground := Ground.data }, { on := 11, ground := Ground.chain }, { on := 0, ground := Ground.phase }, { on := 1, ground := Ground.phase }, { on := 2, ground := Ground.phase }, { on := 3, ground := Ground.phase }, { on := 4, ground := Ground.phase }, { on := 5, ground := Ground.phase }, { on := 6, ground := Ground.phase }, { on := 7, ground := Ground.phase }, { on := 8, ground := Ground.phase }, { on := 9, ground := Ground.phase }, { on := 10, ground := Ground.phase }, { on := 11, ground := Ground.phase }], guard := none }
def NoneQ (n : Nd) (w : World) (b : Nat) (e : Ending) (w' : World) : Prop := e = .returned (.tuple #[.int .i64 0, .string ⟨#[]⟩, .string ⟨#[]⟩, .bool false]) ∧ (∃ x0 x1 x2 x3, TreeX w' b n x0 x1 x2 x3) ∧ w.grownBy w' (some b)
theorem pl_tail {w : World} {bb oo c : Nat} {s : ByteArray} {rest : List ByteArray} (h : PlR w (.slice (some ⟨bb, oo, none⟩) (rest.length + 1) c) (s :: rest)) : PlR w (.slice (if c = 1 then some ⟨bb, oo, none⟩ else some ⟨bb, oo + 1, none⟩) rest.length (c - 1)) rest := by
 obtain ⟨p, cc, he, hs, hl, hm⟩ := h
 obtain ⟨rfl, _, rfl⟩ : some ⟨bb, oo, none⟩ = p ∧ rest.length + 1 = (s :: rest).length ∧ c = cc := by simpa using he
 rw [List.length_cons] at hl
 refine ⟨_, _, rfl, fun i hi => ?_, by omega, by omega⟩
 obtain ⟨b', o', e1, e2⟩ := hs (i + 1) (by rw [List.length_cons]; omega)
 cases e1
 rw [if_neg (by omega)]
 exact ⟨bb, oo + 1, rfl, by rw [show oo + 1 + i = oo + (i + 1) by omega, e2]; rfl⟩

set_option maxRecDepth 100000 in
set_option maxHeartbeats 16000000 in
theorem Run_none {w : World} {b G : Nat} {n : Nd} {v0 v1 v2 v3 : Value} (h : TreeX w b n v0 v1 v2 v3) (hG : TreeG G n) (hN : G ≤ 90000000) (s : ByteArray) {rest : List ByteArray} (hno : ∀ p ∈ utils, s ≠ p.1) {bb oo c : Nat} (hx : PlR w (.slice (some ⟨bb, oo, none⟩) (rest.length + 1) c) (s :: rest)) (hxl : rest.length ≤ 14) :
  Calls Tryz.prog 10 #[.iface 28 (.pointer (some ⟨b, 0, none⟩)), .slice (some ⟨bb, oo, none⟩) (rest.length + 1 : Nat) c] w fun e w' => NoneQ n w b e w' := by
 obtain ⟨Q, hQ⟩ : ∃ Q : Ending → World → Prop, Q = fun e w' => NoneQ n w b e w' := ⟨_, rfl⟩
 have HQN : Hid (∀ w', (∃ x0 x1 x2 x3, TreeX w' b n x0 x1 x2 x3) → w.grownBy w' (some b) → Q (.returned (.tuple #[.int .i64 0, .string ⟨#[]⟩, .string ⟨#[]⟩, .bool false])) w') := Lib.hid fun w' h2 h3 => hQ ▸ ⟨rfl, h2, h3⟩
 have HLK : Hid (∀ wx r, wx.heap[r]? = some (.map (utab 3) 3) → (Instr.lookup 65 (.map (some r)) (.string s) true).run Tryz.prog wx = .ok (.tuple #[.agg #[.string ⟨#[]⟩, .string ⟨#[]⟩, .nilFunc, .nilFunc], .bool false]) wx) := Lib.hid fun wx r hr => by
  rcases lookup_u wx r 3 s hr with ⟨q, _⟩ | ⟨p, hp, e, _⟩
  ·exact q
  ·exact absurd e (hno p hp)
 rw [← hQ]
 have HT := Lib.hid h
 have HX := Lib.hid hx
 have hc0 : w.cell? ⟨bb, oo, none⟩ = some (.string s) := by
  obtain ⟨p, cc, he, hs, _, _⟩ := hx
  obtain ⟨rfl, _, _⟩ : some ⟨bb, oo, none⟩ = p ∧ rest.length + 1 = (s :: rest).length ∧ c = cc := by simpa using he
  obtain ⟨b', o', e1, e2⟩ := hs 0 (by simp)
  cases e1
  exact e2
 have HC0 : Hid (∀ wx, Below w.heap.size w wx → wx.cell? ⟨bb, oo, none⟩ = some (.string s)) := Lib.hid fun wx hb => cell_kept hb hc0
 obtain ⟨_, _, he, _, hlc, hcm⟩ := hx
 have hlc2 : rest.length + 1 ≤ c := by
  have : (s :: rest : List ByteArray).length = rest.length + 1 := rfl
  simp only [Value.slice.injEq] at he
  omega
 have hcm2 : c ≤ maxLen := by
  simp only [Value.slice.injEq] at he
  omega
 have hcm3 : c ≤ 9223372036854775807 := by unfold maxLen at hcm2; omega
 clear he hlc hcm hcm2 hQ h
 have hr0 : (((rest.length + 1 : Nat) : Int) == 0) = false := beq_eq_false_iff_ne.2 (by omega)
 have hr3 : (1 : Int) ≤ (rest.length : Int) + 1 := by omega
 have hr1 : (0 : Int) ≤ 0 ∧ (0 : Int) < ((rest.length + 1 : Nat) : Int) := ⟨by omega, by omega⟩
 go_enter Tryz.func10, Tryz.ntmps10
 go_upto_region 3 with fail
 refine wp_region_held_drew (S := (fun wx => wx.cell? ⟨bb, oo, none⟩ = some (.string s))) (by kernel_rfl) (HC0.out _ (Below.refl _ _).drew) (fun hHeld => ?_)
 refine tk 1 qMvH_0 ?_
 try simp only [Act.put, sA, sB, sC]
 refine tk 2 qMvH_1 ?_
 try simp only [Act.put, sA, sB, sC]
 refine tk 3 qMvH_2 ?_
 try simp only [Act.put, sA, sB, sC]
 refine wpAnyH_ready (rs := [0, 8]) (by kernel_rfl) (by simp) ?_
 refine AllReadyH.cons (o := qMvH_3) rfl (fun K hK => ?_) ?_
 rotate_left
 refine AllReadyH.cons (o := qMvH_4) rfl (fun K hK => ?_) AllReadyH.nil
 ·skip
  go_simp
  go_wp2_with fail
  refine hK.out _ _ (by first | exact HC0.out _ (Below.refl _ _).drew | exact HC0.out _ (below_alloc (Below.refl _ _)).drew | exact HC0.out _ (below_alloc (below_alloc (Below.refl _ _))).drew) (fun hHeld => ?_)
  clear hK K
  try simp only [Act.put, sA, sB, sC]
  refine wpAnyH_ready (rs := [0]) (by kernel_rfl) (by simp) ?_
  refine AllReadyH.cons (o := qMvH_3) rfl (fun K hK => ?_) AllReadyH.nil
  go_simp
  (go_at_call 29; refine (utilities_any _).mono ?_; rintro e wm ⟨rfl, rfl⟩)
  go_wp2_with fail
  refine hK.out _ _ (by first | exact HC0.out _ (Below.refl _ _).drew | exact HC0.out _ (below_alloc (Below.refl _ _)).drew | exact HC0.out _ (below_alloc (below_alloc (Below.refl _ _))).drew) (fun hHeld => ?_)
  clear hK K
  try simp only [Act.put, sA, sB, sC]
  refine wpAnyH_ready (rs := [4]) (by kernel_rfl) (by simp) ?_
  refine AllReadyH.cons (o := qMvH_5) rfl (fun K hK => ?_) AllReadyH.nil
  have hlk := HLK.out ((w.alloc (.cells #[.string ⟨#[]⟩, .string ⟨#[]⟩, .nilFunc, .nilFunc] 63)).alloc (.map (utab 3) 3)).drew (w.heap.size + 1) (by show ((w.alloc (.cells #[.string ⟨#[]⟩, .string ⟨#[]⟩, .nilFunc, .nilFunc] 63)).alloc (.map (utab 3) 3)).heap[w.heap.size + 1]? = _; simpa using heap_alloc_new (w.alloc (.cells #[.string ⟨#[]⟩, .string ⟨#[]⟩, .nilFunc, .nilFunc] 63)) (.map (utab 3) 3))
  go_simp
  try rw [hlk]
  go_wp2_with fail
  clear hlk
  refine hK.out _ _ (by first | exact HC0.out _ (Below.refl _ _).drew | exact HC0.out _ (below_alloc (Below.refl _ _)).drew | exact HC0.out _ (below_alloc (below_alloc (Below.refl _ _))).drew) (fun hHeld => ?_)
  clear hK K
  try simp only [Act.put, sA, sB, sC]
  refine tk 5 qMvH_6 ?_
  try simp only [Act.put, sA, sB, sC]
  refine tk 6 qMvH_7 ?_
  try simp only [Act.put, sA, sB, sC]
  refine tk 7 qMvH_8 ?_
  try simp only [Act.put, sA, sB, sC]
  refine wpAnyH_ready (rs := [9]) (by kernel_rfl) (by simp) ?_
  refine AllReadyH.cons (o := qMvH_9) rfl (fun K hK => ?_) AllReadyH.nil
  have hz : ((w.alloc (.cells #[.string ⟨#[]⟩, .string ⟨#[]⟩, .nilFunc, .nilFunc] 63)).alloc (.map (utab 3) 3)).drew.heap[w.heap.size]? = some (.cells #[.string ⟨#[]⟩, .string ⟨#[]⟩, .nilFunc, .nilFunc] 63 (0, 0)) := by show ((w.alloc (.cells #[.string ⟨#[]⟩, .string ⟨#[]⟩, .nilFunc, .nilFunc] 63)).alloc (.map (utab 3) 3)).heap[w.heap.size]? = _; rw [Below.heap_alloc _ _ _ (by simp)]; exact heap_alloc_new w _
  have z0 := frozen_of_row _ w.heap.size 0 _ _ hz
  have z1 := frozen_of_row _ w.heap.size 1 _ _ hz
  have z2 := frozen_of_row _ w.heap.size 2 _ _ hz
  have z3 := frozen_of_row _ w.heap.size 3 _ _ hz
  have y0 := cell_of_row _ w.heap.size 0 _ _ _ hz
  have y1 := cell_of_row _ w.heap.size 1 _ _ _ hz
  have y2 := cell_of_row _ w.heap.size 2 _ _ _ hz
  have y3 := cell_of_row _ w.heap.size 3 _ _ _ hz
  go_simp
  go_wp2_with fail
  clear z0 z1 z2 z3 y0 y1 y2 y3
  refine hK.out _ _ (by first | exact HC0.out _ (Below.refl _ _).drew | exact HC0.out _ (below_alloc (Below.refl _ _)).drew | exact HC0.out _ (below_alloc (below_alloc (Below.refl _ _))).drew) (fun hHeld => ?_)
  clear hK K
  try simp only [Act.put, sA, sB, sC]
  refine tk 10 qMvH_10 ?_
  try simp only [Act.put, sA, sB, sC]
  refine wpAnyH_done (by kernel_rfl) ?_ _
  clear hHeld
  have HV : Hid (((w.alloc (.cells #[.string ⟨#[]⟩, .string ⟨#[]⟩, .nilFunc, .nilFunc] 63)).alloc (.map (utab 3) 3)).drew.heap[w.heap.size]? = some (.cells #[.string ⟨#[]⟩, .string ⟨#[]⟩, .nilFunc, .nilFunc] 63 (0, 0))) := Lib.hid (by show ((w.alloc (.cells #[.string ⟨#[]⟩, .string ⟨#[]⟩, .nilFunc, .nilFunc] 63)).alloc (.map (utab 3) 3)).heap[w.heap.size]? = _; rw [Below.heap_alloc _ _ _ (by simp)]; exact heap_alloc_new w _)
  have HB : Hid (Below w.heap.size w ((w.alloc (.cells #[.string ⟨#[]⟩, .string ⟨#[]⟩, .nilFunc, .nilFunc] 63)).alloc (.map (utab 3) 3)).drew) := Lib.hid ((below_alloc (below_alloc (Below.refl _ _))).drew)
  generalize ((w.alloc (.cells #[.string ⟨#[]⟩, .string ⟨#[]⟩, .nilFunc, .nilFunc] 63)).alloc (.map (utab 3) 3)).drew = W1 at *
  try clear hz
  go_wp2_with fail
  go_returns
  exact HQN.out _ ⟨_, _, _, _, HT.out.kept HB.out⟩ (grown_below HB.out)
 ·skip
  go_simp
  (go_at_call 29; refine (utilities_any _).mono ?_; rintro e wm ⟨rfl, rfl⟩)
  go_wp2_with fail
  refine hK.out _ _ (by first | exact HC0.out _ (Below.refl _ _).drew | exact HC0.out _ (below_alloc (Below.refl _ _)).drew | exact HC0.out _ (below_alloc (below_alloc (Below.refl _ _))).drew) (fun hHeld => ?_)
  clear hK K
  try simp only [Act.put, sA, sB, sC]
  refine wpAnyH_ready (rs := [4, 8]) (by kernel_rfl) (by simp) ?_
  refine AllReadyH.cons (o := qMvH_5) rfl (fun K hK => ?_) ?_
  rotate_left
  refine AllReadyH.cons (o := qMvH_4) rfl (fun K hK => ?_) AllReadyH.nil
  ·skip
   go_simp
   go_wp2_with fail
   refine hK.out _ _ (by first | exact HC0.out _ (Below.refl _ _).drew | exact HC0.out _ (below_alloc (Below.refl _ _)).drew | exact HC0.out _ (below_alloc (below_alloc (Below.refl _ _))).drew) (fun hHeld => ?_)
   clear hK K
   try simp only [Act.put, sA, sB, sC]
   refine wpAnyH_ready (rs := [4]) (by kernel_rfl) (by simp) ?_
   refine AllReadyH.cons (o := qMvH_5) rfl (fun K hK => ?_) AllReadyH.nil
   have hlk := HLK.out ((w.alloc (.map (utab 3) 3)).alloc (.cells #[.string ⟨#[]⟩, .string ⟨#[]⟩, .nilFunc, .nilFunc] 63)).drew w.heap.size (by show ((w.alloc (.map (utab 3) 3)).alloc (.cells #[.string ⟨#[]⟩, .string ⟨#[]⟩, .nilFunc, .nilFunc] 63)).heap[w.heap.size]? = _; rw [Below.heap_alloc _ _ _ (by simp)]; exact heap_alloc_new w _)
   go_simp
   try rw [hlk]
   go_wp2_with fail
   clear hlk
   refine hK.out _ _ (by first | exact HC0.out _ (Below.refl _ _).drew | exact HC0.out _ (below_alloc (Below.refl _ _)).drew | exact HC0.out _ (below_alloc (below_alloc (Below.refl _ _))).drew) (fun hHeld => ?_)
   clear hK K
   try simp only [Act.put, sA, sB, sC]
   refine tk 5 qMvH_6 ?_
   try simp only [Act.put, sA, sB, sC]
   refine tk 6 qMvH_7 ?_
   try simp only [Act.put, sA, sB, sC]
   refine tk 7 qMvH_8 ?_
   try simp only [Act.put, sA, sB, sC]
   refine wpAnyH_ready (rs := [9]) (by kernel_rfl) (by simp) ?_
   refine AllReadyH.cons (o := qMvH_9) rfl (fun K hK => ?_) AllReadyH.nil
   go_simp
   go_wp2_with fail
   refine hK.out _ _ (by first | exact HC0.out _ (Below.refl _ _).drew | exact HC0.out _ (below_alloc (Below.refl _ _)).drew | exact HC0.out _ (below_alloc (below_alloc (Below.refl _ _))).drew) (fun hHeld => ?_)
   clear hK K
   try simp only [Act.put, sA, sB, sC]
   refine tk 10 qMvH_10 ?_
   try simp only [Act.put, sA, sB, sC]
   refine wpAnyH_done (by kernel_rfl) ?_ _
   clear hHeld
   have HV : Hid (((w.alloc (.map (utab 3) 3)).alloc (.cells #[.string ⟨#[]⟩, .string ⟨#[]⟩, .nilFunc, .nilFunc] 63)).drew.heap[(w.heap.size + 1)]? = some (.cells #[.string ⟨#[]⟩, .string ⟨#[]⟩, .nilFunc, .nilFunc] 63 (0, 0))) := Lib.hid (by show ((w.alloc (.map (utab 3) 3)).alloc (.cells #[.string ⟨#[]⟩, .string ⟨#[]⟩, .nilFunc, .nilFunc] 63)).heap[w.heap.size + 1]? = _; simpa using heap_alloc_new (w.alloc (.map (utab 3) 3)) (.cells #[.string ⟨#[]⟩, .string ⟨#[]⟩, .nilFunc, .nilFunc] 63))
   have HB : Hid (Below w.heap.size w ((w.alloc (.map (utab 3) 3)).alloc (.cells #[.string ⟨#[]⟩, .string ⟨#[]⟩, .nilFunc, .nilFunc] 63)).drew) := Lib.hid ((below_alloc (below_alloc (Below.refl _ _))).drew)
   generalize ((w.alloc (.map (utab 3) 3)).alloc (.cells #[.string ⟨#[]⟩, .string ⟨#[]⟩, .nilFunc, .nilFunc] 63)).drew = W1 at *
   go_wp2_with fail
   go_returns
   exact HQN.out _ ⟨_, _, _, _, HT.out.kept HB.out⟩ (grown_below HB.out)
  ·skip
   have hlk := HLK.out (w.alloc (.map (utab 3) 3)).drew w.heap.size (heap_alloc_new w _)
   go_simp
   try rw [hlk]
   go_wp2_with fail
   clear hlk
   refine hK.out _ _ (by first | exact HC0.out _ (Below.refl _ _).drew | exact HC0.out _ (below_alloc (Below.refl _ _)).drew | exact HC0.out _ (below_alloc (below_alloc (Below.refl _ _))).drew) (fun hHeld => ?_)
   clear hK K
   try simp only [Act.put, sA, sB, sC]
   refine tk 5 qMvH_6 ?_
   try simp only [Act.put, sA, sB, sC]
   refine tk 6 qMvH_7 ?_
   try simp only [Act.put, sA, sB, sC]
   refine tk 7 qMvH_8 ?_
   try simp only [Act.put, sA, sB, sC]
   refine wpAnyH_ready (rs := [8]) (by kernel_rfl) (by simp) ?_
   refine AllReadyH.cons (o := qMvH_4) rfl (fun K hK => ?_) AllReadyH.nil
   go_simp
   go_wp2_with fail
   refine hK.out _ _ (by first | exact HC0.out _ (Below.refl _ _).drew | exact HC0.out _ (below_alloc (Below.refl _ _)).drew | exact HC0.out _ (below_alloc (below_alloc (Below.refl _ _))).drew) (fun hHeld => ?_)
   clear hK K
   try simp only [Act.put, sA, sB, sC]
   refine wpAnyH_ready (rs := [9]) (by kernel_rfl) (by simp) ?_
   refine AllReadyH.cons (o := qMvH_9) rfl (fun K hK => ?_) AllReadyH.nil
   go_simp
   go_wp2_with fail
   refine hK.out _ _ (by first | exact HC0.out _ (Below.refl _ _).drew | exact HC0.out _ (below_alloc (Below.refl _ _)).drew | exact HC0.out _ (below_alloc (below_alloc (Below.refl _ _))).drew) (fun hHeld => ?_)
   clear hK K
   try simp only [Act.put, sA, sB, sC]
   refine tk 10 qMvH_10 ?_
   try simp only [Act.put, sA, sB, sC]
   refine wpAnyH_done (by kernel_rfl) ?_ _
   clear hHeld
   have HV : Hid (((w.alloc (.map (utab 3) 3)).alloc (.cells #[.string ⟨#[]⟩, .string ⟨#[]⟩, .nilFunc, .nilFunc] 63)).drew.heap[(w.heap.size + 1)]? = some (.cells #[.string ⟨#[]⟩, .string ⟨#[]⟩, .nilFunc, .nilFunc] 63 (0, 0))) := Lib.hid (by show ((w.alloc (.map (utab 3) 3)).alloc (.cells #[.string ⟨#[]⟩, .string ⟨#[]⟩, .nilFunc, .nilFunc] 63)).heap[w.heap.size + 1]? = _; simpa using heap_alloc_new (w.alloc (.map (utab 3) 3)) (.cells #[.string ⟨#[]⟩, .string ⟨#[]⟩, .nilFunc, .nilFunc] 63))
   have HB : Hid (Below w.heap.size w ((w.alloc (.map (utab 3) 3)).alloc (.cells #[.string ⟨#[]⟩, .string ⟨#[]⟩, .nilFunc, .nilFunc] 63)).drew) := Lib.hid ((below_alloc (below_alloc (Below.refl _ _))).drew)
   generalize ((w.alloc (.map (utab 3) 3)).alloc (.cells #[.string ⟨#[]⟩, .string ⟨#[]⟩, .nilFunc, .nilFunc] 63)).drew = W1 at *
   go_wp2_with fail
   go_returns
   exact HQN.out _ ⟨_, _, _, _, HT.out.kept HB.out⟩ (grown_below HB.out)

set_option maxRecDepth 100000 in
set_option maxHeartbeats 16000000 in
theorem Run_is {w : World} {b b2 G : Nat} {n : Nd} {v0 v1 v2 v3 : Value} (h : TreeY b2 w b n v0 v1 v2 v3) (hG : TreeG G n) (hN : G ≤ 90000000) (s : ByteArray) {rest : List ByteArray} {x0 x1 : ByteArray} {fj fi : Nat} {P : Int → ByteArray → Nd → Prop} (hlk : ∀ wx r, wx.heap[r]? = some (.map (utab 3) 3) → (Instr.lookup 65 (.map (some r)) (.string s) true).run Tryz.prog wx = .ok (.tuple #[.agg #[.string x0, .string x1, .func (.func fj) #[] #[], .func (.func fi) #[] #[]], .bool true]) wx) (hrun : ∀ wx xv, Below w.heap.size w wx → PlR wx xv rest → Calls Tryz.prog 31 #[.agg #[.string x0, .string x1, .func (.func fj) #[] #[], .func (.func fi) #[] #[]], .iface 28 (.pointer (some ⟨b, 0, none⟩)), .string s, xv] wx fun e w' => ∃ code err n', e = .returned (.tuple #[.int .i64 code, .string err]) ∧ P code err n' ∧ (∃ x0 x1 x2 x3, TreeY b2 w' b n' x0 x1 x2 x3) ∧ wx.grownBy w' (some b)) {bb oo c : Nat} (hx : PlR w (.slice (some ⟨bb, oo, none⟩) (rest.length + 1) c) (s :: rest)) (hxl : rest.length ≤ 14) :
  Calls Tryz.prog 10 #[.iface 28 (.pointer (some ⟨b, 0, none⟩)), .slice (some ⟨bb, oo, none⟩) (rest.length + 1 : Nat) c] w fun e w' => ∃ code err n', e = .returned (.tuple #[.int .i64 code, .string ⟨#[]⟩, .string err, .bool true]) ∧ P code err n' ∧ (∃ x0 x1 x2 x3, TreeY b2 w' b n' x0 x1 x2 x3) ∧ w.grownBy w' (some b) := by
 obtain ⟨Q, hQ⟩ : ∃ Q : Ending → World → Prop, Q = fun e w' => ∃ code err n', e = .returned (.tuple #[.int .i64 code, .string ⟨#[]⟩, .string err, .bool true]) ∧ P code err n' ∧ (∃ x0 x1 x2 x3, TreeY b2 w' b n' x0 x1 x2 x3) ∧ w.grownBy w' (some b) := ⟨_, rfl⟩
 have HQR : Hid (∀ w' code err n', P code err n' → (∃ x0 x1 x2 x3, TreeY b2 w' b n' x0 x1 x2 x3) → w.grownBy w' (some b) → Q (.returned (.tuple #[.int .i64 code, .string ⟨#[]⟩, .string err, .bool true])) w') := Lib.hid fun w' code err n' hrd h2 h3 => hQ ▸ ⟨_, _, _, rfl, hrd, h2, h3⟩
 have HLK := Lib.hid hlk
 have HRN := Lib.hid hrun
 clear hlk hrun
 rw [← hQ]
 have HT := Lib.hid h
 have HX := Lib.hid hx
 have hc0 : w.cell? ⟨bb, oo, none⟩ = some (.string s) := by
  obtain ⟨p, cc, he, hs, _, _⟩ := hx
  obtain ⟨rfl, _, _⟩ : some ⟨bb, oo, none⟩ = p ∧ rest.length + 1 = (s :: rest).length ∧ c = cc := by simpa using he
  obtain ⟨b', o', e1, e2⟩ := hs 0 (by simp)
  cases e1
  exact e2
 have HC0 : Hid (∀ wx, Below w.heap.size w wx → wx.cell? ⟨bb, oo, none⟩ = some (.string s)) := Lib.hid fun wx hb => cell_kept hb hc0
 obtain ⟨_, _, he, _, hlc, hcm⟩ := hx
 have hlc2 : rest.length + 1 ≤ c := by
  have : (s :: rest : List ByteArray).length = rest.length + 1 := rfl
  simp only [Value.slice.injEq] at he
  omega
 have hcm2 : c ≤ maxLen := by
  simp only [Value.slice.injEq] at he
  omega
 have hcm3 : c ≤ 9223372036854775807 := by unfold maxLen at hcm2; omega
 clear he hlc hcm hcm2 hQ h
 have hr0 : (((rest.length + 1 : Nat) : Int) == 0) = false := beq_eq_false_iff_ne.2 (by omega)
 have hr3 : (1 : Int) ≤ (rest.length : Int) + 1 := by omega
 have hr1 : (0 : Int) ≤ 0 ∧ (0 : Int) < ((rest.length + 1 : Nat) : Int) := ⟨by omega, by omega⟩
 go_enter Tryz.func10, Tryz.ntmps10
 go_upto_region 3 with fail
 refine wp_region_held_drew (S := (fun wx => wx.cell? ⟨bb, oo, none⟩ = some (.string s))) (by kernel_rfl) (HC0.out _ (Below.refl _ _).drew) (fun hHeld => ?_)
 refine tk 1 qMvH_0 ?_
 try simp only [Act.put, sA, sB, sC]
 refine tk 2 qMvH_1 ?_
 try simp only [Act.put, sA, sB, sC]
 refine tk 3 qMvH_2 ?_
 try simp only [Act.put, sA, sB, sC]
 refine wpAnyH_ready (rs := [0, 8]) (by kernel_rfl) (by simp) ?_
 refine AllReadyH.cons (o := qMvH_3) rfl (fun K hK => ?_) ?_
 rotate_left
 refine AllReadyH.cons (o := qMvH_4) rfl (fun K hK => ?_) AllReadyH.nil
 ·skip
  go_simp
  go_wp2_with fail
  refine hK.out _ _ (by first | exact HC0.out _ (Below.refl _ _).drew | exact HC0.out _ (below_alloc (Below.refl _ _)).drew | exact HC0.out _ (below_alloc (below_alloc (Below.refl _ _))).drew) (fun hHeld => ?_)
  clear hK K
  try simp only [Act.put, sA, sB, sC]
  refine wpAnyH_ready (rs := [0]) (by kernel_rfl) (by simp) ?_
  refine AllReadyH.cons (o := qMvH_3) rfl (fun K hK => ?_) AllReadyH.nil
  go_simp
  (go_at_call 29; refine (utilities_any _).mono ?_; rintro e wm ⟨rfl, rfl⟩)
  go_wp2_with fail
  refine hK.out _ _ (by first | exact HC0.out _ (Below.refl _ _).drew | exact HC0.out _ (below_alloc (Below.refl _ _)).drew | exact HC0.out _ (below_alloc (below_alloc (Below.refl _ _))).drew) (fun hHeld => ?_)
  clear hK K
  try simp only [Act.put, sA, sB, sC]
  refine wpAnyH_ready (rs := [4]) (by kernel_rfl) (by simp) ?_
  refine AllReadyH.cons (o := qMvH_5) rfl (fun K hK => ?_) AllReadyH.nil
  have hlk := HLK.out ((w.alloc (.cells #[.string ⟨#[]⟩, .string ⟨#[]⟩, .nilFunc, .nilFunc] 63)).alloc (.map (utab 3) 3)).drew (w.heap.size + 1) (by show ((w.alloc (.cells #[.string ⟨#[]⟩, .string ⟨#[]⟩, .nilFunc, .nilFunc] 63)).alloc (.map (utab 3) 3)).heap[w.heap.size + 1]? = _; simpa using heap_alloc_new (w.alloc (.cells #[.string ⟨#[]⟩, .string ⟨#[]⟩, .nilFunc, .nilFunc] 63)) (.map (utab 3) 3))
  go_simp
  try rw [hlk]
  go_wp2_with fail
  clear hlk
  refine hK.out _ _ (by first | exact HC0.out _ (Below.refl _ _).drew | exact HC0.out _ (below_alloc (Below.refl _ _)).drew | exact HC0.out _ (below_alloc (below_alloc (Below.refl _ _))).drew) (fun hHeld => ?_)
  clear hK K
  try simp only [Act.put, sA, sB, sC]
  refine tk 5 qMvH_6 ?_
  try simp only [Act.put, sA, sB, sC]
  refine tk 6 qMvH_7 ?_
  try simp only [Act.put, sA, sB, sC]
  refine tk 7 qMvH_8 ?_
  try simp only [Act.put, sA, sB, sC]
  refine wpAnyH_ready (rs := [9]) (by kernel_rfl) (by simp) ?_
  refine AllReadyH.cons (o := qMvH_9) rfl (fun K hK => ?_) AllReadyH.nil
  have hz : ((w.alloc (.cells #[.string ⟨#[]⟩, .string ⟨#[]⟩, .nilFunc, .nilFunc] 63)).alloc (.map (utab 3) 3)).drew.heap[w.heap.size]? = some (.cells #[.string ⟨#[]⟩, .string ⟨#[]⟩, .nilFunc, .nilFunc] 63 (0, 0)) := by show ((w.alloc (.cells #[.string ⟨#[]⟩, .string ⟨#[]⟩, .nilFunc, .nilFunc] 63)).alloc (.map (utab 3) 3)).heap[w.heap.size]? = _; rw [Below.heap_alloc _ _ _ (by simp)]; exact heap_alloc_new w _
  have z0 := frozen_of_row _ w.heap.size 0 _ _ hz
  have z1 := frozen_of_row _ w.heap.size 1 _ _ hz
  have z2 := frozen_of_row _ w.heap.size 2 _ _ hz
  have z3 := frozen_of_row _ w.heap.size 3 _ _ hz
  have y0 := cell_of_row _ w.heap.size 0 _ _ _ hz
  have y1 := cell_of_row _ w.heap.size 1 _ _ _ hz
  have y2 := cell_of_row _ w.heap.size 2 _ _ _ hz
  have y3 := cell_of_row _ w.heap.size 3 _ _ _ hz
  go_simp
  go_wp2_with fail
  clear z0 z1 z2 z3 y0 y1 y2 y3
  refine hK.out _ _ (by first | exact HC0.out _ (Below.refl _ _).drew | exact HC0.out _ (below_alloc (Below.refl _ _)).drew | exact HC0.out _ (below_alloc (below_alloc (Below.refl _ _))).drew) (fun hHeld => ?_)
  clear hK K
  try simp only [Act.put, sA, sB, sC]
  refine tk 10 qMvH_10 ?_
  try simp only [Act.put, sA, sB, sC]
  refine wpAnyH_done (by kernel_rfl) ?_ _
  clear hHeld
  have HV : Hid (((w.alloc (.cells #[.string x0, .string x1, .func (.func fj) #[] #[], .func (.func fi) #[] #[]] 63)).alloc (.map (utab 3) 3)).drew.heap[w.heap.size]? = some (.cells #[.string x0, .string x1, .func (.func fj) #[] #[], .func (.func fi) #[] #[]] 63 (0, 0))) := Lib.hid (by show ((w.alloc (.cells #[.string x0, .string x1, .func (.func fj) #[] #[], .func (.func fi) #[] #[]] 63)).alloc (.map (utab 3) 3)).heap[w.heap.size]? = _; rw [Below.heap_alloc _ _ _ (by simp)]; exact heap_alloc_new w _)
  have HB : Hid (Below w.heap.size w ((w.alloc (.cells #[.string x0, .string x1, .func (.func fj) #[] #[], .func (.func fi) #[] #[]] 63)).alloc (.map (utab 3) 3)).drew) := Lib.hid ((below_alloc (below_alloc (Below.refl _ _))).drew)
  generalize ((w.alloc (.cells #[.string x0, .string x1, .func (.func fj) #[] #[], .func (.func fi) #[] #[]] 63)).alloc (.map (utab 3) 3)).drew = W1 at *
  try clear hz
  go_wp2_with fail
  refine (misNone_any (HT.out.kept HB.out).x hG.well (by have := hG.girth; omega) hG.kind).mono ?_
  rintro e w5 ⟨rfl, hb5⟩
  have HB5 : Hid (Below w.heap.size w w5) := Lib.hid (HB.out.trans (hb5.mono HB.out.size))
  have HB5d : Hid (Below w.heap.size w w5.drew) := Lib.hid HB5.out.drew
  have HA : Hid (w5.drew.cell? ⟨w.heap.size, 0, none⟩ = some (.string x0) ∧ w5.drew.cell? ⟨w.heap.size, 1, none⟩ = some (.string x1) ∧ w5.drew.cell? ⟨w.heap.size, 2, none⟩ = some (.func (.func fj) #[] #[]) ∧ w5.drew.cell? ⟨w.heap.size, 3, none⟩ = some (.func (.func fi) #[] #[])) := Lib.hid ⟨cell_kept hb5.drew (by rw [cell_of_row _ _ 0 _ _ _ HV.out]; rfl), cell_kept hb5.drew (by rw [cell_of_row _ _ 1 _ _ _ HV.out]; rfl), cell_kept hb5.drew (by rw [cell_of_row _ _ 2 _ _ _ HV.out]; rfl), cell_kept hb5.drew (by rw [cell_of_row _ _ 3 _ _ _ HV.out]; rfl)⟩
  have HCW : Hid (w5.drew.cell? ⟨bb, oo, none⟩ = some (.string s)) := Lib.hid (cell_kept HB5d.out hc0)
  have HRUN := Lib.hid (HRN.out _ _ HB5d.out ((pl_tail HX.out).grown HB5d.out))
  clear hb5
  generalize hpa : (if c = 1 then some (⟨bb, oo, none⟩ : Addr) else some ⟨bb, oo + 1, none⟩) = pa at *
  go_upto_region 6 with fail
  refine wp_region_held_drew (S := (fun _ => True)) (by kernel_rfl) trivial (fun hHeld => ?_)
  refine tk 1 qMvH_11 ?_
  try simp only [Act.put, sA, sB, sC]
  refine tk 2 qMvH_12 ?_
  try simp only [Act.put, sA, sB, sC]
  refine tk 3 qMvH_13 ?_
  try simp only [Act.put, sA, sB, sC]
  refine tk 5 qMvH_14 ?_
  try simp only [Act.put, sA, sB, sC]
  refine tk 6 qMvH_15 ?_
  try simp only [Act.put, sA, sB, sC]
  refine wpAnyH_ready (rs := [0, 4]) (by kernel_rfl) (by simp) ?_
  refine AllReadyH.cons (o := qMvH_16) rfl (fun K hK => ?_) ?_
  rotate_left
  refine AllReadyH.cons (o := qMvH_17) rfl (fun K hK => ?_) AllReadyH.nil
  ·skip
   have cw := HCW.out
   go_simp
   go_wp2_with fail
   clear cw
   refine hK.out _ _ (by trivial) (fun hHeld => ?_)
   clear hK K
   try simp only [Act.put, sA, sB, sC]
   refine wpAnyH_ready (rs := [0]) (by kernel_rfl) (by simp) ?_
   refine AllReadyH.cons (o := qMvH_16) rfl (fun K hK => ?_) AllReadyH.nil
   obtain ⟨a0, a1, a2, a3⟩ := HA.out
   go_simp
   go_wp2_with fail
   clear a0 a1 a2 a3
   refine hK.out _ _ (by trivial) (fun hHeld => ?_)
   clear hK K
   try simp only [Act.put, sA, sB, sC]
   refine wpAnyH_ready (rs := [7]) (by kernel_rfl) (by simp) ?_
   refine AllReadyH.cons (o := qMvH_18) rfl (fun K hK => ?_) AllReadyH.nil
   go_simp
   (go_at_call 31; refine HRUN.out.mono ?_; rintro e w6 ⟨code, err, nn, rfl, hrd, ht6, hg6⟩)
   have HRD := Lib.hid hrd
   have HT6 := Lib.hid ht6
   have HG6 := Lib.hid hg6
   clear hrd ht6 hg6
   go_wp2_with fail
   refine hK.out _ _ (by trivial) (fun hHeld => ?_)
   clear hK K
   try simp only [Act.put, sA, sB, sC]
   refine tk 8 qMvH_19 ?_
   try simp only [Act.put, sA, sB, sC]
   refine tk 9 qMvH_20 ?_
   try simp only [Act.put, sA, sB, sC]
   refine tk 10 qMvH_21 ?_
   try simp only [Act.put, sA, sB, sC]
   refine tk 11 qMvH_22 ?_
   try simp only [Act.put, sA, sB, sC]
   refine tk 12 qMvH_23 ?_
   try simp only [Act.put, sA, sB, sC]
   refine wpAnyH_done (by kernel_rfl) ?_ _
   clear hHeld
   go_wp2_with fail
   go_returns
   exact HQR.out _ _ _ _ HRD.out HT6.out (grown_trans (grown_below HB5.out.drew) HG6.out)
  ·skip
   obtain ⟨a0, a1, a2, a3⟩ := HA.out
   go_simp
   go_wp2_with fail
   clear a0 a1 a2 a3
   refine hK.out _ _ (by trivial) (fun hHeld => ?_)
   clear hK K
   try simp only [Act.put, sA, sB, sC]
   refine wpAnyH_ready (rs := [4]) (by kernel_rfl) (by simp) ?_
   refine AllReadyH.cons (o := qMvH_17) rfl (fun K hK => ?_) AllReadyH.nil
   have cw := HCW.out
   go_simp
   go_wp2_with fail
   clear cw
   refine hK.out _ _ (by trivial) (fun hHeld => ?_)
   clear hK K
   try simp only [Act.put, sA, sB, sC]
   refine wpAnyH_ready (rs := [7]) (by kernel_rfl) (by simp) ?_
   refine AllReadyH.cons (o := qMvH_18) rfl (fun K hK => ?_) AllReadyH.nil
   go_simp
   (go_at_call 31; refine HRUN.out.mono ?_; rintro e w6 ⟨code, err, nn, rfl, hrd, ht6, hg6⟩)
   have HRD := Lib.hid hrd
   have HT6 := Lib.hid ht6
   have HG6 := Lib.hid hg6
   clear hrd ht6 hg6
   go_wp2_with fail
   refine hK.out _ _ (by trivial) (fun hHeld => ?_)
   clear hK K
   try simp only [Act.put, sA, sB, sC]
   refine tk 8 qMvH_19 ?_
   try simp only [Act.put, sA, sB, sC]
   refine tk 9 qMvH_20 ?_
   try simp only [Act.put, sA, sB, sC]
   refine tk 10 qMvH_21 ?_
   try simp only [Act.put, sA, sB, sC]
   refine tk 11 qMvH_22 ?_
   try simp only [Act.put, sA, sB, sC]
   refine tk 12 qMvH_23 ?_
   try simp only [Act.put, sA, sB, sC]
   refine wpAnyH_done (by kernel_rfl) ?_ _
   clear hHeld
   go_wp2_with fail
   go_returns
   exact HQR.out _ _ _ _ HRD.out HT6.out (grown_trans (grown_below HB5.out.drew) HG6.out)
 ·skip
  go_simp
  (go_at_call 29; refine (utilities_any _).mono ?_; rintro e wm ⟨rfl, rfl⟩)
  go_wp2_with fail
  refine hK.out _ _ (by first | exact HC0.out _ (Below.refl _ _).drew | exact HC0.out _ (below_alloc (Below.refl _ _)).drew | exact HC0.out _ (below_alloc (below_alloc (Below.refl _ _))).drew) (fun hHeld => ?_)
  clear hK K
  try simp only [Act.put, sA, sB, sC]
  refine wpAnyH_ready (rs := [4, 8]) (by kernel_rfl) (by simp) ?_
  refine AllReadyH.cons (o := qMvH_5) rfl (fun K hK => ?_) ?_
  rotate_left
  refine AllReadyH.cons (o := qMvH_4) rfl (fun K hK => ?_) AllReadyH.nil
  ·skip
   go_simp
   go_wp2_with fail
   refine hK.out _ _ (by first | exact HC0.out _ (Below.refl _ _).drew | exact HC0.out _ (below_alloc (Below.refl _ _)).drew | exact HC0.out _ (below_alloc (below_alloc (Below.refl _ _))).drew) (fun hHeld => ?_)
   clear hK K
   try simp only [Act.put, sA, sB, sC]
   refine wpAnyH_ready (rs := [4]) (by kernel_rfl) (by simp) ?_
   refine AllReadyH.cons (o := qMvH_5) rfl (fun K hK => ?_) AllReadyH.nil
   have hlk := HLK.out ((w.alloc (.map (utab 3) 3)).alloc (.cells #[.string ⟨#[]⟩, .string ⟨#[]⟩, .nilFunc, .nilFunc] 63)).drew w.heap.size (by show ((w.alloc (.map (utab 3) 3)).alloc (.cells #[.string ⟨#[]⟩, .string ⟨#[]⟩, .nilFunc, .nilFunc] 63)).heap[w.heap.size]? = _; rw [Below.heap_alloc _ _ _ (by simp)]; exact heap_alloc_new w _)
   go_simp
   try rw [hlk]
   go_wp2_with fail
   clear hlk
   refine hK.out _ _ (by first | exact HC0.out _ (Below.refl _ _).drew | exact HC0.out _ (below_alloc (Below.refl _ _)).drew | exact HC0.out _ (below_alloc (below_alloc (Below.refl _ _))).drew) (fun hHeld => ?_)
   clear hK K
   try simp only [Act.put, sA, sB, sC]
   refine tk 5 qMvH_6 ?_
   try simp only [Act.put, sA, sB, sC]
   refine tk 6 qMvH_7 ?_
   try simp only [Act.put, sA, sB, sC]
   refine tk 7 qMvH_8 ?_
   try simp only [Act.put, sA, sB, sC]
   refine wpAnyH_ready (rs := [9]) (by kernel_rfl) (by simp) ?_
   refine AllReadyH.cons (o := qMvH_9) rfl (fun K hK => ?_) AllReadyH.nil
   go_simp
   go_wp2_with fail
   refine hK.out _ _ (by first | exact HC0.out _ (Below.refl _ _).drew | exact HC0.out _ (below_alloc (Below.refl _ _)).drew | exact HC0.out _ (below_alloc (below_alloc (Below.refl _ _))).drew) (fun hHeld => ?_)
   clear hK K
   try simp only [Act.put, sA, sB, sC]
   refine tk 10 qMvH_10 ?_
   try simp only [Act.put, sA, sB, sC]
   refine wpAnyH_done (by kernel_rfl) ?_ _
   clear hHeld
   have HV : Hid (((w.alloc (.map (utab 3) 3)).alloc (.cells #[.string x0, .string x1, .func (.func fj) #[] #[], .func (.func fi) #[] #[]] 63)).drew.heap[(w.heap.size + 1)]? = some (.cells #[.string x0, .string x1, .func (.func fj) #[] #[], .func (.func fi) #[] #[]] 63 (0, 0))) := Lib.hid (by show ((w.alloc (.map (utab 3) 3)).alloc (.cells #[.string x0, .string x1, .func (.func fj) #[] #[], .func (.func fi) #[] #[]] 63)).heap[w.heap.size + 1]? = _; simpa using heap_alloc_new (w.alloc (.map (utab 3) 3)) (.cells #[.string x0, .string x1, .func (.func fj) #[] #[], .func (.func fi) #[] #[]] 63))
   have HB : Hid (Below w.heap.size w ((w.alloc (.map (utab 3) 3)).alloc (.cells #[.string x0, .string x1, .func (.func fj) #[] #[], .func (.func fi) #[] #[]] 63)).drew) := Lib.hid ((below_alloc (below_alloc (Below.refl _ _))).drew)
   generalize ((w.alloc (.map (utab 3) 3)).alloc (.cells #[.string x0, .string x1, .func (.func fj) #[] #[], .func (.func fi) #[] #[]] 63)).drew = W1 at *
   go_wp2_with fail
   refine (misNone_any (HT.out.kept HB.out).x hG.well (by have := hG.girth; omega) hG.kind).mono ?_
   rintro e w5 ⟨rfl, hb5⟩
   have HB5 : Hid (Below w.heap.size w w5) := Lib.hid (HB.out.trans (hb5.mono HB.out.size))
   have HB5d : Hid (Below w.heap.size w w5.drew) := Lib.hid HB5.out.drew
   have HA : Hid (w5.drew.cell? ⟨(w.heap.size + 1), 0, none⟩ = some (.string x0) ∧ w5.drew.cell? ⟨(w.heap.size + 1), 1, none⟩ = some (.string x1) ∧ w5.drew.cell? ⟨(w.heap.size + 1), 2, none⟩ = some (.func (.func fj) #[] #[]) ∧ w5.drew.cell? ⟨(w.heap.size + 1), 3, none⟩ = some (.func (.func fi) #[] #[])) := Lib.hid ⟨cell_kept hb5.drew (by rw [cell_of_row _ _ 0 _ _ _ HV.out]; rfl), cell_kept hb5.drew (by rw [cell_of_row _ _ 1 _ _ _ HV.out]; rfl), cell_kept hb5.drew (by rw [cell_of_row _ _ 2 _ _ _ HV.out]; rfl), cell_kept hb5.drew (by rw [cell_of_row _ _ 3 _ _ _ HV.out]; rfl)⟩
   have HCW : Hid (w5.drew.cell? ⟨bb, oo, none⟩ = some (.string s)) := Lib.hid (cell_kept HB5d.out hc0)
   have HRUN := Lib.hid (HRN.out _ _ HB5d.out ((pl_tail HX.out).grown HB5d.out))
   clear hb5
   generalize hpa : (if c = 1 then some (⟨bb, oo, none⟩ : Addr) else some ⟨bb, oo + 1, none⟩) = pa at *
   go_upto_region 6 with fail
   refine wp_region_held_drew (S := (fun _ => True)) (by kernel_rfl) trivial (fun hHeld => ?_)
   refine tk 1 qMvH_11 ?_
   try simp only [Act.put, sA, sB, sC]
   refine tk 2 qMvH_12 ?_
   try simp only [Act.put, sA, sB, sC]
   refine tk 3 qMvH_13 ?_
   try simp only [Act.put, sA, sB, sC]
   refine tk 5 qMvH_14 ?_
   try simp only [Act.put, sA, sB, sC]
   refine tk 6 qMvH_15 ?_
   try simp only [Act.put, sA, sB, sC]
   refine wpAnyH_ready (rs := [0, 4]) (by kernel_rfl) (by simp) ?_
   refine AllReadyH.cons (o := qMvH_16) rfl (fun K hK => ?_) ?_
   rotate_left
   refine AllReadyH.cons (o := qMvH_17) rfl (fun K hK => ?_) AllReadyH.nil
   ·skip
    have cw := HCW.out
    go_simp
    go_wp2_with fail
    clear cw
    refine hK.out _ _ (by trivial) (fun hHeld => ?_)
    clear hK K
    try simp only [Act.put, sA, sB, sC]
    refine wpAnyH_ready (rs := [0]) (by kernel_rfl) (by simp) ?_
    refine AllReadyH.cons (o := qMvH_16) rfl (fun K hK => ?_) AllReadyH.nil
    obtain ⟨a0, a1, a2, a3⟩ := HA.out
    go_simp
    go_wp2_with fail
    clear a0 a1 a2 a3
    refine hK.out _ _ (by trivial) (fun hHeld => ?_)
    clear hK K
    try simp only [Act.put, sA, sB, sC]
    refine wpAnyH_ready (rs := [7]) (by kernel_rfl) (by simp) ?_
    refine AllReadyH.cons (o := qMvH_18) rfl (fun K hK => ?_) AllReadyH.nil
    go_simp
    (go_at_call 31; refine HRUN.out.mono ?_; rintro e w6 ⟨code, err, nn, rfl, hrd, ht6, hg6⟩)
    have HRD := Lib.hid hrd
    have HT6 := Lib.hid ht6
    have HG6 := Lib.hid hg6
    clear hrd ht6 hg6
    go_wp2_with fail
    refine hK.out _ _ (by trivial) (fun hHeld => ?_)
    clear hK K
    try simp only [Act.put, sA, sB, sC]
    refine tk 8 qMvH_19 ?_
    try simp only [Act.put, sA, sB, sC]
    refine tk 9 qMvH_20 ?_
    try simp only [Act.put, sA, sB, sC]
    refine tk 10 qMvH_21 ?_
    try simp only [Act.put, sA, sB, sC]
    refine tk 11 qMvH_22 ?_
    try simp only [Act.put, sA, sB, sC]
    refine tk 12 qMvH_23 ?_
    try simp only [Act.put, sA, sB, sC]
    refine wpAnyH_done (by kernel_rfl) ?_ _
    clear hHeld
    go_wp2_with fail
    go_returns
    exact HQR.out _ _ _ _ HRD.out HT6.out (grown_trans (grown_below HB5.out.drew) HG6.out)
   ·skip
    obtain ⟨a0, a1, a2, a3⟩ := HA.out
    go_simp
    go_wp2_with fail
    clear a0 a1 a2 a3
    refine hK.out _ _ (by trivial) (fun hHeld => ?_)
    clear hK K
    try simp only [Act.put, sA, sB, sC]
    refine wpAnyH_ready (rs := [4]) (by kernel_rfl) (by simp) ?_
    refine AllReadyH.cons (o := qMvH_17) rfl (fun K hK => ?_) AllReadyH.nil
    have cw := HCW.out
    go_simp
    go_wp2_with fail
    clear cw
    refine hK.out _ _ (by trivial) (fun hHeld => ?_)
    clear hK K
    try simp only [Act.put, sA, sB, sC]
    refine wpAnyH_ready (rs := [7]) (by kernel_rfl) (by simp) ?_
    refine AllReadyH.cons (o := qMvH_18) rfl (fun K hK => ?_) AllReadyH.nil
    go_simp
    (go_at_call 31; refine HRUN.out.mono ?_; rintro e w6 ⟨code, err, nn, rfl, hrd, ht6, hg6⟩)
    have HRD := Lib.hid hrd
    have HT6 := Lib.hid ht6
    have HG6 := Lib.hid hg6
    clear hrd ht6 hg6
    go_wp2_with fail
    refine hK.out _ _ (by trivial) (fun hHeld => ?_)
    clear hK K
    try simp only [Act.put, sA, sB, sC]
    refine tk 8 qMvH_19 ?_
    try simp only [Act.put, sA, sB, sC]
    refine tk 9 qMvH_20 ?_
    try simp only [Act.put, sA, sB, sC]
    refine tk 10 qMvH_21 ?_
    try simp only [Act.put, sA, sB, sC]
    refine tk 11 qMvH_22 ?_
    try simp only [Act.put, sA, sB, sC]
    refine tk 12 qMvH_23 ?_
    try simp only [Act.put, sA, sB, sC]
    refine wpAnyH_done (by kernel_rfl) ?_ _
    clear hHeld
    go_wp2_with fail
    go_returns
    exact HQR.out _ _ _ _ HRD.out HT6.out (grown_trans (grown_below HB5.out.drew) HG6.out)
  ·skip
   have hlk := HLK.out (w.alloc (.map (utab 3) 3)).drew w.heap.size (heap_alloc_new w _)
   go_simp
   try rw [hlk]
   go_wp2_with fail
   clear hlk
   refine hK.out _ _ (by first | exact HC0.out _ (Below.refl _ _).drew | exact HC0.out _ (below_alloc (Below.refl _ _)).drew | exact HC0.out _ (below_alloc (below_alloc (Below.refl _ _))).drew) (fun hHeld => ?_)
   clear hK K
   try simp only [Act.put, sA, sB, sC]
   refine tk 5 qMvH_6 ?_
   try simp only [Act.put, sA, sB, sC]
   refine tk 6 qMvH_7 ?_
   try simp only [Act.put, sA, sB, sC]
   refine tk 7 qMvH_8 ?_
   try simp only [Act.put, sA, sB, sC]
   refine wpAnyH_ready (rs := [8]) (by kernel_rfl) (by simp) ?_
   refine AllReadyH.cons (o := qMvH_4) rfl (fun K hK => ?_) AllReadyH.nil
   go_simp
   go_wp2_with fail
   refine hK.out _ _ (by first | exact HC0.out _ (Below.refl _ _).drew | exact HC0.out _ (below_alloc (Below.refl _ _)).drew | exact HC0.out _ (below_alloc (below_alloc (Below.refl _ _))).drew) (fun hHeld => ?_)
   clear hK K
   try simp only [Act.put, sA, sB, sC]
   refine wpAnyH_ready (rs := [9]) (by kernel_rfl) (by simp) ?_
   refine AllReadyH.cons (o := qMvH_9) rfl (fun K hK => ?_) AllReadyH.nil
   go_simp
   go_wp2_with fail
   refine hK.out _ _ (by first | exact HC0.out _ (Below.refl _ _).drew | exact HC0.out _ (below_alloc (Below.refl _ _)).drew | exact HC0.out _ (below_alloc (below_alloc (Below.refl _ _))).drew) (fun hHeld => ?_)
   clear hK K
   try simp only [Act.put, sA, sB, sC]
   refine tk 10 qMvH_10 ?_
   try simp only [Act.put, sA, sB, sC]
   refine wpAnyH_done (by kernel_rfl) ?_ _
   clear hHeld
   have HV : Hid (((w.alloc (.map (utab 3) 3)).alloc (.cells #[.string x0, .string x1, .func (.func fj) #[] #[], .func (.func fi) #[] #[]] 63)).drew.heap[(w.heap.size + 1)]? = some (.cells #[.string x0, .string x1, .func (.func fj) #[] #[], .func (.func fi) #[] #[]] 63 (0, 0))) := Lib.hid (by show ((w.alloc (.map (utab 3) 3)).alloc (.cells #[.string x0, .string x1, .func (.func fj) #[] #[], .func (.func fi) #[] #[]] 63)).heap[w.heap.size + 1]? = _; simpa using heap_alloc_new (w.alloc (.map (utab 3) 3)) (.cells #[.string x0, .string x1, .func (.func fj) #[] #[], .func (.func fi) #[] #[]] 63))
   have HB : Hid (Below w.heap.size w ((w.alloc (.map (utab 3) 3)).alloc (.cells #[.string x0, .string x1, .func (.func fj) #[] #[], .func (.func fi) #[] #[]] 63)).drew) := Lib.hid ((below_alloc (below_alloc (Below.refl _ _))).drew)
   generalize ((w.alloc (.map (utab 3) 3)).alloc (.cells #[.string x0, .string x1, .func (.func fj) #[] #[], .func (.func fi) #[] #[]] 63)).drew = W1 at *
   go_wp2_with fail
   refine (misNone_any (HT.out.kept HB.out).x hG.well (by have := hG.girth; omega) hG.kind).mono ?_
   rintro e w5 ⟨rfl, hb5⟩
   have HB5 : Hid (Below w.heap.size w w5) := Lib.hid (HB.out.trans (hb5.mono HB.out.size))
   have HB5d : Hid (Below w.heap.size w w5.drew) := Lib.hid HB5.out.drew
   have HA : Hid (w5.drew.cell? ⟨(w.heap.size + 1), 0, none⟩ = some (.string x0) ∧ w5.drew.cell? ⟨(w.heap.size + 1), 1, none⟩ = some (.string x1) ∧ w5.drew.cell? ⟨(w.heap.size + 1), 2, none⟩ = some (.func (.func fj) #[] #[]) ∧ w5.drew.cell? ⟨(w.heap.size + 1), 3, none⟩ = some (.func (.func fi) #[] #[])) := Lib.hid ⟨cell_kept hb5.drew (by rw [cell_of_row _ _ 0 _ _ _ HV.out]; rfl), cell_kept hb5.drew (by rw [cell_of_row _ _ 1 _ _ _ HV.out]; rfl), cell_kept hb5.drew (by rw [cell_of_row _ _ 2 _ _ _ HV.out]; rfl), cell_kept hb5.drew (by rw [cell_of_row _ _ 3 _ _ _ HV.out]; rfl)⟩
   have HCW : Hid (w5.drew.cell? ⟨bb, oo, none⟩ = some (.string s)) := Lib.hid (cell_kept HB5d.out hc0)
   have HRUN := Lib.hid (HRN.out _ _ HB5d.out ((pl_tail HX.out).grown HB5d.out))
   clear hb5
   generalize hpa : (if c = 1 then some (⟨bb, oo, none⟩ : Addr) else some ⟨bb, oo + 1, none⟩) = pa at *
   go_upto_region 6 with fail
   refine wp_region_held_drew (S := (fun _ => True)) (by kernel_rfl) trivial (fun hHeld => ?_)
   refine tk 1 qMvH_11 ?_
   try simp only [Act.put, sA, sB, sC]
   refine tk 2 qMvH_12 ?_
   try simp only [Act.put, sA, sB, sC]
   refine tk 3 qMvH_13 ?_
   try simp only [Act.put, sA, sB, sC]
   refine tk 5 qMvH_14 ?_
   try simp only [Act.put, sA, sB, sC]
   refine tk 6 qMvH_15 ?_
   try simp only [Act.put, sA, sB, sC]
   refine wpAnyH_ready (rs := [0, 4]) (by kernel_rfl) (by simp) ?_
   refine AllReadyH.cons (o := qMvH_16) rfl (fun K hK => ?_) ?_
   rotate_left
   refine AllReadyH.cons (o := qMvH_17) rfl (fun K hK => ?_) AllReadyH.nil
   ·skip
    have cw := HCW.out
    go_simp
    go_wp2_with fail
    clear cw
    refine hK.out _ _ (by trivial) (fun hHeld => ?_)
    clear hK K
    try simp only [Act.put, sA, sB, sC]
    refine wpAnyH_ready (rs := [0]) (by kernel_rfl) (by simp) ?_
    refine AllReadyH.cons (o := qMvH_16) rfl (fun K hK => ?_) AllReadyH.nil
    obtain ⟨a0, a1, a2, a3⟩ := HA.out
    go_simp
    go_wp2_with fail
    clear a0 a1 a2 a3
    refine hK.out _ _ (by trivial) (fun hHeld => ?_)
    clear hK K
    try simp only [Act.put, sA, sB, sC]
    refine wpAnyH_ready (rs := [7]) (by kernel_rfl) (by simp) ?_
    refine AllReadyH.cons (o := qMvH_18) rfl (fun K hK => ?_) AllReadyH.nil
    go_simp
    (go_at_call 31; refine HRUN.out.mono ?_; rintro e w6 ⟨code, err, nn, rfl, hrd, ht6, hg6⟩)
    have HRD := Lib.hid hrd
    have HT6 := Lib.hid ht6
    have HG6 := Lib.hid hg6
    clear hrd ht6 hg6
    go_wp2_with fail
    refine hK.out _ _ (by trivial) (fun hHeld => ?_)
    clear hK K
    try simp only [Act.put, sA, sB, sC]
    refine tk 8 qMvH_19 ?_
    try simp only [Act.put, sA, sB, sC]
    refine tk 9 qMvH_20 ?_
    try simp only [Act.put, sA, sB, sC]
    refine tk 10 qMvH_21 ?_
    try simp only [Act.put, sA, sB, sC]
    refine tk 11 qMvH_22 ?_
    try simp only [Act.put, sA, sB, sC]
    refine tk 12 qMvH_23 ?_
    try simp only [Act.put, sA, sB, sC]
    refine wpAnyH_done (by kernel_rfl) ?_ _
    clear hHeld
    go_wp2_with fail
    go_returns
    exact HQR.out _ _ _ _ HRD.out HT6.out (grown_trans (grown_below HB5.out.drew) HG6.out)
   ·skip
    obtain ⟨a0, a1, a2, a3⟩ := HA.out
    go_simp
    go_wp2_with fail
    clear a0 a1 a2 a3
    refine hK.out _ _ (by trivial) (fun hHeld => ?_)
    clear hK K
    try simp only [Act.put, sA, sB, sC]
    refine wpAnyH_ready (rs := [4]) (by kernel_rfl) (by simp) ?_
    refine AllReadyH.cons (o := qMvH_17) rfl (fun K hK => ?_) AllReadyH.nil
    have cw := HCW.out
    go_simp
    go_wp2_with fail
    clear cw
    refine hK.out _ _ (by trivial) (fun hHeld => ?_)
    clear hK K
    try simp only [Act.put, sA, sB, sC]
    refine wpAnyH_ready (rs := [7]) (by kernel_rfl) (by simp) ?_
    refine AllReadyH.cons (o := qMvH_18) rfl (fun K hK => ?_) AllReadyH.nil
    go_simp
    (go_at_call 31; refine HRUN.out.mono ?_; rintro e w6 ⟨code, err, nn, rfl, hrd, ht6, hg6⟩)
    have HRD := Lib.hid hrd
    have HT6 := Lib.hid ht6
    have HG6 := Lib.hid hg6
    clear hrd ht6 hg6
    go_wp2_with fail
    refine hK.out _ _ (by trivial) (fun hHeld => ?_)
    clear hK K
    try simp only [Act.put, sA, sB, sC]
    refine tk 8 qMvH_19 ?_
    try simp only [Act.put, sA, sB, sC]
    refine tk 9 qMvH_20 ?_
    try simp only [Act.put, sA, sB, sC]
    refine tk 10 qMvH_21 ?_
    try simp only [Act.put, sA, sB, sC]
    refine tk 11 qMvH_22 ?_
    try simp only [Act.put, sA, sB, sC]
    refine tk 12 qMvH_23 ?_
    try simp only [Act.put, sA, sB, sC]
    refine wpAnyH_done (by kernel_rfl) ?_ _
    clear hHeld
    go_wp2_with fail
    go_returns
    exact HQR.out _ _ _ _ HRD.out HT6.out (grown_trans (grown_below HB5.out.drew) HG6.out)
end Go.Proofs.YtfilbknnpjbmcaaGreatDoor
