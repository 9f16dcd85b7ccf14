/- Walks of package dirs: Run. -/
import Derived.Test.YtmofodaecakkfaaGreatKb02
import Derived.Test.YtmofodaecakkfaaGreatKb47
import Derived.Deep.RegionHeld3
namespace Go.Proofs.YtmofodaecakkfaaGreat
open Go.RowKit Px Nx Wk Dn Ox
abbrev qDnK_0 : Oper := { dst := some 15, op := Op.move (Operand.tmp 1), type := 22, pos := "dirs.go:14", after := #[], guard := none }
abbrev qDnK_1 : Oper := { dst := some 16, op := Op.indexAddr 22 (Operand.tmp 15) (Operand.const (Value.int IntKind.i64 0)), type := 0, pos := "dirs.go:14", after := #[{ on := 1, ground := Ground.data }], guard := none }
abbrev qDnK_2 : Oper := { dst := some 14, op := Op.call { callee := Callee.value (Operand.func 21), args := #[], argTypes := #[] }, type := 54, pos := "dirs.go:14", after := #[], guard := none }
abbrev qDnK_3 : Oper := { dst := some 17, op := Op.load 9 (Operand.tmp 16), type := 9, pos := "dirs.go:14", after := #[{ on := 2, ground := Ground.data }], guard := none }
abbrev qDnK_4 : Oper := { dst := some 8, op := Op.alloc 52, type := 0, pos := "dirs.go:14", after := #[], guard := none }
abbrev qDnK_5 : Oper := { dst := some 18, op := Op.lookup 54 (Operand.tmp 14) (Operand.tmp 17) true, type := 53, pos := "dirs.go:14", after := #[{ on := 0, ground := Ground.data }, { on := 3, ground := Ground.data }], guard := none }
abbrev qDnK_6 : Oper := { dst := some 13, op := Op.move (Operand.tmp 18), type := 53, pos := "dirs.go:14", after := #[{ on := 4, ground := Ground.data }], guard := none }
abbrev qDnK_7 : Oper := { dst := some 19, op := Op.extract (Operand.tmp 13) 0, type := 52, pos := "dirs.go:14", after := #[{ on := 5, ground := Ground.data }], guard := none }
abbrev qDnK_8 : Oper := { dst := some 20, op := Op.extract (Operand.tmp 13) 1, type := 4, pos := "dirs.go:14", after := #[{ on := 5, ground := Ground.data }, { on := 9, ground := Ground.gcOnly Departure.lateStores }], guard := none }
abbrev qDnK_9 : Oper := { dst := none, op := Op.store 52 (Operand.tmp 8) (Operand.tmp 19), type := 0, pos := "dirs.go:14", after := #[{ on := 8, ground := Ground.data }, { on := 6, ground := Ground.data }, { on := 0, ground := Ground.chain }, { on := 0, ground := Ground.phase }, { on := 1, ground := Ground.phase }, { on := 2, ground := Ground.phase }, { on := 3, ground := Ground.phase }, { on := 4, ground := Ground.phase }, { on := 5, ground := Ground.phase }, { on := 6, ground := Ground.phase }, { on := 7, ground := Ground.textOnly Departure.lateStores }, { on := 8, ground := Ground.phase }], guard := none }
abbrev qDnK_10 : Oper := { dst := some 9, op := Op.assign (Operand.tmp 20), type := 4, pos := "dirs.go:14", after := #[{ on := 7, ground := Ground.data }, { on := 9, ground := Ground.chain }, { on := 0, ground := Ground.phase }, { on := 1, ground := Ground.phase }, { on := 2, ground := Ground.phase }, { on := 3, ground := Ground.phase }, { on := 4, ground := Ground.phase }, { on := 5, ground := Ground.phase }, { on := 6, ground := Ground.phase }, { on := 7, ground := Ground.phase }, { on := 8, ground := Ground.phase }, { on := 9, ground := Ground.phase }], guard := none }
abbrev qDnK_11 : Oper := { dst := some 29, op := Op.move (Operand.tmp 0), type := 49, pos := "dirs.go:18", after := #[], guard := none }
abbrev qDnK_12 : Oper := { dst := some 30, op := Op.move (Operand.tmp 1), type := 22, pos := "dirs.go:18", after := #[], guard := none }
abbrev qDnK_13 : Oper := { dst := some 31, op := Op.indexAddr 22 (Operand.tmp 30) (Operand.const (Value.int IntKind.i64 0)), type := 0, pos := "dirs.go:18", after := #[{ on := 2, ground := Ground.data }], guard := none }
abbrev qDnK_14 : Oper := { dst := some 33, op := Op.move (Operand.tmp 1), type := 22, pos := "dirs.go:18", after := #[], guard := none }
abbrev qDnK_15 : Oper := { dst := some 34, op := Op.slice 22 (Operand.tmp 33) (some (Operand.const (Value.int IntKind.i64 1))) none none, type := 22, pos := "dirs.go:18", after := #[{ on := 5, ground := Ground.data }], guard := none }
abbrev qDnK_16 : Oper := { dst := some 28, op := Op.load 52 (Operand.tmp 8), type := 52, pos := "dirs.go:18", after := #[], guard := none }
abbrev qDnK_17 : Oper := { dst := some 32, op := Op.load 9 (Operand.tmp 31), type := 9, pos := "dirs.go:18", after := #[{ on := 3, ground := Ground.data }], guard := none }
abbrev qDnK_18 : Oper := { dst := some 35, op := Op.call { callee := Callee.value (Operand.func 23), args := #[Operand.tmp 28, Operand.tmp 29, Operand.tmp 32, Operand.tmp 34], argTypes := #[52, 49, 9, 22] }, type := 57, pos := "dirs.go:18", after := #[{ on := 0, ground := Ground.data }, { on := 1, ground := Ground.data }, { on := 4, ground := Ground.data }, { on := 6, ground := Ground.data }], guard := none }
abbrev qDnK_19 : Oper := { dst := some 27, op := Op.move (Operand.tmp 35), type := 57, pos := "dirs.go:18", after := #[{ on := 7, ground := Ground.data }], guard := none }
abbrev qDnK_20 : Oper := { dst := some 36, op := Op.extract (Operand.tmp 27) 0, type := 3, pos := "dirs.go:18", after := #[{ on := 8, ground := Ground.data }], guard := none }
abbrev qDnK_21 : Oper := { dst := some 37, op := Op.extract (Operand.tmp 27) 1, type := 9, pos := "dirs.go:18", after := #[{ on := 8, ground := Ground.data }, { on := 11, ground := Ground.gcOnly Departure.lateStores }], guard := none }
abbrev qDnK_22 : Oper := { dst := some 4, op := Op.assign (Operand.tmp 36), type := 3, pos := "dirs.go:18", after := #[{ on := 9, ground := Ground.data }, { on := 7, ground := Ground.chain }, { on := 0, ground := Ground.phase }, { on := 1, ground := Ground.phase }, { on := 2, ground := Ground.phase }, { on := 3, ground := Ground.phase }, { on := 4, ground := Ground.phase }, { on := 5, ground := Ground.phase }, { on := 6, ground := Ground.phase }, { on := 7, ground := Ground.phase }, { on := 8, ground := Ground.phase }, { on := 9, ground := Ground.phase }, { on := 10, ground := Ground.textOnly Departure.lateStores }], guard := none }
abbrev qDnK_23 : Oper := { dst := some 6, op := Op.assign (Operand.tmp 37), type := 9, pos := "dirs.go:18", after := #[{ on := 10, ground := Ground.data }, { on := 11, ground := Ground.chain }, { on := 0, ground := Ground.phase }, { on := 1, ground := Ground.phase }, { on := 2, ground := Ground.phase }, { on := 3, ground := Ground.phase }, { on := 4, ground := Ground.phase }, { on := 5, ground := Ground.phase }, { on := 6, ground := Ground.phase }, { on := 7, ground := Ground.phase }, { on := 8, ground := Ground.phase }, { on := 9, ground := Ground.phase }, { on := 10, ground := Ground.phase }, { on := 11, ground := Ground.phase }], guard := none }

namespace Dn
def nMkdir : ByteArray := ⟨#[109, 107, 100, 105, 114]⟩
def nRmdir : ByteArray := ⟨#[114, 109, 100, 105, 114]⟩
def nTouch : ByteArray := ⟨#[116, 111, 117, 99, 104]⟩
def nRm : ByteArray := ⟨#[114, 109]⟩
/-- No utility has this name. -/
def NoUtil (xs : List ByteArray) : Prop := ∀ name rest, xs = name :: rest → name ≠ nMkdir ∧ name ≠ nRmdir ∧ name ≠ nTouch ∧ name ≠ nRm
theorem no_of {s : ByteArray} {rest : List ByteArray} (hno : ∀ p ∈ utils, s ≠ p.1) : NoUtil (s :: rest) := fun name r e => by
  cases e
  simp only [utils, List.forall_mem_cons] at hno
  exact ⟨hno.1, hno.2.1, hno.2.2.1, hno.2.2.2.1⟩
/-- What a run comes to: is there such a utility, and what it does. -/
def AnsD (n : Nd) (xs : List ByteArray) (code : Int) (err : ByteArray) (is : Bool) (n' : Nd) : Prop :=
  (is = false ∧ code = 0 ∧ err = ⟨#[]⟩ ∧ n' = n ∧ NoUtil xs) ∨
  (is = true ∧ ∃ name rest, xs = name :: rest ∧ ((name = nMkdir ∧ RunD [112] 0 (fun S => mkR (hasB S 112)) n name rest code err n') ∨ (name = nRmdir ∧ RunD [] 0 (fun _ => rmdirR) n name rest code err n') ∨ (name = nTouch ∧ RunD [] 0 (fun _ => touchR) n name rest code err n') ∨ (name = nRm ∧ RunD [102, 114] 102 (fun S => rmR (hasB S 102) (hasB S 114)) n name rest code err n')))
def AnsQ (n : Nd) (xs : List ByteArray) (w : World) (b : Nat) (e : Ending) (w' : World) : Prop :=
  ∃ code err is n', e = .returned (.tuple #[.int .i64 code, .string ⟨#[]⟩, .string err, .bool is]) ∧ AnsD n xs code err is n' ∧ (∃ x0 x1 x2 x3, TreeX w' b n' x0 x1 x2 x3) ∧ w.grownBy w' (some b)
theorem no_util {s : ByteArray} : s = nMkdir ∨ s = nRmdir ∨ s = nTouch ∨ s = nRm ∨ ∀ p ∈ utils, s ≠ p.1 := by
  by_cases h1 : s = nMkdir
  · exact .inl h1
  · by_cases h2 : s = nRmdir
    · exact .inr (.inl h2)
    · by_cases h3 : s = nTouch
      · exact .inr (.inr (.inl h3))
      · by_cases h4 : s = nRm
        · exact .inr (.inr (.inr (.inl h4)))
        · refine .inr (.inr (.inr (.inr fun p hp => ?_)))
          simp only [utils, List.mem_cons, List.not_mem_nil, or_false] at hp
          rcases hp with rfl | rfl | rfl | rfl
          · exact h1
          · exact h2
          · exact h3
          · exact h4
end Dn
/-- A list without its first text. -/
theorem pl_tail {w : World} {bb oo c : Nat} {s : ByteArray} {rest : List ByteArray} (h : PlR w (.slice (some ⟨bb, oo, none⟩) (rest.length + 1) c) (s :: rest)) : PlR w (.slice (if c = 1 then some ⟨bb, oo, none⟩ else some ⟨bb, oo + 1, none⟩) rest.length (c - 1)) rest := by
  obtain ⟨p, cc, he, hs, hl, hm⟩ := h
  obtain ⟨rfl, _, rfl⟩ : some ⟨bb, oo, none⟩ = p ∧ rest.length + 1 = (s :: rest).length ∧ c = cc := by simpa using he
  rw [List.length_cons] at hl
  refine ⟨_, _, rfl, fun i hi => ?_, by omega, by omega⟩
  obtain ⟨b', o', e1, e2⟩ := hs (i + 1) (by rw [List.length_cons]; omega)
  cases e1
  rw [if_neg (by omega)]
  exact ⟨bb, oo + 1, rfl, by rw [show oo + 1 + i = oo + (i + 1) by omega, e2]; rfl⟩

set_option maxRecDepth 100000 in
set_option maxHeartbeats 16000000 in
theorem Run_none {w : World} {b N : Nat} {n : Nd} {v0 v1 v2 v3 : Value} (h : TreeX w b n v0 v1 v2 v3) (hG : TreeN N n) (hN : N ≤ 200) (s : ByteArray) {rest : List ByteArray} (hno : ∀ p ∈ utils, s ≠ p.1) {bb oo c : Nat} (hx : PlR w (.slice (some ⟨bb, oo, none⟩) (rest.length + 1) c) (s :: rest)) (hxl : rest.length ≤ 39) :
    Calls Tryz.prog 8 #[.iface 29 (.pointer (some ⟨b, 0, none⟩)), .slice (some ⟨bb, oo, none⟩) (rest.length + 1 : Nat) c] w fun e w' => AnsQ n (s :: rest) w b e w' := by
  obtain ⟨Q, hQ⟩ : ∃ Q : Ending → World → Prop, Q = fun e w' => AnsQ n (s :: rest) w b e w' := ⟨_, rfl⟩
  have HQN : Hid (∀ w', (∃ x0 x1 x2 x3, TreeX w' b n x0 x1 x2 x3) → w.grownBy w' (some b) → Q (.returned (.tuple #[.int .i64 0, .string ⟨#[]⟩, .string ⟨#[]⟩, .bool false])) w') := Lib.hid fun w' h2 h3 => hQ ▸ ⟨_, _, _, _, rfl, .inl ⟨rfl, rfl, rfl, rfl, no_of hno⟩, h2, h3⟩
  have HLK : Hid (∀ wx r, wx.heap[r]? = some (.map (utab 4) 4) → (Instr.lookup 54 (.map (some r)) (.string s) true).run Tryz.prog wx = .ok (.tuple #[.agg #[.string ⟨#[]⟩, .int .u8 0, .nilFunc], .bool false]) wx) := Lib.hid fun wx r hr => by
    rcases lookup_u wx r 4 s hr with ⟨q, _⟩ | ⟨p, hp, e, _⟩
    · exact q
    · exact absurd e (hno p hp)
  rw [← hQ]
  have HT := Lib.hid h
  have HX := Lib.hid hx
  have hc0 : w.cell? ⟨bb, oo, none⟩ = some (.string s) := by
    obtain ⟨p, cc, he, hs, _, _⟩ := hx
    obtain ⟨rfl, _, _⟩ : some ⟨bb, oo, none⟩ = p ∧ rest.length + 1 = (s :: rest).length ∧ c = cc := by simpa using he
    obtain ⟨b', o', e1, e2⟩ := hs 0 (by simp)
    cases e1
    exact e2
  have HC0 : Hid (∀ wx, Below w.heap.size w wx → wx.cell? ⟨bb, oo, none⟩ = some (.string s)) := Lib.hid fun wx hb => cell_kept hb hc0
  obtain ⟨_, _, he, _, hlc, hcm⟩ := hx
  have hlc2 : rest.length + 1 ≤ c := by
    have : (s :: rest : List ByteArray).length = rest.length + 1 := rfl
    simp only [Value.slice.injEq] at he
    omega
  have hcm2 : c ≤ maxLen := by
    simp only [Value.slice.injEq] at he
    omega
  have hcm3 : c ≤ 9223372036854775807 := by unfold maxLen at hcm2; omega
  clear he hlc hcm hcm2 hQ h
  have hr0 : (((rest.length + 1 : Nat) : Int) == 0) = false := beq_eq_false_iff_ne.2 (by omega)
  have hr3 : (1 : Int) ≤ (rest.length : Int) + 1 := by omega
  have hr1 : (0 : Int) ≤ 0 ∧ (0 : Int) < ((rest.length + 1 : Nat) : Int) := ⟨by omega, by omega⟩
  go_enter Tryz.func8, Tryz.ntmps8
  go_upto_region 3 with fail
  refine wp_region_held_drew (S := (fun _ => True)) (by kernel_rfl) trivial (fun hHeld => ?_)
  refine tk 1 qDnK_0 ?_
  try simp only [Act.put, List.setIfInBounds_toArray, List.set_cons_zero, List.set_cons_succ]
  refine tk 2 qDnK_1 ?_
  try simp only [Act.put, List.setIfInBounds_toArray, List.set_cons_zero, List.set_cons_succ]
  refine wpAnyH_ready (rs := [0, 3, 8]) (by kernel_rfl) (by simp) ?_
  refine AllReadyH.cons (o := qDnK_2) rfl (fun K hK => ?_) ?_
  rotate_left
  refine AllReadyH.cons (o := qDnK_3) rfl (fun K hK => ?_) ?_
  rotate_left
  refine AllReadyH.cons (o := qDnK_4) rfl (fun K hK => ?_) AllReadyH.nil
  · skip
    go_simp
    go_wp2_with fail
    refine hK.out _ _ (by trivial) (fun hHeld => ?_)
    clear hK K
    try simp only [Act.put, List.setIfInBounds_toArray, List.set_cons_zero, List.set_cons_succ]
    refine wpAnyH_ready (rs := [0, 3]) (by kernel_rfl) (by simp) ?_
    refine AllReadyH.cons (o := qDnK_2) rfl (fun K hK => ?_) ?_
    rotate_left
    refine AllReadyH.cons (o := qDnK_3) rfl (fun K hK => ?_) AllReadyH.nil
    · skip
      have cw := HC0.out (w.alloc (.cells #[.string ⟨#[]⟩, .int .u8 0, .nilFunc] 52)).drew ((below_alloc (Below.refl _ _)).drew)
      go_simp
      go_wp2_with fail
      clear cw
      refine hK.out _ _ (by trivial) (fun hHeld => ?_)
      clear hK K
      try simp only [Act.put, List.setIfInBounds_toArray, List.set_cons_zero, List.set_cons_succ]
      refine wpAnyH_ready (rs := [0]) (by kernel_rfl) (by simp) ?_
      refine AllReadyH.cons (o := qDnK_2) rfl (fun K hK => ?_) AllReadyH.nil
      go_simp
      (go_at_call 21; refine (utilities_any _).mono ?_; rintro e wm ⟨rfl, rfl⟩)
      go_wp2_with fail
      refine hK.out _ _ (by trivial) (fun hHeld => ?_)
      clear hK K
      try simp only [Act.put, List.setIfInBounds_toArray, List.set_cons_zero, List.set_cons_succ]
      refine wpAnyH_ready (rs := [4]) (by kernel_rfl) (by simp) ?_
      refine AllReadyH.cons (o := qDnK_5) rfl (fun K hK => ?_) AllReadyH.nil
      have hlk := HLK.out ((w.alloc (.cells #[.string ⟨#[]⟩, .int .u8 0, .nilFunc] 52)).alloc (.map (utab 4) 4)).drew (w.heap.size + 1) (by show ((w.alloc (.cells #[.string ⟨#[]⟩, .int .u8 0, .nilFunc] 52)).alloc (.map (utab 4) 4)).heap[w.heap.size + 1]? = _; simpa using heap_alloc_new (w.alloc (.cells #[.string ⟨#[]⟩, .int .u8 0, .nilFunc] 52)) (.map (utab 4) 4))
      go_simp
      try rw [hlk]
      go_wp2_with fail
      clear hlk
      refine hK.out _ _ (by trivial) (fun hHeld => ?_)
      clear hK K
      try simp only [Act.put, List.setIfInBounds_toArray, List.set_cons_zero, List.set_cons_succ]
      refine tk 5 qDnK_6 ?_
      try simp only [Act.put, List.setIfInBounds_toArray, List.set_cons_zero, List.set_cons_succ]
      refine tk 6 qDnK_7 ?_
      try simp only [Act.put, List.setIfInBounds_toArray, List.set_cons_zero, List.set_cons_succ]
      refine tk 7 qDnK_8 ?_
      try simp only [Act.put, List.setIfInBounds_toArray, List.set_cons_zero, List.set_cons_succ]
      refine wpAnyH_ready (rs := [9]) (by kernel_rfl) (by simp) ?_
      refine AllReadyH.cons (o := qDnK_9) rfl (fun K hK => ?_) AllReadyH.nil
      have hz : ((w.alloc (.cells #[.string ⟨#[]⟩, .int .u8 0, .nilFunc] 52)).alloc (.map (utab 4) 4)).drew.heap[w.heap.size]? = some (.cells #[.string ⟨#[]⟩, .int .u8 0, .nilFunc] 52 (0, 0)) := by show ((w.alloc (.cells #[.string ⟨#[]⟩, .int .u8 0, .nilFunc] 52)).alloc (.map (utab 4) 4)).heap[w.heap.size]? = _; rw [Below.heap_alloc _ _ _ (by simp)]; exact heap_alloc_new w _
      have z0 := frozen_of_row _ w.heap.size 0 _ _ hz
      have z1 := frozen_of_row _ w.heap.size 1 _ _ hz
      have z2 := frozen_of_row _ w.heap.size 2 _ _ hz
      have y0 := cell_of_row _ w.heap.size 0 _ _ _ hz
      have y1 := cell_of_row _ w.heap.size 1 _ _ _ hz
      have y2 := cell_of_row _ w.heap.size 2 _ _ _ hz
      go_simp
      go_wp2_with fail
      clear z0 z1 z2 y0 y1 y2
      refine hK.out _ _ (by trivial) (fun hHeld => ?_)
      clear hK K
      try simp only [Act.put, List.setIfInBounds_toArray, List.set_cons_zero, List.set_cons_succ]
      refine tk 10 qDnK_10 ?_
      try simp only [Act.put, List.setIfInBounds_toArray, List.set_cons_zero, List.set_cons_succ]
      refine wpAnyH_done (by kernel_rfl) ?_ _
      clear hHeld
      have HV : Hid (((w.alloc (.cells #[.string ⟨#[]⟩, .int .u8 0, .nilFunc] 52)).alloc (.map (utab 4) 4)).drew.heap[w.heap.size]? = some (.cells #[.string ⟨#[]⟩, .int .u8 0, .nilFunc] 52 (0, 0))) := Lib.hid (by show ((w.alloc (.cells #[.string ⟨#[]⟩, .int .u8 0, .nilFunc] 52)).alloc (.map (utab 4) 4)).heap[w.heap.size]? = _; rw [Below.heap_alloc _ _ _ (by simp)]; exact heap_alloc_new w _)
      have HB : Hid (Below w.heap.size w ((w.alloc (.cells #[.string ⟨#[]⟩, .int .u8 0, .nilFunc] 52)).alloc (.map (utab 4) 4)).drew) := Lib.hid ((below_alloc (below_alloc (Below.refl _ _))).drew)
      generalize ((w.alloc (.cells #[.string ⟨#[]⟩, .int .u8 0, .nilFunc] 52)).alloc (.map (utab 4) 4)).drew = W1 at *
      try clear hz
      go_wp2_with fail
      go_returns
      exact HQN.out _ ⟨_, _, _, _, HT.out.kept HB.out⟩ (grown_below HB.out)
    · skip
      go_simp
      (go_at_call 21; refine (utilities_any _).mono ?_; rintro e wm ⟨rfl, rfl⟩)
      go_wp2_with fail
      refine hK.out _ _ (by trivial) (fun hHeld => ?_)
      clear hK K
      try simp only [Act.put, List.setIfInBounds_toArray, List.set_cons_zero, List.set_cons_succ]
      refine wpAnyH_ready (rs := [3]) (by kernel_rfl) (by simp) ?_
      refine AllReadyH.cons (o := qDnK_3) rfl (fun K hK => ?_) AllReadyH.nil
      have cw := HC0.out ((w.alloc (.cells #[.string ⟨#[]⟩, .int .u8 0, .nilFunc] 52)).alloc (.map (utab 4) 4)).drew ((below_alloc (below_alloc (Below.refl _ _))).drew)
      go_simp
      go_wp2_with fail
      clear cw
      refine hK.out _ _ (by trivial) (fun hHeld => ?_)
      clear hK K
      try simp only [Act.put, List.setIfInBounds_toArray, List.set_cons_zero, List.set_cons_succ]
      refine wpAnyH_ready (rs := [4]) (by kernel_rfl) (by simp) ?_
      refine AllReadyH.cons (o := qDnK_5) rfl (fun K hK => ?_) AllReadyH.nil
      have hlk := HLK.out ((w.alloc (.cells #[.string ⟨#[]⟩, .int .u8 0, .nilFunc] 52)).alloc (.map (utab 4) 4)).drew (w.heap.size + 1) (by show ((w.alloc (.cells #[.string ⟨#[]⟩, .int .u8 0, .nilFunc] 52)).alloc (.map (utab 4) 4)).heap[w.heap.size + 1]? = _; simpa using heap_alloc_new (w.alloc (.cells #[.string ⟨#[]⟩, .int .u8 0, .nilFunc] 52)) (.map (utab 4) 4))
      go_simp
      try rw [hlk]
      go_wp2_with fail
      clear hlk
      refine hK.out _ _ (by trivial) (fun hHeld => ?_)
      clear hK K
      try simp only [Act.put, List.setIfInBounds_toArray, List.set_cons_zero, List.set_cons_succ]
      refine tk 5 qDnK_6 ?_
      try simp only [Act.put, List.setIfInBounds_toArray, List.set_cons_zero, List.set_cons_succ]
      refine tk 6 qDnK_7 ?_
      try simp only [Act.put, List.setIfInBounds_toArray, List.set_cons_zero, List.set_cons_succ]
      refine tk 7 qDnK_8 ?_
      try simp only [Act.put, List.setIfInBounds_toArray, List.set_cons_zero, List.set_cons_succ]
      refine wpAnyH_ready (rs := [9]) (by kernel_rfl) (by simp) ?_
      refine AllReadyH.cons (o := qDnK_9) rfl (fun K hK => ?_) AllReadyH.nil
      have hz : ((w.alloc (.cells #[.string ⟨#[]⟩, .int .u8 0, .nilFunc] 52)).alloc (.map (utab 4) 4)).drew.heap[w.heap.size]? = some (.cells #[.string ⟨#[]⟩, .int .u8 0, .nilFunc] 52 (0, 0)) := by show ((w.alloc (.cells #[.string ⟨#[]⟩, .int .u8 0, .nilFunc] 52)).alloc (.map (utab 4) 4)).heap[w.heap.size]? = _; rw [Below.heap_alloc _ _ _ (by simp)]; exact heap_alloc_new w _
      have z0 := frozen_of_row _ w.heap.size 0 _ _ hz
      have z1 := frozen_of_row _ w.heap.size 1 _ _ hz
      have z2 := frozen_of_row _ w.heap.size 2 _ _ hz
      have y0 := cell_of_row _ w.heap.size 0 _ _ _ hz
      have y1 := cell_of_row _ w.heap.size 1 _ _ _ hz
      have y2 := cell_of_row _ w.heap.size 2 _ _ _ hz
      go_simp
      go_wp2_with fail
      clear z0 z1 z2 y0 y1 y2
      refine hK.out _ _ (by trivial) (fun hHeld => ?_)
      clear hK K
      try simp only [Act.put, List.setIfInBounds_toArray, List.set_cons_zero, List.set_cons_succ]
      refine tk 10 qDnK_10 ?_
      try simp only [Act.put, List.setIfInBounds_toArray, List.set_cons_zero, List.set_cons_succ]
      refine wpAnyH_done (by kernel_rfl) ?_ _
      clear hHeld
      have HV : Hid (((w.alloc (.cells #[.string ⟨#[]⟩, .int .u8 0, .nilFunc] 52)).alloc (.map (utab 4) 4)).drew.heap[w.heap.size]? = some (.cells #[.string ⟨#[]⟩, .int .u8 0, .nilFunc] 52 (0, 0))) := Lib.hid (by show ((w.alloc (.cells #[.string ⟨#[]⟩, .int .u8 0, .nilFunc] 52)).alloc (.map (utab 4) 4)).heap[w.heap.size]? = _; rw [Below.heap_alloc _ _ _ (by simp)]; exact heap_alloc_new w _)
      have HB : Hid (Below w.heap.size w ((w.alloc (.cells #[.string ⟨#[]⟩, .int .u8 0, .nilFunc] 52)).alloc (.map (utab 4) 4)).drew) := Lib.hid ((below_alloc (below_alloc (Below.refl _ _))).drew)
      generalize ((w.alloc (.cells #[.string ⟨#[]⟩, .int .u8 0, .nilFunc] 52)).alloc (.map (utab 4) 4)).drew = W1 at *
      try clear hz
      go_wp2_with fail
      go_returns
      exact HQN.out _ ⟨_, _, _, _, HT.out.kept HB.out⟩ (grown_below HB.out)
  · skip
    go_simp
    (go_at_call 21; refine (utilities_any _).mono ?_; rintro e wm ⟨rfl, rfl⟩)
    go_wp2_with fail
    refine hK.out _ _ (by trivial) (fun hHeld => ?_)
    clear hK K
    try simp only [Act.put, List.setIfInBounds_toArray, List.set_cons_zero, List.set_cons_succ]
    refine wpAnyH_ready (rs := [3, 8]) (by kernel_rfl) (by simp) ?_
    refine AllReadyH.cons (o := qDnK_3) rfl (fun K hK => ?_) ?_
    rotate_left
    refine AllReadyH.cons (o := qDnK_4) rfl (fun K hK => ?_) AllReadyH.nil
    · skip
      go_simp
      go_wp2_with fail
      refine hK.out _ _ (by trivial) (fun hHeld => ?_)
      clear hK K
      try simp only [Act.put, List.setIfInBounds_toArray, List.set_cons_zero, List.set_cons_succ]
      refine wpAnyH_ready (rs := [3]) (by kernel_rfl) (by simp) ?_
      refine AllReadyH.cons (o := qDnK_3) rfl (fun K hK => ?_) AllReadyH.nil
      have cw := HC0.out ((w.alloc (.map (utab 4) 4)).alloc (.cells #[.string ⟨#[]⟩, .int .u8 0, .nilFunc] 52)).drew ((below_alloc (below_alloc (Below.refl _ _))).drew)
      go_simp
      go_wp2_with fail
      clear cw
      refine hK.out _ _ (by trivial) (fun hHeld => ?_)
      clear hK K
      try simp only [Act.put, List.setIfInBounds_toArray, List.set_cons_zero, List.set_cons_succ]
      refine wpAnyH_ready (rs := [4]) (by kernel_rfl) (by simp) ?_
      refine AllReadyH.cons (o := qDnK_5) rfl (fun K hK => ?_) AllReadyH.nil
      have hlk := HLK.out ((w.alloc (.map (utab 4) 4)).alloc (.cells #[.string ⟨#[]⟩, .int .u8 0, .nilFunc] 52)).drew w.heap.size (by show ((w.alloc (.map (utab 4) 4)).alloc (.cells #[.string ⟨#[]⟩, .int .u8 0, .nilFunc] 52)).heap[w.heap.size]? = _; rw [Below.heap_alloc _ _ _ (by simp)]; exact heap_alloc_new w _)
      go_simp
      try rw [hlk]
      go_wp2_with fail
      clear hlk
      refine hK.out _ _ (by trivial) (fun hHeld => ?_)
      clear hK K
      try simp only [Act.put, List.setIfInBounds_toArray, List.set_cons_zero, List.set_cons_succ]
      refine tk 5 qDnK_6 ?_
      try simp only [Act.put, List.setIfInBounds_toArray, List.set_cons_zero, List.set_cons_succ]
      refine tk 6 qDnK_7 ?_
      try simp only [Act.put, List.setIfInBounds_toArray, List.set_cons_zero, List.set_cons_succ]
      refine tk 7 qDnK_8 ?_
      try simp only [Act.put, List.setIfInBounds_toArray, List.set_cons_zero, List.set_cons_succ]
      refine wpAnyH_ready (rs := [9]) (by kernel_rfl) (by simp) ?_
      refine AllReadyH.cons (o := qDnK_9) rfl (fun K hK => ?_) AllReadyH.nil
      go_simp
      go_wp2_with fail
      refine hK.out _ _ (by trivial) (fun hHeld => ?_)
      clear hK K
      try simp only [Act.put, List.setIfInBounds_toArray, List.set_cons_zero, List.set_cons_succ]
      refine tk 10 qDnK_10 ?_
      try simp only [Act.put, List.setIfInBounds_toArray, List.set_cons_zero, List.set_cons_succ]
      refine wpAnyH_done (by kernel_rfl) ?_ _
      clear hHeld
      have HV : Hid (((w.alloc (.map (utab 4) 4)).alloc (.cells #[.string ⟨#[]⟩, .int .u8 0, .nilFunc] 52)).drew.heap[(w.heap.size + 1)]? = some (.cells #[.string ⟨#[]⟩, .int .u8 0, .nilFunc] 52 (0, 0))) := Lib.hid (by show ((w.alloc (.map (utab 4) 4)).alloc (.cells #[.string ⟨#[]⟩, .int .u8 0, .nilFunc] 52)).heap[w.heap.size + 1]? = _; simpa using heap_alloc_new (w.alloc (.map (utab 4) 4)) (.cells #[.string ⟨#[]⟩, .int .u8 0, .nilFunc] 52))
      have HB : Hid (Below w.heap.size w ((w.alloc (.map (utab 4) 4)).alloc (.cells #[.string ⟨#[]⟩, .int .u8 0, .nilFunc] 52)).drew) := Lib.hid ((below_alloc (below_alloc (Below.refl _ _))).drew)
      generalize ((w.alloc (.map (utab 4) 4)).alloc (.cells #[.string ⟨#[]⟩, .int .u8 0, .nilFunc] 52)).drew = W1 at *
      go_wp2_with fail
      go_returns
      exact HQN.out _ ⟨_, _, _, _, HT.out.kept HB.out⟩ (grown_below HB.out)
    · skip
      have cw := HC0.out (w.alloc (.map (utab 4) 4)).drew ((below_alloc (Below.refl _ _)).drew)
      go_simp
      go_wp2_with fail
      clear cw
      refine hK.out _ _ (by trivial) (fun hHeld => ?_)
      clear hK K
      try simp only [Act.put, List.setIfInBounds_toArray, List.set_cons_zero, List.set_cons_succ]
      refine wpAnyH_ready (rs := [4, 8]) (by kernel_rfl) (by simp) ?_
      refine AllReadyH.cons (o := qDnK_5) rfl (fun K hK => ?_) ?_
      rotate_left
      refine AllReadyH.cons (o := qDnK_4) rfl (fun K hK => ?_) AllReadyH.nil
      · skip
        go_simp
        go_wp2_with fail
        refine hK.out _ _ (by trivial) (fun hHeld => ?_)
        clear hK K
        try simp only [Act.put, List.setIfInBounds_toArray, List.set_cons_zero, List.set_cons_succ]
        refine wpAnyH_ready (rs := [4]) (by kernel_rfl) (by simp) ?_
        refine AllReadyH.cons (o := qDnK_5) rfl (fun K hK => ?_) AllReadyH.nil
        have hlk := HLK.out ((w.alloc (.map (utab 4) 4)).alloc (.cells #[.string ⟨#[]⟩, .int .u8 0, .nilFunc] 52)).drew w.heap.size (by show ((w.alloc (.map (utab 4) 4)).alloc (.cells #[.string ⟨#[]⟩, .int .u8 0, .nilFunc] 52)).heap[w.heap.size]? = _; rw [Below.heap_alloc _ _ _ (by simp)]; exact heap_alloc_new w _)
        go_simp
        try rw [hlk]
        go_wp2_with fail
        clear hlk
        refine hK.out _ _ (by trivial) (fun hHeld => ?_)
        clear hK K
        try simp only [Act.put, List.setIfInBounds_toArray, List.set_cons_zero, List.set_cons_succ]
        refine tk 5 qDnK_6 ?_
        try simp only [Act.put, List.setIfInBounds_toArray, List.set_cons_zero, List.set_cons_succ]
        refine tk 6 qDnK_7 ?_
        try simp only [Act.put, List.setIfInBounds_toArray, List.set_cons_zero, List.set_cons_succ]
        refine tk 7 qDnK_8 ?_
        try simp only [Act.put, List.setIfInBounds_toArray, List.set_cons_zero, List.set_cons_succ]
        refine wpAnyH_ready (rs := [9]) (by kernel_rfl) (by simp) ?_
        refine AllReadyH.cons (o := qDnK_9) rfl (fun K hK => ?_) AllReadyH.nil
        go_simp
        go_wp2_with fail
        refine hK.out _ _ (by trivial) (fun hHeld => ?_)
        clear hK K
        try simp only [Act.put, List.setIfInBounds_toArray, List.set_cons_zero, List.set_cons_succ]
        refine tk 10 qDnK_10 ?_
        try simp only [Act.put, List.setIfInBounds_toArray, List.set_cons_zero, List.set_cons_succ]
        refine wpAnyH_done (by kernel_rfl) ?_ _
        clear hHeld
        have HV : Hid (((w.alloc (.map (utab 4) 4)).alloc (.cells #[.string ⟨#[]⟩, .int .u8 0, .nilFunc] 52)).drew.heap[(w.heap.size + 1)]? = some (.cells #[.string ⟨#[]⟩, .int .u8 0, .nilFunc] 52 (0, 0))) := Lib.hid (by show ((w.alloc (.map (utab 4) 4)).alloc (.cells #[.string ⟨#[]⟩, .int .u8 0, .nilFunc] 52)).heap[w.heap.size + 1]? = _; simpa using heap_alloc_new (w.alloc (.map (utab 4) 4)) (.cells #[.string ⟨#[]⟩, .int .u8 0, .nilFunc] 52))
        have HB : Hid (Below w.heap.size w ((w.alloc (.map (utab 4) 4)).alloc (.cells #[.string ⟨#[]⟩, .int .u8 0, .nilFunc] 52)).drew) := Lib.hid ((below_alloc (below_alloc (Below.refl _ _))).drew)
        generalize ((w.alloc (.map (utab 4) 4)).alloc (.cells #[.string ⟨#[]⟩, .int .u8 0, .nilFunc] 52)).drew = W1 at *
        go_wp2_with fail
        go_returns
        exact HQN.out _ ⟨_, _, _, _, HT.out.kept HB.out⟩ (grown_below HB.out)
      · skip
        have hlk := HLK.out (w.alloc (.map (utab 4) 4)).drew w.heap.size (heap_alloc_new w _)
        go_simp
        try rw [hlk]
        go_wp2_with fail
        clear hlk
        refine hK.out _ _ (by trivial) (fun hHeld => ?_)
        clear hK K
        try simp only [Act.put, List.setIfInBounds_toArray, List.set_cons_zero, List.set_cons_succ]
        refine tk 5 qDnK_6 ?_
        try simp only [Act.put, List.setIfInBounds_toArray, List.set_cons_zero, List.set_cons_succ]
        refine tk 6 qDnK_7 ?_
        try simp only [Act.put, List.setIfInBounds_toArray, List.set_cons_zero, List.set_cons_succ]
        refine tk 7 qDnK_8 ?_
        try simp only [Act.put, List.setIfInBounds_toArray, List.set_cons_zero, List.set_cons_succ]
        refine wpAnyH_ready (rs := [8]) (by kernel_rfl) (by simp) ?_
        refine AllReadyH.cons (o := qDnK_4) rfl (fun K hK => ?_) AllReadyH.nil
        go_simp
        go_wp2_with fail
        refine hK.out _ _ (by trivial) (fun hHeld => ?_)
        clear hK K
        try simp only [Act.put, List.setIfInBounds_toArray, List.set_cons_zero, List.set_cons_succ]
        refine wpAnyH_ready (rs := [9]) (by kernel_rfl) (by simp) ?_
        refine AllReadyH.cons (o := qDnK_9) rfl (fun K hK => ?_) AllReadyH.nil
        go_simp
        go_wp2_with fail
        refine hK.out _ _ (by trivial) (fun hHeld => ?_)
        clear hK K
        try simp only [Act.put, List.setIfInBounds_toArray, List.set_cons_zero, List.set_cons_succ]
        refine tk 10 qDnK_10 ?_
        try simp only [Act.put, List.setIfInBounds_toArray, List.set_cons_zero, List.set_cons_succ]
        refine wpAnyH_done (by kernel_rfl) ?_ _
        clear hHeld
        have HV : Hid (((w.alloc (.map (utab 4) 4)).alloc (.cells #[.string ⟨#[]⟩, .int .u8 0, .nilFunc] 52)).drew.heap[(w.heap.size + 1)]? = some (.cells #[.string ⟨#[]⟩, .int .u8 0, .nilFunc] 52 (0, 0))) := Lib.hid (by show ((w.alloc (.map (utab 4) 4)).alloc (.cells #[.string ⟨#[]⟩, .int .u8 0, .nilFunc] 52)).heap[w.heap.size + 1]? = _; simpa using heap_alloc_new (w.alloc (.map (utab 4) 4)) (.cells #[.string ⟨#[]⟩, .int .u8 0, .nilFunc] 52))
        have HB : Hid (Below w.heap.size w ((w.alloc (.map (utab 4) 4)).alloc (.cells #[.string ⟨#[]⟩, .int .u8 0, .nilFunc] 52)).drew) := Lib.hid ((below_alloc (below_alloc (Below.refl _ _))).drew)
        generalize ((w.alloc (.map (utab 4) 4)).alloc (.cells #[.string ⟨#[]⟩, .int .u8 0, .nilFunc] 52)).drew = W1 at *
        go_wp2_with fail
        go_returns
        exact HQN.out _ ⟨_, _, _, _, HT.out.kept HB.out⟩ (grown_below HB.out)
  · skip
    have cw := HC0.out w.drew ((Below.refl _ _).drew)
    go_simp
    go_wp2_with fail
    clear cw
    refine hK.out _ _ (by trivial) (fun hHeld => ?_)
    clear hK K
    try simp only [Act.put, List.setIfInBounds_toArray, List.set_cons_zero, List.set_cons_succ]
    refine wpAnyH_ready (rs := [0, 8]) (by kernel_rfl) (by simp) ?_
    refine AllReadyH.cons (o := qDnK_2) rfl (fun K hK => ?_) ?_
    rotate_left
    refine AllReadyH.cons (o := qDnK_4) rfl (fun K hK => ?_) AllReadyH.nil
    · skip
      go_simp
      go_wp2_with fail
      refine hK.out _ _ (by trivial) (fun hHeld => ?_)
      clear hK K
      try simp only [Act.put, List.setIfInBounds_toArray, List.set_cons_zero, List.set_cons_succ]
      refine wpAnyH_ready (rs := [0]) (by kernel_rfl) (by simp) ?_
      refine AllReadyH.cons (o := qDnK_2) rfl (fun K hK => ?_) AllReadyH.nil
      go_simp
      (go_at_call 21; refine (utilities_any _).mono ?_; rintro e wm ⟨rfl, rfl⟩)
      go_wp2_with fail
      refine hK.out _ _ (by trivial) (fun hHeld => ?_)
      clear hK K
      try simp only [Act.put, List.setIfInBounds_toArray, List.set_cons_zero, List.set_cons_succ]
      refine wpAnyH_ready (rs := [4]) (by kernel_rfl) (by simp) ?_
      refine AllReadyH.cons (o := qDnK_5) rfl (fun K hK => ?_) AllReadyH.nil
      have hlk := HLK.out ((w.alloc (.cells #[.string ⟨#[]⟩, .int .u8 0, .nilFunc] 52)).alloc (.map (utab 4) 4)).drew (w.heap.size + 1) (by show ((w.alloc (.cells #[.string ⟨#[]⟩, .int .u8 0, .nilFunc] 52)).alloc (.map (utab 4) 4)).heap[w.heap.size + 1]? = _; simpa using heap_alloc_new (w.alloc (.cells #[.string ⟨#[]⟩, .int .u8 0, .nilFunc] 52)) (.map (utab 4) 4))
      go_simp
      try rw [hlk]
      go_wp2_with fail
      clear hlk
      refine hK.out _ _ (by trivial) (fun hHeld => ?_)
      clear hK K
      try simp only [Act.put, List.setIfInBounds_toArray, List.set_cons_zero, List.set_cons_succ]
      refine tk 5 qDnK_6 ?_
      try simp only [Act.put, List.setIfInBounds_toArray, List.set_cons_zero, List.set_cons_succ]
      refine tk 6 qDnK_7 ?_
      try simp only [Act.put, List.setIfInBounds_toArray, List.set_cons_zero, List.set_cons_succ]
      refine tk 7 qDnK_8 ?_
      try simp only [Act.put, List.setIfInBounds_toArray, List.set_cons_zero, List.set_cons_succ]
      refine wpAnyH_ready (rs := [9]) (by kernel_rfl) (by simp) ?_
      refine AllReadyH.cons (o := qDnK_9) rfl (fun K hK => ?_) AllReadyH.nil
      have hz : ((w.alloc (.cells #[.string ⟨#[]⟩, .int .u8 0, .nilFunc] 52)).alloc (.map (utab 4) 4)).drew.heap[w.heap.size]? = some (.cells #[.string ⟨#[]⟩, .int .u8 0, .nilFunc] 52 (0, 0)) := by show ((w.alloc (.cells #[.string ⟨#[]⟩, .int .u8 0, .nilFunc] 52)).alloc (.map (utab 4) 4)).heap[w.heap.size]? = _; rw [Below.heap_alloc _ _ _ (by simp)]; exact heap_alloc_new w _
      have z0 := frozen_of_row _ w.heap.size 0 _ _ hz
      have z1 := frozen_of_row _ w.heap.size 1 _ _ hz
      have z2 := frozen_of_row _ w.heap.size 2 _ _ hz
      have y0 := cell_of_row _ w.heap.size 0 _ _ _ hz
      have y1 := cell_of_row _ w.heap.size 1 _ _ _ hz
      have y2 := cell_of_row _ w.heap.size 2 _ _ _ hz
      go_simp
      go_wp2_with fail
      clear z0 z1 z2 y0 y1 y2
      refine hK.out _ _ (by trivial) (fun hHeld => ?_)
      clear hK K
      try simp only [Act.put, List.setIfInBounds_toArray, List.set_cons_zero, List.set_cons_succ]
      refine tk 10 qDnK_10 ?_
      try simp only [Act.put, List.setIfInBounds_toArray, List.set_cons_zero, List.set_cons_succ]
      refine wpAnyH_done (by kernel_rfl) ?_ _
      clear hHeld
      have HV : Hid (((w.alloc (.cells #[.string ⟨#[]⟩, .int .u8 0, .nilFunc] 52)).alloc (.map (utab 4) 4)).drew.heap[w.heap.size]? = some (.cells #[.string ⟨#[]⟩, .int .u8 0, .nilFunc] 52 (0, 0))) := Lib.hid (by show ((w.alloc (.cells #[.string ⟨#[]⟩, .int .u8 0, .nilFunc] 52)).alloc (.map (utab 4) 4)).heap[w.heap.size]? = _; rw [Below.heap_alloc _ _ _ (by simp)]; exact heap_alloc_new w _)
      have HB : Hid (Below w.heap.size w ((w.alloc (.cells #[.string ⟨#[]⟩, .int .u8 0, .nilFunc] 52)).alloc (.map (utab 4) 4)).drew) := Lib.hid ((below_alloc (below_alloc (Below.refl _ _))).drew)
      generalize ((w.alloc (.cells #[.string ⟨#[]⟩, .int .u8 0, .nilFunc] 52)).alloc (.map (utab 4) 4)).drew = W1 at *
      try clear hz
      go_wp2_with fail
      go_returns
      exact HQN.out _ ⟨_, _, _, _, HT.out.kept HB.out⟩ (grown_below HB.out)
    · skip
      go_simp
      (go_at_call 21; refine (utilities_any _).mono ?_; rintro e wm ⟨rfl, rfl⟩)
      go_wp2_with fail
      refine hK.out _ _ (by trivial) (fun hHeld => ?_)
      clear hK K
      try simp only [Act.put, List.setIfInBounds_toArray, List.set_cons_zero, List.set_cons_succ]
      refine wpAnyH_ready (rs := [4, 8]) (by kernel_rfl) (by simp) ?_
      refine AllReadyH.cons (o := qDnK_5) rfl (fun K hK => ?_) ?_
      rotate_left
      refine AllReadyH.cons (o := qDnK_4) rfl (fun K hK => ?_) AllReadyH.nil
      · skip
        go_simp
        go_wp2_with fail
        refine hK.out _ _ (by trivial) (fun hHeld => ?_)
        clear hK K
        try simp only [Act.put, List.setIfInBounds_toArray, List.set_cons_zero, List.set_cons_succ]
        refine wpAnyH_ready (rs := [4]) (by kernel_rfl) (by simp) ?_
        refine AllReadyH.cons (o := qDnK_5) rfl (fun K hK => ?_) AllReadyH.nil
        have hlk := HLK.out ((w.alloc (.map (utab 4) 4)).alloc (.cells #[.string ⟨#[]⟩, .int .u8 0, .nilFunc] 52)).drew w.heap.size (by show ((w.alloc (.map (utab 4) 4)).alloc (.cells #[.string ⟨#[]⟩, .int .u8 0, .nilFunc] 52)).heap[w.heap.size]? = _; rw [Below.heap_alloc _ _ _ (by simp)]; exact heap_alloc_new w _)
        go_simp
        try rw [hlk]
        go_wp2_with fail
        clear hlk
        refine hK.out _ _ (by trivial) (fun hHeld => ?_)
        clear hK K
        try simp only [Act.put, List.setIfInBounds_toArray, List.set_cons_zero, List.set_cons_succ]
        refine tk 5 qDnK_6 ?_
        try simp only [Act.put, List.setIfInBounds_toArray, List.set_cons_zero, List.set_cons_succ]
        refine tk 6 qDnK_7 ?_
        try simp only [Act.put, List.setIfInBounds_toArray, List.set_cons_zero, List.set_cons_succ]
        refine tk 7 qDnK_8 ?_
        try simp only [Act.put, List.setIfInBounds_toArray, List.set_cons_zero, List.set_cons_succ]
        refine wpAnyH_ready (rs := [9]) (by kernel_rfl) (by simp) ?_
        refine AllReadyH.cons (o := qDnK_9) rfl (fun K hK => ?_) AllReadyH.nil
        go_simp
        go_wp2_with fail
        refine hK.out _ _ (by trivial) (fun hHeld => ?_)
        clear hK K
        try simp only [Act.put, List.setIfInBounds_toArray, List.set_cons_zero, List.set_cons_succ]
        refine tk 10 qDnK_10 ?_
        try simp only [Act.put, List.setIfInBounds_toArray, List.set_cons_zero, List.set_cons_succ]
        refine wpAnyH_done (by kernel_rfl) ?_ _
        clear hHeld
        have HV : Hid (((w.alloc (.map (utab 4) 4)).alloc (.cells #[.string ⟨#[]⟩, .int .u8 0, .nilFunc] 52)).drew.heap[(w.heap.size + 1)]? = some (.cells #[.string ⟨#[]⟩, .int .u8 0, .nilFunc] 52 (0, 0))) := Lib.hid (by show ((w.alloc (.map (utab 4) 4)).alloc (.cells #[.string ⟨#[]⟩, .int .u8 0, .nilFunc] 52)).heap[w.heap.size + 1]? = _; simpa using heap_alloc_new (w.alloc (.map (utab 4) 4)) (.cells #[.string ⟨#[]⟩, .int .u8 0, .nilFunc] 52))
        have HB : Hid (Below w.heap.size w ((w.alloc (.map (utab 4) 4)).alloc (.cells #[.string ⟨#[]⟩, .int .u8 0, .nilFunc] 52)).drew) := Lib.hid ((below_alloc (below_alloc (Below.refl _ _))).drew)
        generalize ((w.alloc (.map (utab 4) 4)).alloc (.cells #[.string ⟨#[]⟩, .int .u8 0, .nilFunc] 52)).drew = W1 at *
        go_wp2_with fail
        go_returns
        exact HQN.out _ ⟨_, _, _, _, HT.out.kept HB.out⟩ (grown_below HB.out)
      · skip
        have hlk := HLK.out (w.alloc (.map (utab 4) 4)).drew w.heap.size (heap_alloc_new w _)
        go_simp
        try rw [hlk]
        go_wp2_with fail
        clear hlk
        refine hK.out _ _ (by trivial) (fun hHeld => ?_)
        clear hK K
        try simp only [Act.put, List.setIfInBounds_toArray, List.set_cons_zero, List.set_cons_succ]
        refine tk 5 qDnK_6 ?_
        try simp only [Act.put, List.setIfInBounds_toArray, List.set_cons_zero, List.set_cons_succ]
        refine tk 6 qDnK_7 ?_
        try simp only [Act.put, List.setIfInBounds_toArray, List.set_cons_zero, List.set_cons_succ]
        refine tk 7 qDnK_8 ?_
        try simp only [Act.put, List.setIfInBounds_toArray, List.set_cons_zero, List.set_cons_succ]
        refine wpAnyH_ready (rs := [8]) (by kernel_rfl) (by simp) ?_
        refine AllReadyH.cons (o := qDnK_4) rfl (fun K hK => ?_) AllReadyH.nil
        go_simp
        go_wp2_with fail
        refine hK.out _ _ (by trivial) (fun hHeld => ?_)
        clear hK K
        try simp only [Act.put, List.setIfInBounds_toArray, List.set_cons_zero, List.set_cons_succ]
        refine wpAnyH_ready (rs := [9]) (by kernel_rfl) (by simp) ?_
        refine AllReadyH.cons (o := qDnK_9) rfl (fun K hK => ?_) AllReadyH.nil
        go_simp
        go_wp2_with fail
        refine hK.out _ _ (by trivial) (fun hHeld => ?_)
        clear hK K
        try simp only [Act.put, List.setIfInBounds_toArray, List.set_cons_zero, List.set_cons_succ]
        refine tk 10 qDnK_10 ?_
        try simp only [Act.put, List.setIfInBounds_toArray, List.set_cons_zero, List.set_cons_succ]
        refine wpAnyH_done (by kernel_rfl) ?_ _
        clear hHeld
        have HV : Hid (((w.alloc (.map (utab 4) 4)).alloc (.cells #[.string ⟨#[]⟩, .int .u8 0, .nilFunc] 52)).drew.heap[(w.heap.size + 1)]? = some (.cells #[.string ⟨#[]⟩, .int .u8 0, .nilFunc] 52 (0, 0))) := Lib.hid (by show ((w.alloc (.map (utab 4) 4)).alloc (.cells #[.string ⟨#[]⟩, .int .u8 0, .nilFunc] 52)).heap[w.heap.size + 1]? = _; simpa using heap_alloc_new (w.alloc (.map (utab 4) 4)) (.cells #[.string ⟨#[]⟩, .int .u8 0, .nilFunc] 52))
        have HB : Hid (Below w.heap.size w ((w.alloc (.map (utab 4) 4)).alloc (.cells #[.string ⟨#[]⟩, .int .u8 0, .nilFunc] 52)).drew) := Lib.hid ((below_alloc (below_alloc (Below.refl _ _))).drew)
        generalize ((w.alloc (.map (utab 4) 4)).alloc (.cells #[.string ⟨#[]⟩, .int .u8 0, .nilFunc] 52)).drew = W1 at *
        go_wp2_with fail
        go_returns
        exact HQN.out _ ⟨_, _, _, _, HT.out.kept HB.out⟩ (grown_below HB.out)

set_option maxRecDepth 100000 in
set_option maxHeartbeats 16000000 in
theorem Run_is {w : World} {b N : Nat} {n : Nd} {v0 v1 v2 v3 : Value} (h : TreeX w b n v0 v1 v2 v3) (hG : TreeN N n) (hN : N ≤ 200) (s : ByteArray) {rest : List ByteArray} {x0 : ByteArray} {x1 : Int} {fi : Nat} {P : Int → ByteArray → Nd → Prop} (hlk : ∀ wx r, wx.heap[r]? = some (.map (utab 4) 4) → (Instr.lookup 54 (.map (some r)) (.string s) true).run Tryz.prog wx = .ok (.tuple #[.agg #[.string x0, .int .u8 x1, .func (.func fi) #[] #[]], .bool true]) wx) (hrun : ∀ wx xv, Below w.heap.size w wx → PlR wx xv rest → Calls Tryz.prog 23 #[.agg #[.string x0, .int .u8 x1, .func (.func fi) #[] #[]], .iface 29 (.pointer (some ⟨b, 0, none⟩)), .string s, xv] wx fun e w' => ∃ code err n', e = .returned (.tuple #[.int .i64 code, .string err]) ∧ P code err n' ∧ (∃ x0 x1 x2 x3, TreeX w' b n' x0 x1 x2 x3) ∧ wx.grownBy w' (some b)) {bb oo c : Nat} (hx : PlR w (.slice (some ⟨bb, oo, none⟩) (rest.length + 1) c) (s :: rest)) (hxl : rest.length ≤ 39) :
    Calls Tryz.prog 8 #[.iface 29 (.pointer (some ⟨b, 0, none⟩)), .slice (some ⟨bb, oo, none⟩) (rest.length + 1 : Nat) c] w fun e w' => ∃ code err n', e = .returned (.tuple #[.int .i64 code, .string ⟨#[]⟩, .string err, .bool true]) ∧ P code err n' ∧ (∃ x0 x1 x2 x3, TreeX w' b n' x0 x1 x2 x3) ∧ w.grownBy w' (some b) := by
  obtain ⟨Q, hQ⟩ : ∃ Q : Ending → World → Prop, Q = fun e w' => ∃ code err n', e = .returned (.tuple #[.int .i64 code, .string ⟨#[]⟩, .string err, .bool true]) ∧ P code err n' ∧ (∃ x0 x1 x2 x3, TreeX w' b n' x0 x1 x2 x3) ∧ w.grownBy w' (some b) := ⟨_, rfl⟩
  have HQR : Hid (∀ w' code err n', P code err n' → (∃ x0 x1 x2 x3, TreeX w' b n' x0 x1 x2 x3) → w.grownBy w' (some b) → Q (.returned (.tuple #[.int .i64 code, .string ⟨#[]⟩, .string err, .bool true])) w') := Lib.hid fun w' code err n' hrd h2 h3 => hQ ▸ ⟨_, _, _, rfl, hrd, h2, h3⟩
  have HLK := Lib.hid hlk
  have HRN := Lib.hid hrun
  clear hlk hrun
  rw [← hQ]
  have HT := Lib.hid h
  have HX := Lib.hid hx
  have hc0 : w.cell? ⟨bb, oo, none⟩ = some (.string s) := by
    obtain ⟨p, cc, he, hs, _, _⟩ := hx
    obtain ⟨rfl, _, _⟩ : some ⟨bb, oo, none⟩ = p ∧ rest.length + 1 = (s :: rest).length ∧ c = cc := by simpa using he
    obtain ⟨b', o', e1, e2⟩ := hs 0 (by simp)
    cases e1
    exact e2
  have HC0 : Hid (∀ wx, Below w.heap.size w wx → wx.cell? ⟨bb, oo, none⟩ = some (.string s)) := Lib.hid fun wx hb => cell_kept hb hc0
  obtain ⟨_, _, he, _, hlc, hcm⟩ := hx
  have hlc2 : rest.length + 1 ≤ c := by
    have : (s :: rest : List ByteArray).length = rest.length + 1 := rfl
    simp only [Value.slice.injEq] at he
    omega
  have hcm2 : c ≤ maxLen := by
    simp only [Value.slice.injEq] at he
    omega
  have hcm3 : c ≤ 9223372036854775807 := by unfold maxLen at hcm2; omega
  clear he hlc hcm hcm2 hQ h
  have hr0 : (((rest.length + 1 : Nat) : Int) == 0) = false := beq_eq_false_iff_ne.2 (by omega)
  have hr3 : (1 : Int) ≤ (rest.length : Int) + 1 := by omega
  have hr1 : (0 : Int) ≤ 0 ∧ (0 : Int) < ((rest.length + 1 : Nat) : Int) := ⟨by omega, by omega⟩
  go_enter Tryz.func8, Tryz.ntmps8
  go_upto_region 3 with fail
  refine wp_region_held_drew (S := (fun _ => True)) (by kernel_rfl) trivial (fun hHeld => ?_)
  refine tk 1 qDnK_0 ?_
  try simp only [Act.put, List.setIfInBounds_toArray, List.set_cons_zero, List.set_cons_succ]
  refine tk 2 qDnK_1 ?_
  try simp only [Act.put, List.setIfInBounds_toArray, List.set_cons_zero, List.set_cons_succ]
  refine wpAnyH_ready (rs := [0, 3, 8]) (by kernel_rfl) (by simp) ?_
  refine AllReadyH.cons (o := qDnK_2) rfl (fun K hK => ?_) ?_
  rotate_left
  refine AllReadyH.cons (o := qDnK_3) rfl (fun K hK => ?_) ?_
  rotate_left
  refine AllReadyH.cons (o := qDnK_4) rfl (fun K hK => ?_) AllReadyH.nil
  · skip
    go_simp
    go_wp2_with fail
    refine hK.out _ _ (by trivial) (fun hHeld => ?_)
    clear hK K
    try simp only [Act.put, List.setIfInBounds_toArray, List.set_cons_zero, List.set_cons_succ]
    refine wpAnyH_ready (rs := [0, 3]) (by kernel_rfl) (by simp) ?_
    refine AllReadyH.cons (o := qDnK_2) rfl (fun K hK => ?_) ?_
    rotate_left
    refine AllReadyH.cons (o := qDnK_3) rfl (fun K hK => ?_) AllReadyH.nil
    · skip
      have cw := HC0.out (w.alloc (.cells #[.string ⟨#[]⟩, .int .u8 0, .nilFunc] 52)).drew ((below_alloc (Below.refl _ _)).drew)
      go_simp
      go_wp2_with fail
      clear cw
      refine hK.out _ _ (by trivial) (fun hHeld => ?_)
      clear hK K
      try simp only [Act.put, List.setIfInBounds_toArray, List.set_cons_zero, List.set_cons_succ]
      refine wpAnyH_ready (rs := [0]) (by kernel_rfl) (by simp) ?_
      refine AllReadyH.cons (o := qDnK_2) rfl (fun K hK => ?_) AllReadyH.nil
      go_simp
      (go_at_call 21; refine (utilities_any _).mono ?_; rintro e wm ⟨rfl, rfl⟩)
      go_wp2_with fail
      refine hK.out _ _ (by trivial) (fun hHeld => ?_)
      clear hK K
      try simp only [Act.put, List.setIfInBounds_toArray, List.set_cons_zero, List.set_cons_succ]
      refine wpAnyH_ready (rs := [4]) (by kernel_rfl) (by simp) ?_
      refine AllReadyH.cons (o := qDnK_5) rfl (fun K hK => ?_) AllReadyH.nil
      have hlk := HLK.out ((w.alloc (.cells #[.string ⟨#[]⟩, .int .u8 0, .nilFunc] 52)).alloc (.map (utab 4) 4)).drew (w.heap.size + 1) (by show ((w.alloc (.cells #[.string ⟨#[]⟩, .int .u8 0, .nilFunc] 52)).alloc (.map (utab 4) 4)).heap[w.heap.size + 1]? = _; simpa using heap_alloc_new (w.alloc (.cells #[.string ⟨#[]⟩, .int .u8 0, .nilFunc] 52)) (.map (utab 4) 4))
      go_simp
      try rw [hlk]
      go_wp2_with fail
      clear hlk
      refine hK.out _ _ (by trivial) (fun hHeld => ?_)
      clear hK K
      try simp only [Act.put, List.setIfInBounds_toArray, List.set_cons_zero, List.set_cons_succ]
      refine tk 5 qDnK_6 ?_
      try simp only [Act.put, List.setIfInBounds_toArray, List.set_cons_zero, List.set_cons_succ]
      refine tk 6 qDnK_7 ?_
      try simp only [Act.put, List.setIfInBounds_toArray, List.set_cons_zero, List.set_cons_succ]
      refine tk 7 qDnK_8 ?_
      try simp only [Act.put, List.setIfInBounds_toArray, List.set_cons_zero, List.set_cons_succ]
      refine wpAnyH_ready (rs := [9]) (by kernel_rfl) (by simp) ?_
      refine AllReadyH.cons (o := qDnK_9) rfl (fun K hK => ?_) AllReadyH.nil
      have hz : ((w.alloc (.cells #[.string ⟨#[]⟩, .int .u8 0, .nilFunc] 52)).alloc (.map (utab 4) 4)).drew.heap[w.heap.size]? = some (.cells #[.string ⟨#[]⟩, .int .u8 0, .nilFunc] 52 (0, 0)) := by show ((w.alloc (.cells #[.string ⟨#[]⟩, .int .u8 0, .nilFunc] 52)).alloc (.map (utab 4) 4)).heap[w.heap.size]? = _; rw [Below.heap_alloc _ _ _ (by simp)]; exact heap_alloc_new w _
      have z0 := frozen_of_row _ w.heap.size 0 _ _ hz
      have z1 := frozen_of_row _ w.heap.size 1 _ _ hz
      have z2 := frozen_of_row _ w.heap.size 2 _ _ hz
      have y0 := cell_of_row _ w.heap.size 0 _ _ _ hz
      have y1 := cell_of_row _ w.heap.size 1 _ _ _ hz
      have y2 := cell_of_row _ w.heap.size 2 _ _ _ hz
      go_simp
      go_wp2_with fail
      clear z0 z1 z2 y0 y1 y2
      refine hK.out _ _ (by trivial) (fun hHeld => ?_)
      clear hK K
      try simp only [Act.put, List.setIfInBounds_toArray, List.set_cons_zero, List.set_cons_succ]
      refine tk 10 qDnK_10 ?_
      try simp only [Act.put, List.setIfInBounds_toArray, List.set_cons_zero, List.set_cons_succ]
      refine wpAnyH_done (by kernel_rfl) ?_ _
      clear hHeld
      have HV : Hid (((w.alloc (.cells #[.string x0, .int .u8 x1, .func (.func fi) #[] #[]] 52)).alloc (.map (utab 4) 4)).drew.heap[w.heap.size]? = some (.cells #[.string x0, .int .u8 x1, .func (.func fi) #[] #[]] 52 (0, 0))) := Lib.hid (by show ((w.alloc (.cells #[.string x0, .int .u8 x1, .func (.func fi) #[] #[]] 52)).alloc (.map (utab 4) 4)).heap[w.heap.size]? = _; rw [Below.heap_alloc _ _ _ (by simp)]; exact heap_alloc_new w _)
      have HB : Hid (Below w.heap.size w ((w.alloc (.cells #[.string x0, .int .u8 x1, .func (.func fi) #[] #[]] 52)).alloc (.map (utab 4) 4)).drew) := Lib.hid ((below_alloc (below_alloc (Below.refl _ _))).drew)
      generalize ((w.alloc (.cells #[.string x0, .int .u8 x1, .func (.func fi) #[] #[]] 52)).alloc (.map (utab 4) 4)).drew = W1 at *
      try clear hz
      go_wp2_with fail
      refine (disNone_any (HT.out.kept HB.out) hG.well (tree_girth2 hG (by omega)) hG.kind).mono ?_
      rintro e w5 ⟨rfl, hb5⟩
      have HB5 : Hid (Below w.heap.size w w5) := Lib.hid (HB.out.trans (hb5.mono HB.out.size))
      have HB5d : Hid (Below w.heap.size w w5.drew) := Lib.hid HB5.out.drew
      have HA : Hid (w5.drew.cell? ⟨w.heap.size, 0, none⟩ = some (.string x0) ∧ w5.drew.cell? ⟨w.heap.size, 1, none⟩ = some (.int .u8 x1) ∧ w5.drew.cell? ⟨w.heap.size, 2, none⟩ = some (.func (.func fi) #[] #[])) := Lib.hid ⟨cell_kept hb5.drew (by rw [cell_of_row _ _ 0 _ _ _ HV.out]; rfl), cell_kept hb5.drew (by rw [cell_of_row _ _ 1 _ _ _ HV.out]; rfl), cell_kept hb5.drew (by rw [cell_of_row _ _ 2 _ _ _ HV.out]; rfl)⟩
      have HCW : Hid (w5.drew.cell? ⟨bb, oo, none⟩ = some (.string s)) := Lib.hid (cell_kept HB5d.out hc0)
      have HRUN := Lib.hid (HRN.out _ _ HB5d.out ((pl_tail HX.out).grown HB5d.out))
      clear hb5
      generalize hpa : (if c = 1 then some (⟨bb, oo, none⟩ : Addr) else some ⟨bb, oo + 1, none⟩) = pa at *
      go_upto_region 6 with fail
      refine wp_region_held_drew (S := (fun _ => True)) (by kernel_rfl) trivial (fun hHeld => ?_)
      refine tk 1 qDnK_11 ?_
      try simp only [Act.put, List.setIfInBounds_toArray, List.set_cons_zero, List.set_cons_succ]
      refine tk 2 qDnK_12 ?_
      try simp only [Act.put, List.setIfInBounds_toArray, List.set_cons_zero, List.set_cons_succ]
      refine tk 3 qDnK_13 ?_
      try simp only [Act.put, List.setIfInBounds_toArray, List.set_cons_zero, List.set_cons_succ]
      refine tk 5 qDnK_14 ?_
      try simp only [Act.put, List.setIfInBounds_toArray, List.set_cons_zero, List.set_cons_succ]
      refine tk 6 qDnK_15 ?_
      try simp only [Act.put, List.setIfInBounds_toArray, List.set_cons_zero, List.set_cons_succ]
      refine wpAnyH_ready (rs := [0, 4]) (by kernel_rfl) (by simp) ?_
      refine AllReadyH.cons (o := qDnK_16) rfl (fun K hK => ?_) ?_
      rotate_left
      refine AllReadyH.cons (o := qDnK_17) rfl (fun K hK => ?_) AllReadyH.nil
      · skip
        have cw := HCW.out
        go_simp
        go_wp2_with fail
        clear cw
        refine hK.out _ _ (by trivial) (fun hHeld => ?_)
        clear hK K
        try simp only [Act.put, List.setIfInBounds_toArray, List.set_cons_zero, List.set_cons_succ]
        refine wpAnyH_ready (rs := [0]) (by kernel_rfl) (by simp) ?_
        refine AllReadyH.cons (o := qDnK_16) rfl (fun K hK => ?_) AllReadyH.nil
        obtain ⟨a0, a1, a2⟩ := HA.out
        go_simp
        go_wp2_with fail
        clear a0 a1 a2
        refine hK.out _ _ (by trivial) (fun hHeld => ?_)
        clear hK K
        try simp only [Act.put, List.setIfInBounds_toArray, List.set_cons_zero, List.set_cons_succ]
        refine wpAnyH_ready (rs := [7]) (by kernel_rfl) (by simp) ?_
        refine AllReadyH.cons (o := qDnK_18) rfl (fun K hK => ?_) AllReadyH.nil
        go_simp
        (go_at_call 23; refine HRUN.out.mono ?_; rintro e w6 ⟨code, err, nn, rfl, hrd, ht6, hg6⟩)
        have HRD := Lib.hid hrd
        have HT6 := Lib.hid ht6
        have HG6 := Lib.hid hg6
        clear hrd ht6 hg6
        go_wp2_with fail
        refine hK.out _ _ (by trivial) (fun hHeld => ?_)
        clear hK K
        try simp only [Act.put, List.setIfInBounds_toArray, List.set_cons_zero, List.set_cons_succ]
        refine tk 8 qDnK_19 ?_
        try simp only [Act.put, List.setIfInBounds_toArray, List.set_cons_zero, List.set_cons_succ]
        refine tk 9 qDnK_20 ?_
        try simp only [Act.put, List.setIfInBounds_toArray, List.set_cons_zero, List.set_cons_succ]
        refine tk 10 qDnK_21 ?_
        try simp only [Act.put, List.setIfInBounds_toArray, List.set_cons_zero, List.set_cons_succ]
        refine tk 11 qDnK_22 ?_
        try simp only [Act.put, List.setIfInBounds_toArray, List.set_cons_zero, List.set_cons_succ]
        refine tk 12 qDnK_23 ?_
        try simp only [Act.put, List.setIfInBounds_toArray, List.set_cons_zero, List.set_cons_succ]
        refine wpAnyH_done (by kernel_rfl) ?_ _
        clear hHeld
        go_wp2_with fail
        go_returns
        exact HQR.out _ _ _ _ HRD.out HT6.out (grown_trans (grown_below HB5.out.drew) HG6.out)
      · skip
        obtain ⟨a0, a1, a2⟩ := HA.out
        go_simp
        go_wp2_with fail
        clear a0 a1 a2
        refine hK.out _ _ (by trivial) (fun hHeld => ?_)
        clear hK K
        try simp only [Act.put, List.setIfInBounds_toArray, List.set_cons_zero, List.set_cons_succ]
        refine wpAnyH_ready (rs := [4]) (by kernel_rfl) (by simp) ?_
        refine AllReadyH.cons (o := qDnK_17) rfl (fun K hK => ?_) AllReadyH.nil
        have cw := HCW.out
        go_simp
        go_wp2_with fail
        clear cw
        refine hK.out _ _ (by trivial) (fun hHeld => ?_)
        clear hK K
        try simp only [Act.put, List.setIfInBounds_toArray, List.set_cons_zero, List.set_cons_succ]
        refine wpAnyH_ready (rs := [7]) (by kernel_rfl) (by simp) ?_
        refine AllReadyH.cons (o := qDnK_18) rfl (fun K hK => ?_) AllReadyH.nil
        go_simp
        (go_at_call 23; refine HRUN.out.mono ?_; rintro e w6 ⟨code, err, nn, rfl, hrd, ht6, hg6⟩)
        have HRD := Lib.hid hrd
        have HT6 := Lib.hid ht6
        have HG6 := Lib.hid hg6
        clear hrd ht6 hg6
        go_wp2_with fail
        refine hK.out _ _ (by trivial) (fun hHeld => ?_)
        clear hK K
        try simp only [Act.put, List.setIfInBounds_toArray, List.set_cons_zero, List.set_cons_succ]
        refine tk 8 qDnK_19 ?_
        try simp only [Act.put, List.setIfInBounds_toArray, List.set_cons_zero, List.set_cons_succ]
        refine tk 9 qDnK_20 ?_
        try simp only [Act.put, List.setIfInBounds_toArray, List.set_cons_zero, List.set_cons_succ]
        refine tk 10 qDnK_21 ?_
        try simp only [Act.put, List.setIfInBounds_toArray, List.set_cons_zero, List.set_cons_succ]
        refine tk 11 qDnK_22 ?_
        try simp only [Act.put, List.setIfInBounds_toArray, List.set_cons_zero, List.set_cons_succ]
        refine tk 12 qDnK_23 ?_
        try simp only [Act.put, List.setIfInBounds_toArray, List.set_cons_zero, List.set_cons_succ]
        refine wpAnyH_done (by kernel_rfl) ?_ _
        clear hHeld
        go_wp2_with fail
        go_returns
        exact HQR.out _ _ _ _ HRD.out HT6.out (grown_trans (grown_below HB5.out.drew) HG6.out)
    · skip
      go_simp
      (go_at_call 21; refine (utilities_any _).mono ?_; rintro e wm ⟨rfl, rfl⟩)
      go_wp2_with fail
      refine hK.out _ _ (by trivial) (fun hHeld => ?_)
      clear hK K
      try simp only [Act.put, List.setIfInBounds_toArray, List.set_cons_zero, List.set_cons_succ]
      refine wpAnyH_ready (rs := [3]) (by kernel_rfl) (by simp) ?_
      refine AllReadyH.cons (o := qDnK_3) rfl (fun K hK => ?_) AllReadyH.nil
      have cw := HC0.out ((w.alloc (.cells #[.string ⟨#[]⟩, .int .u8 0, .nilFunc] 52)).alloc (.map (utab 4) 4)).drew ((below_alloc (below_alloc (Below.refl _ _))).drew)
      go_simp
      go_wp2_with fail
      clear cw
      refine hK.out _ _ (by trivial) (fun hHeld => ?_)
      clear hK K
      try simp only [Act.put, List.setIfInBounds_toArray, List.set_cons_zero, List.set_cons_succ]
      refine wpAnyH_ready (rs := [4]) (by kernel_rfl) (by simp) ?_
      refine AllReadyH.cons (o := qDnK_5) rfl (fun K hK => ?_) AllReadyH.nil
      have hlk := HLK.out ((w.alloc (.cells #[.string ⟨#[]⟩, .int .u8 0, .nilFunc] 52)).alloc (.map (utab 4) 4)).drew (w.heap.size + 1) (by show ((w.alloc (.cells #[.string ⟨#[]⟩, .int .u8 0, .nilFunc] 52)).alloc (.map (utab 4) 4)).heap[w.heap.size + 1]? = _; simpa using heap_alloc_new (w.alloc (.cells #[.string ⟨#[]⟩, .int .u8 0, .nilFunc] 52)) (.map (utab 4) 4))
      go_simp
      try rw [hlk]
      go_wp2_with fail
      clear hlk
      refine hK.out _ _ (by trivial) (fun hHeld => ?_)
      clear hK K
      try simp only [Act.put, List.setIfInBounds_toArray, List.set_cons_zero, List.set_cons_succ]
      refine tk 5 qDnK_6 ?_
      try simp only [Act.put, List.setIfInBounds_toArray, List.set_cons_zero, List.set_cons_succ]
      refine tk 6 qDnK_7 ?_
      try simp only [Act.put, List.setIfInBounds_toArray, List.set_cons_zero, List.set_cons_succ]
      refine tk 7 qDnK_8 ?_
      try simp only [Act.put, List.setIfInBounds_toArray, List.set_cons_zero, List.set_cons_succ]
      refine wpAnyH_ready (rs := [9]) (by kernel_rfl) (by simp) ?_
      refine AllReadyH.cons (o := qDnK_9) rfl (fun K hK => ?_) AllReadyH.nil
      have hz : ((w.alloc (.cells #[.string ⟨#[]⟩, .int .u8 0, .nilFunc] 52)).alloc (.map (utab 4) 4)).drew.heap[w.heap.size]? = some (.cells #[.string ⟨#[]⟩, .int .u8 0, .nilFunc] 52 (0, 0)) := by show ((w.alloc (.cells #[.string ⟨#[]⟩, .int .u8 0, .nilFunc] 52)).alloc (.map (utab 4) 4)).heap[w.heap.size]? = _; rw [Below.heap_alloc _ _ _ (by simp)]; exact heap_alloc_new w _
      have z0 := frozen_of_row _ w.heap.size 0 _ _ hz
      have z1 := frozen_of_row _ w.heap.size 1 _ _ hz
      have z2 := frozen_of_row _ w.heap.size 2 _ _ hz
      have y0 := cell_of_row _ w.heap.size 0 _ _ _ hz
      have y1 := cell_of_row _ w.heap.size 1 _ _ _ hz
      have y2 := cell_of_row _ w.heap.size 2 _ _ _ hz
      go_simp
      go_wp2_with fail
      clear z0 z1 z2 y0 y1 y2
      refine hK.out _ _ (by trivial) (fun hHeld => ?_)
      clear hK K
      try simp only [Act.put, List.setIfInBounds_toArray, List.set_cons_zero, List.set_cons_succ]
      refine tk 10 qDnK_10 ?_
      try simp only [Act.put, List.setIfInBounds_toArray, List.set_cons_zero, List.set_cons_succ]
      refine wpAnyH_done (by kernel_rfl) ?_ _
      clear hHeld
      have HV : Hid (((w.alloc (.cells #[.string x0, .int .u8 x1, .func (.func fi) #[] #[]] 52)).alloc (.map (utab 4) 4)).drew.heap[w.heap.size]? = some (.cells #[.string x0, .int .u8 x1, .func (.func fi) #[] #[]] 52 (0, 0))) := Lib.hid (by show ((w.alloc (.cells #[.string x0, .int .u8 x1, .func (.func fi) #[] #[]] 52)).alloc (.map (utab 4) 4)).heap[w.heap.size]? = _; rw [Below.heap_alloc _ _ _ (by simp)]; exact heap_alloc_new w _)
      have HB : Hid (Below w.heap.size w ((w.alloc (.cells #[.string x0, .int .u8 x1, .func (.func fi) #[] #[]] 52)).alloc (.map (utab 4) 4)).drew) := Lib.hid ((below_alloc (below_alloc (Below.refl _ _))).drew)
      generalize ((w.alloc (.cells #[.string x0, .int .u8 x1, .func (.func fi) #[] #[]] 52)).alloc (.map (utab 4) 4)).drew = W1 at *
      try clear hz
      go_wp2_with fail
      refine (disNone_any (HT.out.kept HB.out) hG.well (tree_girth2 hG (by omega)) hG.kind).mono ?_
      rintro e w5 ⟨rfl, hb5⟩
      have HB5 : Hid (Below w.heap.size w w5) := Lib.hid (HB.out.trans (hb5.mono HB.out.size))
      have HB5d : Hid (Below w.heap.size w w5.drew) := Lib.hid HB5.out.drew
      have HA : Hid (w5.drew.cell? ⟨w.heap.size, 0, none⟩ = some (.string x0) ∧ w5.drew.cell? ⟨w.heap.size, 1, none⟩ = some (.int .u8 x1) ∧ w5.drew.cell? ⟨w.heap.size, 2, none⟩ = some (.func (.func fi) #[] #[])) := Lib.hid ⟨cell_kept hb5.drew (by rw [cell_of_row _ _ 0 _ _ _ HV.out]; rfl), cell_kept hb5.drew (by rw [cell_of_row _ _ 1 _ _ _ HV.out]; rfl), cell_kept hb5.drew (by rw [cell_of_row _ _ 2 _ _ _ HV.out]; rfl)⟩
      have HCW : Hid (w5.drew.cell? ⟨bb, oo, none⟩ = some (.string s)) := Lib.hid (cell_kept HB5d.out hc0)
      have HRUN := Lib.hid (HRN.out _ _ HB5d.out ((pl_tail HX.out).grown HB5d.out))
      clear hb5
      generalize hpa : (if c = 1 then some (⟨bb, oo, none⟩ : Addr) else some ⟨bb, oo + 1, none⟩) = pa at *
      go_upto_region 6 with fail
      refine wp_region_held_drew (S := (fun _ => True)) (by kernel_rfl) trivial (fun hHeld => ?_)
      refine tk 1 qDnK_11 ?_
      try simp only [Act.put, List.setIfInBounds_toArray, List.set_cons_zero, List.set_cons_succ]
      refine tk 2 qDnK_12 ?_
      try simp only [Act.put, List.setIfInBounds_toArray, List.set_cons_zero, List.set_cons_succ]
      refine tk 3 qDnK_13 ?_
      try simp only [Act.put, List.setIfInBounds_toArray, List.set_cons_zero, List.set_cons_succ]
      refine tk 5 qDnK_14 ?_
      try simp only [Act.put, List.setIfInBounds_toArray, List.set_cons_zero, List.set_cons_succ]
      refine tk 6 qDnK_15 ?_
      try simp only [Act.put, List.setIfInBounds_toArray, List.set_cons_zero, List.set_cons_succ]
      refine wpAnyH_ready (rs := [0, 4]) (by kernel_rfl) (by simp) ?_
      refine AllReadyH.cons (o := qDnK_16) rfl (fun K hK => ?_) ?_
      rotate_left
      refine AllReadyH.cons (o := qDnK_17) rfl (fun K hK => ?_) AllReadyH.nil
      · skip
        have cw := HCW.out
        go_simp
        go_wp2_with fail
        clear cw
        refine hK.out _ _ (by trivial) (fun hHeld => ?_)
        clear hK K
        try simp only [Act.put, List.setIfInBounds_toArray, List.set_cons_zero, List.set_cons_succ]
        refine wpAnyH_ready (rs := [0]) (by kernel_rfl) (by simp) ?_
        refine AllReadyH.cons (o := qDnK_16) rfl (fun K hK => ?_) AllReadyH.nil
        obtain ⟨a0, a1, a2⟩ := HA.out
        go_simp
        go_wp2_with fail
        clear a0 a1 a2
        refine hK.out _ _ (by trivial) (fun hHeld => ?_)
        clear hK K
        try simp only [Act.put, List.setIfInBounds_toArray, List.set_cons_zero, List.set_cons_succ]
        refine wpAnyH_ready (rs := [7]) (by kernel_rfl) (by simp) ?_
        refine AllReadyH.cons (o := qDnK_18) rfl (fun K hK => ?_) AllReadyH.nil
        go_simp
        (go_at_call 23; refine HRUN.out.mono ?_; rintro e w6 ⟨code, err, nn, rfl, hrd, ht6, hg6⟩)
        have HRD := Lib.hid hrd
        have HT6 := Lib.hid ht6
        have HG6 := Lib.hid hg6
        clear hrd ht6 hg6
        go_wp2_with fail
        refine hK.out _ _ (by trivial) (fun hHeld => ?_)
        clear hK K
        try simp only [Act.put, List.setIfInBounds_toArray, List.set_cons_zero, List.set_cons_succ]
        refine tk 8 qDnK_19 ?_
        try simp only [Act.put, List.setIfInBounds_toArray, List.set_cons_zero, List.set_cons_succ]
        refine tk 9 qDnK_20 ?_
        try simp only [Act.put, List.setIfInBounds_toArray, List.set_cons_zero, List.set_cons_succ]
        refine tk 10 qDnK_21 ?_
        try simp only [Act.put, List.setIfInBounds_toArray, List.set_cons_zero, List.set_cons_succ]
        refine tk 11 qDnK_22 ?_
        try simp only [Act.put, List.setIfInBounds_toArray, List.set_cons_zero, List.set_cons_succ]
        refine tk 12 qDnK_23 ?_
        try simp only [Act.put, List.setIfInBounds_toArray, List.set_cons_zero, List.set_cons_succ]
        refine wpAnyH_done (by kernel_rfl) ?_ _
        clear hHeld
        go_wp2_with fail
        go_returns
        exact HQR.out _ _ _ _ HRD.out HT6.out (grown_trans (grown_below HB5.out.drew) HG6.out)
      · skip
        obtain ⟨a0, a1, a2⟩ := HA.out
        go_simp
        go_wp2_with fail
        clear a0 a1 a2
        refine hK.out _ _ (by trivial) (fun hHeld => ?_)
        clear hK K
        try simp only [Act.put, List.setIfInBounds_toArray, List.set_cons_zero, List.set_cons_succ]
        refine wpAnyH_ready (rs := [4]) (by kernel_rfl) (by simp) ?_
        refine AllReadyH.cons (o := qDnK_17) rfl (fun K hK => ?_) AllReadyH.nil
        have cw := HCW.out
        go_simp
        go_wp2_with fail
        clear cw
        refine hK.out _ _ (by trivial) (fun hHeld => ?_)
        clear hK K
        try simp only [Act.put, List.setIfInBounds_toArray, List.set_cons_zero, List.set_cons_succ]
        refine wpAnyH_ready (rs := [7]) (by kernel_rfl) (by simp) ?_
        refine AllReadyH.cons (o := qDnK_18) rfl (fun K hK => ?_) AllReadyH.nil
        go_simp
        (go_at_call 23; refine HRUN.out.mono ?_; rintro e w6 ⟨code, err, nn, rfl, hrd, ht6, hg6⟩)
        have HRD := Lib.hid hrd
        have HT6 := Lib.hid ht6
        have HG6 := Lib.hid hg6
        clear hrd ht6 hg6
        go_wp2_with fail
        refine hK.out _ _ (by trivial) (fun hHeld => ?_)
        clear hK K
        try simp only [Act.put, List.setIfInBounds_toArray, List.set_cons_zero, List.set_cons_succ]
        refine tk 8 qDnK_19 ?_
        try simp only [Act.put, List.setIfInBounds_toArray, List.set_cons_zero, List.set_cons_succ]
        refine tk 9 qDnK_20 ?_
        try simp only [Act.put, List.setIfInBounds_toArray, List.set_cons_zero, List.set_cons_succ]
        refine tk 10 qDnK_21 ?_
        try simp only [Act.put, List.setIfInBounds_toArray, List.set_cons_zero, List.set_cons_succ]
        refine tk 11 qDnK_22 ?_
        try simp only [Act.put, List.setIfInBounds_toArray, List.set_cons_zero, List.set_cons_succ]
        refine tk 12 qDnK_23 ?_
        try simp only [Act.put, List.setIfInBounds_toArray, List.set_cons_zero, List.set_cons_succ]
        refine wpAnyH_done (by kernel_rfl) ?_ _
        clear hHeld
        go_wp2_with fail
        go_returns
        exact HQR.out _ _ _ _ HRD.out HT6.out (grown_trans (grown_below HB5.out.drew) HG6.out)
  · skip
    go_simp
    (go_at_call 21; refine (utilities_any _).mono ?_; rintro e wm ⟨rfl, rfl⟩)
    go_wp2_with fail
    refine hK.out _ _ (by trivial) (fun hHeld => ?_)
    clear hK K
    try simp only [Act.put, List.setIfInBounds_toArray, List.set_cons_zero, List.set_cons_succ]
    refine wpAnyH_ready (rs := [3, 8]) (by kernel_rfl) (by simp) ?_
    refine AllReadyH.cons (o := qDnK_3) rfl (fun K hK => ?_) ?_
    rotate_left
    refine AllReadyH.cons (o := qDnK_4) rfl (fun K hK => ?_) AllReadyH.nil
    · skip
      go_simp
      go_wp2_with fail
      refine hK.out _ _ (by trivial) (fun hHeld => ?_)
      clear hK K
      try simp only [Act.put, List.setIfInBounds_toArray, List.set_cons_zero, List.set_cons_succ]
      refine wpAnyH_ready (rs := [3]) (by kernel_rfl) (by simp) ?_
      refine AllReadyH.cons (o := qDnK_3) rfl (fun K hK => ?_) AllReadyH.nil
      have cw := HC0.out ((w.alloc (.map (utab 4) 4)).alloc (.cells #[.string ⟨#[]⟩, .int .u8 0, .nilFunc] 52)).drew ((below_alloc (below_alloc (Below.refl _ _))).drew)
      go_simp
      go_wp2_with fail
      clear cw
      refine hK.out _ _ (by trivial) (fun hHeld => ?_)
      clear hK K
      try simp only [Act.put, List.setIfInBounds_toArray, List.set_cons_zero, List.set_cons_succ]
      refine wpAnyH_ready (rs := [4]) (by kernel_rfl) (by simp) ?_
      refine AllReadyH.cons (o := qDnK_5) rfl (fun K hK => ?_) AllReadyH.nil
      have hlk := HLK.out ((w.alloc (.map (utab 4) 4)).alloc (.cells #[.string ⟨#[]⟩, .int .u8 0, .nilFunc] 52)).drew w.heap.size (by show ((w.alloc (.map (utab 4) 4)).alloc (.cells #[.string ⟨#[]⟩, .int .u8 0, .nilFunc] 52)).heap[w.heap.size]? = _; rw [Below.heap_alloc _ _ _ (by simp)]; exact heap_alloc_new w _)
      go_simp
      try rw [hlk]
      go_wp2_with fail
      clear hlk
      refine hK.out _ _ (by trivial) (fun hHeld => ?_)
      clear hK K
      try simp only [Act.put, List.setIfInBounds_toArray, List.set_cons_zero, List.set_cons_succ]
      refine tk 5 qDnK_6 ?_
      try simp only [Act.put, List.setIfInBounds_toArray, List.set_cons_zero, List.set_cons_succ]
      refine tk 6 qDnK_7 ?_
      try simp only [Act.put, List.setIfInBounds_toArray, List.set_cons_zero, List.set_cons_succ]
      refine tk 7 qDnK_8 ?_
      try simp only [Act.put, List.setIfInBounds_toArray, List.set_cons_zero, List.set_cons_succ]
      refine wpAnyH_ready (rs := [9]) (by kernel_rfl) (by simp) ?_
      refine AllReadyH.cons (o := qDnK_9) rfl (fun K hK => ?_) AllReadyH.nil
      go_simp
      go_wp2_with fail
      refine hK.out _ _ (by trivial) (fun hHeld => ?_)
      clear hK K
      try simp only [Act.put, List.setIfInBounds_toArray, List.set_cons_zero, List.set_cons_succ]
      refine tk 10 qDnK_10 ?_
      try simp only [Act.put, List.setIfInBounds_toArray, List.set_cons_zero, List.set_cons_succ]
      refine wpAnyH_done (by kernel_rfl) ?_ _
      clear hHeld
      have HV : Hid (((w.alloc (.map (utab 4) 4)).alloc (.cells #[.string x0, .int .u8 x1, .func (.func fi) #[] #[]] 52)).drew.heap[(w.heap.size + 1)]? = some (.cells #[.string x0, .int .u8 x1, .func (.func fi) #[] #[]] 52 (0, 0))) := Lib.hid (by show ((w.alloc (.map (utab 4) 4)).alloc (.cells #[.string x0, .int .u8 x1, .func (.func fi) #[] #[]] 52)).heap[w.heap.size + 1]? = _; simpa using heap_alloc_new (w.alloc (.map (utab 4) 4)) (.cells #[.string x0, .int .u8 x1, .func (.func fi) #[] #[]] 52))
      have HB : Hid (Below w.heap.size w ((w.alloc (.map (utab 4) 4)).alloc (.cells #[.string x0, .int .u8 x1, .func (.func fi) #[] #[]] 52)).drew) := Lib.hid ((below_alloc (below_alloc (Below.refl _ _))).drew)
      generalize ((w.alloc (.map (utab 4) 4)).alloc (.cells #[.string x0, .int .u8 x1, .func (.func fi) #[] #[]] 52)).drew = W1 at *
      go_wp2_with fail
      refine (disNone_any (HT.out.kept HB.out) hG.well (tree_girth2 hG (by omega)) hG.kind).mono ?_
      rintro e w5 ⟨rfl, hb5⟩
      have HB5 : Hid (Below w.heap.size w w5) := Lib.hid (HB.out.trans (hb5.mono HB.out.size))
      have HB5d : Hid (Below w.heap.size w w5.drew) := Lib.hid HB5.out.drew
      have HA : Hid (w5.drew.cell? ⟨(w.heap.size + 1), 0, none⟩ = some (.string x0) ∧ w5.drew.cell? ⟨(w.heap.size + 1), 1, none⟩ = some (.int .u8 x1) ∧ w5.drew.cell? ⟨(w.heap.size + 1), 2, none⟩ = some (.func (.func fi) #[] #[])) := Lib.hid ⟨cell_kept hb5.drew (by rw [cell_of_row _ _ 0 _ _ _ HV.out]; rfl), cell_kept hb5.drew (by rw [cell_of_row _ _ 1 _ _ _ HV.out]; rfl), cell_kept hb5.drew (by rw [cell_of_row _ _ 2 _ _ _ HV.out]; rfl)⟩
      have HCW : Hid (w5.drew.cell? ⟨bb, oo, none⟩ = some (.string s)) := Lib.hid (cell_kept HB5d.out hc0)
      have HRUN := Lib.hid (HRN.out _ _ HB5d.out ((pl_tail HX.out).grown HB5d.out))
      clear hb5
      generalize hpa : (if c = 1 then some (⟨bb, oo, none⟩ : Addr) else some ⟨bb, oo + 1, none⟩) = pa at *
      go_upto_region 6 with fail
      refine wp_region_held_drew (S := (fun _ => True)) (by kernel_rfl) trivial (fun hHeld => ?_)
      refine tk 1 qDnK_11 ?_
      try simp only [Act.put, List.setIfInBounds_toArray, List.set_cons_zero, List.set_cons_succ]
      refine tk 2 qDnK_12 ?_
      try simp only [Act.put, List.setIfInBounds_toArray, List.set_cons_zero, List.set_cons_succ]
      refine tk 3 qDnK_13 ?_
      try simp only [Act.put, List.setIfInBounds_toArray, List.set_cons_zero, List.set_cons_succ]
      refine tk 5 qDnK_14 ?_
      try simp only [Act.put, List.setIfInBounds_toArray, List.set_cons_zero, List.set_cons_succ]
      refine tk 6 qDnK_15 ?_
      try simp only [Act.put, List.setIfInBounds_toArray, List.set_cons_zero, List.set_cons_succ]
      refine wpAnyH_ready (rs := [0, 4]) (by kernel_rfl) (by simp) ?_
      refine AllReadyH.cons (o := qDnK_16) rfl (fun K hK => ?_) ?_
      rotate_left
      refine AllReadyH.cons (o := qDnK_17) rfl (fun K hK => ?_) AllReadyH.nil
      · skip
        have cw := HCW.out
        go_simp
        go_wp2_with fail
        clear cw
        refine hK.out _ _ (by trivial) (fun hHeld => ?_)
        clear hK K
        try simp only [Act.put, List.setIfInBounds_toArray, List.set_cons_zero, List.set_cons_succ]
        refine wpAnyH_ready (rs := [0]) (by kernel_rfl) (by simp) ?_
        refine AllReadyH.cons (o := qDnK_16) rfl (fun K hK => ?_) AllReadyH.nil
        obtain ⟨a0, a1, a2⟩ := HA.out
        go_simp
        go_wp2_with fail
        clear a0 a1 a2
        refine hK.out _ _ (by trivial) (fun hHeld => ?_)
        clear hK K
        try simp only [Act.put, List.setIfInBounds_toArray, List.set_cons_zero, List.set_cons_succ]
        refine wpAnyH_ready (rs := [7]) (by kernel_rfl) (by simp) ?_
        refine AllReadyH.cons (o := qDnK_18) rfl (fun K hK => ?_) AllReadyH.nil
        go_simp
        (go_at_call 23; refine HRUN.out.mono ?_; rintro e w6 ⟨code, err, nn, rfl, hrd, ht6, hg6⟩)
        have HRD := Lib.hid hrd
        have HT6 := Lib.hid ht6
        have HG6 := Lib.hid hg6
        clear hrd ht6 hg6
        go_wp2_with fail
        refine hK.out _ _ (by trivial) (fun hHeld => ?_)
        clear hK K
        try simp only [Act.put, List.setIfInBounds_toArray, List.set_cons_zero, List.set_cons_succ]
        refine tk 8 qDnK_19 ?_
        try simp only [Act.put, List.setIfInBounds_toArray, List.set_cons_zero, List.set_cons_succ]
        refine tk 9 qDnK_20 ?_
        try simp only [Act.put, List.setIfInBounds_toArray, List.set_cons_zero, List.set_cons_succ]
        refine tk 10 qDnK_21 ?_
        try simp only [Act.put, List.setIfInBounds_toArray, List.set_cons_zero, List.set_cons_succ]
        refine tk 11 qDnK_22 ?_
        try simp only [Act.put, List.setIfInBounds_toArray, List.set_cons_zero, List.set_cons_succ]
        refine tk 12 qDnK_23 ?_
        try simp only [Act.put, List.setIfInBounds_toArray, List.set_cons_zero, List.set_cons_succ]
        refine wpAnyH_done (by kernel_rfl) ?_ _
        clear hHeld
        go_wp2_with fail
        go_returns
        exact HQR.out _ _ _ _ HRD.out HT6.out (grown_trans (grown_below HB5.out.drew) HG6.out)
      · skip
        obtain ⟨a0, a1, a2⟩ := HA.out
        go_simp
        go_wp2_with fail
        clear a0 a1 a2
        refine hK.out _ _ (by trivial) (fun hHeld => ?_)
        clear hK K
        try simp only [Act.put, List.setIfInBounds_toArray, List.set_cons_zero, List.set_cons_succ]
        refine wpAnyH_ready (rs := [4]) (by kernel_rfl) (by simp) ?_
        refine AllReadyH.cons (o := qDnK_17) rfl (fun K hK => ?_) AllReadyH.nil
        have cw := HCW.out
        go_simp
        go_wp2_with fail
        clear cw
        refine hK.out _ _ (by trivial) (fun hHeld => ?_)
        clear hK K
        try simp only [Act.put, List.setIfInBounds_toArray, List.set_cons_zero, List.set_cons_succ]
        refine wpAnyH_ready (rs := [7]) (by kernel_rfl) (by simp) ?_
        refine AllReadyH.cons (o := qDnK_18) rfl (fun K hK => ?_) AllReadyH.nil
        go_simp
        (go_at_call 23; refine HRUN.out.mono ?_; rintro e w6 ⟨code, err, nn, rfl, hrd, ht6, hg6⟩)
        have HRD := Lib.hid hrd
        have HT6 := Lib.hid ht6
        have HG6 := Lib.hid hg6
        clear hrd ht6 hg6
        go_wp2_with fail
        refine hK.out _ _ (by trivial) (fun hHeld => ?_)
        clear hK K
        try simp only [Act.put, List.setIfInBounds_toArray, List.set_cons_zero, List.set_cons_succ]
        refine tk 8 qDnK_19 ?_
        try simp only [Act.put, List.setIfInBounds_toArray, List.set_cons_zero, List.set_cons_succ]
        refine tk 9 qDnK_20 ?_
        try simp only [Act.put, List.setIfInBounds_toArray, List.set_cons_zero, List.set_cons_succ]
        refine tk 10 qDnK_21 ?_
        try simp only [Act.put, List.setIfInBounds_toArray, List.set_cons_zero, List.set_cons_succ]
        refine tk 11 qDnK_22 ?_
        try simp only [Act.put, List.setIfInBounds_toArray, List.set_cons_zero, List.set_cons_succ]
        refine tk 12 qDnK_23 ?_
        try simp only [Act.put, List.setIfInBounds_toArray, List.set_cons_zero, List.set_cons_succ]
        refine wpAnyH_done (by kernel_rfl) ?_ _
        clear hHeld
        go_wp2_with fail
        go_returns
        exact HQR.out _ _ _ _ HRD.out HT6.out (grown_trans (grown_below HB5.out.drew) HG6.out)
    · skip
      have cw := HC0.out (w.alloc (.map (utab 4) 4)).drew ((below_alloc (Below.refl _ _)).drew)
      go_simp
      go_wp2_with fail
      clear cw
      refine hK.out _ _ (by trivial) (fun hHeld => ?_)
      clear hK K
      try simp only [Act.put, List.setIfInBounds_toArray, List.set_cons_zero, List.set_cons_succ]
      refine wpAnyH_ready (rs := [4, 8]) (by kernel_rfl) (by simp) ?_
      refine AllReadyH.cons (o := qDnK_5) rfl (fun K hK => ?_) ?_
      rotate_left
      refine AllReadyH.cons (o := qDnK_4) rfl (fun K hK => ?_) AllReadyH.nil
      · skip
        go_simp
        go_wp2_with fail
        refine hK.out _ _ (by trivial) (fun hHeld => ?_)
        clear hK K
        try simp only [Act.put, List.setIfInBounds_toArray, List.set_cons_zero, List.set_cons_succ]
        refine wpAnyH_ready (rs := [4]) (by kernel_rfl) (by simp) ?_
        refine AllReadyH.cons (o := qDnK_5) rfl (fun K hK => ?_) AllReadyH.nil
        have hlk := HLK.out ((w.alloc (.map (utab 4) 4)).alloc (.cells #[.string ⟨#[]⟩, .int .u8 0, .nilFunc] 52)).drew w.heap.size (by show ((w.alloc (.map (utab 4) 4)).alloc (.cells #[.string ⟨#[]⟩, .int .u8 0, .nilFunc] 52)).heap[w.heap.size]? = _; rw [Below.heap_alloc _ _ _ (by simp)]; exact heap_alloc_new w _)
        go_simp
        try rw [hlk]
        go_wp2_with fail
        clear hlk
        refine hK.out _ _ (by trivial) (fun hHeld => ?_)
        clear hK K
        try simp only [Act.put, List.setIfInBounds_toArray, List.set_cons_zero, List.set_cons_succ]
        refine tk 5 qDnK_6 ?_
        try simp only [Act.put, List.setIfInBounds_toArray, List.set_cons_zero, List.set_cons_succ]
        refine tk 6 qDnK_7 ?_
        try simp only [Act.put, List.setIfInBounds_toArray, List.set_cons_zero, List.set_cons_succ]
        refine tk 7 qDnK_8 ?_
        try simp only [Act.put, List.setIfInBounds_toArray, List.set_cons_zero, List.set_cons_succ]
        refine wpAnyH_ready (rs := [9]) (by kernel_rfl) (by simp) ?_
        refine AllReadyH.cons (o := qDnK_9) rfl (fun K hK => ?_) AllReadyH.nil
        go_simp
        go_wp2_with fail
        refine hK.out _ _ (by trivial) (fun hHeld => ?_)
        clear hK K
        try simp only [Act.put, List.setIfInBounds_toArray, List.set_cons_zero, List.set_cons_succ]
        refine tk 10 qDnK_10 ?_
        try simp only [Act.put, List.setIfInBounds_toArray, List.set_cons_zero, List.set_cons_succ]
        refine wpAnyH_done (by kernel_rfl) ?_ _
        clear hHeld
        have HV : Hid (((w.alloc (.map (utab 4) 4)).alloc (.cells #[.string x0, .int .u8 x1, .func (.func fi) #[] #[]] 52)).drew.heap[(w.heap.size + 1)]? = some (.cells #[.string x0, .int .u8 x1, .func (.func fi) #[] #[]] 52 (0, 0))) := Lib.hid (by show ((w.alloc (.map (utab 4) 4)).alloc (.cells #[.string x0, .int .u8 x1, .func (.func fi) #[] #[]] 52)).heap[w.heap.size + 1]? = _; simpa using heap_alloc_new (w.alloc (.map (utab 4) 4)) (.cells #[.string x0, .int .u8 x1, .func (.func fi) #[] #[]] 52))
        have HB : Hid (Below w.heap.size w ((w.alloc (.map (utab 4) 4)).alloc (.cells #[.string x0, .int .u8 x1, .func (.func fi) #[] #[]] 52)).drew) := Lib.hid ((below_alloc (below_alloc (Below.refl _ _))).drew)
        generalize ((w.alloc (.map (utab 4) 4)).alloc (.cells #[.string x0, .int .u8 x1, .func (.func fi) #[] #[]] 52)).drew = W1 at *
        go_wp2_with fail
        refine (disNone_any (HT.out.kept HB.out) hG.well (tree_girth2 hG (by omega)) hG.kind).mono ?_
        rintro e w5 ⟨rfl, hb5⟩
        have HB5 : Hid (Below w.heap.size w w5) := Lib.hid (HB.out.trans (hb5.mono HB.out.size))
        have HB5d : Hid (Below w.heap.size w w5.drew) := Lib.hid HB5.out.drew
        have HA : Hid (w5.drew.cell? ⟨(w.heap.size + 1), 0, none⟩ = some (.string x0) ∧ w5.drew.cell? ⟨(w.heap.size + 1), 1, none⟩ = some (.int .u8 x1) ∧ w5.drew.cell? ⟨(w.heap.size + 1), 2, none⟩ = some (.func (.func fi) #[] #[])) := Lib.hid ⟨cell_kept hb5.drew (by rw [cell_of_row _ _ 0 _ _ _ HV.out]; rfl), cell_kept hb5.drew (by rw [cell_of_row _ _ 1 _ _ _ HV.out]; rfl), cell_kept hb5.drew (by rw [cell_of_row _ _ 2 _ _ _ HV.out]; rfl)⟩
        have HCW : Hid (w5.drew.cell? ⟨bb, oo, none⟩ = some (.string s)) := Lib.hid (cell_kept HB5d.out hc0)
        have HRUN := Lib.hid (HRN.out _ _ HB5d.out ((pl_tail HX.out).grown HB5d.out))
        clear hb5
        generalize hpa : (if c = 1 then some (⟨bb, oo, none⟩ : Addr) else some ⟨bb, oo + 1, none⟩) = pa at *
        go_upto_region 6 with fail
        refine wp_region_held_drew (S := (fun _ => True)) (by kernel_rfl) trivial (fun hHeld => ?_)
        refine tk 1 qDnK_11 ?_
        try simp only [Act.put, List.setIfInBounds_toArray, List.set_cons_zero, List.set_cons_succ]
        refine tk 2 qDnK_12 ?_
        try simp only [Act.put, List.setIfInBounds_toArray, List.set_cons_zero, List.set_cons_succ]
        refine tk 3 qDnK_13 ?_
        try simp only [Act.put, List.setIfInBounds_toArray, List.set_cons_zero, List.set_cons_succ]
        refine tk 5 qDnK_14 ?_
        try simp only [Act.put, List.setIfInBounds_toArray, List.set_cons_zero, List.set_cons_succ]
        refine tk 6 qDnK_15 ?_
        try simp only [Act.put, List.setIfInBounds_toArray, List.set_cons_zero, List.set_cons_succ]
        refine wpAnyH_ready (rs := [0, 4]) (by kernel_rfl) (by simp) ?_
        refine AllReadyH.cons (o := qDnK_16) rfl (fun K hK => ?_) ?_
        rotate_left
        refine AllReadyH.cons (o := qDnK_17) rfl (fun K hK => ?_) AllReadyH.nil
        · skip
          have cw := HCW.out
          go_simp
          go_wp2_with fail
          clear cw
          refine hK.out _ _ (by trivial) (fun hHeld => ?_)
          clear hK K
          try simp only [Act.put, List.setIfInBounds_toArray, List.set_cons_zero, List.set_cons_succ]
          refine wpAnyH_ready (rs := [0]) (by kernel_rfl) (by simp) ?_
          refine AllReadyH.cons (o := qDnK_16) rfl (fun K hK => ?_) AllReadyH.nil
          obtain ⟨a0, a1, a2⟩ := HA.out
          go_simp
          go_wp2_with fail
          clear a0 a1 a2
          refine hK.out _ _ (by trivial) (fun hHeld => ?_)
          clear hK K
          try simp only [Act.put, List.setIfInBounds_toArray, List.set_cons_zero, List.set_cons_succ]
          refine wpAnyH_ready (rs := [7]) (by kernel_rfl) (by simp) ?_
          refine AllReadyH.cons (o := qDnK_18) rfl (fun K hK => ?_) AllReadyH.nil
          go_simp
          (go_at_call 23; refine HRUN.out.mono ?_; rintro e w6 ⟨code, err, nn, rfl, hrd, ht6, hg6⟩)
          have HRD := Lib.hid hrd
          have HT6 := Lib.hid ht6
          have HG6 := Lib.hid hg6
          clear hrd ht6 hg6
          go_wp2_with fail
          refine hK.out _ _ (by trivial) (fun hHeld => ?_)
          clear hK K
          try simp only [Act.put, List.setIfInBounds_toArray, List.set_cons_zero, List.set_cons_succ]
          refine tk 8 qDnK_19 ?_
          try simp only [Act.put, List.setIfInBounds_toArray, List.set_cons_zero, List.set_cons_succ]
          refine tk 9 qDnK_20 ?_
          try simp only [Act.put, List.setIfInBounds_toArray, List.set_cons_zero, List.set_cons_succ]
          refine tk 10 qDnK_21 ?_
          try simp only [Act.put, List.setIfInBounds_toArray, List.set_cons_zero, List.set_cons_succ]
          refine tk 11 qDnK_22 ?_
          try simp only [Act.put, List.setIfInBounds_toArray, List.set_cons_zero, List.set_cons_succ]
          refine tk 12 qDnK_23 ?_
          try simp only [Act.put, List.setIfInBounds_toArray, List.set_cons_zero, List.set_cons_succ]
          refine wpAnyH_done (by kernel_rfl) ?_ _
          clear hHeld
          go_wp2_with fail
          go_returns
          exact HQR.out _ _ _ _ HRD.out HT6.out (grown_trans (grown_below HB5.out.drew) HG6.out)
        · skip
          obtain ⟨a0, a1, a2⟩ := HA.out
          go_simp
          go_wp2_with fail
          clear a0 a1 a2
          refine hK.out _ _ (by trivial) (fun hHeld => ?_)
          clear hK K
          try simp only [Act.put, List.setIfInBounds_toArray, List.set_cons_zero, List.set_cons_succ]
          refine wpAnyH_ready (rs := [4]) (by kernel_rfl) (by simp) ?_
          refine AllReadyH.cons (o := qDnK_17) rfl (fun K hK => ?_) AllReadyH.nil
          have cw := HCW.out
          go_simp
          go_wp2_with fail
          clear cw
          refine hK.out _ _ (by trivial) (fun hHeld => ?_)
          clear hK K
          try simp only [Act.put, List.setIfInBounds_toArray, List.set_cons_zero, List.set_cons_succ]
          refine wpAnyH_ready (rs := [7]) (by kernel_rfl) (by simp) ?_
          refine AllReadyH.cons (o := qDnK_18) rfl (fun K hK => ?_) AllReadyH.nil
          go_simp
          (go_at_call 23; refine HRUN.out.mono ?_; rintro e w6 ⟨code, err, nn, rfl, hrd, ht6, hg6⟩)
          have HRD := Lib.hid hrd
          have HT6 := Lib.hid ht6
          have HG6 := Lib.hid hg6
          clear hrd ht6 hg6
          go_wp2_with fail
          refine hK.out _ _ (by trivial) (fun hHeld => ?_)
          clear hK K
          try simp only [Act.put, List.setIfInBounds_toArray, List.set_cons_zero, List.set_cons_succ]
          refine tk 8 qDnK_19 ?_
          try simp only [Act.put, List.setIfInBounds_toArray, List.set_cons_zero, List.set_cons_succ]
          refine tk 9 qDnK_20 ?_
          try simp only [Act.put, List.setIfInBounds_toArray, List.set_cons_zero, List.set_cons_succ]
          refine tk 10 qDnK_21 ?_
          try simp only [Act.put, List.setIfInBounds_toArray, List.set_cons_zero, List.set_cons_succ]
          refine tk 11 qDnK_22 ?_
          try simp only [Act.put, List.setIfInBounds_toArray, List.set_cons_zero, List.set_cons_succ]
          refine tk 12 qDnK_23 ?_
          try simp only [Act.put, List.setIfInBounds_toArray, List.set_cons_zero, List.set_cons_succ]
          refine wpAnyH_done (by kernel_rfl) ?_ _
          clear hHeld
          go_wp2_with fail
          go_returns
          exact HQR.out _ _ _ _ HRD.out HT6.out (grown_trans (grown_below HB5.out.drew) HG6.out)
      · skip
        have hlk := HLK.out (w.alloc (.map (utab 4) 4)).drew w.heap.size (heap_alloc_new w _)
        go_simp
        try rw [hlk]
        go_wp2_with fail
        clear hlk
        refine hK.out _ _ (by trivial) (fun hHeld => ?_)
        clear hK K
        try simp only [Act.put, List.setIfInBounds_toArray, List.set_cons_zero, List.set_cons_succ]
        refine tk 5 qDnK_6 ?_
        try simp only [Act.put, List.setIfInBounds_toArray, List.set_cons_zero, List.set_cons_succ]
        refine tk 6 qDnK_7 ?_
        try simp only [Act.put, List.setIfInBounds_toArray, List.set_cons_zero, List.set_cons_succ]
        refine tk 7 qDnK_8 ?_
        try simp only [Act.put, List.setIfInBounds_toArray, List.set_cons_zero, List.set_cons_succ]
        refine wpAnyH_ready (rs := [8]) (by kernel_rfl) (by simp) ?_
        refine AllReadyH.cons (o := qDnK_4) rfl (fun K hK => ?_) AllReadyH.nil
        go_simp
        go_wp2_with fail
        refine hK.out _ _ (by trivial) (fun hHeld => ?_)
        clear hK K
        try simp only [Act.put, List.setIfInBounds_toArray, List.set_cons_zero, List.set_cons_succ]
        refine wpAnyH_ready (rs := [9]) (by kernel_rfl) (by simp) ?_
        refine AllReadyH.cons (o := qDnK_9) rfl (fun K hK => ?_) AllReadyH.nil
        go_simp
        go_wp2_with fail
        refine hK.out _ _ (by trivial) (fun hHeld => ?_)
        clear hK K
        try simp only [Act.put, List.setIfInBounds_toArray, List.set_cons_zero, List.set_cons_succ]
        refine tk 10 qDnK_10 ?_
        try simp only [Act.put, List.setIfInBounds_toArray, List.set_cons_zero, List.set_cons_succ]
        refine wpAnyH_done (by kernel_rfl) ?_ _
        clear hHeld
        have HV : Hid (((w.alloc (.map (utab 4) 4)).alloc (.cells #[.string x0, .int .u8 x1, .func (.func fi) #[] #[]] 52)).drew.heap[(w.heap.size + 1)]? = some (.cells #[.string x0, .int .u8 x1, .func (.func fi) #[] #[]] 52 (0, 0))) := Lib.hid (by show ((w.alloc (.map (utab 4) 4)).alloc (.cells #[.string x0, .int .u8 x1, .func (.func fi) #[] #[]] 52)).heap[w.heap.size + 1]? = _; simpa using heap_alloc_new (w.alloc (.map (utab 4) 4)) (.cells #[.string x0, .int .u8 x1, .func (.func fi) #[] #[]] 52))
        have HB : Hid (Below w.heap.size w ((w.alloc (.map (utab 4) 4)).alloc (.cells #[.string x0, .int .u8 x1, .func (.func fi) #[] #[]] 52)).drew) := Lib.hid ((below_alloc (below_alloc (Below.refl _ _))).drew)
        generalize ((w.alloc (.map (utab 4) 4)).alloc (.cells #[.string x0, .int .u8 x1, .func (.func fi) #[] #[]] 52)).drew = W1 at *
        go_wp2_with fail
        refine (disNone_any (HT.out.kept HB.out) hG.well (tree_girth2 hG (by omega)) hG.kind).mono ?_
        rintro e w5 ⟨rfl, hb5⟩
        have HB5 : Hid (Below w.heap.size w w5) := Lib.hid (HB.out.trans (hb5.mono HB.out.size))
        have HB5d : Hid (Below w.heap.size w w5.drew) := Lib.hid HB5.out.drew
        have HA : Hid (w5.drew.cell? ⟨(w.heap.size + 1), 0, none⟩ = some (.string x0) ∧ w5.drew.cell? ⟨(w.heap.size + 1), 1, none⟩ = some (.int .u8 x1) ∧ w5.drew.cell? ⟨(w.heap.size + 1), 2, none⟩ = some (.func (.func fi) #[] #[])) := Lib.hid ⟨cell_kept hb5.drew (by rw [cell_of_row _ _ 0 _ _ _ HV.out]; rfl), cell_kept hb5.drew (by rw [cell_of_row _ _ 1 _ _ _ HV.out]; rfl), cell_kept hb5.drew (by rw [cell_of_row _ _ 2 _ _ _ HV.out]; rfl)⟩
        have HCW : Hid (w5.drew.cell? ⟨bb, oo, none⟩ = some (.string s)) := Lib.hid (cell_kept HB5d.out hc0)
        have HRUN := Lib.hid (HRN.out _ _ HB5d.out ((pl_tail HX.out).grown HB5d.out))
        clear hb5
        generalize hpa : (if c = 1 then some (⟨bb, oo, none⟩ : Addr) else some ⟨bb, oo + 1, none⟩) = pa at *
        go_upto_region 6 with fail
        refine wp_region_held_drew (S := (fun _ => True)) (by kernel_rfl) trivial (fun hHeld => ?_)
        refine tk 1 qDnK_11 ?_
        try simp only [Act.put, List.setIfInBounds_toArray, List.set_cons_zero, List.set_cons_succ]
        refine tk 2 qDnK_12 ?_
        try simp only [Act.put, List.setIfInBounds_toArray, List.set_cons_zero, List.set_cons_succ]
        refine tk 3 qDnK_13 ?_
        try simp only [Act.put, List.setIfInBounds_toArray, List.set_cons_zero, List.set_cons_succ]
        refine tk 5 qDnK_14 ?_
        try simp only [Act.put, List.setIfInBounds_toArray, List.set_cons_zero, List.set_cons_succ]
        refine tk 6 qDnK_15 ?_
        try simp only [Act.put, List.setIfInBounds_toArray, List.set_cons_zero, List.set_cons_succ]
        refine wpAnyH_ready (rs := [0, 4]) (by kernel_rfl) (by simp) ?_
        refine AllReadyH.cons (o := qDnK_16) rfl (fun K hK => ?_) ?_
        rotate_left
        refine AllReadyH.cons (o := qDnK_17) rfl (fun K hK => ?_) AllReadyH.nil
        · skip
          have cw := HCW.out
          go_simp
          go_wp2_with fail
          clear cw
          refine hK.out _ _ (by trivial) (fun hHeld => ?_)
          clear hK K
          try simp only [Act.put, List.setIfInBounds_toArray, List.set_cons_zero, List.set_cons_succ]
          refine wpAnyH_ready (rs := [0]) (by kernel_rfl) (by simp) ?_
          refine AllReadyH.cons (o := qDnK_16) rfl (fun K hK => ?_) AllReadyH.nil
          obtain ⟨a0, a1, a2⟩ := HA.out
          go_simp
          go_wp2_with fail
          clear a0 a1 a2
          refine hK.out _ _ (by trivial) (fun hHeld => ?_)
          clear hK K
          try simp only [Act.put, List.setIfInBounds_toArray, List.set_cons_zero, List.set_cons_succ]
          refine wpAnyH_ready (rs := [7]) (by kernel_rfl) (by simp) ?_
          refine AllReadyH.cons (o := qDnK_18) rfl (fun K hK => ?_) AllReadyH.nil
          go_simp
          (go_at_call 23; refine HRUN.out.mono ?_; rintro e w6 ⟨code, err, nn, rfl, hrd, ht6, hg6⟩)
          have HRD := Lib.hid hrd
          have HT6 := Lib.hid ht6
          have HG6 := Lib.hid hg6
          clear hrd ht6 hg6
          go_wp2_with fail
          refine hK.out _ _ (by trivial) (fun hHeld => ?_)
          clear hK K
          try simp only [Act.put, List.setIfInBounds_toArray, List.set_cons_zero, List.set_cons_succ]
          refine tk 8 qDnK_19 ?_
          try simp only [Act.put, List.setIfInBounds_toArray, List.set_cons_zero, List.set_cons_succ]
          refine tk 9 qDnK_20 ?_
          try simp only [Act.put, List.setIfInBounds_toArray, List.set_cons_zero, List.set_cons_succ]
          refine tk 10 qDnK_21 ?_
          try simp only [Act.put, List.setIfInBounds_toArray, List.set_cons_zero, List.set_cons_succ]
          refine tk 11 qDnK_22 ?_
          try simp only [Act.put, List.setIfInBounds_toArray, List.set_cons_zero, List.set_cons_succ]
          refine tk 12 qDnK_23 ?_
          try simp only [Act.put, List.setIfInBounds_toArray, List.set_cons_zero, List.set_cons_succ]
          refine wpAnyH_done (by kernel_rfl) ?_ _
          clear hHeld
          go_wp2_with fail
          go_returns
          exact HQR.out _ _ _ _ HRD.out HT6.out (grown_trans (grown_below HB5.out.drew) HG6.out)
        · skip
          obtain ⟨a0, a1, a2⟩ := HA.out
          go_simp
          go_wp2_with fail
          clear a0 a1 a2
          refine hK.out _ _ (by trivial) (fun hHeld => ?_)
          clear hK K
          try simp only [Act.put, List.setIfInBounds_toArray, List.set_cons_zero, List.set_cons_succ]
          refine wpAnyH_ready (rs := [4]) (by kernel_rfl) (by simp) ?_
          refine AllReadyH.cons (o := qDnK_17) rfl (fun K hK => ?_) AllReadyH.nil
          have cw := HCW.out
          go_simp
          go_wp2_with fail
          clear cw
          refine hK.out _ _ (by trivial) (fun hHeld => ?_)
          clear hK K
          try simp only [Act.put, List.setIfInBounds_toArray, List.set_cons_zero, List.set_cons_succ]
          refine wpAnyH_ready (rs := [7]) (by kernel_rfl) (by simp) ?_
          refine AllReadyH.cons (o := qDnK_18) rfl (fun K hK => ?_) AllReadyH.nil
          go_simp
          (go_at_call 23; refine HRUN.out.mono ?_; rintro e w6 ⟨code, err, nn, rfl, hrd, ht6, hg6⟩)
          have HRD := Lib.hid hrd
          have HT6 := Lib.hid ht6
          have HG6 := Lib.hid hg6
          clear hrd ht6 hg6
          go_wp2_with fail
          refine hK.out _ _ (by trivial) (fun hHeld => ?_)
          clear hK K
          try simp only [Act.put, List.setIfInBounds_toArray, List.set_cons_zero, List.set_cons_succ]
          refine tk 8 qDnK_19 ?_
          try simp only [Act.put, List.setIfInBounds_toArray, List.set_cons_zero, List.set_cons_succ]
          refine tk 9 qDnK_20 ?_
          try simp only [Act.put, List.setIfInBounds_toArray, List.set_cons_zero, List.set_cons_succ]
          refine tk 10 qDnK_21 ?_
          try simp only [Act.put, List.setIfInBounds_toArray, List.set_cons_zero, List.set_cons_succ]
          refine tk 11 qDnK_22 ?_
          try simp only [Act.put, List.setIfInBounds_toArray, List.set_cons_zero, List.set_cons_succ]
          refine tk 12 qDnK_23 ?_
          try simp only [Act.put, List.setIfInBounds_toArray, List.set_cons_zero, List.set_cons_succ]
          refine wpAnyH_done (by kernel_rfl) ?_ _
          clear hHeld
          go_wp2_with fail
          go_returns
          exact HQR.out _ _ _ _ HRD.out HT6.out (grown_trans (grown_below HB5.out.drew) HG6.out)
  · skip
    have cw := HC0.out w.drew ((Below.refl _ _).drew)
    go_simp
    go_wp2_with fail
    clear cw
    refine hK.out _ _ (by trivial) (fun hHeld => ?_)
    clear hK K
    try simp only [Act.put, List.setIfInBounds_toArray, List.set_cons_zero, List.set_cons_succ]
    refine wpAnyH_ready (rs := [0, 8]) (by kernel_rfl) (by simp) ?_
    refine AllReadyH.cons (o := qDnK_2) rfl (fun K hK => ?_) ?_
    rotate_left
    refine AllReadyH.cons (o := qDnK_4) rfl (fun K hK => ?_) AllReadyH.nil
    · skip
      go_simp
      go_wp2_with fail
      refine hK.out _ _ (by trivial) (fun hHeld => ?_)
      clear hK K
      try simp only [Act.put, List.setIfInBounds_toArray, List.set_cons_zero, List.set_cons_succ]
      refine wpAnyH_ready (rs := [0]) (by kernel_rfl) (by simp) ?_
      refine AllReadyH.cons (o := qDnK_2) rfl (fun K hK => ?_) AllReadyH.nil
      go_simp
      (go_at_call 21; refine (utilities_any _).mono ?_; rintro e wm ⟨rfl, rfl⟩)
      go_wp2_with fail
      refine hK.out _ _ (by trivial) (fun hHeld => ?_)
      clear hK K
      try simp only [Act.put, List.setIfInBounds_toArray, List.set_cons_zero, List.set_cons_succ]
      refine wpAnyH_ready (rs := [4]) (by kernel_rfl) (by simp) ?_
      refine AllReadyH.cons (o := qDnK_5) rfl (fun K hK => ?_) AllReadyH.nil
      have hlk := HLK.out ((w.alloc (.cells #[.string ⟨#[]⟩, .int .u8 0, .nilFunc] 52)).alloc (.map (utab 4) 4)).drew (w.heap.size + 1) (by show ((w.alloc (.cells #[.string ⟨#[]⟩, .int .u8 0, .nilFunc] 52)).alloc (.map (utab 4) 4)).heap[w.heap.size + 1]? = _; simpa using heap_alloc_new (w.alloc (.cells #[.string ⟨#[]⟩, .int .u8 0, .nilFunc] 52)) (.map (utab 4) 4))
      go_simp
      try rw [hlk]
      go_wp2_with fail
      clear hlk
      refine hK.out _ _ (by trivial) (fun hHeld => ?_)
      clear hK K
      try simp only [Act.put, List.setIfInBounds_toArray, List.set_cons_zero, List.set_cons_succ]
      refine tk 5 qDnK_6 ?_
      try simp only [Act.put, List.setIfInBounds_toArray, List.set_cons_zero, List.set_cons_succ]
      refine tk 6 qDnK_7 ?_
      try simp only [Act.put, List.setIfInBounds_toArray, List.set_cons_zero, List.set_cons_succ]
      refine tk 7 qDnK_8 ?_
      try simp only [Act.put, List.setIfInBounds_toArray, List.set_cons_zero, List.set_cons_succ]
      refine wpAnyH_ready (rs := [9]) (by kernel_rfl) (by simp) ?_
      refine AllReadyH.cons (o := qDnK_9) rfl (fun K hK => ?_) AllReadyH.nil
      have hz : ((w.alloc (.cells #[.string ⟨#[]⟩, .int .u8 0, .nilFunc] 52)).alloc (.map (utab 4) 4)).drew.heap[w.heap.size]? = some (.cells #[.string ⟨#[]⟩, .int .u8 0, .nilFunc] 52 (0, 0)) := by show ((w.alloc (.cells #[.string ⟨#[]⟩, .int .u8 0, .nilFunc] 52)).alloc (.map (utab 4) 4)).heap[w.heap.size]? = _; rw [Below.heap_alloc _ _ _ (by simp)]; exact heap_alloc_new w _
      have z0 := frozen_of_row _ w.heap.size 0 _ _ hz
      have z1 := frozen_of_row _ w.heap.size 1 _ _ hz
      have z2 := frozen_of_row _ w.heap.size 2 _ _ hz
      have y0 := cell_of_row _ w.heap.size 0 _ _ _ hz
      have y1 := cell_of_row _ w.heap.size 1 _ _ _ hz
      have y2 := cell_of_row _ w.heap.size 2 _ _ _ hz
      go_simp
      go_wp2_with fail
      clear z0 z1 z2 y0 y1 y2
      refine hK.out _ _ (by trivial) (fun hHeld => ?_)
      clear hK K
      try simp only [Act.put, List.setIfInBounds_toArray, List.set_cons_zero, List.set_cons_succ]
      refine tk 10 qDnK_10 ?_
      try simp only [Act.put, List.setIfInBounds_toArray, List.set_cons_zero, List.set_cons_succ]
      refine wpAnyH_done (by kernel_rfl) ?_ _
      clear hHeld
      have HV : Hid (((w.alloc (.cells #[.string x0, .int .u8 x1, .func (.func fi) #[] #[]] 52)).alloc (.map (utab 4) 4)).drew.heap[w.heap.size]? = some (.cells #[.string x0, .int .u8 x1, .func (.func fi) #[] #[]] 52 (0, 0))) := Lib.hid (by show ((w.alloc (.cells #[.string x0, .int .u8 x1, .func (.func fi) #[] #[]] 52)).alloc (.map (utab 4) 4)).heap[w.heap.size]? = _; rw [Below.heap_alloc _ _ _ (by simp)]; exact heap_alloc_new w _)
      have HB : Hid (Below w.heap.size w ((w.alloc (.cells #[.string x0, .int .u8 x1, .func (.func fi) #[] #[]] 52)).alloc (.map (utab 4) 4)).drew) := Lib.hid ((below_alloc (below_alloc (Below.refl _ _))).drew)
      generalize ((w.alloc (.cells #[.string x0, .int .u8 x1, .func (.func fi) #[] #[]] 52)).alloc (.map (utab 4) 4)).drew = W1 at *
      try clear hz
      go_wp2_with fail
      refine (disNone_any (HT.out.kept HB.out) hG.well (tree_girth2 hG (by omega)) hG.kind).mono ?_
      rintro e w5 ⟨rfl, hb5⟩
      have HB5 : Hid (Below w.heap.size w w5) := Lib.hid (HB.out.trans (hb5.mono HB.out.size))
      have HB5d : Hid (Below w.heap.size w w5.drew) := Lib.hid HB5.out.drew
      have HA : Hid (w5.drew.cell? ⟨w.heap.size, 0, none⟩ = some (.string x0) ∧ w5.drew.cell? ⟨w.heap.size, 1, none⟩ = some (.int .u8 x1) ∧ w5.drew.cell? ⟨w.heap.size, 2, none⟩ = some (.func (.func fi) #[] #[])) := Lib.hid ⟨cell_kept hb5.drew (by rw [cell_of_row _ _ 0 _ _ _ HV.out]; rfl), cell_kept hb5.drew (by rw [cell_of_row _ _ 1 _ _ _ HV.out]; rfl), cell_kept hb5.drew (by rw [cell_of_row _ _ 2 _ _ _ HV.out]; rfl)⟩
      have HCW : Hid (w5.drew.cell? ⟨bb, oo, none⟩ = some (.string s)) := Lib.hid (cell_kept HB5d.out hc0)
      have HRUN := Lib.hid (HRN.out _ _ HB5d.out ((pl_tail HX.out).grown HB5d.out))
      clear hb5
      generalize hpa : (if c = 1 then some (⟨bb, oo, none⟩ : Addr) else some ⟨bb, oo + 1, none⟩) = pa at *
      go_upto_region 6 with fail
      refine wp_region_held_drew (S := (fun _ => True)) (by kernel_rfl) trivial (fun hHeld => ?_)
      refine tk 1 qDnK_11 ?_
      try simp only [Act.put, List.setIfInBounds_toArray, List.set_cons_zero, List.set_cons_succ]
      refine tk 2 qDnK_12 ?_
      try simp only [Act.put, List.setIfInBounds_toArray, List.set_cons_zero, List.set_cons_succ]
      refine tk 3 qDnK_13 ?_
      try simp only [Act.put, List.setIfInBounds_toArray, List.set_cons_zero, List.set_cons_succ]
      refine tk 5 qDnK_14 ?_
      try simp only [Act.put, List.setIfInBounds_toArray, List.set_cons_zero, List.set_cons_succ]
      refine tk 6 qDnK_15 ?_
      try simp only [Act.put, List.setIfInBounds_toArray, List.set_cons_zero, List.set_cons_succ]
      refine wpAnyH_ready (rs := [0, 4]) (by kernel_rfl) (by simp) ?_
      refine AllReadyH.cons (o := qDnK_16) rfl (fun K hK => ?_) ?_
      rotate_left
      refine AllReadyH.cons (o := qDnK_17) rfl (fun K hK => ?_) AllReadyH.nil
      · skip
        have cw := HCW.out
        go_simp
        go_wp2_with fail
        clear cw
        refine hK.out _ _ (by trivial) (fun hHeld => ?_)
        clear hK K
        try simp only [Act.put, List.setIfInBounds_toArray, List.set_cons_zero, List.set_cons_succ]
        refine wpAnyH_ready (rs := [0]) (by kernel_rfl) (by simp) ?_
        refine AllReadyH.cons (o := qDnK_16) rfl (fun K hK => ?_) AllReadyH.nil
        obtain ⟨a0, a1, a2⟩ := HA.out
        go_simp
        go_wp2_with fail
        clear a0 a1 a2
        refine hK.out _ _ (by trivial) (fun hHeld => ?_)
        clear hK K
        try simp only [Act.put, List.setIfInBounds_toArray, List.set_cons_zero, List.set_cons_succ]
        refine wpAnyH_ready (rs := [7]) (by kernel_rfl) (by simp) ?_
        refine AllReadyH.cons (o := qDnK_18) rfl (fun K hK => ?_) AllReadyH.nil
        go_simp
        (go_at_call 23; refine HRUN.out.mono ?_; rintro e w6 ⟨code, err, nn, rfl, hrd, ht6, hg6⟩)
        have HRD := Lib.hid hrd
        have HT6 := Lib.hid ht6
        have HG6 := Lib.hid hg6
        clear hrd ht6 hg6
        go_wp2_with fail
        refine hK.out _ _ (by trivial) (fun hHeld => ?_)
        clear hK K
        try simp only [Act.put, List.setIfInBounds_toArray, List.set_cons_zero, List.set_cons_succ]
        refine tk 8 qDnK_19 ?_
        try simp only [Act.put, List.setIfInBounds_toArray, List.set_cons_zero, List.set_cons_succ]
        refine tk 9 qDnK_20 ?_
        try simp only [Act.put, List.setIfInBounds_toArray, List.set_cons_zero, List.set_cons_succ]
        refine tk 10 qDnK_21 ?_
        try simp only [Act.put, List.setIfInBounds_toArray, List.set_cons_zero, List.set_cons_succ]
        refine tk 11 qDnK_22 ?_
        try simp only [Act.put, List.setIfInBounds_toArray, List.set_cons_zero, List.set_cons_succ]
        refine tk 12 qDnK_23 ?_
        try simp only [Act.put, List.setIfInBounds_toArray, List.set_cons_zero, List.set_cons_succ]
        refine wpAnyH_done (by kernel_rfl) ?_ _
        clear hHeld
        go_wp2_with fail
        go_returns
        exact HQR.out _ _ _ _ HRD.out HT6.out (grown_trans (grown_below HB5.out.drew) HG6.out)
      · skip
        obtain ⟨a0, a1, a2⟩ := HA.out
        go_simp
        go_wp2_with fail
        clear a0 a1 a2
        refine hK.out _ _ (by trivial) (fun hHeld => ?_)
        clear hK K
        try simp only [Act.put, List.setIfInBounds_toArray, List.set_cons_zero, List.set_cons_succ]
        refine wpAnyH_ready (rs := [4]) (by kernel_rfl) (by simp) ?_
        refine AllReadyH.cons (o := qDnK_17) rfl (fun K hK => ?_) AllReadyH.nil
        have cw := HCW.out
        go_simp
        go_wp2_with fail
        clear cw
        refine hK.out _ _ (by trivial) (fun hHeld => ?_)
        clear hK K
        try simp only [Act.put, List.setIfInBounds_toArray, List.set_cons_zero, List.set_cons_succ]
        refine wpAnyH_ready (rs := [7]) (by kernel_rfl) (by simp) ?_
        refine AllReadyH.cons (o := qDnK_18) rfl (fun K hK => ?_) AllReadyH.nil
        go_simp
        (go_at_call 23; refine HRUN.out.mono ?_; rintro e w6 ⟨code, err, nn, rfl, hrd, ht6, hg6⟩)
        have HRD := Lib.hid hrd
        have HT6 := Lib.hid ht6
        have HG6 := Lib.hid hg6
        clear hrd ht6 hg6
        go_wp2_with fail
        refine hK.out _ _ (by trivial) (fun hHeld => ?_)
        clear hK K
        try simp only [Act.put, List.setIfInBounds_toArray, List.set_cons_zero, List.set_cons_succ]
        refine tk 8 qDnK_19 ?_
        try simp only [Act.put, List.setIfInBounds_toArray, List.set_cons_zero, List.set_cons_succ]
        refine tk 9 qDnK_20 ?_
        try simp only [Act.put, List.setIfInBounds_toArray, List.set_cons_zero, List.set_cons_succ]
        refine tk 10 qDnK_21 ?_
        try simp only [Act.put, List.setIfInBounds_toArray, List.set_cons_zero, List.set_cons_succ]
        refine tk 11 qDnK_22 ?_
        try simp only [Act.put, List.setIfInBounds_toArray, List.set_cons_zero, List.set_cons_succ]
        refine tk 12 qDnK_23 ?_
        try simp only [Act.put, List.setIfInBounds_toArray, List.set_cons_zero, List.set_cons_succ]
        refine wpAnyH_done (by kernel_rfl) ?_ _
        clear hHeld
        go_wp2_with fail
        go_returns
        exact HQR.out _ _ _ _ HRD.out HT6.out (grown_trans (grown_below HB5.out.drew) HG6.out)
    · skip
      go_simp
      (go_at_call 21; refine (utilities_any _).mono ?_; rintro e wm ⟨rfl, rfl⟩)
      go_wp2_with fail
      refine hK.out _ _ (by trivial) (fun hHeld => ?_)
      clear hK K
      try simp only [Act.put, List.setIfInBounds_toArray, List.set_cons_zero, List.set_cons_succ]
      refine wpAnyH_ready (rs := [4, 8]) (by kernel_rfl) (by simp) ?_
      refine AllReadyH.cons (o := qDnK_5) rfl (fun K hK => ?_) ?_
      rotate_left
      refine AllReadyH.cons (o := qDnK_4) rfl (fun K hK => ?_) AllReadyH.nil
      · skip
        go_simp
        go_wp2_with fail
        refine hK.out _ _ (by trivial) (fun hHeld => ?_)
        clear hK K
        try simp only [Act.put, List.setIfInBounds_toArray, List.set_cons_zero, List.set_cons_succ]
        refine wpAnyH_ready (rs := [4]) (by kernel_rfl) (by simp) ?_
        refine AllReadyH.cons (o := qDnK_5) rfl (fun K hK => ?_) AllReadyH.nil
        have hlk := HLK.out ((w.alloc (.map (utab 4) 4)).alloc (.cells #[.string ⟨#[]⟩, .int .u8 0, .nilFunc] 52)).drew w.heap.size (by show ((w.alloc (.map (utab 4) 4)).alloc (.cells #[.string ⟨#[]⟩, .int .u8 0, .nilFunc] 52)).heap[w.heap.size]? = _; rw [Below.heap_alloc _ _ _ (by simp)]; exact heap_alloc_new w _)
        go_simp
        try rw [hlk]
        go_wp2_with fail
        clear hlk
        refine hK.out _ _ (by trivial) (fun hHeld => ?_)
        clear hK K
        try simp only [Act.put, List.setIfInBounds_toArray, List.set_cons_zero, List.set_cons_succ]
        refine tk 5 qDnK_6 ?_
        try simp only [Act.put, List.setIfInBounds_toArray, List.set_cons_zero, List.set_cons_succ]
        refine tk 6 qDnK_7 ?_
        try simp only [Act.put, List.setIfInBounds_toArray, List.set_cons_zero, List.set_cons_succ]
        refine tk 7 qDnK_8 ?_
        try simp only [Act.put, List.setIfInBounds_toArray, List.set_cons_zero, List.set_cons_succ]
        refine wpAnyH_ready (rs := [9]) (by kernel_rfl) (by simp) ?_
        refine AllReadyH.cons (o := qDnK_9) rfl (fun K hK => ?_) AllReadyH.nil
        go_simp
        go_wp2_with fail
        refine hK.out _ _ (by trivial) (fun hHeld => ?_)
        clear hK K
        try simp only [Act.put, List.setIfInBounds_toArray, List.set_cons_zero, List.set_cons_succ]
        refine tk 10 qDnK_10 ?_
        try simp only [Act.put, List.setIfInBounds_toArray, List.set_cons_zero, List.set_cons_succ]
        refine wpAnyH_done (by kernel_rfl) ?_ _
        clear hHeld
        have HV : Hid (((w.alloc (.map (utab 4) 4)).alloc (.cells #[.string x0, .int .u8 x1, .func (.func fi) #[] #[]] 52)).drew.heap[(w.heap.size + 1)]? = some (.cells #[.string x0, .int .u8 x1, .func (.func fi) #[] #[]] 52 (0, 0))) := Lib.hid (by show ((w.alloc (.map (utab 4) 4)).alloc (.cells #[.string x0, .int .u8 x1, .func (.func fi) #[] #[]] 52)).heap[w.heap.size + 1]? = _; simpa using heap_alloc_new (w.alloc (.map (utab 4) 4)) (.cells #[.string x0, .int .u8 x1, .func (.func fi) #[] #[]] 52))
        have HB : Hid (Below w.heap.size w ((w.alloc (.map (utab 4) 4)).alloc (.cells #[.string x0, .int .u8 x1, .func (.func fi) #[] #[]] 52)).drew) := Lib.hid ((below_alloc (below_alloc (Below.refl _ _))).drew)
        generalize ((w.alloc (.map (utab 4) 4)).alloc (.cells #[.string x0, .int .u8 x1, .func (.func fi) #[] #[]] 52)).drew = W1 at *
        go_wp2_with fail
        refine (disNone_any (HT.out.kept HB.out) hG.well (tree_girth2 hG (by omega)) hG.kind).mono ?_
        rintro e w5 ⟨rfl, hb5⟩
        have HB5 : Hid (Below w.heap.size w w5) := Lib.hid (HB.out.trans (hb5.mono HB.out.size))
        have HB5d : Hid (Below w.heap.size w w5.drew) := Lib.hid HB5.out.drew
        have HA : Hid (w5.drew.cell? ⟨(w.heap.size + 1), 0, none⟩ = some (.string x0) ∧ w5.drew.cell? ⟨(w.heap.size + 1), 1, none⟩ = some (.int .u8 x1) ∧ w5.drew.cell? ⟨(w.heap.size + 1), 2, none⟩ = some (.func (.func fi) #[] #[])) := Lib.hid ⟨cell_kept hb5.drew (by rw [cell_of_row _ _ 0 _ _ _ HV.out]; rfl), cell_kept hb5.drew (by rw [cell_of_row _ _ 1 _ _ _ HV.out]; rfl), cell_kept hb5.drew (by rw [cell_of_row _ _ 2 _ _ _ HV.out]; rfl)⟩
        have HCW : Hid (w5.drew.cell? ⟨bb, oo, none⟩ = some (.string s)) := Lib.hid (cell_kept HB5d.out hc0)
        have HRUN := Lib.hid (HRN.out _ _ HB5d.out ((pl_tail HX.out).grown HB5d.out))
        clear hb5
        generalize hpa : (if c = 1 then some (⟨bb, oo, none⟩ : Addr) else some ⟨bb, oo + 1, none⟩) = pa at *
        go_upto_region 6 with fail
        refine wp_region_held_drew (S := (fun _ => True)) (by kernel_rfl) trivial (fun hHeld => ?_)
        refine tk 1 qDnK_11 ?_
        try simp only [Act.put, List.setIfInBounds_toArray, List.set_cons_zero, List.set_cons_succ]
        refine tk 2 qDnK_12 ?_
        try simp only [Act.put, List.setIfInBounds_toArray, List.set_cons_zero, List.set_cons_succ]
        refine tk 3 qDnK_13 ?_
        try simp only [Act.put, List.setIfInBounds_toArray, List.set_cons_zero, List.set_cons_succ]
        refine tk 5 qDnK_14 ?_
        try simp only [Act.put, List.setIfInBounds_toArray, List.set_cons_zero, List.set_cons_succ]
        refine tk 6 qDnK_15 ?_
        try simp only [Act.put, List.setIfInBounds_toArray, List.set_cons_zero, List.set_cons_succ]
        refine wpAnyH_ready (rs := [0, 4]) (by kernel_rfl) (by simp) ?_
        refine AllReadyH.cons (o := qDnK_16) rfl (fun K hK => ?_) ?_
        rotate_left
        refine AllReadyH.cons (o := qDnK_17) rfl (fun K hK => ?_) AllReadyH.nil
        · skip
          have cw := HCW.out
          go_simp
          go_wp2_with fail
          clear cw
          refine hK.out _ _ (by trivial) (fun hHeld => ?_)
          clear hK K
          try simp only [Act.put, List.setIfInBounds_toArray, List.set_cons_zero, List.set_cons_succ]
          refine wpAnyH_ready (rs := [0]) (by kernel_rfl) (by simp) ?_
          refine AllReadyH.cons (o := qDnK_16) rfl (fun K hK => ?_) AllReadyH.nil
          obtain ⟨a0, a1, a2⟩ := HA.out
          go_simp
          go_wp2_with fail
          clear a0 a1 a2
          refine hK.out _ _ (by trivial) (fun hHeld => ?_)
          clear hK K
          try simp only [Act.put, List.setIfInBounds_toArray, List.set_cons_zero, List.set_cons_succ]
          refine wpAnyH_ready (rs := [7]) (by kernel_rfl) (by simp) ?_
          refine AllReadyH.cons (o := qDnK_18) rfl (fun K hK => ?_) AllReadyH.nil
          go_simp
          (go_at_call 23; refine HRUN.out.mono ?_; rintro e w6 ⟨code, err, nn, rfl, hrd, ht6, hg6⟩)
          have HRD := Lib.hid hrd
          have HT6 := Lib.hid ht6
          have HG6 := Lib.hid hg6
          clear hrd ht6 hg6
          go_wp2_with fail
          refine hK.out _ _ (by trivial) (fun hHeld => ?_)
          clear hK K
          try simp only [Act.put, List.setIfInBounds_toArray, List.set_cons_zero, List.set_cons_succ]
          refine tk 8 qDnK_19 ?_
          try simp only [Act.put, List.setIfInBounds_toArray, List.set_cons_zero, List.set_cons_succ]
          refine tk 9 qDnK_20 ?_
          try simp only [Act.put, List.setIfInBounds_toArray, List.set_cons_zero, List.set_cons_succ]
          refine tk 10 qDnK_21 ?_
          try simp only [Act.put, List.setIfInBounds_toArray, List.set_cons_zero, List.set_cons_succ]
          refine tk 11 qDnK_22 ?_
          try simp only [Act.put, List.setIfInBounds_toArray, List.set_cons_zero, List.set_cons_succ]
          refine tk 12 qDnK_23 ?_
          try simp only [Act.put, List.setIfInBounds_toArray, List.set_cons_zero, List.set_cons_succ]
          refine wpAnyH_done (by kernel_rfl) ?_ _
          clear hHeld
          go_wp2_with fail
          go_returns
          exact HQR.out _ _ _ _ HRD.out HT6.out (grown_trans (grown_below HB5.out.drew) HG6.out)
        · skip
          obtain ⟨a0, a1, a2⟩ := HA.out
          go_simp
          go_wp2_with fail
          clear a0 a1 a2
          refine hK.out _ _ (by trivial) (fun hHeld => ?_)
          clear hK K
          try simp only [Act.put, List.setIfInBounds_toArray, List.set_cons_zero, List.set_cons_succ]
          refine wpAnyH_ready (rs := [4]) (by kernel_rfl) (by simp) ?_
          refine AllReadyH.cons (o := qDnK_17) rfl (fun K hK => ?_) AllReadyH.nil
          have cw := HCW.out
          go_simp
          go_wp2_with fail
          clear cw
          refine hK.out _ _ (by trivial) (fun hHeld => ?_)
          clear hK K
          try simp only [Act.put, List.setIfInBounds_toArray, List.set_cons_zero, List.set_cons_succ]
          refine wpAnyH_ready (rs := [7]) (by kernel_rfl) (by simp) ?_
          refine AllReadyH.cons (o := qDnK_18) rfl (fun K hK => ?_) AllReadyH.nil
          go_simp
          (go_at_call 23; refine HRUN.out.mono ?_; rintro e w6 ⟨code, err, nn, rfl, hrd, ht6, hg6⟩)
          have HRD := Lib.hid hrd
          have HT6 := Lib.hid ht6
          have HG6 := Lib.hid hg6
          clear hrd ht6 hg6
          go_wp2_with fail
          refine hK.out _ _ (by trivial) (fun hHeld => ?_)
          clear hK K
          try simp only [Act.put, List.setIfInBounds_toArray, List.set_cons_zero, List.set_cons_succ]
          refine tk 8 qDnK_19 ?_
          try simp only [Act.put, List.setIfInBounds_toArray, List.set_cons_zero, List.set_cons_succ]
          refine tk 9 qDnK_20 ?_
          try simp only [Act.put, List.setIfInBounds_toArray, List.set_cons_zero, List.set_cons_succ]
          refine tk 10 qDnK_21 ?_
          try simp only [Act.put, List.setIfInBounds_toArray, List.set_cons_zero, List.set_cons_succ]
          refine tk 11 qDnK_22 ?_
          try simp only [Act.put, List.setIfInBounds_toArray, List.set_cons_zero, List.set_cons_succ]
          refine tk 12 qDnK_23 ?_
          try simp only [Act.put, List.setIfInBounds_toArray, List.set_cons_zero, List.set_cons_succ]
          refine wpAnyH_done (by kernel_rfl) ?_ _
          clear hHeld
          go_wp2_with fail
          go_returns
          exact HQR.out _ _ _ _ HRD.out HT6.out (grown_trans (grown_below HB5.out.drew) HG6.out)
      · skip
        have hlk := HLK.out (w.alloc (.map (utab 4) 4)).drew w.heap.size (heap_alloc_new w _)
        go_simp
        try rw [hlk]
        go_wp2_with fail
        clear hlk
        refine hK.out _ _ (by trivial) (fun hHeld => ?_)
        clear hK K
        try simp only [Act.put, List.setIfInBounds_toArray, List.set_cons_zero, List.set_cons_succ]
        refine tk 5 qDnK_6 ?_
        try simp only [Act.put, List.setIfInBounds_toArray, List.set_cons_zero, List.set_cons_succ]
        refine tk 6 qDnK_7 ?_
        try simp only [Act.put, List.setIfInBounds_toArray, List.set_cons_zero, List.set_cons_succ]
        refine tk 7 qDnK_8 ?_
        try simp only [Act.put, List.setIfInBounds_toArray, List.set_cons_zero, List.set_cons_succ]
        refine wpAnyH_ready (rs := [8]) (by kernel_rfl) (by simp) ?_
        refine AllReadyH.cons (o := qDnK_4) rfl (fun K hK => ?_) AllReadyH.nil
        go_simp
        go_wp2_with fail
        refine hK.out _ _ (by trivial) (fun hHeld => ?_)
        clear hK K
        try simp only [Act.put, List.setIfInBounds_toArray, List.set_cons_zero, List.set_cons_succ]
        refine wpAnyH_ready (rs := [9]) (by kernel_rfl) (by simp) ?_
        refine AllReadyH.cons (o := qDnK_9) rfl (fun K hK => ?_) AllReadyH.nil
        go_simp
        go_wp2_with fail
        refine hK.out _ _ (by trivial) (fun hHeld => ?_)
        clear hK K
        try simp only [Act.put, List.setIfInBounds_toArray, List.set_cons_zero, List.set_cons_succ]
        refine tk 10 qDnK_10 ?_
        try simp only [Act.put, List.setIfInBounds_toArray, List.set_cons_zero, List.set_cons_succ]
        refine wpAnyH_done (by kernel_rfl) ?_ _
        clear hHeld
        have HV : Hid (((w.alloc (.map (utab 4) 4)).alloc (.cells #[.string x0, .int .u8 x1, .func (.func fi) #[] #[]] 52)).drew.heap[(w.heap.size + 1)]? = some (.cells #[.string x0, .int .u8 x1, .func (.func fi) #[] #[]] 52 (0, 0))) := Lib.hid (by show ((w.alloc (.map (utab 4) 4)).alloc (.cells #[.string x0, .int .u8 x1, .func (.func fi) #[] #[]] 52)).heap[w.heap.size + 1]? = _; simpa using heap_alloc_new (w.alloc (.map (utab 4) 4)) (.cells #[.string x0, .int .u8 x1, .func (.func fi) #[] #[]] 52))
        have HB : Hid (Below w.heap.size w ((w.alloc (.map (utab 4) 4)).alloc (.cells #[.string x0, .int .u8 x1, .func (.func fi) #[] #[]] 52)).drew) := Lib.hid ((below_alloc (below_alloc (Below.refl _ _))).drew)
        generalize ((w.alloc (.map (utab 4) 4)).alloc (.cells #[.string x0, .int .u8 x1, .func (.func fi) #[] #[]] 52)).drew = W1 at *
        go_wp2_with fail
        refine (disNone_any (HT.out.kept HB.out) hG.well (tree_girth2 hG (by omega)) hG.kind).mono ?_
        rintro e w5 ⟨rfl, hb5⟩
        have HB5 : Hid (Below w.heap.size w w5) := Lib.hid (HB.out.trans (hb5.mono HB.out.size))
        have HB5d : Hid (Below w.heap.size w w5.drew) := Lib.hid HB5.out.drew
        have HA : Hid (w5.drew.cell? ⟨(w.heap.size + 1), 0, none⟩ = some (.string x0) ∧ w5.drew.cell? ⟨(w.heap.size + 1), 1, none⟩ = some (.int .u8 x1) ∧ w5.drew.cell? ⟨(w.heap.size + 1), 2, none⟩ = some (.func (.func fi) #[] #[])) := Lib.hid ⟨cell_kept hb5.drew (by rw [cell_of_row _ _ 0 _ _ _ HV.out]; rfl), cell_kept hb5.drew (by rw [cell_of_row _ _ 1 _ _ _ HV.out]; rfl), cell_kept hb5.drew (by rw [cell_of_row _ _ 2 _ _ _ HV.out]; rfl)⟩
        have HCW : Hid (w5.drew.cell? ⟨bb, oo, none⟩ = some (.string s)) := Lib.hid (cell_kept HB5d.out hc0)
        have HRUN := Lib.hid (HRN.out _ _ HB5d.out ((pl_tail HX.out).grown HB5d.out))
        clear hb5
        generalize hpa : (if c = 1 then some (⟨bb, oo, none⟩ : Addr) else some ⟨bb, oo + 1, none⟩) = pa at *
        go_upto_region 6 with fail
        refine wp_region_held_drew (S := (fun _ => True)) (by kernel_rfl) trivial (fun hHeld => ?_)
        refine tk 1 qDnK_11 ?_
        try simp only [Act.put, List.setIfInBounds_toArray, List.set_cons_zero, List.set_cons_succ]
        refine tk 2 qDnK_12 ?_
        try simp only [Act.put, List.setIfInBounds_toArray, List.set_cons_zero, List.set_cons_succ]
        refine tk 3 qDnK_13 ?_
        try simp only [Act.put, List.setIfInBounds_toArray, List.set_cons_zero, List.set_cons_succ]
        refine tk 5 qDnK_14 ?_
        try simp only [Act.put, List.setIfInBounds_toArray, List.set_cons_zero, List.set_cons_succ]
        refine tk 6 qDnK_15 ?_
        try simp only [Act.put, List.setIfInBounds_toArray, List.set_cons_zero, List.set_cons_succ]
        refine wpAnyH_ready (rs := [0, 4]) (by kernel_rfl) (by simp) ?_
        refine AllReadyH.cons (o := qDnK_16) rfl (fun K hK => ?_) ?_
        rotate_left
        refine AllReadyH.cons (o := qDnK_17) rfl (fun K hK => ?_) AllReadyH.nil
        · skip
          have cw := HCW.out
          go_simp
          go_wp2_with fail
          clear cw
          refine hK.out _ _ (by trivial) (fun hHeld => ?_)
          clear hK K
          try simp only [Act.put, List.setIfInBounds_toArray, List.set_cons_zero, List.set_cons_succ]
          refine wpAnyH_ready (rs := [0]) (by kernel_rfl) (by simp) ?_
          refine AllReadyH.cons (o := qDnK_16) rfl (fun K hK => ?_) AllReadyH.nil
          obtain ⟨a0, a1, a2⟩ := HA.out
          go_simp
          go_wp2_with fail
          clear a0 a1 a2
          refine hK.out _ _ (by trivial) (fun hHeld => ?_)
          clear hK K
          try simp only [Act.put, List.setIfInBounds_toArray, List.set_cons_zero, List.set_cons_succ]
          refine wpAnyH_ready (rs := [7]) (by kernel_rfl) (by simp) ?_
          refine AllReadyH.cons (o := qDnK_18) rfl (fun K hK => ?_) AllReadyH.nil
          go_simp
          (go_at_call 23; refine HRUN.out.mono ?_; rintro e w6 ⟨code, err, nn, rfl, hrd, ht6, hg6⟩)
          have HRD := Lib.hid hrd
          have HT6 := Lib.hid ht6
          have HG6 := Lib.hid hg6
          clear hrd ht6 hg6
          go_wp2_with fail
          refine hK.out _ _ (by trivial) (fun hHeld => ?_)
          clear hK K
          try simp only [Act.put, List.setIfInBounds_toArray, List.set_cons_zero, List.set_cons_succ]
          refine tk 8 qDnK_19 ?_
          try simp only [Act.put, List.setIfInBounds_toArray, List.set_cons_zero, List.set_cons_succ]
          refine tk 9 qDnK_20 ?_
          try simp only [Act.put, List.setIfInBounds_toArray, List.set_cons_zero, List.set_cons_succ]
          refine tk 10 qDnK_21 ?_
          try simp only [Act.put, List.setIfInBounds_toArray, List.set_cons_zero, List.set_cons_succ]
          refine tk 11 qDnK_22 ?_
          try simp only [Act.put, List.setIfInBounds_toArray, List.set_cons_zero, List.set_cons_succ]
          refine tk 12 qDnK_23 ?_
          try simp only [Act.put, List.setIfInBounds_toArray, List.set_cons_zero, List.set_cons_succ]
          refine wpAnyH_done (by kernel_rfl) ?_ _
          clear hHeld
          go_wp2_with fail
          go_returns
          exact HQR.out _ _ _ _ HRD.out HT6.out (grown_trans (grown_below HB5.out.drew) HG6.out)
        · skip
          obtain ⟨a0, a1, a2⟩ := HA.out
          go_simp
          go_wp2_with fail
          clear a0 a1 a2
          refine hK.out _ _ (by trivial) (fun hHeld => ?_)
          clear hK K
          try simp only [Act.put, List.setIfInBounds_toArray, List.set_cons_zero, List.set_cons_succ]
          refine wpAnyH_ready (rs := [4]) (by kernel_rfl) (by simp) ?_
          refine AllReadyH.cons (o := qDnK_17) rfl (fun K hK => ?_) AllReadyH.nil
          have cw := HCW.out
          go_simp
          go_wp2_with fail
          clear cw
          refine hK.out _ _ (by trivial) (fun hHeld => ?_)
          clear hK K
          try simp only [Act.put, List.setIfInBounds_toArray, List.set_cons_zero, List.set_cons_succ]
          refine wpAnyH_ready (rs := [7]) (by kernel_rfl) (by simp) ?_
          refine AllReadyH.cons (o := qDnK_18) rfl (fun K hK => ?_) AllReadyH.nil
          go_simp
          (go_at_call 23; refine HRUN.out.mono ?_; rintro e w6 ⟨code, err, nn, rfl, hrd, ht6, hg6⟩)
          have HRD := Lib.hid hrd
          have HT6 := Lib.hid ht6
          have HG6 := Lib.hid hg6
          clear hrd ht6 hg6
          go_wp2_with fail
          refine hK.out _ _ (by trivial) (fun hHeld => ?_)
          clear hK K
          try simp only [Act.put, List.setIfInBounds_toArray, List.set_cons_zero, List.set_cons_succ]
          refine tk 8 qDnK_19 ?_
          try simp only [Act.put, List.setIfInBounds_toArray, List.set_cons_zero, List.set_cons_succ]
          refine tk 9 qDnK_20 ?_
          try simp only [Act.put, List.setIfInBounds_toArray, List.set_cons_zero, List.set_cons_succ]
          refine tk 10 qDnK_21 ?_
          try simp only [Act.put, List.setIfInBounds_toArray, List.set_cons_zero, List.set_cons_succ]
          refine tk 11 qDnK_22 ?_
          try simp only [Act.put, List.setIfInBounds_toArray, List.set_cons_zero, List.set_cons_succ]
          refine tk 12 qDnK_23 ?_
          try simp only [Act.put, List.setIfInBounds_toArray, List.set_cons_zero, List.set_cons_succ]
          refine wpAnyH_done (by kernel_rfl) ?_ _
          clear hHeld
          go_wp2_with fail
          go_returns
          exact HQR.out _ _ _ _ HRD.out HT6.out (grown_trans (grown_below HB5.out.drew) HG6.out)

theorem Run_makeDir {w : World} {b N : Nat} {n : Nd} {v0 v1 v2 v3 : Value} (h : TreeX w b n v0 v1 v2 v3) (hG : TreeN N n) (hN : N ≤ 200) {bb oo c : Nat} {rest : List ByteArray} (hx : PlR w (.slice (some ⟨bb, oo, none⟩) (rest.length + 1) c) (nMkdir :: rest)) (hxl : rest.length ≤ 39) (hxs : ∀ x ∈ (nMkdir :: rest : List ByteArray), x.size ≤ 600) :
    Calls Tryz.prog 8 #[.iface 29 (.pointer (some ⟨b, 0, none⟩)), .slice (some ⟨bb, oo, none⟩) (rest.length + 1 : Nat) c] w fun e w' => AnsQ n (nMkdir :: rest) w b e w' := by
  refine (Run_is h hG hN nMkdir (x0 := ⟨#[112]⟩) (x1 := 0) (fi := 34) (P := fun code err n' => RunD [112] 0 (fun S => mkR (hasB S 112)) n nMkdir rest code err n') (fun wx r hr => ?_) (fun wx xv hb hp => ?_) hx hxl).mono ?_
  · rcases lookup_u wx r 4 nMkdir hr with ⟨_, q⟩ | ⟨p, hp, e, q⟩
    · exact absurd rfl (q (⟨#[109, 107, 100, 105, 114]⟩, _) (by unfold utils; exact .head _))
    · simp only [utils, List.mem_cons, List.not_mem_nil, or_false] at hp
      rcases hp with rfl | rfl | rfl | rfl <;> first | exact q | exact absurd e (by decide)
  · exact run_makeDir (h.kept hb) hG hN nMkdir (of_decide_eq_true (by kernel_rfl)) hp (by omega) (fun x hx => hxs x (List.mem_cons_of_mem _ hx))
  · rintro e w' ⟨code, err, n', he, hp, ht, hg⟩
    exact ⟨_, _, _, _, he, .inr ⟨rfl, _, _, rfl, .inl ⟨rfl, hp⟩⟩, ht, hg⟩

theorem Run_removeDir {w : World} {b N : Nat} {n : Nd} {v0 v1 v2 v3 : Value} (h : TreeX w b n v0 v1 v2 v3) (hG : TreeN N n) (hN : N ≤ 200) {bb oo c : Nat} {rest : List ByteArray} (hx : PlR w (.slice (some ⟨bb, oo, none⟩) (rest.length + 1) c) (nRmdir :: rest)) (hxl : rest.length ≤ 39) (hxs : ∀ x ∈ (nRmdir :: rest : List ByteArray), x.size ≤ 600) :
    Calls Tryz.prog 8 #[.iface 29 (.pointer (some ⟨b, 0, none⟩)), .slice (some ⟨bb, oo, none⟩) (rest.length + 1 : Nat) c] w fun e w' => AnsQ n (nRmdir :: rest) w b e w' := by
  refine (Run_is h hG hN nRmdir (x0 := ⟨#[]⟩) (x1 := 0) (fi := 35) (P := fun code err n' => RunD [] 0 (fun _ => rmdirR) n nRmdir rest code err n') (fun wx r hr => ?_) (fun wx xv hb hp => ?_) hx hxl).mono ?_
  · rcases lookup_u wx r 4 nRmdir hr with ⟨_, q⟩ | ⟨p, hp, e, q⟩
    · exact absurd rfl (q (⟨#[114, 109, 100, 105, 114]⟩, _) (by unfold utils; exact .tail _ (.head _)))
    · simp only [utils, List.mem_cons, List.not_mem_nil, or_false] at hp
      rcases hp with rfl | rfl | rfl | rfl <;> first | exact q | exact absurd e (by decide)
  · exact run_removeDir (h.kept hb) hG hN nRmdir (of_decide_eq_true (by kernel_rfl)) hp (by omega) (fun x hx => hxs x (List.mem_cons_of_mem _ hx))
  · rintro e w' ⟨code, err, n', he, hp, ht, hg⟩
    exact ⟨_, _, _, _, he, .inr ⟨rfl, _, _, rfl, .inr (.inl ⟨rfl, hp⟩)⟩, ht, hg⟩

theorem Run_touch {w : World} {b N : Nat} {n : Nd} {v0 v1 v2 v3 : Value} (h : TreeX w b n v0 v1 v2 v3) (hG : TreeN N n) (hN : N ≤ 200) {bb oo c : Nat} {rest : List ByteArray} (hx : PlR w (.slice (some ⟨bb, oo, none⟩) (rest.length + 1) c) (nTouch :: rest)) (hxl : rest.length ≤ 39) (hxs : ∀ x ∈ (nTouch :: rest : List ByteArray), x.size ≤ 600) :
    Calls Tryz.prog 8 #[.iface 29 (.pointer (some ⟨b, 0, none⟩)), .slice (some ⟨bb, oo, none⟩) (rest.length + 1 : Nat) c] w fun e w' => AnsQ n (nTouch :: rest) w b e w' := by
  refine (Run_is h hG hN nTouch (x0 := ⟨#[]⟩) (x1 := 0) (fi := 36) (P := fun code err n' => RunD [] 0 (fun _ => touchR) n nTouch rest code err n') (fun wx r hr => ?_) (fun wx xv hb hp => ?_) hx hxl).mono ?_
  · rcases lookup_u wx r 4 nTouch hr with ⟨_, q⟩ | ⟨p, hp, e, q⟩
    · exact absurd rfl (q (⟨#[116, 111, 117, 99, 104]⟩, _) (by unfold utils; exact .tail _ (.tail _ (.head _))))
    · simp only [utils, List.mem_cons, List.not_mem_nil, or_false] at hp
      rcases hp with rfl | rfl | rfl | rfl <;> first | exact q | exact absurd e (by decide)
  · exact run_touch (h.kept hb) hG hN nTouch (of_decide_eq_true (by kernel_rfl)) hp (by omega) (fun x hx => hxs x (List.mem_cons_of_mem _ hx))
  · rintro e w' ⟨code, err, n', he, hp, ht, hg⟩
    exact ⟨_, _, _, _, he, .inr ⟨rfl, _, _, rfl, .inr (.inr (.inl ⟨rfl, hp⟩))⟩, ht, hg⟩

theorem Run_remove {w : World} {b N : Nat} {n : Nd} {v0 v1 v2 v3 : Value} (h : TreeX w b n v0 v1 v2 v3) (hG : TreeN N n) (hN : N ≤ 200) {bb oo c : Nat} {rest : List ByteArray} (hx : PlR w (.slice (some ⟨bb, oo, none⟩) (rest.length + 1) c) (nRm :: rest)) (hxl : rest.length ≤ 39) (hxs : ∀ x ∈ (nRm :: rest : List ByteArray), x.size ≤ 600) :
    Calls Tryz.prog 8 #[.iface 29 (.pointer (some ⟨b, 0, none⟩)), .slice (some ⟨bb, oo, none⟩) (rest.length + 1 : Nat) c] w fun e w' => AnsQ n (nRm :: rest) w b e w' := by
  refine (Run_is h hG hN nRm (x0 := ⟨#[102, 114]⟩) (x1 := 102) (fi := 37) (P := fun code err n' => RunD [102, 114] 102 (fun S => rmR (hasB S 102) (hasB S 114)) n nRm rest code err n') (fun wx r hr => ?_) (fun wx xv hb hp => ?_) hx hxl).mono ?_
  · rcases lookup_u wx r 4 nRm hr with ⟨_, q⟩ | ⟨p, hp, e, q⟩
    · exact absurd rfl (q (⟨#[114, 109]⟩, _) (by unfold utils; exact .tail _ (.tail _ (.tail _ (.head _)))))
    · simp only [utils, List.mem_cons, List.not_mem_nil, or_false] at hp
      rcases hp with rfl | rfl | rfl | rfl <;> first | exact q | exact absurd e (by decide)
  · exact run_remove (h.kept hb) hG hN nRm (of_decide_eq_true (by kernel_rfl)) hp (by omega) (fun x hx => hxs x (List.mem_cons_of_mem _ hx))
  · rintro e w' ⟨code, err, n', he, hp, ht, hg⟩
    exact ⟨_, _, _, _, he, .inr ⟨rfl, _, _, rfl, .inr (.inr (.inr ⟨rfl, hp⟩))⟩, ht, hg⟩
end Go.Proofs.YtmofodaecakkfaaGreat
