/- Walks: the walker's methods. -/
import Derived.Test.YtfilbknnpjbmcaaGreatDoorKb02
import Derived.Test.YtfilbknnpjbmcaaGreatDoorKb27
import Derived.Test.YtfilbknnpjbmcaaGreatDoorKb24
import Derived.Test.YtfilbknnpjbmcaaGreatDoorKb05
import Derived.Test.YtfilbknnpjbmcaaGreatDoorKb23
namespace Go.Proofs.YtfilbknnpjbmcaaGreatDoor
open Go.RowKit Px Nx Wk
abbrev qWkB_0 : Oper := { dst := some 42, op := Op.move (Operand.tmp 0), type := 144, pos := "walk.go:116", after := #[], guard := none }
abbrev qWkB_1 : Oper := { dst := some 43, op := Op.move (Operand.tmp 5), type := 9, pos := "walk.go:116", after := #[], guard := none }
abbrev qWkB_2 : Oper := { dst := some 45, op := Op.move (Operand.tmp 0), type := 144, pos := "walk.go:116", after := #[], guard := none }
abbrev qWkB_3 : Oper := { dst := some 46, op := Op.nilCheck (Operand.tmp 45), type := 0, pos := "walk.go:116", after := #[{ on := 3, ground := Ground.data }], guard := none }
abbrev qWkB_4 : Oper := { dst := some 47, op := Op.fieldAddr 109 (Operand.tmp 46) 2, type := 0, pos := "walk.go:116", after := #[{ on := 4, ground := Ground.data }], guard := none }
abbrev qWkB_5 : Oper := { dst := some 44, op := Op.call { callee := Callee.value (Operand.func 63), args := #[Operand.tmp 43], argTypes := #[9] }, type := 22, pos := "walk.go:116", after := #[{ on := 1, ground := Ground.data }], guard := none }
abbrev qWkB_6 : Oper := { dst := some 48, op := Op.load 22 (Operand.tmp 47), type := 22, pos := "walk.go:116", after := #[{ on := 5, ground := Ground.data }], guard := none }
abbrev qWkB_7 : Oper := { dst := some 49, op := Op.call { callee := Callee.builtin Builtin.append, args := #[Operand.tmp 44, Operand.tmp 48], argTypes := #[22, 22] }, type := 22, pos := "walk.go:116", after := #[{ on := 2, ground := Ground.data }, { on := 6, ground := Ground.data }, { on := 2, ground := Ground.chain }], guard := none }
abbrev qWkB_8 : Oper := { dst := some 50, op := Op.nilCheck (Operand.tmp 42), type := 0, pos := "walk.go:116", after := #[{ on := 0, ground := Ground.data }, { on := 0, ground := Ground.phase }, { on := 1, ground := Ground.phase }, { on := 2, ground := Ground.phase }, { on := 3, ground := Ground.phase }, { on := 4, ground := Ground.phase }, { on := 5, ground := Ground.phase }, { on := 6, ground := Ground.phase }, { on := 7, ground := Ground.phase }], guard := none }
abbrev qWkB_9 : Oper := { dst := some 51, op := Op.fieldAddr 109 (Operand.tmp 50) 2, type := 0, pos := "walk.go:116", after := #[{ on := 8, ground := Ground.data }, { on := 0, ground := Ground.phase }, { on := 1, ground := Ground.phase }, { on := 2, ground := Ground.phase }, { on := 3, ground := Ground.phase }, { on := 4, ground := Ground.phase }, { on := 5, ground := Ground.phase }, { on := 6, ground := Ground.phase }, { on := 7, ground := Ground.phase }], guard := none }
abbrev qWkB_10 : Oper := { dst := none, op := Op.store 22 (Operand.tmp 51) (Operand.tmp 49), type := 0, pos := "walk.go:116", after := #[{ on := 9, ground := Ground.data }, { on := 7, ground := Ground.data }, { on := 7, ground := Ground.chain }, { on := 0, ground := Ground.phase }, { on := 1, ground := Ground.phase }, { on := 2, ground := Ground.phase }, { on := 3, ground := Ground.phase }, { on := 4, ground := Ground.phase }, { on := 5, ground := Ground.phase }, { on := 6, ground := Ground.phase }, { on := 7, ground := Ground.phase }], guard := none }

def Six (w : World) (g : Nat) (v0 v1 v2 v3 v4 v5 : Value) : Prop := w.heap[g]? = some (.cells #[v0, v1, v2, v3, v4, v5] 109 (0, 0))
theorem Six.cell {w : World} {g : Nat} {v0 v1 v2 v3 v4 v5 : Value} (h : Six w g v0 v1 v2 v3 v4 v5) : w.cell? ⟨g, 0, none⟩ = some v0 ∧ w.cell? ⟨g, 1, none⟩ = some v1 ∧ w.cell? ⟨g, 2, none⟩ = some v2 ∧ w.cell? ⟨g, 3, none⟩ = some v3 ∧ w.cell? ⟨g, 4, none⟩ = some v4 ∧ w.cell? ⟨g, 5, none⟩ = some v5 :=
 ⟨by rw [cell_of_row _ _ _ _ _ _ h]; rfl, by rw [cell_of_row _ _ _ _ _ _ h]; rfl, by rw [cell_of_row _ _ _ _ _ _ h]; rfl, by rw [cell_of_row _ _ _ _ _ _ h]; rfl, by rw [cell_of_row _ _ _ _ _ _ h]; rfl, by rw [cell_of_row _ _ _ _ _ _ h]; rfl⟩
theorem Six.open_ {w : World} {g : Nat} {v0 v1 v2 v3 v4 v5 : Value} (h : Six w g v0 v1 v2 v3 v4 v5) (j : Nat) : w.frozen? ⟨g, j, none⟩ = false := frozen_of_row w g j _ _ h
theorem Six.lt {w : World} {g : Nat} {v0 v1 v2 v3 v4 v5 : Value} (h : Six w g v0 v1 v2 v3 v4 v5) : g < w.heap.size := block_of_cell h.cell.1
theorem Six.kept {w w' : World} {g : Nat} {v0 v1 v2 v3 v4 v5 : Value} (h : Six w g v0 v1 v2 v3 v4 v5) (hb : Below w.heap.size w w') : Six w' g v0 v1 v2 v3 v4 v5 := by
 have := h.lt
 unfold Six at *
 rw [hb.block _ this]; exact h
theorem Six.set1 {w : World} {g : Nat} {v0 v1 v2 v3 v4 v5 : Value} (h : Six w g v0 v1 v2 v3 v4 v5) (u : Value) : Six (w.setCell ⟨g, 1, none⟩ u) g v0 u v2 v3 v4 v5 := heap_setCell_same w g 1 _ _ u h
theorem Six.set2 {w : World} {g : Nat} {v0 v1 v2 v3 v4 v5 : Value} (h : Six w g v0 v1 v2 v3 v4 v5) (u : Value) : Six (w.setCell ⟨g, 2, none⟩ u) g v0 v1 u v3 v4 v5 := heap_setCell_same w g 2 _ _ u h
theorem Six.set3 {w : World} {g : Nat} {v0 v1 v2 v3 v4 v5 : Value} (h : Six w g v0 v1 v2 v3 v4 v5) (u : Value) : Six (w.setCell ⟨g, 3, none⟩ u) g v0 v1 v2 u v4 v5 := heap_setCell_same w g 3 _ _ u h
theorem Six.set5 {w : World} {g : Nat} {v0 v1 v2 v3 v4 v5 : Value} (h : Six w g v0 v1 v2 v3 v4 v5) (u : Value) : Six (w.setCell ⟨g, 5, none⟩ u) g v0 v1 v2 v3 v4 u := heap_setCell_same w g 5 _ _ u h

set_option maxRecDepth 100000 in
theorem endsAt_any {w : World} {g : Nat} {fs at_ : Value} {p : Option Addr} {m c : Nat} {j : Value} {fo a : Bool} (h : Six w g fs at_ (.slice p m c) j (.bool fo) (.bool a)) (k : UInt8) :
  Calls Tryz.prog 98 #[.pointer (some ⟨g, 0, none⟩), .int .u8 k.toNat] w fun e w' => e = .returned (.bool (decide (m = 0) && endsD fo a k)) ∧ w = w' := by
 obtain ⟨c0, c1, c2, c3, c4, c5⟩ := h.cell
 have e0 := beq_int k 0
 have e3 := beq_int k 3
 rw [show ((0 : UInt8).toNat : Int) = 0 from rfl] at e0
 rw [show ((3 : UInt8).toNat : Int) = 3 from rfl] at e3
 have hE : endsD fo a k = if (k == 0) then true else if (k == 3) then !fo && !a else !a := by
  unfold endsD
  by_cases h0 : k = 0
  ·simp [h0]
  ·by_cases h3 : k = 3
   ·simp [h3]
   ·simp [h0, h3]
 rw [hE]
 clear hE h
 generalize (k == 0) = z0 at *
 generalize (k == 3) = z3 at *
 by_cases hm : 0 < m
 ·have hd : decide (m = 0) = false := decide_eq_false (by omega)
  rw [hd]
  go_enter Tryz.func98, Tryz.ntmps98
  go_wp2_with fail
  all_goals
   go_ret
   exact ⟨rfl, rfl⟩
 ·have hd : decide (m = 0) = true := decide_eq_true (by omega)
  rw [hd]
  cases z0 <;> cases z3 <;> cases fo <;> cases a
  all_goals
   go_enter Tryz.func98, Tryz.ntmps98
   go_wp2_with fail
   go_ret
   exact ⟨rfl, rfl⟩

set_option maxRecDepth 100000 in
theorem goUp_any {w : World} {g : Nat} {fs l j f a : Value} {p : Option Addr} {n c : Nat} (h : Six w g fs (.slice p n c) l j f a) (hn : n ≤ c) (hc : c ≤ maxLen) (hp : n ≠ 0 → ∃ b o, p = some ⟨b, o, none⟩) :
  Calls Tryz.prog 97 #[.pointer (some ⟨g, 0, none⟩)] w fun e w' => e = .returned (.tuple #[]) ∧ Six w' g fs (.slice p (n - 1) c) l j f a ∧ w.grownBy w' (some g) := by
 obtain ⟨c0, c1, c2, c3, c4, c5⟩ := h.cell
 have x1 := h.open_ 1
 have HS := Lib.hid h
 clear h
 by_cases hn0 : 0 < n
 ·obtain ⟨b, o, rfl⟩ := hp (by omega)
  have hkw : IntKind.i64.wrap (((n - 1 : Nat) : Nat) : Int) = ((n - 1 : Nat) : Int) := Go.IntWalk.i64_in _ ⟨by omega, by unfold maxLen at hc; omega⟩
  have hs : ((n : Nat) : Int) - 1 = ((n - 1 : Nat) : Int) := by omega
  generalize hk : n - 1 = k at *
  have hkc : k ≤ c := by omega
  go_enter Tryz.func97, Tryz.ntmps97
  go_wp2_with fail
  go_region_with fail
  all_goals
   go_end0
   have hg9 : w.grownBy (w.setCell ⟨g, 1, none⟩ (.slice (some ⟨b, o, none⟩) k c)) (some g) := grown_set
   exact ⟨rfl, HS.out.set1 _, ⟨hg9.os, hg9.tape, hg9.output, hg9.size, hg9.block⟩⟩
 ·obtain rfl : n = 0 := by omega
  go_enter Tryz.func97, Tryz.ntmps97
  go_wp2_with fail
  go_end0
  exact ⟨rfl, HS.out, grown_of_below (Below.refl _ _)⟩

set_option maxRecDepth 100000 in
theorem follow_loop {w : World} {g : Nat} {v0 v1 v2 v4 v5 pv : Value} (h : Six w g v0 v1 v2 (.int .i64 8) v4 v5) :
  Calls Tryz.prog 126 #[.pointer (some ⟨g, 0, none⟩), pv] w fun e w' => e = .returned (.int .i64 61) ∧ w' = w := by
 obtain ⟨c0, c1, c2, c3, c4, c5⟩ := h.cell
 clear h
 go_enter Tryz.func126, Tryz.ntmps126
 go_wp2_with fail
 go_ret
 exact ⟨rfl, rfl⟩

theorem nil_pl (w : World) : PlR w (.slice none 0 0) [] := ⟨none, 0, rfl, fun i hi => absurd hi (Nat.not_lt_zero _), Nat.le_refl _, Nat.zero_le _⟩
def PlG (w : World) (g : Nat) (v : Value) (l : List ByteArray) : Prop := ∀ w', w.grownBy w' (some g) → PlR w' v l
theorem PlG.by {w w1 : World} {g : Nat} {v : Value} {l : List ByteArray} (h : PlG w g v l) (hg : w.grownBy w1 (some g)) : PlG w1 g v l := fun w' hw => h w' (grown_trans hg hw)
theorem PlG.now {w : World} {g : Nat} {v : Value} {l : List ByteArray} (h : PlG w g v l) : PlR w v l := h w (grown_of_below (Below.refl _ _))
theorem own_plG {w : World} {base g : Nat} {v : Value} {l : List ByteArray} (h : w.ownsRow base 9 1 v l.length (l.map Value.string)) (hg : g < base) : PlG w g v l := fun w' hw =>
 plR_of_own (base := base) (own_same h fun k hk => hw.block k (own_where h hk).2 (by have := (own_where h hk).1; simp; omega))
theorem reads_pl {w : World} {p : Option Addr} {n c : Nat} {l : List ByteArray} (h : PlR w (.slice p n c) l) : Reads w (.slice p n c) n 1 (l.map Value.string) := by
 obtain ⟨p', c', he, hs, h1, h2⟩ := h
 obtain ⟨rfl, rfl, rfl⟩ : p = p' ∧ n = l.length ∧ c = c' := by simpa using he
 refine ⟨by simp, List.all_eq_true.2 (strings_one _), p, c, rfl, h1, h2, fun j u hj => ?_⟩
 rw [List.getElem?_map] at hj
 obtain ⟨x, hx, rfl⟩ := Option.map_eq_some_iff.1 hj
 obtain ⟨b, o, hp, hc⟩ := hs j (List.getElem?_eq_some_iff.1 hx).1
 refine ⟨b, o, hp, ?_⟩
 rw [hc, List.getD_eq_getElem?_getD, hx]
 rfl
theorem mine_pl {w : World} {base g j : Nat} {m : Nat} {v u : Value} {n : Nat} {l : List ByteArray} (hn : n = l.length) (h : Mine w base (poIf m none) 9 1 v n (l.map Value.string)) (hg : g < base) : PlG (w.setCell ⟨g, j, none⟩ u) g v l := by
 rcases h with h | ⟨_, a, h2, _⟩
 ·subst hn
  exact (own_plG h hg).by grown_set
 ·unfold poIf at h2
  split at h2 <;> cases h2
set_option maxRecDepth 100000 in
set_option maxHeartbeats 8000000 in
theorem follow_any {w : World} {g b : Nat} {n : Nd} {v0 v1 v2 v3 : Value} (hT : TreeS w (fun k => k ≠ b ∧ k ≠ g) b n v0 v1 v2 v3) (hgb : g ≠ b) (hw : n.well = true) (hB : n.girth ≤ 200000000) {at_ : List ByteArray} {left : List ByteArray} {av lv : Value} {j : Nat} {fo a : Bool}
  (h : Six w g (.iface 28 (.pointer (some ⟨b, 0, none⟩))) av lv (.int .i64 j) (.bool fo) (.bool a)) (ha : PlG w g av at_) (hl : PlG w g lv left) (hj : j < 8) (hll : left.length ≤ 10000000) {pv : Value} {place : List ByteArray} (hp : PlR (w.setCell ⟨g, 3, none⟩ (.int .i64 (j + 1 : Nat))) pv place) :
  Calls Tryz.prog 126 #[.pointer (some ⟨g, 0, none⟩), pv] w fun e w' =>
    e = .returned (.int .i64 0) ∧ ∃ av' lv', Six w' g (.iface 28 (.pointer (some ⟨b, 0, none⟩))) av' lv' (.int .i64 (j + 1 : Nat)) (.bool fo) (.bool (a || (left.isEmpty && dirL ((n.at_ place).getD absent).text.data.toList))) ∧
     PlG w' g av' (bif Lib.hasPrefix ((n.at_ place).getD absent).text.data.toList [47] then [] else at_) ∧ PlG w' g lv' (stepsB ((n.at_ place).getD absent).text ++ left) ∧ w.grownBy w' (some g) := by
 obtain ⟨i0, hi, hz0, hz1, hz2⟩ := info_parts infoStr
 obtain ⟨c0, c1, c2, c3, c4, c5⟩ := h.cell
 have x3 := h.open_ 3
 have hj8 : ((j : Int) == 8) = false := by rw [beq_eq_false_iff_ne]; omega
 have hj1 : IntKind.i64.wrap ((j : Int) + 1) = ((j + 1 : Nat) : Int) := by rw [Go.IntWalk.i64_in _ ⟨by omega, by omega⟩]; omega
 have hg3 : w.grownBy (w.setCell ⟨g, 3, none⟩ (.int .i64 (j + 1 : Nat))) (some g) := grown_set
 have HG3 := Lib.hid hg3
 have HS3 := Lib.hid (h.set3 (.int .i64 (j + 1 : Nat)))
 have HT3 := Lib.hid (hT.by hg3 (Ne.symm hgb) (fun hh => hh.2 rfl))
 have HTX := Lib.hid (ftext_any HT3.out.x hw hB hp)
 have htx : ((n.at_ place).getD absent).text.size ≤ 256 := by
  cases hat : n.at_ place with
  | none => decide
  | some y => exact text_small (well_at hw hat)
 have HA := Lib.hid ha
 have HL := Lib.hid hl
 obtain ⟨pp, pc, rfl, _, _, _⟩ := hp
 obtain ⟨pl, cl, rfl, _, hlc, hlm⟩ := hl w (grown_of_below (Below.refl _ _))
 have hpw : (((j + 1 : Nat) : Int)) = (j : Int) + 1 := by omega
 have hle : left.isEmpty = decide (left.length = 0) := by cases left <;> simp
 rw [hle]
 generalize ((n.at_ place).getD absent).text = tx at *
 clear h hT hg3 hle ha hl
 obtain ⟨zb, hz, hz'⟩ := zero_ways left.length
 rw [hz']
 clear hz'
 generalize hW3 : w.setCell ⟨g, 3, none⟩ (.int .i64 (j + 1 : Nat)) = w3 at *
 go_enter Tryz.func126, Tryz.ntmps126
 go_upto_region 4 with fail
 rw [hpw] at hW3
 rw [hW3]
 clear hW3 c0 c1 c2 c3 c4 c5 x3
 obtain ⟨c0, c1, c2, c3, c4, c5⟩ := HS3.out.cell
 go_wp2_with fail
 refine HTX.out.mono ?_
 rintro e w4 ⟨rfl, hb4⟩
 have HS4 := Lib.hid (HS3.out.kept hb4)
 have HG4 := Lib.hid (grown_trans HG3.out (grown_of_below (g := g) hb4))
 clear hb4 c0 c1 c2 c3 c4 c5 HTX
 obtain ⟨c0, c1, c2, c3, c4, c5⟩ := HS4.out.cell
 have x5 := HS4.out.open_ 5
 have x1 := HS4.out.open_ 1
 generalize hdb : dirL tx.data.toList = db at *
 generalize hpb : Lib.hasPrefix tx.data.toList [47] = pb at *
 have HPB := Lib.hid hpb
 have HDB := Lib.hid hdb
 clear hpb
 cases zb
 ·go_wp2_with fail
  refine (Tryz.strings_HasPrefix tx ⟨#[47]⟩ _).mono ?_
  rintro e w5 ⟨he, hw5⟩
  rw [hw5]
  clear hw5
  rw [show Lib.hasPrefix tx.data.toList (⟨#[47]⟩ : ByteArray).data.toList = pb from HPB.out] at he
  subst he
  cases pb
  ·go_upto_region 9 with fail
   have HSX := Lib.hid (HS4.out)
   have HGX := Lib.hid (HG4.out)
   generalize w4 = wr at *
   refine wp_region_held_drew (S := (fun _ => True)) (by kernel_rfl) trivial (fun hHeld => ?_)
   refine tk 0 qWkB_0 ?_
   try simp only [Act.put, sA, sB, sC]
   refine tk 1 qWkB_1 ?_
   try simp only [Act.put, sA, sB, sC]
   refine tk 3 qWkB_2 ?_
   try simp only [Act.put, sA, sB, sC]
   refine tk 4 qWkB_3 ?_
   try simp only [Act.put, sA, sB, sC]
   refine tk 5 qWkB_4 ?_
   try simp only [Act.put, sA, sB, sC]
   refine wpAnyH_ready (rs := [2, 6]) (by kernel_rfl) (by simp) ?_
   refine AllReadyH.cons (o := qWkB_5) rfl (fun K hK => ?_) ?_
   rotate_left
   refine AllReadyH.cons (o := qWkB_6) rfl (fun K hK => ?_) AllReadyH.nil
   ·skip
    obtain ⟨d0, d1, d2, d3, d4, d5⟩ := HSX.out.cell
    go_simp
    clear d0 d1 d2 d3 d4 d5
    refine hK.out _ _ (by trivial) (fun hHeld => ?_)
    clear hK K
    try simp only [Act.put, sA, sB, sC]
    refine wpAnyH_ready (rs := [2]) (by kernel_rfl) (by simp) ?_
    refine AllReadyH.cons (o := qWkB_5) rfl (fun K hK => ?_) AllReadyH.nil
    go_simp
    (go_at_call 63; refine (steps_own tx (by omega) _).mono ?_; rintro e w6 ⟨vs, rfl, hown, hb6⟩)
    have HO6 := Lib.hid hown
    have HB6 : Hid (Below wr.heap.size wr w6) := Lib.hid ((Below.refl _ _).drew.trans hb6)
    have HS6 := Lib.hid (HSX.out.kept HB6.out)
    have HG6 := Lib.hid (grown_trans HGX.out (grown_of_below (g := g) HB6.out))
    obtain ⟨ps, cs, rfl⟩ := own_slice hown
    clear hown hb6
    go_wp2_with fail
    refine hK.out _ _ (by trivial) (fun hHeld => ?_)
    clear hK K
    try simp only [Act.put, sA, sB, sC]
    refine wpAnyH_ready (rs := [7]) (by kernel_rfl) (by simp) ?_
    refine AllReadyH.cons (o := qWkB_7) rfl (fun K hK => ?_) AllReadyH.nil
    rw [if_pos (by rfl)]
    refine wp_append_mine (po := none) _ (.tmp 44) (.tmp 48) 22 rfl wr.heap.size 9 i0 (.string ⟨#[]⟩) 1 16 Tryz.underlying22 hi hz0 hz1 hz2 rfl (by decide) _ (stepsB tx).length ((stepsB tx).map Value.string) rfl (.inl HO6.out) _ left.length (left.map Value.string) rfl (reads_pl (HL.out w6 HG6.out)) (by unfold maxLen; have := stepsB_len tx; omega) (by have := stepsB_len tx; omega) (by have := HB6.out.size; omega) ?_
    intro v7 w7 hm7 hb7
    obtain ⟨_, p7, c7, rfl, _, _, _, _⟩ := Mine.out hm7 (by unfold maxLen; have := stepsB_len tx; omega)
    have HM7 := Lib.hid hm7
    have HB7 : Hid (Below wr.heap.size wr w7) := Lib.hid (HB6.out.trans hb7)
    have HS7 := Lib.hid (HSX.out.kept HB7.out)
    have HG7 := Lib.hid (grown_trans HGX.out (grown_of_below (g := g) HB7.out))
    clear hm7 hb7
    refine hK.out _ _ (by trivial) (fun hHeld => ?_)
    clear hK K
    try simp only [Act.put, sA, sB, sC]
    refine tk 8 qWkB_8 ?_
    try simp only [Act.put, sA, sB, sC]
    refine tk 9 qWkB_9 ?_
    try simp only [Act.put, sA, sB, sC]
    refine wpAnyH_ready (rs := [10]) (by kernel_rfl) (by simp) ?_
    refine AllReadyH.cons (o := qWkB_10) rfl (fun K hK => ?_) AllReadyH.nil
    obtain ⟨d0, d1, d2, d3, d4, d5⟩ := HS7.out.cell
    have x2 := HS7.out.open_ 2
    clear hHeld
    go_simp
    go_wp2_with fail
    refine hK.out _ _ (by trivial) (fun hHeld => ?_)
    clear hK K
    try simp only [Act.put, sA, sB, sC]
    refine wpAnyH_done (by kernel_rfl) ?_ _
    go_wp2_with fail
    go_ret
    have hg9 : w.grownBy (w7.setCell ⟨g, 2, none⟩ (.slice p7 ((stepsB tx).length + left.length) c7)) (some g) := grown_trans HG7.out grown_set
    have hgl := HSX.out.lt
    exact ⟨rfl, av, _, (by (try rw [HDB.out]); simpa using HS7.out.set2 (.slice p7 ((stepsB tx).length + left.length) c7)), (by rw [HPB.out]; exact PlG.by HA.out ⟨hg9.os, hg9.tape, hg9.output, hg9.size, hg9.block⟩), mine_pl (n := (stepsB tx).length + left.length) (l := stepsB tx ++ left) (by simp) (by simpa using HM7.out) hgl, ⟨hg9.os, hg9.tape, hg9.output, hg9.size, hg9.block⟩⟩
   ·skip
    go_simp
    (go_at_call 63; refine (steps_own tx (by omega) _).mono ?_; rintro e w6 ⟨vs, rfl, hown, hb6⟩)
    have HO6 := Lib.hid hown
    have HB6 : Hid (Below wr.heap.size wr w6) := Lib.hid ((Below.refl _ _).drew.trans hb6)
    have HS6 := Lib.hid (HSX.out.kept HB6.out)
    have HG6 := Lib.hid (grown_trans HGX.out (grown_of_below (g := g) HB6.out))
    obtain ⟨ps, cs, rfl⟩ := own_slice hown
    clear hown hb6
    go_wp2_with fail
    refine hK.out _ _ (by trivial) (fun hHeld => ?_)
    clear hK K
    try simp only [Act.put, sA, sB, sC]
    refine wpAnyH_ready (rs := [6]) (by kernel_rfl) (by simp) ?_
    refine AllReadyH.cons (o := qWkB_6) rfl (fun K hK => ?_) AllReadyH.nil
    obtain ⟨d0, d1, d2, d3, d4, d5⟩ := HS6.out.cell
    go_simp
    clear d0 d1 d2 d3 d4 d5
    refine hK.out _ _ (by trivial) (fun hHeld => ?_)
    clear hK K
    try simp only [Act.put, sA, sB, sC]
    refine wpAnyH_ready (rs := [7]) (by kernel_rfl) (by simp) ?_
    refine AllReadyH.cons (o := qWkB_7) rfl (fun K hK => ?_) AllReadyH.nil
    rw [if_pos (by rfl)]
    refine wp_append_mine (po := none) _ (.tmp 44) (.tmp 48) 22 rfl wr.heap.size 9 i0 (.string ⟨#[]⟩) 1 16 Tryz.underlying22 hi hz0 hz1 hz2 rfl (by decide) _ (stepsB tx).length ((stepsB tx).map Value.string) rfl (.inl HO6.out) _ left.length (left.map Value.string) rfl (reads_pl (HL.out w6 HG6.out)) (by unfold maxLen; have := stepsB_len tx; omega) (by have := stepsB_len tx; omega) (by have := HB6.out.size; omega) ?_
    intro v7 w7 hm7 hb7
    obtain ⟨_, p7, c7, rfl, _, _, _, _⟩ := Mine.out hm7 (by unfold maxLen; have := stepsB_len tx; omega)
    have HM7 := Lib.hid hm7
    have HB7 : Hid (Below wr.heap.size wr w7) := Lib.hid (HB6.out.trans hb7)
    have HS7 := Lib.hid (HSX.out.kept HB7.out)
    have HG7 := Lib.hid (grown_trans HGX.out (grown_of_below (g := g) HB7.out))
    clear hm7 hb7
    refine hK.out _ _ (by trivial) (fun hHeld => ?_)
    clear hK K
    try simp only [Act.put, sA, sB, sC]
    refine tk 8 qWkB_8 ?_
    try simp only [Act.put, sA, sB, sC]
    refine tk 9 qWkB_9 ?_
    try simp only [Act.put, sA, sB, sC]
    refine wpAnyH_ready (rs := [10]) (by kernel_rfl) (by simp) ?_
    refine AllReadyH.cons (o := qWkB_10) rfl (fun K hK => ?_) AllReadyH.nil
    obtain ⟨d0, d1, d2, d3, d4, d5⟩ := HS7.out.cell
    have x2 := HS7.out.open_ 2
    clear hHeld
    go_simp
    go_wp2_with fail
    refine hK.out _ _ (by trivial) (fun hHeld => ?_)
    clear hK K
    try simp only [Act.put, sA, sB, sC]
    refine wpAnyH_done (by kernel_rfl) ?_ _
    go_wp2_with fail
    go_ret
    have hg9 : w.grownBy (w7.setCell ⟨g, 2, none⟩ (.slice p7 ((stepsB tx).length + left.length) c7)) (some g) := grown_trans HG7.out grown_set
    have hgl := HSX.out.lt
    exact ⟨rfl, av, _, (by (try rw [HDB.out]); simpa using HS7.out.set2 (.slice p7 ((stepsB tx).length + left.length) c7)), (by rw [HPB.out]; exact PlG.by HA.out ⟨hg9.os, hg9.tape, hg9.output, hg9.size, hg9.block⟩), mine_pl (n := (stepsB tx).length + left.length) (l := stepsB tx ++ left) (by simp) (by simpa using HM7.out) hgl, ⟨hg9.os, hg9.tape, hg9.output, hg9.size, hg9.block⟩⟩
  ·go_upto_region 9 with fail
   have HSX := Lib.hid ((HS4.out).set1 (.slice none 0 0))
   have HGX := Lib.hid (grown_trans (HG4.out) (grown_set (g := g) (j := 1) (v := .slice none 0 0)))
   generalize (w4).setCell ⟨g, 1, none⟩ (.slice none 0 0) = wr at *
   refine wp_region_held_drew (S := (fun _ => True)) (by kernel_rfl) trivial (fun hHeld => ?_)
   refine tk 0 qWkB_0 ?_
   try simp only [Act.put, sA, sB, sC]
   refine tk 1 qWkB_1 ?_
   try simp only [Act.put, sA, sB, sC]
   refine tk 3 qWkB_2 ?_
   try simp only [Act.put, sA, sB, sC]
   refine tk 4 qWkB_3 ?_
   try simp only [Act.put, sA, sB, sC]
   refine tk 5 qWkB_4 ?_
   try simp only [Act.put, sA, sB, sC]
   refine wpAnyH_ready (rs := [2, 6]) (by kernel_rfl) (by simp) ?_
   refine AllReadyH.cons (o := qWkB_5) rfl (fun K hK => ?_) ?_
   rotate_left
   refine AllReadyH.cons (o := qWkB_6) rfl (fun K hK => ?_) AllReadyH.nil
   ·skip
    obtain ⟨d0, d1, d2, d3, d4, d5⟩ := HSX.out.cell
    go_simp
    clear d0 d1 d2 d3 d4 d5
    refine hK.out _ _ (by trivial) (fun hHeld => ?_)
    clear hK K
    try simp only [Act.put, sA, sB, sC]
    refine wpAnyH_ready (rs := [2]) (by kernel_rfl) (by simp) ?_
    refine AllReadyH.cons (o := qWkB_5) rfl (fun K hK => ?_) AllReadyH.nil
    go_simp
    (go_at_call 63; refine (steps_own tx (by omega) _).mono ?_; rintro e w6 ⟨vs, rfl, hown, hb6⟩)
    have HO6 := Lib.hid hown
    have HB6 : Hid (Below wr.heap.size wr w6) := Lib.hid ((Below.refl _ _).drew.trans hb6)
    have HS6 := Lib.hid (HSX.out.kept HB6.out)
    have HG6 := Lib.hid (grown_trans HGX.out (grown_of_below (g := g) HB6.out))
    obtain ⟨ps, cs, rfl⟩ := own_slice hown
    clear hown hb6
    go_wp2_with fail
    refine hK.out _ _ (by trivial) (fun hHeld => ?_)
    clear hK K
    try simp only [Act.put, sA, sB, sC]
    refine wpAnyH_ready (rs := [7]) (by kernel_rfl) (by simp) ?_
    refine AllReadyH.cons (o := qWkB_7) rfl (fun K hK => ?_) AllReadyH.nil
    rw [if_pos (by rfl)]
    refine wp_append_mine (po := none) _ (.tmp 44) (.tmp 48) 22 rfl wr.heap.size 9 i0 (.string ⟨#[]⟩) 1 16 Tryz.underlying22 hi hz0 hz1 hz2 rfl (by decide) _ (stepsB tx).length ((stepsB tx).map Value.string) rfl (.inl HO6.out) _ left.length (left.map Value.string) rfl (reads_pl (HL.out w6 HG6.out)) (by unfold maxLen; have := stepsB_len tx; omega) (by have := stepsB_len tx; omega) (by have := HB6.out.size; omega) ?_
    intro v7 w7 hm7 hb7
    obtain ⟨_, p7, c7, rfl, _, _, _, _⟩ := Mine.out hm7 (by unfold maxLen; have := stepsB_len tx; omega)
    have HM7 := Lib.hid hm7
    have HB7 : Hid (Below wr.heap.size wr w7) := Lib.hid (HB6.out.trans hb7)
    have HS7 := Lib.hid (HSX.out.kept HB7.out)
    have HG7 := Lib.hid (grown_trans HGX.out (grown_of_below (g := g) HB7.out))
    clear hm7 hb7
    refine hK.out _ _ (by trivial) (fun hHeld => ?_)
    clear hK K
    try simp only [Act.put, sA, sB, sC]
    refine tk 8 qWkB_8 ?_
    try simp only [Act.put, sA, sB, sC]
    refine tk 9 qWkB_9 ?_
    try simp only [Act.put, sA, sB, sC]
    refine wpAnyH_ready (rs := [10]) (by kernel_rfl) (by simp) ?_
    refine AllReadyH.cons (o := qWkB_10) rfl (fun K hK => ?_) AllReadyH.nil
    obtain ⟨d0, d1, d2, d3, d4, d5⟩ := HS7.out.cell
    have x2 := HS7.out.open_ 2
    clear hHeld
    go_simp
    go_wp2_with fail
    refine hK.out _ _ (by trivial) (fun hHeld => ?_)
    clear hK K
    try simp only [Act.put, sA, sB, sC]
    refine wpAnyH_done (by kernel_rfl) ?_ _
    go_wp2_with fail
    go_ret
    have hg9 : w.grownBy (w7.setCell ⟨g, 2, none⟩ (.slice p7 ((stepsB tx).length + left.length) c7)) (some g) := grown_trans HG7.out grown_set
    have hgl := HSX.out.lt
    exact ⟨rfl, .slice none 0 0, _, (by (try rw [HDB.out]); simpa using HS7.out.set2 (.slice p7 ((stepsB tx).length + left.length) c7)), (by rw [HPB.out]; exact fun _ _ => nil_pl _), mine_pl (n := (stepsB tx).length + left.length) (l := stepsB tx ++ left) (by simp) (by simpa using HM7.out) hgl, ⟨hg9.os, hg9.tape, hg9.output, hg9.size, hg9.block⟩⟩
   ·skip
    go_simp
    (go_at_call 63; refine (steps_own tx (by omega) _).mono ?_; rintro e w6 ⟨vs, rfl, hown, hb6⟩)
    have HO6 := Lib.hid hown
    have HB6 : Hid (Below wr.heap.size wr w6) := Lib.hid ((Below.refl _ _).drew.trans hb6)
    have HS6 := Lib.hid (HSX.out.kept HB6.out)
    have HG6 := Lib.hid (grown_trans HGX.out (grown_of_below (g := g) HB6.out))
    obtain ⟨ps, cs, rfl⟩ := own_slice hown
    clear hown hb6
    go_wp2_with fail
    refine hK.out _ _ (by trivial) (fun hHeld => ?_)
    clear hK K
    try simp only [Act.put, sA, sB, sC]
    refine wpAnyH_ready (rs := [6]) (by kernel_rfl) (by simp) ?_
    refine AllReadyH.cons (o := qWkB_6) rfl (fun K hK => ?_) AllReadyH.nil
    obtain ⟨d0, d1, d2, d3, d4, d5⟩ := HS6.out.cell
    go_simp
    clear d0 d1 d2 d3 d4 d5
    refine hK.out _ _ (by trivial) (fun hHeld => ?_)
    clear hK K
    try simp only [Act.put, sA, sB, sC]
    refine wpAnyH_ready (rs := [7]) (by kernel_rfl) (by simp) ?_
    refine AllReadyH.cons (o := qWkB_7) rfl (fun K hK => ?_) AllReadyH.nil
    rw [if_pos (by rfl)]
    refine wp_append_mine (po := none) _ (.tmp 44) (.tmp 48) 22 rfl wr.heap.size 9 i0 (.string ⟨#[]⟩) 1 16 Tryz.underlying22 hi hz0 hz1 hz2 rfl (by decide) _ (stepsB tx).length ((stepsB tx).map Value.string) rfl (.inl HO6.out) _ left.length (left.map Value.string) rfl (reads_pl (HL.out w6 HG6.out)) (by unfold maxLen; have := stepsB_len tx; omega) (by have := stepsB_len tx; omega) (by have := HB6.out.size; omega) ?_
    intro v7 w7 hm7 hb7
    obtain ⟨_, p7, c7, rfl, _, _, _, _⟩ := Mine.out hm7 (by unfold maxLen; have := stepsB_len tx; omega)
    have HM7 := Lib.hid hm7
    have HB7 : Hid (Below wr.heap.size wr w7) := Lib.hid (HB6.out.trans hb7)
    have HS7 := Lib.hid (HSX.out.kept HB7.out)
    have HG7 := Lib.hid (grown_trans HGX.out (grown_of_below (g := g) HB7.out))
    clear hm7 hb7
    refine hK.out _ _ (by trivial) (fun hHeld => ?_)
    clear hK K
    try simp only [Act.put, sA, sB, sC]
    refine tk 8 qWkB_8 ?_
    try simp only [Act.put, sA, sB, sC]
    refine tk 9 qWkB_9 ?_
    try simp only [Act.put, sA, sB, sC]
    refine wpAnyH_ready (rs := [10]) (by kernel_rfl) (by simp) ?_
    refine AllReadyH.cons (o := qWkB_10) rfl (fun K hK => ?_) AllReadyH.nil
    obtain ⟨d0, d1, d2, d3, d4, d5⟩ := HS7.out.cell
    have x2 := HS7.out.open_ 2
    clear hHeld
    go_simp
    go_wp2_with fail
    refine hK.out _ _ (by trivial) (fun hHeld => ?_)
    clear hK K
    try simp only [Act.put, sA, sB, sC]
    refine wpAnyH_done (by kernel_rfl) ?_ _
    go_wp2_with fail
    go_ret
    have hg9 : w.grownBy (w7.setCell ⟨g, 2, none⟩ (.slice p7 ((stepsB tx).length + left.length) c7)) (some g) := grown_trans HG7.out grown_set
    have hgl := HSX.out.lt
    exact ⟨rfl, .slice none 0 0, _, (by (try rw [HDB.out]); simpa using HS7.out.set2 (.slice p7 ((stepsB tx).length + left.length) c7)), (by rw [HPB.out]; exact fun _ _ => nil_pl _), mine_pl (n := (stepsB tx).length + left.length) (l := stepsB tx ++ left) (by simp) (by simpa using HM7.out) hgl, ⟨hg9.os, hg9.tape, hg9.output, hg9.size, hg9.block⟩⟩
 ·go_wp2_with fail
  refine (dir_any tx w4 (by omega)).mono ?_
  rintro e w5 ⟨rfl, rfl⟩
  rw [hdb]
  cases db
  ·go_wp2_with fail
   refine (Tryz.strings_HasPrefix tx ⟨#[47]⟩ _).mono ?_
   rintro e w5 ⟨he, hw5⟩
   rw [hw5]
   clear hw5
   rw [show Lib.hasPrefix tx.data.toList (⟨#[47]⟩ : ByteArray).data.toList = pb from HPB.out] at he
   subst he
   cases pb
   ·go_upto_region 9 with fail
    have HSX := Lib.hid (HS4.out)
    have HGX := Lib.hid (HG4.out)
    generalize w4 = wr at *
    refine wp_region_held_drew (S := (fun _ => True)) (by kernel_rfl) trivial (fun hHeld => ?_)
    refine tk 0 qWkB_0 ?_
    try simp only [Act.put, sA, sB, sC]
    refine tk 1 qWkB_1 ?_
    try simp only [Act.put, sA, sB, sC]
    refine tk 3 qWkB_2 ?_
    try simp only [Act.put, sA, sB, sC]
    refine tk 4 qWkB_3 ?_
    try simp only [Act.put, sA, sB, sC]
    refine tk 5 qWkB_4 ?_
    try simp only [Act.put, sA, sB, sC]
    refine wpAnyH_ready (rs := [2, 6]) (by kernel_rfl) (by simp) ?_
    refine AllReadyH.cons (o := qWkB_5) rfl (fun K hK => ?_) ?_
    rotate_left
    refine AllReadyH.cons (o := qWkB_6) rfl (fun K hK => ?_) AllReadyH.nil
    ·skip
     obtain ⟨d0, d1, d2, d3, d4, d5⟩ := HSX.out.cell
     go_simp
     clear d0 d1 d2 d3 d4 d5
     refine hK.out _ _ (by trivial) (fun hHeld => ?_)
     clear hK K
     try simp only [Act.put, sA, sB, sC]
     refine wpAnyH_ready (rs := [2]) (by kernel_rfl) (by simp) ?_
     refine AllReadyH.cons (o := qWkB_5) rfl (fun K hK => ?_) AllReadyH.nil
     go_simp
     (go_at_call 63; refine (steps_own tx (by omega) _).mono ?_; rintro e w6 ⟨vs, rfl, hown, hb6⟩)
     have HO6 := Lib.hid hown
     have HB6 : Hid (Below wr.heap.size wr w6) := Lib.hid ((Below.refl _ _).drew.trans hb6)
     have HS6 := Lib.hid (HSX.out.kept HB6.out)
     have HG6 := Lib.hid (grown_trans HGX.out (grown_of_below (g := g) HB6.out))
     obtain ⟨ps, cs, rfl⟩ := own_slice hown
     clear hown hb6
     go_wp2_with fail
     refine hK.out _ _ (by trivial) (fun hHeld => ?_)
     clear hK K
     try simp only [Act.put, sA, sB, sC]
     refine wpAnyH_ready (rs := [7]) (by kernel_rfl) (by simp) ?_
     refine AllReadyH.cons (o := qWkB_7) rfl (fun K hK => ?_) AllReadyH.nil
     rw [if_pos (by rfl)]
     refine wp_append_mine (po := none) _ (.tmp 44) (.tmp 48) 22 rfl wr.heap.size 9 i0 (.string ⟨#[]⟩) 1 16 Tryz.underlying22 hi hz0 hz1 hz2 rfl (by decide) _ (stepsB tx).length ((stepsB tx).map Value.string) rfl (.inl HO6.out) _ left.length (left.map Value.string) rfl (reads_pl (HL.out w6 HG6.out)) (by unfold maxLen; have := stepsB_len tx; omega) (by have := stepsB_len tx; omega) (by have := HB6.out.size; omega) ?_
     intro v7 w7 hm7 hb7
     obtain ⟨_, p7, c7, rfl, _, _, _, _⟩ := Mine.out hm7 (by unfold maxLen; have := stepsB_len tx; omega)
     have HM7 := Lib.hid hm7
     have HB7 : Hid (Below wr.heap.size wr w7) := Lib.hid (HB6.out.trans hb7)
     have HS7 := Lib.hid (HSX.out.kept HB7.out)
     have HG7 := Lib.hid (grown_trans HGX.out (grown_of_below (g := g) HB7.out))
     clear hm7 hb7
     refine hK.out _ _ (by trivial) (fun hHeld => ?_)
     clear hK K
     try simp only [Act.put, sA, sB, sC]
     refine tk 8 qWkB_8 ?_
     try simp only [Act.put, sA, sB, sC]
     refine tk 9 qWkB_9 ?_
     try simp only [Act.put, sA, sB, sC]
     refine wpAnyH_ready (rs := [10]) (by kernel_rfl) (by simp) ?_
     refine AllReadyH.cons (o := qWkB_10) rfl (fun K hK => ?_) AllReadyH.nil
     obtain ⟨d0, d1, d2, d3, d4, d5⟩ := HS7.out.cell
     have x2 := HS7.out.open_ 2
     clear hHeld
     go_simp
     go_wp2_with fail
     refine hK.out _ _ (by trivial) (fun hHeld => ?_)
     clear hK K
     try simp only [Act.put, sA, sB, sC]
     refine wpAnyH_done (by kernel_rfl) ?_ _
     go_wp2_with fail
     go_ret
     have hg9 : w.grownBy (w7.setCell ⟨g, 2, none⟩ (.slice p7 ((stepsB tx).length + left.length) c7)) (some g) := grown_trans HG7.out grown_set
     have hgl := HSX.out.lt
     exact ⟨rfl, av, _, (by (try rw [HDB.out]); simpa using HS7.out.set2 (.slice p7 ((stepsB tx).length + left.length) c7)), (by rw [HPB.out]; exact PlG.by HA.out ⟨hg9.os, hg9.tape, hg9.output, hg9.size, hg9.block⟩), mine_pl (n := (stepsB tx).length + left.length) (l := stepsB tx ++ left) (by simp) (by simpa using HM7.out) hgl, ⟨hg9.os, hg9.tape, hg9.output, hg9.size, hg9.block⟩⟩
    ·skip
     go_simp
     (go_at_call 63; refine (steps_own tx (by omega) _).mono ?_; rintro e w6 ⟨vs, rfl, hown, hb6⟩)
     have HO6 := Lib.hid hown
     have HB6 : Hid (Below wr.heap.size wr w6) := Lib.hid ((Below.refl _ _).drew.trans hb6)
     have HS6 := Lib.hid (HSX.out.kept HB6.out)
     have HG6 := Lib.hid (grown_trans HGX.out (grown_of_below (g := g) HB6.out))
     obtain ⟨ps, cs, rfl⟩ := own_slice hown
     clear hown hb6
     go_wp2_with fail
     refine hK.out _ _ (by trivial) (fun hHeld => ?_)
     clear hK K
     try simp only [Act.put, sA, sB, sC]
     refine wpAnyH_ready (rs := [6]) (by kernel_rfl) (by simp) ?_
     refine AllReadyH.cons (o := qWkB_6) rfl (fun K hK => ?_) AllReadyH.nil
     obtain ⟨d0, d1, d2, d3, d4, d5⟩ := HS6.out.cell
     go_simp
     clear d0 d1 d2 d3 d4 d5
     refine hK.out _ _ (by trivial) (fun hHeld => ?_)
     clear hK K
     try simp only [Act.put, sA, sB, sC]
     refine wpAnyH_ready (rs := [7]) (by kernel_rfl) (by simp) ?_
     refine AllReadyH.cons (o := qWkB_7) rfl (fun K hK => ?_) AllReadyH.nil
     rw [if_pos (by rfl)]
     refine wp_append_mine (po := none) _ (.tmp 44) (.tmp 48) 22 rfl wr.heap.size 9 i0 (.string ⟨#[]⟩) 1 16 Tryz.underlying22 hi hz0 hz1 hz2 rfl (by decide) _ (stepsB tx).length ((stepsB tx).map Value.string) rfl (.inl HO6.out) _ left.length (left.map Value.string) rfl (reads_pl (HL.out w6 HG6.out)) (by unfold maxLen; have := stepsB_len tx; omega) (by have := stepsB_len tx; omega) (by have := HB6.out.size; omega) ?_
     intro v7 w7 hm7 hb7
     obtain ⟨_, p7, c7, rfl, _, _, _, _⟩ := Mine.out hm7 (by unfold maxLen; have := stepsB_len tx; omega)
     have HM7 := Lib.hid hm7
     have HB7 : Hid (Below wr.heap.size wr w7) := Lib.hid (HB6.out.trans hb7)
     have HS7 := Lib.hid (HSX.out.kept HB7.out)
     have HG7 := Lib.hid (grown_trans HGX.out (grown_of_below (g := g) HB7.out))
     clear hm7 hb7
     refine hK.out _ _ (by trivial) (fun hHeld => ?_)
     clear hK K
     try simp only [Act.put, sA, sB, sC]
     refine tk 8 qWkB_8 ?_
     try simp only [Act.put, sA, sB, sC]
     refine tk 9 qWkB_9 ?_
     try simp only [Act.put, sA, sB, sC]
     refine wpAnyH_ready (rs := [10]) (by kernel_rfl) (by simp) ?_
     refine AllReadyH.cons (o := qWkB_10) rfl (fun K hK => ?_) AllReadyH.nil
     obtain ⟨d0, d1, d2, d3, d4, d5⟩ := HS7.out.cell
     have x2 := HS7.out.open_ 2
     clear hHeld
     go_simp
     go_wp2_with fail
     refine hK.out _ _ (by trivial) (fun hHeld => ?_)
     clear hK K
     try simp only [Act.put, sA, sB, sC]
     refine wpAnyH_done (by kernel_rfl) ?_ _
     go_wp2_with fail
     go_ret
     have hg9 : w.grownBy (w7.setCell ⟨g, 2, none⟩ (.slice p7 ((stepsB tx).length + left.length) c7)) (some g) := grown_trans HG7.out grown_set
     have hgl := HSX.out.lt
     exact ⟨rfl, av, _, (by (try rw [HDB.out]); simpa using HS7.out.set2 (.slice p7 ((stepsB tx).length + left.length) c7)), (by rw [HPB.out]; exact PlG.by HA.out ⟨hg9.os, hg9.tape, hg9.output, hg9.size, hg9.block⟩), mine_pl (n := (stepsB tx).length + left.length) (l := stepsB tx ++ left) (by simp) (by simpa using HM7.out) hgl, ⟨hg9.os, hg9.tape, hg9.output, hg9.size, hg9.block⟩⟩
   ·go_upto_region 9 with fail
    have HSX := Lib.hid ((HS4.out).set1 (.slice none 0 0))
    have HGX := Lib.hid (grown_trans (HG4.out) (grown_set (g := g) (j := 1) (v := .slice none 0 0)))
    generalize (w4).setCell ⟨g, 1, none⟩ (.slice none 0 0) = wr at *
    refine wp_region_held_drew (S := (fun _ => True)) (by kernel_rfl) trivial (fun hHeld => ?_)
    refine tk 0 qWkB_0 ?_
    try simp only [Act.put, sA, sB, sC]
    refine tk 1 qWkB_1 ?_
    try simp only [Act.put, sA, sB, sC]
    refine tk 3 qWkB_2 ?_
    try simp only [Act.put, sA, sB, sC]
    refine tk 4 qWkB_3 ?_
    try simp only [Act.put, sA, sB, sC]
    refine tk 5 qWkB_4 ?_
    try simp only [Act.put, sA, sB, sC]
    refine wpAnyH_ready (rs := [2, 6]) (by kernel_rfl) (by simp) ?_
    refine AllReadyH.cons (o := qWkB_5) rfl (fun K hK => ?_) ?_
    rotate_left
    refine AllReadyH.cons (o := qWkB_6) rfl (fun K hK => ?_) AllReadyH.nil
    ·skip
     obtain ⟨d0, d1, d2, d3, d4, d5⟩ := HSX.out.cell
     go_simp
     clear d0 d1 d2 d3 d4 d5
     refine hK.out _ _ (by trivial) (fun hHeld => ?_)
     clear hK K
     try simp only [Act.put, sA, sB, sC]
     refine wpAnyH_ready (rs := [2]) (by kernel_rfl) (by simp) ?_
     refine AllReadyH.cons (o := qWkB_5) rfl (fun K hK => ?_) AllReadyH.nil
     go_simp
     (go_at_call 63; refine (steps_own tx (by omega) _).mono ?_; rintro e w6 ⟨vs, rfl, hown, hb6⟩)
     have HO6 := Lib.hid hown
     have HB6 : Hid (Below wr.heap.size wr w6) := Lib.hid ((Below.refl _ _).drew.trans hb6)
     have HS6 := Lib.hid (HSX.out.kept HB6.out)
     have HG6 := Lib.hid (grown_trans HGX.out (grown_of_below (g := g) HB6.out))
     obtain ⟨ps, cs, rfl⟩ := own_slice hown
     clear hown hb6
     go_wp2_with fail
     refine hK.out _ _ (by trivial) (fun hHeld => ?_)
     clear hK K
     try simp only [Act.put, sA, sB, sC]
     refine wpAnyH_ready (rs := [7]) (by kernel_rfl) (by simp) ?_
     refine AllReadyH.cons (o := qWkB_7) rfl (fun K hK => ?_) AllReadyH.nil
     rw [if_pos (by rfl)]
     refine wp_append_mine (po := none) _ (.tmp 44) (.tmp 48) 22 rfl wr.heap.size 9 i0 (.string ⟨#[]⟩) 1 16 Tryz.underlying22 hi hz0 hz1 hz2 rfl (by decide) _ (stepsB tx).length ((stepsB tx).map Value.string) rfl (.inl HO6.out) _ left.length (left.map Value.string) rfl (reads_pl (HL.out w6 HG6.out)) (by unfold maxLen; have := stepsB_len tx; omega) (by have := stepsB_len tx; omega) (by have := HB6.out.size; omega) ?_
     intro v7 w7 hm7 hb7
     obtain ⟨_, p7, c7, rfl, _, _, _, _⟩ := Mine.out hm7 (by unfold maxLen; have := stepsB_len tx; omega)
     have HM7 := Lib.hid hm7
     have HB7 : Hid (Below wr.heap.size wr w7) := Lib.hid (HB6.out.trans hb7)
     have HS7 := Lib.hid (HSX.out.kept HB7.out)
     have HG7 := Lib.hid (grown_trans HGX.out (grown_of_below (g := g) HB7.out))
     clear hm7 hb7
     refine hK.out _ _ (by trivial) (fun hHeld => ?_)
     clear hK K
     try simp only [Act.put, sA, sB, sC]
     refine tk 8 qWkB_8 ?_
     try simp only [Act.put, sA, sB, sC]
     refine tk 9 qWkB_9 ?_
     try simp only [Act.put, sA, sB, sC]
     refine wpAnyH_ready (rs := [10]) (by kernel_rfl) (by simp) ?_
     refine AllReadyH.cons (o := qWkB_10) rfl (fun K hK => ?_) AllReadyH.nil
     obtain ⟨d0, d1, d2, d3, d4, d5⟩ := HS7.out.cell
     have x2 := HS7.out.open_ 2
     clear hHeld
     go_simp
     go_wp2_with fail
     refine hK.out _ _ (by trivial) (fun hHeld => ?_)
     clear hK K
     try simp only [Act.put, sA, sB, sC]
     refine wpAnyH_done (by kernel_rfl) ?_ _
     go_wp2_with fail
     go_ret
     have hg9 : w.grownBy (w7.setCell ⟨g, 2, none⟩ (.slice p7 ((stepsB tx).length + left.length) c7)) (some g) := grown_trans HG7.out grown_set
     have hgl := HSX.out.lt
     exact ⟨rfl, .slice none 0 0, _, (by (try rw [HDB.out]); simpa using HS7.out.set2 (.slice p7 ((stepsB tx).length + left.length) c7)), (by rw [HPB.out]; exact fun _ _ => nil_pl _), mine_pl (n := (stepsB tx).length + left.length) (l := stepsB tx ++ left) (by simp) (by simpa using HM7.out) hgl, ⟨hg9.os, hg9.tape, hg9.output, hg9.size, hg9.block⟩⟩
    ·skip
     go_simp
     (go_at_call 63; refine (steps_own tx (by omega) _).mono ?_; rintro e w6 ⟨vs, rfl, hown, hb6⟩)
     have HO6 := Lib.hid hown
     have HB6 : Hid (Below wr.heap.size wr w6) := Lib.hid ((Below.refl _ _).drew.trans hb6)
     have HS6 := Lib.hid (HSX.out.kept HB6.out)
     have HG6 := Lib.hid (grown_trans HGX.out (grown_of_below (g := g) HB6.out))
     obtain ⟨ps, cs, rfl⟩ := own_slice hown
     clear hown hb6
     go_wp2_with fail
     refine hK.out _ _ (by trivial) (fun hHeld => ?_)
     clear hK K
     try simp only [Act.put, sA, sB, sC]
     refine wpAnyH_ready (rs := [6]) (by kernel_rfl) (by simp) ?_
     refine AllReadyH.cons (o := qWkB_6) rfl (fun K hK => ?_) AllReadyH.nil
     obtain ⟨d0, d1, d2, d3, d4, d5⟩ := HS6.out.cell
     go_simp
     clear d0 d1 d2 d3 d4 d5
     refine hK.out _ _ (by trivial) (fun hHeld => ?_)
     clear hK K
     try simp only [Act.put, sA, sB, sC]
     refine wpAnyH_ready (rs := [7]) (by kernel_rfl) (by simp) ?_
     refine AllReadyH.cons (o := qWkB_7) rfl (fun K hK => ?_) AllReadyH.nil
     rw [if_pos (by rfl)]
     refine wp_append_mine (po := none) _ (.tmp 44) (.tmp 48) 22 rfl wr.heap.size 9 i0 (.string ⟨#[]⟩) 1 16 Tryz.underlying22 hi hz0 hz1 hz2 rfl (by decide) _ (stepsB tx).length ((stepsB tx).map Value.string) rfl (.inl HO6.out) _ left.length (left.map Value.string) rfl (reads_pl (HL.out w6 HG6.out)) (by unfold maxLen; have := stepsB_len tx; omega) (by have := stepsB_len tx; omega) (by have := HB6.out.size; omega) ?_
     intro v7 w7 hm7 hb7
     obtain ⟨_, p7, c7, rfl, _, _, _, _⟩ := Mine.out hm7 (by unfold maxLen; have := stepsB_len tx; omega)
     have HM7 := Lib.hid hm7
     have HB7 : Hid (Below wr.heap.size wr w7) := Lib.hid (HB6.out.trans hb7)
     have HS7 := Lib.hid (HSX.out.kept HB7.out)
     have HG7 := Lib.hid (grown_trans HGX.out (grown_of_below (g := g) HB7.out))
     clear hm7 hb7
     refine hK.out _ _ (by trivial) (fun hHeld => ?_)
     clear hK K
     try simp only [Act.put, sA, sB, sC]
     refine tk 8 qWkB_8 ?_
     try simp only [Act.put, sA, sB, sC]
     refine tk 9 qWkB_9 ?_
     try simp only [Act.put, sA, sB, sC]
     refine wpAnyH_ready (rs := [10]) (by kernel_rfl) (by simp) ?_
     refine AllReadyH.cons (o := qWkB_10) rfl (fun K hK => ?_) AllReadyH.nil
     obtain ⟨d0, d1, d2, d3, d4, d5⟩ := HS7.out.cell
     have x2 := HS7.out.open_ 2
     clear hHeld
     go_simp
     go_wp2_with fail
     refine hK.out _ _ (by trivial) (fun hHeld => ?_)
     clear hK K
     try simp only [Act.put, sA, sB, sC]
     refine wpAnyH_done (by kernel_rfl) ?_ _
     go_wp2_with fail
     go_ret
     have hg9 : w.grownBy (w7.setCell ⟨g, 2, none⟩ (.slice p7 ((stepsB tx).length + left.length) c7)) (some g) := grown_trans HG7.out grown_set
     have hgl := HSX.out.lt
     exact ⟨rfl, .slice none 0 0, _, (by (try rw [HDB.out]); simpa using HS7.out.set2 (.slice p7 ((stepsB tx).length + left.length) c7)), (by rw [HPB.out]; exact fun _ _ => nil_pl _), mine_pl (n := (stepsB tx).length + left.length) (l := stepsB tx ++ left) (by simp) (by simpa using HM7.out) hgl, ⟨hg9.os, hg9.tape, hg9.output, hg9.size, hg9.block⟩⟩
  ·go_wp2_with fail
   refine (Tryz.strings_HasPrefix tx ⟨#[47]⟩ _).mono ?_
   rintro e w5 ⟨he, hw5⟩
   rw [hw5]
   clear hw5
   rw [show Lib.hasPrefix tx.data.toList (⟨#[47]⟩ : ByteArray).data.toList = pb from HPB.out] at he
   subst he
   cases pb
   ·go_upto_region 9 with fail
    have HSX := Lib.hid (HS4.out.set5 (.bool true))
    have HGX := Lib.hid (grown_trans HG4.out (grown_set (g := g) (j := 5) (v := .bool true)))
    generalize (w4.setCell ⟨g, 5, none⟩ (.bool true)) = wr at *
    refine wp_region_held_drew (S := (fun _ => True)) (by kernel_rfl) trivial (fun hHeld => ?_)
    refine tk 0 qWkB_0 ?_
    try simp only [Act.put, sA, sB, sC]
    refine tk 1 qWkB_1 ?_
    try simp only [Act.put, sA, sB, sC]
    refine tk 3 qWkB_2 ?_
    try simp only [Act.put, sA, sB, sC]
    refine tk 4 qWkB_3 ?_
    try simp only [Act.put, sA, sB, sC]
    refine tk 5 qWkB_4 ?_
    try simp only [Act.put, sA, sB, sC]
    refine wpAnyH_ready (rs := [2, 6]) (by kernel_rfl) (by simp) ?_
    refine AllReadyH.cons (o := qWkB_5) rfl (fun K hK => ?_) ?_
    rotate_left
    refine AllReadyH.cons (o := qWkB_6) rfl (fun K hK => ?_) AllReadyH.nil
    ·skip
     obtain ⟨d0, d1, d2, d3, d4, d5⟩ := HSX.out.cell
     go_simp
     clear d0 d1 d2 d3 d4 d5
     refine hK.out _ _ (by trivial) (fun hHeld => ?_)
     clear hK K
     try simp only [Act.put, sA, sB, sC]
     refine wpAnyH_ready (rs := [2]) (by kernel_rfl) (by simp) ?_
     refine AllReadyH.cons (o := qWkB_5) rfl (fun K hK => ?_) AllReadyH.nil
     go_simp
     (go_at_call 63; refine (steps_own tx (by omega) _).mono ?_; rintro e w6 ⟨vs, rfl, hown, hb6⟩)
     have HO6 := Lib.hid hown
     have HB6 : Hid (Below wr.heap.size wr w6) := Lib.hid ((Below.refl _ _).drew.trans hb6)
     have HS6 := Lib.hid (HSX.out.kept HB6.out)
     have HG6 := Lib.hid (grown_trans HGX.out (grown_of_below (g := g) HB6.out))
     obtain ⟨ps, cs, rfl⟩ := own_slice hown
     clear hown hb6
     go_wp2_with fail
     refine hK.out _ _ (by trivial) (fun hHeld => ?_)
     clear hK K
     try simp only [Act.put, sA, sB, sC]
     refine wpAnyH_ready (rs := [7]) (by kernel_rfl) (by simp) ?_
     refine AllReadyH.cons (o := qWkB_7) rfl (fun K hK => ?_) AllReadyH.nil
     rw [if_pos (by rfl)]
     refine wp_append_mine (po := none) _ (.tmp 44) (.tmp 48) 22 rfl wr.heap.size 9 i0 (.string ⟨#[]⟩) 1 16 Tryz.underlying22 hi hz0 hz1 hz2 rfl (by decide) _ (stepsB tx).length ((stepsB tx).map Value.string) rfl (.inl HO6.out) _ left.length (left.map Value.string) rfl (reads_pl (HL.out w6 HG6.out)) (by unfold maxLen; have := stepsB_len tx; omega) (by have := stepsB_len tx; omega) (by have := HB6.out.size; omega) ?_
     intro v7 w7 hm7 hb7
     obtain ⟨_, p7, c7, rfl, _, _, _, _⟩ := Mine.out hm7 (by unfold maxLen; have := stepsB_len tx; omega)
     have HM7 := Lib.hid hm7
     have HB7 : Hid (Below wr.heap.size wr w7) := Lib.hid (HB6.out.trans hb7)
     have HS7 := Lib.hid (HSX.out.kept HB7.out)
     have HG7 := Lib.hid (grown_trans HGX.out (grown_of_below (g := g) HB7.out))
     clear hm7 hb7
     refine hK.out _ _ (by trivial) (fun hHeld => ?_)
     clear hK K
     try simp only [Act.put, sA, sB, sC]
     refine tk 8 qWkB_8 ?_
     try simp only [Act.put, sA, sB, sC]
     refine tk 9 qWkB_9 ?_
     try simp only [Act.put, sA, sB, sC]
     refine wpAnyH_ready (rs := [10]) (by kernel_rfl) (by simp) ?_
     refine AllReadyH.cons (o := qWkB_10) rfl (fun K hK => ?_) AllReadyH.nil
     obtain ⟨d0, d1, d2, d3, d4, d5⟩ := HS7.out.cell
     have x2 := HS7.out.open_ 2
     clear hHeld
     go_simp
     go_wp2_with fail
     refine hK.out _ _ (by trivial) (fun hHeld => ?_)
     clear hK K
     try simp only [Act.put, sA, sB, sC]
     refine wpAnyH_done (by kernel_rfl) ?_ _
     go_wp2_with fail
     go_ret
     have hg9 : w.grownBy (w7.setCell ⟨g, 2, none⟩ (.slice p7 ((stepsB tx).length + left.length) c7)) (some g) := grown_trans HG7.out grown_set
     have hgl := HSX.out.lt
     exact ⟨rfl, av, _, (by (try rw [HDB.out]); simpa using HS7.out.set2 (.slice p7 ((stepsB tx).length + left.length) c7)), (by rw [HPB.out]; exact PlG.by HA.out ⟨hg9.os, hg9.tape, hg9.output, hg9.size, hg9.block⟩), mine_pl (n := (stepsB tx).length + left.length) (l := stepsB tx ++ left) (by simp) (by simpa using HM7.out) hgl, ⟨hg9.os, hg9.tape, hg9.output, hg9.size, hg9.block⟩⟩
    ·skip
     go_simp
     (go_at_call 63; refine (steps_own tx (by omega) _).mono ?_; rintro e w6 ⟨vs, rfl, hown, hb6⟩)
     have HO6 := Lib.hid hown
     have HB6 : Hid (Below wr.heap.size wr w6) := Lib.hid ((Below.refl _ _).drew.trans hb6)
     have HS6 := Lib.hid (HSX.out.kept HB6.out)
     have HG6 := Lib.hid (grown_trans HGX.out (grown_of_below (g := g) HB6.out))
     obtain ⟨ps, cs, rfl⟩ := own_slice hown
     clear hown hb6
     go_wp2_with fail
     refine hK.out _ _ (by trivial) (fun hHeld => ?_)
     clear hK K
     try simp only [Act.put, sA, sB, sC]
     refine wpAnyH_ready (rs := [6]) (by kernel_rfl) (by simp) ?_
     refine AllReadyH.cons (o := qWkB_6) rfl (fun K hK => ?_) AllReadyH.nil
     obtain ⟨d0, d1, d2, d3, d4, d5⟩ := HS6.out.cell
     go_simp
     clear d0 d1 d2 d3 d4 d5
     refine hK.out _ _ (by trivial) (fun hHeld => ?_)
     clear hK K
     try simp only [Act.put, sA, sB, sC]
     refine wpAnyH_ready (rs := [7]) (by kernel_rfl) (by simp) ?_
     refine AllReadyH.cons (o := qWkB_7) rfl (fun K hK => ?_) AllReadyH.nil
     rw [if_pos (by rfl)]
     refine wp_append_mine (po := none) _ (.tmp 44) (.tmp 48) 22 rfl wr.heap.size 9 i0 (.string ⟨#[]⟩) 1 16 Tryz.underlying22 hi hz0 hz1 hz2 rfl (by decide) _ (stepsB tx).length ((stepsB tx).map Value.string) rfl (.inl HO6.out) _ left.length (left.map Value.string) rfl (reads_pl (HL.out w6 HG6.out)) (by unfold maxLen; have := stepsB_len tx; omega) (by have := stepsB_len tx; omega) (by have := HB6.out.size; omega) ?_
     intro v7 w7 hm7 hb7
     obtain ⟨_, p7, c7, rfl, _, _, _, _⟩ := Mine.out hm7 (by unfold maxLen; have := stepsB_len tx; omega)
     have HM7 := Lib.hid hm7
     have HB7 : Hid (Below wr.heap.size wr w7) := Lib.hid (HB6.out.trans hb7)
     have HS7 := Lib.hid (HSX.out.kept HB7.out)
     have HG7 := Lib.hid (grown_trans HGX.out (grown_of_below (g := g) HB7.out))
     clear hm7 hb7
     refine hK.out _ _ (by trivial) (fun hHeld => ?_)
     clear hK K
     try simp only [Act.put, sA, sB, sC]
     refine tk 8 qWkB_8 ?_
     try simp only [Act.put, sA, sB, sC]
     refine tk 9 qWkB_9 ?_
     try simp only [Act.put, sA, sB, sC]
     refine wpAnyH_ready (rs := [10]) (by kernel_rfl) (by simp) ?_
     refine AllReadyH.cons (o := qWkB_10) rfl (fun K hK => ?_) AllReadyH.nil
     obtain ⟨d0, d1, d2, d3, d4, d5⟩ := HS7.out.cell
     have x2 := HS7.out.open_ 2
     clear hHeld
     go_simp
     go_wp2_with fail
     refine hK.out _ _ (by trivial) (fun hHeld => ?_)
     clear hK K
     try simp only [Act.put, sA, sB, sC]
     refine wpAnyH_done (by kernel_rfl) ?_ _
     go_wp2_with fail
     go_ret
     have hg9 : w.grownBy (w7.setCell ⟨g, 2, none⟩ (.slice p7 ((stepsB tx).length + left.length) c7)) (some g) := grown_trans HG7.out grown_set
     have hgl := HSX.out.lt
     exact ⟨rfl, av, _, (by (try rw [HDB.out]); simpa using HS7.out.set2 (.slice p7 ((stepsB tx).length + left.length) c7)), (by rw [HPB.out]; exact PlG.by HA.out ⟨hg9.os, hg9.tape, hg9.output, hg9.size, hg9.block⟩), mine_pl (n := (stepsB tx).length + left.length) (l := stepsB tx ++ left) (by simp) (by simpa using HM7.out) hgl, ⟨hg9.os, hg9.tape, hg9.output, hg9.size, hg9.block⟩⟩
   ·go_upto_region 9 with fail
    have HSX := Lib.hid ((HS4.out.set5 (.bool true)).set1 (.slice none 0 0))
    have HGX := Lib.hid (grown_trans (grown_trans HG4.out (grown_set (g := g) (j := 5) (v := .bool true))) (grown_set (g := g) (j := 1) (v := .slice none 0 0)))
    generalize ((w4.setCell ⟨g, 5, none⟩ (.bool true))).setCell ⟨g, 1, none⟩ (.slice none 0 0) = wr at *
    refine wp_region_held_drew (S := (fun _ => True)) (by kernel_rfl) trivial (fun hHeld => ?_)
    refine tk 0 qWkB_0 ?_
    try simp only [Act.put, sA, sB, sC]
    refine tk 1 qWkB_1 ?_
    try simp only [Act.put, sA, sB, sC]
    refine tk 3 qWkB_2 ?_
    try simp only [Act.put, sA, sB, sC]
    refine tk 4 qWkB_3 ?_
    try simp only [Act.put, sA, sB, sC]
    refine tk 5 qWkB_4 ?_
    try simp only [Act.put, sA, sB, sC]
    refine wpAnyH_ready (rs := [2, 6]) (by kernel_rfl) (by simp) ?_
    refine AllReadyH.cons (o := qWkB_5) rfl (fun K hK => ?_) ?_
    rotate_left
    refine AllReadyH.cons (o := qWkB_6) rfl (fun K hK => ?_) AllReadyH.nil
    ·skip
     obtain ⟨d0, d1, d2, d3, d4, d5⟩ := HSX.out.cell
     go_simp
     clear d0 d1 d2 d3 d4 d5
     refine hK.out _ _ (by trivial) (fun hHeld => ?_)
     clear hK K
     try simp only [Act.put, sA, sB, sC]
     refine wpAnyH_ready (rs := [2]) (by kernel_rfl) (by simp) ?_
     refine AllReadyH.cons (o := qWkB_5) rfl (fun K hK => ?_) AllReadyH.nil
     go_simp
     (go_at_call 63; refine (steps_own tx (by omega) _).mono ?_; rintro e w6 ⟨vs, rfl, hown, hb6⟩)
     have HO6 := Lib.hid hown
     have HB6 : Hid (Below wr.heap.size wr w6) := Lib.hid ((Below.refl _ _).drew.trans hb6)
     have HS6 := Lib.hid (HSX.out.kept HB6.out)
     have HG6 := Lib.hid (grown_trans HGX.out (grown_of_below (g := g) HB6.out))
     obtain ⟨ps, cs, rfl⟩ := own_slice hown
     clear hown hb6
     go_wp2_with fail
     refine hK.out _ _ (by trivial) (fun hHeld => ?_)
     clear hK K
     try simp only [Act.put, sA, sB, sC]
     refine wpAnyH_ready (rs := [7]) (by kernel_rfl) (by simp) ?_
     refine AllReadyH.cons (o := qWkB_7) rfl (fun K hK => ?_) AllReadyH.nil
     rw [if_pos (by rfl)]
     refine wp_append_mine (po := none) _ (.tmp 44) (.tmp 48) 22 rfl wr.heap.size 9 i0 (.string ⟨#[]⟩) 1 16 Tryz.underlying22 hi hz0 hz1 hz2 rfl (by decide) _ (stepsB tx).length ((stepsB tx).map Value.string) rfl (.inl HO6.out) _ left.length (left.map Value.string) rfl (reads_pl (HL.out w6 HG6.out)) (by unfold maxLen; have := stepsB_len tx; omega) (by have := stepsB_len tx; omega) (by have := HB6.out.size; omega) ?_
     intro v7 w7 hm7 hb7
     obtain ⟨_, p7, c7, rfl, _, _, _, _⟩ := Mine.out hm7 (by unfold maxLen; have := stepsB_len tx; omega)
     have HM7 := Lib.hid hm7
     have HB7 : Hid (Below wr.heap.size wr w7) := Lib.hid (HB6.out.trans hb7)
     have HS7 := Lib.hid (HSX.out.kept HB7.out)
     have HG7 := Lib.hid (grown_trans HGX.out (grown_of_below (g := g) HB7.out))
     clear hm7 hb7
     refine hK.out _ _ (by trivial) (fun hHeld => ?_)
     clear hK K
     try simp only [Act.put, sA, sB, sC]
     refine tk 8 qWkB_8 ?_
     try simp only [Act.put, sA, sB, sC]
     refine tk 9 qWkB_9 ?_
     try simp only [Act.put, sA, sB, sC]
     refine wpAnyH_ready (rs := [10]) (by kernel_rfl) (by simp) ?_
     refine AllReadyH.cons (o := qWkB_10) rfl (fun K hK => ?_) AllReadyH.nil
     obtain ⟨d0, d1, d2, d3, d4, d5⟩ := HS7.out.cell
     have x2 := HS7.out.open_ 2
     clear hHeld
     go_simp
     go_wp2_with fail
     refine hK.out _ _ (by trivial) (fun hHeld => ?_)
     clear hK K
     try simp only [Act.put, sA, sB, sC]
     refine wpAnyH_done (by kernel_rfl) ?_ _
     go_wp2_with fail
     go_ret
     have hg9 : w.grownBy (w7.setCell ⟨g, 2, none⟩ (.slice p7 ((stepsB tx).length + left.length) c7)) (some g) := grown_trans HG7.out grown_set
     have hgl := HSX.out.lt
     exact ⟨rfl, .slice none 0 0, _, (by (try rw [HDB.out]); simpa using HS7.out.set2 (.slice p7 ((stepsB tx).length + left.length) c7)), (by rw [HPB.out]; exact fun _ _ => nil_pl _), mine_pl (n := (stepsB tx).length + left.length) (l := stepsB tx ++ left) (by simp) (by simpa using HM7.out) hgl, ⟨hg9.os, hg9.tape, hg9.output, hg9.size, hg9.block⟩⟩
    ·skip
     go_simp
     (go_at_call 63; refine (steps_own tx (by omega) _).mono ?_; rintro e w6 ⟨vs, rfl, hown, hb6⟩)
     have HO6 := Lib.hid hown
     have HB6 : Hid (Below wr.heap.size wr w6) := Lib.hid ((Below.refl _ _).drew.trans hb6)
     have HS6 := Lib.hid (HSX.out.kept HB6.out)
     have HG6 := Lib.hid (grown_trans HGX.out (grown_of_below (g := g) HB6.out))
     obtain ⟨ps, cs, rfl⟩ := own_slice hown
     clear hown hb6
     go_wp2_with fail
     refine hK.out _ _ (by trivial) (fun hHeld => ?_)
     clear hK K
     try simp only [Act.put, sA, sB, sC]
     refine wpAnyH_ready (rs := [6]) (by kernel_rfl) (by simp) ?_
     refine AllReadyH.cons (o := qWkB_6) rfl (fun K hK => ?_) AllReadyH.nil
     obtain ⟨d0, d1, d2, d3, d4, d5⟩ := HS6.out.cell
     go_simp
     clear d0 d1 d2 d3 d4 d5
     refine hK.out _ _ (by trivial) (fun hHeld => ?_)
     clear hK K
     try simp only [Act.put, sA, sB, sC]
     refine wpAnyH_ready (rs := [7]) (by kernel_rfl) (by simp) ?_
     refine AllReadyH.cons (o := qWkB_7) rfl (fun K hK => ?_) AllReadyH.nil
     rw [if_pos (by rfl)]
     refine wp_append_mine (po := none) _ (.tmp 44) (.tmp 48) 22 rfl wr.heap.size 9 i0 (.string ⟨#[]⟩) 1 16 Tryz.underlying22 hi hz0 hz1 hz2 rfl (by decide) _ (stepsB tx).length ((stepsB tx).map Value.string) rfl (.inl HO6.out) _ left.length (left.map Value.string) rfl (reads_pl (HL.out w6 HG6.out)) (by unfold maxLen; have := stepsB_len tx; omega) (by have := stepsB_len tx; omega) (by have := HB6.out.size; omega) ?_
     intro v7 w7 hm7 hb7
     obtain ⟨_, p7, c7, rfl, _, _, _, _⟩ := Mine.out hm7 (by unfold maxLen; have := stepsB_len tx; omega)
     have HM7 := Lib.hid hm7
     have HB7 : Hid (Below wr.heap.size wr w7) := Lib.hid (HB6.out.trans hb7)
     have HS7 := Lib.hid (HSX.out.kept HB7.out)
     have HG7 := Lib.hid (grown_trans HGX.out (grown_of_below (g := g) HB7.out))
     clear hm7 hb7
     refine hK.out _ _ (by trivial) (fun hHeld => ?_)
     clear hK K
     try simp only [Act.put, sA, sB, sC]
     refine tk 8 qWkB_8 ?_
     try simp only [Act.put, sA, sB, sC]
     refine tk 9 qWkB_9 ?_
     try simp only [Act.put, sA, sB, sC]
     refine wpAnyH_ready (rs := [10]) (by kernel_rfl) (by simp) ?_
     refine AllReadyH.cons (o := qWkB_10) rfl (fun K hK => ?_) AllReadyH.nil
     obtain ⟨d0, d1, d2, d3, d4, d5⟩ := HS7.out.cell
     have x2 := HS7.out.open_ 2
     clear hHeld
     go_simp
     go_wp2_with fail
     refine hK.out _ _ (by trivial) (fun hHeld => ?_)
     clear hK K
     try simp only [Act.put, sA, sB, sC]
     refine wpAnyH_done (by kernel_rfl) ?_ _
     go_wp2_with fail
     go_ret
     have hg9 : w.grownBy (w7.setCell ⟨g, 2, none⟩ (.slice p7 ((stepsB tx).length + left.length) c7)) (some g) := grown_trans HG7.out grown_set
     have hgl := HSX.out.lt
     exact ⟨rfl, .slice none 0 0, _, (by (try rw [HDB.out]); simpa using HS7.out.set2 (.slice p7 ((stepsB tx).length + left.length) c7)), (by rw [HPB.out]; exact fun _ _ => nil_pl _), mine_pl (n := (stepsB tx).length + left.length) (l := stepsB tx ++ left) (by simp) (by simpa using HM7.out) hgl, ⟨hg9.os, hg9.tape, hg9.output, hg9.size, hg9.block⟩⟩
end Go.Proofs.YtfilbknnpjbmcaaGreatDoor
