/- Walks over nodes: the node at a place, of the program. -/
import Derived.Test.YtfilbknnpjbmcaaGreatDoorKb02
import Derived.Test.YtfilbknnpjbmcaaGreatDoorKb16
import Derived.Laws.EntriesVeiled
namespace Go.Proofs.YtfilbknnpjbmcaaGreatDoor
open Go.RowKit Px Nx

namespace Nx
theorem well_kind {n : Nd} (h : n.well = true) : n.kind ≠ 0 := by
 cases n with
 | mk kind text names kids =>
  intro e
  obtain rfl : kind = 0 := e
  rw [Nd.well] at h
  simp at h
theorem at_girth {n : Nd} {l : List ByteArray} (h : n.girth ≤ 200000000) : ((n.at_ l).getD absent).girth ≤ 200000000 := by
 cases hn : n.at_ l with
 | none => decide
 | some y => exact Nat.le_trans (girth_at_all hn) h
end Nx
theorem absent_X (W : World) (S : Nat → Prop) : NodeX W S [.int .u8 0, .string ByteArray.empty, .slice none 0 0, .slice none 0 0] absent :=
 .mk 0 ByteArray.empty [] [] none none 0 0 (fun _ => []) (Nat.le_refl _) (Nat.zero_le _) (fun i hi => absurd hi (Nat.not_lt_zero _)) (fun a ha _ => by cases ha) (Nat.le_refl _) (Nat.zero_le _) (fun i hi => absurd hi (Nat.not_lt_zero _)) (fun a ha _ => by cases ha) (fun i x hx => by simp at hx)

end Go.Proofs.YtfilbknnpjbmcaaGreatDoor
/- Walks over nodes: how many there are and how deep they go, by a closure that counts; May of the program. -/
namespace Go.Proofs.YtfilbknnpjbmcaaGreatDoor
open Go.RowKit Px Nx

namespace Nx
def Nd.fits (n : Nd) (left depth : Nat) : Bool := decide (n.nodes ≤ left ∧ n.deep + depth ≤ 24)
theorem nodes_pos (n : Nd) : 0 < n.nodes := by cases n; unfold Nd.nodes; omega
theorem fits_zero {n : Nd} {left depth : Nat} (h : left = 0 ∨ 24 < depth) : n.fits left depth = false := by
 unfold Nd.fits
 refine decide_eq_false fun h' => ?_
 have := nodes_pos n
 omega
theorem deeps_le : ∀ {l : List Nd} {k : Nat} {c : Nd}, l[k]? = some c → c.deep + 1 ≤ Nd.deeps l
 | [], _, _, h => by simp at h
 | x :: l, 0, c, h => by
  obtain rfl : x = c := by simpa using h
  unfold Nd.deeps
  omega
 | x :: l, k + 1, c, h => by
  have := deeps_le (l := l) (k := k) (c := c) (by simpa using h)
  unfold Nd.deeps
  omega
theorem fits_not {kind : UInt8} {text : ByteArray} {names : List ByteArray} {kids : List Nd} {k left depth lk : Nat} {x : Nd} (hx : kids[k]? = some x) (hl : Nd.nodesAll (kids.take k) + 1 + lk = left) (h : x.fits lk (depth + 1) = false) :
  (Nd.mk kind text names kids).fits left depth = false := by
 unfold Nd.fits at *
 refine decide_eq_false fun h' => of_decide_eq_false h ?_
 have h1 := Nd.nodesAll_take hx
 have h2 := Nd.nodesAll_le kids (k + 1)
 have h3 := deeps_le hx
 unfold Nd.nodes Nd.deep at h'
 constructor <;> omega
theorem fits_kid {x : Nd} {lk depth : Nat} (h : x.fits lk (depth + 1) = true) : x.nodes ≤ lk ∧ x.deep + 1 + depth ≤ 24 := by
 unfold Nd.fits at h
 have := of_decide_eq_true h
 omega
theorem fits_all {kind : UInt8} {text : ByteArray} {names : List ByteArray} {kids : List Nd} {left depth lk : Nat} (hl : Nd.nodesAll kids + 1 + lk = left) (hd : Nd.deeps kids + depth ≤ 24) :
  (Nd.mk kind text names kids).fits left depth = true := by
 unfold Nd.fits
 refine decide_eq_true ?_
 unfold Nd.nodes Nd.deep
 constructor <;> omega
end Nx
def One (w : World) (g : Nat) (n : Nat) : Prop := w.heap[g]? = some (.cells #[.int .i64 n] 3 (0, 0))
theorem One.cell {w : World} {g n : Nat} (h : One w g n) : w.cell? ⟨g, 0, none⟩ = some (.int .i64 n) := by rw [cell_of_row _ _ _ _ _ _ h]; rfl
theorem One.open_ {w : World} {g n : Nat} (h : One w g n) : w.frozen? ⟨g, 0, none⟩ = false := frozen_of_row w g 0 _ _ h
theorem One.lt {w : World} {g n : Nat} (h : One w g n) : g < w.heap.size := block_of_cell h.cell
theorem One.set {w : World} {g n : Nat} (h : One w g n) (m : Nat) : One (w.setCell ⟨g, 0, none⟩ (.int .i64 m)) g m := heap_setCell_same w g 0 _ _ (.int .i64 m) h
theorem One.kept {w w' : World} {g n : Nat} (h : One w g n) (hb : Below w.heap.size w w') : One w' g n := by
 unfold One at *
 rw [hb.block _ (One.lt h)]
 exact h
theorem grown_trans {w w' w'' : World} {g : Nat} (h : w.grownBy w' (some g)) (h' : w'.grownBy w'' (some g)) : w.grownBy w'' (some g) :=
 ⟨h'.os.trans h.os, h'.tape.trans h.tape, h'.output.trans h.output, Nat.le_trans h.size h'.size, fun k hk hne => (h'.block k (Nat.lt_of_lt_of_le hk h.size) hne).trans (h.block k hk hne)⟩
theorem grown_of_below {w w' : World} {g : Nat} (h : Below w.heap.size w w') : w.grownBy w' (some g) := ⟨h.os, h.tape, h.output, h.size, fun k hk _ => h.block k hk⟩
theorem grown_set {w : World} {g j : Nat} {v : Value} : w.grownBy (w.setCell ⟨g, j, none⟩ v) (some g) := by
 have h := (Below.refl 0 w).setCell (p := ⟨g, j, none⟩) (Nat.zero_le _) v
 exact ⟨h.os, h.tape, h.output, by simp, fun k _ hne => heap_setCell_other _ _ _ _ fun e => hne (by rw [e])⟩
theorem grown_alloc {w w' : World} {g : Nat} (h : w.grownBy w' (some g)) (o : Obj) : w.grownBy (w'.alloc o) (some g) := grown_trans h (grown_of_below ((Below.refl _ _).alloc (Nat.le_refl _) o))
theorem below_of_grown {B : Nat} {W w w' : World} {g : Nat} (h : Below B W w) (hB : B ≤ w.heap.size) (hg : w.grownBy w' (some g)) (hle : B ≤ g) : Below B W w' := h.grown hg hB fun k hk => by cases hk; exact hle

def goDown (bL bG : Nat) : Value := .func (.func 68) #[] #[.pointer (some ⟨bL, 0, none⟩), .pointer (some ⟨bG, 0, none⟩)]

set_option maxRecDepth 100000 in
set_option maxHeartbeats 4000000 in
theorem goDown_any {W : World} {cs : List Value} {c : Nd} (h : NodeR W cs c) : ∀ (w : World) (bL bG left depth : Nat), Below W.heap.size W w → W.heap.size ≤ bL → bG ≠ bL → left ≤ 1024 → depth ≤ 25 → One w bL left → w.cell? ⟨bG, 0, none⟩ = some (goDown bL bG) →
  Calls Tryz.prog 68 #[.agg cs.toArray, .int .i64 depth, .pointer (some ⟨bL, 0, none⟩), .pointer (some ⟨bG, 0, none⟩)] w fun e w' => e = .returned (.bool (c.fits left depth)) ∧ w.grownBy w' (some bL) ∧ ∃ l, One w' bL l ∧ l ≤ left ∧ (c.fits left depth = true → l + c.nodes = left) := by
 induction h with
 | mk kind text names kids p q cp d D h1 h2 h3 h5 h6 h7 h8 ih =>
  intro w bL bG left depth hb hbL hne hleft hdep hL hG
  have hlen : kids.length ≤ 9223372036854775807 := by unfold maxLen at h6; omega
  have IH := Lib.hid ih
  have HK := Lib.hid h8
  have HR := Lib.hid h7
  have HW := Lib.hid hb
  have HL := Lib.hid hL
  have HG : Hid (w.cell? ⟨bG, 0, none⟩ = some (goDown bL bG)) := Lib.hid hG
  clear ih h8 h7 h3 hb hL hG h1 h2 h5 h6
  have hbw : bL < w.heap.size := HL.out.lt
  have HBOX := Lib.hid ((Below.refl w.heap.size w).alloc (Nat.le_refl _) (.cells #[.int .u8 kind.toNat, .string text, .slice p names.length cp, .slice q kids.length d] 25))
  have c0 := (HL.out.kept HBOX.out).cell
  have x0 := (HL.out.kept HBOX.out).open_
  by_cases hz : left = 0 ∨ 24 < depth
  ·have HV := Lib.hid (fits_zero (n := .mk kind text names kids) hz)
   generalize Nd.fits (.mk kind text names kids) left depth = R at *
   have HFIN : Hid (∃ l, One (w.alloc (.cells #[.int .u8 kind.toNat, .string text, .slice p names.length cp, .slice q kids.length d] 25)) bL l ∧ l ≤ left ∧ (R = true → l + (Nd.mk kind text names kids).nodes = left)) := Lib.hid ⟨left, HL.out.kept HBOX.out, Nat.le_refl _, fun h => by rw [HV.out] at h; cases h⟩
   by_cases hl0 : left = 0
   ·have hg0 : ((left : Int) == 0) = true := by rw [hl0]; rfl
    clear hl0 hz
    go_enter Tryz.func68, Tryz.ntmps68
    go_wp2_with fail
    go_ret
    exact ⟨ret_bool HV.out.symm, grown_of_below HBOX.out, HFIN.out⟩
   ·have hg0 : ((left : Int) == 0) = false := beq_eq_false_iff_ne.2 (by omega)
    have hg1 : 24 < depth := by omega
    clear hl0 hz
    go_enter Tryz.func68, Tryz.ntmps68
    go_wp2_with fail
    all_goals
     go_ret
     exact ⟨ret_bool HV.out.symm, grown_of_below HBOX.out, HFIN.out⟩
  ·have hg0 : ((left : Int) == 0) = false := beq_eq_false_iff_ne.2 (by omega)
   have hg1 : decide (24 < depth) = false := decide_eq_false (by omega)
   obtain ⟨l1, hl1⟩ : ∃ l1, left = l1 + 1 := ⟨left - 1, by omega⟩
   have hdp : depth ≤ 24 := by omega
   clear hz
   subst hl1
   have hg0 : (((l1 : Int) + 1) == 0) = false := beq_eq_false_iff_ne.2 (by omega)
   have HFN : Hid (∀ {k lk : Nat} {x : Nd}, kids[k]? = some x → Nd.nodesAll (kids.take k) + 1 + lk = l1 + 1 → x.fits lk (depth + 1) = false → (Nd.mk kind text names kids).fits (l1 + 1) depth = false) := Lib.hid fun hx hl h => fits_not hx hl h
   have HFA : Hid (∀ {lk : Nat}, Nd.nodesAll kids + 1 + lk = l1 + 1 → Nd.deeps kids + depth ≤ 24 → (Nd.mk kind text names kids).fits (l1 + 1) depth = true) := Lib.hid fun hl hd => fits_all hl hd
   have HND : Hid ((Nd.mk kind text names kids).nodes = Nd.nodesAll kids + 1) := Lib.hid (by rw [Nd.nodes])
   generalize Nd.fits (.mk kind text names kids) (l1 + 1) depth = R at *
   generalize Nd.nodes (.mk kind text names kids) = NN at *
   generalize hkn : kids.length = kn at *
   have HKN := Lib.hid hkn
   clear hkn
   go_enter Tryz.func68, Tryz.ntmps68
   go_wp2_with fail
   have HLn : Hid (One ((w.setCell ⟨bL, 0, none⟩ (.int .i64 l1)).alloc (.cells #[.int .u8 kind.toNat, .string text, .slice p names.length cp, .slice q kn d] 25)) bL l1) := Lib.hid ((HL.out.set l1).kept ((Below.refl _ _).alloc (Nat.le_refl _) _))
   have HBn : Hid (w.grownBy ((w.setCell ⟨bL, 0, none⟩ (.int .i64 l1)).alloc (.cells #[.int .u8 kind.toNat, .string text, .slice p names.length cp, .slice q kn d] 25)) (some bL)) := Lib.hid (grown_alloc grown_set _)
   generalize ((w.setCell ⟨bL, 0, none⟩ (.int .i64 l1)).alloc (.cells #[.int .u8 kind.toNat, .string text, .slice p names.length cp, .slice q kn d] 25)) = w1 at *
   clear c0 x0 HBOX HL
   go_loopw [20] (fun i wr => ∃ (k lk : Nat), k ≤ kn ∧ lk ≤ l1 ∧ i = .int .i64 k ∧ Hid (Nd.nodesAll (kids.take k) + 1 + lk = l1 + 1) ∧ Hid (Nd.deeps (kids.take k) + depth ≤ 24) ∧ Hid (One wr bL lk) ∧ Hid (w.grownBy wr (some bL))) (fun i _ => kn - (intOf i).toNat)
   case atStart => exact ⟨0, l1, Nat.zero_le _, Nat.le_refl _, rfl, Lib.hid (by simp [Nd.nodesAll]; omega), Lib.hid (by simp [Nd.deeps]; omega), HLn, HBn⟩
   case round =>
    clear HLn HBn
    obtain ⟨k, lk, hk, hlk, rfl, HNS, HDS, HL, HB⟩ := hrel
    have HGR : Hid (wr.cell? ⟨bG, 0, none⟩ = some (goDown bL bG)) := Lib.hid (cell_grownBy HB.out HG.out (by simp; exact hne))
    by_cases hlt : k < kn
    ·have hkx : k < kids.length := by rw [HKN.out]; exact hlt
     have HOLD : Hid (Below W.heap.size W wr) := Lib.hid (below_of_grown HW.out HW.out.size HB.out hbL)
     obtain ⟨b, o, kk, tx, p2, n2, c2, q2, m2, d2, rfl, hD, e0, e1, e2, e3⟩ := kid_cells HR.out HOLD.out hlt (HK.out k _ (List.getElem?_eq_getElem hkx))
     have HX := Lib.hid (List.getElem?_eq_getElem hkx)
     generalize kids[k] = x at HX
     have HC := Lib.hid (IH.out k x HX.out (wr.alloc (.cells #[.int .u8 kk, .string tx, .slice p2 n2 c2, .slice q2 m2 d2] 25)) bL bG lk (depth + 1) (HOLD.out.alloc HOLD.out.size _) hbL hne (by omega) (by omega) (HL.out.kept ((Below.refl _ _).alloc (Nat.le_refl _) _)) (cell_kept ((Below.refl _ _).alloc (Nat.le_refl _) _) HGR.out))
     rw [hD, show ((depth + 1 : Nat) : Int) = (depth : Int) + 1 by omega] at HC
     have HFX : Hid (x.fits lk (depth + 1) = false → R = false) := Lib.hid fun h => HFN.out HX.out HNS.out h
     have HFK : Hid (x.fits lk (depth + 1) = true → x.nodes ≤ lk ∧ x.deep + 1 + depth ≤ 24) := Lib.hid fits_kid
     have HT1 := Lib.hid (Nd.nodesAll_take HX.out)
     have HT2 := Lib.hid (Nd.deeps_take HX.out)
     clear hD
     generalize x.fits lk (depth + 1) = F at *
     generalize x.nodes = xn at *
     generalize x.deep = xd at *
     have hgd : wr.cell? ⟨bG, 0, none⟩ = some (.func (.func 68) #[] #[.pointer (some ⟨bL, 0, none⟩), .pointer (some ⟨bG, 0, none⟩)]) := HGR.out
     have hgd2 : (wr.alloc (.cells #[.int .u8 kk, .string tx, .slice p2 n2 c2, .slice q2 m2 d2] 25)).cell? ⟨bG, 0, none⟩ = some (.func (.func 68) #[] #[.pointer (some ⟨bL, 0, none⟩), .pointer (some ⟨bG, 0, none⟩)]) := cell_kept ((Below.refl _ _).alloc (Nat.le_refl _) _) hgd
     clear hgd
     go_wp2_with fail
     refine HC.out.mono ?_
     rintro e w2 ⟨rfl, hg2, l2, hl2, hll, hlf⟩
     have HG2 : Hid (w.grownBy w2 (some bL)) := Lib.hid (grown_trans (grown_alloc HB.out _) hg2)
     have HL2 := Lib.hid hl2
     have HLF := Lib.hid hlf
     clear hg2 hl2 hlf hgd2
     go_wp2
     ·have hF : F = false := by cases F <;> simp_all
      have HV := Lib.hid (HFX.out hF)
      have hRl : R = true → l2 + NN = l1 + 1 := fun h => by rw [HV.out] at h; cases h
      go_ret
      exact ⟨ret_bool HV.out.symm, HG2.out, l2, HL2.out, by omega, hRl⟩
     ·have hF : F = true := by cases F <;> simp_all
      have hkk := HFK.out hF
      have hl3 := HLF.out hF
      go_roundw
      case rel => exact ⟨k + 1, l2, by omega, by omega, by go_num, Lib.hid (by rw [HT1.out]; have := HNS.out; omega), Lib.hid (by rw [HT2.out]; have := HDS.out; omega), HL2, HG2⟩
      case measure => simp [intOf]; omega
    ·have hkt : kids.take k = kids := by rw [show k = kids.length by rw [HKN.out]; omega, List.take_length]
     have h1 := HNS.out
     have h2 := HDS.out
     rw [hkt] at h1 h2
     have HV := Lib.hid (HFA.out h1 h2)
     have hRl : R = true → lk + NN = l1 + 1 := fun _ => by rw [HND.out]; omega
     have HRL := Lib.hid hRl
     clear h1 h2 hkt hRl
     go_wp2_with fail
     go_ret
     exact ⟨ret_bool HV.out.symm, HB.out, lk, HL.out, by omega, HRL.out⟩

set_option maxRecDepth 100000 in
set_option maxHeartbeats 2000000 in
theorem fits_any {W : World} {cs : List Value} {c : Nd} (h : NodeR W cs c) : ∀ w, Below W.heap.size W w →
  Calls Tryz.prog 39 #[.agg cs.toArray] w fun e w' => e = .returned (.bool (c.fits 1024 0)) ∧ Below w.heap.size w w' := by
 intro w hb
 have HW := Lib.hid hb
 have HC : Hid (∀ wx bL bG, Below w.heap.size w wx → w.heap.size ≤ bL → bG ≠ bL → One wx bL 1024 → wx.cell? ⟨bG, 0, none⟩ = some (goDown bL bG) → Calls Tryz.prog 68 #[.agg cs.toArray, .int .i64 0, .pointer (some ⟨bL, 0, none⟩), .pointer (some ⟨bG, 0, none⟩)] wx fun e w' => e = .returned (.bool (c.fits 1024 0)) ∧ Below w.heap.size w w') := Lib.hid fun wx bL bG hx hle hne h1 h2 =>
  (goDown_any h wx bL bG 1024 0 (hb.trans (hx.mono hb.size)) (Nat.le_trans hb.size hle) hne (Nat.le_refl _) (by omega) h1 h2).mono fun e w' ⟨he, hg, _⟩ => ⟨he, below_of_grown hx hx.size hg hle⟩
 obtain ⟨p, q, cp, d, rfl⟩ := h.cells
 clear h hb
 generalize c.kind.toNat = k1 at *
 generalize c.text = t1 at *
 generalize c.names.length = n1 at *
 generalize c.kids.length = m1 at *
 generalize c.fits 1024 0 = R at *
 go_enter Tryz.func39, Tryz.ntmps39
 go_upto_region 3 with fail
 have HL3 : Hid (One (((w.alloc (.cells #[.int .u8 k1, .string t1, .slice p n1 cp, .slice q m1 d] 25)).alloc (.cells #[.int .i64 1024] 3)).alloc (.cells #[.nilFunc] 113)) (w.heap.size + 1) 1024) := Lib.hid (by
  unfold One
  rw [Below.heap_alloc _ _ _ (by simp)]
  have := heap_alloc_new (w.alloc (.cells #[.int .u8 k1, .string t1, .slice p n1 cp, .slice q m1 d] 25)) (.cells #[.int .i64 1024] 3)
  simpa using this)
 have HG3 : Hid ((((w.alloc (.cells #[.int .u8 k1, .string t1, .slice p n1 cp, .slice q m1 d] 25)).alloc (.cells #[.int .i64 1024] 3)).alloc (.cells #[.nilFunc] 113)).heap[w.heap.size + 1 + 1]? = some (.cells #[.nilFunc] 113 (0, 0))) := Lib.hid (by
  have := heap_alloc_new ((w.alloc (.cells #[.int .u8 k1, .string t1, .slice p n1 cp, .slice q m1 d] 25)).alloc (.cells #[.int .i64 1024] 3)) (.cells #[.nilFunc] 113)
  simpa using this)
 have HV3 : Hid (Four (((w.alloc (.cells #[.int .u8 k1, .string t1, .slice p n1 cp, .slice q m1 d] 25)).alloc (.cells #[.int .i64 1024] 3)).alloc (.cells #[.nilFunc] 113)) w.heap.size (.int .u8 k1) (.string t1) (.slice p n1 cp) (.slice q m1 d)) := Lib.hid ((four_first w _ _ _ _ _).alloc _)
 have HB3 : Hid (Below w.heap.size w (((w.alloc (.cells #[.int .u8 k1, .string t1, .slice p n1 cp, .slice q m1 d] 25)).alloc (.cells #[.int .i64 1024] 3)).alloc (.cells #[.nilFunc] 113))) := Lib.hid ((((Below.refl w.heap.size w).alloc (Nat.le_refl _) _).alloc (by simp) _).alloc (by simp <;> omega) _)
 generalize (((w.alloc (.cells #[.int .u8 k1, .string t1, .slice p n1 cp, .slice q m1 d] 25)).alloc (.cells #[.int .i64 1024] 3)).alloc (.cells #[.nilFunc] 113)) = w3 at *
 have g0 : w3.cell? ⟨w.heap.size + 1 + 1, 0, none⟩ = some .nilFunc := by rw [cell_of_row _ _ _ _ _ _ HG3.out]; rfl
 have x0 : w3.frozen? ⟨w.heap.size + 1 + 1, 0, none⟩ = false := frozen_of_row _ _ 0 _ _ HG3.out
 obtain ⟨c0, c1, c2, c3⟩ := HV3.out.cell
 have HGs := Lib.hid (heap_setCell_same w3 (w.heap.size + 1 + 1) 0 _ _ (goDown (w.heap.size + 1) (w.heap.size + 1 + 1)) HG3.out)
 have HLs : Hid (One (w3.setCell ⟨w.heap.size + 1 + 1, 0, none⟩ (goDown (w.heap.size + 1) (w.heap.size + 1 + 1))) (w.heap.size + 1) 1024) := Lib.hid (by
  unfold One
  rw [heap_setCell_other _ _ _ _ (by simp)]
  exact HL3.out)
 have HCs := Lib.hid (HC.out (w3.setCell ⟨w.heap.size + 1 + 1, 0, none⟩ (goDown (w.heap.size + 1) (w.heap.size + 1 + 1))) (w.heap.size + 1) (w.heap.size + 1 + 1) (HB3.out.setCell (p := ⟨w.heap.size + 1 + 1, 0, none⟩) (show w.heap.size ≤ w.heap.size + 1 + 1 by omega) _) (by omega) (by omega) HLs.out (by rw [cell_of_row _ _ _ _ _ _ HGs.out]; rfl))
 clear HC HGs HLs
 unfold goDown at HCs
 go_wp2_with fail
 refine HCs.out.mono ?_
 rintro e w4 ⟨rfl, hb4⟩
 have HB4 := Lib.hid hb4
 clear hb4
 go_wp2_with fail
 go_ret
 exact ⟨rfl, HB4.out⟩

theorem may_fits {c : Nd} : c.may = (decide (c.kind = 2) && c.fits 1024 0 && c.well) := by
 unfold Nd.may Nd.fits
 rw [Bool.eq_iff_iff]
 simp
 constructor
 ·rintro ⟨⟨⟨h1, h2⟩, h3⟩, h4⟩
  exact ⟨⟨h1, h3, h4⟩, h2⟩
 ·rintro ⟨⟨h1, h3, h4⟩, h2⟩
  exact ⟨⟨⟨h1, h2⟩, h3⟩, h4⟩

set_option maxRecDepth 100000 in
set_option maxHeartbeats 2000000 in
theorem may_any {W : World} {cs : List Value} {c : Nd} (h : NodeR W cs c) : ∀ w, Below W.heap.size W w →
  Calls Tryz.prog 23 #[.agg cs.toArray] w fun e w' => e = .returned (.bool c.may) ∧ Below w.heap.size w w' := by
 intro w hb
 have HW : Hid (∀ wx, Below w.heap.size w wx → Calls Tryz.prog 27 #[.agg cs.toArray] wx fun e w' => e = .returned (.bool c.well) ∧ Below wx.heap.size wx w') := Lib.hid fun wx hx => well_any h wx (hb.trans (hx.mono hb.size))
 have HF : Hid (∀ wx, Below w.heap.size w wx → Calls Tryz.prog 39 #[.agg cs.toArray] wx fun e w' => e = .returned (.bool (c.fits 1024 0)) ∧ Below wx.heap.size wx w') := Lib.hid fun wx hx => fits_any h wx (hb.trans (hx.mono hb.size))
 have HV := Lib.hid (may_fits (c := c))
 have e2 := beq_int c.kind 2
 rw [show ((2 : UInt8).toNat : Int) = 2 from rfl] at e2
 have hk : decide (c.kind = 2) = (c.kind == 2) := by rw [Bool.eq_iff_iff]; simp
 rw [hk] at HV
 clear hk
 obtain ⟨p, q, cp, d, rfl⟩ := h.cells
 clear h hb
 generalize c.well = wl at *
 generalize c.fits 1024 0 = ft at *
 generalize (c.kind == 2) = kb at *
 generalize c.kind.toNat = kn at *
 generalize c.names.length = nn at *
 generalize c.kids.length = kk at *
 generalize c.text = tx at *
 generalize c.may = R at *
 cases kb
 ·go_enter Tryz.func23, Tryz.ntmps23
  go_wp2_with fail
  go_ret
  exact ⟨ret_bool (by rw [HV.out]; rfl), box_self (Below.refl _ _)⟩
 ·cases ft
  ·go_enter Tryz.func23, Tryz.ntmps23
   go_wp2_with fail
   refine (HF.out _ (box_self (Below.refl _ _))).mono ?_
   rintro e w2 ⟨rfl, hb2⟩
   have HB2 := Lib.hid hb2
   clear hb2
   go_wp2_with fail
   go_ret
   exact ⟨ret_bool (by rw [HV.out]; rfl), box_self (HB2.out.mono (by simp))⟩
  ·go_enter Tryz.func23, Tryz.ntmps23
   go_wp2_with fail
   refine (HF.out _ (box_self (Below.refl _ _))).mono ?_
   rintro e w2 ⟨rfl, hb2⟩
   have HB2 : Hid (Below (w.heap.size + 1) (w.alloc (.cells #[.int .u8 kn, .string tx, .slice p nn cp, .slice q kk d] 25)) w2) := Lib.hid (hb2.mono (by simp))
   clear hb2
   have c0 : w2.cell? ⟨w.heap.size, 0, none⟩ = some (.int .u8 kn) := box_cell HB2.out 0 rfl
   have c1 : w2.cell? ⟨w.heap.size, 1, none⟩ = some (.string tx) := box_cell HB2.out 1 rfl
   have c2 : w2.cell? ⟨w.heap.size, 2, none⟩ = some (.slice p nn cp) := box_cell HB2.out 2 rfl
   have c3 : w2.cell? ⟨w.heap.size, 3, none⟩ = some (.slice q kk d) := box_cell HB2.out 3 rfl
   go_wp2_with fail
   refine (HW.out _ (box_self HB2.out)).mono ?_
   rintro e w3 ⟨rfl, hb3⟩
   have HB3 := Lib.hid hb3
   clear hb3
   go_wp2_with fail
   go_ret
   exact ⟨ret_bool (by rw [HV.out]; rfl), (box_self HB2.out).trans (HB3.out.mono (box_self HB2.out).size)⟩
end Go.Proofs.YtfilbknnpjbmcaaGreatDoor
