/- Walks of package dirs: a run of each utility. -/
import Derived.Test.YtmofodaecakkfaaGreatKb45
namespace Go.Proofs.YtmofodaecakkfaaGreat
open Go.RowKit Px Nx Wk Dn Ox
theorem grows_up {R : Rel} {d : Nat} (h : Grows R d) (hd : d ≤ 257) : Grows R 257 := fun hG ht hr => (h hG ht hr).more (by omega)
/-- Usage. -/
def NoOps (r : ByteArray × List ByteArray × Int) (A : UInt8) : Prop := r.2.2 ≠ 0 ∨ (r.2.1 = [] ∧ hasB r.1 A = false)
def IsZ (c : Int) : Prop := c = 0
/-- All blocks below stay but two. -/
structure Fr (W w : World) (b gb : Nat) : Prop where
  os : w.os = W.os
  tape : w.tape = W.tape
  output : w.output = W.output
  size : W.heap.size ≤ w.heap.size
  block : ∀ k, k < W.heap.size → k ≠ b → k ≠ gb → w.heap[k]? = W.heap[k]?
theorem Fr.refl (W : World) (b gb : Nat) : Fr W W b gb := ⟨rfl, rfl, rfl, Nat.le_refl _, fun _ _ _ _ => rfl⟩
theorem Fr.tree {W w w' : World} {b gb : Nat} (h : Fr W w b gb) (hg : w.grownBy w' (some b)) : Fr W w' b gb := ⟨hg.os.trans h.os, hg.tape.trans h.tape, hg.output.trans h.output, Nat.le_trans h.size hg.size, fun k hk h1 h2 => (hg.block k (Nat.lt_of_lt_of_le hk h.size) (by simpa using h1)).trans (h.block k hk h1 h2)⟩
theorem Fr.stay {W w w' : World} {b gb : Nat} {o : Option Nat} (h : Fr W w b gb) (hg : Stay w w' gb o) (ho : ∀ g, o = some g → W.heap.size ≤ g) : Fr W w' b gb := ⟨hg.1.trans h.os, hg.2.1.trans h.tape, hg.2.2.1.trans h.output, Nat.le_trans h.size hg.2.2.2.1, fun k hk h1 h2 => (hg.2.2.2.2 k (Nat.lt_of_lt_of_le hk h.size) h2 (fun e => by have := ho k e; omega)).trans (h.block k hk h1 h2)⟩
theorem Fr.grown {W W0 w : World} {b gb : Nat} (h0 : Below W.heap.size W W0) (h : Fr W0 w b gb) (hgb : W.heap.size ≤ gb) : W.grownBy w (some b) := ⟨h.os.trans h0.os, h.tape.trans h0.tape, h.output.trans h0.output, Nat.le_trans h0.size h.size, fun k hk hne => (h.block k (Nat.lt_of_lt_of_le hk h0.size) (by simpa using hne) (by omega)).trans (h0.block k hk)⟩
theorem Fr.cell {W w : World} {b gb k i : Nat} {v : Value} (h : Fr W w b gb) (hc : W.cell? ⟨k, i, none⟩ = some v) (h1 : k ≠ b) (h2 : k ≠ gb) : w.cell? ⟨k, i, none⟩ = some v := by
  rw [cell_same (h.block k (block_of_cell hc) h1 h2)]
  exact hc
/-- Where a tree's blocks do not lie while a builder is written. -/
def Off (b gb : Nat) (v : Value) : Nat → Prop := fun k => k ≠ b ∧ k ≠ gb ∧ v.ownBlock ≠ some k
theorem blen_any {w : World} {gb : Nat} {p v : Value} {l : List UInt8} (h : BV w gb p v l) (hp : p = .pointer none ∨ p = .pointer (some ⟨gb, 0, none⟩)) :
    Calls Tryz.prog 43 #[.pointer (some ⟨gb, 0, none⟩)] w fun e w' => e = .returned (.int .i64 l.length) ∧ w' = w := by
  have := Tryz.Builder_Len 0 gb (Lib.byteCells l) w (h.is hp)
  rw [show (Lib.byteCells l).length = l.length by simp [Lib.byteCells]] at this
  exact this
/-- The run's loop: so many operands are done. -/
structure LI (R : Rel) (N : Nat) (n : Nd) (name : ByteArray) (ops : List ByteArray) (W0 wr : World) (b gb k : Nat) : Prop where
  all : ∃ nk bad p v x0 x1 x2 x3, Ops (operR R) n (ops.take k) bad nk ∧ TreeN (N + 257 * k) nk ∧ TreeS wr (Off b gb v) b nk x0 x1 x2 x3 ∧ BV wr gb p v (linesL name bad) ∧ (p = .pointer none ∨ p = .pointer (some ⟨gb, 0, none⟩)) ∧ (∀ g, v.ownBlock = some g → W0.heap.size ≤ g)
  fr : Fr W0 wr b gb

set_option maxRecDepth 100000 in
set_option maxHeartbeats 16000000 in
theorem run_makeDir {w : World} {b N : Nat} {n : Nd} {v0 v1 v2 v3 : Value} (h : TreeX w b n v0 v1 v2 v3) (hG : TreeN N n) (hN : N ≤ 200) (name : ByteArray) (hname : name.size ≤ 600) {xv : Value} {xs : List ByteArray} (hx : PlR w xv xs) (hxl : xs.length ≤ 40) (hxs : ∀ x ∈ xs, x.size ≤ 600) :
    Calls Tryz.prog 23 #[utilV ⟨#[112]⟩ 0 34, .iface 29 (.pointer (some ⟨b, 0, none⟩)), .string name, xv] w fun e w' => RunQ [112] 0 (fun S => mkR (hasB S 112)) n name xs w b e w' := by
  have HAL : Hid (∀ (o : Obj), Below w.heap.size w (w.alloc o)) := Lib.hid fun o => below_alloc (Below.refl _ _)
  have HPA : Hid (∀ wx, Below w.heap.size w wx → Calls Tryz.prog 38 #[.string ⟨#[112]⟩, xv, .int .i64 0, .int .i64 (xs.length : Nat)] wx fun e w' => ParseQ wx.heap.size w' e (parseD [112] xs 0 xs.length) ∧ Below wx.heap.size wx w') := Lib.hid fun wx hb => parse_any wx xv xs ⟨#[112]⟩ 0 xs.length (hx.grown hb) (by omega) (fun x h => by have := hxs x h; omega) (of_decide_eq_true (by kernel_rfl))
  have HOP : Hid (∀ y ∈ (parseD [112] xs 0 xs.length).2.1, y.size ≤ 600) := Lib.hid fun y hy => hxs y (parse_mem hy)
  have HOL : Hid ((parseD [112] xs 0 xs.length).2.1.length ≤ 40) := Lib.hid (Nat.le_trans parse_len hxl)
  obtain ⟨Q, hQ⟩ : ∃ Q : Ending → World → Prop, Q = fun e w' => RunQ [112] 0 (fun S => mkR (hasB S 112)) n name xs w b e w' := ⟨_, rfl⟩
  have HQ2 : Hid (∀ w', NoOps (parseD [112] xs 0 xs.length) 0 → (∃ x0 x1 x2 x3, TreeX w' b n x0 x1 x2 x3) → w.grownBy w' (some b) → Q (.returned (.tuple #[.int .i64 2, .string (name ++ ⟨#[58, 32, 117, 115, 97, 103, 101, 10]⟩)])) w') := Lib.hid fun w' h1 h2 h3 => hQ ▸ ⟨_, _, _, rfl, .inl ⟨h1, rfl, rfl, rfl⟩, h2, h3⟩
  have HQ1 : Hid (∀ w' bad n', IsZ (parseD [112] xs 0 xs.length).2.2 → Ops (operR ((fun S => mkR (hasB S 112)) (parseD [112] xs 0 xs.length).1)) n (parseD [112] xs 0 xs.length).2.1 bad n' → bad ≠ [] → (∃ x0 x1 x2 x3, TreeX w' b n' x0 x1 x2 x3) → w.grownBy w' (some b) → Q (.returned (.tuple #[.int .i64 1, .string ⟨(linesL name bad).toArray⟩])) w') := Lib.hid fun w' bad n' h0 h1 h2 h3 h4 => hQ ▸ ⟨_, _, _, rfl, .inr ⟨h0, bad, h1, .inr ⟨h2, rfl, rfl⟩⟩, h3, h4⟩
  have HQ0 : Hid (∀ w' n', IsZ (parseD [112] xs 0 xs.length).2.2 → Ops (operR ((fun S => mkR (hasB S 112)) (parseD [112] xs 0 xs.length).1)) n (parseD [112] xs 0 xs.length).2.1 [] n' → (∃ x0 x1 x2 x3, TreeX w' b n' x0 x1 x2 x3) → w.grownBy w' (some b) → Q (.returned (.tuple #[.int .i64 0, .string ⟨#[]⟩])) w') := Lib.hid fun w' n' h0 h1 h3 h4 => hQ ▸ ⟨_, _, _, rfl, .inr ⟨h0, [], h1, .inl ⟨rfl, rfl, rfl⟩⟩, h3, h4⟩
  rw [← hQ]
  have HT := Lib.hid h
  have hblt := h.lt
  obtain ⟨xp, xc, rfl, _, hxc, hxm⟩ := id hx
  have hxl2 : xs.length ≤ 9223372036854775807 := by omega
  generalize hL : xs.length = L at *
  clear hQ h hx hxs
  generalize parseD [112] xs 0 L = r at *
  obtain ⟨S, ops, cc⟩ := r
  dsimp only at HOP HOL HQ2 HQ1 HQ0
  unfold utilV
  go_enter Tryz.func23, Tryz.ntmps23
  go_wp2_with fail
  refine (HPA.out _ (HAL.out _)).mono ?_
  rintro e w1 ⟨hr, hb1⟩
  obtain ⟨u, rfl, hu, hub⟩ := hr
  have HU := Lib.hid hu
  have HUB := Lib.hid hub
  obtain ⟨pu, cu, rfl, hst, hcl, hcm⟩ := hu
  have HB1 : Hid (Below w.heap.size w w1) := Lib.hid ((HAL.out _).trans (hb1.mono (HAL.out _).size))
  have hsz1 : w.heap.size + 1 ≤ w1.heap.size := by have := hb1.size; simpa using this
  have HUC : Hid (∀ wx, Below w1.heap.size w1 wx → wx.cell? ⟨w.heap.size, 0, none⟩ = some (.string ⟨#[112]⟩) ∧ wx.cell? ⟨w.heap.size, 1, none⟩ = some (.int .u8 0) ∧ wx.cell? ⟨w.heap.size, 2, none⟩ = some (.func (.func 34) #[] #[])) := Lib.hid fun wx hx => ⟨cell_kept hx (cell_kept hb1 (cell_first rfl)), cell_kept hx (cell_kept hb1 (cell_first rfl)), cell_kept hx (cell_kept hb1 (cell_first rfl))⟩
  have HST := Lib.hid hst
  clear hb1 hub hst
  by_cases hc0 : cc = 0
  · subst hc0
    by_cases hol : ops.length = 0
    · obtain rfl : ops = [] := List.eq_nil_of_length_eq_zero hol
      have HHA : Hid (∀ wx, Calls Tryz.prog 39 #[.agg #[.string S, .slice pu 0 cu], .int .u8 0] wx fun e w' => e = .returned (.bool (hasB S 0)) ∧ Below wx.heap.size wx w') := Lib.hid fun wx => has_any wx S (.slice pu 0 cu) 0
      obtain ⟨u0, u1, u2⟩ := HUC.out _ (below_alloc (o := .cells #[.string S, .slice pu 0 cu, .iface 29 (.pointer (some ⟨b, 0, none⟩))] 69) (below_alloc (o := .cells #[.string S, .slice pu 0 cu] 67) (Below.refl _ _)))
      have hh : ∃ hb, hasB S 0 = hb := ⟨_, rfl⟩
      obtain ⟨hb, hh⟩ := hh
      rw [hh] at HHA
      have HH := Lib.hid hh
      have z1 : ¬ (9223372036854775807 < name.size + 8) := by omega
      clear hh hol
      go_wp2_with fail
      refine (HHA.out _).mono ?_
      rintro e w2 ⟨rfl, hb2⟩
      have HB2 : Hid (Below w.heap.size w w2) := Lib.hid ((below_alloc (below_alloc HB1.out)).trans (hb2.mono (below_alloc (below_alloc HB1.out)).size))
      have d1 : w2.cell? ⟨w1.heap.size + 1, 1, none⟩ = some (.slice pu 0 cu) := cell_kept hb2 (cell_firstE (by simp) rfl)
      clear hb2
      cases hb with
      | false =>
        go_wp2_with fail
        exact HQ2.out _ (show NoOps (S, [], 0) 0 from .inr ⟨rfl, HH.out⟩) ⟨_, _, _, _, HT.out.kept HB2.out⟩ (grown_below HB2.out)
      | true =>
        go_upto_region 6 with fail
        have d2 := cell_alloc (o := .cells #[.pointer none, .slice none 0 0] 76) d1
        have HBV : Hid (BV (w2.alloc (.cells #[.pointer none, .slice none 0 0] 76)) w2.heap.size (.pointer none) (.slice none 0 0) []) := Lib.hid ⟨heap_alloc_new w2 _, ⟨rfl, .inl ⟨rfl, rfl⟩⟩, by simp [Value.ownBlock]⟩
        have HB3 : Hid (Below w.heap.size w (w2.alloc (.cells #[.pointer none, .slice none 0 0] 76))) := Lib.hid (below_alloc HB2.out)
        generalize w2.alloc (.cells #[.pointer none, .slice none 0 0] 76) = W0 at *
        clear d1
        go_wp2_with fail
        go_loopw [52] (fun i wr => i = .int .i64 0 ∧ Hid (wr = W0)) (fun _ _ => 0)
        case atStart => exact ⟨rfl, Lib.hid rfl⟩
        case round =>
          obtain ⟨rfl, HW⟩ := hrel
          obtain rfl := HW.out
          go_wp2_with fail
          refine (blen_any HBV.out (.inl rfl)).mono ?_
          rintro e w5 ⟨rfl, rfl⟩
          go_wp2_with fail
          exact HQ0.out _ _ (show IsZ 0 from rfl) (.nil _) ⟨_, _, _, _, HT.out.kept HB3.out⟩ (grown_below HB3.out)
    · have hol2 : ((ops.length : Int) == 0) = false := beq_eq_false_iff_ne.2 (by omega)
      go_upto_region 6 with fail
      have HB3 : Hid (Below w1.heap.size w1 (((w1.alloc (.cells #[.string S, .slice pu ops.length cu] 67)).alloc (.cells #[.string S, .slice pu ops.length cu, .iface 29 (.pointer (some ⟨b, 0, none⟩))] 69)).alloc (.cells #[.pointer none, .slice none 0 0] 76))) := Lib.hid (below_alloc (below_alloc (below_alloc (Below.refl _ _))))
      have HBV : Hid (BV (((w1.alloc (.cells #[.string S, .slice pu ops.length cu] 67)).alloc (.cells #[.string S, .slice pu ops.length cu, .iface 29 (.pointer (some ⟨b, 0, none⟩))] 69)).alloc (.cells #[.pointer none, .slice none 0 0] 76)) (w1.heap.size + 2) (.pointer none) (.slice none 0 0) []) := Lib.hid ⟨by have := heap_alloc_new ((w1.alloc (.cells #[.string S, .slice pu ops.length cu] 67)).alloc (.cells #[.string S, .slice pu ops.length cu, .iface 29 (.pointer (some ⟨b, 0, none⟩))] 69)) (.cells #[.pointer none, .slice none 0 0] 76); simpa using this, ⟨rfl, .inl ⟨rfl, rfl⟩⟩, by simp [Value.ownBlock]⟩
      have HCC : Hid ((((w1.alloc (.cells #[.string S, .slice pu ops.length cu] 67)).alloc (.cells #[.string S, .slice pu ops.length cu, .iface 29 (.pointer (some ⟨b, 0, none⟩))] 69)).alloc (.cells #[.pointer none, .slice none 0 0] 76)).cell? ⟨w1.heap.size + 1, 0, none⟩ = some (.string S) ∧ (((w1.alloc (.cells #[.string S, .slice pu ops.length cu] 67)).alloc (.cells #[.string S, .slice pu ops.length cu, .iface 29 (.pointer (some ⟨b, 0, none⟩))] 69)).alloc (.cells #[.pointer none, .slice none 0 0] 76)).cell? ⟨w1.heap.size + 1, 1, none⟩ = some (.slice pu ops.length cu) ∧ (((w1.alloc (.cells #[.string S, .slice pu ops.length cu] 67)).alloc (.cells #[.string S, .slice pu ops.length cu, .iface 29 (.pointer (some ⟨b, 0, none⟩))] 69)).alloc (.cells #[.pointer none, .slice none 0 0] 76)).cell? ⟨w1.heap.size + 1, 2, none⟩ = some (.iface 29 (.pointer (some ⟨b, 0, none⟩)))) := Lib.hid ⟨cell_alloc (cell_firstE (by simp) rfl), cell_alloc (cell_firstE (by simp) rfl), cell_alloc (cell_firstE (by simp) rfl)⟩
      have hszW : (((w1.alloc (.cells #[.string S, .slice pu ops.length cu] 67)).alloc (.cells #[.string S, .slice pu ops.length cu, .iface 29 (.pointer (some ⟨b, 0, none⟩))] 69)).alloc (.cells #[.pointer none, .slice none 0 0] 76)).heap.size = w1.heap.size + 3 := by simp
      generalize ((w1.alloc (.cells #[.string S, .slice pu ops.length cu] 67)).alloc (.cells #[.string S, .slice pu ops.length cu, .iface 29 (.pointer (some ⟨b, 0, none⟩))] 69)).alloc (.cells #[.pointer none, .slice none 0 0] 76) = W0 at *
      have HSZ := Lib.hid hszW
      have HUC0 := Lib.hid (HUC.out _ HB3.out)
      obtain ⟨k0, k1, k2⟩ := HCC.out
      have HTR0 : Hid (TreeS W0 (Off b (w1.heap.size + 2) (.slice none 0 0)) b n v0 v1 v2 v3) := Lib.hid (((HT.out.kept HB1.out).s).stay (HB3.out.block _ (HT.out.kept HB1.out).lt) (fun k hk hl => ⟨HB3.out.block k hl, hk, by omega, by simp [Value.ownBlock]⟩) (fun q => q.1 rfl))
      clear hszW
      go_wp2_with fail
      go_loopw [52] (fun i wr => ∃ k : Nat, k ≤ ops.length ∧ i = .int .i64 k ∧ Hid (LI (mkR (hasB S 112)) N n name ops W0 wr b (w1.heap.size + 2) k)) (fun i _ => ops.length - (intOf i).toNat)
      case atStart => exact ⟨0, Nat.zero_le _, rfl, Lib.hid ⟨⟨n, [], _, _, _, _, _, _, .nil _, hG, HTR0.out, HBV.out, .inl rfl, fun g hg => by simp [Value.ownBlock] at hg⟩, Fr.refl _ _ _⟩⟩
      case round =>
        clear k0 k1 k2
        obtain ⟨k, hk, rfl, HL⟩ := hrel
        obtain ⟨⟨nk, bad, p, v, x0, x1, x2, x3, hops, hgk, htk, hbv, hp, hov⟩, hfr⟩ := HL.out
        have HOPS := Lib.hid hops
        have HGK := Lib.hid hgk
        have HTK := Lib.hid htk
        have HBK := Lib.hid hbv
        have HPP := Lib.hid hp
        have HOV := Lib.hid hov
        have HFR := Lib.hid hfr
        clear HL hops hgk htk hbv hp hov hfr
        have hb1lt : b < w1.heap.size := by omega
        by_cases hkl : k < ops.length
        · obtain ⟨bb, oo, rfl, hcell⟩ := HST.out k hkl
          have hbb1 := HUB.out _ _ _ rfl _ rfl
          have hbb2 := block_of_cell hcell
          have cy := HFR.out.cell (cell_kept HB3.out hcell) (show bb ≠ b by simp at hbb1; omega) (show bb ≠ w1.heap.size + 2 by simp at hbb2; omega)
          obtain ⟨u0, u1, u2⟩ := HUC0.out
          replace u0 := HFR.out.cell u0 (by omega) (by omega)
          replace u1 := HFR.out.cell u1 (by omega) (by omega)
          replace u2 := HFR.out.cell u2 (by omega) (by omega)
          obtain ⟨k0, k1, k2⟩ := HCC.out
          replace k0 := HFR.out.cell k0 (by omega) (by omega)
          replace k1 := HFR.out.cell k1 (by omega) (by omega)
          replace k2 := HFR.out.cell k2 (by omega) (by omega)
          have hy6 : (ops.getD k ByteArray.empty).size ≤ 600 := HOP.out _ (getD_in hkl)
          have HTD : Hid (ops.take (k + 1) = ops.take k ++ [ops.getD k ByteArray.empty]) := Lib.hid (by rw [List.take_succ_eq_append_getElem hkl, List.getD_eq_getElem?_getD, List.getElem?_eq_getElem hkl]; rfl)
          have hol40 := HOL.out
          have HDW : Hid (Calls Tryz.prog 40 #[.agg #[.string ⟨#[112]⟩, .int .u8 0, .func (.func 34) #[] #[]], .agg #[.string S, .slice (some ⟨bb, oo, none⟩) ops.length cu, .iface 29 (.pointer (some ⟨b, 0, none⟩))], .string (ops.getD k ByteArray.empty)] wr fun e w' => DidR (Off b (w1.heap.size + 2) v) (operR (mkR (hasB S 112))) nk (ops.getD k ByteArray.empty) wr b e w') := Lib.hid (doesWith_makeDir ⟨HTK.out, fun j hj => ⟨by have := HTK.out.x.lt; omega, by have := HBK.out.lt; omega, fun e => by have := HBK.out.own_lt e; omega⟩⟩ HGK.out (by omega) S (some ⟨bb, oo, none⟩) ops.length cu _ (by omega))
          clear hcell hbb1 hbb2
          generalize ops.getD k ByteArray.empty = y at *
          go_wp2_with fail
          refine HDW.out.mono ?_
          rintro e w2 ⟨c2, nn, rfl, hr, ht2, hg2⟩
          have HR := Lib.hid hr
          have HT2 := Lib.hid ht2
          have HFR2 := Lib.hid (HFR.out.tree hg2)
          have HB2 : Hid (BV w2 (w1.heap.size + 2) p v (linesL name bad)) := Lib.hid (HBK.out.by hg2 (by simp; omega) (fun g hg e => absurd (show b = g by simpa using e) (by have := HOV.out g hg; have := HSZ.out; omega)))
          have HGN : Hid (TreeN (N + 257 * (k + 1)) nn) := Lib.hid (by have := grows_oper (grows_mk (hasB S 112)) HGK.out HR.out; exact this.more (by omega))
          clear hr ht2 hg2 cy u0 u1 u2 k0 k1 k2 HDW
          by_cases hc2 : c2 = 0
          · subst hc2
            have HNX : Hid (LI (mkR (hasB S 112)) N n name ops W0 w2 b (w1.heap.size + 2) (k + 1)) := Lib.hid (by
              obtain ⟨y0, y1, y2, y3, h2⟩ := HT2.out
              exact ⟨⟨nn, bad, p, v, y0, y1, y2, y3, by rw [HTD.out]; exact HOPS.out.snoc_ok HR.out, HGN.out, h2.s, HB2.out, HPP.out, HOV.out⟩, HFR2.out⟩)
            go_wp2_with fail
            go_roundw
            case rel => exact ⟨k + 1, by omega, by go_num, HNX⟩
            case measure => simp [intOf]; omega
          · have e0 : (c2 != 0) = true := bne_iff_ne.2 hc2
            have H2 := Lib.hid hc2
            clear hc2
            have HLC := Lib.hid (line_cat name y c2)
            have hrs := reason_size c2
            have hbl : (linesL name bad).length ≤ 60000 := by
              have h1 := bad_mem HOPS.out
              have h2 := lines_size name hname bad fun x hx => HOP.out _ (List.mem_of_mem_take (h1.1 x hx))
              have h3 : (ops.take k).length ≤ 40 := by rw [List.length_take]; omega
              have := h1.2
              omega
            go_wp2_with fail
            refine (reason_any _ _).mono ?_
            rintro e w3 ⟨rfl, rfl⟩
            generalize reasonD c2 = rr at *
            have hn1 : name.size ≤ 600 := hname
            have hlen : (linesL name bad).length + (name ++ ⟨#[58, 32]⟩ ++ y ++ ⟨#[58, 32]⟩ ++ rr ++ ⟨#[10]⟩ : ByteArray).size ≤ 1000000 := by
              have q2 : (⟨#[58, 32]⟩ : ByteArray).size = 2 := rfl
              have q1 : (⟨#[10]⟩ : ByteArray).size = 1 := rfl
              simp only [ByteArray.size_append, q1, q2]
              omega
            have HLEN := Lib.hid hlen
            clear hlen hbl
            go_wp2_with fail
            refine (wstr_any HB2.out HPP.out _ HLEN.out).mono ?_
            rintro e w4 ⟨rfl, v4, hbv4, hst4, hov4⟩
            rw [HLC.out, ← lines_snoc] at hbv4
            have HNX : Hid (LI (mkR (hasB S 112)) N n name ops W0 w4 b (w1.heap.size + 2) (k + 1)) := Lib.hid (by
              obtain ⟨y0, y1, y2, y3, h2⟩ := HT2.out
              have hsz2 : W0.heap.size ≤ w2.heap.size := HFR2.out.size
              refine ⟨⟨nn, bad ++ [(y, c2)], _, v4, y0, y1, y2, y3, by rw [HTD.out]; exact HOPS.out.snoc_bad HR.out H2.out, HGN.out, ?_, hbv4, .inr rfl, fun g hg => ?_⟩, HFR2.out.stay hst4 HOV.out⟩
              · refine h2.s.stay (hst4.2.2.2.2 b h2.lt (by omega) (fun e => by have := HOV.out b e; have := HSZ.out; omega)) (fun j hj hl => ⟨hst4.2.2.2.2 j hl hj.2.1 hj.2.2, hj.1, hj.2.1, fun e => ?_⟩) (fun q => q.1 rfl)
                rcases hov4 with q | ⟨g, q, hq⟩
                · exact hj.2.2 (q ▸ e)
                · rw [q] at e
                  have : g = j := by simpa using e
                  omega
              · rcases hov4 with q | ⟨g2, q, hq⟩
                · exact HOV.out g (q ▸ hg)
                · rw [q] at hg
                  have : g2 = g := by simpa using hg
                  omega)
            clear hbv4 hst4 hov4
            go_wp2_with fail
            go_roundw
            case rel => exact ⟨k + 1, by omega, by go_num, HNX⟩
            case measure => simp [intOf]; omega
        · obtain rfl : k = ops.length := by omega
          have HOPS2 : Hid (Ops (operR (mkR (hasB S 112))) n ops bad nk) := Lib.hid (by have := HOPS.out; rwa [List.take_length] at this)
          cases bad with
          | nil =>
            have HB0 : Hid (BV wr (w1.heap.size + 2) p v []) := Lib.hid HBK.out
            go_wp2_with fail
            refine (blen_any HB0.out HPP.out).mono ?_
            rintro e w5 ⟨rfl, rfl⟩
            go_wp2_with fail
            exact HQ0.out _ _ (show IsZ 0 from rfl) HOPS2.out ⟨_, _, _, _, HTK.out.x⟩ (Fr.grown (HB1.out.trans (HB3.out.mono HB1.out.size)) HFR.out (by omega))
          | cons x0 rest =>
            have hne : linesL name (x0 :: rest) ≠ [] := by
              intro e
              have : lineL name x0 ++ linesL name rest = [] := by rw [← e]; simp [linesL]
              exact line_ne name x0 (List.append_eq_nil_iff.1 this).1
            have hpos : (0 : Int) < ((linesL name (x0 :: rest)).length : Int) := by
              have := List.length_pos_iff.2 hne
              omega
            have HNE := Lib.hid hne
            have HBD : Hid (x0 :: rest ≠ []) := Lib.hid (by simp)
            have HG9 := Lib.hid (Fr.grown (HB1.out.trans (HB3.out.mono HB1.out.size)) HFR.out (show w.heap.size ≤ w1.heap.size + 2 by omega))
            have HSO : Hid (∀ w', Stay wr w' (w1.heap.size + 2) v.ownBlock → (∃ z0 z1 z2 z3, TreeX w' b nk z0 z1 z2 z3) ∧ w.grownBy w' (some b)) := Lib.hid fun w' hs => ⟨⟨_, _, _, _, (HTK.out.stay (S' := fun j => j ≠ b) (hs.2.2.2.2 b HTK.out.x.lt (by omega) (fun e => by have := HOV.out b e; have := HSZ.out; omega)) (fun j hj hl => ⟨hs.2.2.2.2 j hl hj.2.1 hj.2.2, hj.1⟩) (fun q => q rfl)).x⟩, Fr.grown (HB1.out.trans (HB3.out.mono HB1.out.size)) (HFR.out.stay hs HOV.out) (by omega)⟩
            generalize hb9 : x0 :: rest = bad9 at *
            clear hb9 hne
            go_wp2_with fail
            refine (blen_any HBK.out HPP.out).mono ?_
            rintro e w5 ⟨rfl, rfl⟩
            go_wp2_with fail
            refine (bstr_any HBK.out HNE.out).mono ?_
            rintro e w6 ⟨rfl, hs6⟩
            obtain ⟨q1, q2⟩ := HSO.out _ hs6
            have Q1 := Lib.hid q1
            have Q2 := Lib.hid q2
            clear q1 q2 hs6
            go_wp2_with fail
            exact HQ1.out _ _ _ (show IsZ 0 from rfl) HOPS2.out HBD.out Q1.out Q2.out
  · have e0 : (cc != 0) = true := bne_iff_ne.2 hc0
    have H0 := Lib.hid hc0
    have z1 : ¬ (9223372036854775807 < name.size + 8) := by omega
    clear hc0
    go_wp2_with fail
    exact HQ2.out _ (show NoOps (S, ops, cc) 0 from .inl H0.out) ⟨_, _, _, _, HT.out.kept (below_alloc (below_alloc HB1.out))⟩ (grown_below (below_alloc (below_alloc HB1.out)))

set_option maxRecDepth 100000 in
set_option maxHeartbeats 16000000 in
theorem run_removeDir {w : World} {b N : Nat} {n : Nd} {v0 v1 v2 v3 : Value} (h : TreeX w b n v0 v1 v2 v3) (hG : TreeN N n) (hN : N ≤ 200) (name : ByteArray) (hname : name.size ≤ 600) {xv : Value} {xs : List ByteArray} (hx : PlR w xv xs) (hxl : xs.length ≤ 40) (hxs : ∀ x ∈ xs, x.size ≤ 600) :
    Calls Tryz.prog 23 #[utilV ⟨#[]⟩ 0 35, .iface 29 (.pointer (some ⟨b, 0, none⟩)), .string name, xv] w fun e w' => RunQ [] 0 (fun _ => rmdirR) n name xs w b e w' := by
  have HAL : Hid (∀ (o : Obj), Below w.heap.size w (w.alloc o)) := Lib.hid fun o => below_alloc (Below.refl _ _)
  have HPA : Hid (∀ wx, Below w.heap.size w wx → Calls Tryz.prog 38 #[.string ⟨#[]⟩, xv, .int .i64 0, .int .i64 (xs.length : Nat)] wx fun e w' => ParseQ wx.heap.size w' e (parseD [] xs 0 xs.length) ∧ Below wx.heap.size wx w') := Lib.hid fun wx hb => parse_any wx xv xs ⟨#[]⟩ 0 xs.length (hx.grown hb) (by omega) (fun x h => by have := hxs x h; omega) (of_decide_eq_true (by kernel_rfl))
  have HOP : Hid (∀ y ∈ (parseD [] xs 0 xs.length).2.1, y.size ≤ 600) := Lib.hid fun y hy => hxs y (parse_mem hy)
  have HOL : Hid ((parseD [] xs 0 xs.length).2.1.length ≤ 40) := Lib.hid (Nat.le_trans parse_len hxl)
  obtain ⟨Q, hQ⟩ : ∃ Q : Ending → World → Prop, Q = fun e w' => RunQ [] 0 (fun _ => rmdirR) n name xs w b e w' := ⟨_, rfl⟩
  have HQ2 : Hid (∀ w', NoOps (parseD [] xs 0 xs.length) 0 → (∃ x0 x1 x2 x3, TreeX w' b n x0 x1 x2 x3) → w.grownBy w' (some b) → Q (.returned (.tuple #[.int .i64 2, .string (name ++ ⟨#[58, 32, 117, 115, 97, 103, 101, 10]⟩)])) w') := Lib.hid fun w' h1 h2 h3 => hQ ▸ ⟨_, _, _, rfl, .inl ⟨h1, rfl, rfl, rfl⟩, h2, h3⟩
  have HQ1 : Hid (∀ w' bad n', IsZ (parseD [] xs 0 xs.length).2.2 → Ops (operR ((fun _ => rmdirR) (parseD [] xs 0 xs.length).1)) n (parseD [] xs 0 xs.length).2.1 bad n' → bad ≠ [] → (∃ x0 x1 x2 x3, TreeX w' b n' x0 x1 x2 x3) → w.grownBy w' (some b) → Q (.returned (.tuple #[.int .i64 1, .string ⟨(linesL name bad).toArray⟩])) w') := Lib.hid fun w' bad n' h0 h1 h2 h3 h4 => hQ ▸ ⟨_, _, _, rfl, .inr ⟨h0, bad, h1, .inr ⟨h2, rfl, rfl⟩⟩, h3, h4⟩
  have HQ0 : Hid (∀ w' n', IsZ (parseD [] xs 0 xs.length).2.2 → Ops (operR ((fun _ => rmdirR) (parseD [] xs 0 xs.length).1)) n (parseD [] xs 0 xs.length).2.1 [] n' → (∃ x0 x1 x2 x3, TreeX w' b n' x0 x1 x2 x3) → w.grownBy w' (some b) → Q (.returned (.tuple #[.int .i64 0, .string ⟨#[]⟩])) w') := Lib.hid fun w' n' h0 h1 h3 h4 => hQ ▸ ⟨_, _, _, rfl, .inr ⟨h0, [], h1, .inl ⟨rfl, rfl, rfl⟩⟩, h3, h4⟩
  rw [← hQ]
  have HT := Lib.hid h
  have hblt := h.lt
  obtain ⟨xp, xc, rfl, _, hxc, hxm⟩ := id hx
  have hxl2 : xs.length ≤ 9223372036854775807 := by omega
  generalize hL : xs.length = L at *
  clear hQ h hx hxs
  generalize parseD [] xs 0 L = r at *
  obtain ⟨S, ops, cc⟩ := r
  dsimp only at HOP HOL HQ2 HQ1 HQ0
  unfold utilV
  go_enter Tryz.func23, Tryz.ntmps23
  go_wp2_with fail
  refine (HPA.out _ (HAL.out _)).mono ?_
  rintro e w1 ⟨hr, hb1⟩
  obtain ⟨u, rfl, hu, hub⟩ := hr
  have HU := Lib.hid hu
  have HUB := Lib.hid hub
  obtain ⟨pu, cu, rfl, hst, hcl, hcm⟩ := hu
  have HB1 : Hid (Below w.heap.size w w1) := Lib.hid ((HAL.out _).trans (hb1.mono (HAL.out _).size))
  have hsz1 : w.heap.size + 1 ≤ w1.heap.size := by have := hb1.size; simpa using this
  have HUC : Hid (∀ wx, Below w1.heap.size w1 wx → wx.cell? ⟨w.heap.size, 0, none⟩ = some (.string ⟨#[]⟩) ∧ wx.cell? ⟨w.heap.size, 1, none⟩ = some (.int .u8 0) ∧ wx.cell? ⟨w.heap.size, 2, none⟩ = some (.func (.func 35) #[] #[])) := Lib.hid fun wx hx => ⟨cell_kept hx (cell_kept hb1 (cell_first rfl)), cell_kept hx (cell_kept hb1 (cell_first rfl)), cell_kept hx (cell_kept hb1 (cell_first rfl))⟩
  have HST := Lib.hid hst
  clear hb1 hub hst
  by_cases hc0 : cc = 0
  · subst hc0
    by_cases hol : ops.length = 0
    · obtain rfl : ops = [] := List.eq_nil_of_length_eq_zero hol
      have HHA : Hid (∀ wx, Calls Tryz.prog 39 #[.agg #[.string S, .slice pu 0 cu], .int .u8 0] wx fun e w' => e = .returned (.bool (hasB S 0)) ∧ Below wx.heap.size wx w') := Lib.hid fun wx => has_any wx S (.slice pu 0 cu) 0
      obtain ⟨u0, u1, u2⟩ := HUC.out _ (below_alloc (o := .cells #[.string S, .slice pu 0 cu, .iface 29 (.pointer (some ⟨b, 0, none⟩))] 69) (below_alloc (o := .cells #[.string S, .slice pu 0 cu] 67) (Below.refl _ _)))
      have hh : ∃ hb, hasB S 0 = hb := ⟨_, rfl⟩
      obtain ⟨hb, hh⟩ := hh
      rw [hh] at HHA
      have HH := Lib.hid hh
      have z1 : ¬ (9223372036854775807 < name.size + 8) := by omega
      clear hh hol
      go_wp2_with fail
      refine (HHA.out _).mono ?_
      rintro e w2 ⟨rfl, hb2⟩
      have HB2 : Hid (Below w.heap.size w w2) := Lib.hid ((below_alloc (below_alloc HB1.out)).trans (hb2.mono (below_alloc (below_alloc HB1.out)).size))
      have d1 : w2.cell? ⟨w1.heap.size + 1, 1, none⟩ = some (.slice pu 0 cu) := cell_kept hb2 (cell_firstE (by simp) rfl)
      clear hb2
      cases hb with
      | false =>
        go_wp2_with fail
        exact HQ2.out _ (show NoOps (S, [], 0) 0 from .inr ⟨rfl, HH.out⟩) ⟨_, _, _, _, HT.out.kept HB2.out⟩ (grown_below HB2.out)
      | true =>
        go_upto_region 6 with fail
        have d2 := cell_alloc (o := .cells #[.pointer none, .slice none 0 0] 76) d1
        have HBV : Hid (BV (w2.alloc (.cells #[.pointer none, .slice none 0 0] 76)) w2.heap.size (.pointer none) (.slice none 0 0) []) := Lib.hid ⟨heap_alloc_new w2 _, ⟨rfl, .inl ⟨rfl, rfl⟩⟩, by simp [Value.ownBlock]⟩
        have HB3 : Hid (Below w.heap.size w (w2.alloc (.cells #[.pointer none, .slice none 0 0] 76))) := Lib.hid (below_alloc HB2.out)
        generalize w2.alloc (.cells #[.pointer none, .slice none 0 0] 76) = W0 at *
        clear d1
        go_wp2_with fail
        go_loopw [52] (fun i wr => i = .int .i64 0 ∧ Hid (wr = W0)) (fun _ _ => 0)
        case atStart => exact ⟨rfl, Lib.hid rfl⟩
        case round =>
          obtain ⟨rfl, HW⟩ := hrel
          obtain rfl := HW.out
          go_wp2_with fail
          refine (blen_any HBV.out (.inl rfl)).mono ?_
          rintro e w5 ⟨rfl, rfl⟩
          go_wp2_with fail
          exact HQ0.out _ _ (show IsZ 0 from rfl) (.nil _) ⟨_, _, _, _, HT.out.kept HB3.out⟩ (grown_below HB3.out)
    · have hol2 : ((ops.length : Int) == 0) = false := beq_eq_false_iff_ne.2 (by omega)
      go_upto_region 6 with fail
      have HB3 : Hid (Below w1.heap.size w1 (((w1.alloc (.cells #[.string S, .slice pu ops.length cu] 67)).alloc (.cells #[.string S, .slice pu ops.length cu, .iface 29 (.pointer (some ⟨b, 0, none⟩))] 69)).alloc (.cells #[.pointer none, .slice none 0 0] 76))) := Lib.hid (below_alloc (below_alloc (below_alloc (Below.refl _ _))))
      have HBV : Hid (BV (((w1.alloc (.cells #[.string S, .slice pu ops.length cu] 67)).alloc (.cells #[.string S, .slice pu ops.length cu, .iface 29 (.pointer (some ⟨b, 0, none⟩))] 69)).alloc (.cells #[.pointer none, .slice none 0 0] 76)) (w1.heap.size + 2) (.pointer none) (.slice none 0 0) []) := Lib.hid ⟨by have := heap_alloc_new ((w1.alloc (.cells #[.string S, .slice pu ops.length cu] 67)).alloc (.cells #[.string S, .slice pu ops.length cu, .iface 29 (.pointer (some ⟨b, 0, none⟩))] 69)) (.cells #[.pointer none, .slice none 0 0] 76); simpa using this, ⟨rfl, .inl ⟨rfl, rfl⟩⟩, by simp [Value.ownBlock]⟩
      have HCC : Hid ((((w1.alloc (.cells #[.string S, .slice pu ops.length cu] 67)).alloc (.cells #[.string S, .slice pu ops.length cu, .iface 29 (.pointer (some ⟨b, 0, none⟩))] 69)).alloc (.cells #[.pointer none, .slice none 0 0] 76)).cell? ⟨w1.heap.size + 1, 0, none⟩ = some (.string S) ∧ (((w1.alloc (.cells #[.string S, .slice pu ops.length cu] 67)).alloc (.cells #[.string S, .slice pu ops.length cu, .iface 29 (.pointer (some ⟨b, 0, none⟩))] 69)).alloc (.cells #[.pointer none, .slice none 0 0] 76)).cell? ⟨w1.heap.size + 1, 1, none⟩ = some (.slice pu ops.length cu) ∧ (((w1.alloc (.cells #[.string S, .slice pu ops.length cu] 67)).alloc (.cells #[.string S, .slice pu ops.length cu, .iface 29 (.pointer (some ⟨b, 0, none⟩))] 69)).alloc (.cells #[.pointer none, .slice none 0 0] 76)).cell? ⟨w1.heap.size + 1, 2, none⟩ = some (.iface 29 (.pointer (some ⟨b, 0, none⟩)))) := Lib.hid ⟨cell_alloc (cell_firstE (by simp) rfl), cell_alloc (cell_firstE (by simp) rfl), cell_alloc (cell_firstE (by simp) rfl)⟩
      have hszW : (((w1.alloc (.cells #[.string S, .slice pu ops.length cu] 67)).alloc (.cells #[.string S, .slice pu ops.length cu, .iface 29 (.pointer (some ⟨b, 0, none⟩))] 69)).alloc (.cells #[.pointer none, .slice none 0 0] 76)).heap.size = w1.heap.size + 3 := by simp
      generalize ((w1.alloc (.cells #[.string S, .slice pu ops.length cu] 67)).alloc (.cells #[.string S, .slice pu ops.length cu, .iface 29 (.pointer (some ⟨b, 0, none⟩))] 69)).alloc (.cells #[.pointer none, .slice none 0 0] 76) = W0 at *
      have HSZ := Lib.hid hszW
      have HUC0 := Lib.hid (HUC.out _ HB3.out)
      obtain ⟨k0, k1, k2⟩ := HCC.out
      have HTR0 : Hid (TreeS W0 (Off b (w1.heap.size + 2) (.slice none 0 0)) b n v0 v1 v2 v3) := Lib.hid (((HT.out.kept HB1.out).s).stay (HB3.out.block _ (HT.out.kept HB1.out).lt) (fun k hk hl => ⟨HB3.out.block k hl, hk, by omega, by simp [Value.ownBlock]⟩) (fun q => q.1 rfl))
      clear hszW
      go_wp2_with fail
      go_loopw [52] (fun i wr => ∃ k : Nat, k ≤ ops.length ∧ i = .int .i64 k ∧ Hid (LI rmdirR N n name ops W0 wr b (w1.heap.size + 2) k)) (fun i _ => ops.length - (intOf i).toNat)
      case atStart => exact ⟨0, Nat.zero_le _, rfl, Lib.hid ⟨⟨n, [], _, _, _, _, _, _, .nil _, hG, HTR0.out, HBV.out, .inl rfl, fun g hg => by simp [Value.ownBlock] at hg⟩, Fr.refl _ _ _⟩⟩
      case round =>
        clear k0 k1 k2
        obtain ⟨k, hk, rfl, HL⟩ := hrel
        obtain ⟨⟨nk, bad, p, v, x0, x1, x2, x3, hops, hgk, htk, hbv, hp, hov⟩, hfr⟩ := HL.out
        have HOPS := Lib.hid hops
        have HGK := Lib.hid hgk
        have HTK := Lib.hid htk
        have HBK := Lib.hid hbv
        have HPP := Lib.hid hp
        have HOV := Lib.hid hov
        have HFR := Lib.hid hfr
        clear HL hops hgk htk hbv hp hov hfr
        have hb1lt : b < w1.heap.size := by omega
        by_cases hkl : k < ops.length
        · obtain ⟨bb, oo, rfl, hcell⟩ := HST.out k hkl
          have hbb1 := HUB.out _ _ _ rfl _ rfl
          have hbb2 := block_of_cell hcell
          have cy := HFR.out.cell (cell_kept HB3.out hcell) (show bb ≠ b by simp at hbb1; omega) (show bb ≠ w1.heap.size + 2 by simp at hbb2; omega)
          obtain ⟨u0, u1, u2⟩ := HUC0.out
          replace u0 := HFR.out.cell u0 (by omega) (by omega)
          replace u1 := HFR.out.cell u1 (by omega) (by omega)
          replace u2 := HFR.out.cell u2 (by omega) (by omega)
          obtain ⟨k0, k1, k2⟩ := HCC.out
          replace k0 := HFR.out.cell k0 (by omega) (by omega)
          replace k1 := HFR.out.cell k1 (by omega) (by omega)
          replace k2 := HFR.out.cell k2 (by omega) (by omega)
          have hy6 : (ops.getD k ByteArray.empty).size ≤ 600 := HOP.out _ (getD_in hkl)
          have HTD : Hid (ops.take (k + 1) = ops.take k ++ [ops.getD k ByteArray.empty]) := Lib.hid (by rw [List.take_succ_eq_append_getElem hkl, List.getD_eq_getElem?_getD, List.getElem?_eq_getElem hkl]; rfl)
          have hol40 := HOL.out
          have HDW : Hid (Calls Tryz.prog 40 #[.agg #[.string ⟨#[]⟩, .int .u8 0, .func (.func 35) #[] #[]], .agg #[.string S, .slice (some ⟨bb, oo, none⟩) ops.length cu, .iface 29 (.pointer (some ⟨b, 0, none⟩))], .string (ops.getD k ByteArray.empty)] wr fun e w' => DidR (Off b (w1.heap.size + 2) v) (operR rmdirR) nk (ops.getD k ByteArray.empty) wr b e w') := Lib.hid (doesWith_removeDir ⟨HTK.out, fun j hj => ⟨by have := HTK.out.x.lt; omega, by have := HBK.out.lt; omega, fun e => by have := HBK.out.own_lt e; omega⟩⟩ HGK.out (by omega) S (some ⟨bb, oo, none⟩) ops.length cu _ (by omega))
          clear hcell hbb1 hbb2
          generalize ops.getD k ByteArray.empty = y at *
          go_wp2_with fail
          refine HDW.out.mono ?_
          rintro e w2 ⟨c2, nn, rfl, hr, ht2, hg2⟩
          have HR := Lib.hid hr
          have HT2 := Lib.hid ht2
          have HFR2 := Lib.hid (HFR.out.tree hg2)
          have HB2 : Hid (BV w2 (w1.heap.size + 2) p v (linesL name bad)) := Lib.hid (HBK.out.by hg2 (by simp; omega) (fun g hg e => absurd (show b = g by simpa using e) (by have := HOV.out g hg; have := HSZ.out; omega)))
          have HGN : Hid (TreeN (N + 257 * (k + 1)) nn) := Lib.hid (by have := grows_oper (grows_up (R := rmdirR) grows_rmdir (by decide)) HGK.out HR.out; exact this.more (by omega))
          clear hr ht2 hg2 cy u0 u1 u2 k0 k1 k2 HDW
          by_cases hc2 : c2 = 0
          · subst hc2
            have HNX : Hid (LI rmdirR N n name ops W0 w2 b (w1.heap.size + 2) (k + 1)) := Lib.hid (by
              obtain ⟨y0, y1, y2, y3, h2⟩ := HT2.out
              exact ⟨⟨nn, bad, p, v, y0, y1, y2, y3, by rw [HTD.out]; exact HOPS.out.snoc_ok HR.out, HGN.out, h2.s, HB2.out, HPP.out, HOV.out⟩, HFR2.out⟩)
            go_wp2_with fail
            go_roundw
            case rel => exact ⟨k + 1, by omega, by go_num, HNX⟩
            case measure => simp [intOf]; omega
          · have e0 : (c2 != 0) = true := bne_iff_ne.2 hc2
            have H2 := Lib.hid hc2
            clear hc2
            have HLC := Lib.hid (line_cat name y c2)
            have hrs := reason_size c2
            have hbl : (linesL name bad).length ≤ 60000 := by
              have h1 := bad_mem HOPS.out
              have h2 := lines_size name hname bad fun x hx => HOP.out _ (List.mem_of_mem_take (h1.1 x hx))
              have h3 : (ops.take k).length ≤ 40 := by rw [List.length_take]; omega
              have := h1.2
              omega
            go_wp2_with fail
            refine (reason_any _ _).mono ?_
            rintro e w3 ⟨rfl, rfl⟩
            generalize reasonD c2 = rr at *
            have hn1 : name.size ≤ 600 := hname
            have hlen : (linesL name bad).length + (name ++ ⟨#[58, 32]⟩ ++ y ++ ⟨#[58, 32]⟩ ++ rr ++ ⟨#[10]⟩ : ByteArray).size ≤ 1000000 := by
              have q2 : (⟨#[58, 32]⟩ : ByteArray).size = 2 := rfl
              have q1 : (⟨#[10]⟩ : ByteArray).size = 1 := rfl
              simp only [ByteArray.size_append, q1, q2]
              omega
            have HLEN := Lib.hid hlen
            clear hlen hbl
            go_wp2_with fail
            refine (wstr_any HB2.out HPP.out _ HLEN.out).mono ?_
            rintro e w4 ⟨rfl, v4, hbv4, hst4, hov4⟩
            rw [HLC.out, ← lines_snoc] at hbv4
            have HNX : Hid (LI rmdirR N n name ops W0 w4 b (w1.heap.size + 2) (k + 1)) := Lib.hid (by
              obtain ⟨y0, y1, y2, y3, h2⟩ := HT2.out
              have hsz2 : W0.heap.size ≤ w2.heap.size := HFR2.out.size
              refine ⟨⟨nn, bad ++ [(y, c2)], _, v4, y0, y1, y2, y3, by rw [HTD.out]; exact HOPS.out.snoc_bad HR.out H2.out, HGN.out, ?_, hbv4, .inr rfl, fun g hg => ?_⟩, HFR2.out.stay hst4 HOV.out⟩
              · refine h2.s.stay (hst4.2.2.2.2 b h2.lt (by omega) (fun e => by have := HOV.out b e; have := HSZ.out; omega)) (fun j hj hl => ⟨hst4.2.2.2.2 j hl hj.2.1 hj.2.2, hj.1, hj.2.1, fun e => ?_⟩) (fun q => q.1 rfl)
                rcases hov4 with q | ⟨g, q, hq⟩
                · exact hj.2.2 (q ▸ e)
                · rw [q] at e
                  have : g = j := by simpa using e
                  omega
              · rcases hov4 with q | ⟨g2, q, hq⟩
                · exact HOV.out g (q ▸ hg)
                · rw [q] at hg
                  have : g2 = g := by simpa using hg
                  omega)
            clear hbv4 hst4 hov4
            go_wp2_with fail
            go_roundw
            case rel => exact ⟨k + 1, by omega, by go_num, HNX⟩
            case measure => simp [intOf]; omega
        · obtain rfl : k = ops.length := by omega
          have HOPS2 : Hid (Ops (operR rmdirR) n ops bad nk) := Lib.hid (by have := HOPS.out; rwa [List.take_length] at this)
          cases bad with
          | nil =>
            have HB0 : Hid (BV wr (w1.heap.size + 2) p v []) := Lib.hid HBK.out
            go_wp2_with fail
            refine (blen_any HB0.out HPP.out).mono ?_
            rintro e w5 ⟨rfl, rfl⟩
            go_wp2_with fail
            exact HQ0.out _ _ (show IsZ 0 from rfl) HOPS2.out ⟨_, _, _, _, HTK.out.x⟩ (Fr.grown (HB1.out.trans (HB3.out.mono HB1.out.size)) HFR.out (by omega))
          | cons x0 rest =>
            have hne : linesL name (x0 :: rest) ≠ [] := by
              intro e
              have : lineL name x0 ++ linesL name rest = [] := by rw [← e]; simp [linesL]
              exact line_ne name x0 (List.append_eq_nil_iff.1 this).1
            have hpos : (0 : Int) < ((linesL name (x0 :: rest)).length : Int) := by
              have := List.length_pos_iff.2 hne
              omega
            have HNE := Lib.hid hne
            have HBD : Hid (x0 :: rest ≠ []) := Lib.hid (by simp)
            have HG9 := Lib.hid (Fr.grown (HB1.out.trans (HB3.out.mono HB1.out.size)) HFR.out (show w.heap.size ≤ w1.heap.size + 2 by omega))
            have HSO : Hid (∀ w', Stay wr w' (w1.heap.size + 2) v.ownBlock → (∃ z0 z1 z2 z3, TreeX w' b nk z0 z1 z2 z3) ∧ w.grownBy w' (some b)) := Lib.hid fun w' hs => ⟨⟨_, _, _, _, (HTK.out.stay (S' := fun j => j ≠ b) (hs.2.2.2.2 b HTK.out.x.lt (by omega) (fun e => by have := HOV.out b e; have := HSZ.out; omega)) (fun j hj hl => ⟨hs.2.2.2.2 j hl hj.2.1 hj.2.2, hj.1⟩) (fun q => q rfl)).x⟩, Fr.grown (HB1.out.trans (HB3.out.mono HB1.out.size)) (HFR.out.stay hs HOV.out) (by omega)⟩
            generalize hb9 : x0 :: rest = bad9 at *
            clear hb9 hne
            go_wp2_with fail
            refine (blen_any HBK.out HPP.out).mono ?_
            rintro e w5 ⟨rfl, rfl⟩
            go_wp2_with fail
            refine (bstr_any HBK.out HNE.out).mono ?_
            rintro e w6 ⟨rfl, hs6⟩
            obtain ⟨q1, q2⟩ := HSO.out _ hs6
            have Q1 := Lib.hid q1
            have Q2 := Lib.hid q2
            clear q1 q2 hs6
            go_wp2_with fail
            exact HQ1.out _ _ _ (show IsZ 0 from rfl) HOPS2.out HBD.out Q1.out Q2.out
  · have e0 : (cc != 0) = true := bne_iff_ne.2 hc0
    have H0 := Lib.hid hc0
    have z1 : ¬ (9223372036854775807 < name.size + 8) := by omega
    clear hc0
    go_wp2_with fail
    exact HQ2.out _ (show NoOps (S, ops, cc) 0 from .inl H0.out) ⟨_, _, _, _, HT.out.kept (below_alloc (below_alloc HB1.out))⟩ (grown_below (below_alloc (below_alloc HB1.out)))

set_option maxRecDepth 100000 in
set_option maxHeartbeats 16000000 in
theorem run_touch {w : World} {b N : Nat} {n : Nd} {v0 v1 v2 v3 : Value} (h : TreeX w b n v0 v1 v2 v3) (hG : TreeN N n) (hN : N ≤ 200) (name : ByteArray) (hname : name.size ≤ 600) {xv : Value} {xs : List ByteArray} (hx : PlR w xv xs) (hxl : xs.length ≤ 40) (hxs : ∀ x ∈ xs, x.size ≤ 600) :
    Calls Tryz.prog 23 #[utilV ⟨#[]⟩ 0 36, .iface 29 (.pointer (some ⟨b, 0, none⟩)), .string name, xv] w fun e w' => RunQ [] 0 (fun _ => touchR) n name xs w b e w' := by
  have HAL : Hid (∀ (o : Obj), Below w.heap.size w (w.alloc o)) := Lib.hid fun o => below_alloc (Below.refl _ _)
  have HPA : Hid (∀ wx, Below w.heap.size w wx → Calls Tryz.prog 38 #[.string ⟨#[]⟩, xv, .int .i64 0, .int .i64 (xs.length : Nat)] wx fun e w' => ParseQ wx.heap.size w' e (parseD [] xs 0 xs.length) ∧ Below wx.heap.size wx w') := Lib.hid fun wx hb => parse_any wx xv xs ⟨#[]⟩ 0 xs.length (hx.grown hb) (by omega) (fun x h => by have := hxs x h; omega) (of_decide_eq_true (by kernel_rfl))
  have HOP : Hid (∀ y ∈ (parseD [] xs 0 xs.length).2.1, y.size ≤ 600) := Lib.hid fun y hy => hxs y (parse_mem hy)
  have HOL : Hid ((parseD [] xs 0 xs.length).2.1.length ≤ 40) := Lib.hid (Nat.le_trans parse_len hxl)
  obtain ⟨Q, hQ⟩ : ∃ Q : Ending → World → Prop, Q = fun e w' => RunQ [] 0 (fun _ => touchR) n name xs w b e w' := ⟨_, rfl⟩
  have HQ2 : Hid (∀ w', NoOps (parseD [] xs 0 xs.length) 0 → (∃ x0 x1 x2 x3, TreeX w' b n x0 x1 x2 x3) → w.grownBy w' (some b) → Q (.returned (.tuple #[.int .i64 2, .string (name ++ ⟨#[58, 32, 117, 115, 97, 103, 101, 10]⟩)])) w') := Lib.hid fun w' h1 h2 h3 => hQ ▸ ⟨_, _, _, rfl, .inl ⟨h1, rfl, rfl, rfl⟩, h2, h3⟩
  have HQ1 : Hid (∀ w' bad n', IsZ (parseD [] xs 0 xs.length).2.2 → Ops (operR ((fun _ => touchR) (parseD [] xs 0 xs.length).1)) n (parseD [] xs 0 xs.length).2.1 bad n' → bad ≠ [] → (∃ x0 x1 x2 x3, TreeX w' b n' x0 x1 x2 x3) → w.grownBy w' (some b) → Q (.returned (.tuple #[.int .i64 1, .string ⟨(linesL name bad).toArray⟩])) w') := Lib.hid fun w' bad n' h0 h1 h2 h3 h4 => hQ ▸ ⟨_, _, _, rfl, .inr ⟨h0, bad, h1, .inr ⟨h2, rfl, rfl⟩⟩, h3, h4⟩
  have HQ0 : Hid (∀ w' n', IsZ (parseD [] xs 0 xs.length).2.2 → Ops (operR ((fun _ => touchR) (parseD [] xs 0 xs.length).1)) n (parseD [] xs 0 xs.length).2.1 [] n' → (∃ x0 x1 x2 x3, TreeX w' b n' x0 x1 x2 x3) → w.grownBy w' (some b) → Q (.returned (.tuple #[.int .i64 0, .string ⟨#[]⟩])) w') := Lib.hid fun w' n' h0 h1 h3 h4 => hQ ▸ ⟨_, _, _, rfl, .inr ⟨h0, [], h1, .inl ⟨rfl, rfl, rfl⟩⟩, h3, h4⟩
  rw [← hQ]
  have HT := Lib.hid h
  have hblt := h.lt
  obtain ⟨xp, xc, rfl, _, hxc, hxm⟩ := id hx
  have hxl2 : xs.length ≤ 9223372036854775807 := by omega
  generalize hL : xs.length = L at *
  clear hQ h hx hxs
  generalize parseD [] xs 0 L = r at *
  obtain ⟨S, ops, cc⟩ := r
  dsimp only at HOP HOL HQ2 HQ1 HQ0
  unfold utilV
  go_enter Tryz.func23, Tryz.ntmps23
  go_wp2_with fail
  refine (HPA.out _ (HAL.out _)).mono ?_
  rintro e w1 ⟨hr, hb1⟩
  obtain ⟨u, rfl, hu, hub⟩ := hr
  have HU := Lib.hid hu
  have HUB := Lib.hid hub
  obtain ⟨pu, cu, rfl, hst, hcl, hcm⟩ := hu
  have HB1 : Hid (Below w.heap.size w w1) := Lib.hid ((HAL.out _).trans (hb1.mono (HAL.out _).size))
  have hsz1 : w.heap.size + 1 ≤ w1.heap.size := by have := hb1.size; simpa using this
  have HUC : Hid (∀ wx, Below w1.heap.size w1 wx → wx.cell? ⟨w.heap.size, 0, none⟩ = some (.string ⟨#[]⟩) ∧ wx.cell? ⟨w.heap.size, 1, none⟩ = some (.int .u8 0) ∧ wx.cell? ⟨w.heap.size, 2, none⟩ = some (.func (.func 36) #[] #[])) := Lib.hid fun wx hx => ⟨cell_kept hx (cell_kept hb1 (cell_first rfl)), cell_kept hx (cell_kept hb1 (cell_first rfl)), cell_kept hx (cell_kept hb1 (cell_first rfl))⟩
  have HST := Lib.hid hst
  clear hb1 hub hst
  by_cases hc0 : cc = 0
  · subst hc0
    by_cases hol : ops.length = 0
    · obtain rfl : ops = [] := List.eq_nil_of_length_eq_zero hol
      have HHA : Hid (∀ wx, Calls Tryz.prog 39 #[.agg #[.string S, .slice pu 0 cu], .int .u8 0] wx fun e w' => e = .returned (.bool (hasB S 0)) ∧ Below wx.heap.size wx w') := Lib.hid fun wx => has_any wx S (.slice pu 0 cu) 0
      obtain ⟨u0, u1, u2⟩ := HUC.out _ (below_alloc (o := .cells #[.string S, .slice pu 0 cu, .iface 29 (.pointer (some ⟨b, 0, none⟩))] 69) (below_alloc (o := .cells #[.string S, .slice pu 0 cu] 67) (Below.refl _ _)))
      have hh : ∃ hb, hasB S 0 = hb := ⟨_, rfl⟩
      obtain ⟨hb, hh⟩ := hh
      rw [hh] at HHA
      have HH := Lib.hid hh
      have z1 : ¬ (9223372036854775807 < name.size + 8) := by omega
      clear hh hol
      go_wp2_with fail
      refine (HHA.out _).mono ?_
      rintro e w2 ⟨rfl, hb2⟩
      have HB2 : Hid (Below w.heap.size w w2) := Lib.hid ((below_alloc (below_alloc HB1.out)).trans (hb2.mono (below_alloc (below_alloc HB1.out)).size))
      have d1 : w2.cell? ⟨w1.heap.size + 1, 1, none⟩ = some (.slice pu 0 cu) := cell_kept hb2 (cell_firstE (by simp) rfl)
      clear hb2
      cases hb with
      | false =>
        go_wp2_with fail
        exact HQ2.out _ (show NoOps (S, [], 0) 0 from .inr ⟨rfl, HH.out⟩) ⟨_, _, _, _, HT.out.kept HB2.out⟩ (grown_below HB2.out)
      | true =>
        go_upto_region 6 with fail
        have d2 := cell_alloc (o := .cells #[.pointer none, .slice none 0 0] 76) d1
        have HBV : Hid (BV (w2.alloc (.cells #[.pointer none, .slice none 0 0] 76)) w2.heap.size (.pointer none) (.slice none 0 0) []) := Lib.hid ⟨heap_alloc_new w2 _, ⟨rfl, .inl ⟨rfl, rfl⟩⟩, by simp [Value.ownBlock]⟩
        have HB3 : Hid (Below w.heap.size w (w2.alloc (.cells #[.pointer none, .slice none 0 0] 76))) := Lib.hid (below_alloc HB2.out)
        generalize w2.alloc (.cells #[.pointer none, .slice none 0 0] 76) = W0 at *
        clear d1
        go_wp2_with fail
        go_loopw [52] (fun i wr => i = .int .i64 0 ∧ Hid (wr = W0)) (fun _ _ => 0)
        case atStart => exact ⟨rfl, Lib.hid rfl⟩
        case round =>
          obtain ⟨rfl, HW⟩ := hrel
          obtain rfl := HW.out
          go_wp2_with fail
          refine (blen_any HBV.out (.inl rfl)).mono ?_
          rintro e w5 ⟨rfl, rfl⟩
          go_wp2_with fail
          exact HQ0.out _ _ (show IsZ 0 from rfl) (.nil _) ⟨_, _, _, _, HT.out.kept HB3.out⟩ (grown_below HB3.out)
    · have hol2 : ((ops.length : Int) == 0) = false := beq_eq_false_iff_ne.2 (by omega)
      go_upto_region 6 with fail
      have HB3 : Hid (Below w1.heap.size w1 (((w1.alloc (.cells #[.string S, .slice pu ops.length cu] 67)).alloc (.cells #[.string S, .slice pu ops.length cu, .iface 29 (.pointer (some ⟨b, 0, none⟩))] 69)).alloc (.cells #[.pointer none, .slice none 0 0] 76))) := Lib.hid (below_alloc (below_alloc (below_alloc (Below.refl _ _))))
      have HBV : Hid (BV (((w1.alloc (.cells #[.string S, .slice pu ops.length cu] 67)).alloc (.cells #[.string S, .slice pu ops.length cu, .iface 29 (.pointer (some ⟨b, 0, none⟩))] 69)).alloc (.cells #[.pointer none, .slice none 0 0] 76)) (w1.heap.size + 2) (.pointer none) (.slice none 0 0) []) := Lib.hid ⟨by have := heap_alloc_new ((w1.alloc (.cells #[.string S, .slice pu ops.length cu] 67)).alloc (.cells #[.string S, .slice pu ops.length cu, .iface 29 (.pointer (some ⟨b, 0, none⟩))] 69)) (.cells #[.pointer none, .slice none 0 0] 76); simpa using this, ⟨rfl, .inl ⟨rfl, rfl⟩⟩, by simp [Value.ownBlock]⟩
      have HCC : Hid ((((w1.alloc (.cells #[.string S, .slice pu ops.length cu] 67)).alloc (.cells #[.string S, .slice pu ops.length cu, .iface 29 (.pointer (some ⟨b, 0, none⟩))] 69)).alloc (.cells #[.pointer none, .slice none 0 0] 76)).cell? ⟨w1.heap.size + 1, 0, none⟩ = some (.string S) ∧ (((w1.alloc (.cells #[.string S, .slice pu ops.length cu] 67)).alloc (.cells #[.string S, .slice pu ops.length cu, .iface 29 (.pointer (some ⟨b, 0, none⟩))] 69)).alloc (.cells #[.pointer none, .slice none 0 0] 76)).cell? ⟨w1.heap.size + 1, 1, none⟩ = some (.slice pu ops.length cu) ∧ (((w1.alloc (.cells #[.string S, .slice pu ops.length cu] 67)).alloc (.cells #[.string S, .slice pu ops.length cu, .iface 29 (.pointer (some ⟨b, 0, none⟩))] 69)).alloc (.cells #[.pointer none, .slice none 0 0] 76)).cell? ⟨w1.heap.size + 1, 2, none⟩ = some (.iface 29 (.pointer (some ⟨b, 0, none⟩)))) := Lib.hid ⟨cell_alloc (cell_firstE (by simp) rfl), cell_alloc (cell_firstE (by simp) rfl), cell_alloc (cell_firstE (by simp) rfl)⟩
      have hszW : (((w1.alloc (.cells #[.string S, .slice pu ops.length cu] 67)).alloc (.cells #[.string S, .slice pu ops.length cu, .iface 29 (.pointer (some ⟨b, 0, none⟩))] 69)).alloc (.cells #[.pointer none, .slice none 0 0] 76)).heap.size = w1.heap.size + 3 := by simp
      generalize ((w1.alloc (.cells #[.string S, .slice pu ops.length cu] 67)).alloc (.cells #[.string S, .slice pu ops.length cu, .iface 29 (.pointer (some ⟨b, 0, none⟩))] 69)).alloc (.cells #[.pointer none, .slice none 0 0] 76) = W0 at *
      have HSZ := Lib.hid hszW
      have HUC0 := Lib.hid (HUC.out _ HB3.out)
      obtain ⟨k0, k1, k2⟩ := HCC.out
      have HTR0 : Hid (TreeS W0 (Off b (w1.heap.size + 2) (.slice none 0 0)) b n v0 v1 v2 v3) := Lib.hid (((HT.out.kept HB1.out).s).stay (HB3.out.block _ (HT.out.kept HB1.out).lt) (fun k hk hl => ⟨HB3.out.block k hl, hk, by omega, by simp [Value.ownBlock]⟩) (fun q => q.1 rfl))
      clear hszW
      go_wp2_with fail
      go_loopw [52] (fun i wr => ∃ k : Nat, k ≤ ops.length ∧ i = .int .i64 k ∧ Hid (LI touchR N n name ops W0 wr b (w1.heap.size + 2) k)) (fun i _ => ops.length - (intOf i).toNat)
      case atStart => exact ⟨0, Nat.zero_le _, rfl, Lib.hid ⟨⟨n, [], _, _, _, _, _, _, .nil _, hG, HTR0.out, HBV.out, .inl rfl, fun g hg => by simp [Value.ownBlock] at hg⟩, Fr.refl _ _ _⟩⟩
      case round =>
        clear k0 k1 k2
        obtain ⟨k, hk, rfl, HL⟩ := hrel
        obtain ⟨⟨nk, bad, p, v, x0, x1, x2, x3, hops, hgk, htk, hbv, hp, hov⟩, hfr⟩ := HL.out
        have HOPS := Lib.hid hops
        have HGK := Lib.hid hgk
        have HTK := Lib.hid htk
        have HBK := Lib.hid hbv
        have HPP := Lib.hid hp
        have HOV := Lib.hid hov
        have HFR := Lib.hid hfr
        clear HL hops hgk htk hbv hp hov hfr
        have hb1lt : b < w1.heap.size := by omega
        by_cases hkl : k < ops.length
        · obtain ⟨bb, oo, rfl, hcell⟩ := HST.out k hkl
          have hbb1 := HUB.out _ _ _ rfl _ rfl
          have hbb2 := block_of_cell hcell
          have cy := HFR.out.cell (cell_kept HB3.out hcell) (show bb ≠ b by simp at hbb1; omega) (show bb ≠ w1.heap.size + 2 by simp at hbb2; omega)
          obtain ⟨u0, u1, u2⟩ := HUC0.out
          replace u0 := HFR.out.cell u0 (by omega) (by omega)
          replace u1 := HFR.out.cell u1 (by omega) (by omega)
          replace u2 := HFR.out.cell u2 (by omega) (by omega)
          obtain ⟨k0, k1, k2⟩ := HCC.out
          replace k0 := HFR.out.cell k0 (by omega) (by omega)
          replace k1 := HFR.out.cell k1 (by omega) (by omega)
          replace k2 := HFR.out.cell k2 (by omega) (by omega)
          have hy6 : (ops.getD k ByteArray.empty).size ≤ 600 := HOP.out _ (getD_in hkl)
          have HTD : Hid (ops.take (k + 1) = ops.take k ++ [ops.getD k ByteArray.empty]) := Lib.hid (by rw [List.take_succ_eq_append_getElem hkl, List.getD_eq_getElem?_getD, List.getElem?_eq_getElem hkl]; rfl)
          have hol40 := HOL.out
          have HDW : Hid (Calls Tryz.prog 40 #[.agg #[.string ⟨#[]⟩, .int .u8 0, .func (.func 36) #[] #[]], .agg #[.string S, .slice (some ⟨bb, oo, none⟩) ops.length cu, .iface 29 (.pointer (some ⟨b, 0, none⟩))], .string (ops.getD k ByteArray.empty)] wr fun e w' => DidR (Off b (w1.heap.size + 2) v) (operR touchR) nk (ops.getD k ByteArray.empty) wr b e w') := Lib.hid (doesWith_touch ⟨HTK.out, fun j hj => ⟨by have := HTK.out.x.lt; omega, by have := HBK.out.lt; omega, fun e => by have := HBK.out.own_lt e; omega⟩⟩ HGK.out (by omega) S (some ⟨bb, oo, none⟩) ops.length cu _ (by omega))
          clear hcell hbb1 hbb2
          generalize ops.getD k ByteArray.empty = y at *
          go_wp2_with fail
          refine HDW.out.mono ?_
          rintro e w2 ⟨c2, nn, rfl, hr, ht2, hg2⟩
          have HR := Lib.hid hr
          have HT2 := Lib.hid ht2
          have HFR2 := Lib.hid (HFR.out.tree hg2)
          have HB2 : Hid (BV w2 (w1.heap.size + 2) p v (linesL name bad)) := Lib.hid (HBK.out.by hg2 (by simp; omega) (fun g hg e => absurd (show b = g by simpa using e) (by have := HOV.out g hg; have := HSZ.out; omega)))
          have HGN : Hid (TreeN (N + 257 * (k + 1)) nn) := Lib.hid (by have := grows_oper (grows_up (R := touchR) grows_touch (by decide)) HGK.out HR.out; exact this.more (by omega))
          clear hr ht2 hg2 cy u0 u1 u2 k0 k1 k2 HDW
          by_cases hc2 : c2 = 0
          · subst hc2
            have HNX : Hid (LI touchR N n name ops W0 w2 b (w1.heap.size + 2) (k + 1)) := Lib.hid (by
              obtain ⟨y0, y1, y2, y3, h2⟩ := HT2.out
              exact ⟨⟨nn, bad, p, v, y0, y1, y2, y3, by rw [HTD.out]; exact HOPS.out.snoc_ok HR.out, HGN.out, h2.s, HB2.out, HPP.out, HOV.out⟩, HFR2.out⟩)
            go_wp2_with fail
            go_roundw
            case rel => exact ⟨k + 1, by omega, by go_num, HNX⟩
            case measure => simp [intOf]; omega
          · have e0 : (c2 != 0) = true := bne_iff_ne.2 hc2
            have H2 := Lib.hid hc2
            clear hc2
            have HLC := Lib.hid (line_cat name y c2)
            have hrs := reason_size c2
            have hbl : (linesL name bad).length ≤ 60000 := by
              have h1 := bad_mem HOPS.out
              have h2 := lines_size name hname bad fun x hx => HOP.out _ (List.mem_of_mem_take (h1.1 x hx))
              have h3 : (ops.take k).length ≤ 40 := by rw [List.length_take]; omega
              have := h1.2
              omega
            go_wp2_with fail
            refine (reason_any _ _).mono ?_
            rintro e w3 ⟨rfl, rfl⟩
            generalize reasonD c2 = rr at *
            have hn1 : name.size ≤ 600 := hname
            have hlen : (linesL name bad).length + (name ++ ⟨#[58, 32]⟩ ++ y ++ ⟨#[58, 32]⟩ ++ rr ++ ⟨#[10]⟩ : ByteArray).size ≤ 1000000 := by
              have q2 : (⟨#[58, 32]⟩ : ByteArray).size = 2 := rfl
              have q1 : (⟨#[10]⟩ : ByteArray).size = 1 := rfl
              simp only [ByteArray.size_append, q1, q2]
              omega
            have HLEN := Lib.hid hlen
            clear hlen hbl
            go_wp2_with fail
            refine (wstr_any HB2.out HPP.out _ HLEN.out).mono ?_
            rintro e w4 ⟨rfl, v4, hbv4, hst4, hov4⟩
            rw [HLC.out, ← lines_snoc] at hbv4
            have HNX : Hid (LI touchR N n name ops W0 w4 b (w1.heap.size + 2) (k + 1)) := Lib.hid (by
              obtain ⟨y0, y1, y2, y3, h2⟩ := HT2.out
              have hsz2 : W0.heap.size ≤ w2.heap.size := HFR2.out.size
              refine ⟨⟨nn, bad ++ [(y, c2)], _, v4, y0, y1, y2, y3, by rw [HTD.out]; exact HOPS.out.snoc_bad HR.out H2.out, HGN.out, ?_, hbv4, .inr rfl, fun g hg => ?_⟩, HFR2.out.stay hst4 HOV.out⟩
              · refine h2.s.stay (hst4.2.2.2.2 b h2.lt (by omega) (fun e => by have := HOV.out b e; have := HSZ.out; omega)) (fun j hj hl => ⟨hst4.2.2.2.2 j hl hj.2.1 hj.2.2, hj.1, hj.2.1, fun e => ?_⟩) (fun q => q.1 rfl)
                rcases hov4 with q | ⟨g, q, hq⟩
                · exact hj.2.2 (q ▸ e)
                · rw [q] at e
                  have : g = j := by simpa using e
                  omega
              · rcases hov4 with q | ⟨g2, q, hq⟩
                · exact HOV.out g (q ▸ hg)
                · rw [q] at hg
                  have : g2 = g := by simpa using hg
                  omega)
            clear hbv4 hst4 hov4
            go_wp2_with fail
            go_roundw
            case rel => exact ⟨k + 1, by omega, by go_num, HNX⟩
            case measure => simp [intOf]; omega
        · obtain rfl : k = ops.length := by omega
          have HOPS2 : Hid (Ops (operR touchR) n ops bad nk) := Lib.hid (by have := HOPS.out; rwa [List.take_length] at this)
          cases bad with
          | nil =>
            have HB0 : Hid (BV wr (w1.heap.size + 2) p v []) := Lib.hid HBK.out
            go_wp2_with fail
            refine (blen_any HB0.out HPP.out).mono ?_
            rintro e w5 ⟨rfl, rfl⟩
            go_wp2_with fail
            exact HQ0.out _ _ (show IsZ 0 from rfl) HOPS2.out ⟨_, _, _, _, HTK.out.x⟩ (Fr.grown (HB1.out.trans (HB3.out.mono HB1.out.size)) HFR.out (by omega))
          | cons x0 rest =>
            have hne : linesL name (x0 :: rest) ≠ [] := by
              intro e
              have : lineL name x0 ++ linesL name rest = [] := by rw [← e]; simp [linesL]
              exact line_ne name x0 (List.append_eq_nil_iff.1 this).1
            have hpos : (0 : Int) < ((linesL name (x0 :: rest)).length : Int) := by
              have := List.length_pos_iff.2 hne
              omega
            have HNE := Lib.hid hne
            have HBD : Hid (x0 :: rest ≠ []) := Lib.hid (by simp)
            have HG9 := Lib.hid (Fr.grown (HB1.out.trans (HB3.out.mono HB1.out.size)) HFR.out (show w.heap.size ≤ w1.heap.size + 2 by omega))
            have HSO : Hid (∀ w', Stay wr w' (w1.heap.size + 2) v.ownBlock → (∃ z0 z1 z2 z3, TreeX w' b nk z0 z1 z2 z3) ∧ w.grownBy w' (some b)) := Lib.hid fun w' hs => ⟨⟨_, _, _, _, (HTK.out.stay (S' := fun j => j ≠ b) (hs.2.2.2.2 b HTK.out.x.lt (by omega) (fun e => by have := HOV.out b e; have := HSZ.out; omega)) (fun j hj hl => ⟨hs.2.2.2.2 j hl hj.2.1 hj.2.2, hj.1⟩) (fun q => q rfl)).x⟩, Fr.grown (HB1.out.trans (HB3.out.mono HB1.out.size)) (HFR.out.stay hs HOV.out) (by omega)⟩
            generalize hb9 : x0 :: rest = bad9 at *
            clear hb9 hne
            go_wp2_with fail
            refine (blen_any HBK.out HPP.out).mono ?_
            rintro e w5 ⟨rfl, rfl⟩
            go_wp2_with fail
            refine (bstr_any HBK.out HNE.out).mono ?_
            rintro e w6 ⟨rfl, hs6⟩
            obtain ⟨q1, q2⟩ := HSO.out _ hs6
            have Q1 := Lib.hid q1
            have Q2 := Lib.hid q2
            clear q1 q2 hs6
            go_wp2_with fail
            exact HQ1.out _ _ _ (show IsZ 0 from rfl) HOPS2.out HBD.out Q1.out Q2.out
  · have e0 : (cc != 0) = true := bne_iff_ne.2 hc0
    have H0 := Lib.hid hc0
    have z1 : ¬ (9223372036854775807 < name.size + 8) := by omega
    clear hc0
    go_wp2_with fail
    exact HQ2.out _ (show NoOps (S, ops, cc) 0 from .inl H0.out) ⟨_, _, _, _, HT.out.kept (below_alloc (below_alloc HB1.out))⟩ (grown_below (below_alloc (below_alloc HB1.out)))

set_option maxRecDepth 100000 in
set_option maxHeartbeats 16000000 in
theorem run_remove {w : World} {b N : Nat} {n : Nd} {v0 v1 v2 v3 : Value} (h : TreeX w b n v0 v1 v2 v3) (hG : TreeN N n) (hN : N ≤ 200) (name : ByteArray) (hname : name.size ≤ 600) {xv : Value} {xs : List ByteArray} (hx : PlR w xv xs) (hxl : xs.length ≤ 40) (hxs : ∀ x ∈ xs, x.size ≤ 600) :
    Calls Tryz.prog 23 #[utilV ⟨#[102, 114]⟩ 102 37, .iface 29 (.pointer (some ⟨b, 0, none⟩)), .string name, xv] w fun e w' => RunQ [102, 114] 102 (fun S => rmR (hasB S 102) (hasB S 114)) n name xs w b e w' := by
  have HAL : Hid (∀ (o : Obj), Below w.heap.size w (w.alloc o)) := Lib.hid fun o => below_alloc (Below.refl _ _)
  have HPA : Hid (∀ wx, Below w.heap.size w wx → Calls Tryz.prog 38 #[.string ⟨#[102, 114]⟩, xv, .int .i64 0, .int .i64 (xs.length : Nat)] wx fun e w' => ParseQ wx.heap.size w' e (parseD [102, 114] xs 0 xs.length) ∧ Below wx.heap.size wx w') := Lib.hid fun wx hb => parse_any wx xv xs ⟨#[102, 114]⟩ 0 xs.length (hx.grown hb) (by omega) (fun x h => by have := hxs x h; omega) (of_decide_eq_true (by kernel_rfl))
  have HOP : Hid (∀ y ∈ (parseD [102, 114] xs 0 xs.length).2.1, y.size ≤ 600) := Lib.hid fun y hy => hxs y (parse_mem hy)
  have HOL : Hid ((parseD [102, 114] xs 0 xs.length).2.1.length ≤ 40) := Lib.hid (Nat.le_trans parse_len hxl)
  obtain ⟨Q, hQ⟩ : ∃ Q : Ending → World → Prop, Q = fun e w' => RunQ [102, 114] 102 (fun S => rmR (hasB S 102) (hasB S 114)) n name xs w b e w' := ⟨_, rfl⟩
  have HQ2 : Hid (∀ w', NoOps (parseD [102, 114] xs 0 xs.length) 102 → (∃ x0 x1 x2 x3, TreeX w' b n x0 x1 x2 x3) → w.grownBy w' (some b) → Q (.returned (.tuple #[.int .i64 2, .string (name ++ ⟨#[58, 32, 117, 115, 97, 103, 101, 10]⟩)])) w') := Lib.hid fun w' h1 h2 h3 => hQ ▸ ⟨_, _, _, rfl, .inl ⟨h1, rfl, rfl, rfl⟩, h2, h3⟩
  have HQ1 : Hid (∀ w' bad n', IsZ (parseD [102, 114] xs 0 xs.length).2.2 → Ops (operR ((fun S => rmR (hasB S 102) (hasB S 114)) (parseD [102, 114] xs 0 xs.length).1)) n (parseD [102, 114] xs 0 xs.length).2.1 bad n' → bad ≠ [] → (∃ x0 x1 x2 x3, TreeX w' b n' x0 x1 x2 x3) → w.grownBy w' (some b) → Q (.returned (.tuple #[.int .i64 1, .string ⟨(linesL name bad).toArray⟩])) w') := Lib.hid fun w' bad n' h0 h1 h2 h3 h4 => hQ ▸ ⟨_, _, _, rfl, .inr ⟨h0, bad, h1, .inr ⟨h2, rfl, rfl⟩⟩, h3, h4⟩
  have HQ0 : Hid (∀ w' n', IsZ (parseD [102, 114] xs 0 xs.length).2.2 → Ops (operR ((fun S => rmR (hasB S 102) (hasB S 114)) (parseD [102, 114] xs 0 xs.length).1)) n (parseD [102, 114] xs 0 xs.length).2.1 [] n' → (∃ x0 x1 x2 x3, TreeX w' b n' x0 x1 x2 x3) → w.grownBy w' (some b) → Q (.returned (.tuple #[.int .i64 0, .string ⟨#[]⟩])) w') := Lib.hid fun w' n' h0 h1 h3 h4 => hQ ▸ ⟨_, _, _, rfl, .inr ⟨h0, [], h1, .inl ⟨rfl, rfl, rfl⟩⟩, h3, h4⟩
  rw [← hQ]
  have HT := Lib.hid h
  have hblt := h.lt
  obtain ⟨xp, xc, rfl, _, hxc, hxm⟩ := id hx
  have hxl2 : xs.length ≤ 9223372036854775807 := by omega
  generalize hL : xs.length = L at *
  clear hQ h hx hxs
  generalize parseD [102, 114] xs 0 L = r at *
  obtain ⟨S, ops, cc⟩ := r
  dsimp only at HOP HOL HQ2 HQ1 HQ0
  unfold utilV
  go_enter Tryz.func23, Tryz.ntmps23
  go_wp2_with fail
  refine (HPA.out _ (HAL.out _)).mono ?_
  rintro e w1 ⟨hr, hb1⟩
  obtain ⟨u, rfl, hu, hub⟩ := hr
  have HU := Lib.hid hu
  have HUB := Lib.hid hub
  obtain ⟨pu, cu, rfl, hst, hcl, hcm⟩ := hu
  have HB1 : Hid (Below w.heap.size w w1) := Lib.hid ((HAL.out _).trans (hb1.mono (HAL.out _).size))
  have hsz1 : w.heap.size + 1 ≤ w1.heap.size := by have := hb1.size; simpa using this
  have HUC : Hid (∀ wx, Below w1.heap.size w1 wx → wx.cell? ⟨w.heap.size, 0, none⟩ = some (.string ⟨#[102, 114]⟩) ∧ wx.cell? ⟨w.heap.size, 1, none⟩ = some (.int .u8 102) ∧ wx.cell? ⟨w.heap.size, 2, none⟩ = some (.func (.func 37) #[] #[])) := Lib.hid fun wx hx => ⟨cell_kept hx (cell_kept hb1 (cell_first rfl)), cell_kept hx (cell_kept hb1 (cell_first rfl)), cell_kept hx (cell_kept hb1 (cell_first rfl))⟩
  have HST := Lib.hid hst
  clear hb1 hub hst
  by_cases hc0 : cc = 0
  · subst hc0
    by_cases hol : ops.length = 0
    · obtain rfl : ops = [] := List.eq_nil_of_length_eq_zero hol
      have HHA : Hid (∀ wx, Calls Tryz.prog 39 #[.agg #[.string S, .slice pu 0 cu], .int .u8 102] wx fun e w' => e = .returned (.bool (hasB S 102)) ∧ Below wx.heap.size wx w') := Lib.hid fun wx => has_any wx S (.slice pu 0 cu) 102
      obtain ⟨u0, u1, u2⟩ := HUC.out _ (below_alloc (o := .cells #[.string S, .slice pu 0 cu, .iface 29 (.pointer (some ⟨b, 0, none⟩))] 69) (below_alloc (o := .cells #[.string S, .slice pu 0 cu] 67) (Below.refl _ _)))
      have hh : ∃ hb, hasB S 102 = hb := ⟨_, rfl⟩
      obtain ⟨hb, hh⟩ := hh
      rw [hh] at HHA
      have HH := Lib.hid hh
      have z1 : ¬ (9223372036854775807 < name.size + 8) := by omega
      clear hh hol
      go_wp2_with fail
      refine (HHA.out _).mono ?_
      rintro e w2 ⟨rfl, hb2⟩
      have HB2 : Hid (Below w.heap.size w w2) := Lib.hid ((below_alloc (below_alloc HB1.out)).trans (hb2.mono (below_alloc (below_alloc HB1.out)).size))
      have d1 : w2.cell? ⟨w1.heap.size + 1, 1, none⟩ = some (.slice pu 0 cu) := cell_kept hb2 (cell_firstE (by simp) rfl)
      clear hb2
      cases hb with
      | false =>
        go_wp2_with fail
        exact HQ2.out _ (show NoOps (S, [], 0) 102 from .inr ⟨rfl, HH.out⟩) ⟨_, _, _, _, HT.out.kept HB2.out⟩ (grown_below HB2.out)
      | true =>
        go_upto_region 6 with fail
        have d2 := cell_alloc (o := .cells #[.pointer none, .slice none 0 0] 76) d1
        have HBV : Hid (BV (w2.alloc (.cells #[.pointer none, .slice none 0 0] 76)) w2.heap.size (.pointer none) (.slice none 0 0) []) := Lib.hid ⟨heap_alloc_new w2 _, ⟨rfl, .inl ⟨rfl, rfl⟩⟩, by simp [Value.ownBlock]⟩
        have HB3 : Hid (Below w.heap.size w (w2.alloc (.cells #[.pointer none, .slice none 0 0] 76))) := Lib.hid (below_alloc HB2.out)
        generalize w2.alloc (.cells #[.pointer none, .slice none 0 0] 76) = W0 at *
        clear d1
        go_wp2_with fail
        go_loopw [52] (fun i wr => i = .int .i64 0 ∧ Hid (wr = W0)) (fun _ _ => 0)
        case atStart => exact ⟨rfl, Lib.hid rfl⟩
        case round =>
          obtain ⟨rfl, HW⟩ := hrel
          obtain rfl := HW.out
          go_wp2_with fail
          refine (blen_any HBV.out (.inl rfl)).mono ?_
          rintro e w5 ⟨rfl, rfl⟩
          go_wp2_with fail
          exact HQ0.out _ _ (show IsZ 0 from rfl) (.nil _) ⟨_, _, _, _, HT.out.kept HB3.out⟩ (grown_below HB3.out)
    · have hol2 : ((ops.length : Int) == 0) = false := beq_eq_false_iff_ne.2 (by omega)
      go_upto_region 6 with fail
      have HB3 : Hid (Below w1.heap.size w1 (((w1.alloc (.cells #[.string S, .slice pu ops.length cu] 67)).alloc (.cells #[.string S, .slice pu ops.length cu, .iface 29 (.pointer (some ⟨b, 0, none⟩))] 69)).alloc (.cells #[.pointer none, .slice none 0 0] 76))) := Lib.hid (below_alloc (below_alloc (below_alloc (Below.refl _ _))))
      have HBV : Hid (BV (((w1.alloc (.cells #[.string S, .slice pu ops.length cu] 67)).alloc (.cells #[.string S, .slice pu ops.length cu, .iface 29 (.pointer (some ⟨b, 0, none⟩))] 69)).alloc (.cells #[.pointer none, .slice none 0 0] 76)) (w1.heap.size + 2) (.pointer none) (.slice none 0 0) []) := Lib.hid ⟨by have := heap_alloc_new ((w1.alloc (.cells #[.string S, .slice pu ops.length cu] 67)).alloc (.cells #[.string S, .slice pu ops.length cu, .iface 29 (.pointer (some ⟨b, 0, none⟩))] 69)) (.cells #[.pointer none, .slice none 0 0] 76); simpa using this, ⟨rfl, .inl ⟨rfl, rfl⟩⟩, by simp [Value.ownBlock]⟩
      have HCC : Hid ((((w1.alloc (.cells #[.string S, .slice pu ops.length cu] 67)).alloc (.cells #[.string S, .slice pu ops.length cu, .iface 29 (.pointer (some ⟨b, 0, none⟩))] 69)).alloc (.cells #[.pointer none, .slice none 0 0] 76)).cell? ⟨w1.heap.size + 1, 0, none⟩ = some (.string S) ∧ (((w1.alloc (.cells #[.string S, .slice pu ops.length cu] 67)).alloc (.cells #[.string S, .slice pu ops.length cu, .iface 29 (.pointer (some ⟨b, 0, none⟩))] 69)).alloc (.cells #[.pointer none, .slice none 0 0] 76)).cell? ⟨w1.heap.size + 1, 1, none⟩ = some (.slice pu ops.length cu) ∧ (((w1.alloc (.cells #[.string S, .slice pu ops.length cu] 67)).alloc (.cells #[.string S, .slice pu ops.length cu, .iface 29 (.pointer (some ⟨b, 0, none⟩))] 69)).alloc (.cells #[.pointer none, .slice none 0 0] 76)).cell? ⟨w1.heap.size + 1, 2, none⟩ = some (.iface 29 (.pointer (some ⟨b, 0, none⟩)))) := Lib.hid ⟨cell_alloc (cell_firstE (by simp) rfl), cell_alloc (cell_firstE (by simp) rfl), cell_alloc (cell_firstE (by simp) rfl)⟩
      have hszW : (((w1.alloc (.cells #[.string S, .slice pu ops.length cu] 67)).alloc (.cells #[.string S, .slice pu ops.length cu, .iface 29 (.pointer (some ⟨b, 0, none⟩))] 69)).alloc (.cells #[.pointer none, .slice none 0 0] 76)).heap.size = w1.heap.size + 3 := by simp
      generalize ((w1.alloc (.cells #[.string S, .slice pu ops.length cu] 67)).alloc (.cells #[.string S, .slice pu ops.length cu, .iface 29 (.pointer (some ⟨b, 0, none⟩))] 69)).alloc (.cells #[.pointer none, .slice none 0 0] 76) = W0 at *
      have HSZ := Lib.hid hszW
      have HUC0 := Lib.hid (HUC.out _ HB3.out)
      obtain ⟨k0, k1, k2⟩ := HCC.out
      have HTR0 : Hid (TreeS W0 (Off b (w1.heap.size + 2) (.slice none 0 0)) b n v0 v1 v2 v3) := Lib.hid (((HT.out.kept HB1.out).s).stay (HB3.out.block _ (HT.out.kept HB1.out).lt) (fun k hk hl => ⟨HB3.out.block k hl, hk, by omega, by simp [Value.ownBlock]⟩) (fun q => q.1 rfl))
      clear hszW
      go_wp2_with fail
      go_loopw [52] (fun i wr => ∃ k : Nat, k ≤ ops.length ∧ i = .int .i64 k ∧ Hid (LI (rmR (hasB S 102) (hasB S 114)) N n name ops W0 wr b (w1.heap.size + 2) k)) (fun i _ => ops.length - (intOf i).toNat)
      case atStart => exact ⟨0, Nat.zero_le _, rfl, Lib.hid ⟨⟨n, [], _, _, _, _, _, _, .nil _, hG, HTR0.out, HBV.out, .inl rfl, fun g hg => by simp [Value.ownBlock] at hg⟩, Fr.refl _ _ _⟩⟩
      case round =>
        clear k0 k1 k2
        obtain ⟨k, hk, rfl, HL⟩ := hrel
        obtain ⟨⟨nk, bad, p, v, x0, x1, x2, x3, hops, hgk, htk, hbv, hp, hov⟩, hfr⟩ := HL.out
        have HOPS := Lib.hid hops
        have HGK := Lib.hid hgk
        have HTK := Lib.hid htk
        have HBK := Lib.hid hbv
        have HPP := Lib.hid hp
        have HOV := Lib.hid hov
        have HFR := Lib.hid hfr
        clear HL hops hgk htk hbv hp hov hfr
        have hb1lt : b < w1.heap.size := by omega
        by_cases hkl : k < ops.length
        · obtain ⟨bb, oo, rfl, hcell⟩ := HST.out k hkl
          have hbb1 := HUB.out _ _ _ rfl _ rfl
          have hbb2 := block_of_cell hcell
          have cy := HFR.out.cell (cell_kept HB3.out hcell) (show bb ≠ b by simp at hbb1; omega) (show bb ≠ w1.heap.size + 2 by simp at hbb2; omega)
          obtain ⟨u0, u1, u2⟩ := HUC0.out
          replace u0 := HFR.out.cell u0 (by omega) (by omega)
          replace u1 := HFR.out.cell u1 (by omega) (by omega)
          replace u2 := HFR.out.cell u2 (by omega) (by omega)
          obtain ⟨k0, k1, k2⟩ := HCC.out
          replace k0 := HFR.out.cell k0 (by omega) (by omega)
          replace k1 := HFR.out.cell k1 (by omega) (by omega)
          replace k2 := HFR.out.cell k2 (by omega) (by omega)
          have hy6 : (ops.getD k ByteArray.empty).size ≤ 600 := HOP.out _ (getD_in hkl)
          have HTD : Hid (ops.take (k + 1) = ops.take k ++ [ops.getD k ByteArray.empty]) := Lib.hid (by rw [List.take_succ_eq_append_getElem hkl, List.getD_eq_getElem?_getD, List.getElem?_eq_getElem hkl]; rfl)
          have hol40 := HOL.out
          have HDW : Hid (Calls Tryz.prog 40 #[.agg #[.string ⟨#[102, 114]⟩, .int .u8 102, .func (.func 37) #[] #[]], .agg #[.string S, .slice (some ⟨bb, oo, none⟩) ops.length cu, .iface 29 (.pointer (some ⟨b, 0, none⟩))], .string (ops.getD k ByteArray.empty)] wr fun e w' => DidR (Off b (w1.heap.size + 2) v) (operR (rmR (hasB S 102) (hasB S 114))) nk (ops.getD k ByteArray.empty) wr b e w') := Lib.hid (doesWith_remove ⟨HTK.out, fun j hj => ⟨by have := HTK.out.x.lt; omega, by have := HBK.out.lt; omega, fun e => by have := HBK.out.own_lt e; omega⟩⟩ HGK.out (by omega) S (some ⟨bb, oo, none⟩) ops.length cu _ (by omega))
          clear hcell hbb1 hbb2
          generalize ops.getD k ByteArray.empty = y at *
          go_wp2_with fail
          refine HDW.out.mono ?_
          rintro e w2 ⟨c2, nn, rfl, hr, ht2, hg2⟩
          have HR := Lib.hid hr
          have HT2 := Lib.hid ht2
          have HFR2 := Lib.hid (HFR.out.tree hg2)
          have HB2 : Hid (BV w2 (w1.heap.size + 2) p v (linesL name bad)) := Lib.hid (HBK.out.by hg2 (by simp; omega) (fun g hg e => absurd (show b = g by simpa using e) (by have := HOV.out g hg; have := HSZ.out; omega)))
          have HGN : Hid (TreeN (N + 257 * (k + 1)) nn) := Lib.hid (by have := grows_oper (grows_up (R := rmR (hasB S 102) (hasB S 114)) (grows_rm (hasB S 102) (hasB S 114)) (by decide)) HGK.out HR.out; exact this.more (by omega))
          clear hr ht2 hg2 cy u0 u1 u2 k0 k1 k2 HDW
          by_cases hc2 : c2 = 0
          · subst hc2
            have HNX : Hid (LI (rmR (hasB S 102) (hasB S 114)) N n name ops W0 w2 b (w1.heap.size + 2) (k + 1)) := Lib.hid (by
              obtain ⟨y0, y1, y2, y3, h2⟩ := HT2.out
              exact ⟨⟨nn, bad, p, v, y0, y1, y2, y3, by rw [HTD.out]; exact HOPS.out.snoc_ok HR.out, HGN.out, h2.s, HB2.out, HPP.out, HOV.out⟩, HFR2.out⟩)
            go_wp2_with fail
            go_roundw
            case rel => exact ⟨k + 1, by omega, by go_num, HNX⟩
            case measure => simp [intOf]; omega
          · have e0 : (c2 != 0) = true := bne_iff_ne.2 hc2
            have H2 := Lib.hid hc2
            clear hc2
            have HLC := Lib.hid (line_cat name y c2)
            have hrs := reason_size c2
            have hbl : (linesL name bad).length ≤ 60000 := by
              have h1 := bad_mem HOPS.out
              have h2 := lines_size name hname bad fun x hx => HOP.out _ (List.mem_of_mem_take (h1.1 x hx))
              have h3 : (ops.take k).length ≤ 40 := by rw [List.length_take]; omega
              have := h1.2
              omega
            go_wp2_with fail
            refine (reason_any _ _).mono ?_
            rintro e w3 ⟨rfl, rfl⟩
            generalize reasonD c2 = rr at *
            have hn1 : name.size ≤ 600 := hname
            have hlen : (linesL name bad).length + (name ++ ⟨#[58, 32]⟩ ++ y ++ ⟨#[58, 32]⟩ ++ rr ++ ⟨#[10]⟩ : ByteArray).size ≤ 1000000 := by
              have q2 : (⟨#[58, 32]⟩ : ByteArray).size = 2 := rfl
              have q1 : (⟨#[10]⟩ : ByteArray).size = 1 := rfl
              simp only [ByteArray.size_append, q1, q2]
              omega
            have HLEN := Lib.hid hlen
            clear hlen hbl
            go_wp2_with fail
            refine (wstr_any HB2.out HPP.out _ HLEN.out).mono ?_
            rintro e w4 ⟨rfl, v4, hbv4, hst4, hov4⟩
            rw [HLC.out, ← lines_snoc] at hbv4
            have HNX : Hid (LI (rmR (hasB S 102) (hasB S 114)) N n name ops W0 w4 b (w1.heap.size + 2) (k + 1)) := Lib.hid (by
              obtain ⟨y0, y1, y2, y3, h2⟩ := HT2.out
              have hsz2 : W0.heap.size ≤ w2.heap.size := HFR2.out.size
              refine ⟨⟨nn, bad ++ [(y, c2)], _, v4, y0, y1, y2, y3, by rw [HTD.out]; exact HOPS.out.snoc_bad HR.out H2.out, HGN.out, ?_, hbv4, .inr rfl, fun g hg => ?_⟩, HFR2.out.stay hst4 HOV.out⟩
              · refine h2.s.stay (hst4.2.2.2.2 b h2.lt (by omega) (fun e => by have := HOV.out b e; have := HSZ.out; omega)) (fun j hj hl => ⟨hst4.2.2.2.2 j hl hj.2.1 hj.2.2, hj.1, hj.2.1, fun e => ?_⟩) (fun q => q.1 rfl)
                rcases hov4 with q | ⟨g, q, hq⟩
                · exact hj.2.2 (q ▸ e)
                · rw [q] at e
                  have : g = j := by simpa using e
                  omega
              · rcases hov4 with q | ⟨g2, q, hq⟩
                · exact HOV.out g (q ▸ hg)
                · rw [q] at hg
                  have : g2 = g := by simpa using hg
                  omega)
            clear hbv4 hst4 hov4
            go_wp2_with fail
            go_roundw
            case rel => exact ⟨k + 1, by omega, by go_num, HNX⟩
            case measure => simp [intOf]; omega
        · obtain rfl : k = ops.length := by omega
          have HOPS2 : Hid (Ops (operR (rmR (hasB S 102) (hasB S 114))) n ops bad nk) := Lib.hid (by have := HOPS.out; rwa [List.take_length] at this)
          cases bad with
          | nil =>
            have HB0 : Hid (BV wr (w1.heap.size + 2) p v []) := Lib.hid HBK.out
            go_wp2_with fail
            refine (blen_any HB0.out HPP.out).mono ?_
            rintro e w5 ⟨rfl, rfl⟩
            go_wp2_with fail
            exact HQ0.out _ _ (show IsZ 0 from rfl) HOPS2.out ⟨_, _, _, _, HTK.out.x⟩ (Fr.grown (HB1.out.trans (HB3.out.mono HB1.out.size)) HFR.out (by omega))
          | cons x0 rest =>
            have hne : linesL name (x0 :: rest) ≠ [] := by
              intro e
              have : lineL name x0 ++ linesL name rest = [] := by rw [← e]; simp [linesL]
              exact line_ne name x0 (List.append_eq_nil_iff.1 this).1
            have hpos : (0 : Int) < ((linesL name (x0 :: rest)).length : Int) := by
              have := List.length_pos_iff.2 hne
              omega
            have HNE := Lib.hid hne
            have HBD : Hid (x0 :: rest ≠ []) := Lib.hid (by simp)
            have HG9 := Lib.hid (Fr.grown (HB1.out.trans (HB3.out.mono HB1.out.size)) HFR.out (show w.heap.size ≤ w1.heap.size + 2 by omega))
            have HSO : Hid (∀ w', Stay wr w' (w1.heap.size + 2) v.ownBlock → (∃ z0 z1 z2 z3, TreeX w' b nk z0 z1 z2 z3) ∧ w.grownBy w' (some b)) := Lib.hid fun w' hs => ⟨⟨_, _, _, _, (HTK.out.stay (S' := fun j => j ≠ b) (hs.2.2.2.2 b HTK.out.x.lt (by omega) (fun e => by have := HOV.out b e; have := HSZ.out; omega)) (fun j hj hl => ⟨hs.2.2.2.2 j hl hj.2.1 hj.2.2, hj.1⟩) (fun q => q rfl)).x⟩, Fr.grown (HB1.out.trans (HB3.out.mono HB1.out.size)) (HFR.out.stay hs HOV.out) (by omega)⟩
            generalize hb9 : x0 :: rest = bad9 at *
            clear hb9 hne
            go_wp2_with fail
            refine (blen_any HBK.out HPP.out).mono ?_
            rintro e w5 ⟨rfl, rfl⟩
            go_wp2_with fail
            refine (bstr_any HBK.out HNE.out).mono ?_
            rintro e w6 ⟨rfl, hs6⟩
            obtain ⟨q1, q2⟩ := HSO.out _ hs6
            have Q1 := Lib.hid q1
            have Q2 := Lib.hid q2
            clear q1 q2 hs6
            go_wp2_with fail
            exact HQ1.out _ _ _ (show IsZ 0 from rfl) HOPS2.out HBD.out Q1.out Q2.out
  · have e0 : (cc != 0) = true := bne_iff_ne.2 hc0
    have H0 := Lib.hid hc0
    have z1 : ¬ (9223372036854775807 < name.size + 8) := by omega
    clear hc0
    go_wp2_with fail
    exact HQ2.out _ (show NoOps (S, ops, cc) 102 from .inl H0.out) ⟨_, _, _, _, HT.out.kept (below_alloc (below_alloc HB1.out))⟩ (grown_below (below_alloc (below_alloc HB1.out)))
end Go.Proofs.YtmofodaecakkfaaGreat
