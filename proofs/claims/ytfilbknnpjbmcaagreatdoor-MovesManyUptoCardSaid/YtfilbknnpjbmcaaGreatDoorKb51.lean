/- Trees that stay while another one turns; places by their paths; what a round of MovesMany's loop keeps. No walk. -/
import Derived.Test.YtfilbknnpjbmcaaGreatDoorKb50
import Derived.Test.YtfilbknnpjbmcaaGreatDoorKb47
import Derived.Test.YtfilbknnpjbmcaaGreatDoorKb14
namespace Go.Proofs.YtfilbknnpjbmcaaGreatDoor
open Go.RowKit Px Nx Wk Dn Ox Mv
theorem pl_strs {w : World} {p : Option Addr} {n c : Nat} {xs : List ByteArray} (h : PlR w (.slice p n c) xs) : Strs w p xs := by
 obtain ⟨p', c', e, h, _⟩ := h
 cases e
 exact h
theorem own_sliceM {w : World} {base : Nat} {e : TypeId} {size : Nat} {v : Value} {n : Nat} {xs : List Value} (h : w.ownsRow base e size v n xs) : ∃ p c, v = .slice p n c := by
 rcases h.2 with ⟨rfl, rfl⟩ | ⟨g, cap, cur, rfl, _⟩
 ·exact ⟨_, _, rfl⟩
 ·exact ⟨_, _, rfl⟩
theorem wp_append_strs2 {P : Program} (w : World) {o : Oper} {a : Act} {K : Act → World → Prop} {Q : Exit → Act → World → Prop} (s x : Operand) (t : TypeId)
  (ho : o.op = .call { callee := .builtin .append, args := #[s, x], argTypes := #[t, t] })
  (base : Nat) (e : TypeId) (i : TypeInfo) (z : Value) (ht : P.underlying t = some (.slice e)) (hi : P.info? e = some i) (hz : i.zero = some z)
  (hsize : i.size = 1) (hby : i.bytes = 16) (hzs : z.cells.size = 1)
  (v : Value) (n : Nat) (xs : List Value) (hs : a.eval s = v) (hown : w.ownsRow base e 1 v n xs)
  (p : Option Addr) (c : Nat) (l : List ByteArray) (hx : a.eval x = .slice p l.length c) (hl : Strs w p l) (hn : n + l.length ≤ 4294967296) (hbase : base ≤ w.heap.size)
  (h : ∀ v' w', w'.ownsRow base e 1 v' (n + l.length) (xs ++ l.map Value.string) → w.grownBy w' v.ownBlock → (v'.ownBlock = v.ownBlock ∨ v'.ownBlock = some w.heap.size) → K (a.put o.dst v') w') : o.wp P a w K Q := by
 by_cases h0 : l = []
 ·subst h0
  have hrun : (Builtin.append_ #[t, t] o.type #[v, .slice p 0 c]).run P w = .ok v w := by
   rcases hown.2 with ⟨rfl, rfl⟩ | ⟨g, cap, cur, rfl, _, _, hnc, _⟩
   ·cases p <;> simp [Builtin.append_, run_underlying ht, sizeOf, typeInfo, hi, Builtin.lenOf, Builtin.firstCells, loadCells, loadCellsFrom]
   ·cases p <;> simp [Builtin.append_, run_underlying ht, sizeOf, typeInfo, hi, Builtin.lenOf, Builtin.firstCells, loadCells, loadCellsFrom, hnc, storeCells]
  unfold Oper.wp execOp
  have hx' : a.eval x = .slice p 0 c := hx
  simp only [ho, resolve, invoke, builtin, Sem.run_bind, Sem.run_pure, Result.andThen_ok, List.map_toArray, List.map_cons, List.map_nil, hs, hx', hrun]
  exact h v w (by simpa using hown) (World.grownBy.refl w _) (.inl rfl)
 ·obtain ⟨b, f, rfl, _⟩ := hl 0 (List.length_pos_iff.2 h0)
  exact wp_append_own_at2 w s x t ho base e i z 1 16 ht hi hz hsize hby hzs (by decide) v n xs hs hown ⟨b, f, none⟩ l.length c (l.map Value.string) hx (by simp) (strs_news hl) (strings_one l) (by unfold maxLen; omega) (by omega) hbase h
theorem row_eq {W : World} {k n : Nat} {p : Option Addr} {C D : Nat → List Value} (h : Row W k p n C) (h' : Row W k p n D) {i : Nat} (hi : i < n) : C i = D i := by
 obtain ⟨b, o, rfl, hl, hv⟩ := h i hi
 obtain ⟨b', o', he, hl', hv'⟩ := h' i hi
 cases he
 apply List.ext_getElem?
 intro j
 rcases Nat.lt_or_ge j k with hj | hj
 ·have e1 := hv j _ (List.getElem?_eq_getElem (l := C i) (i := j) (by omega))
  have e2 := hv' j _ (List.getElem?_eq_getElem (l := D i) (i := j) (by omega))
  rw [e1] at e2
  rw [List.getElem?_eq_getElem (by omega), List.getElem?_eq_getElem (by omega)]
  exact e2
 ·rw [List.getElem?_eq_none (by omega), List.getElem?_eq_none (by omega)]
theorem NodeX.both {w : World} {S S' : Nat → Prop} {cs : List Value} {x : Nd} (h : NodeX w S cs x) : NodeX w S' cs x → NodeX w (fun k => S k ∧ S' k) cs x := by
 induction h with
 | mk kind text names kids p q c d D h1 h2 h3 h4 h5 h6 h7 h8 _ ih =>
  intro h'
  generalize hcs : ([.int .u8 kind.toNat, .string text, .slice p names.length c, .slice q kids.length d] : List Value) = cs' at h'
  generalize hx : Nd.mk kind text names kids = x' at h'
  cases h' with
  | mk kind' text' names' kids' p' q' c' d' D' g1 g2 g3 g4 g5 g6 g7 g8 g9 =>
   cases hx
   injection hcs with _ hcs
   injection hcs with _ hcs
   injection hcs with e1 hcs
   injection hcs with e2 _
   cases e1
   cases e2
   refine .mk kind text names kids p q c d D h1 h2 h3 (fun a ha hl => ⟨h4 a ha hl, g4 a ha hl⟩) h5 h6 h7 (fun a ha hl => ⟨h8 a ha hl, g8 a ha hl⟩) fun i x hx => ih i x hx ?_
   have hi := (List.getElem?_eq_some_iff.1 hx).1
   rw [row_eq h7 g7 hi]
   exact g9 i x hx
theorem TreeX.of_new {w : World} {b B : Nat} {n : Nd} {v0 v1 v2 v3 : Value} (h : TreeX w b n v0 v1 v2 v3) (hs : NodeX w (fun k => B ≤ k ∧ k < w.heap.size) [v0, v1, v2, v3] n) : TreeS w (fun k => k ≠ b ∧ B ≤ k ∧ k < w.heap.size) b n v0 v1 v2 v3 :=
 ⟨h.blk, NodeX.both h.node hs, fun e => e.1 rfl⟩
namespace Mv
theorem flat_inj : ∀ {p q : List ByteArray}, (∀ s ∈ p, s.size ≠ 0 ∧ (47 : UInt8) ∉ s.data.toList) → (∀ s ∈ q, s.size ≠ 0 ∧ (47 : UInt8) ∉ s.data.toList) → flat p = flat q → p = q
 | [], [], _, _, _ => rfl
 | [], y :: q, _, _, h => by simp [flat] at h
 | x :: p, [], _, _, h => by simp [flat] at h
 | x :: p, y :: q, hp, hq, h => by
  simp only [flat, List.cons.injEq, true_and] at h
  have e : ∀ (a b : List UInt8) (l m : List ByteArray), (47 : UInt8) ∉ a → (47 : UInt8) ∉ b → a ++ flat l = b ++ flat m → a = b ∧ flat l = flat m := by
   intro a
   induction a with
   | nil =>
    intro b l m _ hb he
    cases b with
    | nil => exact ⟨rfl, he⟩
    | cons c b =>
     exfalso
     cases l with
     | nil => simp [flat] at he
     | cons s l =>
      simp only [flat, List.nil_append, List.cons_append, List.cons.injEq] at he
      exact hb (by rw [← he.1]; simp)
   | cons c a ih =>
    intro b l m ha hb he
    cases b with
    | nil =>
     exfalso
     cases m with
     | nil => simp [flat] at he
     | cons s m =>
      simp only [flat, List.nil_append, List.cons_append, List.cons.injEq] at he
      exact ha (by rw [he.1]; simp)
    | cons c' b =>
     simp only [List.cons_append, List.cons.injEq] at he
     obtain ⟨h1, h2⟩ := ih b l m (fun h => ha (List.mem_cons_of_mem _ h)) (fun h => hb (List.mem_cons_of_mem _ h)) he.2
     exact ⟨by rw [he.1, h1], h2⟩
  obtain ⟨h1, h2⟩ := e _ _ p q (hp x (by simp)).2 (hq y (by simp)).2 h
  have hx : x = y := by
   cases x; cases y
   simp only at h1
   congr 1
   exact Array.ext' h1
  rw [hx, flat_inj (fun s hs => hp s (List.mem_cons_of_mem _ hs)) (fun s hs => hq s (List.mem_cons_of_mem _ hs)) h2]
theorem show_inj {p q : List ByteArray} (hp : ∀ s ∈ p, s.size ≠ 0 ∧ (47 : UInt8) ∉ s.data.toList) (hq : ∀ s ∈ q, s.size ≠ 0 ∧ (47 : UInt8) ∉ s.data.toList) (h : (⟨(showL p).toArray⟩ : ByteArray) = ⟨(showL q).toArray⟩) : p = q := by
 have h : showL p = showL q := by
  have := congrArg (fun b : ByteArray => b.data.toList) h
  simpa using this
 unfold showL at h
 by_cases h1 : p.length = 0
 ·have e1 := List.length_eq_zero_iff.1 h1
  by_cases h2 : q.length = 0
  ·rw [e1, List.length_eq_zero_iff.1 h2]
  ·rw [if_pos h1, if_neg h2] at h
   exfalso
   cases q with
   | nil => exact h2 rfl
   | cons x q =>
    simp only [flat, List.cons.injEq, true_and] at h
    have h3 := (hq x (by simp)).1
    have h4 : x.data.toList = [] := (List.append_eq_nil_iff.1 h.symm).1
    exact h3 (by rw [Lib.size_eq, h4]; rfl)
 ·by_cases h2 : q.length = 0
  ·rw [if_neg h1, if_pos h2] at h
   exfalso
   cases p with
   | nil => exact h1 rfl
   | cons x p =>
    simp only [flat, List.cons.injEq, true_and] at h
    have h3 := (hp x (by simp)).1
    have h4 : x.data.toList = [] := (List.append_eq_nil_iff.1 h).1
    exact h3 (by rw [Lib.size_eq, h4]; rfl)
  ·rw [if_neg h1, if_neg h2] at h
   exact flat_inj hp hq h
theorem steps_P (t : ByteArray) : ∀ s ∈ stepsB t, s.size ≠ 0 ∧ (47 : UInt8) ∉ s.data.toList := by
 intro s hs
 obtain ⟨l, hl, rfl⟩ := List.mem_map.1 hs
 obtain ⟨h1, h2, _⟩ := steps_mem hl
 refine ⟨fun h => ?_, fun h => h1 _ (by simpa using h) rfl⟩
 have hn : l = [] := by
  have : l.toArray.size = 0 := h
  simpa using this
 rw [hn] at h2
 exact absurd h2 (by decide)
theorem leads_P {n : Nd} {fo : Bool} {t : ByteArray} {p : List ByteArray} {k : UInt8} (h : Leads n fo t (.ok p k)) : ∀ s ∈ p, s.size ≠ 0 ∧ (47 : UInt8) ∉ s.data.toList := fun s hs => (run_names (P := fun s => s.size ≠ 0 ∧ (47 : UInt8) ∉ s.data.toList) (fun t s hs => .inr (steps_P t s hs)) h (fun s hs => by simp at hs) (fun s hs => .inr (steps_P t s hs)) p k rfl s hs).1
theorem leads_small {G : Nat} {n : Nd} (h : TreeG G n) {fo : Bool} {t : ByteArray} {p : List ByteArray} {k : UInt8} (hr : Leads n fo t (.ok p k)) (ht : t.size ≤ 256) : smallL p := by
 have h1 := run_len h.well hr (Nat.zero_le _) p k rfl
 have h2 := stepsB_len t
 have h3 := run_small (M := 256) (fun q s hs => by
  have a1 := step_size s hs
  have a2 := text_at h.well (p := q)
  omega) hr (fun s hs => by simp at hs) (fun s hs => by have := step_size s hs; omega) p k rfl
 exact ⟨by simp at h1; omega, fun x hx => Nat.le_trans (h3 x hx) (by decide)⟩
theorem same_place {n m : Nd} {fo : Bool} {t : ByteArray} {p q : List ByteArray} {k l : UInt8} (h : Leads n fo t (.ok p k)) (h' : Leads m fo t (.ok q l)) (he : (⟨(showL p).toArray⟩ : ByteArray) = ⟨(showL q).toArray⟩) : p = q := show_inj (leads_P h) (leads_P h') he
theorem many_err {R : Rel} {n m : Nd} {name err : ByteArray} {l : List ByteArray} {code : Int} (h : Many R n name l code err m) (hn : name.size ≤ 600) (hl : ∀ x ∈ l, x.size ≤ 6000) : err.size ≤ 6700 * l.length ∧ (code = 0 ∨ code = 1) := by
 obtain ⟨bad, h1, h2, h3⟩ := h.all
 have hb := bad_mem h1
 have hs := lines_sizeM name hn bad fun x hx => hl _ (hb.1 x hx)
 refine ⟨?_, ?_⟩
 ·rw [h3]
  have e : (⟨(linesM name bad).toArray⟩ : ByteArray).size = (linesM name bad).length := by simp [ByteArray.size]
  rw [e]
  have := Nat.mul_le_mul_left 6700 hb.2
  omega
 ·rw [h2]
  by_cases hb0 : bad = []
  ·rw [if_pos hb0]; exact .inl rfl
  ·rw [if_neg hb0]; exact .inr rfl
end Mv
theorem OwnL.plT {w : World} {B b : Nat} {v : Value} {l : List ByteArray} (h : OwnL w B v l) (hb : b < B) : PlT w b v l := OwnL.fr h (Below.refl _ _) (Fr.refl w b w.heap.size) hb (Nat.le_refl _)
namespace Mv
structure LoopMM (R : Goal → Rel) (n : Nd) (name : ByteArray) (xs P : List ByteArray) (W wr : World) (b b' k : Nat) (code : Int) (err : ByteArray) : Prop where
 all : ∃ m y0 y1 y2 y3, Many (R (.into P)) n name (xs.take k) code err m ∧ TreeG (2000000 + 5710000 * k) m ∧ TreeY b' wr b m y0 y1 y2 y3
 below : Below W.heap.size W wr
 other : ∃ z0 z1 z2 z3, TreeY b wr b' n z0 z1 z2 z3
end Mv
end Go.Proofs.YtfilbknnpjbmcaaGreatDoor
/- Walks of the statements' own measures: weight, large (law 13). -/
namespace Go.Proofs.YtfilbknnpjbmcaaGreatDoor
open Go.RowKit Px Nx Wk Dn Ox Mv

set_option maxRecDepth 100000 in
set_option maxHeartbeats 4000000 in
theorem weight13_any {W : World} {cs : List Value} {c : Nd} (h : NodeR W cs c) : ∀ w, Below W.heap.size W w →
  Calls Tryz.prog 6 #[.agg cs.toArray] w fun e w' => (∃ n : Int, e = .returned (.int .i64 n)) ∧ Below w.heap.size w w' := by
 induction h with
 | mk kind text names kids p q cp d D h1 h2 h3 h5 h6 h7 h8 ih =>
  intro w hb
  have hlw : names.length ≤ 9223372036854775807 := by unfold maxLen at h2; omega
  have hlk : kids.length ≤ 9223372036854775807 := by unfold maxLen at h6; omega
  have IH := Lib.hid ih
  have HRW := Lib.hid h3
  have HRK := Lib.hid h7
  have HW := Lib.hid hb
  clear ih h8 h7 h3 hb h1 h2 h5 h6
  have HN : Hid (∀ {wr : World} {k : Nat}, Below W.heap.size W wr → k < names.length → ∃ b o s, p = some ⟨b, o, none⟩ ∧ wr.cell? ⟨b, o + k, none⟩ = some (.string s)) := Lib.hid fun hb hk => by
   obtain ⟨b, o, he, hc⟩ := name_cell HRW.out hb hk
   exact ⟨b, o, _, he, hc⟩
  have HK : Hid (∀ (k : Nat), k < kids.length → ∀ w, Below W.heap.size W w → Calls Tryz.prog 6 #[.agg (D k).toArray] w fun e w' => (∃ n : Int, e = .returned (.int .i64 n)) ∧ Below w.heap.size w w') := Lib.hid fun k hk w hb => IH.out k _ (List.getElem?_eq_getElem hk) w hb
  clear IH HRW
  generalize names.length = nn at *
  generalize kids.length = kn at *
  go_enter Tryz.func6, Tryz.ntmps6
  go_wp2_with fail
  go_loopw [3, 4] (fun s i wr => ∃ (k : Nat) (n : Int), k ≤ nn ∧ i = .int .i64 k ∧ s = .int .i64 n ∧ Hid (Below (w.heap.size + 1) (w.alloc (.cells #[.int .u8 kind.toNat, .string text, .slice p nn cp, .slice q kn d] 25)) wr)) (fun _ i _ => nn - (intOf i).toNat)
  case atStart => exact ⟨0, _, Nat.zero_le _, rfl, rfl, Lib.hid (Below.refl _ _)⟩
  case round =>
   obtain ⟨k, n, hk, rfl, rfl, HB⟩ := hrel
   have c2 : wr.cell? ⟨w.heap.size, 2, none⟩ = some (.slice p nn cp) := box_cell HB.out 2 rfl
   have HOLD : Hid (Below W.heap.size W wr) := Lib.hid (box_old HW.out (Nat.le_refl _) HB.out)
   have HREST : Hid (∀ (m : Int), Below (w.heap.size + 1) (w.alloc (.cells #[.int .u8 kind.toNat, .string text, .slice p nn cp, .slice q kn d] 25)) wr → True) := Lib.hid fun _ _ => trivial
   clear HREST
   by_cases hlt : k < nn
   ·obtain ⟨b, o, s, rfl, e0⟩ := HN.out HOLD.out hlt
    by_cases hn3 : n < 3000
    ·go_wp2_with fail
     go_roundw
     case rel => exact ⟨k + 1, _, by omega, by go_num, rfl, HB⟩
     case measure => simp [intOf]; omega
    ·(
     go_wp2_with fail
     have HB0 := Lib.hid HB.out
     clear HB c2 HOLD
     go_loopw [3, 5] (fun s i wr => ∃ (k : Nat) (n : Int), k ≤ kn ∧ i = .int .i64 k ∧ s = .int .i64 n ∧ Hid (Below (w.heap.size + 1) (w.alloc (.cells #[.int .u8 kind.toNat, .string text, .slice (some ⟨b, o, none⟩) nn cp, .slice q kn d] 25)) wr)) (fun _ i _ => kn - (intOf i).toNat)
     case atStart => exact ⟨0, _, Nat.zero_le _, rfl, rfl, HB0⟩
     case round =>
      clear HB0
      obtain ⟨j, m, hj, rfl, rfl, HB⟩ := hrel
      have c3 : wr.cell? ⟨w.heap.size, 3, none⟩ = some (.slice q kn d) := box_cell HB.out 3 rfl
      have HOLD : Hid (Below W.heap.size W wr) := Lib.hid (box_old HW.out (Nat.le_refl _) HB.out)
      by_cases hjn : j < kn
      ·obtain ⟨b, o, v0, v1, v2, v3, rfl, hD, e0, e1, e2, e3⟩ := kid_at HRK.out HOLD.out hjn
       have HC := Lib.hid (HK.out j hjn wr HOLD.out)
       rw [hD] at HC
       clear hD
       go_wp2_with fail
       ·refine HC.out.mono ?_
        rintro e w2 ⟨⟨x, rfl⟩, hb2⟩
        have HB2 : Hid (Below (w.heap.size + 1) wr w2) := Lib.hid (hb2.mono (by have := HB.out.size; simp at this; omega))
        clear hb2
        go_wp2
        go_roundw
        case rel => exact ⟨j + 1, _, by omega, by go_num, rfl, Lib.hid (HB.out.trans HB2.out)⟩
        case measure => simp [intOf]; omega
       ·go_wp2
        go_ret
        exact ⟨⟨_, rfl⟩, box_self HB.out⟩
      ·go_wp2
       go_ret
       exact ⟨⟨_, rfl⟩, box_self HB.out⟩)
   ·(
    go_wp2_with fail
    have HB0 := Lib.hid HB.out
    clear HB c2 HOLD
    go_loopw [3, 5] (fun s i wr => ∃ (k : Nat) (n : Int), k ≤ kn ∧ i = .int .i64 k ∧ s = .int .i64 n ∧ Hid (Below (w.heap.size + 1) (w.alloc (.cells #[.int .u8 kind.toNat, .string text, .slice p nn cp, .slice q kn d] 25)) wr)) (fun _ i _ => kn - (intOf i).toNat)
    case atStart => exact ⟨0, _, Nat.zero_le _, rfl, rfl, HB0⟩
    case round =>
     clear HB0
     obtain ⟨j, m, hj, rfl, rfl, HB⟩ := hrel
     have c3 : wr.cell? ⟨w.heap.size, 3, none⟩ = some (.slice q kn d) := box_cell HB.out 3 rfl
     have HOLD : Hid (Below W.heap.size W wr) := Lib.hid (box_old HW.out (Nat.le_refl _) HB.out)
     by_cases hjn : j < kn
     ·obtain ⟨b, o, v0, v1, v2, v3, rfl, hD, e0, e1, e2, e3⟩ := kid_at HRK.out HOLD.out hjn
      have HC := Lib.hid (HK.out j hjn wr HOLD.out)
      rw [hD] at HC
      clear hD
      go_wp2_with fail
      ·refine HC.out.mono ?_
       rintro e w2 ⟨⟨x, rfl⟩, hb2⟩
       have HB2 : Hid (Below (w.heap.size + 1) wr w2) := Lib.hid (hb2.mono (by have := HB.out.size; simp at this; omega))
       clear hb2
       go_wp2
       go_roundw
       case rel => exact ⟨j + 1, _, by omega, by go_num, rfl, Lib.hid (HB.out.trans HB2.out)⟩
       case measure => simp [intOf]; omega
      ·go_wp2
       go_ret
       exact ⟨⟨_, rfl⟩, box_self HB.out⟩
     ·go_wp2
      go_ret
      exact ⟨⟨_, rfl⟩, box_self HB.out⟩)



def sumW : List ByteArray → Nat
 | [] => 0
 | x :: r => 1 + min x.size 5000 + sumW r
theorem sumW_snoc : ∀ (l : List ByteArray) (x : ByteArray), sumW (l ++ [x]) = sumW l + (1 + min x.size 5000)
 | [], x => by simp [sumW]
 | y :: l, x => by rw [List.cons_append, sumW, sumW, sumW_snoc l x]; omega
theorem sumW_small : ∀ {l : List ByteArray}, sumW l < 5000 → l.length < 5000 ∧ ∀ x ∈ l, x.size ≤ 5000
 | [], _ => ⟨by decide, fun x hx => by cases hx⟩
 | y :: l, h => by
  rw [sumW] at h
  obtain ⟨h1, h2⟩ := sumW_small (l := l) (by omega)
  have hlen : ∀ l : List ByteArray, l.length ≤ sumW l := by
   intro l
   induction l with
   | nil => exact Nat.le_refl _
   | cons z r ih => rw [sumW, List.length_cons]; omega
  have := hlen l
  refine ⟨by rw [List.length_cons]; omega, fun x hx => ?_⟩
  rcases List.mem_cons.1 hx with rfl | hx
  ·omega
  ·exact h2 x hx

def LargeQ (xs : List ByteArray) (e : Ending) : Prop := ∃ b, e = .returned (.bool b) ∧ (b = false → xs.length ≤ 30 ∧ ∀ x ∈ xs, x.size ≤ 5000)
set_option maxRecDepth 100000 in
theorem large13_any (w : World) (v : Value) (xs : List ByteArray) (hx : PlR w v xs) :
  Calls Tryz.prog 15 #[v] w fun e w' => LargeQ xs e ∧ w' = w := by
 obtain ⟨p, c, rfl, h1, h2, h3⟩ := hx
 have HS := Lib.hid h1
 clear h1
 unfold maxLen at h3
 go_enter Tryz.func15, Tryz.ntmps15
 go_wp2_with fail
 go_loopw [3, 4] (fun nv i wr => ∃ (k n : Nat), k ≤ xs.length ∧ nv = .int .i64 n ∧ n ≤ 10001 ∧ i = .int .i64 k ∧ w = wr ∧ Hid (n = sumW (xs.take k))) (fun _ i _ => xs.length - (intOf i).toNat)
 case atStart => exact ⟨0, 0, Nat.zero_le _, rfl, Nat.zero_le _, rfl, rfl, Lib.hid rfl⟩
 case round =>
  obtain ⟨k, n, hk, rfl, hn, rfl, rfl, HN⟩ := hrel
  by_cases hlt : k < xs.length
  ·by_cases hn5 : n < 5000
   ·obtain ⟨b, o, rfl, hc⟩ := HS.out k hlt
    have HD := Lib.hid (take_snoc_d hlt)
    generalize xs.getD k ByteArray.empty = x at *
    have HN2 : Hid (n + (1 + min x.size 5000) = sumW (xs.take (k + 1))) := Lib.hid (by rw [HD.out, sumW_snoc, HN.out])
    go_wp2_with fail
    go_roundw
    case rel => exact ⟨k + 1, n + (1 + min x.size 5000), by omega, by rw [show (n : Int) + 1 + min (x.size : Int) 5000 = ((n + (1 + min x.size 5000) : Nat) : Int) from by omega], by omega, by go_num, trivial, HN2⟩
    case measure => simp [intOf]; omega
   ·have hn6 : (5000 : Int) ≤ (n : Int) := by omega
    go_wp2_with fail
    go_ret
    exact ⟨⟨_, rfl, fun h => absurd h (by simp)⟩, rfl⟩
  ·obtain rfl : k = xs.length := by omega
   have HN2 : Hid (n = sumW xs) := Lib.hid (by rw [HN.out, List.take_length])
   by_cases hn5 : n < 5000
   ·have hn6 : ¬ (5000 : Int) ≤ (n : Int) := by omega
    have h5 : sumW xs < 5000 := by rw [← HN2.out]; exact hn5
    have HS5 := Lib.hid (sumW_small h5)
    clear h5
    by_cases h30 : (30 : Int) < (xs.length : Int)
    ·go_wp2_with fail
     go_ret
     exact ⟨⟨_, rfl, fun h => absurd h (by simp)⟩, rfl⟩
    ·have HL := Lib.hid (show xs.length ≤ 30 by omega)
     go_wp2_with fail
     go_ret
     exact ⟨⟨_, rfl, fun _ => ⟨HL.out, HS5.out.2⟩⟩, rfl⟩
   ·have hn6 : (5000 : Int) ≤ (n : Int) := by omega
    go_wp2_with fail
    go_ret
    exact ⟨⟨_, rfl, fun h => absurd h (by simp)⟩, rfl⟩

end Go.Proofs.YtfilbknnpjbmcaaGreatDoor
