/- Walks over nodes, of the reference and the law: how many there are, how deep, how heavy. -/
import Derived.Test.YtfilbknnpjbmcaaGreatKa02
import Derived.Test.YtfilbknnpjbmcaaGreatKa07
import Derived.Test.YtfilbknnpjbmcaaGreatKa04
import Derived.Deep.RegionHeld3
namespace Go.Proofs.YtfilbknnpjbmcaaGreat
open Go.RowKit Px Nx

theorem box_cell {w wr : World} {cs : Array Value} {t : TypeId} (hb : Below (w.heap.size + 1) (w.alloc (.cells cs t)) wr) (i : Nat) {v : Value} (h : cs[i]? = some v) : wr.cell? ⟨w.heap.size, i, none⟩ = some v := by
  rw [hb.cell (show w.heap.size < w.heap.size + 1 by omega)]
  rw [cell_of_row _ _ _ _ _ _ (heap_alloc_new w _)]
  exact h
theorem box_self {w wr : World} {o : Obj} (hb : Below (w.heap.size + 1) (w.alloc o) wr) : Below w.heap.size w wr :=
  ((Below.refl w.heap.size w).alloc (Nat.le_refl _) o).trans (hb.mono (Nat.le_succ _))
theorem box_old {B : Nat} {W w wr : World} {o : Obj} (h : Below B W w) (hB : B ≤ W.heap.size) (hb : Below (w.heap.size + 1) (w.alloc o) wr) : Below B W wr :=
  h.trans ((box_self hb).mono (Nat.le_trans hB h.size))
theorem cell_grown {W w : World} (hb : Below W.heap.size W w) {a : Addr} {v : Value} (h : W.cell? a = some v) : w.cell? a = some v := by
  rw [hb.cell (World.block_lt_of_cell? _ _ h)]
  exact h
theorem four {l : List Value} (h : l.length = 4) : ∃ a b c d, l = [a, b, c, d] := by
  match l, h with
  | [a, b, c, d], _ => exact ⟨a, b, c, d, rfl⟩
/-- What a kid's cells are, and where they lie. -/
theorem kid_at {W wr : World} {q : Option Addr} {n : Nat} {D : Nat → List Value} (h : Row W 4 q n D) (hb : Below W.heap.size W wr) {k : Nat} (hk : k < n) :
    ∃ b o v0 v1 v2 v3, q = some ⟨b, o, none⟩ ∧ D k = [v0, v1, v2, v3] ∧ wr.cell? ⟨b, o + k * 4, none⟩ = some v0 ∧ wr.cell? ⟨b, o + k * 4 + 1, none⟩ = some v1 ∧ wr.cell? ⟨b, o + k * 4 + 2, none⟩ = some v2 ∧ wr.cell? ⟨b, o + k * 4 + 3, none⟩ = some v3 := by
  obtain ⟨b, o, rfl, hl, hr⟩ := h k hk
  obtain ⟨v0, v1, v2, v3, hv⟩ := four hl
  rw [hv] at hr
  have hr := range_below hb hr
  exact ⟨b, o, v0, v1, v2, v3, rfl, hv, hr 0 _ rfl, hr 1 _ rfl, hr 2 _ rfl, hr 3 _ rfl⟩
theorem ret_nat {k : IntKind} {a b : Nat} (h : a = b) : Ending.returned (.int k a) = Ending.returned (.int k b) := by rw [h]

set_option maxRecDepth 100000 in
set_option maxHeartbeats 2000000 in
theorem nodesRef_any {W : World} {cs : List Value} {c : Nd} (h : NodeR W cs c) : ∀ w, Below W.heap.size W w → c.bulk ≤ 2000000 →
    Calls Tryz.prog 13 #[.agg cs.toArray] w fun e w' => e = .returned (.int .i64 c.nodes) ∧ Below w.heap.size w w' := by
  induction h with
  | mk kind text names kids p q cp d D h1 h2 h3 h5 h6 h7 h8 ih =>
    intro w hb hB
    have hlen : kids.length ≤ 2000000 := by
      have := Nd.bulks_len kids
      unfold Nd.bulk at hB
      omega
    have hkb : Nd.bulks kids ≤ 2000000 := by unfold Nd.bulk at hB; omega
    have IH := Lib.hid ih
    have HR := Lib.hid h7
    have HW := Lib.hid hb
    clear ih h8 h7 h3 hb hB
    go_enter Tryz.func13, Tryz.ntmps13
    go_wp2_with fail
    go_loopw [3, 4] (fun n i wr => ∃ k m : Nat, k ≤ kids.length ∧ i = .int .i64 k ∧ n = .int .i64 m ∧ Hid (m = Nd.nodesAll (kids.take k) + 1) ∧ Hid (Below (w.heap.size + 1) (w.alloc (.cells #[.int .u8 kind.toNat, .string text, .slice p names.length cp, .slice q kids.length d] 25)) wr)) (fun _ i _ => kids.length - (intOf i).toNat)
    case atStart => exact ⟨0, 1, Nat.zero_le _, rfl, rfl, Lib.hid (by simp [Nd.nodesAll]), Lib.hid (Below.refl _ _)⟩
    case round =>
      obtain ⟨k, m, hk, rfl, rfl, HM, HB⟩ := hrel
      have c3 : wr.cell? ⟨w.heap.size, 3, none⟩ = some (.slice q kids.length d) := box_cell HB.out 3 rfl
      have hm : m ≤ 2000001 := by
        have := Nd.nodesAll_bulk (kids.take k)
        have := Nd.bulks_take kids k
        rw [HM.out]; omega
      by_cases hlt : k < kids.length
      · have HOLD := Lib.hid (box_old HW.out (Nat.le_refl _) HB.out)
        obtain ⟨b, o, v0, v1, v2, v3, rfl, hD, e0, e1, e2, e3⟩ := kid_at HR.out HOLD.out hlt
        have HX := Lib.hid (List.getElem?_eq_getElem hlt)
        generalize kids[k] = x at HX
        have hxb : x.bulk ≤ 2000000 := Nat.le_trans (Nd.bulk_kid HX.out) hkb
        have HC := Lib.hid (IH.out k x HX.out wr HOLD.out hxb)
        rw [hD] at HC
        clear hD
        go_wp2_with fail
        refine HC.out.mono ?_
        rintro e w2 ⟨rfl, hb2⟩
        have HB2 := Lib.hid hb2
        have hxd : x.nodes ≤ 2000000 := Nat.le_trans (Nd.nodes_bulk x) hxb
        have HX2 := Lib.hid (Nd.nodesAll_take HX.out)
        clear hb2 HC
        generalize x.nodes = xd at *
        go_wp2
        go_roundw
        case rel => exact ⟨k + 1, m + xd, by omega, by go_num, by go_num, Lib.hid (by rw [HX2.out, HM.out]; omega), Lib.hid (HB.out.trans (HB2.out.mono (by have := HB.out.size; simp at this; omega)))⟩
        case measure => simp [intOf]; omega
      · have HE : Hid (k = kids.length) := Lib.hid (by omega)
        go_wp2
        go_ret
        refine ⟨ret_nat ?_, box_self HB.out⟩
        rw [HM.out, HE.out, List.take_length]
        unfold Nd.nodes
        omega

set_option maxRecDepth 100000 in
set_option maxHeartbeats 2000000 in
theorem deepRef_any {W : World} {cs : List Value} {c : Nd} (h : NodeR W cs c) : ∀ w, Below W.heap.size W w → c.bulk ≤ 2000000 →
    Calls Tryz.prog 23 #[.agg cs.toArray] w fun e w' => e = .returned (.int .i64 c.deep) ∧ Below w.heap.size w w' := by
  induction h with
  | mk kind text names kids p q cp d D h1 h2 h3 h5 h6 h7 h8 ih =>
    intro w hb hB
    have hlen : kids.length ≤ 2000000 := by
      have := Nd.bulks_len kids
      unfold Nd.bulk at hB
      omega
    have hkb : Nd.bulks kids ≤ 2000000 := by unfold Nd.bulk at hB; omega
    have IH := Lib.hid ih
    have HR := Lib.hid h7
    have HW := Lib.hid hb
    clear ih h8 h7 h3 hb hB
    go_enter Tryz.func23, Tryz.ntmps23
    go_wp2_with fail
    go_loopw [3, 4] (fun n i wr => ∃ k m : Nat, k ≤ kids.length ∧ i = .int .i64 k ∧ n = .int .i64 m ∧ Hid (m = Nd.deeps (kids.take k)) ∧ Hid (Below (w.heap.size + 1) (w.alloc (.cells #[.int .u8 kind.toNat, .string text, .slice p names.length cp, .slice q kids.length d] 25)) wr)) (fun _ i _ => kids.length - (intOf i).toNat)
    case atStart => exact ⟨0, 0, Nat.zero_le _, rfl, rfl, Lib.hid (by simp [Nd.deeps]), Lib.hid (Below.refl _ _)⟩
    case round =>
      obtain ⟨k, m, hk, rfl, rfl, HM, HB⟩ := hrel
      have c3 : wr.cell? ⟨w.heap.size, 3, none⟩ = some (.slice q kids.length d) := box_cell HB.out 3 rfl
      have hm : m ≤ 2000001 := by
        have := Nd.deeps_bulk (kids.take k)
        have := Nd.bulks_take kids k
        rw [HM.out]; omega
      by_cases hlt : k < kids.length
      · have HOLD := Lib.hid (box_old HW.out (Nat.le_refl _) HB.out)
        obtain ⟨b, o, v0, v1, v2, v3, rfl, hD, e0, e1, e2, e3⟩ := kid_at HR.out HOLD.out hlt
        have HX := Lib.hid (List.getElem?_eq_getElem hlt)
        generalize kids[k] = x at HX
        have hxb : x.bulk ≤ 2000000 := Nat.le_trans (Nd.bulk_kid HX.out) hkb
        have HC := Lib.hid (IH.out k x HX.out wr HOLD.out hxb)
        rw [hD] at HC
        clear hD
        go_wp2_with fail
        refine HC.out.mono ?_
        rintro e w2 ⟨rfl, hb2⟩
        have HB2 := Lib.hid hb2
        have hxd : x.deep ≤ 2000000 := by have := Nd.deep_bulk x; omega
        have HX2 := Lib.hid (Nd.deeps_take HX.out)
        clear hb2 HC
        generalize x.deep = xd at *
        go_wp2
        go_roundw
        case rel => exact ⟨k + 1, max m (xd + 1), by omega, by go_num, congrArg (Value.int .i64) (by omega), Lib.hid (by rw [HX2.out, HM.out]), Lib.hid (HB.out.trans (HB2.out.mono (by have := HB.out.size; simp at this; omega)))⟩
        case measure => simp [intOf]; omega
      · have HE : Hid (k = kids.length) := Lib.hid (by omega)
        go_wp2
        go_ret
        refine ⟨ret_nat ?_, box_self HB.out⟩
        rw [HM.out, HE.out, List.take_length]
        unfold Nd.deep
        omega

set_option maxRecDepth 100000 in
theorem textRef_any (s : ByteArray) (w : World) (hs : s.size ≤ 2000000) :
    Calls Tryz.prog 34 #[.string s] w fun e w' => e = .returned (.bool (textL s)) ∧ w = w' := by
  go_enter Tryz.func34, Tryz.ntmps34
  go_wp2_with fail
  go_loop [3] (fun i => ∃ k : Nat, k ≤ s.size ∧ i = .int .i64 k ∧ Hid ((s.data.toList.take k).all (fun c => !(c == 0)) = true)) (fun i => s.size - (intOf i).toNat)
  case atStart => exact ⟨0, Nat.zero_le _, rfl, Lib.hid rfl⟩
  case round =>
    obtain ⟨k, hk, rfl, HA⟩ := hrel
    by_cases hlt : k < s.size
    · have HS := Lib.hid (all_take_b hlt (fun c => !(c == 0)))
      have HN : Hid ((!(s[k] == 0)) = false → s.data.toList.all (fun c => !(c == 0)) = false) := Lib.hid fun h => all_not_b hlt h
      have e0 := beq_int s[k] 0
      rw [show ((0 : UInt8).toNat : Int) = 0 from rfl] at e0
      cases hz : (s[k] == 0) with
      | true =>
        have HV := HN.out (by rw [hz]; rfl)
        have HT : Hid (textL s = false) := Lib.hid (by unfold textL; rw [HV, Bool.and_false])
        rw [hz] at e0
        clear hz HN HV HS
        go_wp2_with fail
        go_ret
        exact ⟨ret_bool HT.out.symm, rfl⟩
      | false =>
        have HZ := Lib.hid hz
        rw [hz] at e0
        clear hz HN
        go_wp2_with fail
        go_round
        case rel => exact ⟨k + 1, by omega, by go_num, Lib.hid (by rw [HS.out, HA.out, HZ.out]; rfl)⟩
        case measure => simp [intOf]; omega
    · have HT : Hid (textL s = decide (s.size ≤ 256)) := Lib.hid (by unfold textL; rw [all_full_b (by omega) HA.out, Bool.and_true])
      go_wp2_with fail
      go_ret
      exact ⟨ret_bool (by rw [HT.out, decide_eq_decide]; omega), rfl⟩
end Go.Proofs.YtfilbknnpjbmcaaGreat
