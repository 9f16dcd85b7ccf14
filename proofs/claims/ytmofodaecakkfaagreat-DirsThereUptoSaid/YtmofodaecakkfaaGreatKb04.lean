/- Walks of the reference: whether a text is a name. -/
import Derived.Test.YtmofodaecakkfaaGreatKb03
import Derived.Test.YtmofodaecakkfaaGreatKb00
import Derived.Test.YtmofodaecakkfaaGreatKb02
import Derived.Deep.RegionHeld3
import Derived.Test.YtmofodaecakkfaaGreatKb01
import Derived.Maps.AppendAt
import Derived.Laws.AppendOwnNone
namespace Go.Proofs.YtmofodaecakkfaaGreat
open Go.RowKit Px

theorem four_ways (q : ByteArray) : q.toList = [] ∨ q.toList = [46] ∨ q.toList = [46, 46] ∨ (¬ q.toList = [] ∧ (q.toList == [46]) = false ∧ (q.toList == [46, 46]) = false) := by
  by_cases h1 : q.toList = []
  · exact .inl h1
  · by_cases h2 : q.toList = [46]
    · exact .inr (.inl h2)
    · by_cases h3 : q.toList = [46, 46]
      · exact .inr (.inr (.inl h3))
      · exact .inr (.inr (.inr ⟨h1, beq_eq_false_iff_ne.2 h2, beq_eq_false_iff_ne.2 h3⟩))

theorem full_list {q : ByteArray} (h : ¬ q.toList = []) : q.toList.isEmpty = false := by
  cases e : q.toList with
  | nil => exact absurd e h
  | cons x y => rfl
theorem take_snoc_b (s : ByteArray) (k : Nat) (h : k < s.size) : s.data.toList.take (k + 1) = s.data.toList.take k ++ [s[k]] := by
  rw [List.take_succ_eq_append_getElem (by simpa using h)]; rfl
def okC (c : UInt8) : Bool := !(c == 0) && !(c == 47) && !(c == 10)
theorem beq_int (c : UInt8) (n : UInt8) : ((c.toNat : Int) == (n.toNat : Int)) = (c == n) := by
  by_cases h : c = n
  · subst h; simp
  · rw [beq_eq_false_iff_ne.2 h, beq_eq_false_iff_ne]
    intro e
    apply h
    apply UInt8.toNat_inj.1
    omega
theorem okC_ways (c : UInt8) : (okC c = true ∧ ((c.toNat : Int) == 0) = false ∧ ((c.toNat : Int) == 47) = false ∧ ((c.toNat : Int) == 10) = false) ∨ (okC c = false ∧ ((c.toNat : Int) == 0) = true) ∨
    (okC c = false ∧ ((c.toNat : Int) == 0) = false ∧ ((c.toNat : Int) == 47) = true) ∨ (okC c = false ∧ ((c.toNat : Int) == 0) = false ∧ ((c.toNat : Int) == 47) = false ∧ ((c.toNat : Int) == 10) = true) := by
  have e0 := beq_int c 0
  have e1 := beq_int c 47
  have e2 := beq_int c 10
  have f0 : ((0 : UInt8).toNat : Int) = 0 := rfl
  have f1 : ((47 : UInt8).toNat : Int) = 47 := rfl
  have f2 : ((10 : UInt8).toNat : Int) = 10 := rfl
  rw [f0] at e0
  rw [f1] at e1
  rw [f2] at e2
  rw [e0, e1, e2]
  unfold okC
  cases c == 0 <;> cases c == 47 <;> cases c == 10 <;> simp
theorem nameL_of {s : ByteArray} (h1 : ¬ s.toList = []) (h2 : (s.toList == [46]) = false) (h3 : (s.toList == [46, 46]) = false) (h : s.size ≤ 64) : nameL s.data.toList = s.data.toList.all okC := by
  rw [Lib.toList_data] at h1 h2 h3
  unfold nameL
  rw [show (s.data.toList == []) = false from beq_eq_false_iff_ne.2 h1, h2, h3, ← Lib.size_eq, decide_eq_true h]
  rfl
theorem all_take_b {s : ByteArray} {k : Nat} (h : k < s.size) (f : UInt8 → Bool) : (s.data.toList.take (k + 1)).all f = ((s.data.toList.take k).all f && f s[k]) := by
  rw [take_snoc_b s k h, List.all_append]
  simp
theorem all_not_b {s : ByteArray} {k : Nat} (h : k < s.size) {f : UInt8 → Bool} (hf : f s[k] = false) : s.data.toList.all f = false := by
  rw [Bool.eq_false_iff]
  intro ha
  have := List.all_eq_true.1 ha s[k] (by
    show s.data[k] ∈ _
    exact Array.getElem_mem_toList (xs := s.data) h)
  rw [hf] at this
  cases this
theorem all_full_b {s : ByteArray} {k : Nat} (h : k = s.size) {f : UInt8 → Bool} (hf : (s.data.toList.take k).all f = true) : s.data.toList.all f = true := by
  rw [List.take_of_length_le (by rw [← Lib.size_eq]; omega)] at hf
  exact hf
theorem size_of_list {s : ByteArray} {l : List UInt8} (h : s.toList = l) : s.size = l.length := by
  rw [← h, Lib.toList_data, Lib.size_eq]

set_option maxRecDepth 100000 in
theorem nameRef_any (s : ByteArray) (w : World) (hs : s.size ≤ 2000000) :
    Calls Tryz.prog 55 #[.string s] w fun e w' => e = .returned (.bool (nameL s.data.toList)) ∧ w = w' := by
  have bad : (s.toList = [] ∨ s.toList = [46] ∨ s.toList = [46, 46]) → Hid (nameL s.data.toList = false) := fun h => Lib.hid (by
    rw [Lib.toList_data] at h
    unfold nameL
    rcases h with h | h | h <;> rw [h] <;> rfl)
  rcases four_ways s with h | h | h | ⟨h1, h2, h3⟩
  · have HV := bad (.inl h)
    have hz := size_of_list h
    clear bad hs
    go_enter Tryz.func55, Tryz.ntmps55
    go_wp2_with fail
    go_ret
    exact ⟨ret_bool HV.out.symm, rfl⟩
  · have HV := bad (.inr (.inl h))
    have hz : s.size = 1 := size_of_list h
    have hne : ¬ s.toList = [] := by rw [h]; simp
    have he := full_list hne
    have HZ := Lib.hid hz
    have hz1 : s.size ≤ 64 := by omega
    clear bad hs hz
    go_enter Tryz.func55, Tryz.ntmps55
    go_wp2_with fail
    go_ret
    exact ⟨ret_bool HV.out.symm, rfl⟩
  · have HV := bad (.inr (.inr h))
    have hz : s.size = 2 := size_of_list h
    have hne : ¬ s.toList = [] := by rw [h]; simp
    have he := full_list hne
    have hz1 : s.size ≤ 64 := by omega
    clear bad hs hz
    go_enter Tryz.func55, Tryz.ntmps55
    go_wp2_with fail
    go_ret
    exact ⟨ret_bool HV.out.symm, rfl⟩
  · clear bad
    have he := full_list h1
    by_cases h64 : 64 < s.size
    · have HV : Hid (nameL s.data.toList = false) := Lib.hid (by
        unfold nameL
        rw [← Lib.size_eq, decide_eq_false (by omega), Bool.and_false, Bool.false_and])
      go_enter Tryz.func55, Tryz.ntmps55
      go_wp2_with fail
      go_ret
      exact ⟨ret_bool HV.out.symm, rfl⟩
    · have HV := Lib.hid (nameL_of h1 h2 h3 (by omega))
      go_enter Tryz.func55, Tryz.ntmps55
      go_wp2_with fail
      go_loop [3] (fun i => ∃ k : Nat, k ≤ s.size ∧ i = .int .i64 k ∧ Hid ((s.data.toList.take k).all okC = true)) (fun i => s.size - (intOf i).toNat)
      case atStart => exact ⟨0, Nat.zero_le _, rfl, Lib.hid rfl⟩
      case round =>
        obtain ⟨k, hk, rfl, HA⟩ := hrel
        by_cases hlt : k < s.size
        · have HS := Lib.hid (all_take_b hlt okC)
          have HN : Hid (okC s[k] = false → s.data.toList.all okC = false) := Lib.hid fun h => all_not_b hlt h
          rcases okC_ways s[k] with ⟨ho, c0, c1, c2⟩ | ⟨ho, c0⟩ | ⟨ho, c0, c1⟩ | ⟨ho, c0, c1, c2⟩
          · have HO := Lib.hid ho
            clear ho
            go_wp2_with fail
            go_round
            case rel => exact ⟨k + 1, by omega, by go_num, Lib.hid (by rw [HS.out, HA.out, HO.out]; rfl)⟩
            case measure => simp [intOf]; omega
          all_goals
            have HO := Lib.hid (HN.out ho)
            clear ho
            go_wp2_with fail
            go_ret
            exact ⟨ret_bool (by rw [HV.out, HO.out]), rfl⟩
        · have HE := Lib.hid (all_full_b (s := s) (k := k) (by omega) HA.out)
          go_wp2_with fail
          go_ret
          exact ⟨ret_bool (by rw [HV.out, HE.out]), rfl⟩

end Go.Proofs.YtmofodaecakkfaaGreat
/- Walks over nodes, of the reference and the law: how many there are, how deep, how heavy. -/
namespace Go.Proofs.YtmofodaecakkfaaGreat
open Go.RowKit Px Nx

theorem box_cell {w wr : World} {cs : Array Value} {t : TypeId} (hb : Below (w.heap.size + 1) (w.alloc (.cells cs t)) wr) (i : Nat) {v : Value} (h : cs[i]? = some v) : wr.cell? ⟨w.heap.size, i, none⟩ = some v := by
  rw [hb.cell (show w.heap.size < w.heap.size + 1 by omega)]
  rw [cell_of_row _ _ _ _ _ _ (heap_alloc_new w _)]
  exact h
theorem box_self {w wr : World} {o : Obj} (hb : Below (w.heap.size + 1) (w.alloc o) wr) : Below w.heap.size w wr :=
  ((Below.refl w.heap.size w).alloc (Nat.le_refl _) o).trans (hb.mono (Nat.le_succ _))
theorem box_old {B : Nat} {W w wr : World} {o : Obj} (h : Below B W w) (hB : B ≤ W.heap.size) (hb : Below (w.heap.size + 1) (w.alloc o) wr) : Below B W wr :=
  h.trans ((box_self hb).mono (Nat.le_trans hB h.size))
theorem cell_grown {W w : World} (hb : Below W.heap.size W w) {a : Addr} {v : Value} (h : W.cell? a = some v) : w.cell? a = some v := by
  rw [hb.cell (World.block_lt_of_cell? _ _ h)]
  exact h
theorem four {l : List Value} (h : l.length = 4) : ∃ a b c d, l = [a, b, c, d] := by
  match l, h with
  | [a, b, c, d], _ => exact ⟨a, b, c, d, rfl⟩
/-- What a kid's cells are, and where they lie. -/
theorem kid_at {W wr : World} {q : Option Addr} {n : Nat} {D : Nat → List Value} (h : Row W 4 q n D) (hb : Below W.heap.size W wr) {k : Nat} (hk : k < n) :
    ∃ b o v0 v1 v2 v3, q = some ⟨b, o, none⟩ ∧ D k = [v0, v1, v2, v3] ∧ wr.cell? ⟨b, o + k * 4, none⟩ = some v0 ∧ wr.cell? ⟨b, o + k * 4 + 1, none⟩ = some v1 ∧ wr.cell? ⟨b, o + k * 4 + 2, none⟩ = some v2 ∧ wr.cell? ⟨b, o + k * 4 + 3, none⟩ = some v3 := by
  obtain ⟨b, o, rfl, hl, hr⟩ := h k hk
  obtain ⟨v0, v1, v2, v3, hv⟩ := four hl
  rw [hv] at hr
  have hr := range_below hb hr
  exact ⟨b, o, v0, v1, v2, v3, rfl, hv, hr 0 _ rfl, hr 1 _ rfl, hr 2 _ rfl, hr 3 _ rfl⟩
theorem ret_nat {k : IntKind} {a b : Nat} (h : a = b) : Ending.returned (.int k a) = Ending.returned (.int k b) := by rw [h]

set_option maxRecDepth 100000 in
set_option maxHeartbeats 2000000 in
theorem nodesRef_any {W : World} {cs : List Value} {c : Nd} (h : NodeR W cs c) : ∀ w, Below W.heap.size W w → c.bulk ≤ 2000000 →
    Calls Tryz.prog 17 #[.agg cs.toArray] w fun e w' => e = .returned (.int .i64 c.nodes) ∧ Below w.heap.size w w' := by
  induction h with
  | mk kind text names kids p q cp d D h1 h2 h3 h5 h6 h7 h8 ih =>
    intro w hb hB
    have hlen : kids.length ≤ 2000000 := by
      have := Nd.bulks_len kids
      unfold Nd.bulk at hB
      omega
    have hkb : Nd.bulks kids ≤ 2000000 := by unfold Nd.bulk at hB; omega
    have IH := Lib.hid ih
    have HR := Lib.hid h7
    have HW := Lib.hid hb
    clear ih h8 h7 h3 hb hB
    go_enter Tryz.func17, Tryz.ntmps17
    go_wp2_with fail
    go_loopw [3, 4] (fun n i wr => ∃ k m : Nat, k ≤ kids.length ∧ i = .int .i64 k ∧ n = .int .i64 m ∧ Hid (m = Nd.nodesAll (kids.take k) + 1) ∧ Hid (Below (w.heap.size + 1) (w.alloc (.cells #[.int .u8 kind.toNat, .string text, .slice p names.length cp, .slice q kids.length d] 25)) wr)) (fun _ i _ => kids.length - (intOf i).toNat)
    case atStart => exact ⟨0, 1, Nat.zero_le _, rfl, rfl, Lib.hid (by simp [Nd.nodesAll]), Lib.hid (Below.refl _ _)⟩
    case round =>
      obtain ⟨k, m, hk, rfl, rfl, HM, HB⟩ := hrel
      have c3 : wr.cell? ⟨w.heap.size, 3, none⟩ = some (.slice q kids.length d) := box_cell HB.out 3 rfl
      have hm : m ≤ 2000001 := by
        have := Nd.nodesAll_bulk (kids.take k)
        have := Nd.bulks_take kids k
        rw [HM.out]; omega
      by_cases hlt : k < kids.length
      · have HOLD := Lib.hid (box_old HW.out (Nat.le_refl _) HB.out)
        obtain ⟨b, o, v0, v1, v2, v3, rfl, hD, e0, e1, e2, e3⟩ := kid_at HR.out HOLD.out hlt
        have HX := Lib.hid (List.getElem?_eq_getElem hlt)
        generalize kids[k] = x at HX
        have hxb : x.bulk ≤ 2000000 := Nat.le_trans (Nd.bulk_kid HX.out) hkb
        have HC := Lib.hid (IH.out k x HX.out wr HOLD.out hxb)
        rw [hD] at HC
        clear hD
        go_wp2_with fail
        refine HC.out.mono ?_
        rintro e w2 ⟨rfl, hb2⟩
        have HB2 := Lib.hid hb2
        have hxd : x.nodes ≤ 2000000 := Nat.le_trans (Nd.nodes_bulk x) hxb
        have HX2 := Lib.hid (Nd.nodesAll_take HX.out)
        clear hb2 HC
        generalize x.nodes = xd at *
        go_wp2
        go_roundw
        case rel => exact ⟨k + 1, m + xd, by omega, by go_num, by go_num, Lib.hid (by rw [HX2.out, HM.out]; omega), Lib.hid (HB.out.trans (HB2.out.mono (by have := HB.out.size; simp at this; omega)))⟩
        case measure => simp [intOf]; omega
      · have HE : Hid (k = kids.length) := Lib.hid (by omega)
        go_wp2
        go_ret
        refine ⟨ret_nat ?_, box_self HB.out⟩
        rw [HM.out, HE.out, List.take_length]
        unfold Nd.nodes
        omega

set_option maxRecDepth 100000 in
set_option maxHeartbeats 2000000 in
theorem deepRef_any {W : World} {cs : List Value} {c : Nd} (h : NodeR W cs c) : ∀ w, Below W.heap.size W w → c.bulk ≤ 2000000 →
    Calls Tryz.prog 31 #[.agg cs.toArray] w fun e w' => e = .returned (.int .i64 c.deep) ∧ Below w.heap.size w w' := by
  induction h with
  | mk kind text names kids p q cp d D h1 h2 h3 h5 h6 h7 h8 ih =>
    intro w hb hB
    have hlen : kids.length ≤ 2000000 := by
      have := Nd.bulks_len kids
      unfold Nd.bulk at hB
      omega
    have hkb : Nd.bulks kids ≤ 2000000 := by unfold Nd.bulk at hB; omega
    have IH := Lib.hid ih
    have HR := Lib.hid h7
    have HW := Lib.hid hb
    clear ih h8 h7 h3 hb hB
    go_enter Tryz.func31, Tryz.ntmps31
    go_wp2_with fail
    go_loopw [3, 4] (fun n i wr => ∃ k m : Nat, k ≤ kids.length ∧ i = .int .i64 k ∧ n = .int .i64 m ∧ Hid (m = Nd.deeps (kids.take k)) ∧ Hid (Below (w.heap.size + 1) (w.alloc (.cells #[.int .u8 kind.toNat, .string text, .slice p names.length cp, .slice q kids.length d] 25)) wr)) (fun _ i _ => kids.length - (intOf i).toNat)
    case atStart => exact ⟨0, 0, Nat.zero_le _, rfl, rfl, Lib.hid (by simp [Nd.deeps]), Lib.hid (Below.refl _ _)⟩
    case round =>
      obtain ⟨k, m, hk, rfl, rfl, HM, HB⟩ := hrel
      have c3 : wr.cell? ⟨w.heap.size, 3, none⟩ = some (.slice q kids.length d) := box_cell HB.out 3 rfl
      have hm : m ≤ 2000001 := by
        have := Nd.deeps_bulk (kids.take k)
        have := Nd.bulks_take kids k
        rw [HM.out]; omega
      by_cases hlt : k < kids.length
      · have HOLD := Lib.hid (box_old HW.out (Nat.le_refl _) HB.out)
        obtain ⟨b, o, v0, v1, v2, v3, rfl, hD, e0, e1, e2, e3⟩ := kid_at HR.out HOLD.out hlt
        have HX := Lib.hid (List.getElem?_eq_getElem hlt)
        generalize kids[k] = x at HX
        have hxb : x.bulk ≤ 2000000 := Nat.le_trans (Nd.bulk_kid HX.out) hkb
        have HC := Lib.hid (IH.out k x HX.out wr HOLD.out hxb)
        rw [hD] at HC
        clear hD
        go_wp2_with fail
        refine HC.out.mono ?_
        rintro e w2 ⟨rfl, hb2⟩
        have HB2 := Lib.hid hb2
        have hxd : x.deep ≤ 2000000 := by have := Nd.deep_bulk x; omega
        have HX2 := Lib.hid (Nd.deeps_take HX.out)
        clear hb2 HC
        generalize x.deep = xd at *
        go_wp2
        go_roundw
        case rel => exact ⟨k + 1, max m (xd + 1), by omega, by go_num, congrArg (Value.int .i64) (by omega), Lib.hid (by rw [HX2.out, HM.out]), Lib.hid (HB.out.trans (HB2.out.mono (by have := HB.out.size; simp at this; omega)))⟩
        case measure => simp [intOf]; omega
      · have HE : Hid (k = kids.length) := Lib.hid (by omega)
        go_wp2
        go_ret
        refine ⟨ret_nat ?_, box_self HB.out⟩
        rw [HM.out, HE.out, List.take_length]
        unfold Nd.deep
        omega

set_option maxRecDepth 100000 in
theorem textRef_any (s : ByteArray) (w : World) (hs : s.size ≤ 2000000) :
    Calls Tryz.prog 54 #[.string s] w fun e w' => e = .returned (.bool (textL s)) ∧ w = w' := by
  go_enter Tryz.func54, Tryz.ntmps54
  go_wp2_with fail
  go_loop [3] (fun i => ∃ k : Nat, k ≤ s.size ∧ i = .int .i64 k ∧ Hid ((s.data.toList.take k).all (fun c => !(c == 0)) = true)) (fun i => s.size - (intOf i).toNat)
  case atStart => exact ⟨0, Nat.zero_le _, rfl, Lib.hid rfl⟩
  case round =>
    obtain ⟨k, hk, rfl, HA⟩ := hrel
    by_cases hlt : k < s.size
    · have HS := Lib.hid (all_take_b hlt (fun c => !(c == 0)))
      have HN : Hid ((!(s[k] == 0)) = false → s.data.toList.all (fun c => !(c == 0)) = false) := Lib.hid fun h => all_not_b hlt h
      have e0 := beq_int s[k] 0
      rw [show ((0 : UInt8).toNat : Int) = 0 from rfl] at e0
      cases hz : (s[k] == 0) with
      | true =>
        have HV := HN.out (by rw [hz]; rfl)
        have HT : Hid (textL s = false) := Lib.hid (by unfold textL; rw [HV, Bool.and_false])
        rw [hz] at e0
        clear hz HN HV HS
        go_wp2_with fail
        go_ret
        exact ⟨ret_bool HT.out.symm, rfl⟩
      | false =>
        have HZ := Lib.hid hz
        rw [hz] at e0
        clear hz HN
        go_wp2_with fail
        go_round
        case rel => exact ⟨k + 1, by omega, by go_num, Lib.hid (by rw [HS.out, HA.out, HZ.out]; rfl)⟩
        case measure => simp [intOf]; omega
    · have HT : Hid (textL s = decide (s.size ≤ 256)) := Lib.hid (by unfold textL; rw [all_full_b (by omega) HA.out, Bool.and_true])
      go_wp2_with fail
      go_ret
      exact ⟨ret_bool (by rw [HT.out, decide_eq_decide]; omega), rfl⟩
end Go.Proofs.YtmofodaecakkfaaGreat
/- Small laws of my own for walks: appends that say where the row lies; an append of an owned row. -/
namespace Go.Proofs.YtmofodaecakkfaaGreat
open Go.RowKit

end Go.Proofs.YtmofodaecakkfaaGreat
/- Nodes within others, as data. No program. -/
namespace Go.Proofs.YtmofodaecakkfaaGreat
open Go.RowKit Px Nx
namespace Nx
/-- Does a node have, under this name, one of this kind? -/
def anyIn (x : ByteArray) (f : Nd → Bool) (b : Nd) : Bool := (b.names.zip b.kids).any fun p => decide (x = p.1) && f p.2
mutual
/-- Is all that one node has in another one, too? -/
def withinD : Nd → Nd → Bool
  | .mk k t l r, b => decide (k = b.kind) && decide (t = b.text) && withinsD l r b
def withinsD : List ByteArray → List Nd → Nd → Bool
  | x :: l, c :: r, b => anyIn x (withinD c) b && withinsD l r b
  | _, _, _ => true
end
theorem anyIn_iff {x : ByteArray} {f : Nd → Bool} {b : Nd} : anyIn x f b = true ↔ ∃ p ∈ b.names.zip b.kids, x = p.1 ∧ f p.2 = true := by
  unfold anyIn
  rw [List.any_eq_true]
  constructor
  · rintro ⟨p, hp, h⟩
    rw [Bool.and_eq_true, decide_eq_true_eq] at h
    exact ⟨p, hp, h.1, h.2⟩
  · rintro ⟨p, hp, h1, h2⟩
    exact ⟨p, hp, by rw [Bool.and_eq_true, decide_eq_true_eq]; exact ⟨h1, h2⟩⟩
theorem withins_iff {b : Nd} : ∀ {l : List ByteArray} {r : List Nd}, withinsD l r b = true ↔ ∀ p ∈ l.zip r, anyIn p.1 (withinD p.2) b = true
  | [], r => by simp [withinsD]
  | x :: l, [] => by simp [withinsD]
  | x :: l, c :: r => by
    rw [withinsD, Bool.and_eq_true, withins_iff (l := l) (r := r), List.zip_cons_cons, List.forall_mem_cons]
theorem within_iff {a b : Nd} : withinD a b = true ↔ a.kind = b.kind ∧ a.text = b.text ∧ ∀ p ∈ a.names.zip a.kids, ∃ q ∈ b.names.zip b.kids, p.1 = q.1 ∧ withinD p.2 q.2 = true := by
  cases a with
  | mk k t l r =>
    rw [withinD, Bool.and_eq_true, Bool.and_eq_true, decide_eq_true_eq, decide_eq_true_eq, withins_iff, and_assoc]
    constructor
    · rintro ⟨h1, h2, h3⟩
      exact ⟨h1, h2, fun p hp => anyIn_iff.1 (h3 p hp)⟩
    · rintro ⟨h1, h2, h3⟩
      exact ⟨h1, h2, fun p hp => anyIn_iff.2 (h3 p hp)⟩
theorem zip_mem : ∀ {l : List ByteArray} {r : List Nd} {p : ByteArray × Nd}, p ∈ l.zip r → p.2 ∈ r
  | [], _, _, h => by simp at h
  | _ :: _, [], _, h => by simp at h
  | x :: l, c :: r, p, h => by
    rw [List.zip_cons_cons] at h
    rcases List.mem_cons.1 h with rfl | h
    · simp
    · exact List.mem_cons_of_mem _ (zip_mem h)
mutual
theorem within_refl : ∀ n : Nd, withinD n n = true
  | .mk k t l r => within_iff.2 ⟨rfl, rfl, fun p hp => ⟨p, hp, rfl, withins_refl r _ (zip_mem hp)⟩⟩
theorem withins_refl : ∀ (r : List Nd), ∀ c ∈ r, withinD c c = true
  | [], c, h => by cases h
  | d :: r, c, h => by
    rcases List.mem_cons.1 h with e | h
    · rw [e]; exact within_refl d
    · exact withins_refl r c h
end
end Nx
end Go.Proofs.YtmofodaecakkfaaGreat
