/- Walks of package probe: what is asked of paths, the maps of questions. -/
import Derived.Test.YtfilbknnpjbmcaaGreatKa39
namespace Go.Proofs.YtfilbknnpjbmcaaGreat
open Go.RowKit Px Nx Wk Pr
namespace Pr
/-- A tree as the calls here are handed it. -/
structure Tr (n : Nd) : Prop where
  well : n.well = true
  kind : n.kind = 2
  girth : n.girth ≤ 2000000
end Pr
theorem below_alloc {W w : World} {o : Obj} (h : Below W.heap.size W w) : Below W.heap.size W (w.alloc o) := h.alloc h.size o
theorem str_eq (s t : ByteArray) : (s.toList == t.toList) = decide (s = t) := by
  rw [Lib.toList_data, Lib.toList_data, Bool.eq_iff_iff, beq_iff_eq, decide_eq_true_eq]
  exact ⟨fun h => by cases s; cases t; simp only at h; congr 1; exact Array.ext' h, fun h => by rw [h]⟩
theorem str_empty (t : ByteArray) : t.toList.isEmpty = decide (t = ⟨#[]⟩) := by
  rw [← str_eq]
  rw [show (⟨#[]⟩ : ByteArray).toList = [] from by rw [Lib.toList_data]]
  cases t.toList <;> rfl
theorem pbeq (a b : ByteArray) : (a == b) = decide (a = b) := by
  obtain ⟨x⟩ := a
  obtain ⟨y⟩ := b
  show (x == y) = _
  rw [Bool.eq_iff_iff, beq_iff_eq, decide_eq_true_eq]
  exact ⟨fun h => by rw [h], fun h => by cases h; rfl⟩
set_option maxRecDepth 100000 in
set_option maxHeartbeats 4000000 in
theorem kind_find {w : World} {b : Nat} {n : Nd} {v0 v1 v2 v3 : Value} (h : TreeX w b n v0 v1 v2 v3) (hT : Tr n) {K : Bool → ByteArray → UInt8} (hK : Orc n K) (t : ByteArray) (ht : t.size ≤ 40000) :
    Calls Tryz.prog 46 #[.func (.func 27) #[] #[], .iface 28 (.pointer (some ⟨b, 0, none⟩)), .string t] w fun e w' => e = .returned (.int .u8 (K true t).toNat) ∧ Below w.heap.size w w' := by
  have HF : Hid (∀ wx, Below w.heap.size w wx → Calls Tryz.prog 27 #[.iface 28 (.pointer (some ⟨b, 0, none⟩)), .string t] wx fun e w' => LeadsQ n true t e w' ∧ Below wx.heap.size wx w') := Lib.hid fun wx hb => wfind_any (h.kept hb) hT.well (by have := hT.girth; omega) hT.kind t (by omega)
  have HK := Lib.hid hK
  clear h hT hK
  go_enter Tryz.func46, Tryz.ntmps46
  go_wp2_with fail
  refine (check_any t (by omega) w).mono ?_
  rintro e w1 ⟨rfl, hb1⟩
  have HB1 := Lib.hid hb1.out
  clear hb1
  by_cases hc : checkL t.data.toList = 0
  rotate_left
  · have hc' : (((checkL t.data.toList : Nat) : Int) != 0) = true := bne_iff_ne.2 (by omega)
    have HV : Hid (K true t = 0) := Lib.hid (HK.out.of (.inl ⟨hc, rfl⟩))
    clear hc
    go_wp2_with fail
    go_ret
    exact ⟨by rw [HV.out]; rfl, HB1.out⟩
  have HC := Lib.hid hc
  rw [hc]
  clear hc
  go_wp2_with fail
  refine (HF.out w1 HB1.out).mono ?_
  rintro e w2 ⟨⟨o, ho, hv⟩, hb⟩
  have HB2 := Lib.hid (HB1.out.trans (hb.mono HB1.out.size))
  have HV : Hid (K true t = endK o) := Lib.hid (HK.out.of (.inr ⟨HC.out, o, ho, rfl⟩))
  clear hb HB1
  cases o with
  | err c =>
    have hv' : e = .returned (.tuple #[.slice none 0 0, .int .u8 0, .int .i64 c]) := hv
    subst hv'
    have e0 : (c != 0) = true := by rcases way_err ho c rfl with rfl | rfl | rfl <;> rfl
    clear ho
    go_wp2_with fail
    go_ret
    exact ⟨by rw [HV.out]; rfl, HB2.out⟩
  | ok p k =>
    obtain ⟨pv, he, hpv⟩ := hv
    subst he
    obtain ⟨pp, cp, rfl, _, _, _⟩ := hpv
    clear ho
    go_wp2_with fail
    go_ret
    exact ⟨by rw [HV.out]; rfl, HB2.out⟩
set_option maxRecDepth 100000 in
set_option maxHeartbeats 4000000 in
theorem kind_spot {w : World} {b : Nat} {n : Nd} {v0 v1 v2 v3 : Value} (h : TreeX w b n v0 v1 v2 v3) (hT : Tr n) {K : Bool → ByteArray → UInt8} (hK : Orc n K) (t : ByteArray) (ht : t.size ≤ 40000) :
    Calls Tryz.prog 46 #[.func (.func 48) #[] #[], .iface 28 (.pointer (some ⟨b, 0, none⟩)), .string t] w fun e w' => e = .returned (.int .u8 (K false t).toNat) ∧ Below w.heap.size w w' := by
  have HF : Hid (∀ wx, Below w.heap.size w wx → Calls Tryz.prog 48 #[.iface 28 (.pointer (some ⟨b, 0, none⟩)), .string t] wx fun e w' => LeadsQ n false t e w' ∧ Below wx.heap.size wx w') := Lib.hid fun wx hb => wspot_any (h.kept hb) hT.well (by have := hT.girth; omega) hT.kind t (by omega)
  have HK := Lib.hid hK
  clear h hT hK
  go_enter Tryz.func46, Tryz.ntmps46
  go_wp2_with fail
  refine (check_any t (by omega) w).mono ?_
  rintro e w1 ⟨rfl, hb1⟩
  have HB1 := Lib.hid hb1.out
  clear hb1
  by_cases hc : checkL t.data.toList = 0
  rotate_left
  · have hc' : (((checkL t.data.toList : Nat) : Int) != 0) = true := bne_iff_ne.2 (by omega)
    have HV : Hid (K false t = 0) := Lib.hid (HK.out.of (.inl ⟨hc, rfl⟩))
    clear hc
    go_wp2_with fail
    go_ret
    exact ⟨by rw [HV.out]; rfl, HB1.out⟩
  have HC := Lib.hid hc
  rw [hc]
  clear hc
  go_wp2_with fail
  refine (HF.out w1 HB1.out).mono ?_
  rintro e w2 ⟨⟨o, ho, hv⟩, hb⟩
  have HB2 := Lib.hid (HB1.out.trans (hb.mono HB1.out.size))
  have HV : Hid (K false t = endK o) := Lib.hid (HK.out.of (.inr ⟨HC.out, o, ho, rfl⟩))
  clear hb HB1
  cases o with
  | err c =>
    have hv' : e = .returned (.tuple #[.slice none 0 0, .int .u8 0, .int .i64 c]) := hv
    subst hv'
    have e0 : (c != 0) = true := by rcases way_err ho c rfl with rfl | rfl | rfl <;> rfl
    clear ho
    go_wp2_with fail
    go_ret
    exact ⟨by rw [HV.out]; rfl, HB2.out⟩
  | ok p k =>
    obtain ⟨pv, he, hpv⟩ := hv
    subst he
    obtain ⟨pp, cp, rfl, _, _, _⟩ := hpv
    clear ho
    go_wp2_with fail
    go_ret
    exact ⟨by rw [HV.out]; rfl, HB2.out⟩
set_option maxHeartbeats 4000000 in
theorem q_found {w : World} {b : Nat} {n : Nd} {v0 v1 v2 v3 : Value} (h : TreeX w b n v0 v1 v2 v3) (hT : Tr n) {K : Bool → ByteArray → UInt8} (hK : Orc n K) {g : Nat} (h0 : w.cell? ⟨g, 0, none⟩ = some (.iface 28 (.pointer (some ⟨b, 0, none⟩)))) (t : ByteArray) (ht : t.size ≤ 40000) :
    Calls Tryz.prog 45 #[.string t, .pointer (some ⟨g, 0, none⟩)] w fun e w' => e = .returned (.int .u8 (K true t).toNat) ∧ Below w.heap.size w w' := by
  have HF := Lib.hid (kind_find h hT hK t ht)
  clear h hT hK
  go_enter Tryz.func45, Tryz.ntmps45
  go_wp2_with fail
  refine HF.out.mono ?_
  rintro e w1 ⟨rfl, hb⟩
  go_wp2_with fail
  go_ret
  exact ⟨rfl, hb⟩
theorem u8_is (x y : UInt8) : (((x.toNat : Nat) : Int) == ((y.toNat : Nat) : Int)) = decide (x = y) := by
  rw [Bool.eq_iff_iff, beq_iff_eq, decide_eq_true_eq, ← UInt8.toNat_inj]
  omega
theorem u8_isnt (x y : UInt8) : (((x.toNat : Nat) : Int) != ((y.toNat : Nat) : Int)) = !decide (x = y) := by
  show (!(((x.toNat : Nat) : Int) == ((y.toNat : Nat) : Int))) = _
  rw [u8_is]
set_option maxHeartbeats 4000000 in
theorem q_link {w : World} {b : Nat} {n : Nd} {v0 v1 v2 v3 : Value} (h : TreeX w b n v0 v1 v2 v3) (hT : Tr n) {K : Bool → ByteArray → UInt8} (hK : Orc n K) {g : Nat} (h0 : w.cell? ⟨g, 0, none⟩ = some (.iface 28 (.pointer (some ⟨b, 0, none⟩)))) (t : ByteArray) (ht : t.size ≤ 40000) :
    Calls Tryz.prog 47 #[.string t, .pointer (some ⟨g, 0, none⟩)] w fun e w' => e = .returned (.bool (decide (K false t = 3))) ∧ Below w.heap.size w w' := by
  have HF := Lib.hid (kind_spot h hT hK t ht)
  have HU := Lib.hid (u8_is (K false t) 3)
  clear h hT hK
  go_enter Tryz.func47, Tryz.ntmps47
  go_wp2_with fail
  refine HF.out.mono ?_
  rintro e w1 ⟨rfl, hb⟩
  go_wp2_with fail
  go_ret
  exact ⟨by rw [← HU.out]; rfl, hb⟩
set_option maxHeartbeats 4000000 in
theorem q_n (w : World) (t : ByteArray) : Calls Tryz.prog 49 #[.string t] w fun e w' => e = .returned (.bool (!decide (t = ⟨#[]⟩))) ∧ Below w.heap.size w w' := by
  go_enter Tryz.func49, Tryz.ntmps49
  go_wp2_with fail
  go_ret
  exact ⟨by rw [← str_empty]; rfl, Below.refl _ _⟩
set_option maxHeartbeats 4000000 in
theorem q_z (w : World) (t : ByteArray) : Calls Tryz.prog 50 #[.string t] w fun e w' => e = .returned (.bool (decide (t = ⟨#[]⟩))) ∧ Below w.heap.size w w' := by
  go_enter Tryz.func50, Tryz.ntmps50
  go_wp2_with fail
  go_ret
  exact ⟨by rw [← str_empty]; rfl, Below.refl _ _⟩
set_option maxHeartbeats 4000000 in
theorem c_eq (w : World) (s t : ByteArray) : Calls Tryz.prog 54 #[.string s, .string t] w fun e w' => e = .returned (.bool (decide (s = t))) ∧ Below w.heap.size w w' := by
  go_enter Tryz.func54, Tryz.ntmps54
  go_wp2_with fail
  go_ret
  exact ⟨by rw [← str_eq]; rfl, Below.refl _ _⟩
set_option maxHeartbeats 4000000 in
theorem c_ne (w : World) (s t : ByteArray) : Calls Tryz.prog 55 #[.string s, .string t] w fun e w' => e = .returned (.bool (!decide (s = t))) ∧ Below w.heap.size w w' := by
  go_enter Tryz.func55, Tryz.ntmps55
  go_wp2_with fail
  go_ret
  exact ⟨by rw [← str_eq]; rfl, Below.refl _ _⟩
set_option maxHeartbeats 4000000 in
theorem q_e {w : World} {b : Nat} {n : Nd} {v0 v1 v2 v3 : Value} (h : TreeX w b n v0 v1 v2 v3) (hT : Tr n) {K : Bool → ByteArray → UInt8} (hK : Orc n K) {g g1 : Nat} (h0 : w.cell? ⟨g, 0, none⟩ = some (.iface 28 (.pointer (some ⟨b, 0, none⟩)))) (h1 : w.cell? ⟨g1, 0, none⟩ = some (.func (.func 45) #[] #[.pointer (some ⟨g, 0, none⟩)])) (t : ByteArray) (ht : t.size ≤ 40000) :
    Calls Tryz.prog 51 #[.string t, .pointer (some ⟨g1, 0, none⟩)] w fun e w' => e = .returned (.bool (!decide (K true t = 0))) ∧ Below w.heap.size w w' := by
  have HF := Lib.hid (q_found h hT hK h0 t ht)
  have HU := Lib.hid (u8_isnt (K true t) 0)
  clear h hT hK h0
  go_enter Tryz.func51, Tryz.ntmps51
  go_wp2_with fail
  refine HF.out.mono ?_
  rintro e w1 ⟨rfl, hb⟩
  go_wp2_with fail
  go_ret
  exact ⟨by rw [← HU.out]; rfl, hb⟩
set_option maxHeartbeats 4000000 in
theorem q_f {w : World} {b : Nat} {n : Nd} {v0 v1 v2 v3 : Value} (h : TreeX w b n v0 v1 v2 v3) (hT : Tr n) {K : Bool → ByteArray → UInt8} (hK : Orc n K) {g g1 : Nat} (h0 : w.cell? ⟨g, 0, none⟩ = some (.iface 28 (.pointer (some ⟨b, 0, none⟩)))) (h1 : w.cell? ⟨g1, 0, none⟩ = some (.func (.func 45) #[] #[.pointer (some ⟨g, 0, none⟩)])) (t : ByteArray) (ht : t.size ≤ 40000) :
    Calls Tryz.prog 52 #[.string t, .pointer (some ⟨g1, 0, none⟩)] w fun e w' => e = .returned (.bool (decide (K true t = 1))) ∧ Below w.heap.size w w' := by
  have HF := Lib.hid (q_found h hT hK h0 t ht)
  have HU := Lib.hid (u8_is (K true t) 1)
  clear h hT hK h0
  go_enter Tryz.func52, Tryz.ntmps52
  go_wp2_with fail
  refine HF.out.mono ?_
  rintro e w1 ⟨rfl, hb⟩
  go_wp2_with fail
  go_ret
  exact ⟨by rw [← HU.out]; rfl, hb⟩
set_option maxHeartbeats 4000000 in
theorem q_d {w : World} {b : Nat} {n : Nd} {v0 v1 v2 v3 : Value} (h : TreeX w b n v0 v1 v2 v3) (hT : Tr n) {K : Bool → ByteArray → UInt8} (hK : Orc n K) {g g1 : Nat} (h0 : w.cell? ⟨g, 0, none⟩ = some (.iface 28 (.pointer (some ⟨b, 0, none⟩)))) (h1 : w.cell? ⟨g1, 0, none⟩ = some (.func (.func 45) #[] #[.pointer (some ⟨g, 0, none⟩)])) (t : ByteArray) (ht : t.size ≤ 40000) :
    Calls Tryz.prog 53 #[.string t, .pointer (some ⟨g1, 0, none⟩)] w fun e w' => e = .returned (.bool (decide (K true t = 2))) ∧ Below w.heap.size w w' := by
  have HF := Lib.hid (q_found h hT hK h0 t ht)
  have HU := Lib.hid (u8_is (K true t) 2)
  clear h hT hK h0
  go_enter Tryz.func53, Tryz.ntmps53
  go_wp2_with fail
  refine HF.out.mono ?_
  rintro e w1 ⟨rfl, hb⟩
  go_wp2_with fail
  go_ret
  exact ⟨by rw [← HU.out]; rfl, hb⟩

namespace Pr
def entry (p : (ByteArray × Value) × Nat) : MapEntry := { key := .string p.1.1, val := p.1.2, born := p.2 }
def tab (l : List (ByteArray × Value)) : Array MapEntry := (l.zipIdx.map entry).toArray
theorem find_tab (s : ByteArray) : ∀ (l : List (ByteArray × Value)) (i j : Nat),
    (Instr.findNow .string (.string s) ((l.zipIdx j).map entry) i = some none ∧ ∀ p ∈ l, s ≠ p.1) ∨
    ∃ m p, p ∈ l ∧ s = p.1 ∧ Instr.findNow .string (.string s) ((l.zipIdx j).map entry) i = some (some (m, p.2))
  | [], i, j => .inl ⟨rfl, fun p hp => by simp at hp⟩
  | p :: l, i, j => by
    rw [List.zipIdx_cons, List.map_cons]
    unfold Instr.findNow
    rw [show Instr.sameNow .string (.string s) (entry (p, j)).key = some (s == p.1) from rfl, pbeq]
    by_cases h : s = p.1
    · rw [decide_eq_true h]
      exact .inr ⟨i, p, by simp, h, rfl⟩
    · rw [decide_eq_false h]
      rcases find_tab s l (i + 1) (j + 1) with ⟨h1, h2⟩ | ⟨m, q, h1, h2, h3⟩
      · refine .inl ⟨h1, fun q hq => ?_⟩
        rcases List.mem_cons.1 hq with rfl | hq
        · exact h
        · exact h2 q hq
      · exact .inr ⟨m, q, List.mem_cons_of_mem _ h1, h2, h3⟩
end Pr
theorem palloc_set (w : World) (o o' : Obj) : { w.alloc o with heap := (w.alloc o).heap.setIfInBounds w.heap.size o' } = w.alloc o' := by
  simp only [World.alloc]
  congr 1
  apply Array.ext'
  simp [Array.setIfInBounds, Array.toList_push]
theorem pgetObj_map {P : Program} {w : World} {r : Nat} {es : Array MapEntry} {c : Nat} (h : w.heap[r]? = some (.map es c)) : (getObj r).run P w = .ok (.map es c) w := by
  simp [getObj, Sem.run, h]
theorem pcheckKey (b : Bool) (k : ByteArray) (w : World) : (Instr.checkKey b 10000 9 (.string k)).run Tryz.prog w = .ok () w := by
  have hk := Tryz.underlying9
  show (Instr.checkKey b (9999 + 1) 9 (.string k)).run Tryz.prog w = .ok () w
  unfold Instr.checkKey
  simp only [Sem.run_bind, run_underlying hk, Result.andThen_ok]
  rfl
theorem make_q (w : World) : (Instr.makeMap 67 none).run Tryz.prog w = .ok (.map (some w.heap.size)) (w.alloc (.map (tab []) 0)) := by
  simp [Instr.makeMap]
  rfl
theorem insert_q (w : World) (es : Array MapEntry) (c : Nat) (k : ByteArray) (v : Value) (h : Instr.findNow .string (.string k) es.toList 0 = some none) :
    (Instr.mapUpdate 67 (.map (some w.heap.size)) (.string k) v).run Tryz.prog (w.alloc (.map es c)) = .ok () (w.alloc (.map (es.push { key := .string k, val := v, born := c }) (c + 1))) := by
  have hu := Tryz.underlying67
  have hk := Tryz.underlying9
  have hg := pgetObj_map (P := Tryz.prog) (heap_alloc_new w (.map es c))
  have hck := pcheckKey false k (w.alloc (.map es c))
  have hset : (setObj w.heap.size (.map (es.push { key := .string k, val := v, born := c }) (c + 1))).run Tryz.prog (w.alloc (.map es c)) = .ok () (w.alloc (.map (es.push { key := .string k, val := v, born := c }) (c + 1))) := by
    unfold setObj
    simp only [Sem.run, heap_alloc_new]
    rw [← palloc_set w (.map es c) (.map (es.push { key := .string k, val := v, born := c }) (c + 1))]
  simp only [Instr.mapUpdate, Sem.run_bind, run_underlying hu, Result.andThen_ok, hg, hck, Instr.findKey, run_underlying hk, h, Sem.run_pure, hset]
theorem lookup_q (wx : World) (r c : Nat) (s : ByteArray) (l : List (ByteArray × Value)) (hr : wx.heap[r]? = some (.map (tab l) c)) :
    ((Instr.lookup 67 (.map (some r)) (.string s) true).run Tryz.prog wx = .ok (.tuple #[.nilFunc, .bool false]) wx ∧ ∀ p ∈ l, s ≠ p.1) ∨
    ∃ p, p ∈ l ∧ s = p.1 ∧ (Instr.lookup 67 (.map (some r)) (.string s) true).run Tryz.prog wx = .ok (.tuple #[p.2, .bool true]) wx := by
  have hu := Tryz.underlying67
  have hk := Tryz.underlying9
  have hg := pgetObj_map (P := Tryz.prog) hr
  have hck := pcheckKey (tab l).isEmpty s wx
  have hz := Tryz.zeroValue65 wx
  rcases find_tab s l 0 0 with ⟨h1, h2⟩ | ⟨m, p, h1, h2, h3⟩
  · have h1 : Instr.findNow .string (.string s) (tab l).toList 0 = some none := h1
    refine .inl ⟨?_, h2⟩
    simp [Instr.lookup, run_underlying hu, hg, hck, Instr.findKey, run_underlying hk, h1, hz]
  · have h3 : Instr.findNow .string (.string s) (tab l).toList 0 = some (some (m, p.2)) := h3
    refine .inr ⟨p, h1, h2, ?_⟩
    simp [Instr.lookup, run_underlying hu, hg, hck, Instr.findKey, run_underlying hk, h3]
theorem make_c (w : World) : (Instr.makeMap 71 none).run Tryz.prog w = .ok (.map (some w.heap.size)) (w.alloc (.map (tab []) 0)) := by
  simp [Instr.makeMap]
  rfl
theorem insert_c (w : World) (es : Array MapEntry) (c : Nat) (k : ByteArray) (v : Value) (h : Instr.findNow .string (.string k) es.toList 0 = some none) :
    (Instr.mapUpdate 71 (.map (some w.heap.size)) (.string k) v).run Tryz.prog (w.alloc (.map es c)) = .ok () (w.alloc (.map (es.push { key := .string k, val := v, born := c }) (c + 1))) := by
  have hu := Tryz.underlying71
  have hk := Tryz.underlying9
  have hg := pgetObj_map (P := Tryz.prog) (heap_alloc_new w (.map es c))
  have hck := pcheckKey false k (w.alloc (.map es c))
  have hset : (setObj w.heap.size (.map (es.push { key := .string k, val := v, born := c }) (c + 1))).run Tryz.prog (w.alloc (.map es c)) = .ok () (w.alloc (.map (es.push { key := .string k, val := v, born := c }) (c + 1))) := by
    unfold setObj
    simp only [Sem.run, heap_alloc_new]
    rw [← palloc_set w (.map es c) (.map (es.push { key := .string k, val := v, born := c }) (c + 1))]
  simp only [Instr.mapUpdate, Sem.run_bind, run_underlying hu, Result.andThen_ok, hg, hck, Instr.findKey, run_underlying hk, h, Sem.run_pure, hset]
theorem lookup_c (wx : World) (r c : Nat) (s : ByteArray) (l : List (ByteArray × Value)) (hr : wx.heap[r]? = some (.map (tab l) c)) :
    ((Instr.lookup 71 (.map (some r)) (.string s) true).run Tryz.prog wx = .ok (.tuple #[.nilFunc, .bool false]) wx ∧ ∀ p ∈ l, s ≠ p.1) ∨
    ∃ p, p ∈ l ∧ s = p.1 ∧ (Instr.lookup 71 (.map (some r)) (.string s) true).run Tryz.prog wx = .ok (.tuple #[p.2, .bool true]) wx := by
  have hu := Tryz.underlying71
  have hk := Tryz.underlying9
  have hg := pgetObj_map (P := Tryz.prog) hr
  have hck := pcheckKey (tab l).isEmpty s wx
  have hz := Tryz.zeroValue69 wx
  rcases find_tab s l 0 0 with ⟨h1, h2⟩ | ⟨m, p, h1, h2, h3⟩
  · have h1 : Instr.findNow .string (.string s) (tab l).toList 0 = some none := h1
    refine .inl ⟨?_, h2⟩
    simp [Instr.lookup, run_underlying hu, hg, hck, Instr.findKey, run_underlying hk, h1, hz]
  · have h3 : Instr.findNow .string (.string s) (tab l).toList 0 = some (some (m, p.2)) := h3
    refine .inr ⟨p, h1, h2, ?_⟩
    simp [Instr.lookup, run_underlying hu, hg, hck, Instr.findKey, run_underlying hk, h3]
namespace Pr
/-- The questions by their names: a block of the file system, one of the way to a path. -/
def qs (g g1 : Nat) : List (ByteArray × Value) := [(⟨#[45, 110]⟩, .func (.func 49) #[] #[]), (⟨#[45, 122]⟩, .func (.func 50) #[] #[]), (⟨#[45, 101]⟩, .func (.func 51) #[] #[.pointer (some ⟨g1, 0, none⟩)]), (⟨#[45, 102]⟩, .func (.func 52) #[] #[.pointer (some ⟨g1, 0, none⟩)]), (⟨#[45, 100]⟩, .func (.func 53) #[] #[.pointer (some ⟨g1, 0, none⟩)]), (⟨#[45, 76]⟩, .func (.func 47) #[] #[.pointer (some ⟨g, 0, none⟩)]), (⟨#[45, 104]⟩, .func (.func 47) #[] #[.pointer (some ⟨g, 0, none⟩)])]
def cmps : List (ByteArray × Value) := [(⟨#[61]⟩, .func (.func 54) #[] #[]), (⟨#[33, 61]⟩, .func (.func 55) #[] #[])]
def ctab (k : Nat) : Array MapEntry := tab (cmps.take k)
def qtab (g g1 k : Nat) : Array MapEntry := tab ((qs g g1).take k)
end Pr
set_option maxRecDepth 100000 in
set_option maxHeartbeats 2000000 in
theorem comparisons_any (w : World) : Calls Tryz.prog 33 #[] w fun e w' => e = .returned (.map (some w.heap.size)) ∧ w' = w.alloc (.map (tab cmps) 2) := by
  have h0 : (Instr.mapUpdate 71 (.map (some w.heap.size)) (.string ⟨#[61]⟩) (.func (.func 54) #[] #[])).run Tryz.prog (w.alloc (.map (ctab 0) 0)) = .ok () (w.alloc (.map (ctab 1) 1)) := insert_c w (ctab 0) 0 ⟨#[61]⟩ (.func (.func 54) #[] #[]) (by kernel_rfl)
  have h1 : (Instr.mapUpdate 71 (.map (some w.heap.size)) (.string ⟨#[33, 61]⟩) (.func (.func 55) #[] #[])).run Tryz.prog (w.alloc (.map (ctab 1) 1)) = .ok () (w.alloc (.map (ctab 2) 2)) := insert_c w (ctab 1) 1 ⟨#[33, 61]⟩ (.func (.func 55) #[] #[]) (by kernel_rfl)
  have hm : (Instr.makeMap 71 none).run Tryz.prog w = .ok (.map (some w.heap.size)) (w.alloc (.map (ctab 0) 0)) := make_c w
  go_enter Tryz.func33, Tryz.ntmps33
  go_wp2_with fail
  go_ret
  exact ⟨rfl, rfl⟩
set_option maxRecDepth 100000 in
set_option maxHeartbeats 2000000 in
theorem questions_any (w : World) (b : Nat) : Calls Tryz.prog 32 #[.iface 28 (.pointer (some ⟨b, 0, none⟩))] w fun e w' => ∃ g g1 r, e = .returned (.map (some r)) ∧ w'.heap[r]? = some (.map (tab (qs g g1)) 7) ∧ w'.cell? ⟨g, 0, none⟩ = some (.iface 28 (.pointer (some ⟨b, 0, none⟩))) ∧ w'.cell? ⟨g1, 0, none⟩ = some (.func (.func 45) #[] #[.pointer (some ⟨g, 0, none⟩)]) ∧ Below w.heap.size w w' := by
  have hins : ∀ (w : World) (g g1 : Nat) (k : Nat) (key : ByteArray) (v : Value), k < 7 → (qs g g1)[k]? = some (key, v) → (Instr.mapUpdate 67 (.map (some w.heap.size)) (.string key) v).run Tryz.prog (w.alloc (.map (qtab g g1 k) k)) = .ok () (w.alloc (.map (qtab g g1 (k + 1)) (k + 1))) := by
    intro w g g1 k key v hk hv
    have hf : Instr.findNow .string (.string key) (qtab g g1 k).toList 0 = some none := by
      have h7 : k = 0 ∨ k = 1 ∨ k = 2 ∨ k = 3 ∨ k = 4 ∨ k = 5 ∨ k = 6 := by omega
      rcases h7 with rfl | rfl | rfl | rfl | rfl | rfl | rfl <;> (cases hv; rfl)
    have hp : (qtab g g1 k).push { key := .string key, val := v, born := k } = qtab g g1 (k + 1) := by
      have h7 : k = 0 ∨ k = 1 ∨ k = 2 ∨ k = 3 ∨ k = 4 ∨ k = 5 ∨ k = 6 := by omega
      rcases h7 with rfl | rfl | rfl | rfl | rfl | rfl | rfl <;> (cases hv; rfl)
    rw [← hp]
    exact insert_q w _ k key v hf
  have hm : ∀ (w : World) (g g1 : Nat), (Instr.makeMap 67 none).run Tryz.prog w = .ok (.map (some w.heap.size)) (w.alloc (.map (qtab g g1 0) 0)) := fun w _ _ => make_q w
  have HI := Lib.hid hins
  have HM := Lib.hid hm
  clear hins hm
  go_enter Tryz.func32, Tryz.ntmps32
  go_upto_region 3 with fail
  have H0 : Hid (((w.alloc (.cells #[.iface 28 (.pointer (some ⟨b, 0, none⟩))] 46)).alloc (.cells #[.func (.func 45) #[] #[.pointer (some ⟨w.heap.size, 0, none⟩)]] 79)).cell? ⟨w.heap.size, 0, none⟩ = some (.iface 28 (.pointer (some ⟨b, 0, none⟩)))) := Lib.hid (by
    rw [cell_same (Below.heap_alloc _ _ _ (by simp))]
    rw [cell_of_row _ _ _ _ _ _ (heap_alloc_new w _)]; rfl)
  have H1 : Hid (((w.alloc (.cells #[.iface 28 (.pointer (some ⟨b, 0, none⟩))] 46)).alloc (.cells #[.func (.func 45) #[] #[.pointer (some ⟨w.heap.size, 0, none⟩)]] 79)).cell? ⟨w.heap.size + 1, 0, none⟩ = some (.func (.func 45) #[] #[.pointer (some ⟨w.heap.size, 0, none⟩)])) := Lib.hid (by
    have e : w.heap.size + 1 = (w.alloc (.cells #[.iface 28 (.pointer (some ⟨b, 0, none⟩))] 46)).heap.size := by simp
    rw [e, cell_of_row _ _ _ _ _ _ (heap_alloc_new _ _)]; rfl)
  have HB : Hid (Below w.heap.size w ((w.alloc (.cells #[.iface 28 (.pointer (some ⟨b, 0, none⟩))] 46)).alloc (.cells #[.func (.func 45) #[] #[.pointer (some ⟨w.heap.size, 0, none⟩)]] 79))) := Lib.hid (below_alloc (below_alloc (Below.refl _ _)))
  generalize (w.alloc (.cells #[.iface 28 (.pointer (some ⟨b, 0, none⟩))] 46)).alloc (.cells #[.func (.func 45) #[] #[.pointer (some ⟨w.heap.size, 0, none⟩)]] 79) = w2 at *
  have h0 := HI.out w2 w.heap.size (w.heap.size + 1) 0 ⟨#[45, 110]⟩ (.func (.func 49) #[] #[]) (by decide) rfl
  have h1 := HI.out w2 w.heap.size (w.heap.size + 1) 1 ⟨#[45, 122]⟩ (.func (.func 50) #[] #[]) (by decide) rfl
  have h2 := HI.out w2 w.heap.size (w.heap.size + 1) 2 ⟨#[45, 101]⟩ (.func (.func 51) #[] #[.pointer (some ⟨w.heap.size + 1, 0, none⟩)]) (by decide) rfl
  have h3 := HI.out w2 w.heap.size (w.heap.size + 1) 3 ⟨#[45, 102]⟩ (.func (.func 52) #[] #[.pointer (some ⟨w.heap.size + 1, 0, none⟩)]) (by decide) rfl
  have h4 := HI.out w2 w.heap.size (w.heap.size + 1) 4 ⟨#[45, 100]⟩ (.func (.func 53) #[] #[.pointer (some ⟨w.heap.size + 1, 0, none⟩)]) (by decide) rfl
  have h5 := HI.out w2 w.heap.size (w.heap.size + 1) 5 ⟨#[45, 76]⟩ (.func (.func 47) #[] #[.pointer (some ⟨w.heap.size, 0, none⟩)]) (by decide) rfl
  have h6 := HI.out w2 w.heap.size (w.heap.size + 1) 6 ⟨#[45, 104]⟩ (.func (.func 47) #[] #[.pointer (some ⟨w.heap.size, 0, none⟩)]) (by decide) rfl
  have hm := HM.out w2 w.heap.size (w.heap.size + 1)
  have HA : Hid (Below w2.heap.size w2 (w2.alloc (.map (qtab w.heap.size (w.heap.size + 1) 7) 7))) := Lib.hid (below_alloc (Below.refl _ _))
  clear HI HM
  go_wp2_with fail
  go_ret
  exact ⟨w.heap.size, w.heap.size + 1, _, rfl, heap_alloc_new _ _, cell_kept HA.out H0.out, cell_kept HA.out H1.out, HB.out.trans (HA.out.mono HB.out.size)⟩
end Go.Proofs.YtfilbknnpjbmcaaGreat
