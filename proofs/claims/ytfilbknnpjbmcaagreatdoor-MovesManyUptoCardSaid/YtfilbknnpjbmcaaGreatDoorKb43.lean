/- Walks of package moves: the utilities by their names; is there no file system. -/
import Derived.Test.YtfilbknnpjbmcaaGreatDoorKb42
namespace Go.Proofs.YtfilbknnpjbmcaaGreatDoor
open Go.RowKit Px Nx Wk Dn Ox Mv

namespace Mv
def utils : List (ByteArray × ByteArray × ByteArray × Nat × Nat) := [(⟨#[109, 118]⟩, ⟨#[102]⟩, ⟨#[]⟩, 48, 49), (⟨#[99, 112]⟩, ⟨#[82, 102, 114]⟩, ⟨#[]⟩, 50, 51), (⟨#[108, 110]⟩, ⟨#[102, 115]⟩, ⟨#[115]⟩, 48, 52)]
def uentry (p : (ByteArray × ByteArray × ByteArray × Nat × Nat) × Nat) : MapEntry := { key := .string p.1.1, val := utV p.1.2.1 p.1.2.2.1 p.1.2.2.2.1 p.1.2.2.2.2, born := p.2 }
def utab (n : Nat) : Array MapEntry := ((utils.take n).zipIdx.map uentry).toArray
theorem bytes_beq' (a b : ByteArray) : (a == b) = decide (a = b) := by
 obtain ⟨x⟩ := a
 obtain ⟨y⟩ := b
 show (x == y) = _
 rw [Bool.eq_iff_iff, beq_iff_eq, decide_eq_true_eq]
 exact ⟨fun h => by rw [h], fun h => by cases h; rfl⟩
theorem findNow_utils (s : ByteArray) : ∀ (l : List (ByteArray × ByteArray × ByteArray × Nat × Nat)) (i j : Nat),
  (Instr.findNow .string (.string s) ((l.zipIdx j).map uentry) i = some none ∧ ∀ p ∈ l, s ≠ p.1) ∨
  ∃ m p, p ∈ l ∧ s = p.1 ∧ Instr.findNow .string (.string s) ((l.zipIdx j).map uentry) i = some (some (m, utV p.2.1 p.2.2.1 p.2.2.2.1 p.2.2.2.2))
 | [], i, j => .inl ⟨rfl, fun p hp => by simp at hp⟩
 | p :: l, i, j => by
  rw [List.zipIdx_cons, List.map_cons]
  unfold Instr.findNow
  rw [show Instr.sameNow .string (.string s) (uentry (p, j)).key = some (s == p.1) from rfl, bytes_beq']
  by_cases h : s = p.1
  ·rw [decide_eq_true h]
   exact .inr ⟨i, p, by simp, h, rfl⟩
  ·rw [decide_eq_false h]
   rcases findNow_utils s l (i + 1) (j + 1) with ⟨h1, h2⟩ | ⟨m, q, h1, h2, h3⟩
   ·refine .inl ⟨h1, fun q hq => ?_⟩
    rcases List.mem_cons.1 hq with rfl | hq
    ·exact h
    ·exact h2 q hq
   ·exact .inr ⟨m, q, List.mem_cons_of_mem _ h1, h2, h3⟩
end Mv
theorem run_makeMap_u (w : World) : (Instr.makeMap 65 none).run Tryz.prog w = .ok (.map (some w.heap.size)) (w.alloc (.map (utab 0) 0)) := by
 simp [Instr.makeMap]
 rfl
theorem alloc_set' (w : World) (o o' : Obj) : { w.alloc o with heap := (w.alloc o).heap.setIfInBounds w.heap.size o' } = w.alloc o' := by
 simp only [World.alloc]
 congr 1
 apply Array.ext'
 simp [Array.setIfInBounds, Array.toList_push]
theorem getObj_map' {P : Program} {w : World} {r : Nat} {es : Array MapEntry} {c : Nat} (h : w.heap[r]? = some (.map es c)) : (getObj r).run P w = .ok (.map es c) w := by
 simp [getObj, Sem.run, h]
theorem checkKey_str' (b : Bool) (k : ByteArray) (w : World) : (Instr.checkKey b 10000 9 (.string k)).run Tryz.prog w = .ok () w := by
 have hk := Tryz.underlying9
 show (Instr.checkKey b (9999 + 1) 9 (.string k)).run Tryz.prog w = .ok () w
 unfold Instr.checkKey
 simp only [Sem.run_bind, run_underlying hk, Result.andThen_ok]
 rfl
theorem insert_last_u (w : World) (es : Array MapEntry) (c : Nat) (k : ByteArray) (v : Value) (h : Instr.findNow .string (.string k) es.toList 0 = some none) :
  (Instr.mapUpdate 65 (.map (some w.heap.size)) (.string k) v).run Tryz.prog (w.alloc (.map es c)) = .ok () (w.alloc (.map (es.push { key := .string k, val := v, born := c }) (c + 1))) := by
 have hu := Tryz.underlying65
 have hk := Tryz.underlying9
 have hg := getObj_map' (P := Tryz.prog) (heap_alloc_new w (.map es c))
 have hck := checkKey_str' false k (w.alloc (.map es c))
 have hset : (setObj w.heap.size (.map (es.push { key := .string k, val := v, born := c }) (c + 1))).run Tryz.prog (w.alloc (.map es c)) = .ok () (w.alloc (.map (es.push { key := .string k, val := v, born := c }) (c + 1))) := by
  unfold setObj
  simp only [Sem.run, heap_alloc_new]
  rw [← alloc_set' w (.map es c) (.map (es.push { key := .string k, val := v, born := c }) (c + 1))]
 simp only [Instr.mapUpdate, Sem.run_bind, run_underlying hu, Result.andThen_ok, hg, hck, Instr.findKey, run_underlying hk, h, Sem.run_pure, hset]
theorem lookup_u (wx : World) (r c : Nat) (s : ByteArray) (hr : wx.heap[r]? = some (.map (utab 3) c)) :
  ((Instr.lookup 65 (.map (some r)) (.string s) true).run Tryz.prog wx = .ok (.tuple #[.agg #[.string ⟨#[]⟩, .string ⟨#[]⟩, .nilFunc, .nilFunc], .bool false]) wx ∧ ∀ p ∈ utils, s ≠ p.1) ∨
  ∃ p, p ∈ utils ∧ s = p.1 ∧ (Instr.lookup 65 (.map (some r)) (.string s) true).run Tryz.prog wx = .ok (.tuple #[utV p.2.1 p.2.2.1 p.2.2.2.1 p.2.2.2.2, .bool true]) wx := by
 have hu := Tryz.underlying65
 have hk := Tryz.underlying9
 have hg := getObj_map' (P := Tryz.prog) hr
 have hck := checkKey_str' (utab 3).isEmpty s wx
 have hz := Tryz.zeroValue63 wx
 rcases findNow_utils s utils 0 0 with ⟨h1, h2⟩ | ⟨m, p, h1, h2, h3⟩
 ·have h1 : Instr.findNow .string (.string s) (utab 3).toList 0 = some none := h1
  refine .inl ⟨?_, h2⟩
  simp [Instr.lookup, run_underlying hu, hg, hck, Instr.findKey, run_underlying hk, h1, hz]
 ·have h3 : Instr.findNow .string (.string s) (utab 3).toList 0 = some (some (m, utV p.2.1 p.2.2.1 p.2.2.2.1 p.2.2.2.2)) := h3
  refine .inr ⟨p, h1, h2, ?_⟩
  simp [Instr.lookup, run_underlying hu, hg, hck, Instr.findKey, run_underlying hk, h3]
set_option maxRecDepth 100000 in
set_option maxHeartbeats 2000000 in
theorem utilities_any (w : World) :
  Calls Tryz.prog 29 #[] w fun e w' => e = .returned (.map (some w.heap.size)) ∧ w' = w.alloc (.map (utab 3) 3) := by
 have h0 : (Instr.mapUpdate 65 (.map (some w.heap.size)) (.string ⟨#[109, 118]⟩) ((.agg #[.string ⟨#[102]⟩, .string ⟨#[]⟩, .func (.func 48) #[] #[], .func (.func 49) #[] #[]]))).run Tryz.prog (w.alloc (.map (utab 0) 0)) = .ok () (w.alloc (.map (utab 1) 1)) := insert_last_u w (utab 0) 0 ⟨#[109, 118]⟩ ((.agg #[.string ⟨#[102]⟩, .string ⟨#[]⟩, .func (.func 48) #[] #[], .func (.func 49) #[] #[]])) (by kernel_rfl)
 have h1 : (Instr.mapUpdate 65 (.map (some w.heap.size)) (.string ⟨#[99, 112]⟩) ((.agg #[.string ⟨#[82, 102, 114]⟩, .string ⟨#[]⟩, .func (.func 50) #[] #[], .func (.func 51) #[] #[]]))).run Tryz.prog (w.alloc (.map (utab 1) 1)) = .ok () (w.alloc (.map (utab 2) 2)) := insert_last_u w (utab 1) 1 ⟨#[99, 112]⟩ ((.agg #[.string ⟨#[82, 102, 114]⟩, .string ⟨#[]⟩, .func (.func 50) #[] #[], .func (.func 51) #[] #[]])) (by kernel_rfl)
 have h2 : (Instr.mapUpdate 65 (.map (some w.heap.size)) (.string ⟨#[108, 110]⟩) ((.agg #[.string ⟨#[102, 115]⟩, .string ⟨#[115]⟩, .func (.func 48) #[] #[], .func (.func 52) #[] #[]]))).run Tryz.prog (w.alloc (.map (utab 2) 2)) = .ok () (w.alloc (.map (utab 3) 3)) := insert_last_u w (utab 2) 2 ⟨#[108, 110]⟩ ((.agg #[.string ⟨#[102, 115]⟩, .string ⟨#[115]⟩, .func (.func 48) #[] #[], .func (.func 52) #[] #[]])) (by kernel_rfl)
 have hm := run_makeMap_u w
 go_enter Tryz.func29, Tryz.ntmps29
 go_wp2_with fail
 go_ret
 exact ⟨rfl, rfl⟩
set_option maxRecDepth 100000 in
set_option maxHeartbeats 4000000 in
theorem misNone_any {w : World} {b : Nat} {n : Nd} {v0 v1 v2 v3 : Value} (h : TreeX w b n v0 v1 v2 v3) (hw : n.well = true) (hB : n.girth ≤ 200000000) (hk : n.kind = 2) :
  Calls Tryz.prog 30 #[.iface 28 (.pointer (some ⟨b, 0, none⟩))] w fun e w' => e = .returned (.bool false) ∧ Below w.heap.size w w' := by
 have HF := Lib.hid (wfind_any h hw hB hk ⟨#[47]⟩ (of_decide_eq_true (by kernel_rfl)))
 clear h
 go_enter Tryz.func30, Tryz.ntmps30
 go_wp2_with fail
 refine HF.out.mono ?_
 rintro e w1 ⟨⟨o, ho, hv⟩, hb⟩
 have HB := Lib.hid hb
 clear hb
 cases o with
 | err e1 =>
  have hv' : e = .returned (.tuple #[.slice none 0 0, .int .u8 0, .int .i64 e1]) := hv
  subst hv'
  have e0 : (e1 == 2) = false := by rcases run_err ho e1 rfl with rfl | rfl | rfl <;> rfl
  clear ho
  go_wp2_with fail
  go_ret
  exact ⟨rfl, HB.out⟩
 | ok p k =>
  obtain ⟨pv, he, hpv⟩ := hv
  subst he
  obtain ⟨pp, cp, rfl, _, _, _⟩ := hpv
  clear ho
  go_wp2_with fail
  go_ret
  exact ⟨rfl, HB.out⟩
end Go.Proofs.YtfilbknnpjbmcaaGreatDoor
