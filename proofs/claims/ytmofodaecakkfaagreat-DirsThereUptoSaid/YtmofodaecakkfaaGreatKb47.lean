/- Walks of package dirs: the utilities by their names. -/
import Derived.Test.YtmofodaecakkfaaGreatKb46
namespace Go.Proofs.YtmofodaecakkfaaGreat
open Go.RowKit Px Nx Wk Dn Ox

namespace Dn
/-- The utilities: name, letters, the one alone, the function. -/
def utils : List (ByteArray × ByteArray × Nat × Nat) := [(⟨#[109, 107, 100, 105, 114]⟩, ⟨#[112]⟩, 0, 34), (⟨#[114, 109, 100, 105, 114]⟩, ⟨#[]⟩, 0, 35), (⟨#[116, 111, 117, 99, 104]⟩, ⟨#[]⟩, 0, 36), (⟨#[114, 109]⟩, ⟨#[102, 114]⟩, 102, 37)]
def uentry (p : (ByteArray × ByteArray × Nat × Nat) × Nat) : MapEntry := { key := .string p.1.1, val := utilV p.1.2.1 p.1.2.2.1 p.1.2.2.2, born := p.2 }
def utab (n : Nat) : Array MapEntry := ((utils.take n).zipIdx.map uentry).toArray
theorem bytes_beq' (a b : ByteArray) : (a == b) = decide (a = b) := by
  obtain ⟨x⟩ := a
  obtain ⟨y⟩ := b
  show (x == y) = _
  rw [Bool.eq_iff_iff, beq_iff_eq, decide_eq_true_eq]
  exact ⟨fun h => by rw [h], fun h => by cases h; rfl⟩
theorem findNow_utils (s : ByteArray) : ∀ (l : List (ByteArray × ByteArray × Nat × Nat)) (i j : Nat),
    (Instr.findNow .string (.string s) ((l.zipIdx j).map uentry) i = some none ∧ ∀ p ∈ l, s ≠ p.1) ∨
    ∃ m p, p ∈ l ∧ s = p.1 ∧ Instr.findNow .string (.string s) ((l.zipIdx j).map uentry) i = some (some (m, utilV p.2.1 p.2.2.1 p.2.2.2))
  | [], i, j => .inl ⟨rfl, fun p hp => by simp at hp⟩
  | p :: l, i, j => by
    rw [List.zipIdx_cons, List.map_cons]
    unfold Instr.findNow
    rw [show Instr.sameNow .string (.string s) (uentry (p, j)).key = some (s == p.1) from rfl, bytes_beq']
    by_cases h : s = p.1
    · rw [decide_eq_true h]
      exact .inr ⟨i, p, by simp, h, rfl⟩
    · rw [decide_eq_false h]
      rcases findNow_utils s l (i + 1) (j + 1) with ⟨h1, h2⟩ | ⟨m, q, h1, h2, h3⟩
      · refine .inl ⟨h1, fun q hq => ?_⟩
        rcases List.mem_cons.1 hq with rfl | hq
        · exact h
        · exact h2 q hq
      · exact .inr ⟨m, q, List.mem_cons_of_mem _ h1, h2, h3⟩
end Dn
theorem run_makeMap_u (w : World) : (Instr.makeMap 54 none).run Tryz.prog w = .ok (.map (some w.heap.size)) (w.alloc (.map (utab 0) 0)) := by
  simp [Instr.makeMap]
  rfl
theorem alloc_set' (w : World) (o o' : Obj) : { w.alloc o with heap := (w.alloc o).heap.setIfInBounds w.heap.size o' } = w.alloc o' := by
  simp only [World.alloc]
  congr 1
  apply Array.ext'
  simp [Array.setIfInBounds, Array.toList_push]
theorem getObj_map' {P : Program} {w : World} {r : Nat} {es : Array MapEntry} {c : Nat} (h : w.heap[r]? = some (.map es c)) : (getObj r).run P w = .ok (.map es c) w := by
  simp [getObj, Sem.run, h]
theorem checkKey_str' (b : Bool) (k : ByteArray) (w : World) : (Instr.checkKey b 10000 9 (.string k)).run Tryz.prog w = .ok () w := by
  have hk := Tryz.underlying9
  show (Instr.checkKey b (9999 + 1) 9 (.string k)).run Tryz.prog w = .ok () w
  unfold Instr.checkKey
  simp only [Sem.run_bind, run_underlying hk, Result.andThen_ok]
  rfl
theorem insert_last_u (w : World) (es : Array MapEntry) (c : Nat) (k : ByteArray) (v : Value) (h : Instr.findNow .string (.string k) es.toList 0 = some none) :
    (Instr.mapUpdate 54 (.map (some w.heap.size)) (.string k) v).run Tryz.prog (w.alloc (.map es c)) = .ok () (w.alloc (.map (es.push { key := .string k, val := v, born := c }) (c + 1))) := by
  have hu := Tryz.underlying54
  have hk := Tryz.underlying9
  have hg := getObj_map' (P := Tryz.prog) (heap_alloc_new w (.map es c))
  have hck := checkKey_str' false k (w.alloc (.map es c))
  have hset : (setObj w.heap.size (.map (es.push { key := .string k, val := v, born := c }) (c + 1))).run Tryz.prog (w.alloc (.map es c)) = .ok () (w.alloc (.map (es.push { key := .string k, val := v, born := c }) (c + 1))) := by
    unfold setObj
    simp only [Sem.run, heap_alloc_new]
    rw [← alloc_set' w (.map es c) (.map (es.push { key := .string k, val := v, born := c }) (c + 1))]
  simp only [Instr.mapUpdate, Sem.run_bind, run_underlying hu, Result.andThen_ok, hg, hck, Instr.findKey, run_underlying hk, h, Sem.run_pure, hset]
/-- A name looked up: the utility, or none. -/
theorem lookup_u (wx : World) (r c : Nat) (s : ByteArray) (hr : wx.heap[r]? = some (.map (utab 4) c)) :
    ((Instr.lookup 54 (.map (some r)) (.string s) true).run Tryz.prog wx = .ok (.tuple #[.agg #[.string ⟨#[]⟩, .int .u8 0, .nilFunc], .bool false]) wx ∧ ∀ p ∈ utils, s ≠ p.1) ∨
    ∃ p, p ∈ utils ∧ s = p.1 ∧ (Instr.lookup 54 (.map (some r)) (.string s) true).run Tryz.prog wx = .ok (.tuple #[utilV p.2.1 p.2.2.1 p.2.2.2, .bool true]) wx := by
  have hu := Tryz.underlying54
  have hk := Tryz.underlying9
  have hg := getObj_map' (P := Tryz.prog) hr
  have hck := checkKey_str' (utab 4).isEmpty s wx
  have hz := Tryz.zeroValue52 wx
  rcases findNow_utils s utils 0 0 with ⟨h1, h2⟩ | ⟨m, p, h1, h2, h3⟩
  · have h1 : Instr.findNow .string (.string s) (utab 4).toList 0 = some none := h1
    refine .inl ⟨?_, h2⟩
    simp [Instr.lookup, run_underlying hu, hg, hck, Instr.findKey, run_underlying hk, h1, hz]
  · have h3 : Instr.findNow .string (.string s) (utab 4).toList 0 = some (some (m, utilV p.2.1 p.2.2.1 p.2.2.2)) := h3
    refine .inr ⟨p, h1, h2, ?_⟩
    simp [Instr.lookup, run_underlying hu, hg, hck, Instr.findKey, run_underlying hk, h3]
set_option maxRecDepth 100000 in
set_option maxHeartbeats 2000000 in
theorem utilities_any (w : World) :
    Calls Tryz.prog 21 #[] w fun e w' => e = .returned (.map (some w.heap.size)) ∧ w' = w.alloc (.map (utab 4) 4) := by
  have h0 : (Instr.mapUpdate 54 (.map (some w.heap.size)) (.string ⟨#[109, 107, 100, 105, 114]⟩) ((.agg #[.string ⟨#[112]⟩, .int .u8 0, .func (.func 34) #[] #[]]))).run Tryz.prog (w.alloc (.map (utab 0) 0)) = .ok () (w.alloc (.map (utab 1) 1)) := insert_last_u w (utab 0) 0 ⟨#[109, 107, 100, 105, 114]⟩ ((.agg #[.string ⟨#[112]⟩, .int .u8 0, .func (.func 34) #[] #[]])) (by kernel_rfl)
  have h1 : (Instr.mapUpdate 54 (.map (some w.heap.size)) (.string ⟨#[114, 109, 100, 105, 114]⟩) ((.agg #[.string ⟨#[]⟩, .int .u8 0, .func (.func 35) #[] #[]]))).run Tryz.prog (w.alloc (.map (utab 1) 1)) = .ok () (w.alloc (.map (utab 2) 2)) := insert_last_u w (utab 1) 1 ⟨#[114, 109, 100, 105, 114]⟩ ((.agg #[.string ⟨#[]⟩, .int .u8 0, .func (.func 35) #[] #[]])) (by kernel_rfl)
  have h2 : (Instr.mapUpdate 54 (.map (some w.heap.size)) (.string ⟨#[116, 111, 117, 99, 104]⟩) ((.agg #[.string ⟨#[]⟩, .int .u8 0, .func (.func 36) #[] #[]]))).run Tryz.prog (w.alloc (.map (utab 2) 2)) = .ok () (w.alloc (.map (utab 3) 3)) := insert_last_u w (utab 2) 2 ⟨#[116, 111, 117, 99, 104]⟩ ((.agg #[.string ⟨#[]⟩, .int .u8 0, .func (.func 36) #[] #[]])) (by kernel_rfl)
  have h3 : (Instr.mapUpdate 54 (.map (some w.heap.size)) (.string ⟨#[114, 109]⟩) ((.agg #[.string ⟨#[102, 114]⟩, .int .u8 102, .func (.func 37) #[] #[]]))).run Tryz.prog (w.alloc (.map (utab 3) 3)) = .ok () (w.alloc (.map (utab 4) 4)) := insert_last_u w (utab 3) 3 ⟨#[114, 109]⟩ ((.agg #[.string ⟨#[102, 114]⟩, .int .u8 102, .func (.func 37) #[] #[]])) (by kernel_rfl)
  have hm := run_makeMap_u w
  go_enter Tryz.func21, Tryz.ntmps21
  go_wp2_with fail
  go_ret
  exact ⟨rfl, rfl⟩
end Go.Proofs.YtmofodaecakkfaaGreat
