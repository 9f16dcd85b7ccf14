/- Walks of the program's syntax: reserved words. -/
import Derived.Test.YtpibjhlldlbocaaGreatSynS
namespace Go.Proofs.YtpibjhlldlbocaaGreat
open Go.RowKit Sx Go.Proofs

namespace Sx
/-- The words that the program's map holds, and the functions. -/
def ents : List (ByteArray × Nat) := [(⟨#[33]⟩, 19), (⟨#[123]⟩, 20), (⟨#[105, 102]⟩, 21), (⟨#[102, 111, 114]⟩, 22), (⟨#[119, 104, 105, 108, 101]⟩, 23), (⟨#[117, 110, 116, 105, 108]⟩, 24), (⟨#[99, 97, 115, 101]⟩, 25), (⟨#[102, 117, 110, 99, 116, 105, 111, 110]⟩, 25), (⟨#[115, 101, 108, 101, 99, 116]⟩, 25), (⟨#[116, 105, 109, 101]⟩, 25), (⟨#[99, 111, 112, 114, 111, 99]⟩, 25), (⟨#[91, 91]⟩, 25), (⟨#[116, 104, 101, 110]⟩, 26), (⟨#[101, 108, 105, 102]⟩, 26), (⟨#[101, 108, 115, 101]⟩, 26), (⟨#[102, 105]⟩, 26), (⟨#[100, 111]⟩, 26), (⟨#[100, 111, 110, 101]⟩, 26), (⟨#[125]⟩, 26), (⟨#[105, 110]⟩, 26), (⟨#[101, 115, 97, 99]⟩, 26)]
def entry (p : (ByteArray × Nat) × Nat) : MapEntry := { key := .string p.1.1, val := .func (.func p.1.2) #[] #[], born := p.2 }
def tab (n : Nat) : Array MapEntry := ((ents.take n).zipIdx.map entry).toArray
theorem bytes_beq (a b : ByteArray) : (a == b) = (b.toList == a.toList) := by
  rw [Lib.toList_data, Lib.toList_data]
  obtain ⟨x⟩ := a
  obtain ⟨y⟩ := b
  show (x == y) = (y.toList == x.toList)
  rw [Bool.eq_iff_iff, beq_iff_eq, beq_iff_eq]
  exact ⟨fun h => by rw [h], fun h => (Array.toList_inj.1 h).symm⟩
theorem findNow_ents (s : ByteArray) : ∀ (l : List (ByteArray × Nat)) (i j : Nat),
    (Instr.findNow .string (.string s) ((l.zipIdx j).map entry) i = some none ∧ (l.any fun p => p.1.toList == s.toList) = false) ∨
    ∃ m f, Instr.findNow .string (.string s) ((l.zipIdx j).map entry) i = some (some (m, .func (.func f) #[] #[])) ∧ (l.any fun p => p.1.toList == s.toList) = true
  | [], i, j => .inl ⟨rfl, rfl⟩
  | p :: l, i, j => by
    rw [List.zipIdx_cons, List.map_cons, List.any_cons]
    unfold Instr.findNow
    rw [show Instr.sameNow .string (.string s) (entry (p, j)).key = some (s == p.1) from rfl, bytes_beq]
    cases h : (p.1.toList == s.toList) with
    | true => exact .inr ⟨i, p.2, rfl, by simp⟩
    | false =>
      rcases findNow_ents s l (i + 1) (j + 1) with ⟨h1, h2⟩ | ⟨m, f, h1, h2⟩
      · exact .inl ⟨h1, by simpa using h2⟩
      · exact .inr ⟨m, f, h1, by simpa using h2⟩
theorem reserved_ents (s : ByteArray) : isReserved s = ents.any fun p => p.1.toList == s.toList := by
  unfold isReserved isNever nevers reserves ents
  simp only [List.any_cons, List.any_nil, Bool.or_false]
  ac_rfl
end Sx

theorem run_makeMap (w : World) : (Instr.makeMap 35 none).run Tryz.prog w = .ok (.map (some w.heap.size)) (w.alloc (.map (tab 0) 0)) := by
  simp [Instr.makeMap]
  rfl
theorem alloc_set (w : World) (o o' : Obj) : { w.alloc o with heap := (w.alloc o).heap.setIfInBounds w.heap.size o' } = w.alloc o' := by
  simp only [World.alloc]
  congr 1
  apply Array.ext'
  simp [Array.setIfInBounds, Array.toList_push]
theorem run_getObj_map {P : Program} {w : World} {r : Nat} {es : Array MapEntry} {c : Nat} (h : w.heap[r]? = some (.map es c)) : (getObj r).run P w = .ok (.map es c) w := by
  simp [getObj, Sem.run, h]
theorem run_checkKey_str (b : Bool) (k : ByteArray) (w : World) : (Instr.checkKey b 10000 9 (.string k)).run Tryz.prog w = .ok () w := by
  have hk := Tryz.underlying9
  show (Instr.checkKey b (9999 + 1) 9 (.string k)).run Tryz.prog w = .ok () w
  unfold Instr.checkKey
  simp only [Sem.run_bind, run_underlying hk, Result.andThen_ok]
  rfl
theorem run_insert_last (w : World) (es : Array MapEntry) (c : Nat) (k : ByteArray) (v : Value) (h : Instr.findNow .string (.string k) es.toList 0 = some none) :
    (Instr.mapUpdate 35 (.map (some w.heap.size)) (.string k) v).run Tryz.prog (w.alloc (.map es c)) = .ok () (w.alloc (.map (es.push { key := .string k, val := v, born := c }) (c + 1))) := by
  have hu := Tryz.underlying35
  have hk := Tryz.underlying9
  have hg := run_getObj_map (P := Tryz.prog) (heap_alloc_new w (.map es c))
  have hck := run_checkKey_str false k (w.alloc (.map es c))
  have hset : (setObj w.heap.size (.map (es.push { key := .string k, val := v, born := c }) (c + 1))).run Tryz.prog (w.alloc (.map es c)) = .ok () (w.alloc (.map (es.push { key := .string k, val := v, born := c }) (c + 1))) := by
    unfold setObj
    simp only [Sem.run, heap_alloc_new]
    rw [← alloc_set w (.map es c) (.map (es.push { key := .string k, val := v, born := c }) (c + 1))]
  simp only [Instr.mapUpdate, Sem.run_bind, run_underlying hu, Result.andThen_ok, hg, hck, Instr.findKey, run_underlying hk, h, Sem.run_pure, hset]
theorem equal_func (wx : World) (f : Nat) : (Op.equal 72 (.func (.func f) #[] #[]) .nilFunc).run Tryz.prog wx = .ok false wx := by
  have hf := Tryz.underlying72
  show (Op.equalIn (9999 + 1) 72 (.func (.func f) #[] #[]) .nilFunc).run Tryz.prog wx = .ok false wx
  unfold Op.equalIn
  simp only [Sem.run_bind, run_underlying hf, Result.andThen_ok]
  rfl
theorem equal_nilFunc (wx : World) : (Op.equal 72 .nilFunc .nilFunc).run Tryz.prog wx = .ok true wx := by
  have hf := Tryz.underlying72
  show (Op.equalIn (9999 + 1) 72 .nilFunc .nilFunc).run Tryz.prog wx = .ok true wx
  unfold Op.equalIn
  simp only [Sem.run_bind, run_underlying hf, Result.andThen_ok]
  rfl
theorem run_lookup_tab (wx : World) (r c : Nat) (s : ByteArray) (hr : wx.heap[r]? = some (.map (tab 21) c)) :
    ∃ v, (Instr.lookup 35 (.map (some r)) (.string s) false).run Tryz.prog wx = .ok v wx ∧ (binOp .neq 72 v .nilFunc).run Tryz.prog wx = .ok (.bool (isReserved s)) wx ∧ ∀ op t x y, (eqGuard op t x y v .nilFunc).run Tryz.prog wx = .ok () wx := by
  have hu := Tryz.underlying35
  have hk := Tryz.underlying9
  have hg := run_getObj_map (P := Tryz.prog) hr
  have hck := run_checkKey_str (tab 21).isEmpty s wx
  have hz : (zeroValue 72).run Tryz.prog wx = .ok .nilFunc wx := Tryz.zeroValue72 wx
  rw [reserved_ents]
  rcases findNow_ents s ents 0 0 with ⟨h1, h2⟩ | ⟨m, f, h1, h2⟩
  · have h1 : Instr.findNow .string (.string s) (tab 21).toList 0 = some none := h1
    refine ⟨.nilFunc, ?_, ?_, fun op t x y => by cases op <;> rfl⟩
    · simp [Instr.lookup, run_underlying hu, hg, hck, Instr.findKey, run_underlying hk, h1, hz]
    · rw [h2]
      simp [binOp, equal_nilFunc]
  · have h1 : Instr.findNow .string (.string s) (tab 21).toList 0 = some (some (m, .func (.func f) #[] #[])) := h1
    refine ⟨.func (.func f) #[] #[], ?_, ?_, fun op t x y => by cases op <;> rfl⟩
    · simp [Instr.lookup, run_underlying hu, hg, hck, Instr.findKey, run_underlying hk, h1]
    · rw [h2]
      simp [binOp, equal_func]

set_option maxRecDepth 100000 in
set_option maxHeartbeats 2000000 in
theorem begins_any (w : World) :
    Calls Tryz.prog 12 #[] w fun e w' => e = .returned (.map (some w.heap.size)) ∧ w' = w.alloc (.map (tab 21) 21) := by
  have hmk := run_makeMap w
  have h0 : (Instr.mapUpdate 35 (.map (some w.heap.size)) (.string ⟨#[33]⟩) (.func (.func 19) #[] #[])).run Tryz.prog (w.alloc (.map (tab 0) 0)) = .ok () (w.alloc (.map (tab 1) 1)) := run_insert_last w (tab 0) 0 ⟨#[33]⟩ (.func (.func 19) #[] #[]) (by kernel_rfl)
  have h1 : (Instr.mapUpdate 35 (.map (some w.heap.size)) (.string ⟨#[123]⟩) (.func (.func 20) #[] #[])).run Tryz.prog (w.alloc (.map (tab 1) 1)) = .ok () (w.alloc (.map (tab 2) 2)) := run_insert_last w (tab 1) 1 ⟨#[123]⟩ (.func (.func 20) #[] #[]) (by kernel_rfl)
  have h2 : (Instr.mapUpdate 35 (.map (some w.heap.size)) (.string ⟨#[105, 102]⟩) (.func (.func 21) #[] #[])).run Tryz.prog (w.alloc (.map (tab 2) 2)) = .ok () (w.alloc (.map (tab 3) 3)) := run_insert_last w (tab 2) 2 ⟨#[105, 102]⟩ (.func (.func 21) #[] #[]) (by kernel_rfl)
  have h3 : (Instr.mapUpdate 35 (.map (some w.heap.size)) (.string ⟨#[102, 111, 114]⟩) (.func (.func 22) #[] #[])).run Tryz.prog (w.alloc (.map (tab 3) 3)) = .ok () (w.alloc (.map (tab 4) 4)) := run_insert_last w (tab 3) 3 ⟨#[102, 111, 114]⟩ (.func (.func 22) #[] #[]) (by kernel_rfl)
  have h4 : (Instr.mapUpdate 35 (.map (some w.heap.size)) (.string ⟨#[119, 104, 105, 108, 101]⟩) (.func (.func 23) #[] #[])).run Tryz.prog (w.alloc (.map (tab 4) 4)) = .ok () (w.alloc (.map (tab 5) 5)) := run_insert_last w (tab 4) 4 ⟨#[119, 104, 105, 108, 101]⟩ (.func (.func 23) #[] #[]) (by kernel_rfl)
  have h5 : (Instr.mapUpdate 35 (.map (some w.heap.size)) (.string ⟨#[117, 110, 116, 105, 108]⟩) (.func (.func 24) #[] #[])).run Tryz.prog (w.alloc (.map (tab 5) 5)) = .ok () (w.alloc (.map (tab 6) 6)) := run_insert_last w (tab 5) 5 ⟨#[117, 110, 116, 105, 108]⟩ (.func (.func 24) #[] #[]) (by kernel_rfl)
  have h6 : (Instr.mapUpdate 35 (.map (some w.heap.size)) (.string ⟨#[99, 97, 115, 101]⟩) (.func (.func 25) #[] #[])).run Tryz.prog (w.alloc (.map (tab 6) 6)) = .ok () (w.alloc (.map (tab 7) 7)) := run_insert_last w (tab 6) 6 ⟨#[99, 97, 115, 101]⟩ (.func (.func 25) #[] #[]) (by kernel_rfl)
  have h7 : (Instr.mapUpdate 35 (.map (some w.heap.size)) (.string ⟨#[102, 117, 110, 99, 116, 105, 111, 110]⟩) (.func (.func 25) #[] #[])).run Tryz.prog (w.alloc (.map (tab 7) 7)) = .ok () (w.alloc (.map (tab 8) 8)) := run_insert_last w (tab 7) 7 ⟨#[102, 117, 110, 99, 116, 105, 111, 110]⟩ (.func (.func 25) #[] #[]) (by kernel_rfl)
  have h8 : (Instr.mapUpdate 35 (.map (some w.heap.size)) (.string ⟨#[115, 101, 108, 101, 99, 116]⟩) (.func (.func 25) #[] #[])).run Tryz.prog (w.alloc (.map (tab 8) 8)) = .ok () (w.alloc (.map (tab 9) 9)) := run_insert_last w (tab 8) 8 ⟨#[115, 101, 108, 101, 99, 116]⟩ (.func (.func 25) #[] #[]) (by kernel_rfl)
  have h9 : (Instr.mapUpdate 35 (.map (some w.heap.size)) (.string ⟨#[116, 105, 109, 101]⟩) (.func (.func 25) #[] #[])).run Tryz.prog (w.alloc (.map (tab 9) 9)) = .ok () (w.alloc (.map (tab 10) 10)) := run_insert_last w (tab 9) 9 ⟨#[116, 105, 109, 101]⟩ (.func (.func 25) #[] #[]) (by kernel_rfl)
  have h10 : (Instr.mapUpdate 35 (.map (some w.heap.size)) (.string ⟨#[99, 111, 112, 114, 111, 99]⟩) (.func (.func 25) #[] #[])).run Tryz.prog (w.alloc (.map (tab 10) 10)) = .ok () (w.alloc (.map (tab 11) 11)) := run_insert_last w (tab 10) 10 ⟨#[99, 111, 112, 114, 111, 99]⟩ (.func (.func 25) #[] #[]) (by kernel_rfl)
  have h11 : (Instr.mapUpdate 35 (.map (some w.heap.size)) (.string ⟨#[91, 91]⟩) (.func (.func 25) #[] #[])).run Tryz.prog (w.alloc (.map (tab 11) 11)) = .ok () (w.alloc (.map (tab 12) 12)) := run_insert_last w (tab 11) 11 ⟨#[91, 91]⟩ (.func (.func 25) #[] #[]) (by kernel_rfl)
  have h12 : (Instr.mapUpdate 35 (.map (some w.heap.size)) (.string ⟨#[116, 104, 101, 110]⟩) (.func (.func 26) #[] #[])).run Tryz.prog (w.alloc (.map (tab 12) 12)) = .ok () (w.alloc (.map (tab 13) 13)) := run_insert_last w (tab 12) 12 ⟨#[116, 104, 101, 110]⟩ (.func (.func 26) #[] #[]) (by kernel_rfl)
  have h13 : (Instr.mapUpdate 35 (.map (some w.heap.size)) (.string ⟨#[101, 108, 105, 102]⟩) (.func (.func 26) #[] #[])).run Tryz.prog (w.alloc (.map (tab 13) 13)) = .ok () (w.alloc (.map (tab 14) 14)) := run_insert_last w (tab 13) 13 ⟨#[101, 108, 105, 102]⟩ (.func (.func 26) #[] #[]) (by kernel_rfl)
  have h14 : (Instr.mapUpdate 35 (.map (some w.heap.size)) (.string ⟨#[101, 108, 115, 101]⟩) (.func (.func 26) #[] #[])).run Tryz.prog (w.alloc (.map (tab 14) 14)) = .ok () (w.alloc (.map (tab 15) 15)) := run_insert_last w (tab 14) 14 ⟨#[101, 108, 115, 101]⟩ (.func (.func 26) #[] #[]) (by kernel_rfl)
  have h15 : (Instr.mapUpdate 35 (.map (some w.heap.size)) (.string ⟨#[102, 105]⟩) (.func (.func 26) #[] #[])).run Tryz.prog (w.alloc (.map (tab 15) 15)) = .ok () (w.alloc (.map (tab 16) 16)) := run_insert_last w (tab 15) 15 ⟨#[102, 105]⟩ (.func (.func 26) #[] #[]) (by kernel_rfl)
  have h16 : (Instr.mapUpdate 35 (.map (some w.heap.size)) (.string ⟨#[100, 111]⟩) (.func (.func 26) #[] #[])).run Tryz.prog (w.alloc (.map (tab 16) 16)) = .ok () (w.alloc (.map (tab 17) 17)) := run_insert_last w (tab 16) 16 ⟨#[100, 111]⟩ (.func (.func 26) #[] #[]) (by kernel_rfl)
  have h17 : (Instr.mapUpdate 35 (.map (some w.heap.size)) (.string ⟨#[100, 111, 110, 101]⟩) (.func (.func 26) #[] #[])).run Tryz.prog (w.alloc (.map (tab 17) 17)) = .ok () (w.alloc (.map (tab 18) 18)) := run_insert_last w (tab 17) 17 ⟨#[100, 111, 110, 101]⟩ (.func (.func 26) #[] #[]) (by kernel_rfl)
  have h18 : (Instr.mapUpdate 35 (.map (some w.heap.size)) (.string ⟨#[125]⟩) (.func (.func 26) #[] #[])).run Tryz.prog (w.alloc (.map (tab 18) 18)) = .ok () (w.alloc (.map (tab 19) 19)) := run_insert_last w (tab 18) 18 ⟨#[125]⟩ (.func (.func 26) #[] #[]) (by kernel_rfl)
  have h19 : (Instr.mapUpdate 35 (.map (some w.heap.size)) (.string ⟨#[105, 110]⟩) (.func (.func 26) #[] #[])).run Tryz.prog (w.alloc (.map (tab 19) 19)) = .ok () (w.alloc (.map (tab 20) 20)) := run_insert_last w (tab 19) 19 ⟨#[105, 110]⟩ (.func (.func 26) #[] #[]) (by kernel_rfl)
  have h20 : (Instr.mapUpdate 35 (.map (some w.heap.size)) (.string ⟨#[101, 115, 97, 99]⟩) (.func (.func 26) #[] #[])).run Tryz.prog (w.alloc (.map (tab 20) 20)) = .ok () (w.alloc (.map (tab 21) 21)) := run_insert_last w (tab 20) 20 ⟨#[101, 115, 97, 99]⟩ (.func (.func 26) #[] #[]) (by kernel_rfl)
  go_enter Tryz.func12, Tryz.ntmps12
  go_wp2_with fail
  go_ret
  exact ⟨rfl, rfl⟩
end Go.Proofs.YtpibjhlldlbocaaGreat
