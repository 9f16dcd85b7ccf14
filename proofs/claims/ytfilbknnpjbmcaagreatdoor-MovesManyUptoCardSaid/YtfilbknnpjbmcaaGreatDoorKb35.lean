/- Walks: are calls more than a statement runs (of the statements of stage 12): one call. -/
import Derived.Test.YtfilbknnpjbmcaaGreatDoorKb13
import Derived.Test.YtfilbknnpjbmcaaGreatDoorKb12
import Derived.Test.YtfilbknnpjbmcaaGreatDoorKb31
import Derived.Test.YtfilbknnpjbmcaaGreatDoorKb34
import Derived.Test.YtfilbknnpjbmcaaGreatDoorKb09
import Derived.Test.YtfilbknnpjbmcaaGreatDoorKb05
import Derived.Test.YtfilbknnpjbmcaaGreatDoorKb04
import Derived.Test.YtfilbknnpjbmcaaGreatDoorKb06
import Derived.Laws.Concat
import Derived.Lib.AppendStr
namespace Go.Proofs.YtfilbknnpjbmcaaGreatDoor
open Go.RowKit Px Nx

theorem getD_in {l : List ByteArray} {k : Nat} (h : k < l.length) : l.getD k ByteArray.empty ∈ l := by
 rw [List.getD_eq_getElem?_getD, List.getElem?_eq_getElem h]
 exact List.getElem_mem h
end Go.Proofs.YtfilbknnpjbmcaaGreatDoor
/- Walks of package dirs: what its methods do with an operand. -/
namespace Go.Proofs.YtfilbknnpjbmcaaGreatDoor
open Go.RowKit Px Nx Wk Dn

def callV (S : ByteArray) (u : Value) (b : Nat) : Value := .agg #[.string S, u, .iface 28 (.pointer (some ⟨b, 0, none⟩))]
def DidR (U : Nat → Prop) (R : Rel) (n : Nd) (t : ByteArray) (w : World) (b : Nat) (e : Ending) (w' : World) : Prop := ∃ c n', e = .returned (.int .i64 c) ∧ R n t c n' ∧ (∃ x0 x1 x2 x3, TreeU U w' b n' x0 x1 x2 x3) ∧ w.grownBy w' (some b)
theorem leads_small {N : Nat} {n : Nd} (h : TreeN N n) (hN : N ≤ 20000) {fo : Bool} {t : ByteArray} {p : List ByteArray} {k : UInt8} (hr : Leads n fo t (.ok p k)) (ht : t.size ≤ 40000) : namesBulk p ≤ 10000000 := by
 have := place_small h hr (M := 40000) ht (by omega)
 omega
theorem err_ne {n : Nd} {fo : Bool} {t : ByteArray} {e : Int} (h : Leads n fo t (.err e)) : (e != 0) = true := by
 rcases run_err h e rfl with rfl | rfl | rfl <;> rfl

end Go.Proofs.YtfilbknnpjbmcaaGreatDoor
/- strings.Builder's WriteString, with what it leaves as it was told block by block; a tree's blocks are those that hold texts. -/
namespace Go.Proofs.YtfilbknnpjbmcaaGreatDoor
open Go.RowKit Px Nx

theorem append_str_at {P : Program} (w : World) (t u ty e : TypeId) (i : TypeInfo) (ht : P.underlying t = some (.slice e)) (hu : P.underlying u = some .string) (hi : P.info? e = some i) (hz : i.zero = some (.int .u8 0)) (hsize : i.size = 1) (hby : i.bytes = 1)
  (v : Value) (n : Nat) (xs : List Value) (hown : w.ownsRow 0 e 1 v n xs) (s : ByteArray) (hl : n + s.size ≤ 1000000) :
  ∃ v' w', (Builtin.append_ #[t, u] ty #[v, .string s]).run P w = .ok v' w' ∧ w'.ownsRow 0 e 1 v' (n + s.size) (xs ++ Lib.strCells s) ∧ w.grownBy w' v.ownBlock ∧ (v'.ownBlock = v.ownBlock ∨ v'.ownBlock = some w.heap.size) := by
 have hml : n + s.size ≤ maxLen := by unfold maxLen; omega
 obtain ⟨v', w', hr, h1, h2, _⟩ := Lib.run_append_own_string (P := P) w 0 t u ty e i ht hu hi hz hsize hby v n xs hown s hml (by omega) (Nat.zero_le _)
 refine ⟨v', w', hr, h1, h2, ?_⟩
 have hxl : xs.length = n := by simpa using hown.1
 rcases hown.2 with ⟨rfl, rfl⟩ | ⟨g, cap, cur, rfl, _, hg, hnc, hcm, hcs, _⟩
 ·by_cases hm : s.size = 0
  ·left
   have hf := Lib.run_firstCells_string (P := P) w 1 s
   rw [hm] at hf
   simp [Builtin.append_, run_underlying ht, run_underlying hu, sizeOf, typeInfo, hi, hsize, Builtin.lenOf, hm, hf] at hr
   rw [← hr.1]
  ·right
   have h3 := Go.run_append_nil_string (P := P) w t u ty e i (.int .u8 0) ht hu hi hz s (by omega) (by omega) (by rw [hby]; omega)
   rw [h3] at hr
   cases hr
   rfl
 ·have hcs' : cur.size = cap := by simpa using hcs
  by_cases hroom : n + s.size ≤ cap
  ·left
   rw [Lib.run_append_room_string (P := P) w t u ty e i ht hu hi hsize g n cap cur hg s hroom (by omega)] at hr
   cases hr
   rfl
  ·right
   rw [Lib.run_append_grow_string (P := P) w t u ty e i (.int .u8 0) ht hu hi hz ⟨g, 0, none⟩ n cap xs (by rw [hsize]; simpa using hxl) (fun j u hj => hown.cells (g := g) rfl j u hj) s (by omega) (by omega) (by rw [hby]; exact growslice_fits (by omega) (by omega))] at hr
   cases hr
   rfl

structure BV (w : World) (gb : Nat) (p v : Value) (l : List UInt8) : Prop where
 blk : w.heap[gb]? = some (.cells #[p, v] 79 (0, 0))
 own : w.ownsRow 0 5 1 v l.length (Lib.byteCells l)
 ne : v.ownBlock ≠ some gb
def Stay (w w' : World) (gb : Nat) (o : Option Nat) : Prop := w'.os = w.os ∧ w'.tape = w.tape ∧ w'.output = w.output ∧ w.heap.size ≤ w'.heap.size ∧ ∀ k, k < w.heap.size → k ≠ gb → o ≠ some k → w'.heap[k]? = w.heap[k]?
theorem BV.lt {w : World} {gb : Nat} {p v : Value} {l : List UInt8} (h : BV w gb p v l) : gb < w.heap.size := (Array.getElem?_eq_some_iff.1 h.blk).1
theorem BV.own_lt {w : World} {gb : Nat} {p v : Value} {l : List UInt8} (h : BV w gb p v l) {g : Nat} (hg : v.ownBlock = some g) : g < w.heap.size := by
 rcases h.own.2 with ⟨rfl, _⟩ | ⟨g', cap, cur, rfl, _, h1, _⟩
 ·cases hg
 ·obtain rfl : g' = g := by simpa [Value.ownBlock] using hg
  exact (Array.getElem?_eq_some_iff.1 h1).1
theorem BV.by {w w' : World} {gb : Nat} {p v : Value} {l : List UInt8} (h : BV w gb p v l) {row : Option Nat} (hg : w.grownBy w' row) (h1 : row ≠ some gb) (h2 : ∀ g, v.ownBlock = some g → row ≠ some g) : BV w' gb p v l := by
 refine ⟨by rw [hg.block gb h.lt (fun e => h1 e.symm)]; exact h.blk, ⟨h.own.1, ?_⟩, h.ne⟩
 rcases h.own.2 with ⟨rfl, h0⟩ | ⟨g, cap, cur, rfl, a1, a2, a3, a4, a5, a6⟩
 ·exact .inl ⟨rfl, h0⟩
 ·exact .inr ⟨g, cap, cur, rfl, a1, by rw [hg.block g (Array.getElem?_eq_some_iff.1 a2).1 (fun e => h2 g rfl e.symm)]; exact a2, a3, a4, a5, a6⟩
theorem BV.kept {w w' : World} {gb : Nat} {p v : Value} {l : List UInt8} (h : BV w gb p v l) (hb : Below w.heap.size w w') : BV w' gb p v l := h.by (row := none) ⟨hb.os, hb.tape, hb.output, hb.size, fun k hk _ => hb.block k hk⟩ (by simp) (fun _ _ => by simp)
theorem BV.is {w : World} {gb : Nat} {p v : Value} {l : List UInt8} (h : BV w gb p v l) (hp : p = .pointer none ∨ p = .pointer (some ⟨gb, 0, none⟩)) : Lib.IsBuilder 79 5 0 gb (Lib.byteCells l) w := by
 have hl : (Lib.byteCells l).length = l.length := by simp [Lib.byteCells]
 rcases hp with rfl | rfl
 ·exact .inl ⟨Nat.zero_le _, v, h.blk, by rw [hl]; exact h.own, h.ne⟩
 ·exact .inr ⟨Nat.zero_le _, v, h.blk, by rw [hl]; exact h.own, h.ne⟩
theorem infoU8 : (Tryz.prog.info? 5).map (fun i => (i.zero, i.size, i.bytes)) = some (some (.int .u8 0), 1, 1) := by kernel_rfl
theorem ccheck_any {w : World} {gb : Nat} {p v : Value} {l : List UInt8} (h : BV w gb p v l) (hp : p = .pointer none ∨ p = .pointer (some ⟨gb, 0, none⟩)) :
  Calls Tryz.prog 67 #[.pointer (some ⟨gb, 0, none⟩)] w fun e w' => e = .returned (.tuple #[]) ∧ BV w' gb (.pointer (some ⟨gb, 0, none⟩)) v l ∧ w.grownBy w' (some gb) := by
 have hc : w.cell? ⟨gb, 0, none⟩ = some p := by rw [cell_of_row _ _ _ _ _ _ h.blk]; rfl
 rcases hp with rfl | rfl
 ·refine (Any.Builder_copyCheck_fresh (P := Tryz.prog) ({ Tryz.bl166 with } : Lays.n240 Tryz.prog Tryz.bl166_ren) Tryz.bl166_extra.toX72 gb w hc (by have := h.is (.inl rfl); rcases this with q | q <;> exact q.shape) (frozen_of_row w gb 0 _ _ h.blk)).mono ?_
  rintro e w' ⟨rfl, rfl⟩
  refine ⟨rfl, ⟨heap_setCell_same w gb 0 _ _ _ h.blk, ⟨h.own.1, ?_⟩, h.ne⟩, grown_set⟩
  rcases h.own.2 with ⟨rfl, h0⟩ | ⟨g, cap, cur, rfl, a1, a2, a3, a4, a5, a6⟩
  ·exact .inl ⟨rfl, h0⟩
  ·have hg : g ≠ gb := fun e => h.ne (by rw [e]; rfl)
   exact .inr ⟨g, cap, cur, rfl, a1, by rw [heap_setCell_other _ _ _ _ hg]; exact a2, a3, a4, a5, a6⟩
 ·refine (Any.Builder_copyCheck_used (P := Tryz.prog) ({ Tryz.bl166 with } : Lays.n240 Tryz.prog Tryz.bl166_ren) Tryz.bl166_extra.toX72 gb w hc).mono ?_
  rintro e w' ⟨rfl, rfl⟩
  exact ⟨rfl, h, ⟨rfl, rfl, rfl, Nat.le_refl _, fun _ _ _ => rfl⟩⟩
set_option maxRecDepth 100000 in
set_option maxHeartbeats 4000000 in
theorem wstr_any {w : World} {gb : Nat} {p v : Value} {l : List UInt8} (h : BV w gb p v l) (hp : p = .pointer none ∨ p = .pointer (some ⟨gb, 0, none⟩)) (s : ByteArray) (hl : l.length + s.size ≤ 1000000) :
  Calls Tryz.prog 37 #[.pointer (some ⟨gb, 0, none⟩), .string s] w fun e w' => e = .returned (.tuple #[.int .i64 s.size, .nilIface]) ∧ ∃ v', BV w' gb (.pointer (some ⟨gb, 0, none⟩)) v' (l ++ s.data.toList) ∧ Stay w w' gb v.ownBlock ∧ (v'.ownBlock = v.ownBlock ∨ ∃ g, v'.ownBlock = some g ∧ w.heap.size ≤ g) := by
 obtain ⟨i0, hi, hz0, hz1, hz2⟩ := info_parts infoU8
 have HI := Lib.hid hi
 have HCK := Lib.hid (ccheck_any h hp)
 clear h hi
 go_enter Tryz.func37, Tryz.ntmps37
 go_wp2_with fail
 refine HCK.out.mono ?_
 rintro e w1 ⟨rfl, h1, hg1⟩
 have H1 := Lib.hid h1
 have HG1 := Lib.hid hg1
 have c1 : w1.cell? ⟨gb, 1, none⟩ = some v := by rw [cell_of_row _ _ _ _ _ _ h1.blk]; rfl
 obtain ⟨v2, w2, hr, hown2, hg2, hb2⟩ := append_str_at (P := Tryz.prog) w1 77 9 77 5 i0 Tryz.underlying77 Tryz.underlying9 HI.out hz0 hz1 hz2 v l.length (Lib.byteCells l) h1.own s hl
 clear h1 hg1
 go_upto_region 2 with fail
 apply wp_region_lit
 refine wpList_plain rfl fun _ hK => ?_
 go_simp
 refine hK _ _ ?_
 clear hK
 refine wpList_plain rfl fun _ hK => ?_
 go_simp
 refine hK _ _ ?_
 clear hK
 refine wpList_plain rfl fun _ hK => ?_
 go_simp
 refine hK _ _ ?_
 clear hK
 refine wpList_plain rfl fun _ hK => ?_
 go_simp
 refine hK _ _ ?_
 clear hK
 refine wpList_plain rfl fun _ hK => ?_
 go_simp
 refine hK _ _ ?_
 clear hK
 refine wpList_plain rfl fun _ hK => ?_
 go_simp
 refine hK _ _ ?_
 clear hK
 refine wpList_plain rfl fun K hK => ?_
 unfold Oper.wp execOp
 simp only [resolve, invoke, builtin, Sem.run_bind, Sem.run_pure, Result.andThen_ok, List.map_toArray, List.map_cons, List.map_nil]
 have hr2 : (Builtin.append_ #[77, 9] 77 #[v, .string s]).run Tryz.prog w1 = .ok v2 w2 := hr
 simp only [Act.eval, Array.getD_eq_getD_getElem?, List.getElem?_toArray, List.getElem?_cons_succ, List.getElem?_cons_zero, Option.getD_some, hr2, Result.andThen_ok]
 refine hK _ _ ?_
 clear hK K hr hr2
 have hne : v.ownBlock ≠ some gb := H1.out.ne
 have hb2x : w2.heap[gb]? = some (.cells #[.pointer (some ⟨gb, 0, none⟩), v] 79 (0, 0)) := by
  rw [hg2.block gb H1.out.lt (fun e => hne e.symm)]
  exact H1.out.blk
 have d0 : w2.cell? ⟨gb, 0, none⟩ = some (.pointer (some ⟨gb, 0, none⟩)) := by rw [cell_of_row _ _ _ _ _ _ hb2x]; rfl
 have d1 : w2.cell? ⟨gb, 1, none⟩ = some v := by rw [cell_of_row _ _ _ _ _ _ hb2x]; rfl
 have f1 : w2.frozen? ⟨gb, 1, none⟩ = false := frozen_of_row w2 gb 1 _ _ hb2x
 have HBX := Lib.hid hb2x
 have HG2 := Lib.hid hg2
 have HOWN := Lib.hid hown2
 have HB2 := Lib.hid hb2
 have HNE := Lib.hid hne
 obtain ⟨ao, n', cap, rfl⟩ : ∃ ao n' cap, v2 = .slice ao n' cap := by
  rcases HOWN.out.2 with ⟨rfl, _⟩ | ⟨g, cap, cur, rfl, _⟩
  ·exact ⟨_, _, _, rfl⟩
  ·exact ⟨_, _, _, rfl⟩
 clear hb2x hg2 hown2 hb2 hne HI
 go_wp2_with fail
 go_ret2
 have hs : s.size = s.data.toList.length := by rw [Array.length_toList]; rfl
 have hsz : w.heap.size ≤ w1.heap.size := HG1.out.size
 have hne2 : (Value.slice ao n' cap).ownBlock ≠ some gb := by
  rcases HB2.out with e | e
  ·rw [e]; exact HNE.out
  ·rw [e]
   intro e2
   have : w1.heap.size = gb := by simpa using e2
   have := H1.out.lt
   omega
 refine ⟨rfl, _, ⟨heap_setCell_same w2 gb 1 _ _ _ HBX.out, ?_, hne2⟩, ⟨?_, ?_, ?_, ?_, fun k hk h1 h2 => ?_⟩, ?_⟩
 ·have ho := HOWN.out
  rw [hs, ← List.length_append, show Lib.byteCells l ++ Lib.strCells s = Lib.byteCells (l ++ s.data.toList) by simp [Lib.byteCells, Lib.strCells]] at ho
  refine ⟨ho.1, ?_⟩
  rcases ho.2 with ⟨e, h0⟩ | ⟨g, cap2, cur, e, a1, a2, a3, a4, a5, a6⟩
  ·exact .inl ⟨e, h0⟩
  ·refine .inr ⟨g, cap2, cur, e, a1, ?_, a3, a4, a5, a6⟩
   rw [heap_setCell_other _ _ _ _ (show g ≠ gb from fun e3 => hne2 (by rw [e, e3]; rfl))]
   exact a2
 ·exact (HG2.out.os).trans HG1.out.os
 ·exact (HG2.out.tape).trans HG1.out.tape
 ·exact (HG2.out.output).trans HG1.out.output
 ·rw [World.size_setCell]; exact Nat.le_trans hsz HG2.out.size
 ·rw [heap_setCell_other _ _ _ _ h1, HG2.out.block k (Nat.lt_of_lt_of_le hk hsz) (fun e => h2 e.symm), HG1.out.block k hk (fun e => h1 (by simpa using e))]
 ·rcases HB2.out with e | e
  ·exact .inl e
  ·exact .inr ⟨_, e, hsz⟩
theorem stay_freeze (w : World) (g n gb : Nat) : Stay w (w.drew.freeze ⟨g, 0, none⟩ n) gb (some g) := by
 unfold World.freeze
 split
 ·exact ⟨rfl, rfl, rfl, Nat.le_refl _, fun _ _ _ _ => rfl⟩
 ·refine ⟨rfl, rfl, rfl, by simp, fun k hk h1 h2 => ?_⟩
  have hkg : g ≠ k := fun e => h2 (by rw [e])
  show (w.heap.modify g _)[k]? = w.heap[k]?
  rw [Array.getElem?_modify, if_neg hkg]
theorem bytes_cell {w : World} {g cap : Nat} {cur : Array Value} {l : List UInt8} (hg : w.heap[g]? = some (.cells cur 5 (0, 0))) (ht : cur.toList.take (l.length * 1) = Lib.byteCells l) : ∀ j x, l[j]? = some x → w.cell? ((⟨g, 0, none⟩ : Addr).add j) = some (.int .u8 x.toNat) := by
 intro j x hx
 have h1 : (Lib.byteCells l)[j]? = some (.int .u8 x.toNat) := by simp [Lib.byteCells, hx]
 rw [← ht, List.getElem?_take] at h1
 split at h1
 ·have h2 : cur[j]? = some (.int .u8 x.toNat) := by simpa using h1
  have h3 : (⟨g, 0, none⟩ : Addr).add j = ⟨g, j, none⟩ := by
   unfold Addr.add
   split
   ·rename_i h; rw [h]
   ·simp
  rw [h3, cell_of_row _ _ _ _ _ _ hg]
  exact h2
 ·cases h1
set_option maxRecDepth 100000 in
set_option maxHeartbeats 4000000 in
theorem bstr_any {w : World} {gb : Nat} {p v : Value} {l : List UInt8} (h : BV w gb p v l) (h0 : l ≠ []) :
  Calls Tryz.prog 38 #[.pointer (some ⟨gb, 0, none⟩)] w fun e w' => e = .returned (.string ⟨l.toArray⟩) ∧ Stay w w' gb v.ownBlock := by
 have hl0 : l.length ≠ 0 := by simpa using h0
 obtain ⟨g, cap, cur, rfl, hg, hnc, hcm, hcs, htake⟩ : ∃ g cap cur, v = .slice (some ⟨g, 0, none⟩) l.length cap ∧ w.heap[g]? = some (.cells cur 5 (0, 0)) ∧ l.length ≤ cap ∧ cap ≤ maxLen ∧ cur.size = cap * 1 ∧ cur.toList.take (l.length * 1) = Lib.byteCells l := by
  rcases h.own.2 with ⟨_, hz⟩ | ⟨g, cap, cur, hv, _, r⟩
  ·exact absurd hz hl0
  ·exact ⟨g, cap, cur, hv, r⟩
 have c1 : w.drew.cell? ⟨gb, 1, none⟩ = some (.slice (some ⟨g, 0, none⟩) l.length cap) := by
  have : w.drew.heap[gb]? = some (.cells #[p, .slice (some ⟨g, 0, none⟩) l.length cap] 79 (0, 0)) := h.blk
  rw [cell_of_row _ _ _ _ _ _ this]; rfl
 have hgd : w.drew.heap[g]? = some (.cells cur 5 (0, 0)) := hg
 have hcz : cap ≠ 0 := by omega
 have hSD : (Builtin.unsafeSliceData_ #[77] 112 #[.slice (some ⟨g, 0, none⟩) l.length cap]).run Tryz.prog w.drew = .ok (.pointer (some ⟨g, 0, none⟩)) w.drew := Lib.run_unsafeSliceData_row _ _ _ _ _ _ hcz
 have hUS : (Builtin.unsafeString_ #[112, 3] 9 #[.pointer (some ⟨g, 0, none⟩), .int .i64 l.length]).run Tryz.prog w.drew = .ok (.string ⟨l.toArray⟩) (w.drew.freeze ⟨g, 0, none⟩ l.length) :=
  Lib.run_unsafeString_row w.drew 112 3 9 5 Tryz.underlying112 (by kernel_rfl) g cur.size (by simp [World.shape?, hgd]) l h0 (by omega) (by unfold maxLen at hcm; omega) (bytes_cell (cap := cap) hgd htake)
 have HST : Hid (Stay w (w.drew.freeze ⟨g, 0, none⟩ l.length) gb (some g)) := Lib.hid (stay_freeze w g l.length gb)
 have mixed : Tryz.prog.follows .mixedOrders = true := by kernel_rfl
 clear h hg hgd htake hcs
 go_enter Tryz.func38, Tryz.ntmps38
 go_wp2_with fail
 go_region_o
 all_goals (go_wp2_with fail; go_ret; exact ⟨rfl, HST.out⟩)
end Go.Proofs.YtfilbknnpjbmcaaGreatDoor
