/- Words cut into options and operands, as data; and whole arrays of 256 bools in memory. -/
import Derived.Test.YtfilbknnpjbmcaaGreatDoorRows
import Derived.WalkKit
import Derived.Lib.Hide
import Derived.Lib.Strings
import Derived.Lib.AsciiSet
import Derived.Deep.WholeRow
import Derived.Deep.Draws
import Derived.Laws.Rows
import Derived.Laws.CopyRow
import Derived.Below
import Derived.Test.YtfilbknnpjbmcaaGreatDoorKb01
import Derived.Shelf.Strings.OnBuilder
import Derived.Shelf.Strings.Builder1
namespace Go.Proofs.YtfilbknnpjbmcaaGreatDoor
open Go Go.RowKit
namespace Ox

def isLetter (c : UInt8) : Bool := (decide (97 ≤ c.toNat) && decide (c.toNat ≤ 122)) || (decide (65 ≤ c.toNat) && decide (c.toNat ≤ 90))
def lets : Nat → List UInt8
 | 0 => []
 | n + 1 => lets n ++ [UInt8.ofNat (97 + n), UInt8.ofNat (65 + n)]
theorem lets_all : ((List.range 256).all fun j => (lets 26).contains (UInt8.ofNat j) == isLetter (UInt8.ofNat j)) = true := by decide +kernel
theorem lets_is (c : UInt8) : (lets 26).contains c = isLetter c := by
 have h := List.all_eq_true.1 lets_all c.toNat (List.mem_range.2 (UInt8.toNat_lt c))
 simpa using h

def cutD (kn : List UInt8) : List ByteArray → Option (List UInt8 × List ByteArray)
 | [] => some ([], [])
 | w :: r =>
  if w = ⟨#[45, 45]⟩ then some ([], r)
  else if w.size < 2 ∨ w.data.toList.head? ≠ some 45 then some ([], w :: r)
  else if (w.data.toList.drop 1).all kn.contains then (cutD kn r).map fun p => (w.data.toList.drop 1 ++ p.1, p.2) else none
def risen (l : List UInt8) (n : Nat) : List UInt8 := (List.range n).filterMap fun j => if l.contains (UInt8.ofNat j) then some (UInt8.ofNat j) else none
def setD (l : List UInt8) : ByteArray := ⟨(risen l 256).toArray⟩
theorem risen_succ (l : List UInt8) (n : Nat) : risen l (n + 1) = risen l n ++ if l.contains (UInt8.ofNat n) then [UInt8.ofNat n] else [] := by
 unfold risen
 rw [List.range_succ, List.filterMap_append]
 congr 1
 by_cases h : l.contains (UInt8.ofNat n) = true
 ·rw [if_pos h, List.filterMap_cons, if_pos h]; rfl
 ·rw [if_neg h, List.filterMap_cons, if_neg h]; rfl
theorem risen_len (l : List UInt8) (n : Nat) : (risen l n).length ≤ n := by
 have := List.length_filterMap_le (fun j => if l.contains (UInt8.ofNat j) then some (UInt8.ofNat j) else none) (List.range n)
 simpa [risen] using this
def parseD (kn : List UInt8) (words : List ByteArray) (least most : Int) : ByteArray × List ByteArray × Int :=
 if least < 0 ∨ most < least ∨ kn.all isLetter = false then (ByteArray.empty, [], 1)
 else match cutD kn words with
  | none => (ByteArray.empty, [], 62)
  | some (t, ops) => if (ops.length : Int) < least ∨ most < (ops.length : Int) then (ByteArray.empty, [], 62) else (setD t, ops, 0)

theorem cutD_len {kn : List UInt8} : ∀ {l : List ByteArray} {t : List UInt8} {ops : List ByteArray}, cutD kn l = some (t, ops) → ops.length ≤ l.length
 | [], t, ops, h => by
  simp only [cutD, Option.some.injEq, Prod.mk.injEq] at h
  rw [← h.2]
  exact Nat.le_refl _
 | w :: r, t, ops, h => by
  unfold cutD at h
  split at h
  ·simp only [Option.some.injEq, Prod.mk.injEq] at h
   rw [← h.2]
   simp
  ·split at h
   ·simp only [Option.some.injEq, Prod.mk.injEq] at h
    rw [← h.2]
    exact Nat.le_refl _
   ·split at h
    ·cases hr : cutD kn r with
     | none => rw [hr] at h; cases h
     | some p =>
      rw [hr] at h
      simp only [Option.map_some, Option.some.injEq, Prod.mk.injEq] at h
      have := cutD_len (t := p.1) (ops := p.2) hr
      rw [← h.2, List.length_cons]
      omega
    ·cases h

/-! Arrays of 256 bools. -/
theorem wp_load_arr {P : Program} {o : Oper} {a : Act} {w : World} {K : Act → World → Prop} {Q : Exit → Act → World → Prop} {t : TypeId} {p : Operand} {b n : Nat} {e : TypeId} {cs : Array Value} {ty : TypeId} {fr : Nat × Nat}
  (ho : o.op = .load t p) (hp : a.eval p = .pointer (some ⟨b, 0, none⟩)) (hh : w.heap[b]? = some (.cells cs ty fr)) (hu : P.underlying t = some (.array n e)) (hi : (P.info? t).map (·.size) = some cs.size)
  (h : K (a.put o.dst (.agg cs)) w) : o.wp P a w K Q := by
 have hl := run_loadVar_row (P := P) w b ty t cs fr _ hh hu rfl hi
 have hr : (execOp a.eval o).run P w = .ok (.value (.agg cs)) w := by
  simp [execOp, ho, hp, Instr.loadAt, Instr.sureAddr, hl, Result.andThen]
 unfold Oper.wp
 rw [hr]
 exact h
theorem wp_store_arr {P : Program} {o : Oper} {a : Act} {w : World} {K : Act → World → Prop} {Q : Exit → Act → World → Prop} {t : TypeId} {p x : Operand} {b : Nat} {cs cs' : Array Value} {ty : TypeId}
  (ho : o.op = .store t p x) (hp : a.eval p = .pointer (some ⟨b, 0, none⟩)) (hx : a.eval x = .agg cs') (hh : w.heap[b]? = some (.cells cs ty (0, 0))) (hi : (P.info? t).map (·.size) = some cs'.size) (hs : cs.size = cs'.size) (h1 : cs'.all (·.oneCell') = true)
  (h : K (a.put o.dst undef) (w.setRow b cs')) : o.wp P a w K Q := by
 have hl := run_storeVar_row (P := P) w b ty t cs cs' hh hi hs h1
 have hr : (execOp a.eval o).run P w = .ok .skip (w.setRow b cs') := by
  simp [execOp, ho, hp, hx, Instr.storeAt, Instr.sureAddr, hl, Result.andThen]
 unfold Oper.wp
 rw [hr]
 exact h
def Arr (w : World) (b : Nat) (l : List UInt8) : Prop := w.heap[b]? = some (.cells (Lib.setCells l) 135 (0, 0))
theorem Arr.lt {w : World} {b : Nat} {l : List UInt8} (h : Arr w b l) : b < w.heap.size := (Array.getElem?_eq_some_iff.1 h).1
theorem Arr.grown {w w' : World} {b : Nat} {l : List UInt8} (h : Arr w b l) (hb : Below w.heap.size w w') : Arr w' b l := (hb.block b h.lt).trans h
theorem Arr.set {w : World} {b : Nat} {l : List UInt8} (h : Arr w b l) (r : List UInt8) : Arr (w.setRow b (Lib.setCells r)) b r := setRow_heap w b _ _ _ _ h
theorem Arr.set_ne {w : World} {b g : Nat} {l : List UInt8} (h : Arr w b l) (hne : b ≠ g) (c : Array Value) : Arr (w.setRow g c) b l := by
 unfold Arr World.setRow
 rw [Array.getElem?_modify, if_neg (fun e => hne e.symm)]
 exact h
theorem below_setRow {B : Nat} {W w : World} (h : Below B W w) {g : Nat} (hg : B ≤ g) (c : Array Value) : Below B W (w.setRow g c) :=
 h.trans ⟨rfl, rfl, rfl, by simp, fun k hk => by unfold World.setRow; rw [Array.getElem?_modify, if_neg (by omega)]⟩
theorem Arr.new (w : World) (l : List UInt8) : Arr (w.alloc (.cells (Lib.setCells l) 135)) w.heap.size l := heap_alloc_last w _
theorem Arr.alloc {w : World} {b : Nat} {l : List UInt8} (h : Arr w b l) (o : Obj) : Arr (w.alloc o) b l := (Below.heap_alloc w o b h.lt).trans h
theorem Arr.mark {w : World} {b : Nat} {l : List UInt8} (h : Arr w b l) (x : UInt8) : Arr (w.setCell ⟨b, x.toNat, none⟩ (.bool true)) b (l ++ [x]) := by
 have := heap_setCell_same w b x.toNat _ _ (.bool true) h
 unfold Arr
 rw [Lib.setCells_snoc]
 exact this
theorem Arr.cell {w : World} {b : Nat} {l : List UInt8} (h : Arr w b l) (x : UInt8) : w.cell? ⟨b, x.toNat, none⟩ = some (.bool (l.contains x)) := by
 rw [cell_of_row w b x.toNat _ _ _ h]
 exact Lib.setCells_at l x
theorem Arr.thaw {w : World} {b : Nat} {l : List UInt8} (h : Arr w b l) (j : Nat) : w.frozen? ⟨b, j, none⟩ = false := frozen_of_row w b j _ _ h
theorem Arr.cell_ne {w : World} {b : Nat} {l : List UInt8} (h : Arr w b l) (a : Addr) (hne : b ≠ a.block) (v : Value) : Arr (w.setCell a v) b l := (heap_setCell_other w a b v hne).trans h
structure Bl (b : Nat) (w w' : World) : Prop where
 os : w'.os = w.os
 tape : w'.tape = w.tape
 output : w'.output = w.output
 size : w.heap.size ≤ w'.heap.size
 block : ∀ k, k < w.heap.size → k ≠ b → w'.heap[k]? = w.heap[k]?
theorem Bl.refl (b : Nat) (w : World) : Bl b w w := ⟨rfl, rfl, rfl, Nat.le_refl _, fun _ _ _ => rfl⟩
theorem Bl.trans {b : Nat} {u w x : World} (h : Bl b u w) (k : Bl b w x) : Bl b u x :=
 ⟨k.os.trans h.os, k.tape.trans h.tape, k.output.trans h.output, Nat.le_trans h.size k.size, fun i hi hne => (k.block i (Nat.lt_of_lt_of_le hi h.size) hne).trans (h.block i hi hne)⟩
theorem Bl.of_below {b : Nat} {u w : World} (h : Below u.heap.size u w) : Bl b u w := ⟨h.os, h.tape, h.output, h.size, fun k hk _ => h.block k hk⟩
theorem Bl.below {b B : Nat} {u w : World} (h : Bl b u w) (hb : B ≤ b) (hB : B ≤ u.heap.size) : Below B u w := ⟨h.os, h.tape, h.output, h.size, fun k hk => h.block k (by omega) (by omega)⟩
theorem Bl.setCell {b : Nat} {u w : World} (h : Bl b u w) (o : Nat) (v : Value) : Bl b u (w.setCell ⟨b, o, none⟩ v) :=
 h.trans ⟨rfl, rfl, rfl, by simp [World.setCell], fun k _ hne => heap_setCell_other w ⟨b, o, none⟩ k v hne⟩
theorem Bl.drew {b : Nat} {u w : World} (h : Bl b u w) : Bl b u w.drew := ⟨h.os, h.tape, h.output, h.size, h.block⟩
theorem Arr.bl {w w' : World} {b g : Nat} {l : List UInt8} (h : Arr w b l) (hb : Bl g w w') (hne : b ≠ g) : Arr w' b l := (hb.block b h.lt hne).trans h
theorem Arr.drew {w : World} {b : Nat} {l : List UInt8} (h : Arr w b l) : Arr w.drew b l := h
theorem take_snoc8 {l : List UInt8} {k : Nat} {x : UInt8} (h : l[k]? = some x) : l.take (k + 1) = l.take k ++ [x] := by rw [List.take_add_one, h]; rfl
theorem alloc_size' (w : World) (o : Obj) : (w.alloc o).heap.size = w.heap.size + 1 := by simp
theorem new2 (w : World) (a b : List UInt8) : ∃ w', w' = (w.alloc (.cells (Lib.setCells a) 135)).alloc (.cells (Lib.setCells b) 135) ∧
  Arr w' w.heap.size a ∧ Arr w' (w.heap.size + 1) b ∧ Below w.heap.size w w' ∧ w'.heap.size = w.heap.size + 1 + 1 := by
 refine ⟨_, rfl, (Arr.new w a).alloc _, ?_, (((Below.refl _ _).alloc (Nat.le_refl _) _).alloc (by simp) _), by simp⟩
 have := Arr.new (w.alloc (.cells (Lib.setCells a) 135)) b
 rw [alloc_size'] at this
 exact this
theorem new3 (w : World) (a b c : List UInt8) : ∃ w', w' = ((w.alloc (.cells (Lib.setCells a) 135)).alloc (.cells (Lib.setCells b) 135)).alloc (.cells (Lib.setCells c) 135) ∧
  Arr w' w.heap.size a ∧ Arr w' (w.heap.size + 1) b ∧ Arr w' (w.heap.size + 1 + 1) c ∧ Below w.heap.size w w' ∧ w'.heap.size = w.heap.size + 1 + 1 + 1 := by
 obtain ⟨w2, h1, h2, h3, h4, h5⟩ := new2 w a b
 refine ⟨_, rfl, ?_⟩
 rw [← h1]
 have := Arr.new w2 c
 rw [h5] at this
 exact ⟨h2.alloc _, h3.alloc _, this, h4.alloc (by omega) _, by simp [h5]⟩
end Ox
end Go.Proofs.YtfilbknnpjbmcaaGreatDoor
/- A reason's word: as data; the walks of the two functions that tell it. -/
namespace Go.Proofs.YtfilbknnpjbmcaaGreatDoor
open Go.RowKit
def reasonD (e : Int) : ByteArray := bif e == 5 then ⟨#[110, 111, 116, 32, 116, 104, 101, 114, 101]⟩ else bif e == 6 then ⟨#[116, 104, 101, 114, 101, 32, 97, 108, 114, 101, 97, 100, 121]⟩ else bif e == 55 then ⟨#[119, 114, 111, 110, 103, 32, 107, 105, 110, 100]⟩ else bif e == 57 then ⟨#[110, 111, 116, 32, 101, 109, 112, 116, 121]⟩ else bif e == 58 then ⟨#[105, 110, 116, 111, 32, 105, 116, 115, 101, 108, 102]⟩ else bif e == 61 then ⟨#[116, 111, 111, 32, 109, 97, 110, 121, 32, 108, 105, 110, 107, 115]⟩ else bif e == 40 then ⟨#[116, 111, 111, 32, 108, 97, 114, 103, 101]⟩ else bif e == 4 then ⟨#[98, 97, 100, 32, 110, 97, 109, 101]⟩ else ⟨#[119, 114, 111, 110, 103]⟩
set_option maxRecDepth 100000 in
theorem reason_any (w : World) (e : Int) : Calls Tryz.prog 119 #[.int .i64 e] w fun o w' => o = .returned (.string (reasonD e)) ∧ w = w' := by
 cases h0 : (e == 5) with
 | true =>
  go_enter Tryz.func119, Tryz.ntmps119
  go_wp2_with fail
  go_ret
  exact ⟨by simp only [reasonD, h0, cond_true]; rfl, rfl⟩
 | false =>
  cases h1 : (e == 6) with
  | true =>
   go_enter Tryz.func119, Tryz.ntmps119
   go_wp2_with fail
   go_ret
   exact ⟨by simp only [reasonD, h0, h1, cond_true, cond_false]; rfl, rfl⟩
  | false =>
   cases h2 : (e == 55) with
   | true =>
    go_enter Tryz.func119, Tryz.ntmps119
    go_wp2_with fail
    go_ret
    exact ⟨by simp only [reasonD, h0, h1, h2, cond_true, cond_false]; rfl, rfl⟩
   | false =>
    cases h3 : (e == 57) with
    | true =>
     go_enter Tryz.func119, Tryz.ntmps119
     go_wp2_with fail
     go_ret
     exact ⟨by simp only [reasonD, h0, h1, h2, h3, cond_true, cond_false]; rfl, rfl⟩
    | false =>
     cases h4 : (e == 58) with
     | true =>
      go_enter Tryz.func119, Tryz.ntmps119
      go_wp2_with fail
      go_ret
      exact ⟨by simp only [reasonD, h0, h1, h2, h3, h4, cond_true, cond_false]; rfl, rfl⟩
     | false =>
      cases h5 : (e == 61) with
      | true =>
       go_enter Tryz.func119, Tryz.ntmps119
       go_wp2_with fail
       go_ret
       exact ⟨by simp only [reasonD, h0, h1, h2, h3, h4, h5, cond_true, cond_false]; rfl, rfl⟩
      | false =>
       cases h6 : (e == 40) with
       | true =>
        go_enter Tryz.func119, Tryz.ntmps119
        go_wp2_with fail
        go_ret
        exact ⟨by simp only [reasonD, h0, h1, h2, h3, h4, h5, h6, cond_true, cond_false]; rfl, rfl⟩
       | false =>
        cases h7 : (e == 4) with
        | true =>
         go_enter Tryz.func119, Tryz.ntmps119
         go_wp2_with fail
         go_ret
         exact ⟨by simp only [reasonD, h0, h1, h2, h3, h4, h5, h6, h7, cond_true, cond_false]; rfl, rfl⟩
        | false =>
         go_enter Tryz.func119, Tryz.ntmps119
         go_wp2_with fail
         go_ret
         exact ⟨by simp only [reasonD, h0, h1, h2, h3, h4, h5, h6, h7, cond_false]; rfl, rfl⟩
-- the reference
end Go.Proofs.YtfilbknnpjbmcaaGreatDoor
/- The shelf's contracts of strings.Join and strings.Builder.Len at this dump. -/
namespace Go.Proofs
open Go.Shelf
def Tryz.lays170_ren : Go.Shelf.Ren := ⟨fun | 170 => 57 | n => n, fun | 70 => 76 | 3 => 3 | 0 => 0 | 72 => 79 | 37 => 77 | 5 => 5 | n => n, fun | n => n⟩
theorem Tryz.lays170 : Go.Proofs.Lays.n170 Tryz.prog Tryz.lays170_ren := {
 mixed := by kernel_rfl
 f170 := Tryz.func57.trans (congrArg some (by kernel_rfl))
 t0 := Tryz.underlying0
 a0 := Tryz.isAgg0
 z0 := Tryz.sizeOf0
 v0 := Tryz.zeroValue0
 t3 := Tryz.underlying3
 a3 := Tryz.isAgg3
 z3 := Tryz.sizeOf3
 v3 := Tryz.zeroValue3
 t37 := Tryz.underlying77
 a37 := Tryz.isAgg77
 z37 := Tryz.sizeOf77
 v37 := Tryz.zeroValue77
 t70 := Tryz.underlying76
 a70 := Tryz.isAgg76
 z70 := Tryz.sizeOf76
 v70 := Tryz.zeroValue76
 t72 := Tryz.underlying79
 a72 := Tryz.isAgg79
 z72 := Tryz.sizeOf79
 v72 := Tryz.zeroValue79 }
open Go.RowKit in
theorem Tryz.Builder_Len (B b : Nat) (bs : List Value) (w : World) (h : Lib.IsBuilder 79 5 B b bs w) :
  Calls Tryz.prog 57 #[.pointer (some ⟨b, 0, none⟩)] w fun e w' => e = .returned (.int .i64 bs.length) ∧ w' = w := Any.Builder_Len Tryz.lays170 B b bs w h
end Go.Proofs
/- A reason's word of package moves: as data; the walks of the two functions that tell it. -/
namespace Go.Proofs.YtfilbknnpjbmcaaGreatDoor
open Go.RowKit
def whyD (e : Int) : ByteArray := bif e == 5 then ⟨#[110, 111, 116, 32, 116, 104, 101, 114, 101]⟩ else bif e == 6 then ⟨#[116, 104, 101, 114, 101, 32, 97, 108, 114, 101, 97, 100, 121]⟩ else bif e == 55 then ⟨#[119, 114, 111, 110, 103, 32, 107, 105, 110, 100]⟩ else bif e == 57 then ⟨#[110, 111, 116, 32, 101, 109, 112, 116, 121]⟩ else bif e == 58 then ⟨#[105, 110, 116, 111, 32, 105, 116, 115, 101, 108, 102]⟩ else bif e == 61 then ⟨#[116, 111, 111, 32, 109, 97, 110, 121, 32, 108, 105, 110, 107, 115]⟩ else bif e == 40 then ⟨#[116, 111, 111, 32, 108, 97, 114, 103, 101]⟩ else bif e == 4 then ⟨#[98, 97, 100, 32, 110, 97, 109, 101]⟩ else ⟨#[101, 114, 114, 111, 114]⟩
set_option maxRecDepth 100000 in
theorem why_any (w : World) (e : Int) : Calls Tryz.prog 92 #[.int .i64 e] w fun o w' => o = .returned (.string (whyD e)) ∧ w = w' := by
 cases h0 : (e == 5) with
 | true =>
  go_enter Tryz.func92, Tryz.ntmps92
  go_wp2_with fail
  refine (reason_any _ _).mono ?_
  rintro e1 w1 ⟨rfl, rfl⟩
  go_wp2_with fail
  go_ret
  exact ⟨by simp only [whyD, reasonD, h0, cond_true]; rfl, rfl⟩
 | false =>
  cases h1 : (e == 6) with
  | true =>
   go_enter Tryz.func92, Tryz.ntmps92
   go_wp2_with fail
   refine (reason_any _ _).mono ?_
   rintro e1 w1 ⟨rfl, rfl⟩
   go_wp2_with fail
   go_ret
   exact ⟨by simp only [whyD, reasonD, h0, h1, cond_true, cond_false]; rfl, rfl⟩
  | false =>
   cases h2 : (e == 55) with
   | true =>
    go_enter Tryz.func92, Tryz.ntmps92
    go_wp2_with fail
    refine (reason_any _ _).mono ?_
    rintro e1 w1 ⟨rfl, rfl⟩
    go_wp2_with fail
    go_ret
    exact ⟨by simp only [whyD, reasonD, h0, h1, h2, cond_true, cond_false]; rfl, rfl⟩
   | false =>
    cases h3 : (e == 57) with
    | true =>
     go_enter Tryz.func92, Tryz.ntmps92
     go_wp2_with fail
     refine (reason_any _ _).mono ?_
     rintro e1 w1 ⟨rfl, rfl⟩
     go_wp2_with fail
     go_ret
     exact ⟨by simp only [whyD, reasonD, h0, h1, h2, h3, cond_true, cond_false]; rfl, rfl⟩
    | false =>
     cases h4 : (e == 58) with
     | true =>
      go_enter Tryz.func92, Tryz.ntmps92
      go_wp2_with fail
      refine (reason_any _ _).mono ?_
      rintro e1 w1 ⟨rfl, rfl⟩
      go_wp2_with fail
      go_ret
      exact ⟨by simp only [whyD, reasonD, h0, h1, h2, h3, h4, cond_true, cond_false]; rfl, rfl⟩
     | false =>
      cases h5 : (e == 61) with
      | true =>
       go_enter Tryz.func92, Tryz.ntmps92
       go_wp2_with fail
       refine (reason_any _ _).mono ?_
       rintro e1 w1 ⟨rfl, rfl⟩
       go_wp2_with fail
       go_ret
       exact ⟨by simp only [whyD, reasonD, h0, h1, h2, h3, h4, h5, cond_true, cond_false]; rfl, rfl⟩
      | false =>
       cases h6 : (e == 40) with
       | true =>
        go_enter Tryz.func92, Tryz.ntmps92
        go_wp2_with fail
        refine (reason_any _ _).mono ?_
        rintro e1 w1 ⟨rfl, rfl⟩
        go_wp2_with fail
        go_ret
        exact ⟨by simp only [whyD, reasonD, h0, h1, h2, h3, h4, h5, h6, cond_true, cond_false]; rfl, rfl⟩
       | false =>
        cases h7 : (e == 4) with
        | true =>
         go_enter Tryz.func92, Tryz.ntmps92
         go_wp2_with fail
         refine (reason_any _ _).mono ?_
         rintro e1 w1 ⟨rfl, rfl⟩
         go_wp2_with fail
         go_ret
         exact ⟨by simp only [whyD, reasonD, h0, h1, h2, h3, h4, h5, h6, h7, cond_true, cond_false]; rfl, rfl⟩
        | false =>
         go_enter Tryz.func92, Tryz.ntmps92
         go_wp2_with fail
         go_ret
         exact ⟨by simp only [whyD, h0, h1, h2, h3, h4, h5, h6, h7, cond_false]; rfl, rfl⟩
end Go.Proofs.YtfilbknnpjbmcaaGreatDoor
