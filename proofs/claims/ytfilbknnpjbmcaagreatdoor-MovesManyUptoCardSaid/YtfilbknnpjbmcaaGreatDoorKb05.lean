/- A place as a path: the text, of the program; places of at most 3000 names of at most 3000 bytes. -/
import Derived.Test.YtfilbknnpjbmcaaGreatDoorKb03
import Derived.Test.YtfilbknnpjbmcaaGreatDoorKb03
import Derived.Test.YtfilbknnpjbmcaaGreatDoorKb02
import Derived.Test.YtfilbknnpjbmcaaGreatDoorKb04
import Derived.Laws.Concat
import Derived.Lib.AppendStr
import Derived.Test.YtfilbknnpjbmcaaGreatDoorKb00
import Derived.Lib.TrimByte
import Derived.Lib.LastIndexByte
import Derived.Shelf.Strings.Trim
import Derived.Shelf.Strings.Search3
import Derived.Test.YtfilbknnpjbmcaaGreatDoorKb01
import Derived.RangeFuncBox
namespace Go.Proofs.YtfilbknnpjbmcaaGreatDoor
open Go.RowKit Px

theorem ret_str {a b : List UInt8} (h : a = b) : Ending.returned (.string ⟨a.toArray⟩) = Ending.returned (.string ⟨b.toArray⟩) := by rw [h]
namespace Px
def smallL (xs : List ByteArray) : Prop := xs.length ≤ 3000 ∧ ∀ x ∈ xs, x.size ≤ 3000
def flat : List ByteArray → List UInt8
 | [] => []
 | x :: l => 47 :: (x.data.toList ++ flat l)
def showL (xs : List ByteArray) : List UInt8 := if xs.length = 0 then [47] else flat xs
theorem flat_append : ∀ l r, flat (l ++ r) = flat l ++ flat r
 | [], r => rfl
 | x :: l, r => by
  rw [List.cons_append, flat, flat, flat_append l r]
  simp
theorem flat_snoc {xs : List ByteArray} {k : Nat} (h : k < xs.length) : flat (xs.take (k + 1)) = flat (xs.take k) ++ (47 :: (xs.getD k ByteArray.empty).data.toList) := by
 rw [take_snoc_d h, flat_append]
 simp [flat]
theorem small_at {xs : List ByteArray} {k : Nat} (h : smallL xs) (hk : k < xs.length) : (xs.getD k ByteArray.empty).size ≤ 3000 := by
 rw [List.getD_eq_getElem?_getD, List.getElem?_eq_getElem hk]
 exact h.2 _ (List.getElem_mem _)
theorem flat_le {xs : List ByteArray} (h : smallL xs) : ∀ k, k ≤ xs.length → (flat (xs.take k)).length ≤ k * 3001
 | 0, _ => by simp [flat]
 | k + 1, hk => by
  have h1 := flat_le h k (by omega)
  have h2 := small_at h (k := k) (by omega)
  rw [flat_snoc (by omega), List.length_append, List.length_cons]
  have h3 : (xs.getD k ByteArray.empty).data.toList.length = (xs.getD k ByteArray.empty).size := by rw [Lib.size_eq]
  omega
end Px
theorem isBuilder_at {T e : TypeId} {B b : Nat} {p : Value} {bs : List Value} {w : World} (h : Lib.BuilderAt T e B b p bs w) (hp : p = .pointer (some ⟨b, 0, none⟩)) : Lib.IsBuilder T e B b bs w := Or.inr (hp ▸ h)
theorem byteCells_append (l r : List UInt8) : Lib.byteCells (l ++ r) = Lib.byteCells l ++ Lib.byteCells r := by simp [Lib.byteCells]
theorem byteCells_len (l : List UInt8) : (Lib.byteCells l).length = l.length := by simp [Lib.byteCells]

set_option maxRecDepth 100000 in
set_option maxHeartbeats 1000000 in
theorem show_any {w : World} {p : Option Addr} {xs : List ByteArray} (c : Nat) (hx : Strs w p xs) (hs : smallL xs) :
  Calls Tryz.prog 18 #[.slice p xs.length c] w fun e w' => e = .returned (.string ⟨(showL xs).toArray⟩) ∧ Below w.heap.size w w' := by
 have hl := hs.1
 have HS := Lib.hid hs
 have HX := Lib.hid hx
 clear hx hs
 by_cases h0 : xs.length = 0
 ·have HV : Hid (showL xs = [47]) := Lib.hid (by unfold showL; rw [if_pos h0])
  have h1 : ((xs.length : Int) == 0) = true := by simp [h0]
  clear h0
  go_enter Tryz.func18, Tryz.ntmps18
  go_wp2_with fail
  go_ret
  exact ⟨ret_str (by rw [HV.out]), Below.refl _ _⟩
 ·have HV : Hid (showL xs = flat xs) := Lib.hid (by unfold showL; rw [if_neg h0])
  have h1 : ((xs.length : Int) == 0) = false := by rw [beq_eq_false_iff_ne]; omega
  clear h0
  go_enter Tryz.func18, Tryz.ntmps18
  go_wp2_with fail
  go_loopw [11] (fun i wr => ∃ (k : Nat), k ≤ xs.length ∧ i = .int .i64 k ∧ Hid (Lib.IsBuilder 79 5 w.heap.size w.heap.size (Lib.byteCells (flat (xs.take k))) wr) ∧ Hid (Below w.heap.size w wr) ∧ Hid (w.heap.size ≤ wr.heap.size)) (fun i _ => xs.length - (intOf i).toNat)
  case atStart =>
   exact ⟨0, Nat.zero_le _, rfl, Lib.hid (Lib.fresh_isBuilder _ _ w), Lib.hid ((Below.refl _ w).alloc (Nat.le_refl _) _), Lib.hid (by simp)⟩
  case round =>
   obtain ⟨k, hk, rfl, HI, HB, HZ⟩ := hrel
   by_cases hlt : k < xs.length
   ·obtain ⟨b, o, rfl, hc0⟩ := HX.out k hlt
    have hc : wr.cell? ⟨b, o + k, none⟩ = some (.string (xs.getD k ByteArray.empty)) := by
     rw [HB.out.cell (World.block_lt_of_cell? _ _ hc0)]
     exact hc0
    have hx5 := small_at HS.out hlt
    have HF := Lib.hid (flat_snoc hlt)
    have HL := Lib.hid (flat_le HS.out k hk)
    clear hc0
    generalize xs.getD k ByteArray.empty = x at hc hx5 HF
    have HW1 := Lib.hid (Tryz.writeByte_any w.heap.size w.heap.size _ 47 wr HI.out (by rw [byteCells_len]; have := HL.out; omega) HZ.out)
    have HW2 : Hid (∀ w2, Lib.IsBuilder 79 5 w.heap.size w.heap.size (Lib.byteCells (flat (xs.take k)) ++ [.int .u8 47]) w2 → w.heap.size ≤ w2.heap.size → Calls Tryz.prog 37 #[.pointer (some ⟨w.heap.size, 0, none⟩), .string x] w2 fun e w' => e = .returned (.tuple #[.int .i64 x.size, .nilIface]) ∧ Lib.IsBuilder 79 5 w.heap.size w.heap.size (Lib.byteCells (flat (xs.take (k + 1)))) w' ∧ Below w.heap.size w2 w') := Lib.hid fun w2 h2 hz => by
     refine (Tryz.writeString_any w.heap.size w.heap.size _ x w2 h2 (by rw [List.length_append, byteCells_len]; have := HL.out; simp; omega) hz).mono fun e w' ⟨he, hi, hb⟩ => ⟨he, ?_, hb⟩
     rw [HF.out, byteCells_append]
     have := isBuilder_at hi rfl
     rw [List.append_assoc] at this
     exact this
    go_wp2_with (first
     | (go_at_call 36; refine HW1.out.mono ?_; rintro e w2 ⟨rfl, hi2, hb2⟩; have HI2 := Lib.hid hi2; have HB2 := Lib.hid hb2; clear hi2 hb2)
     | (go_at_call 37; refine (HW2.out _ (isBuilder_at HI2.out rfl) (Nat.le_trans HZ.out HB2.out.size)).mono ?_; rintro e w3 ⟨rfl, hi3, hb3⟩; have HI3 := Lib.hid hi3; have HB3 := Lib.hid hb3; clear hi3 hb3))
    go_roundw
    case rel => exact ⟨k + 1, by omega, by go_num, HI3, Lib.hid ((HB.out.trans HB2.out).trans HB3.out), Lib.hid (Nat.le_trans (Nat.le_trans HZ.out HB2.out.size) HB3.out.size)⟩
    case measure => simp [intOf]; omega
   ·have HE : Hid (k = xs.length) := Lib.hid (by omega)
    have HR : Hid (Calls Tryz.prog 38 #[.pointer (some ⟨w.heap.size, 0, none⟩)] wr fun e w' => e = .returned (.string ⟨(showL xs).toArray⟩) ∧ Below w.heap.size wr w') := Lib.hid (by
     have := HI.out
     rw [HE.out, List.take_length, ← HV.out] at this
     exact Tryz.Builder_String_any _ _ _ wr this HZ.out)
    go_wp2_with (go_at_call 38; refine HR.out.mono ?_; rintro e w2 ⟨rfl, hb2⟩)
    go_ret
    exact ⟨rfl, HB.out.trans hb2⟩

theorem show_at {W w : World} (hb : Below W.heap.size W w) {v : Value} {xs : List ByteArray} (hx : PlR W v xs) (hs : smallL xs) :
  Calls Tryz.prog 18 #[v] w fun e w' => e = .returned (.string ⟨(showL xs).toArray⟩) ∧ Below W.heap.size W w' := by
 obtain ⟨p, c, rfl, h1, h2, h3⟩ := hx
 exact (show_any c (h1.grown hb) hs).mono fun e w' ⟨he, hw⟩ => ⟨he, below_next hb hw⟩
end Go.Proofs.YtfilbknnpjbmcaaGreatDoor
/- The last piece of a path, a path without slashes behind, last names, what is wrong with a path: as lists of bytes. No program. -/
namespace Go.Proofs.YtfilbknnpjbmcaaGreatDoor
open Go
namespace Px

def lastP (s : B) : B := (pieces s).getLastD []
def dirL (s : B) : Bool := (lastP s == [] && !(s == [])) || lastP s == [46] || lastP s == [46, 46]
def trimL (s : B) : B := Lib.trimRightB s 47
def lastF (s : B) : B := lastP (trimL s)
def checkL (s : B) : Nat :=
 if s.any (fun c => c == 0) || s == [] then 4 else if 256 < s.length then 40 else if (stepsL s).all fun p => p == [46, 46] || nameL p then 0 else 4

theorem getLastD_append {α : Type} {l r : List α} {d : α} (h : r ≠ []) : (l ++ r).getLastD d = r.getLastD d := by
 cases r with
 | nil => exact absurd rfl h
 | cons x r =>
  rw [List.getLastD_eq_getLast?, List.getLastD_eq_getLast?, List.getLast?_append]
  cases e : (x :: r).getLast? with
  | none => rw [List.getLast?_eq_none_iff] at e; cases e
  | some y => rfl
theorem lastP_join (a b : B) : lastP (a ++ 47 :: b) = lastP b := by
 unfold lastP
 rw [pieces_join, getLastD_append (pieces_ne b)]
theorem lastP_none {a : B} (h : ∀ x ∈ a, x ≠ 47) : lastP a = a := by
 unfold lastP
 rw [pieces_none a h]
 rfl
theorem lastP_index {s : ByteArray} {k : Nat} (h : Lib.lastIndexByte s 47 = k) : lastP s.data.toList = s.data.toList.drop (k + 1) ∧ k < s.size := by
 have hs := Lib.lastIdx_spec s 47 s.size
 unfold Lib.lastIndexByte at h
 rcases hs with ⟨h1, _⟩ | ⟨i, hi, h1, h2, h3⟩
 ·rw [h1] at h; omega
 ·obtain rfl : i = k := by rw [h1] at h; omega
  have hlt : i < s.data.toList.length := by rw [← Lib.size_eq]; exact hi
  have hat : ∀ j, j < s.size → s.data[j]! = s.data.toList.getD j 0 := by
   intro j hj
   have hj' : j < s.data.size := hj
   rw [getElem!_pos s.data j hj', List.getD_eq_getElem?_getD, List.getElem?_eq_getElem (by rw [← Lib.size_eq]; exact hj)]
   rfl
  have h47 : s.data.toList[i] = 47 := by
   rw [hat i hi, List.getD_eq_getElem?_getD, List.getElem?_eq_getElem hlt] at h2
   apply UInt8.toNat_inj.1
   have : ((s.data.toList[i]).toNat : Int) = 47 := h2
   show _ = 47
   omega
  refine ⟨?_, hi⟩
  have hsplit : s.data.toList = s.data.toList.take i ++ 47 :: s.data.toList.drop (i + 1) := by
   rw [← h47, ← List.drop_eq_getElem_cons hlt, List.take_append_drop]
  have hd : ∀ x ∈ s.data.toList.drop (i + 1), x ≠ 47 := by
   intro x hx e
   obtain ⟨j, hj, hj2⟩ := List.mem_iff_getElem.1 hx
   rw [List.length_drop, ← Lib.size_eq] at hj
   have := h3 (i + 1 + j) (by omega) (by omega)
   rw [hat _ (by omega), List.getD_eq_getElem?_getD, List.getElem?_eq_getElem (by rw [← Lib.size_eq]; omega)] at this
   rw [List.getElem_drop] at hj2
   apply this
   have hb : i + 1 + j < s.data.toList.length := by rw [← Lib.size_eq]; omega
   show ((s.data.toList[i + 1 + j]'hb).toNat : Int) = 47
   rw [hj2, e]
   rfl
  have h4 : lastP s.data.toList = lastP (s.data.toList.take i ++ 47 :: s.data.toList.drop (i + 1)) := congrArg lastP hsplit
  rw [h4, lastP_join, lastP_none hd]
theorem lastP_noindex {s : ByteArray} (h : Lib.lastIndexByte s 47 = -1) : lastP s.data.toList = s.data.toList := by
 have hs := Lib.lastIdx_spec s 47 s.size
 unfold Lib.lastIndexByte at h
 rcases hs with ⟨_, h1⟩ | ⟨i, hi, h1, _⟩
 ·refine lastP_none fun x hx e => ?_
  obtain ⟨j, hj, hj2⟩ := List.mem_iff_getElem.1 hx
  have hj' : j < s.data.size := by simpa using hj
  apply h1 j hj'
  rw [getElem!_pos s.data j hj']
  have : s.data[j] = 47 := by rw [← Array.getElem_toList, hj2, e]
  rw [this]
  rfl
 ·rw [h1] at h; omega
theorem lastIndex_ge (s : ByteArray) : -1 ≤ Lib.lastIndexByte s 47 := by
 have hs := Lib.lastIdx_spec s 47 s.size
 unfold Lib.lastIndexByte
 rcases hs with ⟨h1, _⟩ | ⟨i, hi, h1, _⟩ <;> rw [h1] <;> omega
theorem trim_size (s : B) : (trimL s).length ≤ s.length := by
 unfold trimL Lib.trimRightB
 rw [List.length_reverse]
 have := (List.dropWhile_sublist (fun x : UInt8 => x == 47) (l := s.reverse)).length_le
 simpa using this
theorem lastP_size (s : B) : (lastP s).length ≤ s.length := by
 unfold lastP
 rw [List.getLastD_eq_getLast?]
 cases h : (pieces s).getLast? with
 | none => simp
 | some p => exact pieces_size s p (List.mem_of_getLast? h)
end Px
end Go.Proofs.YtfilbknnpjbmcaaGreatDoor
/- The library's contracts at this dump: trimming, whether a byte is in a text. Laid by the shelf's plain mode. -/
namespace Go.Proofs
open Go.Shelf
end Go.Proofs
/- Walks: Steps and Clean, over the iterator. -/
namespace Go.Proofs.YtfilbknnpjbmcaaGreatDoor
open Go.RowKit Go.Shelf Px

attribute [local go_sem] Oper.semAt_some

theorem stepsOf_any (s : ByteArray) (w : World) :
  Calls Tryz.prog 33 #[.string s] w fun e w' => e = .returned (.func (.func 59) #[] #[.pointer (some ⟨w.heap.size, 0, none⟩)]) ∧ w' = w.alloc (.cells #[.string s] 9) := by
 go_enter Tryz.func33, Tryz.ntmps33
 go_wp2
 go_ret
 exact ⟨rfl, rfl⟩

theorem iter_stops (n : Nat) (hn : 1 ≤ n) (Bn n₀ : Nat) (s : ByteArray) (hs : s.size ≤ 100000000) (w : World) (hBn : Bn < w.heap.size) (hc : w.cell? ⟨Bn, 0, none⟩ = some (.string s)) :
  SeqStopsK Fence.wide n Tryz.prog 59 #[.pointer (some ⟨Bn, 0, none⟩)] (fun x : ByteArray => #[Value.string x]) (Below n₀) (fun ys => ys = stepsB s) (fun pre => pre <+: stepsB s) (stepsB s).length w := fun l J Jx W hW hJ _ hY h0 =>
 iter_any n hn l Bn n₀ s hs J Jx W hJ hY ((hW.cell (p := ⟨Bn, 0, none⟩) hBn).trans hc) h0

theorem infoStr : (Tryz.prog.info? 9).map (fun i => (i.zero, i.size, i.bytes)) = some (some (.string ⟨#[]⟩), 1, 16) := by kernel_rfl
theorem stepsB_len (s : ByteArray) : (stepsB s).length ≤ s.size + 1 := by
 unfold stepsB
 rw [List.length_map, Lib.size_eq]
 exact steps_len _
theorem boxed_below {w w' : World} {t : TypeId} {v : Value} {B : Nat} (hb : Below (B + 1) w w') (h : Boxed w B t v) : Boxed w' B t v := by
 unfold Boxed at *
 rw [hb.block B (Nat.lt_succ_self _)]
 exact h

set_option maxRecDepth 100000 in
set_option maxHeartbeats 4000000 in
theorem steps_own (s : ByteArray) (hs : s.size ≤ 100000000) (w : World) :
  Calls Tryz.prog 63 #[.string s] w fun e W' => ∃ v, e = .returned v ∧ W'.ownsRow w.heap.size 9 1 v (stepsB s).length ((stepsB s).map Value.string) ∧ Below w.heap.size w W' := by
 have hN : (stepsB s).length ≤ 100000001 := Nat.le_trans (stepsB_len s) (by omega)
 obtain ⟨i0, hi, hz0, hz1, hz2⟩ := info_parts infoStr
 refine (callsIn_wide (n := 3)).1 ?_
 refine callsIn_of_wp_marks Tryz.func63 rfl trivial ?_ rfl
 simp only [Tryz.ntmps63, List.size_toArray, List.length_cons, List.length_nil, Nat.reduceAdd, Nat.reduceSub, Array.replicate_succ, Array.replicate_zero, List.push_toArray, List.append_toArray, List.nil_append, List.cons_append]
 gi_wp2_with (first
  | (refine ⟨trivial, ?_⟩; gi_at_call 40; refine (callsIn_wide.2 (clone_any s _ hs)).mono ?_; rintro e w2 ⟨rfl, hb2⟩)
  | (refine ⟨trivial, ?_⟩; gi_at_call 33; refine (callsIn_wide.2 (stepsOf_any s _)).mono ?_; rintro e w3 ⟨rfl, rfl⟩))
 have bO : Boxed w2 w.heap.size 22 (.slice none 0 0) := boxed_below (by simpa using hb2) (Boxed.new w 22 (.slice none 0 0))
 have bN := Boxed.new w2 9 (.string s)
 have hlt2 : w.heap.size + 1 ≤ w2.heap.size := by have := hb2.size; simpa using this
 have hB0 : Below w.heap.size w (w2.alloc (.cells #[.string s] 9)) := (((Below.refl _ w).alloc (Nat.le_refl _) _).trans (hb2.mono (by simp))).alloc (by omega) _
 refine wpIn_rangeFunc_ownG rfl (by omega) (gf := 59) (lb := #[.pointer (some ⟨w2.heap.size, 0, none⟩)]) rfl trivial (enters_of Tryz.func59 (by kernel_rfl) rfl)
  (iter_stops (3 - 1) (by omega) w2.heap.size w.heap.size s hs _ (by simp) bN.cell) belowK_t (belowK_b (by simp; omega)) (Below.refl _ _) (fun _ => rfl)
  (fun pre W => (∃ v, Boxed W w.heap.size 22 v ∧ W.ownsRow w.heap.size 9 1 v pre.length (pre.map Value.string) ∧ True) ∧ Below w.heap.size w W)
  (fun _ _ _ => False)
  (OwnFrom.and (Own.from (holdsRow_own w.heap.size w.heap.size 22 9 1 (fun pre : List ByteArray => pre.length) (fun pre => pre.map Value.string) (fun _ _ => True)) _) (ownFrom_below (Nat.le_refl _) (by simp; omega)))
  (fun _ _ _ _ _ hs _ _ => hs)
  ⟨⟨_, bO.alloc _, World.ownsRow_nil _ _ _ _, trivial⟩, hB0⟩
  (fun x => { tmps := #[.string s, undef, .slice none 0 0, .pointer (some ⟨w.heap.size, 0, none⟩), .string x, .string s, .string s, .func (.func 59) #[] #[.pointer (some ⟨w2.heap.size, 0, none⟩)], .string x, undef, undef, undef, undef, undef], defers := [] }) ?assign ?body ?done ?stop
 case assign =>
  intro l x W K hK
  gi_wp2
  exact hK
 case body =>
  rintro l pre x W ⟨⟨v, hv, hrow, _⟩, hB⟩ hlt
  have hc := hv.cell
  gi_wp2_with (gi_at_builtin; refine wpListIn_append_own _ rfl _ _ 22 rfl w.heap.size 9 i0 (.string ⟨#[]⟩) 1 16 Tryz.underlying22 hi hz0 hz1 hz2 rfl (by decide) _ _ _ rfl (hrow.alloc _) ⟨W.heap.size, 0, none⟩ 1 1 [.string x] rfl rfl (cell_one_new _ _ _) (by simp [Value.oneCell']) (by unfold maxLen; omega) (by omega) (by have := hB.size; simp; omega) ?_; intro v' w1 hown' hgrow _; obtain ⟨g', cap', rfl⟩ := ownsRow_succ hown'; obtain ⟨hv1, hv2, hr2, hk2, hb2'⟩ := hv.appended (by decide) hrow hB.size (Nat.le_refl _) hown' hgrow; have hc1 := hv1.cell; have hf1 := hv1.frozen)
  exact ⟨hk2.from _, hb2', ⟨_, hv2, by simpa using hr2, trivial⟩, hB.trans hb2'⟩
 case done =>
  rintro D ys W hD rfl ⟨⟨v, hv, hrow, _⟩, hB⟩ hK
  have hc := hv.cell
  gi_wp2
  refine ⟨by simp, .inl ⟨_, _, rfl, run_takeDeferred hK, ?_⟩⟩
  exact ⟨_, results_tmp rfl _ _ _, v, rfl, ownsRow_putObj hrow _ hK rfl, hB.trans (belowK_b (w := w) (Nat.le_refl _) W D _ _ (by simp at hD; omega) hK rfl rfl)⟩
 case stop =>
  rintro D c pre W _ _ h _
  exact h.elim
end Go.Proofs.YtfilbknnpjbmcaaGreatDoor
/- Walks: Clean, over the iterator. -/
namespace Go.Proofs.YtfilbknnpjbmcaaGreatDoor
open Go.RowKit Go.Shelf Px

attribute [local go_sem] Oper.semAt_some

end Go.Proofs.YtfilbknnpjbmcaaGreatDoor
/- Walks: the last piece of a path, whether it asks for a directory, its last name. -/
namespace Go.Proofs.YtfilbknnpjbmcaaGreatDoor
open Go.RowKit Px

theorem lastPiece_any (s : ByteArray) (w : World) (hs : s.size ≤ 100000) :
  Calls Tryz.prog 41 #[.string s] w fun e w' => ∃ q : ByteArray, e = .returned (.string q) ∧ Hid (q.data.toList = lastP s.data.toList) ∧ w = w' := by
 have hge := lastIndex_ge s
 by_cases h : Lib.lastIndexByte s 47 = -1
 ·have HV := Lib.hid (lastP_noindex h)
  have HI := Lib.hid h
  clear h hge
  go_enter Tryz.func41, Tryz.ntmps41
  go_wp2_with (go_at_call 70; refine (Tryz.strings_LastIndexByte s 47 (by omega) _).mono ?_; rintro e w' ⟨rfl, rfl⟩; rw [HI.out])
  go_ret
  refine ⟨_, rfl, Lib.hid ?_, rfl⟩
  rw [HV.out]
 ·obtain ⟨o, ho⟩ : ∃ o : Nat, Lib.lastIndexByte s 47 = o := ⟨(Lib.lastIndexByte s 47).toNat, by omega⟩
  obtain ⟨h1, hlt⟩ := lastP_index ho
  have HV := Lib.hid h1
  have HI := Lib.hid ho
  clear h hge ho h1
  go_enter Tryz.func41, Tryz.ntmps41
  go_wp2_with (go_at_call 70; refine (Tryz.strings_LastIndexByte s 47 (by omega) _).mono ?_; rintro e w' ⟨rfl, rfl⟩; rw [HI.out])
  go_ret
  refine ⟨_, rfl, Lib.hid ?_, rfl⟩
  rw [HV.out, Lib.extract_data, List.take_of_length_le (by rw [List.length_drop, ← Lib.size_eq]; exact Nat.le_refl _)]

theorem dir_any (s : ByteArray) (w : World) (hs : s.size ≤ 100000) :
  Calls Tryz.prog 64 #[.string s] w fun e w' => e = .returned (.bool (dirL s.data.toList)) ∧ w = w' := by
 go_enter Tryz.func64, Tryz.ntmps64
 go_wp2_with fail
 refine (lastPiece_any s w hs).mono ?_
 rintro e w' ⟨q, rfl, HQ, rfl⟩
 have HV : Hid (dirL s.data.toList = ((q.toList == [] && !(s.toList == [])) || q.toList == [46] || q.toList == [46, 46])) := Lib.hid (by
  unfold dirL
  rw [Lib.toList_data q, HQ.out, Lib.toList_data s])
 rcases four_ways q with h | h | h | ⟨h1, h2, h3⟩
 ·have HV2 : Hid (dirL s.data.toList = !(s.toList == [])) := Lib.hid (by rw [HV.out, h]; simp)
  by_cases hs0 : s.toList = []
  ·go_wp2
   go_ret
   exact ⟨ret_bool (by rw [HV2.out, hs0]; rfl), rfl⟩
  ·have he := full_list hs0
   go_wp2
   go_ret
   exact ⟨ret_bool (by rw [HV2.out]; simp [hs0]), rfl⟩
 ·have HV2 : Hid (dirL s.data.toList = true) := Lib.hid (by rw [HV.out, h]; simp)
  go_wp2
  go_ret
  exact ⟨ret_bool HV2.out.symm, rfl⟩
 ·have HV2 : Hid (dirL s.data.toList = true) := Lib.hid (by rw [HV.out, h]; simp)
  go_wp2
  go_ret
  exact ⟨ret_bool HV2.out.symm, rfl⟩
 ·have HV2 : Hid (dirL s.data.toList = false) := Lib.hid (by rw [HV.out, h2, h3, show (q.toList == []) = false from beq_eq_false_iff_ne.2 h1]; rfl)
  have he := full_list h1
  go_wp2
  go_ret
  exact ⟨ret_bool HV2.out.symm, rfl⟩

def LastAt (s : ByteArray) (e : Ending) : Prop :=
 ∃ q : ByteArray, e = .returned (.tuple #[.string q, .bool (nameL (lastF s.data.toList))]) ∧ q.data.toList = if nameL (lastF s.data.toList) then lastF s.data.toList else []

end Go.Proofs.YtfilbknnpjbmcaaGreatDoor
/- Steps and Clean, as lists of texts. -/
namespace Go.Proofs.YtfilbknnpjbmcaaGreatDoor
open Go.RowKit Px

end Go.Proofs.YtfilbknnpjbmcaaGreatDoor
