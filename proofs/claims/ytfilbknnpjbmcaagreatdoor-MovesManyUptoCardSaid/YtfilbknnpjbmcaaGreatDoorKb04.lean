/- Walks: a text cut at its first slash; the iterator over a path's steps. -/
import Derived.Test.YtfilbknnpjbmcaaGreatDoorKb00
import Derived.Test.YtfilbknnpjbmcaaGreatDoorKb01
import Derived.RangeFuncNested
import Derived.RangeFuncBound
import Derived.RangeFuncCalls
import Derived.RangeFuncLeaves
import Derived.Shelf.Abstract
import Derived.Shelf.RegionOpen
import Derived.OwnWalkIn
import Derived.TacticsInMore
import Derived.LoopNIn
import Derived.LoopIn
import Derived.Maps.AppendAt
import Derived.Lib.IndexLaws
import Derived.Shelf.Strings.Builder1
import Derived.Test.YtfilbknnpjbmcaaGreatDoorProg
import Derived.Shelf.Strings.LastIndex
import Derived.Shelf.Strings.Prefix
import Derived.Shelf.Strings.BuilderK
namespace Go.Proofs.YtfilbknnpjbmcaaGreatDoor
open Go.RowKit Go.Shelf Px

attribute [local go_sem] Oper.semAt_some

theorem pieces_at {l : Px.B} {o : Nat} (h : Lib.indexByte l 47 = o) : pieces l = l.take o :: pieces (l.drop (o + 1)) ∧ (∀ x ∈ l.take o, x ≠ 47) ∧ o < l.length := by
 obtain ⟨h1, h2⟩ := Lib.indexByte_some h
 have hlt : o < l.length := (List.getElem?_eq_some_iff.1 h1).1
 have hf : ∀ x ∈ l.take o, x ≠ 47 := by
  intro x hx e
  obtain ⟨k, hk, hk2⟩ := List.mem_iff_getElem.1 hx
  rw [List.length_take] at hk
  have := h2 k (by omega)
  apply this
  rw [List.getElem_take] at hk2
  rw [List.getElem?_eq_getElem (by omega), hk2, e]
 refine ⟨?_, hf, hlt⟩
 have hsplit : l = l.take o ++ 47 :: l.drop (o + 1) := by
  have h3 : l[o] = 47 := by
   have := List.getElem?_eq_getElem hlt
   rw [this] at h1
   simpa using h1
  rw [← h3, ← List.drop_eq_getElem_cons hlt, List.take_append_drop]
 have h4 : pieces l = pieces (l.take o ++ 47 :: l.drop (o + 1)) := congrArg pieces hsplit
 rw [h4, pieces_join, pieces_none _ hf]
 rfl
theorem pieces_not {l : Px.B} (h : Lib.indexByte l 47 = -1) : pieces l = [l] ∧ ∀ x ∈ l, x ≠ 47 := by
 have hf : ∀ x ∈ l, x ≠ 47 := by
  intro x hx e
  obtain ⟨k, hk, hk2⟩ := List.mem_iff_getElem.1 hx
  apply Lib.indexByte_none h k
  rw [List.getElem?_eq_getElem hk, hk2, e]
 exact ⟨pieces_none l hf, hf⟩

def CutAt (s a b : ByteArray) (f : Bool) : Prop :=
 (f = true ∧ pieces s.data.toList = a.data.toList :: pieces b.data.toList ∧ b.size < s.size) ∨ (f = false ∧ pieces s.data.toList = [a.data.toList] ∧ b.size = 0)

set_option maxRecDepth 100000 in
theorem cutLite_any (s : ByteArray) (w : World) (hs : s.size ≤ 100000000) :
  Calls Tryz.prog 95 #[.string s, .string ⟨#[47]⟩] w fun e w' => ∃ a b f, e = .returned (.tuple #[.string a, .string b, .bool f]) ∧ Hid (CutAt s a b f) ∧ Hid (∃ n, w' = w.drewN n) := by
 have mixed := mixed_ok
 by_cases h : Lib.indexByte s.data.toList 47 = -1
 ·have HV : Hid (CutAt s s ⟨#[]⟩ false) := Lib.hid (Or.inr ⟨rfl, (pieces_not h).1, rfl⟩)
  have HI := Lib.hid h
  clear h
  go_enter Tryz.func95, Tryz.ntmps95
  go_wp2_with (go_at_call 94; refine (Tryz.stringslite_Index_one s 47 _).mono ?_; rintro e w' ⟨rfl, rfl⟩; rw [HI.out])
  exact bodyPost_ret (v := .tuple #[.string s, .string ⟨#[]⟩, .bool false]) (by simp [results, Tryz.results95, go_sem]) rfl ⟨s, ⟨#[]⟩, false, rfl, HV, Lib.hid ⟨0, rfl⟩⟩
 ·have hge := Lib.indexByte_ge s.data.toList 47
  obtain ⟨o, ho⟩ : ∃ o : Nat, Lib.indexByte s.data.toList 47 = o := ⟨(Lib.indexByte s.data.toList 47).toNat, by omega⟩
  obtain ⟨h1, h2, h3⟩ := pieces_at ho
  have hlt : o < s.size := by rw [Lib.size_eq]; exact h3
  have HV : Hid (CutAt s (s.extract 0 o) (s.extract (o + 1) s.size) true) := Lib.hid (Or.inl ⟨rfl, by
   rw [Lib.extract_data, Lib.extract_data, h1]
   simp only [List.drop_zero, Nat.sub_zero]
   rw [List.take_of_length_le (l := s.data.toList.drop (o + 1)) (by rw [List.length_drop, ← Lib.size_eq]; omega)], by rw [ByteArray.size_extract]; omega⟩)
  have HI := Lib.hid ho
  have hle : o + 1 ≤ s.size := hlt
  clear h hge ho h1 h2 h3
  go_enter Tryz.func95, Tryz.ntmps95
  go_wp2_with (go_at_call 94; refine (Tryz.stringslite_Index_one s 47 _).mono ?_; rintro e w' ⟨rfl, rfl⟩; rw [HI.out])
  go_region_o
  go_wp2
  exact bodyPost_ret (v := .tuple #[.string (s.extract 0 o), .string (s.extract (o + 1) s.size), .bool true]) (by simp [results, Tryz.results95, go_sem]) rfl ⟨_, _, true, rfl, HV, Lib.hid ⟨1, rfl⟩⟩

set_option maxRecDepth 100000 in
theorem cut_any (s : ByteArray) (w : World) (hs : s.size ≤ 100000000) :
  Calls Tryz.prog 60 #[.string s, .string ⟨#[47]⟩] w fun e w' => ∃ a b f, e = .returned (.tuple #[.string a, .string b, .bool f]) ∧ Hid (CutAt s a b f) ∧ Hid (∃ n, w' = w.drewN n) := by
 go_enter Tryz.func60, Tryz.ntmps60
 go_wp2_with (go_at_call 95; refine (cutLite_any s _ hs).mono ?_; rintro e w' ⟨a, b, f, rfl, HV, HN⟩)
 exact bodyPost_ret (v := .tuple #[.string a, .string b, .bool f]) (by simp [results, Tryz.results60, go_sem]) rfl ⟨a, b, f, rfl, HV, HN⟩

theorem clone_any (s : ByteArray) (w : World) (hs : s.size ≤ 100000000) :
  Calls Tryz.prog 40 #[.string s] w fun e w' => e = .returned (.string s) ∧ Below w.heap.size w w' := by
 go_enter Tryz.func40, Tryz.ntmps40
 go_wp2_with (go_at_call 69; refine (Tryz.stringslite_Clone s _ (by omega)).mono ?_; rintro e w' ⟨rfl, hb⟩)
 go_ret
 exact ⟨rfl, hb⟩

def stepsB (s : ByteArray) : List ByteArray := (stepsL s.data.toList).map fun l => ⟨l.toArray⟩
def restB (more : Bool) (s : ByteArray) : List ByteArray := if more then stepsB s else []
theorem rest_cut {s a b : ByteArray} {f : Bool} (h : CutAt s a b f) : restB true s = (if good a.data.toList then [a] else []) ++ restB f b := by
 have ha : (⟨a.data.toList.toArray⟩ : ByteArray) = a := Lib.mk_data a
 rcases h with ⟨rfl, h, _⟩ | ⟨rfl, h, _⟩
 ·unfold restB stepsB stepsL
  rw [h, List.filter_cons]
  simp only [if_true]
  split
  ·rw [List.map_cons, ha]; rfl
  ·rfl
 ·unfold restB stepsB stepsL
  rw [h, List.filter_cons]
  simp only [if_true]
  split
  ·simp [ha]
  ·rfl
theorem good_not {a : ByteArray} : good a.data.toList = (!(a.toList == []) && !(a.toList == [46])) := by
 unfold good
 rw [Lib.toList_data]
theorem grown_drewN (w : World) (n : Nat) : w.grownBy (w.drewN n) none := ⟨rfl, rfl, rfl, Nat.le_refl _, fun _ _ _ => rfl⟩

def toGo (l m : Value) : Nat := match l, m with
 | .string s, .bool true => s.size + 1
 | _, _ => 0

set_option maxRecDepth 100000 in
set_option maxHeartbeats 2000000 in
theorem iter_any (n : Nat) (hn : 1 ≤ n) (l Bn n₀ : Nat) (s : ByteArray) (hs : s.size ≤ 100000000) (J Jx : List ByteArray → World → Prop) (W : World)
  (hJ : AbidesFrom W.heap.size J)
  (hY : ∀ pre x W1, J pre W1 → pre.length < (stepsB s).length → YieldAt Fence.wide (n - 1) Tryz.prog l #[.string x] W1 fun e W' =>
   (e = .returned (.bool true) ∧ J (pre ++ [x]) W' ∧ Below n₀ W1 W') ∨ (e = .returned (.bool false) ∧ Jx (pre ++ [x]) W'))
  (hBn : W.cell? ⟨Bn, 0, none⟩ = some (.string s)) (h0 : J [] W) :
  CallsIn Fence.wide n Tryz.prog 59 #[.func (.yield l) #[] #[], .pointer (some ⟨Bn, 0, none⟩)] W fun e W' => (∃ v, e = .returned v) ∧
   ((∃ ys, ys = stepsB s ∧ J ys W') ∨ (∃ pre, pre <+: stepsB s ∧ Jx pre W')) := by
 have HY := Lib.hid hY
 have HJ := Lib.hid hJ
 clear hY hJ
 refine callsIn_of_wp Tryz.func59 rfl trivial ?_ rfl
 simp only [Tryz.ntmps59, List.size_toArray, List.length_cons, List.length_nil, Nat.reduceAdd, Nat.reduceSub, Array.replicate_succ, Array.replicate_zero, List.push_toArray, List.append_toArray, List.nil_append, List.cons_append]
 gi_wp2
 gi_loopw [3, 4] (fun p m wr => ∃ (pre : List ByteArray) (left : ByteArray) (more : Bool), p = .string left ∧ m = .bool more ∧ left.size ≤ 100000000 ∧ Hid (stepsB s = pre ++ restB more left) ∧ Hid (J pre wr))
  (fun p m _ => toGo p m)
 case atStart =>
  exact ⟨[], s, true, rfl, rfl, hs, Lib.hid rfl, Lib.hid h0⟩
 case round =>
  obtain ⟨pre, left, more, rfl, rfl, hl, HS, HJs⟩ := hrel
  cases more with
  | false =>
   gi_wp2
   go_end0
   exact ⟨⟨_, rfl⟩, .inl ⟨pre, by have := HS.out; simp [restB] at this; exact this.symm, HJs.out⟩⟩
  | true =>
   gi_wp2_with fail
   refine ⟨trivial, ?_⟩
   refine (callsIn_wide.2 (cut_any left _ hl)).mono ?_
   rintro e w1 ⟨a, b, f, rfl, HC, HN⟩
   obtain ⟨k, rfl⟩ := HN.out
   have HR := Lib.hid (rest_cut HC.out)
   have HB : Hid (b.size ≤ 100000000 ∧ toGo (.string b) (.bool f) < left.size + 1) := Lib.hid (by
    rcases HC.out with ⟨rfl, _, h⟩ | ⟨rfl, _, h⟩
    ·exact ⟨by omega, by simp [toGo]; omega⟩
    ·exact ⟨by omega, by simp [toGo]⟩)
   have HJ2 : Hid (J pre (wr.drewN k)) := Lib.hid (HJ.out pre wr _ none HJs.out (grown_drewN _ _) (fun r e => by cases e))
   clear HN HC
   by_cases hg : good a.data.toList = true
   ·obtain ⟨fn, tmps, assign, body, hy, hR⟩ := HY.out pre a (wr.drewN k) HJ2.out (by rw [HS.out, HR.out, if_pos hg]; simp)
    have HR2 : Hid (restB true left = [a] ++ restB f b) := Lib.hid (by rw [HR.out, if_pos hg])
    rw [good_not, Bool.and_eq_true, Bool.not_eq_true', Bool.not_eq_true'] at hg
    obtain ⟨h1, h2⟩ := hg
    have h3 : a.toList.isEmpty = false := by
     cases e : a.toList with
     | nil => rw [e] at h1; cases h1
     | cons x y => rfl
    have h4 : a.toList ≠ [] := by
     intro e
     rw [e] at h1
     cases h1
    gi_wp2
    refine hR.mono ?_
    rintro e W3 (⟨rfl, hJ3, hk3⟩ | ⟨rfl, hJx3⟩)
    ·gi_wp2
     go_roundw
     case rel => exact ⟨pre ++ [a], b, f, rfl, rfl, HB.out.1, Lib.hid (by rw [HS.out, HR2.out]; simp), Lib.hid hJ3⟩
     case measure => exact HB.out.2
    ·gi_wp2
     refine bodyPost_ret (results_none rfl _ _ _) rfl ?_
     exact ⟨⟨_, rfl⟩, .inr ⟨pre ++ [a], ⟨restB f b, by rw [HS.out, HR2.out]; simp⟩, hJx3⟩⟩
   ·have HR2 : Hid (restB true left = restB f b) := Lib.hid (by rw [HR.out, if_neg hg]; rfl)
    have hg' : a.toList = [] ∨ a.toList = [46] := by
     rw [good_not] at hg
     cases h1 : a.toList == [] with
     | true => exact .inl (by simpa using h1)
     | false =>
      cases h2 : a.toList == [46] with
      | true => exact .inr (by simpa using h2)
      | false => rw [h1, h2] at hg; exact absurd rfl hg
    clear hg
    rcases hg' with h1 | h1
    ·gi_wp2
     refine ⟨fun _ h => (by cases h), ?_⟩
     gi_wp2
     go_roundw
     case rel => exact ⟨pre, b, f, rfl, rfl, HB.out.1, Lib.hid (by rw [HS.out, HR2.out]), HJ2⟩
     case measure => exact HB.out.2
    ·gi_wp2
     refine ⟨fun _ h => (by cases h), ?_⟩
     gi_wp2
     go_roundw
     case rel => exact ⟨pre, b, f, rfl, rfl, HB.out.1, Lib.hid (by rw [HS.out, HR2.out]), HJ2⟩
     case measure => exact HB.out.2
end Go.Proofs.YtfilbknnpjbmcaaGreatDoor
/- The builder's writing methods, laid by names: this dump's copyCheck ends in a stop, and names no string. -/
namespace Go.Proofs
open Go.Shelf
def Tryz.bl167_ren : Go.Shelf.Ren := ⟨fun | 167 => 36 | 240 => 67 | 276 => 100 | n => n, fun | 70 => 76 | 72 => 79 | 164 => 146 | 37 => 77 | 75 => 81 | 80 => 85 | 0 => 0 | 4 => 4 | 5 => 5 | 9 => 9 | 20 => 20 | n => n, fun | n => n⟩
theorem Tryz.bl167 : Go.Proofs.Lays.n167 Tryz.prog Tryz.bl167_ren := {
 mixed := by kernel_rfl
 f167 := Tryz.func36.trans (congrArg some (by kernel_rfl))
 f240 := Tryz.func67.trans (congrArg some (by kernel_rfl))
 f276 := Tryz.func100.trans (congrArg some (by kernel_rfl))
 t0 := Tryz.underlying0
 a0 := Tryz.isAgg0
 z0 := Tryz.sizeOf0
 v0 := Tryz.zeroValue0
 t4 := Tryz.underlying4
 a4 := Tryz.isAgg4
 z4 := Tryz.sizeOf4
 v4 := Tryz.zeroValue4
 t5 := Tryz.underlying5
 a5 := Tryz.isAgg5
 z5 := Tryz.sizeOf5
 v5 := Tryz.zeroValue5
 t9 := Tryz.underlying9
 a9 := Tryz.isAgg9
 z9 := Tryz.sizeOf9
 v9 := Tryz.zeroValue9
 t20 := Tryz.underlying20
 a20 := Tryz.isAgg20
 z20 := Tryz.sizeOf20
 v20 := Tryz.zeroValue20
 t37 := Tryz.underlying77
 a37 := Tryz.isAgg77
 z37 := Tryz.sizeOf77
 v37 := Tryz.zeroValue77
 t70 := Tryz.underlying76
 a70 := Tryz.isAgg76
 z70 := Tryz.sizeOf76
 v70 := Tryz.zeroValue76
 t72 := Tryz.underlying79
 a72 := Tryz.isAgg79
 z72 := Tryz.sizeOf79
 v72 := Tryz.zeroValue79
 t75 := Tryz.underlying81
 a75 := Tryz.isAgg81
 z75 := Tryz.sizeOf81
 v75 := Tryz.zeroValue81
 t164 := Tryz.underlying146
 a164 := Tryz.isAgg146
 z164 := Tryz.sizeOf146
 v164 := Tryz.zeroValue146 }
theorem Tryz.bl167_extra : Builder.Extra Tryz.prog Tryz.bl167_ren := {
 sizeBuilder := by kernel_rfl
 liesBuilder := by kernel_rfl
 t5 := Tryz.underlying5
 a5 := Tryz.isAgg5
 z5 := Tryz.sizeOf5
 v5 := Tryz.zeroValue5
 infoByte := by kernel_rfl
 cellsByte := by kernel_rfl
 sizeByte := by kernel_rfl
 neB5 := by decide }
open Go.RowKit in
theorem Tryz.writeByte_any (B b : Nat) (bs : List Value) (c : Int) (w : World) (h : Lib.IsBuilder 79 5 B b bs w) (hlen : bs.length + 1 ≤ 140737488355328) (hBw : B ≤ w.heap.size) :
  Calls Tryz.prog 36 #[.pointer (some ⟨b, 0, none⟩), .int .u8 c] w fun e w' => e = .returned .nilIface ∧ (Lib.BuilderAt 79 5 B b (.pointer (some ⟨b, 0, none⟩)) (bs ++ [.int .u8 c]) w' ∧ Below B w w') := Any.Builder_WriteByte Tryz.bl167 Tryz.bl167_extra B b bs c w h hlen hBw
def Tryz.bl166_ren : Go.Shelf.Ren := ⟨fun | 166 => 37 | 240 => 67 | 276 => 100 | n => n, fun | 70 => 76 | 72 => 79 | 164 => 146 | 37 => 77 | 75 => 81 | 80 => 85 | 0 => 0 | 3 => 3 | 4 => 4 | 5 => 5 | 9 => 9 | 20 => 20 | n => n, fun | n => n⟩
theorem Tryz.bl166 : Go.Proofs.Lays.n166 Tryz.prog Tryz.bl166_ren := {
 mixed := by kernel_rfl
 f166 := Tryz.func37.trans (congrArg some (by kernel_rfl))
 f240 := Tryz.func67.trans (congrArg some (by kernel_rfl))
 f276 := Tryz.func100.trans (congrArg some (by kernel_rfl))
 t0 := Tryz.underlying0
 a0 := Tryz.isAgg0
 z0 := Tryz.sizeOf0
 v0 := Tryz.zeroValue0
 t3 := Tryz.underlying3
 a3 := Tryz.isAgg3
 z3 := Tryz.sizeOf3
 v3 := Tryz.zeroValue3
 t4 := Tryz.underlying4
 a4 := Tryz.isAgg4
 z4 := Tryz.sizeOf4
 v4 := Tryz.zeroValue4
 t9 := Tryz.underlying9
 a9 := Tryz.isAgg9
 z9 := Tryz.sizeOf9
 v9 := Tryz.zeroValue9
 t20 := Tryz.underlying20
 a20 := Tryz.isAgg20
 z20 := Tryz.sizeOf20
 v20 := Tryz.zeroValue20
 t37 := Tryz.underlying77
 a37 := Tryz.isAgg77
 z37 := Tryz.sizeOf77
 v37 := Tryz.zeroValue77
 t70 := Tryz.underlying76
 a70 := Tryz.isAgg76
 z70 := Tryz.sizeOf76
 v70 := Tryz.zeroValue76
 t72 := Tryz.underlying79
 a72 := Tryz.isAgg79
 z72 := Tryz.sizeOf79
 v72 := Tryz.zeroValue79
 t75 := Tryz.underlying81
 a75 := Tryz.isAgg81
 z75 := Tryz.sizeOf81
 v75 := Tryz.zeroValue81
 t164 := Tryz.underlying146
 a164 := Tryz.isAgg146
 z164 := Tryz.sizeOf146
 v164 := Tryz.zeroValue146 }
theorem Tryz.bl166_extra : Builder.Extra Tryz.prog Tryz.bl166_ren := {
 sizeBuilder := by kernel_rfl
 liesBuilder := by kernel_rfl
 t5 := Tryz.underlying5
 a5 := Tryz.isAgg5
 z5 := Tryz.sizeOf5
 v5 := Tryz.zeroValue5
 infoByte := by kernel_rfl
 cellsByte := by kernel_rfl
 sizeByte := by kernel_rfl
 neB5 := by decide }
open Go.RowKit in
theorem Tryz.writeString_any (B b : Nat) (bs : List Value) (s : ByteArray) (w : World) (h : Lib.IsBuilder 79 5 B b bs w) (hlen : bs.length + s.size ≤ 140737488355328) (hBw : B ≤ w.heap.size) :
  Calls Tryz.prog 37 #[.pointer (some ⟨b, 0, none⟩), .string s] w fun e w' => e = .returned (.tuple #[.int .i64 s.size, .nilIface]) ∧ (Lib.BuilderAt 79 5 B b (.pointer (some ⟨b, 0, none⟩)) (bs ++ Lib.strCells s) w' ∧ Below B w w') := Any.Builder_WriteString Tryz.bl166 Tryz.bl166_extra B b bs s w h hlen hBw
end Go.Proofs
/- The shelf's contracts of strings.LastIndexByte and strings.HasPrefix at this dump. -/
namespace Go.Proofs
open Go.Shelf
def Tryz.lays169_ren : Go.Shelf.Ren := ⟨fun | 169 => 38 | n => n, fun | 70 => 76 | 9 => 9 | 0 => 0 | 72 => 79 | 37 => 77 | 127 => 112 | 3 => 3 | 5 => 5 | n => n, fun | n => n⟩
theorem Tryz.lays169 : Go.Proofs.Lays.n169 Tryz.prog Tryz.lays169_ren := {
 mixed := by kernel_rfl
 f169 := Tryz.func38.trans (congrArg some (by kernel_rfl))
 t0 := Tryz.underlying0
 a0 := Tryz.isAgg0
 z0 := Tryz.sizeOf0
 v0 := Tryz.zeroValue0
 t3 := Tryz.underlying3
 a3 := Tryz.isAgg3
 z3 := Tryz.sizeOf3
 v3 := Tryz.zeroValue3
 t9 := Tryz.underlying9
 a9 := Tryz.isAgg9
 z9 := Tryz.sizeOf9
 v9 := Tryz.zeroValue9
 t37 := Tryz.underlying77
 a37 := Tryz.isAgg77
 z37 := Tryz.sizeOf77
 v37 := Tryz.zeroValue77
 t70 := Tryz.underlying76
 a70 := Tryz.isAgg76
 z70 := Tryz.sizeOf76
 v70 := Tryz.zeroValue76
 t72 := Tryz.underlying79
 a72 := Tryz.isAgg79
 z72 := Tryz.sizeOf79
 v72 := Tryz.zeroValue79
 t127 := Tryz.underlying112
 a127 := Tryz.isAgg112
 z127 := Tryz.sizeOf112
 v127 := Tryz.zeroValue112 }
theorem Tryz.Builder_Extra_169 : Builder.Extra Tryz.prog Tryz.lays169_ren := {
 sizeBuilder := by kernel_rfl
 liesBuilder := by kernel_rfl
 t5 := Tryz.underlying5
 a5 := Tryz.isAgg5
 z5 := Tryz.sizeOf5
 v5 := Tryz.zeroValue5
 infoByte := by kernel_rfl
 cellsByte := by kernel_rfl
 sizeByte := by kernel_rfl
 neB5 := by decide }
open Go.RowKit in
theorem Tryz.Builder_String_any (B b : Nat) (l : List UInt8) (w : World) (h : Lib.IsBuilder 79 5 B b (Lib.byteCells l) w) (hBw : B ≤ w.heap.size) :
  Calls Tryz.prog 38 #[.pointer (some ⟨b, 0, none⟩)] w fun e w' => e = .returned (.string ⟨l.toArray⟩) ∧ Below B w w' := Any.Builder_String_any Tryz.lays169 Tryz.Builder_Extra_169 B b l w h hBw
def Tryz.lays222_ren : Go.Shelf.Ren := ⟨fun | 222 => 101 | n => n, fun | 9 => 9 | 5 => 5 | 3 => 3 | 4 => 4 | n => n, fun | n => n⟩
def Tryz.lays149_ren : Go.Shelf.Ren := ⟨fun | 149 => 70 | 222 => 101 | n => n, fun | 9 => 9 | 5 => 5 | 3 => 3 | 4 => 4 | n => n, fun | n => n⟩
theorem Tryz.lays149 : Go.Proofs.Lays.n149 Tryz.prog Tryz.lays149_ren := {
 mixed := by kernel_rfl
 f149 := Tryz.func70.trans (congrArg some (by kernel_rfl))
 f222 := Tryz.func101.trans (congrArg some (by kernel_rfl))
 t3 := Tryz.underlying3
 a3 := Tryz.isAgg3
 z3 := Tryz.sizeOf3
 v3 := Tryz.zeroValue3
 t4 := Tryz.underlying4
 a4 := Tryz.isAgg4
 z4 := Tryz.sizeOf4
 v4 := Tryz.zeroValue4
 t5 := Tryz.underlying5
 a5 := Tryz.isAgg5
 z5 := Tryz.sizeOf5
 v5 := Tryz.zeroValue5
 t9 := Tryz.underlying9
 a9 := Tryz.isAgg9
 z9 := Tryz.sizeOf9
 v9 := Tryz.zeroValue9 }
open Go.RowKit Go.Lib in
theorem Tryz.strings_LastIndexByte (s : ByteArray) (c : Int) (hs : s.size < 4611686018427387904) (w : World) :
  Calls Tryz.prog 70 #[.string s, .int .u8 c] w fun e w' => e = .returned (.int .i64 (Lib.lastIndexByte s c)) ∧ w' = w := Any.strings_LastIndexByte Tryz.lays149 s c hs w
def Tryz.lays206_ren : Go.Shelf.Ren := ⟨fun | 206 => 138 | n => n, fun | 9 => 9 | 4 => 4 | 3 => 3 | n => n, fun | n => n⟩
def Tryz.lays99_ren : Go.Shelf.Ren := ⟨fun | 99 => 136 | 206 => 138 | n => n, fun | 9 => 9 | 4 => 4 | 3 => 3 | n => n, fun | n => n⟩
theorem Tryz.lays99 : Go.Proofs.Lays.n99 Tryz.prog Tryz.lays99_ren := {
 mixed := by kernel_rfl
 f99 := Tryz.func136.trans (congrArg some (by kernel_rfl))
 f206 := Tryz.func138.trans (congrArg some (by kernel_rfl))
 t3 := Tryz.underlying3
 a3 := Tryz.isAgg3
 z3 := Tryz.sizeOf3
 v3 := Tryz.zeroValue3
 t4 := Tryz.underlying4
 a4 := Tryz.isAgg4
 z4 := Tryz.sizeOf4
 v4 := Tryz.zeroValue4
 t9 := Tryz.underlying9
 a9 := Tryz.isAgg9
 z9 := Tryz.sizeOf9
 v9 := Tryz.zeroValue9 }
open Go.RowKit Go.Lib in
theorem Tryz.strings_HasPrefix (s p : ByteArray) (w : World) :
  Calls Tryz.prog 136 #[.string s, .string p] w fun e w' => e = .returned (.bool (Lib.hasPrefix s.data.toList p.data.toList)) ∧ w' = w := Any.strings_HasPrefix Tryz.lays99 s p w
end Go.Proofs
