/- Walks: a text cut at its first slash; the iterator over a path's steps. -/
import Derived.Test.YtfilbknnpjbmcaaGreatKa01
import Derived.Test.YtfilbknnpjbmcaaGreatKa04
import Derived.RangeFuncNested
import Derived.RangeFuncBound
import Derived.RangeFuncCalls
import Derived.RangeFuncLeaves
import Derived.Shelf.Abstract
import Derived.Shelf.RegionOpen
import Derived.OwnWalkIn
import Derived.TacticsInMore
import Derived.LoopNIn
import Derived.LoopIn
import Derived.Maps.AppendAt
import Derived.Lib.IndexLaws
namespace Go.Proofs.YtfilbknnpjbmcaaGreat
open Go.RowKit Go.Shelf Px

attribute [local go_sem] Oper.semAt_some

/-- Where the first slash is. -/
theorem pieces_at {l : Px.B} {o : Nat} (h : Lib.indexByte l 47 = o) : pieces l = l.take o :: pieces (l.drop (o + 1)) ∧ (∀ x ∈ l.take o, x ≠ 47) ∧ o < l.length := by
  obtain ⟨h1, h2⟩ := Lib.indexByte_some h
  have hlt : o < l.length := (List.getElem?_eq_some_iff.1 h1).1
  have hf : ∀ x ∈ l.take o, x ≠ 47 := by
    intro x hx e
    obtain ⟨k, hk, hk2⟩ := List.mem_iff_getElem.1 hx
    rw [List.length_take] at hk
    have := h2 k (by omega)
    apply this
    rw [List.getElem_take] at hk2
    rw [List.getElem?_eq_getElem (by omega), hk2, e]
  refine ⟨?_, hf, hlt⟩
  have hsplit : l = l.take o ++ 47 :: l.drop (o + 1) := by
    have h3 : l[o] = 47 := by
      have := List.getElem?_eq_getElem hlt
      rw [this] at h1
      simpa using h1
    rw [← h3, ← List.drop_eq_getElem_cons hlt, List.take_append_drop]
  have h4 : pieces l = pieces (l.take o ++ 47 :: l.drop (o + 1)) := congrArg pieces hsplit
  rw [h4, pieces_join, pieces_none _ hf]
  rfl
theorem pieces_not {l : Px.B} (h : Lib.indexByte l 47 = -1) : pieces l = [l] ∧ ∀ x ∈ l, x ≠ 47 := by
  have hf : ∀ x ∈ l, x ≠ 47 := by
    intro x hx e
    obtain ⟨k, hk, hk2⟩ := List.mem_iff_getElem.1 hx
    apply Lib.indexByte_none h k
    rw [List.getElem?_eq_getElem hk, hk2, e]
  exact ⟨pieces_none l hf, hf⟩

/-- What strings.Cut at a slash gives. -/
def CutAt (s a b : ByteArray) (f : Bool) : Prop :=
  (f = true ∧ pieces s.data.toList = a.data.toList :: pieces b.data.toList ∧ b.size < s.size) ∨ (f = false ∧ pieces s.data.toList = [a.data.toList] ∧ b.size = 0)

set_option maxRecDepth 100000 in
theorem cutLite_any (s : ByteArray) (w : World) (hs : s.size ≤ 100000000) :
    Calls Tryz.prog 88 #[.string s, .string ⟨#[47]⟩] w fun e w' => ∃ a b f, e = .returned (.tuple #[.string a, .string b, .bool f]) ∧ Hid (CutAt s a b f) ∧ Hid (∃ n, w' = w.drewN n) := by
  have mixed := mixed_ok
  by_cases h : Lib.indexByte s.data.toList 47 = -1
  · have HV : Hid (CutAt s s ⟨#[]⟩ false) := Lib.hid (Or.inr ⟨rfl, (pieces_not h).1, rfl⟩)
    have HI := Lib.hid h
    clear h
    go_enter Tryz.func88, Tryz.ntmps88
    go_wp2_with (go_at_call 74; refine (Tryz.stringslite_Index_one s 47 _).mono ?_; rintro e w' ⟨rfl, rfl⟩; rw [HI.out])
    exact bodyPost_ret (v := .tuple #[.string s, .string ⟨#[]⟩, .bool false]) (by simp [results, Tryz.results88, go_sem]) rfl ⟨s, ⟨#[]⟩, false, rfl, HV, Lib.hid ⟨0, rfl⟩⟩
  · have hge := Lib.indexByte_ge s.data.toList 47
    obtain ⟨o, ho⟩ : ∃ o : Nat, Lib.indexByte s.data.toList 47 = o := ⟨(Lib.indexByte s.data.toList 47).toNat, by omega⟩
    obtain ⟨h1, h2, h3⟩ := pieces_at ho
    have hlt : o < s.size := by rw [Lib.size_eq]; exact h3
    have HV : Hid (CutAt s (s.extract 0 o) (s.extract (o + 1) s.size) true) := Lib.hid (Or.inl ⟨rfl, by
      rw [Lib.extract_data, Lib.extract_data, h1]
      simp only [List.drop_zero, Nat.sub_zero]
      rw [List.take_of_length_le (l := s.data.toList.drop (o + 1)) (by rw [List.length_drop, ← Lib.size_eq]; omega)], by rw [ByteArray.size_extract]; omega⟩)
    have HI := Lib.hid ho
    have hle : o + 1 ≤ s.size := hlt
    clear h hge ho h1 h2 h3
    go_enter Tryz.func88, Tryz.ntmps88
    go_wp2_with (go_at_call 74; refine (Tryz.stringslite_Index_one s 47 _).mono ?_; rintro e w' ⟨rfl, rfl⟩; rw [HI.out])
    go_region_o
    go_wp2
    exact bodyPost_ret (v := .tuple #[.string (s.extract 0 o), .string (s.extract (o + 1) s.size), .bool true]) (by simp [results, Tryz.results88, go_sem]) rfl ⟨_, _, true, rfl, HV, Lib.hid ⟨1, rfl⟩⟩

set_option maxRecDepth 100000 in
theorem cut_any (s : ByteArray) (w : World) (hs : s.size ≤ 100000000) :
    Calls Tryz.prog 77 #[.string s, .string ⟨#[47]⟩] w fun e w' => ∃ a b f, e = .returned (.tuple #[.string a, .string b, .bool f]) ∧ Hid (CutAt s a b f) ∧ Hid (∃ n, w' = w.drewN n) := by
  go_enter Tryz.func77, Tryz.ntmps77
  go_wp2_with (go_at_call 88; refine (cutLite_any s _ hs).mono ?_; rintro e w' ⟨a, b, f, rfl, HV, HN⟩)
  exact bodyPost_ret (v := .tuple #[.string a, .string b, .bool f]) (by simp [results, Tryz.results77, go_sem]) rfl ⟨a, b, f, rfl, HV, HN⟩

theorem clone_any (s : ByteArray) (w : World) (hs : s.size ≤ 100000000) :
    Calls Tryz.prog 26 #[.string s] w fun e w' => e = .returned (.string s) ∧ Below w.heap.size w w' := by
  go_enter Tryz.func26, Tryz.ntmps26
  go_wp2_with (go_at_call 41; refine (Tryz.stringslite_Clone s _ (by omega)).mono ?_; rintro e w' ⟨rfl, hb⟩)
  go_ret
  exact ⟨rfl, hb⟩

/-- The steps of a text, as strings. -/
def stepsB (s : ByteArray) : List ByteArray := (stepsL s.data.toList).map fun l => ⟨l.toArray⟩
/-- What is left of them. -/
def restB (more : Bool) (s : ByteArray) : List ByteArray := if more then stepsB s else []
theorem rest_cut {s a b : ByteArray} {f : Bool} (h : CutAt s a b f) : restB true s = (if good a.data.toList then [a] else []) ++ restB f b := by
  have ha : (⟨a.data.toList.toArray⟩ : ByteArray) = a := Lib.mk_data a
  rcases h with ⟨rfl, h, _⟩ | ⟨rfl, h, _⟩
  · unfold restB stepsB stepsL
    rw [h, List.filter_cons]
    simp only [if_true]
    split
    · rw [List.map_cons, ha]; rfl
    · rfl
  · unfold restB stepsB stepsL
    rw [h, List.filter_cons]
    simp only [if_true]
    split
    · simp [ha]
    · rfl
theorem good_not {a : ByteArray} : good a.data.toList = (!(a.toList == []) && !(a.toList == [46])) := by
  unfold good
  rw [Lib.toList_data]
theorem grown_drewN (w : World) (n : Nat) : w.grownBy (w.drewN n) none := ⟨rfl, rfl, rfl, Nat.le_refl _, fun _ _ _ => rfl⟩

/-- What is still to be gone through, for the measure. -/
def toGo (l m : Value) : Nat := match l, m with
  | .string s, .bool true => s.size + 1
  | _, _ => 0

set_option maxRecDepth 100000 in
set_option maxHeartbeats 2000000 in
theorem iter_any (n : Nat) (hn : 1 ≤ n) (l Bn n₀ : Nat) (s : ByteArray) (hs : s.size ≤ 100000000) (J Jx : List ByteArray → World → Prop) (W : World)
    (hJ : AbidesFrom W.heap.size J)
    (hY : ∀ pre x W1, J pre W1 → pre.length < (stepsB s).length → YieldAt Fence.wide (n - 1) Tryz.prog l #[.string x] W1 fun e W' =>
      (e = .returned (.bool true) ∧ J (pre ++ [x]) W' ∧ Below n₀ W1 W') ∨ (e = .returned (.bool false) ∧ Jx (pre ++ [x]) W'))
    (hBn : W.cell? ⟨Bn, 0, none⟩ = some (.string s)) (h0 : J [] W) :
    CallsIn Fence.wide n Tryz.prog 76 #[.func (.yield l) #[] #[], .pointer (some ⟨Bn, 0, none⟩)] W fun e W' => (∃ v, e = .returned v) ∧
      ((∃ ys, ys = stepsB s ∧ J ys W') ∨ (∃ pre, pre <+: stepsB s ∧ Jx pre W')) := by
  have HY := Lib.hid hY
  have HJ := Lib.hid hJ
  clear hY hJ
  refine callsIn_of_wp Tryz.func76 rfl trivial ?_ rfl
  simp only [Tryz.ntmps76, List.size_toArray, List.length_cons, List.length_nil, Nat.reduceAdd, Nat.reduceSub, Array.replicate_succ, Array.replicate_zero, List.push_toArray, List.append_toArray, List.nil_append, List.cons_append]
  gi_wp2
  gi_loopw [3, 4] (fun p m wr => ∃ (pre : List ByteArray) (left : ByteArray) (more : Bool), p = .string left ∧ m = .bool more ∧ left.size ≤ 100000000 ∧ Hid (stepsB s = pre ++ restB more left) ∧ Hid (J pre wr))
    (fun p m _ => toGo p m)
  case atStart =>
    exact ⟨[], s, true, rfl, rfl, hs, Lib.hid rfl, Lib.hid h0⟩
  case round =>
    obtain ⟨pre, left, more, rfl, rfl, hl, HS, HJs⟩ := hrel
    cases more with
    | false =>
      gi_wp2
      go_end0
      exact ⟨⟨_, rfl⟩, .inl ⟨pre, by have := HS.out; simp [restB] at this; exact this.symm, HJs.out⟩⟩
    | true =>
      gi_wp2_with fail
      refine ⟨trivial, ?_⟩
      refine (callsIn_wide.2 (cut_any left _ hl)).mono ?_
      rintro e w1 ⟨a, b, f, rfl, HC, HN⟩
      obtain ⟨k, rfl⟩ := HN.out
      have HR := Lib.hid (rest_cut HC.out)
      have HB : Hid (b.size ≤ 100000000 ∧ toGo (.string b) (.bool f) < left.size + 1) := Lib.hid (by
        rcases HC.out with ⟨rfl, _, h⟩ | ⟨rfl, _, h⟩
        · exact ⟨by omega, by simp [toGo]; omega⟩
        · exact ⟨by omega, by simp [toGo]⟩)
      have HJ2 : Hid (J pre (wr.drewN k)) := Lib.hid (HJ.out pre wr _ none HJs.out (grown_drewN _ _) (fun r e => by cases e))
      clear HN HC
      by_cases hg : good a.data.toList = true
      · obtain ⟨fn, tmps, assign, body, hy, hR⟩ := HY.out pre a (wr.drewN k) HJ2.out (by rw [HS.out, HR.out, if_pos hg]; simp)
        have HR2 : Hid (restB true left = [a] ++ restB f b) := Lib.hid (by rw [HR.out, if_pos hg])
        rw [good_not, Bool.and_eq_true, Bool.not_eq_true', Bool.not_eq_true'] at hg
        obtain ⟨h1, h2⟩ := hg
        have h3 : a.toList.isEmpty = false := by
          cases e : a.toList with
          | nil => rw [e] at h1; cases h1
          | cons x y => rfl
        have h4 : a.toList ≠ [] := by
          intro e
          rw [e] at h1
          cases h1
        gi_wp2
        refine hR.mono ?_
        rintro e W3 (⟨rfl, hJ3, hk3⟩ | ⟨rfl, hJx3⟩)
        · gi_wp2
          go_roundw
          case rel => exact ⟨pre ++ [a], b, f, rfl, rfl, HB.out.1, Lib.hid (by rw [HS.out, HR2.out]; simp), Lib.hid hJ3⟩
          case measure => exact HB.out.2
        · gi_wp2
          refine bodyPost_ret (results_none rfl _ _ _) rfl ?_
          exact ⟨⟨_, rfl⟩, .inr ⟨pre ++ [a], ⟨restB f b, by rw [HS.out, HR2.out]; simp⟩, hJx3⟩⟩
      · have HR2 : Hid (restB true left = restB f b) := Lib.hid (by rw [HR.out, if_neg hg]; rfl)
        have hg' : a.toList = [] ∨ a.toList = [46] := by
          rw [good_not] at hg
          cases h1 : a.toList == [] with
          | true => exact .inl (by simpa using h1)
          | false =>
            cases h2 : a.toList == [46] with
            | true => exact .inr (by simpa using h2)
            | false => rw [h1, h2] at hg; exact absurd rfl hg
        clear hg
        rcases hg' with h1 | h1
        · gi_wp2
          refine ⟨fun _ h => (by cases h), ?_⟩
          gi_wp2
          go_roundw
          case rel => exact ⟨pre, b, f, rfl, rfl, HB.out.1, Lib.hid (by rw [HS.out, HR2.out]), HJ2⟩
          case measure => exact HB.out.2
        · gi_wp2
          refine ⟨fun _ h => (by cases h), ?_⟩
          gi_wp2
          go_roundw
          case rel => exact ⟨pre, b, f, rfl, rfl, HB.out.1, Lib.hid (by rw [HS.out, HR2.out]), HJ2⟩
          case measure => exact HB.out.2
end Go.Proofs.YtfilbknnpjbmcaaGreat
