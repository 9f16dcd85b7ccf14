/- Walks: what is wrong with a path. -/
import Derived.Test.YtfilbknnpjbmcaaGreatDoorKb05
import Derived.Shelf.Strings.Trim
import Derived.Shelf.Strings.Search3
namespace Go.Proofs.YtfilbknnpjbmcaaGreatDoor
open Go.RowKit Go.Shelf Px

attribute [local go_sem] Oper.semAt_some

def okStep (x : ByteArray) : Bool := x.toList == [46, 46] || nameL x.data.toList
theorem steps_ok (s : ByteArray) : ((stepsL s.data.toList).all fun p => p == [46, 46] || nameL p) = (stepsB s).all okStep := by
 unfold stepsB
 rw [List.all_map]
 congr 1
 funext p
 show _ = okStep ⟨p.toArray⟩
 unfold okStep
 rw [Lib.toList_data]
theorem check_empty {s : ByteArray} (h : s.toList = []) : checkL s.data.toList = 4 := by
 rw [Lib.toList_data] at h
 rw [h]
 rfl
theorem check_zero {s : ByteArray} (h : (s.data.toList.any fun c => c == 0) = true) : checkL s.data.toList = 4 := by
 unfold checkL
 rw [h]
 rfl
theorem check_else {s : ByteArray} (h : ¬ s.toList = []) (h0 : (s.data.toList.any fun c => c == 0) = false) :
  checkL s.data.toList = if 256 < s.size then 40 else if (stepsB s).all okStep then 0 else 4 := by
 rw [Lib.toList_data] at h
 unfold checkL
 rw [h0, show (s.data.toList == []) = false from beq_eq_false_iff_ne.2 h, ← Lib.size_eq, steps_ok]
 rfl
theorem contains_zero (s : ByteArray) : decide (0 ≤ Lib.indexByte s.data.toList 0) = s.data.toList.any fun c => c == 0 := by
 rw [← Lib.contains_iff_indexByte]
 induction s.data.toList with
 | nil => rfl
 | cons x l ih =>
  rw [List.contains_cons, List.any_cons, ih]
  congr 1
  cases h : (0 == x) with
  | true => rw [beq_iff_eq] at h; rw [← h]; rfl
  | false => rw [beq_eq_false_iff_ne] at h; exact (beq_eq_false_iff_ne.2 (Ne.symm h)).symm
theorem all_pre {pre l : List ByteArray} (h : pre <+: l) (hf : pre.all okStep = false) : l.all okStep = false := by
 obtain ⟨r, rfl⟩ := h
 rw [List.all_append, hf]
 rfl
theorem keeps_below {B : Nat} {W W' : World} (h : Below W.heap.size W W') : KeepsFrom B W W' :=
 ⟨h.size, fun k o _ hk _ => by rw [h.block k (Array.getElem?_eq_some_iff.1 hk).1]; exact hk⟩
theorem boxed_after {W W' : World} {B : Nat} {t : TypeId} {v : Value} (hb : Below W.heap.size W W') (h : Boxed W B t v) : Boxed W' B t v := by
 have h1 := h.lt
 unfold Boxed at *
 rw [hb.block B h1]
 exact h

set_option maxRecDepth 100000 in
set_option maxHeartbeats 4000000 in
theorem check_any (s : ByteArray) (hs : s.size ≤ 100000) (w : World) :
  Calls Tryz.prog 16 #[.string s] w fun e w' => e = .returned (.int .i64 (checkL s.data.toList)) ∧ Hid (Below w.heap.size w w') := by
 by_cases h : s.toList = []
 ·have HV := Lib.hid (check_empty h)
  go_enter Tryz.func16, Tryz.ntmps16
  go_wp2_with fail
  exact bodyPost_ret (v := .int .i64 4) (by simp [results, Tryz.results16, go_sem]) rfl ⟨by rw [HV.out]; rfl, Lib.hid ((Below.refl _ w).alloc (Nat.le_refl _) _)⟩
 ·have he := full_list h
  have HC := Lib.hid (contains_zero s)
  cases h0 : (s.data.toList.any fun c => c == 0) with
  | true =>
   have HV := Lib.hid (check_zero h0)
   rw [h0] at HC
   clear h0
   go_enter Tryz.func16, Tryz.ntmps16
   go_wp2_with fail
   refine (Tryz.strings_Contains_one s 0 _).mono ?_
   rintro e w' ⟨rfl, rfl⟩
   rw [HC.out]
   go_wp2_with fail
   exact bodyPost_ret (v := .int .i64 4) (by simp [results, Tryz.results16, go_sem]) rfl ⟨by rw [HV.out]; rfl, Lib.hid ((Below.refl _ w).alloc (Nat.le_refl _) _)⟩
  | false =>
   have HV := Lib.hid (check_else h h0)
   rw [h0] at HC
   clear h0
   by_cases h256 : 256 < s.size
   ·have HV2 : Hid (checkL s.data.toList = 40) := Lib.hid (by rw [HV.out, if_pos h256])
    clear HV
    go_enter Tryz.func16, Tryz.ntmps16
    go_wp2_with fail
    refine (Tryz.strings_Contains_one s 0 _).mono ?_
    rintro e w' ⟨rfl, rfl⟩
    rw [HC.out]
    go_wp2_with fail
    exact bodyPost_ret (v := .int .i64 40) (by simp [results, Tryz.results16, go_sem]) rfl ⟨by rw [HV2.out]; rfl, Lib.hid ((Below.refl _ w).alloc (Nat.le_refl _) _)⟩
   ·have HV2 : Hid (checkL s.data.toList = if (stepsB s).all okStep then 0 else 4) := Lib.hid (by rw [HV.out, if_neg h256])
    have h256' : s.size ≤ 256 := by omega
    have h12 : decide ((256 : Int) < (s.size : Int)) = false := decide_eq_false (by omega)
    clear HV h256
    refine (callsIn_wide (n := 3)).1 ?_
    refine callsIn_of_wp_marks Tryz.func16 rfl trivial ?_ rfl
    simp only [Tryz.ntmps16, List.size_toArray, List.length_cons, List.length_nil, Nat.reduceAdd, Nat.reduceSub, Array.replicate_succ, Array.replicate_zero, List.push_toArray, List.append_toArray, List.nil_append, List.cons_append]
    gi_wp2_with (first
     | (refine ⟨trivial, ?_⟩; gi_at_call 32; refine (callsIn_wide.2 (Tryz.strings_Contains_one s 0 _)).mono ?_; rintro e w' ⟨rfl, rfl⟩; rw [HC.out])
     | (refine ⟨trivial, ?_⟩; gi_at_call 33; refine (callsIn_wide.2 (stepsOf_any s _)).mono ?_; rintro e w3 ⟨rfl, rfl⟩))
    have bO := Boxed.new w 29 (.int .i64 0)
    have bN := Boxed.new (w.alloc (.cells #[.int .i64 0] 29)) 9 (.string s)
    rw [World.size_alloc] at bN
    have hB0 : Below w.heap.size w ((w.alloc (.cells #[.int .i64 0] 29)).alloc (.cells #[.string s] 9)) := ((Below.refl _ w).alloc (Nat.le_refl _) _).alloc (by simp) _
    refine wpIn_rangeFunc_ownG rfl (by omega) (gf := 59) (lb := #[.pointer (some ⟨w.heap.size + 1, 0, none⟩)]) rfl trivial (enters_of Tryz.func59 (by kernel_rfl) rfl)
     (iter_stops (3 - 1) (by omega) (w.heap.size + 1) w.heap.size s (by omega) _ (by simp) bN.cell) belowK_t (belowK_b (by simp; omega)) (Below.refl _ _) (fun _ => rfl)
     (fun pre W => (Boxed W w.heap.size 29 (.int .i64 0) ∧ pre.all okStep = true) ∧ Below w.heap.size w W)
     (fun c pre W => (Boxed W w.heap.size 29 (.int .i64 4) ∧ (pre.all okStep = false ∧ c = .ret)) ∧ Below w.heap.size w W)
     (OwnFrom.and (OwnFrom.and (Own.from (boxed_own w.heap.size 29 (fun _ : List ByteArray => .int .i64 0)) _) (ownFrom_pure _ _)) (ownFrom_below (Nat.le_refl _) (by simp; omega)))
     (fun c => OwnFrom.and (OwnFrom.and (Own.from (boxed_own w.heap.size 29 (fun _ : List ByteArray => .int .i64 4)) _) (ownFrom_pure _ _)) (ownFrom_below (Nat.le_refl _) (by simp; omega)))
     ⟨⟨bO.alloc _, rfl⟩, hB0⟩
     (fun x => { tmps := #[.string s, undef, .pointer (some ⟨w.heap.size, 0, none⟩), .string x, .string s, .bool false, .bool false, .string s, .bool false, .bool false, .string s, .int .i64 s.size, .bool false, .string s, .func (.func 59) #[] #[.pointer (some ⟨w.heap.size + 1, 0, none⟩)], .string x, undef, undef, undef, undef, undef, undef, undef], defers := [] }) ?assign ?body ?done ?stop
    case assign =>
     intro l x W K hK
     gi_wp2
     exact hK
    case body =>
     rintro l pre x W ⟨⟨hv, hall⟩, hB⟩ hlt
     have hc := hv.cell
     have hf := hv.frozen
     have HALL := Lib.hid hall
     clear hall
     by_cases hx : x.toList = [46, 46]
     ·have HX : Hid (okStep x = true) := Lib.hid (by unfold okStep; rw [hx]; rfl)
      gi_wp2
      first
       | exact ⟨KeepsFrom.refl _ _, Below.refl _ _, ⟨hv, by rw [List.all_append, HALL.out]; simp [HX.out]⟩, hB⟩
       | (refine ⟨trivial, ?_⟩; gi_wp2; exact ⟨KeepsFrom.refl _ _, Below.refl _ _, ⟨hv, by rw [List.all_append, HALL.out]; simp [HX.out]⟩, hB⟩)
     ·have hx2 : (x.toList == [46, 46]) = false := by simpa using hx
      have HX : Hid (okStep x = nameL x.data.toList) := Lib.hid (by unfold okStep; rw [hx2]; rfl)
      clear hx
      gi_wp2_with fail
      refine ⟨trivial, ?_⟩
      refine (CallsIn.inRound l (callsIn_wide.2 (name_any x _))).mono ?_
      rintro e w2 ⟨rfl, hb2⟩
      have hv2 := boxed_after hb2 hv
      have hc2 := hv2.cell
      have hf2 := hv2.frozen
      have hB2 : Below w.heap.size w w2 := below_next hB hb2
      have hk2 : KeepsFrom ((w.alloc (.cells #[.int .i64 0] 29)).alloc (.cells #[.string s] 9)).heap.size W w2 := keeps_below hb2
      cases hn : nameL x.data.toList with
      | true =>
       rw [hn] at HX
       clear hn
       gi_wp2
       exact ⟨hk2, hb2.mono hB.size, ⟨hv2, by rw [List.all_append, HALL.out]; simp [HX.out]⟩, hB2⟩
      | false =>
       rw [hn] at HX
       clear hn
       gi_wp2
       exact ⟨hk2.trans ((KeepsOthers.setCell _ _ _).from _), ⟨hv2.set _, by rw [List.all_append, HALL.out]; simp [HX.out], rfl⟩, hB2.setCell (p := ⟨w.heap.size, 0, none⟩) (Nat.le_refl _) _⟩
    case done =>
     rintro D ys W hD rfl ⟨⟨hv, hall⟩, hB⟩ hK
     have HALL := Lib.hid hall
     clear hall
     have hc := hv.cell
     have hf := hv.frozen
     gi_wp2
     have hK' := (KeepsOthers.setCell W ⟨w.heap.size, 0, none⟩ (.int .i64 0)).same D _ hK rfl
     refine ⟨by simp, .inl ⟨_, _, rfl, run_takeDeferred hK', ?_⟩⟩
     have hc5 := cell_kept (hv.set (.int .i64 0)).cell (grownBy_putObj' _ D (.deferred none)) (fun r e => by cases e; exact ⟨_, hK', rfl⟩)
     refine ⟨.int .i64 0, ?_, by rw [HV2.out, if_pos HALL.out]; rfl, Lib.hid ((hB.setCell (p := ⟨w.heap.size, 0, none⟩) (Nat.le_refl _) _).trans (belowK_b (w := w) (Nat.le_refl _) _ D _ _ (by simp at hD; omega) hK' rfl rfl))⟩
     simp [results, Tryz.results16, go_sem, hc5]
    case stop =>
     rintro D c pre W hD hpre ⟨⟨hv, hall, rfl⟩, hB⟩ hK
     have HALL := Lib.hid (all_pre hpre hall)
     clear hall
     gi_wp2
     refine ⟨by simp, .inl ⟨_, _, rfl, run_takeDeferred hK, ?_⟩⟩
     have hc5 := cell_kept hv.cell (grownBy_putObj' _ D (.deferred none)) (fun r e => by cases e; exact ⟨_, hK, rfl⟩)
     refine ⟨.int .i64 4, ?_, by rw [HV2.out, HALL.out]; rfl, Lib.hid (hB.trans (belowK_b (w := w) (Nat.le_refl _) W D _ _ (by simp at hD; omega) hK rfl rfl))⟩
     simp [results, Tryz.results16, go_sem, hc5]
end Go.Proofs.YtfilbknnpjbmcaaGreatDoor
/- Walks: a path's last name (path.Last), with what the shelf says of strings.TrimRight. -/
namespace Go.Proofs
open Go Go.Shelf
def Tryz.lays162_ren : Go.Shelf.Ren := ⟨fun | 162 => 42 | 232 => 71 | 227 => 72 | 234 => 73 | 236 => 74 | 228 => 102 | 271 => 103 | 151 => 104 | 120 => 127 | 197 => 128 | 152 => 124 | 260 => 137 | 137 => 112 | 119 => 135 | 224 => 122 | 225 => 121 | 217 => 120 | 266 => 133 | n => n, fun | 9 => 9 | 4 => 4 | 3 => 3 | 5 => 5 | 117 => 118 | 116 => 117 | 0 => 0 | 124 => 121 | 21 => 21 | 105 => 148 | 46 => 123 | 119 => 171 | 139 => 174 | 138 => 173 | n => n, fun | 3 => 1 | 4 => 2 | n => n⟩
theorem Tryz.lays162 : Go.Proofs.Lays.n162 Tryz.prog Tryz.lays162_ren := {
 mixed := by kernel_rfl
 f119 := Tryz.func135.trans (congrArg some (by kernel_rfl))
 f120 := Tryz.func127.trans (congrArg some (by kernel_rfl))
 f137 := Tryz.func112.trans (congrArg some (by kernel_rfl))
 f151 := Tryz.func104.trans (congrArg some (by kernel_rfl))
 f152 := Tryz.func124.trans (congrArg some (by kernel_rfl))
 f162 := Tryz.func42.trans (congrArg some (by kernel_rfl))
 f197 := Tryz.func128.trans (congrArg some (by kernel_rfl))
 f217 := Tryz.func120.trans (congrArg some (by kernel_rfl))
 f224 := Tryz.func122.trans (congrArg some (by kernel_rfl))
 f225 := Tryz.func121.trans (congrArg some (by kernel_rfl))
 f227 := Tryz.func72.trans (congrArg some (by kernel_rfl))
 f228 := Tryz.func102.trans (congrArg some (by kernel_rfl))
 f232 := Tryz.func71.trans (congrArg some (by kernel_rfl))
 f234 := Tryz.func73.trans (congrArg some (by kernel_rfl))
 f236 := Tryz.func74.trans (congrArg some (by kernel_rfl))
 f260 := Tryz.func137.trans (congrArg some (by kernel_rfl))
 f266 := Tryz.func133.trans (congrArg some (by kernel_rfl))
 f271 := Tryz.func103.trans (congrArg some (by kernel_rfl))
 t0 := Tryz.underlying0
 a0 := Tryz.isAgg0
 z0 := Tryz.sizeOf0
 v0 := Tryz.zeroValue0
 t3 := Tryz.underlying3
 a3 := Tryz.isAgg3
 z3 := Tryz.sizeOf3
 v3 := Tryz.zeroValue3
 t4 := Tryz.underlying4
 a4 := Tryz.isAgg4
 z4 := Tryz.sizeOf4
 v4 := Tryz.zeroValue4
 t5 := Tryz.underlying5
 a5 := Tryz.isAgg5
 z5 := Tryz.sizeOf5
 v5 := Tryz.zeroValue5
 t9 := Tryz.underlying9
 a9 := Tryz.isAgg9
 z9 := Tryz.sizeOf9
 v9 := Tryz.zeroValue9
 t21 := Tryz.underlying21
 a21 := Tryz.isAgg21
 z21 := Tryz.sizeOf21
 v21 := Tryz.zeroValue21
 t46 := Tryz.underlying123
 a46 := Tryz.isAgg123
 z46 := Tryz.sizeOf123
 v46 := Tryz.zeroValue123
 t105 := Tryz.underlying148
 a105 := Tryz.isAgg148
 z105 := Tryz.sizeOf148
 v105 := Tryz.zeroValue148
 t116 := Tryz.underlying117
 a116 := Tryz.isAgg117
 z116 := Tryz.sizeOf117
 t117 := Tryz.underlying118
 a117 := Tryz.isAgg118
 z117 := Tryz.sizeOf118
 v117 := Tryz.zeroValue118
 t119 := Tryz.underlying171
 a119 := Tryz.isAgg171
 z119 := Tryz.sizeOf171
 t124 := Tryz.underlying121
 a124 := Tryz.isAgg121
 z124 := Tryz.sizeOf121
 v124 := Tryz.zeroValue121
 t138 := Tryz.underlying173
 a138 := Tryz.isAgg173
 z138 := Tryz.sizeOf173
 v138 := Tryz.zeroValue173
 t139 := Tryz.underlying174
 a139 := Tryz.isAgg174
 z139 := Tryz.sizeOf174
 v139 := Tryz.zeroValue174
 g3 := by kernel_rfl
 g4 := by kernel_rfl }
open Go.RowKit in
theorem Tryz.strings_TrimRight_one (s : ByteArray) (c : UInt8) (hc : c.toNat < 128) (w : World) (hs : s.size ≤ 9223372036854775807) :
  Calls Tryz.prog 42 #[.string s, .string ⟨#[c]⟩] w fun e w' => e = .returned (.string ⟨(Lib.trimRightB s.data.toList c).toArray⟩) ∧ w' = w := Any.strings_TrimRight_one Tryz.lays162 s c hc w hs
end Go.Proofs
namespace Go.Proofs.YtfilbknnpjbmcaaGreatDoor
open Go.RowKit Px
theorem last_any (s : ByteArray) (w : World) (hs : s.size ≤ 100000) :
  Calls Tryz.prog 26 #[.string s] w fun e w' => LastAt s e ∧ Hid (Below w.heap.size w w') := by
 go_enter Tryz.func26, Tryz.ntmps26
 go_wp2_with fail
 refine (Tryz.strings_TrimRight_one s 47 (by decide) _ (by omega)).mono ?_
 rintro e w' ⟨rfl, rfl⟩
 obtain ⟨tr, htr⟩ : ∃ tr : ByteArray, tr = ⟨(Lib.trimRightB s.data.toList 47).toArray⟩ := ⟨_, rfl⟩
 have HT : Hid (tr.data.toList = trimL s.data.toList) := Lib.hid (by rw [htr]; simp [trimL])
 rw [← htr]
 clear htr
 have hts : tr.size ≤ 100000 := by
  have h1 := trim_size s.data.toList
  rw [← HT.out, ← Lib.size_eq, ← Lib.size_eq] at h1
  omega
 go_wp2_with fail
 refine (lastPiece_any tr _ hts).mono ?_
 rintro e w' ⟨q, rfl, HQ, rfl⟩
 have HF : Hid (lastF s.data.toList = q.data.toList) := Lib.hid (by rw [HQ.out, HT.out]; rfl)
 have hqs : q.size ≤ 100000 := by
  have h1 := lastP_size tr.data.toList
  rw [← HQ.out, ← Lib.size_eq, ← Lib.size_eq] at h1
  omega
 clear HQ HT
 go_wp2_with fail
 refine (name_any q _).mono ?_
 rintro e w2 ⟨rfl, hb2⟩
 have HB2 := Lib.hid hb2
 clear hb2
 cases hn : nameL q.data.toList with
 | false =>
  have HN := Lib.hid hn
  clear hn
  go_wp2
  exact bodyPost_ret (v := .tuple #[.string ⟨#[]⟩, .bool false]) (by simp [results, Tryz.results26, go_sem]) rfl ⟨⟨⟨#[]⟩, by rw [HF.out, HN.out], by rw [HF.out, HN.out]; rfl⟩, HB2⟩
 | true =>
  have HN := Lib.hid hn
  clear hn
  go_wp2_with fail
  refine (clone_any q _ (by omega)).mono ?_
  rintro e w3 ⟨rfl, hb3⟩
  have HB3 := Lib.hid (below_next HB2.out hb3)
  clear hb3
  go_wp2
  exact bodyPost_ret (v := .tuple #[.string q, .bool true]) (by simp [results, Tryz.results26, go_sem]) rfl ⟨⟨q, by rw [HF.out, HN.out], by rw [HF.out, HN.out]; rfl⟩, HB3⟩
end Go.Proofs.YtfilbknnpjbmcaaGreatDoor
