/- Walks: Steps and Clean, over the iterator. -/
import Derived.Test.YtfilbknnpjbmcaaGreatKa07
import Derived.Test.YtfilbknnpjbmcaaGreatKa07
import Derived.Test.YtfilbknnpjbmcaaGreatKa12
import Derived.RangeFuncBox
import Derived.Test.YtfilbknnpjbmcaaGreatKa11
import Derived.Test.YtfilbknnpjbmcaaGreatKa10
import Derived.Test.YtfilbknnpjbmcaaGreatKa04
namespace Go.Proofs.YtfilbknnpjbmcaaGreat
open Go.RowKit Go.Shelf Px

attribute [local go_sem] Oper.semAt_some

theorem stepsOf_any (s : ByteArray) (w : World) :
    Calls Tryz.prog 69 #[.string s] w fun e w' => e = .returned (.func (.func 76) #[] #[.pointer (some ⟨w.heap.size, 0, none⟩)]) ∧ w' = w.alloc (.cells #[.string s] 9) := by
  go_enter Tryz.func69, Tryz.ntmps69
  go_wp2
  go_ret
  exact ⟨rfl, rfl⟩

theorem iter_stops (n : Nat) (hn : 1 ≤ n) (Bn n₀ : Nat) (s : ByteArray) (hs : s.size ≤ 100000000) (w : World) (hBn : Bn < w.heap.size) (hc : w.cell? ⟨Bn, 0, none⟩ = some (.string s)) :
    SeqStopsK Fence.wide n Tryz.prog 76 #[.pointer (some ⟨Bn, 0, none⟩)] (fun x : ByteArray => #[Value.string x]) (Below n₀) (fun ys => ys = stepsB s) (fun pre => pre <+: stepsB s) (stepsB s).length w := fun l J Jx W hW hJ _ hY h0 =>
  iter_any n hn l Bn n₀ s hs J Jx W hJ hY ((hW.cell (p := ⟨Bn, 0, none⟩) hBn).trans hc) h0

theorem infoStr : (Tryz.prog.info? 9).map (fun i => (i.zero, i.size, i.bytes)) = some (some (.string ⟨#[]⟩), 1, 16) := by kernel_rfl
theorem stepsB_len (s : ByteArray) : (stepsB s).length ≤ s.size + 1 := by
  unfold stepsB
  rw [List.length_map, Lib.size_eq]
  exact steps_len _
theorem boxed_below {w w' : World} {t : TypeId} {v : Value} {B : Nat} (hb : Below (B + 1) w w') (h : Boxed w B t v) : Boxed w' B t v := by
  unfold Boxed at *
  rw [hb.block B (Nat.lt_succ_self _)]
  exact h

set_option maxRecDepth 100000 in
set_option maxHeartbeats 4000000 in
theorem steps_own (s : ByteArray) (hs : s.size ≤ 100000000) (w : World) :
    Calls Tryz.prog 60 #[.string s] w fun e W' => ∃ v, e = .returned v ∧ W'.ownsRow w.heap.size 9 1 v (stepsB s).length ((stepsB s).map Value.string) ∧ Below w.heap.size w W' := by
  have hN : (stepsB s).length ≤ 100000001 := Nat.le_trans (stepsB_len s) (by omega)
  obtain ⟨i0, hi, hz0, hz1, hz2⟩ := info_parts infoStr
  refine (callsIn_wide (n := 3)).1 ?_
  refine callsIn_of_wp_marks Tryz.func60 rfl trivial ?_ rfl
  simp only [Tryz.ntmps60, List.size_toArray, List.length_cons, List.length_nil, Nat.reduceAdd, Nat.reduceSub, Array.replicate_succ, Array.replicate_zero, List.push_toArray, List.append_toArray, List.nil_append, List.cons_append]
  gi_wp2_with (first
    | (refine ⟨trivial, ?_⟩; gi_at_call 26; refine (callsIn_wide.2 (clone_any s _ hs)).mono ?_; rintro e w2 ⟨rfl, hb2⟩)
    | (refine ⟨trivial, ?_⟩; gi_at_call 69; refine (callsIn_wide.2 (stepsOf_any s _)).mono ?_; rintro e w3 ⟨rfl, rfl⟩))
  have bO : Boxed w2 w.heap.size 22 (.slice none 0 0) := boxed_below (by simpa using hb2) (Boxed.new w 22 (.slice none 0 0))
  have bN := Boxed.new w2 9 (.string s)
  have hlt2 : w.heap.size + 1 ≤ w2.heap.size := by have := hb2.size; simpa using this
  have hB0 : Below w.heap.size w (w2.alloc (.cells #[.string s] 9)) := (((Below.refl _ w).alloc (Nat.le_refl _) _).trans (hb2.mono (by simp))).alloc (by omega) _
  refine wpIn_rangeFunc_ownG rfl (by omega) (gf := 76) (lb := #[.pointer (some ⟨w2.heap.size, 0, none⟩)]) rfl trivial (enters_of Tryz.func76 (by kernel_rfl) rfl)
    (iter_stops (3 - 1) (by omega) w2.heap.size w.heap.size s hs _ (by simp) bN.cell) belowK_t (belowK_b (by simp; omega)) (Below.refl _ _) (fun _ => rfl)
    (fun pre W => (∃ v, Boxed W w.heap.size 22 v ∧ W.ownsRow w.heap.size 9 1 v pre.length (pre.map Value.string) ∧ True) ∧ Below w.heap.size w W)
    (fun _ _ _ => False)
    (OwnFrom.and (Own.from (holdsRow_own w.heap.size w.heap.size 22 9 1 (fun pre : List ByteArray => pre.length) (fun pre => pre.map Value.string) (fun _ _ => True)) _) (ownFrom_below (Nat.le_refl _) (by simp; omega)))
    (fun _ _ _ _ _ hs _ _ => hs)
    ⟨⟨_, bO.alloc _, World.ownsRow_nil _ _ _ _, trivial⟩, hB0⟩
    (fun x => { tmps := #[.string s, undef, .slice none 0 0, .pointer (some ⟨w.heap.size, 0, none⟩), .string x, .string s, .string s, .func (.func 76) #[] #[.pointer (some ⟨w2.heap.size, 0, none⟩)], .string x, undef, undef, undef, undef, undef], defers := [] }) ?assign ?body ?done ?stop
  case assign =>
    intro l x W K hK
    gi_wp2
    exact hK
  case body =>
    rintro l pre x W ⟨⟨v, hv, hrow, _⟩, hB⟩ hlt
    have hc := hv.cell
    gi_wp2_with (gi_at_builtin; refine wpListIn_append_own _ rfl _ _ 22 rfl w.heap.size 9 i0 (.string ⟨#[]⟩) 1 16 Tryz.underlying22 hi hz0 hz1 hz2 rfl (by decide) _ _ _ rfl (hrow.alloc _) ⟨W.heap.size, 0, none⟩ 1 1 [.string x] rfl rfl (cell_one_new _ _ _) (by simp [Value.oneCell']) (by unfold maxLen; omega) (by omega) (by have := hB.size; simp; omega) ?_; intro v' w1 hown' hgrow _; obtain ⟨g', cap', rfl⟩ := ownsRow_succ hown'; obtain ⟨hv1, hv2, hr2, hk2, hb2'⟩ := hv.appended (by decide) hrow hB.size (Nat.le_refl _) hown' hgrow; have hc1 := hv1.cell; have hf1 := hv1.frozen)
    exact ⟨hk2.from _, hb2', ⟨_, hv2, by simpa using hr2, trivial⟩, hB.trans hb2'⟩
  case done =>
    rintro D ys W hD rfl ⟨⟨v, hv, hrow, _⟩, hB⟩ hK
    have hc := hv.cell
    gi_wp2
    refine ⟨by simp, .inl ⟨_, _, rfl, run_takeDeferred hK, ?_⟩⟩
    exact ⟨_, results_tmp rfl _ _ _, v, rfl, ownsRow_putObj hrow _ hK rfl, hB.trans (belowK_b (w := w) (Nat.le_refl _) W D _ _ (by simp at hD; omega) hK rfl rfl)⟩
  case stop =>
    rintro D c pre W _ _ h _
    exact h.elim
end Go.Proofs.YtfilbknnpjbmcaaGreat
/- Walks: Clean, over the iterator. -/
namespace Go.Proofs.YtfilbknnpjbmcaaGreat
open Go.RowKit Go.Shelf Px

attribute [local go_sem] Oper.semAt_some

def cleanStepB (out : List ByteArray) (p : ByteArray) : List ByteArray := if p.toList = [46, 46] then out.dropLast else out ++ [p]
def cleanBs (l : List ByteArray) : List ByteArray := l.foldl cleanStepB []
theorem cleanBs_up {pre : List ByteArray} {x : ByteArray} (h : x.toList = [46, 46]) : cleanBs (pre ++ [x]) = (cleanBs pre).dropLast := by
  unfold cleanBs
  rw [List.foldl_append]
  show cleanStepB _ x = _
  rw [cleanStepB, if_pos h]
theorem cleanBs_down {pre : List ByteArray} {x : ByteArray} (h : ¬ x.toList = [46, 46]) : cleanBs (pre ++ [x]) = cleanBs pre ++ [x] := by
  unfold cleanBs
  rw [List.foldl_append]
  show cleanStepB _ x = _
  rw [cleanStepB, if_neg h]
theorem cleanBs_map (l : List Px.B) : cleanBs (l.map fun l => ⟨l.toArray⟩) = (cleanL l).map fun l => ⟨l.toArray⟩ := by
  have key : ∀ (l r : List Px.B), (l.map fun l => (⟨l.toArray⟩ : ByteArray)).foldl cleanStepB (r.map fun l => ⟨l.toArray⟩) = (l.foldl cleanStep r).map fun l => ⟨l.toArray⟩ := by
    intro l
    induction l with
    | nil => intro r; rfl
    | cons p l ih =>
      intro r
      rw [List.map_cons, List.foldl_cons, List.foldl_cons, ← ih]
      congr 1
      unfold cleanStepB cleanStep
      rw [Lib.toList_data]
      by_cases h : p = [46, 46]
      · rw [if_pos (by simpa using h), if_pos h, List.map_dropLast]
      · rw [if_neg (by simpa using h), if_neg h, List.map_append]
        rfl
  exact key l []
theorem cleanBs_len (l : List ByteArray) : (cleanBs l).length ≤ l.length := by
  have key : ∀ (l r : List ByteArray), (l.foldl cleanStepB r).length ≤ r.length + l.length := by
    intro l
    induction l with
    | nil => intro r; simp
    | cons p l ih =>
      intro r
      have h1 := ih (cleanStepB r p)
      have h2 : (cleanStepB r p).length ≤ r.length + 1 := by
        unfold cleanStepB
        split
        · rw [List.length_dropLast]; omega
        · simp
      simp only [List.foldl_cons, List.length_cons]
      omega
  have := key l []
  simpa [cleanBs] using this

theorem owns_shrink {W : World} {base : Nat} {e : TypeId} {g k cap : Nat} {xs : List Value} (h : W.ownsRow base e 1 (.slice (some ⟨g, 0, none⟩) (k + 1) cap) (k + 1) xs) :
    W.ownsRow base e 1 (.slice (some ⟨g, 0, none⟩) k cap) k xs.dropLast := by
  obtain ⟨h1, h2⟩ := h
  refine ⟨by rw [List.length_dropLast, h1]; omega, ?_⟩
  rcases h2 with ⟨_, h2⟩ | ⟨g', cap', cur, hv, hg, hh, hn, hm, hc, ht⟩
  · omega
  · obtain ⟨rfl, rfl⟩ : g = g' ∧ cap = cap' := by simpa using hv
    refine .inr ⟨g, cap, cur, rfl, hg, hh, by omega, hm, hc, ?_⟩
    rw [← ht, List.dropLast_eq_take, List.take_take]
    congr 1
    rw [List.length_take, Array.length_toList, hc]
    omega

end Go.Proofs.YtfilbknnpjbmcaaGreat
/- Walks: the last piece of a path, whether it asks for a directory, its last name. -/
namespace Go.Proofs.YtfilbknnpjbmcaaGreat
open Go.RowKit Px

theorem lastPiece_any (s : ByteArray) (w : World) (hs : s.size ≤ 100000) :
    Calls Tryz.prog 70 #[.string s] w fun e w' => ∃ q : ByteArray, e = .returned (.string q) ∧ Hid (q.data.toList = lastP s.data.toList) ∧ w = w' := by
  have hge := lastIndex_ge s
  by_cases h : Lib.lastIndexByte s 47 = -1
  · have HV := Lib.hid (lastP_noindex h)
    have HI := Lib.hid h
    clear h hge
    go_enter Tryz.func70, Tryz.ntmps70
    go_wp2_with (go_at_call 78; refine (Tryz.strings_LastIndexByte s 47 (by omega) _).mono ?_; rintro e w' ⟨rfl, rfl⟩; rw [HI.out])
    go_ret
    refine ⟨_, rfl, Lib.hid ?_, rfl⟩
    rw [HV.out]
  · obtain ⟨o, ho⟩ : ∃ o : Nat, Lib.lastIndexByte s 47 = o := ⟨(Lib.lastIndexByte s 47).toNat, by omega⟩
    obtain ⟨h1, hlt⟩ := lastP_index ho
    have HV := Lib.hid h1
    have HI := Lib.hid ho
    clear h hge ho h1
    go_enter Tryz.func70, Tryz.ntmps70
    go_wp2_with (go_at_call 78; refine (Tryz.strings_LastIndexByte s 47 (by omega) _).mono ?_; rintro e w' ⟨rfl, rfl⟩; rw [HI.out])
    go_ret
    refine ⟨_, rfl, Lib.hid ?_, rfl⟩
    rw [HV.out, Lib.extract_data, List.take_of_length_le (by rw [List.length_drop, ← Lib.size_eq]; exact Nat.le_refl _)]

theorem dir_any (s : ByteArray) (w : World) (hs : s.size ≤ 100000) :
    Calls Tryz.prog 61 #[.string s] w fun e w' => e = .returned (.bool (dirL s.data.toList)) ∧ w = w' := by
  go_enter Tryz.func61, Tryz.ntmps61
  go_wp2_with fail
  refine (lastPiece_any s w hs).mono ?_
  rintro e w' ⟨q, rfl, HQ, rfl⟩
  have HV : Hid (dirL s.data.toList = ((q.toList == [] && !(s.toList == [])) || q.toList == [46] || q.toList == [46, 46])) := Lib.hid (by
    unfold dirL
    rw [Lib.toList_data q, HQ.out, Lib.toList_data s])
  rcases four_ways q with h | h | h | ⟨h1, h2, h3⟩
  · have HV2 : Hid (dirL s.data.toList = !(s.toList == [])) := Lib.hid (by rw [HV.out, h]; simp)
    by_cases hs0 : s.toList = []
    · go_wp2
      go_ret
      exact ⟨ret_bool (by rw [HV2.out, hs0]; rfl), rfl⟩
    · have he := full_list hs0
      go_wp2
      go_ret
      exact ⟨ret_bool (by rw [HV2.out]; simp [hs0]), rfl⟩
  · have HV2 : Hid (dirL s.data.toList = true) := Lib.hid (by rw [HV.out, h]; simp)
    go_wp2
    go_ret
    exact ⟨ret_bool HV2.out.symm, rfl⟩
  · have HV2 : Hid (dirL s.data.toList = true) := Lib.hid (by rw [HV.out, h]; simp)
    go_wp2
    go_ret
    exact ⟨ret_bool HV2.out.symm, rfl⟩
  · have HV2 : Hid (dirL s.data.toList = false) := Lib.hid (by rw [HV.out, h2, h3, show (q.toList == []) = false from beq_eq_false_iff_ne.2 h1]; rfl)
    have he := full_list h1
    go_wp2
    go_ret
    exact ⟨ret_bool HV2.out.symm, rfl⟩

/-- What the last name of a path is told as. -/
def LastAt (s : ByteArray) (e : Ending) : Prop :=
  ∃ q : ByteArray, e = .returned (.tuple #[.string q, .bool (nameL (lastF s.data.toList))]) ∧ q.data.toList = if nameL (lastF s.data.toList) then lastF s.data.toList else []

end Go.Proofs.YtfilbknnpjbmcaaGreat
