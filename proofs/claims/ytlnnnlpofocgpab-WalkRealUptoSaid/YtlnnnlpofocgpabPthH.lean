/- Walks: Clean, over the iterator. -/
import Derived.Test.YtlnnnlpofocgpabPthG
namespace Go.Proofs.Ytlnnnlpofocgpab
open Go.RowKit Go.Shelf Px

attribute [local go_sem] Oper.semAt_some

def cleanStepB (out : List ByteArray) (p : ByteArray) : List ByteArray := if p.toList = [46, 46] then out.dropLast else out ++ [p]
def cleanBs (l : List ByteArray) : List ByteArray := l.foldl cleanStepB []
theorem cleanBs_up {pre : List ByteArray} {x : ByteArray} (h : x.toList = [46, 46]) : cleanBs (pre ++ [x]) = (cleanBs pre).dropLast := by
  unfold cleanBs
  rw [List.foldl_append]
  show cleanStepB _ x = _
  rw [cleanStepB, if_pos h]
theorem cleanBs_down {pre : List ByteArray} {x : ByteArray} (h : ¬ x.toList = [46, 46]) : cleanBs (pre ++ [x]) = cleanBs pre ++ [x] := by
  unfold cleanBs
  rw [List.foldl_append]
  show cleanStepB _ x = _
  rw [cleanStepB, if_neg h]
theorem cleanBs_map (l : List Px.B) : cleanBs (l.map fun l => ⟨l.toArray⟩) = (cleanL l).map fun l => ⟨l.toArray⟩ := by
  have key : ∀ (l r : List Px.B), (l.map fun l => (⟨l.toArray⟩ : ByteArray)).foldl cleanStepB (r.map fun l => ⟨l.toArray⟩) = (l.foldl cleanStep r).map fun l => ⟨l.toArray⟩ := by
    intro l
    induction l with
    | nil => intro r; rfl
    | cons p l ih =>
      intro r
      rw [List.map_cons, List.foldl_cons, List.foldl_cons, ← ih]
      congr 1
      unfold cleanStepB cleanStep
      rw [Lib.toList_data]
      by_cases h : p = [46, 46]
      · rw [if_pos (by simpa using h), if_pos h, List.map_dropLast]
      · rw [if_neg (by simpa using h), if_neg h, List.map_append]
        rfl
  exact key l []
theorem cleanBs_len (l : List ByteArray) : (cleanBs l).length ≤ l.length := by
  have key : ∀ (l r : List ByteArray), (l.foldl cleanStepB r).length ≤ r.length + l.length := by
    intro l
    induction l with
    | nil => intro r; simp
    | cons p l ih =>
      intro r
      have h1 := ih (cleanStepB r p)
      have h2 : (cleanStepB r p).length ≤ r.length + 1 := by
        unfold cleanStepB
        split
        · rw [List.length_dropLast]; omega
        · simp
      simp only [List.foldl_cons, List.length_cons]
      omega
  have := key l []
  simpa [cleanBs] using this

theorem owns_shrink {W : World} {base : Nat} {e : TypeId} {g k cap : Nat} {xs : List Value} (h : W.ownsRow base e 1 (.slice (some ⟨g, 0, none⟩) (k + 1) cap) (k + 1) xs) :
    W.ownsRow base e 1 (.slice (some ⟨g, 0, none⟩) k cap) k xs.dropLast := by
  obtain ⟨h1, h2⟩ := h
  refine ⟨by rw [List.length_dropLast, h1]; omega, ?_⟩
  rcases h2 with ⟨_, h2⟩ | ⟨g', cap', cur, hv, hg, hh, hn, hm, hc, ht⟩
  · omega
  · obtain ⟨rfl, rfl⟩ : g = g' ∧ cap = cap' := by simpa using hv
    refine .inr ⟨g, cap, cur, rfl, hg, hh, by omega, hm, hc, ?_⟩
    rw [← ht, List.dropLast_eq_take, List.take_take]
    congr 1
    rw [List.length_take, Array.length_toList, hc]
    omega

set_option maxRecDepth 100000 in
set_option maxHeartbeats 4000000 in
theorem clean_own (s : ByteArray) (hs : s.size ≤ 100000000) (w : World) :
    Calls Try.prog 13 #[.string s] w fun e W' => ∃ v, e = .returned v ∧ W'.ownsRow w.heap.size 9 1 v (cleanBs (stepsB s)).length ((cleanBs (stepsB s)).map Value.string) ∧ Below w.heap.size w W' := by
  have hN : (stepsB s).length ≤ 100000001 := Nat.le_trans (stepsB_len s) (by omega)
  obtain ⟨i0, hi, hz0, hz1, hz2⟩ := info_parts infoStr
  refine (callsIn_wide (n := 3)).1 ?_
  refine callsIn_of_wp_marks Try.func13 rfl trivial ?_ rfl
  simp only [Try.ntmps13, List.size_toArray, List.length_cons, List.length_nil, Nat.reduceAdd, Nat.reduceSub, Array.replicate_succ, Array.replicate_zero, List.push_toArray, List.append_toArray, List.nil_append, List.cons_append]
  gi_wp2_with (first
    | (refine ⟨trivial, ?_⟩; gi_at_call 30; refine (callsIn_wide.2 (clone_any s _ hs)).mono ?_; rintro e w2 ⟨rfl, hb2⟩)
    | (refine ⟨trivial, ?_⟩; gi_at_call 29; refine (callsIn_wide.2 (stepsOf_any s _)).mono ?_; rintro e w3 ⟨rfl, rfl⟩))
  have bO : Boxed w2 w.heap.size 22 (.slice none 0 0) := boxed_below (by simpa using hb2) (Boxed.new w 22 (.slice none 0 0))
  have bN := Boxed.new w2 9 (.string s)
  have hlt2 : w.heap.size + 1 ≤ w2.heap.size := by have := hb2.size; simpa using this
  have hB0 : Below w.heap.size w (w2.alloc (.cells #[.string s] 9)) := (((Below.refl _ w).alloc (Nat.le_refl _) _).trans (hb2.mono (by simp))).alloc (by omega) _
  refine wpIn_rangeFunc_ownG rfl (by omega) (gf := 41) (lb := #[.pointer (some ⟨w2.heap.size, 0, none⟩)]) rfl trivial (enters_of Try.func41 (by kernel_rfl) rfl)
    (iter_stops (3 - 1) (by omega) w2.heap.size w.heap.size s hs _ (by simp) bN.cell) belowK_t (belowK_b (by simp; omega)) (Below.refl _ _) (fun _ => rfl)
    (fun pre W => (∃ v, Boxed W w.heap.size 22 v ∧ W.ownsRow w.heap.size 9 1 v (cleanBs pre).length ((cleanBs pre).map Value.string) ∧ True) ∧ Below w.heap.size w W)
    (fun _ _ _ => False)
    (OwnFrom.and (Own.from (holdsRow_own w.heap.size w.heap.size 22 9 1 (fun pre : List ByteArray => (cleanBs pre).length) (fun pre => (cleanBs pre).map Value.string) (fun _ _ => True)) _) (ownFrom_below (Nat.le_refl _) (by simp; omega)))
    (fun _ _ _ _ _ hs _ _ => hs)
    ⟨⟨_, bO.alloc _, World.ownsRow_nil _ _ _ _, trivial⟩, hB0⟩
    (fun x => { tmps := #[.string s, undef, .slice none 0 0, .pointer (some ⟨w.heap.size, 0, none⟩), .string x, .string s, .string s, .func (.func 41) #[] #[.pointer (some ⟨w2.heap.size, 0, none⟩)], .string x, undef, undef, undef, undef, undef, undef, undef, undef, undef, undef, undef, undef, undef, undef, undef], defers := [] }) ?assign ?body ?done ?stop
  case assign =>
    intro l x W K hK
    gi_wp2
    exact hK
  case body =>
    rintro l pre x W ⟨⟨v, hv, hrow, _⟩, hB⟩ hlt
    have hcl := cleanBs_len pre
    have hc := hv.cell
    by_cases hx : x.toList = [46, 46]
    · have HU := Lib.hid (cleanBs_up (pre := pre) hx)
      have hx2 : (x.toList == [46, 46]) = true := by simp [hx]
      clear hx
      generalize cleanBs pre = cp at hrow hcl HU
      cases hk : cp.length with
      | zero =>
        obtain rfl : cp = [] := List.length_eq_zero_iff.1 hk
        clear hk
        rcases hrow.2 with ⟨rfl, _⟩ | ⟨g, cap, cur, rfl, _⟩
        · gi_wp2
          exact ⟨KeepsFrom.refl _ _, Below.refl _ _, ⟨_, hv, by rw [HU.out]; exact hrow, trivial⟩, hB⟩
        · gi_wp2
          exact ⟨KeepsFrom.refl _ _, Below.refl _ _, ⟨_, hv, by rw [HU.out]; exact hrow, trivial⟩, hB⟩
      | succ k =>
        rw [hk] at hrow hcl
        have HK := Lib.hid hk
        clear hk
        obtain ⟨g, cap, rfl⟩ := ownsRow_succ hrow
        have hcap : k + 1 ≤ cap ∧ cap ≤ maxLen := by
          rcases hrow.2 with ⟨h, _⟩ | ⟨_, _, _, h, _, _, h1, h2, _⟩
          · cases h
          · obtain ⟨_, rfl⟩ : _ ∧ cap = _ := by simpa using h
            exact ⟨h1, h2⟩
        obtain ⟨hcap1, hcap2⟩ := hcap
        unfold maxLen at hcap2
        have HR := Lib.hid (owns_shrink hrow)
        have hf := hv.frozen
        have hkk : k ≤ 100000001 := by omega
        gi_wp2
        have hv2 := hv.set (.slice (some ⟨g, 0, none⟩) k cap)
        refine ⟨(KeepsOthers.setCell _ _ _).from _, (Below.refl w.heap.size W).setCell (p := ⟨w.heap.size, 0, none⟩) (Nat.le_refl _) _, ⟨_, hv2, ?_, trivial⟩, hB.setCell (p := ⟨w.heap.size, 0, none⟩) (Nat.le_refl _) _⟩
        have hr3 := HR.out.kept (grownBy_setCell' W w.heap.size (.slice (some ⟨g, 0, none⟩) k cap)) (.inr (hv.not_row (by decide) HR.out).symm)
        rw [HU.out, List.length_dropLast, HK.out, List.map_dropLast]
        exact hr3
    · have HU := Lib.hid (cleanBs_down (pre := pre) hx)
      have hx2 : (x.toList == [46, 46]) = false := by simpa using hx
      clear hx
      generalize cleanBs pre = cp at hrow hcl HU
      gi_wp2_with (gi_at_builtin; refine wpListIn_append_own _ rfl _ _ 22 rfl w.heap.size 9 i0 (.string ⟨#[]⟩) 1 16 Try.underlying22 hi hz0 hz1 hz2 rfl (by decide) _ _ _ rfl (hrow.alloc _) ⟨W.heap.size, 0, none⟩ 1 1 [.string x] rfl rfl (cell_one_new _ _ _) (by simp [Value.oneCell']) (by unfold maxLen; omega) (by omega) (by have := hB.size; simp; omega) ?_; intro v' w1 hown' hgrow _; obtain ⟨g', cap', rfl⟩ := ownsRow_succ hown'; obtain ⟨hv1, hv2, hr2, hk2, hb2'⟩ := hv.appended (by decide) hrow hB.size (Nat.le_refl _) hown' hgrow; have hc1 := hv1.cell; have hf1 := hv1.frozen)
      exact ⟨hk2.from _, hb2', ⟨_, hv2, by rw [HU.out]; simpa using hr2, trivial⟩, hB.trans hb2'⟩
  case done =>
    rintro D ys W hD rfl ⟨⟨v, hv, hrow, _⟩, hB⟩ hK
    have hc := hv.cell
    gi_wp2
    refine ⟨by simp, .inl ⟨_, _, rfl, run_takeDeferred hK, ?_⟩⟩
    exact ⟨_, results_tmp rfl _ _ _, v, rfl, ownsRow_putObj hrow _ hK rfl, hB.trans (belowK_b (w := w) (Nat.le_refl _) W D _ _ (by simp at hD; omega) hK rfl rfl)⟩
  case stop =>
    rintro D c pre W _ _ h _
    exact h.elim
end Go.Proofs.Ytlnnnlpofocgpab
