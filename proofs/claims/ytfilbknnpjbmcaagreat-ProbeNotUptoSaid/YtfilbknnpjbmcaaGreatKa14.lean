/- Steps and Clean, as lists of texts. -/
import Derived.Test.YtfilbknnpjbmcaaGreatKa13
import Derived.Test.YtfilbknnpjbmcaaGreatKa07
import Derived.Test.YtfilbknnpjbmcaaGreatKa04
namespace Go.Proofs.YtfilbknnpjbmcaaGreat
open Go.RowKit Px

theorem steps_pl {w : World} {s : ByteArray} (hs : s.size ≤ 100000000) :
    Calls Tryz.prog 60 #[.string s] w fun e w' => ∃ v, e = .returned v ∧ Hid (PlR w' v (stepsB s)) ∧ Hid (Below w.heap.size w w') :=
  (steps_own s hs w).mono fun _e _w' ⟨v, he, ho, hb⟩ => ⟨v, he, Lib.hid (plR_of_own ho), Lib.hid hb⟩
/-- A place of names, shown and cleaned, is the place. -/
theorem flat_joined : ∀ xs : List ByteArray, joined (xs.map fun x => x.data.toList) = xs.foldr (fun x l => 47 :: (x.data.toList ++ l)) []
  | [] => rfl
  | x :: l => by
    rw [List.map_cons, joined, flat_joined l]
    rfl
theorem back_map (xs : List ByteArray) : ((xs.map fun x => x.data.toList).map fun l => (⟨l.toArray⟩ : ByteArray)) = xs := by
  rw [List.map_map]
  have : ((fun l => (⟨l.toArray⟩ : ByteArray)) ∘ fun x : ByteArray => x.data.toList) = id := by
    funext x
    exact Lib.mk_data x
  rw [this, List.map_id]
/-- Steps of a text that has the steps of another one: cleaned alike. -/
theorem clean_like {a s : ByteArray} (h : stepsL a.data.toList = stepsL s.data.toList) : cleanBs (stepsB a) = cleanBs (stepsB s) := by
  unfold stepsB
  rw [h]
theorem stepB_at {s : ByteArray} {k : Nat} (h : k < (stepsB s).length) :
    (∀ x ∈ ((stepsB s).getD k ByteArray.empty).data.toList, x ≠ 47) ∧ good ((stepsB s).getD k ByteArray.empty).data.toList = true ∧ ((stepsB s).getD k ByteArray.empty).size ≤ s.size := by
  have h' : k < (stepsL s.data.toList).length := by unfold stepsB at h; simpa using h
  have e : (stepsB s).getD k ByteArray.empty = ⟨((stepsL s.data.toList)[k]).toArray⟩ := by
    unfold stepsB
    rw [List.getD_eq_getElem?_getD, List.getElem?_map, List.getElem?_eq_getElem h']
    rfl
  have h1 := steps_mem (List.getElem_mem h')
  rw [e]
  refine ⟨by simpa using h1.1, by simpa using h1.2.1, ?_⟩
  show ((stepsL s.data.toList)[k]).toArray.size ≤ s.size
  rw [List.size_toArray, Lib.size_eq s]
  exact h1.2.2
theorem stepB_snoc {s : ByteArray} {k : Nat} (h : k < (stepsB s).length) : (stepsL s.data.toList).take (k + 1) = (stepsL s.data.toList).take k ++ [((stepsB s).getD k ByteArray.empty).data.toList] := by
  have h' : k < (stepsL s.data.toList).length := by unfold stepsB at h; simpa using h
  rw [List.take_succ_eq_append_getElem h']
  congr 2
  unfold stepsB
  rw [List.getD_eq_getElem?_getD, List.getElem?_map, List.getElem?_eq_getElem h']
  rfl
theorem stepB_all {s : ByteArray} {k : Nat} (h : k = (stepsB s).length) : (stepsL s.data.toList).take k = stepsL s.data.toList := by
  unfold stepsB at h
  rw [List.length_map] at h
  rw [h, List.take_length]
end Go.Proofs.YtfilbknnpjbmcaaGreat
/- Walks: what is wrong with a path. -/
namespace Go.Proofs.YtfilbknnpjbmcaaGreat
open Go.RowKit Go.Shelf Px

attribute [local go_sem] Oper.semAt_some

def okStep (x : ByteArray) : Bool := x.toList == [46, 46] || nameL x.data.toList
theorem steps_ok (s : ByteArray) : ((stepsL s.data.toList).all fun p => p == [46, 46] || nameL p) = (stepsB s).all okStep := by
  unfold stepsB
  rw [List.all_map]
  congr 1
  funext p
  show _ = okStep ⟨p.toArray⟩
  unfold okStep
  rw [Lib.toList_data]
theorem check_empty {s : ByteArray} (h : s.toList = []) : checkL s.data.toList = 4 := by
  rw [Lib.toList_data] at h
  rw [h]
  rfl
theorem check_zero {s : ByteArray} (h : (s.data.toList.any fun c => c == 0) = true) : checkL s.data.toList = 4 := by
  unfold checkL
  rw [h]
  rfl
theorem check_else {s : ByteArray} (h : ¬ s.toList = []) (h0 : (s.data.toList.any fun c => c == 0) = false) :
    checkL s.data.toList = if 256 < s.size then 40 else if (stepsB s).all okStep then 0 else 4 := by
  rw [Lib.toList_data] at h
  unfold checkL
  rw [h0, show (s.data.toList == []) = false from beq_eq_false_iff_ne.2 h, ← Lib.size_eq, steps_ok]
  rfl
theorem contains_zero (s : ByteArray) : decide (0 ≤ Lib.indexByte s.data.toList 0) = s.data.toList.any fun c => c == 0 := by
  rw [← Lib.contains_iff_indexByte]
  induction s.data.toList with
  | nil => rfl
  | cons x l ih =>
    rw [List.contains_cons, List.any_cons, ih]
    congr 1
    cases h : (0 == x) with
    | true => rw [beq_iff_eq] at h; rw [← h]; rfl
    | false => rw [beq_eq_false_iff_ne] at h; exact (beq_eq_false_iff_ne.2 (Ne.symm h)).symm
theorem all_pre {pre l : List ByteArray} (h : pre <+: l) (hf : pre.all okStep = false) : l.all okStep = false := by
  obtain ⟨r, rfl⟩ := h
  rw [List.all_append, hf]
  rfl
theorem keeps_below {B : Nat} {W W' : World} (h : Below W.heap.size W W') : KeepsFrom B W W' :=
  ⟨h.size, fun k o _ hk _ => by rw [h.block k (Array.getElem?_eq_some_iff.1 hk).1]; exact hk⟩
theorem boxed_after {W W' : World} {B : Nat} {t : TypeId} {v : Value} (hb : Below W.heap.size W W') (h : Boxed W B t v) : Boxed W' B t v := by
  have h1 := h.lt
  unfold Boxed at *
  rw [hb.block B h1]
  exact h

set_option maxRecDepth 100000 in
set_option maxHeartbeats 4000000 in
theorem check_any (s : ByteArray) (hs : s.size ≤ 100000) (w : World) :
    Calls Tryz.prog 66 #[.string s] w fun e w' => e = .returned (.int .i64 (checkL s.data.toList)) ∧ Hid (Below w.heap.size w w') := by
  by_cases h : s.toList = []
  · have HV := Lib.hid (check_empty h)
    go_enter Tryz.func66, Tryz.ntmps66
    go_wp2_with fail
    exact bodyPost_ret (v := .int .i64 4) (by simp [results, Tryz.results66, go_sem]) rfl ⟨by rw [HV.out]; rfl, Lib.hid ((Below.refl _ w).alloc (Nat.le_refl _) _)⟩
  · have he := full_list h
    have HC := Lib.hid (contains_zero s)
    cases h0 : (s.data.toList.any fun c => c == 0) with
    | true =>
      have HV := Lib.hid (check_zero h0)
      rw [h0] at HC
      clear h0
      go_enter Tryz.func66, Tryz.ntmps66
      go_wp2_with fail
      refine (Tryz.strings_Contains_one s 0 _).mono ?_
      rintro e w' ⟨rfl, rfl⟩
      rw [HC.out]
      go_wp2_with fail
      exact bodyPost_ret (v := .int .i64 4) (by simp [results, Tryz.results66, go_sem]) rfl ⟨by rw [HV.out]; rfl, Lib.hid ((Below.refl _ w).alloc (Nat.le_refl _) _)⟩
    | false =>
      have HV := Lib.hid (check_else h h0)
      rw [h0] at HC
      clear h0
      by_cases h256 : 256 < s.size
      · have HV2 : Hid (checkL s.data.toList = 40) := Lib.hid (by rw [HV.out, if_pos h256])
        clear HV
        go_enter Tryz.func66, Tryz.ntmps66
        go_wp2_with fail
        refine (Tryz.strings_Contains_one s 0 _).mono ?_
        rintro e w' ⟨rfl, rfl⟩
        rw [HC.out]
        go_wp2_with fail
        exact bodyPost_ret (v := .int .i64 40) (by simp [results, Tryz.results66, go_sem]) rfl ⟨by rw [HV2.out]; rfl, Lib.hid ((Below.refl _ w).alloc (Nat.le_refl _) _)⟩
      · have HV2 : Hid (checkL s.data.toList = if (stepsB s).all okStep then 0 else 4) := Lib.hid (by rw [HV.out, if_neg h256])
        have h256' : s.size ≤ 256 := by omega
        have h12 : decide ((256 : Int) < (s.size : Int)) = false := decide_eq_false (by omega)
        clear HV h256
        refine (callsIn_wide (n := 3)).1 ?_
        refine callsIn_of_wp_marks Tryz.func66 rfl trivial ?_ rfl
        simp only [Tryz.ntmps66, List.size_toArray, List.length_cons, List.length_nil, Nat.reduceAdd, Nat.reduceSub, Array.replicate_succ, Array.replicate_zero, List.push_toArray, List.append_toArray, List.nil_append, List.cons_append]
        gi_wp2_with (first
          | (refine ⟨trivial, ?_⟩; gi_at_call 56; refine (callsIn_wide.2 (Tryz.strings_Contains_one s 0 _)).mono ?_; rintro e w' ⟨rfl, rfl⟩; rw [HC.out])
          | (refine ⟨trivial, ?_⟩; gi_at_call 69; refine (callsIn_wide.2 (stepsOf_any s _)).mono ?_; rintro e w3 ⟨rfl, rfl⟩))
        have bO := Boxed.new w 29 (.int .i64 0)
        have bN := Boxed.new (w.alloc (.cells #[.int .i64 0] 29)) 9 (.string s)
        rw [World.size_alloc] at bN
        have hB0 : Below w.heap.size w ((w.alloc (.cells #[.int .i64 0] 29)).alloc (.cells #[.string s] 9)) := ((Below.refl _ w).alloc (Nat.le_refl _) _).alloc (by simp) _
        refine wpIn_rangeFunc_ownG rfl (by omega) (gf := 76) (lb := #[.pointer (some ⟨w.heap.size + 1, 0, none⟩)]) rfl trivial (enters_of Tryz.func76 (by kernel_rfl) rfl)
          (iter_stops (3 - 1) (by omega) (w.heap.size + 1) w.heap.size s (by omega) _ (by simp) bN.cell) belowK_t (belowK_b (by simp; omega)) (Below.refl _ _) (fun _ => rfl)
          (fun pre W => (Boxed W w.heap.size 29 (.int .i64 0) ∧ pre.all okStep = true) ∧ Below w.heap.size w W)
          (fun c pre W => (Boxed W w.heap.size 29 (.int .i64 4) ∧ (pre.all okStep = false ∧ c = .ret)) ∧ Below w.heap.size w W)
          (OwnFrom.and (OwnFrom.and (Own.from (boxed_own w.heap.size 29 (fun _ : List ByteArray => .int .i64 0)) _) (ownFrom_pure _ _)) (ownFrom_below (Nat.le_refl _) (by simp; omega)))
          (fun c => OwnFrom.and (OwnFrom.and (Own.from (boxed_own w.heap.size 29 (fun _ : List ByteArray => .int .i64 4)) _) (ownFrom_pure _ _)) (ownFrom_below (Nat.le_refl _) (by simp; omega)))
          ⟨⟨bO.alloc _, rfl⟩, hB0⟩
          (fun x => { tmps := #[.string s, undef, .pointer (some ⟨w.heap.size, 0, none⟩), .string x, .string s, .bool false, .bool false, .string s, .bool false, .bool false, .string s, .int .i64 s.size, .bool false, .string s, .func (.func 76) #[] #[.pointer (some ⟨w.heap.size + 1, 0, none⟩)], .string x, undef, undef, undef, undef, undef, undef, undef], defers := [] }) ?assign ?body ?done ?stop
        case assign =>
          intro l x W K hK
          gi_wp2
          exact hK
        case body =>
          rintro l pre x W ⟨⟨hv, hall⟩, hB⟩ hlt
          have hc := hv.cell
          have hf := hv.frozen
          have HALL := Lib.hid hall
          clear hall
          by_cases hx : x.toList = [46, 46]
          · have HX : Hid (okStep x = true) := Lib.hid (by unfold okStep; rw [hx]; rfl)
            gi_wp2
            first
              | exact ⟨KeepsFrom.refl _ _, Below.refl _ _, ⟨hv, by rw [List.all_append, HALL.out]; simp [HX.out]⟩, hB⟩
              | (refine ⟨trivial, ?_⟩; gi_wp2; exact ⟨KeepsFrom.refl _ _, Below.refl _ _, ⟨hv, by rw [List.all_append, HALL.out]; simp [HX.out]⟩, hB⟩)
          · have hx2 : (x.toList == [46, 46]) = false := by simpa using hx
            have HX : Hid (okStep x = nameL x.data.toList) := Lib.hid (by unfold okStep; rw [hx2]; rfl)
            clear hx
            gi_wp2_with fail
            refine ⟨trivial, ?_⟩
            refine (CallsIn.inRound l (callsIn_wide.2 (name_any x _))).mono ?_
            rintro e w2 ⟨rfl, hb2⟩
            have hv2 := boxed_after hb2 hv
            have hc2 := hv2.cell
            have hf2 := hv2.frozen
            have hB2 : Below w.heap.size w w2 := below_next hB hb2
            have hk2 : KeepsFrom ((w.alloc (.cells #[.int .i64 0] 29)).alloc (.cells #[.string s] 9)).heap.size W w2 := keeps_below hb2
            cases hn : nameL x.data.toList with
            | true =>
              rw [hn] at HX
              clear hn
              gi_wp2
              exact ⟨hk2, hb2.mono hB.size, ⟨hv2, by rw [List.all_append, HALL.out]; simp [HX.out]⟩, hB2⟩
            | false =>
              rw [hn] at HX
              clear hn
              gi_wp2
              exact ⟨hk2.trans ((KeepsOthers.setCell _ _ _).from _), ⟨hv2.set _, by rw [List.all_append, HALL.out]; simp [HX.out], rfl⟩, hB2.setCell (p := ⟨w.heap.size, 0, none⟩) (Nat.le_refl _) _⟩
        case done =>
          rintro D ys W hD rfl ⟨⟨hv, hall⟩, hB⟩ hK
          have HALL := Lib.hid hall
          clear hall
          have hc := hv.cell
          have hf := hv.frozen
          gi_wp2
          have hK' := (KeepsOthers.setCell W ⟨w.heap.size, 0, none⟩ (.int .i64 0)).same D _ hK rfl
          refine ⟨by simp, .inl ⟨_, _, rfl, run_takeDeferred hK', ?_⟩⟩
          have hc5 := cell_kept (hv.set (.int .i64 0)).cell (grownBy_putObj' _ D (.deferred none)) (fun r e => by cases e; exact ⟨_, hK', rfl⟩)
          refine ⟨.int .i64 0, ?_, by rw [HV2.out, if_pos HALL.out]; rfl, Lib.hid ((hB.setCell (p := ⟨w.heap.size, 0, none⟩) (Nat.le_refl _) _).trans (belowK_b (w := w) (Nat.le_refl _) _ D _ _ (by simp at hD; omega) hK' rfl rfl))⟩
          simp [results, Tryz.results66, go_sem, hc5]
        case stop =>
          rintro D c pre W hD hpre ⟨⟨hv, hall, rfl⟩, hB⟩ hK
          have HALL := Lib.hid (all_pre hpre hall)
          clear hall
          gi_wp2
          refine ⟨by simp, .inl ⟨_, _, rfl, run_takeDeferred hK, ?_⟩⟩
          have hc5 := cell_kept hv.cell (grownBy_putObj' _ D (.deferred none)) (fun r e => by cases e; exact ⟨_, hK, rfl⟩)
          refine ⟨.int .i64 4, ?_, by rw [HV2.out, HALL.out]; rfl, Lib.hid (hB.trans (belowK_b (w := w) (Nat.le_refl _) W D _ _ (by simp at hD; omega) hK rfl rfl))⟩
          simp [results, Tryz.results66, go_sem, hc5]
end Go.Proofs.YtfilbknnpjbmcaaGreat
