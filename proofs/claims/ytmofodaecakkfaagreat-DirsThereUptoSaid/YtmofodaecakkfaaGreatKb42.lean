/- The path of some of a path's steps: its bytes, its size, its steps; strings.Join of the first ones. -/
import Derived.Test.YtmofodaecakkfaaGreatKb41
namespace Go.Proofs.YtmofodaecakkfaaGreat
open Go.RowKit Px Nx Wk Dn
namespace Px
def sumB (l : List B) : Nat := (l.map fun p => p.length + 1).sum
theorem pieces_sum : ∀ s : B, sumB (pieces s) = s.length + 1
  | [] => rfl
  | c :: l => by
    have ih := pieces_sum l
    rw [pieces]
    split
    · simp only [sumB, List.map_cons, List.sum_cons, List.length_nil, List.length_cons] at *
      omega
    · cases h : pieces l with
      | nil => exact absurd h (pieces_ne l)
      | cons p r =>
        rw [h] at ih
        simp only [sumB, List.map_cons, List.sum_cons, List.length_cons] at *
        omega
theorem sum_filter (f : B → Bool) : ∀ l : List B, sumB (l.filter f) ≤ sumB l
  | [] => Nat.le_refl _
  | x :: l => by
    have ih := sum_filter f l
    rw [List.filter_cons]
    split <;> simp only [sumB, List.map_cons, List.sum_cons] at * <;> omega
theorem sum_take : ∀ (l : List B) (k : Nat), sumB (l.take k) ≤ sumB l
  | [], k => by simp
  | x :: l, 0 => Nat.zero_le _
  | x :: l, k + 1 => by
    have ih := sum_take l k
    simp only [sumB, List.take_succ_cons, List.map_cons, List.sum_cons] at *
    omega
theorem join_sum : ∀ l : List B, (Lib.join l [47]).length ≤ sumB l
  | [] => Nat.zero_le _
  | [x] => by simp [Lib.join, sumB, List.intercalate]
  | x :: y :: l => by
    have ih := join_sum (y :: l)
    have e : Lib.join (x :: y :: l) [47] = x ++ 47 :: Lib.join (y :: l) [47] := by simp [Lib.join, List.intercalate, List.intersperse]
    rw [e, List.length_append, List.length_cons]
    simp only [sumB, List.map_cons, List.sum_cons] at *
    omega
theorem join_cons (x y : B) (l : List B) : Lib.join (x :: y :: l) [47] = x ++ 47 :: Lib.join (y :: l) [47] := by simp [Lib.join, List.intercalate, List.intersperse]
theorem steps_of_join : ∀ l : List B, (∀ p ∈ l, (∀ x ∈ p, x ≠ 47) ∧ good p = true) → stepsL (Lib.join l [47]) = l
  | [], _ => rfl
  | [x], h => by
    have e : Lib.join [x] [47] = x := by simp [Lib.join, List.intercalate]
    rw [e]
    exact steps_one (h x (by simp)).1 (h x (by simp)).2
  | x :: y :: l, h => by
    rw [join_cons, steps_join, steps_one (h x (by simp)).1 (h x (by simp)).2, steps_of_join (y :: l) (fun p hp => h p (List.mem_cons_of_mem _ hp))]
    rfl
theorem steps_slash (l : B) : stepsL (47 :: l) = stepsL l := by
  have := steps_join [] l
  rw [List.nil_append] at this
  rw [this, steps_nil]
  rfl
end Px
namespace Dn
theorem data_take (t : ByteArray) (k : Nat) : ((stepsB t).take k).map (·.data.toList) = (stepsL t.data.toList).take k := by
  unfold stepsB
  rw [← List.map_take, List.map_map]
  conv => rhs; rw [← List.map_id ((stepsL t.data.toList).take k)]
  apply List.map_congr_left
  intro a _
  simp
theorem path_size (t : ByteArray) (k : Nat) : (pathOf ((stepsB t).take k)).size ≤ t.size + 2 := by
  unfold pathOf
  rw [data_take]
  have h1 := join_sum ((stepsL t.data.toList).take k)
  have h2 := sum_take (stepsL t.data.toList) k
  have h3 := sum_filter good (pieces t.data.toList)
  have h4 := pieces_sum t.data.toList
  have h5 : t.data.toList.length = t.size := by rw [Array.length_toList]; rfl
  have h6 : stepsL t.data.toList = (pieces t.data.toList).filter good := rfl
  show (List.toArray _).size ≤ _
  rw [List.size_toArray, List.length_cons]
  rw [← h6] at h3
  omega
theorem join_size (t : ByteArray) (k : Nat) : (Lib.join (((stepsB t).take k).map (·.data.toList)) [47]).length ≤ t.size + 1 := by
  rw [data_take]
  have h1 := join_sum ((stepsL t.data.toList).take k)
  have h2 := sum_take (stepsL t.data.toList) k
  have h3 := sum_filter good (pieces t.data.toList)
  have h4 := pieces_sum t.data.toList
  have h5 : t.data.toList.length = t.size := by rw [Array.length_toList]; rfl
  have h6 : stepsL t.data.toList = (pieces t.data.toList).filter good := rfl
  rw [← h6] at h3
  omega
/-- The steps of the path of all steps. -/
theorem steps_path (t : ByteArray) (k : Nat) : stepsB (pathOf ((stepsB t).take k)) = (stepsB t).take k := by
  have h : stepsL (pathOf ((stepsB t).take k)).data.toList = (stepsL t.data.toList).take k := by
    unfold pathOf
    rw [data_take]
    show stepsL (47 :: Lib.join _ [47]) = _
    rw [steps_slash]
    exact steps_of_join _ fun p hp => ⟨(steps_mem (List.mem_of_mem_take hp)).1, (steps_mem (List.mem_of_mem_take hp)).2.1⟩
  unfold stepsB at *
  rw [h, List.map_take]
theorem slash_cat (l : List UInt8) : (⟨#[47]⟩ ++ ⟨l.toArray⟩ : ByteArray) = ⟨(47 :: l).toArray⟩ := by
  apply ByteArray.ext
  simp [ByteArray.data_append]
end Dn
theorem strs_at {w : World} {p : Option Addr} {xs : List ByteArray} (h : Strs w p xs) {b o : Nat} (hp : p = some ⟨b, o, none⟩) (k : Nat) : ∀ (j : Nat) x, (xs.take k)[j]? = some x → w.cell? ⟨b, o + j, none⟩ = some (.string x) := by
  intro j x hx
  rw [List.getElem?_take] at hx
  split at hx
  · rename_i hj
    obtain ⟨hl, hx⟩ := List.getElem?_eq_some_iff.1 hx
    obtain ⟨b', o', h1, h2⟩ := h j hl
    rw [hp] at h1
    obtain ⟨rfl, rfl⟩ : b = b' ∧ o = o' := by simpa using h1
    rw [h2, List.getD_eq_getElem?_getD, List.getElem?_eq_getElem hl]
    simp [hx]
  · cases hx
/-- The first ones of a path's steps, joined. -/
theorem join_steps {w : World} {t : ByteArray} (ht : t.size ≤ 40000) {p : Option Addr} {c : Nat} (hx : PlR w (.slice p (stepsB t).length c) (stepsB t)) {k : Nat} (hk : k < (stepsB t).length) (c' : Nat) (hc : k + 1 ≤ c') :
    Calls Tryz.prog 82 #[.slice p (k + 1 : Nat) c', .string ⟨#[47]⟩] w fun e w' => e = .returned (.string ⟨(Lib.join (((stepsB t).take (k + 1)).map (·.data.toList)) [47]).toArray⟩) ∧ Below w.heap.size w w' := by
  obtain ⟨p', cc, he, hs, hlc, hcm⟩ := hx
  obtain ⟨rfl, _, rfl⟩ : p = p' ∧ (stepsB t).length = (stepsB t).length ∧ c = cc := by simpa using he
  obtain ⟨b, o, rfl, h2⟩ := hs 0 (by omega)
  have hl : ((stepsB t).take (k + 1)).length = k + 1 := by rw [List.length_take]; omega
  have := Tryz.strings_Join b o c' ((stepsB t).take (k + 1)) ⟨#[47]⟩ w (strs_at hs rfl (k + 1)) (World.block_lt_of_cell? _ _ h2) (by have := stepsB_len t; omega) (by omega) (Nat.le_trans (join_size t (k + 1)) (by omega))
  rw [hl] at this
  exact this
end Go.Proofs.YtmofodaecakkfaaGreat
/- Walks of package dirs: what rm does with an operand. -/
namespace Go.Proofs.YtmofodaecakkfaaGreat
open Go.RowKit Px Nx Wk Dn

/-- Was this option told? -/
def hasB (S : ByteArray) (c : UInt8) : Bool := decide (0 ≤ Lib.indexByte S.data.toList c)

set_option maxRecDepth 100000 in
set_option maxHeartbeats 8000000 in
theorem dremove_any {U : Nat → Prop} {w : World} {b N : Nat} {n : Nd} {v0 v1 v2 v3 : Value} (h : TreeU U w b n v0 v1 v2 v3) (hG : TreeN N n) (hN : N ≤ 20000) (S : ByteArray) (up : Option Addr) (un uc : Nat) (t : ByteArray) (ht : t.size ≤ 40000) :
    Calls Tryz.prog 37 #[callV S (.slice up un uc) b, .string t] w fun e w' => DidR U (rmR (hasB S 102) (hasB S 114)) n t w b e w' := by
  have HSP : Hid (∀ wx, Below w.heap.size w wx → Calls Tryz.prog 13 #[.iface 29 (.pointer (some ⟨b, 0, none⟩)), .string t] wx fun e w' => LeadsQ n false t e w' ∧ Below wx.heap.size wx w') := Lib.hid fun wx hb => wspot_any (h.kept hb).x hG.well (tree_girth2 hG hN) hG.kind t (by omega)
  have HUL : Hid (∀ wx pv place, Below w.heap.size w wx → PlR wx pv place → namesBulk place ≤ 10000000 → Calls Tryz.prog 63 #[.iface 29 (.pointer (some ⟨b, 0, none⟩)), pv] wx fun e w' => Did U wx b (removeD n place (wrongFile n place)) e w') := Lib.hid fun wx pv place hb hp hs => Unlink_any (h.kept hb) hG.well (tree_girth hG hN) hp hs
  have HRA : Hid (∀ wx pv place, Below w.heap.size w wx → PlR wx pv place → namesBulk place ≤ 10000000 → Calls Tryz.prog 64 #[.iface 29 (.pointer (some ⟨b, 0, none⟩)), pv] wx fun e w' => Did U wx b (removeD n place (wrongAll place)) e w') := Lib.hid fun wx pv place hb hp hs => RemoveAll_any (h.kept hb) hG.well (tree_girth hG hN) hp hs
  have HT := Lib.hid h
  have HAL : Hid (∀ (o : Obj), Below w.heap.size w (w.alloc o)) := Lib.hid fun o => below_alloc (Below.refl _ _)
  have HSM : Hid (∀ p k, Leads n false t (.ok p k) → namesBulk p ≤ 10000000) := Lib.hid fun p k hr => leads_small hG hN hr ht
  have HHF : Hid (∀ wx, Calls Tryz.prog 39 #[.agg #[.string S, .slice up un uc], .int .u8 102] wx fun e w' => e = .returned (.bool (hasB S 102)) ∧ Below wx.heap.size wx w') := Lib.hid fun wx => has_any wx S (.slice up un uc) 102
  have HHR : Hid (∀ wx, Calls Tryz.prog 39 #[.agg #[.string S, .slice up un uc], .int .u8 114] wx fun e w' => e = .returned (.bool (hasB S 114)) ∧ Below wx.heap.size wx w') := Lib.hid fun wx => has_any wx S (.slice up un uc) 114
  generalize hasB S 102 = hf at *
  generalize hasB S 114 = hr at *
  clear h
  unfold callV
  go_enter Tryz.func37, Tryz.ntmps37
  go_wp2_with fail
  refine (HSP.out _ (HAL.out _)).mono ?_
  rintro e w1 ⟨⟨o, ho, hv⟩, hb1⟩
  have HO : Hid (Leads n false t o) := Lib.hid ho
  have HB1 : Hid (Below w.heap.size w w1) := Lib.hid ((HAL.out _).trans (hb1.mono (HAL.out _).size))
  have CC := Lib.hid (show ∀ wx, Below w1.heap.size w1 wx → wx.cell? ⟨w.heap.size, 0, none⟩ = some (.string S) ∧ wx.cell? ⟨w.heap.size, 1, none⟩ = some (.slice up un uc) ∧ wx.cell? ⟨w.heap.size, 2, none⟩ = some (.iface 29 (.pointer (some ⟨b, 0, none⟩))) from fun wx hx => ⟨cell_kept hx (box_at (by simpa using hb1) 0 rfl), cell_kept hx (box_at (by simpa using hb1) 1 rfl), cell_kept hx (box_at (by simpa using hb1) 2 rfl)⟩)
  obtain ⟨c0, c1, c2⟩ := CC.out _ (Below.refl _ _)
  clear hb1 ho
  cases o with
  | err e1 =>
    have hv' : e = .returned (.tuple #[.slice none 0 0, .int .u8 0, .int .i64 e1]) := hv
    subst hv'
    rcases run_err HO.out e1 rfl with rfl | rfl | rfl
    · go_wp2_with fail
      refine (HHF.out _).mono ?_
      rintro e w2 ⟨rfl, hb2⟩
      have HB2 := Lib.hid (HB1.out.trans (hb2.mono HB1.out.size))
      clear c0 c1 c2
      obtain ⟨c0, c1, c2⟩ := CC.out _ hb2
      clear hb2
      cases hf with
      | true =>
        go_wp2_with fail
        go_ret
        refine ⟨_, _, rfl, ⟨_, HO.out, ?_⟩, ⟨_, _, _, _, HT.out.kept HB2.out⟩, grown_below HB2.out⟩
        dsimp only
        exact ⟨rfl, rfl⟩
      | false =>
        go_wp2_with fail
        go_ret
        refine ⟨_, _, rfl, ⟨_, HO.out, ?_⟩, ⟨_, _, _, _, HT.out.kept HB2.out⟩, grown_below HB2.out⟩
        dsimp only
        exact ⟨rfl, rfl⟩
    · go_wp2_with fail
      go_ret
      exact ⟨_, _, rfl, ⟨_, HO.out, by cases hf <;> rfl, rfl⟩, ⟨_, _, _, _, HT.out.kept HB1.out⟩, grown_below HB1.out⟩
    · go_wp2_with fail
      go_ret
      exact ⟨_, _, rfl, ⟨_, HO.out, by cases hf <;> rfl, rfl⟩, ⟨_, _, _, _, HT.out.kept HB1.out⟩, grown_below HB1.out⟩
  | ok p k =>
    obtain ⟨pv, he, hpv⟩ := hv
    subst he
    have HP := Lib.hid hpv
    obtain ⟨pp, cp, rfl, _, _, _⟩ := hpv
    have e0 := beq_int k 0
    rw [show ((0 : UInt8).toNat : Int) = 0 from rfl] at e0
    have e2 := beq_int k 2
    rw [show ((2 : UInt8).toNat : Int) = 2 from rfl] at e2
    by_cases hk0 : k = 0
    · have hk0' : (k == 0) = true := beq_iff_eq.2 hk0
      rw [hk0'] at e0
      have HK := Lib.hid hk0
      clear hk0 hk0' e2
      go_wp2_with fail
      refine (HHF.out _).mono ?_
      rintro e w2 ⟨rfl, hb2⟩
      have HB2 := Lib.hid (HB1.out.trans (hb2.mono HB1.out.size))
      have HP2 := Lib.hid (HP.out.grown hb2)
      clear c0 c1 c2
      obtain ⟨c0, c1, c2⟩ := CC.out _ hb2
      clear hb2
      cases hf with
      | true =>
        go_wp2_with fail
        go_ret
        refine ⟨_, _, rfl, ⟨_, HO.out, ?_⟩, ⟨_, _, _, _, HT.out.kept HB2.out⟩, grown_below HB2.out⟩
        dsimp only
        rw [if_pos HK.out]
        exact ⟨rfl, rfl⟩
      | false =>
        go_wp2_with fail
        go_ret
        refine ⟨_, _, rfl, ⟨_, HO.out, ?_⟩, ⟨_, _, _, _, HT.out.kept HB2.out⟩, grown_below HB2.out⟩
        dsimp only
        rw [if_pos HK.out]
        exact ⟨rfl, rfl⟩
    · have hk0' : (k == 0) = false := beq_eq_false_iff_ne.2 hk0
      rw [hk0'] at e0
      have HK := Lib.hid hk0
      clear hk0 hk0'
      by_cases hk2 : k = 2
      · have hk2' : (k == 2) = true := beq_iff_eq.2 hk2
        rw [hk2'] at e2
        have e2n := ne_of e2
        have HK2 := Lib.hid hk2
        clear hk2 hk2'
        go_wp2_with fail
        refine (HHR.out _).mono ?_
        rintro e w2 ⟨rfl, hb2⟩
        have HB2 := Lib.hid (HB1.out.trans (hb2.mono HB1.out.size))
        have HP2 := Lib.hid (HP.out.grown hb2)
        clear c0 c1 c2
        obtain ⟨c0, c1, c2⟩ := CC.out _ hb2
        clear hb2
        cases hr with
        | true =>
          go_wp2_with fail
          refine (HRA.out _ _ _ HB2.out HP2.out (HSM.out _ _ HO.out)).mono ?_
          rintro e w4 hd
          obtain ⟨cc, rfl, hd⟩ := did_ex hd
          have HD := Lib.hid (hd.from HB2.out)
          clear hd
          go_wp2_with fail
          go_ret
          obtain ⟨q1, q2, q3⟩ := HD.out
          refine ⟨_, _, rfl, ⟨_, HO.out, ?_⟩, q2, q3⟩
          dsimp only
          rw [if_neg HK.out, if_pos HK2.out]
          cases q1
          exact ⟨rfl, rfl⟩
        | false =>
          go_wp2_with fail
          go_ret
          refine ⟨_, _, rfl, ⟨_, HO.out, ?_⟩, ⟨_, _, _, _, HT.out.kept HB2.out⟩, grown_below HB2.out⟩
          dsimp only
          rw [if_neg HK.out, if_pos HK2.out]
          exact ⟨rfl, rfl⟩
      · have hk2' : (k == 2) = false := beq_eq_false_iff_ne.2 hk2
        rw [hk2'] at e2
        have e2n := ne_of e2
        have HK2 := Lib.hid hk2
        clear hk2 hk2'
        go_wp2_with fail
        refine (HUL.out _ _ _ HB1.out HP.out (HSM.out _ _ HO.out)).mono ?_
        rintro e w4 hd
        obtain ⟨cc, rfl, hd⟩ := did_ex hd
        have HD := Lib.hid (hd.from HB1.out)
        clear hd
        go_wp2_with fail
        go_ret
        obtain ⟨q1, q2, q3⟩ := HD.out
        refine ⟨_, _, rfl, ⟨_, HO.out, ?_⟩, q2, q3⟩
        dsimp only
        rw [if_neg HK.out, if_neg HK2.out]
        cases q1
        exact ⟨rfl, rfl⟩
end Go.Proofs.YtmofodaecakkfaaGreat
