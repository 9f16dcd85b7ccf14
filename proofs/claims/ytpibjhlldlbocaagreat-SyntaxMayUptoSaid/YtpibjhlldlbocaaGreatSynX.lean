/- Walks of the program's word: a name, and a word that is assigned to it. -/
import Derived.Test.YtpibjhlldlbocaaGreatSynW
import Derived.Deep.Cut
import Derived.Deep.DeepCutAuto
namespace Go.Proofs.YtpibjhlldlbocaaGreat
open Go.RowKit Sx Go.Proofs

set_option maxRecDepth 100000 in
set_option maxHeartbeats 4000000 in
theorem assign_pos {w : World} {text : ByteArray} {r : List Part} {at_ : Int} {b o n c : Nat} (hl : n ≤ 2000000) (hnc : n ≤ c) (hN : r.length + 1 = n) (hX : Row w 3 (some ⟨b, o, none⟩) n (fun i => (((⟨false, text, false⟩ :: r : List Part)[i]?).map partCells).getD []))
    (hBK : ∀ (i : Nat) q, (⟨false, text, false⟩ :: r : List Part)[i]? = some q → q.text.size ≤ 2000000) (hA : Sx.assigns text.data.toList = true) :
    Calls Tryz.prog 55 #[.agg #[.slice (some ⟨b, o, none⟩) n c, .int .i64 at_]] w fun e w' => (∃ nm vs v, e = .returned (.tuple #[.string nm, .agg vs, .bool true]) ∧ WordR w' vs.toList v ∧ nm = text.extract 0 (nameLen text.data.toList) ∧ v.parts = (if nameLen text.data.toList + 1 < text.size then [(⟨false, text.extract (nameLen text.data.toList + 1) text.size, false⟩ : Part)] else []) ++ r) ∧ Below w.heap.size w w' := by
  have HX := Lib.hid hX
  have HN := Lib.hid hN
  have HBK := Lib.hid hBK
  have hts : text.size ≤ 2000000 := hBK 0 _ rfl
  clear hX hBK
  obtain ⟨b', o', hbo, _, hr⟩ := HX.out 0 (by omega)
  obtain ⟨rfl, rfl⟩ : b = b' ∧ o = o' := by simpa using hbo
  have hr : w.rangeAt b (o + 0 * 3) (partCells ⟨false, text, false⟩) := hr
  rw [show o + 0 * 3 = o by omega] at hr
  obtain ⟨e0, e1, e2⟩ := part_cells hr
  dsimp only at e0 e1 e2
  clear hr hbo
  have hn0 : ((n : Int) == 0) = false := beq_eq_false_iff_ne.2 (by omega)
  have hn1 : (0 : Int) < (n : Int) := by omega
  have hn2 : (1 : Int) ≤ (n : Int) := by omega
  have hn3 : (n : Int) ≤ (c : Int) := by omega
  have hn4 : (1 : Int) ≤ (c : Int) := by omega
  have hcell := World.cell?_alloc_some
  have HIB := Lib.hid (isBare_any ⟨false, text, false⟩)
  have hbare : (!(⟨false, text, false⟩ : Part).var && !(⟨false, text, false⟩ : Part).quoted) = true := rfl
  rw [hbare] at HIB
  dsimp only at HIB
  clear hbare
  have hL0 : ¬ nameLen text.data.toList = 0 := by
    intro h
    have := assigns_len text.data.toList
    rw [hA, h] at this
    simp at this
  have HNL : Hid (∀ w, Calls Tryz.prog 71 #[.string text] w fun e w' => e = .returned (.int .i64 (nameLen text.data.toList)) ∧ w = w') := Lib.hid fun w => nameLength_any text w (by omega)
  have HHP : Hid (∀ w, Calls Tryz.prog 72 #[.string (text.extract (nameLen text.data.toList) text.size), .string ⟨#[61]⟩] w fun e w' => e = .returned (.bool true) ∧ w = w') := Lib.hid fun w => by
    refine (Tryz.strings_HasPrefix _ _ w).mono ?_
    rintro e w' ⟨rfl, rfl⟩
    refine ⟨ret_bool ?_, rfl⟩
    have := assigns_len text.data.toList
    rw [hA] at this
    rw [ByteArray.data_extract, Array.toList_extract, List.extract_eq_take_drop, List.take_of_length_le (by rw [List.length_drop, ← Lib.size_eq]; exact Nat.le_refl _)]
    simp only [Bool.true_eq, Bool.and_eq_true] at this
    exact this.2
  have hLlt : nameLen text.data.toList < text.size := by
    have := (assigns_name hA).2.1
    rw [← Lib.size_eq] at this
    exact this
  generalize hL : nameLen text.data.toList = L at *
  have HL := Lib.hid hL
  clear hL hA
  have hLb : ((L : Int) == 0) = false := beq_eq_false_iff_ne.2 (by omega)
  have hL1 : (0 : Int) ≤ (L : Int) := by omega
  have hL2 : (L : Int) ≤ (text.size : Int) := by omega
  have hw1 : IntKind.i64.wrap ((L : Int) + 1) = (L : Int) + 1 := wrap_small _ (by omega) (by omega)
  have hm0 : (0 : Int) ≤ (L : Int) + 1 := by omega
  have hm2 : (L : Int) + 1 ≤ (text.size : Int) := by omega
  obtain ⟨PRE, hPRE⟩ : ∃ PRE, PRE = (if L + 1 < text.size then [(⟨false, (text.extract (L + 1) text.size), false⟩ : Part)] else []) := ⟨_, rfl⟩
  have HPRE := Lib.hid hPRE
  have hpre : PRE.length ≤ 1 := by rw [hPRE]; split <;> simp
  rw [← hPRE]
  clear hPRE
  have HCLX : Hid (∀ w, Calls Tryz.prog 42 #[.string (text.extract (L + 1) text.size)] w fun e w' => e = .returned (.string (text.extract (L + 1) text.size)) ∧ Below w.heap.size w w') := Lib.hid fun w => clone_any _ w (by rw [ByteArray.size_extract]; omega)
  obtain ⟨i0, hi0, hz0, hz1, hz2⟩ := info_parts info_part
  go_enter Tryz.func55, Tryz.ntmps55
  go_wp2_with fail
  refine (HIB.out _).mono ?_
  rintro e w2 ⟨rfl, hb2⟩
  have HB2 : Hid (Below (w.heap.size + 2) ((w.alloc (.cells #[.slice (some ⟨b, o, none⟩) n c, .int .i64 at_] 31)).alloc (.cells #[.slice none 0 0, .int .i64 0] 31)) w2) := Lib.hid (hb2.mono (by simp))
  have c0 : w2.cell? ⟨w.heap.size, 0, none⟩ = some (.slice (some ⟨b, o, none⟩) n c) := box2_fst HB2.out 0 rfl
  have c1 : w2.cell? ⟨w.heap.size, 1, none⟩ = some (.int .i64 at_) := box2_fst HB2.out 1 rfl
  have f0 := cell_kept (box2_self HB2.out) e0
  have f1 := cell_kept (box2_self HB2.out) e1
  have f2 := cell_kept (box2_self HB2.out) e2
  clear hb2
  go_upto_if 47 with (first | (go_at_call 71; refine (HNL.out _).mono ?_; rintro e w' ⟨rfl, rfl⟩) | (go_at_call 72; refine (HHP.out _).mono ?_; rintro e w' ⟨rfl, rfl⟩))
  have g0 : (w2.alloc (.cells #[.slice none 0 0, .int .i64 at_] 31)).cell? ⟨w2.heap.size, 0, none⟩ = some (.slice none 0 0) := box_cell (Below.refl _ _) 0 rfl
  go_cut [] (fun wx => ∃ vv : Value, Hid (wx.heap[w2.heap.size]? = some (.cells #[vv, .int .i64 at_] 31 (0, 0))) ∧ Hid (wx.ownsRow (w2.heap.size + 1) 33 3 vv PRE.length (pcells PRE)) ∧ Hid (Below w2.heap.size w2 wx))
  case first =>
    by_cases hmore : L + 1 < text.size
    · have hm1 : (L : Int) + 1 < (text.size : Int) := by omega
      have HP1 : Hid (PRE = [(⟨false, (text.extract (L + 1) text.size), false⟩ : Part)]) := Lib.hid (by rw [HPRE.out, if_pos hmore])
      go_wp2_with fail
      refine wp_region_any (by kernel_rfl) (show wpAny _ _ _ _ _ _ _ (World.drew _) from ?_)
      refine wpAny_take (i := 0) (oi := { dst := some 48, op := Op.fieldAddr 31 (Operand.tmp 7) 0, type := 0, pos := "word.go:156", after := #[], guard := none }) (v := ?_) rfl (by kernel_rfl) (by kernel_rfl) (by kernel_rfl) (fun _ _ _ h => h) (Or.inl ⟨by rfl, ?_⟩) ?_
      rotate_left
      · (intro w; go_simp; try with_reducible rfl)
      try simp only [Act.put, List.setIfInBounds_toArray, List.set_cons_zero, List.set_cons_succ]
      refine wpAny_take (i := 2) (oi := { dst := some 50, op := Op.move (Operand.tmp 5), type := 9, pos := "word.go:156", after := #[], guard := none }) (v := ?_) rfl (by kernel_rfl) (by kernel_rfl) (by kernel_rfl) (fun _ _ _ h => h) (Or.inl ⟨by rfl, ?_⟩) ?_
      rotate_left
      · (intro w; go_simp; try with_reducible rfl)
      try simp only [Act.put, List.setIfInBounds_toArray, List.set_cons_zero, List.set_cons_succ]
      refine wpAny_take (i := 3) (oi := { dst := some 51, op := Op.move (Operand.tmp 6), type := 3, pos := "word.go:156", after := #[], guard := none }) (v := ?_) rfl (by kernel_rfl) (by kernel_rfl) (by kernel_rfl) (fun _ _ _ h => h) (Or.inl ⟨by rfl, ?_⟩) ?_
      rotate_left
      · (intro w; go_simp; try with_reducible rfl)
      try simp only [Act.put, List.setIfInBounds_toArray, List.set_cons_zero, List.set_cons_succ]
      refine wpAny_take (i := 4) (oi := { dst := some 52, op := Op.binOp BinOp.add 3 (Operand.tmp 51) (Operand.const (Value.int IntKind.i64 1)) 3, type := 3, pos := "word.go:156", after := #[{ on := 3, ground := Ground.data }], guard := none }) (v := ?_) rfl (by kernel_rfl) (by kernel_rfl) (by kernel_rfl) (fun _ _ _ h => h) (Or.inl ⟨by rfl, ?_⟩) ?_
      rotate_left
      · (intro w; go_simp; try with_reducible rfl)
      try simp only [Act.put, List.setIfInBounds_toArray, List.set_cons_zero, List.set_cons_succ]
      refine wpAny_take (i := 5) (oi := { dst := some 53, op := Op.slice 9 (Operand.tmp 50) (some (Operand.tmp 52)) none none, type := 9, pos := "word.go:156", after := #[{ on := 2, ground := Ground.data }, { on := 4, ground := Ground.data }], guard := none }) (v := ?_) rfl (by kernel_rfl) (by kernel_rfl) (by kernel_rfl) (fun _ _ _ h => h) (Or.inl ⟨by rfl, ?_⟩) ?_
      rotate_left
      · (intro w; go_simp; try with_reducible rfl)
      try simp only [Act.put, List.setIfInBounds_toArray, List.set_cons_zero, List.set_cons_succ]
      refine wpAny_ready (rs := [1, 6]) (by kernel_rfl) (by simp) ?_
      refine AllReady.cons (o := { dst := some 49, op := Op.load 29 (Operand.tmp 48), type := 29, pos := "word.go:156", after := #[{ on := 0, ground := Ground.data }], guard := none }) rfl (fun K hK0 => ?_) ?_
      rotate_left
      refine AllReady.cons (o := { dst := some 54, op := Op.call { callee := Callee.value (Operand.func 42), args := #[Operand.tmp 53], argTypes := #[9] }, type := 9, pos := "word.go:156", after := #[{ on := 5, ground := Ground.data }], guard := none }) rfl (fun K hK0 => ?_) AllReady.nil
      · have hK := Lib.hid hK0
        clear hK0
        go_simp
        (go_at_call 42; refine (HCLX.out _).mono ?_; rintro e w3 ⟨rfl, hb3⟩)
        have HB3 : Hid (Below (w2.alloc (.cells #[.slice none 0 0, .int .i64 at_] 31)).heap.size (w2.alloc (.cells #[.slice none 0 0, .int .i64 at_] 31)) w3) := Lib.hid ((Below.refl _ _).drew.trans hb3)
        clear hb3
        have HV3 : Hid (w3.heap[w2.heap.size]? = some (.cells #[.slice none 0 0, .int .i64 at_] 31 (0, 0))) := Lib.hid (by rw [HB3.out.block _ (by simp)]; exact heap_alloc_new w2 _)
        have g3 : w3.cell? ⟨w2.heap.size, 0, none⟩ = some (.slice none 0 0) := by rw [cell_of_row _ _ _ _ _ _ HV3.out]; rfl
        go_wp2_with fail
        refine hK.out _ _ ?_
        clear hK K
        try simp only [Act.put, List.setIfInBounds_toArray, List.set_cons_zero, List.set_cons_succ]
        refine wpAny_take (i := 7) (oi := { dst := some 55, op := Op.build 33 #[(1, Operand.tmp 54)], type := 33, pos := "word.go:156", after := #[{ on := 6, ground := Ground.data }], guard := none }) (v := ?_) rfl (by kernel_rfl) (by kernel_rfl) (by kernel_rfl) (fun _ _ _ h => h) (Or.inl ⟨by rfl, ?_⟩) ?_
        rotate_left
        · (intro w; go_simp; try with_reducible rfl)
        try simp only [Act.put, List.setIfInBounds_toArray, List.set_cons_zero, List.set_cons_succ]
        refine wpAny_ready (rs := [1, 8]) (by kernel_rfl) (by simp) ?_
        refine AllReady.cons (o := { dst := some 49, op := Op.load 29 (Operand.tmp 48), type := 29, pos := "word.go:156", after := #[{ on := 0, ground := Ground.data }], guard := none }) rfl (fun K hK0 => ?_) ?_
        rotate_left
        refine AllReady.cons (o := { dst := some 56, op := Op.buildSlice 29 1 #[(0, Operand.tmp 55)], type := 29, pos := "word.go:156", after := #[{ on := 7, ground := Ground.data }], guard := none }) rfl (fun K hK0 => ?_) AllReady.nil
        · have hK := Lib.hid hK0
          clear hK0
          go_simp
          refine hK.out _ _ ?_
          clear hK K
          try simp only [Act.put, List.setIfInBounds_toArray, List.set_cons_zero, List.set_cons_succ]
          refine wpAny_ready (rs := [1]) (by kernel_rfl) (by simp) ?_
          refine AllReady.cons (o := { dst := some 49, op := Op.load 29 (Operand.tmp 48), type := 29, pos := "word.go:156", after := #[{ on := 0, ground := Ground.data }], guard := none }) rfl (fun K hK0 => ?_) AllReady.nil
          have hK := Lib.hid hK0
          clear hK0
          go_simp
          refine hK.out _ _ ?_
          clear hK K
          try simp only [Act.put, List.setIfInBounds_toArray, List.set_cons_zero, List.set_cons_succ]
          refine wpAny_ready (rs := [9]) (by kernel_rfl) (by simp) ?_
          refine AllReady.cons (o := { dst := some 57, op := Op.call { callee := Callee.builtin Builtin.append, args := #[Operand.tmp 49, Operand.tmp 56], argTypes := #[29, 29] }, type := 29, pos := "word.go:156", after := #[{ on := 1, ground := Ground.data }, { on := 8, ground := Ground.data }, { on := 6, ground := Ground.chain }], guard := none }) rfl (fun K hK0 => ?_) AllReady.nil
          have hK := Lib.hid hK0
          clear hK0
          rw [if_pos (by rfl)]
          refine wp_append_own _ (.tmp 49) (.tmp 56) 29 rfl (w2.heap.size + 1) 33 i0 _ 3 32 Tryz.underlying29 hi0 hz0 hz1 hz2 rfl (by decide) (.slice none 0 0) 0 [] rfl (World.ownsRow_nil _ _ _ _) ⟨w3.heap.size, 0, none⟩ 1 1 (partCells ⟨false, (text.extract (L + 1) text.size), false⟩) rfl rfl (Sx.news_alloc w3 _ _) (Sx.part_one _) (by decide) (by decide) (by have := HB3.out.size; simp at this; simp; omega) ?_
          intro v' w4 hown0 hgrow _
          have hown : w4.ownsRow (w2.heap.size + 1) 33 3 v' [(⟨false, (text.extract (L + 1) text.size), false⟩ : Part)].length (pcells [(⟨false, (text.extract (L + 1) text.size), false⟩ : Part)]) := by simpa [pcells] using hown0
          obtain ⟨pp, cc, rfl, _, _, _⟩ := Sx.own_parts hown
          clear hown0
          have HV4 : Hid (w4.heap[w2.heap.size]? = some (.cells #[.slice none 0 0, .int .i64 at_] 31 (0, 0))) := Lib.hid (by rw [hgrow.block _ (by have := HB3.out.size; simp at this; simp; omega) (by simp [Value.ownBlock]), Below.heap_alloc _ _ _ (by have := HB3.out.size; simp at this; omega)]; exact HV3.out)
          have g4 : w4.cell? ⟨w2.heap.size, 0, none⟩ = some (.slice none 0 0) := by rw [cell_of_row _ _ _ _ _ _ HV4.out]; rfl
          have y4 := frozen_of_row w4 w2.heap.size 0 _ _ HV4.out
          refine hK.out _ _ ?_
          clear hK K
          try simp only [Act.put, List.setIfInBounds_toArray, List.set_cons_zero, List.set_cons_succ]
          refine wpAny_take (i := 10) (oi := { dst := some 58, op := Op.fieldAddr 31 (Operand.tmp 7) 0, type := 0, pos := "word.go:156", after := #[{ on := 0, ground := Ground.phase }, { on := 1, ground := Ground.phase }, { on := 2, ground := Ground.phase }, { on := 3, ground := Ground.phase }, { on := 4, ground := Ground.phase }, { on := 5, ground := Ground.phase }, { on := 6, ground := Ground.phase }, { on := 7, ground := Ground.phase }, { on := 8, ground := Ground.phase }, { on := 9, ground := Ground.phase }], guard := none }) (v := ?_) rfl (by kernel_rfl) (by kernel_rfl) (by kernel_rfl) (fun _ _ _ h => h) (Or.inl ⟨by rfl, ?_⟩) ?_
          rotate_left
          · (intro w; go_simp; try with_reducible rfl)
          try simp only [Act.put, List.setIfInBounds_toArray, List.set_cons_zero, List.set_cons_succ]
          refine wpAny_ready (rs := [11]) (by kernel_rfl) (by simp) ?_
          refine AllReady.cons (o := { dst := none, op := Op.store 29 (Operand.tmp 58) (Operand.tmp 57), type := 0, pos := "word.go:156", after := #[{ on := 10, ground := Ground.data }, { on := 9, ground := Ground.data }, { on := 9, ground := Ground.chain }, { on := 0, ground := Ground.phase }, { on := 1, ground := Ground.phase }, { on := 2, ground := Ground.phase }, { on := 3, ground := Ground.phase }, { on := 4, ground := Ground.phase }, { on := 5, ground := Ground.phase }, { on := 6, ground := Ground.phase }, { on := 7, ground := Ground.phase }, { on := 8, ground := Ground.phase }, { on := 9, ground := Ground.phase }], guard := none }) rfl (fun K hK0 => ?_) AllReady.nil
          have hK := Lib.hid hK0
          clear hK0
          go_simp
          refine hK.out _ _ ?_
          clear hK K
          try simp only [Act.put, List.setIfInBounds_toArray, List.set_cons_zero, List.set_cons_succ]
          refine wpAny_done (by kernel_rfl) ?_ _
          have HOWN := Lib.hid hown
          have HGROW := Lib.hid hgrow
          clear hown hgrow
          obtain ⟨vv, hvv⟩ : ∃ x, x = Value.slice pp 1 cc := ⟨_, rfl⟩
          have hpp : Value.slice pp [(⟨false, (text.extract (L + 1) text.size), false⟩ : Part)].length cc = vv := hvv.symm
          have hpp1 : Value.slice pp 1 cc = vv := hvv.symm
          rw [hpp] at HOWN
          rw [hpp1]
          clear hvv
          have HV : Hid ((w4.setCell ⟨w2.heap.size, 0, none⟩ vv).heap[w2.heap.size]? = some (.cells #[vv, .int .i64 at_] 31 (0, 0))) := Lib.hid (heap_setCell_same w4 w2.heap.size 0 _ _ vv HV4.out)
          have HO : Hid ((w4.setCell ⟨w2.heap.size, 0, none⟩ vv).ownsRow (w2.heap.size + 1) 33 3 vv [(⟨false, (text.extract (L + 1) text.size), false⟩ : Part)].length (pcells [(⟨false, (text.extract (L + 1) text.size), false⟩ : Part)])) := Lib.hid (own_far HOWN.out w2.heap.size 0 vv (Sx.own_none HOWN.out (Or.inl (Nat.lt_succ_self _))))
          have HBV : Hid (Below w2.heap.size w2 (w4.setCell ⟨w2.heap.size, 0, none⟩ vv)) := Lib.hid ((((((Below.refl w2.heap.size w2).alloc (Nat.le_refl _) _).trans (HB3.out.mono (by simp))).alloc (by have := HB3.out.size; simp at this; omega) _).grown HGROW.out (by have := HB3.out.size; simp at this; simp; omega) (fun _ hk => by simp [Value.ownBlock] at hk)).setCell (p := ⟨_, _, none⟩) (Nat.le_refl _) _)
          go_wp2_with fail
          go_meet
          exact ⟨vv, HV, Lib.hid (by rw [HP1.out]; exact HO.out), HBV⟩
        · have hK := Lib.hid hK0
          clear hK0
          go_simp
          refine hK.out _ _ ?_
          clear hK K
          try simp only [Act.put, List.setIfInBounds_toArray, List.set_cons_zero, List.set_cons_succ]
          refine wpAny_ready (rs := [8]) (by kernel_rfl) (by simp) ?_
          refine AllReady.cons (o := { dst := some 56, op := Op.buildSlice 29 1 #[(0, Operand.tmp 55)], type := 29, pos := "word.go:156", after := #[{ on := 7, ground := Ground.data }], guard := none }) rfl (fun K hK0 => ?_) AllReady.nil
          have hK := Lib.hid hK0
          clear hK0
          go_simp
          refine hK.out _ _ ?_
          clear hK K
          try simp only [Act.put, List.setIfInBounds_toArray, List.set_cons_zero, List.set_cons_succ]
          refine wpAny_ready (rs := [9]) (by kernel_rfl) (by simp) ?_
          refine AllReady.cons (o := { dst := some 57, op := Op.call { callee := Callee.builtin Builtin.append, args := #[Operand.tmp 49, Operand.tmp 56], argTypes := #[29, 29] }, type := 29, pos := "word.go:156", after := #[{ on := 1, ground := Ground.data }, { on := 8, ground := Ground.data }, { on := 6, ground := Ground.chain }], guard := none }) rfl (fun K hK0 => ?_) AllReady.nil
          have hK := Lib.hid hK0
          clear hK0
          rw [if_pos (by rfl)]
          refine wp_append_own _ (.tmp 49) (.tmp 56) 29 rfl (w2.heap.size + 1) 33 i0 _ 3 32 Tryz.underlying29 hi0 hz0 hz1 hz2 rfl (by decide) (.slice none 0 0) 0 [] rfl (World.ownsRow_nil _ _ _ _) ⟨w3.heap.size, 0, none⟩ 1 1 (partCells ⟨false, (text.extract (L + 1) text.size), false⟩) rfl rfl (Sx.news_alloc w3 _ _) (Sx.part_one _) (by decide) (by decide) (by have := HB3.out.size; simp at this; simp; omega) ?_
          intro v' w4 hown0 hgrow _
          have hown : w4.ownsRow (w2.heap.size + 1) 33 3 v' [(⟨false, (text.extract (L + 1) text.size), false⟩ : Part)].length (pcells [(⟨false, (text.extract (L + 1) text.size), false⟩ : Part)]) := by simpa [pcells] using hown0
          obtain ⟨pp, cc, rfl, _, _, _⟩ := Sx.own_parts hown
          clear hown0
          have HV4 : Hid (w4.heap[w2.heap.size]? = some (.cells #[.slice none 0 0, .int .i64 at_] 31 (0, 0))) := Lib.hid (by rw [hgrow.block _ (by have := HB3.out.size; simp at this; simp; omega) (by simp [Value.ownBlock]), Below.heap_alloc _ _ _ (by have := HB3.out.size; simp at this; omega)]; exact HV3.out)
          have g4 : w4.cell? ⟨w2.heap.size, 0, none⟩ = some (.slice none 0 0) := by rw [cell_of_row _ _ _ _ _ _ HV4.out]; rfl
          have y4 := frozen_of_row w4 w2.heap.size 0 _ _ HV4.out
          refine hK.out _ _ ?_
          clear hK K
          try simp only [Act.put, List.setIfInBounds_toArray, List.set_cons_zero, List.set_cons_succ]
          refine wpAny_take (i := 10) (oi := { dst := some 58, op := Op.fieldAddr 31 (Operand.tmp 7) 0, type := 0, pos := "word.go:156", after := #[{ on := 0, ground := Ground.phase }, { on := 1, ground := Ground.phase }, { on := 2, ground := Ground.phase }, { on := 3, ground := Ground.phase }, { on := 4, ground := Ground.phase }, { on := 5, ground := Ground.phase }, { on := 6, ground := Ground.phase }, { on := 7, ground := Ground.phase }, { on := 8, ground := Ground.phase }, { on := 9, ground := Ground.phase }], guard := none }) (v := ?_) rfl (by kernel_rfl) (by kernel_rfl) (by kernel_rfl) (fun _ _ _ h => h) (Or.inl ⟨by rfl, ?_⟩) ?_
          rotate_left
          · (intro w; go_simp; try with_reducible rfl)
          try simp only [Act.put, List.setIfInBounds_toArray, List.set_cons_zero, List.set_cons_succ]
          refine wpAny_ready (rs := [11]) (by kernel_rfl) (by simp) ?_
          refine AllReady.cons (o := { dst := none, op := Op.store 29 (Operand.tmp 58) (Operand.tmp 57), type := 0, pos := "word.go:156", after := #[{ on := 10, ground := Ground.data }, { on := 9, ground := Ground.data }, { on := 9, ground := Ground.chain }, { on := 0, ground := Ground.phase }, { on := 1, ground := Ground.phase }, { on := 2, ground := Ground.phase }, { on := 3, ground := Ground.phase }, { on := 4, ground := Ground.phase }, { on := 5, ground := Ground.phase }, { on := 6, ground := Ground.phase }, { on := 7, ground := Ground.phase }, { on := 8, ground := Ground.phase }, { on := 9, ground := Ground.phase }], guard := none }) rfl (fun K hK0 => ?_) AllReady.nil
          have hK := Lib.hid hK0
          clear hK0
          go_simp
          refine hK.out _ _ ?_
          clear hK K
          try simp only [Act.put, List.setIfInBounds_toArray, List.set_cons_zero, List.set_cons_succ]
          refine wpAny_done (by kernel_rfl) ?_ _
          have HOWN := Lib.hid hown
          have HGROW := Lib.hid hgrow
          clear hown hgrow
          obtain ⟨vv, hvv⟩ : ∃ x, x = Value.slice pp 1 cc := ⟨_, rfl⟩
          have hpp : Value.slice pp [(⟨false, (text.extract (L + 1) text.size), false⟩ : Part)].length cc = vv := hvv.symm
          have hpp1 : Value.slice pp 1 cc = vv := hvv.symm
          rw [hpp] at HOWN
          rw [hpp1]
          clear hvv
          have HV : Hid ((w4.setCell ⟨w2.heap.size, 0, none⟩ vv).heap[w2.heap.size]? = some (.cells #[vv, .int .i64 at_] 31 (0, 0))) := Lib.hid (heap_setCell_same w4 w2.heap.size 0 _ _ vv HV4.out)
          have HO : Hid ((w4.setCell ⟨w2.heap.size, 0, none⟩ vv).ownsRow (w2.heap.size + 1) 33 3 vv [(⟨false, (text.extract (L + 1) text.size), false⟩ : Part)].length (pcells [(⟨false, (text.extract (L + 1) text.size), false⟩ : Part)])) := Lib.hid (own_far HOWN.out w2.heap.size 0 vv (Sx.own_none HOWN.out (Or.inl (Nat.lt_succ_self _))))
          have HBV : Hid (Below w2.heap.size w2 (w4.setCell ⟨w2.heap.size, 0, none⟩ vv)) := Lib.hid ((((((Below.refl w2.heap.size w2).alloc (Nat.le_refl _) _).trans (HB3.out.mono (by simp))).alloc (by have := HB3.out.size; simp at this; omega) _).grown HGROW.out (by have := HB3.out.size; simp at this; simp; omega) (fun _ hk => by simp [Value.ownBlock] at hk)).setCell (p := ⟨_, _, none⟩) (Nat.le_refl _) _)
          go_wp2_with fail
          go_meet
          exact ⟨vv, HV, Lib.hid (by rw [HP1.out]; exact HO.out), HBV⟩
      · have hK := Lib.hid hK0
        clear hK0
        go_simp
        refine hK.out _ _ ?_
        clear hK K
        try simp only [Act.put, List.setIfInBounds_toArray, List.set_cons_zero, List.set_cons_succ]
        refine wpAny_ready (rs := [6]) (by kernel_rfl) (by simp) ?_
        refine AllReady.cons (o := { dst := some 54, op := Op.call { callee := Callee.value (Operand.func 42), args := #[Operand.tmp 53], argTypes := #[9] }, type := 9, pos := "word.go:156", after := #[{ on := 5, ground := Ground.data }], guard := none }) rfl (fun K hK0 => ?_) AllReady.nil
        have hK := Lib.hid hK0
        clear hK0
        go_simp
        (go_at_call 42; refine (HCLX.out _).mono ?_; rintro e w3 ⟨rfl, hb3⟩)
        have HB3 : Hid (Below (w2.alloc (.cells #[.slice none 0 0, .int .i64 at_] 31)).heap.size (w2.alloc (.cells #[.slice none 0 0, .int .i64 at_] 31)) w3) := Lib.hid ((Below.refl _ _).drew.trans hb3)
        clear hb3
        have HV3 : Hid (w3.heap[w2.heap.size]? = some (.cells #[.slice none 0 0, .int .i64 at_] 31 (0, 0))) := Lib.hid (by rw [HB3.out.block _ (by simp)]; exact heap_alloc_new w2 _)
        have g3 : w3.cell? ⟨w2.heap.size, 0, none⟩ = some (.slice none 0 0) := by rw [cell_of_row _ _ _ _ _ _ HV3.out]; rfl
        go_wp2_with fail
        refine hK.out _ _ ?_
        clear hK K
        try simp only [Act.put, List.setIfInBounds_toArray, List.set_cons_zero, List.set_cons_succ]
        refine wpAny_take (i := 7) (oi := { dst := some 55, op := Op.build 33 #[(1, Operand.tmp 54)], type := 33, pos := "word.go:156", after := #[{ on := 6, ground := Ground.data }], guard := none }) (v := ?_) rfl (by kernel_rfl) (by kernel_rfl) (by kernel_rfl) (fun _ _ _ h => h) (Or.inl ⟨by rfl, ?_⟩) ?_
        rotate_left
        · (intro w; go_simp; try with_reducible rfl)
        try simp only [Act.put, List.setIfInBounds_toArray, List.set_cons_zero, List.set_cons_succ]
        refine wpAny_ready (rs := [8]) (by kernel_rfl) (by simp) ?_
        refine AllReady.cons (o := { dst := some 56, op := Op.buildSlice 29 1 #[(0, Operand.tmp 55)], type := 29, pos := "word.go:156", after := #[{ on := 7, ground := Ground.data }], guard := none }) rfl (fun K hK0 => ?_) AllReady.nil
        have hK := Lib.hid hK0
        clear hK0
        go_simp
        refine hK.out _ _ ?_
        clear hK K
        try simp only [Act.put, List.setIfInBounds_toArray, List.set_cons_zero, List.set_cons_succ]
        refine wpAny_ready (rs := [9]) (by kernel_rfl) (by simp) ?_
        refine AllReady.cons (o := { dst := some 57, op := Op.call { callee := Callee.builtin Builtin.append, args := #[Operand.tmp 49, Operand.tmp 56], argTypes := #[29, 29] }, type := 29, pos := "word.go:156", after := #[{ on := 1, ground := Ground.data }, { on := 8, ground := Ground.data }, { on := 6, ground := Ground.chain }], guard := none }) rfl (fun K hK0 => ?_) AllReady.nil
        have hK := Lib.hid hK0
        clear hK0
        rw [if_pos (by rfl)]
        refine wp_append_own _ (.tmp 49) (.tmp 56) 29 rfl (w2.heap.size + 1) 33 i0 _ 3 32 Tryz.underlying29 hi0 hz0 hz1 hz2 rfl (by decide) (.slice none 0 0) 0 [] rfl (World.ownsRow_nil _ _ _ _) ⟨w3.heap.size, 0, none⟩ 1 1 (partCells ⟨false, (text.extract (L + 1) text.size), false⟩) rfl rfl (Sx.news_alloc w3 _ _) (Sx.part_one _) (by decide) (by decide) (by have := HB3.out.size; simp at this; simp; omega) ?_
        intro v' w4 hown0 hgrow _
        have hown : w4.ownsRow (w2.heap.size + 1) 33 3 v' [(⟨false, (text.extract (L + 1) text.size), false⟩ : Part)].length (pcells [(⟨false, (text.extract (L + 1) text.size), false⟩ : Part)]) := by simpa [pcells] using hown0
        obtain ⟨pp, cc, rfl, _, _, _⟩ := Sx.own_parts hown
        clear hown0
        have HV4 : Hid (w4.heap[w2.heap.size]? = some (.cells #[.slice none 0 0, .int .i64 at_] 31 (0, 0))) := Lib.hid (by rw [hgrow.block _ (by have := HB3.out.size; simp at this; simp; omega) (by simp [Value.ownBlock]), Below.heap_alloc _ _ _ (by have := HB3.out.size; simp at this; omega)]; exact HV3.out)
        have g4 : w4.cell? ⟨w2.heap.size, 0, none⟩ = some (.slice none 0 0) := by rw [cell_of_row _ _ _ _ _ _ HV4.out]; rfl
        have y4 := frozen_of_row w4 w2.heap.size 0 _ _ HV4.out
        refine hK.out _ _ ?_
        clear hK K
        try simp only [Act.put, List.setIfInBounds_toArray, List.set_cons_zero, List.set_cons_succ]
        refine wpAny_take (i := 10) (oi := { dst := some 58, op := Op.fieldAddr 31 (Operand.tmp 7) 0, type := 0, pos := "word.go:156", after := #[{ on := 0, ground := Ground.phase }, { on := 1, ground := Ground.phase }, { on := 2, ground := Ground.phase }, { on := 3, ground := Ground.phase }, { on := 4, ground := Ground.phase }, { on := 5, ground := Ground.phase }, { on := 6, ground := Ground.phase }, { on := 7, ground := Ground.phase }, { on := 8, ground := Ground.phase }, { on := 9, ground := Ground.phase }], guard := none }) (v := ?_) rfl (by kernel_rfl) (by kernel_rfl) (by kernel_rfl) (fun _ _ _ h => h) (Or.inl ⟨by rfl, ?_⟩) ?_
        rotate_left
        · (intro w; go_simp; try with_reducible rfl)
        try simp only [Act.put, List.setIfInBounds_toArray, List.set_cons_zero, List.set_cons_succ]
        refine wpAny_ready (rs := [11]) (by kernel_rfl) (by simp) ?_
        refine AllReady.cons (o := { dst := none, op := Op.store 29 (Operand.tmp 58) (Operand.tmp 57), type := 0, pos := "word.go:156", after := #[{ on := 10, ground := Ground.data }, { on := 9, ground := Ground.data }, { on := 9, ground := Ground.chain }, { on := 0, ground := Ground.phase }, { on := 1, ground := Ground.phase }, { on := 2, ground := Ground.phase }, { on := 3, ground := Ground.phase }, { on := 4, ground := Ground.phase }, { on := 5, ground := Ground.phase }, { on := 6, ground := Ground.phase }, { on := 7, ground := Ground.phase }, { on := 8, ground := Ground.phase }, { on := 9, ground := Ground.phase }], guard := none }) rfl (fun K hK0 => ?_) AllReady.nil
        have hK := Lib.hid hK0
        clear hK0
        go_simp
        refine hK.out _ _ ?_
        clear hK K
        try simp only [Act.put, List.setIfInBounds_toArray, List.set_cons_zero, List.set_cons_succ]
        refine wpAny_done (by kernel_rfl) ?_ _
        have HOWN := Lib.hid hown
        have HGROW := Lib.hid hgrow
        clear hown hgrow
        obtain ⟨vv, hvv⟩ : ∃ x, x = Value.slice pp 1 cc := ⟨_, rfl⟩
        have hpp : Value.slice pp [(⟨false, (text.extract (L + 1) text.size), false⟩ : Part)].length cc = vv := hvv.symm
        have hpp1 : Value.slice pp 1 cc = vv := hvv.symm
        rw [hpp] at HOWN
        rw [hpp1]
        clear hvv
        have HV : Hid ((w4.setCell ⟨w2.heap.size, 0, none⟩ vv).heap[w2.heap.size]? = some (.cells #[vv, .int .i64 at_] 31 (0, 0))) := Lib.hid (heap_setCell_same w4 w2.heap.size 0 _ _ vv HV4.out)
        have HO : Hid ((w4.setCell ⟨w2.heap.size, 0, none⟩ vv).ownsRow (w2.heap.size + 1) 33 3 vv [(⟨false, (text.extract (L + 1) text.size), false⟩ : Part)].length (pcells [(⟨false, (text.extract (L + 1) text.size), false⟩ : Part)])) := Lib.hid (own_far HOWN.out w2.heap.size 0 vv (Sx.own_none HOWN.out (Or.inl (Nat.lt_succ_self _))))
        have HBV : Hid (Below w2.heap.size w2 (w4.setCell ⟨w2.heap.size, 0, none⟩ vv)) := Lib.hid ((((((Below.refl w2.heap.size w2).alloc (Nat.le_refl _) _).trans (HB3.out.mono (by simp))).alloc (by have := HB3.out.size; simp at this; omega) _).grown HGROW.out (by have := HB3.out.size; simp at this; simp; omega) (fun _ hk => by simp [Value.ownBlock] at hk)).setCell (p := ⟨_, _, none⟩) (Nat.le_refl _) _)
        go_wp2_with fail
        go_meet
        exact ⟨vv, HV, Lib.hid (by rw [HP1.out]; exact HO.out), HBV⟩
    · have hm1 : ¬ ((L : Int) + 1 < (text.size : Int)) := by omega
      have HP1 : Hid (PRE = []) := Lib.hid (by rw [HPRE.out, if_neg hmore])
      go_wp2_with fail
      go_meet
      exact ⟨.slice none 0 0, Lib.hid (heap_alloc_new w2 _), Lib.hid (by rw [HP1.out]; exact World.ownsRow_nil _ _ _ _), Lib.hid ((Below.refl _ _).alloc (Nat.le_refl _) _)⟩
  case rest =>
    clear HIB HNL HHP HCLX f0 f1 f2 e0 e1 e2 hcell g0 c1
    obtain ⟨vv, HV, HO, HBV⟩ := hcut
    by_cases hc1 : c = 1
    · subst hc1
      have c0' : wc.cell? ⟨w.heap.size, 0, none⟩ = some (.slice (some ⟨b, o, none⟩) n 1) := by rw [HBV.out.cell (World.block_lt_of_cell? _ _ c0)]; exact c0
      have HV0 := HV
      have HO0 := HO
      have HBV0 := HBV
      go_wp2_with fail
      go_loopw [63] (fun i wr => ∃ (k : Nat) (vv : Value), k ≤ r.length ∧ i = .int .i64 k ∧ Hid (wr.heap[w2.heap.size]? = some (.cells #[vv, .int .i64 at_] 31 (0, 0))) ∧ Hid (wr.ownsRow (w2.heap.size + 1) 33 3 vv (PRE ++ r.take k).length (pcells (PRE ++ r.take k))) ∧ Hid (Below w2.heap.size w2 wr)) (fun i _ => r.length - (intOf i).toNat)
      case atStart => exact ⟨0, vv, Nat.zero_le _, rfl, HV0, Lib.hid (by rw [List.take_zero, List.append_nil]; exact HO0.out), HBV0⟩
      case round =>
        clear HV HO HBV HV0 HO0 HBV0 c0'
        obtain ⟨k, vv, hk, rfl, HV, HO, HBV⟩ := hrel
        have hVlt : w2.heap.size < wr.heap.size := (Array.getElem?_eq_some_iff.1 HV.out).1
        by_cases hlt : k < r.length
        · exfalso
          omega
        · have hkr : k = r.length := by omega
          subst hkr
          rw [List.take_length] at HO
          obtain ⟨p1, c1', rfl, _, _, _⟩ := Sx.own_parts HO.out
          generalize hm : (PRE ++ r).length = m at *
          have HM := Lib.hid hm
          clear hm
          have hrb : w.heap.size + 1 < w2.heap.size + 1 := by have := HB2.out.size; simp at this; omega
          have hrb2 : w.heap.size + 1 < w2.heap.size := by have := HB2.out.size; simp at this; omega
          have hge : ¬ ((r.length : Int) < (r.length : Int)) := by omega
          have x0 : wr.cell? ⟨w2.heap.size, 0, none⟩ = some (.slice p1 m c1') := by rw [cell_of_row _ _ _ _ _ _ HV.out]; rfl
          have x1 : wr.cell? ⟨w2.heap.size, 1, none⟩ = some (.int .i64 at_) := by rw [cell_of_row _ _ _ _ _ _ HV.out]; rfl
          have HCLN : Hid (∀ w, Calls Tryz.prog 42 #[.string (text.extract 0 L)] w fun e w' => e = .returned (.string (text.extract 0 L)) ∧ Below w.heap.size w w') := Lib.hid fun w => clone_any _ w (by rw [ByteArray.size_extract]; omega)
          go_wp2_with fail
          refine wp_region_any (by kernel_rfl) (show wpAny _ _ _ _ _ _ _ (World.drew _) from ?_)
          refine wpAny_take (i := 0) (oi := { dst := some 78, op := Op.move (Operand.tmp 5), type := 9, pos := "word.go:163", after := #[], guard := none }) (v := ?_) rfl (by kernel_rfl) (by kernel_rfl) (by kernel_rfl) (fun _ _ _ h => h) (Or.inl ⟨by rfl, ?_⟩) ?_
          rotate_left
          · (intro w; go_simp; try with_reducible rfl)
          try simp only [Act.put, List.setIfInBounds_toArray, List.set_cons_zero, List.set_cons_succ]
          refine wpAny_take (i := 1) (oi := { dst := some 79, op := Op.move (Operand.tmp 6), type := 3, pos := "word.go:163", after := #[], guard := none }) (v := ?_) rfl (by kernel_rfl) (by kernel_rfl) (by kernel_rfl) (fun _ _ _ h => h) (Or.inl ⟨by rfl, ?_⟩) ?_
          rotate_left
          · (intro w; go_simp; try with_reducible rfl)
          try simp only [Act.put, List.setIfInBounds_toArray, List.set_cons_zero, List.set_cons_succ]
          refine wpAny_take (i := 2) (oi := { dst := some 80, op := Op.slice 9 (Operand.tmp 78) none (some (Operand.tmp 79)) none, type := 9, pos := "word.go:163", after := #[{ on := 0, ground := Ground.data }, { on := 1, ground := Ground.data }], guard := none }) (v := ?_) rfl (by kernel_rfl) (by kernel_rfl) (by kernel_rfl) (fun _ _ _ h => h) (Or.inl ⟨by rfl, ?_⟩) ?_
          rotate_left
          · (intro w; go_simp; try with_reducible rfl)
          try simp only [Act.put, List.setIfInBounds_toArray, List.set_cons_zero, List.set_cons_succ]
          refine wpAny_ready (rs := [3, 4]) (by kernel_rfl) (by simp) ?_
          refine AllReady.cons (o := { dst := some 81, op := Op.call { callee := Callee.value (Operand.func 42), args := #[Operand.tmp 80], argTypes := #[9] }, type := 9, pos := "word.go:163", after := #[{ on := 2, ground := Ground.data }], guard := none }) rfl (fun K hK0 => ?_) ?_
          rotate_left
          refine AllReady.cons (o := { dst := some 82, op := Op.load 31 (Operand.tmp 7), type := 31, pos := "word.go:163", after := #[{ on := 5, ground := Ground.gcOnly Departure.lateStores }], guard := none }) rfl (fun K hK0 => ?_) AllReady.nil
          · have hK := Lib.hid hK0
            clear hK0
            go_simp
            refine hK.out _ _ ?_
            clear hK K
            try simp only [Act.put, List.setIfInBounds_toArray, List.set_cons_zero, List.set_cons_succ]
            refine wpAny_ready (rs := [3]) (by kernel_rfl) (by simp) ?_
            refine AllReady.cons (o := { dst := some 81, op := Op.call { callee := Callee.value (Operand.func 42), args := #[Operand.tmp 80], argTypes := #[9] }, type := 9, pos := "word.go:163", after := #[{ on := 2, ground := Ground.data }], guard := none }) rfl (fun K hK0 => ?_) AllReady.nil
            have hK := Lib.hid hK0
            clear hK0
            go_simp
            (go_at_call 42; refine (HCLN.out _).mono ?_; rintro e w11 ⟨rfl, hb11⟩)
            have HB11 : Hid (Below wr.heap.size wr w11) := Lib.hid ((Below.refl _ _).drew.trans hb11)
            clear hb11
            have HVB : Hid (w11.heap[w2.heap.size]? = some (.cells #[.slice p1 m c1', .int .i64 at_] 31 (0, 0))) := Lib.hid (by rw [HB11.out.block _ hVlt]; exact HV.out)
            have HRB : Hid (w11.heap[w.heap.size + 1]? = some (.cells #[.slice none 0 0, .int .i64 0] 31 (0, 0))) := Lib.hid (by rw [HB11.out.block _ (by omega), HBV.out.block _ hrb2]; exact Sx.box2_heap HB2.out)
            have HO11 := Lib.hid (Sx.own_below HO.out HB11.out)
            have x0 : w11.cell? ⟨w2.heap.size, 0, none⟩ = some (.slice p1 m c1') := by rw [cell_of_row _ _ _ _ _ _ HVB.out]; rfl
            have x1 : w11.cell? ⟨w2.heap.size, 1, none⟩ = some (.int .i64 at_) := by rw [cell_of_row _ _ _ _ _ _ HVB.out]; rfl
            have q0 : w11.cell? ⟨w.heap.size + 1, 0, none⟩ = some (.slice none 0 0) := by rw [cell_of_row _ _ _ _ _ _ HRB.out]; rfl
            have q1 : w11.cell? ⟨w.heap.size + 1, 1, none⟩ = some (.int .i64 0) := by rw [cell_of_row _ _ _ _ _ _ HRB.out]; rfl
            have z0 := frozen_of_row w11 (w.heap.size + 1) 0 _ _ HRB.out
            have z1 := frozen_of_row w11 (w.heap.size + 1) 1 _ _ HRB.out
            obtain ⟨s0, s1, _⟩ := Sx.store2 (u0 := .slice p1 m c1') (u1 := .int .i64 at_) HRB.out
            go_wp2_with fail
            refine hK.out _ _ ?_
            clear hK K
            try simp only [Act.put, List.setIfInBounds_toArray, List.set_cons_zero, List.set_cons_succ]
            refine wpAny_take (i := 5) (oi := { dst := some 2, op := Op.assign (Operand.tmp 81), type := 9, pos := "word.go:163", after := #[{ on := 3, ground := Ground.data }, { on := 3, ground := Ground.chain }, { on := 0, ground := Ground.phase }, { on := 1, ground := Ground.phase }, { on := 2, ground := Ground.phase }, { on := 3, ground := Ground.phase }, { on := 4, ground := Ground.textOnly Departure.lateStores }], guard := none }) (v := ?_) rfl (by kernel_rfl) (by kernel_rfl) (by kernel_rfl) (fun _ _ _ h => h) (Or.inl ⟨by rfl, ?_⟩) ?_
            rotate_left
            · (intro w; go_simp; try with_reducible rfl)
            try simp only [Act.put, List.setIfInBounds_toArray, List.set_cons_zero, List.set_cons_succ]
            refine wpAny_ready (rs := [6]) (by kernel_rfl) (by simp) ?_
            refine AllReady.cons (o := { dst := none, op := Op.store 31 (Operand.tmp 3) (Operand.tmp 82), type := 0, pos := "word.go:163", after := #[{ on := 4, ground := Ground.data }, { on := 5, ground := Ground.chain }, { on := 0, ground := Ground.phase }, { on := 1, ground := Ground.phase }, { on := 2, ground := Ground.phase }, { on := 3, ground := Ground.phase }, { on := 4, ground := Ground.phase }, { on := 5, ground := Ground.phase }], guard := none }) rfl (fun K hK0 => ?_) AllReady.nil
            have hK := Lib.hid hK0
            clear hK0
            go_simp
            refine hK.out _ _ ?_
            clear hK K
            try simp only [Act.put, List.setIfInBounds_toArray, List.set_cons_zero, List.set_cons_succ]
            refine wpAny_take (i := 7) (oi := { dst := some 4, op := Op.assign (Operand.const (Value.bool true)), type := 4, pos := "word.go:163", after := #[{ on := 6, ground := Ground.chain }, { on := 0, ground := Ground.phase }, { on := 1, ground := Ground.phase }, { on := 2, ground := Ground.phase }, { on := 3, ground := Ground.phase }, { on := 4, ground := Ground.phase }, { on := 5, ground := Ground.phase }, { on := 6, ground := Ground.phase }], guard := none }) (v := ?_) rfl (by kernel_rfl) (by kernel_rfl) (by kernel_rfl) (fun _ _ _ h => h) (Or.inl ⟨by rfl, ?_⟩) ?_
            rotate_left
            · (intro w; go_simp; try with_reducible rfl)
            try simp only [Act.put, List.setIfInBounds_toArray, List.set_cons_zero, List.set_cons_succ]
            refine wpAny_done (by kernel_rfl) ?_ _
            go_wp2_with fail
            refine bodyPost_ret (by simp [results, Tryz.results55, go_sem, s0, s1]; rfl) rfl ?_
            have HOF : Hid (((w11.setCell ⟨w.heap.size + 1, 0, none⟩ (.slice p1 m c1')).setCell ⟨w.heap.size + 1, 1, none⟩ (.int .i64 at_)).ownsRow (w2.heap.size + 1) 33 3 (.slice p1 m c1') m (pcells (PRE ++ r))) := Lib.hid (own_far (own_far HO11.out _ 0 _ (Sx.own_none HO11.out (Or.inl hrb))) _ 1 _ (Sx.own_none HO11.out (Or.inl hrb)))
            obtain ⟨p2, c2, hv2, hc21, hc22, hrow⟩ := Sx.own_parts (l := PRE ++ r) (by rw [HM.out]; exact HOF.out)
            obtain ⟨rfl, rfl⟩ : p1 = p2 ∧ c1' = c2 := by
              have h := hv2
              simp only [Value.slice.injEq] at h
              exact ⟨h.1, h.2.2⟩
            exact ⟨⟨_, _, ⟨PRE ++ r, at_⟩, rfl, ⟨p1, c1', by rw [HM.out], hc21, hc22, hrow⟩, rfl, rfl⟩, (((box2_self HB2.out).trans ((HBV.out.trans (HB11.out.mono HBV.out.size)).mono (by have := HB2.out.size; simp at this; omega))).setCell (p := ⟨_, _, none⟩) (Nat.le_succ _) _).setCell (p := ⟨_, _, none⟩) (Nat.le_succ _) _⟩
          · have hK := Lib.hid hK0
            clear hK0
            go_simp
            (go_at_call 42; refine (HCLN.out _).mono ?_; rintro e w11 ⟨rfl, hb11⟩)
            have HB11 : Hid (Below wr.heap.size wr w11) := Lib.hid ((Below.refl _ _).drew.trans hb11)
            clear hb11
            have HVB : Hid (w11.heap[w2.heap.size]? = some (.cells #[.slice p1 m c1', .int .i64 at_] 31 (0, 0))) := Lib.hid (by rw [HB11.out.block _ hVlt]; exact HV.out)
            have HRB : Hid (w11.heap[w.heap.size + 1]? = some (.cells #[.slice none 0 0, .int .i64 0] 31 (0, 0))) := Lib.hid (by rw [HB11.out.block _ (by omega), HBV.out.block _ hrb2]; exact Sx.box2_heap HB2.out)
            have HO11 := Lib.hid (Sx.own_below HO.out HB11.out)
            have x0 : w11.cell? ⟨w2.heap.size, 0, none⟩ = some (.slice p1 m c1') := by rw [cell_of_row _ _ _ _ _ _ HVB.out]; rfl
            have x1 : w11.cell? ⟨w2.heap.size, 1, none⟩ = some (.int .i64 at_) := by rw [cell_of_row _ _ _ _ _ _ HVB.out]; rfl
            have q0 : w11.cell? ⟨w.heap.size + 1, 0, none⟩ = some (.slice none 0 0) := by rw [cell_of_row _ _ _ _ _ _ HRB.out]; rfl
            have q1 : w11.cell? ⟨w.heap.size + 1, 1, none⟩ = some (.int .i64 0) := by rw [cell_of_row _ _ _ _ _ _ HRB.out]; rfl
            have z0 := frozen_of_row w11 (w.heap.size + 1) 0 _ _ HRB.out
            have z1 := frozen_of_row w11 (w.heap.size + 1) 1 _ _ HRB.out
            obtain ⟨s0, s1, _⟩ := Sx.store2 (u0 := .slice p1 m c1') (u1 := .int .i64 at_) HRB.out
            go_wp2_with fail
            refine hK.out _ _ ?_
            clear hK K
            try simp only [Act.put, List.setIfInBounds_toArray, List.set_cons_zero, List.set_cons_succ]
            refine wpAny_take (i := 5) (oi := { dst := some 2, op := Op.assign (Operand.tmp 81), type := 9, pos := "word.go:163", after := #[{ on := 3, ground := Ground.data }, { on := 3, ground := Ground.chain }, { on := 0, ground := Ground.phase }, { on := 1, ground := Ground.phase }, { on := 2, ground := Ground.phase }, { on := 3, ground := Ground.phase }, { on := 4, ground := Ground.textOnly Departure.lateStores }], guard := none }) (v := ?_) rfl (by kernel_rfl) (by kernel_rfl) (by kernel_rfl) (fun _ _ _ h => h) (Or.inl ⟨by rfl, ?_⟩) ?_
            rotate_left
            · (intro w; go_simp; try with_reducible rfl)
            try simp only [Act.put, List.setIfInBounds_toArray, List.set_cons_zero, List.set_cons_succ]
            refine wpAny_ready (rs := [4]) (by kernel_rfl) (by simp) ?_
            refine AllReady.cons (o := { dst := some 82, op := Op.load 31 (Operand.tmp 7), type := 31, pos := "word.go:163", after := #[{ on := 5, ground := Ground.gcOnly Departure.lateStores }], guard := none }) rfl (fun K hK0 => ?_) AllReady.nil
            have hK := Lib.hid hK0
            clear hK0
            go_simp
            refine hK.out _ _ ?_
            clear hK K
            try simp only [Act.put, List.setIfInBounds_toArray, List.set_cons_zero, List.set_cons_succ]
            refine wpAny_ready (rs := [6]) (by kernel_rfl) (by simp) ?_
            refine AllReady.cons (o := { dst := none, op := Op.store 31 (Operand.tmp 3) (Operand.tmp 82), type := 0, pos := "word.go:163", after := #[{ on := 4, ground := Ground.data }, { on := 5, ground := Ground.chain }, { on := 0, ground := Ground.phase }, { on := 1, ground := Ground.phase }, { on := 2, ground := Ground.phase }, { on := 3, ground := Ground.phase }, { on := 4, ground := Ground.phase }, { on := 5, ground := Ground.phase }], guard := none }) rfl (fun K hK0 => ?_) AllReady.nil
            have hK := Lib.hid hK0
            clear hK0
            go_simp
            refine hK.out _ _ ?_
            clear hK K
            try simp only [Act.put, List.setIfInBounds_toArray, List.set_cons_zero, List.set_cons_succ]
            refine wpAny_take (i := 7) (oi := { dst := some 4, op := Op.assign (Operand.const (Value.bool true)), type := 4, pos := "word.go:163", after := #[{ on := 6, ground := Ground.chain }, { on := 0, ground := Ground.phase }, { on := 1, ground := Ground.phase }, { on := 2, ground := Ground.phase }, { on := 3, ground := Ground.phase }, { on := 4, ground := Ground.phase }, { on := 5, ground := Ground.phase }, { on := 6, ground := Ground.phase }], guard := none }) (v := ?_) rfl (by kernel_rfl) (by kernel_rfl) (by kernel_rfl) (fun _ _ _ h => h) (Or.inl ⟨by rfl, ?_⟩) ?_
            rotate_left
            · (intro w; go_simp; try with_reducible rfl)
            try simp only [Act.put, List.setIfInBounds_toArray, List.set_cons_zero, List.set_cons_succ]
            refine wpAny_done (by kernel_rfl) ?_ _
            go_wp2_with fail
            refine bodyPost_ret (by simp [results, Tryz.results55, go_sem, s0, s1]; rfl) rfl ?_
            have HOF : Hid (((w11.setCell ⟨w.heap.size + 1, 0, none⟩ (.slice p1 m c1')).setCell ⟨w.heap.size + 1, 1, none⟩ (.int .i64 at_)).ownsRow (w2.heap.size + 1) 33 3 (.slice p1 m c1') m (pcells (PRE ++ r))) := Lib.hid (own_far (own_far HO11.out _ 0 _ (Sx.own_none HO11.out (Or.inl hrb))) _ 1 _ (Sx.own_none HO11.out (Or.inl hrb)))
            obtain ⟨p2, c2, hv2, hc21, hc22, hrow⟩ := Sx.own_parts (l := PRE ++ r) (by rw [HM.out]; exact HOF.out)
            obtain ⟨rfl, rfl⟩ : p1 = p2 ∧ c1' = c2 := by
              have h := hv2
              simp only [Value.slice.injEq] at h
              exact ⟨h.1, h.2.2⟩
            exact ⟨⟨_, _, ⟨PRE ++ r, at_⟩, rfl, ⟨p1, c1', by rw [HM.out], hc21, hc22, hrow⟩, rfl, rfl⟩, (((box2_self HB2.out).trans ((HBV.out.trans (HB11.out.mono HBV.out.size)).mono (by have := HB2.out.size; simp at this; omega))).setCell (p := ⟨_, _, none⟩) (Nat.le_succ _) _).setCell (p := ⟨_, _, none⟩) (Nat.le_succ _) _⟩
    · have hc2 : ¬ ((1 : Int) = (c : Int)) := by omega
      have hc3 : ¬ ((c : Int) = 1) := by omega
      have c0' : wc.cell? ⟨w.heap.size, 0, none⟩ = some (.slice (some ⟨b, o, none⟩) n c) := by rw [HBV.out.cell (World.block_lt_of_cell? _ _ c0)]; exact c0
      have HV0 := HV
      have HO0 := HO
      have HBV0 := HBV
      go_wp2_with fail
      go_loopw [63] (fun i wr => ∃ (k : Nat) (vv : Value), k ≤ r.length ∧ i = .int .i64 k ∧ Hid (wr.heap[w2.heap.size]? = some (.cells #[vv, .int .i64 at_] 31 (0, 0))) ∧ Hid (wr.ownsRow (w2.heap.size + 1) 33 3 vv (PRE ++ r.take k).length (pcells (PRE ++ r.take k))) ∧ Hid (Below w2.heap.size w2 wr)) (fun i _ => r.length - (intOf i).toNat)
      case atStart => exact ⟨0, vv, Nat.zero_le _, rfl, HV0, Lib.hid (by rw [List.take_zero, List.append_nil]; exact HO0.out), HBV0⟩
      case round =>
        clear HV HO HBV HV0 HO0 HBV0 c0'
        obtain ⟨k, vv, hk, rfl, HV, HO, HBV⟩ := hrel
        have hVlt : w2.heap.size < wr.heap.size := (Array.getElem?_eq_some_iff.1 HV.out).1
        by_cases hlt : k < r.length
        · have hkk : k + 1 < n := by omega
          obtain ⟨b', o', hbo, _, hr⟩ := HX.out (k + 1) hkk
          simp only [Option.some.injEq, Addr.mk.injEq] at hbo
          obtain ⟨rfl, rfl, _⟩ := hbo
          have hr : w.rangeAt b (o + (k + 1) * 3) (partCells r[k]) := by
            have h2 : ((((⟨false, text, false⟩ :: r : List Part)[k + 1]?).map partCells).getD []) = partCells r[k] := by rw [List.getElem?_cons_succ, List.getElem?_eq_getElem hlt]; rfl
            rw [← h2]; exact hr
          rw [show o + (k + 1) * 3 = o + 3 + k * 3 by omega] at hr
          have hts2 := HBK.out (k + 1) r[k] (by rw [List.getElem?_cons_succ, List.getElem?_eq_getElem hlt])
          have HTK : Hid (r.take (k + 1) = r.take k ++ [r[k]]) := Lib.hid (List.take_succ_eq_append_getElem hlt)
          have hoth : Below w.heap.size w wr := (box2_self HB2.out).trans (HBV.out.mono (by have := HB2.out.size; simp at this; omega))
          obtain ⟨d0, d1, d2⟩ := part_cells (range_below hoth hr)
          clear hr hoth
          generalize r[k] = P at *
          have HCL : Hid (∀ w, Calls Tryz.prog 42 #[.string P.text] w fun e w' => e = .returned (.string P.text) ∧ Below w.heap.size w w') := Lib.hid fun w => clone_any _ w hts2
          have hlen : (PRE ++ r.take k).length ≤ 2000001 := by rw [List.length_append, List.length_take]; omega
          go_wp2_with fail
          refine (HCL.out _).mono ?_
          rintro e w6 ⟨rfl, hb6⟩
          have HB6 := Lib.hid hb6
          clear hb6
          have hpb : wr.heap.size < (wr.alloc (.cells #[.bool P.var, .string P.text, .bool P.quoted] 33)).heap.size := by simp
          have HP6 : Hid (w6.heap[wr.heap.size]? = some (.cells #[.bool P.var, .string P.text, .bool P.quoted] 33 (0, 0))) := Lib.hid (by rw [HB6.out.block _ hpb]; exact heap_alloc_new wr _)
          have HV6 : Hid (w6.heap[w2.heap.size]? = some (.cells #[vv, .int .i64 at_] 31 (0, 0))) := Lib.hid (by rw [HB6.out.block _ (by omega), Below.heap_alloc _ _ _ hVlt]; exact HV.out)
          have HO6 := Lib.hid (Sx.own_below (HO.out.alloc (.cells #[.bool P.var, .string P.text, .bool P.quoted] 33)) HB6.out)
          have hVne : w2.heap.size ≠ wr.heap.size := by omega
          have HP7 := Lib.hid (heap_setCell_same w6 wr.heap.size 1 _ _ (.string P.text) HP6.out)
          have HV7 : Hid ((w6.setCell ⟨wr.heap.size, 1, none⟩ (.string P.text)).heap[w2.heap.size]? = some (.cells #[vv, .int .i64 at_] 31 (0, 0))) := Lib.hid (by rw [heap_setCell_other _ _ _ _ hVne]; exact HV6.out)
          have hown6 : vv.ownBlock ≠ some wr.heap.size := Sx.own_none HO.out (Or.inr (Nat.le_refl _))
          have HO7 := Lib.hid (own_far HO6.out wr.heap.size 1 (.string P.text) hown6)
          have u1 : w6.cell? ⟨wr.heap.size, 1, none⟩ = some (.string P.text) := by rw [cell_of_row _ _ _ _ _ _ HP6.out]; rfl
          have y1 := frozen_of_row w6 wr.heap.size 1 _ _ HP6.out
          have p0 : (w6.setCell ⟨wr.heap.size, 1, none⟩ (.string P.text)).cell? ⟨wr.heap.size, 0, none⟩ = some (.bool P.var) := by rw [cell_of_row _ _ _ _ _ _ HP7.out]; rfl
          have p1 : (w6.setCell ⟨wr.heap.size, 1, none⟩ (.string P.text)).cell? ⟨wr.heap.size, 1, none⟩ = some (.string P.text) := by rw [cell_of_row _ _ _ _ _ _ HP7.out]; rfl
          have p2 : (w6.setCell ⟨wr.heap.size, 1, none⟩ (.string P.text)).cell? ⟨wr.heap.size, 2, none⟩ = some (.bool P.quoted) := by rw [cell_of_row _ _ _ _ _ _ HP7.out]; rfl
          have g7 : (w6.setCell ⟨wr.heap.size, 1, none⟩ (.string P.text)).cell? ⟨w2.heap.size, 0, none⟩ = some vv := by rw [cell_of_row _ _ _ _ _ _ HV7.out]; rfl
          have HS7 : Hid (w6.heap.size = (w6.setCell ⟨wr.heap.size, 1, none⟩ (.string P.text)).heap.size) := Lib.hid (by simp [World.setCell])
          have HB7 : Hid (Below w2.heap.size w2 (w6.setCell ⟨wr.heap.size, 1, none⟩ (.string P.text))) := Lib.hid (((HBV.out.alloc HBV.out.size (.cells #[.bool P.var, .string P.text, .bool P.quoted] 33)).trans (HB6.out.mono (by have := HBV.out.size; simp; omega))).setCell (p := ⟨_, _, none⟩) HBV.out.size _)
          have hs8 : ((w6.setCell ⟨wr.heap.size, 1, none⟩ (.string P.text)).alloc (.cells #[.bool P.var, .string P.text, .bool P.quoted] 33)).heap[w6.heap.size]? = some (.cells #[.bool P.var, .string P.text, .bool P.quoted] 33) := by rw [HS7.out]; exact heap_alloc1 _ _
          obtain ⟨m', hm'⟩ : ∃ m', m' = (PRE ++ r.take (k + 1)).length := ⟨_, rfl⟩
          have HM' := Lib.hid hm'
          clear hm'
          go_wp2_with (first | (at_builtin; refine wpList_append_block _ rfl (.tmp 72) (.tmp 74) 29 rfl (w2.heap.size + 1) 33 i0 _ 3 32 Tryz.underlying29 hi0 hz0 hz1 hz2 rfl (by decide) (by decide) _ _ _ rfl (HO7.out.alloc _) w6.heap.size _ _ _ rfl hs8 rfl rfl (by omega) (by have := HBV.out.size; have := HB6.out.size; simp at this; simp [World.setCell]; omega) ?_; intro v' w9 hown9 hgrow9; have hown10 : w9.ownsRow (w2.heap.size + 1) 33 3 v' m' (pcells (PRE ++ r.take (k + 1))) := (by rw [HM'.out, HTK.out, ← List.append_assoc, pcells_append, List.length_append]; simpa [pcells, partCells] using hown9); obtain ⟨pp, cc, rfl⟩ := Sx.own_slice hown10; have HV9 : Hid (w9.heap[w2.heap.size]? = some (.cells #[vv, .int .i64 at_] 31 (0, 0))) := Lib.hid (by rw [hgrow9.block _ (by have := (Array.getElem?_eq_some_iff.1 HV7.out).1; simp only [World.alloc, Array.size_push]; omega) (fun h => Sx.own_none HO7.out (k := w2.heap.size) (Or.inl (Nat.lt_succ_self _)) h.symm), Below.heap_alloc _ _ _ (Array.getElem?_eq_some_iff.1 HV7.out).1]; exact HV7.out); have g9 : w9.cell? ⟨w2.heap.size, 0, none⟩ = some vv := (by rw [cell_of_row _ _ _ _ _ _ HV9.out]; rfl); have y9 := frozen_of_row w9 w2.heap.size 0 _ _ HV9.out; have HOWN10 := Lib.hid hown10; have HGROW9 := Lib.hid hgrow9; clear hown9 hown10 hgrow9))
          go_roundw
          case rel => exact ⟨k + 1, _, by omega, by go_num, Lib.hid (heap_setCell_same w9 w2.heap.size 0 _ _ _ HV9.out), Lib.hid (by rw [← HM'.out]; exact own_far HOWN10.out w2.heap.size 0 _ (Sx.own_none HOWN10.out (Or.inl (Nat.lt_succ_self _)))), Lib.hid (((HB7.out.alloc HB7.out.size _).grown HGROW9.out (by have := HB7.out.size; simp only [World.alloc, Array.size_push]; omega) (fun q hq => by have := own_where HO7.out hq; omega)).setCell (p := ⟨_, _, none⟩) (Nat.le_refl _) _)⟩
          case measure => simp [intOf]; omega
        · have hkr : k = r.length := by omega
          subst hkr
          rw [List.take_length] at HO
          obtain ⟨p1, c1', rfl, _, _, _⟩ := Sx.own_parts HO.out
          generalize hm : (PRE ++ r).length = m at *
          have HM := Lib.hid hm
          clear hm
          have hrb : w.heap.size + 1 < w2.heap.size + 1 := by have := HB2.out.size; simp at this; omega
          have hrb2 : w.heap.size + 1 < w2.heap.size := by have := HB2.out.size; simp at this; omega
          have hge : ¬ ((r.length : Int) < (r.length : Int)) := by omega
          have x0 : wr.cell? ⟨w2.heap.size, 0, none⟩ = some (.slice p1 m c1') := by rw [cell_of_row _ _ _ _ _ _ HV.out]; rfl
          have x1 : wr.cell? ⟨w2.heap.size, 1, none⟩ = some (.int .i64 at_) := by rw [cell_of_row _ _ _ _ _ _ HV.out]; rfl
          have HCLN : Hid (∀ w, Calls Tryz.prog 42 #[.string (text.extract 0 L)] w fun e w' => e = .returned (.string (text.extract 0 L)) ∧ Below w.heap.size w w') := Lib.hid fun w => clone_any _ w (by rw [ByteArray.size_extract]; omega)
          go_wp2_with fail
          refine wp_region_any (by kernel_rfl) (show wpAny _ _ _ _ _ _ _ (World.drew _) from ?_)
          refine wpAny_take (i := 0) (oi := { dst := some 78, op := Op.move (Operand.tmp 5), type := 9, pos := "word.go:163", after := #[], guard := none }) (v := ?_) rfl (by kernel_rfl) (by kernel_rfl) (by kernel_rfl) (fun _ _ _ h => h) (Or.inl ⟨by rfl, ?_⟩) ?_
          rotate_left
          · (intro w; go_simp; try with_reducible rfl)
          try simp only [Act.put, List.setIfInBounds_toArray, List.set_cons_zero, List.set_cons_succ]
          refine wpAny_take (i := 1) (oi := { dst := some 79, op := Op.move (Operand.tmp 6), type := 3, pos := "word.go:163", after := #[], guard := none }) (v := ?_) rfl (by kernel_rfl) (by kernel_rfl) (by kernel_rfl) (fun _ _ _ h => h) (Or.inl ⟨by rfl, ?_⟩) ?_
          rotate_left
          · (intro w; go_simp; try with_reducible rfl)
          try simp only [Act.put, List.setIfInBounds_toArray, List.set_cons_zero, List.set_cons_succ]
          refine wpAny_take (i := 2) (oi := { dst := some 80, op := Op.slice 9 (Operand.tmp 78) none (some (Operand.tmp 79)) none, type := 9, pos := "word.go:163", after := #[{ on := 0, ground := Ground.data }, { on := 1, ground := Ground.data }], guard := none }) (v := ?_) rfl (by kernel_rfl) (by kernel_rfl) (by kernel_rfl) (fun _ _ _ h => h) (Or.inl ⟨by rfl, ?_⟩) ?_
          rotate_left
          · (intro w; go_simp; try with_reducible rfl)
          try simp only [Act.put, List.setIfInBounds_toArray, List.set_cons_zero, List.set_cons_succ]
          refine wpAny_ready (rs := [3, 4]) (by kernel_rfl) (by simp) ?_
          refine AllReady.cons (o := { dst := some 81, op := Op.call { callee := Callee.value (Operand.func 42), args := #[Operand.tmp 80], argTypes := #[9] }, type := 9, pos := "word.go:163", after := #[{ on := 2, ground := Ground.data }], guard := none }) rfl (fun K hK0 => ?_) ?_
          rotate_left
          refine AllReady.cons (o := { dst := some 82, op := Op.load 31 (Operand.tmp 7), type := 31, pos := "word.go:163", after := #[{ on := 5, ground := Ground.gcOnly Departure.lateStores }], guard := none }) rfl (fun K hK0 => ?_) AllReady.nil
          · have hK := Lib.hid hK0
            clear hK0
            go_simp
            refine hK.out _ _ ?_
            clear hK K
            try simp only [Act.put, List.setIfInBounds_toArray, List.set_cons_zero, List.set_cons_succ]
            refine wpAny_ready (rs := [3]) (by kernel_rfl) (by simp) ?_
            refine AllReady.cons (o := { dst := some 81, op := Op.call { callee := Callee.value (Operand.func 42), args := #[Operand.tmp 80], argTypes := #[9] }, type := 9, pos := "word.go:163", after := #[{ on := 2, ground := Ground.data }], guard := none }) rfl (fun K hK0 => ?_) AllReady.nil
            have hK := Lib.hid hK0
            clear hK0
            go_simp
            (go_at_call 42; refine (HCLN.out _).mono ?_; rintro e w11 ⟨rfl, hb11⟩)
            have HB11 : Hid (Below wr.heap.size wr w11) := Lib.hid ((Below.refl _ _).drew.trans hb11)
            clear hb11
            have HVB : Hid (w11.heap[w2.heap.size]? = some (.cells #[.slice p1 m c1', .int .i64 at_] 31 (0, 0))) := Lib.hid (by rw [HB11.out.block _ hVlt]; exact HV.out)
            have HRB : Hid (w11.heap[w.heap.size + 1]? = some (.cells #[.slice none 0 0, .int .i64 0] 31 (0, 0))) := Lib.hid (by rw [HB11.out.block _ (by omega), HBV.out.block _ hrb2]; exact Sx.box2_heap HB2.out)
            have HO11 := Lib.hid (Sx.own_below HO.out HB11.out)
            have x0 : w11.cell? ⟨w2.heap.size, 0, none⟩ = some (.slice p1 m c1') := by rw [cell_of_row _ _ _ _ _ _ HVB.out]; rfl
            have x1 : w11.cell? ⟨w2.heap.size, 1, none⟩ = some (.int .i64 at_) := by rw [cell_of_row _ _ _ _ _ _ HVB.out]; rfl
            have q0 : w11.cell? ⟨w.heap.size + 1, 0, none⟩ = some (.slice none 0 0) := by rw [cell_of_row _ _ _ _ _ _ HRB.out]; rfl
            have q1 : w11.cell? ⟨w.heap.size + 1, 1, none⟩ = some (.int .i64 0) := by rw [cell_of_row _ _ _ _ _ _ HRB.out]; rfl
            have z0 := frozen_of_row w11 (w.heap.size + 1) 0 _ _ HRB.out
            have z1 := frozen_of_row w11 (w.heap.size + 1) 1 _ _ HRB.out
            obtain ⟨s0, s1, _⟩ := Sx.store2 (u0 := .slice p1 m c1') (u1 := .int .i64 at_) HRB.out
            go_wp2_with fail
            refine hK.out _ _ ?_
            clear hK K
            try simp only [Act.put, List.setIfInBounds_toArray, List.set_cons_zero, List.set_cons_succ]
            refine wpAny_take (i := 5) (oi := { dst := some 2, op := Op.assign (Operand.tmp 81), type := 9, pos := "word.go:163", after := #[{ on := 3, ground := Ground.data }, { on := 3, ground := Ground.chain }, { on := 0, ground := Ground.phase }, { on := 1, ground := Ground.phase }, { on := 2, ground := Ground.phase }, { on := 3, ground := Ground.phase }, { on := 4, ground := Ground.textOnly Departure.lateStores }], guard := none }) (v := ?_) rfl (by kernel_rfl) (by kernel_rfl) (by kernel_rfl) (fun _ _ _ h => h) (Or.inl ⟨by rfl, ?_⟩) ?_
            rotate_left
            · (intro w; go_simp; try with_reducible rfl)
            try simp only [Act.put, List.setIfInBounds_toArray, List.set_cons_zero, List.set_cons_succ]
            refine wpAny_ready (rs := [6]) (by kernel_rfl) (by simp) ?_
            refine AllReady.cons (o := { dst := none, op := Op.store 31 (Operand.tmp 3) (Operand.tmp 82), type := 0, pos := "word.go:163", after := #[{ on := 4, ground := Ground.data }, { on := 5, ground := Ground.chain }, { on := 0, ground := Ground.phase }, { on := 1, ground := Ground.phase }, { on := 2, ground := Ground.phase }, { on := 3, ground := Ground.phase }, { on := 4, ground := Ground.phase }, { on := 5, ground := Ground.phase }], guard := none }) rfl (fun K hK0 => ?_) AllReady.nil
            have hK := Lib.hid hK0
            clear hK0
            go_simp
            refine hK.out _ _ ?_
            clear hK K
            try simp only [Act.put, List.setIfInBounds_toArray, List.set_cons_zero, List.set_cons_succ]
            refine wpAny_take (i := 7) (oi := { dst := some 4, op := Op.assign (Operand.const (Value.bool true)), type := 4, pos := "word.go:163", after := #[{ on := 6, ground := Ground.chain }, { on := 0, ground := Ground.phase }, { on := 1, ground := Ground.phase }, { on := 2, ground := Ground.phase }, { on := 3, ground := Ground.phase }, { on := 4, ground := Ground.phase }, { on := 5, ground := Ground.phase }, { on := 6, ground := Ground.phase }], guard := none }) (v := ?_) rfl (by kernel_rfl) (by kernel_rfl) (by kernel_rfl) (fun _ _ _ h => h) (Or.inl ⟨by rfl, ?_⟩) ?_
            rotate_left
            · (intro w; go_simp; try with_reducible rfl)
            try simp only [Act.put, List.setIfInBounds_toArray, List.set_cons_zero, List.set_cons_succ]
            refine wpAny_done (by kernel_rfl) ?_ _
            go_wp2_with fail
            refine bodyPost_ret (by simp [results, Tryz.results55, go_sem, s0, s1]; rfl) rfl ?_
            have HOF : Hid (((w11.setCell ⟨w.heap.size + 1, 0, none⟩ (.slice p1 m c1')).setCell ⟨w.heap.size + 1, 1, none⟩ (.int .i64 at_)).ownsRow (w2.heap.size + 1) 33 3 (.slice p1 m c1') m (pcells (PRE ++ r))) := Lib.hid (own_far (own_far HO11.out _ 0 _ (Sx.own_none HO11.out (Or.inl hrb))) _ 1 _ (Sx.own_none HO11.out (Or.inl hrb)))
            obtain ⟨p2, c2, hv2, hc21, hc22, hrow⟩ := Sx.own_parts (l := PRE ++ r) (by rw [HM.out]; exact HOF.out)
            obtain ⟨rfl, rfl⟩ : p1 = p2 ∧ c1' = c2 := by
              have h := hv2
              simp only [Value.slice.injEq] at h
              exact ⟨h.1, h.2.2⟩
            exact ⟨⟨_, _, ⟨PRE ++ r, at_⟩, rfl, ⟨p1, c1', by rw [HM.out], hc21, hc22, hrow⟩, rfl, rfl⟩, (((box2_self HB2.out).trans ((HBV.out.trans (HB11.out.mono HBV.out.size)).mono (by have := HB2.out.size; simp at this; omega))).setCell (p := ⟨_, _, none⟩) (Nat.le_succ _) _).setCell (p := ⟨_, _, none⟩) (Nat.le_succ _) _⟩
          · have hK := Lib.hid hK0
            clear hK0
            go_simp
            (go_at_call 42; refine (HCLN.out _).mono ?_; rintro e w11 ⟨rfl, hb11⟩)
            have HB11 : Hid (Below wr.heap.size wr w11) := Lib.hid ((Below.refl _ _).drew.trans hb11)
            clear hb11
            have HVB : Hid (w11.heap[w2.heap.size]? = some (.cells #[.slice p1 m c1', .int .i64 at_] 31 (0, 0))) := Lib.hid (by rw [HB11.out.block _ hVlt]; exact HV.out)
            have HRB : Hid (w11.heap[w.heap.size + 1]? = some (.cells #[.slice none 0 0, .int .i64 0] 31 (0, 0))) := Lib.hid (by rw [HB11.out.block _ (by omega), HBV.out.block _ hrb2]; exact Sx.box2_heap HB2.out)
            have HO11 := Lib.hid (Sx.own_below HO.out HB11.out)
            have x0 : w11.cell? ⟨w2.heap.size, 0, none⟩ = some (.slice p1 m c1') := by rw [cell_of_row _ _ _ _ _ _ HVB.out]; rfl
            have x1 : w11.cell? ⟨w2.heap.size, 1, none⟩ = some (.int .i64 at_) := by rw [cell_of_row _ _ _ _ _ _ HVB.out]; rfl
            have q0 : w11.cell? ⟨w.heap.size + 1, 0, none⟩ = some (.slice none 0 0) := by rw [cell_of_row _ _ _ _ _ _ HRB.out]; rfl
            have q1 : w11.cell? ⟨w.heap.size + 1, 1, none⟩ = some (.int .i64 0) := by rw [cell_of_row _ _ _ _ _ _ HRB.out]; rfl
            have z0 := frozen_of_row w11 (w.heap.size + 1) 0 _ _ HRB.out
            have z1 := frozen_of_row w11 (w.heap.size + 1) 1 _ _ HRB.out
            obtain ⟨s0, s1, _⟩ := Sx.store2 (u0 := .slice p1 m c1') (u1 := .int .i64 at_) HRB.out
            go_wp2_with fail
            refine hK.out _ _ ?_
            clear hK K
            try simp only [Act.put, List.setIfInBounds_toArray, List.set_cons_zero, List.set_cons_succ]
            refine wpAny_take (i := 5) (oi := { dst := some 2, op := Op.assign (Operand.tmp 81), type := 9, pos := "word.go:163", after := #[{ on := 3, ground := Ground.data }, { on := 3, ground := Ground.chain }, { on := 0, ground := Ground.phase }, { on := 1, ground := Ground.phase }, { on := 2, ground := Ground.phase }, { on := 3, ground := Ground.phase }, { on := 4, ground := Ground.textOnly Departure.lateStores }], guard := none }) (v := ?_) rfl (by kernel_rfl) (by kernel_rfl) (by kernel_rfl) (fun _ _ _ h => h) (Or.inl ⟨by rfl, ?_⟩) ?_
            rotate_left
            · (intro w; go_simp; try with_reducible rfl)
            try simp only [Act.put, List.setIfInBounds_toArray, List.set_cons_zero, List.set_cons_succ]
            refine wpAny_ready (rs := [4]) (by kernel_rfl) (by simp) ?_
            refine AllReady.cons (o := { dst := some 82, op := Op.load 31 (Operand.tmp 7), type := 31, pos := "word.go:163", after := #[{ on := 5, ground := Ground.gcOnly Departure.lateStores }], guard := none }) rfl (fun K hK0 => ?_) AllReady.nil
            have hK := Lib.hid hK0
            clear hK0
            go_simp
            refine hK.out _ _ ?_
            clear hK K
            try simp only [Act.put, List.setIfInBounds_toArray, List.set_cons_zero, List.set_cons_succ]
            refine wpAny_ready (rs := [6]) (by kernel_rfl) (by simp) ?_
            refine AllReady.cons (o := { dst := none, op := Op.store 31 (Operand.tmp 3) (Operand.tmp 82), type := 0, pos := "word.go:163", after := #[{ on := 4, ground := Ground.data }, { on := 5, ground := Ground.chain }, { on := 0, ground := Ground.phase }, { on := 1, ground := Ground.phase }, { on := 2, ground := Ground.phase }, { on := 3, ground := Ground.phase }, { on := 4, ground := Ground.phase }, { on := 5, ground := Ground.phase }], guard := none }) rfl (fun K hK0 => ?_) AllReady.nil
            have hK := Lib.hid hK0
            clear hK0
            go_simp
            refine hK.out _ _ ?_
            clear hK K
            try simp only [Act.put, List.setIfInBounds_toArray, List.set_cons_zero, List.set_cons_succ]
            refine wpAny_take (i := 7) (oi := { dst := some 4, op := Op.assign (Operand.const (Value.bool true)), type := 4, pos := "word.go:163", after := #[{ on := 6, ground := Ground.chain }, { on := 0, ground := Ground.phase }, { on := 1, ground := Ground.phase }, { on := 2, ground := Ground.phase }, { on := 3, ground := Ground.phase }, { on := 4, ground := Ground.phase }, { on := 5, ground := Ground.phase }, { on := 6, ground := Ground.phase }], guard := none }) (v := ?_) rfl (by kernel_rfl) (by kernel_rfl) (by kernel_rfl) (fun _ _ _ h => h) (Or.inl ⟨by rfl, ?_⟩) ?_
            rotate_left
            · (intro w; go_simp; try with_reducible rfl)
            try simp only [Act.put, List.setIfInBounds_toArray, List.set_cons_zero, List.set_cons_succ]
            refine wpAny_done (by kernel_rfl) ?_ _
            go_wp2_with fail
            refine bodyPost_ret (by simp [results, Tryz.results55, go_sem, s0, s1]; rfl) rfl ?_
            have HOF : Hid (((w11.setCell ⟨w.heap.size + 1, 0, none⟩ (.slice p1 m c1')).setCell ⟨w.heap.size + 1, 1, none⟩ (.int .i64 at_)).ownsRow (w2.heap.size + 1) 33 3 (.slice p1 m c1') m (pcells (PRE ++ r))) := Lib.hid (own_far (own_far HO11.out _ 0 _ (Sx.own_none HO11.out (Or.inl hrb))) _ 1 _ (Sx.own_none HO11.out (Or.inl hrb)))
            obtain ⟨p2, c2, hv2, hc21, hc22, hrow⟩ := Sx.own_parts (l := PRE ++ r) (by rw [HM.out]; exact HOF.out)
            obtain ⟨rfl, rfl⟩ : p1 = p2 ∧ c1' = c2 := by
              have h := hv2
              simp only [Value.slice.injEq] at h
              exact ⟨h.1, h.2.2⟩
            exact ⟨⟨_, _, ⟨PRE ++ r, at_⟩, rfl, ⟨p1, c1', by rw [HM.out], hc21, hc22, hrow⟩, rfl, rfl⟩, (((box2_self HB2.out).trans ((HBV.out.trans (HB11.out.mono HBV.out.size)).mono (by have := HB2.out.size; simp at this; omega))).setCell (p := ⟨_, _, none⟩) (Nat.le_succ _) _).setCell (p := ⟨_, _, none⟩) (Nat.le_succ _) _⟩
end Go.Proofs.YtpibjhlldlbocaaGreat
