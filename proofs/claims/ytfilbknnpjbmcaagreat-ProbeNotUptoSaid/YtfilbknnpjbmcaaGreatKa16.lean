/- Walks over nodes, of the reference: which are well formed. -/
import Derived.Test.YtfilbknnpjbmcaaGreatKa05
import Derived.Test.YtfilbknnpjbmcaaGreatKa08
namespace Go.Proofs.YtfilbknnpjbmcaaGreat
open Go.RowKit Px Nx

theorem cell_kept {w w2 : World} (hb : Below w.heap.size w w2) {a : Addr} {v : Value} (h : w.cell? a = some v) : w2.cell? a = some v := cell_grown hb h
theorem name_cell {W wr : World} {p : Option Addr} {names : List ByteArray} (h : Strs W p names) (hb : Below W.heap.size W wr) {k : Nat} (hk : k < names.length) :
    ∃ b o, p = some ⟨b, o, none⟩ ∧ wr.cell? ⟨b, o + k, none⟩ = some (.string (names.getD k ByteArray.empty)) := by
  obtain ⟨b, o, rfl, hc⟩ := h k hk
  exact ⟨b, o, rfl, cell_grown hb hc⟩
theorem name_prev {W wr : World} {b o : Nat} {names : List ByteArray} (h : Strs W (some ⟨b, o, none⟩) names) (hb : Below W.heap.size W wr) {k : Nat} (hk : k < names.length) :
    wr.cell? ⟨b, o + (k - 1), none⟩ = some (.string (names.getD (k - 1) ByteArray.empty)) := by
  obtain ⟨b', o', he, hc⟩ := h (k - 1) (by omega)
  obtain ⟨rfl, rfl⟩ : b = b' ∧ o = o' := by simpa using he
  exact cell_grown hb hc
theorem not_less {x y : ByteArray} (h : Op.bytesLess y.toList x.toList = false) : Op.bytesLess x.toList y.toList = true ∨ (Op.bytesLess x.toList y.toList = false ∧ (x.toList == y.toList) = true) := by
  rw [bl] at *
  have h1 : ¬ y.toList < x.toList := of_decide_eq_false h
  by_cases h2 : x.toList < y.toList
  · exact .inl (decide_eq_true h2)
  · exact .inr ⟨decide_eq_false h2, beq_iff_eq.2 (List.le_antisymm h1 h2)⟩
theorem is_less {x y : ByteArray} (h : Op.bytesLess y.toList x.toList = true) : Op.bytesLess x.toList y.toList = false ∧ (x.toList == y.toList) = false := by
  rw [bl] at *
  have h1 : y.toList < x.toList := of_decide_eq_true h
  exact ⟨decide_eq_false (fun h2 => List.lt_asymm h1 h2), beq_eq_false_iff_ne.2 (fun e => by rw [e] at h1; exact List.lt_irrefl _ h1)⟩
theorem wells_at {kids : List Nd} {k : Nat} {x : Nd} (h : kids[k]? = some x) (hw : x.well = false) : Nd.wells kids = false := by
  rw [Nd.wells_all, Bool.eq_false_iff]
  intro ha
  have := List.all_eq_true.1 ha x (List.mem_of_getElem? h)
  rw [hw] at this
  cases this
theorem all_snoc {kids : List Nd} {k : Nat} {x : Nd} (h : kids[k]? = some x) (f : Nd → Bool) : (kids.take (k + 1)).all f = ((kids.take k).all f && f x) := by
  obtain ⟨hk, hx⟩ := List.getElem?_eq_some_iff.1 h
  rw [List.take_succ_eq_append_getElem hk, List.all_append, hx]
  simp
theorem well_dir {text : ByteArray} {names : List ByteArray} {kids : List Nd} (ht : text.size = 0) (hl : kids.length = names.length) : Nd.well (.mk 2 text names kids) = (namesL names && Nd.wells kids) := by
  rw [Nd.well]
  simp [ht, hl]
theorem well_not {text : ByteArray} {names : List ByteArray} {kids : List Nd} (h : ¬ (text.size = 0 ∧ kids.length = names.length)) : Nd.well (.mk 2 text names kids) = false := by
  rw [Nd.well, Bool.eq_false_iff]
  intro hs
  simp at hs
  exact h ⟨by rw [hs.1.1.1]; rfl, hs.1.2⟩
theorem well_leaf1 {text : ByteArray} {names : List ByteArray} {kids : List Nd} : Nd.well (.mk 1 text names kids) = (textL text && decide (names.length = 0) && decide (kids.length = 0)) := by
  rw [Nd.well]; simp
theorem well_leaf3 {text : ByteArray} {names : List ByteArray} {kids : List Nd} : Nd.well (.mk 3 text names kids) = (!(text.size == 0) && textL text && decide (names.length = 0) && decide (kids.length = 0)) := by
  rw [Nd.well]; simp
theorem well_other {kind : UInt8} {text : ByteArray} {names : List ByteArray} {kids : List Nd} (h1 : kind ≠ 1) (h2 : kind ≠ 2) (h3 : kind ≠ 3) : Nd.well (.mk kind text names kids) = false := by
  rw [Nd.well]; simp [h1, h2, h3]

/-- The loop over a directory's names and kids. -/
def wellTail (_P : Program) : Prop := True
set_option maxRecDepth 100000 in
set_option maxHeartbeats 4000000 in
theorem wellRef_dir {W : World} {text : ByteArray} {names : List ByteArray} {kids : List Nd} {p q : Option Addr} {cp d : Nat} {D : Nat → List Value} (h3 : Strs W p names) (h7 : Row W 4 q kids.length D)
    (h8 : ∀ (i : Nat) x, kids[i]? = some x → ∀ w, Below W.heap.size W w → x.bulk ≤ 2000000 → Calls Tryz.prog 22 #[.agg (D i).toArray] w fun e w' => e = .returned (.bool x.well) ∧ Below w.heap.size w w')
    (hl : kids.length = names.length) (ht : text.size = 0) (hB : (Nd.mk 2 text names kids).bulk ≤ 2000000) : ∀ w, Below W.heap.size W w →
    Calls Tryz.prog 22 #[.agg #[.int .u8 2, .string text, .slice p names.length cp, .slice q kids.length d]] w fun e w' => e = .returned (.bool (Nd.mk 2 text names kids).well) ∧ Below w.heap.size w w' := by
  intro w hb
  have hkb : Nd.bulks kids ≤ 2000000 := by unfold Nd.bulk at hB; omega
  have HNB : Hid (∀ i, i < names.length → (names.getD i ByteArray.empty).size ≤ 2000000) := Lib.hid fun i hi => by
    have := namesBulk_at hi
    unfold Nd.bulk at hB
    omega
  have hlen : names.length ≤ 2000000 := by
    have := namesBulk_len names
    unfold Nd.bulk at hB
    omega
  have HV := Lib.hid (well_dir ht hl)
  have hte : text.toList = [] := List.length_eq_zero_iff.1 (by rw [Lib.toList_data, ← Lib.size_eq, ht])
  have IH := Lib.hid h8
  have HR := Lib.hid h7
  have HS := Lib.hid h3
  have HW := Lib.hid hb
  have HL := Lib.hid hl
  rw [hl] at HR ⊢
  clear h8 h7 h3 hb hB hl ht
  generalize hn : names.length = n at *
  have HN := Lib.hid hn
  clear hn
  go_enter Tryz.func22, Tryz.ntmps22
  go_wp2_with fail
  go_loopw [3] (fun i wr => ∃ k : Nat, k ≤ n ∧ i = .int .i64 k ∧ Hid (okTo names k = true ∧ (kids.take k).all Nd.well = true) ∧ Hid (Below (w.heap.size + 1) (w.alloc (.cells #[.int .u8 2, .string text, .slice p n cp, .slice q n d] 25)) wr)) (fun i _ => n - (intOf i).toNat)
  case atStart => exact ⟨0, Nat.zero_le _, rfl, Lib.hid ⟨rfl, rfl⟩, Lib.hid (Below.refl _ _)⟩
  case round =>
    obtain ⟨k, hk, rfl, HA, HB⟩ := hrel
    by_cases hlt : k < n
    · have HOLD := Lib.hid (box_old HW.out (Nat.le_refl _) HB.out)
      obtain ⟨b, o, rfl, n0⟩ := name_cell HS.out HOLD.out (by rw [HN.out]; exact hlt : k < names.length)
      have n1 := name_prev HS.out HOLD.out (by rw [HN.out]; exact hlt : k < names.length)
      obtain ⟨bq, oq, v0, v1, v2, v3, rfl, hD, e0, e1, e2, e3⟩ := kid_at HR.out HOLD.out hlt
      have c2 : wr.cell? ⟨w.heap.size, 2, none⟩ = some (.slice (some ⟨b, o, none⟩) n cp) := box_cell HB.out 2 rfl
      have c3 : wr.cell? ⟨w.heap.size, 3, none⟩ = some (.slice (some ⟨bq, oq, none⟩) n d) := box_cell HB.out 3 rfl
      have HX := Lib.hid (List.getElem?_eq_getElem (show k < kids.length by rw [HL.out]; exact hlt))
      generalize kids[k]'_ = kd at HX
      have hxb : kd.bulk ≤ 2000000 := Nat.le_trans (Nd.bulk_kid HX.out) hkb
      have HC : Hid (∀ wx, Below wr.heap.size wr wx → Calls Tryz.prog 22 #[.agg #[v0, v1, v2, v3]] wx fun e w' => e = .returned (.bool kd.well) ∧ Below wx.heap.size wx w') := Lib.hid fun wx hb => by
        have := IH.out k kd HX.out wx (HOLD.out.trans (hb.mono HOLD.out.size)) hxb
        rwa [hD] at this
      have hxs : (names.getD k ByteArray.empty).size ≤ 2000000 := HNB.out k hlt
      have HNM : Hid (∀ wx, Below wr.heap.size wr wx → Calls Tryz.prog 35 #[.string (names.getD k ByteArray.empty)] wx fun e w' => e = .returned (.bool (nameL (names.getD k ByteArray.empty).data.toList)) ∧ Below wx.heap.size wx w') := Lib.hid fun wx _ => (nameRef_any _ wx hxs).mono fun e w' ⟨he, hw⟩ => ⟨he, hw ▸ Below.refl _ _⟩
      have HOK := Lib.hid (okTo_succ names k)
      have HNOT := Lib.hid (namesL_not (show k < names.length by rw [HN.out]; exact hlt))
      have HAT : Hid (okAt names k = (nameL (names.getD k ByteArray.empty).data.toList && (k == 0 || Op.bytesLess (names.getD (k - 1) ByteArray.empty).toList (names.getD k ByteArray.empty).toList))) := Lib.hid rfl
      have HWN := Lib.hid (wells_at HX.out)
      have HSN := Lib.hid (all_snoc HX.out Nd.well)
      clear hD hxs
      generalize kd.well = wk at *
      generalize okAt names k = ok at *
      generalize names.getD (k - 1) ByteArray.empty = y at *
      generalize names.getD k ByteArray.empty = x at *
      generalize nameL x.data.toList = nm at *
      cases nm with
      | false =>
        have HVF : Hid (Nd.well (.mk 2 text names kids) = false) := Lib.hid (by rw [HV.out, HNOT.out (by rw [HAT.out]; rfl)]; rfl)
        clear IH HR HS HC HAT HNOT HOK HWN HSN HNB
        have HKEEP : Hid (∀ wx w2, (fun wx => Below wr.heap.size wr wx ∧ wx.cell? ⟨w.heap.size, 2, none⟩ = some (.slice (some ⟨b, o, none⟩) n cp) ∧ wx.cell? ⟨b, o + k, none⟩ = some (.string x)) wx → Below wx.heap.size wx w2 → (fun wx => Below wr.heap.size wr wx ∧ wx.cell? ⟨w.heap.size, 2, none⟩ = some (.slice (some ⟨b, o, none⟩) n cp) ∧ wx.cell? ⟨b, o + k, none⟩ = some (.string x)) w2) := Lib.hid fun wx w2 hs hb => by
          obtain ⟨s0, s1, s2⟩ := hs
          exact ⟨s0.trans (hb.mono s0.size), cell_kept hb s1, cell_kept hb s2⟩

        go_wp2_with fail
        refine wp_region_held_drew (S := (fun wx => Below wr.heap.size wr wx ∧ wx.cell? ⟨w.heap.size, 2, none⟩ = some (.slice (some ⟨b, o, none⟩) n cp) ∧ wx.cell? ⟨b, o + k, none⟩ = some (.string x))) (by kernel_rfl) ⟨(Below.refl _ _).drew, c2, n0⟩ (fun hHeld => ?_)
        refine tk 0 { dst := some 62, op := Op.fieldAddr 25 (Operand.tmp 1) 2, type := 0, pos := "ref.go:28", after := #[], guard := none } ?_
        try simp only [Act.put, List.setIfInBounds_toArray, List.set_cons_zero, List.set_cons_succ]
        refine tk 1 { dst := some 63, op := Op.load 22 (Operand.tmp 62), type := 22, pos := "ref.go:28", after := #[{ on := 0, ground := Ground.data }], guard := none } ?_
        try simp only [Act.put, List.setIfInBounds_toArray, List.set_cons_zero, List.set_cons_succ]
        refine tk 2 { dst := some 64, op := Op.move (Operand.tmp 3), type := 3, pos := "ref.go:28", after := #[], guard := none } ?_
        try simp only [Act.put, List.setIfInBounds_toArray, List.set_cons_zero, List.set_cons_succ]
        refine tk 3 { dst := some 65, op := Op.indexAddr 22 (Operand.tmp 63) (Operand.tmp 64), type := 0, pos := "ref.go:28", after := #[{ on := 1, ground := Ground.data }, { on := 2, ground := Ground.data }], guard := none } ?_
        try simp only [Act.put, List.setIfInBounds_toArray, List.set_cons_zero, List.set_cons_succ]
        refine tk 4 { dst := some 66, op := Op.load 9 (Operand.tmp 65), type := 9, pos := "ref.go:28", after := #[{ on := 3, ground := Ground.data }], guard := none } ?_
        try simp only [Act.put, List.setIfInBounds_toArray, List.set_cons_zero, List.set_cons_succ]
        refine wpAnyH_ready (rs := [5]) (by kernel_rfl) (by simp) ?_
        refine AllReadyH.cons (o := { dst := some 67, op := Op.call { callee := Callee.value (Operand.func 35), args := #[Operand.tmp 66], argTypes := #[9] }, type := 4, pos := "ref.go:28", after := #[{ on := 4, ground := Ground.data }], guard := none }) rfl (fun K hK => ?_) AllReadyH.nil
        go_simp
        (go_at_call 35; refine (HNM.out _ (And.left (by assumption))).mono ?_; rintro e w2 ⟨rfl, hb2⟩; have hS2 := HKEEP.out _ _ (by assumption) hb2; clear hb2)
        go_wp2_with fail
        refine hK.out _ _ (by first | assumption | assumption) (fun hHeld => ?_)
        clear hK K
        try simp only [Act.put, List.setIfInBounds_toArray, List.set_cons_zero, List.set_cons_succ]
        refine tk 6 { dst := some 68, op := Op.unOp UnOp.not 4 (Operand.tmp 67), type := 4, pos := "ref.go:28", after := #[{ on := 5, ground := Ground.data }], guard := none } ?_
        try simp only [Act.put, List.setIfInBounds_toArray, List.set_cons_zero, List.set_cons_succ]
        refine tk 7 { dst := some 69, op := Op.move (Operand.tmp 68), type := 4, pos := "ref.go:28", after := #[{ on := 6, ground := Ground.data }, { on := 5, ground := Ground.chain }], guard := none } ?_
        try simp only [Act.put, List.setIfInBounds_toArray, List.set_cons_zero, List.set_cons_succ]
        refine tkn 8 { dst := some 70, op := Op.move (Operand.tmp 3), type := 3, pos := "ref.go:28", after := #[{ on := 7, ground := Ground.guard }], guard := some (7, false) } ?_
        try simp only [Act.put, List.setIfInBounds_toArray, List.set_cons_zero, List.set_cons_succ]
        refine tkn 9 { dst := some 71, op := Op.binOp BinOp.gtr 3 (Operand.tmp 70) (Operand.const (Value.int IntKind.i64 0)) 3, type := 4, pos := "ref.go:28", after := #[{ on := 8, ground := Ground.data }, { on := 7, ground := Ground.guard }], guard := some (7, false) } ?_
        try simp only [Act.put, List.setIfInBounds_toArray, List.set_cons_zero, List.set_cons_succ]
        refine tkn 10 { dst := some 72, op := Op.move (Operand.tmp 71), type := 4, pos := "ref.go:28", after := #[{ on := 9, ground := Ground.data }, { on := 7, ground := Ground.chain }, { on := 7, ground := Ground.guard }], guard := some (7, false) } ?_
        try simp only [Act.put, List.setIfInBounds_toArray, List.set_cons_zero, List.set_cons_succ]
        refine tkn 11 { dst := some 73, op := Op.fieldAddr 25 (Operand.tmp 1) 2, type := 0, pos := "ref.go:28", after := #[{ on := 10, ground := Ground.guard }], guard := some (10, true) } ?_
        try simp only [Act.put, List.setIfInBounds_toArray, List.set_cons_zero, List.set_cons_succ]
        refine tkn 12 { dst := some 74, op := Op.load 22 (Operand.tmp 73), type := 22, pos := "ref.go:28", after := #[{ on := 11, ground := Ground.data }, { on := 10, ground := Ground.guard }], guard := some (10, true) } ?_
        try simp only [Act.put, List.setIfInBounds_toArray, List.set_cons_zero, List.set_cons_succ]
        refine tkn 13 { dst := some 75, op := Op.move (Operand.tmp 3), type := 3, pos := "ref.go:28", after := #[{ on := 10, ground := Ground.guard }], guard := some (10, true) } ?_
        try simp only [Act.put, List.setIfInBounds_toArray, List.set_cons_zero, List.set_cons_succ]
        refine tkn 14 { dst := some 76, op := Op.indexAddr 22 (Operand.tmp 74) (Operand.tmp 75), type := 0, pos := "ref.go:28", after := #[{ on := 12, ground := Ground.data }, { on := 13, ground := Ground.data }, { on := 10, ground := Ground.guard }], guard := some (10, true) } ?_
        try simp only [Act.put, List.setIfInBounds_toArray, List.set_cons_zero, List.set_cons_succ]
        refine tkn 15 { dst := some 77, op := Op.load 9 (Operand.tmp 76), type := 9, pos := "ref.go:28", after := #[{ on := 14, ground := Ground.data }, { on := 10, ground := Ground.guard }], guard := some (10, true) } ?_
        try simp only [Act.put, List.setIfInBounds_toArray, List.set_cons_zero, List.set_cons_succ]
        refine tkn 16 { dst := some 78, op := Op.fieldAddr 25 (Operand.tmp 1) 2, type := 0, pos := "ref.go:28", after := #[{ on := 10, ground := Ground.guard }], guard := some (10, true) } ?_
        try simp only [Act.put, List.setIfInBounds_toArray, List.set_cons_zero, List.set_cons_succ]
        refine tkn 17 { dst := some 79, op := Op.load 22 (Operand.tmp 78), type := 22, pos := "ref.go:28", after := #[{ on := 16, ground := Ground.data }, { on := 10, ground := Ground.guard }], guard := some (10, true) } ?_
        try simp only [Act.put, List.setIfInBounds_toArray, List.set_cons_zero, List.set_cons_succ]
        refine tkn 18 { dst := some 80, op := Op.move (Operand.tmp 3), type := 3, pos := "ref.go:28", after := #[{ on := 10, ground := Ground.guard }], guard := some (10, true) } ?_
        try simp only [Act.put, List.setIfInBounds_toArray, List.set_cons_zero, List.set_cons_succ]
        refine tkn 19 { dst := some 81, op := Op.binOp BinOp.sub 3 (Operand.tmp 80) (Operand.const (Value.int IntKind.i64 1)) 3, type := 3, pos := "ref.go:28", after := #[{ on := 18, ground := Ground.data }, { on := 10, ground := Ground.guard }], guard := some (10, true) } ?_
        try simp only [Act.put, List.setIfInBounds_toArray, List.set_cons_zero, List.set_cons_succ]
        refine tkn 20 { dst := some 82, op := Op.indexAddr 22 (Operand.tmp 79) (Operand.tmp 81), type := 0, pos := "ref.go:28", after := #[{ on := 17, ground := Ground.data }, { on := 19, ground := Ground.data }, { on := 10, ground := Ground.guard }], guard := some (10, true) } ?_
        try simp only [Act.put, List.setIfInBounds_toArray, List.set_cons_zero, List.set_cons_succ]
        refine tkn 21 { dst := some 83, op := Op.load 9 (Operand.tmp 82), type := 9, pos := "ref.go:28", after := #[{ on := 20, ground := Ground.data }, { on := 10, ground := Ground.guard }], guard := some (10, true) } ?_
        try simp only [Act.put, List.setIfInBounds_toArray, List.set_cons_zero, List.set_cons_succ]
        refine tkn 22 { dst := some 84, op := Op.binOp BinOp.leq 9 (Operand.tmp 77) (Operand.tmp 83) 9, type := 4, pos := "ref.go:28", after := #[{ on := 15, ground := Ground.data }, { on := 21, ground := Ground.data }, { on := 10, ground := Ground.guard }], guard := some (10, true) } ?_
        try simp only [Act.put, List.setIfInBounds_toArray, List.set_cons_zero, List.set_cons_succ]
        refine tkn 23 { dst := some 85, op := Op.pick (Operand.tmp 72) (Operand.tmp 84) (Operand.const (Value.bool false)), type := 4, pos := "ref.go:28", after := #[{ on := 10, ground := Ground.data }, { on := 22, ground := Ground.data }, { on := 7, ground := Ground.guard }], guard := some (7, false) } ?_
        try simp only [Act.put, List.setIfInBounds_toArray, List.set_cons_zero, List.set_cons_succ]
        refine tk 24 { dst := some 86, op := Op.pick (Operand.tmp 69) (Operand.const (Value.bool true)) (Operand.tmp 85), type := 4, pos := "ref.go:28", after := #[{ on := 7, ground := Ground.data }, { on := 23, ground := Ground.data }], guard := none } ?_
        try simp only [Act.put, List.setIfInBounds_toArray, List.set_cons_zero, List.set_cons_succ]
        refine tk 25 { dst := some 87, op := Op.move (Operand.tmp 86), type := 4, pos := "ref.go:28", after := #[{ on := 24, ground := Ground.data }, { on := 10, ground := Ground.chain }], guard := none } ?_
        try simp only [Act.put, List.setIfInBounds_toArray, List.set_cons_zero, List.set_cons_succ]
        refine tkn 26 { dst := some 88, op := Op.fieldAddr 25 (Operand.tmp 1) 3, type := 0, pos := "ref.go:28", after := #[{ on := 25, ground := Ground.guard }], guard := some (25, false) } ?_
        try simp only [Act.put, List.setIfInBounds_toArray, List.set_cons_zero, List.set_cons_succ]
        refine tkn 27 { dst := some 89, op := Op.load 23 (Operand.tmp 88), type := 23, pos := "ref.go:28", after := #[{ on := 26, ground := Ground.data }, { on := 25, ground := Ground.guard }], guard := some (25, false) } ?_
        try simp only [Act.put, List.setIfInBounds_toArray, List.set_cons_zero, List.set_cons_succ]
        refine tkn 28 { dst := some 90, op := Op.move (Operand.tmp 3), type := 3, pos := "ref.go:28", after := #[{ on := 25, ground := Ground.guard }], guard := some (25, false) } ?_
        try simp only [Act.put, List.setIfInBounds_toArray, List.set_cons_zero, List.set_cons_succ]
        refine tkn 29 { dst := some 91, op := Op.indexAddr 23 (Operand.tmp 89) (Operand.tmp 90), type := 0, pos := "ref.go:28", after := #[{ on := 27, ground := Ground.data }, { on := 28, ground := Ground.data }, { on := 25, ground := Ground.guard }], guard := some (25, false) } ?_
        try simp only [Act.put, List.setIfInBounds_toArray, List.set_cons_zero, List.set_cons_succ]
        refine tkn 30 { dst := some 92, op := Op.load 25 (Operand.tmp 91), type := 25, pos := "ref.go:28", after := #[{ on := 29, ground := Ground.data }, { on := 25, ground := Ground.guard }], guard := some (25, false) } ?_
        try simp only [Act.put, List.setIfInBounds_toArray, List.set_cons_zero, List.set_cons_succ]
        refine tkn 31 { dst := some 93, op := Op.call { callee := Callee.value (Operand.func 22), args := #[Operand.tmp 92], argTypes := #[25] }, type := 4, pos := "ref.go:28", after := #[{ on := 30, ground := Ground.data }, { on := 25, ground := Ground.chain }, { on := 25, ground := Ground.guard }], guard := some (25, false) } ?_
        try simp only [Act.put, List.setIfInBounds_toArray, List.set_cons_zero, List.set_cons_succ]
        refine tkn 32 { dst := some 94, op := Op.unOp UnOp.not 4 (Operand.tmp 93), type := 4, pos := "ref.go:28", after := #[{ on := 31, ground := Ground.data }, { on := 25, ground := Ground.guard }], guard := some (25, false) } ?_
        try simp only [Act.put, List.setIfInBounds_toArray, List.set_cons_zero, List.set_cons_succ]
        refine tk 33 { dst := some 95, op := Op.pick (Operand.tmp 87) (Operand.const (Value.bool true)) (Operand.tmp 94), type := 4, pos := "ref.go:28", after := #[{ on := 25, ground := Ground.data }, { on := 32, ground := Ground.data }], guard := none } ?_
        try simp only [Act.put, List.setIfInBounds_toArray, List.set_cons_zero, List.set_cons_succ]
        refine wpAnyH_done (by kernel_rfl) ?_ _

        have HB2 := Lib.hid (And.left (by assumption))
        go_wp2_with fail
        go_ret
        exact ⟨ret_bool HVF.out.symm, box_self (HB.out.trans (HB2.out.mono (by have := HB.out.size; simp at this; omega)))⟩
      | true =>
        have hk1 : ((k : Int) - 1) = ((k - 1 : Nat) : Int) ∨ k = 0 := by omega
        by_cases h0 : k = 0
        · have hg : ¬ ((0 : Int) < (k : Int)) := by omega
          have HAT2 : Hid (ok = true) := Lib.hid (by rw [HAT.out, h0]; rfl)
          have hg2 : decide (0 < k) = false := decide_eq_false (by omega)
          clear hk1 h0 hg
          have HKEEP : Hid (∀ wx w2, (fun wx => Below wr.heap.size wr wx ∧ wx.cell? ⟨w.heap.size, 2, none⟩ = some (.slice (some ⟨b, o, none⟩) n cp) ∧ wx.cell? ⟨b, o + k, none⟩ = some (.string x) ∧ wx.cell? ⟨w.heap.size, 3, none⟩ = some (.slice (some ⟨bq, oq, none⟩) n d) ∧ wx.cell? ⟨bq, oq + k * 4, none⟩ = some v0 ∧ wx.cell? ⟨bq, oq + k * 4 + 1, none⟩ = some v1 ∧ wx.cell? ⟨bq, oq + k * 4 + 2, none⟩ = some v2 ∧ wx.cell? ⟨bq, oq + k * 4 + 3, none⟩ = some v3) wx → Below wx.heap.size wx w2 → (fun wx => Below wr.heap.size wr wx ∧ wx.cell? ⟨w.heap.size, 2, none⟩ = some (.slice (some ⟨b, o, none⟩) n cp) ∧ wx.cell? ⟨b, o + k, none⟩ = some (.string x) ∧ wx.cell? ⟨w.heap.size, 3, none⟩ = some (.slice (some ⟨bq, oq, none⟩) n d) ∧ wx.cell? ⟨bq, oq + k * 4, none⟩ = some v0 ∧ wx.cell? ⟨bq, oq + k * 4 + 1, none⟩ = some v1 ∧ wx.cell? ⟨bq, oq + k * 4 + 2, none⟩ = some v2 ∧ wx.cell? ⟨bq, oq + k * 4 + 3, none⟩ = some v3) w2) := Lib.hid fun wx w2 hs hb => by
            obtain ⟨s0, s1, s2, s3, s4, s5, s6, s7⟩ := hs
            exact ⟨s0.trans (hb.mono s0.size), cell_kept hb s1, cell_kept hb s2, cell_kept hb s3, cell_kept hb s4, cell_kept hb s5, cell_kept hb s6, cell_kept hb s7⟩

          go_wp2_with fail
          refine wp_region_held_drew (S := (fun wx => Below wr.heap.size wr wx ∧ wx.cell? ⟨w.heap.size, 2, none⟩ = some (.slice (some ⟨b, o, none⟩) n cp) ∧ wx.cell? ⟨b, o + k, none⟩ = some (.string x) ∧ wx.cell? ⟨w.heap.size, 3, none⟩ = some (.slice (some ⟨bq, oq, none⟩) n d) ∧ wx.cell? ⟨bq, oq + k * 4, none⟩ = some v0 ∧ wx.cell? ⟨bq, oq + k * 4 + 1, none⟩ = some v1 ∧ wx.cell? ⟨bq, oq + k * 4 + 2, none⟩ = some v2 ∧ wx.cell? ⟨bq, oq + k * 4 + 3, none⟩ = some v3)) (by kernel_rfl) ⟨(Below.refl _ _).drew, c2, n0, c3, e0, e1, e2, e3⟩ (fun hHeld => ?_)
          refine tk 0 { dst := some 62, op := Op.fieldAddr 25 (Operand.tmp 1) 2, type := 0, pos := "ref.go:28", after := #[], guard := none } ?_
          try simp only [Act.put, List.setIfInBounds_toArray, List.set_cons_zero, List.set_cons_succ]
          refine tk 1 { dst := some 63, op := Op.load 22 (Operand.tmp 62), type := 22, pos := "ref.go:28", after := #[{ on := 0, ground := Ground.data }], guard := none } ?_
          try simp only [Act.put, List.setIfInBounds_toArray, List.set_cons_zero, List.set_cons_succ]
          refine tk 2 { dst := some 64, op := Op.move (Operand.tmp 3), type := 3, pos := "ref.go:28", after := #[], guard := none } ?_
          try simp only [Act.put, List.setIfInBounds_toArray, List.set_cons_zero, List.set_cons_succ]
          refine tk 3 { dst := some 65, op := Op.indexAddr 22 (Operand.tmp 63) (Operand.tmp 64), type := 0, pos := "ref.go:28", after := #[{ on := 1, ground := Ground.data }, { on := 2, ground := Ground.data }], guard := none } ?_
          try simp only [Act.put, List.setIfInBounds_toArray, List.set_cons_zero, List.set_cons_succ]
          refine tk 4 { dst := some 66, op := Op.load 9 (Operand.tmp 65), type := 9, pos := "ref.go:28", after := #[{ on := 3, ground := Ground.data }], guard := none } ?_
          try simp only [Act.put, List.setIfInBounds_toArray, List.set_cons_zero, List.set_cons_succ]
          refine wpAnyH_ready (rs := [5]) (by kernel_rfl) (by simp) ?_
          refine AllReadyH.cons (o := { dst := some 67, op := Op.call { callee := Callee.value (Operand.func 35), args := #[Operand.tmp 66], argTypes := #[9] }, type := 4, pos := "ref.go:28", after := #[{ on := 4, ground := Ground.data }], guard := none }) rfl (fun K hK => ?_) AllReadyH.nil
          go_simp
          (go_at_call 35; refine (HNM.out _ (And.left (by assumption))).mono ?_; rintro e w2 ⟨rfl, hb2⟩; have hS2 := HKEEP.out _ _ (by assumption) hb2; clear hb2)
          go_wp2_with fail
          refine hK.out _ _ (by first | assumption | assumption) (fun hHeld => ?_)
          clear hK K
          try simp only [Act.put, List.setIfInBounds_toArray, List.set_cons_zero, List.set_cons_succ]
          refine tk 6 { dst := some 68, op := Op.unOp UnOp.not 4 (Operand.tmp 67), type := 4, pos := "ref.go:28", after := #[{ on := 5, ground := Ground.data }], guard := none } ?_
          try simp only [Act.put, List.setIfInBounds_toArray, List.set_cons_zero, List.set_cons_succ]
          refine tk 7 { dst := some 69, op := Op.move (Operand.tmp 68), type := 4, pos := "ref.go:28", after := #[{ on := 6, ground := Ground.data }, { on := 5, ground := Ground.chain }], guard := none } ?_
          try simp only [Act.put, List.setIfInBounds_toArray, List.set_cons_zero, List.set_cons_succ]
          refine tk 8 { dst := some 70, op := Op.move (Operand.tmp 3), type := 3, pos := "ref.go:28", after := #[{ on := 7, ground := Ground.guard }], guard := some (7, false) } ?_
          try simp only [Act.put, List.setIfInBounds_toArray, List.set_cons_zero, List.set_cons_succ]
          refine tk 9 { dst := some 71, op := Op.binOp BinOp.gtr 3 (Operand.tmp 70) (Operand.const (Value.int IntKind.i64 0)) 3, type := 4, pos := "ref.go:28", after := #[{ on := 8, ground := Ground.data }, { on := 7, ground := Ground.guard }], guard := some (7, false) } ?_
          try simp only [Act.put, List.setIfInBounds_toArray, List.set_cons_zero, List.set_cons_succ]
          refine tk 10 { dst := some 72, op := Op.move (Operand.tmp 71), type := 4, pos := "ref.go:28", after := #[{ on := 9, ground := Ground.data }, { on := 7, ground := Ground.chain }, { on := 7, ground := Ground.guard }], guard := some (7, false) } ?_
          try simp only [Act.put, List.setIfInBounds_toArray, List.set_cons_zero, List.set_cons_succ]
          refine tkn 11 { dst := some 73, op := Op.fieldAddr 25 (Operand.tmp 1) 2, type := 0, pos := "ref.go:28", after := #[{ on := 10, ground := Ground.guard }], guard := some (10, true) } ?_
          try simp only [Act.put, List.setIfInBounds_toArray, List.set_cons_zero, List.set_cons_succ]
          refine tkn 12 { dst := some 74, op := Op.load 22 (Operand.tmp 73), type := 22, pos := "ref.go:28", after := #[{ on := 11, ground := Ground.data }, { on := 10, ground := Ground.guard }], guard := some (10, true) } ?_
          try simp only [Act.put, List.setIfInBounds_toArray, List.set_cons_zero, List.set_cons_succ]
          refine tkn 13 { dst := some 75, op := Op.move (Operand.tmp 3), type := 3, pos := "ref.go:28", after := #[{ on := 10, ground := Ground.guard }], guard := some (10, true) } ?_
          try simp only [Act.put, List.setIfInBounds_toArray, List.set_cons_zero, List.set_cons_succ]
          refine tkn 14 { dst := some 76, op := Op.indexAddr 22 (Operand.tmp 74) (Operand.tmp 75), type := 0, pos := "ref.go:28", after := #[{ on := 12, ground := Ground.data }, { on := 13, ground := Ground.data }, { on := 10, ground := Ground.guard }], guard := some (10, true) } ?_
          try simp only [Act.put, List.setIfInBounds_toArray, List.set_cons_zero, List.set_cons_succ]
          refine tkn 15 { dst := some 77, op := Op.load 9 (Operand.tmp 76), type := 9, pos := "ref.go:28", after := #[{ on := 14, ground := Ground.data }, { on := 10, ground := Ground.guard }], guard := some (10, true) } ?_
          try simp only [Act.put, List.setIfInBounds_toArray, List.set_cons_zero, List.set_cons_succ]
          refine tkn 16 { dst := some 78, op := Op.fieldAddr 25 (Operand.tmp 1) 2, type := 0, pos := "ref.go:28", after := #[{ on := 10, ground := Ground.guard }], guard := some (10, true) } ?_
          try simp only [Act.put, List.setIfInBounds_toArray, List.set_cons_zero, List.set_cons_succ]
          refine tkn 17 { dst := some 79, op := Op.load 22 (Operand.tmp 78), type := 22, pos := "ref.go:28", after := #[{ on := 16, ground := Ground.data }, { on := 10, ground := Ground.guard }], guard := some (10, true) } ?_
          try simp only [Act.put, List.setIfInBounds_toArray, List.set_cons_zero, List.set_cons_succ]
          refine tkn 18 { dst := some 80, op := Op.move (Operand.tmp 3), type := 3, pos := "ref.go:28", after := #[{ on := 10, ground := Ground.guard }], guard := some (10, true) } ?_
          try simp only [Act.put, List.setIfInBounds_toArray, List.set_cons_zero, List.set_cons_succ]
          refine tkn 19 { dst := some 81, op := Op.binOp BinOp.sub 3 (Operand.tmp 80) (Operand.const (Value.int IntKind.i64 1)) 3, type := 3, pos := "ref.go:28", after := #[{ on := 18, ground := Ground.data }, { on := 10, ground := Ground.guard }], guard := some (10, true) } ?_
          try simp only [Act.put, List.setIfInBounds_toArray, List.set_cons_zero, List.set_cons_succ]
          refine tkn 20 { dst := some 82, op := Op.indexAddr 22 (Operand.tmp 79) (Operand.tmp 81), type := 0, pos := "ref.go:28", after := #[{ on := 17, ground := Ground.data }, { on := 19, ground := Ground.data }, { on := 10, ground := Ground.guard }], guard := some (10, true) } ?_
          try simp only [Act.put, List.setIfInBounds_toArray, List.set_cons_zero, List.set_cons_succ]
          refine tkn 21 { dst := some 83, op := Op.load 9 (Operand.tmp 82), type := 9, pos := "ref.go:28", after := #[{ on := 20, ground := Ground.data }, { on := 10, ground := Ground.guard }], guard := some (10, true) } ?_
          try simp only [Act.put, List.setIfInBounds_toArray, List.set_cons_zero, List.set_cons_succ]
          refine tkn 22 { dst := some 84, op := Op.binOp BinOp.leq 9 (Operand.tmp 77) (Operand.tmp 83) 9, type := 4, pos := "ref.go:28", after := #[{ on := 15, ground := Ground.data }, { on := 21, ground := Ground.data }, { on := 10, ground := Ground.guard }], guard := some (10, true) } ?_
          try simp only [Act.put, List.setIfInBounds_toArray, List.set_cons_zero, List.set_cons_succ]
          refine tk 23 { dst := some 85, op := Op.pick (Operand.tmp 72) (Operand.tmp 84) (Operand.const (Value.bool false)), type := 4, pos := "ref.go:28", after := #[{ on := 10, ground := Ground.data }, { on := 22, ground := Ground.data }, { on := 7, ground := Ground.guard }], guard := some (7, false) } ?_
          try simp only [Act.put, List.setIfInBounds_toArray, List.set_cons_zero, List.set_cons_succ]
          refine tk 24 { dst := some 86, op := Op.pick (Operand.tmp 69) (Operand.const (Value.bool true)) (Operand.tmp 85), type := 4, pos := "ref.go:28", after := #[{ on := 7, ground := Ground.data }, { on := 23, ground := Ground.data }], guard := none } ?_
          try simp only [Act.put, List.setIfInBounds_toArray, List.set_cons_zero, List.set_cons_succ]
          refine tk 25 { dst := some 87, op := Op.move (Operand.tmp 86), type := 4, pos := "ref.go:28", after := #[{ on := 24, ground := Ground.data }, { on := 10, ground := Ground.chain }], guard := none } ?_
          try simp only [Act.put, List.setIfInBounds_toArray, List.set_cons_zero, List.set_cons_succ]
          refine tk 26 { dst := some 88, op := Op.fieldAddr 25 (Operand.tmp 1) 3, type := 0, pos := "ref.go:28", after := #[{ on := 25, ground := Ground.guard }], guard := some (25, false) } ?_
          try simp only [Act.put, List.setIfInBounds_toArray, List.set_cons_zero, List.set_cons_succ]
          refine tk 27 { dst := some 89, op := Op.load 23 (Operand.tmp 88), type := 23, pos := "ref.go:28", after := #[{ on := 26, ground := Ground.data }, { on := 25, ground := Ground.guard }], guard := some (25, false) } ?_
          try simp only [Act.put, List.setIfInBounds_toArray, List.set_cons_zero, List.set_cons_succ]
          refine tk 28 { dst := some 90, op := Op.move (Operand.tmp 3), type := 3, pos := "ref.go:28", after := #[{ on := 25, ground := Ground.guard }], guard := some (25, false) } ?_
          try simp only [Act.put, List.setIfInBounds_toArray, List.set_cons_zero, List.set_cons_succ]
          refine tk 29 { dst := some 91, op := Op.indexAddr 23 (Operand.tmp 89) (Operand.tmp 90), type := 0, pos := "ref.go:28", after := #[{ on := 27, ground := Ground.data }, { on := 28, ground := Ground.data }, { on := 25, ground := Ground.guard }], guard := some (25, false) } ?_
          try simp only [Act.put, List.setIfInBounds_toArray, List.set_cons_zero, List.set_cons_succ]
          refine tk 30 { dst := some 92, op := Op.load 25 (Operand.tmp 91), type := 25, pos := "ref.go:28", after := #[{ on := 29, ground := Ground.data }, { on := 25, ground := Ground.guard }], guard := some (25, false) } ?_
          try simp only [Act.put, List.setIfInBounds_toArray, List.set_cons_zero, List.set_cons_succ]
          refine wpAnyH_ready (rs := [31]) (by kernel_rfl) (by simp) ?_
          refine AllReadyH.cons (o := { dst := some 93, op := Op.call { callee := Callee.value (Operand.func 22), args := #[Operand.tmp 92], argTypes := #[25] }, type := 4, pos := "ref.go:28", after := #[{ on := 30, ground := Ground.data }, { on := 25, ground := Ground.chain }, { on := 25, ground := Ground.guard }], guard := some (25, false) }) rfl (fun K hK => ?_) AllReadyH.nil
          go_simp
          (go_at_call 22; refine (HC.out _ (And.left (by assumption))).mono ?_; rintro e w2 ⟨rfl, hb2⟩; have hS2 := HKEEP.out _ _ (by assumption) hb2; clear hb2)
          go_wp2_with fail
          refine hK.out _ _ (by first | assumption | assumption) (fun hHeld => ?_)
          clear hK K
          try simp only [Act.put, List.setIfInBounds_toArray, List.set_cons_zero, List.set_cons_succ]
          refine tk 32 { dst := some 94, op := Op.unOp UnOp.not 4 (Operand.tmp 93), type := 4, pos := "ref.go:28", after := #[{ on := 31, ground := Ground.data }, { on := 25, ground := Ground.guard }], guard := some (25, false) } ?_
          try simp only [Act.put, List.setIfInBounds_toArray, List.set_cons_zero, List.set_cons_succ]
          refine tk 33 { dst := some 95, op := Op.pick (Operand.tmp 87) (Operand.const (Value.bool true)) (Operand.tmp 94), type := 4, pos := "ref.go:28", after := #[{ on := 25, ground := Ground.data }, { on := 32, ground := Ground.data }], guard := none } ?_
          try simp only [Act.put, List.setIfInBounds_toArray, List.set_cons_zero, List.set_cons_succ]
          refine wpAnyH_done (by kernel_rfl) ?_ _

          have HB2 := Lib.hid (And.left (by assumption))
          clear hg2
          go_wp2_with fail
          · have hwk : wk = false := by cases wk <;> simp_all
            have HVF : Hid (Nd.well (.mk 2 text names kids) = false) := Lib.hid (by rw [HV.out, HWN.out hwk, Bool.and_false])
            go_wp2_with fail
            go_ret
            exact ⟨ret_bool HVF.out.symm, box_self (HB.out.trans (HB2.out.mono (by have := HB.out.size; simp at this; omega)))⟩
          · have hwk : wk = true := by cases wk <;> simp_all
            go_roundw
            case rel => exact ⟨k + 1, by omega, by go_num, Lib.hid ⟨by rw [HOK.out, HA.out.1, HAT2.out]; rfl, by rw [HSN.out, HA.out.2, hwk]; rfl⟩, Lib.hid (HB.out.trans (HB2.out.mono (by have := HB.out.size; simp at this; omega)))⟩
            case measure => simp [intOf]; omega
        · have hg2 : decide (0 < k) = true := decide_eq_true (by omega)
          have hk1 : ((k : Int) - 1) = ((k - 1 : Nat) : Int) := by omega
          have hk2 : k - 1 < n := by omega
          generalize k - 1 = j at *
          have hwj : IntKind.i64.wrap (j : Int) = (j : Int) := Go.IntWalk.i64_in _ (by omega)
          have HNE := Lib.hid h0
          clear h0
          cases hlty : Op.bytesLess y.toList x.toList with
          | false =>
            have HVF : Hid (Nd.well (.mk 2 text names kids) = false) := Lib.hid (by rw [HV.out, HNOT.out (by rw [HAT.out, hlty, beq_eq_false_iff_ne.2 HNE.out]; rfl)]; rfl)
            rcases not_less hlty with hL | ⟨hL, hE⟩
            all_goals
              clear hlty
              have HKEEP : Hid (∀ wx w2, (fun wx => Below wr.heap.size wr wx ∧ wx.cell? ⟨w.heap.size, 2, none⟩ = some (.slice (some ⟨b, o, none⟩) n cp) ∧ wx.cell? ⟨b, o + k, none⟩ = some (.string x) ∧ wx.cell? ⟨b, o + j, none⟩ = some (.string y)) wx → Below wx.heap.size wx w2 → (fun wx => Below wr.heap.size wr wx ∧ wx.cell? ⟨w.heap.size, 2, none⟩ = some (.slice (some ⟨b, o, none⟩) n cp) ∧ wx.cell? ⟨b, o + k, none⟩ = some (.string x) ∧ wx.cell? ⟨b, o + j, none⟩ = some (.string y)) w2) := Lib.hid fun wx w2 hs hb => by
                obtain ⟨s0, s1, s2, s3⟩ := hs
                exact ⟨s0.trans (hb.mono s0.size), cell_kept hb s1, cell_kept hb s2, cell_kept hb s3⟩

              go_wp2_with fail
              refine wp_region_held_drew (S := (fun wx => Below wr.heap.size wr wx ∧ wx.cell? ⟨w.heap.size, 2, none⟩ = some (.slice (some ⟨b, o, none⟩) n cp) ∧ wx.cell? ⟨b, o + k, none⟩ = some (.string x) ∧ wx.cell? ⟨b, o + j, none⟩ = some (.string y))) (by kernel_rfl) ⟨(Below.refl _ _).drew, c2, n0, n1⟩ (fun hHeld => ?_)
              refine tk 0 { dst := some 62, op := Op.fieldAddr 25 (Operand.tmp 1) 2, type := 0, pos := "ref.go:28", after := #[], guard := none } ?_
              try simp only [Act.put, List.setIfInBounds_toArray, List.set_cons_zero, List.set_cons_succ]
              refine tk 1 { dst := some 63, op := Op.load 22 (Operand.tmp 62), type := 22, pos := "ref.go:28", after := #[{ on := 0, ground := Ground.data }], guard := none } ?_
              try simp only [Act.put, List.setIfInBounds_toArray, List.set_cons_zero, List.set_cons_succ]
              refine tk 2 { dst := some 64, op := Op.move (Operand.tmp 3), type := 3, pos := "ref.go:28", after := #[], guard := none } ?_
              try simp only [Act.put, List.setIfInBounds_toArray, List.set_cons_zero, List.set_cons_succ]
              refine tk 3 { dst := some 65, op := Op.indexAddr 22 (Operand.tmp 63) (Operand.tmp 64), type := 0, pos := "ref.go:28", after := #[{ on := 1, ground := Ground.data }, { on := 2, ground := Ground.data }], guard := none } ?_
              try simp only [Act.put, List.setIfInBounds_toArray, List.set_cons_zero, List.set_cons_succ]
              refine tk 4 { dst := some 66, op := Op.load 9 (Operand.tmp 65), type := 9, pos := "ref.go:28", after := #[{ on := 3, ground := Ground.data }], guard := none } ?_
              try simp only [Act.put, List.setIfInBounds_toArray, List.set_cons_zero, List.set_cons_succ]
              refine wpAnyH_ready (rs := [5]) (by kernel_rfl) (by simp) ?_
              refine AllReadyH.cons (o := { dst := some 67, op := Op.call { callee := Callee.value (Operand.func 35), args := #[Operand.tmp 66], argTypes := #[9] }, type := 4, pos := "ref.go:28", after := #[{ on := 4, ground := Ground.data }], guard := none }) rfl (fun K hK => ?_) AllReadyH.nil
              go_simp
              (go_at_call 35; refine (HNM.out _ (And.left (by assumption))).mono ?_; rintro e w2 ⟨rfl, hb2⟩; have hS2 := HKEEP.out _ _ (by assumption) hb2; clear hb2)
              go_wp2_with fail
              refine hK.out _ _ (by first | assumption | assumption) (fun hHeld => ?_)
              clear hK K
              try simp only [Act.put, List.setIfInBounds_toArray, List.set_cons_zero, List.set_cons_succ]
              refine tk 6 { dst := some 68, op := Op.unOp UnOp.not 4 (Operand.tmp 67), type := 4, pos := "ref.go:28", after := #[{ on := 5, ground := Ground.data }], guard := none } ?_
              try simp only [Act.put, List.setIfInBounds_toArray, List.set_cons_zero, List.set_cons_succ]
              refine tk 7 { dst := some 69, op := Op.move (Operand.tmp 68), type := 4, pos := "ref.go:28", after := #[{ on := 6, ground := Ground.data }, { on := 5, ground := Ground.chain }], guard := none } ?_
              try simp only [Act.put, List.setIfInBounds_toArray, List.set_cons_zero, List.set_cons_succ]
              refine tk 8 { dst := some 70, op := Op.move (Operand.tmp 3), type := 3, pos := "ref.go:28", after := #[{ on := 7, ground := Ground.guard }], guard := some (7, false) } ?_
              try simp only [Act.put, List.setIfInBounds_toArray, List.set_cons_zero, List.set_cons_succ]
              refine tk 9 { dst := some 71, op := Op.binOp BinOp.gtr 3 (Operand.tmp 70) (Operand.const (Value.int IntKind.i64 0)) 3, type := 4, pos := "ref.go:28", after := #[{ on := 8, ground := Ground.data }, { on := 7, ground := Ground.guard }], guard := some (7, false) } ?_
              try simp only [Act.put, List.setIfInBounds_toArray, List.set_cons_zero, List.set_cons_succ]
              refine tk 10 { dst := some 72, op := Op.move (Operand.tmp 71), type := 4, pos := "ref.go:28", after := #[{ on := 9, ground := Ground.data }, { on := 7, ground := Ground.chain }, { on := 7, ground := Ground.guard }], guard := some (7, false) } ?_
              try simp only [Act.put, List.setIfInBounds_toArray, List.set_cons_zero, List.set_cons_succ]
              refine tk 11 { dst := some 73, op := Op.fieldAddr 25 (Operand.tmp 1) 2, type := 0, pos := "ref.go:28", after := #[{ on := 10, ground := Ground.guard }], guard := some (10, true) } ?_
              try simp only [Act.put, List.setIfInBounds_toArray, List.set_cons_zero, List.set_cons_succ]
              refine tk 12 { dst := some 74, op := Op.load 22 (Operand.tmp 73), type := 22, pos := "ref.go:28", after := #[{ on := 11, ground := Ground.data }, { on := 10, ground := Ground.guard }], guard := some (10, true) } ?_
              try simp only [Act.put, List.setIfInBounds_toArray, List.set_cons_zero, List.set_cons_succ]
              refine tk 13 { dst := some 75, op := Op.move (Operand.tmp 3), type := 3, pos := "ref.go:28", after := #[{ on := 10, ground := Ground.guard }], guard := some (10, true) } ?_
              try simp only [Act.put, List.setIfInBounds_toArray, List.set_cons_zero, List.set_cons_succ]
              refine tk 14 { dst := some 76, op := Op.indexAddr 22 (Operand.tmp 74) (Operand.tmp 75), type := 0, pos := "ref.go:28", after := #[{ on := 12, ground := Ground.data }, { on := 13, ground := Ground.data }, { on := 10, ground := Ground.guard }], guard := some (10, true) } ?_
              try simp only [Act.put, List.setIfInBounds_toArray, List.set_cons_zero, List.set_cons_succ]
              refine tk 15 { dst := some 77, op := Op.load 9 (Operand.tmp 76), type := 9, pos := "ref.go:28", after := #[{ on := 14, ground := Ground.data }, { on := 10, ground := Ground.guard }], guard := some (10, true) } ?_
              try simp only [Act.put, List.setIfInBounds_toArray, List.set_cons_zero, List.set_cons_succ]
              refine tk 16 { dst := some 78, op := Op.fieldAddr 25 (Operand.tmp 1) 2, type := 0, pos := "ref.go:28", after := #[{ on := 10, ground := Ground.guard }], guard := some (10, true) } ?_
              try simp only [Act.put, List.setIfInBounds_toArray, List.set_cons_zero, List.set_cons_succ]
              refine tk 17 { dst := some 79, op := Op.load 22 (Operand.tmp 78), type := 22, pos := "ref.go:28", after := #[{ on := 16, ground := Ground.data }, { on := 10, ground := Ground.guard }], guard := some (10, true) } ?_
              try simp only [Act.put, List.setIfInBounds_toArray, List.set_cons_zero, List.set_cons_succ]
              refine tk 18 { dst := some 80, op := Op.move (Operand.tmp 3), type := 3, pos := "ref.go:28", after := #[{ on := 10, ground := Ground.guard }], guard := some (10, true) } ?_
              try simp only [Act.put, List.setIfInBounds_toArray, List.set_cons_zero, List.set_cons_succ]
              refine tk 19 { dst := some 81, op := Op.binOp BinOp.sub 3 (Operand.tmp 80) (Operand.const (Value.int IntKind.i64 1)) 3, type := 3, pos := "ref.go:28", after := #[{ on := 18, ground := Ground.data }, { on := 10, ground := Ground.guard }], guard := some (10, true) } ?_
              try simp only [Act.put, List.setIfInBounds_toArray, List.set_cons_zero, List.set_cons_succ]
              refine tk 20 { dst := some 82, op := Op.indexAddr 22 (Operand.tmp 79) (Operand.tmp 81), type := 0, pos := "ref.go:28", after := #[{ on := 17, ground := Ground.data }, { on := 19, ground := Ground.data }, { on := 10, ground := Ground.guard }], guard := some (10, true) } ?_
              try simp only [Act.put, List.setIfInBounds_toArray, List.set_cons_zero, List.set_cons_succ]
              refine tk 21 { dst := some 83, op := Op.load 9 (Operand.tmp 82), type := 9, pos := "ref.go:28", after := #[{ on := 20, ground := Ground.data }, { on := 10, ground := Ground.guard }], guard := some (10, true) } ?_
              try simp only [Act.put, List.setIfInBounds_toArray, List.set_cons_zero, List.set_cons_succ]
              refine tk 22 { dst := some 84, op := Op.binOp BinOp.leq 9 (Operand.tmp 77) (Operand.tmp 83) 9, type := 4, pos := "ref.go:28", after := #[{ on := 15, ground := Ground.data }, { on := 21, ground := Ground.data }, { on := 10, ground := Ground.guard }], guard := some (10, true) } ?_
              try simp only [Act.put, List.setIfInBounds_toArray, List.set_cons_zero, List.set_cons_succ]
              refine tk 23 { dst := some 85, op := Op.pick (Operand.tmp 72) (Operand.tmp 84) (Operand.const (Value.bool false)), type := 4, pos := "ref.go:28", after := #[{ on := 10, ground := Ground.data }, { on := 22, ground := Ground.data }, { on := 7, ground := Ground.guard }], guard := some (7, false) } ?_
              try simp only [Act.put, List.setIfInBounds_toArray, List.set_cons_zero, List.set_cons_succ]
              refine tk 24 { dst := some 86, op := Op.pick (Operand.tmp 69) (Operand.const (Value.bool true)) (Operand.tmp 85), type := 4, pos := "ref.go:28", after := #[{ on := 7, ground := Ground.data }, { on := 23, ground := Ground.data }], guard := none } ?_
              try simp only [Act.put, List.setIfInBounds_toArray, List.set_cons_zero, List.set_cons_succ]
              refine tk 25 { dst := some 87, op := Op.move (Operand.tmp 86), type := 4, pos := "ref.go:28", after := #[{ on := 24, ground := Ground.data }, { on := 10, ground := Ground.chain }], guard := none } ?_
              try simp only [Act.put, List.setIfInBounds_toArray, List.set_cons_zero, List.set_cons_succ]
              refine tkn 26 { dst := some 88, op := Op.fieldAddr 25 (Operand.tmp 1) 3, type := 0, pos := "ref.go:28", after := #[{ on := 25, ground := Ground.guard }], guard := some (25, false) } ?_
              try simp only [Act.put, List.setIfInBounds_toArray, List.set_cons_zero, List.set_cons_succ]
              refine tkn 27 { dst := some 89, op := Op.load 23 (Operand.tmp 88), type := 23, pos := "ref.go:28", after := #[{ on := 26, ground := Ground.data }, { on := 25, ground := Ground.guard }], guard := some (25, false) } ?_
              try simp only [Act.put, List.setIfInBounds_toArray, List.set_cons_zero, List.set_cons_succ]
              refine tkn 28 { dst := some 90, op := Op.move (Operand.tmp 3), type := 3, pos := "ref.go:28", after := #[{ on := 25, ground := Ground.guard }], guard := some (25, false) } ?_
              try simp only [Act.put, List.setIfInBounds_toArray, List.set_cons_zero, List.set_cons_succ]
              refine tkn 29 { dst := some 91, op := Op.indexAddr 23 (Operand.tmp 89) (Operand.tmp 90), type := 0, pos := "ref.go:28", after := #[{ on := 27, ground := Ground.data }, { on := 28, ground := Ground.data }, { on := 25, ground := Ground.guard }], guard := some (25, false) } ?_
              try simp only [Act.put, List.setIfInBounds_toArray, List.set_cons_zero, List.set_cons_succ]
              refine tkn 30 { dst := some 92, op := Op.load 25 (Operand.tmp 91), type := 25, pos := "ref.go:28", after := #[{ on := 29, ground := Ground.data }, { on := 25, ground := Ground.guard }], guard := some (25, false) } ?_
              try simp only [Act.put, List.setIfInBounds_toArray, List.set_cons_zero, List.set_cons_succ]
              refine tkn 31 { dst := some 93, op := Op.call { callee := Callee.value (Operand.func 22), args := #[Operand.tmp 92], argTypes := #[25] }, type := 4, pos := "ref.go:28", after := #[{ on := 30, ground := Ground.data }, { on := 25, ground := Ground.chain }, { on := 25, ground := Ground.guard }], guard := some (25, false) } ?_
              try simp only [Act.put, List.setIfInBounds_toArray, List.set_cons_zero, List.set_cons_succ]
              refine tkn 32 { dst := some 94, op := Op.unOp UnOp.not 4 (Operand.tmp 93), type := 4, pos := "ref.go:28", after := #[{ on := 31, ground := Ground.data }, { on := 25, ground := Ground.guard }], guard := some (25, false) } ?_
              try simp only [Act.put, List.setIfInBounds_toArray, List.set_cons_zero, List.set_cons_succ]
              refine tk 33 { dst := some 95, op := Op.pick (Operand.tmp 87) (Operand.const (Value.bool true)) (Operand.tmp 94), type := 4, pos := "ref.go:28", after := #[{ on := 25, ground := Ground.data }, { on := 32, ground := Ground.data }], guard := none } ?_
              try simp only [Act.put, List.setIfInBounds_toArray, List.set_cons_zero, List.set_cons_succ]
              refine wpAnyH_done (by kernel_rfl) ?_ _

              have HB2 := Lib.hid (And.left (by assumption))
              go_wp2_with fail
              go_ret
              exact ⟨ret_bool HVF.out.symm, box_self (HB.out.trans (HB2.out.mono (by have := HB.out.size; simp at this; omega)))⟩
          | true =>
            have HAT2 : Hid (ok = true) := Lib.hid (by rw [HAT.out, hlty, Bool.or_true]; rfl)
            obtain ⟨hL, hE⟩ := is_less hlty
            clear hlty
            have HKEEP : Hid (∀ wx w2, (fun wx => Below wr.heap.size wr wx ∧ wx.cell? ⟨w.heap.size, 2, none⟩ = some (.slice (some ⟨b, o, none⟩) n cp) ∧ wx.cell? ⟨b, o + k, none⟩ = some (.string x) ∧ wx.cell? ⟨b, o + j, none⟩ = some (.string y) ∧ wx.cell? ⟨w.heap.size, 3, none⟩ = some (.slice (some ⟨bq, oq, none⟩) n d) ∧ wx.cell? ⟨bq, oq + k * 4, none⟩ = some v0 ∧ wx.cell? ⟨bq, oq + k * 4 + 1, none⟩ = some v1 ∧ wx.cell? ⟨bq, oq + k * 4 + 2, none⟩ = some v2 ∧ wx.cell? ⟨bq, oq + k * 4 + 3, none⟩ = some v3) wx → Below wx.heap.size wx w2 → (fun wx => Below wr.heap.size wr wx ∧ wx.cell? ⟨w.heap.size, 2, none⟩ = some (.slice (some ⟨b, o, none⟩) n cp) ∧ wx.cell? ⟨b, o + k, none⟩ = some (.string x) ∧ wx.cell? ⟨b, o + j, none⟩ = some (.string y) ∧ wx.cell? ⟨w.heap.size, 3, none⟩ = some (.slice (some ⟨bq, oq, none⟩) n d) ∧ wx.cell? ⟨bq, oq + k * 4, none⟩ = some v0 ∧ wx.cell? ⟨bq, oq + k * 4 + 1, none⟩ = some v1 ∧ wx.cell? ⟨bq, oq + k * 4 + 2, none⟩ = some v2 ∧ wx.cell? ⟨bq, oq + k * 4 + 3, none⟩ = some v3) w2) := Lib.hid fun wx w2 hs hb => by
              obtain ⟨s0, s1, s2, s3, s4, s5, s6, s7, s8⟩ := hs
              exact ⟨s0.trans (hb.mono s0.size), cell_kept hb s1, cell_kept hb s2, cell_kept hb s3, cell_kept hb s4, cell_kept hb s5, cell_kept hb s6, cell_kept hb s7, cell_kept hb s8⟩

            go_wp2_with fail
            refine wp_region_held_drew (S := (fun wx => Below wr.heap.size wr wx ∧ wx.cell? ⟨w.heap.size, 2, none⟩ = some (.slice (some ⟨b, o, none⟩) n cp) ∧ wx.cell? ⟨b, o + k, none⟩ = some (.string x) ∧ wx.cell? ⟨b, o + j, none⟩ = some (.string y) ∧ wx.cell? ⟨w.heap.size, 3, none⟩ = some (.slice (some ⟨bq, oq, none⟩) n d) ∧ wx.cell? ⟨bq, oq + k * 4, none⟩ = some v0 ∧ wx.cell? ⟨bq, oq + k * 4 + 1, none⟩ = some v1 ∧ wx.cell? ⟨bq, oq + k * 4 + 2, none⟩ = some v2 ∧ wx.cell? ⟨bq, oq + k * 4 + 3, none⟩ = some v3)) (by kernel_rfl) ⟨(Below.refl _ _).drew, c2, n0, n1, c3, e0, e1, e2, e3⟩ (fun hHeld => ?_)
            refine tk 0 { dst := some 62, op := Op.fieldAddr 25 (Operand.tmp 1) 2, type := 0, pos := "ref.go:28", after := #[], guard := none } ?_
            try simp only [Act.put, List.setIfInBounds_toArray, List.set_cons_zero, List.set_cons_succ]
            refine tk 1 { dst := some 63, op := Op.load 22 (Operand.tmp 62), type := 22, pos := "ref.go:28", after := #[{ on := 0, ground := Ground.data }], guard := none } ?_
            try simp only [Act.put, List.setIfInBounds_toArray, List.set_cons_zero, List.set_cons_succ]
            refine tk 2 { dst := some 64, op := Op.move (Operand.tmp 3), type := 3, pos := "ref.go:28", after := #[], guard := none } ?_
            try simp only [Act.put, List.setIfInBounds_toArray, List.set_cons_zero, List.set_cons_succ]
            refine tk 3 { dst := some 65, op := Op.indexAddr 22 (Operand.tmp 63) (Operand.tmp 64), type := 0, pos := "ref.go:28", after := #[{ on := 1, ground := Ground.data }, { on := 2, ground := Ground.data }], guard := none } ?_
            try simp only [Act.put, List.setIfInBounds_toArray, List.set_cons_zero, List.set_cons_succ]
            refine tk 4 { dst := some 66, op := Op.load 9 (Operand.tmp 65), type := 9, pos := "ref.go:28", after := #[{ on := 3, ground := Ground.data }], guard := none } ?_
            try simp only [Act.put, List.setIfInBounds_toArray, List.set_cons_zero, List.set_cons_succ]
            refine wpAnyH_ready (rs := [5]) (by kernel_rfl) (by simp) ?_
            refine AllReadyH.cons (o := { dst := some 67, op := Op.call { callee := Callee.value (Operand.func 35), args := #[Operand.tmp 66], argTypes := #[9] }, type := 4, pos := "ref.go:28", after := #[{ on := 4, ground := Ground.data }], guard := none }) rfl (fun K hK => ?_) AllReadyH.nil
            go_simp
            (go_at_call 35; refine (HNM.out _ (And.left (by assumption))).mono ?_; rintro e w2 ⟨rfl, hb2⟩; have hS2 := HKEEP.out _ _ (by assumption) hb2; clear hb2)
            go_wp2_with fail
            refine hK.out _ _ (by first | assumption | assumption) (fun hHeld => ?_)
            clear hK K
            try simp only [Act.put, List.setIfInBounds_toArray, List.set_cons_zero, List.set_cons_succ]
            refine tk 6 { dst := some 68, op := Op.unOp UnOp.not 4 (Operand.tmp 67), type := 4, pos := "ref.go:28", after := #[{ on := 5, ground := Ground.data }], guard := none } ?_
            try simp only [Act.put, List.setIfInBounds_toArray, List.set_cons_zero, List.set_cons_succ]
            refine tk 7 { dst := some 69, op := Op.move (Operand.tmp 68), type := 4, pos := "ref.go:28", after := #[{ on := 6, ground := Ground.data }, { on := 5, ground := Ground.chain }], guard := none } ?_
            try simp only [Act.put, List.setIfInBounds_toArray, List.set_cons_zero, List.set_cons_succ]
            refine tk 8 { dst := some 70, op := Op.move (Operand.tmp 3), type := 3, pos := "ref.go:28", after := #[{ on := 7, ground := Ground.guard }], guard := some (7, false) } ?_
            try simp only [Act.put, List.setIfInBounds_toArray, List.set_cons_zero, List.set_cons_succ]
            refine tk 9 { dst := some 71, op := Op.binOp BinOp.gtr 3 (Operand.tmp 70) (Operand.const (Value.int IntKind.i64 0)) 3, type := 4, pos := "ref.go:28", after := #[{ on := 8, ground := Ground.data }, { on := 7, ground := Ground.guard }], guard := some (7, false) } ?_
            try simp only [Act.put, List.setIfInBounds_toArray, List.set_cons_zero, List.set_cons_succ]
            refine tk 10 { dst := some 72, op := Op.move (Operand.tmp 71), type := 4, pos := "ref.go:28", after := #[{ on := 9, ground := Ground.data }, { on := 7, ground := Ground.chain }, { on := 7, ground := Ground.guard }], guard := some (7, false) } ?_
            try simp only [Act.put, List.setIfInBounds_toArray, List.set_cons_zero, List.set_cons_succ]
            refine tk 11 { dst := some 73, op := Op.fieldAddr 25 (Operand.tmp 1) 2, type := 0, pos := "ref.go:28", after := #[{ on := 10, ground := Ground.guard }], guard := some (10, true) } ?_
            try simp only [Act.put, List.setIfInBounds_toArray, List.set_cons_zero, List.set_cons_succ]
            refine tk 12 { dst := some 74, op := Op.load 22 (Operand.tmp 73), type := 22, pos := "ref.go:28", after := #[{ on := 11, ground := Ground.data }, { on := 10, ground := Ground.guard }], guard := some (10, true) } ?_
            try simp only [Act.put, List.setIfInBounds_toArray, List.set_cons_zero, List.set_cons_succ]
            refine tk 13 { dst := some 75, op := Op.move (Operand.tmp 3), type := 3, pos := "ref.go:28", after := #[{ on := 10, ground := Ground.guard }], guard := some (10, true) } ?_
            try simp only [Act.put, List.setIfInBounds_toArray, List.set_cons_zero, List.set_cons_succ]
            refine tk 14 { dst := some 76, op := Op.indexAddr 22 (Operand.tmp 74) (Operand.tmp 75), type := 0, pos := "ref.go:28", after := #[{ on := 12, ground := Ground.data }, { on := 13, ground := Ground.data }, { on := 10, ground := Ground.guard }], guard := some (10, true) } ?_
            try simp only [Act.put, List.setIfInBounds_toArray, List.set_cons_zero, List.set_cons_succ]
            refine tk 15 { dst := some 77, op := Op.load 9 (Operand.tmp 76), type := 9, pos := "ref.go:28", after := #[{ on := 14, ground := Ground.data }, { on := 10, ground := Ground.guard }], guard := some (10, true) } ?_
            try simp only [Act.put, List.setIfInBounds_toArray, List.set_cons_zero, List.set_cons_succ]
            refine tk 16 { dst := some 78, op := Op.fieldAddr 25 (Operand.tmp 1) 2, type := 0, pos := "ref.go:28", after := #[{ on := 10, ground := Ground.guard }], guard := some (10, true) } ?_
            try simp only [Act.put, List.setIfInBounds_toArray, List.set_cons_zero, List.set_cons_succ]
            refine tk 17 { dst := some 79, op := Op.load 22 (Operand.tmp 78), type := 22, pos := "ref.go:28", after := #[{ on := 16, ground := Ground.data }, { on := 10, ground := Ground.guard }], guard := some (10, true) } ?_
            try simp only [Act.put, List.setIfInBounds_toArray, List.set_cons_zero, List.set_cons_succ]
            refine tk 18 { dst := some 80, op := Op.move (Operand.tmp 3), type := 3, pos := "ref.go:28", after := #[{ on := 10, ground := Ground.guard }], guard := some (10, true) } ?_
            try simp only [Act.put, List.setIfInBounds_toArray, List.set_cons_zero, List.set_cons_succ]
            refine tk 19 { dst := some 81, op := Op.binOp BinOp.sub 3 (Operand.tmp 80) (Operand.const (Value.int IntKind.i64 1)) 3, type := 3, pos := "ref.go:28", after := #[{ on := 18, ground := Ground.data }, { on := 10, ground := Ground.guard }], guard := some (10, true) } ?_
            try simp only [Act.put, List.setIfInBounds_toArray, List.set_cons_zero, List.set_cons_succ]
            refine tk 20 { dst := some 82, op := Op.indexAddr 22 (Operand.tmp 79) (Operand.tmp 81), type := 0, pos := "ref.go:28", after := #[{ on := 17, ground := Ground.data }, { on := 19, ground := Ground.data }, { on := 10, ground := Ground.guard }], guard := some (10, true) } ?_
            try simp only [Act.put, List.setIfInBounds_toArray, List.set_cons_zero, List.set_cons_succ]
            refine tk 21 { dst := some 83, op := Op.load 9 (Operand.tmp 82), type := 9, pos := "ref.go:28", after := #[{ on := 20, ground := Ground.data }, { on := 10, ground := Ground.guard }], guard := some (10, true) } ?_
            try simp only [Act.put, List.setIfInBounds_toArray, List.set_cons_zero, List.set_cons_succ]
            refine tk 22 { dst := some 84, op := Op.binOp BinOp.leq 9 (Operand.tmp 77) (Operand.tmp 83) 9, type := 4, pos := "ref.go:28", after := #[{ on := 15, ground := Ground.data }, { on := 21, ground := Ground.data }, { on := 10, ground := Ground.guard }], guard := some (10, true) } ?_
            try simp only [Act.put, List.setIfInBounds_toArray, List.set_cons_zero, List.set_cons_succ]
            refine tk 23 { dst := some 85, op := Op.pick (Operand.tmp 72) (Operand.tmp 84) (Operand.const (Value.bool false)), type := 4, pos := "ref.go:28", after := #[{ on := 10, ground := Ground.data }, { on := 22, ground := Ground.data }, { on := 7, ground := Ground.guard }], guard := some (7, false) } ?_
            try simp only [Act.put, List.setIfInBounds_toArray, List.set_cons_zero, List.set_cons_succ]
            refine tk 24 { dst := some 86, op := Op.pick (Operand.tmp 69) (Operand.const (Value.bool true)) (Operand.tmp 85), type := 4, pos := "ref.go:28", after := #[{ on := 7, ground := Ground.data }, { on := 23, ground := Ground.data }], guard := none } ?_
            try simp only [Act.put, List.setIfInBounds_toArray, List.set_cons_zero, List.set_cons_succ]
            refine tk 25 { dst := some 87, op := Op.move (Operand.tmp 86), type := 4, pos := "ref.go:28", after := #[{ on := 24, ground := Ground.data }, { on := 10, ground := Ground.chain }], guard := none } ?_
            try simp only [Act.put, List.setIfInBounds_toArray, List.set_cons_zero, List.set_cons_succ]
            refine tk 26 { dst := some 88, op := Op.fieldAddr 25 (Operand.tmp 1) 3, type := 0, pos := "ref.go:28", after := #[{ on := 25, ground := Ground.guard }], guard := some (25, false) } ?_
            try simp only [Act.put, List.setIfInBounds_toArray, List.set_cons_zero, List.set_cons_succ]
            refine tk 27 { dst := some 89, op := Op.load 23 (Operand.tmp 88), type := 23, pos := "ref.go:28", after := #[{ on := 26, ground := Ground.data }, { on := 25, ground := Ground.guard }], guard := some (25, false) } ?_
            try simp only [Act.put, List.setIfInBounds_toArray, List.set_cons_zero, List.set_cons_succ]
            refine tk 28 { dst := some 90, op := Op.move (Operand.tmp 3), type := 3, pos := "ref.go:28", after := #[{ on := 25, ground := Ground.guard }], guard := some (25, false) } ?_
            try simp only [Act.put, List.setIfInBounds_toArray, List.set_cons_zero, List.set_cons_succ]
            refine tk 29 { dst := some 91, op := Op.indexAddr 23 (Operand.tmp 89) (Operand.tmp 90), type := 0, pos := "ref.go:28", after := #[{ on := 27, ground := Ground.data }, { on := 28, ground := Ground.data }, { on := 25, ground := Ground.guard }], guard := some (25, false) } ?_
            try simp only [Act.put, List.setIfInBounds_toArray, List.set_cons_zero, List.set_cons_succ]
            refine tk 30 { dst := some 92, op := Op.load 25 (Operand.tmp 91), type := 25, pos := "ref.go:28", after := #[{ on := 29, ground := Ground.data }, { on := 25, ground := Ground.guard }], guard := some (25, false) } ?_
            try simp only [Act.put, List.setIfInBounds_toArray, List.set_cons_zero, List.set_cons_succ]
            refine wpAnyH_ready (rs := [31]) (by kernel_rfl) (by simp) ?_
            refine AllReadyH.cons (o := { dst := some 93, op := Op.call { callee := Callee.value (Operand.func 22), args := #[Operand.tmp 92], argTypes := #[25] }, type := 4, pos := "ref.go:28", after := #[{ on := 30, ground := Ground.data }, { on := 25, ground := Ground.chain }, { on := 25, ground := Ground.guard }], guard := some (25, false) }) rfl (fun K hK => ?_) AllReadyH.nil
            go_simp
            (go_at_call 22; refine (HC.out _ (And.left (by assumption))).mono ?_; rintro e w2 ⟨rfl, hb2⟩; have hS2 := HKEEP.out _ _ (by assumption) hb2; clear hb2)
            go_wp2_with fail
            refine hK.out _ _ (by first | assumption | assumption) (fun hHeld => ?_)
            clear hK K
            try simp only [Act.put, List.setIfInBounds_toArray, List.set_cons_zero, List.set_cons_succ]
            refine tk 32 { dst := some 94, op := Op.unOp UnOp.not 4 (Operand.tmp 93), type := 4, pos := "ref.go:28", after := #[{ on := 31, ground := Ground.data }, { on := 25, ground := Ground.guard }], guard := some (25, false) } ?_
            try simp only [Act.put, List.setIfInBounds_toArray, List.set_cons_zero, List.set_cons_succ]
            refine tk 33 { dst := some 95, op := Op.pick (Operand.tmp 87) (Operand.const (Value.bool true)) (Operand.tmp 94), type := 4, pos := "ref.go:28", after := #[{ on := 25, ground := Ground.data }, { on := 32, ground := Ground.data }], guard := none } ?_
            try simp only [Act.put, List.setIfInBounds_toArray, List.set_cons_zero, List.set_cons_succ]
            refine wpAnyH_done (by kernel_rfl) ?_ _

            have HB2 := Lib.hid (And.left (by assumption))
            clear hg2 hk1 hk2 hL hE
            go_wp2_with fail
            · have hwk : wk = false := by cases wk <;> simp_all
              have HVF : Hid (Nd.well (.mk 2 text names kids) = false) := Lib.hid (by rw [HV.out, HWN.out hwk, Bool.and_false])
              go_wp2_with fail
              go_ret
              exact ⟨ret_bool HVF.out.symm, box_self (HB.out.trans (HB2.out.mono (by have := HB.out.size; simp at this; omega)))⟩
            · have hwk : wk = true := by cases wk <;> simp_all
              go_roundw
              case rel => exact ⟨k + 1, by omega, by go_num, Lib.hid ⟨by rw [HOK.out, HA.out.1, HAT2.out]; rfl, by rw [HSN.out, HA.out.2, hwk]; rfl⟩, Lib.hid (HB.out.trans (HB2.out.mono (by have := HB.out.size; simp at this; omega)))⟩
              case measure => simp [intOf]; omega
    · have HE : Hid (k = n) := Lib.hid (by omega)
      have c2 : wr.cell? ⟨w.heap.size, 2, none⟩ = some (.slice p n cp) := box_cell HB.out 2 rfl
      go_wp2_with fail
      go_ret
      exact ⟨ret_bool (by rw [HV.out, namesL, HN.out, ← HE.out, HA.out.1, Nd.wells_all, ← List.take_length (l := kids), HL.out, ← HE.out, HA.out.2]; rfl), box_self HB.out⟩
end Go.Proofs.YtfilbknnpjbmcaaGreat
