/- Walks of the program's word: a word that is plain. -/
import Derived.Test.YtpibjhlldlbocaaGreatSynQ
import Derived.Test.YtpibjhlldlbocaaGreatSynH
namespace Go.Proofs.YtpibjhlldlbocaaGreat
open Go.RowKit Sx Go.Proofs

theorem isBuilder_alloc {T e : TypeId} {B b : Nat} {bs : List Value} {w : World} (h : Lib.IsBuilder T e B b bs w) (o : Obj) : Lib.IsBuilder T e B b bs (w.alloc o) := by
  have key : ∀ p, Lib.BuilderAt T e B b p bs w → Lib.BuilderAt T e B b p bs (w.alloc o) := fun p h => by
    obtain ⟨hB, v, hbk, hown, hne⟩ := h
    exact ⟨hB, v, by rw [heap_alloc_old w o (Array.getElem?_eq_some_iff.1 hbk).1]; exact hbk, hown.alloc o, hne⟩
  exact h.imp (key _) (key _)
theorem strCells_append (a b : ByteArray) : Lib.strCells a ++ Lib.strCells b = Lib.strCells (a ++ b) := by
  unfold Lib.strCells
  rw [ByteArray.data_append, Array.toList_append, List.map_append]

set_option maxRecDepth 100000 in
set_option maxHeartbeats 2000000 in
theorem plain_any {w : World} {cs : List Value} {x : Word} (hx : WordR w cs x) (hB : x.bulk ≤ 2000000) :
    Calls Tryz.prog 73 #[.agg cs.toArray] w fun e w' => e = .returned (.tuple #[.string x.plain.1, .bool x.plain.2]) ∧ Below w.heap.size w w' := by
  obtain ⟨p, c, rfl, h1, h2, h3⟩ := hx
  have HX := Lib.hid h3
  have hl : x.parts.length ≤ 2000000 := by
    have := sum_ge (f := Part.bulk) (fun p => Nat.succ_pos _) x.parts
    unfold Word.bulk at hB
    omega
  have hB0 : ByteArray.size ⟨#[]⟩ + ((x.parts.drop 0).map Part.bulk).sum ≤ 2000000 := by
    unfold Word.bulk at hB
    show 0 + _ ≤ _
    rw [List.drop_zero]
    omega
  have HB0 := Lib.hid hB0
  clear h3 h1 h2 hB hB0
  obtain ⟨R, hR⟩ : ∃ R, R = x.plain := ⟨_, rfl⟩
  rw [← hR]
  have HR : Hid (R = plainFrom (decide (0 < x.parts.length)) ⟨#[]⟩ (x.parts.drop 0)) := Lib.hid hR
  clear hR
  generalize hn : x.parts.length = n at *
  have HN := Lib.hid hn
  clear hn
  go_enter Tryz.func73, Tryz.ntmps73
  go_wp2_with fail
  go_loopw [10] (fun i wr => ∃ (k : Nat) (a : ByteArray), k ≤ n ∧ i = .int .i64 k ∧ Hid (a.size + ((x.parts.drop k).map Part.bulk).sum ≤ 2000000) ∧ Hid (R = plainFrom (decide (0 < n)) a (x.parts.drop k)) ∧ Hid (Lib.IsBuilder 89 5 (w.heap.size + 1) (w.heap.size + 1) (Lib.strCells a) wr) ∧ Hid (Below (w.heap.size + 1) (w.alloc (.cells #[.slice p n c, .int .i64 x.at_] 31)) wr)) (fun i _ => n - (intOf i).toNat)
  case atStart => exact ⟨0, ⟨#[]⟩, Nat.zero_le _, rfl, HB0, HR, Lib.hid (by
    have := Lib.fresh_isBuilder 89 5 (w.alloc (.cells #[.slice p n c, .int .i64 x.at_] 31))
    rw [show Lib.strCells ⟨#[]⟩ = [] from rfl]
    simpa using this), Lib.hid ((Below.refl _ _).alloc (by simp) _)⟩
  case round =>
    clear HR HB0
    obtain ⟨k, a, hk, rfl, HS, HK, HI, HB⟩ := hrel
    have c0 : wr.cell? ⟨w.heap.size, 0, none⟩ = some (.slice p n c) := box_cell HB.out 0 rfl
    by_cases hlt : k < n
    · have hkx : k < x.parts.length := by rw [HN.out]; exact hlt
      have hd : x.parts.drop k = x.parts[k] :: x.parts.drop (k + 1) := List.drop_eq_getElem_cons hkx
      have HD : Hid (plainFrom (decide (0 < n)) a (x.parts.drop k) = if x.parts[k].var || x.parts[k].quoted then (⟨#[]⟩, false) else plainFrom (decide (0 < n)) (a ++ x.parts[k].text) (x.parts.drop (k + 1))) := Lib.hid (by rw [hd]; rfl)
      have hs2 : a.size + (x.parts[k].text.size + 1 + ((x.parts.drop (k + 1)).map Part.bulk).sum) ≤ 2000000 := by
        have := HS.out
        rw [hd, List.map_cons, List.sum_cons] at this
        exact this
      clear hd
      obtain ⟨b, o, rfl, _, hr⟩ := HX.out k hlt
      have hr : w.rangeAt b (o + k * 3) (partCells x.parts[k]) := by rw [← part_at hkx]; exact hr
      have hr := range_below (box_self HB.out) hr
      generalize x.parts[k] = P at *
      obtain ⟨var, text, quoted⟩ := P
      obtain ⟨e0, e1, e2⟩ := part_cells hr
      dsimp only at *
      have hts : a.size + text.size ≤ 2000000 := by omega
      have HS2 := Lib.hid hs2
      clear hr hs2
      have HWS : Hid (∀ wx, Lib.IsBuilder 89 5 (w.heap.size + 1) (w.heap.size + 1) (Lib.strCells a) wx → w.heap.size + 1 ≤ wx.heap.size → Calls Tryz.prog 85 #[.pointer (some ⟨w.heap.size + 1, 0, none⟩), .string text] wx fun e w' => e = .returned (.tuple #[.int .i64 text.size, .nilIface]) ∧ (Lib.IsBuilder 89 5 (w.heap.size + 1) (w.heap.size + 1) (Lib.strCells (a ++ text)) w' ∧ Below (w.heap.size + 1) wx w')) := Lib.hid fun wx hx hz => by
        refine (Tryz.Builder_WriteString _ _ _ text wx hx (by rw [Lib.strCells_length]; omega) hz).mono ?_
        rintro e w' ⟨rfl, h1, h2⟩
        rw [strCells_append] at h1
        exact ⟨rfl, Or.inr h1, h2⟩
      have hsz : w.heap.size + 1 ≤ wr.heap.size := by have := HB.out.size; simpa using this
      cases var <;> cases quoted <;> go_wp2_with (first | (go_at_call 85; refine (HWS.out _ (isBuilder_alloc (isBuilder_alloc HI.out _) _) (by simp; omega)).mono ?_; rintro e w2 ⟨rfl, hi2, hb2⟩; have HI2 := Lib.hid hi2; have HB2 := Lib.hid (((HB.out.alloc hsz _).alloc (by simp; omega) _).trans hb2); clear hi2 hb2) | go_in)
      · go_roundw
        case rel => exact ⟨k + 1, _, by omega, by go_num, Lib.hid (by rw [ByteArray.size_append]; have := HS2.out; omega), Lib.hid (by rw [HK.out, HD.out]; rfl), HI2, HB2⟩
        case measure => simp [intOf]; omega
      all_goals (go_ret2; exact ⟨by rw [HK.out, HD.out]; rfl, box_self ((HB.out.alloc hsz _).alloc (by simp; omega) _)⟩)
    · have HE : Hid (x.parts.drop k = []) := Lib.hid (List.drop_eq_nil_of_le (by have := HN.out; omega))
      have hsz : w.heap.size + 1 ≤ wr.heap.size := by have := HB.out.size; simpa using this
      have HST : Hid (∀ wx, Lib.IsBuilder 89 5 (w.heap.size + 1) (w.heap.size + 1) (Lib.strCells a) wx → w.heap.size + 1 ≤ wx.heap.size → Calls Tryz.prog 86 #[.pointer (some ⟨w.heap.size + 1, 0, none⟩)] wx fun e w' => e = .returned (.string a) ∧ Below (w.heap.size + 1) wx w') := Lib.hid fun wx hx hz =>
        Tryz.Builder_String_any _ _ a.data.toList wx hx hz
      go_wp2_with fail
      refine wp_region_held_drew (S := (fun wx => wx.cell? ⟨w.heap.size, 0, none⟩ = some (.slice p n c))) (by kernel_rfl) c0 (fun hHeld => ?_)
      refine wpAnyH_take (i := 1) (oi := { dst := some 22, op := Op.fieldAddr 31 (Operand.tmp 1) 0, type := 0, pos := "word.go:141", after := #[], guard := none }) (v := ?_) rfl (by kernel_rfl) (by kernel_rfl) (by kernel_rfl) (fun _ _ _ h => h) (Or.inl ⟨by rfl, ?_⟩) (by assumption) ?_
      rotate_left
      · (intro w hSw; (try dsimp only at hSw); go_simp; try with_reducible rfl)
      try simp only [Act.put, List.setIfInBounds_toArray, List.set_cons_zero, List.set_cons_succ]
      refine wpAnyH_take (i := 2) (oi := { dst := some 23, op := Op.load 29 (Operand.tmp 22), type := 29, pos := "word.go:141", after := #[{ on := 1, ground := Ground.data }], guard := none }) (v := ?_) rfl (by kernel_rfl) (by kernel_rfl) (by kernel_rfl) (fun _ _ _ h => h) (Or.inl ⟨by rfl, ?_⟩) (by assumption) ?_
      rotate_left
      · (intro w hSw; (try dsimp only at hSw); go_simp; try with_reducible rfl)
      try simp only [Act.put, List.setIfInBounds_toArray, List.set_cons_zero, List.set_cons_succ]
      refine wpAnyH_take (i := 3) (oi := { dst := some 24, op := Op.call { callee := Callee.builtin Builtin.len, args := #[Operand.tmp 23], argTypes := #[29] }, type := 3, pos := "word.go:141", after := #[{ on := 2, ground := Ground.data }], guard := none }) (v := ?_) rfl (by kernel_rfl) (by kernel_rfl) (by kernel_rfl) (fun _ _ _ h => h) (Or.inl ⟨by rfl, ?_⟩) (by assumption) ?_
      rotate_left
      · (intro w hSw; (try dsimp only at hSw); go_simp; try with_reducible rfl)
      try simp only [Act.put, List.setIfInBounds_toArray, List.set_cons_zero, List.set_cons_succ]
      refine wpAnyH_take (i := 4) (oi := { dst := some 25, op := Op.binOp BinOp.gtr 3 (Operand.tmp 24) (Operand.const (Value.int IntKind.i64 0)) 3, type := 4, pos := "word.go:141", after := #[{ on := 3, ground := Ground.data }, { on := 5, ground := Ground.gcOnly Departure.lateStores }], guard := none }) (v := ?_) rfl (by kernel_rfl) (by kernel_rfl) (by kernel_rfl) (fun _ _ _ h => h) (Or.inl ⟨by rfl, ?_⟩) (by assumption) ?_
      rotate_left
      · (intro w hSw; (try dsimp only at hSw); go_simp; try with_reducible rfl)
      try simp only [Act.put, List.setIfInBounds_toArray, List.set_cons_zero, List.set_cons_succ]
      refine wpAnyH_ready (rs := [0]) (by kernel_rfl) (by simp) ?_
      refine AllReadyH.cons (o := { dst := some 21, op := Op.call { callee := Callee.value (Operand.func 86), args := #[Operand.tmp 4], argTypes := #[89] }, type := 9, pos := "word.go:141", after := #[], guard := none }) rfl (fun K hK => ?_) AllReadyH.nil
      go_simp
      (go_at_call 86; refine (HST.out wr.drew HI.out hsz).mono ?_; rintro e w2 ⟨rfl, hb2⟩; have HB2 : Hid (Below (w.heap.size + 1) wr w2) := Lib.hid ((Below.refl _ _).drew.trans hb2); clear hb2)
      go_wp2_with fail
      refine hK.out _ _ (box_cell (HB.out.trans HB2.out) 0 rfl) (fun hHeld => ?_)
      clear hK K
      try simp only [Act.put, List.setIfInBounds_toArray, List.set_cons_zero, List.set_cons_succ]
      refine wpAnyH_take (i := 5) (oi := { dst := some 2, op := Op.assign (Operand.tmp 21), type := 9, pos := "word.go:141", after := #[{ on := 0, ground := Ground.data }, { on := 0, ground := Ground.chain }, { on := 0, ground := Ground.phase }, { on := 1, ground := Ground.textOnly Departure.lateStores }, { on := 2, ground := Ground.textOnly Departure.lateStores }, { on := 3, ground := Ground.textOnly Departure.lateStoresUnsure }, { on := 4, ground := Ground.textOnly Departure.lateStores }], guard := none }) (v := ?_) rfl (by kernel_rfl) (by kernel_rfl) (by kernel_rfl) (fun _ _ _ h => h) (Or.inl ⟨by rfl, ?_⟩) (by assumption) ?_
      rotate_left
      · (intro w hSw; (try dsimp only at hSw); go_simp; try with_reducible rfl)
      try simp only [Act.put, List.setIfInBounds_toArray, List.set_cons_zero, List.set_cons_succ]
      refine wpAnyH_take (i := 6) (oi := { dst := some 3, op := Op.assign (Operand.tmp 25), type := 4, pos := "word.go:141", after := #[{ on := 4, ground := Ground.data }, { on := 5, ground := Ground.chain }, { on := 0, ground := Ground.phase }, { on := 1, ground := Ground.phase }, { on := 2, ground := Ground.phase }, { on := 3, ground := Ground.phase }, { on := 4, ground := Ground.phase }, { on := 5, ground := Ground.phase }], guard := none }) (v := ?_) rfl (by kernel_rfl) (by kernel_rfl) (by kernel_rfl) (fun _ _ _ h => h) (Or.inl ⟨by rfl, ?_⟩) (by assumption) ?_
      rotate_left
      · (intro w hSw; (try dsimp only at hSw); go_simp; try with_reducible rfl)
      try simp only [Act.put, List.setIfInBounds_toArray, List.set_cons_zero, List.set_cons_succ]
      refine wpAnyH_done (by kernel_rfl) ?_ _
      go_wp2_with fail
      go_ret2
      exact ⟨by rw [HK.out, HE.out]; rfl, box_self (HB.out.trans HB2.out)⟩
end Go.Proofs.YtpibjhlldlbocaaGreat
