/- Walks of package probe: whether a test holds, where no name is known: by what the words behind ! come to. -/
import Derived.Test.YtfilbknnpjbmcaaGreatKa41
namespace Go.Proofs.YtfilbknnpjbmcaaGreat
open Go.RowKit Px Nx Wk Pr
set_option maxRecDepth 100000 in
set_option maxHeartbeats 8000000 in
theorem hold2_none {w : World} {b : Nat} {n : Nd} {v0 v1 v2 v3 : Value} (h : TreeX w b n v0 v1 v2 v3) (hT : Tr n) {K : Bool → ByteArray → UInt8} (hK : Orc n K) {v : Value} (x y : ByteArray) (hno : x ≠ sN ∧ x ≠ sZ ∧ x ≠ sE ∧ x ≠ sF ∧ x ≠ sD ∧ x ≠ sL ∧ x ≠ sH) (hx : PlR w v [x, y]) (hR : ∀ wx, Below w.heap.size w wx → ∀ v', PlR wx v' [y] → Calls Tryz.prog 21 #[.iface 28 (.pointer (some ⟨b, 0, none⟩)), v'] wx fun e w' => e = .returned (ansV (holdsD K [y])) ∧ Below wx.heap.size wx w') : Calls Tryz.prog 21 #[.iface 28 (.pointer (some ⟨b, 0, none⟩)), v] w fun e w' => e = .returned (ansV (holdsD K [x, y])) ∧ Below w.heap.size w w' := by
  have HV : Hid (ansV (holdsD K [x, y]) = ansV (bang x (holdsD K [y]))) := Lib.hid (by
    rw [hold_2]
    unfold askD
    rw [if_neg hno.1, if_neg hno.2.1, if_neg hno.2.2.1, if_neg hno.2.2.2.1, if_neg hno.2.2.2.2.1, if_neg hno.2.2.2.2.2.1, if_neg hno.2.2.2.2.2.2]
    rfl)
  have HLK : Hid (∀ wx r g g1, wx.heap[r]? = some (.map (tab (qs g g1)) 7) → (Instr.lookup 67 (.map (some r)) (.string x) true).run Tryz.prog wx = .ok (.tuple #[.nilFunc, .bool false]) wx) := Lib.hid fun wx r g g1 hr => by
    rcases lookup_q wx r 7 x (qs g g1) hr with ⟨q, _⟩ | ⟨p, hp, e, q⟩
    · exact q
    · simp only [qs, List.mem_cons, List.not_mem_nil, or_false] at hp
      obtain ⟨n0, n1, n2, n3, n4, n5, n6⟩ := hno
      rcases hp with rfl | rfl | rfl | rfl | rfl | rfl | rfl
      · exact absurd e n0
      · exact absurd e n1
      · exact absurd e n2
      · exact absurd e n3
      · exact absurd e n4
      · exact absurd e n5
      · exact absurd e n6
  clear hno
  have HR := Lib.hid hR
  clear hR
  obtain ⟨bb, oo, c, rfl, h1, h2, hc⟩ := pl_parts hx
  have HX := Lib.hid hx
  have C0 : Hid (w.cell? ⟨bb, oo, none⟩ = some (.string x)) := Lib.hid (hc 0 (by simp))
  have C1 : Hid (w.cell? ⟨bb, oo + 1, none⟩ = some (.string y)) := Lib.hid (hc 1 (by simp))
  have h3 : 2 ≤ c := by simpa using h1
  have h4 : c ≤ 9223372036854775807 := by unfold maxLen at h2; omega
  have HT := Lib.hid h
  have HK := Lib.hid hK
  clear hc hx h1 h2 h hK
  rw [show ([y] : List ByteArray).length + 1 = 2 from rfl]
  go_enter Tryz.func21, Tryz.ntmps21
  go_upto_region 7 with fail
  refine wp_region_held_drew (S := (fun wx => Below w.heap.size w wx ∧ wx.cell? ⟨bb, oo, none⟩ = some (.string x))) (by kernel_rfl) ⟨(Below.refl _ _).drew, C0.out⟩ (fun hHeld => ?_)
  refine wpAnyH_take (i := 0) (oi := { dst := some 23, op := Op.move (Operand.tmp 0), type := 46, pos := "question.go:21", after := #[], guard := none }) (v := ?_) rfl (by kernel_rfl) (by kernel_rfl) (by kernel_rfl) (fun _ _ _ h => h) (Or.inl ⟨by rfl, ?_⟩) (by assumption) ?_
  rotate_left
  · (intro w hSw; (try dsimp only at hSw); go_simp; try with_reducible rfl)
  try simp only [Act.put, List.setIfInBounds_toArray, List.set_cons_zero, List.set_cons_succ]
  refine wpAnyH_take (i := 2) (oi := { dst := some 25, op := Op.move (Operand.tmp 1), type := 22, pos := "question.go:21", after := #[], guard := none }) (v := ?_) rfl (by kernel_rfl) (by kernel_rfl) (by kernel_rfl) (fun _ _ _ h => h) (Or.inl ⟨by rfl, ?_⟩) (by assumption) ?_
  rotate_left
  · (intro w hSw; (try dsimp only at hSw); go_simp; try with_reducible rfl)
  try simp only [Act.put, List.setIfInBounds_toArray, List.set_cons_zero, List.set_cons_succ]
  refine wpAnyH_take (i := 3) (oi := { dst := some 26, op := Op.indexAddr 22 (Operand.tmp 25) (Operand.const (Value.int IntKind.i64 0)), type := 0, pos := "question.go:21", after := #[{ on := 2, ground := Ground.data }], guard := none }) (v := ?_) rfl (by kernel_rfl) (by kernel_rfl) (by kernel_rfl) (fun _ _ _ h => h) (Or.inl ⟨by rfl, ?_⟩) (by assumption) ?_
  rotate_left
  · (intro w hSw; (try dsimp only at hSw); go_simp; try with_reducible rfl)
  try simp only [Act.put, List.setIfInBounds_toArray, List.set_cons_zero, List.set_cons_succ]
  refine wpAnyH_take (i := 4) (oi := { dst := some 27, op := Op.load 9 (Operand.tmp 26), type := 9, pos := "question.go:21", after := #[{ on := 3, ground := Ground.data }], guard := none }) (v := ?_) rfl (by kernel_rfl) (by kernel_rfl) (by kernel_rfl) (fun _ _ _ h => h) (Or.inl ⟨by rfl, ?_⟩) (by assumption) ?_
  rotate_left
  · (intro w hSw; (try dsimp only at hSw); go_simp; try with_reducible rfl)
  try simp only [Act.put, List.setIfInBounds_toArray, List.set_cons_zero, List.set_cons_succ]
  refine wpAnyH_ready (rs := [1]) (by kernel_rfl) (by simp) ?_
  refine AllReadyH.cons (o := { dst := some 24, op := Op.call { callee := Callee.value (Operand.func 32), args := #[Operand.tmp 23], argTypes := #[46] }, type := 67, pos := "question.go:21", after := #[{ on := 0, ground := Ground.data }], guard := none }) rfl (fun K hK => ?_) AllReadyH.nil
  go_simp
  (go_at_call 32; refine (questions_any _ b).mono ?_; rintro e w2 ⟨g, g1, r, rfl, hm, hc0, hc1, hb2⟩)
  have HM := Lib.hid hm
  have HC0 := Lib.hid hc0
  have HC1 := Lib.hid hc1
  have HB2 : Hid (Below w.heap.size w w2) := Lib.hid ((Below.refl _ _).drew.trans hb2)
  clear hm hc0 hc1 hb2
  go_wp2_with fail
  refine hK.out _ _ (by exact ⟨HB2.out, cell_kept HB2.out C0.out⟩) (fun hHeld => ?_)
  clear hK K
  try simp only [Act.put, List.setIfInBounds_toArray, List.set_cons_zero, List.set_cons_succ]
  refine wpAnyH_ready (rs := [5]) (by kernel_rfl) (by simp) ?_
  refine AllReadyH.cons (o := { dst := some 28, op := Op.lookup 67 (Operand.tmp 24) (Operand.tmp 27) true, type := 66, pos := "question.go:21", after := #[{ on := 1, ground := Ground.data }, { on := 4, ground := Ground.data }], guard := none }) rfl (fun K hK => ?_) AllReadyH.nil
  have hlk := HLK.out w2 r g g1 HM.out
  go_simp
  try rw [hlk]
  go_wp2_with fail
  clear hlk
  refine hK.out _ _ (by exact ⟨HB2.out, cell_kept HB2.out C0.out⟩) (fun hHeld => ?_)
  clear hK K
  try simp only [Act.put, List.setIfInBounds_toArray, List.set_cons_zero, List.set_cons_succ]
  refine wpAnyH_take (i := 6) (oi := { dst := some 22, op := Op.move (Operand.tmp 28), type := 66, pos := "question.go:21", after := #[{ on := 5, ground := Ground.data }], guard := none }) (v := ?_) rfl (by kernel_rfl) (by kernel_rfl) (by kernel_rfl) (fun _ _ _ h => h) (Or.inl ⟨by rfl, ?_⟩) (by assumption) ?_
  rotate_left
  · (intro w hSw; (try dsimp only at hSw); go_simp; try with_reducible rfl)
  try simp only [Act.put, List.setIfInBounds_toArray, List.set_cons_zero, List.set_cons_succ]
  refine wpAnyH_take (i := 7) (oi := { dst := some 29, op := Op.extract (Operand.tmp 22) 0, type := 65, pos := "question.go:21", after := #[{ on := 6, ground := Ground.data }], guard := none }) (v := ?_) rfl (by kernel_rfl) (by kernel_rfl) (by kernel_rfl) (fun _ _ _ h => h) (Or.inl ⟨by rfl, ?_⟩) (by assumption) ?_
  rotate_left
  · (intro w hSw; (try dsimp only at hSw); go_simp; try with_reducible rfl)
  try simp only [Act.put, List.setIfInBounds_toArray, List.set_cons_zero, List.set_cons_succ]
  refine wpAnyH_take (i := 8) (oi := { dst := some 30, op := Op.extract (Operand.tmp 22) 1, type := 4, pos := "question.go:21", after := #[{ on := 6, ground := Ground.data }, { on := 9, ground := Ground.gcOnly Departure.lateStores }], guard := none }) (v := ?_) rfl (by kernel_rfl) (by kernel_rfl) (by kernel_rfl) (fun _ _ _ h => h) (Or.inl ⟨by rfl, ?_⟩) (by assumption) ?_
  rotate_left
  · (intro w hSw; (try dsimp only at hSw); go_simp; try with_reducible rfl)
  try simp only [Act.put, List.setIfInBounds_toArray, List.set_cons_zero, List.set_cons_succ]
  refine wpAnyH_take (i := 9) (oi := { dst := some 6, op := Op.assign (Operand.tmp 29), type := 65, pos := "question.go:21", after := #[{ on := 7, ground := Ground.data }, { on := 1, ground := Ground.chain }, { on := 0, ground := Ground.phase }, { on := 1, ground := Ground.phase }, { on := 2, ground := Ground.phase }, { on := 3, ground := Ground.phase }, { on := 4, ground := Ground.phase }, { on := 5, ground := Ground.phase }, { on := 6, ground := Ground.phase }, { on := 7, ground := Ground.phase }, { on := 8, ground := Ground.textOnly Departure.lateStores }], guard := none }) (v := ?_) rfl (by kernel_rfl) (by kernel_rfl) (by kernel_rfl) (fun _ _ _ h => h) (Or.inl ⟨by rfl, ?_⟩) (by assumption) ?_
  rotate_left
  · (intro w hSw; (try dsimp only at hSw); go_simp; try with_reducible rfl)
  try simp only [Act.put, List.setIfInBounds_toArray, List.set_cons_zero, List.set_cons_succ]
  refine wpAnyH_take (i := 10) (oi := { dst := some 7, op := Op.assign (Operand.tmp 30), type := 4, pos := "question.go:21", after := #[{ on := 8, ground := Ground.data }, { on := 9, ground := Ground.chain }, { on := 0, ground := Ground.phase }, { on := 1, ground := Ground.phase }, { on := 2, ground := Ground.phase }, { on := 3, ground := Ground.phase }, { on := 4, ground := Ground.phase }, { on := 5, ground := Ground.phase }, { on := 6, ground := Ground.phase }, { on := 7, ground := Ground.phase }, { on := 8, ground := Ground.phase }, { on := 9, ground := Ground.phase }], guard := none }) (v := ?_) rfl (by kernel_rfl) (by kernel_rfl) (by kernel_rfl) (fun _ _ _ h => h) (Or.inl ⟨by rfl, ?_⟩) (by assumption) ?_
  rotate_left
  · (intro w hSw; (try dsimp only at hSw); go_simp; try with_reducible rfl)
  try simp only [Act.put, List.setIfInBounds_toArray, List.set_cons_zero, List.set_cons_succ]
  refine wpAnyH_done (by kernel_rfl) ?_ _
  clear hHeld
  have HB3 := HB2
  have c1 := C1.out
  have HR2 := Lib.hid (HR.out w2 HB3.out _ (pl_behind2 (m := 1) (HX.out.grown HB3.out) rfl (by omega)))
  clear c1
  have c0 := cell_kept HB3.out C0.out
  by_cases hbx : x = sBang
  rotate_left
  · have e0 : (x.toList == ([33] : List UInt8)) = false := by
      have := str_eq x sBang
      rw [decide_eq_false hbx] at this
      rw [← this, show sBang.toList = [33] from by rw [Lib.toList_data]; rfl]
    have HV2 : Hid (ansV (holdsD K (x :: [y])) = .tuple #[.bool false, .bool false]) := Lib.hid (by rw [HV.out]; unfold bang; rw [if_neg hbx]; rfl)
    clear hbx
    go_wp2_with fail
    go_ret2
    exact ⟨by rw [HV2.out]; rfl, HB3.out⟩
  have e0 : (x.toList == ([33] : List UInt8)) = true := by
    have := str_eq x sBang
    rw [decide_eq_true hbx] at this
    rw [← this, show sBang.toList = [33] from by rw [Lib.toList_data]; rfl]
  have HV2 : Hid (ansV (holdsD K (x :: [y])) = ansV ((holdsD K [y]).map (!·))) := Lib.hid (by rw [HV.out]; unfold bang; rw [if_pos hbx])
  clear hbx HV
  generalize holdsD K [y] = r' at HR2 HV2
  go_wp2_with fail
  refine HR2.out.mono ?_
  rintro e w3 ⟨he, hb3⟩
  have HB4 := Lib.hid (HB3.out.trans (hb3.mono HB3.out.size))
  clear hb3
  cases r' with
  | none =>
    have he : e = .returned (.tuple #[.bool false, .bool false]) := he
    subst he
    go_wp2_with fail
    go_ret2
    exact ⟨by rw [HV2.out]; rfl, HB4.out⟩
  | some r' =>
    have he : e = .returned (.tuple #[.bool r', .bool true]) := he
    subst he
    cases r' with
    | true =>
      go_wp2_with fail
      go_ret2
      exact ⟨by rw [HV2.out]; rfl, HB4.out⟩
    | false =>
      go_wp2_with fail
      go_ret2
      exact ⟨by rw [HV2.out]; rfl, HB4.out⟩
theorem comparisons_new (w : World) : Calls Tryz.prog 33 #[] w fun e w' => ∃ r, e = .returned (.map (some r)) ∧ w'.heap[r]? = some (.map (tab cmps) 2) ∧ Below w.heap.size w w' :=
  (comparisons_any w).mono fun _ _ ⟨he, hw⟩ => ⟨_, he, hw ▸ heap_alloc_new w _, hw ▸ below_alloc (Below.refl _ _)⟩
set_option maxRecDepth 100000 in
set_option maxHeartbeats 4000000 in
theorem hold3_0 {w : World} {b : Nat} {n : Nd} {v0 v1 v2 v3 : Value} (h : TreeX w b n v0 v1 v2 v3) (hT : Tr n) {K : Bool → ByteArray → UInt8} (hK : Orc n K) {v : Value} (x z : ByteArray) (hx : PlR w v [x, sEq, z]) : Calls Tryz.prog 21 #[.iface 28 (.pointer (some ⟨b, 0, none⟩)), v] w fun e w' => e = .returned (ansV (holdsD K [x, sEq, z])) ∧ Below w.heap.size w w' := by
  have HV : Hid (ansV (holdsD K [x, sEq, z]) = .tuple #[.bool (decide (x = z)), .bool true]) := Lib.hid (by rfl)
  have HLK : Hid (∀ wx r, wx.heap[r]? = some (.map (tab cmps) 2) → (Instr.lookup 71 (.map (some r)) (.string sEq) true).run Tryz.prog wx = .ok (.tuple #[.func (.func 54) #[] #[], .bool true]) wx) := Lib.hid fun wx r hr => by
    rcases lookup_c wx r 2 sEq cmps hr with ⟨_, q⟩ | ⟨p, hp, e, q⟩
    · exact absurd rfl (q (⟨#[61]⟩, .func (.func 54) #[] #[]) (by unfold cmps; simp))
    · simp only [cmps, List.mem_cons, List.not_mem_nil, or_false] at hp
      rcases hp with rfl | rfl <;> first | exact q | exact absurd e (by dsimp only; decide)
  obtain ⟨bb, oo, c, rfl, h1, h2, hc⟩ := pl_parts hx
  have HX := Lib.hid hx
  have C0 : Hid (w.cell? ⟨bb, oo, none⟩ = some (.string x)) := Lib.hid (hc 0 (by simp))
  have C1 : Hid (w.cell? ⟨bb, oo + 1, none⟩ = some (.string sEq)) := Lib.hid (hc 1 (by simp))
  have C2 : Hid (w.cell? ⟨bb, oo + 2, none⟩ = some (.string z)) := Lib.hid (hc 2 (by simp))
  have h3 : 3 ≤ c := by simpa using h1
  have h4 : c ≤ 9223372036854775807 := by unfold maxLen at h2; omega
  have HT := Lib.hid h
  have HK := Lib.hid hK
  clear hc hx h1 h2 h hK
  rw [show ([sEq, z] : List ByteArray).length + 1 = 3 from rfl]
  generalize sEq = y at C1 HX HLK HV ⊢
  go_enter Tryz.func21, Tryz.ntmps21
  go_upto_region 11 with fail
  refine wp_region_held_drew (S := (fun wx => Below w.heap.size w wx ∧ wx.cell? ⟨bb, oo + 1, none⟩ = some (.string y))) (by kernel_rfl) ⟨(Below.refl _ _).drew, C1.out⟩ (fun hHeld => ?_)
  refine wpAnyH_take (i := 1) (oi := { dst := some 41, op := Op.move (Operand.tmp 1), type := 22, pos := "question.go:26", after := #[], guard := none }) (v := ?_) rfl (by kernel_rfl) (by kernel_rfl) (by kernel_rfl) (fun _ _ _ h => h) (Or.inl ⟨by rfl, ?_⟩) (by assumption) ?_
  rotate_left
  · (intro w hSw; (try dsimp only at hSw); go_simp; try with_reducible rfl)
  try simp only [Act.put, List.setIfInBounds_toArray, List.set_cons_zero, List.set_cons_succ]
  refine wpAnyH_take (i := 2) (oi := { dst := some 42, op := Op.indexAddr 22 (Operand.tmp 41) (Operand.const (Value.int IntKind.i64 1)), type := 0, pos := "question.go:26", after := #[{ on := 1, ground := Ground.data }], guard := none }) (v := ?_) rfl (by kernel_rfl) (by kernel_rfl) (by kernel_rfl) (fun _ _ _ h => h) (Or.inl ⟨by rfl, ?_⟩) (by assumption) ?_
  rotate_left
  · (intro w hSw; (try dsimp only at hSw); go_simp; try with_reducible rfl)
  try simp only [Act.put, List.setIfInBounds_toArray, List.set_cons_zero, List.set_cons_succ]
  refine wpAnyH_take (i := 3) (oi := { dst := some 43, op := Op.load 9 (Operand.tmp 42), type := 9, pos := "question.go:26", after := #[{ on := 2, ground := Ground.data }], guard := none }) (v := ?_) rfl (by kernel_rfl) (by kernel_rfl) (by kernel_rfl) (fun _ _ _ h => h) (Or.inl ⟨by rfl, ?_⟩) (by assumption) ?_
  rotate_left
  · (intro w hSw; (try dsimp only at hSw); go_simp; try with_reducible rfl)
  try simp only [Act.put, List.setIfInBounds_toArray, List.set_cons_zero, List.set_cons_succ]
  refine wpAnyH_ready (rs := [0]) (by kernel_rfl) (by simp) ?_
  refine AllReadyH.cons (o := { dst := some 40, op := Op.call { callee := Callee.value (Operand.func 33), args := #[], argTypes := #[] }, type := 71, pos := "question.go:26", after := #[], guard := none }) rfl (fun K hK => ?_) AllReadyH.nil
  go_simp
  (go_at_call 33; refine (comparisons_new _).mono ?_; rintro e w2 ⟨r, rfl, hm, hb2⟩)
  have HM := Lib.hid hm
  have HB2 : Hid (Below w.heap.size w w2) := Lib.hid ((Below.refl _ _).drew.trans hb2)
  clear hm hb2
  go_wp2_with fail
  refine hK.out _ _ (by exact ⟨HB2.out, cell_kept HB2.out C1.out⟩) (fun hHeld => ?_)
  clear hK K
  try simp only [Act.put, List.setIfInBounds_toArray, List.set_cons_zero, List.set_cons_succ]
  refine wpAnyH_ready (rs := [4]) (by kernel_rfl) (by simp) ?_
  refine AllReadyH.cons (o := { dst := some 44, op := Op.lookup 71 (Operand.tmp 40) (Operand.tmp 43) true, type := 70, pos := "question.go:26", after := #[{ on := 0, ground := Ground.data }, { on := 3, ground := Ground.data }], guard := none }) rfl (fun K hK => ?_) AllReadyH.nil
  have hlk := HLK.out w2 r HM.out
  go_simp
  try rw [hlk]
  go_wp2_with fail
  clear hlk
  refine hK.out _ _ (by exact ⟨HB2.out, cell_kept HB2.out C1.out⟩) (fun hHeld => ?_)
  clear hK K
  try simp only [Act.put, List.setIfInBounds_toArray, List.set_cons_zero, List.set_cons_succ]
  refine wpAnyH_take (i := 5) (oi := { dst := some 39, op := Op.move (Operand.tmp 44), type := 70, pos := "question.go:26", after := #[{ on := 4, ground := Ground.data }], guard := none }) (v := ?_) rfl (by kernel_rfl) (by kernel_rfl) (by kernel_rfl) (fun _ _ _ h => h) (Or.inl ⟨by rfl, ?_⟩) (by assumption) ?_
  rotate_left
  · (intro w hSw; (try dsimp only at hSw); go_simp; try with_reducible rfl)
  try simp only [Act.put, List.setIfInBounds_toArray, List.set_cons_zero, List.set_cons_succ]
  refine wpAnyH_take (i := 6) (oi := { dst := some 45, op := Op.extract (Operand.tmp 39) 0, type := 69, pos := "question.go:26", after := #[{ on := 5, ground := Ground.data }], guard := none }) (v := ?_) rfl (by kernel_rfl) (by kernel_rfl) (by kernel_rfl) (fun _ _ _ h => h) (Or.inl ⟨by rfl, ?_⟩) (by assumption) ?_
  rotate_left
  · (intro w hSw; (try dsimp only at hSw); go_simp; try with_reducible rfl)
  try simp only [Act.put, List.setIfInBounds_toArray, List.set_cons_zero, List.set_cons_succ]
  refine wpAnyH_take (i := 7) (oi := { dst := some 46, op := Op.extract (Operand.tmp 39) 1, type := 4, pos := "question.go:26", after := #[{ on := 5, ground := Ground.data }, { on := 8, ground := Ground.gcOnly Departure.lateStores }], guard := none }) (v := ?_) rfl (by kernel_rfl) (by kernel_rfl) (by kernel_rfl) (fun _ _ _ h => h) (Or.inl ⟨by rfl, ?_⟩) (by assumption) ?_
  rotate_left
  · (intro w hSw; (try dsimp only at hSw); go_simp; try with_reducible rfl)
  try simp only [Act.put, List.setIfInBounds_toArray, List.set_cons_zero, List.set_cons_succ]
  refine wpAnyH_take (i := 8) (oi := { dst := some 8, op := Op.assign (Operand.tmp 45), type := 69, pos := "question.go:26", after := #[{ on := 6, ground := Ground.data }, { on := 0, ground := Ground.chain }, { on := 0, ground := Ground.phase }, { on := 1, ground := Ground.phase }, { on := 2, ground := Ground.phase }, { on := 3, ground := Ground.phase }, { on := 4, ground := Ground.phase }, { on := 5, ground := Ground.phase }, { on := 6, ground := Ground.phase }, { on := 7, ground := Ground.textOnly Departure.lateStores }], guard := none }) (v := ?_) rfl (by kernel_rfl) (by kernel_rfl) (by kernel_rfl) (fun _ _ _ h => h) (Or.inl ⟨by rfl, ?_⟩) (by assumption) ?_
  rotate_left
  · (intro w hSw; (try dsimp only at hSw); go_simp; try with_reducible rfl)
  try simp only [Act.put, List.setIfInBounds_toArray, List.set_cons_zero, List.set_cons_succ]
  refine wpAnyH_take (i := 9) (oi := { dst := some 9, op := Op.assign (Operand.tmp 46), type := 4, pos := "question.go:26", after := #[{ on := 7, ground := Ground.data }, { on := 8, ground := Ground.chain }, { on := 0, ground := Ground.phase }, { on := 1, ground := Ground.phase }, { on := 2, ground := Ground.phase }, { on := 3, ground := Ground.phase }, { on := 4, ground := Ground.phase }, { on := 5, ground := Ground.phase }, { on := 6, ground := Ground.phase }, { on := 7, ground := Ground.phase }, { on := 8, ground := Ground.phase }], guard := none }) (v := ?_) rfl (by kernel_rfl) (by kernel_rfl) (by kernel_rfl) (fun _ _ _ h => h) (Or.inl ⟨by rfl, ?_⟩) (by assumption) ?_
  rotate_left
  · (intro w hSw; (try dsimp only at hSw); go_simp; try with_reducible rfl)
  try simp only [Act.put, List.setIfInBounds_toArray, List.set_cons_zero, List.set_cons_succ]
  refine wpAnyH_done (by kernel_rfl) ?_ _
  clear hHeld
  have HB3 := HB2
  have HC0 := Lib.hid (cell_kept HB3.out C0.out)
  have HC2 := Lib.hid (cell_kept HB3.out C2.out)
  go_upto_region 13 with fail
  refine wp_region_held_drew (S := (fun wx => Below w2.heap.size w2 wx ∧ wx.cell? ⟨bb, oo, none⟩ = some (.string x) ∧ wx.cell? ⟨bb, oo + 2, none⟩ = some (.string z))) (by kernel_rfl) ⟨(Below.refl _ _).drew, HC0.out, HC2.out⟩ (fun hHeld => ?_)
  refine wpAnyH_take (i := 0) (oi := { dst := some 48, op := Op.move (Operand.tmp 8), type := 69, pos := "question.go:27", after := #[], guard := none }) (v := ?_) rfl (by kernel_rfl) (by kernel_rfl) (by kernel_rfl) (fun _ _ _ h => h) (Or.inl ⟨by rfl, ?_⟩) (by assumption) ?_
  rotate_left
  · (intro w hSw; (try dsimp only at hSw); go_simp; try with_reducible rfl)
  try simp only [Act.put, List.setIfInBounds_toArray, List.set_cons_zero, List.set_cons_succ]
  refine wpAnyH_take (i := 1) (oi := { dst := some 49, op := Op.move (Operand.tmp 1), type := 22, pos := "question.go:27", after := #[], guard := none }) (v := ?_) rfl (by kernel_rfl) (by kernel_rfl) (by kernel_rfl) (fun _ _ _ h => h) (Or.inl ⟨by rfl, ?_⟩) (by assumption) ?_
  rotate_left
  · (intro w hSw; (try dsimp only at hSw); go_simp; try with_reducible rfl)
  try simp only [Act.put, List.setIfInBounds_toArray, List.set_cons_zero, List.set_cons_succ]
  refine wpAnyH_take (i := 2) (oi := { dst := some 50, op := Op.indexAddr 22 (Operand.tmp 49) (Operand.const (Value.int IntKind.i64 0)), type := 0, pos := "question.go:27", after := #[{ on := 1, ground := Ground.data }], guard := none }) (v := ?_) rfl (by kernel_rfl) (by kernel_rfl) (by kernel_rfl) (fun _ _ _ h => h) (Or.inl ⟨by rfl, ?_⟩) (by assumption) ?_
  rotate_left
  · (intro w hSw; (try dsimp only at hSw); go_simp; try with_reducible rfl)
  try simp only [Act.put, List.setIfInBounds_toArray, List.set_cons_zero, List.set_cons_succ]
  refine wpAnyH_take (i := 3) (oi := { dst := some 51, op := Op.load 9 (Operand.tmp 50), type := 9, pos := "question.go:27", after := #[{ on := 2, ground := Ground.data }], guard := none }) (v := ?_) rfl (by kernel_rfl) (by kernel_rfl) (by kernel_rfl) (fun _ _ _ h => h) (Or.inl ⟨by rfl, ?_⟩) (by assumption) ?_
  rotate_left
  · (intro w hSw; (try dsimp only at hSw); go_simp; try with_reducible rfl)
  try simp only [Act.put, List.setIfInBounds_toArray, List.set_cons_zero, List.set_cons_succ]
  refine wpAnyH_take (i := 4) (oi := { dst := some 52, op := Op.move (Operand.tmp 1), type := 22, pos := "question.go:27", after := #[], guard := none }) (v := ?_) rfl (by kernel_rfl) (by kernel_rfl) (by kernel_rfl) (fun _ _ _ h => h) (Or.inl ⟨by rfl, ?_⟩) (by assumption) ?_
  rotate_left
  · (intro w hSw; (try dsimp only at hSw); go_simp; try with_reducible rfl)
  try simp only [Act.put, List.setIfInBounds_toArray, List.set_cons_zero, List.set_cons_succ]
  refine wpAnyH_take (i := 5) (oi := { dst := some 53, op := Op.indexAddr 22 (Operand.tmp 52) (Operand.const (Value.int IntKind.i64 2)), type := 0, pos := "question.go:27", after := #[{ on := 4, ground := Ground.data }], guard := none }) (v := ?_) rfl (by kernel_rfl) (by kernel_rfl) (by kernel_rfl) (fun _ _ _ h => h) (Or.inl ⟨by rfl, ?_⟩) (by assumption) ?_
  rotate_left
  · (intro w hSw; (try dsimp only at hSw); go_simp; try with_reducible rfl)
  try simp only [Act.put, List.setIfInBounds_toArray, List.set_cons_zero, List.set_cons_succ]
  refine wpAnyH_take (i := 6) (oi := { dst := some 54, op := Op.load 9 (Operand.tmp 53), type := 9, pos := "question.go:27", after := #[{ on := 5, ground := Ground.data }], guard := none }) (v := ?_) rfl (by kernel_rfl) (by kernel_rfl) (by kernel_rfl) (fun _ _ _ h => h) (Or.inl ⟨by rfl, ?_⟩) (by assumption) ?_
  rotate_left
  · (intro w hSw; (try dsimp only at hSw); go_simp; try with_reducible rfl)
  try simp only [Act.put, List.setIfInBounds_toArray, List.set_cons_zero, List.set_cons_succ]
  refine wpAnyH_ready (rs := [7]) (by kernel_rfl) (by simp) ?_
  refine AllReadyH.cons (o := { dst := some 55, op := Op.call { callee := Callee.value (Operand.tmp 48), args := #[Operand.tmp 51, Operand.tmp 54], argTypes := #[9, 9] }, type := 4, pos := "question.go:27", after := #[{ on := 0, ground := Ground.data }, { on := 3, ground := Ground.data }, { on := 6, ground := Ground.data }], guard := none }) rfl (fun K hK => ?_) AllReadyH.nil
  go_simp
  (go_at_call 54; refine (c_eq _ x z).mono ?_; rintro e w3 ⟨rfl, hb3⟩)
  have HK4 : Hid (Below w2.heap.size w2 w3) := Lib.hid ((Below.refl _ _).drew.trans hb3)
  clear hb3
  go_wp2_with fail
  refine hK.out _ _ ⟨HK4.out, cell_kept HK4.out HC0.out, cell_kept HK4.out HC2.out⟩ (fun hHeld => ?_)
  clear hK K
  try simp only [Act.put, List.setIfInBounds_toArray, List.set_cons_zero, List.set_cons_succ]
  refine wpAnyH_take (i := 8) (oi := { dst := some 4, op := Op.assign (Operand.tmp 55), type := 4, pos := "question.go:27", after := #[{ on := 7, ground := Ground.data }, { on := 7, ground := Ground.chain }, { on := 0, ground := Ground.phase }, { on := 1, ground := Ground.phase }, { on := 2, ground := Ground.phase }, { on := 3, ground := Ground.phase }, { on := 4, ground := Ground.phase }, { on := 5, ground := Ground.phase }, { on := 6, ground := Ground.phase }, { on := 7, ground := Ground.phase }], guard := none }) (v := ?_) rfl (by kernel_rfl) (by kernel_rfl) (by kernel_rfl) (fun _ _ _ h => h) (Or.inl ⟨by rfl, ?_⟩) (by assumption) ?_
  rotate_left
  · (intro w hSw; (try dsimp only at hSw); go_simp; try with_reducible rfl)
  try simp only [Act.put, List.setIfInBounds_toArray, List.set_cons_zero, List.set_cons_succ]
  refine wpAnyH_take (i := 9) (oi := { dst := some 5, op := Op.assign (Operand.const (Value.bool true)), type := 4, pos := "question.go:27", after := #[{ on := 8, ground := Ground.chain }, { on := 0, ground := Ground.phase }, { on := 1, ground := Ground.phase }, { on := 2, ground := Ground.phase }, { on := 3, ground := Ground.phase }, { on := 4, ground := Ground.phase }, { on := 5, ground := Ground.phase }, { on := 6, ground := Ground.phase }, { on := 7, ground := Ground.phase }, { on := 8, ground := Ground.phase }], guard := none }) (v := ?_) rfl (by kernel_rfl) (by kernel_rfl) (by kernel_rfl) (fun _ _ _ h => h) (Or.inl ⟨by rfl, ?_⟩) (by assumption) ?_
  rotate_left
  · (intro w hSw; (try dsimp only at hSw); go_simp; try with_reducible rfl)
  try simp only [Act.put, List.setIfInBounds_toArray, List.set_cons_zero, List.set_cons_succ]
  refine wpAnyH_done (by kernel_rfl) ?_ _
  clear hHeld
  have HB4 := Lib.hid (HB3.out.trans (HK4.out.mono HB3.out.size))
  go_wp2_with fail
  go_ret2
  exact ⟨by rw [HV.out]; rfl, HB4.out⟩
set_option maxRecDepth 100000 in
set_option maxHeartbeats 4000000 in
theorem hold3_1 {w : World} {b : Nat} {n : Nd} {v0 v1 v2 v3 : Value} (h : TreeX w b n v0 v1 v2 v3) (hT : Tr n) {K : Bool → ByteArray → UInt8} (hK : Orc n K) {v : Value} (x z : ByteArray) (hx : PlR w v [x, sNe, z]) : Calls Tryz.prog 21 #[.iface 28 (.pointer (some ⟨b, 0, none⟩)), v] w fun e w' => e = .returned (ansV (holdsD K [x, sNe, z])) ∧ Below w.heap.size w w' := by
  have HV : Hid (ansV (holdsD K [x, sNe, z]) = .tuple #[.bool (!decide (x = z)), .bool true]) := Lib.hid (by rfl)
  have HLK : Hid (∀ wx r, wx.heap[r]? = some (.map (tab cmps) 2) → (Instr.lookup 71 (.map (some r)) (.string sNe) true).run Tryz.prog wx = .ok (.tuple #[.func (.func 55) #[] #[], .bool true]) wx) := Lib.hid fun wx r hr => by
    rcases lookup_c wx r 2 sNe cmps hr with ⟨_, q⟩ | ⟨p, hp, e, q⟩
    · exact absurd rfl (q (⟨#[33, 61]⟩, .func (.func 55) #[] #[]) (by unfold cmps; simp))
    · simp only [cmps, List.mem_cons, List.not_mem_nil, or_false] at hp
      rcases hp with rfl | rfl <;> first | exact q | exact absurd e (by dsimp only; decide)
  obtain ⟨bb, oo, c, rfl, h1, h2, hc⟩ := pl_parts hx
  have HX := Lib.hid hx
  have C0 : Hid (w.cell? ⟨bb, oo, none⟩ = some (.string x)) := Lib.hid (hc 0 (by simp))
  have C1 : Hid (w.cell? ⟨bb, oo + 1, none⟩ = some (.string sNe)) := Lib.hid (hc 1 (by simp))
  have C2 : Hid (w.cell? ⟨bb, oo + 2, none⟩ = some (.string z)) := Lib.hid (hc 2 (by simp))
  have h3 : 3 ≤ c := by simpa using h1
  have h4 : c ≤ 9223372036854775807 := by unfold maxLen at h2; omega
  have HT := Lib.hid h
  have HK := Lib.hid hK
  clear hc hx h1 h2 h hK
  rw [show ([sNe, z] : List ByteArray).length + 1 = 3 from rfl]
  generalize sNe = y at C1 HX HLK HV ⊢
  go_enter Tryz.func21, Tryz.ntmps21
  go_upto_region 11 with fail
  refine wp_region_held_drew (S := (fun wx => Below w.heap.size w wx ∧ wx.cell? ⟨bb, oo + 1, none⟩ = some (.string y))) (by kernel_rfl) ⟨(Below.refl _ _).drew, C1.out⟩ (fun hHeld => ?_)
  refine wpAnyH_take (i := 1) (oi := { dst := some 41, op := Op.move (Operand.tmp 1), type := 22, pos := "question.go:26", after := #[], guard := none }) (v := ?_) rfl (by kernel_rfl) (by kernel_rfl) (by kernel_rfl) (fun _ _ _ h => h) (Or.inl ⟨by rfl, ?_⟩) (by assumption) ?_
  rotate_left
  · (intro w hSw; (try dsimp only at hSw); go_simp; try with_reducible rfl)
  try simp only [Act.put, List.setIfInBounds_toArray, List.set_cons_zero, List.set_cons_succ]
  refine wpAnyH_take (i := 2) (oi := { dst := some 42, op := Op.indexAddr 22 (Operand.tmp 41) (Operand.const (Value.int IntKind.i64 1)), type := 0, pos := "question.go:26", after := #[{ on := 1, ground := Ground.data }], guard := none }) (v := ?_) rfl (by kernel_rfl) (by kernel_rfl) (by kernel_rfl) (fun _ _ _ h => h) (Or.inl ⟨by rfl, ?_⟩) (by assumption) ?_
  rotate_left
  · (intro w hSw; (try dsimp only at hSw); go_simp; try with_reducible rfl)
  try simp only [Act.put, List.setIfInBounds_toArray, List.set_cons_zero, List.set_cons_succ]
  refine wpAnyH_take (i := 3) (oi := { dst := some 43, op := Op.load 9 (Operand.tmp 42), type := 9, pos := "question.go:26", after := #[{ on := 2, ground := Ground.data }], guard := none }) (v := ?_) rfl (by kernel_rfl) (by kernel_rfl) (by kernel_rfl) (fun _ _ _ h => h) (Or.inl ⟨by rfl, ?_⟩) (by assumption) ?_
  rotate_left
  · (intro w hSw; (try dsimp only at hSw); go_simp; try with_reducible rfl)
  try simp only [Act.put, List.setIfInBounds_toArray, List.set_cons_zero, List.set_cons_succ]
  refine wpAnyH_ready (rs := [0]) (by kernel_rfl) (by simp) ?_
  refine AllReadyH.cons (o := { dst := some 40, op := Op.call { callee := Callee.value (Operand.func 33), args := #[], argTypes := #[] }, type := 71, pos := "question.go:26", after := #[], guard := none }) rfl (fun K hK => ?_) AllReadyH.nil
  go_simp
  (go_at_call 33; refine (comparisons_new _).mono ?_; rintro e w2 ⟨r, rfl, hm, hb2⟩)
  have HM := Lib.hid hm
  have HB2 : Hid (Below w.heap.size w w2) := Lib.hid ((Below.refl _ _).drew.trans hb2)
  clear hm hb2
  go_wp2_with fail
  refine hK.out _ _ (by exact ⟨HB2.out, cell_kept HB2.out C1.out⟩) (fun hHeld => ?_)
  clear hK K
  try simp only [Act.put, List.setIfInBounds_toArray, List.set_cons_zero, List.set_cons_succ]
  refine wpAnyH_ready (rs := [4]) (by kernel_rfl) (by simp) ?_
  refine AllReadyH.cons (o := { dst := some 44, op := Op.lookup 71 (Operand.tmp 40) (Operand.tmp 43) true, type := 70, pos := "question.go:26", after := #[{ on := 0, ground := Ground.data }, { on := 3, ground := Ground.data }], guard := none }) rfl (fun K hK => ?_) AllReadyH.nil
  have hlk := HLK.out w2 r HM.out
  go_simp
  try rw [hlk]
  go_wp2_with fail
  clear hlk
  refine hK.out _ _ (by exact ⟨HB2.out, cell_kept HB2.out C1.out⟩) (fun hHeld => ?_)
  clear hK K
  try simp only [Act.put, List.setIfInBounds_toArray, List.set_cons_zero, List.set_cons_succ]
  refine wpAnyH_take (i := 5) (oi := { dst := some 39, op := Op.move (Operand.tmp 44), type := 70, pos := "question.go:26", after := #[{ on := 4, ground := Ground.data }], guard := none }) (v := ?_) rfl (by kernel_rfl) (by kernel_rfl) (by kernel_rfl) (fun _ _ _ h => h) (Or.inl ⟨by rfl, ?_⟩) (by assumption) ?_
  rotate_left
  · (intro w hSw; (try dsimp only at hSw); go_simp; try with_reducible rfl)
  try simp only [Act.put, List.setIfInBounds_toArray, List.set_cons_zero, List.set_cons_succ]
  refine wpAnyH_take (i := 6) (oi := { dst := some 45, op := Op.extract (Operand.tmp 39) 0, type := 69, pos := "question.go:26", after := #[{ on := 5, ground := Ground.data }], guard := none }) (v := ?_) rfl (by kernel_rfl) (by kernel_rfl) (by kernel_rfl) (fun _ _ _ h => h) (Or.inl ⟨by rfl, ?_⟩) (by assumption) ?_
  rotate_left
  · (intro w hSw; (try dsimp only at hSw); go_simp; try with_reducible rfl)
  try simp only [Act.put, List.setIfInBounds_toArray, List.set_cons_zero, List.set_cons_succ]
  refine wpAnyH_take (i := 7) (oi := { dst := some 46, op := Op.extract (Operand.tmp 39) 1, type := 4, pos := "question.go:26", after := #[{ on := 5, ground := Ground.data }, { on := 8, ground := Ground.gcOnly Departure.lateStores }], guard := none }) (v := ?_) rfl (by kernel_rfl) (by kernel_rfl) (by kernel_rfl) (fun _ _ _ h => h) (Or.inl ⟨by rfl, ?_⟩) (by assumption) ?_
  rotate_left
  · (intro w hSw; (try dsimp only at hSw); go_simp; try with_reducible rfl)
  try simp only [Act.put, List.setIfInBounds_toArray, List.set_cons_zero, List.set_cons_succ]
  refine wpAnyH_take (i := 8) (oi := { dst := some 8, op := Op.assign (Operand.tmp 45), type := 69, pos := "question.go:26", after := #[{ on := 6, ground := Ground.data }, { on := 0, ground := Ground.chain }, { on := 0, ground := Ground.phase }, { on := 1, ground := Ground.phase }, { on := 2, ground := Ground.phase }, { on := 3, ground := Ground.phase }, { on := 4, ground := Ground.phase }, { on := 5, ground := Ground.phase }, { on := 6, ground := Ground.phase }, { on := 7, ground := Ground.textOnly Departure.lateStores }], guard := none }) (v := ?_) rfl (by kernel_rfl) (by kernel_rfl) (by kernel_rfl) (fun _ _ _ h => h) (Or.inl ⟨by rfl, ?_⟩) (by assumption) ?_
  rotate_left
  · (intro w hSw; (try dsimp only at hSw); go_simp; try with_reducible rfl)
  try simp only [Act.put, List.setIfInBounds_toArray, List.set_cons_zero, List.set_cons_succ]
  refine wpAnyH_take (i := 9) (oi := { dst := some 9, op := Op.assign (Operand.tmp 46), type := 4, pos := "question.go:26", after := #[{ on := 7, ground := Ground.data }, { on := 8, ground := Ground.chain }, { on := 0, ground := Ground.phase }, { on := 1, ground := Ground.phase }, { on := 2, ground := Ground.phase }, { on := 3, ground := Ground.phase }, { on := 4, ground := Ground.phase }, { on := 5, ground := Ground.phase }, { on := 6, ground := Ground.phase }, { on := 7, ground := Ground.phase }, { on := 8, ground := Ground.phase }], guard := none }) (v := ?_) rfl (by kernel_rfl) (by kernel_rfl) (by kernel_rfl) (fun _ _ _ h => h) (Or.inl ⟨by rfl, ?_⟩) (by assumption) ?_
  rotate_left
  · (intro w hSw; (try dsimp only at hSw); go_simp; try with_reducible rfl)
  try simp only [Act.put, List.setIfInBounds_toArray, List.set_cons_zero, List.set_cons_succ]
  refine wpAnyH_done (by kernel_rfl) ?_ _
  clear hHeld
  have HB3 := HB2
  have HC0 := Lib.hid (cell_kept HB3.out C0.out)
  have HC2 := Lib.hid (cell_kept HB3.out C2.out)
  go_upto_region 13 with fail
  refine wp_region_held_drew (S := (fun wx => Below w2.heap.size w2 wx ∧ wx.cell? ⟨bb, oo, none⟩ = some (.string x) ∧ wx.cell? ⟨bb, oo + 2, none⟩ = some (.string z))) (by kernel_rfl) ⟨(Below.refl _ _).drew, HC0.out, HC2.out⟩ (fun hHeld => ?_)
  refine wpAnyH_take (i := 0) (oi := { dst := some 48, op := Op.move (Operand.tmp 8), type := 69, pos := "question.go:27", after := #[], guard := none }) (v := ?_) rfl (by kernel_rfl) (by kernel_rfl) (by kernel_rfl) (fun _ _ _ h => h) (Or.inl ⟨by rfl, ?_⟩) (by assumption) ?_
  rotate_left
  · (intro w hSw; (try dsimp only at hSw); go_simp; try with_reducible rfl)
  try simp only [Act.put, List.setIfInBounds_toArray, List.set_cons_zero, List.set_cons_succ]
  refine wpAnyH_take (i := 1) (oi := { dst := some 49, op := Op.move (Operand.tmp 1), type := 22, pos := "question.go:27", after := #[], guard := none }) (v := ?_) rfl (by kernel_rfl) (by kernel_rfl) (by kernel_rfl) (fun _ _ _ h => h) (Or.inl ⟨by rfl, ?_⟩) (by assumption) ?_
  rotate_left
  · (intro w hSw; (try dsimp only at hSw); go_simp; try with_reducible rfl)
  try simp only [Act.put, List.setIfInBounds_toArray, List.set_cons_zero, List.set_cons_succ]
  refine wpAnyH_take (i := 2) (oi := { dst := some 50, op := Op.indexAddr 22 (Operand.tmp 49) (Operand.const (Value.int IntKind.i64 0)), type := 0, pos := "question.go:27", after := #[{ on := 1, ground := Ground.data }], guard := none }) (v := ?_) rfl (by kernel_rfl) (by kernel_rfl) (by kernel_rfl) (fun _ _ _ h => h) (Or.inl ⟨by rfl, ?_⟩) (by assumption) ?_
  rotate_left
  · (intro w hSw; (try dsimp only at hSw); go_simp; try with_reducible rfl)
  try simp only [Act.put, List.setIfInBounds_toArray, List.set_cons_zero, List.set_cons_succ]
  refine wpAnyH_take (i := 3) (oi := { dst := some 51, op := Op.load 9 (Operand.tmp 50), type := 9, pos := "question.go:27", after := #[{ on := 2, ground := Ground.data }], guard := none }) (v := ?_) rfl (by kernel_rfl) (by kernel_rfl) (by kernel_rfl) (fun _ _ _ h => h) (Or.inl ⟨by rfl, ?_⟩) (by assumption) ?_
  rotate_left
  · (intro w hSw; (try dsimp only at hSw); go_simp; try with_reducible rfl)
  try simp only [Act.put, List.setIfInBounds_toArray, List.set_cons_zero, List.set_cons_succ]
  refine wpAnyH_take (i := 4) (oi := { dst := some 52, op := Op.move (Operand.tmp 1), type := 22, pos := "question.go:27", after := #[], guard := none }) (v := ?_) rfl (by kernel_rfl) (by kernel_rfl) (by kernel_rfl) (fun _ _ _ h => h) (Or.inl ⟨by rfl, ?_⟩) (by assumption) ?_
  rotate_left
  · (intro w hSw; (try dsimp only at hSw); go_simp; try with_reducible rfl)
  try simp only [Act.put, List.setIfInBounds_toArray, List.set_cons_zero, List.set_cons_succ]
  refine wpAnyH_take (i := 5) (oi := { dst := some 53, op := Op.indexAddr 22 (Operand.tmp 52) (Operand.const (Value.int IntKind.i64 2)), type := 0, pos := "question.go:27", after := #[{ on := 4, ground := Ground.data }], guard := none }) (v := ?_) rfl (by kernel_rfl) (by kernel_rfl) (by kernel_rfl) (fun _ _ _ h => h) (Or.inl ⟨by rfl, ?_⟩) (by assumption) ?_
  rotate_left
  · (intro w hSw; (try dsimp only at hSw); go_simp; try with_reducible rfl)
  try simp only [Act.put, List.setIfInBounds_toArray, List.set_cons_zero, List.set_cons_succ]
  refine wpAnyH_take (i := 6) (oi := { dst := some 54, op := Op.load 9 (Operand.tmp 53), type := 9, pos := "question.go:27", after := #[{ on := 5, ground := Ground.data }], guard := none }) (v := ?_) rfl (by kernel_rfl) (by kernel_rfl) (by kernel_rfl) (fun _ _ _ h => h) (Or.inl ⟨by rfl, ?_⟩) (by assumption) ?_
  rotate_left
  · (intro w hSw; (try dsimp only at hSw); go_simp; try with_reducible rfl)
  try simp only [Act.put, List.setIfInBounds_toArray, List.set_cons_zero, List.set_cons_succ]
  refine wpAnyH_ready (rs := [7]) (by kernel_rfl) (by simp) ?_
  refine AllReadyH.cons (o := { dst := some 55, op := Op.call { callee := Callee.value (Operand.tmp 48), args := #[Operand.tmp 51, Operand.tmp 54], argTypes := #[9, 9] }, type := 4, pos := "question.go:27", after := #[{ on := 0, ground := Ground.data }, { on := 3, ground := Ground.data }, { on := 6, ground := Ground.data }], guard := none }) rfl (fun K hK => ?_) AllReadyH.nil
  go_simp
  (go_at_call 55; refine (c_ne _ x z).mono ?_; rintro e w3 ⟨rfl, hb3⟩)
  have HK4 : Hid (Below w2.heap.size w2 w3) := Lib.hid ((Below.refl _ _).drew.trans hb3)
  clear hb3
  go_wp2_with fail
  refine hK.out _ _ ⟨HK4.out, cell_kept HK4.out HC0.out, cell_kept HK4.out HC2.out⟩ (fun hHeld => ?_)
  clear hK K
  try simp only [Act.put, List.setIfInBounds_toArray, List.set_cons_zero, List.set_cons_succ]
  refine wpAnyH_take (i := 8) (oi := { dst := some 4, op := Op.assign (Operand.tmp 55), type := 4, pos := "question.go:27", after := #[{ on := 7, ground := Ground.data }, { on := 7, ground := Ground.chain }, { on := 0, ground := Ground.phase }, { on := 1, ground := Ground.phase }, { on := 2, ground := Ground.phase }, { on := 3, ground := Ground.phase }, { on := 4, ground := Ground.phase }, { on := 5, ground := Ground.phase }, { on := 6, ground := Ground.phase }, { on := 7, ground := Ground.phase }], guard := none }) (v := ?_) rfl (by kernel_rfl) (by kernel_rfl) (by kernel_rfl) (fun _ _ _ h => h) (Or.inl ⟨by rfl, ?_⟩) (by assumption) ?_
  rotate_left
  · (intro w hSw; (try dsimp only at hSw); go_simp; try with_reducible rfl)
  try simp only [Act.put, List.setIfInBounds_toArray, List.set_cons_zero, List.set_cons_succ]
  refine wpAnyH_take (i := 9) (oi := { dst := some 5, op := Op.assign (Operand.const (Value.bool true)), type := 4, pos := "question.go:27", after := #[{ on := 8, ground := Ground.chain }, { on := 0, ground := Ground.phase }, { on := 1, ground := Ground.phase }, { on := 2, ground := Ground.phase }, { on := 3, ground := Ground.phase }, { on := 4, ground := Ground.phase }, { on := 5, ground := Ground.phase }, { on := 6, ground := Ground.phase }, { on := 7, ground := Ground.phase }, { on := 8, ground := Ground.phase }], guard := none }) (v := ?_) rfl (by kernel_rfl) (by kernel_rfl) (by kernel_rfl) (fun _ _ _ h => h) (Or.inl ⟨by rfl, ?_⟩) (by assumption) ?_
  rotate_left
  · (intro w hSw; (try dsimp only at hSw); go_simp; try with_reducible rfl)
  try simp only [Act.put, List.setIfInBounds_toArray, List.set_cons_zero, List.set_cons_succ]
  refine wpAnyH_done (by kernel_rfl) ?_ _
  clear hHeld
  have HB4 := Lib.hid (HB3.out.trans (HK4.out.mono HB3.out.size))
  go_wp2_with fail
  go_ret2
  exact ⟨by rw [HV.out]; rfl, HB4.out⟩
set_option maxRecDepth 100000 in
set_option maxHeartbeats 8000000 in
theorem hold3_none {w : World} {b : Nat} {n : Nd} {v0 v1 v2 v3 : Value} (h : TreeX w b n v0 v1 v2 v3) (hT : Tr n) {K : Bool → ByteArray → UInt8} (hK : Orc n K) {v : Value} (x y z : ByteArray) (hno : y ≠ sEq ∧ y ≠ sNe) (hx : PlR w v [x, y, z]) (hR : ∀ wx, Below w.heap.size w wx → ∀ v', PlR wx v' [y, z] → Calls Tryz.prog 21 #[.iface 28 (.pointer (some ⟨b, 0, none⟩)), v'] wx fun e w' => e = .returned (ansV (holdsD K [y, z])) ∧ Below wx.heap.size wx w') : Calls Tryz.prog 21 #[.iface 28 (.pointer (some ⟨b, 0, none⟩)), v] w fun e w' => e = .returned (ansV (holdsD K [x, y, z])) ∧ Below w.heap.size w w' := by
  have HV : Hid (ansV (holdsD K [x, y, z]) = ansV (bang x (holdsD K [y, z]))) := Lib.hid (by
    rw [hold_3]
    unfold cmpD
    rw [if_neg hno.1, if_neg hno.2]
    rfl)
  have HLK : Hid (∀ wx r, wx.heap[r]? = some (.map (tab cmps) 2) → (Instr.lookup 71 (.map (some r)) (.string y) true).run Tryz.prog wx = .ok (.tuple #[.nilFunc, .bool false]) wx) := Lib.hid fun wx r hr => by
    rcases lookup_c wx r 2 y cmps hr with ⟨q, _⟩ | ⟨p, hp, e, q⟩
    · exact q
    · simp only [cmps, List.mem_cons, List.not_mem_nil, or_false] at hp
      rcases hp with rfl | rfl
      · exact absurd e hno.1
      · exact absurd e hno.2
  clear hno
  have HR := Lib.hid hR
  clear hR
  obtain ⟨bb, oo, c, rfl, h1, h2, hc⟩ := pl_parts hx
  have HX := Lib.hid hx
  have C0 : Hid (w.cell? ⟨bb, oo, none⟩ = some (.string x)) := Lib.hid (hc 0 (by simp))
  have C1 : Hid (w.cell? ⟨bb, oo + 1, none⟩ = some (.string y)) := Lib.hid (hc 1 (by simp))
  have C2 : Hid (w.cell? ⟨bb, oo + 2, none⟩ = some (.string z)) := Lib.hid (hc 2 (by simp))
  have h3 : 3 ≤ c := by simpa using h1
  have h4 : c ≤ 9223372036854775807 := by unfold maxLen at h2; omega
  have HT := Lib.hid h
  have HK := Lib.hid hK
  clear hc hx h1 h2 h hK
  rw [show ([y, z] : List ByteArray).length + 1 = 3 from rfl]
  go_enter Tryz.func21, Tryz.ntmps21
  go_upto_region 11 with fail
  refine wp_region_held_drew (S := (fun wx => Below w.heap.size w wx ∧ wx.cell? ⟨bb, oo + 1, none⟩ = some (.string y))) (by kernel_rfl) ⟨(Below.refl _ _).drew, C1.out⟩ (fun hHeld => ?_)
  refine wpAnyH_take (i := 1) (oi := { dst := some 41, op := Op.move (Operand.tmp 1), type := 22, pos := "question.go:26", after := #[], guard := none }) (v := ?_) rfl (by kernel_rfl) (by kernel_rfl) (by kernel_rfl) (fun _ _ _ h => h) (Or.inl ⟨by rfl, ?_⟩) (by assumption) ?_
  rotate_left
  · (intro w hSw; (try dsimp only at hSw); go_simp; try with_reducible rfl)
  try simp only [Act.put, List.setIfInBounds_toArray, List.set_cons_zero, List.set_cons_succ]
  refine wpAnyH_take (i := 2) (oi := { dst := some 42, op := Op.indexAddr 22 (Operand.tmp 41) (Operand.const (Value.int IntKind.i64 1)), type := 0, pos := "question.go:26", after := #[{ on := 1, ground := Ground.data }], guard := none }) (v := ?_) rfl (by kernel_rfl) (by kernel_rfl) (by kernel_rfl) (fun _ _ _ h => h) (Or.inl ⟨by rfl, ?_⟩) (by assumption) ?_
  rotate_left
  · (intro w hSw; (try dsimp only at hSw); go_simp; try with_reducible rfl)
  try simp only [Act.put, List.setIfInBounds_toArray, List.set_cons_zero, List.set_cons_succ]
  refine wpAnyH_take (i := 3) (oi := { dst := some 43, op := Op.load 9 (Operand.tmp 42), type := 9, pos := "question.go:26", after := #[{ on := 2, ground := Ground.data }], guard := none }) (v := ?_) rfl (by kernel_rfl) (by kernel_rfl) (by kernel_rfl) (fun _ _ _ h => h) (Or.inl ⟨by rfl, ?_⟩) (by assumption) ?_
  rotate_left
  · (intro w hSw; (try dsimp only at hSw); go_simp; try with_reducible rfl)
  try simp only [Act.put, List.setIfInBounds_toArray, List.set_cons_zero, List.set_cons_succ]
  refine wpAnyH_ready (rs := [0]) (by kernel_rfl) (by simp) ?_
  refine AllReadyH.cons (o := { dst := some 40, op := Op.call { callee := Callee.value (Operand.func 33), args := #[], argTypes := #[] }, type := 71, pos := "question.go:26", after := #[], guard := none }) rfl (fun K hK => ?_) AllReadyH.nil
  go_simp
  (go_at_call 33; refine (comparisons_new _).mono ?_; rintro e w2 ⟨r, rfl, hm, hb2⟩)
  have HM := Lib.hid hm
  have HB2 : Hid (Below w.heap.size w w2) := Lib.hid ((Below.refl _ _).drew.trans hb2)
  clear hm hb2
  go_wp2_with fail
  refine hK.out _ _ (by exact ⟨HB2.out, cell_kept HB2.out C1.out⟩) (fun hHeld => ?_)
  clear hK K
  try simp only [Act.put, List.setIfInBounds_toArray, List.set_cons_zero, List.set_cons_succ]
  refine wpAnyH_ready (rs := [4]) (by kernel_rfl) (by simp) ?_
  refine AllReadyH.cons (o := { dst := some 44, op := Op.lookup 71 (Operand.tmp 40) (Operand.tmp 43) true, type := 70, pos := "question.go:26", after := #[{ on := 0, ground := Ground.data }, { on := 3, ground := Ground.data }], guard := none }) rfl (fun K hK => ?_) AllReadyH.nil
  have hlk := HLK.out w2 r HM.out
  go_simp
  try rw [hlk]
  go_wp2_with fail
  clear hlk
  refine hK.out _ _ (by exact ⟨HB2.out, cell_kept HB2.out C1.out⟩) (fun hHeld => ?_)
  clear hK K
  try simp only [Act.put, List.setIfInBounds_toArray, List.set_cons_zero, List.set_cons_succ]
  refine wpAnyH_take (i := 5) (oi := { dst := some 39, op := Op.move (Operand.tmp 44), type := 70, pos := "question.go:26", after := #[{ on := 4, ground := Ground.data }], guard := none }) (v := ?_) rfl (by kernel_rfl) (by kernel_rfl) (by kernel_rfl) (fun _ _ _ h => h) (Or.inl ⟨by rfl, ?_⟩) (by assumption) ?_
  rotate_left
  · (intro w hSw; (try dsimp only at hSw); go_simp; try with_reducible rfl)
  try simp only [Act.put, List.setIfInBounds_toArray, List.set_cons_zero, List.set_cons_succ]
  refine wpAnyH_take (i := 6) (oi := { dst := some 45, op := Op.extract (Operand.tmp 39) 0, type := 69, pos := "question.go:26", after := #[{ on := 5, ground := Ground.data }], guard := none }) (v := ?_) rfl (by kernel_rfl) (by kernel_rfl) (by kernel_rfl) (fun _ _ _ h => h) (Or.inl ⟨by rfl, ?_⟩) (by assumption) ?_
  rotate_left
  · (intro w hSw; (try dsimp only at hSw); go_simp; try with_reducible rfl)
  try simp only [Act.put, List.setIfInBounds_toArray, List.set_cons_zero, List.set_cons_succ]
  refine wpAnyH_take (i := 7) (oi := { dst := some 46, op := Op.extract (Operand.tmp 39) 1, type := 4, pos := "question.go:26", after := #[{ on := 5, ground := Ground.data }, { on := 8, ground := Ground.gcOnly Departure.lateStores }], guard := none }) (v := ?_) rfl (by kernel_rfl) (by kernel_rfl) (by kernel_rfl) (fun _ _ _ h => h) (Or.inl ⟨by rfl, ?_⟩) (by assumption) ?_
  rotate_left
  · (intro w hSw; (try dsimp only at hSw); go_simp; try with_reducible rfl)
  try simp only [Act.put, List.setIfInBounds_toArray, List.set_cons_zero, List.set_cons_succ]
  refine wpAnyH_take (i := 8) (oi := { dst := some 8, op := Op.assign (Operand.tmp 45), type := 69, pos := "question.go:26", after := #[{ on := 6, ground := Ground.data }, { on := 0, ground := Ground.chain }, { on := 0, ground := Ground.phase }, { on := 1, ground := Ground.phase }, { on := 2, ground := Ground.phase }, { on := 3, ground := Ground.phase }, { on := 4, ground := Ground.phase }, { on := 5, ground := Ground.phase }, { on := 6, ground := Ground.phase }, { on := 7, ground := Ground.textOnly Departure.lateStores }], guard := none }) (v := ?_) rfl (by kernel_rfl) (by kernel_rfl) (by kernel_rfl) (fun _ _ _ h => h) (Or.inl ⟨by rfl, ?_⟩) (by assumption) ?_
  rotate_left
  · (intro w hSw; (try dsimp only at hSw); go_simp; try with_reducible rfl)
  try simp only [Act.put, List.setIfInBounds_toArray, List.set_cons_zero, List.set_cons_succ]
  refine wpAnyH_take (i := 9) (oi := { dst := some 9, op := Op.assign (Operand.tmp 46), type := 4, pos := "question.go:26", after := #[{ on := 7, ground := Ground.data }, { on := 8, ground := Ground.chain }, { on := 0, ground := Ground.phase }, { on := 1, ground := Ground.phase }, { on := 2, ground := Ground.phase }, { on := 3, ground := Ground.phase }, { on := 4, ground := Ground.phase }, { on := 5, ground := Ground.phase }, { on := 6, ground := Ground.phase }, { on := 7, ground := Ground.phase }, { on := 8, ground := Ground.phase }], guard := none }) (v := ?_) rfl (by kernel_rfl) (by kernel_rfl) (by kernel_rfl) (fun _ _ _ h => h) (Or.inl ⟨by rfl, ?_⟩) (by assumption) ?_
  rotate_left
  · (intro w hSw; (try dsimp only at hSw); go_simp; try with_reducible rfl)
  try simp only [Act.put, List.setIfInBounds_toArray, List.set_cons_zero, List.set_cons_succ]
  refine wpAnyH_done (by kernel_rfl) ?_ _
  clear hHeld
  have HB3 := HB2
  have c1 := C1.out
  have HR2 := Lib.hid (HR.out w2 HB3.out _ (pl_behind2 (m := 2) (HX.out.grown HB3.out) rfl (by omega)))
  clear c1
  have c0 := cell_kept HB3.out C0.out
  by_cases hbx : x = sBang
  rotate_left
  · have e0 : (x.toList == ([33] : List UInt8)) = false := by
      have := str_eq x sBang
      rw [decide_eq_false hbx] at this
      rw [← this, show sBang.toList = [33] from by rw [Lib.toList_data]; rfl]
    have HV2 : Hid (ansV (holdsD K (x :: [y, z])) = .tuple #[.bool false, .bool false]) := Lib.hid (by rw [HV.out]; unfold bang; rw [if_neg hbx]; rfl)
    clear hbx
    go_wp2_with fail
    go_ret2
    exact ⟨by rw [HV2.out]; rfl, HB3.out⟩
  have e0 : (x.toList == ([33] : List UInt8)) = true := by
    have := str_eq x sBang
    rw [decide_eq_true hbx] at this
    rw [← this, show sBang.toList = [33] from by rw [Lib.toList_data]; rfl]
  have HV2 : Hid (ansV (holdsD K (x :: [y, z])) = ansV ((holdsD K [y, z]).map (!·))) := Lib.hid (by rw [HV.out]; unfold bang; rw [if_pos hbx])
  clear hbx HV
  generalize holdsD K [y, z] = r' at HR2 HV2
  go_wp2_with fail
  refine HR2.out.mono ?_
  rintro e w3 ⟨he, hb3⟩
  have HB4 := Lib.hid (HB3.out.trans (hb3.mono HB3.out.size))
  clear hb3
  cases r' with
  | none =>
    have he : e = .returned (.tuple #[.bool false, .bool false]) := he
    subst he
    go_wp2_with fail
    go_ret2
    exact ⟨by rw [HV2.out]; rfl, HB4.out⟩
  | some r' =>
    have he : e = .returned (.tuple #[.bool r', .bool true]) := he
    subst he
    cases r' with
    | true =>
      go_wp2_with fail
      go_ret2
      exact ⟨by rw [HV2.out]; rfl, HB4.out⟩
    | false =>
      go_wp2_with fail
      go_ret2
      exact ⟨by rw [HV2.out]; rfl, HB4.out⟩
set_option maxRecDepth 100000 in
set_option maxHeartbeats 8000000 in
theorem hold4 {w : World} {b : Nat} {n : Nd} {v0 v1 v2 v3 : Value} (h : TreeX w b n v0 v1 v2 v3) (hT : Tr n) {K : Bool → ByteArray → UInt8} (hK : Orc n K) {v : Value} (x y z u : ByteArray) (hx : PlR w v [x, y, z, u]) (hR : ∀ wx, Below w.heap.size w wx → ∀ v', PlR wx v' [y, z, u] → Calls Tryz.prog 21 #[.iface 28 (.pointer (some ⟨b, 0, none⟩)), v'] wx fun e w' => e = .returned (ansV (holdsD K [y, z, u])) ∧ Below wx.heap.size wx w') : Calls Tryz.prog 21 #[.iface 28 (.pointer (some ⟨b, 0, none⟩)), v] w fun e w' => e = .returned (ansV (holdsD K [x, y, z, u])) ∧ Below w.heap.size w w' := by
  have HV : Hid (ansV (holdsD K [x, y, z, u]) = ansV (bang x (holdsD K [y, z, u]))) := Lib.hid (by rw [hold_4])
  have HR := Lib.hid hR
  clear hR
  obtain ⟨bb, oo, c, rfl, h1, h2, hc⟩ := pl_parts hx
  have HX := Lib.hid hx
  have C0 : Hid (w.cell? ⟨bb, oo, none⟩ = some (.string x)) := Lib.hid (hc 0 (by simp))
  have C1 : Hid (w.cell? ⟨bb, oo + 1, none⟩ = some (.string y)) := Lib.hid (hc 1 (by simp))
  have C2 : Hid (w.cell? ⟨bb, oo + 2, none⟩ = some (.string z)) := Lib.hid (hc 2 (by simp))
  have C3 : Hid (w.cell? ⟨bb, oo + 3, none⟩ = some (.string u)) := Lib.hid (hc 3 (by simp))
  have h3 : 4 ≤ c := by simpa using h1
  have h4 : c ≤ 9223372036854775807 := by unfold maxLen at h2; omega
  have HT := Lib.hid h
  have HK := Lib.hid hK
  clear hc hx h1 h2 h hK
  rw [show ([y, z, u] : List ByteArray).length + 1 = 4 from rfl]
  go_enter Tryz.func21, Tryz.ntmps21
  obtain ⟨w2, hw2⟩ : ∃ w2, w2 = w := ⟨_, rfl⟩
  have HB3 : Hid (Below w.heap.size w w2) := Lib.hid (hw2 ▸ Below.refl _ _)
  have c1 := C1.out
  have HR2 := Lib.hid (HR.out w2 HB3.out _ (pl_behind2 (m := 3) (HX.out.grown HB3.out) rfl (by omega)))
  clear c1
  have c0 := cell_kept HB3.out C0.out
  subst hw2
  by_cases hbx : x = sBang
  rotate_left
  · have e0 : (x.toList == ([33] : List UInt8)) = false := by
      have := str_eq x sBang
      rw [decide_eq_false hbx] at this
      rw [← this, show sBang.toList = [33] from by rw [Lib.toList_data]; rfl]
    have HV2 : Hid (ansV (holdsD K (x :: [y, z, u])) = .tuple #[.bool false, .bool false]) := Lib.hid (by rw [HV.out]; unfold bang; rw [if_neg hbx]; rfl)
    clear hbx
    go_wp2_with fail
    go_ret2
    exact ⟨by rw [HV2.out]; rfl, HB3.out⟩
  have e0 : (x.toList == ([33] : List UInt8)) = true := by
    have := str_eq x sBang
    rw [decide_eq_true hbx] at this
    rw [← this, show sBang.toList = [33] from by rw [Lib.toList_data]; rfl]
  have HV2 : Hid (ansV (holdsD K (x :: [y, z, u])) = ansV ((holdsD K [y, z, u]).map (!·))) := Lib.hid (by rw [HV.out]; unfold bang; rw [if_pos hbx])
  clear hbx HV
  generalize holdsD K [y, z, u] = r' at HR2 HV2
  go_wp2_with fail
  refine HR2.out.mono ?_
  rintro e w3 ⟨he, hb3⟩
  have HB4 := Lib.hid (HB3.out.trans (hb3.mono HB3.out.size))
  clear hb3
  cases r' with
  | none =>
    have he : e = .returned (.tuple #[.bool false, .bool false]) := he
    subst he
    go_wp2_with fail
    go_ret2
    exact ⟨by rw [HV2.out]; rfl, HB4.out⟩
  | some r' =>
    have he : e = .returned (.tuple #[.bool r', .bool true]) := he
    subst he
    cases r' with
    | true =>
      go_wp2_with fail
      go_ret2
      exact ⟨by rw [HV2.out]; rfl, HB4.out⟩
    | false =>
      go_wp2_with fail
      go_ret2
      exact ⟨by rw [HV2.out]; rfl, HB4.out⟩
set_option maxHeartbeats 4000000 in
theorem hold5 {w : World} {b : Nat} {n : Nd} {v0 v1 v2 v3 : Value} (h : TreeX w b n v0 v1 v2 v3) (hT : Tr n) {K : Bool → ByteArray → UInt8} (hK : Orc n K) {v : Value} (l : List ByteArray) (h5 : 5 ≤ l.length) (hx : PlR w v l) : Calls Tryz.prog 21 #[.iface 28 (.pointer (some ⟨b, 0, none⟩)), v] w fun e w' => e = .returned (ansV (holdsD K l)) ∧ Below w.heap.size w w' := by
  have HV : Hid (ansV (holdsD K l) = .tuple #[.bool false, .bool false]) := Lib.hid (by rw [hold_5 K h5]; rfl)
  obtain ⟨p, c, rfl, _, h1, h2⟩ := hx
  have h4 : c ≤ 9223372036854775807 := by unfold maxLen at h2; omega
  clear h hK h2
  generalize l.length = m at *
  have e0 : (((m : Nat) : Int) == 0) = false := beq_eq_false_iff_ne.2 (by omega)
  have e1 : (((m : Nat) : Int) == 1) = false := beq_eq_false_iff_ne.2 (by omega)
  have e2 : (((m : Nat) : Int) == 2) = false := beq_eq_false_iff_ne.2 (by omega)
  have e3 : (((m : Nat) : Int) == 3) = false := beq_eq_false_iff_ne.2 (by omega)
  have e4 : (4 : Int) < ((m : Nat) : Int) := by omega
  go_enter Tryz.func21, Tryz.ntmps21
  go_wp2_with fail
  go_ret2
  exact ⟨by rw [HV.out]; rfl, Below.refl _ _⟩
/-- Whether a test holds, of any words. -/
theorem holdsIn_any {w : World} {b : Nat} {n : Nd} {v0 v1 v2 v3 : Value} (h : TreeX w b n v0 v1 v2 v3) (hT : Tr n) {K : Bool → ByteArray → UInt8} (hK : Orc n K) {v : Value} (l : List ByteArray) (hl : ∀ x ∈ l, x.size ≤ 40000) (hx : PlR w v l) : Calls Tryz.prog 21 #[.iface 28 (.pointer (some ⟨b, 0, none⟩)), v] w fun e w' => e = .returned (ansV (holdsD K l)) ∧ Below w.heap.size w w' := by
  have h1 : ∀ wx, Below w.heap.size w wx → ∀ v' x, PlR wx v' [x] → Calls Tryz.prog 21 #[.iface 28 (.pointer (some ⟨b, 0, none⟩)), v'] wx fun e w' => e = .returned (ansV (holdsD K [x])) ∧ Below wx.heap.size wx w' := fun wx hb v' x hx => hold1 (h.kept hb) hT hK x hx
  have h2 : ∀ wx, Below w.heap.size w wx → ∀ v' x y, y.size ≤ 40000 → PlR wx v' [x, y] → Calls Tryz.prog 21 #[.iface 28 (.pointer (some ⟨b, 0, none⟩)), v'] wx fun e w' => e = .returned (ansV (holdsD K [x, y])) ∧ Below wx.heap.size wx w' := fun wx hb v' x y hy hx => by
    by_cases g0 : x = sN
    · subst g0; exact hold2_0 (h.kept hb) hT hK y hy hx
    by_cases g1 : x = sZ
    · subst g1; exact hold2_1 (h.kept hb) hT hK y hy hx
    by_cases g2 : x = sE
    · subst g2; exact hold2_2 (h.kept hb) hT hK y hy hx
    by_cases g3 : x = sF
    · subst g3; exact hold2_3 (h.kept hb) hT hK y hy hx
    by_cases g4 : x = sD
    · subst g4; exact hold2_4 (h.kept hb) hT hK y hy hx
    by_cases g5 : x = sL
    · subst g5; exact hold2_5 (h.kept hb) hT hK y hy hx
    by_cases g6 : x = sH
    · subst g6; exact hold2_6 (h.kept hb) hT hK y hy hx
    exact hold2_none (h.kept hb) hT hK x y ⟨g0, g1, g2, g3, g4, g5, g6⟩ hx fun wy hc v'' hp => h1 wy (hb.trans (hc.mono hb.size)) v'' y hp
  have h3 : ∀ wx, Below w.heap.size w wx → ∀ v' x y z, z.size ≤ 40000 → PlR wx v' [x, y, z] → Calls Tryz.prog 21 #[.iface 28 (.pointer (some ⟨b, 0, none⟩)), v'] wx fun e w' => e = .returned (ansV (holdsD K [x, y, z])) ∧ Below wx.heap.size wx w' := fun wx hb v' x y z hz hx => by
    by_cases g0 : y = sEq
    · subst g0; exact hold3_0 (h.kept hb) hT hK x z hx
    by_cases g1 : y = sNe
    · subst g1; exact hold3_1 (h.kept hb) hT hK x z hx
    exact hold3_none (h.kept hb) hT hK x y z ⟨g0, g1⟩ hx fun wy hc v'' hp => h2 wy (hb.trans (hc.mono hb.size)) v'' y z hz hp
  match l, hl, hx with
  | [], _, hx => exact hold0 h hT hK hx
  | [x], _, hx => exact hold1 h hT hK x hx
  | [x, y], hl, hx => exact h2 w (Below.refl _ _) v x y (hl y (by simp)) hx
  | [x, y, z], hl, hx => exact h3 w (Below.refl _ _) v x y z (hl z (by simp)) hx
  | [x, y, z, u], hl, hx => exact hold4 h hT hK x y z u hx fun wy hc v'' hp => h3 wy hc v'' y z u (hl u (by simp)) hp
  | x :: y :: z :: u :: s :: r, hl, hx => exact hold5 h hT hK _ (by simp) hx
end Go.Proofs.YtfilbknnpjbmcaaGreat
