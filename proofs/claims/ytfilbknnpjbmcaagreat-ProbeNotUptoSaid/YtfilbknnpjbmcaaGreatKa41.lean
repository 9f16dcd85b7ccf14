/- Walks of package probe: whether a test holds, by the number of its words. -/
import Derived.Test.YtfilbknnpjbmcaaGreatKa40
import Derived.Deep.RegionHeld3
namespace Go.Proofs.YtfilbknnpjbmcaaGreat
open Go.RowKit Px Nx Wk Pr
theorem pl_parts {w : World} {v : Value} {x : ByteArray} {l : List ByteArray} (h : PlR w v (x :: l)) : ∃ bb oo c, v = .slice (some ⟨bb, oo, none⟩) (l.length + 1) c ∧ l.length + 1 ≤ c ∧ c ≤ maxLen ∧ (∀ i, i < l.length + 1 → w.cell? ⟨bb, oo + i, none⟩ = some (.string ((x :: l).getD i ByteArray.empty))) := by
  obtain ⟨p, c, rfl, hs, h1, h2⟩ := h
  obtain ⟨b, o, rfl, _⟩ := hs 0 (by simp)
  refine ⟨b, o, c, by rw [List.length_cons], by rwa [List.length_cons] at h1, h2, fun i hi => ?_⟩
  obtain ⟨b', o', e, hc⟩ := hs i (by rw [List.length_cons]; exact hi)
  cases e
  exact hc
theorem pl_behind {w : World} {bb oo c : Nat} {x : ByteArray} {l : List ByteArray} (h : PlR w (.slice (some ⟨bb, oo, none⟩) (l.length + 1) c) (x :: l)) : PlR w (.slice (if c = 1 then some (⟨bb, oo, none⟩ : Addr) else some ⟨bb, oo + 1, none⟩) l.length (c - 1)) l := by
  obtain ⟨p, c', e, hs, h1, h2⟩ := h
  rw [List.length_cons] at e h1
  cases e
  have hl : c = 1 → l.length = 0 := by omega
  refine ⟨_, _, rfl, fun i hi => ?_, by omega, by omega⟩
  obtain ⟨b', o', e, hc⟩ := hs (i + 1) (by rw [List.length_cons]; omega)
  cases e
  refine ⟨bb, oo + 1, by rw [if_neg (by omega)], ?_⟩
  rw [Nat.add_assoc, Nat.add_comm 1 i]
  exact hc
theorem pl_behind2 {w : World} {bb oo c m : Nat} {x : ByteArray} {l : List ByteArray} (h : PlR w (.slice (some ⟨bb, oo, none⟩) (l.length + 1) c) (x :: l)) (hm : l.length = m) (hc : 2 ≤ c) : PlR w (.slice (some ⟨bb, oo + 1, none⟩) m (c - 1)) l := by
  have := pl_behind h
  rw [if_neg (by omega), hm] at this
  exact this
set_option maxHeartbeats 4000000 in
theorem hold0 {w : World} {b : Nat} {n : Nd} {v0 v1 v2 v3 : Value} (h : TreeX w b n v0 v1 v2 v3) (hT : Tr n) {K : Bool → ByteArray → UInt8} (hK : Orc n K) {v : Value} (hx : PlR w v []) : Calls Tryz.prog 21 #[.iface 28 (.pointer (some ⟨b, 0, none⟩)), v] w fun e w' => e = .returned (ansV (holdsD K [])) ∧ Below w.heap.size w w' := by
  obtain ⟨p, c, rfl, _, _, _⟩ := hx
  rw [List.length_nil]
  go_enter Tryz.func21, Tryz.ntmps21
  go_wp2_with fail
  go_ret2
  exact ⟨rfl, Below.refl _ _⟩
set_option maxHeartbeats 4000000 in
theorem hold1 {w : World} {b : Nat} {n : Nd} {v0 v1 v2 v3 : Value} (h : TreeX w b n v0 v1 v2 v3) (hT : Tr n) {K : Bool → ByteArray → UInt8} (hK : Orc n K) {v : Value} (x : ByteArray) (hx : PlR w v [x]) : Calls Tryz.prog 21 #[.iface 28 (.pointer (some ⟨b, 0, none⟩)), v] w fun e w' => e = .returned (ansV (holdsD K [x])) ∧ Below w.heap.size w w' := by
  obtain ⟨bb, oo, c, rfl, h1, h2, hc⟩ := pl_parts hx
  have c0 : w.cell? ⟨bb, oo, none⟩ = some (.string x) := hc 0 (by omega)
  have HE := Lib.hid (str_empty x)
  have HV : Hid (ansV (holdsD K [x]) = .tuple #[.bool (!x.toList.isEmpty), .bool true]) := Lib.hid (by rw [HE.out]; rfl)
  have h3 : 1 ≤ c := by simpa using h1
  have h4 : c ≤ 9223372036854775807 := by unfold maxLen at h2; omega
  clear hc hx h1 h2 HE
  rw [List.length_nil, Nat.zero_add]
  go_enter Tryz.func21, Tryz.ntmps21
  go_wp2_with fail
  go_ret2
  exact ⟨by rw [HV.out]; rfl, Below.refl _ _⟩
set_option maxRecDepth 100000 in
set_option maxHeartbeats 4000000 in
theorem hold2_0 {w : World} {b : Nat} {n : Nd} {v0 v1 v2 v3 : Value} (h : TreeX w b n v0 v1 v2 v3) (hT : Tr n) {K : Bool → ByteArray → UInt8} (hK : Orc n K) {v : Value} (y : ByteArray) (hy : y.size ≤ 40000) (hx : PlR w v [sN, y]) : Calls Tryz.prog 21 #[.iface 28 (.pointer (some ⟨b, 0, none⟩)), v] w fun e w' => e = .returned (ansV (holdsD K [sN, y])) ∧ Below w.heap.size w w' := by
  have HV : Hid (ansV (holdsD K [sN, y]) = .tuple #[.bool (!decide (y = ⟨#[]⟩)), .bool true]) := Lib.hid (by rfl)
  have HLK : Hid (∀ wx r g g1, wx.heap[r]? = some (.map (tab (qs g g1)) 7) → (Instr.lookup 67 (.map (some r)) (.string sN) true).run Tryz.prog wx = .ok (.tuple #[.func (.func 49) #[] #[], .bool true]) wx) := Lib.hid fun wx r g g1 hr => by
    rcases lookup_q wx r 7 sN (qs g g1) hr with ⟨_, q⟩ | ⟨p, hp, e, q⟩
    · exact absurd rfl (q (⟨#[45, 110]⟩, .func (.func 49) #[] #[]) (by unfold qs; simp))
    · simp only [qs, List.mem_cons, List.not_mem_nil, or_false] at hp
      rcases hp with rfl | rfl | rfl | rfl | rfl | rfl | rfl <;> first | exact q | exact absurd e (by dsimp only; decide)
  obtain ⟨bb, oo, c, rfl, h1, h2, hc⟩ := pl_parts hx
  have HX := Lib.hid hx
  have C0 : Hid (w.cell? ⟨bb, oo, none⟩ = some (.string sN)) := Lib.hid (hc 0 (by simp))
  have C1 : Hid (w.cell? ⟨bb, oo + 1, none⟩ = some (.string y)) := Lib.hid (hc 1 (by simp))
  have h3 : 2 ≤ c := by simpa using h1
  have h4 : c ≤ 9223372036854775807 := by unfold maxLen at h2; omega
  have HT := Lib.hid h
  have HK := Lib.hid hK
  clear hc hx h1 h2 h hK
  rw [show ([y] : List ByteArray).length + 1 = 2 from rfl]
  generalize sN = x at C0 HX HLK HV ⊢
  go_enter Tryz.func21, Tryz.ntmps21
  go_upto_region 7 with fail
  refine wp_region_held_drew (S := (fun wx => Below w.heap.size w wx ∧ wx.cell? ⟨bb, oo, none⟩ = some (.string x))) (by kernel_rfl) ⟨(Below.refl _ _).drew, C0.out⟩ (fun hHeld => ?_)
  refine wpAnyH_take (i := 0) (oi := { dst := some 23, op := Op.move (Operand.tmp 0), type := 46, pos := "question.go:21", after := #[], guard := none }) (v := ?_) rfl (by kernel_rfl) (by kernel_rfl) (by kernel_rfl) (fun _ _ _ h => h) (Or.inl ⟨by rfl, ?_⟩) (by assumption) ?_
  rotate_left
  · (intro w hSw; (try dsimp only at hSw); go_simp; try with_reducible rfl)
  try simp only [Act.put, List.setIfInBounds_toArray, List.set_cons_zero, List.set_cons_succ]
  refine wpAnyH_take (i := 2) (oi := { dst := some 25, op := Op.move (Operand.tmp 1), type := 22, pos := "question.go:21", after := #[], guard := none }) (v := ?_) rfl (by kernel_rfl) (by kernel_rfl) (by kernel_rfl) (fun _ _ _ h => h) (Or.inl ⟨by rfl, ?_⟩) (by assumption) ?_
  rotate_left
  · (intro w hSw; (try dsimp only at hSw); go_simp; try with_reducible rfl)
  try simp only [Act.put, List.setIfInBounds_toArray, List.set_cons_zero, List.set_cons_succ]
  refine wpAnyH_take (i := 3) (oi := { dst := some 26, op := Op.indexAddr 22 (Operand.tmp 25) (Operand.const (Value.int IntKind.i64 0)), type := 0, pos := "question.go:21", after := #[{ on := 2, ground := Ground.data }], guard := none }) (v := ?_) rfl (by kernel_rfl) (by kernel_rfl) (by kernel_rfl) (fun _ _ _ h => h) (Or.inl ⟨by rfl, ?_⟩) (by assumption) ?_
  rotate_left
  · (intro w hSw; (try dsimp only at hSw); go_simp; try with_reducible rfl)
  try simp only [Act.put, List.setIfInBounds_toArray, List.set_cons_zero, List.set_cons_succ]
  refine wpAnyH_take (i := 4) (oi := { dst := some 27, op := Op.load 9 (Operand.tmp 26), type := 9, pos := "question.go:21", after := #[{ on := 3, ground := Ground.data }], guard := none }) (v := ?_) rfl (by kernel_rfl) (by kernel_rfl) (by kernel_rfl) (fun _ _ _ h => h) (Or.inl ⟨by rfl, ?_⟩) (by assumption) ?_
  rotate_left
  · (intro w hSw; (try dsimp only at hSw); go_simp; try with_reducible rfl)
  try simp only [Act.put, List.setIfInBounds_toArray, List.set_cons_zero, List.set_cons_succ]
  refine wpAnyH_ready (rs := [1]) (by kernel_rfl) (by simp) ?_
  refine AllReadyH.cons (o := { dst := some 24, op := Op.call { callee := Callee.value (Operand.func 32), args := #[Operand.tmp 23], argTypes := #[46] }, type := 67, pos := "question.go:21", after := #[{ on := 0, ground := Ground.data }], guard := none }) rfl (fun K hK => ?_) AllReadyH.nil
  go_simp
  (go_at_call 32; refine (questions_any _ b).mono ?_; rintro e w2 ⟨g, g1, r, rfl, hm, hc0, hc1, hb2⟩)
  have HM := Lib.hid hm
  have HC0 := Lib.hid hc0
  have HC1 := Lib.hid hc1
  have HB2 : Hid (Below w.heap.size w w2) := Lib.hid ((Below.refl _ _).drew.trans hb2)
  clear hm hc0 hc1 hb2
  go_wp2_with fail
  refine hK.out _ _ (by exact ⟨HB2.out, cell_kept HB2.out C0.out⟩) (fun hHeld => ?_)
  clear hK K
  try simp only [Act.put, List.setIfInBounds_toArray, List.set_cons_zero, List.set_cons_succ]
  refine wpAnyH_ready (rs := [5]) (by kernel_rfl) (by simp) ?_
  refine AllReadyH.cons (o := { dst := some 28, op := Op.lookup 67 (Operand.tmp 24) (Operand.tmp 27) true, type := 66, pos := "question.go:21", after := #[{ on := 1, ground := Ground.data }, { on := 4, ground := Ground.data }], guard := none }) rfl (fun K hK => ?_) AllReadyH.nil
  have hlk := HLK.out w2 r g g1 HM.out
  go_simp
  try rw [hlk]
  go_wp2_with fail
  clear hlk
  refine hK.out _ _ (by exact ⟨HB2.out, cell_kept HB2.out C0.out⟩) (fun hHeld => ?_)
  clear hK K
  try simp only [Act.put, List.setIfInBounds_toArray, List.set_cons_zero, List.set_cons_succ]
  refine wpAnyH_take (i := 6) (oi := { dst := some 22, op := Op.move (Operand.tmp 28), type := 66, pos := "question.go:21", after := #[{ on := 5, ground := Ground.data }], guard := none }) (v := ?_) rfl (by kernel_rfl) (by kernel_rfl) (by kernel_rfl) (fun _ _ _ h => h) (Or.inl ⟨by rfl, ?_⟩) (by assumption) ?_
  rotate_left
  · (intro w hSw; (try dsimp only at hSw); go_simp; try with_reducible rfl)
  try simp only [Act.put, List.setIfInBounds_toArray, List.set_cons_zero, List.set_cons_succ]
  refine wpAnyH_take (i := 7) (oi := { dst := some 29, op := Op.extract (Operand.tmp 22) 0, type := 65, pos := "question.go:21", after := #[{ on := 6, ground := Ground.data }], guard := none }) (v := ?_) rfl (by kernel_rfl) (by kernel_rfl) (by kernel_rfl) (fun _ _ _ h => h) (Or.inl ⟨by rfl, ?_⟩) (by assumption) ?_
  rotate_left
  · (intro w hSw; (try dsimp only at hSw); go_simp; try with_reducible rfl)
  try simp only [Act.put, List.setIfInBounds_toArray, List.set_cons_zero, List.set_cons_succ]
  refine wpAnyH_take (i := 8) (oi := { dst := some 30, op := Op.extract (Operand.tmp 22) 1, type := 4, pos := "question.go:21", after := #[{ on := 6, ground := Ground.data }, { on := 9, ground := Ground.gcOnly Departure.lateStores }], guard := none }) (v := ?_) rfl (by kernel_rfl) (by kernel_rfl) (by kernel_rfl) (fun _ _ _ h => h) (Or.inl ⟨by rfl, ?_⟩) (by assumption) ?_
  rotate_left
  · (intro w hSw; (try dsimp only at hSw); go_simp; try with_reducible rfl)
  try simp only [Act.put, List.setIfInBounds_toArray, List.set_cons_zero, List.set_cons_succ]
  refine wpAnyH_take (i := 9) (oi := { dst := some 6, op := Op.assign (Operand.tmp 29), type := 65, pos := "question.go:21", after := #[{ on := 7, ground := Ground.data }, { on := 1, ground := Ground.chain }, { on := 0, ground := Ground.phase }, { on := 1, ground := Ground.phase }, { on := 2, ground := Ground.phase }, { on := 3, ground := Ground.phase }, { on := 4, ground := Ground.phase }, { on := 5, ground := Ground.phase }, { on := 6, ground := Ground.phase }, { on := 7, ground := Ground.phase }, { on := 8, ground := Ground.textOnly Departure.lateStores }], guard := none }) (v := ?_) rfl (by kernel_rfl) (by kernel_rfl) (by kernel_rfl) (fun _ _ _ h => h) (Or.inl ⟨by rfl, ?_⟩) (by assumption) ?_
  rotate_left
  · (intro w hSw; (try dsimp only at hSw); go_simp; try with_reducible rfl)
  try simp only [Act.put, List.setIfInBounds_toArray, List.set_cons_zero, List.set_cons_succ]
  refine wpAnyH_take (i := 10) (oi := { dst := some 7, op := Op.assign (Operand.tmp 30), type := 4, pos := "question.go:21", after := #[{ on := 8, ground := Ground.data }, { on := 9, ground := Ground.chain }, { on := 0, ground := Ground.phase }, { on := 1, ground := Ground.phase }, { on := 2, ground := Ground.phase }, { on := 3, ground := Ground.phase }, { on := 4, ground := Ground.phase }, { on := 5, ground := Ground.phase }, { on := 6, ground := Ground.phase }, { on := 7, ground := Ground.phase }, { on := 8, ground := Ground.phase }, { on := 9, ground := Ground.phase }], guard := none }) (v := ?_) rfl (by kernel_rfl) (by kernel_rfl) (by kernel_rfl) (fun _ _ _ h => h) (Or.inl ⟨by rfl, ?_⟩) (by assumption) ?_
  rotate_left
  · (intro w hSw; (try dsimp only at hSw); go_simp; try with_reducible rfl)
  try simp only [Act.put, List.setIfInBounds_toArray, List.set_cons_zero, List.set_cons_succ]
  refine wpAnyH_done (by kernel_rfl) ?_ _
  clear hHeld
  have HB3 := HB2
  have c1 := cell_kept HB3.out C1.out
  go_wp2_with fail
  refine (q_n _ y).mono ?_
  rintro e w3 ⟨rfl, hb3⟩
  have HB4 := Lib.hid (HB3.out.trans (hb3.mono HB3.out.size))
  clear hb3
  go_wp2_with fail
  go_ret2
  exact ⟨by rw [HV.out]; rfl, HB4.out⟩
set_option maxRecDepth 100000 in
set_option maxHeartbeats 4000000 in
theorem hold2_1 {w : World} {b : Nat} {n : Nd} {v0 v1 v2 v3 : Value} (h : TreeX w b n v0 v1 v2 v3) (hT : Tr n) {K : Bool → ByteArray → UInt8} (hK : Orc n K) {v : Value} (y : ByteArray) (hy : y.size ≤ 40000) (hx : PlR w v [sZ, y]) : Calls Tryz.prog 21 #[.iface 28 (.pointer (some ⟨b, 0, none⟩)), v] w fun e w' => e = .returned (ansV (holdsD K [sZ, y])) ∧ Below w.heap.size w w' := by
  have HV : Hid (ansV (holdsD K [sZ, y]) = .tuple #[.bool (decide (y = ⟨#[]⟩)), .bool true]) := Lib.hid (by rfl)
  have HLK : Hid (∀ wx r g g1, wx.heap[r]? = some (.map (tab (qs g g1)) 7) → (Instr.lookup 67 (.map (some r)) (.string sZ) true).run Tryz.prog wx = .ok (.tuple #[.func (.func 50) #[] #[], .bool true]) wx) := Lib.hid fun wx r g g1 hr => by
    rcases lookup_q wx r 7 sZ (qs g g1) hr with ⟨_, q⟩ | ⟨p, hp, e, q⟩
    · exact absurd rfl (q (⟨#[45, 122]⟩, .func (.func 50) #[] #[]) (by unfold qs; simp))
    · simp only [qs, List.mem_cons, List.not_mem_nil, or_false] at hp
      rcases hp with rfl | rfl | rfl | rfl | rfl | rfl | rfl <;> first | exact q | exact absurd e (by dsimp only; decide)
  obtain ⟨bb, oo, c, rfl, h1, h2, hc⟩ := pl_parts hx
  have HX := Lib.hid hx
  have C0 : Hid (w.cell? ⟨bb, oo, none⟩ = some (.string sZ)) := Lib.hid (hc 0 (by simp))
  have C1 : Hid (w.cell? ⟨bb, oo + 1, none⟩ = some (.string y)) := Lib.hid (hc 1 (by simp))
  have h3 : 2 ≤ c := by simpa using h1
  have h4 : c ≤ 9223372036854775807 := by unfold maxLen at h2; omega
  have HT := Lib.hid h
  have HK := Lib.hid hK
  clear hc hx h1 h2 h hK
  rw [show ([y] : List ByteArray).length + 1 = 2 from rfl]
  generalize sZ = x at C0 HX HLK HV ⊢
  go_enter Tryz.func21, Tryz.ntmps21
  go_upto_region 7 with fail
  refine wp_region_held_drew (S := (fun wx => Below w.heap.size w wx ∧ wx.cell? ⟨bb, oo, none⟩ = some (.string x))) (by kernel_rfl) ⟨(Below.refl _ _).drew, C0.out⟩ (fun hHeld => ?_)
  refine wpAnyH_take (i := 0) (oi := { dst := some 23, op := Op.move (Operand.tmp 0), type := 46, pos := "question.go:21", after := #[], guard := none }) (v := ?_) rfl (by kernel_rfl) (by kernel_rfl) (by kernel_rfl) (fun _ _ _ h => h) (Or.inl ⟨by rfl, ?_⟩) (by assumption) ?_
  rotate_left
  · (intro w hSw; (try dsimp only at hSw); go_simp; try with_reducible rfl)
  try simp only [Act.put, List.setIfInBounds_toArray, List.set_cons_zero, List.set_cons_succ]
  refine wpAnyH_take (i := 2) (oi := { dst := some 25, op := Op.move (Operand.tmp 1), type := 22, pos := "question.go:21", after := #[], guard := none }) (v := ?_) rfl (by kernel_rfl) (by kernel_rfl) (by kernel_rfl) (fun _ _ _ h => h) (Or.inl ⟨by rfl, ?_⟩) (by assumption) ?_
  rotate_left
  · (intro w hSw; (try dsimp only at hSw); go_simp; try with_reducible rfl)
  try simp only [Act.put, List.setIfInBounds_toArray, List.set_cons_zero, List.set_cons_succ]
  refine wpAnyH_take (i := 3) (oi := { dst := some 26, op := Op.indexAddr 22 (Operand.tmp 25) (Operand.const (Value.int IntKind.i64 0)), type := 0, pos := "question.go:21", after := #[{ on := 2, ground := Ground.data }], guard := none }) (v := ?_) rfl (by kernel_rfl) (by kernel_rfl) (by kernel_rfl) (fun _ _ _ h => h) (Or.inl ⟨by rfl, ?_⟩) (by assumption) ?_
  rotate_left
  · (intro w hSw; (try dsimp only at hSw); go_simp; try with_reducible rfl)
  try simp only [Act.put, List.setIfInBounds_toArray, List.set_cons_zero, List.set_cons_succ]
  refine wpAnyH_take (i := 4) (oi := { dst := some 27, op := Op.load 9 (Operand.tmp 26), type := 9, pos := "question.go:21", after := #[{ on := 3, ground := Ground.data }], guard := none }) (v := ?_) rfl (by kernel_rfl) (by kernel_rfl) (by kernel_rfl) (fun _ _ _ h => h) (Or.inl ⟨by rfl, ?_⟩) (by assumption) ?_
  rotate_left
  · (intro w hSw; (try dsimp only at hSw); go_simp; try with_reducible rfl)
  try simp only [Act.put, List.setIfInBounds_toArray, List.set_cons_zero, List.set_cons_succ]
  refine wpAnyH_ready (rs := [1]) (by kernel_rfl) (by simp) ?_
  refine AllReadyH.cons (o := { dst := some 24, op := Op.call { callee := Callee.value (Operand.func 32), args := #[Operand.tmp 23], argTypes := #[46] }, type := 67, pos := "question.go:21", after := #[{ on := 0, ground := Ground.data }], guard := none }) rfl (fun K hK => ?_) AllReadyH.nil
  go_simp
  (go_at_call 32; refine (questions_any _ b).mono ?_; rintro e w2 ⟨g, g1, r, rfl, hm, hc0, hc1, hb2⟩)
  have HM := Lib.hid hm
  have HC0 := Lib.hid hc0
  have HC1 := Lib.hid hc1
  have HB2 : Hid (Below w.heap.size w w2) := Lib.hid ((Below.refl _ _).drew.trans hb2)
  clear hm hc0 hc1 hb2
  go_wp2_with fail
  refine hK.out _ _ (by exact ⟨HB2.out, cell_kept HB2.out C0.out⟩) (fun hHeld => ?_)
  clear hK K
  try simp only [Act.put, List.setIfInBounds_toArray, List.set_cons_zero, List.set_cons_succ]
  refine wpAnyH_ready (rs := [5]) (by kernel_rfl) (by simp) ?_
  refine AllReadyH.cons (o := { dst := some 28, op := Op.lookup 67 (Operand.tmp 24) (Operand.tmp 27) true, type := 66, pos := "question.go:21", after := #[{ on := 1, ground := Ground.data }, { on := 4, ground := Ground.data }], guard := none }) rfl (fun K hK => ?_) AllReadyH.nil
  have hlk := HLK.out w2 r g g1 HM.out
  go_simp
  try rw [hlk]
  go_wp2_with fail
  clear hlk
  refine hK.out _ _ (by exact ⟨HB2.out, cell_kept HB2.out C0.out⟩) (fun hHeld => ?_)
  clear hK K
  try simp only [Act.put, List.setIfInBounds_toArray, List.set_cons_zero, List.set_cons_succ]
  refine wpAnyH_take (i := 6) (oi := { dst := some 22, op := Op.move (Operand.tmp 28), type := 66, pos := "question.go:21", after := #[{ on := 5, ground := Ground.data }], guard := none }) (v := ?_) rfl (by kernel_rfl) (by kernel_rfl) (by kernel_rfl) (fun _ _ _ h => h) (Or.inl ⟨by rfl, ?_⟩) (by assumption) ?_
  rotate_left
  · (intro w hSw; (try dsimp only at hSw); go_simp; try with_reducible rfl)
  try simp only [Act.put, List.setIfInBounds_toArray, List.set_cons_zero, List.set_cons_succ]
  refine wpAnyH_take (i := 7) (oi := { dst := some 29, op := Op.extract (Operand.tmp 22) 0, type := 65, pos := "question.go:21", after := #[{ on := 6, ground := Ground.data }], guard := none }) (v := ?_) rfl (by kernel_rfl) (by kernel_rfl) (by kernel_rfl) (fun _ _ _ h => h) (Or.inl ⟨by rfl, ?_⟩) (by assumption) ?_
  rotate_left
  · (intro w hSw; (try dsimp only at hSw); go_simp; try with_reducible rfl)
  try simp only [Act.put, List.setIfInBounds_toArray, List.set_cons_zero, List.set_cons_succ]
  refine wpAnyH_take (i := 8) (oi := { dst := some 30, op := Op.extract (Operand.tmp 22) 1, type := 4, pos := "question.go:21", after := #[{ on := 6, ground := Ground.data }, { on := 9, ground := Ground.gcOnly Departure.lateStores }], guard := none }) (v := ?_) rfl (by kernel_rfl) (by kernel_rfl) (by kernel_rfl) (fun _ _ _ h => h) (Or.inl ⟨by rfl, ?_⟩) (by assumption) ?_
  rotate_left
  · (intro w hSw; (try dsimp only at hSw); go_simp; try with_reducible rfl)
  try simp only [Act.put, List.setIfInBounds_toArray, List.set_cons_zero, List.set_cons_succ]
  refine wpAnyH_take (i := 9) (oi := { dst := some 6, op := Op.assign (Operand.tmp 29), type := 65, pos := "question.go:21", after := #[{ on := 7, ground := Ground.data }, { on := 1, ground := Ground.chain }, { on := 0, ground := Ground.phase }, { on := 1, ground := Ground.phase }, { on := 2, ground := Ground.phase }, { on := 3, ground := Ground.phase }, { on := 4, ground := Ground.phase }, { on := 5, ground := Ground.phase }, { on := 6, ground := Ground.phase }, { on := 7, ground := Ground.phase }, { on := 8, ground := Ground.textOnly Departure.lateStores }], guard := none }) (v := ?_) rfl (by kernel_rfl) (by kernel_rfl) (by kernel_rfl) (fun _ _ _ h => h) (Or.inl ⟨by rfl, ?_⟩) (by assumption) ?_
  rotate_left
  · (intro w hSw; (try dsimp only at hSw); go_simp; try with_reducible rfl)
  try simp only [Act.put, List.setIfInBounds_toArray, List.set_cons_zero, List.set_cons_succ]
  refine wpAnyH_take (i := 10) (oi := { dst := some 7, op := Op.assign (Operand.tmp 30), type := 4, pos := "question.go:21", after := #[{ on := 8, ground := Ground.data }, { on := 9, ground := Ground.chain }, { on := 0, ground := Ground.phase }, { on := 1, ground := Ground.phase }, { on := 2, ground := Ground.phase }, { on := 3, ground := Ground.phase }, { on := 4, ground := Ground.phase }, { on := 5, ground := Ground.phase }, { on := 6, ground := Ground.phase }, { on := 7, ground := Ground.phase }, { on := 8, ground := Ground.phase }, { on := 9, ground := Ground.phase }], guard := none }) (v := ?_) rfl (by kernel_rfl) (by kernel_rfl) (by kernel_rfl) (fun _ _ _ h => h) (Or.inl ⟨by rfl, ?_⟩) (by assumption) ?_
  rotate_left
  · (intro w hSw; (try dsimp only at hSw); go_simp; try with_reducible rfl)
  try simp only [Act.put, List.setIfInBounds_toArray, List.set_cons_zero, List.set_cons_succ]
  refine wpAnyH_done (by kernel_rfl) ?_ _
  clear hHeld
  have HB3 := HB2
  have c1 := cell_kept HB3.out C1.out
  go_wp2_with fail
  refine (q_z _ y).mono ?_
  rintro e w3 ⟨rfl, hb3⟩
  have HB4 := Lib.hid (HB3.out.trans (hb3.mono HB3.out.size))
  clear hb3
  go_wp2_with fail
  go_ret2
  exact ⟨by rw [HV.out]; rfl, HB4.out⟩
set_option maxRecDepth 100000 in
set_option maxHeartbeats 4000000 in
theorem hold2_2 {w : World} {b : Nat} {n : Nd} {v0 v1 v2 v3 : Value} (h : TreeX w b n v0 v1 v2 v3) (hT : Tr n) {K : Bool → ByteArray → UInt8} (hK : Orc n K) {v : Value} (y : ByteArray) (hy : y.size ≤ 40000) (hx : PlR w v [sE, y]) : Calls Tryz.prog 21 #[.iface 28 (.pointer (some ⟨b, 0, none⟩)), v] w fun e w' => e = .returned (ansV (holdsD K [sE, y])) ∧ Below w.heap.size w w' := by
  have HV : Hid (ansV (holdsD K [sE, y]) = .tuple #[.bool (!decide (K true y = 0)), .bool true]) := Lib.hid (by rfl)
  have HLK : Hid (∀ wx r g g1, wx.heap[r]? = some (.map (tab (qs g g1)) 7) → (Instr.lookup 67 (.map (some r)) (.string sE) true).run Tryz.prog wx = .ok (.tuple #[.func (.func 51) #[] #[.pointer (some ⟨g1, 0, none⟩)], .bool true]) wx) := Lib.hid fun wx r g g1 hr => by
    rcases lookup_q wx r 7 sE (qs g g1) hr with ⟨_, q⟩ | ⟨p, hp, e, q⟩
    · exact absurd rfl (q (⟨#[45, 101]⟩, .func (.func 51) #[] #[.pointer (some ⟨g1, 0, none⟩)]) (by unfold qs; simp))
    · simp only [qs, List.mem_cons, List.not_mem_nil, or_false] at hp
      rcases hp with rfl | rfl | rfl | rfl | rfl | rfl | rfl <;> first | exact q | exact absurd e (by dsimp only; decide)
  obtain ⟨bb, oo, c, rfl, h1, h2, hc⟩ := pl_parts hx
  have HX := Lib.hid hx
  have C0 : Hid (w.cell? ⟨bb, oo, none⟩ = some (.string sE)) := Lib.hid (hc 0 (by simp))
  have C1 : Hid (w.cell? ⟨bb, oo + 1, none⟩ = some (.string y)) := Lib.hid (hc 1 (by simp))
  have h3 : 2 ≤ c := by simpa using h1
  have h4 : c ≤ 9223372036854775807 := by unfold maxLen at h2; omega
  have HT := Lib.hid h
  have HK := Lib.hid hK
  clear hc hx h1 h2 h hK
  rw [show ([y] : List ByteArray).length + 1 = 2 from rfl]
  generalize sE = x at C0 HX HLK HV ⊢
  go_enter Tryz.func21, Tryz.ntmps21
  go_upto_region 7 with fail
  refine wp_region_held_drew (S := (fun wx => Below w.heap.size w wx ∧ wx.cell? ⟨bb, oo, none⟩ = some (.string x))) (by kernel_rfl) ⟨(Below.refl _ _).drew, C0.out⟩ (fun hHeld => ?_)
  refine wpAnyH_take (i := 0) (oi := { dst := some 23, op := Op.move (Operand.tmp 0), type := 46, pos := "question.go:21", after := #[], guard := none }) (v := ?_) rfl (by kernel_rfl) (by kernel_rfl) (by kernel_rfl) (fun _ _ _ h => h) (Or.inl ⟨by rfl, ?_⟩) (by assumption) ?_
  rotate_left
  · (intro w hSw; (try dsimp only at hSw); go_simp; try with_reducible rfl)
  try simp only [Act.put, List.setIfInBounds_toArray, List.set_cons_zero, List.set_cons_succ]
  refine wpAnyH_take (i := 2) (oi := { dst := some 25, op := Op.move (Operand.tmp 1), type := 22, pos := "question.go:21", after := #[], guard := none }) (v := ?_) rfl (by kernel_rfl) (by kernel_rfl) (by kernel_rfl) (fun _ _ _ h => h) (Or.inl ⟨by rfl, ?_⟩) (by assumption) ?_
  rotate_left
  · (intro w hSw; (try dsimp only at hSw); go_simp; try with_reducible rfl)
  try simp only [Act.put, List.setIfInBounds_toArray, List.set_cons_zero, List.set_cons_succ]
  refine wpAnyH_take (i := 3) (oi := { dst := some 26, op := Op.indexAddr 22 (Operand.tmp 25) (Operand.const (Value.int IntKind.i64 0)), type := 0, pos := "question.go:21", after := #[{ on := 2, ground := Ground.data }], guard := none }) (v := ?_) rfl (by kernel_rfl) (by kernel_rfl) (by kernel_rfl) (fun _ _ _ h => h) (Or.inl ⟨by rfl, ?_⟩) (by assumption) ?_
  rotate_left
  · (intro w hSw; (try dsimp only at hSw); go_simp; try with_reducible rfl)
  try simp only [Act.put, List.setIfInBounds_toArray, List.set_cons_zero, List.set_cons_succ]
  refine wpAnyH_take (i := 4) (oi := { dst := some 27, op := Op.load 9 (Operand.tmp 26), type := 9, pos := "question.go:21", after := #[{ on := 3, ground := Ground.data }], guard := none }) (v := ?_) rfl (by kernel_rfl) (by kernel_rfl) (by kernel_rfl) (fun _ _ _ h => h) (Or.inl ⟨by rfl, ?_⟩) (by assumption) ?_
  rotate_left
  · (intro w hSw; (try dsimp only at hSw); go_simp; try with_reducible rfl)
  try simp only [Act.put, List.setIfInBounds_toArray, List.set_cons_zero, List.set_cons_succ]
  refine wpAnyH_ready (rs := [1]) (by kernel_rfl) (by simp) ?_
  refine AllReadyH.cons (o := { dst := some 24, op := Op.call { callee := Callee.value (Operand.func 32), args := #[Operand.tmp 23], argTypes := #[46] }, type := 67, pos := "question.go:21", after := #[{ on := 0, ground := Ground.data }], guard := none }) rfl (fun K hK => ?_) AllReadyH.nil
  go_simp
  (go_at_call 32; refine (questions_any _ b).mono ?_; rintro e w2 ⟨g, g1, r, rfl, hm, hc0, hc1, hb2⟩)
  have HM := Lib.hid hm
  have HC0 := Lib.hid hc0
  have HC1 := Lib.hid hc1
  have HB2 : Hid (Below w.heap.size w w2) := Lib.hid ((Below.refl _ _).drew.trans hb2)
  clear hm hc0 hc1 hb2
  go_wp2_with fail
  refine hK.out _ _ (by exact ⟨HB2.out, cell_kept HB2.out C0.out⟩) (fun hHeld => ?_)
  clear hK K
  try simp only [Act.put, List.setIfInBounds_toArray, List.set_cons_zero, List.set_cons_succ]
  refine wpAnyH_ready (rs := [5]) (by kernel_rfl) (by simp) ?_
  refine AllReadyH.cons (o := { dst := some 28, op := Op.lookup 67 (Operand.tmp 24) (Operand.tmp 27) true, type := 66, pos := "question.go:21", after := #[{ on := 1, ground := Ground.data }, { on := 4, ground := Ground.data }], guard := none }) rfl (fun K hK => ?_) AllReadyH.nil
  have hlk := HLK.out w2 r g g1 HM.out
  go_simp
  try rw [hlk]
  go_wp2_with fail
  clear hlk
  refine hK.out _ _ (by exact ⟨HB2.out, cell_kept HB2.out C0.out⟩) (fun hHeld => ?_)
  clear hK K
  try simp only [Act.put, List.setIfInBounds_toArray, List.set_cons_zero, List.set_cons_succ]
  refine wpAnyH_take (i := 6) (oi := { dst := some 22, op := Op.move (Operand.tmp 28), type := 66, pos := "question.go:21", after := #[{ on := 5, ground := Ground.data }], guard := none }) (v := ?_) rfl (by kernel_rfl) (by kernel_rfl) (by kernel_rfl) (fun _ _ _ h => h) (Or.inl ⟨by rfl, ?_⟩) (by assumption) ?_
  rotate_left
  · (intro w hSw; (try dsimp only at hSw); go_simp; try with_reducible rfl)
  try simp only [Act.put, List.setIfInBounds_toArray, List.set_cons_zero, List.set_cons_succ]
  refine wpAnyH_take (i := 7) (oi := { dst := some 29, op := Op.extract (Operand.tmp 22) 0, type := 65, pos := "question.go:21", after := #[{ on := 6, ground := Ground.data }], guard := none }) (v := ?_) rfl (by kernel_rfl) (by kernel_rfl) (by kernel_rfl) (fun _ _ _ h => h) (Or.inl ⟨by rfl, ?_⟩) (by assumption) ?_
  rotate_left
  · (intro w hSw; (try dsimp only at hSw); go_simp; try with_reducible rfl)
  try simp only [Act.put, List.setIfInBounds_toArray, List.set_cons_zero, List.set_cons_succ]
  refine wpAnyH_take (i := 8) (oi := { dst := some 30, op := Op.extract (Operand.tmp 22) 1, type := 4, pos := "question.go:21", after := #[{ on := 6, ground := Ground.data }, { on := 9, ground := Ground.gcOnly Departure.lateStores }], guard := none }) (v := ?_) rfl (by kernel_rfl) (by kernel_rfl) (by kernel_rfl) (fun _ _ _ h => h) (Or.inl ⟨by rfl, ?_⟩) (by assumption) ?_
  rotate_left
  · (intro w hSw; (try dsimp only at hSw); go_simp; try with_reducible rfl)
  try simp only [Act.put, List.setIfInBounds_toArray, List.set_cons_zero, List.set_cons_succ]
  refine wpAnyH_take (i := 9) (oi := { dst := some 6, op := Op.assign (Operand.tmp 29), type := 65, pos := "question.go:21", after := #[{ on := 7, ground := Ground.data }, { on := 1, ground := Ground.chain }, { on := 0, ground := Ground.phase }, { on := 1, ground := Ground.phase }, { on := 2, ground := Ground.phase }, { on := 3, ground := Ground.phase }, { on := 4, ground := Ground.phase }, { on := 5, ground := Ground.phase }, { on := 6, ground := Ground.phase }, { on := 7, ground := Ground.phase }, { on := 8, ground := Ground.textOnly Departure.lateStores }], guard := none }) (v := ?_) rfl (by kernel_rfl) (by kernel_rfl) (by kernel_rfl) (fun _ _ _ h => h) (Or.inl ⟨by rfl, ?_⟩) (by assumption) ?_
  rotate_left
  · (intro w hSw; (try dsimp only at hSw); go_simp; try with_reducible rfl)
  try simp only [Act.put, List.setIfInBounds_toArray, List.set_cons_zero, List.set_cons_succ]
  refine wpAnyH_take (i := 10) (oi := { dst := some 7, op := Op.assign (Operand.tmp 30), type := 4, pos := "question.go:21", after := #[{ on := 8, ground := Ground.data }, { on := 9, ground := Ground.chain }, { on := 0, ground := Ground.phase }, { on := 1, ground := Ground.phase }, { on := 2, ground := Ground.phase }, { on := 3, ground := Ground.phase }, { on := 4, ground := Ground.phase }, { on := 5, ground := Ground.phase }, { on := 6, ground := Ground.phase }, { on := 7, ground := Ground.phase }, { on := 8, ground := Ground.phase }, { on := 9, ground := Ground.phase }], guard := none }) (v := ?_) rfl (by kernel_rfl) (by kernel_rfl) (by kernel_rfl) (fun _ _ _ h => h) (Or.inl ⟨by rfl, ?_⟩) (by assumption) ?_
  rotate_left
  · (intro w hSw; (try dsimp only at hSw); go_simp; try with_reducible rfl)
  try simp only [Act.put, List.setIfInBounds_toArray, List.set_cons_zero, List.set_cons_succ]
  refine wpAnyH_done (by kernel_rfl) ?_ _
  clear hHeld
  have HB3 := HB2
  have c1 := cell_kept HB3.out C1.out
  go_wp2_with fail
  refine (q_e (HT.out.kept HB3.out) hT HK.out HC0.out HC1.out y hy).mono ?_
  rintro e w3 ⟨rfl, hb3⟩
  have HB4 := Lib.hid (HB3.out.trans (hb3.mono HB3.out.size))
  clear hb3
  go_wp2_with fail
  go_ret2
  exact ⟨by rw [HV.out]; rfl, HB4.out⟩
set_option maxRecDepth 100000 in
set_option maxHeartbeats 4000000 in
theorem hold2_3 {w : World} {b : Nat} {n : Nd} {v0 v1 v2 v3 : Value} (h : TreeX w b n v0 v1 v2 v3) (hT : Tr n) {K : Bool → ByteArray → UInt8} (hK : Orc n K) {v : Value} (y : ByteArray) (hy : y.size ≤ 40000) (hx : PlR w v [sF, y]) : Calls Tryz.prog 21 #[.iface 28 (.pointer (some ⟨b, 0, none⟩)), v] w fun e w' => e = .returned (ansV (holdsD K [sF, y])) ∧ Below w.heap.size w w' := by
  have HV : Hid (ansV (holdsD K [sF, y]) = .tuple #[.bool (decide (K true y = 1)), .bool true]) := Lib.hid (by rfl)
  have HLK : Hid (∀ wx r g g1, wx.heap[r]? = some (.map (tab (qs g g1)) 7) → (Instr.lookup 67 (.map (some r)) (.string sF) true).run Tryz.prog wx = .ok (.tuple #[.func (.func 52) #[] #[.pointer (some ⟨g1, 0, none⟩)], .bool true]) wx) := Lib.hid fun wx r g g1 hr => by
    rcases lookup_q wx r 7 sF (qs g g1) hr with ⟨_, q⟩ | ⟨p, hp, e, q⟩
    · exact absurd rfl (q (⟨#[45, 102]⟩, .func (.func 52) #[] #[.pointer (some ⟨g1, 0, none⟩)]) (by unfold qs; simp))
    · simp only [qs, List.mem_cons, List.not_mem_nil, or_false] at hp
      rcases hp with rfl | rfl | rfl | rfl | rfl | rfl | rfl <;> first | exact q | exact absurd e (by dsimp only; decide)
  obtain ⟨bb, oo, c, rfl, h1, h2, hc⟩ := pl_parts hx
  have HX := Lib.hid hx
  have C0 : Hid (w.cell? ⟨bb, oo, none⟩ = some (.string sF)) := Lib.hid (hc 0 (by simp))
  have C1 : Hid (w.cell? ⟨bb, oo + 1, none⟩ = some (.string y)) := Lib.hid (hc 1 (by simp))
  have h3 : 2 ≤ c := by simpa using h1
  have h4 : c ≤ 9223372036854775807 := by unfold maxLen at h2; omega
  have HT := Lib.hid h
  have HK := Lib.hid hK
  clear hc hx h1 h2 h hK
  rw [show ([y] : List ByteArray).length + 1 = 2 from rfl]
  generalize sF = x at C0 HX HLK HV ⊢
  go_enter Tryz.func21, Tryz.ntmps21
  go_upto_region 7 with fail
  refine wp_region_held_drew (S := (fun wx => Below w.heap.size w wx ∧ wx.cell? ⟨bb, oo, none⟩ = some (.string x))) (by kernel_rfl) ⟨(Below.refl _ _).drew, C0.out⟩ (fun hHeld => ?_)
  refine wpAnyH_take (i := 0) (oi := { dst := some 23, op := Op.move (Operand.tmp 0), type := 46, pos := "question.go:21", after := #[], guard := none }) (v := ?_) rfl (by kernel_rfl) (by kernel_rfl) (by kernel_rfl) (fun _ _ _ h => h) (Or.inl ⟨by rfl, ?_⟩) (by assumption) ?_
  rotate_left
  · (intro w hSw; (try dsimp only at hSw); go_simp; try with_reducible rfl)
  try simp only [Act.put, List.setIfInBounds_toArray, List.set_cons_zero, List.set_cons_succ]
  refine wpAnyH_take (i := 2) (oi := { dst := some 25, op := Op.move (Operand.tmp 1), type := 22, pos := "question.go:21", after := #[], guard := none }) (v := ?_) rfl (by kernel_rfl) (by kernel_rfl) (by kernel_rfl) (fun _ _ _ h => h) (Or.inl ⟨by rfl, ?_⟩) (by assumption) ?_
  rotate_left
  · (intro w hSw; (try dsimp only at hSw); go_simp; try with_reducible rfl)
  try simp only [Act.put, List.setIfInBounds_toArray, List.set_cons_zero, List.set_cons_succ]
  refine wpAnyH_take (i := 3) (oi := { dst := some 26, op := Op.indexAddr 22 (Operand.tmp 25) (Operand.const (Value.int IntKind.i64 0)), type := 0, pos := "question.go:21", after := #[{ on := 2, ground := Ground.data }], guard := none }) (v := ?_) rfl (by kernel_rfl) (by kernel_rfl) (by kernel_rfl) (fun _ _ _ h => h) (Or.inl ⟨by rfl, ?_⟩) (by assumption) ?_
  rotate_left
  · (intro w hSw; (try dsimp only at hSw); go_simp; try with_reducible rfl)
  try simp only [Act.put, List.setIfInBounds_toArray, List.set_cons_zero, List.set_cons_succ]
  refine wpAnyH_take (i := 4) (oi := { dst := some 27, op := Op.load 9 (Operand.tmp 26), type := 9, pos := "question.go:21", after := #[{ on := 3, ground := Ground.data }], guard := none }) (v := ?_) rfl (by kernel_rfl) (by kernel_rfl) (by kernel_rfl) (fun _ _ _ h => h) (Or.inl ⟨by rfl, ?_⟩) (by assumption) ?_
  rotate_left
  · (intro w hSw; (try dsimp only at hSw); go_simp; try with_reducible rfl)
  try simp only [Act.put, List.setIfInBounds_toArray, List.set_cons_zero, List.set_cons_succ]
  refine wpAnyH_ready (rs := [1]) (by kernel_rfl) (by simp) ?_
  refine AllReadyH.cons (o := { dst := some 24, op := Op.call { callee := Callee.value (Operand.func 32), args := #[Operand.tmp 23], argTypes := #[46] }, type := 67, pos := "question.go:21", after := #[{ on := 0, ground := Ground.data }], guard := none }) rfl (fun K hK => ?_) AllReadyH.nil
  go_simp
  (go_at_call 32; refine (questions_any _ b).mono ?_; rintro e w2 ⟨g, g1, r, rfl, hm, hc0, hc1, hb2⟩)
  have HM := Lib.hid hm
  have HC0 := Lib.hid hc0
  have HC1 := Lib.hid hc1
  have HB2 : Hid (Below w.heap.size w w2) := Lib.hid ((Below.refl _ _).drew.trans hb2)
  clear hm hc0 hc1 hb2
  go_wp2_with fail
  refine hK.out _ _ (by exact ⟨HB2.out, cell_kept HB2.out C0.out⟩) (fun hHeld => ?_)
  clear hK K
  try simp only [Act.put, List.setIfInBounds_toArray, List.set_cons_zero, List.set_cons_succ]
  refine wpAnyH_ready (rs := [5]) (by kernel_rfl) (by simp) ?_
  refine AllReadyH.cons (o := { dst := some 28, op := Op.lookup 67 (Operand.tmp 24) (Operand.tmp 27) true, type := 66, pos := "question.go:21", after := #[{ on := 1, ground := Ground.data }, { on := 4, ground := Ground.data }], guard := none }) rfl (fun K hK => ?_) AllReadyH.nil
  have hlk := HLK.out w2 r g g1 HM.out
  go_simp
  try rw [hlk]
  go_wp2_with fail
  clear hlk
  refine hK.out _ _ (by exact ⟨HB2.out, cell_kept HB2.out C0.out⟩) (fun hHeld => ?_)
  clear hK K
  try simp only [Act.put, List.setIfInBounds_toArray, List.set_cons_zero, List.set_cons_succ]
  refine wpAnyH_take (i := 6) (oi := { dst := some 22, op := Op.move (Operand.tmp 28), type := 66, pos := "question.go:21", after := #[{ on := 5, ground := Ground.data }], guard := none }) (v := ?_) rfl (by kernel_rfl) (by kernel_rfl) (by kernel_rfl) (fun _ _ _ h => h) (Or.inl ⟨by rfl, ?_⟩) (by assumption) ?_
  rotate_left
  · (intro w hSw; (try dsimp only at hSw); go_simp; try with_reducible rfl)
  try simp only [Act.put, List.setIfInBounds_toArray, List.set_cons_zero, List.set_cons_succ]
  refine wpAnyH_take (i := 7) (oi := { dst := some 29, op := Op.extract (Operand.tmp 22) 0, type := 65, pos := "question.go:21", after := #[{ on := 6, ground := Ground.data }], guard := none }) (v := ?_) rfl (by kernel_rfl) (by kernel_rfl) (by kernel_rfl) (fun _ _ _ h => h) (Or.inl ⟨by rfl, ?_⟩) (by assumption) ?_
  rotate_left
  · (intro w hSw; (try dsimp only at hSw); go_simp; try with_reducible rfl)
  try simp only [Act.put, List.setIfInBounds_toArray, List.set_cons_zero, List.set_cons_succ]
  refine wpAnyH_take (i := 8) (oi := { dst := some 30, op := Op.extract (Operand.tmp 22) 1, type := 4, pos := "question.go:21", after := #[{ on := 6, ground := Ground.data }, { on := 9, ground := Ground.gcOnly Departure.lateStores }], guard := none }) (v := ?_) rfl (by kernel_rfl) (by kernel_rfl) (by kernel_rfl) (fun _ _ _ h => h) (Or.inl ⟨by rfl, ?_⟩) (by assumption) ?_
  rotate_left
  · (intro w hSw; (try dsimp only at hSw); go_simp; try with_reducible rfl)
  try simp only [Act.put, List.setIfInBounds_toArray, List.set_cons_zero, List.set_cons_succ]
  refine wpAnyH_take (i := 9) (oi := { dst := some 6, op := Op.assign (Operand.tmp 29), type := 65, pos := "question.go:21", after := #[{ on := 7, ground := Ground.data }, { on := 1, ground := Ground.chain }, { on := 0, ground := Ground.phase }, { on := 1, ground := Ground.phase }, { on := 2, ground := Ground.phase }, { on := 3, ground := Ground.phase }, { on := 4, ground := Ground.phase }, { on := 5, ground := Ground.phase }, { on := 6, ground := Ground.phase }, { on := 7, ground := Ground.phase }, { on := 8, ground := Ground.textOnly Departure.lateStores }], guard := none }) (v := ?_) rfl (by kernel_rfl) (by kernel_rfl) (by kernel_rfl) (fun _ _ _ h => h) (Or.inl ⟨by rfl, ?_⟩) (by assumption) ?_
  rotate_left
  · (intro w hSw; (try dsimp only at hSw); go_simp; try with_reducible rfl)
  try simp only [Act.put, List.setIfInBounds_toArray, List.set_cons_zero, List.set_cons_succ]
  refine wpAnyH_take (i := 10) (oi := { dst := some 7, op := Op.assign (Operand.tmp 30), type := 4, pos := "question.go:21", after := #[{ on := 8, ground := Ground.data }, { on := 9, ground := Ground.chain }, { on := 0, ground := Ground.phase }, { on := 1, ground := Ground.phase }, { on := 2, ground := Ground.phase }, { on := 3, ground := Ground.phase }, { on := 4, ground := Ground.phase }, { on := 5, ground := Ground.phase }, { on := 6, ground := Ground.phase }, { on := 7, ground := Ground.phase }, { on := 8, ground := Ground.phase }, { on := 9, ground := Ground.phase }], guard := none }) (v := ?_) rfl (by kernel_rfl) (by kernel_rfl) (by kernel_rfl) (fun _ _ _ h => h) (Or.inl ⟨by rfl, ?_⟩) (by assumption) ?_
  rotate_left
  · (intro w hSw; (try dsimp only at hSw); go_simp; try with_reducible rfl)
  try simp only [Act.put, List.setIfInBounds_toArray, List.set_cons_zero, List.set_cons_succ]
  refine wpAnyH_done (by kernel_rfl) ?_ _
  clear hHeld
  have HB3 := HB2
  have c1 := cell_kept HB3.out C1.out
  go_wp2_with fail
  refine (q_f (HT.out.kept HB3.out) hT HK.out HC0.out HC1.out y hy).mono ?_
  rintro e w3 ⟨rfl, hb3⟩
  have HB4 := Lib.hid (HB3.out.trans (hb3.mono HB3.out.size))
  clear hb3
  go_wp2_with fail
  go_ret2
  exact ⟨by rw [HV.out]; rfl, HB4.out⟩
set_option maxRecDepth 100000 in
set_option maxHeartbeats 4000000 in
theorem hold2_4 {w : World} {b : Nat} {n : Nd} {v0 v1 v2 v3 : Value} (h : TreeX w b n v0 v1 v2 v3) (hT : Tr n) {K : Bool → ByteArray → UInt8} (hK : Orc n K) {v : Value} (y : ByteArray) (hy : y.size ≤ 40000) (hx : PlR w v [sD, y]) : Calls Tryz.prog 21 #[.iface 28 (.pointer (some ⟨b, 0, none⟩)), v] w fun e w' => e = .returned (ansV (holdsD K [sD, y])) ∧ Below w.heap.size w w' := by
  have HV : Hid (ansV (holdsD K [sD, y]) = .tuple #[.bool (decide (K true y = 2)), .bool true]) := Lib.hid (by rfl)
  have HLK : Hid (∀ wx r g g1, wx.heap[r]? = some (.map (tab (qs g g1)) 7) → (Instr.lookup 67 (.map (some r)) (.string sD) true).run Tryz.prog wx = .ok (.tuple #[.func (.func 53) #[] #[.pointer (some ⟨g1, 0, none⟩)], .bool true]) wx) := Lib.hid fun wx r g g1 hr => by
    rcases lookup_q wx r 7 sD (qs g g1) hr with ⟨_, q⟩ | ⟨p, hp, e, q⟩
    · exact absurd rfl (q (⟨#[45, 100]⟩, .func (.func 53) #[] #[.pointer (some ⟨g1, 0, none⟩)]) (by unfold qs; simp))
    · simp only [qs, List.mem_cons, List.not_mem_nil, or_false] at hp
      rcases hp with rfl | rfl | rfl | rfl | rfl | rfl | rfl <;> first | exact q | exact absurd e (by dsimp only; decide)
  obtain ⟨bb, oo, c, rfl, h1, h2, hc⟩ := pl_parts hx
  have HX := Lib.hid hx
  have C0 : Hid (w.cell? ⟨bb, oo, none⟩ = some (.string sD)) := Lib.hid (hc 0 (by simp))
  have C1 : Hid (w.cell? ⟨bb, oo + 1, none⟩ = some (.string y)) := Lib.hid (hc 1 (by simp))
  have h3 : 2 ≤ c := by simpa using h1
  have h4 : c ≤ 9223372036854775807 := by unfold maxLen at h2; omega
  have HT := Lib.hid h
  have HK := Lib.hid hK
  clear hc hx h1 h2 h hK
  rw [show ([y] : List ByteArray).length + 1 = 2 from rfl]
  generalize sD = x at C0 HX HLK HV ⊢
  go_enter Tryz.func21, Tryz.ntmps21
  go_upto_region 7 with fail
  refine wp_region_held_drew (S := (fun wx => Below w.heap.size w wx ∧ wx.cell? ⟨bb, oo, none⟩ = some (.string x))) (by kernel_rfl) ⟨(Below.refl _ _).drew, C0.out⟩ (fun hHeld => ?_)
  refine wpAnyH_take (i := 0) (oi := { dst := some 23, op := Op.move (Operand.tmp 0), type := 46, pos := "question.go:21", after := #[], guard := none }) (v := ?_) rfl (by kernel_rfl) (by kernel_rfl) (by kernel_rfl) (fun _ _ _ h => h) (Or.inl ⟨by rfl, ?_⟩) (by assumption) ?_
  rotate_left
  · (intro w hSw; (try dsimp only at hSw); go_simp; try with_reducible rfl)
  try simp only [Act.put, List.setIfInBounds_toArray, List.set_cons_zero, List.set_cons_succ]
  refine wpAnyH_take (i := 2) (oi := { dst := some 25, op := Op.move (Operand.tmp 1), type := 22, pos := "question.go:21", after := #[], guard := none }) (v := ?_) rfl (by kernel_rfl) (by kernel_rfl) (by kernel_rfl) (fun _ _ _ h => h) (Or.inl ⟨by rfl, ?_⟩) (by assumption) ?_
  rotate_left
  · (intro w hSw; (try dsimp only at hSw); go_simp; try with_reducible rfl)
  try simp only [Act.put, List.setIfInBounds_toArray, List.set_cons_zero, List.set_cons_succ]
  refine wpAnyH_take (i := 3) (oi := { dst := some 26, op := Op.indexAddr 22 (Operand.tmp 25) (Operand.const (Value.int IntKind.i64 0)), type := 0, pos := "question.go:21", after := #[{ on := 2, ground := Ground.data }], guard := none }) (v := ?_) rfl (by kernel_rfl) (by kernel_rfl) (by kernel_rfl) (fun _ _ _ h => h) (Or.inl ⟨by rfl, ?_⟩) (by assumption) ?_
  rotate_left
  · (intro w hSw; (try dsimp only at hSw); go_simp; try with_reducible rfl)
  try simp only [Act.put, List.setIfInBounds_toArray, List.set_cons_zero, List.set_cons_succ]
  refine wpAnyH_take (i := 4) (oi := { dst := some 27, op := Op.load 9 (Operand.tmp 26), type := 9, pos := "question.go:21", after := #[{ on := 3, ground := Ground.data }], guard := none }) (v := ?_) rfl (by kernel_rfl) (by kernel_rfl) (by kernel_rfl) (fun _ _ _ h => h) (Or.inl ⟨by rfl, ?_⟩) (by assumption) ?_
  rotate_left
  · (intro w hSw; (try dsimp only at hSw); go_simp; try with_reducible rfl)
  try simp only [Act.put, List.setIfInBounds_toArray, List.set_cons_zero, List.set_cons_succ]
  refine wpAnyH_ready (rs := [1]) (by kernel_rfl) (by simp) ?_
  refine AllReadyH.cons (o := { dst := some 24, op := Op.call { callee := Callee.value (Operand.func 32), args := #[Operand.tmp 23], argTypes := #[46] }, type := 67, pos := "question.go:21", after := #[{ on := 0, ground := Ground.data }], guard := none }) rfl (fun K hK => ?_) AllReadyH.nil
  go_simp
  (go_at_call 32; refine (questions_any _ b).mono ?_; rintro e w2 ⟨g, g1, r, rfl, hm, hc0, hc1, hb2⟩)
  have HM := Lib.hid hm
  have HC0 := Lib.hid hc0
  have HC1 := Lib.hid hc1
  have HB2 : Hid (Below w.heap.size w w2) := Lib.hid ((Below.refl _ _).drew.trans hb2)
  clear hm hc0 hc1 hb2
  go_wp2_with fail
  refine hK.out _ _ (by exact ⟨HB2.out, cell_kept HB2.out C0.out⟩) (fun hHeld => ?_)
  clear hK K
  try simp only [Act.put, List.setIfInBounds_toArray, List.set_cons_zero, List.set_cons_succ]
  refine wpAnyH_ready (rs := [5]) (by kernel_rfl) (by simp) ?_
  refine AllReadyH.cons (o := { dst := some 28, op := Op.lookup 67 (Operand.tmp 24) (Operand.tmp 27) true, type := 66, pos := "question.go:21", after := #[{ on := 1, ground := Ground.data }, { on := 4, ground := Ground.data }], guard := none }) rfl (fun K hK => ?_) AllReadyH.nil
  have hlk := HLK.out w2 r g g1 HM.out
  go_simp
  try rw [hlk]
  go_wp2_with fail
  clear hlk
  refine hK.out _ _ (by exact ⟨HB2.out, cell_kept HB2.out C0.out⟩) (fun hHeld => ?_)
  clear hK K
  try simp only [Act.put, List.setIfInBounds_toArray, List.set_cons_zero, List.set_cons_succ]
  refine wpAnyH_take (i := 6) (oi := { dst := some 22, op := Op.move (Operand.tmp 28), type := 66, pos := "question.go:21", after := #[{ on := 5, ground := Ground.data }], guard := none }) (v := ?_) rfl (by kernel_rfl) (by kernel_rfl) (by kernel_rfl) (fun _ _ _ h => h) (Or.inl ⟨by rfl, ?_⟩) (by assumption) ?_
  rotate_left
  · (intro w hSw; (try dsimp only at hSw); go_simp; try with_reducible rfl)
  try simp only [Act.put, List.setIfInBounds_toArray, List.set_cons_zero, List.set_cons_succ]
  refine wpAnyH_take (i := 7) (oi := { dst := some 29, op := Op.extract (Operand.tmp 22) 0, type := 65, pos := "question.go:21", after := #[{ on := 6, ground := Ground.data }], guard := none }) (v := ?_) rfl (by kernel_rfl) (by kernel_rfl) (by kernel_rfl) (fun _ _ _ h => h) (Or.inl ⟨by rfl, ?_⟩) (by assumption) ?_
  rotate_left
  · (intro w hSw; (try dsimp only at hSw); go_simp; try with_reducible rfl)
  try simp only [Act.put, List.setIfInBounds_toArray, List.set_cons_zero, List.set_cons_succ]
  refine wpAnyH_take (i := 8) (oi := { dst := some 30, op := Op.extract (Operand.tmp 22) 1, type := 4, pos := "question.go:21", after := #[{ on := 6, ground := Ground.data }, { on := 9, ground := Ground.gcOnly Departure.lateStores }], guard := none }) (v := ?_) rfl (by kernel_rfl) (by kernel_rfl) (by kernel_rfl) (fun _ _ _ h => h) (Or.inl ⟨by rfl, ?_⟩) (by assumption) ?_
  rotate_left
  · (intro w hSw; (try dsimp only at hSw); go_simp; try with_reducible rfl)
  try simp only [Act.put, List.setIfInBounds_toArray, List.set_cons_zero, List.set_cons_succ]
  refine wpAnyH_take (i := 9) (oi := { dst := some 6, op := Op.assign (Operand.tmp 29), type := 65, pos := "question.go:21", after := #[{ on := 7, ground := Ground.data }, { on := 1, ground := Ground.chain }, { on := 0, ground := Ground.phase }, { on := 1, ground := Ground.phase }, { on := 2, ground := Ground.phase }, { on := 3, ground := Ground.phase }, { on := 4, ground := Ground.phase }, { on := 5, ground := Ground.phase }, { on := 6, ground := Ground.phase }, { on := 7, ground := Ground.phase }, { on := 8, ground := Ground.textOnly Departure.lateStores }], guard := none }) (v := ?_) rfl (by kernel_rfl) (by kernel_rfl) (by kernel_rfl) (fun _ _ _ h => h) (Or.inl ⟨by rfl, ?_⟩) (by assumption) ?_
  rotate_left
  · (intro w hSw; (try dsimp only at hSw); go_simp; try with_reducible rfl)
  try simp only [Act.put, List.setIfInBounds_toArray, List.set_cons_zero, List.set_cons_succ]
  refine wpAnyH_take (i := 10) (oi := { dst := some 7, op := Op.assign (Operand.tmp 30), type := 4, pos := "question.go:21", after := #[{ on := 8, ground := Ground.data }, { on := 9, ground := Ground.chain }, { on := 0, ground := Ground.phase }, { on := 1, ground := Ground.phase }, { on := 2, ground := Ground.phase }, { on := 3, ground := Ground.phase }, { on := 4, ground := Ground.phase }, { on := 5, ground := Ground.phase }, { on := 6, ground := Ground.phase }, { on := 7, ground := Ground.phase }, { on := 8, ground := Ground.phase }, { on := 9, ground := Ground.phase }], guard := none }) (v := ?_) rfl (by kernel_rfl) (by kernel_rfl) (by kernel_rfl) (fun _ _ _ h => h) (Or.inl ⟨by rfl, ?_⟩) (by assumption) ?_
  rotate_left
  · (intro w hSw; (try dsimp only at hSw); go_simp; try with_reducible rfl)
  try simp only [Act.put, List.setIfInBounds_toArray, List.set_cons_zero, List.set_cons_succ]
  refine wpAnyH_done (by kernel_rfl) ?_ _
  clear hHeld
  have HB3 := HB2
  have c1 := cell_kept HB3.out C1.out
  go_wp2_with fail
  refine (q_d (HT.out.kept HB3.out) hT HK.out HC0.out HC1.out y hy).mono ?_
  rintro e w3 ⟨rfl, hb3⟩
  have HB4 := Lib.hid (HB3.out.trans (hb3.mono HB3.out.size))
  clear hb3
  go_wp2_with fail
  go_ret2
  exact ⟨by rw [HV.out]; rfl, HB4.out⟩
set_option maxRecDepth 100000 in
set_option maxHeartbeats 4000000 in
theorem hold2_5 {w : World} {b : Nat} {n : Nd} {v0 v1 v2 v3 : Value} (h : TreeX w b n v0 v1 v2 v3) (hT : Tr n) {K : Bool → ByteArray → UInt8} (hK : Orc n K) {v : Value} (y : ByteArray) (hy : y.size ≤ 40000) (hx : PlR w v [sL, y]) : Calls Tryz.prog 21 #[.iface 28 (.pointer (some ⟨b, 0, none⟩)), v] w fun e w' => e = .returned (ansV (holdsD K [sL, y])) ∧ Below w.heap.size w w' := by
  have HV : Hid (ansV (holdsD K [sL, y]) = .tuple #[.bool (decide (K false y = 3)), .bool true]) := Lib.hid (by rfl)
  have HLK : Hid (∀ wx r g g1, wx.heap[r]? = some (.map (tab (qs g g1)) 7) → (Instr.lookup 67 (.map (some r)) (.string sL) true).run Tryz.prog wx = .ok (.tuple #[.func (.func 47) #[] #[.pointer (some ⟨g, 0, none⟩)], .bool true]) wx) := Lib.hid fun wx r g g1 hr => by
    rcases lookup_q wx r 7 sL (qs g g1) hr with ⟨_, q⟩ | ⟨p, hp, e, q⟩
    · exact absurd rfl (q (⟨#[45, 76]⟩, .func (.func 47) #[] #[.pointer (some ⟨g, 0, none⟩)]) (by unfold qs; simp))
    · simp only [qs, List.mem_cons, List.not_mem_nil, or_false] at hp
      rcases hp with rfl | rfl | rfl | rfl | rfl | rfl | rfl <;> first | exact q | exact absurd e (by dsimp only; decide)
  obtain ⟨bb, oo, c, rfl, h1, h2, hc⟩ := pl_parts hx
  have HX := Lib.hid hx
  have C0 : Hid (w.cell? ⟨bb, oo, none⟩ = some (.string sL)) := Lib.hid (hc 0 (by simp))
  have C1 : Hid (w.cell? ⟨bb, oo + 1, none⟩ = some (.string y)) := Lib.hid (hc 1 (by simp))
  have h3 : 2 ≤ c := by simpa using h1
  have h4 : c ≤ 9223372036854775807 := by unfold maxLen at h2; omega
  have HT := Lib.hid h
  have HK := Lib.hid hK
  clear hc hx h1 h2 h hK
  rw [show ([y] : List ByteArray).length + 1 = 2 from rfl]
  generalize sL = x at C0 HX HLK HV ⊢
  go_enter Tryz.func21, Tryz.ntmps21
  go_upto_region 7 with fail
  refine wp_region_held_drew (S := (fun wx => Below w.heap.size w wx ∧ wx.cell? ⟨bb, oo, none⟩ = some (.string x))) (by kernel_rfl) ⟨(Below.refl _ _).drew, C0.out⟩ (fun hHeld => ?_)
  refine wpAnyH_take (i := 0) (oi := { dst := some 23, op := Op.move (Operand.tmp 0), type := 46, pos := "question.go:21", after := #[], guard := none }) (v := ?_) rfl (by kernel_rfl) (by kernel_rfl) (by kernel_rfl) (fun _ _ _ h => h) (Or.inl ⟨by rfl, ?_⟩) (by assumption) ?_
  rotate_left
  · (intro w hSw; (try dsimp only at hSw); go_simp; try with_reducible rfl)
  try simp only [Act.put, List.setIfInBounds_toArray, List.set_cons_zero, List.set_cons_succ]
  refine wpAnyH_take (i := 2) (oi := { dst := some 25, op := Op.move (Operand.tmp 1), type := 22, pos := "question.go:21", after := #[], guard := none }) (v := ?_) rfl (by kernel_rfl) (by kernel_rfl) (by kernel_rfl) (fun _ _ _ h => h) (Or.inl ⟨by rfl, ?_⟩) (by assumption) ?_
  rotate_left
  · (intro w hSw; (try dsimp only at hSw); go_simp; try with_reducible rfl)
  try simp only [Act.put, List.setIfInBounds_toArray, List.set_cons_zero, List.set_cons_succ]
  refine wpAnyH_take (i := 3) (oi := { dst := some 26, op := Op.indexAddr 22 (Operand.tmp 25) (Operand.const (Value.int IntKind.i64 0)), type := 0, pos := "question.go:21", after := #[{ on := 2, ground := Ground.data }], guard := none }) (v := ?_) rfl (by kernel_rfl) (by kernel_rfl) (by kernel_rfl) (fun _ _ _ h => h) (Or.inl ⟨by rfl, ?_⟩) (by assumption) ?_
  rotate_left
  · (intro w hSw; (try dsimp only at hSw); go_simp; try with_reducible rfl)
  try simp only [Act.put, List.setIfInBounds_toArray, List.set_cons_zero, List.set_cons_succ]
  refine wpAnyH_take (i := 4) (oi := { dst := some 27, op := Op.load 9 (Operand.tmp 26), type := 9, pos := "question.go:21", after := #[{ on := 3, ground := Ground.data }], guard := none }) (v := ?_) rfl (by kernel_rfl) (by kernel_rfl) (by kernel_rfl) (fun _ _ _ h => h) (Or.inl ⟨by rfl, ?_⟩) (by assumption) ?_
  rotate_left
  · (intro w hSw; (try dsimp only at hSw); go_simp; try with_reducible rfl)
  try simp only [Act.put, List.setIfInBounds_toArray, List.set_cons_zero, List.set_cons_succ]
  refine wpAnyH_ready (rs := [1]) (by kernel_rfl) (by simp) ?_
  refine AllReadyH.cons (o := { dst := some 24, op := Op.call { callee := Callee.value (Operand.func 32), args := #[Operand.tmp 23], argTypes := #[46] }, type := 67, pos := "question.go:21", after := #[{ on := 0, ground := Ground.data }], guard := none }) rfl (fun K hK => ?_) AllReadyH.nil
  go_simp
  (go_at_call 32; refine (questions_any _ b).mono ?_; rintro e w2 ⟨g, g1, r, rfl, hm, hc0, hc1, hb2⟩)
  have HM := Lib.hid hm
  have HC0 := Lib.hid hc0
  have HC1 := Lib.hid hc1
  have HB2 : Hid (Below w.heap.size w w2) := Lib.hid ((Below.refl _ _).drew.trans hb2)
  clear hm hc0 hc1 hb2
  go_wp2_with fail
  refine hK.out _ _ (by exact ⟨HB2.out, cell_kept HB2.out C0.out⟩) (fun hHeld => ?_)
  clear hK K
  try simp only [Act.put, List.setIfInBounds_toArray, List.set_cons_zero, List.set_cons_succ]
  refine wpAnyH_ready (rs := [5]) (by kernel_rfl) (by simp) ?_
  refine AllReadyH.cons (o := { dst := some 28, op := Op.lookup 67 (Operand.tmp 24) (Operand.tmp 27) true, type := 66, pos := "question.go:21", after := #[{ on := 1, ground := Ground.data }, { on := 4, ground := Ground.data }], guard := none }) rfl (fun K hK => ?_) AllReadyH.nil
  have hlk := HLK.out w2 r g g1 HM.out
  go_simp
  try rw [hlk]
  go_wp2_with fail
  clear hlk
  refine hK.out _ _ (by exact ⟨HB2.out, cell_kept HB2.out C0.out⟩) (fun hHeld => ?_)
  clear hK K
  try simp only [Act.put, List.setIfInBounds_toArray, List.set_cons_zero, List.set_cons_succ]
  refine wpAnyH_take (i := 6) (oi := { dst := some 22, op := Op.move (Operand.tmp 28), type := 66, pos := "question.go:21", after := #[{ on := 5, ground := Ground.data }], guard := none }) (v := ?_) rfl (by kernel_rfl) (by kernel_rfl) (by kernel_rfl) (fun _ _ _ h => h) (Or.inl ⟨by rfl, ?_⟩) (by assumption) ?_
  rotate_left
  · (intro w hSw; (try dsimp only at hSw); go_simp; try with_reducible rfl)
  try simp only [Act.put, List.setIfInBounds_toArray, List.set_cons_zero, List.set_cons_succ]
  refine wpAnyH_take (i := 7) (oi := { dst := some 29, op := Op.extract (Operand.tmp 22) 0, type := 65, pos := "question.go:21", after := #[{ on := 6, ground := Ground.data }], guard := none }) (v := ?_) rfl (by kernel_rfl) (by kernel_rfl) (by kernel_rfl) (fun _ _ _ h => h) (Or.inl ⟨by rfl, ?_⟩) (by assumption) ?_
  rotate_left
  · (intro w hSw; (try dsimp only at hSw); go_simp; try with_reducible rfl)
  try simp only [Act.put, List.setIfInBounds_toArray, List.set_cons_zero, List.set_cons_succ]
  refine wpAnyH_take (i := 8) (oi := { dst := some 30, op := Op.extract (Operand.tmp 22) 1, type := 4, pos := "question.go:21", after := #[{ on := 6, ground := Ground.data }, { on := 9, ground := Ground.gcOnly Departure.lateStores }], guard := none }) (v := ?_) rfl (by kernel_rfl) (by kernel_rfl) (by kernel_rfl) (fun _ _ _ h => h) (Or.inl ⟨by rfl, ?_⟩) (by assumption) ?_
  rotate_left
  · (intro w hSw; (try dsimp only at hSw); go_simp; try with_reducible rfl)
  try simp only [Act.put, List.setIfInBounds_toArray, List.set_cons_zero, List.set_cons_succ]
  refine wpAnyH_take (i := 9) (oi := { dst := some 6, op := Op.assign (Operand.tmp 29), type := 65, pos := "question.go:21", after := #[{ on := 7, ground := Ground.data }, { on := 1, ground := Ground.chain }, { on := 0, ground := Ground.phase }, { on := 1, ground := Ground.phase }, { on := 2, ground := Ground.phase }, { on := 3, ground := Ground.phase }, { on := 4, ground := Ground.phase }, { on := 5, ground := Ground.phase }, { on := 6, ground := Ground.phase }, { on := 7, ground := Ground.phase }, { on := 8, ground := Ground.textOnly Departure.lateStores }], guard := none }) (v := ?_) rfl (by kernel_rfl) (by kernel_rfl) (by kernel_rfl) (fun _ _ _ h => h) (Or.inl ⟨by rfl, ?_⟩) (by assumption) ?_
  rotate_left
  · (intro w hSw; (try dsimp only at hSw); go_simp; try with_reducible rfl)
  try simp only [Act.put, List.setIfInBounds_toArray, List.set_cons_zero, List.set_cons_succ]
  refine wpAnyH_take (i := 10) (oi := { dst := some 7, op := Op.assign (Operand.tmp 30), type := 4, pos := "question.go:21", after := #[{ on := 8, ground := Ground.data }, { on := 9, ground := Ground.chain }, { on := 0, ground := Ground.phase }, { on := 1, ground := Ground.phase }, { on := 2, ground := Ground.phase }, { on := 3, ground := Ground.phase }, { on := 4, ground := Ground.phase }, { on := 5, ground := Ground.phase }, { on := 6, ground := Ground.phase }, { on := 7, ground := Ground.phase }, { on := 8, ground := Ground.phase }, { on := 9, ground := Ground.phase }], guard := none }) (v := ?_) rfl (by kernel_rfl) (by kernel_rfl) (by kernel_rfl) (fun _ _ _ h => h) (Or.inl ⟨by rfl, ?_⟩) (by assumption) ?_
  rotate_left
  · (intro w hSw; (try dsimp only at hSw); go_simp; try with_reducible rfl)
  try simp only [Act.put, List.setIfInBounds_toArray, List.set_cons_zero, List.set_cons_succ]
  refine wpAnyH_done (by kernel_rfl) ?_ _
  clear hHeld
  have HB3 := HB2
  have c1 := cell_kept HB3.out C1.out
  go_wp2_with fail
  refine (q_link (HT.out.kept HB3.out) hT HK.out HC0.out y hy).mono ?_
  rintro e w3 ⟨rfl, hb3⟩
  have HB4 := Lib.hid (HB3.out.trans (hb3.mono HB3.out.size))
  clear hb3
  go_wp2_with fail
  go_ret2
  exact ⟨by rw [HV.out]; rfl, HB4.out⟩
set_option maxRecDepth 100000 in
set_option maxHeartbeats 4000000 in
theorem hold2_6 {w : World} {b : Nat} {n : Nd} {v0 v1 v2 v3 : Value} (h : TreeX w b n v0 v1 v2 v3) (hT : Tr n) {K : Bool → ByteArray → UInt8} (hK : Orc n K) {v : Value} (y : ByteArray) (hy : y.size ≤ 40000) (hx : PlR w v [sH, y]) : Calls Tryz.prog 21 #[.iface 28 (.pointer (some ⟨b, 0, none⟩)), v] w fun e w' => e = .returned (ansV (holdsD K [sH, y])) ∧ Below w.heap.size w w' := by
  have HV : Hid (ansV (holdsD K [sH, y]) = .tuple #[.bool (decide (K false y = 3)), .bool true]) := Lib.hid (by rfl)
  have HLK : Hid (∀ wx r g g1, wx.heap[r]? = some (.map (tab (qs g g1)) 7) → (Instr.lookup 67 (.map (some r)) (.string sH) true).run Tryz.prog wx = .ok (.tuple #[.func (.func 47) #[] #[.pointer (some ⟨g, 0, none⟩)], .bool true]) wx) := Lib.hid fun wx r g g1 hr => by
    rcases lookup_q wx r 7 sH (qs g g1) hr with ⟨_, q⟩ | ⟨p, hp, e, q⟩
    · exact absurd rfl (q (⟨#[45, 104]⟩, .func (.func 47) #[] #[.pointer (some ⟨g, 0, none⟩)]) (by unfold qs; simp))
    · simp only [qs, List.mem_cons, List.not_mem_nil, or_false] at hp
      rcases hp with rfl | rfl | rfl | rfl | rfl | rfl | rfl <;> first | exact q | exact absurd e (by dsimp only; decide)
  obtain ⟨bb, oo, c, rfl, h1, h2, hc⟩ := pl_parts hx
  have HX := Lib.hid hx
  have C0 : Hid (w.cell? ⟨bb, oo, none⟩ = some (.string sH)) := Lib.hid (hc 0 (by simp))
  have C1 : Hid (w.cell? ⟨bb, oo + 1, none⟩ = some (.string y)) := Lib.hid (hc 1 (by simp))
  have h3 : 2 ≤ c := by simpa using h1
  have h4 : c ≤ 9223372036854775807 := by unfold maxLen at h2; omega
  have HT := Lib.hid h
  have HK := Lib.hid hK
  clear hc hx h1 h2 h hK
  rw [show ([y] : List ByteArray).length + 1 = 2 from rfl]
  generalize sH = x at C0 HX HLK HV ⊢
  go_enter Tryz.func21, Tryz.ntmps21
  go_upto_region 7 with fail
  refine wp_region_held_drew (S := (fun wx => Below w.heap.size w wx ∧ wx.cell? ⟨bb, oo, none⟩ = some (.string x))) (by kernel_rfl) ⟨(Below.refl _ _).drew, C0.out⟩ (fun hHeld => ?_)
  refine wpAnyH_take (i := 0) (oi := { dst := some 23, op := Op.move (Operand.tmp 0), type := 46, pos := "question.go:21", after := #[], guard := none }) (v := ?_) rfl (by kernel_rfl) (by kernel_rfl) (by kernel_rfl) (fun _ _ _ h => h) (Or.inl ⟨by rfl, ?_⟩) (by assumption) ?_
  rotate_left
  · (intro w hSw; (try dsimp only at hSw); go_simp; try with_reducible rfl)
  try simp only [Act.put, List.setIfInBounds_toArray, List.set_cons_zero, List.set_cons_succ]
  refine wpAnyH_take (i := 2) (oi := { dst := some 25, op := Op.move (Operand.tmp 1), type := 22, pos := "question.go:21", after := #[], guard := none }) (v := ?_) rfl (by kernel_rfl) (by kernel_rfl) (by kernel_rfl) (fun _ _ _ h => h) (Or.inl ⟨by rfl, ?_⟩) (by assumption) ?_
  rotate_left
  · (intro w hSw; (try dsimp only at hSw); go_simp; try with_reducible rfl)
  try simp only [Act.put, List.setIfInBounds_toArray, List.set_cons_zero, List.set_cons_succ]
  refine wpAnyH_take (i := 3) (oi := { dst := some 26, op := Op.indexAddr 22 (Operand.tmp 25) (Operand.const (Value.int IntKind.i64 0)), type := 0, pos := "question.go:21", after := #[{ on := 2, ground := Ground.data }], guard := none }) (v := ?_) rfl (by kernel_rfl) (by kernel_rfl) (by kernel_rfl) (fun _ _ _ h => h) (Or.inl ⟨by rfl, ?_⟩) (by assumption) ?_
  rotate_left
  · (intro w hSw; (try dsimp only at hSw); go_simp; try with_reducible rfl)
  try simp only [Act.put, List.setIfInBounds_toArray, List.set_cons_zero, List.set_cons_succ]
  refine wpAnyH_take (i := 4) (oi := { dst := some 27, op := Op.load 9 (Operand.tmp 26), type := 9, pos := "question.go:21", after := #[{ on := 3, ground := Ground.data }], guard := none }) (v := ?_) rfl (by kernel_rfl) (by kernel_rfl) (by kernel_rfl) (fun _ _ _ h => h) (Or.inl ⟨by rfl, ?_⟩) (by assumption) ?_
  rotate_left
  · (intro w hSw; (try dsimp only at hSw); go_simp; try with_reducible rfl)
  try simp only [Act.put, List.setIfInBounds_toArray, List.set_cons_zero, List.set_cons_succ]
  refine wpAnyH_ready (rs := [1]) (by kernel_rfl) (by simp) ?_
  refine AllReadyH.cons (o := { dst := some 24, op := Op.call { callee := Callee.value (Operand.func 32), args := #[Operand.tmp 23], argTypes := #[46] }, type := 67, pos := "question.go:21", after := #[{ on := 0, ground := Ground.data }], guard := none }) rfl (fun K hK => ?_) AllReadyH.nil
  go_simp
  (go_at_call 32; refine (questions_any _ b).mono ?_; rintro e w2 ⟨g, g1, r, rfl, hm, hc0, hc1, hb2⟩)
  have HM := Lib.hid hm
  have HC0 := Lib.hid hc0
  have HC1 := Lib.hid hc1
  have HB2 : Hid (Below w.heap.size w w2) := Lib.hid ((Below.refl _ _).drew.trans hb2)
  clear hm hc0 hc1 hb2
  go_wp2_with fail
  refine hK.out _ _ (by exact ⟨HB2.out, cell_kept HB2.out C0.out⟩) (fun hHeld => ?_)
  clear hK K
  try simp only [Act.put, List.setIfInBounds_toArray, List.set_cons_zero, List.set_cons_succ]
  refine wpAnyH_ready (rs := [5]) (by kernel_rfl) (by simp) ?_
  refine AllReadyH.cons (o := { dst := some 28, op := Op.lookup 67 (Operand.tmp 24) (Operand.tmp 27) true, type := 66, pos := "question.go:21", after := #[{ on := 1, ground := Ground.data }, { on := 4, ground := Ground.data }], guard := none }) rfl (fun K hK => ?_) AllReadyH.nil
  have hlk := HLK.out w2 r g g1 HM.out
  go_simp
  try rw [hlk]
  go_wp2_with fail
  clear hlk
  refine hK.out _ _ (by exact ⟨HB2.out, cell_kept HB2.out C0.out⟩) (fun hHeld => ?_)
  clear hK K
  try simp only [Act.put, List.setIfInBounds_toArray, List.set_cons_zero, List.set_cons_succ]
  refine wpAnyH_take (i := 6) (oi := { dst := some 22, op := Op.move (Operand.tmp 28), type := 66, pos := "question.go:21", after := #[{ on := 5, ground := Ground.data }], guard := none }) (v := ?_) rfl (by kernel_rfl) (by kernel_rfl) (by kernel_rfl) (fun _ _ _ h => h) (Or.inl ⟨by rfl, ?_⟩) (by assumption) ?_
  rotate_left
  · (intro w hSw; (try dsimp only at hSw); go_simp; try with_reducible rfl)
  try simp only [Act.put, List.setIfInBounds_toArray, List.set_cons_zero, List.set_cons_succ]
  refine wpAnyH_take (i := 7) (oi := { dst := some 29, op := Op.extract (Operand.tmp 22) 0, type := 65, pos := "question.go:21", after := #[{ on := 6, ground := Ground.data }], guard := none }) (v := ?_) rfl (by kernel_rfl) (by kernel_rfl) (by kernel_rfl) (fun _ _ _ h => h) (Or.inl ⟨by rfl, ?_⟩) (by assumption) ?_
  rotate_left
  · (intro w hSw; (try dsimp only at hSw); go_simp; try with_reducible rfl)
  try simp only [Act.put, List.setIfInBounds_toArray, List.set_cons_zero, List.set_cons_succ]
  refine wpAnyH_take (i := 8) (oi := { dst := some 30, op := Op.extract (Operand.tmp 22) 1, type := 4, pos := "question.go:21", after := #[{ on := 6, ground := Ground.data }, { on := 9, ground := Ground.gcOnly Departure.lateStores }], guard := none }) (v := ?_) rfl (by kernel_rfl) (by kernel_rfl) (by kernel_rfl) (fun _ _ _ h => h) (Or.inl ⟨by rfl, ?_⟩) (by assumption) ?_
  rotate_left
  · (intro w hSw; (try dsimp only at hSw); go_simp; try with_reducible rfl)
  try simp only [Act.put, List.setIfInBounds_toArray, List.set_cons_zero, List.set_cons_succ]
  refine wpAnyH_take (i := 9) (oi := { dst := some 6, op := Op.assign (Operand.tmp 29), type := 65, pos := "question.go:21", after := #[{ on := 7, ground := Ground.data }, { on := 1, ground := Ground.chain }, { on := 0, ground := Ground.phase }, { on := 1, ground := Ground.phase }, { on := 2, ground := Ground.phase }, { on := 3, ground := Ground.phase }, { on := 4, ground := Ground.phase }, { on := 5, ground := Ground.phase }, { on := 6, ground := Ground.phase }, { on := 7, ground := Ground.phase }, { on := 8, ground := Ground.textOnly Departure.lateStores }], guard := none }) (v := ?_) rfl (by kernel_rfl) (by kernel_rfl) (by kernel_rfl) (fun _ _ _ h => h) (Or.inl ⟨by rfl, ?_⟩) (by assumption) ?_
  rotate_left
  · (intro w hSw; (try dsimp only at hSw); go_simp; try with_reducible rfl)
  try simp only [Act.put, List.setIfInBounds_toArray, List.set_cons_zero, List.set_cons_succ]
  refine wpAnyH_take (i := 10) (oi := { dst := some 7, op := Op.assign (Operand.tmp 30), type := 4, pos := "question.go:21", after := #[{ on := 8, ground := Ground.data }, { on := 9, ground := Ground.chain }, { on := 0, ground := Ground.phase }, { on := 1, ground := Ground.phase }, { on := 2, ground := Ground.phase }, { on := 3, ground := Ground.phase }, { on := 4, ground := Ground.phase }, { on := 5, ground := Ground.phase }, { on := 6, ground := Ground.phase }, { on := 7, ground := Ground.phase }, { on := 8, ground := Ground.phase }, { on := 9, ground := Ground.phase }], guard := none }) (v := ?_) rfl (by kernel_rfl) (by kernel_rfl) (by kernel_rfl) (fun _ _ _ h => h) (Or.inl ⟨by rfl, ?_⟩) (by assumption) ?_
  rotate_left
  · (intro w hSw; (try dsimp only at hSw); go_simp; try with_reducible rfl)
  try simp only [Act.put, List.setIfInBounds_toArray, List.set_cons_zero, List.set_cons_succ]
  refine wpAnyH_done (by kernel_rfl) ?_ _
  clear hHeld
  have HB3 := HB2
  have c1 := cell_kept HB3.out C1.out
  go_wp2_with fail
  refine (q_link (HT.out.kept HB3.out) hT HK.out HC0.out y hy).mono ?_
  rintro e w3 ⟨rfl, hb3⟩
  have HB4 := Lib.hid (HB3.out.trans (hb3.mono HB3.out.size))
  clear hb3
  go_wp2_with fail
  go_ret2
  exact ⟨by rw [HV.out]; rfl, HB4.out⟩
end Go.Proofs.YtfilbknnpjbmcaaGreat
