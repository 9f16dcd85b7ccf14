/- Walks of package probe: its calls. -/
import Derived.Test.YtfilbknnpjbmcaaGreatKa42
import Derived.Deep.RegionHeld3
namespace Go.Proofs.YtfilbknnpjbmcaaGreat
open Go.RowKit Px Nx Wk Pr
set_option maxHeartbeats 4000000 in
theorem pisNone_any {w : World} {b : Nat} {n : Nd} {v0 v1 v2 v3 : Value} (h : TreeX w b n v0 v1 v2 v3) (hT : Tr n) :
    Calls Tryz.prog 17 #[.iface 28 (.pointer (some ⟨b, 0, none⟩))] w fun e w' => e = .returned (.bool false) ∧ Below w.heap.size w w' := by
  have HF := Lib.hid (wfind_any h hT.well (by have := hT.girth; omega) hT.kind ⟨#[47]⟩ (of_decide_eq_true (by kernel_rfl)))
  clear h
  go_enter Tryz.func17, Tryz.ntmps17
  go_wp2_with fail
  refine HF.out.mono ?_
  rintro e w1 ⟨⟨o, ho, hv⟩, hb⟩
  have HB := Lib.hid hb
  clear hb
  cases o with
  | err e1 =>
    have hv' : e = .returned (.tuple #[.slice none 0 0, .int .u8 0, .int .i64 e1]) := hv
    subst hv'
    have e0 : (e1 == 2) = false := by rcases way_err ho e1 rfl with rfl | rfl | rfl <;> rfl
    clear ho
    go_wp2_with fail
    go_ret
    exact ⟨rfl, HB.out⟩
  | ok p k =>
    obtain ⟨pv, he, hpv⟩ := hv
    subst he
    obtain ⟨pp, cp, rfl, _, _, _⟩ := hpv
    clear ho
    go_wp2_with fail
    go_ret
    exact ⟨rfl, HB.out⟩
def usB (s : ByteArray) : ByteArray := s ++ ⟨#[58, 32, 117, 115, 97, 103, 101, 10]⟩
set_option maxHeartbeats 4000000 in
theorem usage_any (w : World) (s : ByteArray) (hs : s.size ≤ 40000) : Calls Tryz.prog 31 #[.string s] w fun e w' => e = .returned (.tuple #[.int .i64 2, .string (usB s)]) ∧ Below w.heap.size w w' := by
  have h8 : (⟨#[58, 32, 117, 115, 97, 103, 101, 10]⟩ : ByteArray).size = 8 := rfl
  go_enter Tryz.func31, Tryz.ntmps31
  go_wp2_with fail
  go_ret2
  exact ⟨rfl, Below.refl _ _⟩
def testV (s : ByteArray) (r : Option Bool) : Value := .tuple #[.int .i64 (testD s r).1, .string (testD s r).2]
set_option maxHeartbeats 4000000 in
theorem runTest_any {w : World} {b : Nat} {n : Nd} {v0 v1 v2 v3 : Value} (h : TreeX w b n v0 v1 v2 v3) (hT : Tr n) {K : Bool → ByteArray → UInt8} (hK : Orc n K) {v : Value} (s : ByteArray) (hs : s.size ≤ 40000) (l : List ByteArray) (hl : ∀ x ∈ l, x.size ≤ 40000) (hx : PlR w v l) :
    Calls Tryz.prog 19 #[.iface 28 (.pointer (some ⟨b, 0, none⟩)), .string s, v] w fun e w' => e = .returned (testV s (holdsD K l)) ∧ Below w.heap.size w w' := by
  have HH := Lib.hid (holdsIn_any h hT hK l hl hx)
  obtain ⟨p, c, rfl, _, _, _⟩ := hx
  clear h hT hK
  generalize holdsD K l = r' at *
  go_enter Tryz.func19, Tryz.ntmps19
  go_wp2_with fail
  refine HH.out.mono ?_
  rintro e w1 ⟨he, hb⟩
  have HB := Lib.hid hb
  clear hb
  cases r' with
  | none =>
    have he : e = .returned (.tuple #[.bool false, .bool false]) := he
    subst he
    go_wp2_with fail
    refine (usage_any w1 s hs).mono ?_
    rintro e w2 ⟨rfl, hb⟩
    have HB2 := Lib.hid (HB.out.trans (hb.mono HB.out.size))
    clear hb
    go_wp2_with fail
    go_ret2
    exact ⟨rfl, HB2.out⟩
  | some r' =>
    have he : e = .returned (.tuple #[.bool r', .bool true]) := he
    subst he
    cases r' with
    | true =>
      go_wp2_with fail
      go_ret2
      exact ⟨rfl, HB.out⟩
    | false =>
      go_wp2_with fail
      go_ret2
      exact ⟨rfl, HB.out⟩
theorem pl_front {w : World} {p : Option Addr} {c m : Nat} {x : ByteArray} {l : List ByteArray} (h : PlR w (.slice p m c) (l ++ [x])) : PlR w (.slice p l.length c) l := by
  obtain ⟨p', c', e, hs, h1, h2⟩ := h
  cases e
  rw [List.length_append] at h1
  refine ⟨p, c, rfl, fun i hi => ?_, by simp at h1; omega, h2⟩
  obtain ⟨b, o, e, hc⟩ := hs i (by rw [List.length_append]; omega)
  refine ⟨b, o, e, ?_⟩
  rw [hc, List.getD_eq_getElem?_getD, List.getD_eq_getElem?_getD, List.getElem?_append_left hi]
set_option maxHeartbeats 8000000 in
theorem runBracket_any {w : World} {b : Nat} {n : Nd} {v0 v1 v2 v3 : Value} (h : TreeX w b n v0 v1 v2 v3) (hT : Tr n) {K : Bool → ByteArray → UInt8} (hK : Orc n K) {v : Value} (s : ByteArray) (hs : s.size ≤ 40000) (l : List ByteArray) (hl : ∀ x ∈ l, x.size ≤ 40000) (hx : PlR w v l) :
    Calls Tryz.prog 20 #[.iface 28 (.pointer (some ⟨b, 0, none⟩)), .string s, v] w fun e w' => e = .returned (testV s (shutD K l)) ∧ Below w.heap.size w w' := by
  rcases List.eq_nil_or_concat l with rfl | ⟨l', y, rfl⟩
  · obtain ⟨p, c, rfl, _, _, _⟩ := hx
    rw [List.length_nil]
    clear h hT hK
    go_enter Tryz.func20, Tryz.ntmps20
    go_wp2_with fail
    refine (usage_any w s hs).mono ?_
    rintro e w2 ⟨rfl, hb⟩
    have HB2 := Lib.hid hb
    clear hb
    go_wp2_with fail
    go_ret2
    exact ⟨rfl, HB2.out⟩
  rw [List.concat_eq_append] at *
  have hF := pl_front (m := l'.length + 1) (c := 0) (p := none) (w := w) (x := y) (l := l')
  have HX := Lib.hid hx
  have e1 : (l' ++ [y]).length = l'.length + 1 := by simp
  have HV : Hid (shutD K (l' ++ [y]) = if y = sShut then holdsD K l' else none) := Lib.hid (by
    unfold shutD
    rw [if_neg (by simp)]
    simp)
  obtain ⟨p, c, rfl, hst, h1, h2⟩ := hx
  have h4 : c ≤ 9223372036854775807 := by unfold maxLen at h2; omega
  obtain ⟨bb, oo, rfl, hc⟩ := hst l'.length (by simp)
  have c0 : w.cell? ⟨bb, oo + l'.length, none⟩ = some (.string y) := by
    have e2 : (l' ++ [y]).getD l'.length ByteArray.empty = y := by simp
    rw [e2] at hc
    exact hc
  have HF := Lib.hid (pl_front HX.out)
  have HR : Hid (∀ wx, Below w.heap.size w wx → Calls Tryz.prog 19 #[.iface 28 (.pointer (some ⟨b, 0, none⟩)), .string s, .slice (some ⟨bb, oo, none⟩) l'.length c] wx fun e w' => e = .returned (testV s (holdsD K l')) ∧ Below wx.heap.size wx w') := Lib.hid fun wx hb => runTest_any (h.kept hb) hT hK s hs l' (fun x hx => hl x (by simp [hx])) (HF.out.grown hb)
  have HE := Lib.hid (str_eq y sShut)
  rw [e1] at *
  clear hF HX hst hc h2 h hT hK hl e1 HF
  generalize l'.length = m at *
  have g0 : ¬ ((m : Int) < 0) := by omega
  by_cases hy : y = sShut
  · have e0 : (y.toList == ([93] : List UInt8)) = true := by
      have := HE.out
      rw [decide_eq_true hy] at this
      rw [← this, show sShut.toList = [93] from by rw [Lib.toList_data]; rfl]
    have HV2 := HV.out
    rw [if_pos hy] at HV2
    have HV3 := Lib.hid HV2
    clear HV2 HV HE hy
    go_enter Tryz.func20, Tryz.ntmps20
    go_wp2_with fail
    refine (HR.out w (Below.refl _ _)).mono ?_
    rintro e w2 ⟨rfl, hb⟩
    have HB2 := Lib.hid hb
    clear hb
    unfold testV
    go_wp2_with fail
    go_ret2
    exact ⟨by rw [HV3.out]; rfl, HB2.out⟩
  · have e0 : (y.toList == ([93] : List UInt8)) = false := by
      have := HE.out
      rw [decide_eq_false hy] at this
      rw [← this, show sShut.toList = [93] from by rw [Lib.toList_data]; rfl]
    have HV2 := HV.out
    rw [if_neg hy] at HV2
    have HV3 := Lib.hid HV2
    clear HV2 HV HE hy
    go_enter Tryz.func20, Tryz.ntmps20
    go_wp2_with fail
    refine (usage_any w s hs).mono ?_
    rintro e w2 ⟨rfl, hb⟩
    have HB2 := Lib.hid hb
    clear hb
    go_wp2_with fail
    go_ret2
    exact ⟨by rw [HV3.out]; rfl, HB2.out⟩
set_option maxHeartbeats 4000000 in
theorem pHolds_any {w : World} {b : Nat} {n : Nd} {v0 v1 v2 v3 : Value} (h : TreeX w b n v0 v1 v2 v3) (hT : Tr n) {K : Bool → ByteArray → UInt8} (hK : Orc n K) {v : Value} (l : List ByteArray) (hl : ∀ x ∈ l, x.size ≤ 40000) (hx : PlR w v l) :
    Calls Tryz.prog 11 #[.iface 28 (.pointer (some ⟨b, 0, none⟩)), v] w fun e w' => e = .returned (ansV (holdsD K l)) ∧ Below w.heap.size w w' := by
  have HN := Lib.hid (pisNone_any h hT)
  have HH : Hid (∀ wx, Below w.heap.size w wx → Calls Tryz.prog 21 #[.iface 28 (.pointer (some ⟨b, 0, none⟩)), v] wx fun e w' => e = .returned (ansV (holdsD K l)) ∧ Below wx.heap.size wx w') := Lib.hid fun wx hb => holdsIn_any (h.kept hb) hT hK l hl (hx.grown hb)
  obtain ⟨p, c, rfl, _, _, _⟩ := hx
  clear h hT hK
  generalize holdsD K l = r' at *
  go_enter Tryz.func11, Tryz.ntmps11
  go_wp2_with fail
  refine HN.out.mono ?_
  rintro e w1 ⟨rfl, hb⟩
  have HB := Lib.hid hb
  clear hb
  go_wp2_with fail
  refine (HH.out w1 HB.out).mono ?_
  rintro e w2 ⟨he, hb⟩
  have HB2 := Lib.hid (HB.out.trans (hb.mono HB.out.size))
  clear hb
  cases r' with
  | none =>
    have he : e = .returned (.tuple #[.bool false, .bool false]) := he
    subst he
    go_wp2_with fail
    go_ret2
    exact ⟨rfl, HB2.out⟩
  | some r' =>
    have he : e = .returned (.tuple #[.bool r', .bool true]) := he
    subst he
    go_wp2_with fail
    go_ret2
    exact ⟨rfl, HB2.out⟩
theorem lit_eq (s : ByteArray) (l : List UInt8) : (s.toList == l) = decide (s = ⟨l.toArray⟩) := by
  have := str_eq s ⟨l.toArray⟩
  rw [← this, show (⟨l.toArray⟩ : ByteArray).toList = l from by rw [Lib.toList_data]]
theorem lit_yes {s : ByteArray} {l : List UInt8} (h : s = ⟨l.toArray⟩) : (s.toList == l) = true := by rw [lit_eq, decide_eq_true h]
theorem lit_no {s : ByteArray} {l : List UInt8} (h : s ≠ ⟨l.toArray⟩) : (s.toList == l) = false := by rw [lit_eq, decide_eq_false h]
theorem sum_le {l : List ByteArray} {m : Nat} (h : ∀ x ∈ l, x.size ≤ m) : Lib.lens (l.map (·.data.toList)) ≤ l.length * m := by
  induction l with
  | nil => simp [Lib.lens]
  | cons x l ih =>
    have h1 := h x (by simp)
    have h2 := ih fun y hy => h y (List.mem_cons_of_mem _ hy)
    have h3 : x.data.toList.length = x.size := by rw [Lib.size_eq]
    simp only [Lib.lens, List.map_cons, List.sum_cons, List.length_cons] at *
    rw [Nat.succ_mul]
    omega
theorem echo_len {l : List ByteArray} (hl : l.length ≤ 1000) (h : ∀ x ∈ l, x.size ≤ 40000) : (Lib.join (l.map (·.data.toList)) [32]).length ≤ 50000000 := by
  cases l with
  | nil => simp [Lib.join]
  | cons x l =>
    have := sum_le h
    rw [List.map_cons, Lib.join_length]
    rw [List.map_cons] at this
    have h2 : (x :: l).length * 40000 ≤ 1000 * 40000 := Nat.mul_le_mul_right _ hl
    simp only [List.length_cons, List.length_nil, List.length_map] at *
    omega
/-- What is written by echo. -/
theorem join_any {w : World} {pa : Option Addr} {c : Nat} {l : List ByteArray} (hx : PlR w (.slice pa l.length c) l) (hl : l.length ≤ 1000) (hs : ∀ x ∈ l, x.size ≤ 40000) :
    Calls Tryz.prog 18 #[.slice pa l.length c, .string ⟨#[32]⟩] w fun e w' => e = .returned (.string ⟨(Lib.join (l.map (·.data.toList)) [32]).toArray⟩) ∧ Below w.heap.size w w' := by
  obtain ⟨p, c', e, hst, h1, h2⟩ := hx
  cases e
  cases l with
  | nil => exact (Tryz.strings_Join_none pa c ⟨#[32]⟩ w).mono fun e w' ⟨he, hw⟩ => ⟨he.trans rfl, hw ▸ Below.refl _ _⟩
  | cons x l =>
    obtain ⟨b, o, rfl, hc⟩ := hst 0 (by simp)
    refine Tryz.strings_Join b o c (x :: l) ⟨#[32]⟩ w (fun j y hj => ?_) (World.block_lt_of_cell? _ _ hc) (by omega) h1 (by have := echo_len hl hs; show (Lib.join _ [32]).length ≤ _; omega)
    obtain ⟨b', o', e, hc⟩ := hst j (List.getElem?_eq_some_iff.1 hj).1
    cases e
    rw [hc, List.getD_eq_getElem?_getD, hj]
    rfl
set_option maxRecDepth 100000 in
set_option maxHeartbeats 16000000 in
theorem pRun_any {w : World} {b : Nat} {n : Nd} {v0 v1 v2 v3 : Value} (h : TreeX w b n v0 v1 v2 v3) (hT : Tr n) {K : Bool → ByteArray → UInt8} (hK : Orc n K) {v : Value} (l : List ByteArray) (hn : l.length ≤ 1000) (hl : ∀ x ∈ l, x.size ≤ 40000) (hx : PlR w v l) :
    Calls Tryz.prog 8 #[.iface 28 (.pointer (some ⟨b, 0, none⟩)), v] w fun e w' => e = .returned (runD K l).val ∧ Below w.heap.size w w' := by
  cases l with
  | nil =>
    obtain ⟨p, c, rfl, _, _, _⟩ := hx
    rw [List.length_nil]
    clear h hT hK
    go_enter Tryz.func8, Tryz.ntmps8
    go_wp2_with fail
    go_returns
    exact ⟨rfl, Below.refl _ _⟩
  | cons s r =>
  have HN := Lib.hid (pisNone_any h hT)
  obtain ⟨bb, oo, c, rfl, h1, h2, hc⟩ := pl_parts hx
  have HX := Lib.hid hx
  have C0 : Hid (w.cell? ⟨bb, oo, none⟩ = some (.string s)) := Lib.hid (hc 0 (by omega))
  have h4 : c ≤ 9223372036854775807 := by unfold maxLen at h2; omega
  have HP := Lib.hid (pl_behind HX.out)
  have hrl : r.length ≤ 999 := by rw [List.length_cons] at hn; omega
  have hsz : s.size ≤ 40000 := hl s (by simp)
  have HL : Hid (∀ x ∈ r, x.size ≤ 40000) := Lib.hid fun x hx => hl x (List.mem_cons_of_mem _ hx)
  generalize hpa : (if c = 1 then some (⟨bb, oo, none⟩ : Addr) else some ⟨bb, oo + 1, none⟩) = pa at *
  have HE : Hid (∀ wx, Below w.heap.size w wx → Calls Tryz.prog 18 #[.slice pa r.length (c - 1), .string ⟨#[32]⟩] wx fun e w' => e = .returned (.string ⟨(Lib.join (r.map (·.data.toList)) [32]).toArray⟩) ∧ Below wx.heap.size wx w') := Lib.hid fun wx hb => join_any (HP.out.grown hb) (by omega) HL.out
  have HTE : Hid (∀ wx, Below w.heap.size w wx → Calls Tryz.prog 19 #[.iface 28 (.pointer (some ⟨b, 0, none⟩)), .string s, .slice pa r.length (c - 1)] wx fun e w' => e = .returned (testV s (holdsD K r)) ∧ Below wx.heap.size wx w') := Lib.hid fun wx hb => runTest_any (h.kept hb) hT hK s hsz r HL.out (HP.out.grown hb)
  have HBR : Hid (∀ wx, Below w.heap.size w wx → Calls Tryz.prog 20 #[.iface 28 (.pointer (some ⟨b, 0, none⟩)), .string s, .slice pa r.length (c - 1)] wx fun e w' => e = .returned (testV s (shutD K r)) ∧ Below wx.heap.size wx w') := Lib.hid fun wx hb => runBracket_any (h.kept hb) hT hK s hsz r HL.out (HP.out.grown hb)
  have HSZ : Hid ((⟨(Lib.join (r.map (·.data.toList)) [32]).toArray⟩ : ByteArray).size ≤ 50000000) := Lib.hid (by
    have := echo_len (l := r) (by omega) HL.out
    simpa [ByteArray.size] using this)
  obtain ⟨A, hA⟩ : ∃ A, runD K (s :: r) = A := ⟨_, rfl⟩
  rw [hA]
  have HA := Lib.hid hA
  clear hc hx h2 h hT hK hl hn HP hA
  generalize hm : r.length = m at *
  have g0 : ((((m + 1 : Nat) : Int)) == 0) = false := beq_eq_false_iff_ne.2 (by omega)
  have g1 : (1 : Int) ≤ (m : Int) + 1 := by omega
  go_enter Tryz.func8, Tryz.ntmps8
  go_wp2_with fail
  refine HN.out.mono ?_
  rintro e w1 ⟨rfl, hb⟩
  have HB := Lib.hid hb
  have HC0 := Lib.hid (cell_kept hb C0.out)
  clear hb
  go_upto_region 3 with fail
  refine wp_region_held_drew (S := (fun wx => Below w1.heap.size w1 wx ∧ wx.cell? ⟨bb, oo, none⟩ = some (.string s))) (by kernel_rfl) ⟨(Below.refl _ _).drew, HC0.out⟩ (fun hHeld => ?_)
  refine wpAnyH_take (i := 0) (oi := { dst := some 17, op := Op.move (Operand.tmp 1), type := 22, pos := "probe.go:24", after := #[], guard := none }) (v := ?_) rfl (by kernel_rfl) (by kernel_rfl) (by kernel_rfl) (fun _ _ _ h => h) (Or.inl ⟨by rfl, ?_⟩) (by assumption) ?_
  rotate_left
  · (intro w hSw; (try dsimp only at hSw); go_simp; try with_reducible rfl)
  try simp only [Act.put, List.setIfInBounds_toArray, List.set_cons_zero, List.set_cons_succ]
  refine wpAnyH_take (i := 1) (oi := { dst := some 18, op := Op.indexAddr 22 (Operand.tmp 17) (Operand.const (Value.int IntKind.i64 0)), type := 0, pos := "probe.go:24", after := #[{ on := 0, ground := Ground.data }], guard := none }) (v := ?_) rfl (by kernel_rfl) (by kernel_rfl) (by kernel_rfl) (fun _ _ _ h => h) (Or.inl ⟨by rfl, ?_⟩) (by assumption) ?_
  rotate_left
  · (intro w hSw; (try dsimp only at hSw); go_simp; try with_reducible rfl)
  try simp only [Act.put, List.setIfInBounds_toArray, List.set_cons_zero, List.set_cons_succ]
  refine wpAnyH_take (i := 2) (oi := { dst := some 19, op := Op.load 9 (Operand.tmp 18), type := 9, pos := "probe.go:24", after := #[{ on := 1, ground := Ground.data }], guard := none }) (v := ?_) rfl (by kernel_rfl) (by kernel_rfl) (by kernel_rfl) (fun _ _ _ h => h) (Or.inl ⟨by rfl, ?_⟩) (by assumption) ?_
  rotate_left
  · (intro w hSw; (try dsimp only at hSw); go_simp; try with_reducible rfl)
  try simp only [Act.put, List.setIfInBounds_toArray, List.set_cons_zero, List.set_cons_succ]
  refine wpAnyH_take (i := 3) (oi := { dst := some 20, op := Op.move (Operand.tmp 1), type := 22, pos := "probe.go:24", after := #[], guard := none }) (v := ?_) rfl (by kernel_rfl) (by kernel_rfl) (by kernel_rfl) (fun _ _ _ h => h) (Or.inl ⟨by rfl, ?_⟩) (by assumption) ?_
  rotate_left
  · (intro w hSw; (try dsimp only at hSw); go_simp; try with_reducible rfl)
  try simp only [Act.put, List.setIfInBounds_toArray, List.set_cons_zero, List.set_cons_succ]
  refine wpAnyH_take (i := 4) (oi := { dst := some 21, op := Op.slice 22 (Operand.tmp 20) (some (Operand.const (Value.int IntKind.i64 1))) none none, type := 22, pos := "probe.go:24", after := #[{ on := 3, ground := Ground.data }], guard := none }) (v := ?_) rfl (by kernel_rfl) (by kernel_rfl) (by kernel_rfl) (fun _ _ _ h => h) (Or.inl ⟨by rfl, ?_⟩) (by assumption) ?_
  rotate_left
  · (intro w hSw; (try dsimp only at hSw); go_simp; try with_reducible rfl)
  try simp only [Act.put, List.setIfInBounds_toArray, List.set_cons_zero, List.set_cons_succ]
  refine wpAnyH_take (i := 5) (oi := { dst := some 8, op := Op.assign (Operand.tmp 19), type := 9, pos := "probe.go:24", after := #[{ on := 2, ground := Ground.data }, { on := 0, ground := Ground.phase }, { on := 1, ground := Ground.phase }, { on := 2, ground := Ground.phase }, { on := 3, ground := Ground.textOnly Departure.lateStores }, { on := 4, ground := Ground.textOnly Departure.lateStoresUnsure }], guard := none }) (v := ?_) rfl (by kernel_rfl) (by kernel_rfl) (by kernel_rfl) (fun _ _ _ h => h) (Or.inl ⟨by rfl, ?_⟩) (by assumption) ?_
  rotate_left
  · (intro w hSw; (try dsimp only at hSw); go_simp; try with_reducible rfl)
  try simp only [Act.put, List.setIfInBounds_toArray, List.set_cons_zero, List.set_cons_succ]
  refine wpAnyH_take (i := 6) (oi := { dst := some 9, op := Op.assign (Operand.tmp 21), type := 22, pos := "probe.go:24", after := #[{ on := 4, ground := Ground.data }, { on := 5, ground := Ground.chain }, { on := 0, ground := Ground.phase }, { on := 1, ground := Ground.phase }, { on := 2, ground := Ground.phase }, { on := 3, ground := Ground.phase }, { on := 4, ground := Ground.phase }, { on := 5, ground := Ground.phase }], guard := none }) (v := ?_) rfl (by kernel_rfl) (by kernel_rfl) (by kernel_rfl) (fun _ _ _ h => h) (Or.inl ⟨by rfl, ?_⟩) (by assumption) ?_
  rotate_left
  · (intro w hSw; (try dsimp only at hSw); go_simp; try with_reducible rfl)
  try simp only [Act.put, List.setIfInBounds_toArray, List.set_cons_zero, List.set_cons_succ]
  refine wpAnyH_done (by kernel_rfl) ?_ _
  clear hHeld
  have HBW : Hid (Below w.heap.size w w1.drew) := Lib.hid HB.out.drew
  by_cases hs0 : s = sEcho
  · have e0 : (s.toList == ([101, 99, 104, 111] : List UInt8)) = true := lit_yes hs0

    have HV : Hid (A = ⟨0, echoD r, ⟨#[]⟩, true⟩) := Lib.hid (by
      rw [← HA.out]
      unfold runD
      dsimp only
      rw [if_pos hs0])
    clear hs0
    go_wp2_with fail
    refine (HE.out _ HBW.out).mono ?_
    rintro e w3 ⟨rfl, hb⟩
    have HB3 := Lib.hid (HBW.out.trans (hb.mono HBW.out.size))
    have hj := HSZ.out
    have h1 : (⟨#[10]⟩ : ByteArray).size = 1 := rfl
    clear hb
    generalize hjj : (⟨(Lib.join (r.map (·.data.toList)) [32]).toArray⟩ : ByteArray) = J at *
    go_wp2_with fail
    go_returns
    exact ⟨by rw [HV.out]; unfold echoD Ans.val; rw [hjj], HB3.out⟩
  have N0 : Hid ((s.toList == ([101, 99, 104, 111] : List UInt8)) = false) := Lib.hid (lit_no hs0)
  have M0 : Hid (s ≠ sEcho) := Lib.hid hs0
  clear hs0
  by_cases hs1 : s = sTrue
  · have e1 : (s.toList == ([116, 114, 117, 101] : List UInt8)) = true := lit_yes hs1
    have n0 : (s.toList == ([101, 99, 104, 111] : List UInt8)) = false := N0.out
    have HV : Hid (A = ⟨0, ⟨#[]⟩, ⟨#[]⟩, true⟩) := Lib.hid (by
      rw [← HA.out]
      unfold runD
      dsimp only
      rw [if_neg M0.out, if_pos hs1])
    clear hs1
    go_wp2_with fail
    go_returns
    exact ⟨by rw [HV.out]; rfl, HBW.out⟩
  have N1 : Hid ((s.toList == ([116, 114, 117, 101] : List UInt8)) = false) := Lib.hid (lit_no hs1)
  have M1 : Hid (s ≠ sTrue) := Lib.hid hs1
  clear hs1
  by_cases hs2 : s = sColon
  · have e2 : (s.toList == ([58] : List UInt8)) = true := lit_yes hs2
    have n0 : (s.toList == ([101, 99, 104, 111] : List UInt8)) = false := N0.out
    have n1 : (s.toList == ([116, 114, 117, 101] : List UInt8)) = false := N1.out
    have HV : Hid (A = ⟨0, ⟨#[]⟩, ⟨#[]⟩, true⟩) := Lib.hid (by
      rw [← HA.out]
      unfold runD
      dsimp only
      rw [if_neg M0.out, if_neg M1.out, if_pos hs2])
    clear hs2
    go_wp2_with fail
    go_returns
    exact ⟨by rw [HV.out]; rfl, HBW.out⟩
  have N2 : Hid ((s.toList == ([58] : List UInt8)) = false) := Lib.hid (lit_no hs2)
  have M2 : Hid (s ≠ sColon) := Lib.hid hs2
  clear hs2
  by_cases hs3 : s = sFalse
  · have e3 : (s.toList == ([102, 97, 108, 115, 101] : List UInt8)) = true := lit_yes hs3
    have n0 : (s.toList == ([101, 99, 104, 111] : List UInt8)) = false := N0.out
    have n1 : (s.toList == ([116, 114, 117, 101] : List UInt8)) = false := N1.out
    have n2 : (s.toList == ([58] : List UInt8)) = false := N2.out
    have HV : Hid (A = ⟨1, ⟨#[]⟩, ⟨#[]⟩, true⟩) := Lib.hid (by
      rw [← HA.out]
      unfold runD
      dsimp only
      rw [if_neg M0.out, if_neg M1.out, if_neg M2.out, if_pos hs3])
    clear hs3
    go_wp2_with fail
    go_returns
    exact ⟨by rw [HV.out]; rfl, HBW.out⟩
  have N3 : Hid ((s.toList == ([102, 97, 108, 115, 101] : List UInt8)) = false) := Lib.hid (lit_no hs3)
  have M3 : Hid (s ≠ sFalse) := Lib.hid hs3
  clear hs3
  by_cases hs4 : s = sTest
  · have e4 : (s.toList == ([116, 101, 115, 116] : List UInt8)) = true := lit_yes hs4
    have n0 : (s.toList == ([101, 99, 104, 111] : List UInt8)) = false := N0.out
    have n1 : (s.toList == ([116, 114, 117, 101] : List UInt8)) = false := N1.out
    have n2 : (s.toList == ([58] : List UInt8)) = false := N2.out
    have n3 : (s.toList == ([102, 97, 108, 115, 101] : List UInt8)) = false := N3.out
    have HV : Hid (A = ⟨(testD s (holdsD K r)).1, ⟨#[]⟩, (testD s (holdsD K r)).2, true⟩) := Lib.hid (by
      rw [← HA.out]
      unfold runD
      dsimp only
      rw [if_neg M0.out, if_neg M1.out, if_neg M2.out, if_neg M3.out, if_pos hs4])
    clear hs4
    go_wp2_with fail
    refine (HTE.out _ HBW.out).mono ?_
    rintro e w3 ⟨rfl, hb⟩
    have HB3 := Lib.hid (HBW.out.trans (hb.mono HBW.out.size))
    clear hb
    unfold testV
    go_wp2_with fail
    go_returns
    exact ⟨by rw [HV.out]; rfl, HB3.out⟩
  have N4 : Hid ((s.toList == ([116, 101, 115, 116] : List UInt8)) = false) := Lib.hid (lit_no hs4)
  have M4 : Hid (s ≠ sTest) := Lib.hid hs4
  clear hs4
  by_cases hs5 : s = sOpen
  · have e5 : (s.toList == ([91] : List UInt8)) = true := lit_yes hs5
    have n0 : (s.toList == ([101, 99, 104, 111] : List UInt8)) = false := N0.out
    have n1 : (s.toList == ([116, 114, 117, 101] : List UInt8)) = false := N1.out
    have n2 : (s.toList == ([58] : List UInt8)) = false := N2.out
    have n3 : (s.toList == ([102, 97, 108, 115, 101] : List UInt8)) = false := N3.out
    have n4 : (s.toList == ([116, 101, 115, 116] : List UInt8)) = false := N4.out
    have HV : Hid (A = ⟨(testD s (shutD K r)).1, ⟨#[]⟩, (testD s (shutD K r)).2, true⟩) := Lib.hid (by
      rw [← HA.out]
      unfold runD
      dsimp only
      rw [if_neg M0.out, if_neg M1.out, if_neg M2.out, if_neg M3.out, if_neg M4.out, if_pos hs5])
    clear hs5
    go_wp2_with fail
    refine (HBR.out _ HBW.out).mono ?_
    rintro e w3 ⟨rfl, hb⟩
    have HB3 := Lib.hid (HBW.out.trans (hb.mono HBW.out.size))
    clear hb
    unfold testV
    go_wp2_with fail
    go_returns
    exact ⟨by rw [HV.out]; rfl, HB3.out⟩
  have N5 : Hid ((s.toList == ([91] : List UInt8)) = false) := Lib.hid (lit_no hs5)
  have M5 : Hid (s ≠ sOpen) := Lib.hid hs5
  clear hs5
  have n0 : (s.toList == ([101, 99, 104, 111] : List UInt8)) = false := N0.out
  have n1 : (s.toList == ([116, 114, 117, 101] : List UInt8)) = false := N1.out
  have n2 : (s.toList == ([58] : List UInt8)) = false := N2.out
  have n3 : (s.toList == ([102, 97, 108, 115, 101] : List UInt8)) = false := N3.out
  have n4 : (s.toList == ([116, 101, 115, 116] : List UInt8)) = false := N4.out
  have n5 : (s.toList == ([91] : List UInt8)) = false := N5.out
  have HV : Hid (A = ⟨0, ⟨#[]⟩, ⟨#[]⟩, false⟩) := Lib.hid (by
    rw [← HA.out]
    unfold runD
    dsimp only
    rw [if_neg M0.out, if_neg M1.out, if_neg M2.out, if_neg M3.out, if_neg M4.out, if_neg M5.out])
  go_wp2_with fail
  go_returns
  exact ⟨by rw [HV.out]; rfl, HBW.out⟩
end Go.Proofs.YtfilbknnpjbmcaaGreat
