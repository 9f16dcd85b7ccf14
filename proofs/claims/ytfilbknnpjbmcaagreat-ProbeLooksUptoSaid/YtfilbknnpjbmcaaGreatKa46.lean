/- The statement on what looks alone: nothing is changed, what is told is told again. -/
import Derived.Test.YtfilbknnpjbmcaaGreatKa44
import Derived.Test.YtfilbknnpjbmcaaGreatKa45
namespace Go.Proofs.YtfilbknnpjbmcaaGreat
open Go.RowKit Px Nx Wk Pr
open Works14 (Bk)
set_option maxRecDepth 100000 in
set_option maxHeartbeats 16000000 in
theorem law_looks {W : World} {cs : List Value} {n : Nd} (hn : NodeR W cs n) (hB : n.bulk ≤ 2000000) {v : Value} {xs : List ByteArray} (hx : PlR W v xs) :
    Calls Tryz.prog 3 #[.agg cs.toArray, v] W fun e w' => e = .returned (.bool true) ∧ Below W.heap.size W w' := by
  obtain ⟨p1, q1, c1, d1, rfl⟩ := hn.cells
  have HN := Lib.hid hn
  have HX := Lib.hid hx
  obtain ⟨px, cx, rfl, hxs, hxl, hxm⟩ := hx
  have hcx : cx ≤ 9223372036854775807 := by unfold maxLen at hxm; omega
  clear hn hxm hxs
  go_enter Tryz.func3, Tryz.ntmps3
  go_wp2_with fail
  have HBW : Hid (Below W.heap.size W (W.alloc (.cells #[.int .u8 n.kind.toNat, .string n.text, .slice p1 n.names.length c1, .slice q1 n.kids.length d1] 25))) := Lib.hid (below_alloc (Below.refl _ _))
  have HBX : Hid (Bk (W.alloc (.cells #[.int .u8 n.kind.toNat, .string n.text, .slice p1 n.names.length c1, .slice q1 n.kids.length d1] 25)) W.heap.size [.int .u8 n.kind.toNat, .string n.text, .slice p1 n.names.length c1, .slice q1 n.kids.length d1] 25) := Lib.hid (Bk.newE rfl)
  have HL := Lib.hid (long_any HN.out hB _ HBW.out _ xs (HX.out.grown HBW.out))
  generalize W.alloc (.cells #[.int .u8 n.kind.toNat, .string n.text, .slice p1 n.names.length c1, .slice q1 n.kids.length d1] 25) = w1 at *
  refine HL.out.mono ?_
  rintro e w2 ⟨⟨lb, rfl, hlb⟩, hb2⟩
  have HB2 := Lib.hid (HBW.out.trans (hb2.mono HBW.out.size))
  have HX2 := Lib.hid (HBX.out.kept hb2)
  clear hb2 HBX HBW HL
  cases lb with
  | true =>
    clear hlb
    go_wp2_with fail
    refine (awake_any w2).mono ?_
    rintro e w3 ⟨rfl, hb3⟩
    have HB3 := Lib.hid (HB2.out.trans (hb3.mono HB2.out.size))
    clear hb3
    go_wp2_with fail
    go_ret
    exact ⟨rfl, HB3.out⟩
  | false =>
  obtain ⟨hmay, hno, hx100, hx6⟩ := hlb rfl
  have HXS := Lib.hid hx6
  clear hlb hx6 hno
  go_wp2_with fail
  refine (awake_any w2).mono ?_
  rintro e w3 ⟨rfl, hb3⟩
  have HB3 := Lib.hid (HB2.out.trans (hb3.mono HB2.out.size))
  have HX3 := Lib.hid (HX2.out.kept hb3)
  clear hb3 HB2 HX2
  obtain ⟨x0, x1, x2, x3⟩ : w3.cell? ⟨W.heap.size, 0, none⟩ = some (.int .u8 n.kind.toNat) ∧ w3.cell? ⟨W.heap.size, 1, none⟩ = some (.string n.text) ∧ w3.cell? ⟨W.heap.size, 2, none⟩ = some (.slice p1 n.names.length c1) ∧ w3.cell? ⟨W.heap.size, 3, none⟩ = some (.slice q1 n.kids.length d1) := ⟨HX3.out.at rfl, HX3.out.at rfl, HX3.out.at rfl, HX3.out.at rfl⟩
  go_wp2_with fail
  have hgb : n.girth ≤ 330000 := by have := may_bulk hmay; have := n.girth_bulk; omega
  refine (fnew_any HN.out (by omega) w3 HB3.out).mono ?_
  rintro e w4 ⟨hnw, hb4⟩
  rw [if_pos hmay] at hnw
  obtain ⟨b, y0, y1, y2, y3, rfl, hbb, ht, _⟩ := hnw
  have HT4 := Lib.hid ht
  have HB4 := Lib.hid (HB3.out.trans (hb4.mono HB3.out.size))
  have HX4 := Lib.hid (HX3.out.kept hb4)
  clear hb4 ht hbb x0 x1 x2 x3 HB3 HX3
  obtain ⟨hw, hk⟩ := may_well hmay
  have HTR : Hid (Tr n) := Lib.hid ⟨hw, hk, by omega⟩
  obtain ⟨K, hK⟩ := orc n
  have HK := Lib.hid hK
  clear hw hk hgb hmay hK
  obtain ⟨A, hA⟩ : ∃ A, runD K xs = A := ⟨_, rfl⟩
  have HLO : Hid (LooksOk xs A) := Lib.hid (hA ▸ looks_ok K xs)
  have HRU : Hid (∀ (wx : World), TreeX wx b n y0 y1 y2 y3 → Below W.heap.size W wx → Calls Tryz.prog 8 #[.iface 28 (.pointer (some ⟨b, 0, none⟩)), .slice px xs.length cx] wx fun e w' => e = .returned A.val ∧ Below wx.heap.size wx w') := Lib.hid fun wx ht hb => hA ▸ pRun_any ht HTR.out HK.out xs (by omega) (fun x hx => by have := HXS.out x hx; omega) (HX.out.grown hb)
  clear hA
  obtain ⟨cd, ou, er, iz⟩ := A
  unfold Ans.val at HRU
  go_wp2_with fail
  refine (HRU.out _ HT4.out HB4.out).mono ?_
  rintro e w5 ⟨rfl, hb⟩
  have HT5 := Lib.hid (HT4.out.kept hb)
  have HB5 := Lib.hid (HB4.out.trans (hb.mono HB4.out.size))
  have HX5 := Lib.hid (HX4.out.kept hb)
  clear hb HT4 HB4 HX4
  go_wp2_with fail
  refine (HRU.out _ HT5.out HB5.out).mono ?_
  rintro e w6 ⟨rfl, hb⟩
  have HT6 := Lib.hid (HT5.out.kept hb)
  have HB6 := Lib.hid (HB5.out.trans (hb.mono HB5.out.size))
  have HX6 := Lib.hid (HX5.out.kept hb)
  clear hb HT5 HB5 HX5
  go_upto_region 8 with fail
  have HRO : Hid (∀ wx, Below w6.heap.size w6 wx → Calls Tryz.prog 10 #[.pointer (some ⟨b, 0, none⟩)] wx fun e w' => (∃ vs, e = .returned (.agg vs) ∧ NodeX w' (fun k => wx.heap.size ≤ k ∧ k < w'.heap.size) vs.toList n) ∧ Below wx.heap.size wx w') := Lib.hid fun wx hb => froot_any (HT6.out.kept hb) HTR.out.well (by have := HTR.out.girth; omega)
  have HKEEP : Hid (∀ wx w2, (fun wx => Below w6.heap.size w6 wx ∧ wx.cell? ⟨W.heap.size, 0, none⟩ = some (.int .u8 n.kind.toNat) ∧ wx.cell? ⟨W.heap.size, 1, none⟩ = some (.string n.text) ∧ wx.cell? ⟨W.heap.size, 2, none⟩ = some (.slice p1 n.names.length c1) ∧ wx.cell? ⟨W.heap.size, 3, none⟩ = some (.slice q1 n.kids.length d1)) wx → Below wx.heap.size wx w2 → (fun wx => Below w6.heap.size w6 wx ∧ wx.cell? ⟨W.heap.size, 0, none⟩ = some (.int .u8 n.kind.toNat) ∧ wx.cell? ⟨W.heap.size, 1, none⟩ = some (.string n.text) ∧ wx.cell? ⟨W.heap.size, 2, none⟩ = some (.slice p1 n.names.length c1) ∧ wx.cell? ⟨W.heap.size, 3, none⟩ = some (.slice q1 n.kids.length d1)) w2) := Lib.hid fun wx w2 hs hb => by
    obtain ⟨s0, s1, s2, s3, s4⟩ := hs
    exact ⟨s0.trans (hb.mono s0.size), cell_kept hb s1, cell_kept hb s2, cell_kept hb s3, cell_kept hb s4⟩
  refine wp_region_held_drew (S := (fun wx => Below w6.heap.size w6 wx ∧ wx.cell? ⟨W.heap.size, 0, none⟩ = some (.int .u8 n.kind.toNat) ∧ wx.cell? ⟨W.heap.size, 1, none⟩ = some (.string n.text) ∧ wx.cell? ⟨W.heap.size, 2, none⟩ = some (.slice p1 n.names.length c1) ∧ wx.cell? ⟨W.heap.size, 3, none⟩ = some (.slice q1 n.kids.length d1))) (by kernel_rfl) ⟨(Below.refl _ _).drew, HX6.out.at rfl, HX6.out.at rfl, HX6.out.at rfl, HX6.out.at rfl⟩ (fun hHeld => ?_)
  refine wpAnyH_take (i := 0) (oi := { dst := some 48, op := Op.move (Operand.tmp 7), type := 3, pos := "outright.go:44", after := #[], guard := none }) (v := ?_) rfl (by kernel_rfl) (by kernel_rfl) (by kernel_rfl) (fun _ _ _ h => h) (Or.inl ⟨by rfl, ?_⟩) (by assumption) ?_
  rotate_left
  · (intro w hSw; (try dsimp only at hSw); go_simp; try with_reducible rfl)
  try simp only [Act.put, List.setIfInBounds_toArray, List.set_cons_zero, List.set_cons_succ]
  refine wpAnyH_take (i := 1) (oi := { dst := some 49, op := Op.move (Operand.tmp 11), type := 3, pos := "outright.go:44", after := #[], guard := none }) (v := ?_) rfl (by kernel_rfl) (by kernel_rfl) (by kernel_rfl) (fun _ _ _ h => h) (Or.inl ⟨by rfl, ?_⟩) (by assumption) ?_
  rotate_left
  · (intro w hSw; (try dsimp only at hSw); go_simp; try with_reducible rfl)
  try simp only [Act.put, List.setIfInBounds_toArray, List.set_cons_zero, List.set_cons_succ]
  refine wpAnyH_take (i := 2) (oi := { dst := some 50, op := Op.binOp BinOp.neq 3 (Operand.tmp 48) (Operand.tmp 49) 3, type := 4, pos := "outright.go:44", after := #[{ on := 0, ground := Ground.data }, { on := 1, ground := Ground.data }], guard := none }) (v := ?_) rfl (by kernel_rfl) (by kernel_rfl) (by kernel_rfl) (fun _ _ _ h => h) (Or.inl ⟨by rfl, ?_⟩) (by assumption) ?_
  rotate_left
  · (intro w hSw; (try dsimp only at hSw); go_simp; try with_reducible rfl)
  try simp only [Act.put, List.setIfInBounds_toArray, List.set_cons_zero, List.set_cons_succ]
  refine wpAnyH_take (i := 3) (oi := { dst := some 51, op := Op.move (Operand.tmp 50), type := 4, pos := "outright.go:44", after := #[{ on := 2, ground := Ground.data }], guard := none }) (v := ?_) rfl (by kernel_rfl) (by kernel_rfl) (by kernel_rfl) (fun _ _ _ h => h) (Or.inl ⟨by rfl, ?_⟩) (by assumption) ?_
  rotate_left
  · (intro w hSw; (try dsimp only at hSw); go_simp; try with_reducible rfl)
  try simp only [Act.put, List.setIfInBounds_toArray, List.set_cons_zero, List.set_cons_succ]
  refine wpAnyH_take (i := 4) (oi := { dst := some 52, op := Op.move (Operand.tmp 8), type := 9, pos := "outright.go:44", after := #[{ on := 3, ground := Ground.guard }], guard := some (3, false) }) (v := ?_) rfl (by kernel_rfl) (by kernel_rfl) (by kernel_rfl) (fun _ _ _ h => h) (Or.inl ⟨by rfl, ?_⟩) (by assumption) ?_
  rotate_left
  · (intro w hSw; (try dsimp only at hSw); go_simp; try with_reducible rfl)
  try simp only [Act.put, List.setIfInBounds_toArray, List.set_cons_zero, List.set_cons_succ]
  refine wpAnyH_take (i := 5) (oi := { dst := some 53, op := Op.move (Operand.tmp 12), type := 9, pos := "outright.go:44", after := #[{ on := 3, ground := Ground.guard }], guard := some (3, false) }) (v := ?_) rfl (by kernel_rfl) (by kernel_rfl) (by kernel_rfl) (fun _ _ _ h => h) (Or.inl ⟨by rfl, ?_⟩) (by assumption) ?_
  rotate_left
  · (intro w hSw; (try dsimp only at hSw); go_simp; try with_reducible rfl)
  try simp only [Act.put, List.setIfInBounds_toArray, List.set_cons_zero, List.set_cons_succ]
  refine wpAnyH_take (i := 6) (oi := { dst := some 54, op := Op.binOp BinOp.neq 9 (Operand.tmp 52) (Operand.tmp 53) 9, type := 4, pos := "outright.go:44", after := #[{ on := 4, ground := Ground.data }, { on := 5, ground := Ground.data }, { on := 3, ground := Ground.guard }], guard := some (3, false) }) (v := ?_) rfl (by kernel_rfl) (by kernel_rfl) (by kernel_rfl) (fun _ _ _ h => h) (Or.inl ⟨by rfl, ?_⟩) (by assumption) ?_
  rotate_left
  · (intro w hSw; (try dsimp only at hSw); go_simp; try with_reducible rfl)
  try simp only [Act.put, List.setIfInBounds_toArray, List.set_cons_zero, List.set_cons_succ]
  refine wpAnyH_take (i := 7) (oi := { dst := some 55, op := Op.pick (Operand.tmp 51) (Operand.const (Value.bool true)) (Operand.tmp 54), type := 4, pos := "outright.go:44", after := #[{ on := 3, ground := Ground.data }, { on := 6, ground := Ground.data }], guard := none }) (v := ?_) rfl (by kernel_rfl) (by kernel_rfl) (by kernel_rfl) (fun _ _ _ h => h) (Or.inl ⟨by rfl, ?_⟩) (by assumption) ?_
  rotate_left
  · (intro w hSw; (try dsimp only at hSw); go_simp; try with_reducible rfl)
  try simp only [Act.put, List.setIfInBounds_toArray, List.set_cons_zero, List.set_cons_succ]
  refine wpAnyH_take (i := 8) (oi := { dst := some 56, op := Op.move (Operand.tmp 55), type := 4, pos := "outright.go:44", after := #[{ on := 7, ground := Ground.data }, { on := 3, ground := Ground.chain }], guard := none }) (v := ?_) rfl (by kernel_rfl) (by kernel_rfl) (by kernel_rfl) (fun _ _ _ h => h) (Or.inl ⟨by rfl, ?_⟩) (by assumption) ?_
  rotate_left
  · (intro w hSw; (try dsimp only at hSw); go_simp; try with_reducible rfl)
  try simp only [Act.put, List.setIfInBounds_toArray, List.set_cons_zero, List.set_cons_succ]
  refine wpAnyH_take (i := 9) (oi := { dst := some 57, op := Op.move (Operand.tmp 9), type := 9, pos := "outright.go:44", after := #[{ on := 8, ground := Ground.guard }], guard := some (8, false) }) (v := ?_) rfl (by kernel_rfl) (by kernel_rfl) (by kernel_rfl) (fun _ _ _ h => h) (Or.inl ⟨by rfl, ?_⟩) (by assumption) ?_
  rotate_left
  · (intro w hSw; (try dsimp only at hSw); go_simp; try with_reducible rfl)
  try simp only [Act.put, List.setIfInBounds_toArray, List.set_cons_zero, List.set_cons_succ]
  refine wpAnyH_take (i := 10) (oi := { dst := some 58, op := Op.move (Operand.tmp 13), type := 9, pos := "outright.go:44", after := #[{ on := 8, ground := Ground.guard }], guard := some (8, false) }) (v := ?_) rfl (by kernel_rfl) (by kernel_rfl) (by kernel_rfl) (fun _ _ _ h => h) (Or.inl ⟨by rfl, ?_⟩) (by assumption) ?_
  rotate_left
  · (intro w hSw; (try dsimp only at hSw); go_simp; try with_reducible rfl)
  try simp only [Act.put, List.setIfInBounds_toArray, List.set_cons_zero, List.set_cons_succ]
  refine wpAnyH_take (i := 11) (oi := { dst := some 59, op := Op.binOp BinOp.neq 9 (Operand.tmp 57) (Operand.tmp 58) 9, type := 4, pos := "outright.go:44", after := #[{ on := 9, ground := Ground.data }, { on := 10, ground := Ground.data }, { on := 8, ground := Ground.guard }], guard := some (8, false) }) (v := ?_) rfl (by kernel_rfl) (by kernel_rfl) (by kernel_rfl) (fun _ _ _ h => h) (Or.inl ⟨by rfl, ?_⟩) (by assumption) ?_
  rotate_left
  · (intro w hSw; (try dsimp only at hSw); go_simp; try with_reducible rfl)
  try simp only [Act.put, List.setIfInBounds_toArray, List.set_cons_zero, List.set_cons_succ]
  refine wpAnyH_take (i := 12) (oi := { dst := some 60, op := Op.pick (Operand.tmp 56) (Operand.const (Value.bool true)) (Operand.tmp 59), type := 4, pos := "outright.go:44", after := #[{ on := 8, ground := Ground.data }, { on := 11, ground := Ground.data }], guard := none }) (v := ?_) rfl (by kernel_rfl) (by kernel_rfl) (by kernel_rfl) (fun _ _ _ h => h) (Or.inl ⟨by rfl, ?_⟩) (by assumption) ?_
  rotate_left
  · (intro w hSw; (try dsimp only at hSw); go_simp; try with_reducible rfl)
  try simp only [Act.put, List.setIfInBounds_toArray, List.set_cons_zero, List.set_cons_succ]
  refine wpAnyH_take (i := 13) (oi := { dst := some 61, op := Op.move (Operand.tmp 60), type := 4, pos := "outright.go:44", after := #[{ on := 12, ground := Ground.data }, { on := 8, ground := Ground.chain }], guard := none }) (v := ?_) rfl (by kernel_rfl) (by kernel_rfl) (by kernel_rfl) (fun _ _ _ h => h) (Or.inl ⟨by rfl, ?_⟩) (by assumption) ?_
  rotate_left
  · (intro w hSw; (try dsimp only at hSw); go_simp; try with_reducible rfl)
  try simp only [Act.put, List.setIfInBounds_toArray, List.set_cons_zero, List.set_cons_succ]
  refine wpAnyH_take (i := 14) (oi := { dst := some 62, op := Op.move (Operand.tmp 10), type := 4, pos := "outright.go:44", after := #[{ on := 13, ground := Ground.guard }], guard := some (13, false) }) (v := ?_) rfl (by kernel_rfl) (by kernel_rfl) (by kernel_rfl) (fun _ _ _ h => h) (Or.inl ⟨by rfl, ?_⟩) (by assumption) ?_
  rotate_left
  · (intro w hSw; (try dsimp only at hSw); go_simp; try with_reducible rfl)
  try simp only [Act.put, List.setIfInBounds_toArray, List.set_cons_zero, List.set_cons_succ]
  refine wpAnyH_take (i := 15) (oi := { dst := some 63, op := Op.move (Operand.tmp 14), type := 4, pos := "outright.go:44", after := #[{ on := 13, ground := Ground.guard }], guard := some (13, false) }) (v := ?_) rfl (by kernel_rfl) (by kernel_rfl) (by kernel_rfl) (fun _ _ _ h => h) (Or.inl ⟨by rfl, ?_⟩) (by assumption) ?_
  rotate_left
  · (intro w hSw; (try dsimp only at hSw); go_simp; try with_reducible rfl)
  try simp only [Act.put, List.setIfInBounds_toArray, List.set_cons_zero, List.set_cons_succ]
  refine wpAnyH_take (i := 16) (oi := { dst := some 64, op := Op.binOp BinOp.neq 4 (Operand.tmp 62) (Operand.tmp 63) 4, type := 4, pos := "outright.go:44", after := #[{ on := 14, ground := Ground.data }, { on := 15, ground := Ground.data }, { on := 13, ground := Ground.guard }], guard := some (13, false) }) (v := ?_) rfl (by kernel_rfl) (by kernel_rfl) (by kernel_rfl) (fun _ _ _ h => h) (Or.inl ⟨by rfl, ?_⟩) (by assumption) ?_
  rotate_left
  · (intro w hSw; (try dsimp only at hSw); go_simp; try with_reducible rfl)
  try simp only [Act.put, List.setIfInBounds_toArray, List.set_cons_zero, List.set_cons_succ]
  refine wpAnyH_take (i := 17) (oi := { dst := some 65, op := Op.pick (Operand.tmp 61) (Operand.const (Value.bool true)) (Operand.tmp 64), type := 4, pos := "outright.go:44", after := #[{ on := 13, ground := Ground.data }, { on := 16, ground := Ground.data }], guard := none }) (v := ?_) rfl (by kernel_rfl) (by kernel_rfl) (by kernel_rfl) (fun _ _ _ h => h) (Or.inl ⟨by rfl, ?_⟩) (by assumption) ?_
  rotate_left
  · (intro w hSw; (try dsimp only at hSw); go_simp; try with_reducible rfl)
  try simp only [Act.put, List.setIfInBounds_toArray, List.set_cons_zero, List.set_cons_succ]
  refine wpAnyH_take (i := 18) (oi := { dst := some 66, op := Op.move (Operand.tmp 65), type := 4, pos := "outright.go:44", after := #[{ on := 17, ground := Ground.data }, { on := 13, ground := Ground.chain }], guard := none }) (v := ?_) rfl (by kernel_rfl) (by kernel_rfl) (by kernel_rfl) (fun _ _ _ h => h) (Or.inl ⟨by rfl, ?_⟩) (by assumption) ?_
  rotate_left
  · (intro w hSw; (try dsimp only at hSw); go_simp; try with_reducible rfl)
  try simp only [Act.put, List.setIfInBounds_toArray, List.set_cons_zero, List.set_cons_succ]
  refine wpAnyH_take (i := 19) (oi := { dst := some 67, op := Op.move (Operand.tmp 5), type := 28, pos := "outright.go:44", after := #[{ on := 18, ground := Ground.guard }], guard := some (18, false) }) (v := ?_) rfl (by kernel_rfl) (by kernel_rfl) (by kernel_rfl) (fun _ _ _ h => h) (Or.inl ⟨by rfl, ?_⟩) (by assumption) ?_
  rotate_left
  · (intro w hSw; (try dsimp only at hSw); go_simp; try with_reducible rfl)
  try simp only [Act.put, List.setIfInBounds_toArray, List.set_cons_zero, List.set_cons_succ]
  refine wpAnyH_take (i := 21) (oi := { dst := some 69, op := Op.load 25 (Operand.tmp 2), type := 25, pos := "outright.go:44", after := #[{ on := 18, ground := Ground.guard }], guard := some (18, false) }) (v := ?_) rfl (by kernel_rfl) (by kernel_rfl) (by kernel_rfl) (fun _ _ _ h => h) (Or.inl ⟨by rfl, ?_⟩) (by assumption) ?_
  rotate_left
  · (intro w hSw; (try dsimp only at hSw); go_simp; try with_reducible rfl)
  try simp only [Act.put, List.setIfInBounds_toArray, List.set_cons_zero, List.set_cons_succ]
  refine wpAnyH_ready (rs := [20]) (by kernel_rfl) (by simp) ?_
  refine AllReadyH.cons (o := { dst := some 68, op := Op.call { callee := Callee.value (Operand.func 10), args := #[Operand.tmp 67], argTypes := #[28] }, type := 25, pos := "outright.go:44", after := #[{ on := 19, ground := Ground.data }, { on := 18, ground := Ground.chain }, { on := 18, ground := Ground.guard }], guard := some (18, false) }) rfl (fun K hK => ?_) AllReadyH.nil
  go_simp
  (go_at_call 10; refine (HRO.out _ (And.left (by assumption))).mono ?_; rintro e w7 ⟨⟨us, rfl, hus⟩, hb7⟩)
  have hS7 := HKEEP.out _ _ (by assumption) hb7
  obtain ⟨p2, q2, c2, d2, rfl⟩ := nodeX_cells hus
  have HV7 := Lib.hid hus.to
  have HS7 := Lib.hid hS7
  clear hus hb7 hS7
  go_wp2_with fail
  refine hK.out _ _ HS7.out (fun hHeld => ?_)
  clear hK K
  try simp only [Act.put, List.setIfInBounds_toArray, List.set_cons_zero, List.set_cons_succ]
  refine wpAnyH_ready (rs := [22]) (by kernel_rfl) (by simp) ?_
  refine AllReadyH.cons (o := { dst := some 70, op := Op.call { callee := Callee.value (Operand.func 9), args := #[Operand.tmp 68, Operand.tmp 69], argTypes := #[25, 25] }, type := 4, pos := "outright.go:44", after := #[{ on := 20, ground := Ground.data }, { on := 21, ground := Ground.data }, { on := 20, ground := Ground.chain }, { on := 18, ground := Ground.guard }], guard := some (18, false) }) rfl (fun K hK => ?_) AllReadyH.nil
  go_simp
  (go_at_call 9; refine (sameNd_any HV7.out (NodeR.grown (HB6.out.trans (HS7.out.1.mono HB6.out.size)) HN.out) (by have := HTR.out.girth; omega) w7 (Below.refl _ _)).mono ?_; rintro e w8 ⟨he, hb8⟩)
  rw [Nd.same_self] at he
  subst he
  have HS8 := Lib.hid (HKEEP.out _ _ HS7.out hb8)
  clear hb8
  go_wp2_with fail
  refine hK.out _ _ HS8.out (fun hHeld => ?_)
  clear hK K
  try simp only [Act.put, List.setIfInBounds_toArray, List.set_cons_zero, List.set_cons_succ]
  refine wpAnyH_take (i := 23) (oi := { dst := some 71, op := Op.unOp UnOp.not 4 (Operand.tmp 70), type := 4, pos := "outright.go:44", after := #[{ on := 22, ground := Ground.data }, { on := 18, ground := Ground.guard }], guard := some (18, false) }) (v := ?_) rfl (by kernel_rfl) (by kernel_rfl) (by kernel_rfl) (fun _ _ _ h => h) (Or.inl ⟨by rfl, ?_⟩) (by assumption) ?_
  rotate_left
  · (intro w hSw; (try dsimp only at hSw); go_simp; try with_reducible rfl)
  try simp only [Act.put, List.setIfInBounds_toArray, List.set_cons_zero, List.set_cons_succ]
  refine wpAnyH_take (i := 24) (oi := { dst := some 72, op := Op.pick (Operand.tmp 66) (Operand.const (Value.bool true)) (Operand.tmp 71), type := 4, pos := "outright.go:44", after := #[{ on := 18, ground := Ground.data }, { on := 23, ground := Ground.data }], guard := none }) (v := ?_) rfl (by kernel_rfl) (by kernel_rfl) (by kernel_rfl) (fun _ _ _ h => h) (Or.inl ⟨by rfl, ?_⟩) (by assumption) ?_
  rotate_left
  · (intro w hSw; (try dsimp only at hSw); go_simp; try with_reducible rfl)
  try simp only [Act.put, List.setIfInBounds_toArray, List.set_cons_zero, List.set_cons_succ]
  refine wpAnyH_done (by kernel_rfl) ?_ _
  clear hHeld
  have HB8 := Lib.hid (HB6.out.trans (HS8.out.1.mono HB6.out.size))
  cases iz with
  | false =>
    obtain ⟨rfl, rfl, rfl⟩ := HLO.out.none rfl
    go_wp2_with fail
    go_ret
    exact ⟨rfl, HB8.out⟩
  | true =>
    obtain ⟨h1, ho⟩ := HLO.out.out rfl
    have hcd : cd = 0 ∨ cd = 1 ∨ cd = 2 := HLO.out.code
    have her : cd = 2 ↔ er ≠ ⟨#[]⟩ := HLO.out.err
    have HOU : Hid (ou = ⟨#[]⟩ ∨ xs.getD 0 ⟨#[]⟩ = sEcho) := Lib.hid ho
    have HC : Hid (∃ bb oo, px = some ⟨bb, oo, none⟩ ∧ w8.cell? ⟨bb, oo, none⟩ = some (.string (xs.getD 0 ByteArray.empty))) := Lib.hid (by
      obtain ⟨p', c', e, hs, _, _⟩ := HX.out.grown HB8.out
      cases e
      obtain ⟨bb, oo, e, hc⟩ := hs 0 (by omega)
      exact ⟨bb, oo, e, hc⟩)
    clear ho
    by_cases hou : ou = ⟨#[]⟩
    · subst hou
      rcases hcd with rfl | rfl | rfl
      · have h3 : er = ⟨#[]⟩ := Classical.byContradiction fun h => absurd (her.2 h) (by decide)
        subst h3
        clear her
        go_wp2_with fail
        go_ret
        exact ⟨rfl, HB8.out⟩
      · have h3 : er = ⟨#[]⟩ := Classical.byContradiction fun h => absurd (her.2 h) (by decide)
        subst h3
        clear her
        go_wp2_with fail
        go_ret
        exact ⟨rfl, HB8.out⟩
      · have h3 : er.toList.isEmpty = false := by rw [str_empty]; exact decide_eq_false (her.1 rfl)
        clear her
        go_wp2_with fail
        go_ret
        exact ⟨rfl, HB8.out⟩
    · have hx0 : xs.getD 0 ⟨#[]⟩ = sEcho := HOU.out.resolve_left hou
      have h5 : ou.toList.isEmpty = false := by rw [str_empty]; exact decide_eq_false hou
      obtain ⟨bb, oo, rfl, hc⟩ := HC.out
      have hc' : w8.cell? ⟨bb, oo, none⟩ = some (.string ⟨#[101, 99, 104, 111]⟩) := by
        rw [hc, show xs.getD 0 ByteArray.empty = xs.getD 0 ⟨#[]⟩ from rfl, hx0]
        rfl
      clear hc hx0 HC HOU hou
      rcases hcd with rfl | rfl | rfl
      · have h3 : er = ⟨#[]⟩ := Classical.byContradiction fun h => absurd (her.2 h) (by decide)
        subst h3
        clear her
        go_wp2_with fail
        go_ret
        exact ⟨rfl, HB8.out⟩
      · have h3 : er = ⟨#[]⟩ := Classical.byContradiction fun h => absurd (her.2 h) (by decide)
        subst h3
        clear her
        go_wp2_with fail
        go_ret
        exact ⟨rfl, HB8.out⟩
      · have h3 : er.toList.isEmpty = false := by rw [str_empty]; exact decide_eq_false (her.1 rfl)
        clear her
        go_wp2_with fail
        go_ret
        exact ⟨rfl, HB8.out⟩
end Go.Proofs.YtfilbknnpjbmcaaGreat
