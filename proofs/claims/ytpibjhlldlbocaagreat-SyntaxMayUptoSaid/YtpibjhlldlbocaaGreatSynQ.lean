/- Walks of the program: are two words the same? -/
import Derived.Test.YtpibjhlldlbocaaGreatSynP
namespace Go.Proofs.YtpibjhlldlbocaaGreat
open Go.RowKit Sx Go.Proofs

set_option maxRecDepth 100000 in
set_option maxHeartbeats 2000000 in
theorem equalParts_any {w : World} {xs ys : List Part} {p q : Option Addr} {c d : Nat} (h2 : xs.length ≤ maxLen) (g2 : ys.length ≤ maxLen) (h3 : Row w 3 p xs.length (fun i => (xs[i]?.map partCells).getD [])) (g3 : Row w 3 q ys.length (fun i => (ys[i]?.map partCells).getD [])) :
    Calls Tryz.prog 30 #[.slice p xs.length c, .slice q ys.length d] w fun e w' => e = .returned (.bool (samePs xs ys)) ∧ Below w.heap.size w w' := by
  have HX := Lib.hid h3
  have HY := Lib.hid g3
  clear h3 g3
  have hl : xs.length ≤ 9223372036854775807 := by unfold maxLen at h2; omega
  have hl' : ys.length ≤ 9223372036854775807 := by unfold maxLen at g2; omega
  clear h2 g2
  by_cases hlen : xs.length = ys.length
  · have HLEN := Lib.hid hlen
    rw [← hlen] at HY ⊢
    clear hlen hl'
    generalize hn : xs.length = n at *
    have HN := Lib.hid hn
    clear hn
    go_enter Tryz.func30, Tryz.ntmps30
    go_wp2_with fail
    go_loopw [13] (fun i wr => ∃ k : Nat, k ≤ n ∧ i = .int .i64 k ∧ Hid (samePs xs ys = samePs (xs.drop k) (ys.drop k)) ∧ Hid (Below w.heap.size w wr)) (fun i _ => n - (intOf i).toNat)
    case atStart => exact ⟨0, Nat.zero_le _, rfl, Lib.hid rfl, Lib.hid (Below.refl _ _)⟩
    case round =>
      obtain ⟨k, hk, rfl, HS, HB⟩ := hrel
      by_cases hlt : k < n
      · have hkx : k < xs.length := by rw [HN.out]; exact hlt
        have hky : k < ys.length := by rw [← HLEN.out]; exact hlt
        have HD := Lib.hid (samePs_drop hkx hky)
        obtain ⟨b, o, rfl, _, hr⟩ := HX.out k hlt
        obtain ⟨b', o', rfl, _, hr'⟩ := HY.out k hlt
        have hr : w.rangeAt b (o + k * 3) (partCells xs[k]) := by rw [← part_at hkx]; exact hr
        have hr' : w.rangeAt b' (o' + k * 3) (partCells ys[k]) := by rw [← part_at hky]; exact hr'
        generalize xs[k] = P at *
        generalize ys[k] = Q at *
        obtain ⟨e0, e1, e2⟩ := part_cells (range_below HB.out hr)
        obtain ⟨f0, f1, f2⟩ := part_cells (range_below HB.out hr')
        clear hr hr'
        have hpe := part_eq P Q
        have hpg := part_guard
        generalize sameP P Q = sp at *
        go_wp2_with fail
        go_quiet (fail)
        go_wp2
        · have hsp : sp = false := by cases sp <;> simp_all
          go_ret
          exact ⟨ret_bool (by rw [HS.out, HD.out, hsp]; rfl), below_drewN HB.out _⟩
        · have hsp : sp = true := by cases sp <;> simp_all
          go_roundw
          case rel => exact ⟨k + 1, by omega, by go_num, Lib.hid (by rw [HS.out, HD.out, hsp]; rfl), Lib.hid (below_drewN HB.out _)⟩
          case measure => simp [intOf]; omega
      · have HE : Hid (k = n) := Lib.hid (by omega)
        go_wp2
        go_ret
        refine ⟨ret_bool ?_, HB.out⟩
        rw [HS.out, HE.out, ← HN.out, List.drop_length, HN.out, HLEN.out, List.drop_length]
        rfl
  · have HL := Lib.hid (samePs_len hlen)
    go_enter Tryz.func30, Tryz.ntmps30
    go_wp2_with fail
    go_ret
    exact ⟨ret_bool HL.out.symm, Below.refl _ _⟩

set_option maxRecDepth 100000 in
set_option maxHeartbeats 2000000 in
theorem sameWord_any {w : World} {cs ds : List Value} {x y : Word} (hx : WordR w cs x) (hy : WordR w ds y) :
    Calls Tryz.prog 15 #[.agg cs.toArray, .agg ds.toArray] w fun e w' => e = .returned (.bool (samePs x.parts y.parts)) ∧ Below w.heap.size w w' := by
  obtain ⟨p, c, rfl, h1, h2, h3⟩ := hx
  obtain ⟨q, d, rfl, g1, g2, g3⟩ := hy
  have HC : Hid (∀ wx, Below w.heap.size w wx → Calls Tryz.prog 30 #[.slice p x.parts.length c, .slice q y.parts.length d] wx fun e w' => e = .returned (.bool (samePs x.parts y.parts)) ∧ Below wx.heap.size wx w') :=
    Lib.hid fun wx hb => equalParts_any (Nat.le_trans h1 h2) (Nat.le_trans g1 g2) (h3.grown hb) (g3.grown hb)
  generalize samePs x.parts y.parts = R at *
  clear h1 h2 g1 g2 h3 g3
  go_enter Tryz.func15, Tryz.ntmps15
  go_wp2_with fail
  refine (HC.out _ (box2_self (Below.refl _ _))).mono ?_
  rintro e w2 ⟨rfl, hb2⟩
  have HB := Lib.hid hb2
  clear hb2
  go_wp2
  go_ret
  exact ⟨rfl, (box2_self (Below.refl _ _)).trans (HB.out.mono (by simp; omega))⟩

theorem Sx.sameWs_len : ∀ {l r : List Word}, l.length ≠ r.length → sameWs l r = false
  | [], [], h => absurd rfl h
  | [], _ :: _, _ => rfl
  | _ :: _, [], _ => rfl
  | p :: l, q :: r, h => by
    have := Sx.sameWs_len (l := l) (r := r) (by simpa using h)
    simp [sameWs, this]
theorem Sx.sames_len : ∀ {l r : List Cmd}, l.length ≠ r.length → Cmd.sames l r = false
  | [], [], h => absurd rfl h
  | [], _ :: _, _ => by simp [Cmd.sames]
  | _ :: _, [], _ => by simp [Cmd.sames]
  | p :: l, q :: r, h => by
    have := Sx.sames_len (l := l) (r := r) (by simpa using h)
    rw [Cmd.sames]
    simp [this]

set_option maxRecDepth 100000 in
set_option maxHeartbeats 2000000 in
theorem equalWords_any {W : World} {xs ys : List Word} {p q : Option Addr} {c d : Nat} {C D : Nat → List Value} (h2 : xs.length ≤ maxLen) (g2 : ys.length ≤ maxLen) (h3 : Row W 2 p xs.length C) (g3 : Row W 2 q ys.length D)
    (h4 : ∀ (i : Nat) x, xs[i]? = some x → WordR W (C i) x) (g4 : ∀ (i : Nat) x, ys[i]? = some x → WordR W (D i) x) : ∀ w, Below W.heap.size W w →
    Calls Tryz.prog 14 #[.slice p xs.length c, .slice q ys.length d, .func (.func 15) #[] #[]] w fun e w' => e = .returned (.bool (sameWs xs ys)) ∧ Below w.heap.size w w' := by
  intro w hb
  have HX := Lib.hid h3
  have HY := Lib.hid g3
  have H4 := Lib.hid h4
  have G4 := Lib.hid g4
  have HW := Lib.hid hb
  clear h3 g3 h4 g4 hb
  have hl : xs.length ≤ 9223372036854775807 := by unfold maxLen at h2; omega
  have hl' : ys.length ≤ 9223372036854775807 := by unfold maxLen at g2; omega
  clear h2 g2
  by_cases hlen : xs.length = ys.length
  · have HLEN := Lib.hid hlen
    rw [← hlen] at HY ⊢
    clear hlen hl'
    generalize hn : xs.length = n at *
    have HN := Lib.hid hn
    clear hn
    go_enter Tryz.func14, Tryz.ntmps14
    go_wp2_with fail
    go_loopw [17] (fun i wr => ∃ k : Nat, k ≤ n ∧ i = .int .i64 k ∧ Hid (sameWs xs ys = sameWs (xs.drop k) (ys.drop k)) ∧ Hid (Below w.heap.size w wr)) (fun i _ => n - (intOf i).toNat)
    case atStart => exact ⟨0, Nat.zero_le _, rfl, Lib.hid rfl, Lib.hid (Below.refl _ _)⟩
    case round =>
      obtain ⟨k, hk, rfl, HS, HB⟩ := hrel
      by_cases hlt : k < n
      · have hkx : k < xs.length := by rw [HN.out]; exact hlt
        have hky : k < ys.length := by rw [← HLEN.out]; exact hlt
        have HD := Lib.hid (sameWs_drop hkx hky)
        have HOLD : Hid (Below W.heap.size W wr) := Lib.hid (HW.out.trans (HB.out.mono HW.out.size))
        have hx := (H4.out k _ (List.getElem?_eq_getElem hkx)).grown HOLD.out
        have hy := (G4.out k _ (List.getElem?_eq_getElem hky)).grown HOLD.out
        obtain ⟨b, o, rfl, _, hr⟩ := HX.out k hlt
        obtain ⟨b', o', rfl, _, hr'⟩ := HY.out k hlt
        obtain ⟨p1, c1, hv, _⟩ := H4.out k _ (List.getElem?_eq_getElem hkx)
        obtain ⟨p2, c2, hu, _⟩ := G4.out k _ (List.getElem?_eq_getElem hky)
        rw [hv] at hr hx
        rw [hu] at hr' hy
        have hr := range_below HOLD.out hr
        have hr' := range_below HOLD.out hr'
        have e0 : wr.cell? ⟨b, o + k * 2, none⟩ = some (.slice p1 xs[k].parts.length c1) := hr 0 _ rfl
        have e1 : wr.cell? ⟨b, o + k * 2 + 1, none⟩ = some (.int .i64 xs[k].at_) := hr 1 _ rfl
        have f0 : wr.cell? ⟨b', o' + k * 2, none⟩ = some (.slice p2 ys[k].parts.length c2) := hr' 0 _ rfl
        have f1 : wr.cell? ⟨b', o' + k * 2 + 1, none⟩ = some (.int .i64 ys[k].at_) := hr' 1 _ rfl
        have HC : Hid (∀ wx, Below wr.heap.size wr wx → Calls Tryz.prog 15 #[.agg #[.slice p1 xs[k].parts.length c1, .int .i64 xs[k].at_], .agg #[.slice p2 ys[k].parts.length c2, .int .i64 ys[k].at_]] wx fun e w' => e = .returned (.bool (samePs xs[k].parts ys[k].parts)) ∧ Below wx.heap.size wx w') := Lib.hid fun wx hb => sameWord_any (hx.grown hb) (hy.grown hb)
        have g0 := cell_kept ((Below.refl wr.heap.size wr).alloc (Nat.le_refl _) (.cells #[.slice p1 xs[k].parts.length c1, .int .i64 xs[k].at_] 31)) f0
        have g1 := cell_kept ((Below.refl wr.heap.size wr).alloc (Nat.le_refl _) (.cells #[.slice p1 xs[k].parts.length c1, .int .i64 xs[k].at_] 31)) f1
        clear hr hr' hv hu hx hy
        generalize samePs xs[k].parts ys[k].parts = sp at *
        generalize xs[k].parts.length = n1 at *
        generalize xs[k].at_ = a1 at *
        generalize ys[k].parts.length = n2 at *
        generalize ys[k].at_ = a2 at *
        go_wp2_with fail
        refine (HC.out _ (by go_grown)).mono ?_
        rintro e w2 ⟨rfl, hb2⟩
        have HB2 : Hid (Below w.heap.size w w2) := Lib.hid (((HB.out.alloc HB.out.size _).alloc (by have := HB.out.size; simp; omega) _).trans (hb2.mono (by have := HB.out.size; simp; omega)))
        clear hb2
        go_wp2
        · have hsp : sp = false := by cases sp <;> simp_all
          go_ret
          exact ⟨ret_bool (by rw [HS.out, HD.out, hsp]; rfl), HB2.out⟩
        · have hsp : sp = true := by cases sp <;> simp_all
          go_roundw
          case rel => exact ⟨k + 1, by omega, by go_num, Lib.hid (by rw [HS.out, HD.out, hsp]; rfl), HB2⟩
          case measure => simp [intOf]; omega
      · have HE : Hid (k = n) := Lib.hid (by omega)
        go_wp2
        go_ret
        refine ⟨ret_bool ?_, HB.out⟩
        rw [HS.out, HE.out, ← HN.out, List.drop_length, HN.out, HLEN.out, List.drop_length]
        rfl
  · have HL := Lib.hid (Sx.sameWs_len hlen)
    go_enter Tryz.func14, Tryz.ntmps14
    go_wp2_with fail
    go_ret
    exact ⟨ret_bool HL.out.symm, Below.refl _ _⟩
set_option maxRecDepth 100000 in
set_option maxHeartbeats 2000000 in
theorem equalCmds_any {W : World} {xs ys : List Cmd} {p q : Option Addr} {c d : Nat} {C D : Nat → List Value} (h2 : xs.length ≤ maxLen) (g2 : ys.length ≤ maxLen) (h3 : Row W 5 p xs.length C) (g3 : Row W 5 q ys.length D)
    (h4 : ∀ (i : Nat) x, xs[i]? = some x → CmdR W (C i) x) (g4 : ∀ (i : Nat) x, ys[i]? = some x → CmdR W (D i) x)
    (hs : ∀ (i : Nat) x y, xs[i]? = some x → ys[i]? = some y → ∀ w, Below W.heap.size W w → Calls Tryz.prog 9 #[.agg (C i).toArray, .agg (D i).toArray] w fun e w' => e = .returned (.bool (Cmd.same x y)) ∧ Below w.heap.size w w') : ∀ w, Below W.heap.size W w →
    Calls Tryz.prog 16 #[.slice p xs.length c, .slice q ys.length d, .func (.func 9) #[] #[]] w fun e w' => e = .returned (.bool (Cmd.sames xs ys)) ∧ Below w.heap.size w w' := by
  intro w hb
  have HX := Lib.hid h3
  have HY := Lib.hid g3
  have H4 := Lib.hid h4
  have G4 := Lib.hid g4
  have HSS := Lib.hid hs
  have HW := Lib.hid hb
  clear h3 g3 h4 g4 hb hs
  have hl : xs.length ≤ 9223372036854775807 := by unfold maxLen at h2; omega
  have hl' : ys.length ≤ 9223372036854775807 := by unfold maxLen at g2; omega
  clear h2 g2
  by_cases hlen : xs.length = ys.length
  · have HLEN := Lib.hid hlen
    rw [← hlen] at HY ⊢
    clear hlen hl'
    generalize hn : xs.length = n at *
    have HN := Lib.hid hn
    clear hn
    go_enter Tryz.func16, Tryz.ntmps16
    go_wp2_with fail
    go_loopw [17] (fun i wr => ∃ k : Nat, k ≤ n ∧ i = .int .i64 k ∧ Hid (Cmd.sames xs ys = Cmd.sames (xs.drop k) (ys.drop k)) ∧ Hid (Below w.heap.size w wr)) (fun i _ => n - (intOf i).toNat)
    case atStart => exact ⟨0, Nat.zero_le _, rfl, Lib.hid rfl, Lib.hid (Below.refl _ _)⟩
    case round =>
      obtain ⟨k, hk, rfl, HS, HB⟩ := hrel
      by_cases hlt : k < n
      · have hkx : k < xs.length := by rw [HN.out]; exact hlt
        have hky : k < ys.length := by rw [← HLEN.out]; exact hlt
        have HD := Lib.hid (sames_drop hkx hky)
        have HOLD : Hid (Below W.heap.size W wr) := Lib.hid (HW.out.trans (HB.out.mono HW.out.size))
        have HC : Hid (∀ wx, Below wr.heap.size wr wx → Calls Tryz.prog 9 #[.agg (C k).toArray, .agg (D k).toArray] wx fun e w' => e = .returned (.bool (Cmd.same xs[k] ys[k])) ∧ Below wx.heap.size wx w') := Lib.hid fun wx hb => HSS.out k _ _ (List.getElem?_eq_getElem hkx) (List.getElem?_eq_getElem hky) wx (HOLD.out.trans (hb.mono HOLD.out.size))
        obtain ⟨b, o, rfl, _, hr⟩ := HX.out k hlt
        obtain ⟨b', o', rfl, _, hr'⟩ := HY.out k hlt
        obtain ⟨xk, xa, xt, xp, xq, xn, xc, xm, xd, hv⟩ := (H4.out k _ (List.getElem?_eq_getElem hkx)).cells
        obtain ⟨yk, ya, yt, yp, yq, yn, yc, ym, yd, hu⟩ := (G4.out k _ (List.getElem?_eq_getElem hky)).cells
        rw [hv] at hr HC
        rw [hu] at hr' HC
        have hr := range_below HOLD.out hr
        have hr' := range_below HOLD.out hr'
        have e0 : wr.cell? ⟨b, o + k * 5, none⟩ = some (.int .u8 xk) := hr 0 _ rfl
        have e1 : wr.cell? ⟨b, o + k * 5 + 1, none⟩ = some (.int .i64 xa) := hr 1 _ rfl
        have e2 : wr.cell? ⟨b, o + k * 5 + 2, none⟩ = some (.string xt) := hr 2 _ rfl
        have e3 : wr.cell? ⟨b, o + k * 5 + 3, none⟩ = some (.slice xp xn xc) := hr 3 _ rfl
        have e4 : wr.cell? ⟨b, o + k * 5 + 4, none⟩ = some (.slice xq xm xd) := hr 4 _ rfl
        have f0 : wr.cell? ⟨b', o' + k * 5, none⟩ = some (.int .u8 yk) := hr' 0 _ rfl
        have f1 : wr.cell? ⟨b', o' + k * 5 + 1, none⟩ = some (.int .i64 ya) := hr' 1 _ rfl
        have f2 : wr.cell? ⟨b', o' + k * 5 + 2, none⟩ = some (.string yt) := hr' 2 _ rfl
        have f3 : wr.cell? ⟨b', o' + k * 5 + 3, none⟩ = some (.slice yp yn yc) := hr' 3 _ rfl
        have f4 : wr.cell? ⟨b', o' + k * 5 + 4, none⟩ = some (.slice yq ym yd) := hr' 4 _ rfl
        have g0 := cell_kept ((Below.refl wr.heap.size wr).alloc (Nat.le_refl _) (.cells #[.int .u8 xk, .int .i64 xa, .string xt, .slice xp xn xc, .slice xq xm xd] 25)) f0
        have g1 := cell_kept ((Below.refl wr.heap.size wr).alloc (Nat.le_refl _) (.cells #[.int .u8 xk, .int .i64 xa, .string xt, .slice xp xn xc, .slice xq xm xd] 25)) f1
        have g2 := cell_kept ((Below.refl wr.heap.size wr).alloc (Nat.le_refl _) (.cells #[.int .u8 xk, .int .i64 xa, .string xt, .slice xp xn xc, .slice xq xm xd] 25)) f2
        have g3 := cell_kept ((Below.refl wr.heap.size wr).alloc (Nat.le_refl _) (.cells #[.int .u8 xk, .int .i64 xa, .string xt, .slice xp xn xc, .slice xq xm xd] 25)) f3
        have g4 := cell_kept ((Below.refl wr.heap.size wr).alloc (Nat.le_refl _) (.cells #[.int .u8 xk, .int .i64 xa, .string xt, .slice xp xn xc, .slice xq xm xd] 25)) f4
        clear hr hr' hv hu
        generalize Cmd.same xs[k] ys[k] = sp at *
        go_wp2_with fail
        refine (HC.out _ (by go_grown)).mono ?_
        rintro e w2 ⟨rfl, hb2⟩
        have HB2 : Hid (Below w.heap.size w w2) := Lib.hid (((HB.out.alloc HB.out.size _).alloc (by have := HB.out.size; simp; omega) _).trans (hb2.mono (by have := HB.out.size; simp; omega)))
        clear hb2
        go_wp2
        · have hsp : sp = false := by cases sp <;> simp_all
          go_ret
          exact ⟨ret_bool (by rw [HS.out, HD.out, hsp]; rfl), HB2.out⟩
        · have hsp : sp = true := by cases sp <;> simp_all
          go_roundw
          case rel => exact ⟨k + 1, by omega, by go_num, Lib.hid (by rw [HS.out, HD.out, hsp]; rfl), HB2⟩
          case measure => simp [intOf]; omega
      · have HE : Hid (k = n) := Lib.hid (by omega)
        go_wp2
        go_ret
        refine ⟨ret_bool ?_, HB.out⟩
        rw [HS.out, HE.out, ← HN.out, List.drop_length, HN.out, HLEN.out, List.drop_length]
        rfl
  · have HL := Lib.hid (Sx.sames_len hlen)
    go_enter Tryz.func16, Tryz.ntmps16
    go_wp2_with fail
    go_ret
    exact ⟨ret_bool HL.out.symm, Below.refl _ _⟩

set_option maxRecDepth 100000 in
set_option maxHeartbeats 4000000 in
theorem same_any {W : World} {cs : List Value} {x : Cmd} (h : CmdR W cs x) : ∀ {ds : List Value} {y : Cmd}, CmdR W ds y → ∀ w, Below W.heap.size W w →
    Calls Tryz.prog 9 #[.agg cs.toArray, .agg ds.toArray] w fun e w' => e = .returned (.bool (Cmd.same x y)) ∧ Below w.heap.size w w' := by
  induction h with
  | mk kind at_ name words kids p q cp d C D h1 h2 h3 h4 h5 h6 h7 h8 ih =>
    intro ds y hy w hb
    cases hy with
    | mk kind' at' name' words' kids' p' q' cp' d' C' D' g1 g2 g3 g4 g5 g6 g7 g8 =>
    have HWS : Hid (∀ wx, Below w.heap.size w wx → Calls Tryz.prog 14 #[.slice p words.length cp, .slice p' words'.length cp', .func (.func 15) #[] #[]] wx fun e w' => e = .returned (.bool (sameWs words words')) ∧ Below wx.heap.size wx w') :=
      Lib.hid fun wx hx => equalWords_any (Nat.le_trans h1 h2) (Nat.le_trans g1 g2) h3 g3 h4 g4 wx (hb.trans (hx.mono hb.size))
    have HKS : Hid (∀ wx, Below w.heap.size w wx → Calls Tryz.prog 16 #[.slice q kids.length d, .slice q' kids'.length d', .func (.func 9) #[] #[]] wx fun e w' => e = .returned (.bool (Cmd.sames kids kids')) ∧ Below wx.heap.size wx w') :=
      Lib.hid fun wx hx => equalCmds_any (Nat.le_trans h5 h6) (Nat.le_trans g5 g6) h7 g7 h8 g8 (fun i x y hi hj wz hz => ih i x hi (g8 i y hj) wz hz) wx (hb.trans (hx.mono hb.size))
    have HR : Hid (Cmd.same (.mk kind at_ name words kids) (.mk kind' at' name' words' kids') = (decide (kind.toNat = kind'.toNat) && decide (name.toList = name'.toList) && sameWs words words' && Cmd.sames kids kids')) := Lib.hid (by
      have hk : decide (kind.toNat = kind'.toNat) = (kind == kind') := (byte_eq kind kind').symm
      rw [hk]
      have hn : decide (name.toList = name'.toList) = (name.toList == name'.toList) := by rw [Bool.eq_iff_iff]; simp
      rw [hn, Cmd.same]
      by_cases hw : words.length = words'.length
      · by_cases hq : kids.length = kids'.length
        · simp [hw, hq]
        · rw [Sx.sames_len hq]; simp
      · rw [Sx.sameWs_len hw]; simp)
    generalize Cmd.same (.mk kind at_ name words kids) (.mk kind' at' name' words' kids') = R at *
    generalize sameWs words words' = A at *
    generalize Cmd.sames kids kids' = B at *
    generalize kind.toNat = k1 at *
    generalize kind'.toNat = k2 at *
    clear h1 h2 h3 h4 h5 h6 h7 h8 g1 g2 g3 g4 g5 g6 g7 g8 ih
    generalize words.length = wn at *
    generalize words'.length = wn' at *
    generalize kids.length = kn at *
    generalize kids'.length = kn' at *
    by_cases hk : k1 = k2
    · subst hk
      by_cases hn : name.toList = name'.toList
      · have hnb : (name.toList == name'.toList) = true := by simpa using hn
        cases A with
        | false =>
          go_enter Tryz.func9, Tryz.ntmps9
          go_wp2_with fail
          refine (HWS.out _ (box2_self (Below.refl _ _))).mono ?_
          rintro e w2 ⟨rfl, hb2⟩
          have HB2 : Hid (Below (w.heap.size + 2) ((w.alloc (.cells #[.int .u8 k1, .int .i64 at_, .string name, .slice p wn cp, .slice q kn d] 25)).alloc (.cells #[.int .u8 k1, .int .i64 at', .string name', .slice p' wn' cp', .slice q' kn' d'] 25)) w2) := Lib.hid (hb2.mono (by simp))
          clear hb2
          go_wp2_with fail
          go_ret
          exact ⟨ret_bool (by rw [HR.out]; simp), box2_self HB2.out⟩
        | true =>
          go_enter Tryz.func9, Tryz.ntmps9
          go_wp2_with fail
          refine (HWS.out _ (box2_self (Below.refl _ _))).mono ?_
          rintro e w2 ⟨rfl, hb2⟩
          have HB2 : Hid (Below (w.heap.size + 2) ((w.alloc (.cells #[.int .u8 k1, .int .i64 at_, .string name, .slice p wn cp, .slice q kn d] 25)).alloc (.cells #[.int .u8 k1, .int .i64 at', .string name', .slice p' wn' cp', .slice q' kn' d'] 25)) w2) := Lib.hid (hb2.mono (by simp))
          clear hb2
          have c4 : w2.cell? ⟨w.heap.size, 4, none⟩ = some (.slice q kn d) := box2_fst HB2.out 4 rfl
          have d4 : w2.cell? ⟨w.heap.size + 1, 4, none⟩ = some (.slice q' kn' d') := box2_snd HB2.out 4 rfl
          go_wp2_with fail
          refine (HKS.out _ (box2_self HB2.out)).mono ?_
          rintro e w3 ⟨rfl, hb3⟩
          have HB3 := Lib.hid hb3
          clear hb3
          go_wp2_with fail
          go_ret
          exact ⟨ret_bool (by rw [HR.out]; simp [hn]), (box2_self HB2.out).trans (HB3.out.mono (box2_self HB2.out).size)⟩
      · have hnb : (name.toList == name'.toList) = false := by simpa using hn
        go_enter Tryz.func9, Tryz.ntmps9
        go_wp2_with fail
        go_ret
        exact ⟨ret_bool (by rw [HR.out]; simp [hn]), box2_self (Below.refl _ _)⟩
    · have hkb : ((k1 : Int) == (k2 : Int)) = false := by rw [Bool.eq_false_iff]; intro h; have := beq_iff_eq.1 h; omega
      go_enter Tryz.func9, Tryz.ntmps9
      go_wp2_with fail
      go_ret
      exact ⟨ret_bool (by rw [HR.out, decide_eq_false hk]; rfl), box2_self (Below.refl _ _)⟩
end Go.Proofs.YtpibjhlldlbocaaGreat
