/- Walks over nodes: how many there are, of the program; which are the same, of both. -/
import Derived.Test.YtjnojledmnnlnaaFtD
namespace Go.Proofs.Ytjnojledmnnlnaa
open Go.RowKit Px Nx

/-- What a kid's cells are, their shapes too, and where they lie. -/
theorem kid_cells {W wr : World} {q : Option Addr} {n : Nat} {D : Nat → List Value} {x : Nd} (h : Row W 4 q n D) (hb : Below W.heap.size W wr) {k : Nat} (hk : k < n) (hx : NodeR W (D k) x) :
    ∃ b o kk tx p2 n2 c2 q2 m2 d2, q = some ⟨b, o, none⟩ ∧ D k = [.int .u8 kk, .string tx, .slice p2 n2 c2, .slice q2 m2 d2] ∧ wr.cell? ⟨b, o + k * 4, none⟩ = some (.int .u8 kk) ∧ wr.cell? ⟨b, o + k * 4 + 1, none⟩ = some (.string tx) ∧ wr.cell? ⟨b, o + k * 4 + 2, none⟩ = some (.slice p2 n2 c2) ∧ wr.cell? ⟨b, o + k * 4 + 3, none⟩ = some (.slice q2 m2 d2) := by
  obtain ⟨b, o, v0, v1, v2, v3, rfl, hD, e0, e1, e2, e3⟩ := kid_at h hb hk
  obtain ⟨p2, q2, c2, d2, hc⟩ := hx.cells
  rw [hD] at hc
  obtain ⟨rfl, rfl, rfl, rfl⟩ : v0 = _ ∧ v1 = _ ∧ v2 = _ ∧ v3 = _ := by simpa using hc
  exact ⟨b, o, _, _, _, _, _, _, _, _, rfl, hD, e0, e1, e2, e3⟩

set_option maxRecDepth 100000 in
set_option maxHeartbeats 2000000 in
theorem nodes_any {W : World} {cs : List Value} {c : Nd} (h : NodeR W cs c) : ∀ w, Below W.heap.size W w → c.bulk ≤ 2000000 →
    Calls Try.prog 30 #[.agg cs.toArray] w fun e w' => e = .returned (.int .i64 c.nodes) ∧ Below w.heap.size w w' := by
  induction h with
  | mk kind text names kids p q cp d D h1 h2 h3 h5 h6 h7 h8 ih =>
    intro w hb hB
    have hlen : kids.length ≤ 2000000 := by
      have := Nd.bulks_len kids
      unfold Nd.bulk at hB
      omega
    have hkb : Nd.bulks kids ≤ 2000000 := by unfold Nd.bulk at hB; omega
    have IH := Lib.hid ih
    have HK := Lib.hid h8
    have HR := Lib.hid h7
    have HW := Lib.hid hb
    clear ih h8 h7 h3 hb hB
    go_enter Try.func30, Try.ntmps30
    go_wp2_with fail
    go_loopw [3, 9] (fun n i wr => ∃ k m : Nat, k ≤ kids.length ∧ i = .int .i64 k ∧ n = .int .i64 m ∧ Hid (m = Nd.nodesAll (kids.take k) + 1) ∧ Hid (Below w.heap.size w wr)) (fun _ i _ => kids.length - (intOf i).toNat)
    case atStart => exact ⟨0, 1, Nat.zero_le _, rfl, rfl, Lib.hid (by simp [Nd.nodesAll]), Lib.hid (box_self (Below.refl _ _))⟩
    case round =>
      obtain ⟨k, m, hk, rfl, rfl, HM, HB⟩ := hrel
      have hm : m ≤ 2000001 := by
        have := Nd.nodesAll_bulk (kids.take k)
        have := Nd.bulks_take kids k
        rw [HM.out]; omega
      by_cases hlt : k < kids.length
      · have HOLD : Hid (Below W.heap.size W wr) := Lib.hid (HW.out.trans (HB.out.mono HW.out.size))
        obtain ⟨b, o, kk, tx, p2, n2, c2, q2, m2, d2, rfl, hD, e0, e1, e2, e3⟩ := kid_cells HR.out HOLD.out hlt (HK.out k _ (List.getElem?_eq_getElem hlt))
        have HX := Lib.hid (List.getElem?_eq_getElem hlt)
        generalize kids[k] = x at HX
        have hxb : x.bulk ≤ 2000000 := Nat.le_trans (Nd.bulk_kid HX.out) hkb
        have HC : Hid (∀ wx, Below wr.heap.size wr wx → Calls Try.prog 30 #[.agg #[.int .u8 kk, .string tx, .slice p2 n2 c2, .slice q2 m2 d2]] wx fun e w' => e = .returned (.int .i64 x.nodes) ∧ Below wx.heap.size wx w') := Lib.hid fun wx hb => by
          have := IH.out k x HX.out wx (HOLD.out.trans (hb.mono HOLD.out.size)) hxb
          rwa [hD] at this
        clear hD
        go_wp2_with fail
        refine (HC.out _ (by go_grown)).mono ?_
        rintro e w2 ⟨rfl, hb2⟩
        have HB2 : Hid (Below w.heap.size w w2) := Lib.hid ((HB.out.alloc HB.out.size _).trans (hb2.mono (by have := HB.out.size; simp; omega)))
        have hxd : x.nodes ≤ 2000000 := Nat.le_trans (Nd.nodes_bulk x) hxb
        have HX2 := Lib.hid (Nd.nodesAll_take HX.out)
        clear hb2 HC
        generalize x.nodes = xd at *
        go_wp2
        go_roundw
        case rel => exact ⟨k + 1, m + xd, by omega, by go_num, by go_num, Lib.hid (by rw [HX2.out, HM.out]; omega), HB2⟩
        case measure => simp [intOf]; omega
      · have HE : Hid (k = kids.length) := Lib.hid (by omega)
        go_wp2
        go_ret
        refine ⟨ret_nat ?_, HB.out⟩
        rw [HM.out, HE.out, List.take_length]
        unfold Nd.nodes
        omega

theorem part_at {C : List Nd} {k : Nat} (h : k < C.length) : C[k]? = some C[k] := List.getElem?_eq_getElem h
set_option maxRecDepth 100000 in
set_option maxHeartbeats 2000000 in
theorem equalKids_any {W : World} {xs ys : List Nd} {p q : Option Addr} {c d : Nat} {C D : Nat → List Value} (h2 : xs.length ≤ maxLen) (g2 : ys.length ≤ maxLen) (h3 : Row W 4 p xs.length C) (g3 : Row W 4 q ys.length D) (h4 : ∀ (i : Nat) x, xs[i]? = some x → NodeR W (C i) x) (g4 : ∀ (i : Nat) x, ys[i]? = some x → NodeR W (D i) x)
    (hs : ∀ (i : Nat) x y, xs[i]? = some x → ys[i]? = some y → ∀ w, Below W.heap.size W w → Calls Try.prog 29 #[.agg (C i).toArray, .agg (D i).toArray] w fun e w' => e = .returned (.bool (Nd.same x y)) ∧ Below w.heap.size w w') : ∀ w, Below W.heap.size W w →
    Calls Try.prog 59 #[.slice p xs.length c, .slice q ys.length d, .func (.func 29) #[] #[]] w fun e w' => e = .returned (.bool (Nd.sames xs ys)) ∧ Below w.heap.size w w' := by
  intro w hb
  have HX := Lib.hid h3
  have HY := Lib.hid g3
  have HSS := Lib.hid hs
  have HW := Lib.hid hb
  have H4 := Lib.hid h4
  have G4 := Lib.hid g4
  clear h3 g3 hb hs h4 g4
  have hl : xs.length ≤ 9223372036854775807 := by unfold maxLen at h2; omega
  have hl' : ys.length ≤ 9223372036854775807 := by unfold maxLen at g2; omega
  clear h2 g2
  by_cases hlen : xs.length = ys.length
  · have HLEN := Lib.hid hlen
    rw [← hlen] at HY ⊢
    clear hlen hl'
    generalize hn : xs.length = n at *
    have HN := Lib.hid hn
    clear hn
    go_enter Try.func59, Try.ntmps59
    go_wp2_with fail
    go_loopw [17] (fun i wr => ∃ k : Nat, k ≤ n ∧ i = .int .i64 k ∧ Hid (Nd.sames xs ys = Nd.sames (xs.drop k) (ys.drop k)) ∧ Hid (Below w.heap.size w wr)) (fun i _ => n - (intOf i).toNat)
    case atStart => exact ⟨0, Nat.zero_le _, rfl, Lib.hid rfl, Lib.hid (Below.refl _ _)⟩
    case round =>
      obtain ⟨k, hk, rfl, HS, HB⟩ := hrel
      by_cases hlt : k < n
      · have hkx : k < xs.length := by rw [HN.out]; exact hlt
        have hky : k < ys.length := by rw [← HLEN.out]; exact hlt
        have HD := Lib.hid (Nd.sames_drop hkx hky)
        have HOLD : Hid (Below W.heap.size W wr) := Lib.hid (HW.out.trans (HB.out.mono HW.out.size))
        have HC : Hid (∀ wx, Below wr.heap.size wr wx → Calls Try.prog 29 #[.agg (C k).toArray, .agg (D k).toArray] wx fun e w' => e = .returned (.bool (Nd.same xs[k] ys[k])) ∧ Below wx.heap.size wx w') := Lib.hid fun wx hb => HSS.out k _ _ (List.getElem?_eq_getElem hkx) (List.getElem?_eq_getElem hky) wx (HOLD.out.trans (hb.mono HOLD.out.size))
        obtain ⟨b, o, xk, xt, xp, xn, xc, xq, xm, xd, rfl, hv, e0, e1, e2, e3⟩ := kid_cells HX.out HOLD.out hlt (H4.out k _ (List.getElem?_eq_getElem hkx))
        obtain ⟨b', o', yk, yt, yp, yn, yc, yq, ym, yd, rfl, hy, f0, f1, f2, f3⟩ := kid_cells HY.out HOLD.out hlt (G4.out k _ (List.getElem?_eq_getElem hky))
        rw [hv, hy] at HC
        have g0 := cell_kept ((Below.refl wr.heap.size wr).alloc (Nat.le_refl _) (.cells #[.int .u8 xk, .string xt, .slice xp xn xc, .slice xq xm xd] 26)) f0
        have g1 := cell_kept ((Below.refl wr.heap.size wr).alloc (Nat.le_refl _) (.cells #[.int .u8 xk, .string xt, .slice xp xn xc, .slice xq xm xd] 26)) f1
        have g2 := cell_kept ((Below.refl wr.heap.size wr).alloc (Nat.le_refl _) (.cells #[.int .u8 xk, .string xt, .slice xp xn xc, .slice xq xm xd] 26)) f2
        have g3 := cell_kept ((Below.refl wr.heap.size wr).alloc (Nat.le_refl _) (.cells #[.int .u8 xk, .string xt, .slice xp xn xc, .slice xq xm xd] 26)) f3
        clear hv hy
        generalize Nd.same xs[k] ys[k] = sp at *
        go_wp2_with fail
        refine (HC.out _ (by go_grown)).mono ?_
        rintro e w2 ⟨rfl, hb2⟩
        have HB2 : Hid (Below w.heap.size w w2) := Lib.hid (((HB.out.alloc HB.out.size _).alloc (by have := HB.out.size; simp; omega) _).trans (hb2.mono (by have := HB.out.size; simp; omega)))
        clear hb2
        go_wp2
        · have hsp : sp = false := by cases sp <;> simp_all
          go_ret
          exact ⟨ret_bool (by rw [HS.out, HD.out, hsp]; rfl), HB2.out⟩
        · have hsp : sp = true := by cases sp <;> simp_all
          go_roundw
          case rel => exact ⟨k + 1, by omega, by go_num, Lib.hid (by rw [HS.out, HD.out, hsp]; rfl), HB2⟩
          case measure => simp [intOf]; omega
      · have HE : Hid (k = n) := Lib.hid (by omega)
        go_wp2
        go_ret
        refine ⟨ret_bool ?_, HB.out⟩
        rw [HS.out, HE.out, ← HN.out, List.drop_length, HN.out, HLEN.out, List.drop_length]
        rfl
  · have HL := Lib.hid (Nd.sames_len hlen)
    go_enter Try.func59, Try.ntmps59
    go_wp2_with fail
    go_ret
    exact ⟨ret_bool HL.out.symm, Below.refl _ _⟩

set_option maxRecDepth 100000 in
theorem equalNames_any {w : World} {p q : Option Addr} {xs ys : List ByteArray} (c d : Nat) (hx : Strs w p xs) (hy : Strs w q ys) (hl : xs.length ≤ maxLen) (hr : ys.length ≤ maxLen) :
    Calls Try.prog 58 #[.slice p xs.length c, .slice q ys.length d] w fun e w' => e = .returned (.bool (decide (xs = ys))) ∧ Below w.heap.size w w' := by
  by_cases h : ys.length = xs.length
  · rw [h]
    exact (equal_any c d hx hy hl h).mono fun e w' ⟨h1, n, h2⟩ => ⟨h1, h2 ▸ below_drew1 w n⟩
  · have HV : Hid (decide (xs = ys) = false) := Lib.hid (decide_eq_false fun e => h (by rw [e]))
    have hl' : xs.length ≤ 9223372036854775807 := by unfold maxLen at hl; omega
    have hr' : ys.length ≤ 9223372036854775807 := by unfold maxLen at hr; omega
    have hne : ((xs.length : Int) == (ys.length : Int)) = false := beq_eq_false_iff_ne.2 (by omega)
    clear hx hy hl hr
    go_enter Try.func58, Try.ntmps58
    go_wp2_with fail
    go_ret
    exact ⟨ret_bool HV.out.symm, Below.refl _ _⟩

theorem box2_fst {w wr : World} {cs ds : Array Value} {t u : TypeId} (hb : Below (w.heap.size + 2) ((w.alloc (.cells cs t)).alloc (.cells ds u)) wr) (i : Nat) {v : Value} (h : cs[i]? = some v) : wr.cell? ⟨w.heap.size, i, none⟩ = some v := by
  rw [hb.cell (show w.heap.size < w.heap.size + 2 by omega)]
  rw [(Below.refl (w.heap.size + 1) (w.alloc (.cells cs t))).alloc (by simp) (.cells ds u) |>.cell (show w.heap.size < w.heap.size + 1 by omega)]
  rw [cell_of_row _ _ _ _ _ _ (heap_alloc_new w _)]
  exact h
theorem box2_snd {w wr : World} {cs ds : Array Value} {t u : TypeId} (hb : Below (w.heap.size + 2) ((w.alloc (.cells cs t)).alloc (.cells ds u)) wr) (i : Nat) {v : Value} (h : ds[i]? = some v) : wr.cell? ⟨w.heap.size + 1, i, none⟩ = some v := by
  rw [hb.cell (show w.heap.size + 1 < w.heap.size + 2 by omega)]
  rw [show w.heap.size + 1 = (w.alloc (.cells cs t)).heap.size by simp]
  rw [cell_of_row _ _ _ _ _ _ (heap_alloc_new _ _)]
  exact h
theorem box2_self {w wr : World} {o o' : Obj} (hb : Below (w.heap.size + 2) ((w.alloc o).alloc o') wr) : Below w.heap.size w wr :=
  (((Below.refl w.heap.size w).alloc (Nat.le_refl _) o).alloc (by simp) o').trans (hb.mono (by omega))
theorem byte_eq (a b : UInt8) : (a == b) = decide (a.toNat = b.toNat) := by
  rw [Bool.eq_iff_iff]
  simp [UInt8.toNat_inj]
theorem text_ways (s t : ByteArray) : ∃ b, decide (s = t) = b ∧ (s.toList == t.toList) = b := by
  by_cases h : s = t
  · subst h; exact ⟨true, by simp, by simp⟩
  · exact ⟨false, decide_eq_false h, (Lib.bytes_beq_false_iff _ _).2 h⟩

set_option maxRecDepth 100000 in
set_option maxHeartbeats 4000000 in
theorem same_any {W : World} {cs : List Value} {x : Nd} (h : NodeR W cs x) : ∀ {ds : List Value} {y : Nd}, NodeR W ds y → ∀ w, Below W.heap.size W w →
    Calls Try.prog 29 #[.agg cs.toArray, .agg ds.toArray] w fun e w' => e = .returned (.bool (Nd.same x y)) ∧ Below w.heap.size w w' := by
  induction h with
  | mk kind name names kids p q cp d D h1 h2 h3 h5 h6 h7 h8 ih =>
    intro ds y hy w hb
    cases hy with
    | mk kind' name' names' kids' p' q' cp' d' D' g1 g2 g3 g5 g6 g7 g8 =>
    have HWS : Hid (∀ wx, Below w.heap.size w wx → Calls Try.prog 58 #[.slice p names.length cp, .slice p' names'.length cp'] wx fun e w' => e = .returned (.bool (decide (names = names'))) ∧ Below wx.heap.size wx w') :=
      Lib.hid fun wx hx => equalNames_any _ _ (h3.grown (hb.trans (hx.mono hb.size))) (g3.grown (hb.trans (hx.mono hb.size))) (Nat.le_trans h1 h2) (Nat.le_trans g1 g2)
    have HKS : Hid (∀ wx, Below w.heap.size w wx → Calls Try.prog 59 #[.slice q kids.length d, .slice q' kids'.length d', .func (.func 29) #[] #[]] wx fun e w' => e = .returned (.bool (Nd.sames kids kids')) ∧ Below wx.heap.size wx w') :=
      Lib.hid fun wx hx => equalKids_any (Nat.le_trans h5 h6) (Nat.le_trans g5 g6) h7 g7 h8 g8 (fun i x y hi hj wz hz => ih i x hi (g8 i y hj) wz hz) wx (hb.trans (hx.mono hb.size))
    have HR : Hid (Nd.same (.mk kind name names kids) (.mk kind' name' names' kids') = (decide (kind.toNat = kind'.toNat) && decide (name = name') && decide (names = names') && Nd.sames kids kids')) := Lib.hid (by
      rw [← byte_eq, Nd.same]
      congr 3)
    obtain ⟨bt, ht, hT⟩ := text_ways name name'
    rw [ht] at HR
    clear ht
    generalize Nd.same (.mk kind name names kids) (.mk kind' name' names' kids') = R at *
    generalize decide (names = names') = A at *
    generalize Nd.sames kids kids' = B at *
    generalize kind.toNat = k1 at *
    generalize kind'.toNat = k2 at *
    clear h1 h2 h3 h5 h6 h7 h8 g1 g2 g3 g5 g6 g7 g8 ih
    generalize names.length = wn at *
    generalize names'.length = wn' at *
    generalize kids.length = kn at *
    generalize kids'.length = kn' at *
    obtain ⟨bk, hk, hk'⟩ := eq_ways k1 k2
    rw [hk'] at HR
    clear hk'
    cases bk
    · go_enter Try.func29, Try.ntmps29
      go_wp2_with fail
      go_ret
      exact ⟨ret_bool (by rw [HR.out]; rfl), box2_self (Below.refl _ _)⟩
    · cases bt
      · go_enter Try.func29, Try.ntmps29
        go_wp2_with fail
        go_ret
        exact ⟨ret_bool (by rw [HR.out]; rfl), box2_self (Below.refl _ _)⟩
      · cases A
        · go_enter Try.func29, Try.ntmps29
          go_wp2_with fail
          refine (HWS.out _ (box2_self (Below.refl _ _))).mono ?_
          rintro e w2 ⟨rfl, hb2⟩
          have HB2 : Hid (Below (w.heap.size + 2) ((w.alloc (.cells #[.int .u8 k1, .string name, .slice p wn cp, .slice q kn d] 26)).alloc (.cells #[.int .u8 k2, .string name', .slice p' wn' cp', .slice q' kn' d'] 26)) w2) := Lib.hid (hb2.mono (by simp))
          clear hb2
          go_wp2_with fail
          go_ret
          exact ⟨ret_bool (by rw [HR.out]; rfl), box2_self HB2.out⟩
        · go_enter Try.func29, Try.ntmps29
          go_wp2_with fail
          refine (HWS.out _ (box2_self (Below.refl _ _))).mono ?_
          rintro e w2 ⟨rfl, hb2⟩
          have HB2 : Hid (Below (w.heap.size + 2) ((w.alloc (.cells #[.int .u8 k1, .string name, .slice p wn cp, .slice q kn d] 26)).alloc (.cells #[.int .u8 k2, .string name', .slice p' wn' cp', .slice q' kn' d'] 26)) w2) := Lib.hid (hb2.mono (by simp))
          clear hb2
          have c3 : w2.cell? ⟨w.heap.size, 3, none⟩ = some (.slice q kn d) := box2_fst HB2.out 3 rfl
          have d3 : w2.cell? ⟨w.heap.size + 1, 3, none⟩ = some (.slice q' kn' d') := box2_snd HB2.out 3 rfl
          go_wp2_with fail
          refine (HKS.out _ (box2_self HB2.out)).mono ?_
          rintro e w3 ⟨rfl, hb3⟩
          have HB3 := Lib.hid hb3
          clear hb3
          go_wp2_with fail
          go_ret
          exact ⟨ret_bool (by rw [HR.out]; rfl), (box2_self HB2.out).trans (HB3.out.mono (box2_self HB2.out).size)⟩
end Go.Proofs.Ytjnojledmnnlnaa
