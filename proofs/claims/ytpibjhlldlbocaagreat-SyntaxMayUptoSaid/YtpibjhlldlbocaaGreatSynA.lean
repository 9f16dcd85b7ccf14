/- Walks over commands: how deep one is, of the reference. -/
import Derived.Test.YtpibjhlldlbocaaGreatSynR
import Derived.WalkKit
import Derived.WalkSpells
import Derived.BigQuiet
import Derived.Deep.QuietTactic
import Derived.Lib.Hide
import Derived.Lib.SmallJoins
import Derived.Deep.RegionHeld3
import Derived.Test.YtpibjhlldlbocaaGreatLib
namespace Go.Proofs.YtpibjhlldlbocaaGreat
open Go.RowKit Sx

theorem ret_int {k : IntKind} {a b : Int} (h : a = b) : Ending.returned (.int k a) = Ending.returned (.int k b) := by rw [h]
theorem ret_bool {a b : Bool} (h : a = b) : Ending.returned (.bool a) = Ending.returned (.bool b) := by rw [h]

theorem box_cell {w wr : World} {cs : Array Value} {t : TypeId} (hb : Below (w.heap.size + 1) (w.alloc (.cells cs t)) wr) (i : Nat) {v : Value} (h : cs[i]? = some v) : wr.cell? ⟨w.heap.size, i, none⟩ = some v := by
  rw [hb.cell (show w.heap.size < w.heap.size + 1 by omega)]
  rw [cell_of_row _ _ _ _ _ _ (heap_alloc_new w _)]
  exact h
theorem box_self {w wr : World} {o : Obj} (hb : Below (w.heap.size + 1) (w.alloc o) wr) : Below w.heap.size w wr :=
  ((Below.refl w.heap.size w).alloc (Nat.le_refl _) o).trans (hb.mono (Nat.le_succ _))
theorem box_old {B : Nat} {W w wr : World} {o : Obj} (h : Below B W w) (hB : B ≤ W.heap.size) (hb : Below (w.heap.size + 1) (w.alloc o) wr) : Below B W wr :=
  h.trans ((box_self hb).mono (Nat.le_trans hB h.size))
theorem five {l : List Value} (h : l.length = 5) : ∃ a b c d e, l = [a, b, c, d, e] := by
  match l, h with
  | [a, b, c, d, e], _ => exact ⟨a, b, c, d, e, rfl⟩

set_option maxRecDepth 100000 in
set_option maxHeartbeats 2000000 in
theorem depthRef_any {W : World} {cs : List Value} {c : Cmd} (h : CmdR W cs c) : ∀ w, Below W.heap.size W w → c.bulk ≤ 2000000 →
    Calls Tryz.prog 8 #[.agg cs.toArray] w fun e w' => e = .returned (.int .i64 c.depth) ∧ Below w.heap.size w w' := by
  induction h with
  | mk kind at_ name words kids p q cp d C D h1 h2 h3 h4 h5 h6 h7 h8 ih =>
    intro w hb hB
    have hlen : kids.length ≤ 2000000 := by
      have := Cmd.bulks_len kids
      unfold Cmd.bulk at hB
      omega
    have hkb : Cmd.bulks kids ≤ 2000000 := by unfold Cmd.bulk at hB; omega
    have IH := Lib.hid ih
    have HR := Lib.hid h7
    have HW := Lib.hid hb
    clear ih h8 h7 h4 h3 hb hB
    go_enter Tryz.func8, Tryz.ntmps8
    go_wp2_with fail
    go_loopw [3, 4] (fun n i wr => ∃ k m : Nat, k ≤ kids.length ∧ i = .int .i64 k ∧ n = .int .i64 m ∧ Hid (m = Cmd.depths (kids.take k)) ∧ Hid (Below (w.heap.size + 1) (w.alloc (.cells #[.int .u8 kind.toNat, .int .i64 at_, .string name, .slice p words.length cp, .slice q kids.length d] 25)) wr)) (fun _ i _ => kids.length - (intOf i).toNat)
    case atStart => exact ⟨0, 0, Nat.zero_le _, rfl, rfl, Lib.hid rfl, Lib.hid (Below.refl _ _)⟩
    case round =>
      obtain ⟨k, m, hk, rfl, rfl, HM, HB⟩ := hrel
      have c4 : wr.cell? ⟨w.heap.size, 4, none⟩ = some (.slice q kids.length d) := box_cell HB.out 4 rfl
      have hm : m ≤ 2000000 := by
        have := Cmd.depths_bulk (kids.take k)
        have := Cmd.bulks_take kids k
        rw [HM.out]; omega
      by_cases hlt : k < kids.length
      · obtain ⟨b, o, rfl, hl, hr⟩ := HR.out k hlt
        have HX := Lib.hid (List.getElem?_eq_getElem hlt)
        generalize kids[k] = x at HX
        have hxb : x.bulk ≤ 2000000 := Nat.le_trans (Cmd.bulk_kid HX.out) hkb
        have HOLD := Lib.hid (box_old HW.out (Nat.le_refl _) HB.out)
        obtain ⟨v0, v1, v2, v3, v4, hD⟩ := five hl
        have HC := Lib.hid (IH.out k x HX.out wr HOLD.out hxb)
        rw [hD] at hr HC
        have hr' := range_below HOLD.out hr
        have c50 : wr.cell? ⟨b, o + k * 5, none⟩ = some v0 := hr' 0 _ rfl
        have c51 := hr' 1 _ rfl
        have c52 := hr' 2 _ rfl
        have c53 := hr' 3 _ rfl
        have c54 := hr' 4 _ rfl
        clear hr hr' hD hl
        go_wp2_with fail
        refine HC.out.mono ?_
        rintro e w2 ⟨rfl, hb2⟩
        have HB2 := Lib.hid hb2
        have hxd : x.depth ≤ 2000000 := Nat.le_trans (Cmd.depth_bulk x) hxb
        have HX2 := Lib.hid (Cmd.depths_take HX.out)
        clear hb2 HC
        generalize x.depth = xd at *
        go_wp2
        go_roundw
        case rel => exact ⟨k + 1, max m xd, by omega, by go_num, congrArg (Value.int .i64) (by split <;> omega), Lib.hid (by rw [HX2.out, ← HM.out]), Lib.hid (HB.out.trans (HB2.out.mono (by have := HB.out.size; simp at this; omega)))⟩
        case measure => simp [intOf]; omega
      · have HE : Hid (k = kids.length) := Lib.hid (by omega)
        go_wp2
        go_ret
        refine ⟨ret_int ?_, box_self HB.out⟩
        rw [HM.out, HE.out, List.take_length]
        unfold Cmd.depth
        omega

theorem box2_fst {w wr : World} {cs ds : Array Value} {t u : TypeId} (hb : Below (w.heap.size + 2) ((w.alloc (.cells cs t)).alloc (.cells ds u)) wr) (i : Nat) {v : Value} (h : cs[i]? = some v) : wr.cell? ⟨w.heap.size, i, none⟩ = some v := by
  rw [hb.cell (show w.heap.size < w.heap.size + 2 by omega)]
  rw [(Below.refl (w.heap.size + 1) (w.alloc (.cells cs t))).alloc (by simp) (.cells ds u) |>.cell (show w.heap.size < w.heap.size + 1 by omega)]
  rw [cell_of_row _ _ _ _ _ _ (heap_alloc_new w _)]
  exact h
theorem box2_snd {w wr : World} {cs ds : Array Value} {t u : TypeId} (hb : Below (w.heap.size + 2) ((w.alloc (.cells cs t)).alloc (.cells ds u)) wr) (i : Nat) {v : Value} (h : ds[i]? = some v) : wr.cell? ⟨w.heap.size + 1, i, none⟩ = some v := by
  rw [hb.cell (show w.heap.size + 1 < w.heap.size + 2 by omega)]
  rw [show w.heap.size + 1 = (w.alloc (.cells cs t)).heap.size by simp]
  rw [cell_of_row _ _ _ _ _ _ (heap_alloc_new _ _)]
  exact h
theorem box2_self {w wr : World} {o o' : Obj} (hb : Below (w.heap.size + 2) ((w.alloc o).alloc o') wr) : Below w.heap.size w wr :=
  (((Below.refl w.heap.size w).alloc (Nat.le_refl _) o).alloc (by simp) o').trans (hb.mono (by omega))
theorem part_eq (P Q : Part) (w : World) : (Op.equalIn 10000 33 (.agg #[.bool P.var, .string P.text, .bool P.quoted]) (.agg #[.bool Q.var, .string Q.text, .bool Q.quoted])).run Tryz.prog w = .ok (sameP P Q) w := by
  have hS : Tryz.prog.underlying 33 = some (.struct (Tryz.prog.fieldsOf 33)) := by kernel_rfl
  have hp : Tryz.prog.stoodInHeld 33 = false := by kernel_rfl
  have u1 := Tryz.underlying4
  have u2 := Tryz.underlying9
  have a1 := Tryz.isAgg4
  have a2 := Tryz.isAgg9
  have z1 := Tryz.sizeOf4
  have z2 := Tryz.sizeOf9
  rw [show (10000 : Nat) = 9999 + 1 from rfl, run_equalIn_agg w 9999 33 _ _ hS hp]
  simp only [Program.fieldsOf, Tryz.underlying33]
  go_simp
  unfold sameP
  by_cases h1 : P.var = Q.var <;> by_cases h2 : P.text.toList = Q.text.toList <;> by_cases h3 : P.quoted = Q.quoted <;> simp [h1, h2, h3]
theorem part_guard : Tryz.prog.eqGuardType Tryz.prog.depth 33 = false := by kernel_rfl
theorem two {l : List Value} (h : l.length = 2) : ∃ a b, l = [a, b] := by
  match l, h with
  | [a, b], _ => exact ⟨a, b, rfl⟩
theorem cell_kept {w w' : World} (hb : Below w.heap.size w w') {a : Addr} {v : Value} (h : w.cell? a = some v) : w'.cell? a = some v := by
  rw [hb.cell (World.block_lt_of_cell? _ _ h)]
  exact h
theorem three {l : List Value} (h : l.length = 3) : ∃ a b c, l = [a, b, c] := by
  match l, h with
  | [a, b, c], _ => exact ⟨a, b, c, rfl⟩
theorem part_at {l : List Part} {k : Nat} (h : k < l.length) : (l[k]?.map partCells).getD [] = partCells l[k] := by rw [List.getElem?_eq_getElem h]; rfl

set_option maxRecDepth 100000 in
set_option maxHeartbeats 2000000 in
theorem sameWordRef_any {w : World} {cs ds : List Value} {x y : Word} (hx : WordR w cs x) (hy : WordR w ds y) :
    Calls Tryz.prog 17 #[.agg cs.toArray, .agg ds.toArray] w fun e w' => e = .returned (.bool (samePs x.parts y.parts)) ∧ Below w.heap.size w w' := by
  obtain ⟨p, c, rfl, h1, h2, h3⟩ := hx
  obtain ⟨q, d, rfl, g1, g2, g3⟩ := hy
  have HX := Lib.hid h3
  have HY := Lib.hid g3
  clear h3 g3
  have hl : x.parts.length ≤ 9223372036854775807 := by unfold maxLen at h2; omega
  have hl' : y.parts.length ≤ 9223372036854775807 := by unfold maxLen at g2; omega
  clear h1 h2 g1 g2
  by_cases hlen : x.parts.length = y.parts.length
  · have HLEN := Lib.hid hlen
    rw [← hlen] at HY ⊢
    clear hlen hl'
    generalize hn : x.parts.length = n at *
    have HN := Lib.hid hn
    clear hn
    go_enter Tryz.func17, Tryz.ntmps17
    go_wp2_with fail
    go_loopw [5] (fun i wr => ∃ k : Nat, k ≤ n ∧ i = .int .i64 k ∧ Hid (samePs x.parts y.parts = samePs (x.parts.drop k) (y.parts.drop k)) ∧ Hid (Below (w.heap.size + 2) ((w.alloc (.cells #[.slice p n c, .int .i64 x.at_] 31)).alloc (.cells #[.slice q n d, .int .i64 y.at_] 31)) wr)) (fun i _ => n - (intOf i).toNat)
    case atStart => exact ⟨0, Nat.zero_le _, rfl, Lib.hid rfl, Lib.hid (Below.refl _ _)⟩
    case round =>
      obtain ⟨k, hk, rfl, HS, HB⟩ := hrel
      have c0 : wr.cell? ⟨w.heap.size, 0, none⟩ = some (.slice p n c) := box2_fst HB.out 0 rfl
      have d0 : wr.cell? ⟨w.heap.size + 1, 0, none⟩ = some (.slice q n d) := box2_snd HB.out 0 rfl
      by_cases hlt : k < n
      · have hkx : k < x.parts.length := by rw [HN.out]; exact hlt
        have hky : k < y.parts.length := by rw [← HLEN.out]; exact hlt
        have HD := Lib.hid (samePs_drop hkx hky)
        obtain ⟨b, o, rfl, _, hr⟩ := HX.out k hlt
        obtain ⟨b', o', rfl, _, hr'⟩ := HY.out k hlt
        have hr : w.rangeAt b (o + k * 3) (partCells x.parts[k]) := by rw [← part_at hkx]; exact hr
        have hr' : w.rangeAt b' (o' + k * 3) (partCells y.parts[k]) := by rw [← part_at hky]; exact hr'
        generalize x.parts[k] = P at *
        generalize y.parts[k] = Q at *
        have hr := range_below (box2_self HB.out) hr
        have hr' := range_below (box2_self HB.out) hr'
        have e0 : wr.cell? ⟨b, o + k * 3, none⟩ = some (.bool P.var) := hr 0 _ rfl
        have e1 : wr.cell? ⟨b, o + k * 3 + 1, none⟩ = some (.string P.text) := hr 1 _ rfl
        have e2 : wr.cell? ⟨b, o + k * 3 + 2, none⟩ = some (.bool P.quoted) := hr 2 _ rfl
        have f0 : wr.cell? ⟨b', o' + k * 3, none⟩ = some (.bool Q.var) := hr' 0 _ rfl
        have f1 : wr.cell? ⟨b', o' + k * 3 + 1, none⟩ = some (.string Q.text) := hr' 1 _ rfl
        have f2 : wr.cell? ⟨b', o' + k * 3 + 2, none⟩ = some (.bool Q.quoted) := hr' 2 _ rfl
        clear hr hr'
        have hpe := part_eq P Q
        have hpg := part_guard
        generalize sameP P Q = sp at *
        go_wp2_with fail
        go_quiet (fail)
        go_wp2
        · have hsp : sp = false := by cases sp <;> simp_all
          go_ret
          exact ⟨ret_bool (by rw [HS.out, HD.out, hsp]; rfl), below_drewN (box2_self HB.out) _⟩
        · have hsp : sp = true := by cases sp <;> simp_all
          go_roundw
          case rel => exact ⟨k + 1, by omega, by go_num, Lib.hid (by rw [HS.out, HD.out, hsp]; rfl), Lib.hid (below_drewN HB.out _)⟩
          case measure => simp [intOf]; omega
      · have HE : Hid (k = n) := Lib.hid (by omega)
        go_wp2
        go_ret
        refine ⟨ret_bool ?_, box2_self HB.out⟩
        rw [HS.out, HE.out, ← HN.out, List.drop_length, HN.out, HLEN.out, List.drop_length]
        rfl
  · have HL := Lib.hid (samePs_len hlen)
    go_enter Tryz.func17, Tryz.ntmps17
    go_wp2_with fail
    go_ret
    exact ⟨ret_bool HL.out.symm, box2_self (Below.refl _ _)⟩

set_option maxRecDepth 100000 in
set_option maxHeartbeats 4000000 in
theorem sameRef_any {W : World} {cs : List Value} {x : Cmd} (h : CmdR W cs x) : ∀ {ds : List Value} {y : Cmd}, CmdR W ds y → ∀ w, Below W.heap.size W w →
    Calls Tryz.prog 10 #[.agg cs.toArray, .agg ds.toArray] w fun e w' => e = .returned (.bool (Cmd.same x y)) ∧ Below w.heap.size w w' := by
  induction h with
  | mk kind at_ name words kids p q cp d C D h1 h2 h3 h4 h5 h6 h7 h8 ih =>
    intro ds y hy w hb
    cases hy with
    | mk kind' at' name' words' kids' p' q' cp' d' C' D' g1 g2 g3 g4 g5 g6 g7 g8 =>
    have hlw : words.length ≤ 9223372036854775807 := by unfold maxLen at h2; omega
    have hlk : kids.length ≤ 9223372036854775807 := by unfold maxLen at h6; omega
    have IH := Lib.hid ih
    have G8 := Lib.hid g8
    have HRW := Lib.hid h3
    have HRK := Lib.hid h7
    have GRW := Lib.hid g3
    have GRK := Lib.hid g7
    have HWD := Lib.hid h4
    have GWD := Lib.hid g4
    have HW := Lib.hid hb
    clear ih h8 h7 h4 h3 hb g3 g4 g7 g8 h1 h2 h5 h6 g1 g2 g5 g6
    by_cases hall : kind = kind' ∧ name.toList = name'.toList ∧ words.length = words'.length ∧ kids.length = kids'.length
    · obtain ⟨rfl, hn, hw, hk⟩ := hall
      have hnb : (name.toList == name'.toList) = true := by simpa using hn
      have HS := Lib.hid (same_all (k := kind) (a := at_) (a' := at') hn hw hk)
      have HLW := Lib.hid hw
      have HLK := Lib.hid hk
      rw [← hw] at GRW ⊢
      rw [← hk] at GRK ⊢
      generalize Cmd.same (.mk kind at_ name words kids) (.mk kind at' name' words' kids') = R at HS ⊢
      generalize hnw : words.length = n at *
      generalize hnk : kids.length = m at *
      have HN := Lib.hid hnw
      have HM := Lib.hid hnk
      clear hn hw hk hnw hnk
      go_enter Tryz.func10, Tryz.ntmps10
      go_wp2_with fail
      go_loopw [5] (fun i wr => ∃ k : Nat, k ≤ n ∧ i = .int .i64 k ∧ Hid (R = (sameWs (words.drop k) (words'.drop k) && Cmd.sames kids kids')) ∧ Hid (Below (w.heap.size + 2) ((w.alloc (.cells #[.int .u8 kind.toNat, .int .i64 at_, .string name, .slice p n cp, .slice q m d] 25)).alloc (.cells #[.int .u8 kind.toNat, .int .i64 at', .string name', .slice p' n cp', .slice q' m d'] 25)) wr)) (fun i _ => n - (intOf i).toNat)
      case atStart => exact ⟨0, Nat.zero_le _, rfl, HS, Lib.hid (Below.refl _ _)⟩
      case round =>
        obtain ⟨k, hk, rfl, HK, HB⟩ := hrel
        have c3 : wr.cell? ⟨w.heap.size, 3, none⟩ = some (.slice p n cp) := box2_fst HB.out 3 rfl
        have d3 : wr.cell? ⟨w.heap.size + 1, 3, none⟩ = some (.slice p' n cp') := box2_snd HB.out 3 rfl
        by_cases hlt : k < n
        · have hkx : k < words.length := by rw [HN.out]; exact hlt
          have hky : k < words'.length := by rw [← HLW.out]; exact hlt
          have HD := Lib.hid (sameWs_drop hkx hky)
          have HOLD : Hid (Below W.heap.size W wr) := Lib.hid (HW.out.trans ((box2_self HB.out).mono HW.out.size))
          have hwx := (HWD.out k _ (List.getElem?_eq_getElem hkx)).grown HOLD.out
          have hwy := (GWD.out k _ (List.getElem?_eq_getElem hky)).grown HOLD.out
          obtain ⟨b, o, rfl, hl, hr⟩ := HRW.out k hlt
          obtain ⟨b', o', rfl, hl', hr'⟩ := GRW.out k hlt
          obtain ⟨v0, v1, hv⟩ := two hl
          obtain ⟨y0, y1, hy⟩ := two hl'
          rw [hv] at hr hwx
          rw [hy] at hr' hwy
          have hr := range_below HOLD.out hr
          have hr' := range_below HOLD.out hr'
          have e0 : wr.cell? ⟨b, o + k * 2, none⟩ = some v0 := hr 0 _ rfl
          have e1 : wr.cell? ⟨b, o + k * 2 + 1, none⟩ = some v1 := hr 1 _ rfl
          have f0 : wr.cell? ⟨b', o' + k * 2, none⟩ = some y0 := hr' 0 _ rfl
          have f1 : wr.cell? ⟨b', o' + k * 2 + 1, none⟩ = some y1 := hr' 1 _ rfl
          generalize words[k] = P at *
          generalize words'[k] = Q at *
          have HC : Hid (∀ wx, Below wr.heap.size wr wx → Calls Tryz.prog 17 #[.agg #[v0, v1], .agg #[y0, y1]] wx fun e w' => e = .returned (.bool (samePs P.parts Q.parts)) ∧ Below wx.heap.size wx w') :=
            Lib.hid fun wx hb => sameWordRef_any (hwx.grown hb) (hwy.grown hb)
          have HKEEP : Hid (∀ wx w2, (fun wx => Below wr.heap.size wr wx ∧ wx.cell? ⟨w.heap.size, 3, none⟩ = some (.slice (some ⟨b, o, none⟩) n cp) ∧ wx.cell? ⟨w.heap.size + 1, 3, none⟩ = some (.slice (some ⟨b', o', none⟩) n cp') ∧ wx.cell? ⟨b, o + k * 2, none⟩ = some v0 ∧ wx.cell? ⟨b, o + k * 2 + 1, none⟩ = some v1 ∧ wx.cell? ⟨b', o' + k * 2, none⟩ = some y0 ∧ wx.cell? ⟨b', o' + k * 2 + 1, none⟩ = some y1) wx → Below wx.heap.size wx w2 → (fun wx => Below wr.heap.size wr wx ∧ wx.cell? ⟨w.heap.size, 3, none⟩ = some (.slice (some ⟨b, o, none⟩) n cp) ∧ wx.cell? ⟨w.heap.size + 1, 3, none⟩ = some (.slice (some ⟨b', o', none⟩) n cp') ∧ wx.cell? ⟨b, o + k * 2, none⟩ = some v0 ∧ wx.cell? ⟨b, o + k * 2 + 1, none⟩ = some v1 ∧ wx.cell? ⟨b', o' + k * 2, none⟩ = some y0 ∧ wx.cell? ⟨b', o' + k * 2 + 1, none⟩ = some y1) w2) := Lib.hid fun wx w2 hs hb => by
            obtain ⟨s0, s1, s2, s3, s4, s5, s6⟩ := hs
            exact ⟨s0.trans (hb.mono s0.size), cell_kept hb s1, cell_kept hb s2, cell_kept hb s3, cell_kept hb s4, cell_kept hb s5, cell_kept hb s6⟩
          clear hr hr' hv hy hl hl' hwx hwy
          generalize samePs P.parts Q.parts = sp at *
          go_wp2_with fail
          go_region_held3 (fun wx => Below wr.heap.size wr wx ∧ wx.cell? ⟨w.heap.size, 3, none⟩ = some (.slice (some ⟨b, o, none⟩) n cp) ∧ wx.cell? ⟨w.heap.size + 1, 3, none⟩ = some (.slice (some ⟨b', o', none⟩) n cp') ∧ wx.cell? ⟨b, o + k * 2, none⟩ = some v0 ∧ wx.cell? ⟨b, o + k * 2 + 1, none⟩ = some v1 ∧ wx.cell? ⟨b', o' + k * 2, none⟩ = some y0 ∧ wx.cell? ⟨b', o' + k * 2 + 1, none⟩ = some y1) (first | exact ⟨(Below.refl _ _).drew, c3, d3, e0, e1, f0, f1⟩ | assumption)
            (first | (go_at_call 17; refine (HC.out _ (And.left (by assumption))).mono ?_; rintro e w2 ⟨rfl, hb2⟩; have hS2 := HKEEP.out _ _ (by assumption) hb2; clear hb2))
          have HB2 : Hid (Below (w.heap.size + 2) wr w2) := Lib.hid (hS2.1.mono (by have := HB.out.size; simp at this; omega))
          clear hS2
          go_wp2
          · have hsp : sp = false := by cases sp <;> simp_all
            go_ret
            exact ⟨ret_bool (by rw [HK.out, HD.out, hsp]; rfl), box2_self (HB.out.trans HB2.out)⟩
          · have hsp : sp = true := by cases sp <;> simp_all
            go_roundw
            case rel => exact ⟨k + 1, by omega, by go_num, Lib.hid (by rw [HK.out, HD.out, hsp]; rfl), Lib.hid (HB.out.trans HB2.out)⟩
            case measure => simp [intOf]; omega
        · have HE : Hid (k = n) := Lib.hid (by omega)
          have HR2 : Hid (R = Cmd.sames kids kids') := Lib.hid (by
            rw [HK.out, HE.out, ← HN.out, List.drop_length, HN.out, HLW.out, List.drop_length]; rfl)
          clear HK HE
          go_wp2_with fail
          have HB0 := Lib.hid HB.out
          clear HB c3 d3
          go_loopw [6] (fun i wr => ∃ k : Nat, k ≤ m ∧ i = .int .i64 k ∧ Hid (R = Cmd.sames (kids.drop k) (kids'.drop k)) ∧ Hid (Below (w.heap.size + 2) ((w.alloc (.cells #[.int .u8 kind.toNat, .int .i64 at_, .string name, .slice p n cp, .slice q m d] 25)).alloc (.cells #[.int .u8 kind.toNat, .int .i64 at', .string name', .slice p' n cp', .slice q' m d'] 25)) wr)) (fun i _ => m - (intOf i).toNat)
          case atStart => exact ⟨0, Nat.zero_le _, rfl, HR2, HB0⟩
          case round =>
            clear HB0 HR2 hlt hk
            obtain ⟨k, hk, rfl, HK, HB⟩ := hrel
            rename_i wr' _
            have c3 : wr.cell? ⟨w.heap.size, 4, none⟩ = some (.slice q m d) := box2_fst HB.out 4 rfl
            have d3 : wr.cell? ⟨w.heap.size + 1, 4, none⟩ = some (.slice q' m d') := box2_snd HB.out 4 rfl
            by_cases hlt : k < m
            · have hkx : k < kids.length := by rw [HM.out]; exact hlt
              have hky : k < kids'.length := by rw [← HLK.out]; exact hlt
              have HD := Lib.hid (sames_drop hkx hky)
              have HOLD : Hid (Below W.heap.size W wr) := Lib.hid (HW.out.trans ((box2_self HB.out).mono HW.out.size))
              have HX1 := Lib.hid (List.getElem?_eq_getElem hkx)
              have HY1 := Lib.hid (G8.out k _ (List.getElem?_eq_getElem hky))
              have HC0 : Hid (∀ wx, Below W.heap.size W wx → Calls Tryz.prog 10 #[.agg (D k).toArray, .agg (D' k).toArray] wx fun e w' => e = .returned (.bool (Cmd.same kids[k] kids'[k])) ∧ Below wx.heap.size wx w') :=
                Lib.hid fun wx hb => IH.out k _ HX1.out HY1.out wx hb
              obtain ⟨b, o, rfl, hl, hr⟩ := HRK.out k hlt
              obtain ⟨b', o', rfl, hl', hr'⟩ := GRK.out k hlt
              obtain ⟨v0, v1, v2, v3, v4, hv⟩ := five hl
              obtain ⟨y0, y1, y2, y3, y4, hy⟩ := five hl'
              rw [hv] at hr HC0
              rw [hy] at hr' HC0
              have hr := range_below HOLD.out hr
              have hr' := range_below HOLD.out hr'
              have e0 : wr.cell? ⟨b, o + k * 5, none⟩ = some v0 := hr 0 _ rfl
              have e1 : wr.cell? ⟨b, o + k * 5 + 1, none⟩ = some v1 := hr 1 _ rfl
              have e2 : wr.cell? ⟨b, o + k * 5 + 2, none⟩ = some v2 := hr 2 _ rfl
              have e3 : wr.cell? ⟨b, o + k * 5 + 3, none⟩ = some v3 := hr 3 _ rfl
              have e4 : wr.cell? ⟨b, o + k * 5 + 4, none⟩ = some v4 := hr 4 _ rfl
              have f0 : wr.cell? ⟨b', o' + k * 5, none⟩ = some y0 := hr' 0 _ rfl
              have f1 : wr.cell? ⟨b', o' + k * 5 + 1, none⟩ = some y1 := hr' 1 _ rfl
              have f2 : wr.cell? ⟨b', o' + k * 5 + 2, none⟩ = some y2 := hr' 2 _ rfl
              have f3 : wr.cell? ⟨b', o' + k * 5 + 3, none⟩ = some y3 := hr' 3 _ rfl
              have f4 : wr.cell? ⟨b', o' + k * 5 + 4, none⟩ = some y4 := hr' 4 _ rfl
              have HC : Hid (∀ wx, Below wr.heap.size wr wx → Calls Tryz.prog 10 #[.agg #[v0, v1, v2, v3, v4], .agg #[y0, y1, y2, y3, y4]] wx fun e w' => e = .returned (.bool (Cmd.same kids[k] kids'[k])) ∧ Below wx.heap.size wx w') :=
                Lib.hid fun wx hb => HC0.out wx (HOLD.out.trans (hb.mono HOLD.out.size))
              have HKEEP : Hid (∀ wx w2, (fun wx => Below wr.heap.size wr wx ∧ wx.cell? ⟨w.heap.size, 4, none⟩ = some (.slice (some ⟨b, o, none⟩) m d) ∧ wx.cell? ⟨w.heap.size + 1, 4, none⟩ = some (.slice (some ⟨b', o', none⟩) m d') ∧ wx.cell? ⟨b, o + k * 5, none⟩ = some v0 ∧ wx.cell? ⟨b, o + k * 5 + 1, none⟩ = some v1 ∧ wx.cell? ⟨b, o + k * 5 + 2, none⟩ = some v2 ∧ wx.cell? ⟨b, o + k * 5 + 3, none⟩ = some v3 ∧ wx.cell? ⟨b, o + k * 5 + 4, none⟩ = some v4 ∧ wx.cell? ⟨b', o' + k * 5, none⟩ = some y0 ∧ wx.cell? ⟨b', o' + k * 5 + 1, none⟩ = some y1 ∧ wx.cell? ⟨b', o' + k * 5 + 2, none⟩ = some y2 ∧ wx.cell? ⟨b', o' + k * 5 + 3, none⟩ = some y3 ∧ wx.cell? ⟨b', o' + k * 5 + 4, none⟩ = some y4) wx → Below wx.heap.size wx w2 → (fun wx => Below wr.heap.size wr wx ∧ wx.cell? ⟨w.heap.size, 4, none⟩ = some (.slice (some ⟨b, o, none⟩) m d) ∧ wx.cell? ⟨w.heap.size + 1, 4, none⟩ = some (.slice (some ⟨b', o', none⟩) m d') ∧ wx.cell? ⟨b, o + k * 5, none⟩ = some v0 ∧ wx.cell? ⟨b, o + k * 5 + 1, none⟩ = some v1 ∧ wx.cell? ⟨b, o + k * 5 + 2, none⟩ = some v2 ∧ wx.cell? ⟨b, o + k * 5 + 3, none⟩ = some v3 ∧ wx.cell? ⟨b, o + k * 5 + 4, none⟩ = some v4 ∧ wx.cell? ⟨b', o' + k * 5, none⟩ = some y0 ∧ wx.cell? ⟨b', o' + k * 5 + 1, none⟩ = some y1 ∧ wx.cell? ⟨b', o' + k * 5 + 2, none⟩ = some y2 ∧ wx.cell? ⟨b', o' + k * 5 + 3, none⟩ = some y3 ∧ wx.cell? ⟨b', o' + k * 5 + 4, none⟩ = some y4) w2) := Lib.hid fun wx w2 hs hb => by
                obtain ⟨s0, s1, s2, a0, a1, a2, a3, a4, z0, z1, z2, z3, z4⟩ := hs
                exact ⟨s0.trans (hb.mono s0.size), cell_kept hb s1, cell_kept hb s2, cell_kept hb a0, cell_kept hb a1, cell_kept hb a2, cell_kept hb a3, cell_kept hb a4, cell_kept hb z0, cell_kept hb z1, cell_kept hb z2, cell_kept hb z3, cell_kept hb z4⟩
              clear hr hr' hv hy hl hl' HC0 HX1 HY1
              generalize Cmd.same kids[k] kids'[k] = sp at *
              go_wp2_with fail
              go_region_held3 (fun wx => Below wr.heap.size wr wx ∧ wx.cell? ⟨w.heap.size, 4, none⟩ = some (.slice (some ⟨b, o, none⟩) m d) ∧ wx.cell? ⟨w.heap.size + 1, 4, none⟩ = some (.slice (some ⟨b', o', none⟩) m d') ∧ wx.cell? ⟨b, o + k * 5, none⟩ = some v0 ∧ wx.cell? ⟨b, o + k * 5 + 1, none⟩ = some v1 ∧ wx.cell? ⟨b, o + k * 5 + 2, none⟩ = some v2 ∧ wx.cell? ⟨b, o + k * 5 + 3, none⟩ = some v3 ∧ wx.cell? ⟨b, o + k * 5 + 4, none⟩ = some v4 ∧ wx.cell? ⟨b', o' + k * 5, none⟩ = some y0 ∧ wx.cell? ⟨b', o' + k * 5 + 1, none⟩ = some y1 ∧ wx.cell? ⟨b', o' + k * 5 + 2, none⟩ = some y2 ∧ wx.cell? ⟨b', o' + k * 5 + 3, none⟩ = some y3 ∧ wx.cell? ⟨b', o' + k * 5 + 4, none⟩ = some y4) (first | exact ⟨(Below.refl _ _).drew, c3, d3, e0, e1, e2, e3, e4, f0, f1, f2, f3, f4⟩ | assumption)
                (first | (go_at_call 10; refine (HC.out _ (And.left (by assumption))).mono ?_; rintro e w2 ⟨rfl, hb2⟩; have hS2 := HKEEP.out _ _ (by assumption) hb2; clear hb2))
              have HB2 : Hid (Below (w.heap.size + 2) wr w2) := Lib.hid (hS2.1.mono (by have := HB.out.size; simp at this; omega))
              clear hS2
              go_wp2
              · have hsp : sp = false := by cases sp <;> simp_all
                go_ret
                exact ⟨ret_bool (by rw [HK.out, HD.out, hsp]; rfl), box2_self (HB.out.trans HB2.out)⟩
              · have hsp : sp = true := by cases sp <;> simp_all
                go_roundw
                case rel => exact ⟨k + 1, by omega, by go_num, Lib.hid (by rw [HK.out, HD.out, hsp]; rfl), Lib.hid (HB.out.trans HB2.out)⟩
                case measure => simp [intOf]; omega

            · have HE : Hid (k = m) := Lib.hid (by omega)
              go_wp2
              go_ret
              refine ⟨ret_bool ?_, box2_self HB.out⟩
              rw [HK.out, HE.out, ← HM.out, List.drop_length, HM.out, HLK.out, List.drop_length]
              rfl
    · have HF := Lib.hid (same_none (a := at_) (a' := at') hall)
      go_enter Tryz.func10, Tryz.ntmps10
      go_wp2_with fail
      all_goals first
        | (go_ret; exact ⟨ret_bool HF.out.symm, box2_self (Below.refl _ _)⟩)
        | skip
      exfalso
      have hk : ((kids.length : Int) != kids'.length) = false := by assumption
      have hk2 : kids.length = kids'.length := by simp at hk; omega
      exact hall ⟨UInt8.toNat_inj.1 (by omega), by assumption, by omega, hk2⟩
end Go.Proofs.YtpibjhlldlbocaaGreat
