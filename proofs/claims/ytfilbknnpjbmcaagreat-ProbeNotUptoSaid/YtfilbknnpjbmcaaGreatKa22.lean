/- Walks over nodes: what stands at a place of a well-formed one, of the program. -/
import Derived.Test.YtfilbknnpjbmcaaGreatKa21
namespace Go.Proofs.YtfilbknnpjbmcaaGreat
open Go.RowKit Px Nx

namespace Nx
theorem well_len {n : Nd} (h : n.well = true) : n.kids.length = n.names.length ∧ namesL n.names = true ∧ ∀ x ∈ n.kids, x.well = true := by
  cases n with
  | mk kind text names kids =>
    show kids.length = names.length ∧ namesL names = true ∧ ∀ x ∈ kids, x.well = true
    rw [Nd.well] at h
    by_cases k1 : kind = 1
    · rw [if_pos k1] at h
      simp at h
      rw [h.1.2, h.2]
      exact ⟨rfl, rfl, fun x hx => by cases hx⟩
    · rw [if_neg k1] at h
      by_cases k3 : kind = 3
      · rw [if_pos k3] at h
        simp at h
        rw [h.1.2, h.2]
        exact ⟨rfl, rfl, fun x hx => by cases hx⟩
      · rw [if_neg k3] at h
        by_cases k2 : kind = 2
        · rw [if_pos k2, Bool.and_eq_true, Bool.and_eq_true, Bool.and_eq_true, Nd.wells_all] at h
          exact ⟨of_decide_eq_true h.1.2, h.1.1.2, fun x hx => List.all_eq_true.1 h.2 x hx⟩
        · rw [if_neg k2] at h
          cases h
theorem well_kid {n y : Nd} {x : ByteArray} (h : n.well = true) (hk : n.kid x = some y) : y.well = true := by
  unfold Nd.kid at hk
  split at hk
  · cases hk
  · exact (well_len h).2.2 y (List.mem_of_getElem? hk)
theorem well_at {n y : Nd} : ∀ {l : List ByteArray}, n.well = true → n.at_ l = some y → y.well = true := by
  intro l
  induction l generalizing n with
  | nil =>
    intro h hy
    obtain rfl : n = y := by simpa [Nd.at_] using hy
    exact h
  | cons x l ih =>
    intro h hy
    rw [Nd.at_] at hy
    obtain ⟨k, hk, hy⟩ := Option.bind_eq_some_iff.1 hy
    exact ih (well_kid h hk) hy
theorem girth_at_all {n y : Nd} : ∀ {l : List ByteArray}, n.at_ l = some y → y.girth ≤ n.girth := by
  intro l
  induction l generalizing n with
  | nil =>
    intro hy
    obtain rfl : n = y := by simpa [Nd.at_] using hy
    exact Nat.le_refl _
  | cons x l ih =>
    intro hy
    rw [Nd.at_] at hy
    obtain ⟨k, hk, hy⟩ := Option.bind_eq_some_iff.1 hy
    exact Nat.le_trans (ih hy) (Nd.girth_at hk)
theorem names_girth (n : Nd) : n.names.length ≤ n.girth := by
  cases n with
  | mk a b l r =>
    have := namesBulk_len l
    show l.length ≤ _
    rw [Nd.girth]
    omega
end Nx
theorem held_names {W : World} {v0 v1 v3 : Value} {p : Option Addr} {n d : Nat} {c : Nd} (h : NodeR W [v0, v1, .slice p n d, v3] c) : n = c.names.length ∧ Strs W p c.names ∧ n ≤ maxLen := by
  cases h with
  | mk kind text names kids p q cp d D h1 h2 h3 h5 h6 h7 h8 => exact ⟨rfl, h3, Nat.le_trans h1 h2⟩

set_option maxRecDepth 100000 in
set_option maxHeartbeats 4000000 in
theorem below_any {W : World} {cs : List Value} {c : Nd} (h : NodeR W cs c) (hw : c.well = true) (hB : c.girth ≤ 200000000) {pv : Value} {place : List ByteArray} (hp : PlR W pv place) : ∀ w, Below W.heap.size W w →
    Calls Tryz.prog 116 #[.agg cs.toArray, pv] w fun e w' => (∃ vs, e = .returned (.agg vs) ∧ NodeR W vs.toList ((c.at_ place).getD absent)) ∧ Below w.heap.size w w' := by
  intro w hb
  obtain ⟨pp, pc, rfl, HSP, hpl, hpm⟩ := hp
  have hlen : place.length ≤ 9223372036854775807 := by unfold maxLen at hpm; omega
  have HP := Lib.hid HSP
  have HW := Lib.hid hb
  have HN := Lib.hid h
  have HAT0 : Hid (c.at_ (place.take 0) = some c) := Lib.hid rfl
  have HWL := Lib.hid hw
  obtain ⟨p1, q1, c1, d1, rfl⟩ := h.cells
  clear HSP hpm hpl hb h hw
  generalize c.kind.toNat = k1 at *
  generalize c.text = t1 at *
  generalize c.names.length = n1 at *
  generalize c.kids.length = m1 at *
  generalize hn : place.length = n at *
  have HPN := Lib.hid hn
  clear hn
  go_enter Tryz.func116, Tryz.ntmps116
  go_wp2_with fail
  go_loopw [11] (fun i wr => ∃ (k : Nat) (cur : Nd) (kk : Int) (tx : ByteArray) (p2 : Option Addr) (n2 c2 : Nat) (q2 : Option Addr) (m2 d2 : Nat), k ≤ n ∧ i = .int .i64 k ∧ Hid (c.at_ (place.take k) = some cur) ∧ Hid (NodeR W [.int .u8 kk, .string tx, .slice p2 n2 c2, .slice q2 m2 d2] cur) ∧
    Hid (Four wr w.heap.size (.int .u8 kk) (.string tx) (.slice p2 n2 c2) (.slice q2 m2 d2)) ∧ Hid (Four wr (w.heap.size + 1) (.int .u8 0) (.string ⟨#[]⟩) (.slice none 0 0) (.slice none 0 0)) ∧ Hid (Below w.heap.size w wr) ∧ w.heap.size + 2 ≤ wr.heap.size) (fun i _ => n - (intOf i).toNat)
  case atStart => exact ⟨0, c, (k1 : Int), t1, p1, n1, c1, q1, m1, d1, Nat.zero_le _, rfl, HAT0, HN, Lib.hid (four_first w _ _ _ _ _), Lib.hid (by have := four_new (w.alloc (.cells #[.int .u8 k1, .string t1, .slice p1 n1 c1, .slice q1 m1 d1] 25)) (.int .u8 0) (.string ⟨#[]⟩) (.slice none 0 0) (.slice none 0 0); simpa using this), Lib.hid (box2_self (Below.refl _ _)), by simp⟩
  case round =>
    obtain ⟨k, cur, kk, tx, p2, n2, c2, q2, m2, d2, hk, rfl, HA, HC0, HV, HZ, HB, hsz⟩ := hrel
    obtain ⟨c0, c1x, c2x, c3⟩ := HV.out.cell
    by_cases hlt : k < n
    · have HOLD : Hid (Below W.heap.size W wr) := Lib.hid (HW.out.trans (HB.out.mono HW.out.size))
      obtain ⟨b, o, rfl, n0⟩ := name_cell HP.out HOLD.out (by rw [HPN.out]; exact hlt : k < place.length)
      have HAS := Lib.hid (Nd.at_snoc c (show k < place.length by rw [HPN.out]; exact hlt) HA.out)
      have HOFF := Lib.hid (Nd.at_off c (show k < place.length by rw [HPN.out]; exact hlt) HA.out)
      have hcw := well_at HWL.out HA.out
      obtain ⟨hl1, hl2, hl3⟩ := well_len hcw
      have hrs := rises_of hl2
      have hcb : cur.names.length ≤ 200000000 := Nat.le_trans (names_girth cur) (Nat.le_trans (girth_at_all HA.out) hB)
      obtain ⟨hn1, hn2, hn3⟩ := held_names HC0.out
      obtain ⟨hm2, hm3⟩ := held_len HC0.out
      have hm4 : m2 ≤ 9223372036854775807 := by unfold maxLen at hm3; omega
      have HMN : Hid (cur.kids.length = m2 ∧ cur.names.length = m2) := Lib.hid ⟨hm2.symm, by omega⟩
      have HC : Hid (∀ wx, Below wr.heap.size wr wx → Calls Tryz.prog 117 #[.slice p2 n2 c2, .string (place.getD k ByteArray.empty)] wx fun e w' => (∃ (i : Nat) (b : Bool), e = .returned (.tuple #[.int .i64 i, .bool b]) ∧ SearchAt cur.names (place.getD k ByteArray.empty) i b) ∧ Below wx.heap.size wx w') := Lib.hid fun wx hb => by
        have := search_any (W := W) c2 (place.getD k ByteArray.empty) hn2 (by omega) hrs wx (HOLD.out.trans (hb.mono HOLD.out.size))
        rwa [← hn1] at this
      have HSF : Hid (∀ {i b}, SearchAt cur.names (place.getD k ByteArray.empty) i b → (b = true → i < cur.names.length ∧ findL cur.names (place.getD k ByteArray.empty) = i) ∧ (b = false → findL cur.names (place.getD k ByteArray.empty) = -1)) := Lib.hid fun h => search_find hrs h
      have HKD : Hid (cur.kid (place.getD k ByteArray.empty) = if findL cur.names (place.getD k ByteArray.empty) < 0 then .none else cur.kids[(findL cur.names (place.getD k ByteArray.empty)).toNat]?) := Lib.hid rfl
      clear hcw hl1 hl2 hl3 hrs hn1 hn2 hn3 hm2 hm3 hcb
      generalize findL cur.names (place.getD k ByteArray.empty) = fi at *
      generalize place.getD k ByteArray.empty = x at *
      go_wp2_with fail
      refine (HC.out _ (Below.refl _ _)).mono ?_
      rintro e w2 ⟨⟨i, bb, rfl, hse⟩, hb2⟩
      have HSE := Lib.hid (HSF.out hse)
      have HB2 := Lib.hid hb2
      clear hb2 hse c0 c1x c2x c3 n0 HC HSF
      have HV2 := Lib.hid (HV.out.kept HB2.out)
      have HZ2 := Lib.hid (HZ.out.kept HB2.out)
      have HBW : Hid (Below w.heap.size w w2) := Lib.hid (HB.out.trans (HB2.out.mono HB.out.size))
      have hsz2 : w.heap.size + 2 ≤ w2.heap.size := Nat.le_trans hsz HB2.out.size
      obtain ⟨c0, c1x, c2x, c3⟩ := HV2.out.cell
      obtain ⟨y0, y1, y2, y3⟩ := HV2.out.open_
      obtain ⟨z0, z1, z2, z3⟩ := HZ2.out.cell
      obtain ⟨x0, x1, x2, x3⟩ := HZ2.out.open_
      cases bb with
      | false =>
        have HV3 : Hid (c.at_ place = .none) := Lib.hid (HOFF.out (by rw [HKD.out, HSE.out.2 rfl]; rfl))
        clear HKD HOFF HAS HSE
        go_wp2_with fail
        refine bodyPost_ret (v := .agg #[.int .u8 0, .string ⟨#[]⟩, .slice none 0 0, .slice none 0 0]) (by simp [results, Tryz.results116, go_sem, z0, z1, z2, z3]) rfl ?_
        exact ⟨⟨_, rfl, by rw [HV3.out]; exact absent_R W⟩, below_four HBW.out (by omega) _ _ _ _⟩
      | true =>
        have hi : i < m2 := by have := (HSE.out.1 rfl).1; rw [HMN.out.2] at this; exact this
        obtain ⟨y, b', o', kk', tx', p2', n2', c2', q2', m2', d2', hy, rfl, hyR, e0, e1, e2, e3⟩ := kid_held HC0.out (HOLD.out.trans (HB2.out.mono HOLD.out.size)) hi
        have HYR := Lib.hid hyR
        have HNEW : Hid (c.at_ (place.take (k + 1)) = some y) := Lib.hid (by
          rw [HAS.out, HKD.out, (HSE.out.1 rfl).2, if_neg (by omega)]
          exact hy)
        clear hyR hy HKD HAS HOFF HSE
        go_wp2_with fail
        go_roundw
        case rel => exact ⟨k + 1, y, kk', tx', p2', n2', c2', q2', m2', d2', by omega, by go_num, HNEW, HYR, Lib.hid (HV2.out.set _ _ _ _), Lib.hid (HZ2.out.other (by omega) _ _ _ _), Lib.hid (below_four HBW.out (Nat.le_refl _) _ _ _ _), by simpa using hsz2⟩
        case measure => simp [intOf]; omega
    · obtain ⟨y0, y1, y2, y3⟩ := HV.out.open_
      obtain ⟨z0, z1, z2, z3⟩ := HZ.out.cell
      obtain ⟨x0, x1, x2, x3⟩ := HZ.out.open_
      have HV2 : Hid (c.at_ place = some cur) := Lib.hid (Nd.at_all c (by rw [HPN.out]; omega) HA.out)
      go_wp2_with fail
      refine bodyPost_ret (v := .agg #[.int .u8 kk, .string tx, .slice p2 n2 c2, .slice q2 m2 d2]) (by simp [results, Tryz.results116, go_sem, z0, z1, z2, z3]) rfl ?_
      exact ⟨⟨_, rfl, by rw [HV2.out]; exact HC0.out⟩, below_four HB.out (by omega) _ _ _ _⟩
end Go.Proofs.YtfilbknnpjbmcaaGreat
