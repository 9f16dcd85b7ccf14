/- Walks: how large steps are, of the law. -/
import Derived.Test.YtcookbaedcjmjaaFtP
namespace Go.Proofs.Ytcookbaedcjmjaa
open Go.RowKit Px Nx

namespace Nx
/-- It ends with true or false. -/
def IsB (e : Ending) : Prop := ∃ b, e = .returned (.bool b)
/-- A step as data. -/
structure Sp where
  kind : UInt8
  a : List ByteArray
  b : List ByteArray
  n : Nd
def StepR (W : World) (cs : List Value) (s : Sp) : Prop := ∃ (pa : Option Addr) (ca : Nat) (pb : Option Addr) (cb : Nat) (v0 v1 v2 v3 : Value), cs = [.int .u8 s.kind.toNat, .slice pa s.a.length ca, .slice pb s.b.length cb, v0, v1, v2, v3] ∧ PlR W (.slice pa s.a.length ca) s.a ∧ PlR W (.slice pb s.b.length cb) s.b ∧ NodeR W [v0, v1, v2, v3] s.n
theorem step_cells {W wr : World} {p : Option Addr} {n : Nat} {C : Nat → List Value} (hR : Row W 7 p n C) (hb : Below W.heap.size W wr) {i : Nat} (hi : i < n) {s : Sp} (h : StepR W (C i) s) :
    ∃ b o pa ca pb cb v0 v1 v2 v3, p = some ⟨b, o, none⟩ ∧ PlR W (.slice pa s.a.length ca) s.a ∧ PlR W (.slice pb s.b.length cb) s.b ∧ NodeR W [v0, v1, v2, v3] s.n ∧ wr.cell? ⟨b, o + i * 7, none⟩ = some (.int .u8 s.kind.toNat) ∧ wr.cell? ⟨b, o + i * 7 + 1, none⟩ = some (.slice pa s.a.length ca) ∧ wr.cell? ⟨b, o + i * 7 + 2, none⟩ = some (.slice pb s.b.length cb) ∧
      wr.cell? ⟨b, o + i * 7 + 3, none⟩ = some v0 ∧ wr.cell? ⟨b, o + i * 7 + 4, none⟩ = some v1 ∧ wr.cell? ⟨b, o + i * 7 + 5, none⟩ = some v2 ∧ wr.cell? ⟨b, o + i * 7 + 6, none⟩ = some v3 := by
  obtain ⟨b, o, hp, hl, hr⟩ := hR i hi
  obtain ⟨pa, ca, pb, cb, v0, v1, v2, v3, he, h1, h2, h3⟩ := h
  have hr' := range_below hb hr
  rw [he] at hr'
  exact ⟨b, o, pa, ca, pb, cb, v0, v1, v2, v3, hp, h1, h2, h3, hr' 0 _ rfl, hr' 1 _ rfl, hr' 2 _ rfl, hr' 3 _ rfl, hr' 4 _ rfl, hr' 5 _ rfl, hr' 6 _ rfl⟩
theorem pl_cell {W wr : World} {p : Option Addr} {n c : Nat} {l : List ByteArray} (h : PlR W (.slice p n c) l) (hb : Below W.heap.size W wr) {k : Nat} (hk : k < n) : ∃ b o x, p = some ⟨b, o, none⟩ ∧ wr.cell? ⟨b, o + k, none⟩ = some (.string x) := by
  obtain ⟨p', c', he, hs, _, _⟩ := h
  obtain ⟨rfl, rfl, rfl⟩ : p = p' ∧ n = l.length ∧ c = c' := by simpa using he
  obtain ⟨b, o, h1, h2⟩ := name_cell hs hb hk
  exact ⟨b, o, _, h1, h2⟩
theorem pl_max {W : World} {p : Option Addr} {c : Nat} {l : List ByteArray} (h : PlR W (.slice p l.length c) l) : l.length ≤ 9223372036854775807 := by
  obtain ⟨p', c', he, hs, h1, h2⟩ := h
  unfold maxLen at h2
  omega
end Nx

set_option maxRecDepth 100000 in
set_option maxHeartbeats 4000000 in
theorem large_any {W : World} {p : Option Addr} {c : Nat} {l : List Sp} {C : Nat → List Value} (hR : Row W 7 p l.length C) (hE : ∀ (i : Nat) s, l[i]? = some s → StepR W (C i) s) (hl : l.length ≤ 9223372036854775807) : ∀ w, Below W.heap.size W w →
    Calls Try.prog 28 #[.slice p l.length c] w fun e w' => IsB e ∧ Below w.heap.size w w' := by
  intro w hb
  have HW := Lib.hid hb
  have HST : Hid (∀ {wr : World}, Below W.heap.size W wr → ∀ (i : Nat), i < l.length → ∃ b o s pa ca pb cb v0 v1 v2 v3, p = some ⟨b, o, none⟩ ∧ PlR W (.slice pa (Sp.a s).length ca) s.a ∧ PlR W (.slice pb s.b.length cb) s.b ∧ NodeR W [v0, v1, v2, v3] s.n ∧ wr.cell? ⟨b, o + i * 7, none⟩ = some (.int .u8 s.kind.toNat) ∧ wr.cell? ⟨b, o + i * 7 + 1, none⟩ = some (.slice pa s.a.length ca) ∧ wr.cell? ⟨b, o + i * 7 + 2, none⟩ = some (.slice pb s.b.length cb) ∧
      wr.cell? ⟨b, o + i * 7 + 3, none⟩ = some v0 ∧ wr.cell? ⟨b, o + i * 7 + 4, none⟩ = some v1 ∧ wr.cell? ⟨b, o + i * 7 + 5, none⟩ = some v2 ∧ wr.cell? ⟨b, o + i * 7 + 6, none⟩ = some v3) := Lib.hid fun hb i hi => by
    obtain ⟨b, o, pa, ca, pb, cb, v0, v1, v2, v3, h⟩ := step_cells hR hb hi (hE _ _ (List.getElem?_eq_getElem hi))
    exact ⟨b, o, _, pa, ca, pb, cb, v0, v1, v2, v3, h⟩
  have HWE : Hid (∀ {v0 v1 v2 v3 : Value} {x : Nd}, NodeR W [v0, v1, v2, v3] x → ∀ w, Below W.heap.size W w → Calls Try.prog 27 #[.agg #[v0, v1, v2, v3]] w fun e w' => (∃ n : Int, e = .returned (.int .i64 n)) ∧ Below w.heap.size w w') := Lib.hid fun h w hb => weight_any h w hb
  clear hR hE hb
  generalize l.length = ln at *
  go_enter Try.func28, Try.ntmps28
  go_wp2_with fail
  go_loopw [3, 4, 5, 6] (fun s i _ _ wr => ∃ (k : Nat) (n : Int), k ≤ ln ∧ i = .int .i64 k ∧ s = .int .i64 n ∧ Hid (Below w.heap.size w wr)) (fun _ i _ _ _ => ln - (intOf i).toNat)
  case atStart => exact ⟨0, _, Nat.zero_le _, rfl, rfl, Lib.hid (Below.refl _ _)⟩
  case round =>
    obtain ⟨k, n, hk, rfl, rfl, HB⟩ := hrel
    have HOLD : Hid (Below W.heap.size W wr) := Lib.hid (HW.out.trans (HB.out.mono HW.out.size))
    by_cases hlt : k < ln
    · by_cases hn3 : n < 3000
      · obtain ⟨b, o, s, pa, ca, pb, cb, v0, v1, v2, v3, rfl, ha, hb, hn, e0, e1, e2, e3, e4, e5, e6⟩ := HST.out HOLD.out k hlt
        have hxa := pl_max ha
        have hxb := pl_max hb
        have HA := Lib.hid ha
        have HBB := Lib.hid hb
        have HC := Lib.hid (HWE.out hn wr HOLD.out)
        have HSM : Hid (∀ {w2 : World}, Below wr.heap.size wr w2 → w2.cell? ⟨b, o + k * 7 + 1, none⟩ = some (.slice pa s.a.length ca) ∧ w2.cell? ⟨b, o + k * 7 + 2, none⟩ = some (.slice pb s.b.length cb)) := Lib.hid fun h => ⟨cell_kept h e1, cell_kept h e2⟩
        obtain ⟨q0, r0, d0, t0, hv⟩ := hn.cells
        obtain ⟨rfl, rfl, rfl, rfl⟩ : v0 = _ ∧ v1 = _ ∧ v2 = _ ∧ v3 = _ := by simpa using hv
        clear ha hb hn hv
        generalize hla : s.a.length = la at *
        generalize hlb : s.b.length = lb at *
        clear hla hlb
        by_cases h60 : 60 < la
        · go_wp2_with fail
          go_ret
          exact ⟨⟨_, rfl⟩, HB.out⟩
        · by_cases h61 : 60 < lb
          · go_wp2_with fail
            go_ret
            exact ⟨⟨_, rfl⟩, HB.out⟩
          · go_wp2_with fail
            refine HC.out.mono ?_
            rintro e w2 ⟨⟨m, rfl⟩, hb2⟩
            have HB2 : Hid (Below wr.heap.size wr w2) := Lib.hid hb2
            obtain ⟨f1, f2⟩ := HSM.out hb2
            clear hb2 e0 e1 e2 e3 e4 e5 e6 HC HSM
            go_wp2_with fail
            go_loopw [3, 5] (fun s i wq => ∃ (j : Nat) (n : Int), j ≤ la ∧ i = .int .i64 j ∧ s = .int .i64 n ∧ Hid (Below w2.heap.size w2 wq)) (fun _ i _ => la - (intOf i).toNat)
            case atStart => exact ⟨0, _, Nat.zero_le _, rfl, rfl, Lib.hid (Below.refl _ _)⟩
            case round =>
              obtain ⟨j, m, hj, rfl, rfl, HQ⟩ := hrel
              have HB3 := Lib.hid (HB2.out.trans (HQ.out.mono HB2.out.size))
              have f1 := cell_kept HQ.out f1
              have f2 := cell_kept HQ.out f2
              by_cases hjn : j < la
              · obtain ⟨b', o', x, rfl, g0⟩ := pl_cell HA.out (HOLD.out.trans (HB3.out.mono HOLD.out.size)) hjn
                go_wp2_with fail
                go_roundw
                case rel => exact ⟨j + 1, _, by omega, by go_num, rfl, HQ⟩
                case measure => simp [intOf]; omega
              · go_wp2_with fail
                go_loopw [3, 6] (fun s i wq => ∃ (j : Nat) (n : Int), j ≤ lb ∧ i = .int .i64 j ∧ s = .int .i64 n ∧ Hid (Below w2.heap.size w2 wq)) (fun _ i _ => lb - (intOf i).toNat)
                case atStart => exact ⟨0, _, Nat.zero_le _, rfl, rfl, HQ⟩
                case round =>
                  clear HQ HB3
                  obtain ⟨i, m, hi, rfl, rfl, HQ⟩ := hrel
                  have HB3 := Lib.hid (HB2.out.trans (HQ.out.mono HB2.out.size))
                  have f1 := cell_kept HQ.out (by assumption : w2.cell? ⟨b, o + k * 7 + 1, none⟩ = _)
                  have f2 := cell_kept HQ.out (by assumption : w2.cell? ⟨b, o + k * 7 + 2, none⟩ = _)
                  by_cases hin : i < lb
                  · obtain ⟨b', o', x, rfl, g0⟩ := pl_cell HBB.out (HOLD.out.trans (HB3.out.mono HOLD.out.size)) hin
                    go_wp2_with fail
                    go_roundw
                    case rel => exact ⟨i + 1, _, by omega, by go_num, rfl, HQ⟩
                    case measure => simp [intOf]; omega
                  · go_wp2_with fail
                    go_roundw
                    case rel => exact ⟨k + 1, _, by omega, by go_num, rfl, Lib.hid (HB.out.trans (HB3.out.mono HB.out.size))⟩
                    case measure => simp [intOf]; omega
      · go_wp2_with fail
        go_ret
        exact ⟨⟨_, rfl⟩, HB.out⟩
    · by_cases hn3 : 3000 ≤ n
      · go_wp2_with fail
        go_ret
        exact ⟨⟨_, rfl⟩, HB.out⟩
      · go_wp2_with fail
        go_ret
        exact ⟨⟨_, rfl⟩, HB.out⟩
end Go.Proofs.Ytcookbaedcjmjaa
