/- Walks: how heavy a node is, and whether a link is in it, of the statement on ways. -/
import Derived.Test.YtlnnnlpofocgpabWkG
namespace Go.Proofs.Ytlnnnlpofocgpab
open Go.RowKit Px Nx Wk

set_option maxRecDepth 100000 in
set_option maxHeartbeats 4000000 in
theorem weight9_any {W : World} {cs : List Value} {c : Nd} (h : NodeR W cs c) : ∀ w, Below W.heap.size W w →
    Calls Try.prog 5 #[.agg cs.toArray] w fun e w' => (∃ n : Int, e = .returned (.int .i64 n)) ∧ Below w.heap.size w w' := by
  induction h with
  | mk kind text names kids p q cp d D h1 h2 h3 h5 h6 h7 h8 ih =>
    intro w hb
    have hlw : names.length ≤ 9223372036854775807 := by unfold maxLen at h2; omega
    have hlk : kids.length ≤ 9223372036854775807 := by unfold maxLen at h6; omega
    have IH := Lib.hid ih
    have HRW := Lib.hid h3
    have HRK := Lib.hid h7
    have HW := Lib.hid hb
    clear ih h8 h7 h3 hb h1 h2 h5 h6
    have HN : Hid (∀ {wr : World} {k : Nat}, Below W.heap.size W wr → k < names.length → ∃ b o s, p = some ⟨b, o, none⟩ ∧ wr.cell? ⟨b, o + k, none⟩ = some (.string s)) := Lib.hid fun hb hk => by
      obtain ⟨b, o, he, hc⟩ := name_cell HRW.out hb hk
      exact ⟨b, o, _, he, hc⟩
    have HK : Hid (∀ (k : Nat), k < kids.length → ∀ w, Below W.heap.size W w → Calls Try.prog 5 #[.agg (D k).toArray] w fun e w' => (∃ n : Int, e = .returned (.int .i64 n)) ∧ Below w.heap.size w w') := Lib.hid fun k hk w hb => IH.out k _ (List.getElem?_eq_getElem hk) w hb
    clear IH HRW
    generalize names.length = nn at *
    generalize kids.length = kn at *
    go_enter Try.func5, Try.ntmps5
    go_wp2_with fail
    go_loopw [3, 4] (fun s i wr => ∃ (k : Nat) (n : Int), k ≤ nn ∧ i = .int .i64 k ∧ s = .int .i64 n ∧ Hid (Below (w.heap.size + 1) (w.alloc (.cells #[.int .u8 kind.toNat, .string text, .slice p nn cp, .slice q kn d] 25)) wr)) (fun _ i _ => nn - (intOf i).toNat)
    case atStart => exact ⟨0, _, Nat.zero_le _, rfl, rfl, Lib.hid (Below.refl _ _)⟩
    case round =>
      obtain ⟨k, n, hk, rfl, rfl, HB⟩ := hrel
      have c2 : wr.cell? ⟨w.heap.size, 2, none⟩ = some (.slice p nn cp) := box_cell HB.out 2 rfl
      have HOLD : Hid (Below W.heap.size W wr) := Lib.hid (box_old HW.out (Nat.le_refl _) HB.out)
      have HREST : Hid (∀ (m : Int), Below (w.heap.size + 1) (w.alloc (.cells #[.int .u8 kind.toNat, .string text, .slice p nn cp, .slice q kn d] 25)) wr → True) := Lib.hid fun _ _ => trivial
      clear HREST
      by_cases hlt : k < nn
      · obtain ⟨b, o, s, rfl, e0⟩ := HN.out HOLD.out hlt
        by_cases hn3 : n < 3000
        · go_wp2_with fail
          go_roundw
          case rel => exact ⟨k + 1, _, by omega, by go_num, rfl, HB⟩
          case measure => simp [intOf]; omega
        · (
          go_wp2_with fail
          have HB0 := Lib.hid HB.out
          clear HB c2 HOLD
          go_loopw [3, 5] (fun s i wr => ∃ (k : Nat) (n : Int), k ≤ kn ∧ i = .int .i64 k ∧ s = .int .i64 n ∧ Hid (Below (w.heap.size + 1) (w.alloc (.cells #[.int .u8 kind.toNat, .string text, .slice (some ⟨b, o, none⟩) nn cp, .slice q kn d] 25)) wr)) (fun _ i _ => kn - (intOf i).toNat)
          case atStart => exact ⟨0, _, Nat.zero_le _, rfl, rfl, HB0⟩
          case round =>
            clear HB0
            obtain ⟨j, m, hj, rfl, rfl, HB⟩ := hrel
            have c3 : wr.cell? ⟨w.heap.size, 3, none⟩ = some (.slice q kn d) := box_cell HB.out 3 rfl
            have HOLD : Hid (Below W.heap.size W wr) := Lib.hid (box_old HW.out (Nat.le_refl _) HB.out)
            by_cases hjn : j < kn
            · obtain ⟨b, o, v0, v1, v2, v3, rfl, hD, e0, e1, e2, e3⟩ := kid_at HRK.out HOLD.out hjn
              have HC := Lib.hid (HK.out j hjn wr HOLD.out)
              rw [hD] at HC
              clear hD
              go_wp2_with fail
              · refine HC.out.mono ?_
                rintro e w2 ⟨⟨x, rfl⟩, hb2⟩
                have HB2 : Hid (Below (w.heap.size + 1) wr w2) := Lib.hid (hb2.mono (by have := HB.out.size; simp at this; omega))
                clear hb2
                go_wp2
                go_roundw
                case rel => exact ⟨j + 1, _, by omega, by go_num, rfl, Lib.hid (HB.out.trans HB2.out)⟩
                case measure => simp [intOf]; omega
              · go_wp2
                go_ret
                exact ⟨⟨_, rfl⟩, box_self HB.out⟩
            · go_wp2
              go_ret
              exact ⟨⟨_, rfl⟩, box_self HB.out⟩)
      · (
        go_wp2_with fail
        have HB0 := Lib.hid HB.out
        clear HB c2 HOLD
        go_loopw [3, 5] (fun s i wr => ∃ (k : Nat) (n : Int), k ≤ kn ∧ i = .int .i64 k ∧ s = .int .i64 n ∧ Hid (Below (w.heap.size + 1) (w.alloc (.cells #[.int .u8 kind.toNat, .string text, .slice p nn cp, .slice q kn d] 25)) wr)) (fun _ i _ => kn - (intOf i).toNat)
        case atStart => exact ⟨0, _, Nat.zero_le _, rfl, rfl, HB0⟩
        case round =>
          clear HB0
          obtain ⟨j, m, hj, rfl, rfl, HB⟩ := hrel
          have c3 : wr.cell? ⟨w.heap.size, 3, none⟩ = some (.slice q kn d) := box_cell HB.out 3 rfl
          have HOLD : Hid (Below W.heap.size W wr) := Lib.hid (box_old HW.out (Nat.le_refl _) HB.out)
          by_cases hjn : j < kn
          · obtain ⟨b, o, v0, v1, v2, v3, rfl, hD, e0, e1, e2, e3⟩ := kid_at HRK.out HOLD.out hjn
            have HC := Lib.hid (HK.out j hjn wr HOLD.out)
            rw [hD] at HC
            clear hD
            go_wp2_with fail
            · refine HC.out.mono ?_
              rintro e w2 ⟨⟨x, rfl⟩, hb2⟩
              have HB2 : Hid (Below (w.heap.size + 1) wr w2) := Lib.hid (hb2.mono (by have := HB.out.size; simp at this; omega))
              clear hb2
              go_wp2
              go_roundw
              case rel => exact ⟨j + 1, _, by omega, by go_num, rfl, Lib.hid (HB.out.trans HB2.out)⟩
              case measure => simp [intOf]; omega
            · go_wp2
              go_ret
              exact ⟨⟨_, rfl⟩, box_self HB.out⟩
          · go_wp2
            go_ret
            exact ⟨⟨_, rfl⟩, box_self HB.out⟩)


namespace Nx
mutual
/-- Is a link in a node? -/
def Nd.linked : Nd → Bool
  | .mk k _ _ kids => Nd.linkeds kids || (k == 3)
def Nd.linkeds : List Nd → Bool
  | [] => false
  | c :: r => c.linked || Nd.linkeds r
end
theorem linkeds_take : ∀ {l : List Nd} {k : Nat} {c : Nd}, l[k]? = some c → Nd.linkeds (l.take (k + 1)) = (Nd.linkeds (l.take k) || c.linked)
  | [], _, _, h => by simp at h
  | x :: l, 0, c, h => by
    obtain rfl : x = c := by simpa using h
    simp [Nd.linkeds]
  | x :: l, k + 1, c, h => by
    have := linkeds_take (l := l) (k := k) (c := c) (by simpa using h)
    simp only [List.take_succ_cons, Nd.linkeds]
    rw [this, Bool.or_assoc]
theorem linkeds_at : ∀ {l : List Nd} {k : Nat} {c : Nd}, l[k]? = some c → c.linked = true → Nd.linkeds l = true
  | [], _, _, h, _ => by simp at h
  | x :: l, 0, c, h, hc => by
    obtain rfl : x = c := by simpa using h
    simp [Nd.linkeds, hc]
  | x :: l, k + 1, c, h, hc => by
    have := linkeds_at (l := l) (k := k) (c := c) (by simpa using h) hc
    simp [Nd.linkeds, this]
theorem linked_at {n : Nd} (h : n.linked = false) : ∀ (p : List ByteArray) (k : Nd), n.at_ p = some k → k.linked = false := by
  intro p
  induction p generalizing n with
  | nil =>
    intro k hk
    obtain rfl : n = k := by simpa [Nd.at_] using hk
    exact h
  | cons x p ih =>
    intro k hk
    rw [Nd.at_] at hk
    obtain ⟨c, hc, hk⟩ := Option.bind_eq_some_iff.1 hk
    refine ih ?_ k hk
    unfold Nd.kid at hc
    split at hc
    · cases hc
    · obtain ⟨kk, tt, ll, rr⟩ := n
      cases hcl : c.linked with
      | false => rfl
      | true =>
        have h2 := linkeds_at (l := rr) hc hcl
        unfold Nd.linked at h
        rw [h2] at h
        cases h
end Nx
theorem Wk.no_link {n : Nd} (h : n.linked = false) (p : List ByteArray) : kindAt n p ≠ 3 := by
  intro hk
  unfold kindAt at hk
  cases hat : n.at_ p with
  | none => rw [hat] at hk; cases hk
  | some c =>
    rw [hat] at hk
    have h1 := linked_at h p c hat
    obtain ⟨kk, tt, ll, rr⟩ := c
    have hk3 : kk = 3 := hk
    unfold Nd.linked at h1
    rw [hk3] at h1
    simp at h1

set_option maxRecDepth 100000 in
set_option maxHeartbeats 4000000 in
theorem linked_any {W : World} {cs : List Value} {c : Nd} (h : NodeR W cs c) : ∀ w, Below W.heap.size W w →
    Calls Try.prog 12 #[.agg cs.toArray] w fun e w' => e = .returned (.bool c.linked) ∧ Below w.heap.size w w' := by
  induction h with
  | mk kind text names kids p q cp d D h1 h2 h3 h5 h6 h7 h8 ih =>
    intro w hb
    have hlk : kids.length ≤ 9223372036854775807 := by unfold maxLen at h6; omega
    have HRK := Lib.hid h7
    have HW := Lib.hid hb
    have HK : Hid (∀ (k : Nat) x, kids[k]? = some x → ∀ w, Below W.heap.size W w → Calls Try.prog 12 #[.agg (D k).toArray] w fun e w' => e = .returned (.bool x.linked) ∧ Below w.heap.size w w') := Lib.hid ih
    have HKN : Hid (∀ k, k < kids.length → ∃ x, kids[k]? = some x ∧ Nd.linkeds (kids.take (k + 1)) = (Nd.linkeds (kids.take k) || x.linked) ∧ (x.linked = true → Nd.linked (.mk kind text names kids) = true)) := Lib.hid fun k hk => ⟨_, List.getElem?_eq_getElem hk, linkeds_take (List.getElem?_eq_getElem hk), fun hx => by unfold Nd.linked; rw [linkeds_at (List.getElem?_eq_getElem hk) hx]; rfl⟩
    have HALL : Hid (∀ k, ¬ k < kids.length → Nd.linkeds (kids.take k) = false → Nd.linked (.mk kind text names kids) = (kind == 3)) := Lib.hid fun k hk h0 => by
      rw [List.take_of_length_le (by omega)] at h0
      unfold Nd.linked
      rw [h0, Bool.false_or]
    have HKX : Hid (∀ (i : Nat) x, kids[i]? = some x → NodeR W (D i) x) := Lib.hid h8
    have ek := beq_int kind 3
    rw [show ((3 : UInt8).toNat : Int) = 3 from rfl] at ek
    generalize (kind == 3) = k3 at *
    clear ih h8 h7 h3 hb h1 h2 h5 h6
    generalize Nd.linked (.mk kind text names kids) = LK at *
    generalize names.length = nn at *
    generalize kids.length = kn at *
    go_enter Try.func12, Try.ntmps12
    go_wp2_with fail
    go_loopw [3] (fun i wr => ∃ (k : Nat), k ≤ kn ∧ i = .int .i64 k ∧ Hid (Nd.linkeds (kids.take k) = false) ∧ Hid (Below (w.heap.size + 1) (w.alloc (.cells #[.int .u8 kind.toNat, .string text, .slice p nn cp, .slice q kn d] 25)) wr)) (fun i _ => kn - (intOf i).toNat)
    case atStart => exact ⟨0, Nat.zero_le _, rfl, Lib.hid rfl, Lib.hid (Below.refl _ _)⟩
    case round =>
      obtain ⟨k, hk, rfl, HN, HB⟩ := hrel
      have c3 : wr.cell? ⟨w.heap.size, 3, none⟩ = some (.slice q kn d) := box_cell HB.out 3 rfl
      have c0 : wr.cell? ⟨w.heap.size, 0, none⟩ = some (.int .u8 kind.toNat) := box_cell HB.out 0 rfl
      have HOLD : Hid (Below W.heap.size W wr) := Lib.hid (box_old HW.out (Nat.le_refl _) HB.out)
      by_cases hlt : k < kn
      · obtain ⟨x, hx, ht, htr⟩ := HKN.out k hlt
        obtain ⟨b, o, v0, v1, v2, v3, rfl, hD, e0, e1, e2, e3⟩ := kid_at HRK.out HOLD.out hlt
        have HC := Lib.hid (HK.out k x hx wr HOLD.out)
        rw [hD] at HC
        have HTK := Lib.hid ht
        have HTR := Lib.hid htr
        clear hD ht htr hx
        generalize x.linked = lx at *
        go_wp2_with fail
        refine HC.out.mono ?_
        rintro e w2 ⟨rfl, hb2⟩
        have HB2 : Hid (Below (w.heap.size + 1) wr w2) := Lib.hid (hb2.mono (by have := HB.out.size; simp at this; omega))
        clear hb2 c0 c3 e0 e1 e2 e3
        cases lx with
        | true =>
          go_wp2_with fail
          go_ret
          exact ⟨by rw [HTR.out (by trivial)]; rfl, box_self (HB.out.trans HB2.out)⟩
        | false =>
          go_wp2_with fail
          go_roundw
          case rel => exact ⟨k + 1, by omega, by go_num, Lib.hid (by rw [HTK.out, HN.out]; rfl), Lib.hid (HB.out.trans HB2.out)⟩
          case measure => simp [intOf]; omega
      · have HL := Lib.hid (HALL.out k hlt HN.out)
        go_wp2_with fail
        go_ret
        exact ⟨by rw [HL.out]; rfl, box_self HB.out⟩
end Go.Proofs.Ytlnnnlpofocgpab
/- Paths that are put together: their steps, and what they ask for. No program. -/
namespace Go.Proofs.Ytlnnnlpofocgpab
open Go.RowKit Px Nx Wk
namespace Wk
theorem mk_list (x : ByteArray) : (⟨x.data.toList.toArray⟩ : ByteArray) = x := Lib.mk_data x
/-- What may be a step. -/
def Stp (x : ByteArray) : Prop := (∀ c ∈ x.data.toList, c ≠ 47) ∧ good x.data.toList = true
theorem steps_behind (t s : ByteArray) (hs : Stp s) : stepsB (t ++ ⟨#[47]⟩ ++ s) = stepsB t ++ [s] := by
  have e : (t ++ ⟨#[47]⟩ ++ s).data.toList = t.data.toList ++ 47 :: s.data.toList := by simp
  unfold stepsB
  rw [e, steps_join, steps_one hs.1 hs.2, List.map_append]
  simp
theorem steps_stp (t : ByteArray) : ∀ x ∈ stepsB t, Stp x := by
  intro x hx
  unfold stepsB at hx
  obtain ⟨l, hl, rfl⟩ := List.mem_map.1 hx
  have := steps_mem hl
  exact ⟨by simpa using this.1, by simpa using this.2.1⟩
theorem flat_joined9 : ∀ xs : List ByteArray, flat xs = joined (xs.map fun x => x.data.toList)
  | [] => rfl
  | x :: l => by
    rw [flat, List.map_cons, joined, flat_joined9 l]
theorem steps_show (p : List ByteArray) (hp : ∀ x ∈ p, Stp x) : stepsB ⟨(showL p).toArray⟩ = p := by
  unfold stepsB showL
  by_cases h0 : p.length = 0
  · rw [if_pos h0]
    obtain rfl : p = [] := List.length_eq_zero_iff.1 h0
    rfl
  · rw [if_neg h0, flat_joined9]
    have h1 := steps_more (ps := p.map fun x => x.data.toList) [] (by
      intro q hq
      obtain ⟨x, hx, rfl⟩ := List.mem_map.1 hq
      exact hp x hx)
    rw [List.nil_append, steps_nil, List.nil_append] at h1
    have e : (⟨(joined (p.map fun x => x.data.toList)).toArray⟩ : ByteArray).data.toList = joined (p.map fun x => x.data.toList) := by simp
    rw [e, h1, List.map_map]
    have : (fun l => (⟨l.toArray⟩ : ByteArray)) ∘ (fun x : ByteArray => x.data.toList) = id := by
      funext x
      exact mk_list x
    rw [this, List.map_id]
theorem not_dots_list {s : ByteArray} (h : s ≠ dots) : s.data.toList ≠ [46, 46] := fun e => h (by
  obtain ⟨d⟩ := s
  show ByteArray.mk d = ByteArray.mk #[46, 46]
  congr 1
  exact Array.toList_inj.1 e)
theorem dir_last {a : Px.B} {s : ByteArray} (hs : Stp s) (hd : s ≠ dots) : dirL (a ++ 47 :: s.data.toList) = false := by
  have hg := hs.2
  have hd2 := not_dots_list hd
  unfold dirL
  rw [lastP_join, lastP_none hs.1]
  unfold good at hg
  simp only [Bool.and_eq_true, Bool.not_eq_true', beq_eq_false_iff_ne] at hg
  rw [beq_eq_false_iff_ne.2 hg.1, beq_eq_false_iff_ne.2 hg.2, beq_eq_false_iff_ne.2 hd2]
  rfl
theorem dir_behind (t s : ByteArray) (hs : Stp s) (hd : s ≠ dots) : dirB (t ++ ⟨#[47]⟩ ++ s) = false := by
  have e : (t ++ ⟨#[47]⟩ ++ s).data.toList = t.data.toList ++ 47 :: s.data.toList := by simp
  unfold dirB
  rw [e]
  exact dir_last hs hd
theorem dir_show (p : List ByteArray) (hp : ∀ x ∈ p, Stp x ∧ x ≠ dots) (hne : p ≠ []) : dirB ⟨(showL p).toArray⟩ = false := by
  rcases List.eq_nil_or_concat p with rfl | ⟨l, x, rfl⟩
  · exact absurd rfl hne
  · rw [List.concat_eq_append] at *
    have hx := hp x (by simp)
    have e : (⟨(showL (l ++ [x])).toArray⟩ : ByteArray).data.toList = flat l ++ 47 :: x.data.toList := by
      unfold showL
      rw [if_neg (by simp), flat_append]
      simp [flat]
    unfold dirB
    rw [e]
    exact dir_last hx.1 hx.2
/-- How long a place may be, ahead of which directories stand: as deep as the tree. -/
theorem deep_kid {n c : Nd} {x : ByteArray} (h : n.kid x = some c) : c.deep + 1 ≤ n.deep := by
  unfold Nd.kid at h
  split at h
  · cases h
  · obtain ⟨k, t, l, r⟩ := n
    have : ∀ {r : List Nd} {i : Nat} {c : Nd}, r[i]? = some c → c.deep + 1 ≤ Nd.deeps r := by
      intro r
      induction r with
      | nil => intro i c h; simp at h
      | cons y r ih =>
        intro i c h
        rw [Nd.deeps]
        cases i with
        | zero =>
          obtain rfl : y = c := by simpa using h
          omega
        | succ i =>
          have := ih (i := i) (c := c) (by simpa using h)
          omega
    rw [Nd.deep]
    exact this h
theorem deep_at {n : Nd} : ∀ {p : List ByteArray} {k : Nd}, n.at_ p = some k → p.length + k.deep ≤ n.deep := by
  intro p
  induction p generalizing n with
  | nil =>
    intro k h
    obtain rfl : n = k := by simpa [Nd.at_] using h
    simp
  | cons x p ih =>
    intro k h
    rw [Nd.at_] at h
    obtain ⟨c, hc, hk⟩ := Option.bind_eq_some_iff.1 h
    have h1 := deep_kid hc
    have h2 := ih hk
    rw [List.length_cons]
    omega
theorem dirsUp_len {n : Nd} {p : List ByteArray} (h : DirsUp n p) : p.length ≤ n.deep + 1 := by
  rcases List.eq_nil_or_concat p with rfl | ⟨l, x, rfl⟩
  · simp
  · rw [List.concat_eq_append] at *
    have hk := h l (List.prefix_append l [x]) (fun e => by have := congrArg List.length e; simp at this)
    unfold kindAt at hk
    cases hat : n.at_ l with
    | none => rw [hat] at hk; cases hk
    | some k =>
      have := deep_at hat
      simp
      omega
end Wk
end Go.Proofs.Ytlnnnlpofocgpab
/- What the statement on ways asks of the ends of ways: all of it holds. No program. -/
namespace Go.Proofs.Ytlnnnlpofocgpab
open Go.RowKit Px Nx Wk
namespace Wk
/-- A path's way, where a link at the end is followed, or not. -/
abbrev WayOf (n : Nd) (fo : Bool) (t : ByteArray) (o : Out) : Prop := Run n stepsB dirB absB fo [] (stepsB t) 0 (dirB t) o
theorem way_one {n : Nd} {fo : Bool} {t : ByteArray} {o o' : Out} (h : WayOf n fo t o) (h' : WayOf n fo t o') : o = o' := run_det h h' (Nat.zero_le _)
theorem way_names {n : Nd} {fo : Bool} {t : ByteArray} {p : List ByteArray} {k : UInt8} (h : WayOf n fo t (.ok p k)) : ∀ x ∈ p, Stp x ∧ x ≠ dots :=
  run_names (P := Stp) (fun t s hs => .inr (steps_stp t s hs)) h (fun s hs => by cases hs) (fun s hs => .inr (steps_stp t s hs)) p k rfl
theorem way_real {n : Nd} (hk : n.kind = 2) {fo : Bool} {t : ByteArray} {p : List ByteArray} {k : UInt8} (h : WayOf n fo t (.ok p k)) : DirsUp n p ∧ kindAt n p = k := run_real hk h (dirsTo_nil hk) p k rfl
/-- The path of a place that was told leads to it. -/
theorem spot_again {n : Nd} (hk : n.kind = 2) {t : ByteArray} {m : List ByteArray} {q : UInt8} (h : WayOf n false t (.ok m q)) {o : Out} (h' : WayOf n false ⟨(showL m).toArray⟩ o) : o = .ok m q := by
  obtain ⟨h1, h2⟩ := way_real hk h
  have hn := way_names h
  unfold WayOf at h'
  rw [steps_show m fun x hx => (hn x hx).1] at h'
  by_cases hm : m = []
  · subst hm
    cases h'
    rw [show q = 2 from h2.symm.trans hk]
  · rw [dir_show m hn hm] at h'
    have := run_place h' rfl (fun s hs => (hn s hs).2) (by simpa using h1) (fun e => absurd e hm)
    rw [List.nil_append, h2] at this
    exact this
/-- Find and Spot of one path. -/
theorem find_spot {n : Nd} {t : ByteArray} {l : List ByteArray} {k : UInt8} (h : WayOf n true t (.ok l k)) {o : Out} (h' : WayOf n false t o) : k ≠ 3 ∧ ∃ m q, o = .ok m q ∧ (q = 3 ∨ (m = l ∧ q = k)) := by
  obtain ⟨h1, m, q, h2, h3⟩ := run_find h l k rfl
  exact ⟨h1, m, q, way_one h' h2, h3⟩
/-- Without links. -/
theorem find_clean {n : Nd} (hl : n.linked = false) {t : ByteArray} {l : List ByteArray} {k : UInt8} (h : WayOf n true t (.ok l k)) : l = cleanBs (stepsB t) := by
  have h1 := run_clean (no_link hl) h l k rfl
  rw [h1]
  have hg : ∀ (a : List ByteArray) (s : ByteArray), goD a s = cleanStepB a s := by
    intro a s
    unfold goD cleanStepB
    by_cases hs : s = dots
    · rw [if_pos hs, if_pos (by rw [hs, Lib.toList_data]; rfl)]
    · rw [if_neg hs, if_neg (fun e => not_dots_list hs (by rwa [Lib.toList_data] at e))]
  unfold cleanBs
  congr 1
  funext a s
  exact hg a s
/-- A path, a slash and a name. -/
theorem find_behind {n : Nd} (hk : n.kind = 2) {t s : ByteArray} (hs : Stp s) (hd : s ≠ dots) {o o' : Out} (h : WayOf n true t o) (h' : WayOf n true (t ++ ⟨#[47]⟩ ++ s) o') :
    (∀ c, o = .err c → ∃ d, o' = .err d) ∧ ∀ l k, o = .ok l k → (k = 0 → o' = .err 5) ∧ (k ≠ 0 → k ≠ 2 → o' = .err 55) ∧
      (k = 2 → ∀ o2, WayOf n true (⟨(showL l).toArray⟩ ++ ⟨#[47]⟩ ++ s) o2 → o2 = .err 61 ∨ o' = .err 61 ∨ o' = o2) := by
  unfold WayOf at h'
  rw [steps_behind t s hs, dir_behind t s hs hd] at h'
  have hf := run_further h (Nat.zero_le _) hd o' h'
  constructor
  · rintro c rfl
    exact hf
  · rintro l k rfl
    obtain ⟨f1, f2, f3⟩ := hf
    refine ⟨f1, f2, fun hk2 o2 h2 => ?_⟩
    obtain ⟨j', hj, hr⟩ := f3 hk2
    obtain ⟨d1, d2⟩ := way_real hk h
    have hn := way_names h
    unfold WayOf at h2
    rw [steps_behind _ s hs, dir_behind _ s hs hd, steps_show l fun x hx => (hn x hx).1] at h2
    have hto : DirsTo n ([] ++ l) := by
      intro q hq
      rw [List.nil_append] at hq
      by_cases e : q = l
      · rw [e, d2, hk2]
      · exact d1 q hq e
    have h3 := run_through (fun x hx => (hn x hx).2) hto h2
    rw [List.nil_append] at h3
    rcases (run_more h3 j' o' (Nat.zero_le _) hj hr).2 with e | e
    · exact .inr (.inr e.symm)
    · exact .inr (.inl e)
/-- The errors of a way. -/
theorem run_err {n : Nd} {fo : Bool} {at_ l : List ByteArray} {j : Nat} {a : Bool} {o : Out} (h : Run n stepsB dirB absB fo at_ l j a o) : ∀ c, o = .err c → c ≠ 0 := by
  induction h with
  | done => intro c e; cases e
  | up at_ r j a o _ ih => exact ih
  | ends => intro c e; cases e
  | none => intro c e; cases e; decide
  | dir at_ s r j a o h1 h2 h3 _ ih => exact ih
  | loop => intro c e; cases e; decide
  | link at_ s r j a o h1 h2 h3 h4 _ ih => exact ih
  | file => intro c e; cases e; decide
theorem steps_size (t : ByteArray) : ∀ x ∈ stepsB t, x.size ≤ t.size := by
  intro x hx
  unfold stepsB at hx
  obtain ⟨l, hl, rfl⟩ := List.mem_map.1 hx
  have h1 := (steps_mem hl).2.2
  have h2 : (⟨l.toArray⟩ : ByteArray).size = l.length := by rw [Lib.size_eq]
  rw [h2, Lib.size_eq]
  exact h1
theorem run_size {n : Nd} (hw : n.well = true) {M : Nat} (hM : 256 ≤ M) {fo : Bool} {at_ l : List ByteArray} {j : Nat} {a : Bool} {o : Out} (h : Run n stepsB dirB absB fo at_ l j a o) : (∀ x ∈ at_, x.size ≤ M) → (∀ x ∈ l, x.size ≤ M) → ∀ p k, o = .ok p k → ∀ x ∈ p, x.size ≤ M := by
  induction h with
  | done at_ j a => intro h1 h2 p k e; cases e; exact h1
  | up at_ r j a o _ ih => intro h1 h2; exact ih (fun x hx => h1 x (List.dropLast_subset _ hx)) (fun x hx => h2 x (List.mem_cons_of_mem _ hx))
  | ends at_ s j a h1 h2 =>
    intro h1 h2 p k e
    cases e
    intro x hx
    rcases List.mem_append.1 hx with hx | hx
    · exact h1 x hx
    · obtain rfl : x = s := by simpa using hx
      exact h2 x (by simp)
  | none => intro _ _ p k e; cases e
  | dir at_ s r j a o h1 h2 h3 _ ih =>
    intro g1 g2
    refine ih (fun x hx => ?_) (fun x hx => g2 x (List.mem_cons_of_mem _ hx))
    rcases List.mem_append.1 hx with hx | hx
    · exact g1 x hx
    · obtain rfl : x = s := by simpa using hx
      exact g2 x (by simp)
  | loop => intro _ _ p k e; cases e
  | link at_ s r j a o h1 h2 h3 h4 _ ih =>
    intro g1 g2
    refine ih ?_ (fun x hx => ?_)
    · split
      · intro x hx; cases hx
      · exact g1
    · rcases List.mem_append.1 hx with hx | hx
      · have htx : (textAt n (at_ ++ [s])).size ≤ 256 := by
          unfold textAt
          cases hat : n.at_ (at_ ++ [s]) with
          | none => decide
          | some y => exact text_small (well_at hw hat)
        have := steps_size _ x hx
        omega
      · exact g2 x (List.mem_cons_of_mem _ hx)
  | file => intro _ _ p k e; cases e
/-- A place that is told may be shown. -/
theorem way_small {n : Nd} (hm : n.may = true) {fo : Bool} {t : ByteArray} (ht : t.size ≤ 1000) {p : List ByteArray} {k : UInt8} (h : WayOf n fo t (.ok p k)) : smallL p ∧ p.length ≤ 25 ∧ ∀ x ∈ p, x.size ≤ 1000 := by
  obtain ⟨hw, hk⟩ := may_well hm
  have h1 := dirsUp_len (way_real hk h).1
  have h2 : n.deep ≤ 24 := by
    unfold Nd.may at hm
    simp only [Bool.and_eq_true, decide_eq_true_eq] at hm
    exact hm.2
  have h3 := run_size hw (M := 1000) (by decide) h (fun x hx => by cases hx) (fun x hx => Nat.le_trans (steps_size t x hx) ht) p k rfl
  exact ⟨⟨by omega, fun x hx => Nat.le_trans (h3 x hx) (by decide)⟩, by omega, h3⟩
/-- The kinds where ways end. -/
theorem way_kind {n : Nd} (hw : n.well = true) (p : List ByteArray) : kindAt n p = 0 ∨ kindAt n p = 1 ∨ kindAt n p = 2 ∨ kindAt n p = 3 := by
  unfold kindAt
  cases hat : n.at_ p with
  | none => exact .inl rfl
  | some c =>
    have h := well_at hw hat
    obtain ⟨k, t, l, r⟩ := c
    show k = 0 ∨ k = 1 ∨ k = 2 ∨ k = 3
    unfold Nd.well at h
    by_cases h1 : k = 1
    · exact .inr (.inl h1)
    · rw [if_neg h1] at h
      by_cases h3 : k = 3
      · exact .inr (.inr (.inr h3))
      · rw [if_neg h3] at h
        by_cases h2 : k = 2
        · exact .inr (.inr (.inl h2))
        · rw [if_neg h2] at h
          cases h
end Wk
end Go.Proofs.Ytlnnnlpofocgpab
