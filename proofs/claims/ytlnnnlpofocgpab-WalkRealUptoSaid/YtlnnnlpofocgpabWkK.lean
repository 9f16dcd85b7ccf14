/- The statement on ways: it holds for any node and texts. -/
import Derived.Test.YtlnnnlpofocgpabWkH
import Derived.Test.YtlnnnlpofocgpabRows
import Derived.WalkKit
import Derived.ProofKit
import Derived.OpenShut
import Derived.JoinedCond
import Derived.Test.YtlnnnlpofocgpabFtOpen
namespace Go.Proofs.Ytlnnnlpofocgpab
open Go.RowKit Px Nx Wk
open Works9 (Bk)
theorem wnot_zero {c : Int} (h : c ≠ 0) : (c == 0) = false := beq_eq_false_iff_ne.2 h
theorem wis_not {c : Int} (h : c ≠ 0) : (c != 0) = true := bne_iff_ne.2 h
theorem eq_u8 (k : UInt8) : (((k.toNat : Nat) : Int) == ((k.toNat : Nat) : Int)) = true := beq_self_eq_true _
theorem ne_u8 (k : UInt8) : (((k.toNat : Nat) : Int) != ((k.toNat : Nat) : Int)) = false := by simp

theorem wnot_61 {c : Int} (h : c ≠ 61) : (c == 61) = false := beq_eq_false_iff_ne.2 h
theorem is_self (c : Int) : (c == c) = true := beq_self_eq_true c
theorem name_step {s : ByteArray} (h : nameL s.data.toList = true) : Stp s ∧ s ≠ dots := by
  obtain ⟨h1, h2, h3⟩ := name_good h
  exact ⟨⟨h1, h2⟩, fun e => h3 (by rw [e]; rfl)⟩
theorem nil_small : smallL [] := ⟨by decide, fun x hx => by cases hx⟩
theorem show_nil_size : (⟨(showL []).toArray⟩ : ByteArray).size = 1 := by rfl
theorem cat_size (t s : ByteArray) : (t ++ ⟨#[47]⟩ ++ s).size = t.size + 1 + s.size := by
  rw [ByteArray.size_append, ByteArray.size_append]
  rfl
theorem cat_small {t s : ByteArray} (ht : ¬ 1000 < t.size) (hs : ¬ 1000 < s.size) : (t ++ ⟨#[47]⟩ ++ s).size ≤ 50000 := by rw [cat_size]; omega
theorem cat_small0 {s : ByteArray} (hs : ¬ 1000 < s.size) : (((⟨(showL []).toArray⟩ : ByteArray)) ++ ⟨#[47]⟩ ++ s).size ≤ 50000 := by rw [cat_size, show_nil_size]; omega
theorem cat_small1 {l s : ByteArray} (hl : l.size ≤ 26000) (hs : ¬ 1000 < s.size) : (l ++ ⟨#[47]⟩ ++ s).size ≤ 50000 := by rw [cat_size]; omega
theorem nil_26 : (⟨(showL []).toArray⟩ : ByteArray).size ≤ 26000 := by rw [show_nil_size]; decide
theorem flat_size : ∀ {p : List ByteArray}, (∀ x ∈ p, x.size ≤ 1000) → (flat p).length ≤ 1001 * p.length
  | [], _ => by simp [flat]
  | x :: l, h => by
    have h1 := flat_size (p := l) fun y hy => h y (List.mem_cons_of_mem _ hy)
    have h2 := h x (by simp)
    rw [Lib.size_eq] at h2
    rw [flat, List.length_cons, List.length_append, List.length_cons]
    omega
theorem show_size {p : List ByteArray} (h1 : p.length ≤ 25) (h2 : ∀ x ∈ p, x.size ≤ 1000) : (⟨(showL p).toArray⟩ : ByteArray).size ≤ 26000 := by
  have h3 := flat_size h2
  rw [Lib.size_eq]
  show (showL p).length ≤ _
  unfold showL
  split
  · simp
  · omega

set_option maxRecDepth 100000 in
set_option maxHeartbeats 8000000 in
theorem law_real {W : World} {cs : List Value} {n : Nd} (hn : NodeR W cs n) (hB : n.bulk ≤ 2000000) (t s : ByteArray) :
    Calls Try.prog 3 #[.agg cs.toArray, .string t, .string s] W fun e w' => e = .returned (.bool true) ∧ Below W.heap.size W w' := by
  obtain ⟨p1, q1, c1, d1, rfl⟩ := hn.cells
  have HN := Lib.hid hn
  clear hn
  go_enter Try.func3, Try.ntmps3
  go_wp2_with fail
  have HBW : Hid (Below W.heap.size W (W.alloc (.cells #[.int .u8 n.kind.toNat, .string n.text, .slice p1 n.names.length c1, .slice q1 n.kids.length d1] 25))) := Lib.hid (wbelow_alloc (Below.refl _ _))
  have HBX : Hid (Bk (W.alloc (.cells #[.int .u8 n.kind.toNat, .string n.text, .slice p1 n.names.length c1, .slice q1 n.kids.length d1] 25)) W.heap.size [.int .u8 n.kind.toNat, .string n.text, .slice p1 n.names.length c1, .slice q1 n.kids.length d1] 25) := Lib.hid (Bk.new W [.int .u8 n.kind.toNat, .string n.text, .slice p1 n.names.length c1, .slice q1 n.kids.length d1] 25)
  generalize W.alloc (.cells #[.int .u8 n.kind.toNat, .string n.text, .slice p1 n.names.length c1, .slice q1 n.kids.length d1] 25) = w1 at *
  refine (Works9.works_any w1).mono ?_
  rintro e w2 ⟨rfl, hb2⟩
  have HB2 := Lib.hid (HBW.out.trans (hb2.mono HBW.out.size))
  have HX2 := Lib.hid (HBX.out.kept hb2)
  clear hb2 HBX HBW
  have HWT := Lib.hid (weight9_any HN.out w2 HB2.out)
  obtain ⟨c0, c1', c2, c3⟩ : w2.cell? ⟨W.heap.size, 0, none⟩ = some (.int .u8 n.kind.toNat) ∧ w2.cell? ⟨W.heap.size, 1, none⟩ = some (.string n.text) ∧ w2.cell? ⟨W.heap.size, 2, none⟩ = some (.slice p1 n.names.length c1) ∧ w2.cell? ⟨W.heap.size, 3, none⟩ = some (.slice q1 n.kids.length d1) := ⟨HX2.out.at rfl, HX2.out.at rfl, HX2.out.at rfl, HX2.out.at rfl⟩
  go_wp2_with fail
  refine HWT.out.mono ?_
  rintro e w3 ⟨⟨x, rfl⟩, hb3⟩
  have HB3 := Lib.hid (HB2.out.trans (hb3.mono HB2.out.size))
  have HX3 := Lib.hid (HX2.out.kept hb3)
  clear hb3 HB2 HX2 c0 c1' c2 c3 HWT
  by_cases hx : 3000 ≤ x
  · skip
    go_wp2_with fail
    refine (Works9.works_any w3).mono ?_
    rintro e w4 ⟨rfl, hb4⟩
    have HB4 := Lib.hid (HB3.out.trans (hb4.mono HB3.out.size))
    clear hb4
    go_wp2_with fail
    go_ret
    exact ⟨rfl, HB4.out⟩
  · by_cases h1 : 1000 < t.size
    · skip
      go_wp2_with fail
      refine (Works9.works_any w3).mono ?_
      rintro e w4 ⟨rfl, hb4⟩
      have HB4 := Lib.hid (HB3.out.trans (hb4.mono HB3.out.size))
      clear hb4
      go_wp2_with fail
      go_ret
      exact ⟨rfl, HB4.out⟩
    · by_cases h2 : 1000 < s.size
      · skip
        go_wp2_with fail
        refine (Works9.works_any w3).mono ?_
        rintro e w4 ⟨rfl, hb4⟩
        have HB4 := Lib.hid (HB3.out.trans (hb4.mono HB3.out.size))
        clear hb4
        go_wp2_with fail
        go_ret
        exact ⟨rfl, HB4.out⟩
      · skip
        obtain ⟨c0, c1', c2, c3⟩ : w3.cell? ⟨W.heap.size, 0, none⟩ = some (.int .u8 n.kind.toNat) ∧ w3.cell? ⟨W.heap.size, 1, none⟩ = some (.string n.text) ∧ w3.cell? ⟨W.heap.size, 2, none⟩ = some (.slice p1 n.names.length c1) ∧ w3.cell? ⟨W.heap.size, 3, none⟩ = some (.slice q1 n.kids.length d1) := ⟨HX3.out.at rfl, HX3.out.at rfl, HX3.out.at rfl, HX3.out.at rfl⟩
        have hgb : n.girth ≤ 2000000 := Nat.le_trans n.girth_bulk hB
        go_wp2_with fail
        refine (fnew_any HN.out hgb w3 HB3.out).mono ?_
        rintro e w4 ⟨hnw, hb4⟩
        have HB4 := Lib.hid (HB3.out.trans (hb4.mono HB3.out.size))
        have HX4 := Lib.hid (HX3.out.kept hb4)
        clear hb4 c0 c1' c2 c3 HB3 HX3
        cases hmay : n.may with
        | false =>
          rw [hmay, if_neg (by decide)] at hnw
          subst hnw
          go_wp2_with fail
          go_ret
          exact ⟨rfl, HB4.out⟩
        | true =>
          rw [hmay, if_pos rfl] at hnw
          obtain ⟨b, y0, y1, y2, y3, rfl, _, ht, _⟩ := hnw
          have HT4 := Lib.hid ht
          clear ht
          obtain ⟨hw, hk⟩ := may_well hmay
          have HW := Lib.hid hw
          have HK := Lib.hid hk
          have HMAY := Lib.hid hmay
          clear hw hk hmay
          have HLK := Lib.hid (fun w hb => linked_any HN.out w hb)
          go_wp2_with fail
          refine (wfind_any HT4.out HW.out hgb HK.out t (by omega)).mono ?_
          rintro e w5 ⟨⟨o, ho, hv⟩, hb5⟩
          have HB5 := Lib.hid (HB4.out.trans (hb5.mono HB4.out.size))
          have HX5 := Lib.hid (HX4.out.kept hb5)
          have HT5 := Lib.hid (HT4.out.kept hb5)
          have HO : Hid (WayOf n true t o) := Lib.hid ho
          clear hb5 ho HB4 HX4 HT4
          cases o with
          | err c =>
            have hv' : e = .returned (.tuple #[.slice none 0 0, .int .u8 0, .int .i64 c]) := hv
            subst hv'
            clear hv
            have hc0 := wnot_zero (run_err HO.out c rfl)
            have hc1 := wis_not (run_err HO.out c rfl)
            go_wp2_with fail
            have hc := wspot_any HT5.out HW.out hgb HK.out t (by omega)
            refine hc.mono ?_
            clear hc
            rintro e w6 ⟨⟨o2, ho, hv⟩, hb⟩
            have HO2 := Lib.hid ho
            clear ho
            have HB6 := Lib.hid (HB5.out.trans (hb.mono HB5.out.size))
            have HX6 := Lib.hid (HX5.out.kept hb)
            have HT6 := Lib.hid (HT5.out.kept hb)
            clear hb HB5 HX5 HT5
            cases o2 with
            | err f =>
              have hv' : e = .returned (.tuple #[.slice none 0 0, .int .u8 0, .int .i64 f]) := hv
              subst hv'
              clear hv
              have hf0 := wnot_zero (run_err HO2.out f rfl)
              obtain ⟨c0, c1', c2, c3⟩ : w6.cell? ⟨W.heap.size, 0, none⟩ = some (.int .u8 n.kind.toNat) ∧ w6.cell? ⟨W.heap.size, 1, none⟩ = some (.string n.text) ∧ w6.cell? ⟨W.heap.size, 2, none⟩ = some (.slice p1 n.names.length c1) ∧ w6.cell? ⟨W.heap.size, 3, none⟩ = some (.slice q1 n.kids.length d1) := ⟨HX6.out.at rfl, HX6.out.at rfl, HX6.out.at rfl, HX6.out.at rfl⟩
              go_wp2_with fail
              refine (HLK.out w6 HB6.out).mono ?_
              rintro e w7 ⟨rfl, hb⟩
              clear c0 c1' c2 c3
              have HB7 := Lib.hid (HB6.out.trans (hb.mono HB6.out.size))
              have HX7 := Lib.hid (HX6.out.kept hb)
              have HT7 := Lib.hid (HT6.out.kept hb)
              clear hb HB6 HX6 HT6
              generalize n.linked = lk at *
              cases lk
              · skip
                go_wp2_with fail
                refine (name_any s w7).mono ?_
                rintro e w8 ⟨rfl, hb⟩
                have HB8 := Lib.hid (HB7.out.trans (hb.mono HB7.out.size))
                have HX8 := Lib.hid (HX7.out.kept hb)
                have HT8 := Lib.hid (HT7.out.kept hb)
                clear hb HB7 HX7 HT7
                obtain ⟨nb, hnb⟩ : ∃ nb, nameL s.data.toList = nb := ⟨_, rfl⟩
                rw [hnb]
                cases nb with
                | false =>
                  go_wp2_with fail
                  go_ret
                  exact ⟨rfl, HB8.out⟩
                | true =>
                  obtain ⟨hst, hsd⟩ := name_step hnb
                  have HST := Lib.hid hst
                  have HSD := Lib.hid hsd
                  have HS64 := Lib.hid (name_small hnb)
                  clear hst hsd hnb
                  go_wp2_with fail
                  have hc := wfind_any HT8.out HW.out hgb HK.out (t ++ ⟨#[47]⟩ ++ s) (cat_small h1 h2)
                  refine hc.mono ?_
                  clear hc
                  rintro e w9 ⟨⟨o8, ho, hv⟩, hb⟩
                  have HO8 := Lib.hid ho
                  clear ho
                  have HB9 := Lib.hid (HB8.out.trans (hb.mono HB8.out.size))
                  have HX9 := Lib.hid (HX8.out.kept hb)
                  have HT9 := Lib.hid (HT8.out.kept hb)
                  clear hb HB8 HX8 HT8
                  obtain ⟨d, rfl⟩ := (find_behind HK.out HST.out HSD.out HO.out HO8.out).1 c rfl
                  have hv' : e = .returned (.tuple #[.slice none 0 0, .int .u8 0, .int .i64 d]) := hv
                  subst hv'
                  clear hv
                  have hd1 := wis_not (run_err HO8.out d rfl)
                  go_wp2_with fail
                  refine (show_at (Below.refl _ _) (nil_pl w9) nil_small).mono ?_
                  rintro e w10 ⟨rfl, hb⟩
                  have HB10 := Lib.hid (HB9.out.trans (hb.mono HB9.out.size))
                  have HX10 := Lib.hid (HX9.out.kept hb)
                  have HT10 := Lib.hid (HT9.out.kept hb)
                  clear hb HB9 HX9 HT9
                  have LSZ := Lib.hid nil_26
                  generalize (⟨(showL []).toArray⟩ : ByteArray) = tl at *
                  have htl := LSZ.out
                  go_wp2_with fail
                  have hc := wfind_any HT10.out HW.out hgb HK.out (tl ++ ⟨#[47]⟩ ++ s) (cat_small1 LSZ.out h2)
                  refine hc.mono ?_
                  clear hc
                  rintro e w11 ⟨⟨o9, ho, hv⟩, hb⟩
                  have HO9 := Lib.hid ho
                  clear ho
                  have HB11 := Lib.hid (HB10.out.trans (hb.mono HB10.out.size))
                  have HX11 := Lib.hid (HX10.out.kept hb)
                  have HT11 := Lib.hid (HT10.out.kept hb)
                  clear hb HB10 HX10 HT10
                  cases o9 with
                  | err d2 =>
                    have hv' : e = .returned (.tuple #[.slice none 0 0, .int .u8 0, .int .i64 d2]) := hv
                    subst hv'
                    clear hv
                    go_wp2_with fail
                    go_ret
                    exact ⟨rfl, HB11.out⟩
                  | ok l9 k9 =>
                    obtain ⟨v9, he, hl9⟩ := hv
                    subst he
                    obtain ⟨p9, c9, rfl, _, _, _⟩ := hl9
                    go_wp2_with fail
                    go_ret
                    exact ⟨rfl, HB11.out⟩
              · skip
                go_wp2_with fail
                refine (name_any s w7).mono ?_
                rintro e w8 ⟨rfl, hb⟩
                have HB8 := Lib.hid (HB7.out.trans (hb.mono HB7.out.size))
                have HX8 := Lib.hid (HX7.out.kept hb)
                have HT8 := Lib.hid (HT7.out.kept hb)
                clear hb HB7 HX7 HT7
                obtain ⟨nb, hnb⟩ : ∃ nb, nameL s.data.toList = nb := ⟨_, rfl⟩
                rw [hnb]
                cases nb with
                | false =>
                  go_wp2_with fail
                  go_ret
                  exact ⟨rfl, HB8.out⟩
                | true =>
                  obtain ⟨hst, hsd⟩ := name_step hnb
                  have HST := Lib.hid hst
                  have HSD := Lib.hid hsd
                  have HS64 := Lib.hid (name_small hnb)
                  clear hst hsd hnb
                  go_wp2_with fail
                  have hc := wfind_any HT8.out HW.out hgb HK.out (t ++ ⟨#[47]⟩ ++ s) (cat_small h1 h2)
                  refine hc.mono ?_
                  clear hc
                  rintro e w9 ⟨⟨o8, ho, hv⟩, hb⟩
                  have HO8 := Lib.hid ho
                  clear ho
                  have HB9 := Lib.hid (HB8.out.trans (hb.mono HB8.out.size))
                  have HX9 := Lib.hid (HX8.out.kept hb)
                  have HT9 := Lib.hid (HT8.out.kept hb)
                  clear hb HB8 HX8 HT8
                  obtain ⟨d, rfl⟩ := (find_behind HK.out HST.out HSD.out HO.out HO8.out).1 c rfl
                  have hv' : e = .returned (.tuple #[.slice none 0 0, .int .u8 0, .int .i64 d]) := hv
                  subst hv'
                  clear hv
                  have hd1 := wis_not (run_err HO8.out d rfl)
                  go_wp2_with fail
                  refine (show_at (Below.refl _ _) (nil_pl w9) nil_small).mono ?_
                  rintro e w10 ⟨rfl, hb⟩
                  have HB10 := Lib.hid (HB9.out.trans (hb.mono HB9.out.size))
                  have HX10 := Lib.hid (HX9.out.kept hb)
                  have HT10 := Lib.hid (HT9.out.kept hb)
                  clear hb HB9 HX9 HT9
                  have LSZ := Lib.hid nil_26
                  generalize (⟨(showL []).toArray⟩ : ByteArray) = tl at *
                  have htl := LSZ.out
                  go_wp2_with fail
                  have hc := wfind_any HT10.out HW.out hgb HK.out (tl ++ ⟨#[47]⟩ ++ s) (cat_small1 LSZ.out h2)
                  refine hc.mono ?_
                  clear hc
                  rintro e w11 ⟨⟨o9, ho, hv⟩, hb⟩
                  have HO9 := Lib.hid ho
                  clear ho
                  have HB11 := Lib.hid (HB10.out.trans (hb.mono HB10.out.size))
                  have HX11 := Lib.hid (HX10.out.kept hb)
                  have HT11 := Lib.hid (HT10.out.kept hb)
                  clear hb HB10 HX10 HT10
                  cases o9 with
                  | err d2 =>
                    have hv' : e = .returned (.tuple #[.slice none 0 0, .int .u8 0, .int .i64 d2]) := hv
                    subst hv'
                    clear hv
                    go_wp2_with fail
                    go_ret
                    exact ⟨rfl, HB11.out⟩
                  | ok l9 k9 =>
                    obtain ⟨v9, he, hl9⟩ := hv
                    subst he
                    obtain ⟨p9, c9, rfl, _, _, _⟩ := hl9
                    go_wp2_with fail
                    go_ret
                    exact ⟨rfl, HB11.out⟩
            | ok m q =>
              obtain ⟨mv, he, hm⟩ := hv
              subst he
              have HM := Lib.hid hm
              obtain ⟨pm, cm, rfl, _, _, _⟩ := hm
              obtain ⟨hs1, hs2, hs3⟩ := way_small HMAY.out (by omega) HO2.out
              have HS1 := Lib.hid hs1
              have HSZ := Lib.hid (show_size hs2 hs3)
              have HQ2 := Lib.hid (way_real HK.out HO2.out).2
              clear hs1 hs2 hs3
              go_wp2_with fail
              refine (show_at (Below.refl _ _) HM.out HS1.out).mono ?_
              rintro e w7 ⟨rfl, hb⟩
              have HB7 := Lib.hid (HB6.out.trans (hb.mono HB6.out.size))
              have HX7 := Lib.hid (HX6.out.kept hb)
              have HT7 := Lib.hid (HT6.out.kept hb)
              replace HM := Lib.hid (HM.out.grown hb)
              clear hb HB6 HX6 HT6
              go_wp2_with fail
              have hc := wspot_any HT7.out HW.out hgb HK.out (⟨(showL m).toArray⟩ : ByteArray) (by have := HSZ.out; omega)
              refine hc.mono ?_
              clear hc
              rintro e w8 ⟨⟨o3, ho, hv⟩, hb⟩
              have HO3 := Lib.hid ho
              clear ho
              have HB8 := Lib.hid (HB7.out.trans (hb.mono HB7.out.size))
              have HX8 := Lib.hid (HX7.out.kept hb)
              have HT8 := Lib.hid (HT7.out.kept hb)
              replace HM := Lib.hid (HM.out.grown hb)
              clear hb HB7 HX7 HT7
              obtain rfl := spot_again HK.out HO2.out HO3.out
              obtain ⟨qv, he, hqv⟩ := hv
              subst he
              have HQ := Lib.hid hqv
              obtain ⟨pq, cq, rfl, _, _, _⟩ := hqv
              have HSA := Lib.hid (same_at (Below.refl _ _) HQ.out HM.out)
              rw [show sameL m m = true from decide_eq_true rfl] at HSA
              have hqq := ne_u8 q
              go_wp2_with fail
              refine HSA.out.mono ?_
              rintro e w9 ⟨rfl, hb⟩
              clear HSA HQ HO3
              have HB9 := Lib.hid (HB8.out.trans (hb.mono HB8.out.size))
              have HX9 := Lib.hid (HX8.out.kept hb)
              have HT9 := Lib.hid (HT8.out.kept hb)
              replace HM := Lib.hid (HM.out.grown hb)
              clear hb HB8 HX8 HT8
              have HKM := Lib.hid (fkind_any HT9.out HW.out hgb HM.out)
              rw [show ((n.at_ m).getD absent).kind = q from HQ2.out] at HKM
              go_wp2_with fail
              refine HKM.out.mono ?_
              rintro e w10 ⟨rfl, hb⟩
              clear HKM
              have HB10 := Lib.hid (HB9.out.trans (hb.mono HB9.out.size))
              have HX10 := Lib.hid (HX9.out.kept hb)
              have HT10 := Lib.hid (HT9.out.kept hb)
              replace HM := Lib.hid (HM.out.grown hb)
              clear hb HB9 HX9 HT9
              clear HM
              obtain ⟨c0, c1', c2, c3⟩ : w10.cell? ⟨W.heap.size, 0, none⟩ = some (.int .u8 n.kind.toNat) ∧ w10.cell? ⟨W.heap.size, 1, none⟩ = some (.string n.text) ∧ w10.cell? ⟨W.heap.size, 2, none⟩ = some (.slice p1 n.names.length c1) ∧ w10.cell? ⟨W.heap.size, 3, none⟩ = some (.slice q1 n.kids.length d1) := ⟨HX10.out.at rfl, HX10.out.at rfl, HX10.out.at rfl, HX10.out.at rfl⟩
              go_wp2_with fail
              refine (HLK.out w10 HB10.out).mono ?_
              rintro e w11 ⟨rfl, hb⟩
              clear c0 c1' c2 c3
              have HB11 := Lib.hid (HB10.out.trans (hb.mono HB10.out.size))
              have HX11 := Lib.hid (HX10.out.kept hb)
              have HT11 := Lib.hid (HT10.out.kept hb)
              clear hb HB10 HX10 HT10
              generalize n.linked = lk at *
              cases lk
              · skip
                go_wp2_with fail
                refine (name_any s w11).mono ?_
                rintro e w12 ⟨rfl, hb⟩
                have HB12 := Lib.hid (HB11.out.trans (hb.mono HB11.out.size))
                have HX12 := Lib.hid (HX11.out.kept hb)
                have HT12 := Lib.hid (HT11.out.kept hb)
                clear hb HB11 HX11 HT11
                obtain ⟨nb, hnb⟩ : ∃ nb, nameL s.data.toList = nb := ⟨_, rfl⟩
                rw [hnb]
                cases nb with
                | false =>
                  go_wp2_with fail
                  go_ret
                  exact ⟨rfl, HB12.out⟩
                | true =>
                  obtain ⟨hst, hsd⟩ := name_step hnb
                  have HST := Lib.hid hst
                  have HSD := Lib.hid hsd
                  have HS64 := Lib.hid (name_small hnb)
                  clear hst hsd hnb
                  go_wp2_with fail
                  have hc := wfind_any HT12.out HW.out hgb HK.out (t ++ ⟨#[47]⟩ ++ s) (cat_small h1 h2)
                  refine hc.mono ?_
                  clear hc
                  rintro e w13 ⟨⟨o8, ho, hv⟩, hb⟩
                  have HO8 := Lib.hid ho
                  clear ho
                  have HB13 := Lib.hid (HB12.out.trans (hb.mono HB12.out.size))
                  have HX13 := Lib.hid (HX12.out.kept hb)
                  have HT13 := Lib.hid (HT12.out.kept hb)
                  clear hb HB12 HX12 HT12
                  obtain ⟨d, rfl⟩ := (find_behind HK.out HST.out HSD.out HO.out HO8.out).1 c rfl
                  have hv' : e = .returned (.tuple #[.slice none 0 0, .int .u8 0, .int .i64 d]) := hv
                  subst hv'
                  clear hv
                  have hd1 := wis_not (run_err HO8.out d rfl)
                  go_wp2_with fail
                  refine (show_at (Below.refl _ _) (nil_pl w13) nil_small).mono ?_
                  rintro e w14 ⟨rfl, hb⟩
                  have HB14 := Lib.hid (HB13.out.trans (hb.mono HB13.out.size))
                  have HX14 := Lib.hid (HX13.out.kept hb)
                  have HT14 := Lib.hid (HT13.out.kept hb)
                  clear hb HB13 HX13 HT13
                  have LSZ := Lib.hid nil_26
                  generalize (⟨(showL []).toArray⟩ : ByteArray) = tl at *
                  have htl := LSZ.out
                  go_wp2_with fail
                  have hc := wfind_any HT14.out HW.out hgb HK.out (tl ++ ⟨#[47]⟩ ++ s) (cat_small1 LSZ.out h2)
                  refine hc.mono ?_
                  clear hc
                  rintro e w15 ⟨⟨o9, ho, hv⟩, hb⟩
                  have HO9 := Lib.hid ho
                  clear ho
                  have HB15 := Lib.hid (HB14.out.trans (hb.mono HB14.out.size))
                  have HX15 := Lib.hid (HX14.out.kept hb)
                  have HT15 := Lib.hid (HT14.out.kept hb)
                  clear hb HB14 HX14 HT14
                  cases o9 with
                  | err d2 =>
                    have hv' : e = .returned (.tuple #[.slice none 0 0, .int .u8 0, .int .i64 d2]) := hv
                    subst hv'
                    clear hv
                    go_wp2_with fail
                    go_ret
                    exact ⟨rfl, HB15.out⟩
                  | ok l9 k9 =>
                    obtain ⟨v9, he, hl9⟩ := hv
                    subst he
                    obtain ⟨p9, c9, rfl, _, _, _⟩ := hl9
                    go_wp2_with fail
                    go_ret
                    exact ⟨rfl, HB15.out⟩
              · skip
                go_wp2_with fail
                refine (name_any s w11).mono ?_
                rintro e w12 ⟨rfl, hb⟩
                have HB12 := Lib.hid (HB11.out.trans (hb.mono HB11.out.size))
                have HX12 := Lib.hid (HX11.out.kept hb)
                have HT12 := Lib.hid (HT11.out.kept hb)
                clear hb HB11 HX11 HT11
                obtain ⟨nb, hnb⟩ : ∃ nb, nameL s.data.toList = nb := ⟨_, rfl⟩
                rw [hnb]
                cases nb with
                | false =>
                  go_wp2_with fail
                  go_ret
                  exact ⟨rfl, HB12.out⟩
                | true =>
                  obtain ⟨hst, hsd⟩ := name_step hnb
                  have HST := Lib.hid hst
                  have HSD := Lib.hid hsd
                  have HS64 := Lib.hid (name_small hnb)
                  clear hst hsd hnb
                  go_wp2_with fail
                  have hc := wfind_any HT12.out HW.out hgb HK.out (t ++ ⟨#[47]⟩ ++ s) (cat_small h1 h2)
                  refine hc.mono ?_
                  clear hc
                  rintro e w13 ⟨⟨o8, ho, hv⟩, hb⟩
                  have HO8 := Lib.hid ho
                  clear ho
                  have HB13 := Lib.hid (HB12.out.trans (hb.mono HB12.out.size))
                  have HX13 := Lib.hid (HX12.out.kept hb)
                  have HT13 := Lib.hid (HT12.out.kept hb)
                  clear hb HB12 HX12 HT12
                  obtain ⟨d, rfl⟩ := (find_behind HK.out HST.out HSD.out HO.out HO8.out).1 c rfl
                  have hv' : e = .returned (.tuple #[.slice none 0 0, .int .u8 0, .int .i64 d]) := hv
                  subst hv'
                  clear hv
                  have hd1 := wis_not (run_err HO8.out d rfl)
                  go_wp2_with fail
                  refine (show_at (Below.refl _ _) (nil_pl w13) nil_small).mono ?_
                  rintro e w14 ⟨rfl, hb⟩
                  have HB14 := Lib.hid (HB13.out.trans (hb.mono HB13.out.size))
                  have HX14 := Lib.hid (HX13.out.kept hb)
                  have HT14 := Lib.hid (HT13.out.kept hb)
                  clear hb HB13 HX13 HT13
                  have LSZ := Lib.hid nil_26
                  generalize (⟨(showL []).toArray⟩ : ByteArray) = tl at *
                  have htl := LSZ.out
                  go_wp2_with fail
                  have hc := wfind_any HT14.out HW.out hgb HK.out (tl ++ ⟨#[47]⟩ ++ s) (cat_small1 LSZ.out h2)
                  refine hc.mono ?_
                  clear hc
                  rintro e w15 ⟨⟨o9, ho, hv⟩, hb⟩
                  have HO9 := Lib.hid ho
                  clear ho
                  have HB15 := Lib.hid (HB14.out.trans (hb.mono HB14.out.size))
                  have HX15 := Lib.hid (HX14.out.kept hb)
                  have HT15 := Lib.hid (HT14.out.kept hb)
                  clear hb HB14 HX14 HT14
                  cases o9 with
                  | err d2 =>
                    have hv' : e = .returned (.tuple #[.slice none 0 0, .int .u8 0, .int .i64 d2]) := hv
                    subst hv'
                    clear hv
                    go_wp2_with fail
                    go_ret
                    exact ⟨rfl, HB15.out⟩
                  | ok l9 k9 =>
                    obtain ⟨v9, he, hl9⟩ := hv
                    subst he
                    obtain ⟨p9, c9, rfl, _, _, _⟩ := hl9
                    go_wp2_with fail
                    go_ret
                    exact ⟨rfl, HB15.out⟩
          | ok l k =>
            obtain ⟨pl, he, hl⟩ := hv
            subst he
            have HL := Lib.hid hl
            obtain ⟨pv, cv, rfl, _, _, _⟩ := hl
            obtain ⟨ls1, ls2, ls3⟩ := way_small HMAY.out (by omega) HO.out
            have LS1 := Lib.hid ls1
            have LSZ := Lib.hid (show_size ls2 ls3)
            have HKL2 := Lib.hid (way_real HK.out HO.out).2
            clear ls1 ls2 ls3
            go_wp2_with fail
            have hc := wspot_any HT5.out HW.out hgb HK.out t (by omega)
            refine hc.mono ?_
            clear hc
            rintro e w6 ⟨⟨o2, ho, hv⟩, hb⟩
            have HO2 := Lib.hid ho
            clear ho
            have HB6 := Lib.hid (HB5.out.trans (hb.mono HB5.out.size))
            have HX6 := Lib.hid (HX5.out.kept hb)
            have HT6 := Lib.hid (HT5.out.kept hb)
            replace HL := Lib.hid (HL.out.grown hb)
            clear hb HB5 HX5 HT5
            obtain ⟨hk3, m, q, rfl, hmq⟩ := find_spot HO.out HO2.out
            have HMQ := Lib.hid hmq
            clear hmq
            obtain ⟨mv, he, hm⟩ := hv
            subst he
            have HM := Lib.hid hm
            obtain ⟨pm, cm, rfl, _, _, _⟩ := hm
            have ek3 : ((k.toNat : Int) == 3) = false := beq_eq_false_iff_ne.2 fun h => hk3 (UInt8.toNat_inj.1 (by show k.toNat = 3; omega))
            have ekk := ne_u8 k
            have HK3 := Lib.hid hk3
            clear hk3
            obtain ⟨hs1, hs2, hs3⟩ := way_small HMAY.out (by omega) HO2.out
            have HS1 := Lib.hid hs1
            have HSZ := Lib.hid (show_size hs2 hs3)
            have HQ2 := Lib.hid (way_real HK.out HO2.out).2
            clear hs1 hs2 hs3
            go_wp2_with fail
            refine (show_at (Below.refl _ _) HM.out HS1.out).mono ?_
            rintro e w7 ⟨rfl, hb⟩
            have HB7 := Lib.hid (HB6.out.trans (hb.mono HB6.out.size))
            have HX7 := Lib.hid (HX6.out.kept hb)
            have HT7 := Lib.hid (HT6.out.kept hb)
            replace HL := Lib.hid (HL.out.grown hb)
            replace HM := Lib.hid (HM.out.grown hb)
            clear hb HB6 HX6 HT6
            go_wp2_with fail
            have hc := wspot_any HT7.out HW.out hgb HK.out (⟨(showL m).toArray⟩ : ByteArray) (by have := HSZ.out; omega)
            refine hc.mono ?_
            clear hc
            rintro e w8 ⟨⟨o3, ho, hv⟩, hb⟩
            have HO3 := Lib.hid ho
            clear ho
            have HB8 := Lib.hid (HB7.out.trans (hb.mono HB7.out.size))
            have HX8 := Lib.hid (HX7.out.kept hb)
            have HT8 := Lib.hid (HT7.out.kept hb)
            replace HL := Lib.hid (HL.out.grown hb)
            replace HM := Lib.hid (HM.out.grown hb)
            clear hb HB7 HX7 HT7
            obtain rfl := spot_again HK.out HO2.out HO3.out
            obtain ⟨qv, he, hqv⟩ := hv
            subst he
            have HQ := Lib.hid hqv
            obtain ⟨pq, cq, rfl, _, _, _⟩ := hqv
            have HSA := Lib.hid (same_at (Below.refl _ _) HQ.out HM.out)
            rw [show sameL m m = true from decide_eq_true rfl] at HSA
            have hqq := ne_u8 q
            go_wp2_with fail
            refine HSA.out.mono ?_
            rintro e w9 ⟨rfl, hb⟩
            clear HSA HQ HO3
            have HB9 := Lib.hid (HB8.out.trans (hb.mono HB8.out.size))
            have HX9 := Lib.hid (HX8.out.kept hb)
            have HT9 := Lib.hid (HT8.out.kept hb)
            replace HL := Lib.hid (HL.out.grown hb)
            replace HM := Lib.hid (HM.out.grown hb)
            clear hb HB8 HX8 HT8
            have HKM := Lib.hid (fkind_any HT9.out HW.out hgb HM.out)
            rw [show ((n.at_ m).getD absent).kind = q from HQ2.out] at HKM
            go_wp2_with fail
            refine HKM.out.mono ?_
            rintro e w10 ⟨rfl, hb⟩
            clear HKM
            have HB10 := Lib.hid (HB9.out.trans (hb.mono HB9.out.size))
            have HX10 := Lib.hid (HX9.out.kept hb)
            have HT10 := Lib.hid (HT9.out.kept hb)
            replace HL := Lib.hid (HL.out.grown hb)
            replace HM := Lib.hid (HM.out.grown hb)
            clear hb HB9 HX9 HT9
            have HKL := Lib.hid (fkind_any HT10.out HW.out hgb HL.out)
            rw [show ((n.at_ l).getD absent).kind = k from HKL2.out] at HKL
            go_wp2_with fail
            refine HKL.out.mono ?_
            rintro e w11 ⟨rfl, hb⟩
            clear HKL
            have HB11 := Lib.hid (HB10.out.trans (hb.mono HB10.out.size))
            have HX11 := Lib.hid (HX10.out.kept hb)
            have HT11 := Lib.hid (HT10.out.kept hb)
            replace HL := Lib.hid (HL.out.grown hb)
            replace HM := Lib.hid (HM.out.grown hb)
            clear hb HB10 HX10 HT10
            by_cases hq3 : q = 3
            · have eq3 : ((q.toNat : Int) != 3) = false := by rw [hq3]; rfl
              clear HM
              obtain ⟨c0, c1', c2, c3⟩ : w11.cell? ⟨W.heap.size, 0, none⟩ = some (.int .u8 n.kind.toNat) ∧ w11.cell? ⟨W.heap.size, 1, none⟩ = some (.string n.text) ∧ w11.cell? ⟨W.heap.size, 2, none⟩ = some (.slice p1 n.names.length c1) ∧ w11.cell? ⟨W.heap.size, 3, none⟩ = some (.slice q1 n.kids.length d1) := ⟨HX11.out.at rfl, HX11.out.at rfl, HX11.out.at rfl, HX11.out.at rfl⟩
              go_wp2_with fail
              refine (HLK.out w11 HB11.out).mono ?_
              rintro e w12 ⟨rfl, hb⟩
              clear c0 c1' c2 c3
              have HB12 := Lib.hid (HB11.out.trans (hb.mono HB11.out.size))
              have HX12 := Lib.hid (HX11.out.kept hb)
              have HT12 := Lib.hid (HT11.out.kept hb)
              replace HL := Lib.hid (HL.out.grown hb)
              clear hb HB11 HX11 HT11
              generalize hlk : n.linked = lk at *
              cases lk with
              | true =>
                go_wp2_with fail
                refine (name_any s w12).mono ?_
                rintro e w13 ⟨rfl, hb⟩
                have HB13 := Lib.hid (HB12.out.trans (hb.mono HB12.out.size))
                have HX13 := Lib.hid (HX12.out.kept hb)
                have HT13 := Lib.hid (HT12.out.kept hb)
                replace HL := Lib.hid (HL.out.grown hb)
                clear hb HB12 HX12 HT12
                obtain ⟨nb, hnb⟩ : ∃ nb, nameL s.data.toList = nb := ⟨_, rfl⟩
                rw [hnb]
                cases nb with
                | false =>
                  go_wp2_with fail
                  go_ret
                  exact ⟨rfl, HB13.out⟩
                | true =>
                  obtain ⟨hst, hsd⟩ := name_step hnb
                  have HST := Lib.hid hst
                  have HSD := Lib.hid hsd
                  have HS64 := Lib.hid (name_small hnb)
                  clear hst hsd hnb
                  go_wp2_with fail
                  have hc := wfind_any HT13.out HW.out hgb HK.out (t ++ ⟨#[47]⟩ ++ s) (cat_small h1 h2)
                  refine hc.mono ?_
                  clear hc
                  rintro e w14 ⟨⟨o8, ho, hv⟩, hb⟩
                  have HO8 := Lib.hid ho
                  clear ho
                  have HB14 := Lib.hid (HB13.out.trans (hb.mono HB13.out.size))
                  have HX14 := Lib.hid (HX13.out.kept hb)
                  have HT14 := Lib.hid (HT13.out.kept hb)
                  replace HL := Lib.hid (HL.out.grown hb)
                  clear hb HB13 HX13 HT13
                  obtain ⟨g1, g2, g3⟩ := (find_behind HK.out HST.out HSD.out HO.out HO8.out).2 l k rfl
                  have G1 := Lib.hid g1
                  have G2 := Lib.hid g2
                  have G3 := Lib.hid g3
                  clear g1 g2 g3
                  rcases way_kind HW.out l with hk0 | hk0 | hk0 | hk0
                  · obtain rfl : k = 0 := HKL2.out.symm.trans hk0
                    obtain rfl := G1.out rfl
                    have hv' : e = .returned (.tuple #[.slice none 0 0, .int .u8 0, .int .i64 5]) := hv
                    subst hv'
                    clear hv
                    go_wp2_with fail
                    refine (show_at (Below.refl _ _) HL.out LS1.out).mono ?_
                    rintro e w15 ⟨rfl, hb⟩
                    have HB15 := Lib.hid (HB14.out.trans (hb.mono HB14.out.size))
                    have HX15 := Lib.hid (HX14.out.kept hb)
                    have HT15 := Lib.hid (HT14.out.kept hb)
                    replace HL := Lib.hid (HL.out.grown hb)
                    clear hb HB14 HX14 HT14
                    generalize (⟨(showL l).toArray⟩ : ByteArray) = tl at *
                    have htl := LSZ.out
                    go_wp2_with fail
                    have hc := wfind_any HT15.out HW.out hgb HK.out (tl ++ ⟨#[47]⟩ ++ s) (cat_small1 LSZ.out h2)
                    refine hc.mono ?_
                    clear hc
                    rintro e w16 ⟨⟨o9, ho, hv⟩, hb⟩
                    have HO9 := Lib.hid ho
                    clear ho
                    have HB16 := Lib.hid (HB15.out.trans (hb.mono HB15.out.size))
                    have HX16 := Lib.hid (HX15.out.kept hb)
                    have HT16 := Lib.hid (HT15.out.kept hb)
                    replace HL := Lib.hid (HL.out.grown hb)
                    clear hb HB15 HX15 HT15
                    cases o9 with
                    | err d2 =>
                      have hv' : e = .returned (.tuple #[.slice none 0 0, .int .u8 0, .int .i64 d2]) := hv
                      subst hv'
                      clear hv
                      go_wp2_with fail
                      go_ret
                      exact ⟨rfl, HB16.out⟩
                    | ok l9 k9 =>
                      obtain ⟨v9, he, hl9⟩ := hv
                      subst he
                      have H9 := Lib.hid hl9
                      obtain ⟨p9, c9, rfl, _, _, _⟩ := hl9
                      go_wp2_with fail
                      go_ret
                      exact ⟨rfl, HB16.out⟩
                  · obtain rfl : k = 1 := HKL2.out.symm.trans hk0
                    obtain rfl := G2.out (by decide) (by decide)
                    have hv' : e = .returned (.tuple #[.slice none 0 0, .int .u8 0, .int .i64 55]) := hv
                    subst hv'
                    clear hv
                    go_wp2_with fail
                    refine (show_at (Below.refl _ _) HL.out LS1.out).mono ?_
                    rintro e w15 ⟨rfl, hb⟩
                    have HB15 := Lib.hid (HB14.out.trans (hb.mono HB14.out.size))
                    have HX15 := Lib.hid (HX14.out.kept hb)
                    have HT15 := Lib.hid (HT14.out.kept hb)
                    replace HL := Lib.hid (HL.out.grown hb)
                    clear hb HB14 HX14 HT14
                    generalize (⟨(showL l).toArray⟩ : ByteArray) = tl at *
                    have htl := LSZ.out
                    go_wp2_with fail
                    have hc := wfind_any HT15.out HW.out hgb HK.out (tl ++ ⟨#[47]⟩ ++ s) (cat_small1 LSZ.out h2)
                    refine hc.mono ?_
                    clear hc
                    rintro e w16 ⟨⟨o9, ho, hv⟩, hb⟩
                    have HO9 := Lib.hid ho
                    clear ho
                    have HB16 := Lib.hid (HB15.out.trans (hb.mono HB15.out.size))
                    have HX16 := Lib.hid (HX15.out.kept hb)
                    have HT16 := Lib.hid (HT15.out.kept hb)
                    replace HL := Lib.hid (HL.out.grown hb)
                    clear hb HB15 HX15 HT15
                    cases o9 with
                    | err d2 =>
                      have hv' : e = .returned (.tuple #[.slice none 0 0, .int .u8 0, .int .i64 d2]) := hv
                      subst hv'
                      clear hv
                      go_wp2_with fail
                      go_ret
                      exact ⟨rfl, HB16.out⟩
                    | ok l9 k9 =>
                      obtain ⟨v9, he, hl9⟩ := hv
                      subst he
                      have H9 := Lib.hid hl9
                      obtain ⟨p9, c9, rfl, _, _, _⟩ := hl9
                      go_wp2_with fail
                      go_ret
                      exact ⟨rfl, HB16.out⟩
                  · obtain rfl : k = 2 := HKL2.out.symm.trans hk0
                    cases o8 with
                    | err d =>
                      have hv' : e = .returned (.tuple #[.slice none 0 0, .int .u8 0, .int .i64 d]) := hv
                      subst hv'
                      clear hv
                      go_wp2_with fail
                      refine (show_at (Below.refl _ _) HL.out LS1.out).mono ?_
                      rintro e w15 ⟨rfl, hb⟩
                      have HB15 := Lib.hid (HB14.out.trans (hb.mono HB14.out.size))
                      have HX15 := Lib.hid (HX14.out.kept hb)
                      have HT15 := Lib.hid (HT14.out.kept hb)
                      replace HL := Lib.hid (HL.out.grown hb)
                      clear hb HB14 HX14 HT14
                      generalize (⟨(showL l).toArray⟩ : ByteArray) = tl at *
                      have htl := LSZ.out
                      go_wp2_with fail
                      have hc := wfind_any HT15.out HW.out hgb HK.out (tl ++ ⟨#[47]⟩ ++ s) (cat_small1 LSZ.out h2)
                      refine hc.mono ?_
                      clear hc
                      rintro e w16 ⟨⟨o9, ho, hv⟩, hb⟩
                      have HO9 := Lib.hid ho
                      clear ho
                      have HB16 := Lib.hid (HB15.out.trans (hb.mono HB15.out.size))
                      have HX16 := Lib.hid (HX15.out.kept hb)
                      have HT16 := Lib.hid (HT15.out.kept hb)
                      replace HL := Lib.hid (HL.out.grown hb)
                      clear hb HB15 HX15 HT15
                      have G := G3.out (by trivial) _ HO9.out
                      cases o9 with
                      | err d2 =>
                        have hv' : e = .returned (.tuple #[.slice none 0 0, .int .u8 0, .int .i64 d2]) := hv
                        subst hv'
                        clear hv
                        by_cases e2 : d2 = 61
                        · subst e2
                          clear G
                          go_wp2_with fail
                          go_ret
                          exact ⟨rfl, HB16.out⟩
                        · by_cases e1 : d = 61
                          · subst e1
                            clear G
                            have f2 := wnot_61 e2
                            go_wp2_with fail
                            go_ret
                            exact ⟨rfl, HB16.out⟩
                          · obtain rfl : d = d2 := by
                              rcases G with e | e | e
                              · exact absurd (by injection e) e2
                              · exact absurd (by injection e) e1
                              · injection e
                            have f2 := wnot_61 e2
                            clear G e1 e2
                            have hdd := is_self d
                            have HSN := Lib.hid (same_at (Below.refl _ _) (nil_pl w16) (nil_pl w16))
                            rw [show sameL [] [] = true from decide_eq_true rfl] at HSN
                            go_wp2_with fail
                            refine HSN.out.mono ?_
                            rintro e w17 ⟨rfl, hb⟩
                            clear HSN
                            have HB17 := Lib.hid (HB16.out.trans (hb.mono HB16.out.size))
                            have HX17 := Lib.hid (HX16.out.kept hb)
                            have HT17 := Lib.hid (HT16.out.kept hb)
                            replace HL := Lib.hid (HL.out.grown hb)
                            clear hb HB16 HX16 HT16
                            go_wp2_with fail
                            go_ret
                            exact ⟨rfl, HB17.out⟩
                      | ok l9 k9 =>
                        obtain rfl : d = 61 := by
                          rcases G with e | e | e
                          · cases e
                          · injection e
                          · cases e
                        clear G
                        obtain ⟨v9, he, hl9⟩ := hv
                        subst he
                        have H9 := Lib.hid hl9
                        obtain ⟨p9, c9, rfl, _, _, _⟩ := hl9
                        go_wp2_with fail
                        go_ret
                        exact ⟨rfl, HB16.out⟩
                    | ok l8 k8 =>
                      obtain ⟨v8, he, hl8⟩ := hv
                      subst he
                      have H8 := Lib.hid hl8
                      obtain ⟨p8, c8, rfl, _, _, _⟩ := hl8
                      go_wp2_with fail
                      refine (show_at (Below.refl _ _) HL.out LS1.out).mono ?_
                      rintro e w15 ⟨rfl, hb⟩
                      have HB15 := Lib.hid (HB14.out.trans (hb.mono HB14.out.size))
                      have HX15 := Lib.hid (HX14.out.kept hb)
                      have HT15 := Lib.hid (HT14.out.kept hb)
                      replace HL := Lib.hid (HL.out.grown hb)
                      replace H8 := Lib.hid (H8.out.grown hb)
                      clear hb HB14 HX14 HT14
                      generalize (⟨(showL l).toArray⟩ : ByteArray) = tl at *
                      have htl := LSZ.out
                      go_wp2_with fail
                      have hc := wfind_any HT15.out HW.out hgb HK.out (tl ++ ⟨#[47]⟩ ++ s) (cat_small1 LSZ.out h2)
                      refine hc.mono ?_
                      clear hc
                      rintro e w16 ⟨⟨o9, ho, hv⟩, hb⟩
                      have HO9 := Lib.hid ho
                      clear ho
                      have HB16 := Lib.hid (HB15.out.trans (hb.mono HB15.out.size))
                      have HX16 := Lib.hid (HX15.out.kept hb)
                      have HT16 := Lib.hid (HT15.out.kept hb)
                      replace HL := Lib.hid (HL.out.grown hb)
                      replace H8 := Lib.hid (H8.out.grown hb)
                      clear hb HB15 HX15 HT15
                      have G := G3.out (by trivial) _ HO9.out
                      cases o9 with
                      | err d2 =>
                        have hv' : e = .returned (.tuple #[.slice none 0 0, .int .u8 0, .int .i64 d2]) := hv
                        subst hv'
                        clear hv
                        obtain rfl : d2 = 61 := by
                          rcases G with e | e | e
                          · injection e
                          · cases e
                          · cases e
                        clear G
                        go_wp2_with fail
                        go_ret
                        exact ⟨rfl, HB16.out⟩
                      | ok l9 k9 =>
                        obtain ⟨v9, he, hl9⟩ := hv
                        subst he
                        have H9 := Lib.hid hl9
                        obtain ⟨p9, c9, rfl, _, _, _⟩ := hl9
                        obtain ⟨rfl, rfl⟩ : l8 = l9 ∧ k8 = k9 := by
                          rcases G with e | e | e
                          · cases e
                          · cases e
                          · injection e with e1 e2; exact ⟨e1, e2⟩
                        clear G
                        have ek8 := eq_u8 k8
                        have HSN := Lib.hid (same_at (Below.refl _ _) H8.out H9.out)
                        rw [show sameL l8 l8 = true from decide_eq_true rfl] at HSN
                        go_wp2_with fail
                        refine HSN.out.mono ?_
                        rintro e w17 ⟨rfl, hb⟩
                        clear HSN
                        have HB17 := Lib.hid (HB16.out.trans (hb.mono HB16.out.size))
                        have HX17 := Lib.hid (HX16.out.kept hb)
                        have HT17 := Lib.hid (HT16.out.kept hb)
                        replace HL := Lib.hid (HL.out.grown hb)
                        replace H8 := Lib.hid (H8.out.grown hb)
                        clear hb HB16 HX16 HT16
                        go_wp2_with fail
                        go_ret
                        exact ⟨rfl, HB17.out⟩
                  · exact absurd (HKL2.out.symm.trans hk0) HK3.out
              | false =>
                go_wp2_with fail
                refine (clean_pl (w := w12) (s := t) (by omega)).mono ?_
                rintro e w13 ⟨cv2, rfl, hcl, hbh⟩
                have hb := hbh.out
                have HCL := Lib.hid hcl.out
                clear hcl hbh
                have HB13 := Lib.hid (HB12.out.trans (hb.mono HB12.out.size))
                have HX13 := Lib.hid (HX12.out.kept hb)
                have HT13 := Lib.hid (HT12.out.kept hb)
                replace HL := Lib.hid (HL.out.grown hb)
                clear hb HB12 HX12 HT12
                rw [← find_clean hlk HO.out] at HCL
                obtain ⟨pc2, cc2, rfl, _, _, _⟩ := id HCL.out
                have HSC := Lib.hid (same_at (Below.refl _ _) HL.out HCL.out)
                rw [show sameL l l = true from decide_eq_true rfl] at HSC
                go_wp2_with fail
                refine HSC.out.mono ?_
                rintro e w14 ⟨rfl, hb⟩
                clear HSC HCL
                have HB14 := Lib.hid (HB13.out.trans (hb.mono HB13.out.size))
                have HX14 := Lib.hid (HX13.out.kept hb)
                have HT14 := Lib.hid (HT13.out.kept hb)
                replace HL := Lib.hid (HL.out.grown hb)
                clear hb HB13 HX13 HT13
                go_wp2_with fail
                refine (name_any s w14).mono ?_
                rintro e w15 ⟨rfl, hb⟩
                have HB15 := Lib.hid (HB14.out.trans (hb.mono HB14.out.size))
                have HX15 := Lib.hid (HX14.out.kept hb)
                have HT15 := Lib.hid (HT14.out.kept hb)
                replace HL := Lib.hid (HL.out.grown hb)
                clear hb HB14 HX14 HT14
                obtain ⟨nb, hnb⟩ : ∃ nb, nameL s.data.toList = nb := ⟨_, rfl⟩
                rw [hnb]
                cases nb with
                | false =>
                  go_wp2_with fail
                  go_ret
                  exact ⟨rfl, HB15.out⟩
                | true =>
                  obtain ⟨hst, hsd⟩ := name_step hnb
                  have HST := Lib.hid hst
                  have HSD := Lib.hid hsd
                  have HS64 := Lib.hid (name_small hnb)
                  clear hst hsd hnb
                  go_wp2_with fail
                  have hc := wfind_any HT15.out HW.out hgb HK.out (t ++ ⟨#[47]⟩ ++ s) (cat_small h1 h2)
                  refine hc.mono ?_
                  clear hc
                  rintro e w16 ⟨⟨o8, ho, hv⟩, hb⟩
                  have HO8 := Lib.hid ho
                  clear ho
                  have HB16 := Lib.hid (HB15.out.trans (hb.mono HB15.out.size))
                  have HX16 := Lib.hid (HX15.out.kept hb)
                  have HT16 := Lib.hid (HT15.out.kept hb)
                  replace HL := Lib.hid (HL.out.grown hb)
                  clear hb HB15 HX15 HT15
                  obtain ⟨g1, g2, g3⟩ := (find_behind HK.out HST.out HSD.out HO.out HO8.out).2 l k rfl
                  have G1 := Lib.hid g1
                  have G2 := Lib.hid g2
                  have G3 := Lib.hid g3
                  clear g1 g2 g3
                  rcases way_kind HW.out l with hk0 | hk0 | hk0 | hk0
                  · obtain rfl : k = 0 := HKL2.out.symm.trans hk0
                    obtain rfl := G1.out rfl
                    have hv' : e = .returned (.tuple #[.slice none 0 0, .int .u8 0, .int .i64 5]) := hv
                    subst hv'
                    clear hv
                    go_wp2_with fail
                    refine (show_at (Below.refl _ _) HL.out LS1.out).mono ?_
                    rintro e w17 ⟨rfl, hb⟩
                    have HB17 := Lib.hid (HB16.out.trans (hb.mono HB16.out.size))
                    have HX17 := Lib.hid (HX16.out.kept hb)
                    have HT17 := Lib.hid (HT16.out.kept hb)
                    replace HL := Lib.hid (HL.out.grown hb)
                    clear hb HB16 HX16 HT16
                    generalize (⟨(showL l).toArray⟩ : ByteArray) = tl at *
                    have htl := LSZ.out
                    go_wp2_with fail
                    have hc := wfind_any HT17.out HW.out hgb HK.out (tl ++ ⟨#[47]⟩ ++ s) (cat_small1 LSZ.out h2)
                    refine hc.mono ?_
                    clear hc
                    rintro e w18 ⟨⟨o9, ho, hv⟩, hb⟩
                    have HO9 := Lib.hid ho
                    clear ho
                    have HB18 := Lib.hid (HB17.out.trans (hb.mono HB17.out.size))
                    have HX18 := Lib.hid (HX17.out.kept hb)
                    have HT18 := Lib.hid (HT17.out.kept hb)
                    replace HL := Lib.hid (HL.out.grown hb)
                    clear hb HB17 HX17 HT17
                    cases o9 with
                    | err d2 =>
                      have hv' : e = .returned (.tuple #[.slice none 0 0, .int .u8 0, .int .i64 d2]) := hv
                      subst hv'
                      clear hv
                      go_wp2_with fail
                      go_ret
                      exact ⟨rfl, HB18.out⟩
                    | ok l9 k9 =>
                      obtain ⟨v9, he, hl9⟩ := hv
                      subst he
                      have H9 := Lib.hid hl9
                      obtain ⟨p9, c9, rfl, _, _, _⟩ := hl9
                      go_wp2_with fail
                      go_ret
                      exact ⟨rfl, HB18.out⟩
                  · obtain rfl : k = 1 := HKL2.out.symm.trans hk0
                    obtain rfl := G2.out (by decide) (by decide)
                    have hv' : e = .returned (.tuple #[.slice none 0 0, .int .u8 0, .int .i64 55]) := hv
                    subst hv'
                    clear hv
                    go_wp2_with fail
                    refine (show_at (Below.refl _ _) HL.out LS1.out).mono ?_
                    rintro e w17 ⟨rfl, hb⟩
                    have HB17 := Lib.hid (HB16.out.trans (hb.mono HB16.out.size))
                    have HX17 := Lib.hid (HX16.out.kept hb)
                    have HT17 := Lib.hid (HT16.out.kept hb)
                    replace HL := Lib.hid (HL.out.grown hb)
                    clear hb HB16 HX16 HT16
                    generalize (⟨(showL l).toArray⟩ : ByteArray) = tl at *
                    have htl := LSZ.out
                    go_wp2_with fail
                    have hc := wfind_any HT17.out HW.out hgb HK.out (tl ++ ⟨#[47]⟩ ++ s) (cat_small1 LSZ.out h2)
                    refine hc.mono ?_
                    clear hc
                    rintro e w18 ⟨⟨o9, ho, hv⟩, hb⟩
                    have HO9 := Lib.hid ho
                    clear ho
                    have HB18 := Lib.hid (HB17.out.trans (hb.mono HB17.out.size))
                    have HX18 := Lib.hid (HX17.out.kept hb)
                    have HT18 := Lib.hid (HT17.out.kept hb)
                    replace HL := Lib.hid (HL.out.grown hb)
                    clear hb HB17 HX17 HT17
                    cases o9 with
                    | err d2 =>
                      have hv' : e = .returned (.tuple #[.slice none 0 0, .int .u8 0, .int .i64 d2]) := hv
                      subst hv'
                      clear hv
                      go_wp2_with fail
                      go_ret
                      exact ⟨rfl, HB18.out⟩
                    | ok l9 k9 =>
                      obtain ⟨v9, he, hl9⟩ := hv
                      subst he
                      have H9 := Lib.hid hl9
                      obtain ⟨p9, c9, rfl, _, _, _⟩ := hl9
                      go_wp2_with fail
                      go_ret
                      exact ⟨rfl, HB18.out⟩
                  · obtain rfl : k = 2 := HKL2.out.symm.trans hk0
                    cases o8 with
                    | err d =>
                      have hv' : e = .returned (.tuple #[.slice none 0 0, .int .u8 0, .int .i64 d]) := hv
                      subst hv'
                      clear hv
                      go_wp2_with fail
                      refine (show_at (Below.refl _ _) HL.out LS1.out).mono ?_
                      rintro e w17 ⟨rfl, hb⟩
                      have HB17 := Lib.hid (HB16.out.trans (hb.mono HB16.out.size))
                      have HX17 := Lib.hid (HX16.out.kept hb)
                      have HT17 := Lib.hid (HT16.out.kept hb)
                      replace HL := Lib.hid (HL.out.grown hb)
                      clear hb HB16 HX16 HT16
                      generalize (⟨(showL l).toArray⟩ : ByteArray) = tl at *
                      have htl := LSZ.out
                      go_wp2_with fail
                      have hc := wfind_any HT17.out HW.out hgb HK.out (tl ++ ⟨#[47]⟩ ++ s) (cat_small1 LSZ.out h2)
                      refine hc.mono ?_
                      clear hc
                      rintro e w18 ⟨⟨o9, ho, hv⟩, hb⟩
                      have HO9 := Lib.hid ho
                      clear ho
                      have HB18 := Lib.hid (HB17.out.trans (hb.mono HB17.out.size))
                      have HX18 := Lib.hid (HX17.out.kept hb)
                      have HT18 := Lib.hid (HT17.out.kept hb)
                      replace HL := Lib.hid (HL.out.grown hb)
                      clear hb HB17 HX17 HT17
                      have G := G3.out (by trivial) _ HO9.out
                      cases o9 with
                      | err d2 =>
                        have hv' : e = .returned (.tuple #[.slice none 0 0, .int .u8 0, .int .i64 d2]) := hv
                        subst hv'
                        clear hv
                        by_cases e2 : d2 = 61
                        · subst e2
                          clear G
                          go_wp2_with fail
                          go_ret
                          exact ⟨rfl, HB18.out⟩
                        · by_cases e1 : d = 61
                          · subst e1
                            clear G
                            have f2 := wnot_61 e2
                            go_wp2_with fail
                            go_ret
                            exact ⟨rfl, HB18.out⟩
                          · obtain rfl : d = d2 := by
                              rcases G with e | e | e
                              · exact absurd (by injection e) e2
                              · exact absurd (by injection e) e1
                              · injection e
                            have f2 := wnot_61 e2
                            clear G e1 e2
                            have hdd := is_self d
                            have HSN := Lib.hid (same_at (Below.refl _ _) (nil_pl w18) (nil_pl w18))
                            rw [show sameL [] [] = true from decide_eq_true rfl] at HSN
                            go_wp2_with fail
                            refine HSN.out.mono ?_
                            rintro e w19 ⟨rfl, hb⟩
                            clear HSN
                            have HB19 := Lib.hid (HB18.out.trans (hb.mono HB18.out.size))
                            have HX19 := Lib.hid (HX18.out.kept hb)
                            have HT19 := Lib.hid (HT18.out.kept hb)
                            replace HL := Lib.hid (HL.out.grown hb)
                            clear hb HB18 HX18 HT18
                            go_wp2_with fail
                            go_ret
                            exact ⟨rfl, HB19.out⟩
                      | ok l9 k9 =>
                        obtain rfl : d = 61 := by
                          rcases G with e | e | e
                          · cases e
                          · injection e
                          · cases e
                        clear G
                        obtain ⟨v9, he, hl9⟩ := hv
                        subst he
                        have H9 := Lib.hid hl9
                        obtain ⟨p9, c9, rfl, _, _, _⟩ := hl9
                        go_wp2_with fail
                        go_ret
                        exact ⟨rfl, HB18.out⟩
                    | ok l8 k8 =>
                      obtain ⟨v8, he, hl8⟩ := hv
                      subst he
                      have H8 := Lib.hid hl8
                      obtain ⟨p8, c8, rfl, _, _, _⟩ := hl8
                      go_wp2_with fail
                      refine (show_at (Below.refl _ _) HL.out LS1.out).mono ?_
                      rintro e w17 ⟨rfl, hb⟩
                      have HB17 := Lib.hid (HB16.out.trans (hb.mono HB16.out.size))
                      have HX17 := Lib.hid (HX16.out.kept hb)
                      have HT17 := Lib.hid (HT16.out.kept hb)
                      replace HL := Lib.hid (HL.out.grown hb)
                      replace H8 := Lib.hid (H8.out.grown hb)
                      clear hb HB16 HX16 HT16
                      generalize (⟨(showL l).toArray⟩ : ByteArray) = tl at *
                      have htl := LSZ.out
                      go_wp2_with fail
                      have hc := wfind_any HT17.out HW.out hgb HK.out (tl ++ ⟨#[47]⟩ ++ s) (cat_small1 LSZ.out h2)
                      refine hc.mono ?_
                      clear hc
                      rintro e w18 ⟨⟨o9, ho, hv⟩, hb⟩
                      have HO9 := Lib.hid ho
                      clear ho
                      have HB18 := Lib.hid (HB17.out.trans (hb.mono HB17.out.size))
                      have HX18 := Lib.hid (HX17.out.kept hb)
                      have HT18 := Lib.hid (HT17.out.kept hb)
                      replace HL := Lib.hid (HL.out.grown hb)
                      replace H8 := Lib.hid (H8.out.grown hb)
                      clear hb HB17 HX17 HT17
                      have G := G3.out (by trivial) _ HO9.out
                      cases o9 with
                      | err d2 =>
                        have hv' : e = .returned (.tuple #[.slice none 0 0, .int .u8 0, .int .i64 d2]) := hv
                        subst hv'
                        clear hv
                        obtain rfl : d2 = 61 := by
                          rcases G with e | e | e
                          · injection e
                          · cases e
                          · cases e
                        clear G
                        go_wp2_with fail
                        go_ret
                        exact ⟨rfl, HB18.out⟩
                      | ok l9 k9 =>
                        obtain ⟨v9, he, hl9⟩ := hv
                        subst he
                        have H9 := Lib.hid hl9
                        obtain ⟨p9, c9, rfl, _, _, _⟩ := hl9
                        obtain ⟨rfl, rfl⟩ : l8 = l9 ∧ k8 = k9 := by
                          rcases G with e | e | e
                          · cases e
                          · cases e
                          · injection e with e1 e2; exact ⟨e1, e2⟩
                        clear G
                        have ek8 := eq_u8 k8
                        have HSN := Lib.hid (same_at (Below.refl _ _) H8.out H9.out)
                        rw [show sameL l8 l8 = true from decide_eq_true rfl] at HSN
                        go_wp2_with fail
                        refine HSN.out.mono ?_
                        rintro e w19 ⟨rfl, hb⟩
                        clear HSN
                        have HB19 := Lib.hid (HB18.out.trans (hb.mono HB18.out.size))
                        have HX19 := Lib.hid (HX18.out.kept hb)
                        have HT19 := Lib.hid (HT18.out.kept hb)
                        replace HL := Lib.hid (HL.out.grown hb)
                        replace H8 := Lib.hid (H8.out.grown hb)
                        clear hb HB18 HX18 HT18
                        go_wp2_with fail
                        go_ret
                        exact ⟨rfl, HB19.out⟩
                  · exact absurd (HKL2.out.symm.trans hk0) HK3.out
            · have eq3 : ((q.toNat : Int) != 3) = true := bne_iff_ne.2 fun h => hq3 (UInt8.toNat_inj.1 (by show q.toNat = 3; omega))
              obtain ⟨e1, e2⟩ := HMQ.out.resolve_left hq3
              have e3 := e1.symm
              have e4 := e2.symm
              clear e1 e2
              subst e3
              subst e4
              have HSM := Lib.hid (same_at (Below.refl _ _) HL.out HM.out)
              rw [show sameL l l = true from decide_eq_true rfl] at HSM
              go_wp2_with fail
              refine HSM.out.mono ?_
              rintro e w12 ⟨rfl, hb⟩
              clear HSM
              have HB12 := Lib.hid (HB11.out.trans (hb.mono HB11.out.size))
              have HX12 := Lib.hid (HX11.out.kept hb)
              have HT12 := Lib.hid (HT11.out.kept hb)
              replace HL := Lib.hid (HL.out.grown hb)
              replace HM := Lib.hid (HM.out.grown hb)
              clear hb HB11 HX11 HT11
              obtain ⟨c0, c1', c2, c3⟩ : w12.cell? ⟨W.heap.size, 0, none⟩ = some (.int .u8 n.kind.toNat) ∧ w12.cell? ⟨W.heap.size, 1, none⟩ = some (.string n.text) ∧ w12.cell? ⟨W.heap.size, 2, none⟩ = some (.slice p1 n.names.length c1) ∧ w12.cell? ⟨W.heap.size, 3, none⟩ = some (.slice q1 n.kids.length d1) := ⟨HX12.out.at rfl, HX12.out.at rfl, HX12.out.at rfl, HX12.out.at rfl⟩
              go_wp2_with fail
              refine (HLK.out w12 HB12.out).mono ?_
              rintro e w13 ⟨rfl, hb⟩
              clear c0 c1' c2 c3
              have HB13 := Lib.hid (HB12.out.trans (hb.mono HB12.out.size))
              have HX13 := Lib.hid (HX12.out.kept hb)
              have HT13 := Lib.hid (HT12.out.kept hb)
              replace HL := Lib.hid (HL.out.grown hb)
              clear hb HB12 HX12 HT12
              generalize hlk : n.linked = lk at *
              cases lk with
              | true =>
                go_wp2_with fail
                refine (name_any s w13).mono ?_
                rintro e w14 ⟨rfl, hb⟩
                have HB14 := Lib.hid (HB13.out.trans (hb.mono HB13.out.size))
                have HX14 := Lib.hid (HX13.out.kept hb)
                have HT14 := Lib.hid (HT13.out.kept hb)
                replace HL := Lib.hid (HL.out.grown hb)
                clear hb HB13 HX13 HT13
                obtain ⟨nb, hnb⟩ : ∃ nb, nameL s.data.toList = nb := ⟨_, rfl⟩
                rw [hnb]
                cases nb with
                | false =>
                  go_wp2_with fail
                  go_ret
                  exact ⟨rfl, HB14.out⟩
                | true =>
                  obtain ⟨hst, hsd⟩ := name_step hnb
                  have HST := Lib.hid hst
                  have HSD := Lib.hid hsd
                  have HS64 := Lib.hid (name_small hnb)
                  clear hst hsd hnb
                  go_wp2_with fail
                  have hc := wfind_any HT14.out HW.out hgb HK.out (t ++ ⟨#[47]⟩ ++ s) (cat_small h1 h2)
                  refine hc.mono ?_
                  clear hc
                  rintro e w15 ⟨⟨o8, ho, hv⟩, hb⟩
                  have HO8 := Lib.hid ho
                  clear ho
                  have HB15 := Lib.hid (HB14.out.trans (hb.mono HB14.out.size))
                  have HX15 := Lib.hid (HX14.out.kept hb)
                  have HT15 := Lib.hid (HT14.out.kept hb)
                  replace HL := Lib.hid (HL.out.grown hb)
                  clear hb HB14 HX14 HT14
                  obtain ⟨g1, g2, g3⟩ := (find_behind HK.out HST.out HSD.out HO.out HO8.out).2 l k rfl
                  have G1 := Lib.hid g1
                  have G2 := Lib.hid g2
                  have G3 := Lib.hid g3
                  clear g1 g2 g3
                  rcases way_kind HW.out l with hk0 | hk0 | hk0 | hk0
                  · obtain rfl : k = 0 := HKL2.out.symm.trans hk0
                    obtain rfl := G1.out rfl
                    have hv' : e = .returned (.tuple #[.slice none 0 0, .int .u8 0, .int .i64 5]) := hv
                    subst hv'
                    clear hv
                    go_wp2_with fail
                    refine (show_at (Below.refl _ _) HL.out LS1.out).mono ?_
                    rintro e w16 ⟨rfl, hb⟩
                    have HB16 := Lib.hid (HB15.out.trans (hb.mono HB15.out.size))
                    have HX16 := Lib.hid (HX15.out.kept hb)
                    have HT16 := Lib.hid (HT15.out.kept hb)
                    replace HL := Lib.hid (HL.out.grown hb)
                    clear hb HB15 HX15 HT15
                    generalize (⟨(showL l).toArray⟩ : ByteArray) = tl at *
                    have htl := LSZ.out
                    go_wp2_with fail
                    have hc := wfind_any HT16.out HW.out hgb HK.out (tl ++ ⟨#[47]⟩ ++ s) (cat_small1 LSZ.out h2)
                    refine hc.mono ?_
                    clear hc
                    rintro e w17 ⟨⟨o9, ho, hv⟩, hb⟩
                    have HO9 := Lib.hid ho
                    clear ho
                    have HB17 := Lib.hid (HB16.out.trans (hb.mono HB16.out.size))
                    have HX17 := Lib.hid (HX16.out.kept hb)
                    have HT17 := Lib.hid (HT16.out.kept hb)
                    replace HL := Lib.hid (HL.out.grown hb)
                    clear hb HB16 HX16 HT16
                    cases o9 with
                    | err d2 =>
                      have hv' : e = .returned (.tuple #[.slice none 0 0, .int .u8 0, .int .i64 d2]) := hv
                      subst hv'
                      clear hv
                      go_wp2_with fail
                      go_ret
                      exact ⟨rfl, HB17.out⟩
                    | ok l9 k9 =>
                      obtain ⟨v9, he, hl9⟩ := hv
                      subst he
                      have H9 := Lib.hid hl9
                      obtain ⟨p9, c9, rfl, _, _, _⟩ := hl9
                      go_wp2_with fail
                      go_ret
                      exact ⟨rfl, HB17.out⟩
                  · obtain rfl : k = 1 := HKL2.out.symm.trans hk0
                    obtain rfl := G2.out (by decide) (by decide)
                    have hv' : e = .returned (.tuple #[.slice none 0 0, .int .u8 0, .int .i64 55]) := hv
                    subst hv'
                    clear hv
                    go_wp2_with fail
                    refine (show_at (Below.refl _ _) HL.out LS1.out).mono ?_
                    rintro e w16 ⟨rfl, hb⟩
                    have HB16 := Lib.hid (HB15.out.trans (hb.mono HB15.out.size))
                    have HX16 := Lib.hid (HX15.out.kept hb)
                    have HT16 := Lib.hid (HT15.out.kept hb)
                    replace HL := Lib.hid (HL.out.grown hb)
                    clear hb HB15 HX15 HT15
                    generalize (⟨(showL l).toArray⟩ : ByteArray) = tl at *
                    have htl := LSZ.out
                    go_wp2_with fail
                    have hc := wfind_any HT16.out HW.out hgb HK.out (tl ++ ⟨#[47]⟩ ++ s) (cat_small1 LSZ.out h2)
                    refine hc.mono ?_
                    clear hc
                    rintro e w17 ⟨⟨o9, ho, hv⟩, hb⟩
                    have HO9 := Lib.hid ho
                    clear ho
                    have HB17 := Lib.hid (HB16.out.trans (hb.mono HB16.out.size))
                    have HX17 := Lib.hid (HX16.out.kept hb)
                    have HT17 := Lib.hid (HT16.out.kept hb)
                    replace HL := Lib.hid (HL.out.grown hb)
                    clear hb HB16 HX16 HT16
                    cases o9 with
                    | err d2 =>
                      have hv' : e = .returned (.tuple #[.slice none 0 0, .int .u8 0, .int .i64 d2]) := hv
                      subst hv'
                      clear hv
                      go_wp2_with fail
                      go_ret
                      exact ⟨rfl, HB17.out⟩
                    | ok l9 k9 =>
                      obtain ⟨v9, he, hl9⟩ := hv
                      subst he
                      have H9 := Lib.hid hl9
                      obtain ⟨p9, c9, rfl, _, _, _⟩ := hl9
                      go_wp2_with fail
                      go_ret
                      exact ⟨rfl, HB17.out⟩
                  · obtain rfl : k = 2 := HKL2.out.symm.trans hk0
                    cases o8 with
                    | err d =>
                      have hv' : e = .returned (.tuple #[.slice none 0 0, .int .u8 0, .int .i64 d]) := hv
                      subst hv'
                      clear hv
                      go_wp2_with fail
                      refine (show_at (Below.refl _ _) HL.out LS1.out).mono ?_
                      rintro e w16 ⟨rfl, hb⟩
                      have HB16 := Lib.hid (HB15.out.trans (hb.mono HB15.out.size))
                      have HX16 := Lib.hid (HX15.out.kept hb)
                      have HT16 := Lib.hid (HT15.out.kept hb)
                      replace HL := Lib.hid (HL.out.grown hb)
                      clear hb HB15 HX15 HT15
                      generalize (⟨(showL l).toArray⟩ : ByteArray) = tl at *
                      have htl := LSZ.out
                      go_wp2_with fail
                      have hc := wfind_any HT16.out HW.out hgb HK.out (tl ++ ⟨#[47]⟩ ++ s) (cat_small1 LSZ.out h2)
                      refine hc.mono ?_
                      clear hc
                      rintro e w17 ⟨⟨o9, ho, hv⟩, hb⟩
                      have HO9 := Lib.hid ho
                      clear ho
                      have HB17 := Lib.hid (HB16.out.trans (hb.mono HB16.out.size))
                      have HX17 := Lib.hid (HX16.out.kept hb)
                      have HT17 := Lib.hid (HT16.out.kept hb)
                      replace HL := Lib.hid (HL.out.grown hb)
                      clear hb HB16 HX16 HT16
                      have G := G3.out (by trivial) _ HO9.out
                      cases o9 with
                      | err d2 =>
                        have hv' : e = .returned (.tuple #[.slice none 0 0, .int .u8 0, .int .i64 d2]) := hv
                        subst hv'
                        clear hv
                        by_cases e2 : d2 = 61
                        · subst e2
                          clear G
                          go_wp2_with fail
                          go_ret
                          exact ⟨rfl, HB17.out⟩
                        · by_cases e1 : d = 61
                          · subst e1
                            clear G
                            have f2 := wnot_61 e2
                            go_wp2_with fail
                            go_ret
                            exact ⟨rfl, HB17.out⟩
                          · obtain rfl : d = d2 := by
                              rcases G with e | e | e
                              · exact absurd (by injection e) e2
                              · exact absurd (by injection e) e1
                              · injection e
                            have f2 := wnot_61 e2
                            clear G e1 e2
                            have hdd := is_self d
                            have HSN := Lib.hid (same_at (Below.refl _ _) (nil_pl w17) (nil_pl w17))
                            rw [show sameL [] [] = true from decide_eq_true rfl] at HSN
                            go_wp2_with fail
                            refine HSN.out.mono ?_
                            rintro e w18 ⟨rfl, hb⟩
                            clear HSN
                            have HB18 := Lib.hid (HB17.out.trans (hb.mono HB17.out.size))
                            have HX18 := Lib.hid (HX17.out.kept hb)
                            have HT18 := Lib.hid (HT17.out.kept hb)
                            replace HL := Lib.hid (HL.out.grown hb)
                            clear hb HB17 HX17 HT17
                            go_wp2_with fail
                            go_ret
                            exact ⟨rfl, HB18.out⟩
                      | ok l9 k9 =>
                        obtain rfl : d = 61 := by
                          rcases G with e | e | e
                          · cases e
                          · injection e
                          · cases e
                        clear G
                        obtain ⟨v9, he, hl9⟩ := hv
                        subst he
                        have H9 := Lib.hid hl9
                        obtain ⟨p9, c9, rfl, _, _, _⟩ := hl9
                        go_wp2_with fail
                        go_ret
                        exact ⟨rfl, HB17.out⟩
                    | ok l8 k8 =>
                      obtain ⟨v8, he, hl8⟩ := hv
                      subst he
                      have H8 := Lib.hid hl8
                      obtain ⟨p8, c8, rfl, _, _, _⟩ := hl8
                      go_wp2_with fail
                      refine (show_at (Below.refl _ _) HL.out LS1.out).mono ?_
                      rintro e w16 ⟨rfl, hb⟩
                      have HB16 := Lib.hid (HB15.out.trans (hb.mono HB15.out.size))
                      have HX16 := Lib.hid (HX15.out.kept hb)
                      have HT16 := Lib.hid (HT15.out.kept hb)
                      replace HL := Lib.hid (HL.out.grown hb)
                      replace H8 := Lib.hid (H8.out.grown hb)
                      clear hb HB15 HX15 HT15
                      generalize (⟨(showL l).toArray⟩ : ByteArray) = tl at *
                      have htl := LSZ.out
                      go_wp2_with fail
                      have hc := wfind_any HT16.out HW.out hgb HK.out (tl ++ ⟨#[47]⟩ ++ s) (cat_small1 LSZ.out h2)
                      refine hc.mono ?_
                      clear hc
                      rintro e w17 ⟨⟨o9, ho, hv⟩, hb⟩
                      have HO9 := Lib.hid ho
                      clear ho
                      have HB17 := Lib.hid (HB16.out.trans (hb.mono HB16.out.size))
                      have HX17 := Lib.hid (HX16.out.kept hb)
                      have HT17 := Lib.hid (HT16.out.kept hb)
                      replace HL := Lib.hid (HL.out.grown hb)
                      replace H8 := Lib.hid (H8.out.grown hb)
                      clear hb HB16 HX16 HT16
                      have G := G3.out (by trivial) _ HO9.out
                      cases o9 with
                      | err d2 =>
                        have hv' : e = .returned (.tuple #[.slice none 0 0, .int .u8 0, .int .i64 d2]) := hv
                        subst hv'
                        clear hv
                        obtain rfl : d2 = 61 := by
                          rcases G with e | e | e
                          · injection e
                          · cases e
                          · cases e
                        clear G
                        go_wp2_with fail
                        go_ret
                        exact ⟨rfl, HB17.out⟩
                      | ok l9 k9 =>
                        obtain ⟨v9, he, hl9⟩ := hv
                        subst he
                        have H9 := Lib.hid hl9
                        obtain ⟨p9, c9, rfl, _, _, _⟩ := hl9
                        obtain ⟨rfl, rfl⟩ : l8 = l9 ∧ k8 = k9 := by
                          rcases G with e | e | e
                          · cases e
                          · cases e
                          · injection e with e1 e2; exact ⟨e1, e2⟩
                        clear G
                        have ek8 := eq_u8 k8
                        have HSN := Lib.hid (same_at (Below.refl _ _) H8.out H9.out)
                        rw [show sameL l8 l8 = true from decide_eq_true rfl] at HSN
                        go_wp2_with fail
                        refine HSN.out.mono ?_
                        rintro e w18 ⟨rfl, hb⟩
                        clear HSN
                        have HB18 := Lib.hid (HB17.out.trans (hb.mono HB17.out.size))
                        have HX18 := Lib.hid (HX17.out.kept hb)
                        have HT18 := Lib.hid (HT17.out.kept hb)
                        replace HL := Lib.hid (HL.out.grown hb)
                        replace H8 := Lib.hid (H8.out.grown hb)
                        clear hb HB17 HX17 HT17
                        go_wp2_with fail
                        go_ret
                        exact ⟨rfl, HB18.out⟩
                  · exact absurd (HKL2.out.symm.trans hk0) HK3.out
              | false =>
                go_wp2_with fail
                refine (clean_pl (w := w13) (s := t) (by omega)).mono ?_
                rintro e w14 ⟨cv2, rfl, hcl, hbh⟩
                have hb := hbh.out
                have HCL := Lib.hid hcl.out
                clear hcl hbh
                have HB14 := Lib.hid (HB13.out.trans (hb.mono HB13.out.size))
                have HX14 := Lib.hid (HX13.out.kept hb)
                have HT14 := Lib.hid (HT13.out.kept hb)
                replace HL := Lib.hid (HL.out.grown hb)
                clear hb HB13 HX13 HT13
                rw [← find_clean hlk HO.out] at HCL
                obtain ⟨pc2, cc2, rfl, _, _, _⟩ := id HCL.out
                have HSC := Lib.hid (same_at (Below.refl _ _) HL.out HCL.out)
                rw [show sameL l l = true from decide_eq_true rfl] at HSC
                go_wp2_with fail
                refine HSC.out.mono ?_
                rintro e w15 ⟨rfl, hb⟩
                clear HSC HCL
                have HB15 := Lib.hid (HB14.out.trans (hb.mono HB14.out.size))
                have HX15 := Lib.hid (HX14.out.kept hb)
                have HT15 := Lib.hid (HT14.out.kept hb)
                replace HL := Lib.hid (HL.out.grown hb)
                clear hb HB14 HX14 HT14
                go_wp2_with fail
                refine (name_any s w15).mono ?_
                rintro e w16 ⟨rfl, hb⟩
                have HB16 := Lib.hid (HB15.out.trans (hb.mono HB15.out.size))
                have HX16 := Lib.hid (HX15.out.kept hb)
                have HT16 := Lib.hid (HT15.out.kept hb)
                replace HL := Lib.hid (HL.out.grown hb)
                clear hb HB15 HX15 HT15
                obtain ⟨nb, hnb⟩ : ∃ nb, nameL s.data.toList = nb := ⟨_, rfl⟩
                rw [hnb]
                cases nb with
                | false =>
                  go_wp2_with fail
                  go_ret
                  exact ⟨rfl, HB16.out⟩
                | true =>
                  obtain ⟨hst, hsd⟩ := name_step hnb
                  have HST := Lib.hid hst
                  have HSD := Lib.hid hsd
                  have HS64 := Lib.hid (name_small hnb)
                  clear hst hsd hnb
                  go_wp2_with fail
                  have hc := wfind_any HT16.out HW.out hgb HK.out (t ++ ⟨#[47]⟩ ++ s) (cat_small h1 h2)
                  refine hc.mono ?_
                  clear hc
                  rintro e w17 ⟨⟨o8, ho, hv⟩, hb⟩
                  have HO8 := Lib.hid ho
                  clear ho
                  have HB17 := Lib.hid (HB16.out.trans (hb.mono HB16.out.size))
                  have HX17 := Lib.hid (HX16.out.kept hb)
                  have HT17 := Lib.hid (HT16.out.kept hb)
                  replace HL := Lib.hid (HL.out.grown hb)
                  clear hb HB16 HX16 HT16
                  obtain ⟨g1, g2, g3⟩ := (find_behind HK.out HST.out HSD.out HO.out HO8.out).2 l k rfl
                  have G1 := Lib.hid g1
                  have G2 := Lib.hid g2
                  have G3 := Lib.hid g3
                  clear g1 g2 g3
                  rcases way_kind HW.out l with hk0 | hk0 | hk0 | hk0
                  · obtain rfl : k = 0 := HKL2.out.symm.trans hk0
                    obtain rfl := G1.out rfl
                    have hv' : e = .returned (.tuple #[.slice none 0 0, .int .u8 0, .int .i64 5]) := hv
                    subst hv'
                    clear hv
                    go_wp2_with fail
                    refine (show_at (Below.refl _ _) HL.out LS1.out).mono ?_
                    rintro e w18 ⟨rfl, hb⟩
                    have HB18 := Lib.hid (HB17.out.trans (hb.mono HB17.out.size))
                    have HX18 := Lib.hid (HX17.out.kept hb)
                    have HT18 := Lib.hid (HT17.out.kept hb)
                    replace HL := Lib.hid (HL.out.grown hb)
                    clear hb HB17 HX17 HT17
                    generalize (⟨(showL l).toArray⟩ : ByteArray) = tl at *
                    have htl := LSZ.out
                    go_wp2_with fail
                    have hc := wfind_any HT18.out HW.out hgb HK.out (tl ++ ⟨#[47]⟩ ++ s) (cat_small1 LSZ.out h2)
                    refine hc.mono ?_
                    clear hc
                    rintro e w19 ⟨⟨o9, ho, hv⟩, hb⟩
                    have HO9 := Lib.hid ho
                    clear ho
                    have HB19 := Lib.hid (HB18.out.trans (hb.mono HB18.out.size))
                    have HX19 := Lib.hid (HX18.out.kept hb)
                    have HT19 := Lib.hid (HT18.out.kept hb)
                    replace HL := Lib.hid (HL.out.grown hb)
                    clear hb HB18 HX18 HT18
                    cases o9 with
                    | err d2 =>
                      have hv' : e = .returned (.tuple #[.slice none 0 0, .int .u8 0, .int .i64 d2]) := hv
                      subst hv'
                      clear hv
                      go_wp2_with fail
                      go_ret
                      exact ⟨rfl, HB19.out⟩
                    | ok l9 k9 =>
                      obtain ⟨v9, he, hl9⟩ := hv
                      subst he
                      have H9 := Lib.hid hl9
                      obtain ⟨p9, c9, rfl, _, _, _⟩ := hl9
                      go_wp2_with fail
                      go_ret
                      exact ⟨rfl, HB19.out⟩
                  · obtain rfl : k = 1 := HKL2.out.symm.trans hk0
                    obtain rfl := G2.out (by decide) (by decide)
                    have hv' : e = .returned (.tuple #[.slice none 0 0, .int .u8 0, .int .i64 55]) := hv
                    subst hv'
                    clear hv
                    go_wp2_with fail
                    refine (show_at (Below.refl _ _) HL.out LS1.out).mono ?_
                    rintro e w18 ⟨rfl, hb⟩
                    have HB18 := Lib.hid (HB17.out.trans (hb.mono HB17.out.size))
                    have HX18 := Lib.hid (HX17.out.kept hb)
                    have HT18 := Lib.hid (HT17.out.kept hb)
                    replace HL := Lib.hid (HL.out.grown hb)
                    clear hb HB17 HX17 HT17
                    generalize (⟨(showL l).toArray⟩ : ByteArray) = tl at *
                    have htl := LSZ.out
                    go_wp2_with fail
                    have hc := wfind_any HT18.out HW.out hgb HK.out (tl ++ ⟨#[47]⟩ ++ s) (cat_small1 LSZ.out h2)
                    refine hc.mono ?_
                    clear hc
                    rintro e w19 ⟨⟨o9, ho, hv⟩, hb⟩
                    have HO9 := Lib.hid ho
                    clear ho
                    have HB19 := Lib.hid (HB18.out.trans (hb.mono HB18.out.size))
                    have HX19 := Lib.hid (HX18.out.kept hb)
                    have HT19 := Lib.hid (HT18.out.kept hb)
                    replace HL := Lib.hid (HL.out.grown hb)
                    clear hb HB18 HX18 HT18
                    cases o9 with
                    | err d2 =>
                      have hv' : e = .returned (.tuple #[.slice none 0 0, .int .u8 0, .int .i64 d2]) := hv
                      subst hv'
                      clear hv
                      go_wp2_with fail
                      go_ret
                      exact ⟨rfl, HB19.out⟩
                    | ok l9 k9 =>
                      obtain ⟨v9, he, hl9⟩ := hv
                      subst he
                      have H9 := Lib.hid hl9
                      obtain ⟨p9, c9, rfl, _, _, _⟩ := hl9
                      go_wp2_with fail
                      go_ret
                      exact ⟨rfl, HB19.out⟩
                  · obtain rfl : k = 2 := HKL2.out.symm.trans hk0
                    cases o8 with
                    | err d =>
                      have hv' : e = .returned (.tuple #[.slice none 0 0, .int .u8 0, .int .i64 d]) := hv
                      subst hv'
                      clear hv
                      go_wp2_with fail
                      refine (show_at (Below.refl _ _) HL.out LS1.out).mono ?_
                      rintro e w18 ⟨rfl, hb⟩
                      have HB18 := Lib.hid (HB17.out.trans (hb.mono HB17.out.size))
                      have HX18 := Lib.hid (HX17.out.kept hb)
                      have HT18 := Lib.hid (HT17.out.kept hb)
                      replace HL := Lib.hid (HL.out.grown hb)
                      clear hb HB17 HX17 HT17
                      generalize (⟨(showL l).toArray⟩ : ByteArray) = tl at *
                      have htl := LSZ.out
                      go_wp2_with fail
                      have hc := wfind_any HT18.out HW.out hgb HK.out (tl ++ ⟨#[47]⟩ ++ s) (cat_small1 LSZ.out h2)
                      refine hc.mono ?_
                      clear hc
                      rintro e w19 ⟨⟨o9, ho, hv⟩, hb⟩
                      have HO9 := Lib.hid ho
                      clear ho
                      have HB19 := Lib.hid (HB18.out.trans (hb.mono HB18.out.size))
                      have HX19 := Lib.hid (HX18.out.kept hb)
                      have HT19 := Lib.hid (HT18.out.kept hb)
                      replace HL := Lib.hid (HL.out.grown hb)
                      clear hb HB18 HX18 HT18
                      have G := G3.out (by trivial) _ HO9.out
                      cases o9 with
                      | err d2 =>
                        have hv' : e = .returned (.tuple #[.slice none 0 0, .int .u8 0, .int .i64 d2]) := hv
                        subst hv'
                        clear hv
                        by_cases e2 : d2 = 61
                        · subst e2
                          clear G
                          go_wp2_with fail
                          go_ret
                          exact ⟨rfl, HB19.out⟩
                        · by_cases e1 : d = 61
                          · subst e1
                            clear G
                            have f2 := wnot_61 e2
                            go_wp2_with fail
                            go_ret
                            exact ⟨rfl, HB19.out⟩
                          · obtain rfl : d = d2 := by
                              rcases G with e | e | e
                              · exact absurd (by injection e) e2
                              · exact absurd (by injection e) e1
                              · injection e
                            have f2 := wnot_61 e2
                            clear G e1 e2
                            have hdd := is_self d
                            have HSN := Lib.hid (same_at (Below.refl _ _) (nil_pl w19) (nil_pl w19))
                            rw [show sameL [] [] = true from decide_eq_true rfl] at HSN
                            go_wp2_with fail
                            refine HSN.out.mono ?_
                            rintro e w20 ⟨rfl, hb⟩
                            clear HSN
                            have HB20 := Lib.hid (HB19.out.trans (hb.mono HB19.out.size))
                            have HX20 := Lib.hid (HX19.out.kept hb)
                            have HT20 := Lib.hid (HT19.out.kept hb)
                            replace HL := Lib.hid (HL.out.grown hb)
                            clear hb HB19 HX19 HT19
                            go_wp2_with fail
                            go_ret
                            exact ⟨rfl, HB20.out⟩
                      | ok l9 k9 =>
                        obtain rfl : d = 61 := by
                          rcases G with e | e | e
                          · cases e
                          · injection e
                          · cases e
                        clear G
                        obtain ⟨v9, he, hl9⟩ := hv
                        subst he
                        have H9 := Lib.hid hl9
                        obtain ⟨p9, c9, rfl, _, _, _⟩ := hl9
                        go_wp2_with fail
                        go_ret
                        exact ⟨rfl, HB19.out⟩
                    | ok l8 k8 =>
                      obtain ⟨v8, he, hl8⟩ := hv
                      subst he
                      have H8 := Lib.hid hl8
                      obtain ⟨p8, c8, rfl, _, _, _⟩ := hl8
                      go_wp2_with fail
                      refine (show_at (Below.refl _ _) HL.out LS1.out).mono ?_
                      rintro e w18 ⟨rfl, hb⟩
                      have HB18 := Lib.hid (HB17.out.trans (hb.mono HB17.out.size))
                      have HX18 := Lib.hid (HX17.out.kept hb)
                      have HT18 := Lib.hid (HT17.out.kept hb)
                      replace HL := Lib.hid (HL.out.grown hb)
                      replace H8 := Lib.hid (H8.out.grown hb)
                      clear hb HB17 HX17 HT17
                      generalize (⟨(showL l).toArray⟩ : ByteArray) = tl at *
                      have htl := LSZ.out
                      go_wp2_with fail
                      have hc := wfind_any HT18.out HW.out hgb HK.out (tl ++ ⟨#[47]⟩ ++ s) (cat_small1 LSZ.out h2)
                      refine hc.mono ?_
                      clear hc
                      rintro e w19 ⟨⟨o9, ho, hv⟩, hb⟩
                      have HO9 := Lib.hid ho
                      clear ho
                      have HB19 := Lib.hid (HB18.out.trans (hb.mono HB18.out.size))
                      have HX19 := Lib.hid (HX18.out.kept hb)
                      have HT19 := Lib.hid (HT18.out.kept hb)
                      replace HL := Lib.hid (HL.out.grown hb)
                      replace H8 := Lib.hid (H8.out.grown hb)
                      clear hb HB18 HX18 HT18
                      have G := G3.out (by trivial) _ HO9.out
                      cases o9 with
                      | err d2 =>
                        have hv' : e = .returned (.tuple #[.slice none 0 0, .int .u8 0, .int .i64 d2]) := hv
                        subst hv'
                        clear hv
                        obtain rfl : d2 = 61 := by
                          rcases G with e | e | e
                          · injection e
                          · cases e
                          · cases e
                        clear G
                        go_wp2_with fail
                        go_ret
                        exact ⟨rfl, HB19.out⟩
                      | ok l9 k9 =>
                        obtain ⟨v9, he, hl9⟩ := hv
                        subst he
                        have H9 := Lib.hid hl9
                        obtain ⟨p9, c9, rfl, _, _, _⟩ := hl9
                        obtain ⟨rfl, rfl⟩ : l8 = l9 ∧ k8 = k9 := by
                          rcases G with e | e | e
                          · cases e
                          · cases e
                          · injection e with e1 e2; exact ⟨e1, e2⟩
                        clear G
                        have ek8 := eq_u8 k8
                        have HSN := Lib.hid (same_at (Below.refl _ _) H8.out H9.out)
                        rw [show sameL l8 l8 = true from decide_eq_true rfl] at HSN
                        go_wp2_with fail
                        refine HSN.out.mono ?_
                        rintro e w20 ⟨rfl, hb⟩
                        clear HSN
                        have HB20 := Lib.hid (HB19.out.trans (hb.mono HB19.out.size))
                        have HX20 := Lib.hid (HX19.out.kept hb)
                        have HT20 := Lib.hid (HT19.out.kept hb)
                        replace HL := Lib.hid (HL.out.grown hb)
                        replace H8 := Lib.hid (H8.out.grown hb)
                        clear hb HB19 HX19 HT19
                        go_wp2_with fail
                        go_ret
                        exact ⟨rfl, HB20.out⟩
                  · exact absurd (HKL2.out.symm.trans hk0) HK3.out
end Go.Proofs.Ytlnnnlpofocgpab
/- The statement on ways: on the way to a place that is told there are directories alone, and its path leads to it; no link is told; without links a path leads to what is left when it is cleaned; a path, a slash and a name lead on from where the path led. It holds where what comes in is of bulk at most 1048576. -/
namespace Go.Proofs.Ytlnnnlpofocgpab
open Go.ChangeShapes Go.WideShapes Go.ChangeAt Go.RowKit Px Nx
namespace walkReal
theorem own : ownKnob Try.prog.godebug = none := by kernel_rfl
theorem laidOut : laidOutB Try.prog = true := by kernel_rfl
theorem rec_node : Try.prog.readableRec 25 = true := by kernel_rfl
theorem row_node : 25 < Try.prog.types.size := of_decide_eq_true (by kernel_rfl)
set_option maxRecDepth 100000 in
theorem contract (H : Type) (enc : TypeId × Value → H) (W : World) (base : Nat) (args : Array Value) (ds gs : List (DataW H)) (before : List MemPlace)
    (hval : ∀ (j : Nat) t v, Try.f3.params[j]? = some t → args[j]? = some v → Value.okWide Try.prog W .any base t v)
    (hW : DataW.Whole enc Try.prog Try.f3.params.toList Rows.walkRealSpec.vars false W args.toList ds gs before) (hk : Rows.uptoSmall H (ds ++ gs) = true) :
    Calls Try.prog 3 args W fun e W' => ∃ v, e = .returned v ∧ Rows.walkRealSpec.post enc Try.prog Try.f3 false true false false W args v W' := by
  have hW' := hW
  obtain ⟨p, q, hA0, hV, rfl, hfz, hnd⟩ := hW
  have hA : DataW.TrodAll enc Try.prog W 0 (fun _ => true) true Try.f3.params.toList args.toList ds p := hA0
  rw [Try.params3] at hA hval
  obtain ⟨v0, vs0, d0, ds0, p0, q0, hargs, rfl, rfl, h0, r0⟩ := trodAll_cons hA
  obtain ⟨v1, vs1, d1, ds1, p1, q1, rfl, rfl, rfl, h1, r1⟩ := trodAll_cons r0
  obtain ⟨v2, vs2, d2, ds2, p2, q2, rfl, rfl, rfl, h2, r2⟩ := trodAll_cons r1
  obtain ⟨rfl, rfl, rfl⟩ := trodAll_nil r2
  obtain rfl : args = #[v0, v1, v2] := by cases args; simp_all
  obtain ⟨rfl, rfl⟩ := trodVars_none hV
  have hB := of_decide_eq_true (show decide (Rows.uptoBulkAll _ ≤ 1048576) = true from hk)
  rw [List.append_nil, bulk_cons, bulk_cons, bulk_cons, bulk_none] at hB
  obtain ⟨cs, x, rfl, hx, hxb⟩ := open_node (hval 0 25 v0 rfl rfl) h0
  obtain ⟨s1, rfl, rfl, rfl, hs1⟩ := Go.ChangeMaps.open_string Try.underlying9 (hval 1 9 v1 rfl rfl) h1
  obtain ⟨s2, rfl, rfl, rfl, hs2⟩ := Go.ChangeMaps.open_string Try.underlying9 (hval 2 9 v2 rfl rfl) h2
  have hlt : ∀ z ∈ (p0 ++ ([] ++ ([] ++ []))) ++ [], z.block < W.heap.size := fun z hz => by simpa using hW'.lt z hz
  refine (law_real hx (by omega) s1 s2).mono fun e W' ⟨he, hb⟩ => ?_
  subst he
  have a0 := Below.trod laidOut rec_node row_node h0 hb (fun z hz => hlt z (by simp [hz]))
  exact ⟨_, rfl, _, _, _, [], p0 ++ ([] ++ ([] ++ [])), [], hW', trodAll_cons_mk (shut_bool Try.underlying4 _) trodAll_mk0, trodAll_cons_mk a0 (trodAll_cons_mk (Go.ChangeMaps.shut_string Try.underlying9 hs1) (trodAll_cons_mk (Go.ChangeMaps.shut_string Try.underlying9 hs2) trodAll_mk0)), rfl, hb.frame _, fun h => by cases h⟩

/-- A node of nothing, for the witness. -/
def zero : Value := .agg #[.int .u8 0, .string ByteArray.empty, .slice none 0 0, .slice none 0 0]
set_option maxRecDepth 100000 in
theorem lifted (os : Os) (started : os.Started) (H : Type) (enc : TypeId × Value → H) (F : Stop.Interp) :
    ReturnsInHanded {} Try.checked os 3 .any ((Rows.OpenSpec.upto Rows.walkRealSpec).pre6 enc Try.prog Try.f3 Rows.walkRealUptoRow.domain false) (((Rows.OpenSpec.upto Rows.walkRealSpec).at F).post enc Try.prog Try.f3 false true false false) := by
  refine returnsInHanded_of_cond (C := Try.checked) (s := Rows.OpenSpec.upto Rows.walkRealSpec) (k := Rows.uptoSmall) rfl own started (by kernel_rfl) Try.func3
    (OpenSpec.witness (enc := enc) (C := Try.checked) (s := Rows.OpenSpec.upto Rows.walkRealSpec) (k := Rows.uptoSmall) rfl false ⟨#[], #[zero, .string ByteArray.empty, .string ByteArray.empty], []⟩ 8 (by kernel_rfl) (by kernel_rfl) (by kernel_rfl)
      (x := ([.agg [.lit (.int .u8 0), .lit (.string []), .nil, .nil], .lit (.string []), .lit (.string [])], [], [])) (by kernel_rfl) rfl (by kernel_rfl)) ?_
  intro W base args ds gs before hval hW _ hk _
  exact contract H enc W base args ds gs before hval hW hk
/-- THE STATEMENT. -/
theorem said : Rows.WalkRealUptoSaid :=
  OpenClaim.holds_of_cond 3 Try.f3 rfl rfl rfl rfl rfl rfl rfl ⟨rfl, rfl, rfl, rfl, rfl⟩ rfl rfl rfl rfl rfl (by kernel_rfl) Try.func3 (by kernel_rfl)
    (of_decide_eq_true (by kernel_rfl)) (by unfold Func.isWrapper; first | (rw [if_pos (by decide +kernel)]; kernel_rfl) | (rw [if_neg (by decide +kernel)]; exact ⟨rfl, rfl⟩))
    (fun os started H enc _ F => lifted os started H enc F)
end walkReal
end Go.Proofs.Ytlnnnlpofocgpab
