/- The statement on what is there: behind mkdir -p and touch something is there, behind rmdir and rm -r nothing is. -/
import Derived.Test.YtmofodaecakkfaaGreatKb49
import Derived.Test.YtmofodaecakkfaaGreatKb51
namespace Go.Proofs.YtmofodaecakkfaaGreat
open Go.RowKit Px Nx Wk Dn Ox
open Works12 (Bk)
theorem leads_shape {n : Nd} {fo : Bool} {t : ByteArray} {e : Ending} {w' : World} (h : LeadsQ n fo t e w') : ∃ sl ln cp, ∃ kd er : Int, e = .returned (.tuple #[.slice sl ln cp, .int .u8 kd, .int .i64 er]) := by
  obtain ⟨o, _, hv⟩ := h
  cases o with
  | err c => exact ⟨_, _, _, _, _, hv⟩
  | ok p k =>
    obtain ⟨pv, he, hp⟩ := hv
    obtain ⟨a, c, rfl, _⟩ := hp
    exact ⟨_, _, _, _, _, he⟩
theorem four_small {a b c t : ByteArray} (ha : a.size ≤ 5) (hb : b.size ≤ 5) (hc : c.size ≤ 5) (ht : t.size ≤ 600) : ∀ x ∈ [a, b, c, t], x.size ≤ 600 := by
  intro x hx
  simp only [List.mem_cons, List.not_mem_nil, or_false] at hx
  rcases hx with rfl | rfl | rfl | rfl <;> omega
theorem three_small {a b t : ByteArray} (ha : a.size ≤ 5) (hb : b.size ≤ 5) (ht : t.size ≤ 600) : ∀ x ∈ [a, b, t], x.size ≤ 600 := by
  intro x hx
  simp only [List.mem_cons, List.not_mem_nil, or_false] at hx
  rcases hx with rfl | rfl | rfl <;> omega
set_option maxRecDepth 100000 in
set_option maxHeartbeats 16000000 in
theorem law_there12 {W : World} {cs : List Value} {n : Nd} (hn : NodeR W cs n) (hB : n.bulk ≤ 2000000) (t : ByteArray) :
    Calls Tryz.prog 4 #[.agg cs.toArray, .string t] W fun e w' => e = .returned (.bool true) ∧ Below W.heap.size W w' := by
  obtain ⟨p1, q1, c1, d1, rfl⟩ := hn.cells
  have HN := Lib.hid hn
  clear hn
  go_enter Tryz.func4, Tryz.ntmps4
  go_wp2_with fail
  have HBW : Hid (Below W.heap.size W (((W.alloc (.cells #[.int .u8 n.kind.toNat, .string n.text, .slice p1 n.names.length c1, .slice q1 n.kids.length d1] 25)).alloc (.cells #[.string t] 9)).alloc (.cells #[.slice (some ⟨W.heap.size + 1, 0, none⟩) 1 1] 22))) := Lib.hid (below_alloc (below_alloc (below_alloc (Below.refl _ _))))
  have HBX : Hid (Bk (((W.alloc (.cells #[.int .u8 n.kind.toNat, .string n.text, .slice p1 n.names.length c1, .slice q1 n.kids.length d1] 25)).alloc (.cells #[.string t] 9)).alloc (.cells #[.slice (some ⟨W.heap.size + 1, 0, none⟩) 1 1] 22)) W.heap.size [.int .u8 n.kind.toNat, .string n.text, .slice p1 n.names.length c1, .slice q1 n.kids.length d1] 25) := Lib.hid (Bk.al (Bk.al (Bk.newE rfl)))
  have hp0 : Bk (((W.alloc (.cells #[.int .u8 n.kind.toNat, .string n.text, .slice p1 n.names.length c1, .slice q1 n.kids.length d1] 25)).alloc (.cells #[.string t] 9)).alloc (.cells #[.slice (some ⟨W.heap.size + 1, 0, none⟩) 1 1] 22)) (W.heap.size + 1) ([t].map Value.string) 9 := Bk.al (Bk.newE (by simp))
  have hc0 : Bk (((W.alloc (.cells #[.int .u8 n.kind.toNat, .string n.text, .slice p1 n.names.length c1, .slice q1 n.kids.length d1] 25)).alloc (.cells #[.string t] 9)).alloc (.cells #[.slice (some ⟨W.heap.size + 1, 0, none⟩) 1 1] 22)) (W.heap.size + 1 + 1) [.slice (some ⟨W.heap.size + 1, 0, none⟩) 1 1] 22 := Bk.newE (by simp)
  have HL := Lib.hid (long_one HN.out hB _ HBW.out (W.heap.size + 1 + 1) _ [t] (hc0.at rfl) (hp0.pl (l := [t]) (show 1 ≤ maxLen by decide)))
  clear hc0 hp0
  generalize (((W.alloc (.cells #[.int .u8 n.kind.toNat, .string n.text, .slice p1 n.names.length c1, .slice q1 n.kids.length d1] 25)).alloc (.cells #[.string t] 9)).alloc (.cells #[.slice (some ⟨W.heap.size + 1, 0, none⟩) 1 1] 22)) = w1 at *
  refine HL.out.mono ?_
  rintro e w2 ⟨⟨lb, rfl, hlb⟩, hb2⟩
  have HB2 := Lib.hid (HBW.out.trans (hb2.mono HBW.out.size))
  have HX2 := Lib.hid (HBX.out.kept hb2)
  clear hb2 HBX HBW HL
  cases lb with
  | true =>
    go_wp2_with fail
    refine (Works12.awake_any w2).mono ?_
    rintro e w3 ⟨rfl, hb3⟩
    have HB3 := Lib.hid (HB2.out.trans (hb3.mono HB2.out.size))
    clear hb3
    go_wp2_with fail
    go_ret
    exact ⟨rfl, HB3.out⟩
  | false =>
    obtain ⟨hmay, hno, _, hx6⟩ := hlb rfl
    have ht6 : t.size ≤ 600 := hx6 t (by simp)
    clear hlb hx6
    go_wp2_with fail
    refine (Works12.awake_any w2).mono ?_
    rintro e w3 ⟨rfl, hb3⟩
    have HB3 := Lib.hid (HB2.out.trans (hb3.mono HB2.out.size))
    have HX3 := Lib.hid (HX2.out.kept hb3)
    clear hb3 HB2 HX2
    have hgb : n.girth ≤ 330000 := by have := may_bulk hmay; have := n.girth_bulk; omega
    obtain ⟨hw, hk⟩ := may_well hmay
    have HG : Hid (TreeN 200 n) := Lib.hid ⟨hw, hk, hno⟩
    have HMAY := Lib.hid hmay
    clear hmay hno hw hk
    go_wp2_with fail
    have HB5 : Hid (Below W.heap.size W (((((w3.alloc (.cells #[.string ⟨#[109, 107, 100, 105, 114]⟩, .string ⟨#[45, 112]⟩, .string ⟨#[45, 45]⟩, .string t] 9)).alloc (.cells #[.string ⟨#[116, 111, 117, 99, 104]⟩, .string ⟨#[45, 45]⟩, .string t] 9)).alloc (.cells #[.string ⟨#[114, 109, 100, 105, 114]⟩, .string ⟨#[45, 45]⟩, .string t] 9)).alloc (.cells #[.string ⟨#[114, 109]⟩, .string ⟨#[45, 114]⟩, .string ⟨#[45, 45]⟩, .string t] 9)).alloc (.cells #[.slice (some ⟨w3.heap.size, 0, none⟩) 4 4, .slice (some ⟨w3.heap.size + 1, 0, none⟩) 3 3, .slice (some ⟨w3.heap.size + 1 + 1, 0, none⟩) 3 3, .slice (some ⟨w3.heap.size + 1 + 1 + 1, 0, none⟩) 4 4] 22))) := Lib.hid (below_alloc (below_alloc (below_alloc (below_alloc (below_alloc HB3.out)))))
    have HX5 : Hid (Bk (((((w3.alloc (.cells #[.string ⟨#[109, 107, 100, 105, 114]⟩, .string ⟨#[45, 112]⟩, .string ⟨#[45, 45]⟩, .string t] 9)).alloc (.cells #[.string ⟨#[116, 111, 117, 99, 104]⟩, .string ⟨#[45, 45]⟩, .string t] 9)).alloc (.cells #[.string ⟨#[114, 109, 100, 105, 114]⟩, .string ⟨#[45, 45]⟩, .string t] 9)).alloc (.cells #[.string ⟨#[114, 109]⟩, .string ⟨#[45, 114]⟩, .string ⟨#[45, 45]⟩, .string t] 9)).alloc (.cells #[.slice (some ⟨w3.heap.size, 0, none⟩) 4 4, .slice (some ⟨w3.heap.size + 1, 0, none⟩) 3 3, .slice (some ⟨w3.heap.size + 1 + 1, 0, none⟩) 3 3, .slice (some ⟨w3.heap.size + 1 + 1 + 1, 0, none⟩) 4 4] 22)) W.heap.size [.int .u8 n.kind.toNat, .string n.text, .slice p1 n.names.length c1, .slice q1 n.kids.length d1] 25) := Lib.hid (Bk.al (Bk.al (Bk.al (Bk.al (Bk.al HX3.out)))))
    have HK1 : Hid (Bk (((((w3.alloc (.cells #[.string ⟨#[109, 107, 100, 105, 114]⟩, .string ⟨#[45, 112]⟩, .string ⟨#[45, 45]⟩, .string t] 9)).alloc (.cells #[.string ⟨#[116, 111, 117, 99, 104]⟩, .string ⟨#[45, 45]⟩, .string t] 9)).alloc (.cells #[.string ⟨#[114, 109, 100, 105, 114]⟩, .string ⟨#[45, 45]⟩, .string t] 9)).alloc (.cells #[.string ⟨#[114, 109]⟩, .string ⟨#[45, 114]⟩, .string ⟨#[45, 45]⟩, .string t] 9)).alloc (.cells #[.slice (some ⟨w3.heap.size, 0, none⟩) 4 4, .slice (some ⟨w3.heap.size + 1, 0, none⟩) 3 3, .slice (some ⟨w3.heap.size + 1 + 1, 0, none⟩) 3 3, .slice (some ⟨w3.heap.size + 1 + 1 + 1, 0, none⟩) 4 4] 22)) (w3.heap.size) [.string ⟨#[109, 107, 100, 105, 114]⟩, .string ⟨#[45, 112]⟩, .string ⟨#[45, 45]⟩, .string t] 9) := Lib.hid (Bk.al (Bk.al (Bk.al (Bk.al (Bk.newE (by first | rfl | simp))))))
    have HK2 : Hid (Bk (((((w3.alloc (.cells #[.string ⟨#[109, 107, 100, 105, 114]⟩, .string ⟨#[45, 112]⟩, .string ⟨#[45, 45]⟩, .string t] 9)).alloc (.cells #[.string ⟨#[116, 111, 117, 99, 104]⟩, .string ⟨#[45, 45]⟩, .string t] 9)).alloc (.cells #[.string ⟨#[114, 109, 100, 105, 114]⟩, .string ⟨#[45, 45]⟩, .string t] 9)).alloc (.cells #[.string ⟨#[114, 109]⟩, .string ⟨#[45, 114]⟩, .string ⟨#[45, 45]⟩, .string t] 9)).alloc (.cells #[.slice (some ⟨w3.heap.size, 0, none⟩) 4 4, .slice (some ⟨w3.heap.size + 1, 0, none⟩) 3 3, .slice (some ⟨w3.heap.size + 1 + 1, 0, none⟩) 3 3, .slice (some ⟨w3.heap.size + 1 + 1 + 1, 0, none⟩) 4 4] 22)) (w3.heap.size + 1) [.string ⟨#[116, 111, 117, 99, 104]⟩, .string ⟨#[45, 45]⟩, .string t] 9) := Lib.hid (Bk.al (Bk.al (Bk.al (Bk.newE (by first | rfl | simp)))))
    have HK3 : Hid (Bk (((((w3.alloc (.cells #[.string ⟨#[109, 107, 100, 105, 114]⟩, .string ⟨#[45, 112]⟩, .string ⟨#[45, 45]⟩, .string t] 9)).alloc (.cells #[.string ⟨#[116, 111, 117, 99, 104]⟩, .string ⟨#[45, 45]⟩, .string t] 9)).alloc (.cells #[.string ⟨#[114, 109, 100, 105, 114]⟩, .string ⟨#[45, 45]⟩, .string t] 9)).alloc (.cells #[.string ⟨#[114, 109]⟩, .string ⟨#[45, 114]⟩, .string ⟨#[45, 45]⟩, .string t] 9)).alloc (.cells #[.slice (some ⟨w3.heap.size, 0, none⟩) 4 4, .slice (some ⟨w3.heap.size + 1, 0, none⟩) 3 3, .slice (some ⟨w3.heap.size + 1 + 1, 0, none⟩) 3 3, .slice (some ⟨w3.heap.size + 1 + 1 + 1, 0, none⟩) 4 4] 22)) (w3.heap.size + 1 + 1) [.string ⟨#[114, 109, 100, 105, 114]⟩, .string ⟨#[45, 45]⟩, .string t] 9) := Lib.hid (Bk.al (Bk.al (Bk.newE (by first | rfl | simp))))
    have HK4 : Hid (Bk (((((w3.alloc (.cells #[.string ⟨#[109, 107, 100, 105, 114]⟩, .string ⟨#[45, 112]⟩, .string ⟨#[45, 45]⟩, .string t] 9)).alloc (.cells #[.string ⟨#[116, 111, 117, 99, 104]⟩, .string ⟨#[45, 45]⟩, .string t] 9)).alloc (.cells #[.string ⟨#[114, 109, 100, 105, 114]⟩, .string ⟨#[45, 45]⟩, .string t] 9)).alloc (.cells #[.string ⟨#[114, 109]⟩, .string ⟨#[45, 114]⟩, .string ⟨#[45, 45]⟩, .string t] 9)).alloc (.cells #[.slice (some ⟨w3.heap.size, 0, none⟩) 4 4, .slice (some ⟨w3.heap.size + 1, 0, none⟩) 3 3, .slice (some ⟨w3.heap.size + 1 + 1, 0, none⟩) 3 3, .slice (some ⟨w3.heap.size + 1 + 1 + 1, 0, none⟩) 4 4] 22)) (w3.heap.size + 1 + 1 + 1) [.string ⟨#[114, 109]⟩, .string ⟨#[45, 114]⟩, .string ⟨#[45, 45]⟩, .string t] 9) := Lib.hid (Bk.al (Bk.newE (by first | rfl | simp)))
    have HK5 : Hid (Bk (((((w3.alloc (.cells #[.string ⟨#[109, 107, 100, 105, 114]⟩, .string ⟨#[45, 112]⟩, .string ⟨#[45, 45]⟩, .string t] 9)).alloc (.cells #[.string ⟨#[116, 111, 117, 99, 104]⟩, .string ⟨#[45, 45]⟩, .string t] 9)).alloc (.cells #[.string ⟨#[114, 109, 100, 105, 114]⟩, .string ⟨#[45, 45]⟩, .string t] 9)).alloc (.cells #[.string ⟨#[114, 109]⟩, .string ⟨#[45, 114]⟩, .string ⟨#[45, 45]⟩, .string t] 9)).alloc (.cells #[.slice (some ⟨w3.heap.size, 0, none⟩) 4 4, .slice (some ⟨w3.heap.size + 1, 0, none⟩) 3 3, .slice (some ⟨w3.heap.size + 1 + 1, 0, none⟩) 3 3, .slice (some ⟨w3.heap.size + 1 + 1 + 1, 0, none⟩) 4 4] 22)) (w3.heap.size + 1 + 1 + 1 + 1) [.slice (some ⟨w3.heap.size, 0, none⟩) 4 4, .slice (some ⟨w3.heap.size + 1, 0, none⟩) 3 3, .slice (some ⟨w3.heap.size + 1 + 1, 0, none⟩) 3 3, .slice (some ⟨w3.heap.size + 1 + 1 + 1, 0, none⟩) 4 4] 22) := Lib.hid (Bk.newE (by simp))
    clear HB3 HX3
    generalize (((((w3.alloc (.cells #[.string ⟨#[109, 107, 100, 105, 114]⟩, .string ⟨#[45, 112]⟩, .string ⟨#[45, 45]⟩, .string t] 9)).alloc (.cells #[.string ⟨#[116, 111, 117, 99, 104]⟩, .string ⟨#[45, 45]⟩, .string t] 9)).alloc (.cells #[.string ⟨#[114, 109, 100, 105, 114]⟩, .string ⟨#[45, 45]⟩, .string t] 9)).alloc (.cells #[.string ⟨#[114, 109]⟩, .string ⟨#[45, 114]⟩, .string ⟨#[45, 45]⟩, .string t] 9)).alloc (.cells #[.slice (some ⟨w3.heap.size, 0, none⟩) 4 4, .slice (some ⟨w3.heap.size + 1, 0, none⟩) 3 3, .slice (some ⟨w3.heap.size + 1 + 1, 0, none⟩) 3 3, .slice (some ⟨w3.heap.size + 1 + 1 + 1, 0, none⟩) 4 4] 22)) = w5 at *
    generalize hG0 : w3.heap.size = G at *
    clear hG0 w3
    have HT0 := Lib.hid ht6
    go_loopw [39] (fun i wr => ∃ k : Nat, k ≤ 4 ∧ i = .int .i64 k ∧ Hid (Below w5.heap.size w5 wr)) (fun i _ => 4 - (intOf i).toNat)
    case atStart => exact ⟨0, by omega, rfl, Lib.hid (Below.refl _ _)⟩
    case round =>
      obtain ⟨k, hk, rfl, HI⟩ := hrel
      have HBR := Lib.hid (HB5.out.trans (HI.out.mono HB5.out.size))
      have HXR := Lib.hid (HX5.out.kept HI.out)
      have e5 := (HK5.out.kept HI.out)
      obtain rfl | rfl | rfl | rfl | rfl : k = 0 ∨ k = 1 ∨ k = 2 ∨ k = 3 ∨ k = 4 := by omega
      · have y0 : wr.cell? ⟨G + 1 + 1 + 1 + 1, 0, none⟩ = some (.slice (some ⟨G, 0, none⟩) 4 4) := e5.at rfl
        clear e5
        obtain ⟨c0, c1', c2, c3⟩ : wr.cell? ⟨W.heap.size, 0, none⟩ = some (.int .u8 n.kind.toNat) ∧ wr.cell? ⟨W.heap.size, 1, none⟩ = some (.string n.text) ∧ wr.cell? ⟨W.heap.size, 2, none⟩ = some (.slice p1 n.names.length c1) ∧ wr.cell? ⟨W.heap.size, 3, none⟩ = some (.slice q1 n.kids.length d1) := ⟨HXR.out.at rfl, HXR.out.at rfl, HXR.out.at rfl, HXR.out.at rfl⟩
        go_wp2_with fail
        refine (fnew_any HN.out (by omega) wr HBR.out).mono ?_
        rintro e w6 ⟨hnw, hb6⟩
        rw [if_pos HMAY.out] at hnw
        obtain ⟨b, x0, x1, x2, x3, rfl, hbb, ht, _⟩ := hnw
        have hb5 : w5.heap.size ≤ b := Nat.le_trans HI.out.size hbb
        have HT6 := Lib.hid ht
        have HI6 := Lib.hid (HI.out.trans (hb6.mono HI.out.size))
        clear hb6 ht hbb y0 c0 c1' c2 c3 HI HXR HBR
        go_wp2_with fail
        refine (wspot_any HT6.out HG.out.well (by omega) HG.out.kind t (by omega)).mono ?_
        rintro e w7 ⟨hq, hb7⟩
        obtain ⟨sl, ln, cp, kd, er, rfl⟩ := leads_shape hq
        clear hq
        have HI7 := Lib.hid (HI6.out.trans (hb7.mono HI6.out.size))
        have HT7 := Lib.hid (HT6.out.kept hb7)
        clear hb7 HT6 HI6
        go_wp2_with fail
        refine (Run_any HT7.out HG.out (Nat.le_refl _) (xs := [nMkdir, oP, dd, t]) ((HK1.out.kept HI7.out).pl (l := [nMkdir, oP, dd, t]) (show 4 ≤ maxLen by decide)) (show 4 ≤ 40 by decide) (four_small (of_decide_eq_true (by kernel_rfl)) (of_decide_eq_true (by kernel_rfl)) (of_decide_eq_true (by kernel_rfl)) HT0.out)).mono ?_
        rintro e w8 ⟨code, err, is, nn, rfl, ha, ⟨z0, z1, z2, z3, ht⟩, hg⟩
        obtain ⟨rfl, hc⟩ := ans_mkdir HG.out.well HG.out.kind ha
        have HC := Lib.hid hc
        have HT8 := Lib.hid ht
        have HI8 := Lib.hid (Works12.below_turn HI7.out hg hb5)
        have HG2 := Lib.hid (ans_tree (xs := [nMkdir, oP, dd, t]) HG.out (show 4 ≤ 40 by decide) ha)
        clear ht hg hc ha HT7
        by_cases hc0 : code = 0
        · subst hc0
          go_wp2_with fail
          refine (wfind_any HT8.out HG2.out.well (by have := HG2.out.girth; omega) HG2.out.kind t (by omega)).mono ?_
          rintro e w9 ⟨⟨o, ho, hv⟩, hb9⟩
          obtain ⟨P, hl⟩ := HC.out (by first | trivial | rfl)
          obtain rfl := leads_one hl ho
          have hk2 : True := trivial
          obtain ⟨pv, he, hpv⟩ := hv
          have he : e = .returned (.tuple #[pv, .int .u8 2, .int .i64 0]) := he
          subst he
          obtain ⟨pp, cp2, rfl, _, _, _⟩ := hpv
          clear hl ho HC HT8
          have HI9 := Lib.hid (HI8.out.trans (hb9.mono HI8.out.size))
          clear hb9 HI8
          have m0 : w9.cell? ⟨G, 0, none⟩ = some (.string ⟨#[109, 107, 100, 105, 114]⟩) := (HK1.out.kept HI9.out).at rfl
          go_wp2_with fail
          go_roundw
          case rel => exact ⟨1, by omega, by go_num, HI9⟩
          case measure => simp [intOf]
        · have e0 : (code != 0) = true := bne_iff_ne.2 hc0
          clear hc0 HC
          go_wp2_with fail
          go_roundw
          case rel => exact ⟨1, by omega, by go_num, HI8⟩
          case measure => simp [intOf]
      · have y1 : wr.cell? ⟨G + 1 + 1 + 1 + 1, 1, none⟩ = some (.slice (some ⟨G + 1, 0, none⟩) 3 3) := e5.at rfl
        clear e5
        obtain ⟨c0, c1', c2, c3⟩ : wr.cell? ⟨W.heap.size, 0, none⟩ = some (.int .u8 n.kind.toNat) ∧ wr.cell? ⟨W.heap.size, 1, none⟩ = some (.string n.text) ∧ wr.cell? ⟨W.heap.size, 2, none⟩ = some (.slice p1 n.names.length c1) ∧ wr.cell? ⟨W.heap.size, 3, none⟩ = some (.slice q1 n.kids.length d1) := ⟨HXR.out.at rfl, HXR.out.at rfl, HXR.out.at rfl, HXR.out.at rfl⟩
        go_wp2_with fail
        refine (fnew_any HN.out (by omega) wr HBR.out).mono ?_
        rintro e w6 ⟨hnw, hb6⟩
        rw [if_pos HMAY.out] at hnw
        obtain ⟨b, x0, x1, x2, x3, rfl, hbb, ht, _⟩ := hnw
        have hb5 : w5.heap.size ≤ b := Nat.le_trans HI.out.size hbb
        have HT6 := Lib.hid ht
        have HI6 := Lib.hid (HI.out.trans (hb6.mono HI.out.size))
        clear hb6 ht hbb y1 c0 c1' c2 c3 HI HXR HBR
        go_wp2_with fail
        refine (wspot_any HT6.out HG.out.well (by omega) HG.out.kind t (by omega)).mono ?_
        rintro e w7 ⟨hq, hb7⟩
        obtain ⟨sl, ln, cp, kd, er, rfl⟩ := leads_shape hq
        clear hq
        have HI7 := Lib.hid (HI6.out.trans (hb7.mono HI6.out.size))
        have HT7 := Lib.hid (HT6.out.kept hb7)
        clear hb7 HT6 HI6
        go_wp2_with fail
        refine (Run_any HT7.out HG.out (Nat.le_refl _) (xs := [nTouch, dd, t]) ((HK2.out.kept HI7.out).pl (l := [nTouch, dd, t]) (show 3 ≤ maxLen by decide)) (show 3 ≤ 40 by decide) (three_small (of_decide_eq_true (by kernel_rfl)) (of_decide_eq_true (by kernel_rfl)) HT0.out)).mono ?_
        rintro e w8 ⟨code, err, is, nn, rfl, ha, ⟨z0, z1, z2, z3, ht⟩, hg⟩
        obtain ⟨rfl, hc⟩ := ans_touch HG.out.well HG.out.kind ha
        have HC := Lib.hid hc
        have HT8 := Lib.hid ht
        have HI8 := Lib.hid (Works12.below_turn HI7.out hg hb5)
        have HG2 := Lib.hid (ans_tree (xs := [nTouch, dd, t]) HG.out (show 3 ≤ 40 by decide) ha)
        clear ht hg hc ha HT7
        by_cases hc0 : code = 0
        · subst hc0
          go_wp2_with fail
          refine (wfind_any HT8.out HG2.out.well (by have := HG2.out.girth; omega) HG2.out.kind t (by omega)).mono ?_
          rintro e w9 ⟨⟨o, ho, hv⟩, hb9⟩
          obtain ⟨P, K, hl, hK⟩ := HC.out (by first | trivial | rfl)
          obtain rfl := leads_one hl ho
          have hK1 := beq_int K 0
          rw [beq_eq_false_iff_ne.2 hK, show ((0 : UInt8).toNat : Int) = 0 from rfl] at hK1
          have hK2 := ne_of hK1
          obtain ⟨pv, he, hpv⟩ := hv
          subst he
          obtain ⟨pp, cp2, rfl, _, _, _⟩ := hpv
          clear hl ho HC HT8
          have HI9 := Lib.hid (HI8.out.trans (hb9.mono HI8.out.size))
          clear hb9 HI8
          have m1 : w9.cell? ⟨G + 1, 0, none⟩ = some (.string ⟨#[116, 111, 117, 99, 104]⟩) := (HK2.out.kept HI9.out).at rfl
          go_wp2_with fail
          go_roundw
          case rel => exact ⟨2, by omega, by go_num, HI9⟩
          case measure => simp [intOf]
        · have e0 : (code != 0) = true := bne_iff_ne.2 hc0
          clear hc0 HC
          go_wp2_with fail
          go_roundw
          case rel => exact ⟨2, by omega, by go_num, HI8⟩
          case measure => simp [intOf]
      · have y2 : wr.cell? ⟨G + 1 + 1 + 1 + 1, 2, none⟩ = some (.slice (some ⟨G + 1 + 1, 0, none⟩) 3 3) := e5.at rfl
        clear e5
        obtain ⟨c0, c1', c2, c3⟩ : wr.cell? ⟨W.heap.size, 0, none⟩ = some (.int .u8 n.kind.toNat) ∧ wr.cell? ⟨W.heap.size, 1, none⟩ = some (.string n.text) ∧ wr.cell? ⟨W.heap.size, 2, none⟩ = some (.slice p1 n.names.length c1) ∧ wr.cell? ⟨W.heap.size, 3, none⟩ = some (.slice q1 n.kids.length d1) := ⟨HXR.out.at rfl, HXR.out.at rfl, HXR.out.at rfl, HXR.out.at rfl⟩
        go_wp2_with fail
        refine (fnew_any HN.out (by omega) wr HBR.out).mono ?_
        rintro e w6 ⟨hnw, hb6⟩
        rw [if_pos HMAY.out] at hnw
        obtain ⟨b, x0, x1, x2, x3, rfl, hbb, ht, _⟩ := hnw
        have hb5 : w5.heap.size ≤ b := Nat.le_trans HI.out.size hbb
        have HT6 := Lib.hid ht
        have HI6 := Lib.hid (HI.out.trans (hb6.mono HI.out.size))
        clear hb6 ht hbb y2 c0 c1' c2 c3 HI HXR HBR
        go_wp2_with fail
        refine (wspotO_any HT6.out HG.out.well (by omega) HG.out.kind t (by omega)).mono ?_
        rintro e w7 ⟨⟨o, ho, hv⟩, hb7⟩
        have HO : Hid (Leads n false t o) := Lib.hid ho
        clear ho
        cases o with
        | err e1 =>
          have hv' : e = .returned (.tuple #[.slice none 0 0, .int .u8 0, .int .i64 e1]) := hv
          subst hv'
          have HI7 := Lib.hid (HI6.out.trans (hb7.mono HI6.out.size))
          have HT7 := Lib.hid (HT6.out.kept hb7)
          clear hb7 HT6 HI6
          go_wp2_with fail
          refine (Run_any HT7.out HG.out (Nat.le_refl _) (xs := [nRmdir, dd, t]) ((HK3.out.kept HI7.out).pl (l := [nRmdir, dd, t]) (show 3 ≤ maxLen by decide)) (show 3 ≤ 40 by decide) (three_small (of_decide_eq_true (by kernel_rfl)) (of_decide_eq_true (by kernel_rfl)) HT0.out)).mono ?_
          rintro e w8 ⟨code, err, is, nn, rfl, ha, ⟨z0, z1, z2, z3, ht⟩, hg⟩
          obtain ⟨rfl, hc⟩ := ans_rmdir HG.out.well HG.out.kind ha
          have HC := Lib.hid hc
          have HT8 := Lib.hid ht
          have HI8 := Lib.hid (Works12.below_turn HI7.out hg hb5)
          have HG2 := Lib.hid (ans_tree (xs := [nRmdir, dd, t]) HG.out (show 3 ≤ 40 by decide) ha)
          clear ht hg hc ha HT7
          by_cases hc0 : code = 0
          · subst hc0
            obtain ⟨P, K, hl, _⟩ := HC.out (by first | trivial | rfl)
            exact absurd (leads_one HO.out hl) (by simp)
          · have e0 : (code != 0) = true := bne_iff_ne.2 hc0
            clear hc0 HC
            go_wp2_with fail
            go_roundw
            case rel => exact ⟨3, by omega, by go_num, HI8⟩
            case measure => simp [intOf]
        | ok P K =>
          obtain ⟨pv, he, hpv⟩ := hv
          subst he
          have HP7 := Lib.hid (own_plG hpv HT6.out.lt)
          obtain ⟨pp, cp, rfl, _, _, _⟩ := plR_of_own hpv
          clear hpv
          have HI7 := Lib.hid (HI6.out.trans (hb7.mono HI6.out.size))
          have HT7 := Lib.hid (HT6.out.kept hb7)
          clear hb7 HT6 HI6
          go_wp2_with fail
          refine (Run_any HT7.out HG.out (Nat.le_refl _) (xs := [nRmdir, dd, t]) ((HK3.out.kept HI7.out).pl (l := [nRmdir, dd, t]) (show 3 ≤ maxLen by decide)) (show 3 ≤ 40 by decide) (three_small (of_decide_eq_true (by kernel_rfl)) (of_decide_eq_true (by kernel_rfl)) HT0.out)).mono ?_
          rintro e w8 ⟨code, err, is, nn, rfl, ha, ⟨z0, z1, z2, z3, ht⟩, hg⟩
          obtain ⟨rfl, hc⟩ := ans_rmdir HG.out.well HG.out.kind ha
          have HC := Lib.hid hc
          have HT8 := Lib.hid ht
          have HI8 := Lib.hid (Works12.below_turn HI7.out hg hb5)
          have HG2 := Lib.hid (ans_tree (xs := [nRmdir, dd, t]) HG.out (show 3 ≤ 40 by decide) ha)
          have HP8 := Lib.hid (HP7.out.by hg)
          clear ht hg hc ha HT7
          by_cases hc0 : code = 0
          · subst hc0
            go_wp2_with fail
            refine (wfind_any HT8.out HG2.out.well (by have := HG2.out.girth; omega) HG2.out.kind t (by omega)).mono ?_
            rintro e w9 ⟨hq, hb9⟩
            obtain ⟨sl, ln, cp2, kd, er, rfl⟩ := leads_shape hq
            clear hq
            obtain ⟨P2, K2, hl, hz⟩ := HC.out (by first | trivial | rfl)
            cases leads_one HO.out hl
            have HI9 := Lib.hid (HI8.out.trans (hb9.mono HI8.out.size))
            have HT9 := Lib.hid (HT8.out.kept hb9)
            have HP9 := Lib.hid (HP8.out.now.grown hb9)
            clear hb9 HI8
            have m2 : w9.cell? ⟨G + 1 + 1, 0, none⟩ = some (.string ⟨#[114, 109, 100, 105, 114]⟩) := (HK3.out.kept HI9.out).at rfl
            have HKA : Hid (∀ wx, Below w9.heap.size w9 wx → PlR wx (.slice pp P.length cp) P → Calls Tryz.prog 15 #[.pointer (some ⟨b, 0, none⟩), .slice pp P.length cp] wx fun e w' => e = .returned (.int .u8 0) ∧ Below wx.heap.size wx w') := Lib.hid fun wx hb hp => (fkind_any (HT9.out.kept hb) HG2.out.well (by have := HG2.out.girth; omega) hp).mono fun e w' ⟨h1, h2⟩ => ⟨by rw [h1, show ((nn.at_ P).getD absent).kind = 0 from hz]; rfl, h2⟩
            clear hl hz
            go_wp2_with fail
            refine (HKA.out _ (Below.refl _ _) HP9.out).mono ?_
            rintro e wA ⟨rfl, hbA⟩
            have HIA := Lib.hid (HI9.out.trans (hbA.mono HI9.out.size))
            clear hbA
            go_wp2_with fail
            go_roundw
            case rel => exact ⟨3, by omega, by go_num, HIA⟩
            case measure => simp [intOf]
          · have e0 : (code != 0) = true := bne_iff_ne.2 hc0
            clear hc0 HC
            go_wp2_with fail
            go_roundw
            case rel => exact ⟨3, by omega, by go_num, HI8⟩
            case measure => simp [intOf]
      · have y3 : wr.cell? ⟨G + 1 + 1 + 1 + 1, 3, none⟩ = some (.slice (some ⟨G + 1 + 1 + 1, 0, none⟩) 4 4) := e5.at rfl
        clear e5
        obtain ⟨c0, c1', c2, c3⟩ : wr.cell? ⟨W.heap.size, 0, none⟩ = some (.int .u8 n.kind.toNat) ∧ wr.cell? ⟨W.heap.size, 1, none⟩ = some (.string n.text) ∧ wr.cell? ⟨W.heap.size, 2, none⟩ = some (.slice p1 n.names.length c1) ∧ wr.cell? ⟨W.heap.size, 3, none⟩ = some (.slice q1 n.kids.length d1) := ⟨HXR.out.at rfl, HXR.out.at rfl, HXR.out.at rfl, HXR.out.at rfl⟩
        go_wp2_with fail
        refine (fnew_any HN.out (by omega) wr HBR.out).mono ?_
        rintro e w6 ⟨hnw, hb6⟩
        rw [if_pos HMAY.out] at hnw
        obtain ⟨b, x0, x1, x2, x3, rfl, hbb, ht, _⟩ := hnw
        have hb5 : w5.heap.size ≤ b := Nat.le_trans HI.out.size hbb
        have HT6 := Lib.hid ht
        have HI6 := Lib.hid (HI.out.trans (hb6.mono HI.out.size))
        clear hb6 ht hbb y3 c0 c1' c2 c3 HI HXR HBR
        go_wp2_with fail
        refine (wspotO_any HT6.out HG.out.well (by omega) HG.out.kind t (by omega)).mono ?_
        rintro e w7 ⟨⟨o, ho, hv⟩, hb7⟩
        have HO : Hid (Leads n false t o) := Lib.hid ho
        clear ho
        cases o with
        | err e1 =>
          have hv' : e = .returned (.tuple #[.slice none 0 0, .int .u8 0, .int .i64 e1]) := hv
          subst hv'
          have HI7 := Lib.hid (HI6.out.trans (hb7.mono HI6.out.size))
          have HT7 := Lib.hid (HT6.out.kept hb7)
          clear hb7 HT6 HI6
          go_wp2_with fail
          refine (Run_any HT7.out HG.out (Nat.le_refl _) (xs := [nRm, oR, dd, t]) ((HK4.out.kept HI7.out).pl (l := [nRm, oR, dd, t]) (show 4 ≤ maxLen by decide)) (show 4 ≤ 40 by decide) (four_small (of_decide_eq_true (by kernel_rfl)) (of_decide_eq_true (by kernel_rfl)) (of_decide_eq_true (by kernel_rfl)) HT0.out)).mono ?_
          rintro e w8 ⟨code, err, is, nn, rfl, ha, ⟨z0, z1, z2, z3, ht⟩, hg⟩
          obtain ⟨rfl, hc⟩ := ans_rm HG.out.well HG.out.kind ha
          have HC := Lib.hid hc
          have HT8 := Lib.hid ht
          have HI8 := Lib.hid (Works12.below_turn HI7.out hg hb5)
          have HG2 := Lib.hid (ans_tree (xs := [nRm, oR, dd, t]) HG.out (show 4 ≤ 40 by decide) ha)
          clear ht hg hc ha HT7
          by_cases hc0 : code = 0
          · subst hc0
            obtain ⟨P, K, hl, _⟩ := HC.out (by first | trivial | rfl)
            exact absurd (leads_one HO.out hl) (by simp)
          · have e0 : (code != 0) = true := bne_iff_ne.2 hc0
            clear hc0 HC
            go_wp2_with fail
            go_roundw
            case rel => exact ⟨4, by omega, by go_num, HI8⟩
            case measure => simp [intOf]
        | ok P K =>
          obtain ⟨pv, he, hpv⟩ := hv
          subst he
          have HP7 := Lib.hid (own_plG hpv HT6.out.lt)
          obtain ⟨pp, cp, rfl, _, _, _⟩ := plR_of_own hpv
          clear hpv
          have HI7 := Lib.hid (HI6.out.trans (hb7.mono HI6.out.size))
          have HT7 := Lib.hid (HT6.out.kept hb7)
          clear hb7 HT6 HI6
          go_wp2_with fail
          refine (Run_any HT7.out HG.out (Nat.le_refl _) (xs := [nRm, oR, dd, t]) ((HK4.out.kept HI7.out).pl (l := [nRm, oR, dd, t]) (show 4 ≤ maxLen by decide)) (show 4 ≤ 40 by decide) (four_small (of_decide_eq_true (by kernel_rfl)) (of_decide_eq_true (by kernel_rfl)) (of_decide_eq_true (by kernel_rfl)) HT0.out)).mono ?_
          rintro e w8 ⟨code, err, is, nn, rfl, ha, ⟨z0, z1, z2, z3, ht⟩, hg⟩
          obtain ⟨rfl, hc⟩ := ans_rm HG.out.well HG.out.kind ha
          have HC := Lib.hid hc
          have HT8 := Lib.hid ht
          have HI8 := Lib.hid (Works12.below_turn HI7.out hg hb5)
          have HG2 := Lib.hid (ans_tree (xs := [nRm, oR, dd, t]) HG.out (show 4 ≤ 40 by decide) ha)
          have HP8 := Lib.hid (HP7.out.by hg)
          clear ht hg hc ha HT7
          by_cases hc0 : code = 0
          · subst hc0
            go_wp2_with fail
            refine (wfind_any HT8.out HG2.out.well (by have := HG2.out.girth; omega) HG2.out.kind t (by omega)).mono ?_
            rintro e w9 ⟨hq, hb9⟩
            obtain ⟨sl, ln, cp2, kd, er, rfl⟩ := leads_shape hq
            clear hq
            obtain ⟨P2, K2, hl, hz⟩ := HC.out (by first | trivial | rfl)
            cases leads_one HO.out hl
            have HI9 := Lib.hid (HI8.out.trans (hb9.mono HI8.out.size))
            have HT9 := Lib.hid (HT8.out.kept hb9)
            have HP9 := Lib.hid (HP8.out.now.grown hb9)
            clear hb9 HI8
            have m3 : w9.cell? ⟨G + 1 + 1 + 1, 0, none⟩ = some (.string ⟨#[114, 109]⟩) := (HK4.out.kept HI9.out).at rfl
            have HKA : Hid (∀ wx, Below w9.heap.size w9 wx → PlR wx (.slice pp P.length cp) P → Calls Tryz.prog 15 #[.pointer (some ⟨b, 0, none⟩), .slice pp P.length cp] wx fun e w' => e = .returned (.int .u8 0) ∧ Below wx.heap.size wx w') := Lib.hid fun wx hb hp => (fkind_any (HT9.out.kept hb) HG2.out.well (by have := HG2.out.girth; omega) hp).mono fun e w' ⟨h1, h2⟩ => ⟨by rw [h1, show ((nn.at_ P).getD absent).kind = 0 from hz]; rfl, h2⟩
            clear hl hz
            go_wp2_with fail
            refine (HKA.out _ (Below.refl _ _) HP9.out).mono ?_
            rintro e wA ⟨rfl, hbA⟩
            have HIA := Lib.hid (HI9.out.trans (hbA.mono HI9.out.size))
            clear hbA
            go_wp2_with fail
            go_roundw
            case rel => exact ⟨4, by omega, by go_num, HIA⟩
            case measure => simp [intOf]
          · have e0 : (code != 0) = true := bne_iff_ne.2 hc0
            clear hc0 HC
            go_wp2_with fail
            go_roundw
            case rel => exact ⟨4, by omega, by go_num, HI8⟩
            case measure => simp [intOf]
      · clear e5
        go_wp2_with fail
        go_ret
        exact ⟨rfl, HBR.out⟩
end Go.Proofs.YtmofodaecakkfaaGreat
