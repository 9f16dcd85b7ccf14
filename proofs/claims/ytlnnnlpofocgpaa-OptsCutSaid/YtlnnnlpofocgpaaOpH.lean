/- The statement on what is cut: it holds for any known letters, words and numbers. -/
import Derived.Test.YtlnnnlpofocgpaaOpG
namespace Go.Proofs.Ytlnnnlpofocgpaa
open Go.RowKit Ox Px

theorem parse_size (kn : List UInt8) (xs : List ByteArray) (least most : Int) : (parseD kn xs least most).1.size ≤ 256 := by
  have h : ∀ l, (setD l).size ≤ 256 := fun l => by rw [Lib.size_eq]; exact risen_len l 256
  unfold parseD
  split
  · exact Nat.zero_le _
  · split
    · exact Nat.zero_le _
    · split
      · exact Nat.zero_le _
      · exact h _
theorem wrap_u8 (z : UInt8) : wrap64 (z.toNat : Int) = (z.toNat : Int) := by
  have := UInt8.toNat_lt z
  unfold wrap64
  omega
theorem ne_self (c : Int) : (c != c) = false := bne_self_eq_false c
theorem bytes_ne_self (s : ByteArray) : (s.toList != s.toList) = false := bne_self_eq_false _

set_option maxRecDepth 100000 in
set_option maxHeartbeats 8000000 in
theorem law_cut {W : World} {v : Value} {xs : List ByteArray} (hx : PlR W v xs) (known : ByteArray) (least most : Int) :
    Calls Try.prog 4 #[.string known, v, .int .i64 least, .int .i64 most] W fun e w' => e = .returned (.bool true) ∧ Below W.heap.size W w' := by
  have HP := Lib.hid hx
  clear hx
  obtain ⟨i0, hi, hz0, hz1, hz2⟩ := info_parts (P := Try.prog) (e := 9) (z := .string ⟨#[]⟩) (size := 1) (bytes := 16) (by kernel_rfl)
  have HI := Lib.hid hi
  clear hi
  go_enter Try.func4, Try.ntmps4
  by_cases hk : 1000 < known.size
  · go_wp2_with fail
    go_ret
    exact ⟨rfl, Below.refl _ _⟩
  · go_wp2_with fail
    refine (large_any _ v xs HP.out).mono ?_
    rintro e w' ⟨⟨b, rfl, hb⟩, rfl⟩
    have HLB := Lib.hid hb
    clear hb
    cases b with
    | true =>
      go_wp2_with fail
      go_ret
      exact ⟨rfl, Below.refl _ _⟩
    | false =>
      obtain ⟨hl, hsz⟩ := HLB.out rfl
      have HSZ := Lib.hid hsz
      clear hsz HLB
      go_wp2_with fail
      refine (refParse_any w' v xs known least most HP.out (by omega) (fun x hx => by have := HSZ.out x hx; omega) (by omega)).mono ?_
      rintro e w1 ⟨hr, hb⟩
      have B1 := Lib.hid hb
      have P1 := Lib.hid (HP.out.grown hb)
      obtain ⟨r, hpd⟩ : ∃ r, parseD known.data.toList xs least most = r := ⟨_, rfl⟩
      rw [hpd] at hr
      have HPD := Lib.hid hpd
      clear hpd hb
      obtain ⟨S, ops, cc⟩ := r
      have HSS : Hid (S.size ≤ 256) := Lib.hid (by have h := parse_size known.data.toList xs least most; rw [HPD.out] at h; exact h)
      obtain ⟨u, rfl, hu, hub⟩ := hr
      have HU := Lib.hid hu
      have HUB := Lib.hid hub
      obtain ⟨pu, cu, rfl, _, _, _⟩ := hu
      clear hub
      obtain ⟨p, c, rfl, hst, hlc, hcm⟩ := id P1.out
      have HST := Lib.hid hst
      clear hst
      go_upto_region 4 with fail
      apply wp_region_lit
      refine wpList_plain rfl fun _ hK => ?_
      go_simp
      refine hK _ _ ?_
      clear hK
      refine wpList_plain rfl fun _ hK => ?_
      go_simp
      refine hK _ _ ?_
      clear hK
      refine wpList_append_strs _ rfl (.tmp 35) (.tmp 36) 23 rfl w1.heap.size 9 i0 (.string ⟨#[]⟩) Try.underlying23 HI.out hz0 hz1 hz2 rfl _ _ _ rfl (empty_row w1 w1.heap.size w1.heap.size rfl (Nat.le_refl _)) p c xs rfl (HST.out.grown ((Below.refl _ _).alloc (Nat.le_refl _) _)) (by omega) (by simp) ?_
      intro v7 w7 g3 g4 g5
      have HO7 : Hid (w7.ownsRow w1.heap.size 9 1 v7 xs.length (xs.map Value.string)) := Lib.hid (by simpa using g3)
      have B7 : Hid (Below w1.heap.size w1 w7) := Lib.hid (((Below.refl _ _).alloc (Nat.le_refl _) _).grown g4 (by simp) fun j hj => by
        have : some w1.heap.size = some j := hj
        cases this
        exact Nat.le_refl _)
      have P7 := Lib.hid (plR_of_own HO7.out)
      have hob : ∃ g, v7.ownBlock = some g := g5.elim (fun h => ⟨_, h⟩) (fun h => ⟨_, h⟩)
      obtain ⟨g, hg⟩ := hob
      obtain ⟨cap, cur, rfl, hgB, hcell, hncap, hcsz⟩ : ∃ cap cur, v7 = .slice (some ⟨g, 0, none⟩) xs.length cap ∧ w1.heap.size ≤ g ∧ w7.heap[g]? = some (.cells cur 9 (0, 0)) ∧ xs.length ≤ cap ∧ cur.size = cap := by
        rcases HO7.out.2 with ⟨rfl, _⟩ | ⟨g', cap, cur, rfl, h1, h2, h3, _, h5, _⟩
        · cases hg
        · obtain rfl : g' = g := by simpa [Value.ownBlock] using hg
          exact ⟨cap, cur, rfl, h1, h2, h3, by omega⟩
      clear g3 g4 g5 hg
      have HCELL := Lib.hid hcell
      clear hcell
      have U7 := Lib.hid (HU.out.grown B7.out)
      have hgl : g < w7.heap.size := (Array.getElem?_eq_some_iff.1 HCELL.out).1
      go_wp2_with fail
      refine (parse_any w7 _ xs known least most P7.out (by omega) (fun x hx => by have := HSZ.out x hx; omega) (by omega)).mono ?_
      rintro e w8 ⟨hr, hb⟩
      rw [HPD.out] at hr
      obtain ⟨u2, rfl, hu2, hub2⟩ := hr
      have HV2 := Lib.hid hu2
      have HVB := Lib.hid hub2
      obtain ⟨pv, cv, rfl, _, _, _⟩ := hu2
      clear hub2
      have B8 := Lib.hid hb
      clear hb
      have U8 := Lib.hid (U7.out.grown B8.out)
      have C8 : Hid (w8.heap[g]? = some (.cells cur 9 (0, 0))) := Lib.hid ((B8.out.block g hgl).trans HCELL.out)
      go_wp2_with fail
      have T9 := Lib.hid (Two.new w8 (.string S) (.slice pv ops.length cv))
      have hw9 : Below w8.heap.size w8 (w8.alloc (.cells #[.string S, .slice pv ops.length cv] 25)) := (Below.refl _ _).alloc (Nat.le_refl _) _
      have B9 := Lib.hid hw9
      have hgl8 : g < w8.heap.size := Nat.lt_of_lt_of_le hgl B8.out.size
      have C9 : Hid ((w8.alloc (.cells #[.string S, .slice pv ops.length cv] 25)).heap[g]? = some (.cells cur 9 (0, 0))) := Lib.hid ((hw9.block g hgl8).trans C8.out)
      clear hw9
      generalize w8.alloc (.cells #[.string S, .slice pv ops.length cv] 25) = w9 at *
      have hg9 : g < w9.heap.size := Nat.lt_of_lt_of_le hgl8 B9.out.size
      have B19 := Lib.hid ((B7.out.trans (B8.out.mono (by have := B7.out.size; omega))).trans (B9.out.mono (by have := B7.out.size; have := B8.out.size; omega)))
      have V9 := Lib.hid (HV2.out.grown B9.out)
      clear C8 HCELL U7 U8 HV2
      go_loopw [15] (fun i wr => ∃ k : Nat, k ≤ xs.length ∧ i = .int .i64 k ∧ Hid (∃ cur2 : Array Value, wr.heap[g]? = some (.cells cur2 9 (0, 0)) ∧ cur2.size = cap) ∧ Hid (Bl g w9 wr)) (fun i _ => xs.length - (intOf i).toNat)
      case atStart => exact ⟨0, Nat.zero_le _, rfl, Lib.hid ⟨cur, C9.out, hcsz⟩, Lib.hid (Bl.refl _ _)⟩
      case round =>
        clear C9
        obtain ⟨k, hk2, rfl, HC, HBL⟩ := hrel
        by_cases hlt : k < xs.length
        · obtain ⟨cur2, hc2, hs2⟩ := HC.out
          obtain ⟨y, hy⟩ : ∃ y, wr.cell? ⟨g, k, none⟩ = some y := by
            rw [cell_of_row wr g k _ _ _ hc2]
            exact ⟨_, Array.getElem?_eq_getElem (by omega)⟩
          have hf := frozen_of_row wr g k _ _ hc2
          have HN : Hid (∃ cur3 : Array Value, (wr.setCell ⟨g, k, none⟩ (.string ⟨#[63]⟩)).heap[g]? = some (.cells cur3 9 (0, 0)) ∧ cur3.size = cap) := Lib.hid ⟨_, heap_setCell_same wr g k _ _ _ hc2, by rw [Array.size_setIfInBounds]; exact hs2⟩
          clear hc2 hs2 HC
          go_wp2_with fail
          go_roundw
          case rel => exact ⟨k + 1, by omega, by go_num, HN, Lib.hid (HBL.out.setCell _ _)⟩
          case measure => simp [intOf]; omega
        · obtain rfl : k = xs.length := by omega
          have T10 := Lib.hid ((show Two wr w8.heap.size (.string S) (.slice pv ops.length cv) from (HBL.out.block _ T9.out.lt (by omega)).trans T9.out))
          have V10 := Lib.hid (V9.out.bl HBL.out (fun p n c h a ha => by have := HVB.out p n c h a ha; omega))
          have BB := Lib.hid (B19.out.trans (HBL.out.below hgB (by have := B19.out.size; omega)))
          have U10 := Lib.hid (HU.out.grown BB.out)
          have BW := Lib.hid (B1.out.trans (BB.out.mono B1.out.size))
          clear HC HBL T9 V9 B19 HU
          obtain ⟨t0, t1⟩ := T10.out.cell
          have e1 := ne_self cc
          have e2 := bytes_ne_self S
          have HSA := Lib.hid (same_at (Below.refl _ _) V10.out U10.out)
          rw [show sameL ops ops = true from decide_eq_true rfl] at HSA
          go_wp2_with fail
          refine HSA.out.mono ?_
          rintro e w10 ⟨rfl, hb⟩
          clear HSA t0 t1
          have T11 := Lib.hid (T10.out.grown hb)
          have B11 := Lib.hid (BW.out.trans (hb.mono BW.out.size))
          clear hb T10 BW V10 U10 BB e1 e2
          go_wp2_with fail
          go_loopw [16] (fun c wr => ∃ j : Nat, j ≤ 256 ∧ c = .int .i64 j ∧ Hid (Two wr w8.heap.size (.string S) (.slice pv ops.length cv)) ∧ Hid (Below w'.heap.size w' wr)) (fun c _ => 256 - (intOf c).toNat)
          case atStart => exact ⟨0, Nat.zero_le _, rfl, T11, B11⟩
          case round =>
            clear T11 B11
            obtain ⟨j, hj, rfl, HT, HB⟩ := hrel
            by_cases hjt : j < 256
            · obtain ⟨y, hy⟩ : ∃ y : UInt8, y.toNat = j := ⟨UInt8.ofNat j, by rw [UInt8.toNat_ofNat']; omega⟩
              go_wp2_with fail
              go_loopw [17, 18] (fun bv i wr2 => ∃ k : Nat, k ≤ S.size ∧ bv = .bool ((S.data.toList.take k).contains y) ∧ i = .int .i64 k ∧ wr = wr2) (fun _ i _ => S.size - (intOf i).toNat)
              case atStart => exact ⟨0, Nat.zero_le _, rfl, rfl, rfl⟩
              case round =>
                obtain ⟨k, hk3, rfl, rfl, rfl⟩ := hrel
                by_cases hks : k < S.size
                · have hk256 : k < 256 := Nat.lt_of_lt_of_le hks HSS.out
                  obtain ⟨z, hz⟩ : ∃ z : UInt8, S[k]'hks = z := ⟨_, rfl⟩
                  have HWZ := Lib.hid (wrap_u8 z)
                  have Hzl : Hid (S.data.toList[k]? = some z) := Lib.hid (by rw [← hz]; exact Lib.data_getElem? S k hks)
                  obtain ⟨q, hq⟩ : ∃ q, (S.data.toList.take k).contains y = q := ⟨_, rfl⟩
                  rw [hq]
                  have HN : Hid ((S.data.toList.take (k + 1)).contains y = (q || (y == z))) := Lib.hid (by
                    rw [take_snoc8 Hzl.out, List.contains_eq_mem, ← hq, List.contains_eq_mem]
                    simp only [List.mem_append, List.mem_singleton, Bool.decide_or]
                    congr 1)
                  clear hq
                  cases q with
                  | true =>
                    rw [Bool.true_or] at HN
                    go_wp2_with fail
                    go_roundw
                    case rel => exact ⟨k + 1, by omega, by rw [HN.out], by go_num, trivial⟩
                    case measure => simp [intOf]; omega
                  | false =>
                    rw [Bool.false_or] at HN
                    by_cases hzy : y = z
                    · subst hzy
                      have he : (wrap64 (y.toNat : Int) == (j : Int)) = true := by rw [HWZ.out, hy]; exact beq_self_eq_true _
                      go_wp2_with fail
                      go_roundw
                      case rel => exact ⟨k + 1, by omega, by rw [HN.out]; simp, by go_num, trivial⟩
                      case measure => simp [intOf]; omega
                    · have he : (wrap64 (z.toNat : Int) == (j : Int)) = false := by rw [HWZ.out]; exact beq_eq_false_iff_ne.2 fun e => hzy (UInt8.toNat_inj.1 (by omega))
                      have HNE : Hid ((y == z) = false) := Lib.hid (beq_eq_false_iff_ne.2 hzy)
                      clear hzy
                      go_wp2_with fail
                      go_roundw
                      case rel => exact ⟨k + 1, by omega, by rw [HN.out, HNE.out], by go_num, trivial⟩
                      case measure => simp [intOf]; omega
                · obtain rfl : k = S.size := by omega
                  have hal : S.data.toList.take S.size = S.data.toList := List.take_of_length_le (by rw [← Lib.size_eq]; exact Nat.le_refl _)
                  rw [hal]
                  clear hal
                  have hcall := has_any wr S (.slice pv ops.length cv) y
                  rw [hy, idx_has] at hcall
                  generalize S.data.toList.contains y = q at *
                  have HCALL := Lib.hid hcall
                  clear hcall
                  obtain ⟨t0, t1⟩ := HT.out.cell
                  cases q with
                  | true =>
                    go_wp2_with fail
                    refine HCALL.out.mono ?_
                    rintro e w11 ⟨rfl, hb⟩
                    have HT2 := Lib.hid (HT.out.grown hb)
                    have HB2 := Lib.hid (HB.out.trans (hb.mono HB.out.size))
                    clear hb t0 t1 HT HB HCALL
                    go_wp2_with fail
                    go_roundw
                    case rel => exact ⟨j + 1, by omega, by go_num, HT2, HB2⟩
                    case measure => simp [intOf]; omega
                  | false =>
                    go_wp2_with fail
                    refine HCALL.out.mono ?_
                    rintro e w11 ⟨rfl, hb⟩
                    have HT2 := Lib.hid (HT.out.grown hb)
                    have HB2 := Lib.hid (HB.out.trans (hb.mono HB.out.size))
                    clear hb t0 t1 HT HB HCALL
                    go_wp2_with fail
                    go_roundw
                    case rel => exact ⟨j + 1, by omega, by go_num, HT2, HB2⟩
                    case measure => simp [intOf]; omega
            · obtain rfl : j = 256 := by omega
              go_wp2_with fail
              go_ret
              exact ⟨rfl, HB.out⟩
end Go.Proofs.Ytlnnnlpofocgpaa
