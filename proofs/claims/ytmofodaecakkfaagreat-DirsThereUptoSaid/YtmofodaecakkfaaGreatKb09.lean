/- Walks of package opts: the text of marks; lists copied. -/
import Derived.Test.YtmofodaecakkfaaGreatKb08
import Derived.Test.YtmofodaecakkfaaGreatKb01
import Derived.Test.YtmofodaecakkfaaGreatKb02
import Derived.Laws.BytesArg
import Derived.OwnWalk
namespace Go.Proofs.YtmofodaecakkfaaGreat
open Go.RowKit Ox Px

def nums (l : List UInt8) : List Value := l.map fun c => .int .u8 c.toNat
theorem getD_mem {l : List ByteArray} {k : Nat} (h : k < l.length) : l.getD k ByteArray.empty ∈ l := by
  rw [List.getD_eq_getElem?_getD, List.getElem?_eq_getElem h]
  exact List.getElem_mem h
theorem nums_snoc (l : List UInt8) (c : UInt8) : nums (l ++ [c]) = nums l ++ [.int .u8 c.toNat] := by simp [nums]
theorem conv_own {w : World} {B : Nat} {v : Value} {l : List UInt8} (h : w.ownsRow B 5 1 v l.length (nums l)) : (convert 74 9 v).run Tryz.prog w = .ok (.string ⟨l.toArray⟩) w := by
  rcases h.2 with ⟨rfl, h0⟩ | ⟨g, cap, cur, rfl, _, hg, hn, _, hc, ht⟩
  · obtain rfl : l = [] := List.eq_nil_of_length_eq_zero h0
    exact run_convert_bytes_nil w _ 5 Tryz.underlying74 Tryz.underlying5 0 0 _ Tryz.underlying9
  · rw [run_convert_bytes_arg w _ 5 Tryz.underlying74 Tryz.underlying5 g 0 l.length cap (l.map fun c => (c.toNat : Int)) (by simp) (fun i hi => ?_) _ Tryz.underlying9]
    · congr 2
      unfold strOfNums
      rw [List.map_map]
      congr 1
      rw [show ((fun n : Int => UInt8.ofNat n.toNat) ∘ fun c : UInt8 => (c.toNat : Int)) = id from by funext c; simp]
      simp
    · rw [cell_of_row w g (0 + i) cur _ _ hg, Nat.zero_add]
      have : (cur.toList.take (l.length * 1))[i]? = (nums l)[i]? := by rw [ht]
      rw [List.getElem?_take, if_pos (by omega)] at this
      rw [← Array.getElem?_toList, this]
      simp [nums, List.getD_eq_getElem?_getD, hi]

set_option maxRecDepth 100000 in
/-- (*marks).text: the bytes that are marked, rising. -/
theorem text_any (w : World) (b : Nat) (l : List UInt8) (hm : Arr w b l) :
    Calls Tryz.prog 68 #[.pointer (some ⟨b, 0, none⟩)] w fun e w' => e = .returned (.string (setD l)) ∧ Below w.heap.size w w' := by
  have mixed := Ox.mixed_ok
  obtain ⟨i0, hi, hz0, hz1, hz2⟩ := info_parts (P := Tryz.prog) (e := 5) (z := .int .u8 0) (size := 1) (bytes := 1) (by kernel_rfl)
  have HI := Lib.hid hi
  clear hi
  go_enter Tryz.func68, Tryz.ntmps68
  go_wp2_with fail
  go_loopw [3, 7] (fun v i wr => ∃ k : Nat, k ≤ 256 ∧ i = .int .i64 k ∧ Hid (wr.ownsRow w.heap.size 5 1 v (risen l k).length (nums (risen l k))) ∧ Hid (Below w.heap.size w wr)) (fun _ i _ => 256 - (intOf i).toNat)
  case atStart => exact ⟨0, Nat.zero_le _, rfl, Lib.hid (World.ownsRow_nil _ _ _ _), Lib.hid (Below.refl _ _)⟩
  case round =>
    obtain ⟨k, hk, rfl, HO, HB⟩ := hrel
    by_cases hlt : k < 256
    · obtain ⟨x, hx⟩ : ∃ x : UInt8, x.toNat = k := ⟨UInt8.ofNat k, by rw [UInt8.toNat_ofNat']; omega⟩
      have hxk : UInt8.ofNat k = x := by rw [← hx]; simp
      have c1 := (hm.grown HB.out).cell x
      obtain ⟨q, hq⟩ : ∃ q, l.contains x = q := ⟨_, rfl⟩
      rw [hq, hx] at c1
      have HS : Hid (risen l (k + 1) = risen l k ++ if q then [x] else []) := Lib.hid (by rw [risen_succ, hxk, hq])
      clear hq
      go_wp2_with fail
      go_region_o
      cases q with
      | true =>
        have hkn := HB.out.size
        have hln := risen_len l k
        go_wp2_with (at_builtin; refine wpList_append_block _ rfl (.tmp 14) (.tmp 17) 74 rfl w.heap.size 5 i0 _ 1 1 Tryz.underlying74 HI.out hz0 hz1 hz2 rfl (by decide) (by decide) _ _ _ rfl (HO.out.drew.alloc _) wr.drew.heap.size _ _ _ rfl (heap_alloc1 _ _) rfl rfl (by omega) (by simp; omega) ?_; intro v' w5 hown5 hgrow5; have HOWN5 := Lib.hid hown5; have HGR5 := Lib.hid hgrow5; clear hown5 hgrow5)
        go_roundw
        case rel =>
          refine ⟨k + 1, by omega, by go_num, Lib.hid ?_, Lib.hid ((HB.out.drew.alloc hkn _).grown HGR5.out (by simp; omega) fun j hj => (own_where HO.out hj).1)⟩
          have := HOWN5.out
          rw [HS.out, if_pos rfl, nums_snoc, List.length_append, hx]
          exact this
        case measure => simp [intOf]; omega
      | false =>
        go_wp2_with fail
        go_roundw
        case rel => exact ⟨k + 1, by omega, by go_num, Lib.hid (by rw [HS.out, if_neg (by decide), List.append_nil]; exact HO.out.drew), Lib.hid HB.out.drew⟩
        case measure => simp [intOf]; omega
    · obtain rfl : k = 256 := by omega
      have hcv := conv_own HO.out
      go_wp2_with fail
      go_ret
      exact ⟨rfl, HB.out⟩

/-- strings.Clone. -/
theorem cloneO_any (s : ByteArray) (w : World) (hs : s.size ≤ 281474976710656) :
    Calls Tryz.prog 33 #[.string s] w fun e w' => e = .returned (.string s) ∧ Below w.heap.size w w' := by
  go_enter Tryz.func33, Tryz.ntmps33
  go_wp2_with (go_at_call 57; refine (Tryz.stringslite_Clone s _ hs).mono ?_; rintro e w2 ⟨rfl, hb2⟩)
  go_ret
  exact ⟨rfl, hb2⟩

/-- A list's texts, k of them laid into a row. -/
def half (xs : List ByteArray) (k : Nat) : Array Value := ((xs.take k).map Value.string ++ List.replicate (xs.length - k) (Value.string ⟨#[]⟩)).toArray
def Half (w : World) (g : Nat) (xs : List ByteArray) (k : Nat) : Prop := w.heap[g]? = some (.cells (half xs k) 9 (0, 0))
theorem half_size {xs : List ByteArray} {k : Nat} (hk : k ≤ xs.length) : (half xs k).size = xs.length := by
  simp [half]
  omega
theorem half_set {xs : List ByteArray} {k : Nat} (hk : k < xs.length) : (half xs k).setIfInBounds k (.string (xs.getD k ByteArray.empty)) = half xs (k + 1) := by
  have hd : xs.length - k = (xs.length - (k + 1)) + 1 := by omega
  have hl : ((xs.take k).map Value.string).length = k := by simp; omega
  unfold half
  rw [hd, List.replicate_succ, List.setIfInBounds_toArray, List.set_append_right _ _ (by omega), hl, Nat.sub_self, List.set_cons_zero, take_snoc_d hk, List.map_append, List.append_assoc]
  rfl
theorem half_all (xs : List ByteArray) : half xs xs.length = (xs.map Value.string).toArray := by simp [half]
theorem Half.lt {w : World} {g : Nat} {xs : List ByteArray} {k : Nat} (h : Half w g xs k) : g < w.heap.size := (Array.getElem?_eq_some_iff.1 h).1
theorem Half.grown {w w' : World} {g : Nat} {xs : List ByteArray} {k : Nat} (h : Half w g xs k) (hb : Below w.heap.size w w') : Half w' g xs k := (hb.block g h.lt).trans h
theorem Half.set {w : World} {g : Nat} {xs : List ByteArray} {k : Nat} (h : Half w g xs k) (hk : k < xs.length) : Half (w.setCell ⟨g, k, none⟩ (.string (xs.getD k ByteArray.empty))) g xs (k + 1) := by
  have := heap_setCell_same w g k _ _ (.string (xs.getD k ByteArray.empty)) h
  rw [half_set hk] at this
  exact this
theorem Half.cell {w : World} {g : Nat} {xs : List ByteArray} {k : Nat} (h : Half w g xs k) (hk : k < xs.length) : ∃ u, w.cell? ⟨g, k, none⟩ = some u := by
  rw [cell_of_row w g k _ _ _ h]
  exact ⟨_, Array.getElem?_eq_getElem (by rw [half_size (by omega)]; exact hk)⟩
theorem Half.pl {w : World} {g : Nat} {xs : List ByteArray} (h : Half w g xs xs.length) (hl : xs.length ≤ 1000000) : PlR w (.slice (some ⟨g, 0, none⟩) xs.length xs.length) xs := by
  refine ⟨_, _, rfl, fun i hi => ⟨g, 0, rfl, ?_⟩, Nat.le_refl _, by unfold maxLen; omega⟩
  unfold Half at h
  rw [half_all] at h
  rw [cell_of_row w g (0 + i) _ _ _ h, Nat.zero_add]
  simp [hi, List.getD_eq_getElem?_getD]

set_option maxRecDepth 100000 in
/-- copyOf: the same texts in new memory. -/
theorem ocopyOf_any (w : World) (v : Value) (xs : List ByteArray) (hx : PlR w v xs) (hl : xs.length ≤ 1000000) (hs : ∀ x ∈ xs, x.size ≤ 1000000) :
    Calls Tryz.prog 69 #[v] w fun e w' => (e = .returned (.slice (some ⟨w.heap.size, 0, none⟩) xs.length xs.length) ∧ PlR w' (.slice (some ⟨w.heap.size, 0, none⟩) xs.length xs.length) xs) ∧ Below w.heap.size w w' := by
  obtain ⟨p, c, rfl, h1, h2, h3⟩ := hx
  have H1 := Lib.hid h1
  clear h1
  unfold maxLen at h3
  obtain ⟨i0, hi, hz0, hz1, hz2⟩ := info_parts (P := Tryz.prog) (e := 9) (z := .string ⟨#[]⟩) (size := 1) (bytes := 16) (by kernel_rfl)
  have HI := Lib.hid hi
  clear hi
  go_enter Tryz.func69, Tryz.ntmps69
  go_upto_region 1 with fail
  apply wp_region_lit
  refine wpList_plain rfl fun _ hK => ?_
  go_simp
  refine hK _ _ ?_
  clear hK
  refine wpList_plain rfl fun _ hK => ?_
  go_simp
  refine hK _ _ ?_
  clear hK
  refine wpList_make_full w rfl _ _ _ rfl w.heap.size 9 i0 _ 1 Tryz.underlying22 HI.out hz0 hz1 _ _ _ _ xs.length rfl rfl rfl rfl (by rw [hz2]; omega) (by unfold maxLen; omega) (Nat.le_refl _) ?_
  intro w1 hown hg
  have HG : Hid (Half w1 w.heap.size xs 0) := Lib.hid (by
    rcases hown.2 with ⟨h, _⟩ | ⟨g, cap, cur, h, _, hh, _, _, hc, ht⟩
    · cases h
    · obtain ⟨rfl, rfl⟩ : g = w.heap.size ∧ cap = xs.length := by simp at h; exact ⟨h.1.symm, h.2.symm⟩
      unfold Half half
      rw [hh, List.take_zero, List.map_nil, List.nil_append, Nat.sub_zero]
      rw [show (Value.string ⟨#[]⟩).cells = #[Value.string ⟨#[]⟩] from rfl, toList_madeCells_one, Nat.mul_one, List.take_of_length_le (by simp [hc])] at ht
      rw [← ht])
  have HB : Hid (Below w.heap.size w w1) := Lib.hid ((Below.refl _ _).grown hg (Nat.le_refl _) fun j hj => by cases hj)
  clear hown hg
  go_wp2_with fail
  go_loopw [11] (fun i wr => ∃ k : Nat, k ≤ xs.length ∧ i = .int .i64 k ∧ Hid (Half wr w.heap.size xs k) ∧ Hid (Below w.heap.size w wr)) (fun i _ => xs.length - (intOf i).toNat)
  case atStart => exact ⟨0, Nat.zero_le _, rfl, HG, HB⟩
  case round =>
    clear HG HB
    obtain ⟨k, hk, rfl, HG, HB⟩ := hrel
    by_cases hlt : k < xs.length
    · obtain ⟨b, o, rfl, hc⟩ := H1.out k hlt
      have hc1 := hc
      rw [← HB.out.cell (World.block_lt_of_cell? _ _ hc)] at hc1
      have hsx := hs (xs.getD k ByteArray.empty) (getD_mem hlt)
      have HSET := Lib.hid (fun (w' : World) (h : Half w' w.heap.size xs k) => h.set hlt)
      generalize xs.getD k ByteArray.empty = x at *
      go_wp2_with (go_at_call 33; refine (cloneO_any x _ (by omega)).mono ?_; rintro e w2 ⟨rfl, hb2⟩; have HG2 := Lib.hid (HG.out.grown hb2); obtain ⟨u, hu⟩ := HG2.out.cell hlt; have hf := frozen_of_row w2 w.heap.size k _ _ HG2.out; have HB2 := Lib.hid (HB.out.trans (hb2.mono HB.out.size)); clear hb2)
      go_roundw
      case rel => exact ⟨k + 1, by omega, by go_num, Lib.hid (HSET.out _ HG2.out), Lib.hid (HB2.out.setCell (Nat.le_refl _) _)⟩
      case measure => simp [intOf]; omega
    · obtain rfl : k = xs.length := by omega
      go_wp2_with fail
      go_ret
      exact ⟨⟨rfl, HG.out.pl hl⟩, HB.out⟩
end Go.Proofs.YtmofodaecakkfaaGreat
