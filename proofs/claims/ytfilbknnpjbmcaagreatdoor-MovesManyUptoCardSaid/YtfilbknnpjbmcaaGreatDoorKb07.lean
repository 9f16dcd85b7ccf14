/- Walks of package opts: marks, made out of bytes. -/
import Derived.Test.YtfilbknnpjbmcaaGreatDoorKb06
import Derived.Test.YtfilbknnpjbmcaaGreatDoorKb01
import Derived.Deep.Cut
import Derived.Shelf.RegionOpenPlain
import Derived.Test.YtfilbknnpjbmcaaGreatDoorKb02
import Derived.Laws.BytesArg
import Derived.OwnWalk
namespace Go.Proofs.YtfilbknnpjbmcaaGreatDoor
open Go.RowKit Ox

theorem ox_info : (Tryz.prog.info? 135).map (fun i => (i.zero, i.size)) = some (some (.agg (Array.replicate 256 (.bool false))), 256) := by kernel_rfl
theorem ox_zero (w : World) : (zeroValue 135).run Tryz.prog w = .ok (.agg (Lib.setCells [])) w := (zero_of_info ox_info).1 w
theorem ox_size : (Tryz.prog.info? 135).map (·.size) = some 256 := (zero_of_info ox_info).2
theorem ox_sizeC (l : List UInt8) : (Tryz.prog.info? 135).map (·.size) = some (Lib.setCells l).size := by rw [Lib.setCells_size]; exact ox_size
theorem Ox.mixed_ok : Tryz.prog.follows .mixedOrders = true := by kernel_rfl
theorem ret_b {a b : Bool} (h : a = b) : Ending.returned (.bool a) = Ending.returned (.bool b) := by rw [h]
abbrev MK : TypeId := 135

set_option maxRecDepth 100000 in
theorem letters_any (w : World) : Calls Tryz.prog 88 #[] w fun e w' => e = .returned (.agg (Lib.setCells (lets 26))) ∧ Below w.heap.size w w' := by
 have hz := ox_zero
 go_enter Tryz.func88, Tryz.ntmps88
 go_wp2_with fail
 have HA : Hid (Arr ((w.alloc (.cells (Lib.setCells []) MK)).alloc (.cells (Lib.setCells []) MK)) w.heap.size []) := Lib.hid ((Arr.new w []).alloc _)
 have HM : Hid (Arr ((w.alloc (.cells (Lib.setCells []) MK)).alloc (.cells (Lib.setCells []) MK)) (w.heap.size + 1) (lets 0)) := Lib.hid (by have := Arr.new (w.alloc (.cells (Lib.setCells []) MK)) []; rw [show (w.alloc (.cells (Lib.setCells []) MK)).heap.size = w.heap.size + 1 from by simp] at this; exact this)
 have HB : Hid (Below w.heap.size w ((w.alloc (.cells (Lib.setCells []) MK)).alloc (.cells (Lib.setCells []) MK))) := Lib.hid (((Below.refl _ _).alloc (Nat.le_refl _) _).alloc (by simp) _)
 generalize (w.alloc (.cells (Lib.setCells []) MK)).alloc (.cells (Lib.setCells []) MK) = w1 at *
 clear hz
 go_loopw [3] (fun i wr => ∃ k : Nat, k ≤ 26 ∧ i = .int .i64 k ∧ Hid (Arr wr w.heap.size []) ∧ Hid (Arr wr (w.heap.size + 1) (lets k)) ∧ Hid (Below w.heap.size w wr)) (fun i _ => 26 - (intOf i).toNat)
 case atStart => exact ⟨0, Nat.zero_le _, rfl, HA, HM, HB⟩
 case round =>
  clear HA HM HB
  obtain ⟨k, hk, rfl, HA, HM, HB⟩ := hrel
  by_cases hlt : k < 26
  ·obtain ⟨x, hx⟩ : ∃ x : UInt8, x.toNat = 97 + k := ⟨UInt8.ofNat (97 + k), by rw [UInt8.toNat_ofNat']; omega⟩
   obtain ⟨y, hy⟩ : ∃ y : UInt8, y.toNat = 65 + k := ⟨UInt8.ofNat (65 + k), by rw [UInt8.toNat_ofNat']; omega⟩
   have c1 := HM.out.cell x
   have c2 := HM.out.cell y
   have f1 := HM.out.thaw x.toNat
   have f2 := HM.out.thaw y.toNat
   rw [hx] at c1 f1
   rw [hy] at c2 f2
   have H2 : Hid (Arr ((wr.setCell ⟨w.heap.size + 1, 97 + k, none⟩ (.bool true)).setCell ⟨w.heap.size + 1, 65 + k, none⟩ (.bool true)) (w.heap.size + 1) (lets (k + 1))) := Lib.hid (by
    have := (HM.out.mark x).mark y
    rw [hx, hy, List.append_assoc] at this
    have e : lets (k + 1) = lets k ++ ([x] ++ [y]) := by
     rw [lets, ← hx, ← hy, UInt8.ofNat_toNat, UInt8.ofNat_toNat]
     rfl
    rw [e]
    exact this)
   go_wp2_with fail
   go_roundw
   case rel => exact ⟨k + 1, by omega, by go_num, Lib.hid ((HA.out.cell_ne _ (by simp) _).cell_ne _ (by simp) _), H2, Lib.hid ((HB.out.setCell (by simp) _).setCell (by simp) _)⟩
   case measure => simp [intOf]; omega
  ·have h1 := ox_sizeC (lets k)
   obtain rfl : k = 26 := by omega
   go_upto_region 7 with fail
   apply wp_region_lit
   refine wpList_plain rfl fun _ hK => wp_load_arr rfl rfl HM.out Tryz.underlying135 h1 (hK _ _ ?_)
   clear hK
   refine wpList_plain rfl fun _ hK => wp_store_arr rfl rfl rfl HA.out h1 (by rw [Lib.setCells_size, Lib.setCells_size]) (Lib.setCells_one _) (hK _ _ ?_)
   clear hK
   go_wp2_with fail
   (try simp only [Exit.inBlock, Exit.then])
   refine bodyPost_ret (v := .agg (Lib.setCells (lets 26))) ?_ rfl ⟨rfl, below_setRow HB.out (Nat.le_refl _) _⟩
   exact results_cell_row rfl _ _ w.heap.size 135 _ (0, 0) _ rfl (HA.out.set _) Tryz.underlying135 rfl h1

set_option maxRecDepth 100000 in
theorem add_any (w : World) (b : Nat) (l km : List UInt8) (text : ByteArray) (hm : Arr w b l) (ht : text.size ≤ 1000000) :
  Calls Tryz.prog 118 #[.pointer (some ⟨b, 0, none⟩), .string text, .agg (Lib.setCells km)] w fun e w' =>
   e = .returned (.bool (text.data.toList.all km.contains)) ∧ (∃ r, Arr w' b r ∧ (text.data.toList.all km.contains = true → r = l ++ text.data.toList)) ∧ Bl b w w' := by
 have mixed := Ox.mixed_ok
 go_enter Tryz.func118, Tryz.ntmps118
 go_wp2_with fail
 have HM : Hid (Arr (w.alloc (.cells (Lib.setCells km) MK)) b (l ++ text.data.toList.take 0)) := Lib.hid (by rw [List.take_zero, List.append_nil]; exact hm.alloc _)
 have HA : Hid (Arr (w.alloc (.cells (Lib.setCells km) MK)) w.heap.size km) := Lib.hid (Arr.new w km)
 have HB : Hid (Bl b w (w.alloc (.cells (Lib.setCells km) MK))) := Lib.hid (Bl.of_below ((Below.refl _ _).alloc (Nat.le_refl _) _))
 have hne : b ≠ w.heap.size := Nat.ne_of_lt hm.lt
 generalize w.alloc (.cells (Lib.setCells km) MK) = w1 at *
 clear hm
 go_loopw [10] (fun i wr => ∃ k : Nat, k ≤ text.size ∧ i = .int .i64 k ∧ Hid (Arr wr b (l ++ text.data.toList.take k)) ∧ Hid (Arr wr w.heap.size km) ∧ Hid (Bl b w wr) ∧ Hid ((text.data.toList.take k).all km.contains = true)) (fun i _ => text.size - (intOf i).toNat)
 case atStart => exact ⟨0, Nat.zero_le _, rfl, HM, HA, HB, Lib.hid rfl⟩
 case round =>
  clear HA HM HB
  obtain ⟨k, hk, rfl, HM, HA, HB, HT⟩ := hrel
  by_cases hlt : k < text.size
  ·obtain ⟨x, hx⟩ : ∃ x : UInt8, text[k]'hlt = x := ⟨_, rfl⟩
   have Hxl : Hid (text.data.toList[k]? = some x) := Lib.hid (by rw [← hx]; exact Lib.data_getElem? text k hlt)
   have hx256 : (x.toNat : Int) < 256 := by have := UInt8.toNat_lt x; omega
   have c1 := HA.out.cell x
   obtain ⟨q, hq⟩ : ∃ q, km.contains x = q := ⟨_, rfl⟩
   rw [hq] at c1
   have HQ := Lib.hid hq
   clear hq
   cases q with
   | true =>
    have c2 := HM.out.cell x
    have f2 := HM.out.thaw x.toNat
    go_wp2_with fail
    go_region_o
    go_wp2_with fail
    go_roundw
    case rel => exact ⟨k + 1, by omega, by go_num, Lib.hid (Arr.drew (by rw [take_snoc8 Hxl.out, ← List.append_assoc]; exact HM.out.mark x)), Lib.hid (Arr.drew (HA.out.cell_ne _ hne.symm _)), Lib.hid (Bl.drew (HB.out.setCell _ _)), Lib.hid (by rw [take_snoc8 Hxl.out, List.all_append, HT.out]; simpa using HQ.out)⟩
    case measure => simp [intOf]; omega
   | false =>
    have HF : Hid (text.data.toList.all km.contains = false) := Lib.hid (by
     rw [List.all_eq_false]
     exact ⟨x, List.mem_of_getElem? Hxl.out, by rw [HQ.out]; decide⟩)
    go_wp2_with fail
    go_ret
    exact ⟨ret_b HF.out.symm, ⟨_, HM.out, fun h => by rw [HF.out] at h; cases h⟩, HB.out⟩
  ·obtain rfl : k = text.size := by omega
   have HV : Hid (text.data.toList.all km.contains = true) := Lib.hid (by have := HT.out; rwa [List.take_of_length_le (by rw [← Lib.size_eq]; exact Nat.le_refl _)] at this)
   go_wp2_with fail
   go_ret
   exact ⟨ret_b HV.out.symm, ⟨_, HM.out, fun _ => by rw [List.take_of_length_le (by rw [← Lib.size_eq]; exact Nat.le_refl _)]⟩, HB.out⟩

set_option maxRecDepth 100000 in
theorem marksOf_any (w : World) (km : List UInt8) (text : ByteArray) (ht : text.size ≤ 1000000) :
  Calls Tryz.prog 87 #[.string text, .agg (Lib.setCells km)] w fun e w' =>
   (∃ r, e = .returned (.tuple #[.agg (Lib.setCells r), .bool (text.data.toList.all km.contains)]) ∧ (text.data.toList.all km.contains = true → r = text.data.toList)) ∧ Below w.heap.size w w' := by
 have hz := ox_zero
 go_enter Tryz.func87, Tryz.ntmps87
 go_upto_region 2 with fail
 obtain ⟨w3, hw, h1, h2, h3, hb, hs⟩ := new3 w km [] []
 rw [← hw]
 have H1 := Lib.hid h1
 have H2 := Lib.hid h2
 have H3 := Lib.hid h3
 have HB := Lib.hid hb
 have hn := hs
 clear hw h1 h2 h3 hb hz hs
 have z1 := ox_sizeC km
 apply wp_region_lit
 refine wpList_plain rfl fun _ hK => ?_
 go_simp
 refine hK _ _ ?_
 clear hK
 refine wpList_plain rfl fun _ hK => wp_load_arr rfl rfl H1.out Tryz.underlying135 z1 (hK _ _ ?_)
 clear hK
 go_wp2_with fail
 refine (add_any w3 (w.heap.size + 1 + 1) [] km text H3.out ht).mono ?_
 rintro e w4 ⟨rfl, ⟨r, h3, hr⟩, hb4⟩
 have K2 := Lib.hid (H2.out.bl hb4 (by omega))
 have K3 := Lib.hid h3
 have KB := Lib.hid (HB.out.trans (hb4.below (B := w.heap.size) (by omega) (by omega)))
 have HR := Lib.hid hr
 clear h3 hr hb4 H1 H2 H3 HB
 have z2 := ox_sizeC r
 go_upto_region 3 with fail
 apply wp_region_lit
 refine wpList_plain rfl fun _ hK => wp_load_arr rfl rfl K3.out Tryz.underlying135 z2 (hK _ _ ?_)
 clear hK
 refine wpList_plain rfl fun _ hK => ?_
 go_simp
 refine hK _ _ ?_
 clear hK
 refine wpList_plain rfl fun _ hK => wp_store_arr rfl rfl rfl K2.out z2 (by rw [Lib.setCells_size, Lib.setCells_size]) (Lib.setCells_one _) (hK _ _ ?_)
 clear hK
 go_wp2_with fail
 (try simp only [Exit.inBlock, Exit.then])
 refine bodyPost_ret (v := .tuple #[.agg (Lib.setCells r), .bool (text.data.toList.all km.contains)]) ?_ rfl ⟨⟨r, rfl, fun h => by rw [HR.out h, List.nil_append]⟩, below_setRow KB.out (by omega) _⟩
 rw [results_cell_tmp rfl]
 have hl := run_loadVar_row (P := Tryz.prog) (w4.setRow (w.heap.size + 1) (Lib.setCells r)) (w.heap.size + 1) 135 135 _ _ _ (K2.out.set r) Tryz.underlying135 rfl z2
 simp [asAddr, Result.andThen, hl]
end Go.Proofs.YtfilbknnpjbmcaaGreatDoor
/- Walks of package opts: the text of marks; lists copied. -/
namespace Go.Proofs.YtfilbknnpjbmcaaGreatDoor
open Go.RowKit Ox Px

def nums (l : List UInt8) : List Value := l.map fun c => .int .u8 c.toNat
theorem getD_mem {l : List ByteArray} {k : Nat} (h : k < l.length) : l.getD k ByteArray.empty ∈ l := by
 rw [List.getD_eq_getElem?_getD, List.getElem?_eq_getElem h]
 exact List.getElem_mem h
theorem nums_snoc (l : List UInt8) (c : UInt8) : nums (l ++ [c]) = nums l ++ [.int .u8 c.toNat] := by simp [nums]
theorem conv_own {w : World} {B : Nat} {v : Value} {l : List UInt8} (h : w.ownsRow B 5 1 v l.length (nums l)) : (convert 77 9 v).run Tryz.prog w = .ok (.string ⟨l.toArray⟩) w := by
 rcases h.2 with ⟨rfl, h0⟩ | ⟨g, cap, cur, rfl, _, hg, hn, _, hc, ht⟩
 ·obtain rfl : l = [] := List.eq_nil_of_length_eq_zero h0
  exact run_convert_bytes_nil w _ 5 Tryz.underlying77 Tryz.underlying5 0 0 _ Tryz.underlying9
 ·rw [run_convert_bytes_arg w _ 5 Tryz.underlying77 Tryz.underlying5 g 0 l.length cap (l.map fun c => (c.toNat : Int)) (by simp) (fun i hi => ?_) _ Tryz.underlying9]
  ·congr 2
   unfold strOfNums
   rw [List.map_map]
   congr 1
   rw [show ((fun n : Int => UInt8.ofNat n.toNat) ∘ fun c : UInt8 => (c.toNat : Int)) = id from by funext c; simp]
   simp
  ·rw [cell_of_row w g (0 + i) cur _ _ hg, Nat.zero_add]
   have : (cur.toList.take (l.length * 1))[i]? = (nums l)[i]? := by rw [ht]
   rw [List.getElem?_take, if_pos (by omega)] at this
   rw [← Array.getElem?_toList, this]
   simp [nums, List.getD_eq_getElem?_getD, hi]

set_option maxRecDepth 100000 in
theorem text_any (w : World) (b : Nat) (l : List UInt8) (hm : Arr w b l) :
  Calls Tryz.prog 90 #[.pointer (some ⟨b, 0, none⟩)] w fun e w' => e = .returned (.string (setD l)) ∧ Below w.heap.size w w' := by
 have mixed := Ox.mixed_ok
 obtain ⟨i0, hi, hz0, hz1, hz2⟩ := info_parts (P := Tryz.prog) (e := 5) (z := .int .u8 0) (size := 1) (bytes := 1) (by kernel_rfl)
 have HI := Lib.hid hi
 clear hi
 go_enter Tryz.func90, Tryz.ntmps90
 go_wp2_with fail
 go_loopw [3, 7] (fun v i wr => ∃ k : Nat, k ≤ 256 ∧ i = .int .i64 k ∧ Hid (wr.ownsRow w.heap.size 5 1 v (risen l k).length (nums (risen l k))) ∧ Hid (Below w.heap.size w wr)) (fun _ i _ => 256 - (intOf i).toNat)
 case atStart => exact ⟨0, Nat.zero_le _, rfl, Lib.hid (World.ownsRow_nil _ _ _ _), Lib.hid (Below.refl _ _)⟩
 case round =>
  obtain ⟨k, hk, rfl, HO, HB⟩ := hrel
  by_cases hlt : k < 256
  ·obtain ⟨x, hx⟩ : ∃ x : UInt8, x.toNat = k := ⟨UInt8.ofNat k, by rw [UInt8.toNat_ofNat']; omega⟩
   have hxk : UInt8.ofNat k = x := by rw [← hx]; simp
   have c1 := (hm.grown HB.out).cell x
   obtain ⟨q, hq⟩ : ∃ q, l.contains x = q := ⟨_, rfl⟩
   rw [hq, hx] at c1
   have HS : Hid (risen l (k + 1) = risen l k ++ if q then [x] else []) := Lib.hid (by rw [risen_succ, hxk, hq])
   clear hq
   go_wp2_with fail
   go_region_o
   cases q with
   | true =>
    have hkn := HB.out.size
    have hln := risen_len l k
    go_wp2_with (at_builtin; refine wpList_append_block _ rfl (.tmp 14) (.tmp 17) 77 rfl w.heap.size 5 i0 _ 1 1 Tryz.underlying77 HI.out hz0 hz1 hz2 rfl (by decide) (by decide) _ _ _ rfl (HO.out.drew.alloc _) wr.drew.heap.size _ _ _ rfl (heap_alloc1 _ _) rfl rfl (by omega) (by simp; omega) ?_; intro v' w5 hown5 hgrow5; have HOWN5 := Lib.hid hown5; have HGR5 := Lib.hid hgrow5; clear hown5 hgrow5)
    go_roundw
    case rel =>
     refine ⟨k + 1, by omega, by go_num, Lib.hid ?_, Lib.hid ((HB.out.drew.alloc hkn _).grown HGR5.out (by simp; omega) fun j hj => (own_where HO.out hj).1)⟩
     have := HOWN5.out
     rw [HS.out, if_pos rfl, nums_snoc, List.length_append, hx]
     exact this
    case measure => simp [intOf]; omega
   | false =>
    go_wp2_with fail
    go_roundw
    case rel => exact ⟨k + 1, by omega, by go_num, Lib.hid (by rw [HS.out, if_neg (by decide), List.append_nil]; exact HO.out.drew), Lib.hid HB.out.drew⟩
    case measure => simp [intOf]; omega
  ·obtain rfl : k = 256 := by omega
   have hcv := conv_own HO.out
   go_wp2_with fail
   go_ret
   exact ⟨rfl, HB.out⟩

theorem cloneO_any (s : ByteArray) (w : World) (hs : s.size ≤ 281474976710656) :
  Calls Tryz.prog 40 #[.string s] w fun e w' => e = .returned (.string s) ∧ Below w.heap.size w w' := by
 go_enter Tryz.func40, Tryz.ntmps40
 go_wp2_with (go_at_call 69; refine (Tryz.stringslite_Clone s _ hs).mono ?_; rintro e w2 ⟨rfl, hb2⟩)
 go_ret
 exact ⟨rfl, hb2⟩

def half (xs : List ByteArray) (k : Nat) : Array Value := ((xs.take k).map Value.string ++ List.replicate (xs.length - k) (Value.string ⟨#[]⟩)).toArray
def Half (w : World) (g : Nat) (xs : List ByteArray) (k : Nat) : Prop := w.heap[g]? = some (.cells (half xs k) 9 (0, 0))
theorem half_size {xs : List ByteArray} {k : Nat} (hk : k ≤ xs.length) : (half xs k).size = xs.length := by
 simp [half]
 omega
theorem half_set {xs : List ByteArray} {k : Nat} (hk : k < xs.length) : (half xs k).setIfInBounds k (.string (xs.getD k ByteArray.empty)) = half xs (k + 1) := by
 have hd : xs.length - k = (xs.length - (k + 1)) + 1 := by omega
 have hl : ((xs.take k).map Value.string).length = k := by simp; omega
 unfold half
 rw [hd, List.replicate_succ, List.setIfInBounds_toArray, List.set_append_right _ _ (by omega), hl, Nat.sub_self, List.set_cons_zero, take_snoc_d hk, List.map_append, List.append_assoc]
 rfl
theorem half_all (xs : List ByteArray) : half xs xs.length = (xs.map Value.string).toArray := by simp [half]
theorem Half.lt {w : World} {g : Nat} {xs : List ByteArray} {k : Nat} (h : Half w g xs k) : g < w.heap.size := (Array.getElem?_eq_some_iff.1 h).1
theorem Half.grown {w w' : World} {g : Nat} {xs : List ByteArray} {k : Nat} (h : Half w g xs k) (hb : Below w.heap.size w w') : Half w' g xs k := (hb.block g h.lt).trans h
theorem Half.set {w : World} {g : Nat} {xs : List ByteArray} {k : Nat} (h : Half w g xs k) (hk : k < xs.length) : Half (w.setCell ⟨g, k, none⟩ (.string (xs.getD k ByteArray.empty))) g xs (k + 1) := by
 have := heap_setCell_same w g k _ _ (.string (xs.getD k ByteArray.empty)) h
 rw [half_set hk] at this
 exact this
theorem Half.cell {w : World} {g : Nat} {xs : List ByteArray} {k : Nat} (h : Half w g xs k) (hk : k < xs.length) : ∃ u, w.cell? ⟨g, k, none⟩ = some u := by
 rw [cell_of_row w g k _ _ _ h]
 exact ⟨_, Array.getElem?_eq_getElem (by rw [half_size (by omega)]; exact hk)⟩
theorem Half.pl {w : World} {g : Nat} {xs : List ByteArray} (h : Half w g xs xs.length) (hl : xs.length ≤ 1000000) : PlR w (.slice (some ⟨g, 0, none⟩) xs.length xs.length) xs := by
 refine ⟨_, _, rfl, fun i hi => ⟨g, 0, rfl, ?_⟩, Nat.le_refl _, by unfold maxLen; omega⟩
 unfold Half at h
 rw [half_all] at h
 rw [cell_of_row w g (0 + i) _ _ _ h, Nat.zero_add]
 simp [hi, List.getD_eq_getElem?_getD]

set_option maxRecDepth 100000 in
theorem ocopyOf_any (w : World) (v : Value) (xs : List ByteArray) (hx : PlR w v xs) (hl : xs.length ≤ 1000000) (hs : ∀ x ∈ xs, x.size ≤ 1000000) :
  Calls Tryz.prog 91 #[v] w fun e w' => (e = .returned (.slice (some ⟨w.heap.size, 0, none⟩) xs.length xs.length) ∧ PlR w' (.slice (some ⟨w.heap.size, 0, none⟩) xs.length xs.length) xs) ∧ Below w.heap.size w w' := by
 obtain ⟨p, c, rfl, h1, h2, h3⟩ := hx
 have H1 := Lib.hid h1
 clear h1
 unfold maxLen at h3
 obtain ⟨i0, hi, hz0, hz1, hz2⟩ := info_parts (P := Tryz.prog) (e := 9) (z := .string ⟨#[]⟩) (size := 1) (bytes := 16) (by kernel_rfl)
 have HI := Lib.hid hi
 clear hi
 go_enter Tryz.func91, Tryz.ntmps91
 go_upto_region 1 with fail
 apply wp_region_lit
 refine wpList_plain rfl fun _ hK => ?_
 go_simp
 refine hK _ _ ?_
 clear hK
 refine wpList_plain rfl fun _ hK => ?_
 go_simp
 refine hK _ _ ?_
 clear hK
 refine wpList_make_full w rfl _ _ _ rfl w.heap.size 9 i0 _ 1 Tryz.underlying22 HI.out hz0 hz1 _ _ _ _ xs.length rfl rfl rfl rfl (by rw [hz2]; omega) (by unfold maxLen; omega) (Nat.le_refl _) ?_
 intro w1 hown hg
 have HG : Hid (Half w1 w.heap.size xs 0) := Lib.hid (by
  rcases hown.2 with ⟨h, _⟩ | ⟨g, cap, cur, h, _, hh, _, _, hc, ht⟩
  ·cases h
  ·obtain ⟨rfl, rfl⟩ : g = w.heap.size ∧ cap = xs.length := by simp at h; exact ⟨h.1.symm, h.2.symm⟩
   unfold Half half
   rw [hh, List.take_zero, List.map_nil, List.nil_append, Nat.sub_zero]
   rw [show (Value.string ⟨#[]⟩).cells = #[Value.string ⟨#[]⟩] from rfl, toList_madeCells_one, Nat.mul_one, List.take_of_length_le (by simp [hc])] at ht
   rw [← ht])
 have HB : Hid (Below w.heap.size w w1) := Lib.hid ((Below.refl _ _).grown hg (Nat.le_refl _) fun j hj => by cases hj)
 clear hown hg
 go_wp2_with fail
 go_loopw [11] (fun i wr => ∃ k : Nat, k ≤ xs.length ∧ i = .int .i64 k ∧ Hid (Half wr w.heap.size xs k) ∧ Hid (Below w.heap.size w wr)) (fun i _ => xs.length - (intOf i).toNat)
 case atStart => exact ⟨0, Nat.zero_le _, rfl, HG, HB⟩
 case round =>
  clear HG HB
  obtain ⟨k, hk, rfl, HG, HB⟩ := hrel
  by_cases hlt : k < xs.length
  ·obtain ⟨b, o, rfl, hc⟩ := H1.out k hlt
   have hc1 := hc
   rw [← HB.out.cell (World.block_lt_of_cell? _ _ hc)] at hc1
   have hsx := hs (xs.getD k ByteArray.empty) (getD_mem hlt)
   have HSET := Lib.hid (fun (w' : World) (h : Half w' w.heap.size xs k) => h.set hlt)
   generalize xs.getD k ByteArray.empty = x at *
   go_wp2_with (go_at_call 40; refine (cloneO_any x _ (by omega)).mono ?_; rintro e w2 ⟨rfl, hb2⟩; have HG2 := Lib.hid (HG.out.grown hb2); obtain ⟨u, hu⟩ := HG2.out.cell hlt; have hf := frozen_of_row w2 w.heap.size k _ _ HG2.out; have HB2 := Lib.hid (HB.out.trans (hb2.mono HB.out.size)); clear hb2)
   go_roundw
   case rel => exact ⟨k + 1, by omega, by go_num, Lib.hid (HSET.out _ HG2.out), Lib.hid (HB2.out.setCell (Nat.le_refl _) _)⟩
   case measure => simp [intOf]; omega
  ·obtain rfl : k = xs.length := by omega
   go_wp2_with fail
   go_ret
   exact ⟨⟨rfl, HG.out.pl hl⟩, HB.out⟩
end Go.Proofs.YtfilbknnpjbmcaaGreatDoor
