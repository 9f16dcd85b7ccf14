/- Walks of package opts: marks, made out of bytes. -/
import Derived.Test.YtmofodaecakkfaaGreatKb07
import Derived.Test.YtmofodaecakkfaaGreatKb01
import Derived.Deep.Cut
import Derived.Shelf.RegionOpenPlain
namespace Go.Proofs.YtmofodaecakkfaaGreat
open Go.RowKit Ox

theorem ox_info : (Tryz.prog.info? 95).map (fun i => (i.zero, i.size)) = some (some (.agg (Array.replicate 256 (.bool false))), 256) := by kernel_rfl
theorem ox_zero (w : World) : (zeroValue 95).run Tryz.prog w = .ok (.agg (Lib.setCells [])) w := (zero_of_info ox_info).1 w
theorem ox_size : (Tryz.prog.info? 95).map (·.size) = some 256 := (zero_of_info ox_info).2
theorem ox_sizeC (l : List UInt8) : (Tryz.prog.info? 95).map (·.size) = some (Lib.setCells l).size := by rw [Lib.setCells_size]; exact ox_size
theorem Ox.mixed_ok : Tryz.prog.follows .mixedOrders = true := by kernel_rfl
theorem ret_b {a b : Bool} (h : a = b) : Ending.returned (.bool a) = Ending.returned (.bool b) := by rw [h]
abbrev MK : TypeId := 95

set_option maxRecDepth 100000 in
theorem letters_any (w : World) : Calls Tryz.prog 66 #[] w fun e w' => e = .returned (.agg (Lib.setCells (lets 26))) ∧ Below w.heap.size w w' := by
  have hz := ox_zero
  go_enter Tryz.func66, Tryz.ntmps66
  go_wp2_with fail
  have HA : Hid (Arr ((w.alloc (.cells (Lib.setCells []) MK)).alloc (.cells (Lib.setCells []) MK)) w.heap.size []) := Lib.hid ((Arr.new w []).alloc _)
  have HM : Hid (Arr ((w.alloc (.cells (Lib.setCells []) MK)).alloc (.cells (Lib.setCells []) MK)) (w.heap.size + 1) (lets 0)) := Lib.hid (by have := Arr.new (w.alloc (.cells (Lib.setCells []) MK)) []; rw [show (w.alloc (.cells (Lib.setCells []) MK)).heap.size = w.heap.size + 1 from by simp] at this; exact this)
  have HB : Hid (Below w.heap.size w ((w.alloc (.cells (Lib.setCells []) MK)).alloc (.cells (Lib.setCells []) MK))) := Lib.hid (((Below.refl _ _).alloc (Nat.le_refl _) _).alloc (by simp) _)
  generalize (w.alloc (.cells (Lib.setCells []) MK)).alloc (.cells (Lib.setCells []) MK) = w1 at *
  clear hz
  go_loopw [3] (fun i wr => ∃ k : Nat, k ≤ 26 ∧ i = .int .i64 k ∧ Hid (Arr wr w.heap.size []) ∧ Hid (Arr wr (w.heap.size + 1) (lets k)) ∧ Hid (Below w.heap.size w wr)) (fun i _ => 26 - (intOf i).toNat)
  case atStart => exact ⟨0, Nat.zero_le _, rfl, HA, HM, HB⟩
  case round =>
    clear HA HM HB
    obtain ⟨k, hk, rfl, HA, HM, HB⟩ := hrel
    by_cases hlt : k < 26
    · obtain ⟨x, hx⟩ : ∃ x : UInt8, x.toNat = 97 + k := ⟨UInt8.ofNat (97 + k), by rw [UInt8.toNat_ofNat']; omega⟩
      obtain ⟨y, hy⟩ : ∃ y : UInt8, y.toNat = 65 + k := ⟨UInt8.ofNat (65 + k), by rw [UInt8.toNat_ofNat']; omega⟩
      have c1 := HM.out.cell x
      have c2 := HM.out.cell y
      have f1 := HM.out.thaw x.toNat
      have f2 := HM.out.thaw y.toNat
      rw [hx] at c1 f1
      rw [hy] at c2 f2
      have H2 : Hid (Arr ((wr.setCell ⟨w.heap.size + 1, 97 + k, none⟩ (.bool true)).setCell ⟨w.heap.size + 1, 65 + k, none⟩ (.bool true)) (w.heap.size + 1) (lets (k + 1))) := Lib.hid (by
        have := (HM.out.mark x).mark y
        rw [hx, hy, List.append_assoc] at this
        have e : lets (k + 1) = lets k ++ ([x] ++ [y]) := by
          rw [lets, ← hx, ← hy, UInt8.ofNat_toNat, UInt8.ofNat_toNat]
          rfl
        rw [e]
        exact this)
      go_wp2_with fail
      go_roundw
      case rel => exact ⟨k + 1, by omega, by go_num, Lib.hid ((HA.out.cell_ne _ (by simp) _).cell_ne _ (by simp) _), H2, Lib.hid ((HB.out.setCell (by simp) _).setCell (by simp) _)⟩
      case measure => simp [intOf]; omega
    · have h1 := ox_sizeC (lets k)
      obtain rfl : k = 26 := by omega
      go_upto_region 7 with fail
      apply wp_region_lit
      refine wpList_plain rfl fun _ hK => wp_load_arr rfl rfl HM.out Tryz.underlying95 h1 (hK _ _ ?_)
      clear hK
      refine wpList_plain rfl fun _ hK => wp_store_arr rfl rfl rfl HA.out h1 (by rw [Lib.setCells_size, Lib.setCells_size]) (Lib.setCells_one _) (hK _ _ ?_)
      clear hK
      go_wp2_with fail
      (try simp only [Exit.inBlock, Exit.then])
      refine bodyPost_ret (v := .agg (Lib.setCells (lets 26))) ?_ rfl ⟨rfl, below_setRow HB.out (Nat.le_refl _) _⟩
      exact results_cell_row rfl _ _ w.heap.size 95 _ (0, 0) _ rfl (HA.out.set _) Tryz.underlying95 rfl h1

set_option maxRecDepth 100000 in
/-- (*marks).add: text's bytes are marked, up to one that may not be. -/
theorem add_any (w : World) (b : Nat) (l km : List UInt8) (text : ByteArray) (hm : Arr w b l) (ht : text.size ≤ 1000000) :
    Calls Tryz.prog 91 #[.pointer (some ⟨b, 0, none⟩), .string text, .agg (Lib.setCells km)] w fun e w' =>
      e = .returned (.bool (text.data.toList.all km.contains)) ∧ (∃ r, Arr w' b r ∧ (text.data.toList.all km.contains = true → r = l ++ text.data.toList)) ∧ Bl b w w' := by
  have mixed := Ox.mixed_ok
  go_enter Tryz.func91, Tryz.ntmps91
  go_wp2_with fail
  have HM : Hid (Arr (w.alloc (.cells (Lib.setCells km) MK)) b (l ++ text.data.toList.take 0)) := Lib.hid (by rw [List.take_zero, List.append_nil]; exact hm.alloc _)
  have HA : Hid (Arr (w.alloc (.cells (Lib.setCells km) MK)) w.heap.size km) := Lib.hid (Arr.new w km)
  have HB : Hid (Bl b w (w.alloc (.cells (Lib.setCells km) MK))) := Lib.hid (Bl.of_below ((Below.refl _ _).alloc (Nat.le_refl _) _))
  have hne : b ≠ w.heap.size := Nat.ne_of_lt hm.lt
  generalize w.alloc (.cells (Lib.setCells km) MK) = w1 at *
  clear hm
  go_loopw [10] (fun i wr => ∃ k : Nat, k ≤ text.size ∧ i = .int .i64 k ∧ Hid (Arr wr b (l ++ text.data.toList.take k)) ∧ Hid (Arr wr w.heap.size km) ∧ Hid (Bl b w wr) ∧ Hid ((text.data.toList.take k).all km.contains = true)) (fun i _ => text.size - (intOf i).toNat)
  case atStart => exact ⟨0, Nat.zero_le _, rfl, HM, HA, HB, Lib.hid rfl⟩
  case round =>
    clear HA HM HB
    obtain ⟨k, hk, rfl, HM, HA, HB, HT⟩ := hrel
    by_cases hlt : k < text.size
    · obtain ⟨x, hx⟩ : ∃ x : UInt8, text[k]'hlt = x := ⟨_, rfl⟩
      have Hxl : Hid (text.data.toList[k]? = some x) := Lib.hid (by rw [← hx]; exact Lib.data_getElem? text k hlt)
      have hx256 : (x.toNat : Int) < 256 := by have := UInt8.toNat_lt x; omega
      have c1 := HA.out.cell x
      obtain ⟨q, hq⟩ : ∃ q, km.contains x = q := ⟨_, rfl⟩
      rw [hq] at c1
      have HQ := Lib.hid hq
      clear hq
      cases q with
      | true =>
        have c2 := HM.out.cell x
        have f2 := HM.out.thaw x.toNat
        go_wp2_with fail
        go_region_o
        go_wp2_with fail
        go_roundw
        case rel => exact ⟨k + 1, by omega, by go_num, Lib.hid (Arr.drew (by rw [take_snoc8 Hxl.out, ← List.append_assoc]; exact HM.out.mark x)), Lib.hid (Arr.drew (HA.out.cell_ne _ hne.symm _)), Lib.hid (Bl.drew (HB.out.setCell _ _)), Lib.hid (by rw [take_snoc8 Hxl.out, List.all_append, HT.out]; simpa using HQ.out)⟩
        case measure => simp [intOf]; omega
      | false =>
        have HF : Hid (text.data.toList.all km.contains = false) := Lib.hid (by
          rw [List.all_eq_false]
          exact ⟨x, List.mem_of_getElem? Hxl.out, by rw [HQ.out]; decide⟩)
        go_wp2_with fail
        go_ret
        exact ⟨ret_b HF.out.symm, ⟨_, HM.out, fun h => by rw [HF.out] at h; cases h⟩, HB.out⟩
    · obtain rfl : k = text.size := by omega
      have HV : Hid (text.data.toList.all km.contains = true) := Lib.hid (by have := HT.out; rwa [List.take_of_length_le (by rw [← Lib.size_eq]; exact Nat.le_refl _)] at this)
      go_wp2_with fail
      go_ret
      exact ⟨ret_b HV.out.symm, ⟨_, HM.out, fun _ => by rw [List.take_of_length_le (by rw [← Lib.size_eq]; exact Nat.le_refl _)]⟩, HB.out⟩

set_option maxRecDepth 100000 in
/-- marksOf: marks of a text's bytes, if all of them may be. -/
theorem marksOf_any (w : World) (km : List UInt8) (text : ByteArray) (ht : text.size ≤ 1000000) :
    Calls Tryz.prog 65 #[.string text, .agg (Lib.setCells km)] w fun e w' =>
      (∃ r, e = .returned (.tuple #[.agg (Lib.setCells r), .bool (text.data.toList.all km.contains)]) ∧ (text.data.toList.all km.contains = true → r = text.data.toList)) ∧ Below w.heap.size w w' := by
  have hz := ox_zero
  go_enter Tryz.func65, Tryz.ntmps65
  go_upto_region 2 with fail
  obtain ⟨w3, hw, h1, h2, h3, hb, hs⟩ := new3 w km [] []
  rw [← hw]
  have H1 := Lib.hid h1
  have H2 := Lib.hid h2
  have H3 := Lib.hid h3
  have HB := Lib.hid hb
  have hn := hs
  clear hw h1 h2 h3 hb hz hs
  have z1 := ox_sizeC km
  apply wp_region_lit
  refine wpList_plain rfl fun _ hK => ?_
  go_simp
  refine hK _ _ ?_
  clear hK
  refine wpList_plain rfl fun _ hK => wp_load_arr rfl rfl H1.out Tryz.underlying95 z1 (hK _ _ ?_)
  clear hK
  go_wp2_with fail
  refine (add_any w3 (w.heap.size + 1 + 1) [] km text H3.out ht).mono ?_
  rintro e w4 ⟨rfl, ⟨r, h3, hr⟩, hb4⟩
  have K2 := Lib.hid (H2.out.bl hb4 (by omega))
  have K3 := Lib.hid h3
  have KB := Lib.hid (HB.out.trans (hb4.below (B := w.heap.size) (by omega) (by omega)))
  have HR := Lib.hid hr
  clear h3 hr hb4 H1 H2 H3 HB
  have z2 := ox_sizeC r
  go_upto_region 3 with fail
  apply wp_region_lit
  refine wpList_plain rfl fun _ hK => wp_load_arr rfl rfl K3.out Tryz.underlying95 z2 (hK _ _ ?_)
  clear hK
  refine wpList_plain rfl fun _ hK => ?_
  go_simp
  refine hK _ _ ?_
  clear hK
  refine wpList_plain rfl fun _ hK => wp_store_arr rfl rfl rfl K2.out z2 (by rw [Lib.setCells_size, Lib.setCells_size]) (Lib.setCells_one _) (hK _ _ ?_)
  clear hK
  go_wp2_with fail
  (try simp only [Exit.inBlock, Exit.then])
  refine bodyPost_ret (v := .tuple #[.agg (Lib.setCells r), .bool (text.data.toList.all km.contains)]) ?_ rfl ⟨⟨r, rfl, fun h => by rw [HR.out h, List.nil_append]⟩, below_setRow KB.out (by omega) _⟩
  rw [results_cell_tmp rfl]
  have hl := run_loadVar_row (P := Tryz.prog) (w4.setRow (w.heap.size + 1) (Lib.setCells r)) (w.heap.size + 1) 95 95 _ _ _ (K2.out.set r) Tryz.underlying95 rfl z2
  simp [asAddr, Result.andThen, hl]
end Go.Proofs.YtmofodaecakkfaaGreat
