/- The statement on rows of options: it holds for any letters and words. -/
import Derived.Test.YtlnnnlpofocgpaaOpJ
import Derived.Test.YtlnnnlpofocgpaaOpT
import Derived.Deep.RegionHeld3
import Derived.Laws.AppendOwnNone
namespace Go.Proofs.Ytlnnnlpofocgpaa
open Go.RowKit Ox Px

theorem wrap_u8' (z : UInt8) : wrap64 (z.toNat : Int) = (z.toNat : Int) := by
  have := UInt8.toNat_lt z
  unfold wrap64
  omega
theorem rem_nat (a b : Nat) : (a : Int).tmod (b : Int) = ((a % b : Nat) : Int) := by rw [Int.ofNat_tmod]
theorem app_front (z : UInt8) (l : List UInt8) : (⟨#[z]⟩ : ByteArray) ++ ⟨l.toArray⟩ = ⟨(z :: l).toArray⟩ := by
  have e : ((⟨#[z]⟩ : ByteArray) ++ ⟨l.toArray⟩).data = (z :: l).toArray := by
    rw [ByteArray.data_append]
    simp
  cases h : (⟨#[z]⟩ : ByteArray) ++ ⟨l.toArray⟩ with
  | mk d => rw [h] at e; exact congrArg _ e
theorem dash_one (z : UInt8) : (⟨#[45]⟩ : ByteArray) ++ ⟨#[z]⟩ = dash [z] := app_one [45] z
theorem ones_len (l : List UInt8) : (ones l).length = l.length := by simp [ones]
theorem ones_snoc (l : List UInt8) (z : UInt8) : ones (l ++ [z]) = ones l ++ [dash [z]] := by simp [ones]
theorem strings_all (l : List ByteArray) : (l.map Value.string).all (·.oneCell') = true := List.all_eq_true.2 (strings_one l)
theorem ones_sizes (l : List UInt8) : ∀ x ∈ ones l, x.size ≤ 1000 := by
  intro x hx
  obtain ⟨c, _, rfl⟩ := List.mem_map.1 hx
  rw [dash_size]
  simp
theorem rows_sizes {l r : List ByteArray} (hl : ∀ x ∈ l, x.size ≤ 1000) (hr : ∀ x ∈ r, x.size ≤ 5000) : ∀ x ∈ l ++ dd :: r, x.size ≤ 1000000 := by
  intro x hx
  rcases List.mem_append.1 hx with h | h
  · have := hl x h; omega
  · rcases List.mem_cons.1 h with rfl | h
    · decide
    · have := hr x h; omega
theorem alls_len (l : List UInt8) : (alls l).length ≤ 2 := by unfold alls; split <;> simp
theorem alls_sizes {l : List UInt8} (h : l.length ≤ 200) : ∀ x ∈ alls l, x.size ≤ 1000 := by
  intro x hx
  unfold alls at hx
  split at hx
  · cases hx
  · rcases List.mem_cons.1 hx with rfl | hx
    · rw [dash_size, List.length_reverse]; omega
    · obtain rfl := List.mem_singleton.1 hx
      rw [dash_size]; omega
theorem bytes_ne_self (s : ByteArray) : (s.toList != s.toList) = false := bne_self_eq_false _
theorem agains_len (s : ByteArray) : (agains s).length ≤ 1 := by unfold agains; split <;> simp
theorem agains_sizes {s : ByteArray} (h : s.size ≤ 256) : ∀ x ∈ agains s, x.size ≤ 1000 := by
  intro x hx
  unfold agains at hx
  split at hx
  · cases hx
  · obtain rfl := List.mem_singleton.1 hx
    rw [dash_size, ← Lib.size_eq]; omega
theorem strs_of {w : World} {p : Option Addr} {n c : Nat} {xs : List ByteArray} (h : PlR w (.slice p n c) xs) : Strs w p xs := by
  obtain ⟨p', c', he, h1, _, _⟩ := h
  obtain ⟨rfl, _, _⟩ : p = p' ∧ n = xs.length ∧ c = c' := by simpa using he
  exact h1
theorem dash_front (l : List UInt8) : (⟨#[45]⟩ : ByteArray) ++ ⟨l.toArray⟩ = dash l := app_front 45 l

set_option maxRecDepth 100000 in
set_option maxHeartbeats 8000000 in
theorem law_rows {W : World} {v : Value} {xs : List ByteArray} (hx : PlR W v xs) (known told : ByteArray) :
    Calls Try.prog 5 #[.string known, .string told, v] W fun e w' => e = .returned (.bool true) ∧ Below W.heap.size W w' := by
  have HP := Lib.hid hx
  clear hx
  obtain ⟨i0, hi, hz0, hz1, hz2⟩ := info_parts (P := Try.prog) (e := 9) (z := .string ⟨#[]⟩) (size := 1) (bytes := 16) (by kernel_rfl)
  have HI := Lib.hid hi
  clear hi
  go_enter Try.func5, Try.ntmps5
  go_wp2_with fail
  refine (works_any W).mono ?_
  rintro e w1 ⟨rfl, hb⟩
  have B1 := Lib.hid hb
  have P1 := Lib.hid (HP.out.grown hb)
  clear hb HP
  by_cases hk : 60 < known.size
  · skip
    go_wp2_with fail
    refine (works_any w1).mono ?_
    rintro e w2 ⟨rfl, hb⟩
    have B2 := Lib.hid (B1.out.trans (hb.mono B1.out.size))
    clear hb
    go_wp2_with fail
    go_ret
    exact ⟨rfl, B2.out⟩
  · by_cases ht : 200 < told.size
    · skip
      go_wp2_with fail
      refine (works_any w1).mono ?_
      rintro e w2 ⟨rfl, hb⟩
      have B2 := Lib.hid (B1.out.trans (hb.mono B1.out.size))
      clear hb
      go_wp2_with fail
      go_ret
      exact ⟨rfl, B2.out⟩
    · go_wp2_with fail
      refine (large_any w1 v xs P1.out).mono ?_
      rintro e w2 ⟨⟨b, rfl, hb⟩, he⟩
      subst he
      have HLB := Lib.hid hb
      clear hb
      cases b with
      | true =>
        go_wp2_with fail
        refine (works_any w2).mono ?_
        rintro e w3 ⟨rfl, hb⟩
        have B2 := Lib.hid (B1.out.trans (hb.mono B1.out.size))
        clear hb
        go_wp2_with fail
        go_ret
        exact ⟨rfl, B2.out⟩
      | false =>
        obtain ⟨hl, hsz⟩ := HLB.out rfl
        have HSZ := Lib.hid hsz
        clear hsz HLB
        obtain ⟨q, hq⟩ : ∃ q, known.data.toList.all isLetter = q := ⟨_, rfl⟩
        have HQ := Lib.hid hq
        have hp0 := rows_0 known.data.toList
        rw [hq] at hp0
        have HP0 := Lib.hid hp0
        clear hq hp0
        go_wp2_with fail
        have hc := parse_any w2 (.slice none 0 0) [] known 0 0 (nil_plr _) (by decide) (fun x hx => by cases hx) (by omega)
        refine hc.mono ?_
        clear hc
        rintro e w3 ⟨hr, hb⟩
        rw [HP0.out] at hr
        have B3 := Lib.hid (B1.out.trans (hb.mono B1.out.size))
        have P3 := Lib.hid (P1.out.grown hb)
        clear hb B1 P1
        cases q with
        | false =>
          obtain ⟨u, rfl, hu, _⟩ := hr
          obtain ⟨pu, cu, rfl, _, _, _⟩ := hu
          go_wp2_with fail
          go_ret
          exact ⟨rfl, B3.out.alloc B3.out.size _⟩
        | true =>
          obtain ⟨u, rfl, hu, _⟩ := hr
          obtain ⟨pu, cu, rfl, _, _, _⟩ := hu
          go_upto_block 0 with fail
          have B4 := Lib.hid (B3.out.alloc B3.out.size (.cells #[.string (setD []), .slice pu ([] : List ByteArray).length cu] 25))
          have P4 := Lib.hid (P3.out.grown ((Below.refl _ _).alloc (Nat.le_refl _) (.cells #[.string (setD []), .slice pu ([] : List ByteArray).length cu] 25)))
          generalize w3.alloc (.cells #[.string (setD []), .slice pu ([] : List ByteArray).length cu] 25) = w4 at *
          clear B3 P3 HP0
          go_cut [9] (fun lv wx => ∃ L : List UInt8, lv = .string ⟨L.toArray⟩ ∧ L.length ≤ 200 ∧ w4 = wx ∧ Hid (∀ c ∈ L, known.data.toList.contains c = true))
          case first =>
            go_wp2_with fail
            go_loopw [9, 10] (fun lv i wr => ∃ (k : Nat) (L : List UInt8), k ≤ told.size ∧ lv = .string ⟨L.toArray⟩ ∧ L.length ≤ k ∧ i = .int .i64 k ∧ w4 = wr ∧ Hid (∀ c ∈ L, known.data.toList.contains c = true)) (fun _ i _ => told.size - (intOf i).toNat)
            case atStart => exact ⟨0, [], Nat.zero_le _, rfl, Nat.le_refl _, rfl, rfl, Lib.hid (fun c hc => by cases hc)⟩
            case round =>
              obtain ⟨k, L, hk2, rfl, hll, rfl, rfl, HL⟩ := hrel
              by_cases hlt : k < told.size
              · by_cases hkn : 0 < known.size
                · obtain ⟨x, hx⟩ : ∃ x : UInt8, told[k]'hlt = x := ⟨_, rfl⟩
                  have hjl : x.toNat % known.size < known.size := Nat.mod_lt _ hkn
                  go_upto_region 10 with fail
                  apply wp_region_lit
                  iterate 6 (refine wpList_plain rfl fun _ hK => ?_; go_simp; refine hK _ _ ?_; clear hK)
                  obtain ⟨j, hj⟩ : ∃ j, x.toNat % known.size = j := ⟨_, rfl⟩
                  have hrem : (IntKind.i64.wrap (x.toNat : Int)).tmod (known.size : Int) = (j : Int) := by rw [Go.IntWalk.i64_in _ (by have := UInt8.toNat_lt x; omega), ← Int.ofNat_tmod, hj]
                  rw [hj] at hjl
                  refine wpList_plain rfl fun _ hK => wp_rem rfl rfl rfl (by omega) hrem (hK _ _ ?_)
                  clear hK hrem hj
                  obtain ⟨z, hz⟩ : ∃ z : UInt8, known[j]'hjl = z := ⟨_, rfl⟩
                  have HZ : Hid (known.data.toList.contains z = true) := Lib.hid (by
                    have h := Lib.data_getElem? known j hjl
                    rw [hz] at h
                    simpa using List.mem_of_getElem? h)
                  have hex := extract_two known j hjl
                  rw [hz] at hex
                  have hsz1 : (⟨L.toArray⟩ : ByteArray).size ≤ 2000000000 := by rw [Lib.size_eq]; show L.length ≤ _; omega
                  clear hx hz
                  go_wp2_with fail
                  go_roundw
                  case rel => exact ⟨k + 1, L ++ [z], by omega, by rw [app_one], by rw [List.length_append]; show L.length + 1 ≤ _; omega, by go_num, trivial, Lib.hid (fun c hc => (List.mem_append.1 hc).elim (HL.out c) fun h => by rw [List.mem_singleton.1 h]; exact HZ.out)⟩
                  case measure => simp [intOf]; omega
                · have hk0 : known.size = 0 := by omega
                  go_wp2_with fail
                  go_meet
                  case rel => exact ⟨L, rfl, by omega, rfl, HL⟩
              · go_wp2_with fail
                go_meet
                case rel => exact ⟨L, rfl, by omega, rfl, HL⟩
          case rest =>
            obtain ⟨L, rfl, hL, rfl, HL⟩ := hcut
            have hHn := B4.out.size
            obtain ⟨lt, hlt⟩ : ∃ lt : ByteArray, (⟨L.toArray⟩ : ByteArray) = lt := ⟨_, rfl⟩
            have HLT : Hid (lt.data.toList = L) := Lib.hid (by rw [← hlt])
            have hls : lt.size = L.length := by rw [Lib.size_eq, HLT.out]
            have hl2 : lt.size ≤ 200 := by omega
            rw [hlt]
            have HLTE := Lib.hid hlt
            clear hlt
            go_wp2_with fail
            have HLS := Lib.hid hls
            clear hls
            go_loopw [12, 13, 14] (fun ov bv i wr => ∃ k : Nat, k ≤ lt.size ∧ bv = .string ⟨((L.take k).reverse).toArray⟩ ∧ i = .int .i64 k ∧ Hid (wr.ownsRow w4.heap.size 9 1 ov (ones (L.take k)).length ((ones (L.take k)).map Value.string)) ∧ Hid (Below w4.heap.size w4 wr)) (fun _ _ i _ => lt.size - (intOf i).toNat)
            case atStart => exact ⟨0, Nat.zero_le _, rfl, rfl, Lib.hid (World.ownsRow_nil _ _ _ _), Lib.hid (Below.refl _ _)⟩
            case round =>
              obtain ⟨k, hk2, rfl, rfl, HO, HB⟩ := hrel
              by_cases hkl : k < lt.size
              · obtain ⟨z, hz⟩ : ∃ z : UInt8, lt[k]'hkl = z := ⟨_, rfl⟩
                have Hzl : Hid (L[k]? = some z) := Lib.hid (by rw [← HLT.out, ← hz]; exact Lib.data_getElem? lt k hkl)
                have hex := extract_two lt k hkl
                rw [hz] at hex
                clear hz
                have hrs : (⟨((L.take k).reverse).toArray⟩ : ByteArray).size ≤ 1000 := by rw [Lib.size_eq]; show ((L.take k).reverse).length ≤ _; rw [List.length_reverse, List.length_take]; omega
                have hol : (ones (L.take k)).length ≤ 1000 := by rw [ones_len, List.length_take]; omega
                have hHB := HB.out.size
                have HN : Hid ((L.take (k + 1)) = L.take k ++ [z]) := Lib.hid (take_snoc8 Hzl.out)
                have hd1 := dash_one z
                go_wp2_with (at_builtin; refine wpList_append_block _ rfl (.tmp 81) (.tmp 88) 23 rfl w4.heap.size 9 i0 _ 1 16 Try.underlying23 HI.out hz0 hz1 hz2 rfl (by decide) (by decide) _ _ _ rfl (HO.out.alloc _) wr.heap.size _ _ _ rfl (heap_alloc1 _ _) rfl rfl (by omega) (by simp <;> omega) ?_; intro v' w5 hown5 hgrow5; have HOWN5 := Lib.hid hown5; have HGR5 := Lib.hid hgrow5; clear hown5 hgrow5)
                go_roundw
                case rel => exact ⟨k + 1, by omega, by rw [HN.out, List.reverse_append, app_front]; rfl, by go_num, Lib.hid (by rw [HN.out, ones_snoc, List.length_append, List.map_append]; exact HOWN5.out), Lib.hid ((HB.out.alloc HB.out.size _).grown HGR5.out (by simp <;> omega) fun j hj => (own_where HO.out hj).1)⟩
                case measure => simp [intOf]; omega
              · have hke : k = lt.size := by omega
                have HO2 : Hid (wr.ownsRow w4.heap.size 9 1 u12 (ones L).length ((ones L).map Value.string)) := Lib.hid (by
                  have h := HO.out
                  rwa [hke, HLS.out, List.take_length] at h)
                have hbk : (L.take k).reverse = L.reverse := by rw [hke, HLS.out, List.take_length]
                rw [hbk]
                clear HO hbk
                have hrs : (⟨(L.reverse).toArray⟩ : ByteArray).size ≤ 1000 := by rw [Lib.size_eq]; show (L.reverse).length ≤ _; rw [List.length_reverse]; omega
                have HWS := HB.out.size
                obtain ⟨be, hbe⟩ : ∃ be, lt.toList.isEmpty = be := ⟨_, rfl⟩
                go_upto_if 98 with fail
                have HBE : Hid (be = L.isEmpty) := Lib.hid (by rw [← hbe, Lib.toList_data, HLT.out])
                clear hbe
                go_cut [15] (fun av wx => Hid (wx.ownsRow w4.heap.size 9 1 av (alls L).length ((alls L).map Value.string)) ∧ Hid (wx.ownsRow w4.heap.size 9 1 u12 (ones L).length ((ones L).map Value.string)) ∧ Hid (Below w4.heap.size w4 wx) ∧ Hid (∀ g, av.ownBlock = some g → u12.ownBlock ≠ some g))
                case first =>
                  cases be with
                  | true =>
                    have h0 : L = [] := by have h := HBE.out; cases L with
                      | nil => rfl
                      | cons _ _ => cases h
                    have HA0 : Hid (alls L = []) := Lib.hid (by unfold alls; rw [if_pos h0])
                    clear h0
                    go_wp2_with fail
                    go_meet
                    case rel => exact ⟨Lib.hid (by rw [HA0.out]; exact World.ownsRow_nil _ _ _ _), HO2, HB, Lib.hid (fun g h => by cases h)⟩
                  | false =>
                    have h0 : L ≠ [] := by rintro rfl; have h := HBE.out; cases h
                    have HA1 : Hid (alls L = [dash L.reverse, dash L]) := Lib.hid (by unfold alls; rw [if_neg h0])
                    have hd1 := dash_front L.reverse
                    have hd2 : (⟨#[45]⟩ : ByteArray) ++ lt = dash L := by rw [← HLTE.out]; exact dash_front L
                    clear h0
                    go_wp2_with fail
                    go_meet
                    case rel => exact ⟨Lib.hid (by rw [HA1.out]; exact ⟨rfl, .inr ⟨wr.heap.size, 2, _, rfl, HWS, heap_alloc_new wr _, Nat.le_refl _, by unfold maxLen; omega, rfl, rfl⟩⟩), Lib.hid (HO2.out.alloc _), Lib.hid (HB.out.alloc HB.out.size _), Lib.hid (fun g h h2 => by cases h; exact Nat.lt_irrefl _ (own_where HO2.out h2).2)⟩
                case rest =>
                  obtain ⟨HOA, HOO, HB5, HAP⟩ := hcut
                  clear HO2 HB HWS hrs
                  obtain ⟨p, c, rfl, hst, hlc, hcm⟩ := id P4.out
                  have HST := Lib.hid hst
                  clear hst
                  have HN5 := HB5.out.size
                  go_upto_region 22 with fail
                  apply wp_region_lit
                  refine wpList_plain rfl fun _ hK => ?_
                  go_simp
                  refine hK _ _ ?_
                  clear hK
                  refine wpList_plain rfl fun _ hK => ?_
                  go_simp
                  refine hK _ _ ?_
                  clear hK
                  refine wpList_append_strs _ rfl (.tmp 104) (.tmp 105) 23 rfl wc.heap.size 9 i0 (.string ⟨#[]⟩) Try.underlying23 HI.out hz0 hz1 hz2 rfl _ _ _ rfl (one_row wc wc.heap.size dd (Nat.le_refl _)) p c xs rfl (HST.out.grown (HB5.out.alloc HB5.out.size _)) (by omega) (by simp) ?_
                  intro vl w6 g3 g4 _
                  have HOL : Hid (w6.ownsRow wc.heap.size 9 1 vl (1 + xs.length) ((dd :: xs).map Value.string)) := Lib.hid g3
                  have HOA6 := Lib.hid (own_grown (HOA.out.alloc _) g4 (fun g h e => by cases e; exact Nat.lt_irrefl _ (own_where HOA.out h).2))
                  have HOO6 := Lib.hid (own_grown (HOO.out.alloc _) g4 (fun g h e => by cases e; exact Nat.lt_irrefl _ (own_where HOO.out h).2))
                  have HB6 := Lib.hid ((HB5.out.alloc HB5.out.size (.cells #[.string dd] 9)).grown g4 (by simp <;> omega) fun j hj => by cases hj; exact HN5)
                  have HW6 : Hid (wc.heap.size ≤ w6.heap.size) := Lib.hid (Nat.le_trans (by simp) g4.size)
                  have HLT2 : Hid (∀ g, vl.ownBlock = some g → wc.heap.size ≤ g) := Lib.hid fun g h => (own_where g3 h).1
                  have HLO : Hid (∀ g, u12.ownBlock = some g → g < wc.heap.size) := Lib.hid fun g h => (own_where HOO.out h).2
                  have HLA : Hid (∀ g, u15.ownBlock = some g → g < wc.heap.size) := Lib.hid fun g h => (own_where HOA.out h).2
                  obtain ⟨pl, dl, rfl⟩ := own_slice' g3
                  clear g3 g4 HOA HOO HB5
                  go_upto_region 23 with fail
                  apply wp_region_lit
                  refine wpList_plain rfl fun _ hK => ?_
                  go_simp
                  refine hK _ _ ?_
                  clear hK
                  refine wpList_plain rfl fun _ hK => ?_
                  go_simp
                  refine hK _ _ ?_
                  clear hK
                  refine wpList_plain rfl fun _ hK => ?_
                  go_simp
                  refine hK _ _ ?_
                  clear hK
                  refine wpList_append_row w6 rfl (.tmp 109) (.tmp 110) 23 rfl w4.heap.size 9 i0 (.string ⟨#[]⟩) 1 16 Try.underlying23 HI.out hz0 hz1 hz2 rfl (by decide) (by decide) _ _ _ rfl HOO6.out wc.heap.size _ _ _ rfl HOL.out (strings_all _) (by have := ones_len L; omega) (by have := HB6.out.size; omega) ?_
                  intro v7 w7 g3 g4 _
                  have P7 := Lib.hid (plR_of_own (xs := ones L ++ dd :: xs) (by
                    have h := g3
                    rw [← List.map_append, show (ones L).length + (1 + xs.length) = (ones L ++ dd :: xs).length from by rw [List.length_append, List.length_cons]; omega] at h
                    exact h))
                  have HOA7 := Lib.hid (own_grown HOA6.out g4 (fun g h e => HAP.out g h e))
                  have HOL7 := Lib.hid (own_grown HOL.out g4 (fun g h e => by have h1 := HLT2.out g h; have h2 := HLO.out g e; omega))
                  have HB7 := Lib.hid (below_own HB6.out HOO6.out g4 rfl HB6.out.size)
                  have HW7 : wc.heap.size ≤ w7.heap.size := Nat.le_trans (HW6.out) g4.size
                  clear g3 g4 HOA6 HOO6 HOL HB6
                  refine wpList_plain rfl fun _ hK => ?_
                  go_simp
                  refine hK _ _ ?_
                  clear hK
                  refine wpList_plain rfl fun _ hK => ?_
                  go_simp
                  refine hK _ _ ?_
                  clear hK
                  refine wpList_plain rfl fun _ hK => ?_
                  go_simp
                  have hc := parse_any w7 v7 (ones L ++ dd :: xs) known 0 xs.length P7.out (by rw [List.length_append, ones_len, List.length_cons]; omega) (rows_sizes (ones_sizes L) HSZ.out) (by omega)
                  refine hc.mono ?_
                  clear hc
                  rintro e w8 ⟨hr, hb⟩
                  rw [rows_a HQ.out HL.out] at hr
                  obtain ⟨ua, rfl, hua, hub⟩ := hr
                  have UA8 := Lib.hid hua
                  have HUAB := Lib.hid hub
                  obtain ⟨pa, ca, rfl, _, _, _⟩ := hua
                  dsimp only
                  refine hK _ _ ?_
                  clear hK hub
                  have B78 := Lib.hid hb
                  clear hb
                  go_upto_region 24 with fail
                  have T9 := Lib.hid (Two.new w8 (.string (setD L)) (.slice pa xs.length ca))
                  have hb9 : Below w8.heap.size w8 (w8.alloc (.cells #[.string (setD L), .slice pa xs.length ca] 25)) := (Below.refl _ _).alloc (Nat.le_refl _) _
                  have B79 := Lib.hid (B78.out.trans (hb9.mono B78.out.size))
                  have UA9 := Lib.hid (UA8.out.grown hb9)
                  clear hb9
                  generalize w8.alloc (.cells #[.string (setD L), .slice pa xs.length ca] 25) = w9 at *
                  have HOA9 := Lib.hid (own_below HOA7.out B79.out)
                  have HOL9 := Lib.hid (own_below HOL7.out B79.out)
                  have HB9 := Lib.hid (HB7.out.trans (B79.out.mono HB7.out.size))
                  have HW9 : w7.heap.size ≤ w9.heap.size := B79.out.size
                  have HT9 : w7.heap.size ≤ w8.heap.size := B78.out.size
                  clear UA8 HOA7 HOL7 HB7 B79 B78
                  apply wp_region_lit
                  refine wpList_plain rfl fun _ hK => ?_
                  go_simp
                  refine hK _ _ ?_
                  clear hK
                  refine wpList_plain rfl fun _ hK => ?_
                  go_simp
                  refine hK _ _ ?_
                  clear hK
                  refine wpList_plain rfl fun _ hK => ?_
                  go_simp
                  refine hK _ _ ?_
                  clear hK
                  refine wpList_append_row w9 rfl (.tmp 119) (.tmp 120) 23 rfl w4.heap.size 9 i0 (.string ⟨#[]⟩) 1 16 Try.underlying23 HI.out hz0 hz1 hz2 rfl (by decide) (by decide) _ _ _ rfl HOA9.out wc.heap.size _ _ _ rfl HOL9.out (strings_all _) (by have := alls_len L; omega) (by have := HB9.out.size; omega) ?_
                  intro v10 w10 g3 g4 _
                  have P10 := Lib.hid (plR_of_own (xs := alls L ++ dd :: xs) (by
                    have h := g3
                    rw [← List.map_append, show (alls L).length + (1 + xs.length) = (alls L ++ dd :: xs).length from by rw [List.length_append, List.length_cons]; omega] at h
                    exact h))
                  have T10 := Lib.hid (show Two w10 w8.heap.size (.string (setD L)) (.slice pa xs.length ca) from (g4.block _ T9.out.lt (fun e => by have := HLA.out _ e.symm; omega)).trans T9.out)
                  have UA10 := Lib.hid (UA9.out.grownBy g4 (fun p n c h a ha e => by have h1 := HUAB.out p n c h a ha; have h2 := HLA.out _ e; omega))
                  have HB10 := Lib.hid (below_own HB9.out HOA9.out g4 rfl HB9.out.size)
                  clear g3 g4 HOA9 HOL9 HB9 T9 UA9
                  refine wpList_plain rfl fun _ hK => ?_
                  go_simp
                  refine hK _ _ ?_
                  clear hK
                  refine wpList_plain rfl fun _ hK => ?_
                  go_simp
                  refine hK _ _ ?_
                  clear hK
                  refine wpList_plain rfl fun _ hK => ?_
                  go_simp
                  have hc := parse_any w10 v10 (alls L ++ dd :: xs) known 0 xs.length P10.out (by rw [List.length_append, List.length_cons]; have := alls_len L; omega) (rows_sizes (alls_sizes (by omega)) HSZ.out) (by omega)
                  refine hc.mono ?_
                  clear hc
                  rintro e w11 ⟨hr, hb⟩
                  rw [rows_b HQ.out HL.out] at hr
                  obtain ⟨ub, rfl, hub, _⟩ := hr
                  have UB11 := Lib.hid hub
                  obtain ⟨pb, cb, rfl, _, _, _⟩ := hub
                  dsimp only
                  refine hK _ _ ?_
                  clear hK
                  have T11 := Lib.hid (T10.out.grown hb)
                  have UA11 := Lib.hid (UA10.out.grown hb)
                  have HB11 := Lib.hid (HB10.out.trans (hb.mono HB10.out.size))
                  clear hb T10 UA10 HB10
                  go_upto_region 25 with fail
                  have S12 := Lib.hid (Two.new w11 (.string (setD L)) (.slice pb xs.length cb))
                  have hb12 : Below w11.heap.size w11 (w11.alloc (.cells #[.string (setD L), .slice pb xs.length cb] 25)) := (Below.refl _ _).alloc (Nat.le_refl _) _
                  have T12 := Lib.hid (T11.out.grown hb12)
                  have UA12 := Lib.hid (UA11.out.grown hb12)
                  have UB12 := Lib.hid (UB11.out.grown hb12)
                  have HB12 := Lib.hid (HB11.out.trans (hb12.mono HB11.out.size))
                  clear hb12 T11 UA11 UB11 HB11
                  generalize w11.alloc (.cells #[.string (setD L), .slice pb xs.length cb] 25) = w12 at *
                  have P12 : Hid (PlR w12 (.slice p xs.length c) xs) := Lib.hid (P4.out.grown HB12.out)
                  obtain ⟨t0, t1⟩ := T12.out.cell
                  obtain ⟨s0, s1⟩ := S12.out.cell
                  have e2 := bytes_ne_self (setD L)
                  have HSA := Lib.hid (same_at (Below.refl _ _) UA12.out P12.out)
                  rw [sameL_self] at HSA
                  go_wp2_with fail
                  refine HSA.out.mono ?_
                  rintro e w13 ⟨rfl, hb⟩
                  have S13 := Lib.hid (S12.out.grown hb)
                  have UB13 := Lib.hid (UB12.out.grown hb)
                  have P13 := Lib.hid (P12.out.grown hb)
                  have HB13 := Lib.hid (HB12.out.trans (hb.mono HB12.out.size))
                  clear hb HSA t0 t1 s0 s1 T12 S12 UA12 UB12 P12 HB12
                  obtain ⟨s0, s1⟩ := S13.out.cell
                  have HSB := Lib.hid (same_at (Below.refl _ _) UB13.out P13.out)
                  rw [sameL_self] at HSB
                  go_wp2_with fail
                  refine HSB.out.mono ?_
                  rintro e w14 ⟨rfl, hb⟩
                  have P14 := Lib.hid (P13.out.grown hb)
                  have HB14 := Lib.hid (HB13.out.trans (hb.mono HB13.out.size))
                  clear hb HSB s0 s1 S13 UB13 P13 HB13 e2
                  go_wp2_with fail
                  have hc := parse_any w14 (.slice p xs.length c) xs known 0 xs.length P14.out (by omega) (fun x hx => by have := HSZ.out x hx; omega) (by omega)
                  refine hc.mono ?_
                  clear hc
                  rintro e w15 ⟨hr, hb⟩
                  obtain ⟨hcc, hag⟩ := rows_c HQ.out (ws := xs) rfl
                  obtain ⟨hol, hos, hS⟩ := parse_sub (kn := known.data.toList) (xs := xs) (least := 0) (most := xs.length)
                  generalize parseD known.data.toList xs 0 xs.length = r at *
                  obtain ⟨S, ops, cc⟩ := r
                  dsimp only at hcc hag hol hos hS
                  have HAG := Lib.hid hag
                  have HOS : Hid (∀ x ∈ ops, x.size ≤ 5000) := Lib.hid fun x hx => HSZ.out x (hos x hx)
                  have HSS := Lib.hid hS
                  clear hag hos hS
                  obtain ⟨uo, rfl, huo, hub⟩ := hr
                  dsimp only at huo
                  have UO15 := Lib.hid huo
                  have HUB := Lib.hid hub
                  obtain ⟨po, co, rfl, hso, hoc, hom⟩ := huo
                  clear hub hso
                  have HB15 := Lib.hid (HB14.out.trans (hb.mono HB14.out.size))
                  have HW15 : w14.heap.size ≤ w15.heap.size := hb.size
                  clear hb HB14 P14
                  rcases hcc with rfl | rfl
                  · go_wp2_with fail
                    go_ret
                    exact ⟨rfl, B4.out.trans ((HB15.out.alloc HB15.out.size _).mono B4.out.size)⟩
                  · go_upto_region 30 with fail
                    have T16 := Lib.hid (Two.new w15 (.string S) (.slice po ops.length co))
                    have hb16 : Below w15.heap.size w15 (w15.alloc (.cells #[.string S, .slice po ops.length co] 25)) := (Below.refl _ _).alloc (Nat.le_refl _) _
                    have UO16 := Lib.hid (UO15.out.grown hb16)
                    have HB16 := Lib.hid (HB15.out.trans (hb16.mono HB15.out.size))
                    clear hb16 UO15 HB15
                    generalize w15.alloc (.cells #[.string S, .slice po ops.length co] 25) = w16 at *
                    obtain ⟨t0, t1⟩ := T16.out.cell
                    obtain ⟨be, hbe⟩ : ∃ be, S.toList.isEmpty = be := ⟨_, rfl⟩
                    go_upto_if 168 with fail
                    have HBE : Hid (be = S.toList.isEmpty) := Lib.hid hbe.symm
                    clear hbe
                    go_cut [23] (fun av wx => Hid (wx.ownsRow w16.heap.size 9 1 av (agains S).length ((agains S).map Value.string)) ∧ Hid (Below w16.heap.size w16 wx))
                    case first =>
                      cases be with
                      | true =>
                        have HA0 : Hid (agains S = []) := Lib.hid (by
                          have h := HBE.out
                          rw [Lib.toList_data] at h
                          unfold agains
                          rw [if_pos (by rw [Lib.size_eq]; cases hd : S.data.toList with
                            | nil => rfl
                            | cons _ _ => rw [hd] at h; cases h)])
                        go_wp2_with fail
                        go_meet
                        case rel => exact ⟨Lib.hid (by rw [HA0.out]; exact World.ownsRow_nil _ _ _ _), Lib.hid (Below.refl _ _)⟩
                      | false =>
                        have HA1 : Hid (agains S = [dash S.data.toList]) := Lib.hid (by
                          have h := HBE.out
                          rw [Lib.toList_data] at h
                          unfold agains
                          rw [if_neg (by rw [Lib.size_eq]; intro e; rw [List.eq_nil_of_length_eq_zero e] at h; cases h)])
                        have hd2 : (⟨#[45]⟩ : ByteArray) ++ S = dash S.data.toList := dash_front S.data.toList
                        have hS2 := HSS.out
                        go_wp2_with fail
                        go_meet
                        case rel => exact ⟨Lib.hid (by rw [HA1.out]; exact one_row w16 w16.heap.size _ (Nat.le_refl _)), Lib.hid ((Below.refl _ _).alloc (Nat.le_refl _) _)⟩
                    case rest =>
                      obtain ⟨HOG, HBG⟩ := hcut
                      clear t0 t1
                      have T17 := Lib.hid (T16.out.grown HBG.out)
                      have UO17 := Lib.hid (UO16.out.grown HBG.out)
                      have HN17 := HBG.out.size
                      obtain ⟨t0, t1⟩ := T17.out.cell
                      go_upto_region 33 with fail
                      have HBD := Lib.hid (HBG.out.drew.alloc (by simpa using HN17) (.cells #[.string dd] 9))
                      refine wp_region_held_drew (S := (fun w' => Two w' w15.heap.size (.string S) (.slice po ops.length co))) (by kernel_rfl) T17.out (fun hHeld => ?_)
                      refine wpAnyH_take (i := 0) (oi := { dst := some 173, op := Op.move (Operand.tmp 23), type := 23, pos := "outright.go:75", after := #[], guard := none }) (v := ?_) rfl (by kernel_rfl) (by kernel_rfl) (by kernel_rfl) (fun _ _ _ h => h) (Or.inl ⟨by rfl, ?_⟩) (by assumption) ?_
                      rotate_left
                      · (intro w hSw; (try dsimp only at hSw); go_simp; try with_reducible rfl)
                      try simp only [Act.put, List.setIfInBounds_toArray, List.set_cons_zero, List.set_cons_succ]
                      refine wpAnyH_take (i := 3) (oi := { dst := some 176, op := Op.fieldAddr 25 (Operand.tmp 21) 1, type := 0, pos := "outright.go:75", after := #[], guard := none }) (v := ?_) rfl (by kernel_rfl) (by kernel_rfl) (by kernel_rfl) (fun _ _ _ h => h) (Or.inl ⟨by rfl, ?_⟩) (by assumption) ?_
                      rotate_left
                      · (intro w hSw; (try dsimp only at hSw); go_simp; try with_reducible rfl)
                      try simp only [Act.put, List.setIfInBounds_toArray, List.set_cons_zero, List.set_cons_succ]
                      refine wpAnyH_take (i := 4) (oi := { dst := some 177, op := Op.load 23 (Operand.tmp 176), type := 23, pos := "outright.go:75", after := #[{ on := 3, ground := Ground.data }], guard := none }) (v := .slice po ops.length co) rfl (by kernel_rfl) (by kernel_rfl) (by kernel_rfl) (fun _ _ _ h => h) (Or.inl ⟨by rfl, ?_⟩) (by assumption) ?_
                      skip
                      · (intro w hSw; obtain ⟨x0, x1⟩ := Two.cell hSw; go_simp)
                      try simp only [Act.put, List.setIfInBounds_toArray, List.set_cons_zero, List.set_cons_succ]
                      refine wpAnyH_ready (rs := [1]) (by kernel_rfl) (by simp) ?_
                      refine AllReadyH.cons (o := { dst := some 174, op := Op.buildSlice 23 1 #[(0, Operand.const (Value.string { data := #[45, 45] }))], type := 23, pos := "outright.go:75", after := #[], guard := none }) rfl (fun K hK => ?_) AllReadyH.nil
                      go_simp
                      refine hK.out _ _ (T16.out.grown HBD.out) (fun hHeld => ?_)
                      clear hK K
                      try simp only [Act.put, List.setIfInBounds_toArray, List.set_cons_zero, List.set_cons_succ]
                      refine wpAnyH_ready (rs := [2]) (by kernel_rfl) (by simp) ?_
                      refine AllReadyH.cons (o := { dst := some 175, op := Op.call { callee := Callee.builtin Builtin.append, args := #[Operand.tmp 173, Operand.tmp 174], argTypes := #[23, 23] }, type := 23, pos := "outright.go:75", after := #[{ on := 0, ground := Ground.data }, { on := 1, ground := Ground.data }], guard := none }) rfl (fun K hK => ?_) AllReadyH.nil
                      refine wp_append_own_at2 _ (.tmp 173) (.tmp 174) 23 rfl w16.heap.size 9 i0 (.string ⟨#[]⟩) 1 16 Try.underlying23 HI.out hz0 hz1 hz2 rfl (by decide) _ _ _ rfl (HOG.out.drew.alloc _) ⟨wc.drew.heap.size, 0, none⟩ 1 1 [.string dd] rfl rfl (cell_one_new _ _ _) (by simp [Value.oneCell']) (by have := agains_len S; unfold maxLen; omega) (by have := agains_len S; omega) (by have := HN17; simp <;> omega) ?_
                      intro v18 w18 g3 g4 _
                      have HB18 := Lib.hid (HBD.out.grown g4 (by simpa using Nat.le_succ_of_le HN17) fun j hj => (own_where HOG.out hj).1)
                      have HO18 := Lib.hid g3
                      clear g3 g4
                      refine hK.out _ _ (T16.out.grown HB18.out) (fun hHeld => ?_)
                      clear hK K
                      try simp only [Act.put, List.setIfInBounds_toArray, List.set_cons_zero, List.set_cons_succ]
                      refine wpAnyH_ready (rs := [5]) (by kernel_rfl) (by simp) ?_
                      refine AllReadyH.cons (o := { dst := some 178, op := Op.call { callee := Callee.builtin Builtin.append, args := #[Operand.tmp 175, Operand.tmp 177], argTypes := #[23, 23] }, type := 23, pos := "outright.go:75", after := #[{ on := 2, ground := Ground.data }, { on := 4, ground := Ground.data }, { on := 2, ground := Ground.chain }], guard := none }) rfl (fun K hK => ?_) AllReadyH.nil
                      refine wp_append_strs2 _ (.tmp 175) (.tmp 177) 23 rfl w16.heap.size 9 i0 (.string ⟨#[]⟩) Try.underlying23 HI.out hz0 hz1 hz2 rfl _ _ _ rfl HO18.out po co ops rfl (strs_of (UO16.out.grown HB18.out)) (by have := agains_len S; omega) HB18.out.size ?_
                      intro v19 w19 g3 g4 _
                      have HB19 := Lib.hid (HB18.out.grown g4 HB18.out.size fun j hj => (own_where HO18.out hj).1)
                      have HO19 := Lib.hid g3
                      clear g3 g4 HO18
                      refine hK.out _ _ (T16.out.grown HB19.out) (fun hHeld => ?_)
                      clear hK K
                      try simp only [Act.put, List.setIfInBounds_toArray, List.set_cons_zero, List.set_cons_succ]
                      refine wpAnyH_take (i := 6) (oi := { dst := some 23, op := Op.assign (Operand.tmp 178), type := 23, pos := "outright.go:75", after := #[{ on := 5, ground := Ground.data }, { on := 5, ground := Ground.chain }, { on := 0, ground := Ground.phase }, { on := 1, ground := Ground.phase }, { on := 2, ground := Ground.phase }, { on := 3, ground := Ground.phase }, { on := 4, ground := Ground.phase }, { on := 5, ground := Ground.phase }], guard := none }) (v := ?_) rfl (by kernel_rfl) (by kernel_rfl) (by kernel_rfl) (fun _ _ _ h => h) (Or.inl ⟨by rfl, ?_⟩) (by assumption) ?_
                      rotate_left
                      · (intro w hSw; (try dsimp only at hSw); go_simp; try with_reducible rfl)
                      try simp only [Act.put, List.setIfInBounds_toArray, List.set_cons_zero, List.set_cons_succ]
                      refine wpAnyH_done (by kernel_rfl) ?_ _
                      have P19 := Lib.hid (plR_of_own (xs := agains S ++ dd :: ops) (by
                        have h := HO19.out
                        rw [List.append_assoc] at h
                        have e : ((agains S).map Value.string ++ ([Value.string dd] ++ ops.map Value.string)) = (agains S ++ dd :: ops).map Value.string := by simp
                        rw [e, show (agains S).length + 1 + ops.length = (agains S ++ dd :: ops).length from by rw [List.length_append, List.length_cons]; omega] at h
                        exact h))
                      have T19 := Lib.hid (T16.out.grown HB19.out)
                      have UO19 := Lib.hid (UO16.out.grown HB19.out)
                      clear T17 UO17 HBD HO19
                      obtain ⟨y0, y1⟩ := T19.out.cell
                      have hla := agains_len S
                      go_wp2_with fail
                      have hc := parse_any w19 v19 (agains S ++ dd :: ops) known ops.length ops.length P19.out (by rw [List.length_append, List.length_cons]; omega) (rows_sizes (agains_sizes HSS.out) HOS.out) (by omega)
                      refine hc.mono ?_
                      clear hc
                      rintro e w20 ⟨hr, hb⟩
                      rw [HAG.out (by trivial)] at hr
                      obtain ⟨up, rfl, hup, _⟩ := hr
                      dsimp only at hup
                      have UP20 := Lib.hid hup
                      obtain ⟨pp, cp, rfl, _, _, _⟩ := hup
                      have T20 := Lib.hid (T19.out.grown hb)
                      have UO20 := Lib.hid (UO19.out.grown hb)
                      have HB20 := Lib.hid (HB19.out.trans (hb.mono HB19.out.size))
                      clear hb y0 y1 T19 UO19 HB19 P19
                      go_upto_region 35 with fail
                      have S21 := Lib.hid (Two.new w20 (.string S) (.slice pp ops.length cp))
                      have hb21 : Below w20.heap.size w20 (w20.alloc (.cells #[.string S, .slice pp ops.length cp] 25)) := (Below.refl _ _).alloc (Nat.le_refl _) _
                      have T21 := Lib.hid (T20.out.grown hb21)
                      have UO21 := Lib.hid (UO20.out.grown hb21)
                      have UP21 := Lib.hid (UP20.out.grown hb21)
                      have HB21 := Lib.hid (HB20.out.trans (hb21.mono HB20.out.size))
                      clear hb21 T20 UO20 UP20 HB20
                      generalize w20.alloc (.cells #[.string S, .slice pp ops.length cp] 25) = w21 at *
                      obtain ⟨t0, t1⟩ := T21.out.cell
                      obtain ⟨s0, s1⟩ := S21.out.cell
                      have e1 := bytes_eq_self S
                      have HSC := Lib.hid (same_at (Below.refl _ _) UP21.out UO21.out)
                      rw [sameL_self] at HSC
                      go_wp2_with fail
                      refine HSC.out.mono ?_
                      rintro e w22 ⟨rfl, hb⟩
                      have HB22 := Lib.hid (HB21.out.trans (hb.mono HB21.out.size))
                      clear hb
                      go_wp2_with fail
                      go_ret
                      exact ⟨rfl, B4.out.trans ((HB16.out.trans (HB22.out.mono HB16.out.size)).mono B4.out.size)⟩
end Go.Proofs.Ytlnnnlpofocgpaa
