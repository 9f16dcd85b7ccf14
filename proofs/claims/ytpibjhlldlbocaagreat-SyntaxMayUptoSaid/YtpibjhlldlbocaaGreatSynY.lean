/- Walks of the reference's word: is a word an assignment? -/
import Derived.Test.YtpibjhlldlbocaaGreatSynW
import Derived.Deep.Cut
import Derived.Deep.DeepCutAuto
namespace Go.Proofs.YtpibjhlldlbocaaGreat
open Go.RowKit Sx Go.Proofs

namespace Sx
theorem takeW_drop {l : List UInt8} {k : Nat} (h : k ≤ l.length) (hk : ∀ j, j < k → ∀ b, l[j]? = some b → noEq b = true) : l.takeWhile noEq = l.take k ++ (l.drop k).takeWhile noEq ∧ l.dropWhile noEq = (l.drop k).dropWhile noEq := by
  induction k generalizing l with
  | zero => simp
  | succ k ih =>
    cases l with
    | nil => simp at h
    | cons b l =>
      have hb : noEq b = true := hk 0 (by omega) b rfl
      obtain ⟨h1, h2⟩ := ih (l := l) (by simpa using h) (fun j hj c hc => hk (j + 1) (by omega) c (by simpa using hc))
      rw [List.takeWhile_cons, if_pos hb, List.take_succ_cons, List.drop_succ_cons, List.cons_append, h1, List.dropWhile_cons, if_pos hb, h2]
      exact ⟨rfl, rfl⟩
/-- No = at all. -/
theorem assigns_end {s : ByteArray} (hk : ∀ j, j < s.size → ∀ b, s.data.toList[j]? = some b → noEq b = true) : assigns s.data.toList = false := by
  have h := (takeW_drop (l := s.data.toList) (k := s.size) (by rw [← Lib.size_eq]; exact Nat.le_refl _) hk).2
  unfold assigns
  rw [h, List.drop_eq_nil_of_le (by rw [← Lib.size_eq]; exact Nat.le_refl _)]
  rfl
/-- An = at k, the first one. -/
theorem assigns_at {s : ByteArray} {k : Nat} (h : k < s.size) (hk : ∀ j, j < k → ∀ b, s.data.toList[j]? = some b → noEq b = true) (he : s[k] = 61) : assigns s.data.toList = isName (s.extract 0 k).data.toList := by
  obtain ⟨h1, h2⟩ := takeW_drop (l := s.data.toList) (k := k) (by rw [← Lib.size_eq]; omega) hk
  have hd : s.data.toList.drop k = 61 :: s.data.toList.drop (k + 1) := by
    rw [List.drop_eq_getElem_cons (by rw [← Lib.size_eq]; exact h)]
    have : s.data.toList[k]'(by rw [← Lib.size_eq]; exact h) = 61 := he
    rw [this]
  unfold assigns
  rw [h1, h2, hd]
  have e1 : (61 :: s.data.toList.drop (k + 1)).dropWhile noEq = 61 :: s.data.toList.drop (k + 1) := by rw [List.dropWhile_cons]; rfl
  have e2 : (61 :: s.data.toList.drop (k + 1)).takeWhile noEq = [] := by rw [List.takeWhile_cons]; rfl
  rw [e1, e2, List.append_nil]
  have e3 : (s.extract 0 k).data.toList = s.data.toList.take k := by
    rw [ByteArray.data_extract, Array.toList_extract, List.extract_eq_take_drop]
    simp
  rw [e3]
  rfl
end Sx

set_option maxRecDepth 100000 in
set_option maxHeartbeats 4000000 in
theorem assignRef_any {w : World} {cs : List Value} {x : Word} (hx : WordR w cs x) (hB : x.bulk ≤ 2000000) :
    Calls Tryz.prog 50 #[.agg cs.toArray] w fun e w' => (∃ s p n c a, e = .returned (.tuple #[s, .agg #[.slice p n c, .int .i64 a], .bool x.assigns])) ∧ Below w.heap.size w w' := by
  obtain ⟨p, c, rfl, h1, h2, h3⟩ := hx
  have HX := Lib.hid h3
  have hl : x.parts.length ≤ 2000000 := by
    have := sum_ge (f := Part.bulk) (fun p => Nat.succ_pos _) x.parts
    unfold Word.bulk at hB
    omega
  have HBULK : Hid (∀ (i : Nat) q, x.parts[i]? = some q → q.text.size ≤ 2000000) := Lib.hid fun i q hq => by
    have h : q.text.size + 1 ≤ (x.parts.map Part.bulk).sum := sum_at (f := Part.bulk) hq
    unfold Word.bulk at hB
    omega
  clear h3 h2 hB
  have hnc := h1
  clear h1
  obtain ⟨parts, at_⟩ := x
  dsimp only at *
  cases parts with
  | nil =>
    go_enter Tryz.func50, Tryz.ntmps50
    go_wp2_with fail
    go_returns
    exact ⟨⟨_, _, _, _, _, rfl⟩, by go_grown⟩
  | cons P r =>
    have hts := HBULK.out 0 P rfl
    obtain ⟨b, o, rfl, _, hr⟩ := HX.out 0 (by simp)
    have hr : w.rangeAt b (o + 0 * 3) (partCells P) := hr
    rw [show o + 0 * 3 = o by omega] at hr
    obtain ⟨e0, e1, e2⟩ := part_cells hr
    clear hr
    have hn0 : (((P :: r).length : Int) == 0) = false := beq_eq_false_iff_ne.2 (by simp only [List.length_cons]; omega)
    have hn1 : (0 : Int) < ((P :: r).length : Int) := by simp only [List.length_cons]; omega
    have hn2 : (1 : Int) ≤ ((P :: r).length : Int) := by simp only [List.length_cons]; omega
    have hn3 : ((P :: r).length : Int) ≤ (c : Int) := by omega
    have hn4 : (1 : Int) ≤ (c : Int) := by omega
    have HR0 : Hid (Word.assigns ⟨P :: r, at_⟩ = (!P.var && !P.quoted && Sx.assigns P.text.data.toList)) := Lib.hid rfl
    generalize hA : Word.assigns ⟨P :: r, at_⟩ = A at *
    clear hA
    generalize hN : (P :: r).length = n at *
    have HN := Lib.hid hN
    clear hN
    obtain ⟨var, text, quoted⟩ := P
    dsimp only at *
    have f0 : ((w.alloc (.cells #[.slice (some ⟨b, o, none⟩) n c, .int .i64 at_] 31)).alloc (.cells #[.slice none 0 0, .int .i64 0] 31)).cell? ⟨b, o, none⟩ = some (.bool var) := cell_kept (box2_self (Below.refl _ _)) e0
    have f1 : ((w.alloc (.cells #[.slice (some ⟨b, o, none⟩) n c, .int .i64 at_] 31)).alloc (.cells #[.slice none 0 0, .int .i64 0] 31)).cell? ⟨b, o + 1, none⟩ = some (.string text) := cell_kept (box2_self (Below.refl _ _)) e1
    have f2 : ((w.alloc (.cells #[.slice (some ⟨b, o, none⟩) n c, .int .i64 at_] 31)).alloc (.cells #[.slice none 0 0, .int .i64 0] 31)).cell? ⟨b, o + 2, none⟩ = some (.bool quoted) := cell_kept (box2_self (Below.refl _ _)) e2
    cases var with
    | true =>
      have hA0 : A = false := HR0.out
      subst hA0
      go_enter Tryz.func50, Tryz.ntmps50
      go_wp2_with fail
      go_returns
      exact ⟨⟨_, _, _, _, _, rfl⟩, by go_grown⟩
    | false =>
      cases quoted with
      | true =>
        have hA0 : A = false := HR0.out
        subst hA0
        go_enter Tryz.func50, Tryz.ntmps50
        go_wp2_with fail
        go_returns
        exact ⟨⟨_, _, _, _, _, rfl⟩, by go_grown⟩
      | false =>
        have HR1 : Hid (A = Sx.assigns text.data.toList) := HR0
        clear HR0
        go_enter Tryz.func50, Tryz.ntmps50
        go_wp2_with fail
        go_loop [6] (fun i => ∃ k : Nat, k ≤ text.size ∧ i = .int .i64 k ∧ Hid (∀ j, j < k → ∀ b, text.data.toList[j]? = some b → noEq b = true)) (fun i => text.size - (intOf i).toNat)
        case atStart => exact ⟨0, Nat.zero_le _, rfl, Lib.hid fun j hj => absurd hj (Nat.not_lt_zero _)⟩
        case round =>
          obtain ⟨k, hk, rfl, HK⟩ := hrel
          by_cases hlt : k < text.size
          · by_cases h61 : text[k] = 61
            · have hb : ((text[k].toNat : Int) != 61) = false := by rw [h61]; rfl
              have HA : Hid (A = isName (text.extract 0 k).data.toList) := Lib.hid (by rw [HR1.out]; exact assigns_at hlt HK.out h61)
              have HNM : Hid (∀ w, Calls Tryz.prog 66 #[.string (text.extract 0 k)] w fun e w' => e = .returned (.bool (isName (text.extract 0 k).data.toList)) ∧ w = w') := Lib.hid (nameRef_any _)
              have hkn : ((k : Int) == (text.size : Int)) = false := beq_eq_false_iff_ne.2 (by omega)
              have hk0 : (0 : Int) ≤ (k : Int) := by omega
              have hk1 : (k : Int) ≤ (text.size : Int) := by omega
              generalize isName (text.extract 0 k).data.toList = g at *
              cases g with
              | false =>
                have hA0 : A = false := HA.out
                subst hA0
                go_wp2_with (go_at_call 66; refine (HNM.out _).mono ?_; rintro e w' ⟨rfl, rfl⟩)
                go_returns
                exact ⟨⟨_, _, _, _, _, rfl⟩, by go_grown⟩
              | true =>
                have hA0 : A = true := HA.out
                subst hA0
                go_upto_if 60 with (first | (go_at_call 66; refine (HNM.out _).mono ?_; rintro e w' ⟨rfl, rfl⟩))
                have hw1 : IntKind.i64.wrap ((k : Int) + 1) = (k : Int) + 1 := wrap_small _ (by omega) (by omega)
                have hm0 : (0 : Int) ≤ (k : Int) + 1 := by omega
                have hm2 : (k : Int) + 1 ≤ (text.size : Int) := by omega
                obtain ⟨i0, hi0, hz0, hz1, hz2⟩ := info_parts info_part
                go_cut [7] (fun l wx => ∃ (m : Nat) (xs : List Value), m ≤ 1 ∧ Hid (wx.ownsRow (w.heap.size + 2) 33 3 l m xs) ∧ Hid (Below (w.heap.size + 2) ((w.alloc (.cells #[.slice (some ⟨b, o, none⟩) n c, .int .i64 at_] 31)).alloc (.cells #[.slice none 0 0, .int .i64 0] 31)) wx))
                case first =>
                  by_cases hmore : k + 1 < text.size
                  · have hm1 : (k : Int) + 1 < (text.size : Int) := by omega
                    go_wp2_with (first | (at_builtin; refine wpList_append_block _ rfl (.tmp 61) (.tmp 67) 29 rfl (w.heap.size + 2) 33 i0 _ 3 32 Tryz.underlying29 hi0 hz0 hz1 hz2 rfl (by decide) (by decide) (.slice none 0 0) 0 [] rfl (World.ownsRow_nil _ _ _ _) (w.heap.size + 2) _ _ _ rfl (by have := heap_alloc_new ((w.alloc (.cells #[.slice (some ⟨b, o, none⟩) n c, .int .i64 at_] 31)).alloc (.cells #[.slice none 0 0, .int .i64 0] 31)) (.cells #[.bool false, .string (text.extract (k + 1) text.size), .bool false] 33); simpa using this) rfl rfl (by decide) (by simp) ?_; intro v' w9 hown9 hgrow9))
                    go_meet
                    exact ⟨_, _, Nat.le_refl _, Lib.hid hown9, Lib.hid (((Below.refl (w.heap.size + 2) ((w.alloc (.cells #[.slice (some ⟨b, o, none⟩) n c, .int .i64 at_] 31)).alloc (.cells #[.slice none 0 0, .int .i64 0] 31))).alloc (by simp) _).grown hgrow9 (by simp) (fun _ hk => by simp [Value.ownBlock] at hk))⟩
                  · have hm1 : ¬ ((k : Int) + 1 < (text.size : Int)) := by omega
                    go_wp2_with fail
                    go_meet
                    exact ⟨0, [], Nat.zero_le _, Lib.hid (World.ownsRow_nil _ _ _ _), Lib.hid (Below.refl _ _)⟩
                case rest =>
                  obtain ⟨m, xs, hm, HO, HB⟩ := hcut
                  clear hm0 hm2 f0 f1 f2 HNM
                  have c0 : wc.cell? ⟨w.heap.size, 0, none⟩ = some (.slice (some ⟨b, o, none⟩) n c) := box2_fst HB.out 0 rfl
                  have HNr : Hid (n = r.length + 1) := Lib.hid (by have := HN.out; simp at this; omega)
                  have HNEWS : Hid (∀ j u, (pcells r)[j]? = some u → wc.cell? ((⟨b, o + 3, none⟩ : Addr).add j) = some u) := Lib.hid (by
                    intro j u hj
                    have hadd : (⟨b, o + 3, none⟩ : Addr).add j = ⟨b, o + 3 + j, none⟩ := by unfold Addr.add; split <;> simp_all
                    rw [hadd]
                    have hjl : j < r.length * 3 := by rw [← pcells_len]; exact (List.getElem?_eq_some_iff.1 hj).1
                    have hq : j / 3 < r.length := by omega
                    have hj' : (pcells r)[j / 3 * 3 + j % 3]? = some u := by rw [show j / 3 * 3 + j % 3 = j by omega]; exact hj
                    rw [pcells_get hq _ (by omega)] at hj'
                    obtain ⟨b', o', hbo, _, hr⟩ := HX.out (j / 3 + 1) (by have := HNr.out; omega)
                    simp only [Option.some.injEq, Addr.mk.injEq] at hbo
                    obtain ⟨rfl, rfl, _⟩ := hbo
                    have h2 : ((((⟨false, text, false⟩ :: r : List Part)[j / 3 + 1]?).map partCells).getD []) = partCells r[j / 3] := by rw [List.getElem?_cons_succ, List.getElem?_eq_getElem hq]; rfl
                    have hr : w.rangeAt b (o + (j / 3 + 1) * 3) (partCells r[j / 3]) := by rw [← h2]; exact hr
                    have := range_below (box2_self HB.out) hr (j % 3) u hj'
                    rw [show o + (j / 3 + 1) * 3 + j % 3 = o + 3 + j by omega] at this
                    exact this)
                  have HONE : Hid (∀ u ∈ pcells r, u.oneCell' = true) := Lib.hid (by
                    intro u hu
                    unfold pcells at hu
                    obtain ⟨p, _, hp⟩ := List.mem_flatMap.1 hu
                    exact part_one p u hp)
                  have hsz : w.heap.size + 2 ≤ wc.heap.size := by have := HB.out.size; simp at this; omega
                  by_cases hc1 : c = 1
                  · subst hc1
                    obtain rfl : n = 1 := by omega
                    obtain rfl : r = [] := List.eq_nil_of_length_eq_zero (by have := HNr.out; omega)
                    clear HNr
                    go_wp2_with (first | (at_builtin; refine wpList_append_own _ rfl (.tmp 69) (.tmp 72) 29 rfl (w.heap.size + 2) 33 i0 _ 3 32 Tryz.underlying29 hi0 hz0 hz1 hz2 rfl (by decide) _ _ _ rfl HO.out ⟨b, o, none⟩ _ _ [] rfl rfl (by intro j u hj; cases hj) (by intro u hu; cases hu) (by unfold maxLen; omega) (by omega) hsz ?_; intro v' w9 hown9 hgrow9 _; have HOWN := Lib.hid hown9; have HGROW := Lib.hid hgrow9; clear hown9 hgrow9))
                    have HB3 := Lib.hid (HB.out.grown HGROW.out hsz (fun _ hk => (own_where HO.out hk).1))
                    obtain ⟨pp, cc, rfl⟩ := Sx.own_slice HOWN.out
                    have c1 : w9.cell? ⟨w.heap.size, 1, none⟩ = some (.int .i64 at_) := box2_fst HB3.out 1 rfl
                    have q0 : w9.cell? ⟨w.heap.size + 1, 0, none⟩ = some (.slice none 0 0) := box2_snd HB3.out 0 rfl
                    have q1 : w9.cell? ⟨w.heap.size + 1, 1, none⟩ = some (.int .i64 0) := box2_snd HB3.out 1 rfl
                    have z0 := Sx.box2_frozen HB3.out 0
                    have z1 := Sx.box2_frozen HB3.out 1
                    generalize hLEN : m + 0 = len at *
                    obtain ⟨s0, s1, _⟩ := Sx.store2 (u0 := .slice pp len cc) (u1 := .int .i64 at_) (Sx.box2_heap HB3.out)
                    go_wp2_with fail
                    refine wp_region_any (by kernel_rfl) (show wpAny _ _ _ _ _ _ _ (World.drew _) from ?_)
                    refine wpAny_take (i := 0) (oi := { dst := some 74, op := Op.move (Operand.tmp 5), type := 9, pos := "ref.go:318", after := #[], guard := none }) (v := ?_) rfl (by kernel_rfl) (by kernel_rfl) (by kernel_rfl) (fun _ _ _ h => h) (Or.inl ⟨by rfl, ?_⟩) ?_
                    rotate_left
                    · (intro w; go_simp; try with_reducible rfl)
                    try simp only [Act.put, List.setIfInBounds_toArray, List.set_cons_zero, List.set_cons_succ]
                    refine wpAny_take (i := 1) (oi := { dst := some 75, op := Op.move (Operand.tmp 6), type := 3, pos := "ref.go:318", after := #[], guard := none }) (v := ?_) rfl (by kernel_rfl) (by kernel_rfl) (by kernel_rfl) (fun _ _ _ h => h) (Or.inl ⟨by rfl, ?_⟩) ?_
                    rotate_left
                    · (intro w; go_simp; try with_reducible rfl)
                    try simp only [Act.put, List.setIfInBounds_toArray, List.set_cons_zero, List.set_cons_succ]
                    refine wpAny_take (i := 2) (oi := { dst := some 76, op := Op.slice 9 (Operand.tmp 74) none (some (Operand.tmp 75)) none, type := 9, pos := "ref.go:318", after := #[{ on := 0, ground := Ground.data }, { on := 1, ground := Ground.data }], guard := none }) (v := ?_) rfl (by kernel_rfl) (by kernel_rfl) (by kernel_rfl) (fun _ _ _ h => h) (Or.inl ⟨by rfl, ?_⟩) ?_
                    rotate_left
                    · (intro w; go_simp; try with_reducible rfl)
                    try simp only [Act.put, List.setIfInBounds_toArray, List.set_cons_zero, List.set_cons_succ]
                    refine wpAny_take (i := 3) (oi := { dst := some 77, op := Op.move (Operand.tmp 7), type := 29, pos := "ref.go:318", after := #[{ on := 7, ground := Ground.gcOnly Departure.lateStores }], guard := none }) (v := ?_) rfl (by kernel_rfl) (by kernel_rfl) (by kernel_rfl) (fun _ _ _ h => h) (Or.inl ⟨by rfl, ?_⟩) ?_
                    rotate_left
                    · (intro w; go_simp; try with_reducible rfl)
                    try simp only [Act.put, List.setIfInBounds_toArray, List.set_cons_zero, List.set_cons_succ]
                    refine wpAny_take (i := 4) (oi := { dst := some 78, op := Op.fieldAddr 31 (Operand.tmp 1) 1, type := 0, pos := "ref.go:318", after := #[{ on := 7, ground := Ground.gcOnly Departure.lateStores }], guard := none }) (v := ?_) rfl (by kernel_rfl) (by kernel_rfl) (by kernel_rfl) (fun _ _ _ h => h) (Or.inl ⟨by rfl, ?_⟩) ?_
                    rotate_left
                    · (intro w; go_simp; try with_reducible rfl)
                    try simp only [Act.put, List.setIfInBounds_toArray, List.set_cons_zero, List.set_cons_succ]
                    refine wpAny_take (i := 7) (oi := { dst := some 2, op := Op.assign (Operand.tmp 76), type := 9, pos := "ref.go:318", after := #[{ on := 2, ground := Ground.data }, { on := 0, ground := Ground.phase }, { on := 1, ground := Ground.phase }, { on := 2, ground := Ground.phase }, { on := 3, ground := Ground.textOnly Departure.lateStores }, { on := 4, ground := Ground.textOnly Departure.lateStores }, { on := 5, ground := Ground.textOnly Departure.lateStores }, { on := 6, ground := Ground.textOnly Departure.lateStores }], guard := none }) (v := ?_) rfl (by kernel_rfl) (by kernel_rfl) (by kernel_rfl) (fun _ _ _ h => h) (Or.inl ⟨by rfl, ?_⟩) ?_
                    rotate_left
                    · (intro w; go_simp; try with_reducible rfl)
                    try simp only [Act.put, List.setIfInBounds_toArray, List.set_cons_zero, List.set_cons_succ]
                    refine wpAny_ready (rs := [5]) (by kernel_rfl) (by simp) ?_
                    refine AllReady.cons (o := { dst := some 79, op := Op.load 3 (Operand.tmp 78), type := 3, pos := "ref.go:318", after := #[{ on := 4, ground := Ground.data }, { on := 7, ground := Ground.gcOnly Departure.lateStores }], guard := none }) rfl (fun K hK0 => ?_) AllReady.nil
                    have hK := Lib.hid hK0
                    clear hK0
                    go_simp
                    refine hK.out _ _ ?_
                    clear hK K
                    try simp only [Act.put, List.setIfInBounds_toArray, List.set_cons_zero, List.set_cons_succ]
                    refine wpAny_take (i := 6) (oi := { dst := some 80, op := Op.build 31 #[(0, Operand.tmp 77), (1, Operand.tmp 79)], type := 31, pos := "ref.go:318", after := #[{ on := 3, ground := Ground.data }, { on := 5, ground := Ground.data }, { on := 7, ground := Ground.gcOnly Departure.lateStores }], guard := none }) (v := ?_) rfl (by kernel_rfl) (by kernel_rfl) (by kernel_rfl) (fun _ _ _ h => h) (Or.inl ⟨by rfl, ?_⟩) ?_
                    rotate_left
                    · (intro w; go_simp; try with_reducible rfl)
                    try simp only [Act.put, List.setIfInBounds_toArray, List.set_cons_zero, List.set_cons_succ]
                    refine wpAny_ready (rs := [8]) (by kernel_rfl) (by simp) ?_
                    refine AllReady.cons (o := { dst := none, op := Op.store 31 (Operand.tmp 3) (Operand.tmp 80), type := 0, pos := "ref.go:318", after := #[{ on := 6, ground := Ground.data }, { on := 7, ground := Ground.chain }, { on := 0, ground := Ground.phase }, { on := 1, ground := Ground.phase }, { on := 2, ground := Ground.phase }, { on := 3, ground := Ground.phase }, { on := 4, ground := Ground.phase }, { on := 5, ground := Ground.phase }, { on := 6, ground := Ground.phase }, { on := 7, ground := Ground.phase }], guard := none }) rfl (fun K hK0 => ?_) AllReady.nil
                    have hK := Lib.hid hK0
                    clear hK0
                    go_simp
                    refine hK.out _ _ ?_
                    clear hK K
                    try simp only [Act.put, List.setIfInBounds_toArray, List.set_cons_zero, List.set_cons_succ]
                    refine wpAny_take (i := 9) (oi := { dst := some 4, op := Op.assign (Operand.const (Value.bool true)), type := 4, pos := "ref.go:318", after := #[{ on := 8, ground := Ground.chain }, { on := 0, ground := Ground.phase }, { on := 1, ground := Ground.phase }, { on := 2, ground := Ground.phase }, { on := 3, ground := Ground.phase }, { on := 4, ground := Ground.phase }, { on := 5, ground := Ground.phase }, { on := 6, ground := Ground.phase }, { on := 7, ground := Ground.phase }, { on := 8, ground := Ground.phase }], guard := none }) (v := ?_) rfl (by kernel_rfl) (by kernel_rfl) (by kernel_rfl) (fun _ _ _ h => h) (Or.inl ⟨by rfl, ?_⟩) ?_
                    rotate_left
                    · (intro w; go_simp; try with_reducible rfl)
                    try simp only [Act.put, List.setIfInBounds_toArray, List.set_cons_zero, List.set_cons_succ]
                    refine wpAny_done (by kernel_rfl) ?_ _
                    go_wp2_with fail
                    refine bodyPost_ret (by simp [results, Tryz.results50, go_sem, s0, s1]; rfl) rfl ?_
                    exact ⟨⟨_, _, _, _, _, rfl⟩, (((box2_self HB3.out).setCell (p := ⟨_, _, none⟩) (Nat.le_succ _) _).setCell (p := ⟨_, _, none⟩) (Nat.le_succ _) _).drew⟩
                  · have hc2 : ¬ ((1 : Int) = (c : Int)) := by omega
                    have hc3 : ¬ ((c : Int) = 1) := by omega
                    go_wp2_with (first | (at_builtin; refine wpList_append_own _ rfl (.tmp 69) (.tmp 72) 29 rfl (w.heap.size + 2) 33 i0 _ 3 32 Tryz.underlying29 hi0 hz0 hz1 hz2 rfl (by decide) _ _ _ rfl HO.out ⟨b, o + 3, none⟩ (n - 1) _ (pcells r) rfl (by rw [pcells_len]; have := HNr.out; omega) HNEWS.out HONE.out (by unfold maxLen; omega) (by omega) hsz ?_; intro v' w9 hown9 hgrow9 _; have HOWN := Lib.hid hown9; have HGROW := Lib.hid hgrow9; clear hown9 hgrow9))
                    have HB3 := Lib.hid (HB.out.grown HGROW.out hsz (fun _ hk => (own_where HO.out hk).1))
                    obtain ⟨pp, cc, rfl⟩ := Sx.own_slice HOWN.out
                    have c1 : w9.cell? ⟨w.heap.size, 1, none⟩ = some (.int .i64 at_) := box2_fst HB3.out 1 rfl
                    have q0 : w9.cell? ⟨w.heap.size + 1, 0, none⟩ = some (.slice none 0 0) := box2_snd HB3.out 0 rfl
                    have q1 : w9.cell? ⟨w.heap.size + 1, 1, none⟩ = some (.int .i64 0) := box2_snd HB3.out 1 rfl
                    have z0 := Sx.box2_frozen HB3.out 0
                    have z1 := Sx.box2_frozen HB3.out 1
                    generalize hLEN : m + (n - 1) = len at *
                    obtain ⟨s0, s1, _⟩ := Sx.store2 (u0 := .slice pp len cc) (u1 := .int .i64 at_) (Sx.box2_heap HB3.out)
                    go_wp2_with fail
                    refine wp_region_any (by kernel_rfl) (show wpAny _ _ _ _ _ _ _ (World.drew _) from ?_)
                    refine wpAny_take (i := 0) (oi := { dst := some 74, op := Op.move (Operand.tmp 5), type := 9, pos := "ref.go:318", after := #[], guard := none }) (v := ?_) rfl (by kernel_rfl) (by kernel_rfl) (by kernel_rfl) (fun _ _ _ h => h) (Or.inl ⟨by rfl, ?_⟩) ?_
                    rotate_left
                    · (intro w; go_simp; try with_reducible rfl)
                    try simp only [Act.put, List.setIfInBounds_toArray, List.set_cons_zero, List.set_cons_succ]
                    refine wpAny_take (i := 1) (oi := { dst := some 75, op := Op.move (Operand.tmp 6), type := 3, pos := "ref.go:318", after := #[], guard := none }) (v := ?_) rfl (by kernel_rfl) (by kernel_rfl) (by kernel_rfl) (fun _ _ _ h => h) (Or.inl ⟨by rfl, ?_⟩) ?_
                    rotate_left
                    · (intro w; go_simp; try with_reducible rfl)
                    try simp only [Act.put, List.setIfInBounds_toArray, List.set_cons_zero, List.set_cons_succ]
                    refine wpAny_take (i := 2) (oi := { dst := some 76, op := Op.slice 9 (Operand.tmp 74) none (some (Operand.tmp 75)) none, type := 9, pos := "ref.go:318", after := #[{ on := 0, ground := Ground.data }, { on := 1, ground := Ground.data }], guard := none }) (v := ?_) rfl (by kernel_rfl) (by kernel_rfl) (by kernel_rfl) (fun _ _ _ h => h) (Or.inl ⟨by rfl, ?_⟩) ?_
                    rotate_left
                    · (intro w; go_simp; try with_reducible rfl)
                    try simp only [Act.put, List.setIfInBounds_toArray, List.set_cons_zero, List.set_cons_succ]
                    refine wpAny_take (i := 3) (oi := { dst := some 77, op := Op.move (Operand.tmp 7), type := 29, pos := "ref.go:318", after := #[{ on := 7, ground := Ground.gcOnly Departure.lateStores }], guard := none }) (v := ?_) rfl (by kernel_rfl) (by kernel_rfl) (by kernel_rfl) (fun _ _ _ h => h) (Or.inl ⟨by rfl, ?_⟩) ?_
                    rotate_left
                    · (intro w; go_simp; try with_reducible rfl)
                    try simp only [Act.put, List.setIfInBounds_toArray, List.set_cons_zero, List.set_cons_succ]
                    refine wpAny_take (i := 4) (oi := { dst := some 78, op := Op.fieldAddr 31 (Operand.tmp 1) 1, type := 0, pos := "ref.go:318", after := #[{ on := 7, ground := Ground.gcOnly Departure.lateStores }], guard := none }) (v := ?_) rfl (by kernel_rfl) (by kernel_rfl) (by kernel_rfl) (fun _ _ _ h => h) (Or.inl ⟨by rfl, ?_⟩) ?_
                    rotate_left
                    · (intro w; go_simp; try with_reducible rfl)
                    try simp only [Act.put, List.setIfInBounds_toArray, List.set_cons_zero, List.set_cons_succ]
                    refine wpAny_take (i := 7) (oi := { dst := some 2, op := Op.assign (Operand.tmp 76), type := 9, pos := "ref.go:318", after := #[{ on := 2, ground := Ground.data }, { on := 0, ground := Ground.phase }, { on := 1, ground := Ground.phase }, { on := 2, ground := Ground.phase }, { on := 3, ground := Ground.textOnly Departure.lateStores }, { on := 4, ground := Ground.textOnly Departure.lateStores }, { on := 5, ground := Ground.textOnly Departure.lateStores }, { on := 6, ground := Ground.textOnly Departure.lateStores }], guard := none }) (v := ?_) rfl (by kernel_rfl) (by kernel_rfl) (by kernel_rfl) (fun _ _ _ h => h) (Or.inl ⟨by rfl, ?_⟩) ?_
                    rotate_left
                    · (intro w; go_simp; try with_reducible rfl)
                    try simp only [Act.put, List.setIfInBounds_toArray, List.set_cons_zero, List.set_cons_succ]
                    refine wpAny_ready (rs := [5]) (by kernel_rfl) (by simp) ?_
                    refine AllReady.cons (o := { dst := some 79, op := Op.load 3 (Operand.tmp 78), type := 3, pos := "ref.go:318", after := #[{ on := 4, ground := Ground.data }, { on := 7, ground := Ground.gcOnly Departure.lateStores }], guard := none }) rfl (fun K hK0 => ?_) AllReady.nil
                    have hK := Lib.hid hK0
                    clear hK0
                    go_simp
                    refine hK.out _ _ ?_
                    clear hK K
                    try simp only [Act.put, List.setIfInBounds_toArray, List.set_cons_zero, List.set_cons_succ]
                    refine wpAny_take (i := 6) (oi := { dst := some 80, op := Op.build 31 #[(0, Operand.tmp 77), (1, Operand.tmp 79)], type := 31, pos := "ref.go:318", after := #[{ on := 3, ground := Ground.data }, { on := 5, ground := Ground.data }, { on := 7, ground := Ground.gcOnly Departure.lateStores }], guard := none }) (v := ?_) rfl (by kernel_rfl) (by kernel_rfl) (by kernel_rfl) (fun _ _ _ h => h) (Or.inl ⟨by rfl, ?_⟩) ?_
                    rotate_left
                    · (intro w; go_simp; try with_reducible rfl)
                    try simp only [Act.put, List.setIfInBounds_toArray, List.set_cons_zero, List.set_cons_succ]
                    refine wpAny_ready (rs := [8]) (by kernel_rfl) (by simp) ?_
                    refine AllReady.cons (o := { dst := none, op := Op.store 31 (Operand.tmp 3) (Operand.tmp 80), type := 0, pos := "ref.go:318", after := #[{ on := 6, ground := Ground.data }, { on := 7, ground := Ground.chain }, { on := 0, ground := Ground.phase }, { on := 1, ground := Ground.phase }, { on := 2, ground := Ground.phase }, { on := 3, ground := Ground.phase }, { on := 4, ground := Ground.phase }, { on := 5, ground := Ground.phase }, { on := 6, ground := Ground.phase }, { on := 7, ground := Ground.phase }], guard := none }) rfl (fun K hK0 => ?_) AllReady.nil
                    have hK := Lib.hid hK0
                    clear hK0
                    go_simp
                    refine hK.out _ _ ?_
                    clear hK K
                    try simp only [Act.put, List.setIfInBounds_toArray, List.set_cons_zero, List.set_cons_succ]
                    refine wpAny_take (i := 9) (oi := { dst := some 4, op := Op.assign (Operand.const (Value.bool true)), type := 4, pos := "ref.go:318", after := #[{ on := 8, ground := Ground.chain }, { on := 0, ground := Ground.phase }, { on := 1, ground := Ground.phase }, { on := 2, ground := Ground.phase }, { on := 3, ground := Ground.phase }, { on := 4, ground := Ground.phase }, { on := 5, ground := Ground.phase }, { on := 6, ground := Ground.phase }, { on := 7, ground := Ground.phase }, { on := 8, ground := Ground.phase }], guard := none }) (v := ?_) rfl (by kernel_rfl) (by kernel_rfl) (by kernel_rfl) (fun _ _ _ h => h) (Or.inl ⟨by rfl, ?_⟩) ?_
                    rotate_left
                    · (intro w; go_simp; try with_reducible rfl)
                    try simp only [Act.put, List.setIfInBounds_toArray, List.set_cons_zero, List.set_cons_succ]
                    refine wpAny_done (by kernel_rfl) ?_ _
                    go_wp2_with fail
                    refine bodyPost_ret (by simp [results, Tryz.results50, go_sem, s0, s1]; rfl) rfl ?_
                    exact ⟨⟨_, _, _, _, _, rfl⟩, (((box2_self HB3.out).setCell (p := ⟨_, _, none⟩) (Nat.le_succ _) _).setCell (p := ⟨_, _, none⟩) (Nat.le_succ _) _).drew⟩
            · have hb : ((text[k].toNat : Int) != 61) = true := by
                rw [bne_iff_ne]
                intro h
                exact h61 (UInt8.toNat_inj.1 (by show text[k].toNat = 61; omega))
              go_wp2_with fail
              go_round
              case rel =>
                refine ⟨k + 1, by omega, by go_num, Lib.hid fun j hj b hb2 => ?_⟩
                rcases Nat.lt_or_ge j k with h | h
                · exact HK.out j h b hb2
                · obtain rfl : j = k := by omega
                  have : text.data.toList[j]? = some text[j] := Lib.data_getElem? text j hlt
                  rw [this] at hb2
                  obtain rfl : text[j] = b := by simpa using hb2
                  unfold noEq
                  rw [show (text[j] == 61) = false from beq_eq_false_iff_ne.2 h61]
                  rfl
              case measure => simp [intOf]; omega
          · obtain rfl : k = text.size := by omega
            have hA0 : A = false := by rw [HR1.out]; exact assigns_end HK.out
            subst hA0
            go_wp2_with fail
            go_returns
            exact ⟨⟨_, _, _, _, _, rfl⟩, by go_grown⟩
end Go.Proofs.YtpibjhlldlbocaaGreat
