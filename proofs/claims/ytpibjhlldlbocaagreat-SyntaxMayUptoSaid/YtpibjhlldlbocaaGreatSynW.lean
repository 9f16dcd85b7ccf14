/- Walks of the program's word: a name, and a word that is assigned to it. -/
import Derived.Test.YtpibjhlldlbocaaGreatSynV
import Derived.StillTailTactics
namespace Go.Proofs.YtpibjhlldlbocaaGreat
open Go.RowKit Sx Go.Proofs

theorem empty_word (w : World) : WordR w [.slice none 0 0, .int .i64 0] ⟨[], 0⟩ := ⟨none, 0, rfl, Nat.le_refl _, Nat.zero_le _, fun i hi => absurd hi (Nat.not_lt_zero i)⟩

theorem Sx.own_below {w w1 : World} {base : Nat} {e : TypeId} {size : Nat} {v : Value} {n : Nat} {xs : List Value} (h : w.ownsRow base e size v n xs) (hb : Below w.heap.size w w1) : w1.ownsRow base e size v n xs :=
  h.kept (row := none) ⟨hb.os, hb.tape, hb.output, hb.size, fun k hk _ => hb.block k hk⟩ (Classical.em _)
theorem Sx.own_none {w : World} {base : Nat} {e : TypeId} {size : Nat} {v : Value} {n : Nat} {xs : List Value} (h : w.ownsRow base e size v n xs) {k : Nat} (hk : k < base ∨ w.heap.size ≤ k) : v.ownBlock ≠ some k := fun he => by
  have := own_where h he
  omega
def Sx.pcells (l : List Part) : List Value := l.flatMap partCells
theorem Sx.pcells_len : ∀ l : List Part, (pcells l).length = l.length * 3
  | [] => rfl
  | p :: l => by
    have := Sx.pcells_len l
    unfold pcells at *
    rw [List.flatMap_cons, List.length_append, this, List.length_cons]
    show 3 + _ = _
    omega
theorem Sx.pcells_append (l r : List Part) : pcells (l ++ r) = pcells l ++ pcells r := by unfold pcells; exact List.flatMap_append
theorem Sx.pcells_get : ∀ {l : List Part} {i : Nat} (h : i < l.length) (j : Nat), j < 3 → (pcells l)[i * 3 + j]? = (partCells l[i])[j]?
  | [], _, h, _, _ => absurd h (Nat.not_lt_zero _)
  | p :: l, 0, _, j, hj => by
    unfold pcells
    rw [List.flatMap_cons, Nat.zero_mul, Nat.zero_add, List.getElem?_append_left (by show j < 3; exact hj)]
    rfl
  | p :: l, i + 1, h, j, hj => by
    have := Sx.pcells_get (l := l) (i := i) (by simpa using h) j hj
    unfold pcells at *
    rw [List.flatMap_cons, List.getElem?_append_right (by show 3 ≤ _; omega)]
    have e : (i + 1) * 3 + j - (partCells p).length = i * 3 + j := by show (i + 1) * 3 + j - 3 = _; omega
    rw [e, this]
    rfl
theorem Sx.own_parts {w : World} {base : Nat} {e : TypeId} {v : Value} {l : List Part} (h : w.ownsRow base e 3 v l.length (pcells l)) : ∃ p cap, v = .slice p l.length cap ∧ l.length ≤ cap ∧ cap ≤ maxLen ∧ Row w 3 p l.length (fun i => (l[i]?.map partCells).getD []) := by
  rcases h.2 with ⟨hv, h0⟩ | ⟨g, cap, cur, hv, _, hh, hc, hm, _, htake⟩
  · exact ⟨none, 0, by rw [hv, h0], by omega, Nat.zero_le _, fun i hi => absurd hi (by omega)⟩
  · refine ⟨_, cap, hv, hc, hm, fun i hi => ⟨g, 0, rfl, ?_, ?_⟩⟩
    · dsimp only; rw [part_at hi]; rfl
    · dsimp only; rw [part_at hi]
      intro j u hj
      have hj3 : j < 3 := by
        rcases Nat.lt_or_ge j 3 with h | h
        · exact h
        · rw [List.getElem?_eq_none (by show 3 ≤ j; exact h)] at hj; cases hj
      rw [cell_of_row w g _ cur e _ hh]
      have hg := Sx.pcells_get hi j hj3
      rw [hj, ← htake, List.getElem?_take] at hg
      split at hg
      · rw [← hg]; simp
      · cases hg
theorem Sx.own_slice {w : World} {base : Nat} {e : TypeId} {size : Nat} {v : Value} {n : Nat} {xs : List Value} (h : w.ownsRow base e size v n xs) : ∃ p cap, v = .slice p n cap := by
  rcases h.2 with ⟨hv, h0⟩ | ⟨g, cap, cur, hv, _⟩
  · exact ⟨none, 0, by rw [hv, h0]⟩
  · exact ⟨_, cap, hv⟩
theorem Sx.box2_frozen {w wr : World} {cs ds : Array Value} {t u : TypeId} (hb : Below (w.heap.size + 2) ((w.alloc (.cells cs t)).alloc (.cells ds u)) wr) (i : Nat) : wr.frozen? ⟨w.heap.size + 1, i, none⟩ = false := by
  refine frozen_of_row wr _ i ds u ?_
  rw [hb.block _ (by omega)]
  exact heap_alloc2 w _ _

theorem Sx.store2 {w : World} {g : Nat} {v0 v1 u0 u1 : Value} {t : TypeId} (h : w.heap[g]? = some (.cells #[v0, v1] t (0, 0))) :
    ((w.setCell ⟨g, 0, none⟩ u0).cell? ⟨g, 0, none⟩ = some u0) ∧ (((w.setCell ⟨g, 0, none⟩ u0).setCell ⟨g, 1, none⟩ u1).cell? ⟨g, 1, none⟩ = some u1) ∧
    ((w.setCell ⟨g, 0, none⟩ u0).setCell ⟨g, 1, none⟩ u1).heap[g]? = some (.cells #[u0, u1] t (0, 0)) := by
  have h1 := heap_setCell_same w g 0 _ t u0 h
  have h2 := heap_setCell_same _ g 1 _ t u1 h1
  refine ⟨?_, ?_, ?_⟩
  · rw [cell_of_row _ _ _ _ _ _ h1]; rfl
  · rw [cell_of_row _ _ _ _ _ _ h2]; rfl
  · exact h2
theorem Sx.box2_heap {w wr : World} {cs ds : Array Value} {t u : TypeId} (hb : Below (w.heap.size + 2) ((w.alloc (.cells cs t)).alloc (.cells ds u)) wr) : wr.heap[w.heap.size + 1]? = some (.cells ds u (0, 0)) := by
  rw [hb.block _ (by omega)]
  exact heap_alloc2 w _ _
theorem info_part : (Tryz.prog.info? 33).map (fun i => (i.zero, i.size, i.bytes)) = some (some (.agg #[.bool false, .string ⟨#[]⟩, .bool false]), 3, 32) := by kernel_rfl
theorem Sx.news_alloc (w : World) (cs : List Value) (t : TypeId) : ∀ (j : Nat) (u : Value), cs[j]? = some u → (w.alloc (.cells cs.toArray t)).cell? ((⟨w.heap.size, 0, none⟩ : Addr).add j) = some u := by
  intro j u hj
  have : (⟨w.heap.size, 0, none⟩ : Addr).add j = ⟨w.heap.size, j, none⟩ := by unfold Addr.add; split <;> simp_all
  rw [this, cell_of_row _ _ _ _ _ _ (heap_alloc_new w _)]
  simpa using hj
theorem Sx.part_one (p : Part) : ∀ u ∈ partCells p, u.oneCell' = true := by
  intro u hu
  unfold partCells at hu
  simp only [List.mem_cons, List.not_mem_nil, or_false] at hu
  rcases hu with rfl | rfl | rfl <;> rfl
theorem isBare_any (p : Part) (w : World) : Calls Tryz.prog 70 #[.agg #[.bool p.var, .string p.text, .bool p.quoted]] w fun e w' => e = .returned (.bool (!p.var && !p.quoted)) ∧ Below w.heap.size w w' := by
  obtain ⟨var, text, quoted⟩ := p
  dsimp only
  go_enter Tryz.func70, Tryz.ntmps70
  cases var <;> cases quoted <;> go_wp2
  all_goals go_ret
  all_goals exact ⟨rfl, by go_grown⟩

set_option maxRecDepth 100000 in
set_option maxHeartbeats 4000000 in
theorem assign_neg {w : World} {cs : List Value} {x : Word} (hx : WordR w cs x) (hB : x.bulk ≤ 2000000) (hneg : x.assigns = false) :
    Calls Tryz.prog 55 #[.agg cs.toArray] w fun e w' => (∃ nm vs v, e = .returned (.tuple #[.string nm, .agg vs, .bool x.assigns]) ∧ WordR w' vs.toList v ∧ (x.assigns = true → nm = x.assignName ∧ v.parts = x.valueParts)) ∧ Below w.heap.size w w' := by
  obtain ⟨p, c, rfl, h1, h2, h3⟩ := hx
  have HX := Lib.hid h3
  have hl : x.parts.length ≤ 2000000 := by
    have := sum_ge (f := Part.bulk) (fun p => Nat.succ_pos _) x.parts
    unfold Word.bulk at hB
    omega
  have HBULK : Hid (∀ (i : Nat) q, x.parts[i]? = some q → q.text.size ≤ 2000000) := Lib.hid fun i q hq => by
    have h : q.text.size + 1 ≤ (x.parts.map Part.bulk).sum := sum_at (f := Part.bulk) hq
    unfold Word.bulk at hB
    omega
  clear h3 h1 h2 hB
  obtain ⟨parts, at_⟩ := x
  dsimp only at *
  cases parts with
  | nil =>
    go_enter Tryz.func55, Tryz.ntmps55
    go_wp2_with fail
    go_returns
    exact ⟨⟨_, _, ⟨[], 0⟩, rfl, empty_word _, fun h => by cases h⟩, by go_grown⟩
  | cons P r =>
    have hts := HBULK.out 0 P rfl
    have HX0 := HX
    obtain ⟨b, o, rfl, _, hr⟩ := HX.out 0 (by simp)
    have hr : w.rangeAt b (o + 0 * 3) (partCells P) := hr
    rw [show o + 0 * 3 = o by omega] at hr
    obtain ⟨e0, e1, e2⟩ := part_cells hr
    clear hr
    have hn0 : (((P :: r).length : Int) == 0) = false := beq_eq_false_iff_ne.2 (by simp only [List.length_cons]; omega)
    have hn1 : (0 : Int) < ((P :: r).length : Int) := by simp only [List.length_cons]; omega
    have HR0 : Hid (Word.assigns ⟨P :: r, at_⟩ = (!P.var && !P.quoted && Sx.assigns P.text.data.toList)) := Lib.hid rfl
    generalize hA : Word.assigns ⟨P :: r, at_⟩ = A at *
    have HA := Lib.hid hA
    clear hA
    generalize hN : (P :: r).length = n at *
    have HN := Lib.hid hN
    clear hN
    obtain ⟨var, text, quoted⟩ := P
    dsimp only at *
    have hcell := World.cell?_alloc_some
    have HIB := Lib.hid (isBare_any ⟨var, text, quoted⟩)
    dsimp only at *
    cases hbare : (!var && !quoted) with
    | false =>
      have hA0 : A = false := by rw [HR0.out, hbare]; rfl
      rw [hbare] at HIB
      subst hA0
      go_enter Tryz.func55, Tryz.ntmps55
      go_wp2_with fail
      refine (HIB.out _).mono ?_
      rintro e w2 ⟨rfl, hb2⟩
      have HB2 : Hid (Below (w.heap.size + 2) ((w.alloc (.cells #[.slice (some ⟨b, o, none⟩) n c, .int .i64 at_] 31)).alloc (.cells #[.slice none 0 0, .int .i64 0] 31)) w2) := Lib.hid (hb2.mono (by simp))
      have r0 : w2.cell? ⟨w.heap.size + 1, 0, none⟩ = some (.slice none 0 0) := box2_snd HB2.out 0 rfl
      have r1 : w2.cell? ⟨w.heap.size + 1, 1, none⟩ = some (.int .i64 0) := box2_snd HB2.out 1 rfl
      have z0 := Sx.box2_frozen HB2.out 0
      have z1 := Sx.box2_frozen HB2.out 1
      obtain ⟨s0, s1, _⟩ := Sx.store2 (u0 := .slice none 0 0) (u1 := .int .i64 0) (Sx.box2_heap HB2.out)
      clear hb2
      go_wp2_with fail
      refine bodyPost_ret (by simp [results, Tryz.results55, go_sem, s0, s1]; rfl) rfl ?_
      exact ⟨⟨_, _, ⟨[], 0⟩, rfl, empty_word _, fun h => by cases h⟩, ((box2_self HB2.out).setCell (p := ⟨_, _, none⟩) (Nat.le_succ _) _).setCell (p := ⟨_, _, none⟩) (Nat.le_succ _) _⟩
    | true =>
      obtain ⟨rfl, rfl⟩ : var = false ∧ quoted = false := by cases var <;> cases quoted <;> simp_all
      rw [hbare] at HIB
      clear hbare
      have HR1 : Hid (A = (!(nameLen text.data.toList == 0) && Lib.hasPrefix (text.data.toList.drop (nameLen text.data.toList)) [61])) := Lib.hid (by rw [← assigns_len]; exact HR0.out)
      have HNL : Hid (∀ w, Calls Tryz.prog 71 #[.string text] w fun e w' => e = .returned (.int .i64 (nameLen text.data.toList)) ∧ w = w') := Lib.hid fun w => nameLength_any text w (by omega)
      have hLs : nameLen text.data.toList ≤ text.size := by
        have := nlen_len true 64 text.data.toList
        rw [← Lib.size_eq] at this
        exact this
      have HHP : Hid (∀ w, Calls Tryz.prog 72 #[.string (text.extract (nameLen text.data.toList) text.size), .string ⟨#[61]⟩] w fun e w' => e = .returned (.bool (Lib.hasPrefix (text.data.toList.drop (nameLen text.data.toList)) [61])) ∧ w = w') := Lib.hid fun w => by
        refine (Tryz.strings_HasPrefix _ _ w).mono ?_
        rintro e w' ⟨rfl, rfl⟩
        refine ⟨ret_bool ?_, rfl⟩
        congr 1
        rw [ByteArray.data_extract, Array.toList_extract, List.extract_eq_take_drop, List.take_of_length_le]
        rw [List.length_drop, ← Lib.size_eq]
        exact Nat.le_refl _
      have HVP : Hid (Word.valueParts ⟨⟨false, text, false⟩ :: r, at_⟩ = (if nameLen text.data.toList + 1 < text.size then [⟨false, text.extract (nameLen text.data.toList + 1) text.size, false⟩] else []) ++ r) := Lib.hid rfl
      have HAN : Hid (Word.assignName ⟨⟨false, text, false⟩ :: r, at_⟩ = text.extract 0 (nameLen text.data.toList)) := Lib.hid rfl
      have HLT : Hid (A = true → nameLen text.data.toList < text.size) := Lib.hid fun h => by
        have h1 : Sx.assigns text.data.toList = true := by rw [← h]; exact HR0.out.symm
        have := (assigns_name h1).2.1
        rw [← Lib.size_eq] at this
        exact this
      generalize Word.valueParts ⟨⟨false, text, false⟩ :: r, at_⟩ = VP at *
      generalize Word.assignName ⟨⟨false, text, false⟩ :: r, at_⟩ = AN at *
      generalize hL : nameLen text.data.toList = L at *
      generalize Lib.hasPrefix (text.data.toList.drop L) [61] = hp at *
      by_cases hL0 : L = 0
      · have hA0 : A = false := by rw [HR1.out, hL0]; rfl
        subst hA0
        subst hL0
        go_enter Tryz.func55, Tryz.ntmps55
        go_wp2_with fail
        refine (HIB.out _).mono ?_
        rintro e w2 ⟨rfl, hb2⟩
        have HB2 : Hid (Below (w.heap.size + 2) ((w.alloc (.cells #[.slice (some ⟨b, o, none⟩) n c, .int .i64 at_] 31)).alloc (.cells #[.slice none 0 0, .int .i64 0] 31)) w2) := Lib.hid (hb2.mono (by simp))
        have c0 : w2.cell? ⟨w.heap.size, 0, none⟩ = some (.slice (some ⟨b, o, none⟩) n c) := box2_fst HB2.out 0 rfl
        have c1 : w2.cell? ⟨w.heap.size, 1, none⟩ = some (.int .i64 at_) := box2_fst HB2.out 1 rfl
        have r0 : w2.cell? ⟨w.heap.size + 1, 0, none⟩ = some (.slice none 0 0) := box2_snd HB2.out 0 rfl
        have r1 : w2.cell? ⟨w.heap.size + 1, 1, none⟩ = some (.int .i64 0) := box2_snd HB2.out 1 rfl
        have z0 := Sx.box2_frozen HB2.out 0
        have z1 := Sx.box2_frozen HB2.out 1
        obtain ⟨s0, s1, _⟩ := Sx.store2 (u0 := .slice none 0 0) (u1 := .int .i64 0) (Sx.box2_heap HB2.out)
        have f0 := cell_kept (box2_self HB2.out) e0
        have f1 := cell_kept (box2_self HB2.out) e1
        have f2 := cell_kept (box2_self HB2.out) e2
        clear hb2
        go_wp2_with (first | (go_at_call 71; refine (HNL.out _).mono ?_; rintro e w' ⟨rfl, rfl⟩) | (go_at_call 72; refine (HHP.out _).mono ?_; rintro e w' ⟨rfl, rfl⟩))
        refine bodyPost_ret (by simp [results, Tryz.results55, go_sem, s0, s1]; rfl) rfl ?_
        exact ⟨⟨_, _, ⟨[], 0⟩, rfl, empty_word _, fun h => by cases h⟩, ((box2_self HB2.out).setCell (p := ⟨_, _, none⟩) (Nat.le_succ _) _).setCell (p := ⟨_, _, none⟩) (Nat.le_succ _) _⟩
      · have hLb : ((L : Int) == 0) = false := beq_eq_false_iff_ne.2 (by omega)
        have hL1 : (0 : Int) ≤ (L : Int) := by omega
        have hL2 : (L : Int) ≤ (text.size : Int) := by omega
        cases hp with
        | false =>
          have hA0 : A = false := by rw [HR1.out]; simp
          subst hA0
          go_enter Tryz.func55, Tryz.ntmps55
          go_wp2_with fail
          refine (HIB.out _).mono ?_
          rintro e w2 ⟨rfl, hb2⟩
          have HB2 : Hid (Below (w.heap.size + 2) ((w.alloc (.cells #[.slice (some ⟨b, o, none⟩) n c, .int .i64 at_] 31)).alloc (.cells #[.slice none 0 0, .int .i64 0] 31)) w2) := Lib.hid (hb2.mono (by simp))
          have c0 : w2.cell? ⟨w.heap.size, 0, none⟩ = some (.slice (some ⟨b, o, none⟩) n c) := box2_fst HB2.out 0 rfl
          have c1 : w2.cell? ⟨w.heap.size, 1, none⟩ = some (.int .i64 at_) := box2_fst HB2.out 1 rfl
          have r0 : w2.cell? ⟨w.heap.size + 1, 0, none⟩ = some (.slice none 0 0) := box2_snd HB2.out 0 rfl
          have r1 : w2.cell? ⟨w.heap.size + 1, 1, none⟩ = some (.int .i64 0) := box2_snd HB2.out 1 rfl
          have z0 := Sx.box2_frozen HB2.out 0
          have z1 := Sx.box2_frozen HB2.out 1
          obtain ⟨s0, s1, _⟩ := Sx.store2 (u0 := .slice none 0 0) (u1 := .int .i64 0) (Sx.box2_heap HB2.out)
          have f0 := cell_kept (box2_self HB2.out) e0
          have f1 := cell_kept (box2_self HB2.out) e1
          have f2 := cell_kept (box2_self HB2.out) e2
          clear hb2
          go_wp2_with (first | (go_at_call 71; refine (HNL.out _).mono ?_; rintro e w' ⟨rfl, rfl⟩) | (go_at_call 72; refine (HHP.out _).mono ?_; rintro e w' ⟨rfl, rfl⟩))
          refine bodyPost_ret (by simp [results, Tryz.results55, go_sem, s0, s1]; rfl) rfl ?_
          exact ⟨⟨_, _, ⟨[], 0⟩, rfl, empty_word _, fun h => by cases h⟩, ((box2_self HB2.out).setCell (p := ⟨_, _, none⟩) (Nat.le_succ _) _).setCell (p := ⟨_, _, none⟩) (Nat.le_succ _) _⟩
        | true =>
          have hA0 : A = true := by rw [HR1.out]; simp [hL0]
          rw [hA0] at hneg
          cases hneg
end Go.Proofs.YtpibjhlldlbocaaGreat
