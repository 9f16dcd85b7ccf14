/- Walks of the program's syntax: is there an assignment of that value to that name? -/
import Derived.Test.YtpibjhlldlbocaaGreatSynZ
import Derived.Laws.OwnMore
namespace Go.Proofs.YtpibjhlldlbocaaGreat
open Go.RowKit Sx Go.Proofs

theorem Sx.wpList_append_zero {P : Program} {w : World} {ops : Array Oper} {rest : List Oper} {o : Oper} {a : Act} {Q : Exit → Act → World → Prop} (hgd : o.guard = none) (s x : Operand) (t : TypeId)
    (ho : o.op = .call { callee := .builtin .append, args := #[s, x], argTypes := #[t, t] })
    (base : Nat) (e : TypeId) (i : TypeInfo) (size : Nat) (ht : P.underlying t = some (.slice e)) (hi : P.info? e = some i)
    (v : Value) (n : Nat) (xs : List Value) (hs : a.eval s = v) (hown : w.ownsRow base e size v n xs) (pp : Option Addr) (cc : Nat) (hx : a.eval x = .slice pp 0 cc)
    (h : wpList P ops Q rest (a.put o.dst v) w) : wpList P ops Q (o :: rest) a w := by
  refine wpList_plain hgd fun K hK => ?_
  have hrun : (Builtin.append_ #[t, t] o.type #[v, .slice pp 0 cc]).run P w = .ok v w := by
    rcases hown.2 with ⟨rfl, rfl⟩ | ⟨g, cap, cur, rfl, _, _, hnc, _⟩
    · cases pp <;> simp [Builtin.append_, run_underlying ht, sizeOf, typeInfo, hi, Builtin.lenOf, Builtin.firstCells, loadCells, loadCellsFrom]
    · cases pp <;> simp [Builtin.append_, run_underlying ht, sizeOf, typeInfo, hi, Builtin.lenOf, Builtin.firstCells, loadCells, loadCellsFrom, hnc, storeCells]
  unfold Oper.wp
  simp [execOp, ho, resolve, invoke, builtin, hs, hx, hrun, Result.andThen]
  exact hK _ _ h

theorem Sx.row_news {w : World} {b o n : Nat} {l : List Part} (h : Row w 3 (some ⟨b, o, none⟩) n (fun i => (l[i]?.map partCells).getD [])) (hn : l.length = n := by rfl) : ∀ (j : Nat) u, (pcells l)[j]? = some u → w.cell? ((⟨b, o, none⟩ : Addr).add j) = some u := by
  intro j u hj
  have hadd : (⟨b, o, none⟩ : Addr).add j = ⟨b, o + j, none⟩ := by unfold Addr.add; split <;> simp_all
  rw [hadd]
  have hjl : j < l.length * 3 := by rw [← pcells_len]; exact (List.getElem?_eq_some_iff.1 hj).1
  have hq : j / 3 < l.length := by omega
  have hj' : (pcells l)[j / 3 * 3 + j % 3]? = some u := by rw [show j / 3 * 3 + j % 3 = j by omega]; exact hj
  rw [pcells_get hq _ (by omega)] at hj'
  obtain ⟨b', o', hbo, _, hr⟩ := h (j / 3) (by omega)
  simp only [Option.some.injEq, Addr.mk.injEq] at hbo
  obtain ⟨rfl, rfl, _⟩ := hbo
  dsimp only at hr
  rw [part_at hq] at hr
  have := hr (j % 3) u hj'
  rw [show o + j / 3 * 3 + j % 3 = o + j by omega] at this
  exact this
theorem Sx.pcells_one (l : List Part) : ∀ u ∈ pcells l, u.oneCell' = true := by
  intro u hu
  unfold pcells at hu
  obtain ⟨p, _, hp⟩ := List.mem_flatMap.1 hu
  exact part_one p u hp
theorem Sx.dWhole_bulk (name : ByteArray) (q : List Part) : ((dWhole name q).map Part.bulk).sum ≤ name.size + 2 + (q.map Part.bulk).sum := by
  have he : eqB.size = 1 := rfl
  unfold dWhole
  split
  · simp [Part.bulk, ByteArray.size_append, he]
  · rename_i p r
    split
    · simp [Part.bulk, ByteArray.size_append, he]
      omega
    · simp [Part.bulk, ByteArray.size_append, he]
set_option maxRecDepth 100000 in
set_option maxHeartbeats 4000000 in
theorem assignMay_any {w : World} {cs : List Value} {x : Word} (name : ByteArray) (hx : WordR w cs x) (hB : name.size + x.bulk ≤ 1900000) :
    Calls Tryz.prog 54 #[.string name, .agg cs.toArray] w fun e w' => e = .returned (.bool (dAssign name x.parts)) ∧ Below w.heap.size w w' := by
  have HW0 := hx
  obtain ⟨p, c, rfl, hnc, h2, h3⟩ := hx
  obtain ⟨q, at_⟩ := x
  dsimp only at *
  have HX := Lib.hid h3
  have HBK := Lib.hid hB
  have hl : q.length ≤ 2000000 := by
    have := sum_ge (f := Part.bulk) (fun p => Nat.succ_pos _) q
    unfold Word.bulk at hB
    dsimp only at hB
    omega
  have HWX : Hid (WordR w [.slice p q.length c, .int .i64 at_] ⟨q, at_⟩) := Lib.hid HW0
  obtain ⟨R, hR⟩ : ∃ R, R = dAssign name q := ⟨_, rfl⟩
  rw [← hR]
  have HR := Lib.hid hR
  have hns : name.size ≤ 1900000 := by omega
  have hs1 : ¬ (9223372036854775807 < name.size + 1) := by omega
  clear h3 h2 hB HW0 hR
  generalize hN : q.length = n at *
  have HN := Lib.hid hN
  clear hN
  go_enter Tryz.func54, Tryz.ntmps54
  go_wp2_with fail
  have c0 : (w.alloc (.cells #[.slice p n c, .int .i64 at_] 31)).cell? ⟨w.heap.size, 0, none⟩ = some (.slice p n c) := box_cell (Below.refl _ _) 0 rfl
  refine wp_region_any (by kernel_rfl) (show wpAny _ _ _ _ _ _ _ (World.drew _) from ?_)
  refine wpAny_take (i := 0) (oi := { dst := some 11, op := Op.move (Operand.tmp 0), type := 9, pos := "syntax.go:114", after := #[], guard := none }) (v := ?_) rfl (by kernel_rfl) (by kernel_rfl) (by kernel_rfl) (fun _ _ _ h => h) (Or.inl ⟨by rfl, ?_⟩) ?_
  rotate_left
  · (intro w; go_simp; try with_reducible rfl)
  try simp only [Act.put, List.setIfInBounds_toArray, List.set_cons_zero, List.set_cons_succ]
  refine wpAny_take (i := 1) (oi := { dst := some 12, op := Op.binOp BinOp.add 9 (Operand.tmp 11) (Operand.const (Value.string { data := #[61] })) 9, type := 9, pos := "syntax.go:114", after := #[{ on := 0, ground := Ground.data }], guard := none }) (v := ?_) rfl (by kernel_rfl) (by kernel_rfl) (by kernel_rfl) (fun _ _ _ h => h) (Or.inl ⟨by rfl, ?_⟩) ?_
  rotate_left
  · (intro w; go_simp; try with_reducible rfl)
  try simp only [Act.put, List.setIfInBounds_toArray, List.set_cons_zero, List.set_cons_succ]
  refine wpAny_take (i := 2) (oi := { dst := some 13, op := Op.fieldAddr 31 (Operand.tmp 3) 0, type := 0, pos := "syntax.go:114", after := #[{ on := 4, ground := Ground.gcOnly Departure.lateStores }], guard := none }) (v := ?_) rfl (by kernel_rfl) (by kernel_rfl) (by kernel_rfl) (fun _ _ _ h => h) (Or.inl ⟨by rfl, ?_⟩) ?_
  rotate_left
  · (intro w; go_simp; try with_reducible rfl)
  try simp only [Act.put, List.setIfInBounds_toArray, List.set_cons_zero, List.set_cons_succ]
  refine wpAny_take (i := 4) (oi := { dst := some 5, op := Op.assign (Operand.tmp 12), type := 9, pos := "syntax.go:114", after := #[{ on := 1, ground := Ground.data }, { on := 0, ground := Ground.phase }, { on := 1, ground := Ground.phase }, { on := 2, ground := Ground.textOnly Departure.lateStores }, { on := 3, ground := Ground.textOnly Departure.lateStores }], guard := none }) (v := ?_) rfl (by kernel_rfl) (by kernel_rfl) (by kernel_rfl) (fun _ _ _ h => h) (Or.inl ⟨by rfl, ?_⟩) ?_
  rotate_left
  · (intro w; go_simp; try with_reducible rfl)
  try simp only [Act.put, List.setIfInBounds_toArray, List.set_cons_zero, List.set_cons_succ]
  refine wpAny_ready (rs := [3]) (by kernel_rfl) (by simp) ?_
  refine AllReady.cons (o := { dst := some 14, op := Op.load 29 (Operand.tmp 13), type := 29, pos := "syntax.go:114", after := #[{ on := 2, ground := Ground.data }, { on := 4, ground := Ground.gcOnly Departure.lateStores }], guard := none }) rfl (fun K hK0 => ?_) AllReady.nil
  have hK := Lib.hid hK0
  clear hK0
  go_simp
  refine hK.out _ _ ?_
  clear hK K
  try simp only [Act.put, List.setIfInBounds_toArray, List.set_cons_zero, List.set_cons_succ]
  refine wpAny_take (i := 5) (oi := { dst := some 6, op := Op.assign (Operand.tmp 14), type := 29, pos := "syntax.go:114", after := #[{ on := 3, ground := Ground.data }, { on := 4, ground := Ground.chain }, { on := 0, ground := Ground.phase }, { on := 1, ground := Ground.phase }, { on := 2, ground := Ground.phase }, { on := 3, ground := Ground.phase }, { on := 4, ground := Ground.phase }], guard := none }) (v := ?_) rfl (by kernel_rfl) (by kernel_rfl) (by kernel_rfl) (fun _ _ _ h => h) (Or.inl ⟨by rfl, ?_⟩) ?_
  rotate_left
  · (intro w; go_simp; try with_reducible rfl)
  try simp only [Act.put, List.setIfInBounds_toArray, List.set_cons_zero, List.set_cons_succ]
  refine wpAny_done (by kernel_rfl) ?_ _
  have HW1 : Hid (Below (w.heap.size + 1) (w.alloc (.cells #[.slice p n c, .int .i64 at_] 31)) (w.alloc (.cells #[.slice p n c, .int .i64 at_] 31)).drew) := Lib.hid (Below.refl _ _).drew
  generalize (w.alloc (.cells #[.slice p n c, .int .i64 at_] 31)).drew = w1 at *
  have HBW := HW1
  clear HW1
  go_upto_region 2 with fail
  go_cut [31] (fun t wx => t = .bool (match q with | [] => false | P :: _ => !P.var && !P.quoted : Bool) ∧ Hid (Below (w.heap.size + 1) (w.alloc (.cells #[.slice p n c, .int .i64 at_] 31)) wx))
  case first =>
    cases q with
    | nil =>
      obtain rfl : n = 0 := HN.out.symm
      have hn0 : ¬ ((0 : Int) < 0) := by decide
      go_wp2_with fail
      go_meet
      exact ⟨rfl, HBW⟩
    | cons P r =>
      have HNr : Hid (n = r.length + 1) := Lib.hid HN.out.symm
      have hn0 : (0 : Int) < (n : Int) := by have := HNr.out; omega
      have hn1 : (1 : Int) ≤ (n : Int) := by omega
      have hn2 : (n : Int) ≤ (c : Int) := by omega
      have hn3 : (1 : Int) ≤ (c : Int) := by omega
      obtain ⟨b, o, rfl, _, hr⟩ := HX.out 0 (by omega)
      have hr : w.rangeAt b (o + 0 * 3) (partCells P) := hr
      rw [show o + 0 * 3 = o by omega] at hr
      obtain ⟨var, text, quoted⟩ := P
      obtain ⟨e0, e1, e2⟩ := part_cells (range_below (box_self HBW.out) hr)
      have hts : name.size + text.size ≤ 1900000 := by
        have := HBK.out
        unfold Word.bulk at this
        simp [Part.bulk] at this
        omega
      dsimp only at e0 e1 e2
      clear hr
      cases var <;> cases quoted
      all_goals go_wp2_with fail
      all_goals go_meet
      all_goals exact ⟨rfl, HBW⟩
  case rest =>
    obtain ⟨rfl, HBW⟩ := hcut
    go_upto_if 31 with fail
    go_cut [5, 6] (fun f r wx => ∃ (F : ByteArray) (rest : List Part) (pp : Option Addr) (cc : Nat), f = .string F ∧ r = .slice pp rest.length cc ∧ Hid (dWhole name q = ⟨false, F, false⟩ :: rest) ∧ rest.length ≤ n ∧ rest.length ≤ cc ∧ Hid (Row w 3 pp rest.length (fun i => (rest[i]?.map partCells).getD [])) ∧ Hid (Below (w.heap.size + 1) (w.alloc (.cells #[.slice p n c, .int .i64 at_] 31)) wx))
    case first =>
      cases q with
      | nil =>
        obtain rfl : n = 0 := HN.out.symm
        have hn0 : ¬ ((0 : Int) < 0) := by decide
        go_wp2_with fail
        go_meet
        exact ⟨_, [], p, c, rfl, rfl, Lib.hid rfl, Nat.zero_le _, Nat.zero_le _, HX, HBW⟩
      | cons P r =>
        have HNr : Hid (n = r.length + 1) := Lib.hid HN.out.symm
        have hn0 : (0 : Int) < (n : Int) := by have := HNr.out; omega
        have hn1 : (1 : Int) ≤ (n : Int) := by omega
        have hn2 : (n : Int) ≤ (c : Int) := by omega
        have hn3 : (1 : Int) ≤ (c : Int) := by omega
        obtain ⟨b, o, rfl, _, hr⟩ := HX.out 0 (by omega)
        have hr : w.rangeAt b (o + 0 * 3) (partCells P) := hr
        rw [show o + 0 * 3 = o by omega] at hr
        obtain ⟨var, text, quoted⟩ := P
        obtain ⟨e0, e1, e2⟩ := part_cells (range_below (box_self HBW.out) hr)
        have hts : name.size + text.size ≤ 1900000 := by
          have := HBK.out
          unfold Word.bulk at this
          simp [Part.bulk] at this
          omega
        dsimp only at e0 e1 e2
        clear hr
        cases var <;> cases quoted
        · have hcat : ¬ (9223372036854775807 < name.size + 1 + text.size) := by omega
          by_cases hc1 : c = 1
          · subst hc1
            obtain rfl : n = 1 := by omega
            obtain rfl : r = [] := List.eq_nil_of_length_eq_zero (by have := HNr.out; omega)
            go_wp2_with fail
            go_meet
            exact ⟨_, [], _, _, rfl, rfl, Lib.hid rfl, Nat.zero_le _, Nat.zero_le _, Lib.hid (fun i hi => absurd hi (Nat.not_lt_zero i)), HBW⟩
          · have hc2 : ¬ ((1 : Int) = (c : Int)) := by omega
            have hc3 : ¬ ((c : Int) = 1) := by omega
            go_wp2_with fail
            go_meet
            refine ⟨_, r, some ⟨b, o + 3, none⟩, c - 1, rfl, by have := HNr.out; rw [show n - 1 = r.length by omega], Lib.hid rfl, by have := HNr.out; omega, by have := HNr.out; omega, Lib.hid (fun i hi => ?_), HBW⟩
            obtain ⟨b', o', hbo, h1, hr⟩ := HX.out (i + 1) (by have := HNr.out; omega)
            simp only [Option.some.injEq, Addr.mk.injEq] at hbo
            obtain ⟨rfl, rfl, _⟩ := hbo
            exact ⟨b, o + 3, rfl, h1, by rw [show o + 3 + i * 3 = o + (i + 1) * 3 by omega]; exact hr⟩
        all_goals go_wp2_with fail
        all_goals go_meet
        all_goals exact ⟨_, _, _, _, rfl, by rw [HN.out], Lib.hid rfl, by rw [HN.out]; exact Nat.le_refl _, by rw [HN.out]; exact hnc, Lib.hid (by rw [HN.out]; exact HX.out), HBW⟩
    case rest =>
      obtain ⟨F, rest, pp, cc, rfl, rfl, HWH, hrn, hrc, HROW, HBW⟩ := hcut
      have hWB : ((⟨false, F, false⟩ :: rest : List Part).map Part.bulk).sum ≤ 1990000 := by
        rw [← HWH.out]
        have h1 := dWhole_bulk name q
        have h2 := HBK.out
        unfold Word.bulk at h2
        dsimp only at h2
        omega
      have HWB := Lib.hid hWB
      clear hWB
      have hbs : w.heap.size + 1 ≤ wc.heap.size := by have := HBW.out.size; simpa using this
      obtain ⟨i0, hi0, hz0, hz1, hz2⟩ := info_parts info_part
      have HOLIT := Lib.hid (World.ownsRow_lit (base := w.heap.size + 1) (e := 33) (size := 3) wc #[.bool false, .string F, .bool false] 1 hbs (by decide) rfl)
      go_upto_region 5 with fail
      go_cut [7] (fun t wx => ∃ (g : Nat) (v : Value), t = .pointer (some ⟨g, 0, none⟩) ∧ Hid (wx.heap[g]? = some (.cells #[v, .int .i64 0] 31 (0, 0))) ∧ Hid (WordR wx [v, .int .i64 0] ⟨dWhole name q, 0⟩) ∧ Hid (Below (w.heap.size + 1) (w.alloc (.cells #[.slice p n c, .int .i64 at_] 31)) wx))
      case first =>
        cases rest with
        | nil =>
          go_wp2_with (first | (at_builtin; refine Sx.wpList_append_zero rfl (.tmp 42) (.tmp 43) 29 rfl (w.heap.size + 1) 33 i0 3 Tryz.underlying29 hi0 _ _ _ rfl (by rw [← hz1] at HOLIT; rw [← hz1]; exact HOLIT.out) pp cc rfl ?_))
          go_meet
          refine ⟨_, _, rfl, Lib.hid (by have := heap_alloc_new (wc.alloc (.cells #[.bool false, .string F, .bool false] 33)) (.cells #[.slice (some ⟨wc.heap.size, 0, none⟩) 1 1, .int .i64 0] 31); simpa using this), Lib.hid ?_, Lib.hid ((HBW.out.alloc hbs _).alloc (by simp; omega) _)⟩
          obtain ⟨p1, c1, hv1, hc1, hc2, hrow⟩ := Sx.own_parts (l := [⟨false, F, false⟩]) (HOLIT.out.alloc (.cells #[.slice (some ⟨wc.heap.size, 0, none⟩) 1 1, .int .i64 0] 31))
          rw [HWH.out]
          exact ⟨p1, c1, by rw [hv1], hc1, hc2, hrow⟩
        | cons P r =>
          obtain ⟨b1, o1, rfl, _, _⟩ := HROW.out 0 (by simp)
          have HNEWS := Lib.hid (Sx.row_news (HROW.out.grown (box_self (box_more (o' := .cells #[.bool false, .string F, .bool false] 33) HBW.out))))
          have HLEN : Hid ((P :: r).length ≤ 2000000) := Lib.hid (Nat.le_trans hrn hl)
          generalize hm : (P :: r).length = m at *
          have HM := Lib.hid hm
          clear hm
          go_wp2_with (first | (at_builtin; refine wpList_append_own _ rfl (.tmp 42) (.tmp 43) 29 rfl (w.heap.size + 1) 33 i0 _ 3 32 Tryz.underlying29 hi0 hz0 hz1 hz2 rfl (by decide) _ 1 _ rfl HOLIT.out ⟨b1, o1, none⟩ m cc (pcells (P :: r)) rfl (by rw [pcells_len, HM.out]) HNEWS.out (Sx.pcells_one _) (by have := HLEN.out; unfold maxLen; omega) (by have := HLEN.out; omega) (by simp; omega) ?_; intro v' w9 hown9 hgrow9 _; have hown10 : w9.ownsRow (w.heap.size + 1) 33 3 v' (⟨false, F, false⟩ :: P :: r : List Part).length (pcells (⟨false, F, false⟩ :: P :: r)) := (by rw [List.length_cons, HM.out, Nat.add_comm m 1]; exact hown9); obtain ⟨pv, cv, rfl⟩ := Sx.own_slice hown10; have HOWN := Lib.hid hown10; have HGROW := Lib.hid hgrow9; clear hown9 hown10 hgrow9))
          go_meet
          have hb9 : Below (w.heap.size + 1) (w.alloc (.cells #[.slice p n c, .int .i64 at_] 31)) w9 := (HBW.out.alloc hbs _).grown HGROW.out (by simp; omega) (fun k hk => (own_where HOLIT.out hk).1)
          refine ⟨_, _, rfl, Lib.hid (heap_alloc_new w9 _), Lib.hid ?_, Lib.hid (hb9.alloc (by have := hb9.size; simpa using this) _)⟩
          obtain ⟨p1, c1, hv1, hc1, hc2, hrow⟩ := Sx.own_parts (l := ⟨false, F, false⟩ :: P :: r) (HOWN.out.alloc (.cells #[.slice pv (⟨false, F, false⟩ :: P :: r : List Part).length cv, .int .i64 0] 31))
          rw [HWH.out]
          exact ⟨p1, c1, congrArg (fun z => [z, Value.int .i64 0]) hv1, hc1, hc2, hrow⟩
      case rest =>
        obtain ⟨g, v, rfl, HG, HWR, HBW2⟩ := hcut
        have hbk : Word.bulk ⟨dWhole name q, 0⟩ ≤ 2000000 := by
          have := HWB.out
          rw [← HWH.out] at this
          unfold Word.bulk
          dsimp only
          omega
        have HASN := Lib.hid (assign_any HWR.out hbk)
        have HMAY : Hid (∀ wx, Below wc.heap.size wc wx → Calls Tryz.prog 58 #[.agg #[v, .int .i64 0]] wx fun e w' => e = .returned (.bool (Word.may ⟨dWhole name q, 0⟩)) ∧ Below wx.heap.size wx w') := Lib.hid fun wx hb => mayWord_any (HWR.out.grown hb) hbk
        have g0 : wc.cell? ⟨g, 0, none⟩ = some v := by rw [cell_of_row _ _ _ _ _ _ HG.out]; rfl
        have g1 : wc.cell? ⟨g, 1, none⟩ = some (.int .i64 0) := by rw [cell_of_row _ _ _ _ _ _ HG.out]; rfl
        have d0 : wc.cell? ⟨w.heap.size, 0, none⟩ = some (.slice p n c) := box_cell HBW2.out 0 rfl
        have d1 : wc.cell? ⟨w.heap.size, 1, none⟩ = some (.int .i64 at_) := box_cell HBW2.out 1 rfl
        have HRR : Hid (R = (Word.assigns ⟨dWhole name q, 0⟩ && ((Word.assignName ⟨dWhole name q, 0⟩).toList == name.toList) && samePs (Word.valueParts ⟨dWhole name q, 0⟩) q && Word.may ⟨dWhole name q, 0⟩)) := HR
        obtain ⟨pv, cv, hcs, _⟩ := HWR.out
        obtain rfl : v = .slice pv (dWhole name q).length cv := by simpa using hcs
        clear hcs HR
        generalize (dWhole name q).length = dl at *
        generalize Word.may ⟨dWhole name q, 0⟩ = M at *
        go_wp2_with fail
        refine HASN.out.mono ?_
        rintro e w10 ⟨⟨nm, vs, vv, rfl, hvs, hres⟩, hb10⟩
        have HB10 := Lib.hid hb10
        have HVS := Lib.hid hvs
        have HRES := Lib.hid hres
        obtain ⟨p3, c3, hcs3, _⟩ := hvs
        clear hb10 hres
        obtain ⟨vsl⟩ := vs
        dsimp only at hcs3
        subst hcs3
        generalize Word.assigns ⟨dWhole name q, 0⟩ = A at *
        have HBE : Hid (Below w.heap.size w w10) := Lib.hid ((box_self HBW2.out).trans (HB10.out.mono (box_self HBW2.out).size))
        have hs10 : w.heap.size ≤ w10.heap.size := HBE.out.size
        cases A with
        | false =>
          go_wp2_with fail
          go_ret
          exact ⟨ret_bool (by rw [HRR.out]; rfl), HBE.out.alloc hs10 _⟩
        | true =>
          obtain ⟨hnm, hvp⟩ := HRES.out rfl
          have HR2 : Hid (R = ((nm.toList == name.toList) && samePs vv.parts q && M)) := Lib.hid (by rw [HRR.out, ← hnm, ← hvp]; simp)
          clear hnm hvp HRES HRR
          cases hE : (nm.toList == name.toList) with
          | false =>
            have hne : ¬ nm.toList = name.toList := by intro h; rw [h] at hE; simp at hE
            go_wp2_with fail
            go_ret
            exact ⟨ret_bool (by rw [HR2.out, hE]; rfl), HBE.out.alloc hs10 _⟩
          | true =>
            have heq : nm.toList = name.toList := beq_iff_eq.1 hE
            have HE := Lib.hid hE
            have HB10W : Hid (Below wc.heap.size wc w10) := HB10
            have hb11 : Below w10.heap.size w10 (w10.alloc (.cells #[.slice p3 vv.parts.length c3, .int .i64 vv.at_] 31)) := (Below.refl _ _).alloc (Nat.le_refl _) _
            have HSAME : Hid (∀ wx, Below w10.heap.size w10 wx → Calls Tryz.prog 15 #[.agg #[.slice p3 vv.parts.length c3, .int .i64 vv.at_], .agg #[.slice p n c, .int .i64 at_]] wx fun e w' => e = .returned (.bool (samePs vv.parts q)) ∧ Below wx.heap.size wx w') := Lib.hid fun wx hb => by
              have h1 := HVS.out.grown hb
              have h2 : WordR wx [.slice p n c, .int .i64 at_] ⟨q, at_⟩ := HWX.out.grown (HBE.out.trans (hb.mono hs10))
              exact sameWord_any h1 h2
            have x0 := cell_kept hb11 (cell_kept HB10.out d0)
            have x1 := cell_kept hb11 (cell_kept HB10.out d1)
            have y0 : (w10.alloc (.cells #[.slice p3 vv.parts.length c3, .int .i64 vv.at_] 31)).cell? ⟨w10.heap.size, 0, none⟩ = some (.slice p3 vv.parts.length c3) := box_cell (Below.refl _ _) 0 rfl
            have y1 : (w10.alloc (.cells #[.slice p3 vv.parts.length c3, .int .i64 vv.at_] 31)).cell? ⟨w10.heap.size, 1, none⟩ = some (.int .i64 vv.at_) := box_cell (Below.refl _ _) 1 rfl
            generalize samePs vv.parts q = S at *
            cases S with
            | false =>
              go_wp2_with fail
              refine (HSAME.out _ hb11).mono ?_
              rintro e w12 ⟨rfl, hb12⟩
              have HB12 := Lib.hid hb12
              clear hb12
              go_wp2_with fail
              go_ret
              exact ⟨ret_bool (by rw [HR2.out, HE.out]; rfl), (HBE.out.alloc hs10 _).trans (HB12.out.mono (by simp; omega))⟩
            | true =>
              go_wp2_with fail
              refine (HSAME.out _ hb11).mono ?_
              rintro e w12 ⟨rfl, hb12⟩
              have HB12 := Lib.hid hb12
              have hb1012 : Below w10.heap.size w10 w12 := hb11.trans (hb12.mono (by simp))
              have z0 := cell_kept hb1012 (cell_kept HB10.out g0)
              have z1 := cell_kept hb1012 (cell_kept HB10.out g1)
              have HBC : Hid (Below wc.heap.size wc w12) := Lib.hid (HB10.out.trans (hb1012.mono HB10.out.size))
              clear hb12 hb1012 x0 x1 y0 y1 hb11
              go_wp2_with fail
              refine (HMAY.out _ HBC.out).mono ?_
              rintro e w13 ⟨rfl, hb13⟩
              have HB13 := Lib.hid hb13
              clear hb13
              go_wp2_with fail
              go_ret
              exact ⟨ret_bool (by rw [HR2.out, HE.out]; simp), ((HBE.out.alloc hs10 _).trans (HB12.out.mono (by simp; omega))).trans (HB13.out.mono (by have := HB12.out.size; simp at this; omega))⟩
end Go.Proofs.YtpibjhlldlbocaaGreat
