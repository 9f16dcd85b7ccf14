/- Walks over nodes: one in memory of its own, of the law. -/
import Derived.Test.YtonpeoaahjoboaaFtK
import Derived.Laws.AppendOwnNone
namespace Go.Proofs.Ytonpeoaahjoboaa
open Go.RowKit Px Nx

theorem Nx.wpList_append_zero {P : Program} {w : World} {ops : Array Oper} {rest : List Oper} {o : Oper} {a : Act} {Q : Exit → Act → World → Prop} (hgd : o.guard = none) (s x : Operand) (t : TypeId)
    (ho : o.op = .call { callee := .builtin .append, args := #[s, x], argTypes := #[t, t] })
    (base : Nat) (e : TypeId) (i : TypeInfo) (size : Nat) (ht : P.underlying t = some (.slice e)) (hi : P.info? e = some i)
    (v : Value) (n : Nat) (xs : List Value) (hs : a.eval s = v) (hown : w.ownsRow base e size v n xs) (pp : Option Addr) (cc : Nat) (hx : a.eval x = .slice pp 0 cc)
    (h : wpList P ops Q rest (a.put o.dst v) w) : wpList P ops Q (o :: rest) a w := by
  refine wpList_plain hgd fun K hK => ?_
  have hrun : (Builtin.append_ #[t, t] o.type #[v, .slice pp 0 cc]).run P w = .ok v w := by
    rcases hown.2 with ⟨rfl, rfl⟩ | ⟨g, cap, cur, rfl, _, _, hnc, _⟩
    · cases pp <;> simp [Builtin.append_, run_underlying ht, sizeOf, typeInfo, hi, Builtin.lenOf, Builtin.firstCells, loadCells, loadCellsFrom]
    · cases pp <;> simp [Builtin.append_, run_underlying ht, sizeOf, typeInfo, hi, Builtin.lenOf, Builtin.firstCells, loadCells, loadCellsFrom, hnc, storeCells]
  unfold Oper.wp
  simp [execOp, ho, resolve, invoke, builtin, hs, hx, hrun, Result.andThen]
  exact hK _ _ h

theorem infoStr : (Try.prog.info? 9).map (fun i => (i.zero, i.size, i.bytes)) = some (some (.string ⟨#[]⟩), 1, 16) := by kernel_rfl
theorem infoNode : (Try.prog.info? 40).map (fun i => (i.zero, i.size, i.bytes)) = some (some (.agg #[.int .u8 0, .string ⟨#[]⟩, .slice none 0 0, .slice none 0 0]), 4, 72) := by kernel_rfl
theorem info_parts {i : Option TypeInfo} {z : Option Value} {n m : Nat} (h : i.map (fun i => (i.zero, i.size, i.bytes)) = some (z, n, m)) : ∃ j, i = some j ∧ j.zero = z ∧ j.size = n ∧ j.bytes = m := by
  cases i with
  | none => cases h
  | some j =>
    simp only [Option.map_some, Option.some.injEq, Prod.mk.injEq] at h
    exact ⟨j, rfl, h.1, h.2.1, h.2.2⟩
theorem empty_row (w : World) (base g : Nat) (hg : g = w.heap.size) (hb : base ≤ g) : (w.alloc (.cells #[] 9)).ownsRow base 9 1 (.slice (some ⟨g, 0, none⟩) 0 0) 0 [] := by
  subst hg
  exact ⟨rfl, .inr ⟨w.heap.size, 0, #[], rfl, hb, heap_alloc_new w _, Nat.le_refl _, Nat.zero_le _, rfl, rfl⟩⟩
/-- The cells of a list of texts, as a row to be appended. -/
theorem strs_news {w : World} {b o : Nat} {l : List ByteArray} (h : Strs w (some ⟨b, o, none⟩) l) : ∀ (j : Nat) u, (l.map Value.string)[j]? = some u → w.cell? ((⟨b, o, none⟩ : Addr).add j) = some u := by
  intro j u hj
  rw [List.getElem?_map] at hj
  obtain ⟨x, hx, rfl⟩ := Option.map_eq_some_iff.1 hj
  have hlt := (List.getElem?_eq_some_iff.1 hx).1
  obtain ⟨b', o', he, hc⟩ := h j hlt
  obtain ⟨rfl, rfl⟩ : b = b' ∧ o = o' := by simpa using he
  have : (⟨b, o, none⟩ : Addr).add j = ⟨b, o + j, none⟩ := by unfold Addr.add; split <;> simp_all
  rw [this, hc, List.getD_eq_getElem?_getD, hx]
  rfl
theorem strings_one (l : List ByteArray) : ∀ u ∈ l.map Value.string, u.oneCell' = true := by
  intro u hu
  obtain ⟨x, _, rfl⟩ := List.mem_map.1 hu
  rfl

/-- append(s, x...) of a list of texts. -/
theorem wpList_append_strs {P : Program} (w : World) {ops : Array Oper} {rest : List Oper} {o : Oper} {a : Act} {Q : Exit → Act → World → Prop} (hgd : o.guard = none) (s x : Operand) (t : TypeId)
    (ho : o.op = .call { callee := .builtin .append, args := #[s, x], argTypes := #[t, t] })
    (base : Nat) (e : TypeId) (i : TypeInfo) (z : Value) (ht : P.underlying t = some (.slice e)) (hi : P.info? e = some i) (hz : i.zero = some z)
    (hsize : i.size = 1) (hby : i.bytes = 16) (hzs : z.cells.size = 1)
    (v : Value) (n : Nat) (xs : List Value) (hs : a.eval s = v) (hown : w.ownsRow base e 1 v n xs)
    (p : Option Addr) (c : Nat) (l : List ByteArray) (hx : a.eval x = .slice p l.length c) (hl : Strs w p l) (hn : n + l.length ≤ 4294967296) (hbase : base ≤ w.heap.size)
    (h : ∀ v' w', w'.ownsRow base e 1 v' (n + l.length) (xs ++ l.map Value.string) → w.grownBy w' v.ownBlock → (v'.ownBlock = v.ownBlock ∨ v'.ownBlock = some w.heap.size) → wpList P ops Q rest (a.put o.dst v') w') : wpList P ops Q (o :: rest) a w := by
  by_cases h0 : l = []
  · subst h0
    exact Nx.wpList_append_zero hgd s x t ho base e i 1 ht hi v n xs hs hown p c hx (h v w (by simpa using hown) (World.grownBy.refl w _) (.inl rfl))
  · obtain ⟨b, f, rfl, _⟩ := hl 0 (List.length_pos_iff.2 h0)
    exact wpList_append_own_at w hgd s x t ho base e i z 1 16 ht hi hz hsize hby hzs (by decide) v n xs hs hown ⟨b, f, none⟩ l.length c (l.map Value.string) hx (by simp) (strs_news hl) (strings_one l) (by unfold maxLen; omega) (by omega) hbase (fun v' w' h1 h2 _ h4 => h v' w' h1 h2 h4)
theorem three_kept {w w1 : World} {a b c d e f g h : Value} {o : Obj} {row : Option Nat} (hg : (((w.alloc (.cells #[a, b, c, d] 40)).alloc (.cells #[e, f, g, h] 40)).alloc o).grownBy w1 row) (hr : row = some (w.heap.size + 2)) :
    Four w1 w.heap.size a b c d ∧ Four w1 (w.heap.size + 1) e f g h ∧ Below w.heap.size w w1 := by
  subst hr
  refine ⟨?_, ?_, ?_⟩
  · unfold Four
    rw [hg.block _ (by simp <;> omega) (by simp <;> omega), Below.heap_alloc _ _ _ (by simp <;> omega), Below.heap_alloc _ _ _ (by simp <;> omega)]
    exact heap_alloc_new w _
  · unfold Four
    rw [hg.block _ (by simp <;> omega) (by simp <;> omega), Below.heap_alloc _ _ _ (by simp <;> omega)]
    have := heap_alloc_new (w.alloc (.cells #[a, b, c, d] 40)) (.cells #[e, f, g, h] 40)
    simpa using this
  · exact ((((Below.refl w.heap.size w).alloc (Nat.le_refl _) _).alloc (by simp) _).alloc (by simp <;> omega) _).grown hg (by simp <;> omega) fun k hk => by cases hk; omega
theorem own_unique {w : World} {base : Nat} {e : TypeId} {size : Nat} {v : Value} {n : Nat} {xs ys : List Value} (h : w.ownsRow base e size v n xs) (h' : w.ownsRow base e size v n ys) : xs = ys := by
  rcases h.2 with ⟨rfl, h0⟩ | ⟨g, cap, cur, rfl, hg, hh, hn, hm, hc, ht⟩
  · have h1 := h.1
    have h2 := h'.1
    rw [h0] at h1 h2
    have e1 : xs = [] := List.length_eq_zero_iff.1 (by simpa using h1)
    have e2 : ys = [] := List.length_eq_zero_iff.1 (by simpa using h2)
    rw [e1, e2]
  · rcases h'.2 with ⟨h1, _⟩ | ⟨g', cap', cur', he, hg', hh', hn', hm', hc', ht'⟩
    · cases h1
    · obtain ⟨rfl, rfl⟩ : g = g' ∧ cap = cap' := by simpa using he
      obtain rfl : cur = cur' := by
        have := hh.symm.trans hh'
        simpa using this
      exact ht.symm.trans ht'
theorem own_slice {w : World} {base : Nat} {e : TypeId} {size : Nat} {v : Value} {n : Nat} {xs : List Value} (h : w.ownsRow base e size v n xs) : ∃ p c, v = .slice p n c := by
  rcases h.2 with ⟨rfl, rfl⟩ | ⟨g, cap, cur, rfl, _⟩
  · exact ⟨none, 0, rfl⟩
  · exact ⟨_, cap, rfl⟩
theorem free_alloc {w : World} {old base : Nat} {vn v : Value} {cs : List Value} {x : Nd} (h : NodeX w (Free w old base vn v) cs x) (hold : old ≤ w.heap.size) (o : Obj) : NodeX (w.alloc o) (Free (w.alloc o) old base vn v) cs x :=
  h.same fun b hb => by
    rcases hb with hlt | ⟨a1, a2, a3, a4⟩
    · exact ⟨Below.heap_alloc _ _ _ (by omega), .inl hlt⟩
    · exact ⟨Below.heap_alloc _ _ _ a2, .inr ⟨a1, by simp; omega, a3, a4⟩⟩
theorem nodeX_cells {W : World} {S : Nat → Prop} {vs : Array Value} {x : Nd} (h : NodeX W S vs.toList x) : ∃ p q c d, vs = #[.int .u8 x.kind.toNat, .string x.text, .slice p x.names.length c, .slice q x.kids.length d] := by
  obtain ⟨p, q, c, d, he⟩ := h.to.cells
  refine ⟨p, q, c, d, ?_⟩
  rw [← Array.toList_inj, he]
theorem Four.set1 {w : World} {g : Nat} {v0 v1 v2 v3 : Value} (h : Four w g v0 v1 v2 v3) (u : Value) : Four (w.setCell ⟨g, 2, none⟩ u) g v0 v1 u v3 := heap_setCell_same w g 2 _ _ u h
theorem Four.set3 {w : World} {g : Nat} {v0 v1 v2 v3 : Value} (h : Four w g v0 v1 v2 v3) (u : Value) : Four (w.setCell ⟨g, 3, none⟩ u) g v0 v1 v2 u := heap_setCell_same w g 3 _ _ u h
theorem Four.far {w : World} {g k j : Nat} {v0 v1 v2 v3 : Value} (h : Four w g v0 v1 v2 v3) (hk : g ≠ k) (u : Value) : Four (w.setCell ⟨k, j, none⟩ u) g v0 v1 v2 v3 := by
  unfold Four at *
  rw [heap_setCell_other _ _ _ _ hk]
  exact h
theorem Four.grown {w w' : World} {g : Nat} {row : Option Nat} {v0 v1 v2 v3 : Value} (h : Four w g v0 v1 v2 v3) (hg : w.grownBy w' row) (hr : some g ≠ row) : Four w' g v0 v1 v2 v3 := by
  unfold Four at *
  rw [hg.block _ (by
    rcases Nat.lt_or_ge g w.heap.size with hlt | hge
    · exact hlt
    · rw [Array.getElem?_eq_none hge] at h; cases h) hr]
  exact h
theorem Four.alloc {w : World} {g : Nat} {v0 v1 v2 v3 : Value} (h : Four w g v0 v1 v2 v3) (o : Obj) : Four (w.alloc o) g v0 v1 v2 v3 := by
  unfold Four at *
  rw [Below.heap_alloc _ _ _ (by
    rcases Nat.lt_or_ge g w.heap.size with hlt | hge
    · exact hlt
    · rw [Array.getElem?_eq_none hge] at h; cases h)]
  exact h

set_option maxRecDepth 100000 in
set_option maxHeartbeats 4000000 in
theorem given_any {W : World} {cs : List Value} {c : Nd} (h : NodeR W cs c) : ∀ w, Below W.heap.size W w → c.girth ≤ 2000000 →
    Calls Try.prog 44 #[.agg cs.toArray] w fun e w' => (∃ vs, e = .returned (.agg vs) ∧ NodeX w' (fun b => w.heap.size ≤ b ∧ b < w'.heap.size) vs.toList c) ∧ Below w.heap.size w w' := by
  obtain ⟨i0, hi, hz0, hz1, hz2⟩ := info_parts infoStr
  obtain ⟨j0, hj, hy0, hy1, hy2⟩ := info_parts infoNode
  induction h with
  | mk kind text names kids p q cp d D h1 h2 h3 h5 h6 h7 h8 ih =>
    intro w hb hB
    have hlen : kids.length ≤ 2000000 := by
      unfold Nd.girth at hB
      omega
    have hnl : names.length ≤ 2000000 := by
      have := namesBulk_len names
      unfold Nd.girth at hB
      omega
    have hkb : Nd.girths kids ≤ 2000000 := by unfold Nd.girth at hB; omega
    have IH := Lib.hid ih
    have HK := Lib.hid h8
    have HR := Lib.hid h7
    have HS := Lib.hid h3
    have HW := Lib.hid hb
    clear ih h8 h7 h3 hb hB
    generalize hkn : kids.length = kn at *
    have HKN := Lib.hid hkn
    clear hkn
    have HTWO : Hid (∀ {w1 : World} {vn : Value}, w1.ownsRow (w.heap.size + 2) 9 1 vn names.length (names.map Value.string) → w.heap.size + 2 ≤ w1.heap.size → TwoRows w1 0 (w.heap.size + 2) vn names (.slice none 0 0) []) := Lib.hid fun h hs =>
      ⟨hs, Nat.zero_le _, h, by cases (Value.ownBlock _) with | none => exact .inl rfl | some g => exact .inr (fun e => by cases e), [], World.ownsRow_nil _ _ _ _, fun i x hx => by simp at hx⟩
    go_enter Try.func44, Try.ntmps44
    have HSG : Hid (∀ {w1 : World}, Below W.heap.size W w1 → Strs w1 p names) := Lib.hid fun h => HS.out.grown h
    go_wp2_with (at_builtin; refine wpList_append_strs _ rfl (.tmp 5) (.tmp 7) 22 rfl (w.heap.size + 2) 9 i0 (.string ⟨#[]⟩) Try.underlying22 hi hz0 hz1 hz2 rfl _ _ _ rfl (empty_row _ _ _ (by simp) (by omega)) p cp names rfl (HSG.out (((HW.out.alloc HW.out.size _).alloc (by have := HW.out.size; simp; omega) _).alloc (by have := HW.out.size; simp; omega) _)) (by omega) (by simp) ?_; intro v' w1 hown1 hgrow1 hat1; obtain ⟨hv1, hz1', hbw1⟩ := three_kept hgrow1 rfl; have HV1 := Lib.hid hv1; have HZ1 := Lib.hid hz1'; have HB1 := Lib.hid hbw1; have HT1 := Lib.hid (HTWO.out (by simpa using hown1) (by have := hgrow1.size; simp at this; omega)); obtain ⟨pn, cn, rfl, _, _, _⟩ := plR_of_own (xs := names) (by simpa using hown1); obtain ⟨c0, c1x, c2x, c3⟩ := hv1.cell; obtain ⟨y0, y1, y2, y3⟩ := hv1.open_; clear hv1 hz1' hbw1 hgrow1 hown1 hat1)
    have HVs := Lib.hid (HV1.out.set1 (.slice pn names.length cn))
    have HZs := Lib.hid (HZ1.out.far (k := w.heap.size) (j := 2) (by omega) (.slice pn names.length cn))
    have HBs : Hid (Below w.heap.size w (w1.setCell ⟨w.heap.size, 2, none⟩ (.slice pn names.length cn))) := Lib.hid (HB1.out.setCell (p := ⟨w.heap.size, 2, none⟩) (Nat.le_refl _) _)
    have HTs : Hid (TwoRows (w1.setCell ⟨w.heap.size, 2, none⟩ (.slice pn names.length cn)) 0 (w.heap.size + 2) (.slice pn names.length cn) names (.slice none 0 0) []) := Lib.hid (HT1.out.kept (by simp) fun b hb _ => heap_setCell_other _ _ _ _ (by simp; omega))
    clear HV1 HZ1 HB1 HT1 HTWO HSG y0 y1 y2 y3 c0 c1x c2x c3
    generalize w1.setCell ⟨w.heap.size, 2, none⟩ (.slice pn names.length cn) = w2 at *
    go_loopw [3, 4] (fun v i wr => ∃ (k : Nat) (pv : Option Addr) (dv : Nat), k ≤ kn ∧ i = .int .i64 k ∧ v = .slice pv k dv ∧ Hid (TwoRows wr 0 (w.heap.size + 2) (.slice pn names.length cn) names (.slice pv k dv) (kids.take k)) ∧
      Hid (Four wr w.heap.size (.int .u8 kind.toNat) (.string text) (.slice pn names.length cn) (.slice q kn d)) ∧ Hid (Four wr (w.heap.size + 1) (.int .u8 0) (.string ⟨#[]⟩) (.slice none 0 0) (.slice none 0 0)) ∧ Hid (Below w.heap.size w wr)) (fun _ i _ => kn - (intOf i).toNat)
    case atStart => exact ⟨0, none, 0, Nat.zero_le _, rfl, rfl, HTs, HVs, HZs, HBs⟩
    case round =>
      obtain ⟨k, pv, dv, hk, rfl, rfl, HT, HV, HZ, HB⟩ := hrel
      obtain ⟨c0, c1x, c2x, c3⟩ := HV.out.cell
      obtain ⟨y0, y1, y2, y3⟩ := HV.out.open_
      obtain ⟨z0, z1, z2, z3⟩ := HZ.out.cell
      obtain ⟨x0, x1, x2, x3⟩ := HZ.out.open_
      by_cases hlt : k < kn
      · have HOLD : Hid (Below W.heap.size W wr) := Lib.hid (HW.out.trans (HB.out.mono HW.out.size))
        obtain ⟨bq, oq, u0, u1, u2, u3, rfl, hD, e0, e1, e2, e3⟩ := kid_at HR.out HOLD.out hlt
        have hkx : k < kids.length := by rw [HKN.out]; exact hlt
        have HX := Lib.hid (List.getElem?_eq_getElem hkx)
        have HTK : Hid (kids.take (k + 1) = kids.take k ++ [kids[k]]) := Lib.hid (List.take_succ_eq_append_getElem hkx)
        generalize kids[k] = x at HX HTK
        have hxb : x.girth ≤ 2000000 := Nat.le_trans (Nd.girth_kid HX.out) hkb
        have HC := Lib.hid (IH.out k x HX.out wr HOLD.out hxb)
        rw [hD] at HC
        clear hD
        go_wp2_with fail
        refine HC.out.mono ?_
        rintro e w3 ⟨⟨vs, rfl, hvs⟩, hb3⟩
        have HB3 := Lib.hid hb3
        have HF3 := Lib.hid (HT.out.fresh hb3.size hvs)
        have HT3 := Lib.hid (HT.out.below hb3)
        have HV3 := Lib.hid (HV.out.kept hb3)
        have HZ3 := Lib.hid (HZ.out.kept hb3)
        obtain ⟨p4, q4, c4, d4, rfl⟩ := nodeX_cells hvs
        have hbase : w.heap.size + 2 ≤ w3.heap.size := HT3.out.lt
        have hlk : (kids.take k).length = k := by rw [List.length_take]; omega
        obtain ⟨xs, hxs⟩ : ∃ xs, w3.ownsRow (w.heap.size + 2) 40 4 (.slice pv k dv) k xs := by
          obtain ⟨xs, h1, _⟩ := HT3.out.hk
          rw [hlk] at h1
          exact ⟨xs, h1⟩
        have HXS := Lib.hid hxs
        clear hb3 hvs HC c0 c1x c2x c3 y0 y1 y2 y3 z0 z1 z2 z3 x0 x1 x2 x3 hxs
        generalize x.kind.toNat = xk at *
        generalize x.text = xt at *
        generalize x.names.length = xn at *
        generalize x.kids.length = xm at *
        go_wp2_with (at_builtin; refine wpList_append_block_at _ rfl (.tmp 17) (.tmp 24) 38 rfl (w.heap.size + 2) 40 j0 _ 4 72 Try.underlying38 hj hy0 hy1 hy2 rfl (by decide) (by decide) _ _ _ rfl (HXS.out.alloc _) w3.heap.size _ _ _ rfl (heap_alloc1 _ _) rfl rfl (by omega) (by simp; omega) ?_; intro v' w5 hown5 hgrow5 hat5; have HOWN5 := Lib.hid hown5; have HGR5 := Lib.hid hgrow5; have HAT5 := Lib.hid hat5; obtain ⟨pv', dv', rfl⟩ := own_slice hown5; clear hown5 hgrow5 hat5)
        have HLIT := Lib.hid (free_alloc HF3.out (Nat.zero_le _) (.cells #[.int .u8 xk, .string xt, .slice p4 xn c4, .slice q4 xm d4] 40))
        have HT3a : Hid (TwoRows (w3.alloc (.cells #[.int .u8 xk, .string xt, .slice p4 xn c4, .slice q4 xm d4] 40)) 0 (w.heap.size + 2) (.slice pn names.length cn) names (.slice pv k dv) (kids.take k)) := Lib.hid (HT3.out.kept (by simp) fun b _ hlt => Below.heap_alloc _ _ _ hlt)
        have HTN : Hid (TwoRows w5 0 (w.heap.size + 2) (.slice pn names.length cn) names (.slice pv' (k + 1) dv') (kids.take (k + 1))) := Lib.hid (by
          rw [HTK.out]
          refine HT3a.out.kid rfl HLIT.out (fun ys hys => ?_) HGR5.out HAT5.out
          have hys' : (w3.alloc (.cells #[.int .u8 xk, .string xt, .slice p4 xn c4, .slice q4 xm d4] 40)).ownsRow (w.heap.size + 2) 40 4 (.slice pv k dv) k ys := by rw [hlk] at hys; exact hys
          rw [hlk, own_unique hys' (HXS.out.alloc _)]
          exact HOWN5.out)
        have hrow : ∀ g, g < w.heap.size + 2 → some g ≠ Value.ownBlock (.slice pv k dv) := fun g hg e => by
          have := (own_where HXS.out e.symm).1
          omega
        have HVN : Hid (Four w5 w.heap.size (.int .u8 kind.toNat) (.string text) (.slice pn names.length cn) (.slice (some ⟨bq, oq, none⟩) kn d)) := Lib.hid ((HV3.out.alloc _).grown HGR5.out (hrow _ (by omega)))
        have HZN : Hid (Four w5 (w.heap.size + 1) (.int .u8 0) (.string ⟨#[]⟩) (.slice none 0 0) (.slice none 0 0)) := Lib.hid ((HZ3.out.alloc _).grown HGR5.out (hrow _ (by omega)))
        have HBN : Hid (Below w.heap.size w w5) := Lib.hid (((HB.out.trans (HB3.out.mono HB.out.size)).alloc (by have := HB3.out.size; have := HB.out.size; omega) _).grown HGR5.out (by simp; have := HB3.out.size; have := HB.out.size; omega) fun g hg => (by have := (own_where HXS.out hg).1; omega))
        clear HLIT HT3a hrow hlk
        go_wp2_with fail
        go_roundw
        case rel => exact ⟨k + 1, pv', dv', by omega, by go_num, rfl, HTN, HVN, HZN, HBN⟩
        case measure => simp [intOf]; omega
      · have HE : Hid (k = kn) := Lib.hid (by omega)
        have HKT : Hid (kids.take k = kids) := Lib.hid (by rw [HE.out, ← HKN.out, List.take_length])
        go_wp2_with fail
        refine bodyPost_ret (v := .agg #[.int .u8 kind.toNat, .string text, .slice pn names.length cn, .slice pv k dv]) (by simp [results, Try.results44, go_sem, z0, z1, z2, z3]) rfl ?_
        refine ⟨⟨_, rfl, ?_⟩, below_four (HB.out.setCell (p := ⟨w.heap.size, 3, none⟩) (Nat.le_refl _) _) (by omega) _ _ _ _⟩
        have h1 := HT.out
        rw [HKT.out] at h1
        have h2 := (h1.kept (w' := (((((wr.setCell ⟨w.heap.size, 3, none⟩ (.slice pv k dv)).setCell ⟨w.heap.size + 1, 0, none⟩ (.int .u8 kind.toNat)).setCell ⟨w.heap.size + 1, 1, none⟩ (.string text)).setCell ⟨w.heap.size + 1, 2, none⟩ (.slice pn names.length cn)).setCell ⟨w.heap.size + 1, 3, none⟩ (.slice pv k dv))) (by simp) fun b hb _ => by
          rw [heap_setCell_other _ _ _ _ (by simp; omega), heap_setCell_other _ _ _ _ (by simp; omega), heap_setCell_other _ _ _ _ (by simp; omega), heap_setCell_other _ _ _ _ (by simp; omega), heap_setCell_other _ _ _ _ (by simp; omega)]).node kind text
        exact h2.same fun b hb => ⟨rfl, by rcases hb with hb | hb <;> omega⟩
end Go.Proofs.Ytonpeoaahjoboaa
