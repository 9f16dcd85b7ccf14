/- Walks over nodes: one in memory of its own, of the law. -/
import Derived.Test.YtfilbknnpjbmcaaGreatKa13
import Derived.Test.YtfilbknnpjbmcaaGreatKa23
import Derived.Laws.AppendOwnNone
namespace Go.Proofs.YtfilbknnpjbmcaaGreat
open Go.RowKit Px Nx

theorem Nx.wpList_append_zero {P : Program} {w : World} {ops : Array Oper} {rest : List Oper} {o : Oper} {a : Act} {Q : Exit → Act → World → Prop} (hgd : o.guard = none) (s x : Operand) (t : TypeId)
    (ho : o.op = .call { callee := .builtin .append, args := #[s, x], argTypes := #[t, t] })
    (base : Nat) (e : TypeId) (i : TypeInfo) (size : Nat) (ht : P.underlying t = some (.slice e)) (hi : P.info? e = some i)
    (v : Value) (n : Nat) (xs : List Value) (hs : a.eval s = v) (hown : w.ownsRow base e size v n xs) (pp : Option Addr) (cc : Nat) (hx : a.eval x = .slice pp 0 cc)
    (h : wpList P ops Q rest (a.put o.dst v) w) : wpList P ops Q (o :: rest) a w := by
  refine wpList_plain hgd fun K hK => ?_
  have hrun : (Builtin.append_ #[t, t] o.type #[v, .slice pp 0 cc]).run P w = .ok v w := by
    rcases hown.2 with ⟨rfl, rfl⟩ | ⟨g, cap, cur, rfl, _, _, hnc, _⟩
    · cases pp <;> simp [Builtin.append_, run_underlying ht, sizeOf, typeInfo, hi, Builtin.lenOf, Builtin.firstCells, loadCells, loadCellsFrom]
    · cases pp <;> simp [Builtin.append_, run_underlying ht, sizeOf, typeInfo, hi, Builtin.lenOf, Builtin.firstCells, loadCells, loadCellsFrom, hnc, storeCells]
  unfold Oper.wp
  simp [execOp, ho, resolve, invoke, builtin, hs, hx, hrun, Result.andThen]
  exact hK _ _ h

theorem infoNode : (Tryz.prog.info? 25).map (fun i => (i.zero, i.size, i.bytes)) = some (some (.agg #[.int .u8 0, .string ⟨#[]⟩, .slice none 0 0, .slice none 0 0]), 4, 72) := by kernel_rfl
theorem info_parts {i : Option TypeInfo} {z : Option Value} {n m : Nat} (h : i.map (fun i => (i.zero, i.size, i.bytes)) = some (z, n, m)) : ∃ j, i = some j ∧ j.zero = z ∧ j.size = n ∧ j.bytes = m := by
  cases i with
  | none => cases h
  | some j =>
    simp only [Option.map_some, Option.some.injEq, Prod.mk.injEq] at h
    exact ⟨j, rfl, h.1, h.2.1, h.2.2⟩
theorem empty_row (w : World) (base g : Nat) (hg : g = w.heap.size) (hb : base ≤ g) : (w.alloc (.cells #[] 9)).ownsRow base 9 1 (.slice (some ⟨g, 0, none⟩) 0 0) 0 [] := by
  subst hg
  exact ⟨rfl, .inr ⟨w.heap.size, 0, #[], rfl, hb, heap_alloc_new w _, Nat.le_refl _, Nat.zero_le _, rfl, rfl⟩⟩
/-- The cells of a list of texts, as a row to be appended. -/
theorem strs_news {w : World} {b o : Nat} {l : List ByteArray} (h : Strs w (some ⟨b, o, none⟩) l) : ∀ (j : Nat) u, (l.map Value.string)[j]? = some u → w.cell? ((⟨b, o, none⟩ : Addr).add j) = some u := by
  intro j u hj
  rw [List.getElem?_map] at hj
  obtain ⟨x, hx, rfl⟩ := Option.map_eq_some_iff.1 hj
  have hlt := (List.getElem?_eq_some_iff.1 hx).1
  obtain ⟨b', o', he, hc⟩ := h j hlt
  obtain ⟨rfl, rfl⟩ : b = b' ∧ o = o' := by simpa using he
  have : (⟨b, o, none⟩ : Addr).add j = ⟨b, o + j, none⟩ := by unfold Addr.add; split <;> simp_all
  rw [this, hc, List.getD_eq_getElem?_getD, hx]
  rfl
theorem strings_one (l : List ByteArray) : ∀ u ∈ l.map Value.string, u.oneCell' = true := by
  intro u hu
  obtain ⟨x, _, rfl⟩ := List.mem_map.1 hu
  rfl

/-- append(s, x...) of a list of texts. -/
theorem wpList_append_strs {P : Program} (w : World) {ops : Array Oper} {rest : List Oper} {o : Oper} {a : Act} {Q : Exit → Act → World → Prop} (hgd : o.guard = none) (s x : Operand) (t : TypeId)
    (ho : o.op = .call { callee := .builtin .append, args := #[s, x], argTypes := #[t, t] })
    (base : Nat) (e : TypeId) (i : TypeInfo) (z : Value) (ht : P.underlying t = some (.slice e)) (hi : P.info? e = some i) (hz : i.zero = some z)
    (hsize : i.size = 1) (hby : i.bytes = 16) (hzs : z.cells.size = 1)
    (v : Value) (n : Nat) (xs : List Value) (hs : a.eval s = v) (hown : w.ownsRow base e 1 v n xs)
    (p : Option Addr) (c : Nat) (l : List ByteArray) (hx : a.eval x = .slice p l.length c) (hl : Strs w p l) (hn : n + l.length ≤ 4294967296) (hbase : base ≤ w.heap.size)
    (h : ∀ v' w', w'.ownsRow base e 1 v' (n + l.length) (xs ++ l.map Value.string) → w.grownBy w' v.ownBlock → (v'.ownBlock = v.ownBlock ∨ v'.ownBlock = some w.heap.size) → wpList P ops Q rest (a.put o.dst v') w') : wpList P ops Q (o :: rest) a w := by
  by_cases h0 : l = []
  · subst h0
    exact Nx.wpList_append_zero hgd s x t ho base e i 1 ht hi v n xs hs hown p c hx (h v w (by simpa using hown) (World.grownBy.refl w _) (.inl rfl))
  · obtain ⟨b, f, rfl, _⟩ := hl 0 (List.length_pos_iff.2 h0)
    exact wpList_append_own_at w hgd s x t ho base e i z 1 16 ht hi hz hsize hby hzs (by decide) v n xs hs hown ⟨b, f, none⟩ l.length c (l.map Value.string) hx (by simp) (strs_news hl) (strings_one l) (by unfold maxLen; omega) (by omega) hbase (fun v' w' h1 h2 _ h4 => h v' w' h1 h2 h4)
theorem three_kept {w w1 : World} {a b c d e f g h : Value} {o : Obj} {row : Option Nat} (hg : (((w.alloc (.cells #[a, b, c, d] 25)).alloc (.cells #[e, f, g, h] 25)).alloc o).grownBy w1 row) (hr : row = some (w.heap.size + 2)) :
    Four w1 w.heap.size a b c d ∧ Four w1 (w.heap.size + 1) e f g h ∧ Below w.heap.size w w1 := by
  subst hr
  refine ⟨?_, ?_, ?_⟩
  · unfold Four
    rw [hg.block _ (by simp <;> omega) (by simp <;> omega), Below.heap_alloc _ _ _ (by simp <;> omega), Below.heap_alloc _ _ _ (by simp <;> omega)]
    exact heap_alloc_new w _
  · unfold Four
    rw [hg.block _ (by simp <;> omega) (by simp <;> omega), Below.heap_alloc _ _ _ (by simp <;> omega)]
    have := heap_alloc_new (w.alloc (.cells #[a, b, c, d] 25)) (.cells #[e, f, g, h] 25)
    simpa using this
  · exact ((((Below.refl w.heap.size w).alloc (Nat.le_refl _) _).alloc (by simp) _).alloc (by simp <;> omega) _).grown hg (by simp <;> omega) fun k hk => by cases hk; omega
theorem own_unique {w : World} {base : Nat} {e : TypeId} {size : Nat} {v : Value} {n : Nat} {xs ys : List Value} (h : w.ownsRow base e size v n xs) (h' : w.ownsRow base e size v n ys) : xs = ys := by
  rcases h.2 with ⟨rfl, h0⟩ | ⟨g, cap, cur, rfl, hg, hh, hn, hm, hc, ht⟩
  · have h1 := h.1
    have h2 := h'.1
    rw [h0] at h1 h2
    have e1 : xs = [] := List.length_eq_zero_iff.1 (by simpa using h1)
    have e2 : ys = [] := List.length_eq_zero_iff.1 (by simpa using h2)
    rw [e1, e2]
  · rcases h'.2 with ⟨h1, _⟩ | ⟨g', cap', cur', he, hg', hh', hn', hm', hc', ht'⟩
    · cases h1
    · obtain ⟨rfl, rfl⟩ : g = g' ∧ cap = cap' := by simpa using he
      obtain rfl : cur = cur' := by
        have := hh.symm.trans hh'
        simpa using this
      exact ht.symm.trans ht'
theorem own_slice {w : World} {base : Nat} {e : TypeId} {size : Nat} {v : Value} {n : Nat} {xs : List Value} (h : w.ownsRow base e size v n xs) : ∃ p c, v = .slice p n c := by
  rcases h.2 with ⟨rfl, rfl⟩ | ⟨g, cap, cur, rfl, _⟩
  · exact ⟨none, 0, rfl⟩
  · exact ⟨_, cap, rfl⟩
theorem free_alloc {w : World} {old base : Nat} {vn v : Value} {cs : List Value} {x : Nd} (h : NodeX w (Free w old base vn v) cs x) (hold : old ≤ w.heap.size) (o : Obj) : NodeX (w.alloc o) (Free (w.alloc o) old base vn v) cs x :=
  h.same fun b hb => by
    rcases hb with hlt | ⟨a1, a2, a3, a4⟩
    · exact ⟨Below.heap_alloc _ _ _ (by omega), .inl hlt⟩
    · exact ⟨Below.heap_alloc _ _ _ a2, .inr ⟨a1, by simp; omega, a3, a4⟩⟩
theorem nodeX_cells {W : World} {S : Nat → Prop} {vs : Array Value} {x : Nd} (h : NodeX W S vs.toList x) : ∃ p q c d, vs = #[.int .u8 x.kind.toNat, .string x.text, .slice p x.names.length c, .slice q x.kids.length d] := by
  obtain ⟨p, q, c, d, he⟩ := h.to.cells
  refine ⟨p, q, c, d, ?_⟩
  rw [← Array.toList_inj, he]
theorem Four.set1 {w : World} {g : Nat} {v0 v1 v2 v3 : Value} (h : Four w g v0 v1 v2 v3) (u : Value) : Four (w.setCell ⟨g, 2, none⟩ u) g v0 v1 u v3 := heap_setCell_same w g 2 _ _ u h
theorem Four.set3 {w : World} {g : Nat} {v0 v1 v2 v3 : Value} (h : Four w g v0 v1 v2 v3) (u : Value) : Four (w.setCell ⟨g, 3, none⟩ u) g v0 v1 v2 u := heap_setCell_same w g 3 _ _ u h
theorem Four.far {w : World} {g k j : Nat} {v0 v1 v2 v3 : Value} (h : Four w g v0 v1 v2 v3) (hk : g ≠ k) (u : Value) : Four (w.setCell ⟨k, j, none⟩ u) g v0 v1 v2 v3 := by
  unfold Four at *
  rw [heap_setCell_other _ _ _ _ hk]
  exact h
theorem Four.grown {w w' : World} {g : Nat} {row : Option Nat} {v0 v1 v2 v3 : Value} (h : Four w g v0 v1 v2 v3) (hg : w.grownBy w' row) (hr : some g ≠ row) : Four w' g v0 v1 v2 v3 := by
  unfold Four at *
  rw [hg.block _ (by
    rcases Nat.lt_or_ge g w.heap.size with hlt | hge
    · exact hlt
    · rw [Array.getElem?_eq_none hge] at h; cases h) hr]
  exact h
theorem Four.alloc {w : World} {g : Nat} {v0 v1 v2 v3 : Value} (h : Four w g v0 v1 v2 v3) (o : Obj) : Four (w.alloc o) g v0 v1 v2 v3 := by
  unfold Four at *
  rw [Below.heap_alloc _ _ _ (by
    rcases Nat.lt_or_ge g w.heap.size with hlt | hge
    · exact hlt
    · rw [Array.getElem?_eq_none hge] at h; cases h)]
  exact h

end Go.Proofs.YtfilbknnpjbmcaaGreat
