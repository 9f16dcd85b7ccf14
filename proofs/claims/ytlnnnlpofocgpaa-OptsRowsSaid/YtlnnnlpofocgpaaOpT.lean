/- The rest of a division; rows that stay while another one grows. -/
import Derived.Test.YtlnnnlpofocgpaaOpG
import Derived.Test.YtlnnnlpofocgpaaLib2
import Derived.Laws.AppendOwnNone
namespace Go.Proofs.Ytlnnnlpofocgpaa
open Go.RowKit Ox Px
theorem wp_rem {o : Oper} {a : Act} {w : World} {K : Act → World → Prop} {Q : Exit → Act → World → Prop} {p q : Operand} {x y : Int}
    (ho : o.op = .binOp .rem 3 p q 3) (hp : a.eval p = .int .i64 x) (hq : a.eval q = .int .i64 y) (hy : y ≠ 0) {z : Int} (hz : x.tmod y = z) (h : K (a.put o.dst (.int .i64 z)) w) : o.wp Try.prog a w K Q := by
  have hy0 : (y == 0) = false := beq_eq_false_iff_ne.2 hy
  unfold Oper.wp
  have hr : (execOp a.eval o).run Try.prog w = .ok (.value (.int .i64 z)) w := by
    simp only [execOp, ho]
    rw [hp, hq]
    simp [go_sem, Op.intDiv, hy, hz]
  rw [hr]
  exact h
theorem own_grown {w w' : World} {row : Option Nat} {base : Nat} {e : TypeId} {size : Nat} {v : Value} {n : Nat} {xs : List Value} (h : w.ownsRow base e size v n xs) (hg : w.grownBy w' row) (hne : ∀ g, v.ownBlock = some g → row ≠ some g) : w'.ownsRow base e size v n xs := by
  refine ⟨h.1, ?_⟩
  rcases h.2 with h | ⟨g, cap, cur, rfl, h1, h2, r⟩
  · exact .inl h
  · refine .inr ⟨g, cap, cur, rfl, h1, (hg.block g (Array.getElem?_eq_some_iff.1 h2).1 (fun e => hne g rfl e.symm)).trans h2, r⟩
theorem own_below {w w' : World} {base : Nat} {e : TypeId} {size : Nat} {v : Value} {n : Nat} {xs : List Value} (h : w.ownsRow base e size v n xs) (hb : Below w.heap.size w w') : w'.ownsRow base e size v n xs := by
  refine ⟨h.1, ?_⟩
  rcases h.2 with h | ⟨g, cap, cur, rfl, h1, h2, r⟩
  · exact .inl h
  · exact .inr ⟨g, cap, cur, rfl, h1, (hb.block g (Array.getElem?_eq_some_iff.1 h2).1).trans h2, r⟩
theorem PlR.grownBy {w w' : World} {row : Option Nat} {v : Value} {xs : List ByteArray} (h : PlR w v xs) (hg : w.grownBy w' row) (hne : ∀ p n c, v = .slice p n c → ∀ a, p = some a → row ≠ some a.block) : PlR w' v xs := by
  obtain ⟨p, c, rfl, h1, h2, h3⟩ := h
  refine ⟨p, c, rfl, fun i hi => ?_, h2, h3⟩
  obtain ⟨b, o, rfl, hc⟩ := h1 i hi
  refine ⟨b, o, rfl, ?_⟩
  have hbn := hne _ _ _ rfl _ rfl
  have := hg.block b (World.block_lt_of_cell? _ _ hc) (fun e => hbn e.symm)
  unfold World.cell? at hc ⊢
  simp only [this]
  exact hc
theorem below_own {W w w' : World} {row : Option Nat} {B : Nat} {e : TypeId} {size : Nat} {v : Value} {n : Nat} {xs : List Value} (hb : Below B W w) (h : w.ownsRow B e size v n xs) (hg : w.grownBy w' row) (hr : row = v.ownBlock) (hB : B ≤ w.heap.size) : Below B W w' :=
  hb.grown hg hB fun _k hk => (own_where h (hr.symm.trans hk)).1
theorem one_row (w : World) (B : Nat) (s : ByteArray) (hB : B ≤ w.heap.size) : (w.alloc (.cells #[.string s] 9)).ownsRow B 9 1 (.slice (some ⟨w.heap.size, 0, none⟩) 1 1) 1 [.string s] :=
  ⟨rfl, .inr ⟨w.heap.size, 1, _, rfl, hB, heap_alloc_new w _, Nat.le_refl _, by unfold maxLen; omega, rfl, rfl⟩⟩
theorem own_slice' {w : World} {base : Nat} {e : TypeId} {size : Nat} {v : Value} {n : Nat} {xs : List Value} (h : w.ownsRow base e size v n xs) : ∃ p c, v = .slice p n c := by
  rcases h.2 with ⟨rfl, rfl⟩ | ⟨g, cap, cur, rfl, _⟩
  · exact ⟨_, _, rfl⟩
  · exact ⟨_, _, rfl⟩
theorem wp_append_own_at2 {P : Program} (w : World) {o : Oper} {a : Act} {K : Act → World → Prop} {Q : Exit → Act → World → Prop} (s x : Operand) (t : TypeId)
    (ho : o.op = .call { callee := .builtin .append, args := #[s, x], argTypes := #[t, t] })
    (base : Nat) (e : TypeId) (i : TypeInfo) (z : Value) (size bytes : Nat) (ht : P.underlying t = some (.slice e)) (hi : P.info? e = some i) (hz : i.zero = some z)
    (hsize : i.size = size) (hby : i.bytes = bytes) (hzs : z.cells.size = size) (hsz : 0 < size)
    (v : Value) (n : Nat) (xs : List Value) (hs : a.eval s = v) (hown : w.ownsRow base e size v n xs)
    (ad : Addr) (m c : Nat) (news : List Value) (hx : a.eval x = .slice (some ad) m c) (hl : news.length = m * size) (hnews : ∀ j u, news[j]? = some u → w.cell? (ad.add j) = some u) (h1 : ∀ u ∈ news, u.oneCell' = true)
    (h63 : n + m ≤ maxLen) (hbytes : (n + m) * bytes ≤ 140737488355328) (hbase : base ≤ w.heap.size)
    (h : ∀ v' w', w'.ownsRow base e size v' (n + m) (xs ++ news) → w.grownBy w' v.ownBlock → (v'.ownBlock = v.ownBlock ∨ v'.ownBlock = some w.heap.size) → K (a.put o.dst v') w') : o.wp P a w K Q := by
  obtain ⟨v', w', hr, h2, h3, _, h5⟩ := run_append_own_at (P := P) w base t o.type e i z size bytes ht hi hz hsize hby hzs hsz v n xs hown ad m c news hl hnews h1 h63 hbytes hbase
  unfold Oper.wp execOp
  simp only [ho, resolve, invoke, builtin, Sem.run_bind, Sem.run_pure, Result.andThen_ok, List.map_toArray, List.map_cons, List.map_nil, hs, hx, hr]
  exact h v' w' h2 h3 h5
/-- append(s, x...) of a list of texts, one operation. -/
theorem wp_append_strs2 {P : Program} (w : World) {o : Oper} {a : Act} {K : Act → World → Prop} {Q : Exit → Act → World → Prop} (s x : Operand) (t : TypeId)
    (ho : o.op = .call { callee := .builtin .append, args := #[s, x], argTypes := #[t, t] })
    (base : Nat) (e : TypeId) (i : TypeInfo) (z : Value) (ht : P.underlying t = some (.slice e)) (hi : P.info? e = some i) (hz : i.zero = some z)
    (hsize : i.size = 1) (hby : i.bytes = 16) (hzs : z.cells.size = 1)
    (v : Value) (n : Nat) (xs : List Value) (hs : a.eval s = v) (hown : w.ownsRow base e 1 v n xs)
    (p : Option Addr) (c : Nat) (l : List ByteArray) (hx : a.eval x = .slice p l.length c) (hl : Strs w p l) (hn : n + l.length ≤ 4294967296) (hbase : base ≤ w.heap.size)
    (h : ∀ v' w', w'.ownsRow base e 1 v' (n + l.length) (xs ++ l.map Value.string) → w.grownBy w' v.ownBlock → (v'.ownBlock = v.ownBlock ∨ v'.ownBlock = some w.heap.size) → K (a.put o.dst v') w') : o.wp P a w K Q := by
  by_cases h0 : l = []
  · subst h0
    have hrun : (Builtin.append_ #[t, t] o.type #[v, .slice p 0 c]).run P w = .ok v w := by
      rcases hown.2 with ⟨rfl, rfl⟩ | ⟨g, cap, cur, rfl, _, _, hnc, _⟩
      · cases p <;> simp [Builtin.append_, run_underlying ht, sizeOf, typeInfo, hi, Builtin.lenOf, Builtin.firstCells, loadCells, loadCellsFrom]
      · cases p <;> simp [Builtin.append_, run_underlying ht, sizeOf, typeInfo, hi, Builtin.lenOf, Builtin.firstCells, loadCells, loadCellsFrom, hnc, storeCells]
    unfold Oper.wp execOp
    have hx' : a.eval x = .slice p 0 c := hx
    simp only [ho, resolve, invoke, builtin, Sem.run_bind, Sem.run_pure, Result.andThen_ok, List.map_toArray, List.map_cons, List.map_nil, hs, hx', hrun]
    exact h v w (by simpa using hown) (World.grownBy.refl w _) (.inl rfl)
  · obtain ⟨b, f, rfl, _⟩ := hl 0 (List.length_pos_iff.2 h0)
    exact wp_append_own_at2 w s x t ho base e i z 1 16 ht hi hz hsize hby hzs (by decide) v n xs hs hown ⟨b, f, none⟩ l.length c (l.map Value.string) hx (by simp) (strs_news hl) (strings_one l) (by unfold maxLen; omega) (by omega) hbase h
theorem parse_sub {kn : List UInt8} {xs : List ByteArray} {least most : Int} : (parseD kn xs least most).2.1.length ≤ xs.length ∧ (∀ x ∈ (parseD kn xs least most).2.1, x ∈ xs) ∧ (parseD kn xs least most).1.size ≤ 256 := by
  have hset : ∀ l, (setD l).size ≤ 256 := fun l => by rw [Lib.size_eq]; exact risen_len l 256
  unfold parseD
  split
  · exact ⟨Nat.zero_le _, (fun x hx => by cases hx), Nat.zero_le _⟩
  · split
    · exact ⟨Nat.zero_le _, (fun x hx => by cases hx), Nat.zero_le _⟩
    · rename_i t ops hc
      split
      · exact ⟨Nat.zero_le _, (fun x hx => by cases hx), Nat.zero_le _⟩
      · exact ⟨cutD_len hc, (fun x hx => cutD_sub hc hx), hset _⟩
end Go.Proofs.Ytlnnnlpofocgpaa
