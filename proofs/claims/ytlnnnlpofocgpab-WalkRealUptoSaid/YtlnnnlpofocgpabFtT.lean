/- Appends to a slice of somebody's memory that has no room behind it, or to a row of the call's own. -/
import Derived.Test.YtlnnnlpofocgpabFtS
import Derived.ArgAppend
namespace Go.Proofs.Ytlnnnlpofocgpab
open Go.RowKit Px Nx
namespace Nx

/-- A slice's elements, as cells. -/
def Reads (w : World) (v : Value) (n size : Nat) (xs : List Value) : Prop :=
  xs.length = n * size ∧ xs.all (·.oneCell') = true ∧ ∃ p c, v = .slice p n c ∧ n ≤ c ∧ c ≤ maxLen ∧ (∀ j u, xs[j]? = some u → ∃ b o, p = some ⟨b, o, .none⟩ ∧ w.cell? ⟨b, o + j, .none⟩ = some u)
theorem Reads.kept {w w' : World} {v : Value} {n size : Nat} {xs : List Value} (h : Reads w v n size xs) (hb : Below w.heap.size w w') : Reads w' v n size xs := by
  obtain ⟨h1, h2, p, c, h3, h4, h5, h6⟩ := h
  refine ⟨h1, h2, p, c, h3, h4, h5, fun j u hj => ?_⟩
  obtain ⟨b, o, hp, hc⟩ := h6 j u hj
  exact ⟨b, o, hp, cell_kept hb hc⟩
/-- What spliced appends to: a row of the call's own, or somebody's slice without room. -/
def Mine (w : World) (base : Nat) (po : Option Addr) (e : TypeId) (size : Nat) (v : Value) (n : Nat) (xs : List Value) : Prop :=
  w.ownsRow base e size v n xs ∨ (xs.length = n * size ∧ ∃ a, po = some a ∧ v = .slice (some a) n n ∧ ∀ j u, xs[j]? = some u → ∃ b o, a = ⟨b, o, .none⟩ ∧ w.cell? ⟨b, o + j, .none⟩ = some u)
/-- Where nothing is added, somebody's memory may come back. -/
def poIf (m : Nat) (p : Option Addr) : Option Addr := if m = 0 then p else none
theorem Mine.weak {w : World} {base : Nat} {m : Nat} {po : Option Addr} {e : TypeId} {size : Nat} {v : Value} {n : Nat} {xs : List Value} (h : Mine w base (poIf m po) e size v n xs) : Mine w base po e size v n xs := by
  rcases h with h | ⟨h1, a, h2, h3, h4⟩
  · exact .inl h
  · refine .inr ⟨h1, a, ?_, h3, h4⟩
    unfold poIf at h2
    split at h2
    · exact h2
    · cases h2
theorem addr_add (b o j : Nat) : (⟨b, o, .none⟩ : Addr).add j = ⟨b, o + j, .none⟩ := by unfold Addr.add; split <;> simp_all
theorem run_append_mine {P : Program} (w : World) (base : Nat) (t ty e : TypeId) (i : TypeInfo) (z : Value) (size bytes : Nat) (ht : P.underlying t = some (.slice e)) (hi : P.info? e = some i) (hz : i.zero = some z)
    (hsize : i.size = size) (hby : i.bytes = bytes) (hzs : z.cells.size = size) (hsz : 0 < size)
    (v : Value) (n : Nat) (xs : List Value) {po : Option Addr} (hv : Mine w base po e size v n xs) (u : Value) (m : Nat) (ys : List Value) (hu : Reads w u m size ys)
    (h63 : n + m ≤ maxLen) (hbytes : (n + m) * bytes ≤ 140737488355328) (hbase : base ≤ w.heap.size) :
    ∃ v' w', (Builtin.append_ #[t, t] ty #[v, u]).run P w = .ok v' w' ∧ Mine w' base (poIf m po) e size v' (n + m) (xs ++ ys) ∧ Below base w w' := by
  obtain ⟨hl, h1, q, d, rfl, hmd, hdm, hc⟩ := hu
  have h1' : ∀ u ∈ ys, u.oneCell' = true := fun u hu => List.all_eq_true.1 h1 u hu
  by_cases hm0 : m = 0
  · subst hm0
    obtain rfl : ys = [] := List.length_eq_zero_iff.1 (by simpa using hl)
    have hrun : (Builtin.append_ #[t, t] ty #[v, .slice q 0 d]).run P w = .ok v w := by
      rcases hv with hv | ⟨_, a, _, rfl, _⟩
      · rcases hv.2 with ⟨rfl, rfl⟩ | ⟨g, cap, cur, rfl, _, _, hnc, _⟩
        · cases q <;> simp [Builtin.append_, run_underlying ht, sizeOf, typeInfo, hi, Builtin.lenOf, Builtin.firstCells, loadCells, loadCellsFrom]
        · cases q <;> simp [Builtin.append_, run_underlying ht, sizeOf, typeInfo, hi, Builtin.lenOf, Builtin.firstCells, loadCells, loadCellsFrom, hnc, storeCells]
      · cases q <;> simp [Builtin.append_, run_underlying ht, sizeOf, typeInfo, hi, Builtin.lenOf, Builtin.firstCells, loadCells, loadCellsFrom, storeCells]
    exact ⟨v, w, hrun, by simpa [poIf] using hv, Below.refl _ _⟩
  · have hlen : 0 < ys.length := by rw [hl]; exact Nat.mul_pos (by omega) hsz
    obtain ⟨b2, o2, rfl, _⟩ := hc 0 _ (List.getElem?_eq_getElem hlen)
    have hnews : ∀ j u, ys[j]? = some u → w.cell? ((⟨b2, o2, .none⟩ : Addr).add j) = some u := fun j u hj => by
      obtain ⟨b', o', he, hcc⟩ := hc j u hj
      obtain ⟨rfl, rfl⟩ : b2 = b' ∧ o2 = o' := by simpa using he
      rw [addr_add]; exact hcc
    rcases hv with hv | ⟨hlx, a, hpo, rfl, hcx⟩
    · obtain ⟨v', w', hr, h2, h3, _, _⟩ := run_append_own_at (P := P) w base t ty e i z size bytes ht hi hz hsize hby hzs hsz v n xs hv ⟨b2, o2, .none⟩ m d ys hl hnews h1' h63 hbytes hbase
      exact ⟨v', w', hr, .inl h2, (Below.refl base w).grown h3 hbase fun k hk => (own_where hv hk).1⟩
    · obtain ⟨v', w', hr, h2, h3⟩ := run_append_arg_grows (P := P) w t ty e i z size bytes ht hi hz hsize hby hzs hsz a n n xs hlx (fun j u hj => by obtain ⟨b, o, rfl, hc⟩ := hcx j u hj; rw [addr_add]; exact hc) ⟨b2, o2, .none⟩ m d ys hl hnews (by omega) h63 hbytes
      exact ⟨v', w', hr, .inl (own_base h2 hbase), (Below.refl base w).grown h3 hbase fun k hk => by cases hk⟩
theorem wp_append_mine {P : Program} (w : World) {o : Oper} {a : Act} {K : Act → World → Prop} {Q : Exit → Act → World → Prop} (s x : Operand) (t : TypeId)
    (ho : o.op = .call { callee := .builtin .append, args := #[s, x], argTypes := #[t, t] })
    (base : Nat) (e : TypeId) (i : TypeInfo) (z : Value) (size bytes : Nat) (ht : P.underlying t = some (.slice e)) (hi : P.info? e = some i) (hz : i.zero = some z)
    (hsize : i.size = size) (hby : i.bytes = bytes) (hzs : z.cells.size = size) (hsz : 0 < size)
    (v : Value) (n : Nat) (xs : List Value) (hs : a.eval s = v) {po : Option Addr} (hv : Mine w base po e size v n xs) (u : Value) (m : Nat) (ys : List Value) (hx : a.eval x = u) (hu : Reads w u m size ys)
    (h63 : n + m ≤ maxLen) (hbytes : (n + m) * bytes ≤ 140737488355328) (hbase : base ≤ w.heap.size)
    (h : ∀ v' w', Mine w' base (poIf m po) e size v' (n + m) (xs ++ ys) → Below base w w' → K (a.put o.dst v') w') : o.wp P a w K Q := by
  obtain ⟨v', w', hr, h2, h3⟩ := run_append_mine (P := P) w base t o.type e i z size bytes ht hi hz hsize hby hzs hsz v n xs hv u m ys hu h63 hbytes hbase
  unfold Oper.wp execOp
  simp only [ho, resolve, invoke, builtin, Sem.run_bind, Sem.run_pure, Result.andThen_ok, List.map_toArray, List.map_cons, List.map_nil, hs, hx, hr]
  exact h v' w' h2 h3
end Nx

end Go.Proofs.Ytlnnnlpofocgpab
