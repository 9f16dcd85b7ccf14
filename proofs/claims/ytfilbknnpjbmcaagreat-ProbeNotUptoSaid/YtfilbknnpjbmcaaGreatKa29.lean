/- Appends to a slice of somebody's memory that has no room behind it, or to a row of the call's own. -/
import Derived.Test.YtfilbknnpjbmcaaGreatKa28
import Derived.ArgAppend
namespace Go.Proofs.YtfilbknnpjbmcaaGreat
open Go.RowKit Px Nx
namespace Nx

/-- A slice's elements, as cells. -/
def Reads (w : World) (v : Value) (n size : Nat) (xs : List Value) : Prop :=
  xs.length = n * size ∧ xs.all (·.oneCell') = true ∧ ∃ p c, v = .slice p n c ∧ n ≤ c ∧ c ≤ maxLen ∧ (∀ j u, xs[j]? = some u → ∃ b o, p = some ⟨b, o, .none⟩ ∧ w.cell? ⟨b, o + j, .none⟩ = some u)
theorem Reads.kept {w w' : World} {v : Value} {n size : Nat} {xs : List Value} (h : Reads w v n size xs) (hb : Below w.heap.size w w') : Reads w' v n size xs := by
  obtain ⟨h1, h2, p, c, h3, h4, h5, h6⟩ := h
  refine ⟨h1, h2, p, c, h3, h4, h5, fun j u hj => ?_⟩
  obtain ⟨b, o, hp, hc⟩ := h6 j u hj
  exact ⟨b, o, hp, cell_kept hb hc⟩
/-- What spliced appends to: a row of the call's own, or somebody's slice without room. -/
def Mine (w : World) (base : Nat) (po : Option Addr) (e : TypeId) (size : Nat) (v : Value) (n : Nat) (xs : List Value) : Prop :=
  w.ownsRow base e size v n xs ∨ (xs.length = n * size ∧ ∃ a, po = some a ∧ v = .slice (some a) n n ∧ ∀ j u, xs[j]? = some u → ∃ b o, a = ⟨b, o, .none⟩ ∧ w.cell? ⟨b, o + j, .none⟩ = some u)
/-- Where nothing is added, somebody's memory may come back. -/
def poIf (m : Nat) (p : Option Addr) : Option Addr := if m = 0 then p else none
theorem Mine.weak {w : World} {base : Nat} {m : Nat} {po : Option Addr} {e : TypeId} {size : Nat} {v : Value} {n : Nat} {xs : List Value} (h : Mine w base (poIf m po) e size v n xs) : Mine w base po e size v n xs := by
  rcases h with h | ⟨h1, a, h2, h3, h4⟩
  · exact .inl h
  · refine .inr ⟨h1, a, ?_, h3, h4⟩
    unfold poIf at h2
    split at h2
    · exact h2
    · cases h2
theorem addr_add (b o j : Nat) : (⟨b, o, .none⟩ : Addr).add j = ⟨b, o + j, .none⟩ := by unfold Addr.add; split <;> simp_all
theorem run_append_mine {P : Program} (w : World) (base : Nat) (t ty e : TypeId) (i : TypeInfo) (z : Value) (size bytes : Nat) (ht : P.underlying t = some (.slice e)) (hi : P.info? e = some i) (hz : i.zero = some z)
    (hsize : i.size = size) (hby : i.bytes = bytes) (hzs : z.cells.size = size) (hsz : 0 < size)
    (v : Value) (n : Nat) (xs : List Value) {po : Option Addr} (hv : Mine w base po e size v n xs) (u : Value) (m : Nat) (ys : List Value) (hu : Reads w u m size ys)
    (h63 : n + m ≤ maxLen) (hbytes : (n + m) * bytes ≤ 140737488355328) (hbase : base ≤ w.heap.size) :
    ∃ v' w', (Builtin.append_ #[t, t] ty #[v, u]).run P w = .ok v' w' ∧ Mine w' base (poIf m po) e size v' (n + m) (xs ++ ys) ∧ Below base w w' := by
  obtain ⟨hl, h1, q, d, rfl, hmd, hdm, hc⟩ := hu
  have h1' : ∀ u ∈ ys, u.oneCell' = true := fun u hu => List.all_eq_true.1 h1 u hu
  by_cases hm0 : m = 0
  · subst hm0
    obtain rfl : ys = [] := List.length_eq_zero_iff.1 (by simpa using hl)
    have hrun : (Builtin.append_ #[t, t] ty #[v, .slice q 0 d]).run P w = .ok v w := by
      rcases hv with hv | ⟨_, a, _, rfl, _⟩
      · rcases hv.2 with ⟨rfl, rfl⟩ | ⟨g, cap, cur, rfl, _, _, hnc, _⟩
        · cases q <;> simp [Builtin.append_, run_underlying ht, sizeOf, typeInfo, hi, Builtin.lenOf, Builtin.firstCells, loadCells, loadCellsFrom]
        · cases q <;> simp [Builtin.append_, run_underlying ht, sizeOf, typeInfo, hi, Builtin.lenOf, Builtin.firstCells, loadCells, loadCellsFrom, hnc, storeCells]
      · cases q <;> simp [Builtin.append_, run_underlying ht, sizeOf, typeInfo, hi, Builtin.lenOf, Builtin.firstCells, loadCells, loadCellsFrom, storeCells]
    exact ⟨v, w, hrun, by simpa [poIf] using hv, Below.refl _ _⟩
  · have hlen : 0 < ys.length := by rw [hl]; exact Nat.mul_pos (by omega) hsz
    obtain ⟨b2, o2, rfl, _⟩ := hc 0 _ (List.getElem?_eq_getElem hlen)
    have hnews : ∀ j u, ys[j]? = some u → w.cell? ((⟨b2, o2, .none⟩ : Addr).add j) = some u := fun j u hj => by
      obtain ⟨b', o', he, hcc⟩ := hc j u hj
      obtain ⟨rfl, rfl⟩ : b2 = b' ∧ o2 = o' := by simpa using he
      rw [addr_add]; exact hcc
    rcases hv with hv | ⟨hlx, a, hpo, rfl, hcx⟩
    · obtain ⟨v', w', hr, h2, h3, _, _⟩ := run_append_own_at (P := P) w base t ty e i z size bytes ht hi hz hsize hby hzs hsz v n xs hv ⟨b2, o2, .none⟩ m d ys hl hnews h1' h63 hbytes hbase
      exact ⟨v', w', hr, .inl h2, (Below.refl base w).grown h3 hbase fun k hk => (own_where hv hk).1⟩
    · obtain ⟨v', w', hr, h2, h3⟩ := run_append_arg_grows (P := P) w t ty e i z size bytes ht hi hz hsize hby hzs hsz a n n xs hlx (fun j u hj => by obtain ⟨b, o, rfl, hc⟩ := hcx j u hj; rw [addr_add]; exact hc) ⟨b2, o2, .none⟩ m d ys hl hnews (by omega) h63 hbytes
      exact ⟨v', w', hr, .inl (own_base h2 hbase), (Below.refl base w).grown h3 hbase fun k hk => by cases hk⟩
theorem wp_append_mine {P : Program} (w : World) {o : Oper} {a : Act} {K : Act → World → Prop} {Q : Exit → Act → World → Prop} (s x : Operand) (t : TypeId)
    (ho : o.op = .call { callee := .builtin .append, args := #[s, x], argTypes := #[t, t] })
    (base : Nat) (e : TypeId) (i : TypeInfo) (z : Value) (size bytes : Nat) (ht : P.underlying t = some (.slice e)) (hi : P.info? e = some i) (hz : i.zero = some z)
    (hsize : i.size = size) (hby : i.bytes = bytes) (hzs : z.cells.size = size) (hsz : 0 < size)
    (v : Value) (n : Nat) (xs : List Value) (hs : a.eval s = v) {po : Option Addr} (hv : Mine w base po e size v n xs) (u : Value) (m : Nat) (ys : List Value) (hx : a.eval x = u) (hu : Reads w u m size ys)
    (h63 : n + m ≤ maxLen) (hbytes : (n + m) * bytes ≤ 140737488355328) (hbase : base ≤ w.heap.size)
    (h : ∀ v' w', Mine w' base (poIf m po) e size v' (n + m) (xs ++ ys) → Below base w w' → K (a.put o.dst v') w') : o.wp P a w K Q := by
  obtain ⟨v', w', hr, h2, h3⟩ := run_append_mine (P := P) w base t o.type e i z size bytes ht hi hz hsize hby hzs hsz v n xs hv u m ys hu h63 hbytes hbase
  unfold Oper.wp execOp
  simp only [ho, resolve, invoke, builtin, Sem.run_bind, Sem.run_pure, Result.andThen_ok, List.map_toArray, List.map_cons, List.map_nil, hs, hx, hr]
  exact h v' w' h2 h3
end Nx

end Go.Proofs.YtfilbknnpjbmcaaGreat
/- A node that is changed at a place, as data; rows of kids as cells, cut and put together. -/
namespace Go.Proofs.YtfilbknnpjbmcaaGreat
open Go.RowKit Px Nx
namespace Nx

/-- Rows of four cells an element. -/
inductive All4 (R : List Value → Nd → Prop) : List Value → List Nd → Prop where
  | nil : All4 R [] []
  | cons (cs zs : List Value) (x : Nd) (l : List Nd) : cs.length = 4 → R cs x → All4 R zs l → All4 R (cs ++ zs) (x :: l)
theorem All4.len {R : List Value → Nd → Prop} {zs : List Value} {l : List Nd} (h : All4 R zs l) : zs.length = l.length * 4 := by
  induction h with
  | nil => rfl
  | cons cs zs x l hc _ _ ih => simp [hc, ih]; omega
theorem All4.append {R : List Value → Nd → Prop} {zs zs' : List Value} {l l' : List Nd} (h : All4 R zs l) (h' : All4 R zs' l') : All4 R (zs ++ zs') (l ++ l') := by
  induction h with
  | nil => exact h'
  | cons cs zs x l hc hr _ ih => rw [List.append_assoc]; exact .cons cs _ x _ hc hr ih
theorem All4.one {R : List Value → Nd → Prop} {cs : List Value} {x : Nd} (hc : cs.length = 4) (hr : R cs x) : All4 R cs [x] := by
  have := All4.cons cs [] x [] hc hr .nil
  rwa [List.append_nil] at this
theorem All4.take {R : List Value → Nd → Prop} {zs : List Value} {l : List Nd} (h : All4 R zs l) : ∀ i, All4 R (zs.take (i * 4)) (l.take i) := by
  induction h with
  | nil => intro i; simpa using All4.nil
  | cons cs zs x l hc hr _ ih =>
    intro i
    cases i with
    | zero => simpa using All4.nil
    | succ i =>
      have e : (cs ++ zs).take ((i + 1) * 4) = cs ++ zs.take (i * 4) := by
        rw [List.take_append, List.take_of_length_le (by omega)]
        congr 2
        omega
      rw [e, List.take_succ_cons]
      exact .cons cs _ x _ hc hr (ih i)
theorem All4.drop {R : List Value → Nd → Prop} {zs : List Value} {l : List Nd} (h : All4 R zs l) : ∀ i, All4 R (zs.drop (i * 4)) (l.drop i) := by
  induction h with
  | nil => intro i; simpa using All4.nil
  | cons cs zs x l hc hr h ih =>
    intro i
    cases i with
    | zero => simpa using All4.cons cs zs x l hc hr h
    | succ i =>
      have e : (cs ++ zs).drop ((i + 1) * 4) = zs.drop (i * 4) := by
        rw [List.drop_append, List.drop_of_length_le (by omega), List.nil_append]
        congr 1
        omega
      rw [e, List.drop_succ_cons]
      exact ih i
theorem All4.at {R : List Value → Nd → Prop} {zs : List Value} {l : List Nd} (h : All4 R zs l) : ∀ (i : Nat) x, l[i]? = some x → R ((zs.drop (i * 4)).take 4) x ∧ ((zs.drop (i * 4)).take 4).length = 4 := by
  induction h with
  | nil => intro i x hx; simp at hx
  | cons cs zs y l hc hr _ ih =>
    intro i x hx
    cases i with
    | zero =>
      obtain rfl : y = x := by simpa using hx
      rw [Nat.zero_mul, List.drop_zero, List.take_append_of_le_length (by omega), List.take_of_length_le (by omega)]
      exact ⟨hr, hc⟩
    | succ i =>
      have e : (cs ++ zs).drop ((i + 1) * 4) = zs.drop (i * 4) := by
        rw [List.drop_append, List.drop_of_length_le (by omega), List.nil_append]
        congr 1
        omega
      rw [e]
      exact ih i x (by simpa using hx)
theorem All4.imp {R R' : List Value → Nd → Prop} {zs : List Value} {l : List Nd} (h : All4 R zs l) (hi : ∀ cs x, R cs x → R' cs x) : All4 R' zs l := by
  induction h with
  | nil => exact .nil
  | cons cs zs x l hc hr _ ih => exact .cons cs zs x l hc (hi _ _ hr) ih
theorem All4.flat {R : List Value → Nd → Prop} : ∀ (l : List Nd) (D : Nat → List Value), (∀ i, i < l.length → (D i).length = 4) → (∀ (i : Nat) x, l[i]? = some x → R (D i) x) → All4 R ((List.range l.length).flatMap D) l
  | [], D, _, _ => .nil
  | x :: l, D, hl, hr => by
    rw [List.length_cons, List.range_succ_eq_map, List.flatMap_cons, List.flatMap_map]
    exact .cons _ _ x l (hl 0 (by simp)) (hr 0 x rfl) (All4.flat l (fun i => D (i + 1)) (fun i hi => hl (i + 1) (by simp; omega)) (fun i y hy => hr (i + 1) y (by simpa using hy)))
theorem flat_at (D : Nat → List Value) : ∀ (n : Nat), (∀ i, i < n → (D i).length = 4) → ∀ (j : Nat) u, ((List.range n).flatMap D)[j]? = some u → ∃ i k, i < n ∧ k < 4 ∧ j = i * 4 + k ∧ (D i)[k]? = some u
  | 0, _, j, u, h => by simp at h
  | n + 1, hl, j, u, h => by
    rw [List.range_succ, List.flatMap_append, List.flatMap_singleton] at h
    have hlen : ((List.range n).flatMap D).length = n * 4 := by
      have hc : ∀ m, m ≤ n → ((List.range m).flatMap D).length = m * 4 := by
        intro m
        induction m with
        | zero => intro _; rfl
        | succ m ih =>
          intro hm
          rw [List.range_succ, List.flatMap_append, List.flatMap_singleton, List.length_append, ih (by omega), hl m (by omega)]
          omega
      exact hc n (Nat.le_refl _)
    by_cases hj : j < n * 4
    · rw [List.getElem?_append_left (by omega)] at h
      obtain ⟨i, k, h1, h2, h3, h4⟩ := flat_at D n (fun i hi => hl i (by omega)) j u h
      exact ⟨i, k, by omega, h2, h3, h4⟩
    · rw [List.getElem?_append_right (by omega), hlen] at h
      have hk := (List.getElem?_eq_some_iff.1 h).1
      rw [hl n (by omega)] at hk
      exact ⟨n, j - n * 4, by omega, hk, by omega, h⟩

/-- How many texts of a list are less, from its head on. -/
def lowL (l : List ByteArray) (x : ByteArray) : Nat := (l.takeWhile fun y => Op.bytesLess y.toList x.toList).length
theorem low_of {l : List ByteArray} {x : ByteArray} {i : Nat} {b : Bool} (h : SearchAt l x i b) : i = lowL l x := by
  obtain ⟨h1, h2, h3, h4⟩ := h
  clear h4
  unfold lowL
  induction l generalizing i with
  | nil => simp at h1; simp [h1]
  | cons y l ih =>
    cases i with
    | zero =>
      have := h3 0 (Nat.le_refl _) (by simp)
      have e : Op.bytesLess y.toList x.toList = false := by simpa using this
      rw [List.takeWhile_cons, e]
      rfl
    | succ i =>
      have e : Op.bytesLess y.toList x.toList = true := by simpa using h2 0 (by omega)
      have h4 := ih (i := i) (by simpa using h1) (fun k hk => by simpa using h2 (k + 1) (by omega)) (fun k hk hkl => by simpa using h3 (k + 1) (by omega) (by simp; omega))
      rw [List.takeWhile_cons, e, if_pos rfl, List.length_cons, ← h4]
/-- A node of which what stands at a place was changed. -/
def changedD (f : Nd → Nd) : List ByteArray → Nd → Nd
  | [], n => f n
  | x :: r, n =>
    if n.kind = 2 then
      let i := lowL n.names x
      let e := if (n.kid x).isSome then i + 1 else i
      let kd := changedD f r ((n.kid x).getD absent)
      if kd.kind = 0 then .mk 2 ByteArray.empty (n.names.take i ++ n.names.drop e) (n.kids.take i ++ n.kids.drop e)
      else .mk 2 ByteArray.empty (n.names.take i ++ [x] ++ n.names.drop e) (n.kids.take i ++ [kd] ++ n.kids.drop e)
    else n
/-- What a change is called with, if directories alone are on the way. -/
def reachD : List ByteArray → Nd → Option Nd
  | [], n => some n
  | x :: r, n => if n.kind = 2 then reachD r ((n.kid x).getD absent) else .none
end Nx
end Go.Proofs.YtfilbknnpjbmcaaGreat
