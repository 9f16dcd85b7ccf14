/- A node that is changed at a place, as data; rows of kids as cells, cut and put together. -/
import Derived.Test.YtfilbknnpjbmcaaGreatDoorKb19
namespace Go.Proofs.YtfilbknnpjbmcaaGreatDoor
open Go.RowKit Px Nx
namespace Nx

inductive All4 (R : List Value → Nd → Prop) : List Value → List Nd → Prop where
 | nil : All4 R [] []
 | cons (cs zs : List Value) (x : Nd) (l : List Nd) : cs.length = 4 → R cs x → All4 R zs l → All4 R (cs ++ zs) (x :: l)
theorem All4.len {R : List Value → Nd → Prop} {zs : List Value} {l : List Nd} (h : All4 R zs l) : zs.length = l.length * 4 := by
 induction h with
 | nil => rfl
 | cons cs zs x l hc _ _ ih => simp [hc, ih]; omega
theorem All4.append {R : List Value → Nd → Prop} {zs zs' : List Value} {l l' : List Nd} (h : All4 R zs l) (h' : All4 R zs' l') : All4 R (zs ++ zs') (l ++ l') := by
 induction h with
 | nil => exact h'
 | cons cs zs x l hc hr _ ih => rw [List.append_assoc]; exact .cons cs _ x _ hc hr ih
theorem All4.one {R : List Value → Nd → Prop} {cs : List Value} {x : Nd} (hc : cs.length = 4) (hr : R cs x) : All4 R cs [x] := by
 have := All4.cons cs [] x [] hc hr .nil
 rwa [List.append_nil] at this
theorem All4.take {R : List Value → Nd → Prop} {zs : List Value} {l : List Nd} (h : All4 R zs l) : ∀ i, All4 R (zs.take (i * 4)) (l.take i) := by
 induction h with
 | nil => intro i; simpa using All4.nil
 | cons cs zs x l hc hr _ ih =>
  intro i
  cases i with
  | zero => simpa using All4.nil
  | succ i =>
   have e : (cs ++ zs).take ((i + 1) * 4) = cs ++ zs.take (i * 4) := by
    rw [List.take_append, List.take_of_length_le (by omega)]
    congr 2
    omega
   rw [e, List.take_succ_cons]
   exact .cons cs _ x _ hc hr (ih i)
theorem All4.drop {R : List Value → Nd → Prop} {zs : List Value} {l : List Nd} (h : All4 R zs l) : ∀ i, All4 R (zs.drop (i * 4)) (l.drop i) := by
 induction h with
 | nil => intro i; simpa using All4.nil
 | cons cs zs x l hc hr h ih =>
  intro i
  cases i with
  | zero => simpa using All4.cons cs zs x l hc hr h
  | succ i =>
   have e : (cs ++ zs).drop ((i + 1) * 4) = zs.drop (i * 4) := by
    rw [List.drop_append, List.drop_of_length_le (by omega), List.nil_append]
    congr 1
    omega
   rw [e, List.drop_succ_cons]
   exact ih i
theorem All4.at {R : List Value → Nd → Prop} {zs : List Value} {l : List Nd} (h : All4 R zs l) : ∀ (i : Nat) x, l[i]? = some x → R ((zs.drop (i * 4)).take 4) x ∧ ((zs.drop (i * 4)).take 4).length = 4 := by
 induction h with
 | nil => intro i x hx; simp at hx
 | cons cs zs y l hc hr _ ih =>
  intro i x hx
  cases i with
  | zero =>
   obtain rfl : y = x := by simpa using hx
   rw [Nat.zero_mul, List.drop_zero, List.take_append_of_le_length (by omega), List.take_of_length_le (by omega)]
   exact ⟨hr, hc⟩
  | succ i =>
   have e : (cs ++ zs).drop ((i + 1) * 4) = zs.drop (i * 4) := by
    rw [List.drop_append, List.drop_of_length_le (by omega), List.nil_append]
    congr 1
    omega
   rw [e]
   exact ih i x (by simpa using hx)
theorem All4.imp {R R' : List Value → Nd → Prop} {zs : List Value} {l : List Nd} (h : All4 R zs l) (hi : ∀ cs x, R cs x → R' cs x) : All4 R' zs l := by
 induction h with
 | nil => exact .nil
 | cons cs zs x l hc hr _ ih => exact .cons cs zs x l hc (hi _ _ hr) ih
theorem All4.flat {R : List Value → Nd → Prop} : ∀ (l : List Nd) (D : Nat → List Value), (∀ i, i < l.length → (D i).length = 4) → (∀ (i : Nat) x, l[i]? = some x → R (D i) x) → All4 R ((List.range l.length).flatMap D) l
 | [], D, _, _ => .nil
 | x :: l, D, hl, hr => by
  rw [List.length_cons, List.range_succ_eq_map, List.flatMap_cons, List.flatMap_map]
  exact .cons _ _ x l (hl 0 (by simp)) (hr 0 x rfl) (All4.flat l (fun i => D (i + 1)) (fun i hi => hl (i + 1) (by simp; omega)) (fun i y hy => hr (i + 1) y (by simpa using hy)))
theorem flat_at (D : Nat → List Value) : ∀ (n : Nat), (∀ i, i < n → (D i).length = 4) → ∀ (j : Nat) u, ((List.range n).flatMap D)[j]? = some u → ∃ i k, i < n ∧ k < 4 ∧ j = i * 4 + k ∧ (D i)[k]? = some u
 | 0, _, j, u, h => by simp at h
 | n + 1, hl, j, u, h => by
  rw [List.range_succ, List.flatMap_append, List.flatMap_singleton] at h
  have hlen : ((List.range n).flatMap D).length = n * 4 := by
   have hc : ∀ m, m ≤ n → ((List.range m).flatMap D).length = m * 4 := by
    intro m
    induction m with
    | zero => intro _; rfl
    | succ m ih =>
     intro hm
     rw [List.range_succ, List.flatMap_append, List.flatMap_singleton, List.length_append, ih (by omega), hl m (by omega)]
     omega
   exact hc n (Nat.le_refl _)
  by_cases hj : j < n * 4
  ·rw [List.getElem?_append_left (by omega)] at h
   obtain ⟨i, k, h1, h2, h3, h4⟩ := flat_at D n (fun i hi => hl i (by omega)) j u h
   exact ⟨i, k, by omega, h2, h3, h4⟩
  ·rw [List.getElem?_append_right (by omega), hlen] at h
   have hk := (List.getElem?_eq_some_iff.1 h).1
   rw [hl n (by omega)] at hk
   exact ⟨n, j - n * 4, by omega, hk, by omega, h⟩

def lowL (l : List ByteArray) (x : ByteArray) : Nat := (l.takeWhile fun y => Op.bytesLess y.toList x.toList).length
theorem low_of {l : List ByteArray} {x : ByteArray} {i : Nat} {b : Bool} (h : SearchAt l x i b) : i = lowL l x := by
 obtain ⟨h1, h2, h3, h4⟩ := h
 clear h4
 unfold lowL
 induction l generalizing i with
 | nil => simp at h1; simp [h1]
 | cons y l ih =>
  cases i with
  | zero =>
   have := h3 0 (Nat.le_refl _) (by simp)
   have e : Op.bytesLess y.toList x.toList = false := by simpa using this
   rw [List.takeWhile_cons, e]
   rfl
  | succ i =>
   have e : Op.bytesLess y.toList x.toList = true := by simpa using h2 0 (by omega)
   have h4 := ih (i := i) (by simpa using h1) (fun k hk => by simpa using h2 (k + 1) (by omega)) (fun k hk hkl => by simpa using h3 (k + 1) (by omega) (by simp; omega))
   rw [List.takeWhile_cons, e, if_pos rfl, List.length_cons, ← h4]
def changedD (f : Nd → Nd) : List ByteArray → Nd → Nd
 | [], n => f n
 | x :: r, n =>
  if n.kind = 2 then
   let i := lowL n.names x
   let e := if (n.kid x).isSome then i + 1 else i
   let kd := changedD f r ((n.kid x).getD absent)
   if kd.kind = 0 then .mk 2 ByteArray.empty (n.names.take i ++ n.names.drop e) (n.kids.take i ++ n.kids.drop e)
   else .mk 2 ByteArray.empty (n.names.take i ++ [x] ++ n.names.drop e) (n.kids.take i ++ [kd] ++ n.kids.drop e)
  else n
def reachD : List ByteArray → Nd → Option Nd
 | [], n => some n
 | x :: r, n => if n.kind = 2 then reachD r ((n.kid x).getD absent) else .none
end Nx
end Go.Proofs.YtfilbknnpjbmcaaGreatDoor
/- Names and kids of a node, cut and put together: what spliced makes of them; the node out of both. -/
namespace Go.Proofs.YtfilbknnpjbmcaaGreatDoor
open Go.RowKit Px Nx
namespace Nx

theorem Mine.kept {w w' : World} {base : Nat} {po : Option Addr} {e : TypeId} {size : Nat} {v : Value} {n : Nat} {xs : List Value} (h : Mine w base po e size v n xs) (hb : Below w.heap.size w w') : Mine w' base po e size v n xs := by
 rcases h with h | ⟨h1, a, h2, h3, h4⟩
 ·exact .inl (own_same h fun g hg => hb.block g (own_where h hg).2)
 ·refine .inr ⟨h1, a, h2, h3, fun j u hj => ?_⟩
  obtain ⟨b, o, ha, hc⟩ := h4 j u hj
  exact ⟨b, o, ha, cell_kept hb hc⟩
theorem Mine.out {w : World} {base : Nat} {po : Option Addr} {e : TypeId} {size : Nat} {v : Value} {n : Nat} {xs : List Value} (h : Mine w base po e size v n xs) (hn : n ≤ maxLen) :
  xs.length = n * size ∧ ∃ p c, v = .slice p n c ∧ n ≤ c ∧ c ≤ maxLen ∧ (∀ j u, xs[j]? = some u → ∃ b o, p = some ⟨b, o, .none⟩ ∧ w.cell? ⟨b, o + j, .none⟩ = some u) ∧ (∀ a, p = some a → base ≤ a.block ∨ po = some a) := by
 rcases h with h | ⟨h1, a, h2, rfl, h4⟩
 ·refine ⟨h.1, ?_⟩
  rcases h.2 with ⟨rfl, rfl⟩ | ⟨g, cap, cur, rfl, hg, hh, hnc, hm, hc, ht⟩
  ·have hx : xs = [] := List.length_eq_zero_iff.1 (by simpa using h.1)
   subst hx
   exact ⟨.none, 0, rfl, Nat.le_refl _, Nat.zero_le _, fun j u hj => by simp at hj, fun a ha => by cases ha⟩
  ·refine ⟨some ⟨g, 0, .none⟩, cap, rfl, hnc, hm, fun j u hj => ⟨g, 0, rfl, ?_⟩, fun a ha => .inl (by cases ha; exact hg)⟩
   rw [cell_of_row _ _ _ _ _ _ hh]
   have hlt := (List.getElem?_eq_some_iff.1 hj).1
   rw [← ht, List.getElem?_take_of_lt (by rw [h.1] at hlt; exact hlt)] at hj
   rw [Nat.zero_add]
   simpa using hj
 ·refine ⟨h1, some a, n, rfl, Nat.le_refl _, hn, fun j u hj => ?_, fun a ha => .inr (by rw [h2]; exact ha)⟩
  obtain ⟨b, o, ha, hc⟩ := h4 j u hj
  exact ⟨b, o, by rw [ha], hc⟩
theorem node_of_mine {w : World} {S : Nat → Prop} {base base2 : Nat} {pn pq : Option Addr} {vn vq : Value} {nn nk : Nat} {l : List ByteArray} {kids : List Nd} {zs : List Value}
  (hn : Mine w base pn 9 1 vn nn (l.map Value.string)) (hq : Mine w base2 pq 25 4 vq nk zs) (hz : All4 (NodeX w S) zs kids) (hnn : nn ≤ maxLen) (hnk : nk ≤ maxLen)
  (hS : ∀ k, base ≤ k → S k) (hS2 : ∀ k, base2 ≤ k → S k) (hSn : ∀ a, pn = some a → l.length ≠ 0 → S a.block) (hSq : ∀ a, pq = some a → kids.length ≠ 0 → S a.block) :
  NodeX w S [.int .u8 2, .string ByteArray.empty, vn, vq] (.mk 2 ByteArray.empty l kids) := by
 obtain ⟨e1, p, c, rfl, h1, h2, h3, h4⟩ := hn.out hnn
 obtain ⟨e2, q, d, rfl, g1, g2, g3, g4⟩ := hq.out hnk
 have hl : nn = l.length := by simpa using e1.symm
 have hzl := hz.len
 have hk : nk = kids.length := by omega
 subst hl
 subst hk
 refine .mk 2 ByteArray.empty l kids p q c d (fun i => (zs.drop (i * 4)).take 4) h1 h2 ?_ (fun a ha hne => ?_) g1 g2 ?_ (fun a ha hne => ?_) (fun i x hx => (hz.at i x hx).1)
 ·intro i hi
  obtain ⟨b, o, hp, hc⟩ := h3 i (.string (l.getD i ByteArray.empty)) (by rw [List.getElem?_map, List.getElem?_eq_getElem hi, List.getD_eq_getElem?_getD, List.getElem?_eq_getElem hi]; rfl)
  exact ⟨b, o, hp, hc⟩
 ·rcases h4 a ha with h | h
  ·exact hS _ h
  ·exact hSn a h hne
 ·intro i hi
  have hi4 : i * 4 < zs.length := by omega
  obtain ⟨b, o, hp, _⟩ := g3 (i * 4) _ (List.getElem?_eq_getElem hi4)
  refine ⟨b, o, hp, (hz.at i _ (List.getElem?_eq_getElem hi)).2, fun j u hj => ?_⟩
  have hj4 : j < 4 := by
   have := (List.getElem?_eq_some_iff.1 hj).1
   rw [List.length_take] at this
   omega
  have hj' : ((zs.drop (i * 4)).take 4)[j]? = some u := hj
  rw [List.getElem?_take_of_lt hj4, List.getElem?_drop] at hj'
  obtain ⟨b', o', hp', hc⟩ := g3 _ u hj'
  obtain ⟨rfl, rfl⟩ : b = b' ∧ o = o' := by rw [hp] at hp'; simpa using hp'
  rw [← Nat.add_assoc] at hc
  exact hc
 ·rcases g4 a ha with h | h
  ·exact hS2 _ h
  ·exact hSq a h hne
theorem reads_names {w : World} {S : Nat → Prop} {v0 v1 v3 : Value} {p : Option Addr} {n c : Nat} {nd : Nd} (h : NodeX w S [v0, v1, .slice p n c, v3] nd) : Reads w (.slice p n c) n 1 (nd.names.map Value.string) ∧ n = nd.names.length ∧ (∀ a, p = some a → nd.names.length ≠ 0 → S a.block) ∧ c ≤ maxLen := by
 cases h with
 | mk kind text names kids p q c d D h1 h2 h3 h4 h5 h6 h7 h8 h9 =>
  refine ⟨⟨by simp [Nd.names], List.all_eq_true.2 (strings_one _), p, c, rfl, h1, h2, fun j u hj => ?_⟩, rfl, h4, h2⟩
  have hj' : (names.map Value.string)[j]? = some u := hj
  rw [List.getElem?_map] at hj'
  obtain ⟨x, hx, rfl⟩ := Option.map_eq_some_iff.1 hj'
  obtain ⟨b, o, hp, hc⟩ := h3 j (List.getElem?_eq_some_iff.1 hx).1
  refine ⟨b, o, hp, ?_⟩
  rw [hc, List.getD_eq_getElem?_getD, hx]
  rfl
theorem node_one {w : World} {cs : List Value} {x : Nd} (h : NodeR w cs x) : cs.all (·.oneCell') = true := by
 obtain ⟨p, q, c, d, rfl⟩ := h.cells
 rfl
theorem All4.one_all {R : List Value → Nd → Prop} {zs : List Value} {l : List Nd} (h : All4 R zs l) (hr : ∀ cs x, R cs x → cs.all (·.oneCell') = true) : zs.all (·.oneCell') = true := by
 induction h with
 | nil => rfl
 | cons cs zs x l _ h1 _ ih => rw [List.all_append, hr _ _ h1, ih]; rfl
theorem reads_kids {w : World} {S : Nat → Prop} {v0 v1 v2 : Value} {q : Option Addr} {n d : Nat} {nd : Nd} (h : NodeX w S [v0, v1, v2, .slice q n d] nd) : ∃ zs, Reads w (.slice q n d) n 4 zs ∧ All4 (NodeX w S) zs nd.kids ∧ n = nd.kids.length ∧ (∀ a, q = some a → nd.kids.length ≠ 0 → S a.block) ∧ d ≤ maxLen := by
 cases h with
 | mk kind text names kids p q c d D h1 h2 h3 h4 h5 h6 h7 h8 h9 =>
  have hD : ∀ i, i < kids.length → (D i).length = 4 := fun i hi => by
   obtain ⟨_, _, _, hl, _⟩ := h7 i hi
   exact hl
  have hA : All4 (NodeX w S) ((List.range kids.length).flatMap D) kids := All4.flat kids D hD h9
  refine ⟨_, ⟨hA.len, hA.one_all fun cs x hx => node_one hx.to, q, d, rfl, h5, h6, fun j u hj => ?_⟩, hA, rfl, h8, h6⟩
  obtain ⟨i, k, hi, hk, rfl, hu⟩ := flat_at D kids.length hD j u hj
  obtain ⟨b, o, hp, _, hr⟩ := h7 i hi
  exact ⟨b, o, hp, by rw [← Nat.add_assoc]; exact hr k u hu⟩

theorem spliceNames {w : World} {p : Option Addr} {n c : Nat} {xs : List Value} (hx : Reads w (.slice p n c) n 1 xs) (hn : n ≤ 200000000) (hc : c ≤ maxLen) : ∀ wx, Below w.heap.size w wx → ∀ (i t m : Nat) (ys : List Value) (u : Value), Reads wx u m 1 ys → i ≤ t → t ≤ n → m ≤ 1 →
  Calls Tryz.prog 171 #[.slice p n c, .int .i64 i, .int .i64 t, u] wx fun e w' => (∃ v, e = .returned v ∧ Mine w' wx.heap.size (poIf m p) 9 1 v (i + m + (n - t)) (xs.take (i) ++ ys ++ xs.drop (t))) ∧ Below wx.heap.size wx w' := by
 intro wx hb i t m ys u hu hit htn hm
 by_cases h0 : n = 0
 ·subst h0
  obtain rfl : xs = [] := List.length_eq_zero_iff.1 (by have := hx.1; omega)
  obtain rfl : t = 0 := by omega
  obtain rfl : i = 0 := by omega
  refine (splicedS_nil (p := p) (c := c) hu rfl rfl hc hm).mono ?_
  rintro e w' ⟨⟨v, rfl, hv⟩, hb'⟩
  exact ⟨⟨v, rfl, by simpa using hv⟩, hb'⟩
 ·obtain ⟨hl, _, p', c', he, _, _, hcell⟩ := id hx
  obtain ⟨b, o, hp, _⟩ := hcell 0 _ (List.getElem?_eq_getElem (show 0 < xs.length by omega))
  obtain ⟨rfl, _⟩ : p = p' ∧ c = c' := by simpa using he
  subst hp
  refine (splicedS (hx.kept hb) hu hit htn hn hm).mono ?_
  rintro e w' ⟨⟨v, rfl, hv⟩, hb'⟩
  exact ⟨⟨v, rfl, by simpa using hv⟩, hb'⟩
theorem spliceKids {w : World} {p : Option Addr} {n c : Nat} {xs : List Value} (hx : Reads w (.slice p n c) n 4 xs) (hn : n ≤ 200000000) (hc : c ≤ maxLen) : ∀ wx, Below w.heap.size w wx → ∀ (i t m : Nat) (ys : List Value) (u : Value), Reads wx u m 4 ys → i ≤ t → t ≤ n → m ≤ 1 →
  Calls Tryz.prog 172 #[.slice p n c, .int .i64 i, .int .i64 t, u] wx fun e w' => (∃ v, e = .returned v ∧ Mine w' wx.heap.size (poIf m p) 25 4 v (i + m + (n - t)) (xs.take (i * 4) ++ ys ++ xs.drop (t * 4))) ∧ Below wx.heap.size wx w' := by
 intro wx hb i t m ys u hu hit htn hm
 by_cases h0 : n = 0
 ·subst h0
  obtain rfl : xs = [] := List.length_eq_zero_iff.1 (by have := hx.1; omega)
  obtain rfl : t = 0 := by omega
  obtain rfl : i = 0 := by omega
  refine (splicedN_nil (p := p) (c := c) hu rfl rfl hc hm).mono ?_
  rintro e w' ⟨⟨v, rfl, hv⟩, hb'⟩
  exact ⟨⟨v, rfl, by simpa using hv⟩, hb'⟩
 ·obtain ⟨hl, _, p', c', he, _, _, hcell⟩ := id hx
  obtain ⟨b, o, hp, _⟩ := hcell 0 _ (List.getElem?_eq_getElem (show 0 < xs.length by omega))
  obtain ⟨rfl, _⟩ : p = p' ∧ c = c' := by simpa using he
  subst hp
  refine (splicedN (hx.kept hb) hu hit htn hn hm).mono ?_
  rintro e w' ⟨⟨v, rfl, hv⟩, hb'⟩
  exact ⟨⟨v, rfl, by simpa using hv⟩, hb'⟩
end Nx
end Go.Proofs.YtfilbknnpjbmcaaGreatDoor
