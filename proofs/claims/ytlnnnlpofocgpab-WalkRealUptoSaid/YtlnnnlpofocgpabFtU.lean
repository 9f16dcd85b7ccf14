/- A node that is changed at a place, as data; rows of kids as cells, cut and put together. -/
import Derived.Test.YtlnnnlpofocgpabFtT
namespace Go.Proofs.Ytlnnnlpofocgpab
open Go.RowKit Px Nx
namespace Nx

/-- Rows of four cells an element. -/
inductive All4 (R : List Value → Nd → Prop) : List Value → List Nd → Prop where
  | nil : All4 R [] []
  | cons (cs zs : List Value) (x : Nd) (l : List Nd) : cs.length = 4 → R cs x → All4 R zs l → All4 R (cs ++ zs) (x :: l)
theorem All4.len {R : List Value → Nd → Prop} {zs : List Value} {l : List Nd} (h : All4 R zs l) : zs.length = l.length * 4 := by
  induction h with
  | nil => rfl
  | cons cs zs x l hc _ _ ih => simp [hc, ih]; omega
theorem All4.append {R : List Value → Nd → Prop} {zs zs' : List Value} {l l' : List Nd} (h : All4 R zs l) (h' : All4 R zs' l') : All4 R (zs ++ zs') (l ++ l') := by
  induction h with
  | nil => exact h'
  | cons cs zs x l hc hr _ ih => rw [List.append_assoc]; exact .cons cs _ x _ hc hr ih
theorem All4.one {R : List Value → Nd → Prop} {cs : List Value} {x : Nd} (hc : cs.length = 4) (hr : R cs x) : All4 R cs [x] := by
  have := All4.cons cs [] x [] hc hr .nil
  rwa [List.append_nil] at this
theorem All4.take {R : List Value → Nd → Prop} {zs : List Value} {l : List Nd} (h : All4 R zs l) : ∀ i, All4 R (zs.take (i * 4)) (l.take i) := by
  induction h with
  | nil => intro i; simpa using All4.nil
  | cons cs zs x l hc hr _ ih =>
    intro i
    cases i with
    | zero => simpa using All4.nil
    | succ i =>
      have e : (cs ++ zs).take ((i + 1) * 4) = cs ++ zs.take (i * 4) := by
        rw [List.take_append, List.take_of_length_le (by omega)]
        congr 2
        omega
      rw [e, List.take_succ_cons]
      exact .cons cs _ x _ hc hr (ih i)
theorem All4.drop {R : List Value → Nd → Prop} {zs : List Value} {l : List Nd} (h : All4 R zs l) : ∀ i, All4 R (zs.drop (i * 4)) (l.drop i) := by
  induction h with
  | nil => intro i; simpa using All4.nil
  | cons cs zs x l hc hr h ih =>
    intro i
    cases i with
    | zero => simpa using All4.cons cs zs x l hc hr h
    | succ i =>
      have e : (cs ++ zs).drop ((i + 1) * 4) = zs.drop (i * 4) := by
        rw [List.drop_append, List.drop_of_length_le (by omega), List.nil_append]
        congr 1
        omega
      rw [e, List.drop_succ_cons]
      exact ih i
theorem All4.at {R : List Value → Nd → Prop} {zs : List Value} {l : List Nd} (h : All4 R zs l) : ∀ (i : Nat) x, l[i]? = some x → R ((zs.drop (i * 4)).take 4) x ∧ ((zs.drop (i * 4)).take 4).length = 4 := by
  induction h with
  | nil => intro i x hx; simp at hx
  | cons cs zs y l hc hr _ ih =>
    intro i x hx
    cases i with
    | zero =>
      obtain rfl : y = x := by simpa using hx
      rw [Nat.zero_mul, List.drop_zero, List.take_append_of_le_length (by omega), List.take_of_length_le (by omega)]
      exact ⟨hr, hc⟩
    | succ i =>
      have e : (cs ++ zs).drop ((i + 1) * 4) = zs.drop (i * 4) := by
        rw [List.drop_append, List.drop_of_length_le (by omega), List.nil_append]
        congr 1
        omega
      rw [e]
      exact ih i x (by simpa using hx)
theorem All4.imp {R R' : List Value → Nd → Prop} {zs : List Value} {l : List Nd} (h : All4 R zs l) (hi : ∀ cs x, R cs x → R' cs x) : All4 R' zs l := by
  induction h with
  | nil => exact .nil
  | cons cs zs x l hc hr _ ih => exact .cons cs zs x l hc (hi _ _ hr) ih
theorem All4.flat {R : List Value → Nd → Prop} : ∀ (l : List Nd) (D : Nat → List Value), (∀ i, i < l.length → (D i).length = 4) → (∀ (i : Nat) x, l[i]? = some x → R (D i) x) → All4 R ((List.range l.length).flatMap D) l
  | [], D, _, _ => .nil
  | x :: l, D, hl, hr => by
    rw [List.length_cons, List.range_succ_eq_map, List.flatMap_cons, List.flatMap_map]
    exact .cons _ _ x l (hl 0 (by simp)) (hr 0 x rfl) (All4.flat l (fun i => D (i + 1)) (fun i hi => hl (i + 1) (by simp; omega)) (fun i y hy => hr (i + 1) y (by simpa using hy)))
theorem flat_at (D : Nat → List Value) : ∀ (n : Nat), (∀ i, i < n → (D i).length = 4) → ∀ (j : Nat) u, ((List.range n).flatMap D)[j]? = some u → ∃ i k, i < n ∧ k < 4 ∧ j = i * 4 + k ∧ (D i)[k]? = some u
  | 0, _, j, u, h => by simp at h
  | n + 1, hl, j, u, h => by
    rw [List.range_succ, List.flatMap_append, List.flatMap_singleton] at h
    have hlen : ((List.range n).flatMap D).length = n * 4 := by
      have hc : ∀ m, m ≤ n → ((List.range m).flatMap D).length = m * 4 := by
        intro m
        induction m with
        | zero => intro _; rfl
        | succ m ih =>
          intro hm
          rw [List.range_succ, List.flatMap_append, List.flatMap_singleton, List.length_append, ih (by omega), hl m (by omega)]
          omega
      exact hc n (Nat.le_refl _)
    by_cases hj : j < n * 4
    · rw [List.getElem?_append_left (by omega)] at h
      obtain ⟨i, k, h1, h2, h3, h4⟩ := flat_at D n (fun i hi => hl i (by omega)) j u h
      exact ⟨i, k, by omega, h2, h3, h4⟩
    · rw [List.getElem?_append_right (by omega), hlen] at h
      have hk := (List.getElem?_eq_some_iff.1 h).1
      rw [hl n (by omega)] at hk
      exact ⟨n, j - n * 4, by omega, hk, by omega, h⟩

/-- How many texts of a list are less, from its head on. -/
def lowL (l : List ByteArray) (x : ByteArray) : Nat := (l.takeWhile fun y => Op.bytesLess y.toList x.toList).length
theorem low_of {l : List ByteArray} {x : ByteArray} {i : Nat} {b : Bool} (h : SearchAt l x i b) : i = lowL l x := by
  obtain ⟨h1, h2, h3, h4⟩ := h
  clear h4
  unfold lowL
  induction l generalizing i with
  | nil => simp at h1; simp [h1]
  | cons y l ih =>
    cases i with
    | zero =>
      have := h3 0 (Nat.le_refl _) (by simp)
      have e : Op.bytesLess y.toList x.toList = false := by simpa using this
      rw [List.takeWhile_cons, e]
      rfl
    | succ i =>
      have e : Op.bytesLess y.toList x.toList = true := by simpa using h2 0 (by omega)
      have h4 := ih (i := i) (by simpa using h1) (fun k hk => by simpa using h2 (k + 1) (by omega)) (fun k hk hkl => by simpa using h3 (k + 1) (by omega) (by simp; omega))
      rw [List.takeWhile_cons, e, if_pos rfl, List.length_cons, ← h4]
/-- A node of which what stands at a place was changed. -/
def changedD (f : Nd → Nd) : List ByteArray → Nd → Nd
  | [], n => f n
  | x :: r, n =>
    if n.kind = 2 then
      let i := lowL n.names x
      let e := if (n.kid x).isSome then i + 1 else i
      let kd := changedD f r ((n.kid x).getD absent)
      if kd.kind = 0 then .mk 2 ByteArray.empty (n.names.take i ++ n.names.drop e) (n.kids.take i ++ n.kids.drop e)
      else .mk 2 ByteArray.empty (n.names.take i ++ [x] ++ n.names.drop e) (n.kids.take i ++ [kd] ++ n.kids.drop e)
    else n
/-- What a change is called with, if directories alone are on the way. -/
def reachD : List ByteArray → Nd → Option Nd
  | [], n => some n
  | x :: r, n => if n.kind = 2 then reachD r ((n.kid x).getD absent) else .none
end Nx
end Go.Proofs.Ytlnnnlpofocgpab
