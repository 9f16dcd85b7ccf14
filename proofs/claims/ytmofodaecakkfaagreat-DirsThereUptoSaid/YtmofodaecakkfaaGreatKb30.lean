/- How many nodes a tree has behind what was made in it, and how long places are. No program. -/
import Derived.Test.YtmofodaecakkfaaGreatKb29
import Derived.Test.YtmofodaecakkfaaGreatKb05
import Derived.Test.YtmofodaecakkfaaGreatKb25
namespace Go.Proofs.YtmofodaecakkfaaGreat
open Go.RowKit Px Nx
namespace Nx
def nodesE : Ents → Nat
  | [] => 0
  | (_, v) :: r => v.nodes + nodesE r
def nodesO : Option Nd → Nat
  | .none => 0
  | some k => k.nodes
theorem nodesE_append : ∀ l r : Ents, nodesE (l ++ r) = nodesE l + nodesE r
  | [], r => by simp [nodesE]
  | (x, v) :: l, r => by rw [List.cons_append, nodesE, nodesE, nodesE_append l r]; omega
theorem nodesE_one (x : ByteArray) (o : Option Nd) : nodesE (one x o) = nodesO o := by cases o <;> simp [one, nodesE, nodesO]
theorem nodes_ofE (l : Ents) : (ofE l).nodes = nodesE l + 1 := by
  unfold ofE
  rw [Nd.nodes]
  have : Nd.nodesAll (l.map (·.2)) = nodesE l := by
    induction l with
    | nil => simp [Nd.nodesAll, nodesE]
    | cons a r ih =>
      obtain ⟨x, v⟩ := a
      rw [nodesE, ← ih]
      simp only [List.map_cons, Nd.nodesAll]
  omega
theorem nodes_set {l : Ents} (h : Asc l) (x : ByteArray) (o : Option Nd) : nodesE (setE l x o) + nodesO (getE l x) = nodesE l + nodesO o := by
  induction l with
  | nil => rw [setE, nodesE_one]; simp [getE, nodesO, nodesE]
  | cons b r ih =>
    obtain ⟨y, v⟩ := b
    obtain ⟨h1, h2⟩ := List.pairwise_cons.1 h
    rw [setE, getE]
    by_cases hl : Op.bytesLess y.toList x.toList = true
    · rw [if_pos hl, if_neg (less_ne hl), nodesE, nodesE]
      have := ih h2
      omega
    · have hl' := Bool.eq_false_iff.2 hl
      rw [if_neg hl, nodesE_append, nodesE_one]
      by_cases hy : y = x
      · rw [if_pos hy, if_pos hy, nodesE]
        show _ + v.nodes = _
        omega
      · rw [if_neg hy, if_neg hy, getE_none fun a ha e => less_ne (less_trans (less_tri hl' hy) (h1 a ha)) e.symm]
        show _ + 0 = _
        omega
theorem changed_nodes {y : Nd} : ∀ (p : List ByteArray) (n : Nd), Fine n → (changedD (fun _ => y) p n).nodes ≤ n.nodes + y.nodes
  | [], n, _ => by show y.nodes ≤ _; omega
  | x :: r, n, hn => by
    by_cases hk : n.kind = 2
    · have hw : n.well = true := by
        rcases hn with h | rfl
        · exact h
        · cases hk
      obtain ⟨l, rfl, hg⟩ := dir_ents hw hk
      rw [changed_ofE hg.1, nodes_ofE, nodes_ofE]
      have hs := nodes_set hg.1 x (opt (changedD (fun _ => y) r ((getE l x).getD absent)))
      have ho : nodesO (opt (changedD (fun _ => y) r ((getE l x).getD absent))) ≤ (changedD (fun _ => y) r ((getE l x).getD absent)).nodes := by
        unfold opt
        split
        · exact Nat.zero_le _
        · exact Nat.le_refl _
      cases hge : getE l x with
      | none =>
        rw [hge] at hs ho
        have e2 : nodesO (.none) = 0 := rfl
        rw [e2] at hs
        have e3 : ((.none : Option Nd).getD absent) = absent := rfl
        rw [e3] at hs ho
        cases r with
        | nil =>
          rw [changed_nil] at hs ho
          rw [e3, changed_nil]
          omega
        | cons z q =>
          rw [changed_absent, opt_absent, e2] at hs
          rw [e3, changed_absent, opt_absent]
          omega
      | some k =>
        have ih := changed_nodes (y := y) r k (.inl (good_get hg hge))
        rw [hge] at hs ho
        have e2 : nodesO (some k) = k.nodes := rfl
        rw [e2] at hs
        have e3 : ((some k : Option Nd).getD absent) = k := rfl
        rw [e3] at hs ho ⊢
        omega
    · rw [changed_leaf _ x r hk]
      omega
/-- Nothing is more behind what was taken away. -/
theorem gone_nodes : ∀ (p : List ByteArray) (n : Nd), Fine n → p ≠ [] → (changedD (fun _ => absent) p n).nodes ≤ n.nodes
  | [], _, _, h => absurd rfl h
  | x :: r, n, hn, _ => by
    by_cases hk : n.kind = 2
    · have hw : n.well = true := by
        rcases hn with h | rfl
        · exact h
        · cases hk
      obtain ⟨l, rfl, hg⟩ := dir_ents hw hk
      rw [changed_ofE hg.1, nodes_ofE, nodes_ofE]
      have hs := nodes_set hg.1 x (opt (changedD (fun _ => absent) r ((getE l x).getD absent)))
      cases r with
      | nil =>
        rw [changed_nil, opt_absent] at hs ⊢
        have e2 : nodesO (.none) = 0 := rfl
        omega
      | cons z q =>
        have ho : nodesO (opt (changedD (fun _ => absent) (z :: q) ((getE l x).getD absent))) ≤ (changedD (fun _ => absent) (z :: q) ((getE l x).getD absent)).nodes := by
          unfold opt
          split
          · exact Nat.zero_le _
          · exact Nat.le_refl _
        cases hge : getE l x with
        | none =>
          rw [hge] at hs
          have e2 : nodesO (.none) = 0 := rfl
          have e3 : ((.none : Option Nd).getD absent) = absent := rfl
          rw [e3, changed_absent, opt_absent, e2] at hs
          rw [e3, changed_absent, opt_absent]
          omega
        | some k =>
          have ih := gone_nodes (z :: q) k (.inl (good_get hg hge)) (by simp)
          rw [hge] at hs ho
          have e2 : nodesO (some k) = k.nodes := rfl
          rw [e2] at hs
          have e3 : ((some k : Option Nd).getD absent) = k := rfl
          rw [e3] at hs ho ⊢
          omega
    · rw [changed_leaf _ x r hk]
      omega
theorem put_nodes {n y : Nd} {p : List ByteArray} (hw : n.well = true) : (putD n p y).nodes ≤ n.nodes + y.nodes := by
  unfold putD
  split
  · exact changed_nodes p n (.inl hw)
  · omega
theorem make_nodes {n : Nd} {p : List ByteArray} (hw : n.well = true) : (makeD n p dirN).2.nodes ≤ n.nodes + 1 := by
  have h1 := put_nodes (y := dirN) (p := p) hw
  have h2 : dirN.nodes = 1 := rfl
  unfold makeD
  cases takenD n p <;> cases dirN.well <;> cases decide (kat n p = 0) <;> simp only [cond_true, cond_false] <;> omega
theorem touch_nodes {n : Nd} {p : List ByteArray} (hw : n.well = true) : (touchD n p).2.nodes ≤ n.nodes + 1 := by
  have h1 := put_nodes (y := fileN ByteArray.empty) (p := p) hw
  have h2 : (fileN ByteArray.empty).nodes = 1 := rfl
  unfold touchD
  cases takenD n p <;> cases decide (kat n p = 3) <;> cases decide (kat n p = 0) <;> simp only [cond_true, cond_false] <;> omega
theorem remove_nodes {n : Nd} {p : List ByteArray} {c : Int} (hw : n.well = true) : (removeD n p c).2.nodes ≤ n.nodes := by
  have h1 : (delD n p).nodes ≤ n.nodes := by
    unfold delD
    split
    · exact Nat.le_refl _
    · rename_i h
      exact gone_nodes p n (.inl hw) h
  unfold removeD
  cases takenD n p <;> cases decide (kat n p = 0) <;> cases decide (c = 0) <;> simp only [cond_true, cond_false] <;> omega
theorem make_well {n : Nd} {p : List ByteArray} (hw : n.well = true) : (makeD n p dirN).2.well = true ∧ (makeD n p dirN).2.kind = n.kind := by
  have h1 := put_well (N := dirN) (A := p) hw
  unfold makeD
  cases takenD n p <;> cases dirN.well <;> cases decide (kat n p = 0) <;> first | exact h1 | exact ⟨hw, rfl⟩
theorem touch_well {n : Nd} {p : List ByteArray} (hw : n.well = true) : (touchD n p).2.well = true ∧ (touchD n p).2.kind = n.kind := by
  have h1 := put_well (N := fileN ByteArray.empty) (A := p) hw
  unfold touchD
  cases takenD n p <;> cases decide (kat n p = 3) <;> cases decide (kat n p = 0) <;> first | exact h1 | exact ⟨hw, rfl⟩
theorem remove_well {n : Nd} {p : List ByteArray} {c : Int} (hw : n.well = true) : (removeD n p c).2.well = true ∧ (removeD n p c).2.kind = n.kind := by
  have h1 := del_well (A := p) hw
  unfold removeD
  cases takenD n p <;> cases decide (kat n p = 0) <;> cases decide (c = 0) <;> first | exact h1 | exact ⟨hw, rfl⟩
theorem mem_bulkE : ∀ {l : Ents} {x : ByteArray} {k : Nd}, (x, k) ∈ l → x.size + 1 + k.bulk ≤ bulkE l
  | [], _, _, h => by simp at h
  | (y, v) :: r, x, k, h => by
    rw [bulkE]
    rcases List.mem_cons.1 h with e | e
    · cases e; omega
    · have := mem_bulkE e; omega
/-- The names of a place where something stands. -/
theorem names_there : ∀ (q : List ByteArray) (n k : Nd), n.well = true → n.at_ q = some k → namesBulk q + k.bulk ≤ n.bulk
  | [], n, k, _, h => by
    rw [Nd.at_] at h
    cases h
    simp [namesBulk]
  | x :: r, n, k, hw, h => by
    rw [Nd.at_] at h
    cases hk : n.kid x with
    | none => rw [hk] at h; cases h
    | some d =>
      rw [hk] at h
      have h : d.at_ r = some k := h
      by_cases hd : n.kind = 2
      · obtain ⟨l, rfl, hg⟩ := dir_ents hw hd
        rw [kid_ofE] at hk
        have h1 := mem_bulkE (getE_mem hk)
        have h2 := names_there r d k (good_get hg hk) h
        rw [bulk_ofE]
        have e1 : namesBulk (x :: r) = x.size + 1 + namesBulk r := by simp [namesBulk]
        omega
      · rw [kid_leaf hw hd] at hk; cases hk
theorem names_snoc (q : List ByteArray) (s : ByteArray) : namesBulk (q ++ [s]) = namesBulk q + s.size + 1 := by
  simp [namesBulk]
  omega
end Nx
namespace Wk
/-- A tree as the calls here are handed it. -/
structure TreeN (N : Nat) (n : Nd) : Prop where
  well : n.well = true
  kind : n.kind = 2
  nodes : n.nodes ≤ N
theorem TreeN.bulk {N : Nat} {n : Nd} (h : TreeN N n) : n.bulk ≤ 322 * N := by
  have := well_bulk n h.well
  have := h.nodes
  omega
theorem TreeN.girth {N : Nat} {n : Nd} (h : TreeN N n) : n.girth ≤ 322 * N := Nat.le_trans (Nd.girth_bulk n) h.bulk
theorem TreeN.more {N M : Nat} {n : Nd} (h : TreeN N n) (hm : N ≤ M) : TreeN M n := ⟨h.well, h.kind, Nat.le_trans h.nodes hm⟩
theorem kindAt_some {n : Nd} {p : List ByteArray} (h : kindAt n p ≠ 0) : ∃ k, n.at_ p = some k ∧ k.kind = kindAt n p := by
  unfold kindAt at h ⊢
  cases hat : n.at_ p with
  | none => rw [hat] at h; exact absurd rfl h
  | some k => exact ⟨k, rfl, rfl⟩
theorem at_well : ∀ (q : List ByteArray) (n k : Nd), n.well = true → n.at_ q = some k → k.well = true
  | [], n, k, hw, h => by
    rw [Nd.at_] at h
    cases h
    exact hw
  | x :: r, n, k, hw, h => by
    rw [Nd.at_] at h
    cases hk : n.kid x with
    | none => rw [hk] at h; cases h
    | some d =>
      rw [hk] at h
      by_cases hd : n.kind = 2
      · obtain ⟨l, rfl, hg⟩ := dir_ents hw hd
        rw [kid_ofE] at hk
        exact at_well r d k (good_get hg hk) h
      · rw [kid_leaf hw hd] at hk; cases hk
theorem text_at {n : Nd} (hw : n.well = true) {p : List ByteArray} : (textAt n p).size ≤ 256 := by
  unfold textAt
  cases hat : n.at_ p with
  | none => exact Nat.zero_le _
  | some k => exact text_small (at_well p n k hw hat)
variable {n : Nd} {st : ByteArray → List ByteArray} {dr ab : ByteArray → Bool} {a : Bool}
/-- The names of the place where a way ends are no longer than what it goes through. -/
theorem run_small {M : Nat} (hst : ∀ q, ∀ s ∈ st (textAt n q), s.size ≤ M) {fo : Bool} {at_ l : List ByteArray} {j : Nat} {a : Bool} {o : Out} (h : Run n st dr ab fo at_ l j a o) : (∀ s ∈ at_, s.size ≤ M) → (∀ s ∈ l, s.size ≤ M) → ∀ p k, o = .ok p k → ∀ s ∈ p, s.size ≤ M := by
  have hsnoc : ∀ {at_ : List ByteArray} {s : ByteArray} {r : List ByteArray}, (∀ x ∈ at_, x.size ≤ M) → (∀ x ∈ s :: r, x.size ≤ M) → ∀ x ∈ at_ ++ [s], x.size ≤ M := by
    intro at_ s r h1 h2 x hx
    rcases List.mem_append.1 hx with hx | hx
    · exact h1 x hx
    · obtain rfl : x = s := by simpa using hx
      exact h2 x (by simp)
  have htl : ∀ {s : ByteArray} {r : List ByteArray}, (∀ x ∈ s :: r, x.size ≤ M) → ∀ x ∈ r, x.size ≤ M := fun h x hx => h x (List.mem_cons_of_mem _ hx)
  induction h with
  | done at_ j a => intro h1 _ p k e; cases e; exact h1
  | up at_ r j a o _ ih => exact fun h1 h2 => ih (fun s hs => h1 s (List.dropLast_subset _ hs)) (htl h2)
  | ends at_ s j a _ _ => intro h1 h2 p k e; cases e; exact hsnoc h1 h2
  | none => intro _ _ p k e; cases e
  | dir at_ s r j a o _ _ _ _ ih => exact fun h1 h2 => ih (hsnoc h1 h2) (htl h2)
  | loop => intro _ _ p k e; cases e
  | link at_ s r j a o _ _ _ _ _ ih =>
    intro h1 h2
    refine ih ?_ fun x hx => ?_
    · split
      · intro x hx; simp at hx
      · exact h1
    · rcases List.mem_append.1 hx with hx | hx
      · exact hst _ x hx
      · exact htl h2 x hx
  | file => intro _ _ p k e; cases e
/-- Errors of a way. -/
theorem run_err {fo : Bool} {at_ l : List ByteArray} {j : Nat} {a : Bool} {o : Out} (h : Run n st dr ab fo at_ l j a o) : ∀ e, o = .err e → e = 5 ∨ e = 55 ∨ e = 61 := by
  induction h with
  | done => intro e he; cases he
  | up _ _ _ _ _ _ ih => exact ih
  | ends => intro e he; cases he
  | none => intro e he; cases he; exact .inl rfl
  | dir _ _ _ _ _ _ _ _ _ _ ih => exact ih
  | loop => intro e he; cases he; exact .inr (.inr rfl)
  | link _ _ _ _ _ _ _ _ _ _ _ ih => exact ih
  | file => intro e he; cases he; exact .inr (.inl rfl)
theorem step_size {s : ByteArray} : ∀ x ∈ stepsB s, x.size ≤ s.size := by
  intro x hx
  obtain ⟨l, hl, rfl⟩ := List.mem_map.1 hx
  have := (steps_mem hl).2.2
  show l.toArray.size ≤ _
  rw [Array.length_toList] at this
  simpa using this
/-- The names of a place to which a path leads, together. -/
theorem place_small {N : Nat} (hG : TreeN N n) {fo : Bool} {t : ByteArray} {p : List ByteArray} {k : UInt8} (h : Run n stepsB dr ab fo [] (stepsB t) 0 a (.ok p k)) {M : Nat} (ht : t.size ≤ M) (hM : 256 ≤ M) : namesBulk p ≤ 322 * N + M + 1 := by
  have h1 := (run_real hG.kind h (dirsTo_nil hG.kind) p k rfl).1
  have h2 := run_small (M := M) (fun q s hs => by
    have a1 := step_size s hs
    have a2 := text_at hG.well (p := q)
    omega) h (fun s hs => by simp at hs) (fun s hs => by have := step_size s hs; omega) p k rfl
  rcases List.eq_nil_or_concat p with rfl | ⟨l, x, rfl⟩
  · simp [namesBulk]
  · rw [List.concat_eq_append] at *
    have hk := h1 l (List.prefix_append l [x]) (fun e => by have := congrArg List.length e; simp at this)
    obtain ⟨d, hd, _⟩ := kindAt_some (by rw [hk]; decide)
    have h3 := names_there l n d hG.well hd
    have h4 := h2 x (by simp)
    have h5 := hG.bulk
    rw [names_snoc]
    omega
end Wk
end Go.Proofs.YtmofodaecakkfaaGreat
/- Walks over nodes: one that is changed at a place, by Move. -/
namespace Go.Proofs.YtmofodaecakkfaaGreat
open Go.RowKit Px Nx
end Go.Proofs.YtmofodaecakkfaaGreat
