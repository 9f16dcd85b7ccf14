/- A closed call, run: in a world of which some package's variables are known. No program of its own. -/
import Derived.Test.YtfilbknnpjbmcaaCxWA
namespace Go.Proofs.Ytfilbknnpjbmcaa.Cx
open Go Go.RowKit

/-- What is known of packages' variables, as the run's memory. -/
noncomputable def tabsH {β : Type} : List (Nat × List Value) → (TH → Option β) → Option β
  | [], K => K .leaf
  | p :: r, K => tabsH r fun H => ofList p.2 0 .leaf fun t => TH.put (some (.cells p.2.length t 0 0 false .any)) FUEL H p.1 K
/-- A package's variable holds these cells. -/
def Tab (W : World) (p : Nat × List Value) : Prop := ∃ t fr, W.heap[p.1]? = some (.cells p.2.toArray t fr)

noncomputable def stOf (E : Env) (H : TH) : St := ⟨H, E.ng, 1000000000000⟩
noncomputable def topT (E : Env) (tabs : List (Nat × List Value)) (f : FuncId) (n : Nat) : Bool :=
  bif tabs.all (fun p => Nat.blt p.1 E.ng && p.2.all (plainV FUEL)) then
    match tabsH tabs fun H => enterA E.P f [] .normal fun fr => runF E n ⟨fr, [], stOf E H⟩ with
    | some (.ret (.bool true) _) => true
    | _ => false
  else false

theorem plain_rel {s : Ren} {v : Value} (h : plainV FUEL v = true) : VR s v v := plainV_self h

theorem tabsH_ok {β : Type} {s : Ren} {W : World} {ng : Nat} (hs : ∀ g, g < ng → s g = some ⟨g, 0⟩) : ∀ {tabs : List (Nat × List Value)} {K : TH → Option β} {b : β},
    (∀ p ∈ tabs, p.1 < ng ∧ p.2.all (plainV FUEL) = true ∧ Tab W p) → tabsH tabs K = some b →
    ∃ H, K H = some b ∧ ∀ g o, H.get g = some o → g < ng ∧ roO o = true ∧ ∃ x, W.heap[g]? = some x ∧ ObjR s ⟨g, 0⟩ o x
  | [], K, b, _, h => ⟨.leaf, h, fun g o hg => by simp [TH.get_leaf] at hg⟩
  | p :: r, K, b, hp, h => by
    unfold tabsH at h
    obtain ⟨H, h1, h2⟩ := tabsH_ok hs (fun q hq => hp q (List.mem_cons_of_mem _ hq)) h
    obtain ⟨t, h3, ht⟩ := ofList_ok h1
    obtain ⟨H', h4, hH⟩ := TH.put_some h3
    obtain ⟨hlt, hpl, ty, fr, hw⟩ := hp p (List.mem_cons_self ..)
    refine ⟨H', h4, fun g o hg => ?_⟩
    rw [hH] at hg
    split at hg
    · rename_i hc
      subst hc
      cases hg
      refine ⟨hlt, rfl, _, hw, .inl rfl, ?_, by simp, trivial⟩
      have hv : VRs s p.2.toArray p.2.toArray := VRs.of_lists rfl fun j u hu => ⟨u, hu, plain_rel (List.all_eq_true.1 hpl u (List.mem_of_getElem? hu))⟩
      exact cellsAt_list hv ht
    · exact h2 g o hg

theorem closedT {E : Env} (hEo : E.Ok) (hmix : E.P.follows .mixedOrders = true) {tabs : List (Nat × List Value)} {f : FuncId} {n : Nat} (h : topT E tabs f n = true) (W : World) (hT : ∀ p ∈ tabs, Tab W p) :
    Calls E.P f #[] W fun e W' => e = .returned (.bool true) ∧ Below W.heap.size W W' := by
  intro cs
  unfold topT at h
  cases hall : tabs.all (fun p => Nat.blt p.1 E.ng && p.2.all (plainV FUEL)) with
  | false => rw [hall] at h; cases h
  | true =>
  rw [hall] at h
  simp only [cond_true] at h
  split at h
  · rename_i st0 hr
    let s0 : Ren := fun g => if g < E.ng then some ⟨g, 0⟩ else none
    have hs0 : ∀ g, g < E.ng → s0 g = some ⟨g, 0⟩ := fun g hg => by simp [s0, hg]
    obtain ⟨H, hr, hH⟩ := tabsH_ok (s := s0) hs0 (fun p hp => by
      have := List.all_eq_true.1 hall p hp
      simp only [Bool.and_eq_true, Nat.blt_eq] at this
      exact ⟨this.1, this.2, hT p hp⟩) hr
    obtain ⟨af, h1, h2, _⟩ := enterA_some (s := s0) (args' := #[]) VRs.nil hr
    have hM : Mem s0 (stOf E H) W := ⟨fun g o hg => by
        obtain ⟨a, _, x, b, c⟩ := hH g o hg
        exact ⟨⟨g, 0⟩, x, hs0 g a, b, c⟩, fun g g' o o' l l' hg hg' e e' he => by
        have a := hs0 g (hH g o hg).1
        have a' := hs0 g' (hH g' o' hg').1
        cases e.symm.trans a
        cases e'.symm.trans a'
        exact he, fun g hg _ => by
      have : ¬ g < E.ng := by have : E.ng ≤ g := hg; omega
      simp [s0, this]⟩
    obtain ⟨s', fr', w', e, st', q1, q2, q3, q4, q5, q6⟩ := runF_ok hEo hmix n h1 (s := s0) (fr := Frame.enter E.P f #[] .normal) (cs := []) (w := W) ⟨h2, .nil, hM, fun g hg => by simp [s0, hg]⟩ cs
    cases e with
    | returned v =>
      obtain ⟨hv, _⟩ := q3
      have hvt := bool_of hv
      subst hvt
      refine ⟨.returned (.bool true), w', fr', ⟨rfl, q5.os, q5.tape, q5.output, q5.size, fun k hk => ?_⟩, q1, ?_, q2⟩
      · by_cases hk' : ∃ o, H.get k = some o
        · obtain ⟨o, ho⟩ := hk'
          obtain ⟨a, hro, _⟩ := hH k o ho
          exact (q5.ro k o ⟨k, 0⟩ ho hro (hs0 k a)).2
        · refine q5.frame k hk fun g o l hg e hl => hk' ?_
          have a := hs0 g (hH g o hg).1
          cases e.symm.trans a
          subst hl
          exact ⟨o, hg⟩
      · rw [q6]
        unfold baseA
        have := h2.fn
        simp only [List.getLast?_nil]
        exact this.symm
    | panicked _ => exact q3.elim
    | outgrown => exact q3.elim
  · cases h


/-- A call with plain arguments that comes to this value, in whatever world where these variables stand as at first. -/
noncomputable def topV (E : Env) (tabs : List (Nat × List Value)) (f : FuncId) (args : List Value) (v : Value) (n : Nat) : Bool :=
  bif tabs.all (fun p => Nat.blt p.1 E.ng && p.2.all (plainV FUEL)) then
    match tabsH tabs fun H => enterA E.P f args .normal fun fr => runF E n ⟨fr, [], stOf E H⟩ with
    | some (.ret u _) => args.all (plainV FUEL) && (plainV FUEL v && valEq FUEL u v)
    | _ => false
  else false
theorem knownV {E : Env} (hEo : E.Ok) (hmix : E.P.follows .mixedOrders = true) {tabs : List (Nat × List Value)} {f : FuncId} {args : List Value} {v : Value} {n : Nat} (h : topV E tabs f args v n = true) :
    args.all (plainV FUEL) = true ∧ plainV FUEL v = true ∧ (∀ p ∈ tabs, p.1 < E.ng) ∧ ∀ W : World, (∀ p ∈ tabs, Tab W p) → Calls E.P f args.toArray W fun e W' => e = .returned v ∧ Below W.heap.size W W' := by
  unfold topV at h
  cases hall : tabs.all (fun p => Nat.blt p.1 E.ng && p.2.all (plainV FUEL)) with
  | false => rw [hall] at h; cases h
  | true =>
  rw [hall] at h
  simp only [cond_true] at h
  have hall' : ∀ p ∈ tabs, p.1 < E.ng ∧ p.2.all (plainV FUEL) = true := fun p hp => by
    have := List.all_eq_true.1 hall p hp
    simp only [Bool.and_eq_true, Nat.blt_eq] at this
    exact this
  split at h
  · rename_i u st0 hr
    simp only [Bool.and_eq_true] at h
    obtain ⟨hpa, hpv, huv⟩ := h
    have huv := valEq_eq huv
    subst huv
    refine ⟨hpa, hpv, fun p hp => (hall' p hp).1, fun W hT cs => ?_⟩
    let s0 : Ren := fun g => if g < E.ng then some ⟨g, 0⟩ else none
    have hs0 : ∀ g, g < E.ng → s0 g = some ⟨g, 0⟩ := fun g hg => by simp [s0, hg]
    obtain ⟨H, hr, hH⟩ := tabsH_ok (s := s0) hs0 (fun p hp => ⟨(hall' p hp).1, (hall' p hp).2, hT p hp⟩) hr
    have hA : VRs s0 args.toArray args.toArray := VRs.of_lists rfl fun j u hu => ⟨u, hu, plainV_self (List.all_eq_true.1 hpa u (List.mem_of_getElem? hu))⟩
    obtain ⟨af, h1, h2, _⟩ := enterA_some (s := s0) (args' := args.toArray) hA hr
    have hM : Mem s0 (stOf E H) W := ⟨fun g o hg => by
        obtain ⟨a, _, x, b, c⟩ := hH g o hg
        exact ⟨⟨g, 0⟩, x, hs0 g a, b, c⟩, fun g g' o o' l l' hg hg' e e' he => by
        have a := hs0 g (hH g o hg).1
        have a' := hs0 g' (hH g' o' hg').1
        cases e.symm.trans a
        cases e'.symm.trans a'
        exact he, fun g hg _ => by
      have : ¬ g < E.ng := by have : E.ng ≤ g := hg; omega
      simp [s0, this]⟩
    obtain ⟨s', fr', w', e, st', q1, q2, q3, q4, q5, q6⟩ := runF_ok hEo hmix n h1 (s := s0) (fr := Frame.enter E.P f args.toArray .normal) (cs := []) (w := W) ⟨h2, .nil, hM, fun g hg => by simp [s0, hg]⟩ cs
    cases e with
    | returned v' =>
      obtain ⟨hv, _⟩ := q3
      have hvt := plainV_eq hpv hv
      subst hvt
      refine ⟨.returned v', w', fr', ⟨rfl, q5.os, q5.tape, q5.output, q5.size, fun k hk => ?_⟩, q1, ?_, q2⟩
      · by_cases hk' : ∃ o, H.get k = some o
        · obtain ⟨o, ho⟩ := hk'
          obtain ⟨a, hro, _⟩ := hH k o ho
          exact (q5.ro k o ⟨k, 0⟩ ho hro (hs0 k a)).2
        · refine q5.frame k hk fun g o l hg e hl => hk' ?_
          have a := hs0 g (hH g o hg).1
          cases e.symm.trans a
          subst hl
          exact ⟨o, hg⟩
      · rw [q6]
        unfold baseA
        have := h2.fn
        simp only [List.getLast?_nil]
        exact this.symm
    | panicked _ => exact q3.elim
    | outgrown => exact q3.elim
  · cases h
/-- Calls told one by one. -/
noncomputable def sameVs (a b : List Value) : Bool :=
  match a, b with
  | [], [] => true
  | x :: a, y :: b => valEq FUEL x y && sameVs a b
  | _, _ => false
theorem sameVs_eq : ∀ {a b : List Value}, sameVs a b = true → a = b
  | [], [], _ => rfl
  | x :: a, y :: b, h => by
    simp only [sameVs, Bool.and_eq_true] at h
    rw [valEq_eq h.1, sameVs_eq h.2]
  | [], _ :: _, h => by cases h
  | _ :: _, [], h => by cases h
/-- The state tells that a package's variable holds these cells. -/
noncomputable def atAll (t : TV) : Nat → List Value → Bool
  | _, [] => true
  | i, v :: r => match t.get i with
    | some u => valEq FUEL u v && atAll t (Nat.succ i) r
    | none => false
noncomputable def hasTab (st : St) (p : Nat × List Value) : Bool :=
  match st.H.get p.1 with
  | some (.cells n t _ _ false _) => Nat.beq n p.2.length && (p.2.all (plainV FUEL) && atAll t 0 p.2)
  | _ => false
theorem atAll_ok {t : TV} : ∀ {l : List Value} {i : Nat}, atAll t i l = true → ∀ j v, l[j]? = some v → t.get (i + j) = some v
  | [], _, _, j, v, hv => by simp at hv
  | x :: r, i, h, j, v, hv => by
    unfold atAll at h
    split at h
    · rename_i u hu
      simp only [Bool.and_eq_true] at h
      cases j with
      | zero =>
        simp at hv
        subst hv
        rw [Nat.add_zero, hu, valEq_eq h.1]
      | succ j =>
        have := atAll_ok h.2 j v (by simpa using hv)
        rwa [show i.succ + j = i + (j + 1) by omega] at this
    · cases h
theorem hasTab_ok {s : Ren} {st : St} {W : World} {ng : Nat} {p : Nat × List Value} (hM : Mem s st W) (hg : ∀ g, g < ng → s g = some ⟨g, 0⟩) (hp : p.1 < ng) (h : hasTab st p = true) : Tab W p := by
  unfold hasTab at h
  split at h
  · rename_i n t e esz fz hH
    simp only [Bool.and_eq_true] at h
    obtain ⟨h1, h2, h3⟩ := h
    obtain ⟨l, x, e1, e2, e3⟩ := hM.at_ p.1 _ hH
    cases e1.symm.trans (hg p.1 hp)
    cases x with
    | cells c e' q =>
      obtain ⟨_, r2, r3, _⟩ := e3
      have hn : n = p.2.length := Nat.eq_of_beq_eq_true h1
      have hsz : c.size = n := by simpa using r3
      refine ⟨e', q, ?_⟩
      rw [e2]
      congr 2
      refine Array.ext (by simp [hsz, hn]) fun i hi1 hi2 => ?_
      have hi : i < p.2.length := by simpa using hi2
      have hv := atAll_ok h3 i p.2[i] (List.getElem?_eq_getElem hi)
      rw [Nat.zero_add] at hv
      obtain ⟨v', e4, e5⟩ := r2 i _ (by omega) hv
      have := plainV_eq (List.all_eq_true.1 h2 _ (List.getElem_mem hi)) e5
      subst this
      rw [Array.getElem?_eq_getElem hi1] at e4
      simpa using e4
    | _ => exact e3.elim
  · cases h
/-- A call that is known: the function, the arguments, the package's variables that must stand as they are at first, the answer. -/
structure Kn where
  f : FuncId
  args : List Value
  tabs : List (Nat × List Value)
  v : Value
noncomputable def knownL (l : List Kn) (f : FuncId) (args : List Value) (st : St) : Option Value :=
  match l with
  | [] => none
  | p :: r => bif Nat.beq p.f f then bif sameVs args p.args && p.tabs.all (hasTab st) then some p.v else knownL r f args st else knownL r f args st
theorem knownL_some {f : FuncId} {args : List Value} {st : St} {v : Value} : ∀ {l : List Kn}, knownL l f args st = some v → ∃ k ∈ l, k.f = f ∧ k.args = args ∧ k.v = v ∧ k.tabs.all (hasTab st) = true
  | [], h => by cases h
  | p :: r, h => by
    unfold knownL at h
    have rest : knownL r f args st = some v → ∃ k ∈ p :: r, k.f = f ∧ k.args = args ∧ k.v = v ∧ k.tabs.all (hasTab st) = true := fun h => by
      obtain ⟨k, h1, h2⟩ := knownL_some h
      exact ⟨k, List.mem_cons_of_mem _ h1, h2⟩
    cases hb : Nat.beq p.f f with
    | true =>
      simp only [hb, cond_true] at h
      cases hc : (sameVs args p.args && p.tabs.all (hasTab st)) with
      | true =>
        simp only [hc, cond_true, Option.some.injEq] at h
        simp only [Bool.and_eq_true] at hc
        exact ⟨p, List.mem_cons_self, Nat.eq_of_beq_eq_true hb, (sameVs_eq hc.1).symm, h, hc.2⟩
      | false =>
        simp only [hc, cond_false] at h
        exact rest h
    | false =>
      simp only [hb, cond_false] at h
      exact rest h
/-- What has been shown of a call that is known. -/
def Kn.Ok (E : Env) (k : Kn) : Prop := k.args.all (plainV FUEL) = true ∧ plainV FUEL k.v = true ∧ (∀ p ∈ k.tabs, p.1 < E.ng) ∧ ∀ W : World, (∀ p ∈ k.tabs, Tab W p) → Calls E.P k.f k.args.toArray W fun e W' => e = .returned k.v ∧ Below W.heap.size W W'
theorem knownL_ok {P : Program} {ng : Nat} {E : Env} (hP : E.P = P) (hng : E.ng = ng) {l : List Kn} (hl : ∀ k ∈ l, k.Ok E) : ∀ f args st v, knownL l f args st = some v → plainV FUEL v = true ∧ ∀ (s : Ren) (W : World) (args' : Array Value), Mem s st W → (∀ g, g < ng → s g = some ⟨g, 0⟩) → VRs s args.toArray args' →
    Calls P f args' W fun e W' => e = .returned v ∧ Below W.heap.size W W' := by
  intro f args st v h
  obtain ⟨k, hk, rfl, rfl, rfl, ht⟩ := knownL_some h
  obtain ⟨h1, h2, h3, h4⟩ := hl k hk
  refine ⟨h2, fun s W args' hM hG hA => ?_⟩
  have := plains_eq (by simpa using h1) hA
  subst this
  rw [← hP]
  exact h4 W fun p hp => hasTab_ok hM hG (hng ▸ h3 p hp) (List.all_eq_true.1 ht p hp)

end Go.Proofs.Ytfilbknnpjbmcaa.Cx
