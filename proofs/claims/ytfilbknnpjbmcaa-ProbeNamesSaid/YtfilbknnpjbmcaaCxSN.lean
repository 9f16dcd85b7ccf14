/- A closed call, run, where packages' variables hold errors that nobody looks into: what they point to has a number of its own, and no block. No program of its own. -/
import Derived.Test.YtfilbknnpjbmcaaCxZ
namespace Go.Proofs.Ytfilbknnpjbmcaa.Cx
open Go Go.RowKit Go.ChangeShapes Go.WideShapes Go.ChangeAt

/-- A package's variable holds what stands for these cells. -/
def TabR (s : Ren) (W : World) (p : Nat × List Value) : Prop := ∃ c t fr, W.heap[p.1]? = some (.cells c t fr) ∧ VRs s p.2.toArray c
theorem Tab.r {s : Ren} {W : World} {p : Nat × List Value} (h : Tab W p) (hp : p.2.all (plainV FUEL) = true) : TabR s W p := by
  obtain ⟨t, fr, hw⟩ := h
  exact ⟨_, t, fr, hw, VRs.of_lists rfl fun j u hu => ⟨u, hu, plain_rel (List.all_eq_true.1 hp u (List.mem_of_getElem? hu))⟩⟩
theorem tabsH_r {β : Type} {s : Ren} {W : World} {ng : Nat} (hs : ∀ g, g < ng → s g = some ⟨g, 0⟩) : ∀ {tabs : List (Nat × List Value)} {K : TH → Option β} {b : β},
    (∀ p ∈ tabs, p.1 < ng ∧ TabR s W p) → tabsH tabs K = some b →
    ∃ H, K H = some b ∧ ∀ g o, H.get g = some o → g < ng ∧ roO o = true ∧ ∃ x, W.heap[g]? = some x ∧ ObjR s ⟨g, 0⟩ o x
  | [], K, b, _, h => ⟨.leaf, h, fun g o hg => by simp [TH.get_leaf] at hg⟩
  | p :: r, K, b, hp, h => by
    unfold tabsH at h
    obtain ⟨H, h1, h2⟩ := tabsH_r hs (fun q hq => hp q (List.mem_cons_of_mem _ hq)) h
    obtain ⟨t, h3, ht⟩ := ofList_ok h1
    obtain ⟨H', h4, hH⟩ := TH.put_some h3
    obtain ⟨hlt, c, ty, fr, hw, hv⟩ := hp p (List.mem_cons_self ..)
    refine ⟨H', h4, fun g o hg => ?_⟩
    rw [hH] at hg
    split at hg
    · rename_i hc
      subst hc
      cases hg
      refine ⟨hlt, rfl, _, hw, .inl rfl, cellsAt_list hv ht, ?_, trivial⟩
      have := hv.1
      simp only [List.size_toArray] at this
      simp [this]
    · exact h2 g o hg

noncomputable def topS (E : Env) (tabs snts : List (Nat × List Value)) (f : FuncId) (n : Nat) : Bool :=
  bif tabs.all (fun p => Nat.blt p.1 E.ng && p.2.all (plainV FUEL)) && snts.all (fun p => Nat.blt p.1 E.ng) then
    match tabsH (snts ++ tabs) fun H => enterA E.P f [] .normal fun fr => runF E n ⟨fr, [], stOf E H⟩ with
    | some (.ret (.bool true) _) => true
    | _ => false
  else false
theorem closedS {E : Env} (hEo : E.Ok) (hmix : E.P.follows .mixedOrders = true) {tabs snts : List (Nat × List Value)} {f : FuncId} {n : Nat} (h : topS E tabs snts f n = true) (W : World) (hT : ∀ p ∈ tabs, Tab W p)
    (hS : ∀ p ∈ snts, ∀ s, TabR s W p) :
    Calls E.P f #[] W fun e W' => e = .returned (.bool true) ∧ Below W.heap.size W W' := by
  intro cs
  unfold topS at h
  cases hall : (tabs.all (fun p => Nat.blt p.1 E.ng && p.2.all (plainV FUEL)) && snts.all (fun p => Nat.blt p.1 E.ng)) with
  | false => rw [hall] at h; cases h
  | true =>
  rw [hall] at h
  simp only [cond_true] at h
  rw [Bool.and_eq_true] at hall
  split at h
  · rename_i st0 hr
    let s0 : Ren := fun g => if g < E.ng then some ⟨g, 0⟩ else none
    have hs0 : ∀ g, g < E.ng → s0 g = some ⟨g, 0⟩ := fun g hg => by simp [s0, hg]
    obtain ⟨H, hr, hH⟩ := tabsH_r (s := s0) hs0 (W := W) (fun p hp => by
      rcases List.mem_append.1 hp with hp | hp
      · have := List.all_eq_true.1 hall.2 p hp
        rw [Nat.blt_eq] at this
        exact ⟨this, hS p hp s0⟩
      · have := List.all_eq_true.1 hall.1 p hp
        simp only [Bool.and_eq_true, Nat.blt_eq] at this
        exact ⟨this.1, (hT p hp).r this.2⟩) hr
    obtain ⟨af, h1, h2, _⟩ := enterA_some (s := s0) (args' := #[]) VRs.nil hr
    have hM : Mem s0 (stOf E H) W := ⟨fun g o hg => by
        obtain ⟨a, _, x, b, c⟩ := hH g o hg
        exact ⟨⟨g, 0⟩, x, hs0 g a, b, c⟩, fun g g' o o' l l' hg hg' e e' he => by
        have a := hs0 g (hH g o hg).1
        have a' := hs0 g' (hH g' o' hg').1
        cases e.symm.trans a
        cases e'.symm.trans a'
        exact he, fun g hg _ => by
      have : ¬ g < E.ng := by have : E.ng ≤ g := hg; omega
      simp [s0, this]⟩
    obtain ⟨s', fr', w', e, st', q1, q2, q3, q4, q5, q6⟩ := runF_ok hEo hmix n h1 (s := s0) (fr := Frame.enter E.P f #[] .normal) (cs := []) (w := W) ⟨h2, .nil, hM, fun g hg => hs0 g hg⟩ cs
    cases e with
    | returned v =>
      obtain ⟨hv, _⟩ := q3
      have hvt := bool_of hv
      subst hvt
      refine ⟨.returned (.bool true), w', fr', ⟨rfl, q5.os, q5.tape, q5.output, q5.size, fun k hk => ?_⟩, q1, ?_, q2⟩
      · by_cases hk' : ∃ o, H.get k = some o
        · obtain ⟨o, ho⟩ := hk'
          obtain ⟨a, hro, _⟩ := hH k o ho
          exact (q5.ro k o ⟨k, 0⟩ ho hro (hs0 k a)).2
        · refine q5.frame k hk fun g o l hg e hl => hk' ?_
          have a := hs0 g (hH g o hg).1
          cases e.symm.trans a
          subst hl
          exact ⟨o, hg⟩
      · rw [q6]
        unfold baseA
        have := h2.fn
        simp only [List.getLast?_nil]
        exact this.symm
    | panicked _ => exact q3.elim
    | outgrown => exact q3.elim
  · cases h

theorem laidVars_at {P : Program} {W : World} : ∀ {l : List (String × DataW Unit)} {ps : List MemPlace}, DataW.LaidVars P W l ps → ∀ x ∈ l,
    ∃ g t cs fuel p, P.globalNamed x.1 = some g ∧ (P.globals[g]?).map (·.type) = some t ∧ W.var? P x.1 = some cs ∧ DataW.trod (fun _ => ()) P W 0 (fun _ => true) false fuel t cs.toList = some (x.2, p) ∧ ∀ m ∈ MemPlace.row ⟨g, 0, none⟩ cs.size, m ∈ ps
  | [], _, _, x, hx => by cases hx
  | (n, d) :: r, ps, h, x, hx => by
    obtain ⟨g, t, cs, fuel, p, q, h1, h2, h3, h4, h5, h6⟩ := h
    rcases List.mem_cons.1 hx with rfl | hx
    · exact ⟨g, t, cs, fuel, p, h1, h2, h3, h4, fun m hm => by rw [h6]; simp [hm]⟩
    · obtain ⟨g', t', cs', fuel', p', k1, k2, k3, k4, k5⟩ := laidVars_at h5 x hx
      exact ⟨g', t', cs', fuel', p', k1, k2, k3, k4, fun m hm => by rw [h6]; simp [k5 m hm]⟩
/-- A variable of the row's list that holds an error: what it points to is somewhere. -/
theorem snt_laid {P : Program} {W : World} {l : List (String × DataW Unit)} (h : laidMet P l W) {n nm : String} {d : DataW Unit} (hx : (n, .iface nm (.ptr d)) ∈ l) {g t : Nat} (hg : P.globalNamed n = some g)
    (ht : (P.globals[g]?).map (·.type) = some t) (hu : ∃ m, P.underlying t = some (.interface m)) :
    ∃ u b o t' fr, W.heap[g]? = some (.cells #[.iface u (.pointer (some ⟨b, o, none⟩))] t' fr) := by
  obtain ⟨ps, hl, _, hty⟩ := h
  obtain ⟨g', t2, cs, fuel, p, h1, h2, h3, h4, h5⟩ := laidVars_at hl _ hx
  obtain rfl := Option.some.inj (hg.symm.trans h1)
  obtain rfl := Option.some.inj (ht.symm.trans h2)
  obtain ⟨m, hu⟩ := hu
  cases fuel with
  | zero => simp [DataW.trod] at h4
  | succ fuel =>
  have key : ∃ u v, cs.toList = [.iface u v] ∧ ∃ ps2, DataW.trod (fun _ => ()) P W 0 (fun _ => true) false fuel u v.cells.toList = some (.ptr d, ps2) := by
    unfold DataW.trod at h4
    rw [hu] at h4
    split at h4 <;> try (rename_i hq _; cases hq; done)
    all_goals try (rename_i hq; cases hq; done)
    all_goals first
      | (simp at h4; done)
      | skip
    · rename_i u v _ hcs
      simp only at h4
      split at h4
      · contradiction
      · rename_i name _ hnm
        obtain ⟨x, hx1, hx2⟩ := Option.map_eq_some_iff.1 h4
        simp only [Prod.mk.injEq, DataW.iface.injEq] at hx2
        obtain ⟨⟨rfl, hd⟩, rfl⟩ := hx2
        exact ⟨u, v, hcs, x.2, by rw [hx1, ← hd]⟩
      · cases h4
  obtain ⟨u, v, e1, ps2, e3⟩ := key
  have hcs : cs = #[.iface u v] := by
    rw [← Array.toArray_toList (xs := cs), e1]
  have hat : ∃ t' fr, W.heap[g]? = some (.cells #[.iface u v] t' fr) := by
    unfold World.var? at h3
    rw [hg] at h3
    simp only [Option.bind_some] at h3
    split at h3
    · rename_i cs' t2 fr hh
      have e4 : cs' = cs := by simpa using h3
      exact ⟨t2, fr, by rw [hh, e4, hcs]⟩
    · cases h3
  obtain ⟨t', fr, hat⟩ := hat
  have hok := (hty g 0 (h5 _ (by rw [hcs]; simp [MemPlace.row]))).2 u v (by simp [World.cell?, hat])
  have hptr : ∃ e a, P.underlying u = some (.pointer e) ∧ v.cells.toList = [.pointer (some a)] := by
    cases fuel with
    | zero => simp [DataW.trod] at e3
    | succ fuel =>
    unfold DataW.trod at e3
    split at e3
    case h_6 => rename_i e' a hq hcs2; exact ⟨e', a, hq, hcs2⟩
    all_goals first
      | (simp at e3; done)
      | (split at e3 <;> simp at e3; done)
      | skip
    · dsimp only at e3
      split at e3
      · obtain ⟨x, hx1, hx2⟩ := Option.bind_eq_some_iff.1 e3
        obtain ⟨y, hy1, hy2⟩ := Option.map_eq_some_iff.1 hx2
        cases hy2
      · cases e3
    · split at e3
      · split at e3
        · obtain ⟨x, hx1, hx2⟩ := Option.bind_eq_some_iff.1 e3
          dsimp only at hx2
          split at hx2
          · cases hx2
          · cases hx2
        · cases e3
      · cases e3
  obtain ⟨e, ⟨b, o, sp⟩, hp, hv⟩ := hptr
  unfold Value.okWide at hok
  rw [hp] at hok
  simp only at hok
  have hv2 : v = .pointer (some ⟨b, o, sp⟩) := by
    cases v with
    | agg x => simp [Cell.okWide, Cell.ok, hp] at hok
    | tuple x => simp [Value.cells] at hv
    | _ => exact List.head_eq_of_cons_eq hv
  subst hv2
  simp only [Cell.okWide, Cell.ok, hp, World.has] at hok
  have hsp : sp = none := hok.2.1
  subst hsp
  exact ⟨u, b, o, t', fr, hat⟩
end Go.Proofs.Ytfilbknnpjbmcaa.Cx
