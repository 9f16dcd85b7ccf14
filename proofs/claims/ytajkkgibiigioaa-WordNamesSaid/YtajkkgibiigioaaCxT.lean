/- A closed call, run: the model's own steps through a region that draws its order. No program of its own. -/
import Derived.Test.YtajkkgibiigioaaCxS
namespace Go.Proofs.Ytajkkgibiigioaa.Cx
open Go Go.RowKit Go.BigFrame

section
variable {R : Rg} {s0 s : Ren} {w0 w : World} {D : Nat → Prop} {a : Act}
/-- One operation that is ready. -/
theorem Inv.step (h : R.Ok) (hI : Inv R s0 w0 D a s w) {i : Nat} (hi : i < R.ops.size) (hnd : ¬ D i) (hm : ∀ x, (preOf R.ops)[i]? = some x → ∀ j, x.m.testBit j = true → D j)
    {b : Frame} (hb : b.roundOf = none) (rest : List Nat) (k : List Item) (cs : List Frame) :
    ∃ a' s' w', Steps R.E.P (lone (b.atR a (.inRegion R.ops (i :: rest) :: k)) cs w) (lone (b.atR a' (.inRegion R.ops rest :: k)) cs w') ∧ Inv R s0 w0 (fun j => D j ∨ j = i) a' s' w' ∧ a'.defers = a.defers ∧ s.le s' := by
  have hil : i < R.rs.length := by rw [h.len]; exact hi
  obtain ⟨r, hr⟩ : ∃ r, R.rs[i]? = some r := ⟨_, List.getElem?_eq_getElem hil⟩
  obtain ⟨hpre, hri, hop⟩ := h.rec_ hr
  obtain ⟨_, tm1, hone⟩ := h.passed.at_ hr
  have hm' := hm _ hpre
  obtain ⟨q, hq, hqe, hM, hEv⟩ := hI.at_
  have stay : ∀ {s' : Ren} {w' : World}, isEff r = false → Mem s' (stAt R.rs R.stF q) w' → Ev s0 R.st w0 s' (stAt R.rs R.stF q) w' →
      ∃ q, q ≤ R.rs.length ∧ (∀ e r, R.rs[e]? = some r → isEff r = true → ((D e ∨ e = i) ↔ e < q)) ∧ Mem s' (stAt R.rs R.stF q) w' ∧ Ev s0 R.st w0 s' (stAt R.rs R.stF q) w' := by
    intro s' w' hne hM' hE'
    refine ⟨q, hq, fun e re hre hee => ?_, hM', hE'⟩
    rw [← hqe e re hre hee]
    constructor
    · rintro (h1 | h1)
      · exact h1
      · subst h1; rw [hr] at hre; cases hre; rw [hne] at hee; cases hee
    · exact .inl
  have move : ∀ {s' : Ren} {w' : World}, isEff r = true → q ≤ i → Mem s' r.s2 w' → Ev s0 R.st w0 s' r.s2 w' →
      ∃ q, q ≤ R.rs.length ∧ (∀ e r, R.rs[e]? = some r → isEff r = true → ((D e ∨ e = i) ↔ e < q)) ∧ Mem s' (stAt R.rs R.stF q) w' ∧ Ev s0 R.st w0 s' (stAt R.rs R.stF q) w' := by
    intro s' w' hee hqi hM' hE'
    refine ⟨i + 1, by omega, fun e re hre hee' => ?_, by rw [h.passed.succ hr]; exact hM', by rw [h.passed.succ hr]; exact hE'⟩
    constructor
    · rintro (h1 | h1)
      · have := (hqe e re hre hee').1 h1; omega
      · omega
    · intro h1
      by_cases he : e = i
      · exact .inr he
      · refine .inl ?_
        have hck := List.all_eq_true.1 h.check r (List.mem_of_getElem? hr)
        unfold checkOne at hck
        have hcls : r.cls = .eff := by
          unfold isEff at hee
          split at hee
          · assumption
          · cases hee
        simp only [hcls] at hck
        have h6 := List.all_eq_true.1 hck re (List.mem_filter.2 ⟨List.mem_of_getElem? hre, hee'⟩)
        rw [(h.rec_ hre).2.1, hri, show Nat.blt e i = true by rw [Nat.blt_eq]; omega] at h6
        simp only [cond_true] at h6
        exact hm' e h6
  rcases hone.how with ⟨hw, hc, hv, hst⟩ | ⟨hw, hhow⟩
  · -- not wanted
    have hwant := wantA_ok' (hI.looks h hr hnd hm') hw
    have hne : isEff r = false := by rw [isEff_cls, hc]; rfl
    refine ⟨_, s, w, .one (st_skip hop hwant), ?_, put_defers _ _ _, .refl s⟩
    refine hI.next h hr hm' rfl (.refl s) (by rw [hv]; exact undefR) (stay hne hM hEv)
  · have hwant := wantA_ok' (hI.looks h hr hnd hm') hw
    rcases hhow with ⟨ha, hc⟩ | ⟨ha, hv, hc⟩ | ⟨f, args, st', ha, hs, hc⟩
    · -- a value
      cases hp : pureK r.o.op with
      | true =>
        have hcc : r.cls = .pur := by rw [hc]; simp [clsOf, hp]
        have hne : isEff r = false := by rw [isEff_cls, hcc]; rfl
        obtain ⟨v, e, hall⟩ := pure_same hp ha
        injection e with e1 e2
        subst e1
        obtain ⟨s', w', v', h1, h2, h3, h4⟩ := hI.does h hr hnd hm' hM (hall (stAt R.rs R.stF q))
        exact ⟨_, s', w', .one (st_val hb hop hwant h1), hI.next h hr hm' rfl h4.le h2 (stay hne h3 (hEv.trans h4)), put_defers _ _ _, h4.le⟩
      | false =>
        cases hrd : readK r.o.op with
        | true =>
          have hcc : r.cls = .rd := by rw [hc]; simp [clsOf, hp, hrd]
          have hne : isEff r = false := by rw [isEff_cls, hcc]; rfl
          obtain ⟨st1, hq1⟩ := hI.rd h hr hnd hm' hq hqe hcc ha
          obtain ⟨v, e⟩ := read_same hrd hq1
          injection e with e1 e2
          subst e2
          obtain ⟨s', w', v', h1, h2, h3, h4⟩ := hI.does h hr hnd hm' hM hq1
          exact ⟨_, s', w', .one (st_val hb hop hwant h1), hI.next h hr hm' rfl h4.le h2 (stay hne h3 (hEv.trans h4)), put_defers _ _ _, h4.le⟩
        | false =>
          have hcc : r.cls = .eff := by rw [hc]; simp [clsOf, hp, hrd]
          have hee : isEff r = true := by rw [isEff_cls, hcc]; rfl
          obtain ⟨hqi, hsq⟩ := hI.eff h hr hnd hm' hqe hee
          rw [hsq] at hM hEv
          obtain ⟨s', w', v', h1, h2, h3, h4⟩ := hI.does h hr hnd hm' hM ha
          exact ⟨_, s', w', .one (st_val hb hop hwant h1), hI.next h hr hm' rfl h4.le h2 (move hee hqi h3 (hEv.trans h4)), put_defers _ _ _, h4.le⟩
    · have hee : isEff r = true := by rw [isEff_cls, hc]; rfl
      obtain ⟨hqi, hsq⟩ := hI.eff h hr hnd hm' hqe hee
      rw [hsq] at hM hEv
      obtain ⟨s', w', h1, h3, h4⟩ := hI.does h hr hnd hm' hM ha
      exact ⟨_, s', w', .one (st_skp hb hop hwant h1), hI.next h hr hm' rfl h4.le (by rw [hv]; exact undefR) (move hee hqi h3 (hEv.trans h4)), put_defers _ _ _, h4.le⟩
    · have hee : isEff r = true := by rw [isEff_cls, hc]; rfl
      obtain ⟨hqi, hsq⟩ := hI.eff h hr hnd hm' hqe hee
      rw [hsq] at hM hEv
      obtain ⟨s', w', args', h1, h2, h3, h4⟩ := hI.does h hr hnd hm' hM ha
      obtain ⟨s2, w2, v', fr', h5, h6, h7, h8, h9⟩ := h.sub f args st' r.v r.s2 hs s' w' args' h3 (hI.gl.mono h4.le) h2 (b.atR a (.inRegion R.ops (i :: rest) :: k) :: cs)
      have hlast := step_leave_returned (c := b.atR a (.inRegion R.ops (i :: rest) :: k)) (cs := cs) h6
      rw [st_finish hop] at hlast
      exact ⟨_, s2, w2, .head (st_enter hb hop hwant h1) (h5.trans (.one hlast)), hI.next h hr hm' rfl (h4.le.trans h9.le) h7 (move hee hqi h8 (hEv.trans (h4.trans h9))), put_defers _ _ _, h4.le.trans h9.le⟩

theorem Inv.congr {D' : Nat → Prop} (hI : Inv R s0 w0 D a s w) (hD : ∀ i, D' i ↔ D i) : Inv R s0 w0 D' a s w := by
  have : D' = D := funext fun i => propext (hD i)
  rw [this]
  exact hI

/-- Which ones have been done. -/
def Did (listed : Array Bool) (i : Nat) : Prop := listed[i]? = some true
theorem ready_mem {ops : Array Oper} {listed : Array Bool} {i : Nat} (hl : listed.size = ops.size) (h : i ∈ Region.ready .any ops listed) :
    i < ops.size ∧ ¬ Did listed i ∧ ∀ o, ops[i]? = some o → ∀ e ∈ o.after.toList, Region.binds .any e = true → Did listed e.on := by
  unfold Region.ready at h
  obtain ⟨h1, h2⟩ := List.mem_filter.1 h
  have hi : i < ops.size := List.mem_range.1 h1
  simp only [Bool.and_eq_true, Bool.not_eq_true'] at h2
  refine ⟨hi, fun hd => ?_, fun o ho e he hbe => ?_⟩
  · unfold Did at hd
    rw [Array.getD_eq_getD_getElem?, hd] at h2
    simp at h2
  · have h3 := h2.2
    rw [ho] at h3
    simp only [Option.map_some, Option.getD_some] at h3
    have h4 := Array.all_eq_true_iff_forall_mem.1 h3 e (by simpa using he)
    simp only [hbe, Bool.not_true, Bool.false_or] at h4
    unfold Did
    rw [Array.getD_eq_getD_getElem?] at h4
    cases hx : listed[e.on]? with
    | none => rw [hx] at h4; simp at h4
    | some x => rw [hx] at h4; simp at h4; rw [h4]
theorem ready_of {ops : Array Oper} {listed : Array Bool} {i : Nat} (hi : i < ops.size) (hl : listed.size = ops.size) (hnd : ¬ Did listed i) (h : ∀ o, ops[i]? = some o → ∀ e ∈ o.after.toList, Region.binds .any e = true → Did listed e.on) :
    i ∈ Region.ready .any ops listed := by
  unfold Region.ready
  refine List.mem_filter.2 ⟨List.mem_range.2 hi, ?_⟩
  simp only [Bool.and_eq_true, Bool.not_eq_true']
  refine ⟨?_, ?_⟩
  · rw [Array.getD_eq_getD_getElem?]
    have : listed[i]? = some (listed[i]'(by omega)) := Array.getElem?_eq_getElem (by omega)
    unfold Did at hnd
    rw [this] at hnd ⊢
    simp at hnd ⊢
    exact hnd
  · rw [Array.getElem?_eq_getElem hi]
    simp only [Option.map_some, Option.getD_some]
    refine Array.all_eq_true_iff_forall_mem.2 fun e he => ?_
    cases hb : Region.binds .any e with
    | false => simp
    | true =>
      have := h ops[i] (Array.getElem?_eq_getElem hi) e (by simpa using he) hb
      unfold Did at this
      rw [Array.getD_eq_getD_getElem?, this]
      simp
theorem Inv.mask (h : R.Ok) (hI : Inv R s0 w0 D a s w) {i : Nat} (he : ∀ o, R.ops[i]? = some o → ∀ e ∈ o.after.toList, Region.binds .any e = true → D e.on) :
    ∀ x, (preOf R.ops)[i]? = some x → ∀ j, x.m.testBit j = true → D j := by
  intro x hx j hj
  obtain ⟨e, h1, h2, h3⟩ := preOf_bit hx hj
  have hd := he x.o (preOf_at hx).2 e h1 h2
  rcases h3 with h3 | ⟨_, y, hy, hyb⟩
  · exact h3 ▸ hd
  · exact hI.closed e.on y hd hy j hyb

theorem lin_eq (ops : Array Oper) (fuel t : Nat) (listed : Array Bool) : Region.linearise.go .any ops (fuel + 1) t listed [] =
    match (Region.ready .any ops listed)[t % (Region.ready .any ops listed).length]? with
    | some i => i :: Region.linearise.go .any ops fuel (t / (Region.ready .any ops listed).length) (listed.setIfInBounds i true) []
    | none => [] := by
  simp only [Region.linearise.go]
  change (match (Region.ready .any ops listed)[t % (Region.ready .any ops listed).length]? with
      | some i => Region.linearise.go .any ops fuel (t / (Region.ready .any ops listed).length) (listed.setIfInBounds i true) [i]
      | none => [].reverse) = _
  cases (Region.ready .any ops listed)[t % (Region.ready .any ops listed).length]? with
  | none => rfl
  | some i =>
    simp only []
    rw [linearise_go_acc]
    rfl

/-- How many are still to be done. -/
def left (n : Nat) (listed : Array Bool) : Nat := ((List.range n).filter fun i => listed.getD i true == false).length
theorem filter_set (listed : Array Bool) {i : Nat} (hi : i < listed.size) (hnd : ¬ Did listed i) : ∀ (l : List Nat), l.Nodup → i ∈ l →
    (l.filter fun j => (listed.setIfInBounds i true).getD j true == false).length + 1 = (l.filter fun j => listed.getD j true == false).length := by
  have hget : ∀ j, (listed.setIfInBounds i true).getD j true = if j = i then true else listed.getD j true := by
    intro j
    rw [Array.getD_eq_getD_getElem?, Array.getD_eq_getD_getElem?]
    by_cases hj : j = i
    · subst hj; simp [hi]
    · rw [Array.getElem?_setIfInBounds_ne (fun e => hj e.symm)]; simp [hj]
  have hfalse : listed.getD i true = false := by
    unfold Did at hnd
    rw [Array.getD_eq_getD_getElem?, Array.getElem?_eq_getElem hi] at *
    simp at hnd ⊢
    exact hnd
  have keep : ∀ (l : List Nat), i ∉ l → (l.filter fun j => (listed.setIfInBounds i true).getD j true == false) = l.filter fun j => listed.getD j true == false := by
    intro l hl
    refine List.filter_congr fun j hj => ?_
    have : j ≠ i := fun e => hl (e ▸ hj)
    rw [hget, if_neg this]
  intro l
  induction l with
  | nil => intro _ h; simp at h
  | cons x l ih =>
    intro hnd' hmem
    obtain ⟨hx, hnl⟩ := List.nodup_cons.1 hnd'
    by_cases hxi : x = i
    · subst hxi
      have e1 : ((listed.setIfInBounds x true).getD x true == false) = false := by rw [hget, if_pos rfl]; rfl
      have e2 : (listed.getD x true == false) = true := by rw [hfalse]; rfl
      rw [List.filter_cons_of_neg (by rw [e1]; simp), List.filter_cons_of_pos (p := fun j => listed.getD j true == false) (a := x) e2, keep l hx]
      rfl
    · have hm : i ∈ l := by
        rcases List.mem_cons.1 hmem with e | e
        · exact absurd e.symm hxi
        · exact e
      have := ih hnl hm
      have e1 : ((listed.setIfInBounds i true).getD x true == false) = (listed.getD x true == false) := by rw [hget, if_neg hxi]
      cases hv : (listed.getD x true == false) with
      | true =>
        rw [List.filter_cons_of_pos (p := fun j => (listed.setIfInBounds i true).getD j true == false) (a := x) (by rw [e1]; exact hv), List.filter_cons_of_pos (p := fun j => listed.getD j true == false) (a := x) hv]
        simp only [List.length_cons]
        omega
      | false =>
        rw [List.filter_cons_of_neg (by rw [e1, hv]; simp), List.filter_cons_of_neg (by rw [hv]; simp)]
        exact this
theorem left_set {n : Nat} {listed : Array Bool} {i : Nat} (hl : listed.size = n) (hi : i < n) (hnd : ¬ Did listed i) : left n (listed.setIfInBounds i true) + 1 = left n listed :=
  filter_set listed (by omega) hnd _ List.nodup_range (List.mem_range.2 hi)
theorem left_pos {n : Nat} {listed : Array Bool} {i : Nat} (hl : listed.size = n) (hi : i < n) (hnd : ¬ Did listed i) : 0 < left n listed := by
  have := left_set hl hi hnd
  omega
/-- All operations, in whatever order they are taken. -/
theorem Inv.all (h : R.Ok) {b : Frame} (hb : b.roundOf = none) (k : List Item) (cs : List Frame) : ∀ (fuel t : Nat) (listed : Array Bool) (a : Act) (s : Ren) (w : World), listed.size = R.ops.size → left R.ops.size listed ≤ fuel → Inv R s0 w0 (Did listed) a s w →
    ∃ a' s' w', Steps R.E.P (lone (b.atR a (.inRegion R.ops (Region.linearise.go .any R.ops fuel t listed []) :: k)) cs w) (lone (b.atR a' (.inRegion R.ops [] :: k)) cs w') ∧ Inv R s0 w0 (fun j => j < R.ops.size) a' s' w' ∧ a'.defers = a.defers ∧ s.le s'
  | fuel, t, listed, a, s, w, hl, hf, hI => by
    by_cases hall : ∀ i, i < R.ops.size → Did listed i
    · have hD : Inv R s0 w0 (fun j => j < R.ops.size) a s w := hI.congr fun i => ⟨fun hi => hall i hi, fun hi => by
        unfold Did at hi
        have := (Array.getElem?_eq_some_iff.1 hi).1
        omega⟩
      have hempty : Region.linearise.go .any R.ops fuel t listed [] = [] := by
        cases fuel with
        | zero => simp [Region.linearise.go]
        | succ fuel =>
          rw [lin_eq]
          have hr : Region.ready .any R.ops listed = [] := by
            cases hrr : Region.ready .any R.ops listed with
            | nil => rfl
            | cons x xs =>
              have hx := ready_mem hl (i := x) (by rw [hrr]; simp)
              exact absurd (hall x hx.1) hx.2.1
          rw [hr]
          simp
      rw [hempty]
      exact ⟨a, s, w, .refl _ _, hD, rfl, .refl s⟩
    · -- some is left
      have hex : ∃ i, i < R.ops.size ∧ ¬ Did listed i := Classical.byContradiction fun hn => hall fun i hi => Classical.byContradiction fun hd => hn ⟨i, hi, hd⟩
      have hrdy : Region.ready .any R.ops listed ≠ [] := by
        obtain ⟨i, hi, hnd⟩ := hex
        have key : ∀ i, i < R.ops.size → ¬ Did listed i → ∃ j, j ∈ Region.ready .any R.ops listed := by
          intro i
          induction i using Nat.strongRecOn with
          | _ i ih =>
            intro hi hnd
            by_cases hedge : ∀ o, R.ops[i]? = some o → ∀ e ∈ o.after.toList, Region.binds .any e = true → Did listed e.on
            · exact ⟨i, ready_of hi hl hnd hedge⟩
            · have : ∃ o e, R.ops[i]? = some o ∧ e ∈ o.after.toList ∧ Region.binds .any e = true ∧ ¬ Did listed e.on := Classical.byContradiction fun hn => hedge fun o ho e he hbe => Classical.byContradiction fun hd => hn ⟨o, e, ho, he, hbe, hd⟩
              obtain ⟨o, e, ho, he, hbe, hd⟩ := this
              have hx : (preOf R.ops)[i]? = some ((preOf R.ops)[i]'(by rw [preOf_len]; exact hi)) := List.getElem?_eq_getElem _
              have hoo := (preOf_at hx).2
              rw [ho] at hoo
              cases hoo
              have hlt := h.edge hx he hbe
              exact ih e.on hlt (by omega) hd
        obtain ⟨j, hj⟩ := key i hi hnd
        intro he
        rw [he] at hj
        simp at hj
      match fuel, hf with
      | 0, hf =>
        obtain ⟨i, hi, hnd⟩ := hex
        have := left_pos hl hi hnd
        omega
      | fuel + 1, hf =>
        rw [lin_eq]
        have hlen : 0 < (Region.ready .any R.ops listed).length := List.length_pos_iff.2 hrdy
        have hlt : t % (Region.ready .any R.ops listed).length < (Region.ready .any R.ops listed).length := Nat.mod_lt _ hlen
        rw [List.getElem?_eq_getElem hlt]
        simp only []
        generalize hi' : (Region.ready .any R.ops listed)[t % (Region.ready .any R.ops listed).length] = i
        have hmem : i ∈ Region.ready .any R.ops listed := hi' ▸ List.getElem_mem hlt
        obtain ⟨hi, hnd, hedge⟩ := ready_mem hl hmem
        obtain ⟨a1, s1, w1, h1, h2, h3, h4⟩ := hI.step h hi hnd (hI.mask h hedge) hb (Region.linearise.go .any R.ops fuel (t / (Region.ready .any R.ops listed).length) (listed.setIfInBounds i true) []) k cs
        have hD : Inv R s0 w0 (Did (listed.setIfInBounds i true)) a1 s1 w1 := h2.congr fun j => by
          unfold Did
          by_cases hj : j = i
          · subst hj; simp [show j < listed.size by omega]
          · rw [Array.getElem?_setIfInBounds_ne (fun e => hj e.symm)]; simp [hj]
        have hls := left_set hl hi hnd
        obtain ⟨a2, s2, w2, g1, g2, g3, g4⟩ := Inv.all h hb k cs fuel (t / (Region.ready .any R.ops listed).length) (listed.setIfInBounds i true) a1 s1 w1 (by simpa using hl) (by omega) hD
        exact ⟨a2, s2, w2, h1.trans g1, g2, g3.trans h3, h4.trans g4⟩
end

/-- A region that draws its order. -/
theorem region_draw {E : Env} {sub : Sub} {nt : Nat} {ops : Array Oper} {tm tmF : T Value} {st stF : St} {rs : List Rec} (hE : E.Ok) (hsub : SubOk E sub) (hmix : E.P.follows .mixedOrders = true) (hreg : regOk ops = true)
    (hp : Passed E sub nt ops (preOf ops) tm st rs tmF stF) (hc : checkAll E rs = true) {s : Ren} {w : World} {a : Act} (hM : Mem s st w) (hg : Gl E.ng s) (ht : TmR s tm a.tmps) (hn : a.tmps.size = nt)
    {b : Frame} (hb : b.roundOf = none) (id : Nat) (k : List Item) (cs : List Frame) :
    ∃ a' s' w', Steps E.P (lone (b.atR a (.code (.region id ops true) :: k)) cs w) (lone (b.atR a' k) cs w') ∧ TmR s' tmF a'.tmps ∧ a'.tmps.size = nt ∧ a'.defers = a.defers ∧ Mem s' stF w' ∧ Ev s st w s' stF w' := by
  have h : Rg.Ok ⟨E, sub, nt, ops, tm, st, rs, tmF, stF⟩ := ⟨hE, hsub, hreg, hp, hc⟩
  have hI : Inv ⟨E, sub, nt, ops, tm, st, rs, tmF, stF⟩ s w (Did (Array.replicate ops.size false)) a s { w with drawn := w.drawn + 1 } := by
    have hno : ∀ i, ¬ Did (Array.replicate ops.size false) i := by
      intro i hi
      unfold Did at hi
      rw [Array.getElem?_replicate] at hi
      split at hi <;> simp at hi
    refine ⟨fun i x hi => absurd hi (hno i), fun i r t hi => absurd hi (hno i), fun t v _ hv => ht t v hv, hn, ⟨0, Nat.zero_le _, fun e r _ _ => ⟨fun hi => absurd hi (hno e), fun hi => absurd hi (Nat.not_lt_zero _)⟩, ?_, ?_⟩, hg⟩
    · simp only [hp.first]; exact hM.draws rfl
    · simp only [hp.first]; exact Ev.draws rfl rfl rfl rfl
  have hleft : left ops.size (Array.replicate ops.size false) ≤ ops.size := by
    unfold left
    calc _ ≤ (List.range ops.size).length := List.length_filter_le _ _
      _ = ops.size := List.length_range
  obtain ⟨a', s', w', h1, h2, h3, h4⟩ := Inv.all h hb k cs ops.size (w.tape w.drawn (.order b.fn id)) (Array.replicate ops.size false) a s _ (by simp) hleft hI
  obtain ⟨q, hq, hqe, hMq, hEq⟩ := h2.at_
  have hstF : stAt rs stF q = stF := by
    rcases down hp (i := rs.length) (Nat.le_refl _) (rs.length - q) q (by simp only at hq; omega) with g1 | ⟨e, r, g1, g2, g3, g4, g5⟩
    · rw [g1]; simp [stAt]
    · have := (hqe e r g3 g4).1 (by have := h.len; simp only at this ⊢; omega)
      omega
  simp only [hstF] at hMq hEq
  refine ⟨a', s', w', ?_, fun t v hv => ?_, h2.size, h3, hMq, hEq⟩
  · refine .head (stepR_region_draw) ?_
    have hsched : Region.schedule (E.P.follows .mixedOrders) ops (w.tape w.drawn (.order b.fn id)) = Region.linearise.go .any ops ops.size (w.tape w.drawn (.order b.fn id)) (Array.replicate ops.size false) [] := by
      simp only [Region.schedule, hmix, Bool.true_or, if_true]
      rfl
    rw [hsched]
    exact h1.trans (.one stepR_region_end)
  · have htf : tmAt rs tmF rs.length = tmF := by simp [tmAt]
    by_cases hex : ∃ (i : Nat) (r : Rec), rs[i]? = some r ∧ r.o.dst = some t
    · obtain ⟨i, r, hr, hd⟩ := hex
      have hil : i < rs.length := (List.getElem?_eq_some_iff.1 hr).1
      have hw := hp.wrote (p := rs.length) (Nat.le_refl _) hil hr hd (fun q' r' g1 _ g3 => h.dst_ne hr g3 (by omega) hd)
      rw [htf, hv] at hw
      cases hw
      exact h2.done i r t (by have := h.len; simp only at this ⊢; omega) hr hd
    · have hk := hp.keep (p := rs.length) (t := t) (Nat.le_refl _) (fun q r _ hr hd => hex ⟨q, r, hr, hd⟩)
      rw [htf, hv] at hk
      exact h2.rest t v (fun i r _ hr hd => hex ⟨i, r, hr, hd⟩) hk.symm

end Go.Proofs.Ytajkkgibiigioaa.Cx
