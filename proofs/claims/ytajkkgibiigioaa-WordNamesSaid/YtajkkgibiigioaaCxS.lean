/- A closed call, run: whatever order a region draws, it comes to the same. No program of its own. -/
import Derived.Test.YtajkkgibiigioaaCxR
namespace Go.Proofs.Ytajkkgibiigioaa.Cx
open Go Go.RowKit Go.BigFrame

/-- What is asked of a call that is gone through by itself. -/
def SubOk (E : Env) (sub : Sub) : Prop := ∀ f args st v st', sub f args st = some (v, st') → ∀ s w args', Mem s st w → Gl E.ng s → VRs s args args' → ∀ tail, ∃ s' w' v' fr',
  Steps E.P (lone (Frame.enter E.P f args' .normal) tail w) (lone fr' tail w') ∧ fr'.leaving E.P w' (.returned v') ∧ VR s' v v' ∧ Mem s' st' w' ∧ Ev s st w s' st' w'

theorem wantA_ok' {s : Ren} {ops : Array Oper} {tm : T Value} {o : Oper} {a : Array Value} {b : Bool} (ht : ∀ t ∈ o.looksAt ops, ∀ v, tm.get t = some v → ∃ v', a[t]? = some v' ∧ VR s v v') (h : wantA ops tm o = some b) : Region.wanted o (yielded ops a) = b := by
  unfold wantA at h
  unfold Region.wanted
  split at h
  · rename_i hg; cases h; simp [hg]
  · rename_i j want hg
    simp only [hg]
    split at h
    · rename_i oj hj
      split at h
      · rename_i d hd
        have hmem : d ∈ o.looksAt ops := by
          unfold Oper.looksAt
          simp [hg, hj, hd]
        split at h
        · rename_i b' hb
          cases h
          obtain ⟨v', e, r⟩ := ht d hmem _ hb
          cases r
          simp only [yielded, hj, Option.bind_some, hd, e]
          cases b' <;> cases want <;> rfl
        · rename_i v hnb hv
          cases h
          obtain ⟨v', e, r⟩ := ht d hmem _ hv
          have : yielded ops a j = none := by
            simp only [yielded, hj, Option.bind_some, hd, e]
            cases r <;> first | rfl | (exact (hnb _ rfl).elim)
          simp [this]
        · cases h
      · rename_i hd
        cases h
        simp [yielded, hj, hd]
    · rename_i hj
      cases h
      simp [yielded, hj]

structure Rg where
  E : Env
  sub : Sub
  nt : Nat
  ops : Array Oper
  tm : T Value
  st : St
  rs : List Rec
  tmF : T Value
  stF : St
structure Rg.Ok (R : Rg) : Prop where
  env : R.E.Ok
  sub : SubOk R.E R.sub
  reg : regOk R.ops = true
  passed : Passed R.E R.sub R.nt R.ops (preOf R.ops) R.tm R.st R.rs R.tmF R.stF
  check : checkAll R.E R.rs = true

structure Inv (R : Rg) (s0 : Ren) (w0 : World) (D : Nat → Prop) (a : Act) (s : Ren) (w : World) : Prop where
  closed : ∀ i x, D i → (preOf R.ops)[i]? = some x → ∀ j, x.m.testBit j = true → D j
  done : ∀ i r t, D i → R.rs[i]? = some r → r.o.dst = some t → ∃ v', a.tmps[t]? = some v' ∧ VR s r.v v'
  rest : ∀ t v, (∀ i r, D i → R.rs[i]? = some r → r.o.dst ≠ some t) → R.tm.get t = some v → ∃ v', a.tmps[t]? = some v' ∧ VR s v v'
  size : a.tmps.size = R.nt
  at_ : ∃ q, q ≤ R.rs.length ∧ (∀ e r, R.rs[e]? = some r → isEff r = true → (D e ↔ e < q)) ∧ Mem s (stAt R.rs R.stF q) w ∧ Ev s0 R.st w0 s (stAt R.rs R.stF q) w
  gl : Gl R.E.ng s

section
variable {R : Rg}
theorem Rg.Ok.len (h : R.Ok) : R.rs.length = R.ops.size := by rw [h.passed.len, preOf_len]
theorem Rg.Ok.rec_ (h : R.Ok) {i : Nat} {r : Rec} (hr : R.rs[i]? = some r) : (preOf R.ops)[i]? = some ⟨r.i, r.m, r.o⟩ ∧ r.i = i ∧ R.ops[i]? = some r.o := by
  obtain ⟨h1, _⟩ := h.passed.at_ hr
  obtain ⟨h2, h3⟩ := preOf_at h1
  exact ⟨h1, h2, h3⟩
theorem Rg.Ok.edge (h : R.Ok) {i : Nat} {x : PR} (hx : (preOf R.ops)[i]? = some x) {e : Edge} (he : e ∈ x.o.after.toList) (hb : Region.binds .any e = true) : e.on < i := by
  have := h.reg
  unfold regOk at this
  simp only [Bool.and_eq_true] at this
  have h1 := List.all_eq_true.1 this.1 x (List.mem_of_getElem? hx)
  have h2 := List.all_eq_true.1 h1 e he
  simp only [hb, Bool.not_true, Bool.false_or, Nat.blt_eq] at h2
  have := (preOf_at hx).1
  omega
/-- Those that stand ahead have smaller numbers. -/
theorem Rg.Ok.lt (h : R.Ok) : ∀ {i : Nat} {x : PR} {j : Nat}, (preOf R.ops)[i]? = some x → x.m.testBit j = true → j < i := by
  intro i
  induction i using Nat.strongRecOn with
  | _ i ih =>
    intro x j hx hb
    obtain ⟨e, h1, h2, h3⟩ := preOf_bit hx hb
    have hlt := h.edge hx h1 h2
    rcases h3 with h3 | ⟨_, y, hy, hyb⟩
    · omega
    · have := ih e.on hlt hy hyb
      omega
theorem Rg.Ok.clash (h : R.Ok) {i j : Nat} {x y : PR} (hx : (preOf R.ops)[i]? = some x) (hy : (preOf R.ops)[j]? = some y) (hij : i ≠ j) : noClash R.ops x y = true := by
  have := h.reg
  unfold regOk at this
  simp only [Bool.and_eq_true] at this
  have h1 := List.all_eq_true.1 this.2 x (List.mem_of_getElem? hx)
  have h2 := List.all_eq_true.1 h1 y (List.mem_of_getElem? hy)
  simp only [Bool.or_eq_true, Nat.beq_eq] at h2
  rw [(preOf_at hx).1, (preOf_at hy).1] at h2
  exact h2.resolve_left hij
theorem Rg.Ok.dst_ne (h : R.Ok) {i j : Nat} {r q : Rec} (hr : R.rs[i]? = some r) (hq : R.rs[j]? = some q) (hij : i ≠ j) {t : Nat} (ht : r.o.dst = some t) : q.o.dst ≠ some t := by
  intro hqt
  have := h.clash (h.rec_ hr).1 (h.rec_ hq).1 hij
  unfold noClash at this
  simp only [hqt, ht, Bool.and_eq_true, Bool.not_eq_true'] at this
  have h1 := this.1
  rw [beq_nat] at h1
  simp at h1
theorem Rg.Ok.reads (h : R.Ok) {i j : Nat} {r q : Rec} (hr : R.rs[i]? = some r) (hq : R.rs[j]? = some q) (hij : i ≠ j) {t : Nat} (ht : t ∈ r.o.looksAt R.ops) (hqt : q.o.dst = some t) : r.m.testBit j = true ∨ q.m.testBit i = true := by
  have := h.clash (h.rec_ hr).1 (h.rec_ hq).1 hij
  unfold noClash at this
  have hc : ((r.o.looksAt R.ops).any fun u => Nat.beq u t) = true := List.any_eq_true.2 ⟨t, ht, by simp⟩
  simp only [hqt, hc, cond_true, Bool.and_eq_true, Bool.or_eq_true] at this
  rw [(h.rec_ hr).2.1, (h.rec_ hq).2.1] at this
  exact this.2

variable {s0 s : Ren} {w0 w : World} {D : Nat → Prop} {a : Act}
/-- What an operation that is ready looks at is there. -/
theorem Inv.looks (h : R.Ok) (hI : Inv R s0 w0 D a s w) {i : Nat} {r : Rec} (hr : R.rs[i]? = some r) (hnd : ¬ D i) (hm : ∀ j, r.m.testBit j = true → D j) :
    ∀ t ∈ r.o.looksAt R.ops, ∀ v, r.tm.get t = some v → ∃ v', a.tmps[t]? = some v' ∧ VR s v v' := by
  intro t ht v hv
  have hil : i < R.rs.length := (List.getElem?_eq_some_iff.1 hr).1
  have htm : tmAt R.rs R.tmF i = r.tm := by simp [tmAt, hr]
  by_cases hex : ∃ q rq, q < i ∧ R.rs[q]? = some rq ∧ rq.o.dst = some t
  · obtain ⟨q, rq, hq, hrq, hd⟩ := hex
    have hw := h.passed.wrote (p := i) (Nat.le_of_lt hil) hq hrq hd (fun q' r' h1 h2 h3 => h.dst_ne hrq h3 (by omega) hd)
    rw [htm, hv] at hw
    cases hw
    have hDq : D q := by
      rcases h.reads hr hrq (by omega) ht hd with h1 | h1
      · exact hm q h1
      · have := h.lt (h.rec_ hrq).1 h1
        omega
    exact hI.done q rq t hDq hrq hd
  · have hk := h.passed.keep (p := i) (t := t) (Nat.le_of_lt hil) (fun q rq hq hrq hd => hex ⟨q, rq, hq, hrq, hd⟩)
    rw [htm, hv] at hk
    refine hI.rest t v (fun j rj hj hrj hd => ?_) hk.symm
    have hne : i ≠ j := fun e => hnd (e ▸ hj)
    have hge : ¬ j < i := fun hlt => hex ⟨j, rj, hlt, hrj, hd⟩
    rcases h.reads hr hrj hne ht hd with h1 | h1
    · have := h.lt (h.rec_ hr).1 h1
      omega
    · exact hnd (hI.closed j _ hj (h.rec_ hrj).1 i h1)
/-- An operation that is ready, done at a state that stands for the world. -/
theorem Inv.does (h : R.Ok) (hI : Inv R s0 w0 D a s w) {i : Nat} {r : Rec} (hr : R.rs[i]? = some r) (hnd : ¬ D i) (hm : ∀ j, r.m.testBit j = true → D j) {S : St} {res : Res} (hM : Mem s S w)
    (ha : aop R.E (evT R.E.ng r.tm) r.o S = some res) : Snd R.E.P s S w (execOp a.eval r.o) res := by
  let ev' : Operand → Option Value := fun x => match x with
    | .tmp t => if t ∈ r.o.looksAt R.ops then r.tm.get t else none
    | x => evT R.E.ng r.tm x
  have hc : aop R.E (evT R.E.ng r.tm) r.o S = aop R.E ev' r.o S := aop_congr fun x hx => by
    cases x with
    | tmp t =>
      have : t ∈ r.o.looksAt R.ops := by
        unfold Oper.looksAt
        simp only [List.mem_append, List.mem_filterMap]
        exact .inl ⟨.tmp t, by simpa using hx, rfl⟩
      simp only [ev', this, if_true]
      rfl
    | _ => rfl
  rw [hc] at ha
  refine aop_ok h.env hM (fun x v hx => ?_) ha
  cases x with
  | tmp t =>
    simp only [ev'] at hx
    split at hx
    · rename_i hmem
      obtain ⟨v', e, rr⟩ := hI.looks h hr hnd hm t hmem v hx
      simp only [Act.eval, Array.getD_eq_getD_getElem?, e, Option.getD_some]
      exact rr
    · cases hx
  | const u => exact evT_ok (tm := .leaf) (a := a) hI.gl (fun t v h => by simp [T.get_leaf] at h) (.const u) v hx
  | global g => exact evT_ok (tm := .leaf) (a := a) hI.gl (fun t v h => by simp [T.get_leaf] at h) (.global g) v hx
  | func f => exact evT_ok (tm := .leaf) (a := a) hI.gl (fun t v h => by simp [T.get_leaf] at h) (.func f) v hx

/-- What is read is the same, wherever it is read. -/
theorem Inv.rd (h : R.Ok) (hI : Inv R s0 w0 D a s w) {i q : Nat} {r : Rec} (hr : R.rs[i]? = some r) (hnd : ¬ D i) (hm : ∀ j, r.m.testBit j = true → D j) (hq : q ≤ R.rs.length) (hqe : ∀ e r, R.rs[e]? = some r → isEff r = true → (D e ↔ e < q))
    (hc : r.cls = .rd) {st1 : St} (ha : aop R.E (evT R.E.ng r.tm) r.o r.s1 = some (.val r.v st1)) : ∃ st1, aop R.E (evT R.E.ng r.tm) r.o (stAt R.rs R.stF q) = some (.val r.v st1) := by
  have hil : i < R.rs.length := (List.getElem?_eq_some_iff.1 hr).1
  have hsi : stAt R.rs R.stF i = r.s1 := by simp [stAt, hr]
  have hck := List.all_eq_true.1 h.check r (List.mem_of_getElem? hr)
  unfold checkOne at hck
  simp only [hc] at hck
  have same : ∀ S, sameAt R.E r S = true → ∃ st1, aop R.E (evT R.E.ng r.tm) r.o S = some (.val r.v st1) := by
    intro S hS
    unfold sameAt at hS
    split at hS
    · rename_i v' st' hv'
      exact ⟨st', by rw [hv', valEq_eq hS]⟩
    · cases hS
  rcases Nat.le_total q i with hle | hle
  · rcases down h.passed (Nat.le_of_lt hil) (i - q) q (by omega) with h1 | ⟨e, re, h1, h2, h3, h4, h5⟩
    · rw [h1, hsi]; exact ⟨_, ha⟩
    · have hnde : ¬ D e := fun hd => by have := (hqe e re h3 h4).1 hd; omega
      have hb : r.m.testBit e = false := by
        rw [Bool.eq_false_iff]
        exact fun hb => hnde (hm e hb)
      have h6 := List.all_eq_true.1 hck re (List.mem_filter.2 ⟨List.mem_of_getElem? h3, h4⟩)
      rw [(h.rec_ h3).2.1, (h.rec_ hr).2.1, show Nat.blt e i = true by rw [Nat.blt_eq]; exact h2] at h6
      simp only [cond_true, hb, Bool.false_or] at h6
      rw [h5]
      exact same _ h6
  · rcases up h.passed (i := i) (q - i) q (by omega) hq with h1 | ⟨e, re, h1, h2, h3, h4, h5⟩
    · rw [h1, hsi]; exact ⟨_, ha⟩
    · have hne : e ≠ i := by
        intro he
        subst he
        rw [hr] at h3
        cases h3
        simp [isEff, hc] at h4
      have hde : D e := (hqe e re h3 h4).2 h2
      have hb : re.m.testBit i = false := by
        rw [Bool.eq_false_iff]
        exact fun hb => hnd (hI.closed e _ hde (h.rec_ h3).1 i hb)
      have h6 := List.all_eq_true.1 hck re (List.mem_filter.2 ⟨List.mem_of_getElem? h3, h4⟩)
      rw [(h.rec_ h3).2.1, (h.rec_ hr).2.1, show Nat.blt e i = false by rw [Bool.eq_false_iff]; intro hh; rw [Nat.blt_eq] at hh; omega] at h6
      simp only [cond_false, hb, Bool.false_or] at h6
      rw [h5]
      exact same _ h6
/-- What writes is done where it was done. -/
theorem Inv.eff (h : R.Ok) (hI : Inv R s0 w0 D a s w) {i q : Nat} {r : Rec} (hr : R.rs[i]? = some r) (hnd : ¬ D i) (hm : ∀ j, r.m.testBit j = true → D j) (hqe : ∀ e r, R.rs[e]? = some r → isEff r = true → (D e ↔ e < q))
    (hc : isEff r = true) : q ≤ i ∧ stAt R.rs R.stF q = r.s1 := by
  have hil : i < R.rs.length := (List.getElem?_eq_some_iff.1 hr).1
  have hsi : stAt R.rs R.stF i = r.s1 := by simp [stAt, hr]
  have hle : q ≤ i := by
    rcases Nat.lt_or_ge i q with hlt | hge
    · exact absurd ((hqe i r hr hc).2 hlt) hnd
    · exact hge
  have hck := List.all_eq_true.1 h.check r (List.mem_of_getElem? hr)
  unfold checkOne at hck
  have hcls : r.cls = .eff := by
    unfold isEff at hc
    split at hc
    · assumption
    · cases hc
  simp only [hcls] at hck
  refine ⟨hle, ?_⟩
  rcases down h.passed (Nat.le_of_lt hil) (i - q) q (by omega) with h1 | ⟨e, re, h1, h2, h3, h4, h5⟩
  · rw [h1, hsi]
  · have h6 := List.all_eq_true.1 hck re (List.mem_filter.2 ⟨List.mem_of_getElem? h3, h4⟩)
    rw [(h.rec_ h3).2.1, (h.rec_ hr).2.1, show Nat.blt e i = true by rw [Nat.blt_eq]; exact h2] at h6
    simp only [cond_true] at h6
    have := (hqe e re h3 h4).1 (hm e h6)
    omega
/-- A slot is written, and the rest stands. -/
theorem Inv.next (h : R.Ok) (hI : Inv R s0 w0 D a s w) {i : Nat} {r : Rec} (hr : R.rs[i]? = some r) (hm : ∀ j, r.m.testBit j = true → D j) {s' : Ren} {w' : World} {v' : Value} {a1 : Act} (ha1 : a1.tmps = a.tmps) (hle : s.le s') (hv : VR s' r.v v')
    (hat : ∃ q, q ≤ R.rs.length ∧ (∀ e r, R.rs[e]? = some r → isEff r = true → ((D e ∨ e = i) ↔ e < q)) ∧ Mem s' (stAt R.rs R.stF q) w' ∧ Ev s0 R.st w0 s' (stAt R.rs R.stF q) w') :
    Inv R s0 w0 (fun j => D j ∨ j = i) (a1.put r.o.dst v') s' w' := by
  obtain ⟨_, tm1, hone⟩ := h.passed.at_ hr
  have hdl : ∀ d, r.o.dst = some d → d < a.tmps.size := fun d hd => by rw [hI.size]; exact hone.dst d hd
  have hput : ∀ t, r.o.dst ≠ some t → (a1.put r.o.dst v').tmps[t]? = a.tmps[t]? := by
    intro t ht
    unfold Act.put
    cases hd : r.o.dst with
    | none => simp [ha1]
    | some d =>
      have : d ≠ t := fun e => ht (by rw [hd, e])
      simp only [ha1]
      rw [Array.getElem?_setIfInBounds_ne this]
  refine ⟨fun j x hj hx k hk => ?_, fun j q t hj hq ht => ?_, fun t v hn hv0 => ?_, by rw [put_size, ha1]; exact hI.size, hat, hI.gl.mono hle⟩
  · rcases hj with hj | hj
    · exact .inl (hI.closed j x hj hx k hk)
    · subst hj
      rw [(h.rec_ hr).1] at hx
      cases hx
      exact .inl (hm k hk)
  · by_cases hji : j = i
    · subst hji
      rw [hr] at hq
      cases hq
      refine ⟨v', ?_, hv⟩
      simp only [Act.put, ht, ha1]
      simp [hdl t ht]
    · obtain ⟨u, e1, e2⟩ := hI.done j q t (hj.resolve_right hji) hq ht
      refine ⟨u, ?_, e2.mono hle⟩
      rw [hput t (h.dst_ne hq hr hji ht)]
      exact e1
  · obtain ⟨u, e1, e2⟩ := hI.rest t v (fun j q hj hq => hn j q (.inl hj) hq) hv0
    refine ⟨u, ?_, e2.mono hle⟩
    rw [hput t (hn i r (.inr rfl) hr)]
    exact e1
end

end Go.Proofs.Ytajkkgibiigioaa.Cx
