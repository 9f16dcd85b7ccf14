/- A closed call, run: whatever order a region draws, it comes to the same. No program of its own. -/
import Derived.Test.YtfilbknnpjbmcaaCxRA
namespace Go.Proofs.Ytfilbknnpjbmcaa.Cx
open Go Go.RowKit Go.BigFrame

/-- What is asked of a call that is gone through by itself. -/
def SubOk (E : Env) (sub : Sub) : Prop := ∀ f args st v st', sub f args st = some (v, st') → ∀ s w args', Mem s st w → Gl E.ng s → VRs s args args' → ∀ tail, ∃ s' w' v' fr',
  Steps E.P (lone (Frame.enter E.P f args' .normal) tail w) (lone fr' tail w') ∧ fr'.leaving E.P w' (.returned v') ∧ VR s' v v' ∧ Mem s' st' w' ∧ Ev s st w s' st' w'

theorem Mem.below {s : Ren} {st : St} {w w' : World} (h : Mem s st w) (hb : Below w.heap.size w w') : Mem s st w' :=
  ⟨fun g o hg => by obtain ⟨l, x, e1, e2, e3⟩ := h.at_ g o hg; exact ⟨l, x, e1, by rw [hb.block l.blk (h.lt hg e1)]; exact e2, e3⟩, h.inj, h.new_⟩
theorem Ev.below {s : Ren} {st : St} {w w' : World} (h : Mem s st w) (hb : Below w.heap.size w w') : Ev s st w s st w' :=
  ⟨.refl s, hb.os, hb.tape, hb.output, hb.size, fun b hlt _ => hb.block b hlt, fun g o l h e => .inr ⟨g, o, l, h, e, rfl⟩, Nat.le_refl _, rfl, fun _ _ => rfl, fun g o l hg _ e => ⟨hg, by rw [hb.block l.blk (h.lt hg e)]⟩⟩
theorem plains_eq {s : Ren} {args args' : Array Value} (hp : args.toList.all (plainV FUEL) = true) (h : VRs s args args') : args' = args := by
  refine Array.ext h.1.symm fun i h1 h2 => plainV_eq (n := FUEL) ?_ (h.2 i h2 h1)
  exact List.all_eq_true.1 hp _ (Array.mem_toList_iff.2 (Array.getElem_mem h2))
/-- A call that is known. -/
theorem known_ok {E : Env} (hE : E.Ok) {f : FuncId} {args args' : Array Value} {v : Value} {st : St} (h : E.known f args.toList st = some v) {s : Ren} {w : World} (hM : Mem s st w) (hG : Gl E.ng s) (hA : VRs s args args') (tail : List Frame) :
    ∃ w' fr', Steps E.P (lone (Frame.enter E.P f args' .normal) tail w) (lone fr' tail w') ∧ fr'.leaving E.P w' (.returned v) ∧ VR s v v ∧ Mem s st w' ∧ Ev s st w s st w' := by
  obtain ⟨h2, h3⟩ := hE.known f _ st v h
  obtain ⟨e, w', fr', ⟨he, hb⟩, hc, _, hl⟩ := h3 s w args' hM hG (by simpa using hA) tail
  subst he
  exact ⟨w', fr', hc, hl, plainV_self h2, hM.below hb, .below hM hb⟩
theorem wantA_ok' {s : Ren} {ops : Array Oper} {tm : TV} {o : Oper} {a : Array Value} {b : Bool} (ht : ∀ t ∈ o.looksAt ops, ∀ v, tm.get t = some v → ∃ v', a[t]? = some v' ∧ VR s v v') (h : wantA ops tm o = some b) : Region.wanted o (yielded ops a) = b := by
  unfold wantA at h
  simp only [opAt_eq] at h
  unfold Region.wanted
  split at h
  · rename_i hg; cases h; simp [hg]
  · rename_i j want hg
    simp only [hg]
    split at h
    · rename_i oj hj
      split at h
      · rename_i d hd
        have hmem : d ∈ o.looksAt ops := by
          unfold Oper.looksAt
          simp [hg, hj, hd]
        split at h
        · rename_i b' hb
          cases h
          obtain ⟨v', e, r⟩ := ht d hmem _ hb
          cases r
          simp only [yielded, hj, Option.bind_some, hd, e]
          cases b' <;> cases want <;> rfl
        · rename_i v hnb hv
          cases h
          obtain ⟨v', e, r⟩ := ht d hmem _ hv
          have : yielded ops a j = none := by
            simp only [yielded, hj, Option.bind_some, hd, e]
            cases r <;> first | rfl | (exact (hnb _ rfl).elim)
          simp [this]
        · cases h
      · rename_i hd
        cases h
        simp [yielded, hj, hd]
    · rename_i hj
      cases h
      simp [yielded, hj]

structure Rg where
  E : Env
  sub : Sub
  nt : Nat
  ops : Array Oper
  tm : TV
  st : St
  rs : List Rec
  tmF : TV
  stF : St
structure Rg.Ok (R : Rg) : Prop where
  env : R.E.Ok
  sub : SubOk R.E R.sub
  reg : regOk R.ops = true
  passed : Passed R.E R.sub R.nt R.ops R.st.c (preOf R.ops) R.tm ⟨R.st.H, R.st.c + newsOf R.ops, R.st.lim⟩ [] R.rs R.tmF R.stF
  check : checkAll R.E R.rs = true
  room : R.st.c + newsOf R.ops < R.st.lim
  ins : insOk R.E R.ops R.rs = true

/-- A block that is a map which the region fills. -/
def Sec (R : Rg) (g : Nat) : Prop := ∃ (j : Nat) (r : Rec) (ob : AObj), R.rs[j]? = some r ∧ r.nb = some (g, ob) ∧ secF R.ops r.o = true
/-- This operation fills it. -/
def InsAt (R : Rg) (i g : Nat) : Prop := ∃ r k v, R.rs[i]? = some r ∧ insKV R.E r = some (g, k, v)
noncomputable def ent (R : Rg) (i : Nat) : Value × Value :=
  match R.rs[i]? with
  | some r => match insKV R.E r with
    | some (_, k, v) => (k, v)
    | none => (undef, undef)
  | none => (undef, undef)
/-- What is known of the maps that the region fills. -/
def Fills (R : Rg) (D : Nat → Prop) (f : Nat → Option AObj) : Prop := ∀ j g ob, NewAt R.rs j g ob → Sec R g →
  (D j → ∃ L : List Nat, f g = some (.umap (L.map (ent R))) ∧ L.Nodup ∧ ∀ i, i ∈ L ↔ (D i ∧ InsAt R i g)) ∧ (¬ D j → f g = none ∧ ∀ i, InsAt R i g → ¬ D i)

/-- What of memory is known when these operations have been done, the effects ahead of q among them. -/
structure Known (R : Rg) (D : Nat → Prop) (q : Nat) (f : Nat → Option AObj) (s : Ren) : Prop where
  old : ∀ g, (∀ j ob, ¬ NewAt R.rs j g ob) → f g = (stAt R.rs R.stF q).H.get g
  done : ∀ j g ob, NewAt R.rs j g ob → D j → j < q → f g = (stAt R.rs R.stF q).H.get g
  ahead : ∀ j g ob, NewAt R.rs j g ob → D j → q ≤ j → f g = some ob
  not : ∀ j g ob, NewAt R.rs j g ob → ¬ D j → f g = none
  free : ∀ (j : Nat) r, R.rs[j]? = some r → newK r.o.op = true → ¬ D j → s (R.st.c + r.k) = none
  fresh : ∀ p, p ≤ q → ∀ j g ob, NewAt R.rs j g ob → p ≤ j → (stAt R.rs R.stF p).H.get g = none
  first : ∀ j g ob, NewAt R.rs j g ob → ¬ D j → j < q → (stAt R.rs R.stF q).H.get g = some ob
  cnt : R.st.c + newsOf R.ops ≤ (stAt R.rs R.stF q).c
  lim : (stAt R.rs R.stF q).lim = R.st.lim
structure At (R : Rg) (s0 : Ren) (w0 : World) (D : Nat → Prop) (q : Nat) (f : Nat → Option AObj) (s : Ren) (w : World) : Prop where
  le : q ≤ R.rs.length
  eff : ∀ (e : Nat) r, R.rs[e]? = some r → isEff r = true → (D e ↔ e < q)
  mem : MemF s f (stAt R.rs R.stF q).c (stAt R.rs R.stF q).lim w
  ev : EvF s0 R.st w0 s f w
  known : ∃ h, Known R D q h s ∧ ∀ g, ¬ Sec R g → f g = h g
  sec : Fills R D f
structure Inv (R : Rg) (s0 : Ren) (w0 : World) (D : Nat → Prop) (a : Act) (s : Ren) (w : World) : Prop where
  closed : ∀ i x, D i → (preOf R.ops)[i]? = some x → ∀ j, x.m.testBit j = true → D j
  done : ∀ i r t, D i → R.rs[i]? = some r → r.o.dst = some t → ∃ v', a.tmps[t]? = some v' ∧ VR s r.v v'
  rest : ∀ t v, (∀ i r, D i → R.rs[i]? = some r → r.o.dst ≠ some t) → R.tm.get t = some v → ∃ v', a.tmps[t]? = some v' ∧ VR s v v'
  size : a.tmps.size = R.nt
  at_ : ∃ q f, At R s0 w0 D q f s w
  gl : Gl R.E.ng s

section
variable {R : Rg}
theorem Rg.Ok.len (h : R.Ok) : R.rs.length = R.ops.size := by rw [h.passed.len, preOf_len]
theorem Rg.Ok.rec_ (h : R.Ok) {i : Nat} {r : Rec} (hr : R.rs[i]? = some r) : (preOf R.ops)[i]? = some ⟨r.i, r.m, r.k, r.o⟩ ∧ r.i = i ∧ R.ops[i]? = some r.o := by
  obtain ⟨h1, _⟩ := h.passed.at_ hr
  obtain ⟨h2, h3⟩ := preOf_at h1
  exact ⟨h1, h2, h3⟩
theorem Rg.Ok.edge (h : R.Ok) {i : Nat} {x : PR} (hx : (preOf R.ops)[i]? = some x) {e : Edge} (he : e ∈ x.o.after.toList) (hb : Region.binds .any e = true) : e.on < i := by
  have := h.reg
  unfold regOk at this
  simp only [Bool.and_eq_true] at this
  have h1 := List.all_eq_true.1 this.1 x (List.mem_of_getElem? hx)
  have h2 := List.all_eq_true.1 h1 e he
  simp only [hb, Bool.not_true, Bool.false_or, Nat.blt_eq] at h2
  have := (preOf_at hx).1
  omega
/-- Those that stand ahead have smaller numbers. -/
theorem Rg.Ok.lt (h : R.Ok) : ∀ {i : Nat} {x : PR} {j : Nat}, (preOf R.ops)[i]? = some x → x.m.testBit j = true → j < i := by
  intro i
  induction i using Nat.strongRecOn with
  | _ i ih =>
    intro x j hx hb
    obtain ⟨e, h1, h2, h3⟩ := preOf_bit hx hb
    have hlt := h.edge hx h1 h2
    rcases h3 with h3 | ⟨_, y, hy, hyb⟩
    · omega
    · have := ih e.on hlt hy hyb
      omega
theorem Rg.Ok.clash (h : R.Ok) {i j : Nat} {x y : PR} (hx : (preOf R.ops)[i]? = some x) (hy : (preOf R.ops)[j]? = some y) (hij : i ≠ j) : noClash R.ops x y = true := by
  have := h.reg
  unfold regOk at this
  simp only [Bool.and_eq_true] at this
  have h1 := List.all_eq_true.1 this.2 x (List.mem_of_getElem? hx)
  have h2 := List.all_eq_true.1 h1 y (List.mem_of_getElem? hy)
  simp only [Bool.or_eq_true, Nat.beq_eq] at h2
  rw [(preOf_at hx).1, (preOf_at hy).1] at h2
  exact h2.resolve_left hij
theorem Rg.Ok.dst_ne (h : R.Ok) {i j : Nat} {r q : Rec} (hr : R.rs[i]? = some r) (hq : R.rs[j]? = some q) (hij : i ≠ j) {t : Nat} (ht : r.o.dst = some t) : q.o.dst ≠ some t := by
  intro hqt
  have := h.clash (h.rec_ hr).1 (h.rec_ hq).1 hij
  unfold noClash at this
  simp only [hqt, ht, Bool.and_eq_true, Bool.not_eq_true'] at this
  have h1 := this.1
  rw [beq_nat] at h1
  simp at h1
theorem Rg.Ok.reads (h : R.Ok) {i j : Nat} {r q : Rec} (hr : R.rs[i]? = some r) (hq : R.rs[j]? = some q) (hij : i ≠ j) {t : Nat} (ht : t ∈ r.o.looksAt R.ops) (hqt : q.o.dst = some t) : r.m.testBit j = true ∨ q.m.testBit i = true := by
  have := h.clash (h.rec_ hr).1 (h.rec_ hq).1 hij
  unfold noClash at this
  have hc : ((r.o.looksAt R.ops).any fun u => Nat.beq u t) = true := List.any_eq_true.2 ⟨t, ht, by simp⟩
  simp only [hqt, hc, cond_true, Bool.and_eq_true, Bool.or_eq_true] at this
  rw [(h.rec_ hr).2.1, (h.rec_ hq).2.1] at this
  exact this.2

variable {s0 s : Ren} {w0 w : World} {D : Nat → Prop} {a : Act}
/-- What an operation that is ready looks at is there. -/
theorem Inv.looks (h : R.Ok) (hI : Inv R s0 w0 D a s w) {i : Nat} {r : Rec} (hr : R.rs[i]? = some r) (hnd : ¬ D i) (hm : ∀ j, r.m.testBit j = true → D j) :
    ∀ t ∈ r.o.looksAt R.ops, ∀ v, r.tm.get t = some v → ∃ v', a.tmps[t]? = some v' ∧ VR s v v' := by
  intro t ht v hv
  have hil : i < R.rs.length := (List.getElem?_eq_some_iff.1 hr).1
  have htm : tmAt R.rs R.tmF i = r.tm := by simp [tmAt, hr]
  by_cases hex : ∃ q rq, q < i ∧ R.rs[q]? = some rq ∧ rq.o.dst = some t
  · obtain ⟨q, rq, hq, hrq, hd⟩ := hex
    have hw := h.passed.wrote (p := i) (Nat.le_of_lt hil) hq hrq hd (fun q' r' h1 h2 h3 => h.dst_ne hrq h3 (by omega) hd)
    rw [htm, hv] at hw
    cases hw
    have hDq : D q := by
      rcases h.reads hr hrq (by omega) ht hd with h1 | h1
      · exact hm q h1
      · have := h.lt (h.rec_ hrq).1 h1
        omega
    exact hI.done q rq t hDq hrq hd
  · have hk := h.passed.keep (p := i) (t := t) (Nat.le_of_lt hil) (fun q rq hq hrq hd => hex ⟨q, rq, hq, hrq, hd⟩)
    rw [htm, hv] at hk
    refine hI.rest t v (fun j rj hj hrj hd => ?_) hk.symm
    have hne : i ≠ j := fun e => hnd (e ▸ hj)
    have hge : ¬ j < i := fun hlt => hex ⟨j, rj, hlt, hrj, hd⟩
    rcases h.reads hr hrj hne ht hd with h1 | h1
    · have := h.lt (h.rec_ hr).1 h1
      omega
    · exact hnd (hI.closed j _ hj (h.rec_ hrj).1 i h1)
theorem Inv.operand (h : R.Ok) (hI : Inv R s0 w0 D a s w) {i : Nat} {r : Rec} (hr : R.rs[i]? = some r) (hnd : ¬ D i) (hm : ∀ j, r.m.testBit j = true → D j) {x : Operand} (hx : x ∈ r.o.op.operands) {v : Value}
    (hv : evT R.E.ng r.tm x = some v) : VR s v (a.eval x) := by
  cases x with
  | tmp t =>
    have hmem : t ∈ r.o.looksAt R.ops := by
      unfold Oper.looksAt
      simp only [List.mem_append, List.mem_filterMap]
      exact .inl ⟨.tmp t, by simpa using hx, rfl⟩
    obtain ⟨v', e, rr⟩ := hI.looks h hr hnd hm t hmem v hv
    simp only [Act.eval, Array.getD_eq_getD_getElem?, e, Option.getD_some]
    exact rr
  | const u => exact evT_ok (tm := .leaf) (a := a) hI.gl (fun t v h => by simp [TV.get_leaf] at h) (.const u) v hv
  | global g => exact evT_ok (tm := .leaf) (a := a) hI.gl (fun t v h => by simp [TV.get_leaf] at h) (.global g) v hv
  | func f => exact evT_ok (tm := .leaf) (a := a) hI.gl (fun t v h => by simp [TV.get_leaf] at h) (.func f) v hv
/-- An operation that is ready, done at a state that stands for the world. -/
theorem Inv.does (h : R.Ok) (hI : Inv R s0 w0 D a s w) {i : Nat} {r : Rec} (hr : R.rs[i]? = some r) (hnd : ¬ D i) (hm : ∀ j, r.m.testBit j = true → D j) {S : St} {res : Res} (hM : Mem s S w)
    (ha : aop R.E (evT R.E.ng r.tm) r.o S = some res) : Snd R.E.P s S w (execOp a.eval r.o) res := by
  let ev' : Operand → Option Value := fun x => match x with
    | .tmp t => if t ∈ r.o.looksAt R.ops then r.tm.get t else none
    | x => evT R.E.ng r.tm x
  have hc : aop R.E (evT R.E.ng r.tm) r.o S = aop R.E ev' r.o S := aop_congr fun x hx => by
    cases x with
    | tmp t =>
      have : t ∈ r.o.looksAt R.ops := by
        unfold Oper.looksAt
        simp only [List.mem_append, List.mem_filterMap]
        exact .inl ⟨.tmp t, by simpa using hx, rfl⟩
      simp only [ev', this, if_true]
      rfl
    | _ => rfl
  rw [hc] at ha
  refine aop_ok h.env hM (fun x v hx => ?_) ha
  cases x with
  | tmp t =>
    simp only [ev'] at hx
    split at hx
    · rename_i hmem
      obtain ⟨v', e, rr⟩ := hI.looks h hr hnd hm t hmem v hx
      simp only [Act.eval, Array.getD_eq_getD_getElem?, e, Option.getD_some]
      exact rr
    · cases hx
  | const u => exact evT_ok (tm := .leaf) (a := a) hI.gl (fun t v h => by simp [TV.get_leaf] at h) (.const u) v hx
  | global g => exact evT_ok (tm := .leaf) (a := a) hI.gl (fun t v h => by simp [TV.get_leaf] at h) (.global g) v hx
  | func f => exact evT_ok (tm := .leaf) (a := a) hI.gl (fun t v h => by simp [TV.get_leaf] at h) (.func f) v hx

/-- The block that an operation makes has the number that was kept for it. -/
theorem Rg.Ok.nb_of (h : R.Ok) {j g : Nat} {ob : AObj} (hn : NewAt R.rs j g ob) : ∃ r, R.rs[j]? = some r ∧ newK r.o.op = true ∧ r.cls = .new ∧ r.nb = some (g, ob) ∧ g = R.st.c + r.k ∧ g < R.st.c + newsOf R.ops := by
  obtain ⟨r, hr, hnb⟩ := hn
  obtain ⟨_, tm1, hone⟩ := h.passed.at_ hr
  obtain ⟨hpre, _, hop⟩ := h.rec_ hr
  have hk : r.k = newsIn (R.ops.toList.take j) := preOf_k hpre
  rcases hone.how with ⟨_, _, _, _, q⟩ | ⟨_, ⟨q1, q2, S, _, ⟨ob', _, q3, _⟩ | ⟨q, _⟩⟩ | ⟨_, _, _, _, _, q⟩ | ⟨_, q, _⟩⟩
  · rw [hnb] at q; cases q
  · rw [hnb] at q3
    cases q3
    have := newsIn_lt (l := R.ops.toList) (q := j) (o := r.o) (by simpa using hop) q1
    exact ⟨r, hr, q1, q2, hnb, rfl, by show R.st.c + r.k < R.st.c + newsIn R.ops.toList; omega⟩
  · rw [hnb] at q; cases q
  · rw [hnb] at q; cases q
  · rw [hnb] at q; cases q
theorem Rg.Ok.k_inj (h : R.Ok) {i j : Nat} {r r' : Rec} (hr : R.rs[i]? = some r) (hr' : R.rs[j]? = some r') (h1 : newK r.o.op = true) (h2 : newK r'.o.op = true) (he : r.k = r'.k) : i = j := by
  have a := preOf_k (h.rec_ hr).1
  have b := preOf_k (h.rec_ hr').1
  have oa : R.ops.toList[i]? = some r.o := by simpa using (h.rec_ hr).2.2
  have ob : R.ops.toList[j]? = some r'.o := by simpa using (h.rec_ hr').2.2
  simp only at a b
  rcases Nat.lt_trichotomy i j with hlt | heq | hgt
  · have := newsIn_take _ i j _ oa h1 hlt; omega
  · exact heq
  · have := newsIn_take _ j i _ ob h2 hgt; omega
theorem Rg.Ok.nb_inj (h : R.Ok) {i j g : Nat} {ob ob' : AObj} (h1 : NewAt R.rs i g ob) (h2 : NewAt R.rs j g ob') : i = j ∧ ob = ob' := by
  obtain ⟨r, a1, a2, _, a3, a4, _⟩ := h.nb_of h1
  obtain ⟨r', b1, b2, _, b3, b4, _⟩ := h.nb_of h2
  have : i = j := h.k_inj a1 b1 a2 b2 (by omega)
  subst this
  rw [a1] at b1
  cases b1
  rw [a3] at b3
  cases b3
  exact ⟨rfl, rfl⟩
theorem Rg.Ok.nb_eff (h : R.Ok) {j g : Nat} {ob : AObj} {r : Rec} (hn : NewAt R.rs j g ob) (hr : R.rs[j]? = some r) : isEff r = false := by
  obtain ⟨r', a1, _, a2, _⟩ := h.nb_of hn
  rw [hr] at a1
  cases a1
  rw [isEff_cls, a2]
  rfl
/-- What stands ahead of an operation and is in its sight. -/
theorem Rg.Ok.top (h : R.Ok) {i : Nat} {r : Rec} (hr : R.rs[i]? = some r) : r.m.testBit R.ops.size = false := by
  cases hb : r.m.testBit R.ops.size with
  | false => rfl
  | true =>
    have h1 := h.lt (h.rec_ hr).1 hb
    have h2 := (List.getElem?_eq_some_iff.1 hr).1
    have := h.len
    omega
theorem Rg.Ok.sec_of (h : R.Ok) {j g : Nat} {ob : AObj} {r : Rec} (hn : NewAt R.rs j g ob) (hr : R.rs[j]? = some r) : Sec R g ↔ secF R.ops r.o = true := by
  constructor
  · rintro ⟨j', r', ob', h1, h2, h3⟩
    have := (h.nb_inj hn ⟨r', h1, h2⟩).1
    subst this
    rw [hr] at h1
    cases h1
    exact h3
  · intro hs
    obtain ⟨r', h1, h2⟩ := hn
    rw [hr] at h1
    cases h1
    exact ⟨j, r, ob, hr, h2, hs⟩
theorem Rg.Ok.hidden (h : R.Ok) {i j g m : Nat} {r : Rec} {ob : AObj} (hr : R.rs[i]? = some r) (hn : NewAt R.rs j g ob) (hj : j < i) (hmb : m.testBit R.ops.size = false) : g ∈ notAhead m r.news ↔ (m.testBit j = false ∨ Sec R g) := by
  have hmem : ∀ n, n ∈ r.news ↔ ∃ j rj ob, j < i ∧ R.rs[j]? = some rj ∧ rj.nb = some (n.2, ob) ∧ keyOf R.ops rj.i rj.o = n.1 := fun n => by
    rw [h.passed.news_at hr n]; simp
  unfold notAhead
  rw [List.mem_filterMap]
  constructor
  · rintro ⟨n, h1, h2⟩
    obtain ⟨j', rj, ob', q1, q2, q3, q4⟩ := (hmem n).1 h1
    cases hb : Nat.testBit m n.1 with
    | true => rw [hb] at h2; cases h2
    | false =>
      rw [hb] at h2
      simp only [cond_false, Option.some.injEq] at h2
      have := (h.nb_inj hn ⟨rj, q2, h2 ▸ q3⟩).1
      subst this
      have hri : rj.i = j := (h.rec_ q2).2.1
      cases hs : secF R.ops rj.o with
      | true => exact .inr ((h.sec_of hn q2).2 hs)
      | false =>
        left
        simp only [keyOf, hs, cond_false, hri] at q4
        rw [← q4] at hb
        exact hb
  · intro hb
    have hn' := hn
    obtain ⟨rj, a1, a2⟩ := hn
    have hri : rj.i = j := (h.rec_ a1).2.1
    refine ⟨(keyOf R.ops rj.i rj.o, g), (hmem _).2 ⟨j, rj, ob, hj, a1, a2, rfl⟩, ?_⟩
    cases hs : secF R.ops rj.o with
    | true => simp only [keyOf, hs, cond_true, hmb, cond_false]
    | false =>
      have hb' : m.testBit j = false := hb.resolve_right fun hsec => by rw [(h.sec_of hn' a1).1 hsec] at hs; cases hs
      simp only [keyOf, hs, cond_false, hri, hb']
theorem Rg.Ok.hidden_new (h : R.Ok) {i g m : Nat} {r : Rec} (hr : R.rs[i]? = some r) (hg : g ∈ notAhead m r.news) : ∃ j ob, j < i ∧ NewAt R.rs j g ob := by
  unfold notAhead at hg
  obtain ⟨n, h1, h2⟩ := List.mem_filterMap.1 hg
  cases hb : Nat.testBit m n.1 with
  | true => rw [hb] at h2; cases h2
  | false =>
    rw [hb] at h2
    simp only [cond_false, Option.some.injEq] at h2
    rcases (h.passed.news_at hr n).1 h1 with q | ⟨j, rj, ob, q1, q2, q3, _⟩
    · simp at q
    · exact ⟨j, ob, q1, rj, q2, h2 ▸ q3⟩

section
variable {q p : Nat} {f : Nat → Option AObj}
/-- Ahead of the next effect: what has been made is known as it was made. -/
theorem Known.seen (h : R.Ok) (hk : Known R D q f s) (hqp : q ≤ p) (hp : p ≤ R.rs.length) (hno : ∀ (e : Nat) r, q ≤ e → e < p → R.rs[e]? = some r → isEff r = false) {g : Nat} (hg : ∀ j ob, NewAt R.rs j g ob → D j ∧ j < p) : f g = (stAt R.rs R.stF p).H.get g := by
  obtain ⟨_, _, h3⟩ := h.passed.near (p - q) q (by omega) (fun e r a b => hno e r a (by omega))
  rw [show q + (p - q) = p by omega] at h3
  rcases h3 g with ⟨j, ob, a, _, c, e⟩ | ⟨a, b⟩
  · rw [e]; exact hk.ahead j g ob c (hg j ob c).1 a
  · rw [b]
    by_cases hx : ∃ j ob, NewAt R.rs j g ob
    · obtain ⟨j, ob, hj⟩ := hx
      have hjq : j < q := by
        rcases Nat.lt_or_ge j q with q1 | q1
        · exact q1
        · exact absurd hj (a j ob q1 (hg j ob hj).2)
      exact hk.done j g ob hj (hg j ob hj).1 hjq
    · exact hk.old g fun j ob hj => hx ⟨j, ob, hj⟩
theorem Known.unseen (h : R.Ok) (hk : Known R D q f s) (hqp : q ≤ p) (hp : p ≤ R.rs.length) (hno : ∀ (e : Nat) r, q ≤ e → e < p → R.rs[e]? = some r → isEff r = false) {j g : Nat} {ob : AObj} (hn : NewAt R.rs j g ob) (hj : p ≤ j) : (stAt R.rs R.stF p).H.get g = none := by
  obtain ⟨_, _, h3⟩ := h.passed.near (p - q) q (by omega) (fun e r a b => hno e r a (by omega))
  rw [show q + (p - q) = p by omega] at h3
  rcases h3 g with ⟨j', ob', _, b, c, _⟩ | ⟨_, b⟩
  · have := (h.nb_inj hn c).1; omega
  · rw [b]; exact hk.fresh q (Nat.le_refl _) j g ob hn (by omega)
/-- What is in sight is known. -/
theorem Known.sight (h : R.Ok) (hk : Known R D q f s) {H : TH} {ids : List Nat} (hH : Seen ids (stAt R.rs R.stF p).H H) (hp : p ≤ R.rs.length)
    (hno : (q ≤ p ∧ ∀ (e : Nat) r, q ≤ e → e < p → R.rs[e]? = some r → isEff r = false) ∨ (p ≤ q ∧ q ≤ R.rs.length ∧ ∀ (e : Nat) r, p ≤ e → e < q → R.rs[e]? = some r → isEff r = false))
    (hids : ∀ j g ob, NewAt R.rs j g ob → j < p → (¬ D j ∨ Sec R g) → g ∈ ids) : ∀ g o, H.get g = some o → f g = some o ∧ ¬ Sec R g := by
  intro g o hg
  rw [hH] at hg
  split at hg
  · cases hg
  · rename_i hnot
    refine ⟨?_, fun hsec => ?_⟩
    rotate_left
    · have hsec0 := hsec
      obtain ⟨j, r, ob, s1, s2, _⟩ := hsec
      have hj : NewAt R.rs j g ob := ⟨r, s1, s2⟩
      rcases Nat.lt_or_ge j p with q1 | q1
      · exact hnot (hids j g ob hj q1 (.inr hsec0))
      · rcases hno with ⟨hqp, hno⟩ | ⟨hpq, _, _⟩
        · rw [hk.unseen h hqp hp hno hj q1] at hg; cases hg
        · rw [hk.fresh p hpq j g ob hj q1] at hg; cases hg
    rcases hno with ⟨hqp, hno⟩ | ⟨hpq, hql, hno⟩
    · rw [hk.seen h hqp hp hno fun j ob hj => ?_]
      · exact hg
      · have hjp : j < p := by
          rcases Nat.lt_or_ge j p with q1 | q1
          · exact q1
          · rw [hk.unseen h hqp hp hno hj q1] at hg; cases hg
        exact ⟨Classical.byContradiction fun hd => hnot (hids j g ob hj hjp (.inl hd)), hjp⟩
    · obtain ⟨_, _, h3⟩ := h.passed.near (q - p) p (by omega) (fun e r a b => hno e r a (by omega))
      rw [show p + (q - p) = q by omega] at h3
      rcases h3 g with ⟨j, ob, a, _, c, _⟩ | ⟨_, b⟩
      · rw [hk.fresh p hpq j g ob c a] at hg; cases hg
      · by_cases hx : ∃ j ob, NewAt R.rs j g ob
        · obtain ⟨j, ob, hj⟩ := hx
          have hjp : j < p := by
            rcases Nat.lt_or_ge j p with q1 | q1
            · exact q1
            · rw [hk.fresh p hpq j g ob hj q1] at hg; cases hg
          have hd : D j := Classical.byContradiction fun hd => hnot (hids j g ob hj hjp (.inl hd))
          rw [hk.done j g ob hj hd (by omega), b]
          exact hg
        · rw [hk.old g fun j ob hj => hx ⟨j, ob, hj⟩, b]
          exact hg
theorem At.sight (h : R.Ok) (hA : At R s0 w0 D q f s w) {H : TH} {ids : List Nat} (hH : Seen ids (stAt R.rs R.stF p).H H) (hp : p ≤ R.rs.length)
    (hno : (q ≤ p ∧ ∀ (e : Nat) r, q ≤ e → e < p → R.rs[e]? = some r → isEff r = false) ∨ (p ≤ q ∧ q ≤ R.rs.length ∧ ∀ (e : Nat) r, p ≤ e → e < q → R.rs[e]? = some r → isEff r = false))
    (hids : ∀ j g ob, NewAt R.rs j g ob → j < p → (¬ D j ∨ Sec R g) → g ∈ ids) : ∀ g o, H.get g = some o → f g = some o := by
  intro g o hg
  obtain ⟨h', hk, hfh⟩ := hA.known
  obtain ⟨e1, e2⟩ := hk.sight h hH hp hno hids g o hg
  rw [hfh g e2]
  exact e1
end

/-- What is read is the same, wherever it is read. -/
theorem Inv.rd (h : R.Ok) (hI : Inv R s0 w0 D a s w) {q : Nat} {f : Nat → Option AObj} (hA : At R s0 w0 D q f s w) {i : Nat} {r : Rec} (hr : R.rs[i]? = some r) (hnd : ¬ D i) (hm : ∀ j, r.m.testBit j = true → D j)
    (hc : r.cls = .rd) {H : TH} (hH : Seen (notAhead r.m r.news) r.s1.H H) {S1 : St} (ha : aop R.E (evT R.E.ng r.tm) r.o ⟨H, r.s1.c, r.s1.lim⟩ = some (.val r.v S1)) :
    ∃ S S1, aop R.E (evT R.E.ng r.tm) r.o S = some (.val r.v S1) ∧ (∀ g o, S.H.get g = some o → f g = some o) ∧ S.c = (stAt R.rs R.stF q).c ∧ S.lim = (stAt R.rs R.stF q).lim := by
  have hil : i < R.rs.length := (List.getElem?_eq_some_iff.1 hr).1
  have hsi : stAt R.rs R.stF i = r.s1 := by simp [stAt, hr]
  have hck := List.all_eq_true.1 h.check r (List.mem_of_getElem? hr)
  unfold checkOne at hck
  simp only [hc] at hck
  have hhid : ∀ {p : Nat} {rp : Rec}, R.rs[p]? = some rp → ∀ j g ob, NewAt R.rs j g ob → j < p → (¬ D j ∨ Sec R g) → g ∈ notAhead r.m rp.news := fun hrp j g ob hn hj hd => (h.hidden hrp hn hj (h.top hr)).2 (by
    rcases hd with hd | hd
    · left
      cases hb : r.m.testBit j with
      | false => rfl
      | true => exact absurd (hm j hb) hd
    · exact .inr hd)
  have same : ∀ st news, sameAt R.E r news st = true → ∃ H S1, Seen (notAhead r.m news) st.H H ∧ aop R.E (evT R.E.ng r.tm) r.o ⟨H, st.c, st.lim⟩ = some (.val r.v S1) := by
    intro st news hS
    unfold sameAt at hS
    split at hS
    · rename_i hx
      obtain ⟨l, H, h1, h2, _⟩ := hidT_ok hx
      split at h1
      · rename_i v' st' hv'
        simp only [Option.some.injEq] at h1
        exact ⟨H, st', h2, by rw [hv', valEq_eq h1]⟩
      · cases h1
    · cases hS
  rcases Nat.le_total q i with hle | hle
  · rcases firstEff (rs := R.rs) (i - q) q with hno | ⟨e, re, h1, h2, h3, h4, h5⟩
    · obtain ⟨c1, c2, _⟩ := h.passed.near (i - q) q (by omega) hno
      rw [show q + (i - q) = i by omega, hsi] at c1 c2
      refine ⟨_, _, ha, ?_, c1, c2⟩
      exact hA.sight h (p := i) (by rw [hsi]; exact hH) (Nat.le_of_lt hil) (.inl ⟨hle, fun e r a b => hno e r a (by omega)⟩) (hhid hr)
    · have hnde : ¬ D e := fun hd => by have := (hA.eff e re h3 h4).1 hd; omega
      have hb : r.m.testBit e = false := by
        rw [Bool.eq_false_iff]
        exact fun hb => hnde (hm e hb)
      have h6 := List.all_eq_true.1 hck re (List.mem_filter.2 ⟨List.mem_of_getElem? h3, h4⟩)
      rw [(h.rec_ h3).2.1, (h.rec_ hr).2.1, show Nat.blt e i = true by rw [Nat.blt_eq]; omega] at h6
      simp only [cond_true, hb, Bool.false_or] at h6
      obtain ⟨H', S2, g1, g2⟩ := same _ _ h6
      have hse : stAt R.rs R.stF e = re.s1 := by simp [stAt, h3]
      obtain ⟨c1, c2, _⟩ := h.passed.near (e - q) q (by omega) (fun e' r' a b => h5 e' r' a (by omega))
      rw [show q + (e - q) = e by omega, hse] at c1 c2
      refine ⟨_, _, g2, ?_, c1, c2⟩
      exact hA.sight h (p := e) (by rw [hse]; exact g1) (by omega) (.inl ⟨h1, h5⟩) (hhid h3)
  · rcases lastEff (rs := R.rs) (q - i) i with hno | ⟨e, re, h1, h2, h3, h4, h5⟩
    · obtain ⟨c1, c2, _⟩ := h.passed.near (q - i) i (by have := hA.le; omega) hno
      rw [show i + (q - i) = q by omega, hsi] at c1 c2
      refine ⟨_, _, ha, ?_, c1.symm, c2.symm⟩
      exact hA.sight h (p := i) (by rw [hsi]; exact hH) (Nat.le_of_lt hil) (.inr ⟨hle, hA.le, fun e r a b => hno e r a (by omega)⟩) (hhid hr)
    · have hne : e ≠ i := by
        intro he
        subst he
        rw [hr] at h3
        cases h3
        simp [isEff, hc] at h4
      have hde : D e := (hA.eff e re h3 h4).2 (by omega)
      have hb : re.m.testBit i = false := by
        rw [Bool.eq_false_iff]
        exact fun hb => hnd (hI.closed e _ hde (h.rec_ h3).1 i hb)
      have h6 := List.all_eq_true.1 hck re (List.mem_filter.2 ⟨List.mem_of_getElem? h3, h4⟩)
      rw [(h.rec_ h3).2.1, (h.rec_ hr).2.1, show Nat.blt e i = false by rw [Bool.eq_false_iff]; intro hh; rw [Nat.blt_eq] at hh; omega] at h6
      simp only [cond_false, hb, Bool.false_or] at h6
      obtain ⟨H', S2, g1, g2⟩ := same _ _ h6
      have hse : stAt R.rs R.stF (e + 1) = re.s2 := h.passed.succ h3
      obtain ⟨c1, c2, _⟩ := h.passed.near (q - (e + 1)) (e + 1) (by have := hA.le; omega) (fun e' r' a b => h5 e' r' (by omega) (by omega))
      rw [show e + 1 + (q - (e + 1)) = q by omega, hse] at c1 c2
      refine ⟨_, _, g2, ?_, c1.symm, c2.symm⟩
      refine hA.sight h (p := e + 1) (by rw [hse]; exact g1) (by have := (List.getElem?_eq_some_iff.1 h3).1; omega) (.inr ⟨by omega, hA.le, fun e' r' a b => h5 e' r' (by omega) (by omega)⟩) fun j g ob hn hj hd => ?_
      refine hhid h3 j g ob hn ?_ hd
      have : j ≠ e := fun he => by
        subst he
        rw [h.nb_eff hn h3] at h4
        cases h4
      omega
/-- What writes is done where it was done. -/
theorem Inv.eff (h : R.Ok) {q : Nat} {f : Nat → Option AObj} (hA : At R s0 w0 D q f s w) {i : Nat} {r : Rec} (hr : R.rs[i]? = some r) (hnd : ¬ D i) (hm : ∀ j, r.m.testBit j = true → D j)
    (hc : isEff r = true) : q ≤ i ∧ ∀ (e : Nat) re, q ≤ e → e < i → R.rs[e]? = some re → isEff re = false := by
  have hle : q ≤ i := by
    rcases Nat.lt_or_ge i q with hlt | hge
    · exact absurd ((hA.eff i r hr hc).2 hlt) hnd
    · exact hge
  have hck := List.all_eq_true.1 h.check r (List.mem_of_getElem? hr)
  unfold checkOne at hck
  have hcls : r.cls = .eff := by
    unfold isEff at hc
    split at hc
    · assumption
    · cases hc
  simp only [hcls] at hck
  refine ⟨hle, fun e re h1 h2 h3 => ?_⟩
  cases h4 : isEff re with
  | false => rfl
  | true =>
    have h6 := List.all_eq_true.1 hck re (List.mem_filter.2 ⟨List.mem_of_getElem? h3, h4⟩)
    rw [(h.rec_ h3).2.1, (h.rec_ hr).2.1, show Nat.blt e i = true by rw [Nat.blt_eq]; exact h2] at h6
    simp only [cond_true] at h6
    have := (hA.eff e re h3 h4).1 (hm e h6)
    omega
/-- A slot is written, and the rest stands. -/
theorem Inv.next (h : R.Ok) (hI : Inv R s0 w0 D a s w) {i : Nat} {r : Rec} (hr : R.rs[i]? = some r) (hm : ∀ j, r.m.testBit j = true → D j) {s' : Ren} {w' : World} {v' : Value} {a1 : Act} (ha1 : a1.tmps = a.tmps) (hle : s.le s') (hv : VR s' r.v v')
    (hat : ∃ q f, At R s0 w0 (fun j => D j ∨ j = i) q f s' w') :
    Inv R s0 w0 (fun j => D j ∨ j = i) (a1.put r.o.dst v') s' w' := by
  obtain ⟨_, tm1, hone⟩ := h.passed.at_ hr
  have hdl : ∀ d, r.o.dst = some d → d < a.tmps.size := fun d hd => by rw [hI.size]; exact hone.dst d hd
  have hput : ∀ t, r.o.dst ≠ some t → (a1.put r.o.dst v').tmps[t]? = a.tmps[t]? := by
    intro t ht
    unfold Act.put
    cases hd : r.o.dst with
    | none => simp [ha1]
    | some d =>
      have : d ≠ t := fun e => ht (by rw [hd, e])
      simp only [ha1]
      rw [Array.getElem?_setIfInBounds_ne this]
  refine ⟨fun j x hj hx k hk => ?_, fun j q t hj hq ht => ?_, fun t v hn hv0 => ?_, by rw [put_size, ha1]; exact hI.size, hat, hI.gl.mono hle⟩
  · rcases hj with hj | hj
    · exact .inl (hI.closed j x hj hx k hk)
    · subst hj
      rw [(h.rec_ hr).1] at hx
      cases hx
      exact .inl (hm k hk)
  · by_cases hji : j = i
    · subst hji
      rw [hr] at hq
      cases hq
      refine ⟨v', ?_, hv⟩
      simp only [Act.put, ht, ha1]
      simp [hdl t ht]
    · obtain ⟨u, e1, e2⟩ := hI.done j q t (hj.resolve_right hji) hq ht
      refine ⟨u, ?_, e2.mono hle⟩
      rw [hput t (h.dst_ne hq hr hji ht)]
      exact e1
  · obtain ⟨u, e1, e2⟩ := hI.rest t v (fun j q hj hq => hn j q (.inl hj) hq) hv0
    refine ⟨u, ?_, e2.mono hle⟩
    rw [hput t (hn i r (.inr rfl) hr)]
    exact e1
end

end Go.Proofs.Ytfilbknnpjbmcaa.Cx
