/- A closed call, run: what is known of the operations of a drawn region, gone through in turn. No program of its own. -/
import Derived.Test.YtajkkgibiigioaaCxQ
namespace Go.Proofs.Ytajkkgibiigioaa.Cx
open Go Go.RowKit Go.BigFrame

/- The numbers of those that stand ahead. -/
theorem fold_bits (acc : List Nat) : ∀ (l : List Edge) (s j : Nat), (l.foldl (fun s e => bif Region.binds .any e then s ||| (1 <<< e.on ||| acc.getD e.on 0) else s) s).testBit j = true →
    s.testBit j = true ∨ ∃ e ∈ l, Region.binds .any e = true ∧ (e.on = j ∨ (acc.getD e.on 0).testBit j = true)
  | [], s, j, h => .inl h
  | e :: l, s, j, h => by
    simp only [List.foldl_cons] at h
    rcases fold_bits acc l _ j h with h1 | ⟨e', h1, h2⟩
    · cases hb : Region.binds .any e with
      | false => simp only [hb, cond_false] at h1; exact .inl h1
      | true =>
        simp only [hb, cond_true, Nat.testBit_or, Bool.or_eq_true, Nat.one_shiftLeft, Nat.testBit_two_pow, decide_eq_true_eq] at h1
        rcases h1 with h1 | h1 | h1
        · exact .inl h1
        · exact .inr ⟨e, by simp, hb, .inl h1⟩
        · exact .inr ⟨e, by simp, hb, .inr h1⟩
    · exact .inr ⟨e', by simp [h1], h2⟩
theorem masks_spec : ∀ (l : List Oper) (acc : List Nat), ∃ ms, masks l acc = acc ++ ms ∧ ms.length = l.length ∧ ∀ (q : Nat) (o : Oper), l[q]? = some o → ms[q]? = some (maskOf o (acc ++ ms.take q))
  | [], acc => ⟨[], by simp [masks], rfl, fun q o h => by simp at h⟩
  | o :: r, acc => by
    obtain ⟨ms, h1, h2, h3⟩ := masks_spec r (acc ++ [maskOf o acc])
    refine ⟨maskOf o acc :: ms, by simp [masks, h1], by simp [h2], fun q x hq => ?_⟩
    cases q with
    | zero => simp at hq; subst hq; simp
    | succ q =>
      have := h3 q x (by simpa using hq)
      simpa using this
theorem pre_spec : ∀ (l : List Oper) (ms : List Nat) (i : Nat), ms.length = l.length → (pre l ms i).length = l.length ∧ ∀ (q : Nat) (x : PR), (pre l ms i)[q]? = some x → x.i = i + q ∧ l[q]? = some x.o ∧ ms[q]? = some x.m
  | [], ms, i, _ => ⟨by simp [pre], fun q x h => by simp [pre] at h⟩
  | o :: r, [], i, h => by simp at h
  | o :: r, m :: ms, i, h => by
    obtain ⟨h1, h2⟩ := pre_spec r ms (i + 1) (by simpa using h)
    refine ⟨by simp [pre, h1], fun q x hq => ?_⟩
    cases q with
    | zero => simp [pre] at hq; subst hq; simp
    | succ q =>
      have := h2 q x (by simpa [pre] using hq)
      refine ⟨by omega, by simpa using this.2.1, by simpa using this.2.2⟩
theorem preOf_len (ops : Array Oper) : (preOf ops).length = ops.size := by
  obtain ⟨ms, h1, h2, _⟩ := masks_spec ops.toList []
  have := (pre_spec ops.toList (masks ops.toList []) 0 (by rw [h1]; simpa using h2)).1
  simpa [preOf] using this
theorem preOf_at {ops : Array Oper} {q : Nat} {x : PR} (h : (preOf ops)[q]? = some x) : x.i = q ∧ ops[q]? = some x.o := by
  obtain ⟨ms, h1, h2, _⟩ := masks_spec ops.toList []
  obtain ⟨e1, e2, _⟩ := (pre_spec ops.toList (masks ops.toList []) 0 (by rw [h1]; simpa using h2)).2 q x h
  exact ⟨by omega, by simpa using e2⟩
theorem preOf_bit {ops : Array Oper} {q j : Nat} {x : PR} (h : (preOf ops)[q]? = some x) (hb : x.m.testBit j = true) :
    ∃ e ∈ x.o.after.toList, Region.binds .any e = true ∧ (e.on = j ∨ e.on < q ∧ ∃ y, (preOf ops)[e.on]? = some y ∧ y.m.testBit j = true) := by
  obtain ⟨ms, h1, h2, h3⟩ := masks_spec ops.toList []
  simp only [List.nil_append] at h1 h3
  have hp := pre_spec ops.toList (masks ops.toList []) 0 (by rw [h1]; exact h2)
  obtain ⟨e1, e2, e3⟩ := hp.2 q x h
  rw [h1] at e3
  have := h3 q x.o e2
  rw [e3] at this
  have hm : x.m = maskOf x.o (ms.take q) := by simpa using this
  rw [hm] at hb
  rcases fold_bits _ _ 0 j hb with h4 | ⟨e, h4, h5, h6⟩
  · simp at h4
  · refine ⟨e, h4, h5, h6.imp id fun h6 => ?_⟩
    by_cases hlt : e.on < q
    · refine ⟨hlt, ?_⟩
      have hq : q < (preOf ops).length := (List.getElem?_eq_some_iff.1 h).1
      have hy : (preOf ops)[e.on]? = some ((preOf ops)[e.on]'(by omega)) := List.getElem?_eq_getElem (by omega)
      refine ⟨_, hy, ?_⟩
      obtain ⟨f1, f2, f3⟩ := hp.2 e.on _ hy
      rw [h1] at f3
      have : (ms.take q).getD e.on 0 = ((preOf ops)[e.on]'(by omega)).m := by
        rw [List.getD_eq_getElem?_getD, List.getElem?_take, if_pos hlt, f3]; rfl
      rw [this] at h6
      exact h6
    · rw [List.getD_eq_getElem?_getD, List.getElem?_take, if_neg hlt] at h6
      simp at h6

def isE : Cls → Bool
  | .eff => true
  | _ => false
theorem isEff_cls (r : Rec) : isEff r = isE r.cls := by unfold isEff isE; cases r.cls <;> rfl
/-- What is known of one operation that was done in its turn. -/
structure One (E : Env) (sub : Sub) (nt : Nat) (ops : Array Oper) (o : Oper) (tm : T Value) (st : St) (cls : Cls) (v : Value) (tm1 : T Value) (st1 : St) : Prop where
  dst : ∀ d, o.dst = some d → d < nt
  get : ∀ j, tm1.get j = putG o.dst v tm j
  how : (wantA ops tm o = some false ∧ cls = .skp ∧ v = undef ∧ st1 = st) ∨ (wantA ops tm o = some true ∧
    ((aop E (evT E.ng tm) o st = some (.val v st1) ∧ cls = clsOf o.op) ∨ (aop E (evT E.ng tm) o st = some (.skip st1) ∧ v = undef ∧ cls = .eff) ∨
      ∃ f args st', aop E (evT E.ng tm) o st = some (.enter f args st') ∧ sub f args st' = some (v, st1) ∧ cls = .eff))
theorem passOne_some {β : Type} {E : Env} {sub : Sub} {nt : Nat} {ops : Array Oper} {o : Oper} {tm : T Value} {st : St} {K : Cls → Value → T Value → St → Option β} {b : β} (h : passOne E sub nt ops o tm st K = some b) :
    ∃ cls v tm1 st1, K cls v tm1 st1 = some b ∧ One E sub nt ops o tm st cls v tm1 st1 := by
  unfold passOne at h
  split at h
  · cases h
  · rename_i hw
    obtain ⟨tm', h1, h2, h3⟩ := putT_some h
    exact ⟨_, _, _, _, h1, h2, h3, .inl ⟨hw, rfl, rfl, rfl⟩⟩
  · rename_i hw
    split at h
    · rename_i r hr
      unfold passRes at h
      split at h
      · obtain ⟨tm', h1, h2, h3⟩ := putT_some h
        exact ⟨_, _, _, _, h1, h2, h3, .inr ⟨hw, .inl ⟨hr, rfl⟩⟩⟩
      · obtain ⟨tm', h1, h2, h3⟩ := putT_some h
        exact ⟨_, _, _, _, h1, h2, h3, .inr ⟨hw, .inr (.inl ⟨hr, rfl, rfl⟩)⟩⟩
      · split at h
        · rename_i hs
          obtain ⟨tm', h1, h2, h3⟩ := putT_some h
          exact ⟨_, _, _, _, h1, h2, h3, .inr ⟨hw, .inr (.inr ⟨_, _, _, hr, hs, rfl⟩)⟩⟩
        · cases h
      · cases h
    · cases h
theorem One.same {E : Env} {sub : Sub} {nt : Nat} {ops : Array Oper} {o : Oper} {tm tm1 : T Value} {st st1 : St} {cls : Cls} {v : Value} (h : One E sub nt ops o tm st cls v tm1 st1) (hc : isE cls = false) : st1 = st := by
  rcases h.how with ⟨_, _, _, e⟩ | ⟨_, ⟨h1, h2⟩ | ⟨_, _, h2⟩ | ⟨_, _, _, _, _, h2⟩⟩
  · exact e
  · unfold clsOf at h2
    cases hp : pureK o.op with
    | true =>
      obtain ⟨u, e, _⟩ := pure_same hp h1
      cases e; rfl
    | false =>
      cases hr : readK o.op with
      | true =>
        obtain ⟨u, e⟩ := read_same hr h1
        cases e; rfl
      | false =>
        simp only [hp, hr, cond_false] at h2
        subst h2
        cases hc
  · subst h2; cases hc
  · subst h2; cases hc
inductive Passed (E : Env) (sub : Sub) (nt : Nat) (ops : Array Oper) : List PR → T Value → St → List Rec → T Value → St → Prop where
  | nil (tm : T Value) (st : St) : Passed E sub nt ops [] tm st [] tm st
  | cons {p : PR} {ps : List PR} {tm tm1 tmF : T Value} {st st1 stF : St} {cls : Cls} {v : Value} {rs : List Rec} : One E sub nt ops p.o tm st cls v tm1 st1 → Passed E sub nt ops ps tm1 st1 rs tmF stF →
      Passed E sub nt ops (p :: ps) tm st (⟨p.i, p.m, p.o, tm, cls, v, st, st1⟩ :: rs) tmF stF
theorem pass_some {β : Type} {E : Env} {sub : Sub} {nt : Nat} {ops : Array Oper} : ∀ {l : List PR} {tm : T Value} {st : St} {K : List Rec → T Value → St → Option β} {b : β}, pass E sub nt ops l tm st K = some b →
    ∃ rs tmF stF, K rs tmF stF = some b ∧ Passed E sub nt ops l tm st rs tmF stF
  | [], tm, st, K, b, h => ⟨[], tm, st, h, .nil _ _⟩
  | p :: l, tm, st, K, b, h => by
    have h : passOne E sub nt ops p.o tm st (fun cls v tm' st' => pass E sub nt ops l tm' st' fun rs tmF stF => K (⟨p.i, p.m, p.o, tm, cls, v, st, st'⟩ :: rs) tmF stF) = some b := h
    obtain ⟨cls, v, tm1, st1, h1, h2⟩ := passOne_some h
    obtain ⟨rs, tmF, stF, h3, h4⟩ := pass_some h1
    exact ⟨_, _, _, h3, .cons h2 h4⟩

def stAt (rs : List Rec) (stF : St) (q : Nat) : St :=
  match rs[q]? with
  | some r => r.s1
  | none => stF
def tmAt (rs : List Rec) (tmF : T Value) (q : Nat) : T Value :=
  match rs[q]? with
  | some r => r.tm
  | none => tmF
section
variable {E : Env} {sub : Sub} {nt : Nat} {ops : Array Oper}
theorem Passed.len {ps : List PR} {tm tmF : T Value} {st stF : St} {rs : List Rec} (h : Passed E sub nt ops ps tm st rs tmF stF) : rs.length = ps.length := by
  induction h with
  | nil => rfl
  | cons _ _ ih => simp [ih]
theorem Passed.at_ {ps : List PR} {tm tmF : T Value} {st stF : St} {rs : List Rec} (h : Passed E sub nt ops ps tm st rs tmF stF) : ∀ {p : Nat} {r : Rec}, rs[p]? = some r →
    ps[p]? = some ⟨r.i, r.m, r.o⟩ ∧ ∃ tm1, One E sub nt ops r.o r.tm r.s1 r.cls r.v tm1 r.s2 := by
  induction h with
  | nil => intro p r hr; simp at hr
  | cons h1 _ ih =>
    intro p r hr
    cases p with
    | zero => simp at hr; subst hr; exact ⟨rfl, _, h1⟩
    | succ p => simpa using ih (by simpa using hr)
theorem Passed.first {ps : List PR} {tm tmF : T Value} {st stF : St} {rs : List Rec} (h : Passed E sub nt ops ps tm st rs tmF stF) : stAt rs stF 0 = st := by
  cases h <;> rfl
theorem Passed.succ {ps : List PR} {tm tmF : T Value} {st stF : St} {rs : List Rec} (h : Passed E sub nt ops ps tm st rs tmF stF) : ∀ {p : Nat} {r : Rec}, rs[p]? = some r → stAt rs stF (p + 1) = r.s2 := by
  induction h with
  | nil => intro p r hr; simp at hr
  | cons h1 h2 ih =>
    intro p r hr
    cases p with
    | zero =>
      simp at hr
      subst hr
      exact h2.first
    | succ p =>
      have := ih (p := p) (r := r) (by simpa using hr)
      simpa [stAt] using this
theorem Passed.tmFirst {ps : List PR} {tm tmF : T Value} {st stF : St} {rs : List Rec} (h : Passed E sub nt ops ps tm st rs tmF stF) : tmAt rs tmF 0 = tm := by
  cases h <;> rfl
theorem Passed.keep {ps : List PR} {tm tmF : T Value} {st stF : St} {rs : List Rec} (h : Passed E sub nt ops ps tm st rs tmF stF) : ∀ {p : Nat} {t : Nat}, p ≤ rs.length → (∀ (q : Nat) (r : Rec), q < p → rs[q]? = some r → r.o.dst ≠ some t) → (tmAt rs tmF p).get t = tm.get t := by
  induction h with
  | nil => intro p t hp _; simp at hp; subst hp; rfl
  | cons h1 h2 ih =>
    intro p t hp hn
    cases p with
    | zero => rfl
    | succ p =>
      have e1 := ih (p := p) (t := t) (by simpa using hp) (fun q r hq hr => hn (q + 1) r (by omega) (by simpa using hr))
      have e2 := h1.get t
      have hne := hn 0 _ (by omega) rfl
      simp only at hne
      rename_i pp _ _ _ _ _ _ _ _ _ _
      have e3 : (tmAt _ _ p).get t = _ := e1
      simp only [tmAt, List.getElem?_cons_succ] at e1 ⊢
      rw [e1, e2]
      unfold putG
      cases hd : pp.o.dst with
      | none => rfl
      | some d =>
        have : ¬ t = d := fun e => hne (by rw [hd, e])
        simp [this]
theorem Passed.wrote {ps : List PR} {tm tmF : T Value} {st stF : St} {rs : List Rec} (h : Passed E sub nt ops ps tm st rs tmF stF) : ∀ {p q : Nat} {r : Rec} {t : Nat}, p ≤ rs.length → q < p → rs[q]? = some r → r.o.dst = some t →
    (∀ (q' : Nat) (r' : Rec), q < q' → q' < p → rs[q']? = some r' → r'.o.dst ≠ some t) → (tmAt rs tmF p).get t = some r.v := by
  induction h with
  | nil => intro p q r t hp hq hr; simp at hr
  | cons h1 h2 ih =>
    intro p q r t hp hq hr hd hn
    cases p with
    | zero => omega
    | succ p =>
      cases q with
      | zero =>
        simp at hr
        subst hr
        have e1 := h2.keep (p := p) (t := t) (by simpa using hp) (fun q r hq hr => hn (q + 1) r (by omega) (by omega) (by simpa using hr))
        have e2 := h1.get t
        simp only at hd
        rw [hd] at e2
        simp only [putG, if_true] at e2
        simp only [tmAt, List.getElem?_cons_succ] at e1 ⊢
        rw [e1, e2]
      | succ q =>
        have e1 := ih (p := p) (q := q) (r := r) (t := t) (by simpa using hp) (by omega) (by simpa using hr) hd (fun q' r' h1 h2 h3 => hn (q' + 1) r' (by omega) (by omega) (by simpa using h3))
        simpa [tmAt] using e1
theorem noEff {ps : List PR} {tm tmF : T Value} {st stF : St} {rs : List Rec} (h : Passed E sub nt ops ps tm st rs tmF stF) {p : Nat} {r : Rec} (hr : rs[p]? = some r) (he : isEff r = false) : stAt rs stF (p + 1) = stAt rs stF p := by
  obtain ⟨_, tm1, h1⟩ := h.at_ hr
  rw [h.succ hr, h1.same (by rw [← isEff_cls]; exact he)]
  simp [stAt, hr]
theorem down {ps : List PR} {tm tmF : T Value} {st stF : St} {rs : List Rec} (h : Passed E sub nt ops ps tm st rs tmF stF) {i : Nat} (hi : i ≤ rs.length) : ∀ (d q : Nat), q + d = i →
    stAt rs stF q = stAt rs stF i ∨ ∃ e r, q ≤ e ∧ e < i ∧ rs[e]? = some r ∧ isEff r = true ∧ stAt rs stF q = r.s1
  | 0, q, hq => by left; rw [show q = i by omega]
  | d + 1, q, hq => by
    have hr : rs[q]? = some (rs[q]'(by omega)) := List.getElem?_eq_getElem (by omega)
    cases he : isEff (rs[q]'(by omega)) with
    | true => exact .inr ⟨q, _, Nat.le_refl _, by omega, hr, he, by simp [stAt, hr]⟩
    | false =>
      rw [← noEff h hr he]
      rcases down h hi d (q + 1) (by omega) with h1 | ⟨e, r, h1, h2, h3⟩
      · exact .inl h1
      · exact .inr ⟨e, r, by omega, h2, h3⟩
theorem up {ps : List PR} {tm tmF : T Value} {st stF : St} {rs : List Rec} (h : Passed E sub nt ops ps tm st rs tmF stF) {i : Nat} : ∀ (d q : Nat), q = i + d → q ≤ rs.length →
    stAt rs stF q = stAt rs stF i ∨ ∃ e r, i ≤ e ∧ e < q ∧ rs[e]? = some r ∧ isEff r = true ∧ stAt rs stF q = r.s2
  | 0, q, hq, _ => by left; rw [hq]; rfl
  | d + 1, q, hq, hle => by
    subst hq
    have hr : rs[i + d]? = some (rs[i + d]'(by omega)) := List.getElem?_eq_getElem (by omega)
    cases he : isEff (rs[i + d]'(by omega)) with
    | true => exact .inr ⟨i + d, _, by omega, by omega, hr, he, h.succ hr⟩
    | false =>
      have := noEff h hr he
      rw [show i + (d + 1) = i + d + 1 by omega, this]
      rcases up h d (i + d) rfl (by omega) with h1 | ⟨e, r, h1, h2, h3⟩
      · exact .inl h1
      · exact .inr ⟨e, r, h1, by omega, h3⟩
end

end Go.Proofs.Ytajkkgibiigioaa.Cx
