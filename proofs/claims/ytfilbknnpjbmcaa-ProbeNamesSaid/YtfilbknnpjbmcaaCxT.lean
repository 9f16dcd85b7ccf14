/- A closed call, run: the model's own steps through a region that draws its order. No program of its own. -/
import Derived.Test.YtfilbknnpjbmcaaCxS
namespace Go.Proofs.Ytfilbknnpjbmcaa.Cx
open Go Go.RowKit Go.BigFrame

section
variable {R : Rg} {s0 s : Ren} {w0 w : World} {D : Nat → Prop} {a : Act}
theorem eff_iff {q i : Nat} (hle : ∀ (e : Nat) r, R.rs[e]? = some r → isEff r = true → (D e ↔ e < q)) {r : Rec} (hr : R.rs[i]? = some r) (hne : isEff r = false) : ∀ (e : Nat) r, R.rs[e]? = some r → isEff r = true → ((D e ∨ e = i) ↔ e < q) := by
  intro e re hre hee
  rw [← hle e re hre hee]
  constructor
  · rintro (h1 | h1)
    · exact h1
    · subst h1; rw [hr] at hre; cases hre; rw [hne] at hee; cases hee
  · exact .inl
theorem Rg.Ok.id_lt (h : R.Ok) {j : Nat} {r : Rec} (hr : R.rs[j]? = some r) (hk : newK r.o.op = true) : R.st.c + r.k < R.st.c + newsOf R.ops := by
  have e1 : r.k = newsIn (R.ops.toList.take j) := preOf_k (h.rec_ hr).1
  have oa : R.ops.toList[j]? = some r.o := by simpa using (h.rec_ hr).2.2
  have := newsIn_lt oa hk
  show R.st.c + r.k < R.st.c + newsIn R.ops.toList
  omega
theorem insKV_cls {E : Env} {r : Rec} (h : r.cls ≠ .ins) : insKV E r = none := by
  unfold insKV
  split
  · rename_i e; exact absurd e h
  · rfl
theorem not_insAt {i : Nat} {r : Rec} (hr : R.rs[i]? = some r) (hc : r.cls ≠ .ins) (g : Nat) : ¬ InsAt R i g := by
  rintro ⟨r', k, v, h1, h2⟩
  rw [hr] at h1
  cases h1
  rw [insKV_cls hc] at h2
  cases h2
theorem Fills.same {f f' : Nat → Option AObj} (h : Fills R D f) {i : Nat} (hi : ∀ g, ¬ InsAt R i g) (hn : ∀ g ob, ¬ NewAt R.rs i g ob) (hf : ∀ g, Sec R g → f' g = f g) : Fills R (fun j => D j ∨ j = i) f' := by
  intro j g ob hj hs
  obtain ⟨h1, h2⟩ := h j g ob hj hs
  have hji : j ≠ i := fun e => hn g ob (e ▸ hj)
  rw [hf g hs]
  refine ⟨fun hd => ?_, fun hd => ?_⟩
  · obtain ⟨L, a1, a2, a3⟩ := h1 (hd.resolve_right hji)
    refine ⟨L, a1, a2, fun x => ?_⟩
    rw [a3]
    constructor
    · rintro ⟨b1, b2⟩; exact ⟨.inl b1, b2⟩
    · rintro ⟨b1, b2⟩
      refine ⟨b1.resolve_right fun e => hi g (e ▸ b2), b2⟩
  · obtain ⟨b1, b2⟩ := h2 fun e => hd (.inl e)
    refine ⟨b1, fun x hx hd' => ?_⟩
    rcases hd' with hd' | hd'
    · exact b2 x hx hd'
    · exact hi g (hd' ▸ hx)
theorem MemF.resp {s : Ren} {f f' : Nat → Option AObj} {c lim : Nat} {w : World} (h : MemF s f c lim w) (hf : ∀ g o', f' g = some o' → ∃ o, f g = some o ∧ ∀ l x, ObjR s l o x → ObjR s l o' x) : MemF s f' c lim w := by
  refine ⟨fun g o hg => ?_, fun g g' o o' l l' a b => ?_, h.new_⟩
  · obtain ⟨o0, h1, h2⟩ := hf g o hg
    obtain ⟨l, x, e1, e2, e3⟩ := h.at_ g o0 h1
    exact ⟨l, x, e1, e2, h2 l x e3⟩
  · obtain ⟨o1, h1, _⟩ := hf g o a
    obtain ⟨o2, h2, _⟩ := hf g' o' b
    exact h.inj g g' o1 o2 l l' h1 h2
theorem EvF.resp {s : Ren} {st : St} {w : World} {s' : Ren} {f f' : Nat → Option AObj} {w' : World} (h : EvF s st w s' f w') (hf : ∀ g o', f' g = some o' → ∃ o, f g = some o) (hro : ∀ g o, roO o = true → f g = some o → f' g = some o) : EvF s st w s' f' w' :=
  ⟨h.le, h.os, h.tape, h.output, h.size, h.frame, fun g o l hg hl => by
    obtain ⟨o0, h0⟩ := hf g o hg
    exact h.img g o0 l h0 hl, h.ids, fun g o l hg hr hl => ⟨hro g o hr (h.ro g o l hg hr hl).1, (h.ro g o l hg hr hl).2⟩⟩
theorem UZ.perm {s : Ren} {es es' : List (Value × Value)} (hp : es.Perm es') : ∀ {p : List MapEntry}, UZ s es p → ∃ p', p.Perm p' ∧ UZ s es' p' := by
  induction hp with
  | nil => intro p h; cases h; exact ⟨[], .refl _, .nil⟩
  | cons x _ ih =>
    intro p h
    cases h with
    | cons h1 h2 h3 =>
      obtain ⟨p', a, b⟩ := ih h3
      exact ⟨_ :: p', .cons _ a, .cons h1 h2 b⟩
  | swap x y l =>
    intro p h
    cases h with
    | cons h1 h2 h3 =>
      cases h3 with
      | cons h4 h5 h6 => exact ⟨_, .swap _ _ _, .cons h4 h5 (.cons h1 h2 h6)⟩
  | trans _ _ ih1 ih2 =>
    intro p h
    obtain ⟨p1, a1, b1⟩ := ih1 h
    obtain ⟨p2, a2, b2⟩ := ih2 b1
    exact ⟨p2, a1.trans a2, b2⟩
theorem UR.perm {s : Ren} {es es' : List (Value × Value)} (hp : es.Perm es') {l : List MapEntry} (h : UR s es l) : UR s es' l := by
  obtain ⟨p, h1, h2⟩ := h
  obtain ⟨p', h3, h4⟩ := h2.perm hp
  exact ⟨p', h1.trans h3, h4⟩
theorem fresh_umap {s : Ren} {l : Loc} {es : Array MapEntry} {c : Nat} {x : Obj} (he : es.size = 0) (h : ObjR s l (.obj (.map es c)) x) : ObjR s l (.umap []) x := by
  have h : OR s (.map es c) x := h
  cases h with
  | map _ es' _ h1 _ =>
    have h2 : es' = #[] := Array.eq_empty_of_size_eq_zero (by omega)
    subst h2
    exact ⟨[], .refl _, .nil⟩
/-- A block that is turned in place, known as it is. -/
theorem MemF.turn {s : Ren} {f : Nat → Option AObj} {c lim : Nat} {w w' : World} {g : Nat} {o o' : AObj} {l : Loc} {x x' : Obj} (hM : MemF s f c lim w) (hl : s g = some l) (hg : f g = some o) (_hx : w.heap[l.blk]? = some x)
    (hw : ∀ k, w'.heap[k]? = if k = l.blk then some x' else w.heap[k]?) (hr : ObjR s l o' x') : MemF s (fun j => if j = g then some o' else f j) c lim w' := by
  refine ⟨fun j q hj => ?_, fun a b o1 o2 l1 l2 ha hb e1 e2 he => ?_, hM.new_⟩
  · by_cases hc : j = g
    · subst hc
      simp only [if_true, Option.some.injEq] at hj
      subst hj
      exact ⟨l, x', hl, by simp [hw], hr⟩
    · simp only [hc, if_false] at hj
      obtain ⟨lj, y, e1, e2, e3⟩ := hM.at_ j q hj
      refine ⟨lj, y, e1, ?_, e3⟩
      rw [hw, if_neg (fun h => hc (hM.inj _ _ _ _ _ _ hj hg e1 hl h))]
      exact e2
  · have key : ∀ a o1, (if a = g then some o' else f a) = some o1 → ∃ o, f a = some o := fun a o1 h => by
      by_cases hc : a = g
      · exact ⟨o, hc ▸ hg⟩
      · simp only [hc, if_false] at h; exact ⟨_, h⟩
    obtain ⟨oa, qa⟩ := key a o1 ha
    obtain ⟨ob, qb⟩ := key b o2 hb
    exact hM.inj a b oa ob l1 l2 qa qb e1 e2 he
theorem EvF.turn {s0 s : Ren} {st : St} {w0 : World} {f : Nat → Option AObj} {c lim : Nat} {w w' : World} {g : Nat} {o o' : AObj} {l : Loc} {x x' : Obj} (hE : EvF s0 st w0 s f w) (hM : MemF s f c lim w) (hl : s g = some l) (hg : f g = some o) (_hx : w.heap[l.blk]? = some x)
    (hw : ∀ k, w'.heap[k]? = if k = l.blk then some x' else w.heap[k]?) (h1 : w'.os = w.os) (h2 : w'.tape = w.tape) (h3 : w'.output = w.output) (hro : roO o = false) : EvF s0 st w0 s (fun j => if j = g then some o' else f j) w' := by
  have hsz : w.heap.size ≤ w'.heap.size := by
    rcases Nat.lt_or_ge w'.heap.size w.heap.size with hlt | hge
    · have := hw w'.heap.size
      rw [Array.getElem?_eq_none (Nat.le_refl _)] at this
      split at this
      · cases this
      · rw [Array.getElem?_eq_getElem hlt] at this; cases this
    · exact hge
  refine ⟨hE.le, h1.trans hE.os, h2.trans hE.tape, h3.trans hE.output, Nat.le_trans hE.size hsz, fun b hb hn => ?_, fun j q lj hj e => ?_, hE.ids, fun j q lj hj hrq e => ?_⟩
  · rw [hw, if_neg]
    · exact hE.frame b hb hn
    · intro he
      rcases hE.img g o l hg hl with q1 | ⟨g0, o0, l0, q1, q2, q3⟩
      · omega
      · exact hn g0 o0 l0 q1 q2 (q3.trans he.symm)
  · by_cases hc : j = g
    · subst hc
      rw [hl] at e
      cases e
      exact hE.img j o l hg hl
    · simp only [hc, if_false] at hj
      exact hE.img j q lj hj e
  · obtain ⟨a1, a2⟩ := hE.ro j q lj hj hrq e
    have hne : j ≠ g := fun h => by
      rw [h, hg] at a1
      cases a1
      rw [hro] at hrq
      cases hrq
    refine ⟨by simp only [hne, if_false]; exact a1, ?_⟩
    rw [hw, if_neg (fun h => hne (hM.inj _ _ _ _ _ _ a1 hg (hE.le _ _ e) hl h))]
    exact a2
/-- An operation that makes nothing and turns nothing. -/
theorem At.quiet (h : R.Ok) {q : Nat} {f : Nat → Option AObj} (hA : At R s0 w0 D q f s w) {i : Nat} {r : Rec} (hr : R.rs[i]? = some r) (hne : isEff r = false) (hnn : ∀ g ob, ¬ NewAt R.rs i g ob) (hni : ∀ g, ¬ InsAt R i g) {S : St} {s' : Ren} {w' : World}
    (hM' : Mem s' S w') (hE : Ev s S w s' S w') (hS : ∀ g o, S.H.get g = some o → f g = some o) (hc : S.c = (stAt R.rs R.stF q).c) (hl : S.lim = (stAt R.rs R.stF q).lim) : At R s0 w0 (fun j => D j ∨ j = i) q f s' w' := by
  have hf : ∀ g o, f g = some o → S.H.get g = some o ∨ (S.H.get g = none ∧ f g = some o) := by
    intro g o hg
    cases hx : S.H.get g with
    | none => exact .inr ⟨rfl, hg⟩
    | some o' =>
      have := hS g o' hx
      rw [hg] at this
      cases this
      exact .inl rfl
  obtain ⟨fh, hk, hfh⟩ := hA.known
  have hkeep : ∀ g, g < R.st.c + newsOf R.ops → s' g = s g := fun g hg => hE.ids g (by have := hk.cnt; omega)
  refine ⟨hA.le, eff_iff hA.eff hr hne, hA.mem.carry hM' hE hS hf (fun g h1 h2 => hM'.new_ g (by omega) (by omega)), hA.ev.carry hA.mem hE hS hf (fun g h1 h2 => .inl ⟨by have := hk.cnt; omega, by have := hk.lim; omega⟩) (fun _ _ _ e => e), ⟨fh, ?_, hfh⟩, hA.sec.same hni hnn fun _ _ => rfl⟩
  refine ⟨hk.old, fun j g ob hn hd hq => hk.done j g ob hn (hd.resolve_right fun e => hnn g ob (e ▸ hn)) hq, fun j g ob hn hd hq => hk.ahead j g ob hn (hd.resolve_right fun e => hnn g ob (e ▸ hn)) hq, fun j g ob hn hd => hk.not j g ob hn fun e => hd (.inl e),
    fun j rj hj hkj hd => ?_, hk.fresh, fun j g ob hn hd hq => hk.first j g ob hn (fun e => hd (.inl e)) hq, hk.cnt, hk.lim⟩
  rw [hkeep _ (h.id_lt hj hkj)]
  exact hk.free j rj hj hkj fun e => hd (.inl e)
/-- An operation that makes a block. -/
theorem At.made (h : R.Ok) {q : Nat} {f : Nat → Option AObj} (hA : At R s0 w0 D q f s w) {i : Nat} {r : Rec} (hr : R.rs[i]? = some r) (hnk : newK r.o.op = true) (hne : isEff r = false) (hnd : ¬ D i) (hni : ∀ g, ¬ InsAt R i g) {S : St} {s' : Ren} {w' : World}
    (hM' : Mem s' S w') (hE : Ev s ⟨.leaf, R.st.c + r.k, R.st.c + r.k + 1⟩ w s' S w') (hnb : r.nb = none ∨ ∃ ob, S.H.get (R.st.c + r.k) = some ob ∧ r.nb = some (R.st.c + r.k, ob)) :
    ∃ f', At R s0 w0 (fun j => D j ∨ j = i) q f' s' w' := by
  obtain ⟨fh, hk, hfh⟩ := hA.known
  have hlt := h.id_lt hr hnk
  have hkeep : ∀ g, g ≠ R.st.c + r.k → s' g = s g := fun g hg => hE.ids g (by simp only; omega)
  have hleaf : ∀ g o, (TH.leaf : TH).get g = some o → f g = some o := fun g o hg => by simp [TH.get_leaf] at hg
  have hnew : ∀ g, (stAt R.rs R.stF q).c ≤ g → g < (stAt R.rs R.stF q).lim → s' g = none := fun g h1 h2 => by
    rw [hkeep g (by have := hk.cnt; omega)]
    exact hA.mem.new_ g h1 h2
  have hids : ∀ g, R.st.c + r.k ≤ g → g < R.st.c + r.k + 1 → R.st.c ≤ g ∧ g < R.st.lim ∨ s' g = s g := fun g h1 h2 => .inl ⟨by omega, by
    have := hk.cnt
    rcases Nat.lt_or_ge g R.st.lim with q1 | q1
    · exact q1
    · have hx := h.room
      omega⟩
  have hother : ∀ (j : Nat) rj, R.rs[j]? = some rj → newK rj.o.op = true → j ≠ i → R.st.c + rj.k ≠ R.st.c + r.k := fun j rj hj hkj hji e => hji (h.k_inj hj hr hkj hnk (by omega))
  have hfree : ∀ (j : Nat) rj, R.rs[j]? = some rj → newK rj.o.op = true → ¬ (D j ∨ j = i) → s' (R.st.c + rj.k) = none := fun j rj hj hkj hd => by
    rw [hkeep _ (hother j rj hj hkj fun e => hd (.inr e))]
    exact hk.free j rj hj hkj fun e => hd (.inl e)
  rcases hnb with hnb | ⟨ob, hob, hnb⟩
  · have hnn : ∀ g ob, ¬ NewAt R.rs i g ob := fun g ob ⟨r', h1, h2⟩ => by rw [hr] at h1; cases h1; rw [hnb] at h2; cases h2
    have hf : ∀ g o, f g = some o → S.H.get g = some o ∨ ((TH.leaf : TH).get g = none ∧ f g = some o) := fun g o hg => .inr ⟨rfl, hg⟩
    refine ⟨f, hA.le, eff_iff hA.eff hr hne, hA.mem.carry hM' hE hleaf hf hnew, hA.ev.carry hA.mem hE hleaf hf hids (fun _ _ _ e => e), ⟨fh, ?_, hfh⟩, hA.sec.same hni hnn fun _ _ => rfl⟩
    exact ⟨hk.old, fun j g ob hn hd hq => hk.done j g ob hn (hd.resolve_right fun e => hnn g ob (e ▸ hn)) hq, fun j g ob hn hd hq => hk.ahead j g ob hn (hd.resolve_right fun e => hnn g ob (e ▸ hn)) hq, fun j g ob hn hd => hk.not j g ob hn fun e => hd (.inl e),
      hfree, hk.fresh, fun j g ob hn hd hq => hk.first j g ob hn (fun e => hd (.inl e)) hq, hk.cnt, hk.lim⟩
  · have hnw : NewAt R.rs i (R.st.c + r.k) ob := ⟨r, hr, hnb⟩
    let f1 : Nat → Option AObj := fun g => if g = R.st.c + r.k then some ob else f g
    let h1 : Nat → Option AObj := fun g => if g = R.st.c + r.k then some ob else fh g
    have hf : ∀ g o, f1 g = some o → S.H.get g = some o ∨ ((TH.leaf : TH).get g = none ∧ f g = some o) := fun g o hg => by
      by_cases hgi : g = R.st.c + r.k
      · simp only [f1, hgi, if_true] at hg
        exact .inl (by rw [hgi, hob]; exact hg)
      · simp only [f1, hgi, if_false] at hg
        exact .inr ⟨rfl, hg⟩
    have hfnone : f (R.st.c + r.k) = none := by
      by_cases hs : Sec R (R.st.c + r.k)
      · exact ((hA.sec i _ ob hnw hs).2 hnd).1
      · rw [hfh _ hs]; exact hk.not i _ ob hnw hnd
    have hne' : ∀ j g ob', NewAt R.rs j g ob' → j ≠ i → h1 g = fh g := fun j g ob' hn hji => by
      have : g ≠ R.st.c + r.k := fun e => hji (h.nb_inj hn (e ▸ hnw)).1
      simp [h1, this]
    have hM1 := hA.mem.carry hM' hE hleaf hf hnew
    have hE1 := hA.ev.carry hA.mem hE hleaf hf hids (fun g o _ hg => by
      have : g ≠ R.st.c + r.k := fun e => by rw [e, hfnone] at hg; cases hg
      simp [f1, this, hg])
    have hK1 : Known R (fun j => D j ∨ j = i) q h1 s' := by
      refine ⟨fun g hg => ?_, fun j g ob' hn hd hq => ?_, fun j g ob' hn hd hq => ?_, fun j g ob' hn hd => ?_, hfree, hk.fresh, fun j g ob hn hd hq => hk.first j g ob hn (fun e => hd (.inl e)) hq, hk.cnt, hk.lim⟩
      · have : g ≠ R.st.c + r.k := fun e => hg i ob (e ▸ hnw)
        simp only [h1, this, if_false]
        exact hk.old g hg
      · by_cases hji : j = i
        · subst hji
          obtain ⟨_, rfl⟩ := h.nb_inj hn (by obtain ⟨r', a1, _, _, a2, a3, _⟩ := h.nb_of hn; rw [hr] at a1; cases a1; rw [← a3] at hnw; exact hnw)
          have hg : g = R.st.c + r.k := by obtain ⟨r', a1, _, _, a2, a3, _⟩ := h.nb_of hn; rw [hr] at a1; cases a1; exact a3
          rw [hk.first j g _ hn hnd hq]
          simp [h1, hg]
        · rw [hne' j g ob' hn hji]
          exact hk.done j g ob' hn (hd.resolve_right hji) hq
      · by_cases hji : j = i
        · subst hji
          have hg : g = R.st.c + r.k := by obtain ⟨r', a1, _, _, a2, a3, _⟩ := h.nb_of hn; rw [hr] at a1; cases a1; exact a3
          subst hg
          obtain ⟨_, rfl⟩ := h.nb_inj hn hnw
          simp [h1]
        · rw [hne' j g ob' hn hji]
          exact hk.ahead j g ob' hn (hd.resolve_right hji) hq
      · rw [hne' j g ob' hn fun e => hd (.inr e)]
        exact hk.not j g ob' hn fun e => hd (.inl e)
    cases hsec : secF R.ops r.o with
    | false =>
      have hns : ¬ Sec R (R.st.c + r.k) := fun hs => by rw [(h.sec_of hnw hr).1 hs] at hsec; cases hsec
      have hk1 : ∀ g, ¬ Sec R g → f1 g = h1 g := fun g hg => by
        by_cases e : g = R.st.c + r.k
        · simp [f1, h1, e]
        · simp only [f1, h1, e, if_false]; exact hfh g hg
      refine ⟨f1, hA.le, eff_iff hA.eff hr hne, hM1, hE1, ⟨h1, hK1, hk1⟩, fun j g ob' hj hs => ?_⟩
      have hgi : g ≠ R.st.c + r.k := fun e => hns (e ▸ hs)
      have hji : j ≠ i := fun e => by subst e; exact hgi (by obtain ⟨r', a1, _, _, _, a3, _⟩ := h.nb_of hj; rw [hr] at a1; cases a1; exact a3)
      obtain ⟨b1, b2⟩ := hA.sec j g ob' hj hs
      have hfg : f1 g = f g := by simp [f1, hgi]
      rw [hfg]
      refine ⟨fun hd => ?_, fun hd => ?_⟩
      · obtain ⟨L, c1, c2, c3⟩ := b1 (hd.resolve_right hji)
        refine ⟨L, c1, c2, fun x => ?_⟩
        rw [c3]
        exact ⟨fun ⟨y1, y2⟩ => ⟨.inl y1, y2⟩, fun ⟨y1, y2⟩ => ⟨y1.resolve_right fun e => hni g (e ▸ y2), y2⟩⟩
      · obtain ⟨c1, c2⟩ := b2 fun e => hd (.inl e)
        exact ⟨c1, fun x hx hd' => hd'.elim (c2 x hx) fun e => hni g (e ▸ hx)⟩
    | true =>
      have hs0 : Sec R (R.st.c + r.k) := (h.sec_of hnw hr).2 hsec
      have hfr : ∃ es c, ob = .obj (.map es c) ∧ es.size = 0 := by
        have h1 := h.ins
        unfold insOk at h1
        have h2 := List.all_eq_true.1 h1 r (List.mem_of_getElem? hr)
        simp only [hsec, hnb, Bool.not_true, Bool.false_or, Bool.and_eq_true] at h2
        have h3 := h2.2
        unfold freshM at h3
        split at h3
        · rename_i heq
          cases heq
          exact ⟨_, _, rfl, Nat.eq_of_beq_eq_true h3⟩
        · cases h3
        · rename_i heq; cases heq
      obtain ⟨es0, c0, rfl, hes⟩ := hfr
      let f2 : Nat → Option AObj := fun g => if g = R.st.c + r.k then some (.umap []) else f g
      have h12 : ∀ g, g ≠ R.st.c + r.k → f2 g = f1 g := fun g hg => by simp [f1, f2, hg]
      have hk2 : ∀ g, ¬ Sec R g → f2 g = h1 g := fun g hg => by
        have e : g ≠ R.st.c + r.k := fun e => hg (e ▸ hs0)
        simp only [f2, h1, e, if_false]; exact hfh g hg
      refine ⟨f2, hA.le, eff_iff hA.eff hr hne, hM1.resp fun g o hg => ?_, hE1.resp (fun g o hg => ?_) fun g o hro hg => ?_, ⟨h1, hK1, hk2⟩, fun j g ob' hj hs => ?_⟩
      · by_cases e : g = R.st.c + r.k
        · simp only [f2, e, if_true, Option.some.injEq] at hg
          subst hg
          exact ⟨.obj (.map es0 c0), by simp [f1, e], fun l x hx => fresh_umap hes hx⟩
        · rw [h12 g e] at hg; exact ⟨o, hg, fun _ _ hx => hx⟩
      · by_cases e : g = R.st.c + r.k
        · exact ⟨.obj (.map es0 c0), by simp [f1, e]⟩
        · rw [h12 g e] at hg; exact ⟨o, hg⟩
      · by_cases e : g = R.st.c + r.k
        · simp only [f1, e, if_true, Option.some.injEq] at hg
          subst hg
          cases hro
        · rw [h12 g e]; exact hg
      · obtain ⟨b1, b2⟩ := hA.sec j g ob' hj hs
        by_cases hji : j = i
        · subst hji
          have hg : g = R.st.c + r.k := by obtain ⟨r', a1, _, _, a2, a3, _⟩ := h.nb_of hj; rw [hr] at a1; cases a1; exact a3
          refine ⟨fun _ => ⟨[], by simp [f2, hg], List.nodup_nil, fun x => ?_⟩, fun hd => absurd (.inr rfl) hd⟩
          constructor
          · intro hx; simp at hx
          · rintro ⟨y1, y2⟩
            rcases y1 with y1 | y1
            · exact absurd y1 ((b2 hnd).2 x y2)
            · exact absurd y2 (y1 ▸ hni g)
        · have hgi : g ≠ R.st.c + r.k := fun e => hji (h.nb_inj hj (e ▸ hnw)).1
          have hfg : f2 g = f g := by simp [f2, hgi]
          rw [hfg]
          refine ⟨fun hd => ?_, fun hd => ?_⟩
          · obtain ⟨L, c1, c2, c3⟩ := b1 (hd.resolve_right hji)
            refine ⟨L, c1, c2, fun x => ?_⟩
            rw [c3]
            exact ⟨fun ⟨y1, y2⟩ => ⟨.inl y1, y2⟩, fun ⟨y1, y2⟩ => ⟨y1.resolve_right fun e => hni g (e ▸ y2), y2⟩⟩
          · obtain ⟨c1, c2⟩ := b2 fun e => hd (.inl e)
            exact ⟨c1, fun x hx hd' => hd'.elim (c2 x hx) fun e => hni g (e ▸ hx)⟩
/-- An effect. -/
theorem At.did (h : R.Ok) {q : Nat} {f : Nat → Option AObj} (hA : At R s0 w0 D q f s w) {i : Nat} {r : Rec} (hr : R.rs[i]? = some r) (hee : isEff r = true) (hnd : ¬ D i) (hm : ∀ j, r.m.testBit j = true → D j) (hqi : q ≤ i) (hni : ∀ g, ¬ InsAt R i g)
    (hno : ∀ (e : Nat) re, q ≤ e → e < i → R.rs[e]? = some re → isEff re = false) {H : TH} (hH : Seen (notAhead r.m r.news) r.s1.H H) {S : St} {s' : Ren} {w' : World} (hB : Back (notAhead r.m r.news) r.s1 S r.s2)
    (hM' : Mem s' S w') (hE : Ev s ⟨H, r.s1.c, r.s1.lim⟩ w s' S w') : ∃ f', At R s0 w0 (fun j => D j ∨ j = i) (i + 1) f' s' w' := by
  obtain ⟨fh, hk, hfh⟩ := hA.known
  have hil : i < R.rs.length := (List.getElem?_eq_some_iff.1 hr).1
  have hsi : stAt R.rs R.stF i = r.s1 := by simp [stAt, hr]
  have hsi' : stAt R.rs R.stF (i + 1) = r.s2 := h.passed.succ hr
  obtain ⟨c1, c2, _⟩ := h.passed.near (i - q) q (by omega) (fun e re a b => hno e re a (by omega))
  rw [show q + (i - q) = i by omega, hsi] at c1 c2
  have hcnt := hk.cnt
  have hlim := hk.lim
  have hids : ∀ j g ob, NewAt R.rs j g ob → j < i → (¬ D j ∨ Sec R g) → g ∈ notAhead r.m r.news := fun j g ob hn hj hd => (h.hidden hr hn hj (h.top hr)).2 (by
    rcases hd with hd | hd
    · left
      cases hb : r.m.testBit j with
      | false => rfl
      | true => exact absurd (hm j hb) hd
    · exact .inr hd)
  have hS : ∀ g o, H.get g = some o → f g = some o := hA.sight h (p := i) (by rw [hsi]; exact hH) (Nat.le_of_lt hil) (.inl ⟨hqi, hno⟩) hids
  have hseen : ∀ g, (∀ j ob, NewAt R.rs j g ob → D j ∧ j < i) → fh g = r.s1.H.get g := fun g hg => by
    have := hk.seen h hqi (Nat.le_of_lt hil) hno hg
    rwa [hsi] at this
  have hunseen : ∀ j g ob, NewAt R.rs j g ob → i ≤ j → r.s1.H.get g = none := fun j g ob hn hj => by
    have := hk.unseen h hqi (Nat.le_of_lt hil) hno hn hj
    rwa [hsi] at this
  have hnot : ∀ j g ob, NewAt R.rs j g ob → j ≠ i := fun j g ob hn e => by
    subst e
    rw [h.nb_eff hn hr] at hee
    cases hee
  obtain ⟨b1, b2, b3⟩ := hB
  have hidden_lt : ∀ j g ob, NewAt R.rs j g ob → g ∈ notAhead r.m r.news → j < i := fun j g ob hn hg => by
    obtain ⟨j', ob', hj', hn'⟩ := h.hidden_new hr hg
    rw [(h.nb_inj hn hn').1]
    exact hj'
  have hkeep : ∀ g, g < R.st.c + newsOf R.ops → s' g = s g := fun g hg => hE.ids g (by simp only; omega)
  -- what was made behind it is not in its sight when it is through
  have hclear : ∀ j g ob, NewAt R.rs j g ob → i < j → S.H.get g = none := by
    intro j g ob hn hj
    cases hx : S.H.get g with
    | none => rfl
    | some o =>
      exfalso
      obtain ⟨rj, a1, a2, _, _, a4, a5⟩ := h.nb_of hn
      obtain ⟨l, x, e1, _, _⟩ := hM'.at_ g o hx
      have hsg : s g = some l := by rw [← hkeep g a5]; exact e1
      by_cases hd : D j
      · obtain ⟨o', hfg⟩ : ∃ o', f g = some o' := by
          by_cases hs : Sec R g
          · obtain ⟨L, hL, _⟩ := (hA.sec j g ob hn hs).1 hd
            exact ⟨_, hL⟩
          · exact ⟨_, (hfh g hs).trans (hk.ahead j g ob hn hd (by omega))⟩
        have hlt := hA.mem.lt hfg hsg
        rcases hE.img g o l hx e1 with q1 | ⟨g0, o0, l0, q1, q2, q3⟩
        · omega
        · have := hA.mem.inj g0 g o0 o' l0 l (hS _ _ q1) hfg q2 hsg q3
          subst this
          have hg := hH g0
          rw [q1] at hg
          split at hg
          · cases hg
          · rw [hunseen j g0 ob hn (by omega)] at hg; cases hg
      · have := hk.free j rj a1 a2 hd
        rw [← a4, hsg] at this
        cases this
  classical
  let f' : Nat → Option AObj := fun g => if ∃ j ob, NewAt R.rs j g ob ∧ ¬ D j then none else if ∃ j ob, NewAt R.rs j g ob ∧ i < j then fh g else r.s2.H.get g
  let f2 : Nat → Option AObj := fun g => if Sec R g then f g else f' g
  have f_undone : ∀ j g ob, NewAt R.rs j g ob → ¬ D j → f' g = none := fun j g ob hn hd => by
    have : ∃ j ob, NewAt R.rs j g ob ∧ ¬ D j := ⟨j, ob, hn, hd⟩
    simp only [f', this, if_true]
  have f_later : ∀ j g ob, NewAt R.rs j g ob → D j → i < j → f' g = fh g := fun j g ob hn hd hj => by
    have n1 : ¬ ∃ j ob, NewAt R.rs j g ob ∧ ¬ D j := fun ⟨j', ob', hn', hd'⟩ => hd' ((h.nb_inj hn' hn).1 ▸ hd)
    have : ∃ j ob, NewAt R.rs j g ob ∧ i < j := ⟨j, ob, hn, hj⟩
    simp only [f', n1, this, if_true, if_false]
  have f_rest : ∀ g, (∀ j ob, NewAt R.rs j g ob → D j ∧ j < i) → f' g = r.s2.H.get g := fun g hg => by
    have n1 : ¬ ∃ j ob, NewAt R.rs j g ob ∧ ¬ D j := fun ⟨j', ob', hn', hd'⟩ => hd' (hg j' ob' hn').1
    have n2 : ¬ ∃ j ob, NewAt R.rs j g ob ∧ i < j := fun ⟨j', ob', hn', hd'⟩ => by have := (hg j' ob' hn').2; omega
    simp only [f', n1, n2, if_false]
  -- which of the three
  have which : ∀ g, (∃ j ob, NewAt R.rs j g ob ∧ ¬ D j) ∨ (∃ j ob, NewAt R.rs j g ob ∧ D j ∧ i < j) ∨ ∀ j ob, NewAt R.rs j g ob → D j ∧ j < i := by
    intro g
    by_cases n1 : ∃ j ob, NewAt R.rs j g ob ∧ ¬ D j
    · exact .inl n1
    · by_cases n2 : ∃ j ob, NewAt R.rs j g ob ∧ i < j
      · obtain ⟨j, ob, a, b⟩ := n2
        exact .inr (.inl ⟨j, ob, a, Classical.byContradiction fun hd => n1 ⟨j, ob, a, hd⟩, b⟩)
      · refine .inr (.inr fun j ob hn => ⟨Classical.byContradiction fun hd => n1 ⟨j, ob, hn, hd⟩, ?_⟩)
        have := hnot j g ob hn
        rcases Nat.lt_or_ge i j with q1 | q1
        · exact absurd ⟨j, ob, hn, q1⟩ n2
        · omega
  have Hget : ∀ g, g ∉ notAhead r.m r.news → H.get g = r.s1.H.get g := fun g hg => by rw [hH g, if_neg hg]
  have Hnone : ∀ g, g ∈ notAhead r.m r.news → H.get g = none := fun g hg => by rw [hH g, if_pos hg]
  have Hsec : ∀ g, Sec R g → H.get g = none := fun g hs => by
    obtain ⟨j, r', ob, s1, s2, _⟩ := hs
    have hn : NewAt R.rs j g ob := ⟨r', s1, s2⟩
    rcases Nat.lt_or_ge j i with q1 | q1
    · exact Hnone g (hids j g ob hn q1 (.inr ⟨j, r', ob, s1, s2, by assumption⟩))
    · rw [hH g]
      split
      · rfl
      · exact hunseen j g ob hn q1
  have hf : ∀ g o, f2 g = some o → S.H.get g = some o ∨ (H.get g = none ∧ f g = some o) := by
    intro g o hg
    by_cases hs : Sec R g
    · simp only [f2, hs, if_true] at hg
      exact .inr ⟨Hsec g hs, hg⟩
    simp only [f2, hs, if_false] at hg
    rw [hfh g hs]
    rcases which g with ⟨j, ob, hn, hd⟩ | ⟨j, ob, hn, hd, hj⟩ | hall
    · rw [f_undone j g ob hn hd] at hg; cases hg
    · rw [f_later j g ob hn hd hj] at hg
      refine .inr ⟨?_, hg⟩
      rw [hH g]
      split
      · rfl
      · exact hunseen j g ob hn (by omega)
    · rw [f_rest g hall, b3] at hg
      split at hg
      · rename_i hid
        exact .inr ⟨Hnone g hid, by rw [hseen g hall]; exact hg⟩
      · exact .inl hg
  have hro : ∀ g o, roO o = true → f g = some o → f2 g = some o := by
    intro g o hr' hg
    by_cases hs : Sec R g
    · simp only [f2, hs, if_true]; exact hg
    simp only [f2, hs, if_false]
    rw [hfh g hs] at hg
    rcases which g with ⟨j, ob, hn, hd⟩ | ⟨j, ob, hn, hd, hj⟩ | hall
    · rw [hk.not j g ob hn hd] at hg; cases hg
    · rw [f_later j g ob hn hd hj]; exact hg
    · rw [f_rest g hall, b3]
      rw [hseen g hall] at hg
      split
      · exact hg
      · rename_i hid
        obtain ⟨l, x, e1, _, _⟩ := hA.mem.at_ g o (by rw [hfh g hs, hseen g hall]; exact hg)
        exact (hE.ro g o l (by show H.get g = _; rw [Hget g hid]; exact hg) hr' e1).1
  have hc2 : (stAt R.rs R.stF (i + 1)).c = S.c := by rw [hsi']; exact b1
  have hl2 : (stAt R.rs R.stF (i + 1)).lim = S.lim := by rw [hsi']; exact b2
  have hcle : r.s1.c ≤ S.c := hE.cle
  have hlimS : S.lim = r.s1.lim := hE.lim
  refine ⟨f2, by omega, fun e re hre hee' => ?_, ?_, ?_, ⟨f', ?_, fun g hs => by simp only [f2, hs, if_false]⟩, hA.sec.same hni (fun g ob hn => hnot i g ob hn rfl) fun g hs => by simp only [f2, hs, if_true]⟩
  · constructor
    · rintro (h1 | h1)
      · have := (hA.eff e re hre hee').1 h1; omega
      · omega
    · intro h1
      by_cases he : e = i
      · exact .inr he
      · refine .inl ((hA.eff e re hre hee').2 ?_)
        rcases Nat.lt_or_ge e q with q1 | q1
        · exact q1
        · rw [hno e re q1 (by omega) hre] at hee'; cases hee'
  · exact hA.mem.carry hM' hE hS hf (fun g g1 g2 => hM'.new_ g (by rw [hc2] at g1; exact g1) (by rw [hl2] at g2; exact g2))
  · exact hA.ev.carry hA.mem hE hS hf (fun g g1 g2 => .inl ⟨by simp only at g1; omega, by simp only at g2; omega⟩) hro
  · refine ⟨fun g hg => ?_, fun j g ob hn hd hj => ?_, fun j g ob hn hd hj => ?_, fun j g ob hn hd => f_undone j g ob hn fun e => hd (.inl e), fun j rj hj hkj hd => ?_, fun p hp j g ob hn hj => ?_, fun j g ob hn hd hj => ?_, ?_, ?_⟩
    · rw [hsi']; exact f_rest g fun j ob hn => absurd hn (hg j ob)
    · rw [hsi']
      have hji := hnot j g ob hn
      exact f_rest g fun j' ob' hn' => by rw [(h.nb_inj hn' hn).1]; exact ⟨hd.resolve_right hji, by omega⟩
    · have hji := hnot j g ob hn
      rw [f_later j g ob hn (hd.resolve_right hji) (by omega)]
      exact hk.ahead j g ob hn (hd.resolve_right hji) (by omega)
    · rw [hkeep _ (h.id_lt hj hkj)]
      exact hk.free j rj hj hkj fun e => hd (.inl e)
    · rcases Nat.lt_or_ge q p with hqp | hqp
      · by_cases hpi : p = i + 1
        · subst hpi
          rw [hsi', b3]
          split
          · rename_i hid
            have := hidden_lt j g ob hn hid
            omega
          · exact hclear j g ob hn (by omega)
        · exact hk.unseen h (Nat.le_of_lt hqp) (by omega) (fun e re a b => hno e re a (by omega)) hn hj
      · exact hk.fresh p hqp j g ob hn hj
    · have hji := hnot j g ob hn
      have hd' : ¬ D j := fun e => hd (.inl e)
      have hlt : j < i := by omega
      rw [hsi', b3, if_pos (hids j g ob hn hlt (.inl hd'))]
      obtain ⟨_, _, n3⟩ := h.passed.near (i - q) q (by omega) (fun e re a b => hno e re a (by omega))
      rw [show q + (i - q) = i by omega, hsi] at n3
      rcases n3 g with ⟨j', ob', _, _, a3, a4⟩ | ⟨a1, a2⟩
      · rw [a4, (h.nb_inj hn a3).2]
      · rw [a2]
        refine hk.first j g ob hn hd' ?_
        rcases Nat.lt_or_ge j q with q1 | q1
        · exact q1
        · exact absurd hn (a1 j ob q1 hlt)
    · rw [hc2]; omega
    · rw [hl2]; omega

/-- What fills a map that the region makes. -/
theorem At.filled (h : R.Ok) {q : Nat} {f : Nat → Option AObj} (hA : At R s0 w0 D q f s w) {i j : Nat} {r : Rec} (hr : R.rs[i]? = some r) (hne : isEff r = false) (hnn : ∀ g ob, ¬ NewAt R.rs i g ob) (hnd : ¬ D i) {g : Nat} {ob : AObj} (hn : NewAt R.rs j g ob) (hs : Sec R g) (hd : D j)
    {k v v' : Value} (hkv : insKV R.E r = some (g, k, v)) {l : Loc} (hl : s g = some l) (hv : VR s v v') {es' : Array MapEntry} {c : Nat} (hx : w.heap[l.blk]? = some (.map es' c)) {w' : World} {k' : Value} (hk' : k' = k)
    (hw : w' = { w with heap := w.heap.setIfInBounds l.blk (.map (es'.push { key := k', val := v', born := c }) (c + 1)) }) :
    ∃ f', At R s0 w0 (fun j => D j ∨ j = i) q f' s w' := by
  obtain ⟨fh, hk, hfh⟩ := hA.known
  obtain ⟨L, hL, hLn, hLm⟩ := (hA.sec j g ob hn hs).1 hd
  have hlt := hA.mem.lt hL hl
  obtain ⟨l0, x0, e1, e2, e3⟩ := hA.mem.at_ g _ hL
  cases e1.symm.trans hl
  rw [hx] at e2
  cases e2
  obtain ⟨p, p1, p2⟩ : UR s (L.map (ent R)) es'.toList := e3
  have hent : ent R i = (k, v) := by simp only [ent, hr, hkv]
  have hgi : InsAt R i g := ⟨r, k, v, hr, hkv⟩
  have hiL : i ∉ L := fun hm => hnd ((hLm i).1 hm).1
  have hheap : ∀ b, w'.heap[b]? = if b = l.blk then some (.map (es'.push { key := k', val := v', born := c }) (c + 1)) else w.heap[b]? := fun b => by
    rw [hw]; exact setObj_heap w l.blk _ hlt b
  have hobj : ObjR s l (.umap ((L ++ [i]).map (ent R))) (.map (es'.push { key := k', val := v', born := c }) (c + 1)) := by
    show UR s _ _
    refine ⟨p ++ [{ key := k', val := v', born := c }], by rw [Array.toList_push]; exact p1.append_right _, ?_⟩
    rw [List.map_append]
    refine p2.append ?_
    simp only [List.map_cons, List.map_nil, hent]
    exact .cons hk' hv .nil
  have hother : ∀ g', g' ≠ g → ¬ InsAt R i g' := fun g' hne' ⟨r', k1, v1, a1, a2⟩ => by
    rw [hr] at a1
    cases a1
    rw [hkv] at a2
    cases a2
    exact hne' rfl
  refine ⟨_, hA.le, eff_iff hA.eff hr hne, hA.mem.turn hl hL hx hheap hobj, hA.ev.turn hA.mem hl hL hx hheap (by rw [hw]) (by rw [hw]) (by rw [hw]) rfl, ⟨fh, ?_, fun g' hs' => ?_⟩, fun j' g' ob' hn' hs' => ?_⟩
  · exact ⟨hk.old, fun j g ob hn hd hq => hk.done j g ob hn (hd.resolve_right fun e => hnn g ob (e ▸ hn)) hq, fun j g ob hn hd hq => hk.ahead j g ob hn (hd.resolve_right fun e => hnn g ob (e ▸ hn)) hq, fun j g ob hn hd => hk.not j g ob hn fun e => hd (.inl e),
      fun j rj hj hkj hd => hk.free j rj hj hkj fun e => hd (.inl e), hk.fresh, fun j g ob hn hd hq => hk.first j g ob hn (fun e => hd (.inl e)) hq, hk.cnt, hk.lim⟩
  · have : g' ≠ g := fun e => hs' (e ▸ hs)
    simp only [this, if_false]
    exact hfh g' hs'
  · have hji : j' ≠ i := fun e => hnn g' ob' (e ▸ hn')
    by_cases hg : g' = g
    · subst hg
      have := (h.nb_inj hn' hn).1
      subst this
      refine ⟨fun _ => ⟨L ++ [i], by simp, ?_, fun x => ?_⟩, fun hd' => absurd (.inl hd) hd'⟩
      · exact List.nodup_append.2 ⟨hLn, by simp, fun a ha b hb => by
          simp only [List.mem_singleton] at hb
          subst hb
          intro e
          subst e
          exact hiL ha⟩
      · rw [List.mem_append, hLm, List.mem_singleton]
        constructor
        · rintro (⟨y1, y2⟩ | y1)
          · exact ⟨.inl y1, y2⟩
          · exact ⟨.inr y1, y1 ▸ hgi⟩
        · rintro ⟨y1 | y1, y2⟩
          · exact .inl ⟨y1, y2⟩
          · exact .inr y1
    · simp only [hg, if_false]
      obtain ⟨b1, b2⟩ := hA.sec j' g' ob' hn' hs'
      have hni := hother g' hg
      refine ⟨fun hd' => ?_, fun hd' => ?_⟩
      · obtain ⟨L', c1, c2, c3⟩ := b1 (hd'.resolve_right hji)
        refine ⟨L', c1, c2, fun x => ?_⟩
        rw [c3]
        exact ⟨fun ⟨y1, y2⟩ => ⟨.inl y1, y2⟩, fun ⟨y1, y2⟩ => ⟨y1.resolve_right fun e => hni (e ▸ y2), y2⟩⟩
      · obtain ⟨c1, c2⟩ := b2 fun e => hd' (.inl e)
        exact ⟨c1, fun x hx hd' => hd'.elim (c2 x hx) fun e => hni (e ▸ hx)⟩
/-- An operation that fills a map, run. -/
theorem Inv.fills (h : R.Ok) (hI : Inv R s0 w0 D a s w) {q : Nat} {f : Nat → Option AObj} (hA : At R s0 w0 D q f s w) {i : Nat} {r : Rec} (hr : R.rs[i]? = some r) (hnd : ¬ D i) (hm : ∀ j, r.m.testBit j = true → D j) (hne : isEff r = false) (hnn : ∀ g ob, ¬ NewAt R.rs i g ob)
    (hc : r.cls = .ins) (hF : insF R.E R.ops.size r.news r.tm r.o.op = true) : ∃ w', (execOp a.eval r.o).run R.E.P w = .ok .skip w' ∧ ∃ f', At R s0 w0 (fun j => D j ∨ j = i) q f' s w' := by
  unfold insF at hF
  split at hF
  · rename_i p hp
    obtain ⟨g, k, v⟩ := p
    have hkv : insKV R.E r = some (g, k, v) := by unfold insKV; rw [hc]; exact hp
    obtain ⟨nw, hnw, hnw2⟩ := List.any_eq_true.1 hF
    simp only [Bool.and_eq_true] at hnw2
    have n1 : nw.1 = R.ops.size := Nat.eq_of_beq_eq_true hnw2.1
    have n2 : nw.2 = g := Nat.eq_of_beq_eq_true hnw2.2
    have hmem := (h.passed.news_at hr nw).1 hnw
    simp only [List.not_mem_nil, false_or] at hmem
    obtain ⟨j, rj, ob, hj, hrj, hnb, hkey⟩ := hmem
    rw [n2] at hnb
    have hnj : NewAt R.rs j g ob := ⟨rj, hrj, hnb⟩
    have hsecj : secF R.ops rj.o = true := by
      cases hx : secF R.ops rj.o with
      | true => rfl
      | false =>
        simp only [keyOf, hx, cond_false] at hkey
        have h1 := (h.rec_ hrj).2.1
        have h2 := (List.getElem?_eq_some_iff.1 hrj).1
        have := h.len
        omega
    have hs : Sec R g := (h.sec_of hnj hrj).2 hsecj
    have hone := List.all_eq_true.1 h.ins r (List.mem_of_getElem? hr)
    simp only [Bool.and_eq_true] at hone
    have hone := hone.1
    unfold insOne at hone
    rw [hkv] at hone
    simp only at hone
    unfold insO at hp
    split at hp
    · rename_i mt mtmp kx vx hop
      split at hp
      · rename_i g' k1 v1 hm1 hk1 hv1
        cases hp
        rw [hop] at hone
        simp only at hone
        split at hone
        · rename_i kt et hu
          split at hone
          · rename_i d hdk
            simp only [Bool.and_eq_true] at hone
            obtain ⟨o1, o2, o3⟩ := hone
            have om : Operand.tmp mtmp ∈ r.o.op.operands := by rw [hop]; simp [Op.operands]
            have okx : kx ∈ r.o.op.operands := by rw [hop]; simp [Op.operands]
            have ovx : vx ∈ r.o.op.operands := by rw [hop]; simp [Op.operands]
            have rm := hI.operand h hr hnd hm om (v := .map (some g)) hm1
            have rk := hI.operand h hr hnd hm okx hk1
            have rv := hI.operand h hr hnd hm ovx hv1
            have hke := plainV_eq o1 rk
            generalize ha : a.eval (.tmp mtmp) = mv at rm
            cases rm with
            | map _ l hl =>
              have hd : D j := Classical.byContradiction fun hnd' => by
                obtain ⟨fh, hk, _⟩ := hA.known
                obtain ⟨r', a1, a2, _, _, a4, _⟩ := h.nb_of hnj
                have := hk.free j r' a1 a2 hnd'
                rw [← a4, hl] at this
                cases this
              obtain ⟨L, hL, hLn, hLm⟩ := (hA.sec j g ob hnj hs).1 hd
              have hlt := hA.mem.lt hL hl
              obtain ⟨l0, x0, e1, e2, e3⟩ := hA.mem.at_ g _ hL
              cases e1.symm.trans hl
              cases x0 with
              | map es' c =>
                obtain ⟨p, p1, p2⟩ : UR s (L.map (ent R)) es'.toList := e3
                have hck' : (Instr.checkKey false 10000 kt (a.eval kx)).run R.E.P w = .ok () w := by
                  cases hx : pureRun R.E.P (Instr.checkKey false 10000 kt k) with
                  | none => rw [hx] at o2; cases o2
                  | some u => rw [hke]; exact pureRun_ok _ hx w
                have hfn : Instr.findNow d (a.eval kx) es'.toList 0 = some none := findNow_none fun e he => by
                  obtain ⟨v0, m1, _⟩ := p2.mem (p1.mem_iff.1 he)
                  obtain ⟨x, hxL, hxe⟩ := List.mem_map.1 m1
                  obtain ⟨hDx, rx, kx', vx', hrx, hkvx⟩ := (hLm x).1 hxL
                  have hxi : x ≠ i := fun e => hnd (e ▸ hDx)
                  have hq := List.all_eq_true.1 o3 rx (List.mem_of_getElem? hrx)
                  unfold insOther at hq
                  rw [hkvx] at hq
                  simp only [Bool.or_eq_true] at hq
                  have hxx : ent R x = (kx', vx') := by simp only [ent, hrx, hkvx]
                  rw [hxx] at hxe
                  cases hxe
                  rcases hq with hq | hq
                  · have h1 := Nat.eq_of_beq_eq_true hq
                    rw [(h.rec_ hrx).2.1, (h.rec_ hr).2.1] at h1
                    exact absurd h1 hxi
                  · simp only [beq_nat, decide_true, Bool.not_true, Bool.false_eq_true, false_or] at hq
                    rw [hke]
                    unfold isNo at hq
                    split at hq
                    · rename_i h1; exact h1
                    · cases hq
                have hget : (getObj l.blk).run R.E.P w = .ok (.map es' c) w := by simp [getObj, Sem.run, e2]
                have hset : (setObj l.blk (.map (es'.push { key := a.eval kx, val := a.eval vx, born := c }) (c + 1))).run R.E.P w = .ok () { w with heap := w.heap.setIfInBounds l.blk (.map (es'.push { key := a.eval kx, val := a.eval vx, born := c }) (c + 1)) } := by
                  simp [setObj, Sem.run, e2]
                refine ⟨_, ?_, hA.filled h hr hne hnn hnd hnj hs hd hkv hl rv e2 hke rfl⟩
                simp only [execOp, hop, ha, Instr.mapUpdate, Sem.run_bind, run_underlying hu, Result.andThen_ok, hget, hck', Instr.findKey, run_underlying hdk, hfn, Sem.run_pure, hset]
              | _ => exact e3.elim
          · cases hone
        · cases hone
      · cases hp
    · cases hp
  · cases hF

/-- One operation that is ready. -/
theorem Inv.step (h : R.Ok) (hI : Inv R s0 w0 D a s w) {i : Nat} (hi : i < R.ops.size) (hnd : ¬ D i) (hm : ∀ x, (preOf R.ops)[i]? = some x → ∀ j, x.m.testBit j = true → D j)
    {O : Array Oper} (hO : O[i]? = R.ops[i]?) (hY : ∀ o tmps, Region.wanted o (yielded O tmps) = Region.wanted o (yielded R.ops tmps)) {b : Frame} (rest : List Nat) (k : List Item) (cs : List Frame) :
    ∃ a' s' w', Steps R.E.P (lone (b.atR a (.inRegion O (i :: rest) :: k)) cs w) (lone (b.atR a' (.inRegion O rest :: k)) cs w') ∧ Inv R s0 w0 (fun j => D j ∨ j = i) a' s' w' ∧ a'.defers = a.defers ∧ s.le s' := by
  have hil : i < R.rs.length := by rw [h.len]; exact hi
  obtain ⟨r, hr⟩ : ∃ r, R.rs[i]? = some r := ⟨_, List.getElem?_eq_getElem hil⟩
  obtain ⟨hpre, hri, hop0⟩ := h.rec_ hr
  have hop : O[i]? = some r.o := hO.trans hop0
  obtain ⟨_, tm1, hone⟩ := h.passed.at_ hr
  have hm' := hm _ hpre
  obtain ⟨q, f, hA⟩ := hI.at_
  have hnb0 : r.nb = none → ∀ g ob, ¬ NewAt R.rs i g ob := fun hn g ob ⟨r', h1, h2⟩ => by rw [hr] at h1; cases h1; rw [hn] at h2; cases h2
  have hnoi : r.cls ≠ .ins → ∀ g, ¬ InsAt R i g := fun hc g => not_insAt hr hc g
  rcases hone.how with ⟨hw, hc, hv, hst, hnb⟩ | ⟨hw, hhow⟩
  · -- not wanted
    have hwant := (hY _ _).trans (wantA_ok' (hI.looks h hr hnd hm') hw)
    have hne : isEff r = false := by rw [isEff_cls, hc]; rfl
    refine ⟨_, s, w, .one (st_skip hop hwant), ?_, put_defers _ _ _, .refl s⟩
    have hM0 : Mem s ⟨.leaf, (stAt R.rs R.stF q).c, (stAt R.rs R.stF q).lim⟩ w := hA.mem.to (fun g o hg => by simp [TH.get_leaf] at hg) hA.mem.new_
    exact hI.next h hr hm' rfl (.refl s) (by rw [hv]; exact undefR) ⟨q, f, hA.quiet h hr hne (hnb0 hnb) (hnoi (by rw [hc]; intro e; cases e)) hM0 (.refl _ _ _) (fun g o hg => by simp [TH.get_leaf] at hg) rfl rfl⟩
  · have hwant := (hY _ _).trans (wantA_ok' (hI.looks h hr hnd hm') hw)
    rcases hhow with ⟨hnk, hc, S, ha, hnb⟩ | ⟨hnk, hc, hF, hv, hst, hnb⟩ | ⟨hnk, hnb, H, hH, hhow⟩
    · -- a new block
      have hne : isEff r = false := by rw [isEff_cls, hc]; rfl
      have hM0 : Mem s ⟨.leaf, R.st.c + r.k, R.st.c + r.k + 1⟩ w := hA.mem.to (fun g o hg => by simp [TH.get_leaf] at hg) (fun g h1 h2 => by
        simp only at h1 h2
        have : g = R.st.c + r.k := by omega
        rw [this]
        obtain ⟨fh, hk, _⟩ := hA.known
        exact hk.free i r hr hnk hnd)
      obtain ⟨s', w', v', h1, h2, h3, h4⟩ := hI.does h hr hnd hm' hM0 ha
      obtain ⟨f', hA'⟩ := hA.made h hr hnk hne hnd (hnoi (by rw [hc]; intro e; cases e)) h3 h4 (by
        rcases hnb with ⟨ob, q1, q2, _⟩ | ⟨q1, _⟩
        · exact .inr ⟨ob, q1, q2⟩
        · exact .inl q1)
      exact ⟨_, s', w', .one (st_val hop hwant h1), hI.next h hr hm' rfl h4.le h2 ⟨q, f', hA'⟩, put_defers _ _ _, h4.le⟩
    · -- what fills a map
      have hne : isEff r = false := by rw [isEff_cls, hc]; rfl
      obtain ⟨w', h1, f', hA'⟩ := hI.fills h hA hr hnd hm' hne (hnb0 hnb) hc hF
      exact ⟨_, s, w', .one (st_skp hop hwant h1), hI.next h hr hm' rfl (.refl s) (by rw [hv]; exact undefR) ⟨q, f', hA'⟩, put_defers _ _ _, .refl s⟩
    · rcases hhow with ⟨S, ha, he, hc, hst⟩ | ⟨hc, S, hB, hhow⟩
      · have hne : isEff r = false := by rw [isEff_cls, hc]; exact he
        have hni : ∀ g, ¬ InsAt R i g := hnoi (by
          rw [hc]
          unfold clsOf
          cases pureK r.o.op <;> cases readK r.o.op <;> cases newK r.o.op <;> (intro e; cases e))
        cases hp : pureK r.o.op with
        | true =>
          obtain ⟨v, e, hall⟩ := pure_same hp ha
          injection e with e1 e2
          subst e1
          have hM0 : Mem s ⟨.leaf, (stAt R.rs R.stF q).c, (stAt R.rs R.stF q).lim⟩ w := hA.mem.to (fun g o hg => by simp [TH.get_leaf] at hg) hA.mem.new_
          obtain ⟨s', w', v', h1, h2, h3, h4⟩ := hI.does h hr hnd hm' hM0 (hall _)
          exact ⟨_, s', w', .one (st_val hop hwant h1), hI.next h hr hm' rfl h4.le h2 ⟨q, f, hA.quiet h hr hne (hnb0 hnb) hni h3 h4 (fun g o hg => by simp [TH.get_leaf] at hg) rfl rfl⟩, put_defers _ _ _, h4.le⟩
        | false =>
          cases hrd : readK r.o.op with
          | true =>
            have hcc : r.cls = .rd := by rw [hc]; simp [clsOf, hp, hrd]
            obtain ⟨S2, S3, hq1, hS, hSc, hSl⟩ := hI.rd h hA hr hnd hm' hcc hH ha
            obtain ⟨v, e⟩ := read_same hrd hq1
            injection e with e1 e2
            subst e2
            have hM0 : Mem s S3 w := hA.mem.to hS (by rw [hSc, hSl]; exact hA.mem.new_)
            obtain ⟨s', w', v', h1, h2, h3, h4⟩ := hI.does h hr hnd hm' hM0 hq1
            exact ⟨_, s', w', .one (st_val hop hwant h1), hI.next h hr hm' rfl h4.le h2 ⟨q, f, hA.quiet h hr hne (hnb0 hnb) hni h3 h4 hS hSc hSl⟩, put_defers _ _ _, h4.le⟩
          | false =>
            have hnk' : newK r.o.op = false := hnk
            exfalso
            have : clsOf r.o.op = .eff := by simp [clsOf, hp, hrd, hnk']
            have he' : isE (clsOf r.o.op) = false := he
            rw [this] at he'
            cases he'
      · have hee : isEff r = true := by rw [isEff_cls, hc]; rfl
        have hni : ∀ g, ¬ InsAt R i g := hnoi (by rw [hc]; intro e; cases e)
        obtain ⟨hqi, hno⟩ := Inv.eff h hA hr hnd hm' hee
        have hsi : stAt R.rs R.stF i = r.s1 := by simp [stAt, hr]
        obtain ⟨c1, c2, _⟩ := h.passed.near (i - q) q (by omega) (fun e re a b => hno e re a (by omega))
        rw [show q + (i - q) = i by omega, hsi] at c1 c2
        have hS : ∀ g o, H.get g = some o → f g = some o := hA.sight h (p := i) (by rw [hsi]; exact hH) (Nat.le_of_lt hil) (.inl ⟨hqi, hno⟩) fun j g ob hn hj hd => (h.hidden hr hn hj (h.top hr)).2 (by
          rcases hd with hd | hd
          · left
            cases hb : r.m.testBit j with
            | false => rfl
            | true => exact absurd (hm' j hb) hd
          · exact .inr hd)
        have hM0 : Mem s ⟨H, r.s1.c, r.s1.lim⟩ w := hA.mem.to hS (by rw [c1, c2]; exact hA.mem.new_)
        rcases hhow with ha | ⟨ha, hv⟩ | ⟨fn, args, S', ha, hs⟩
        · obtain ⟨s', w', v', h1, h2, h3, h4⟩ := hI.does h hr hnd hm' hM0 ha
          obtain ⟨f', hA'⟩ := hA.did h hr hee hnd hm' hqi hni hno hH hB h3 h4
          exact ⟨_, s', w', .one (st_val hop hwant h1), hI.next h hr hm' rfl h4.le h2 ⟨_, f', hA'⟩, put_defers _ _ _, h4.le⟩
        · obtain ⟨s', w', h1, h3, h4⟩ := hI.does h hr hnd hm' hM0 ha
          obtain ⟨f', hA'⟩ := hA.did h hr hee hnd hm' hqi hni hno hH hB h3 h4
          exact ⟨_, s', w', .one (st_skp hop hwant h1), hI.next h hr hm' rfl h4.le (by rw [hv]; exact undefR) ⟨_, f', hA'⟩, put_defers _ _ _, h4.le⟩
        · obtain ⟨s', w', args', h1, h2, h3, h4⟩ := hI.does h hr hnd hm' hM0 ha
          obtain ⟨s2, w2, v', fr', h5, h6, h7, h8, h9⟩ := h.sub fn args S' r.v S hs s' w' args' h3 (hI.gl.mono h4.le) h2 (b.atR a (.inRegion O (i :: rest) :: k) :: cs)
          have hlast := step_leave_returned (c := b.atR a (.inRegion O (i :: rest) :: k)) (cs := cs) h6
          rw [st_finish hop] at hlast
          obtain ⟨f', hA'⟩ := hA.did h hr hee hnd hm' hqi hni hno hH hB h8 (h4.trans h9)
          exact ⟨_, s2, w2, .head (st_enter hop hwant h1) (h5.trans (.one hlast)), hI.next h hr hm' rfl (h4.le.trans h9.le) h7 ⟨_, f', hA'⟩, put_defers _ _ _, h4.le.trans h9.le⟩

theorem Inv.congr {D' : Nat → Prop} (hI : Inv R s0 w0 D a s w) (hD : ∀ i, D' i ↔ D i) : Inv R s0 w0 D' a s w := by
  have : D' = D := funext fun i => propext (hD i)
  rw [this]
  exact hI

/-- Which ones have been done. -/
def Did (listed : Array Bool) (i : Nat) : Prop := listed[i]? = some true
theorem ready_mem {ops : Array Oper} {listed : Array Bool} {i : Nat} (_hl : listed.size = ops.size) (h : i ∈ Region.ready .any ops listed) :
    i < ops.size ∧ ¬ Did listed i ∧ ∀ o, ops[i]? = some o → ∀ e ∈ o.after.toList, Region.binds .any e = true → Did listed e.on := by
  unfold Region.ready at h
  obtain ⟨h1, h2⟩ := List.mem_filter.1 h
  have hi : i < ops.size := List.mem_range.1 h1
  simp only [Bool.and_eq_true, Bool.not_eq_true'] at h2
  refine ⟨hi, fun hd => ?_, fun o ho e he hbe => ?_⟩
  · unfold Did at hd
    rw [Array.getD_eq_getD_getElem?, hd] at h2
    simp at h2
  · have h3 := h2.2
    rw [ho] at h3
    simp only [Option.map_some, Option.getD_some] at h3
    have h4 := Array.all_eq_true_iff_forall_mem.1 h3 e (by simpa using he)
    simp only [hbe, Bool.not_true, Bool.false_or] at h4
    unfold Did
    rw [Array.getD_eq_getD_getElem?] at h4
    cases hx : listed[e.on]? with
    | none => rw [hx] at h4; simp at h4
    | some x => rw [hx] at h4; simp at h4; rw [h4]
theorem ready_of {ops : Array Oper} {listed : Array Bool} {i : Nat} (hi : i < ops.size) (hl : listed.size = ops.size) (hnd : ¬ Did listed i) (h : ∀ o, ops[i]? = some o → ∀ e ∈ o.after.toList, Region.binds .any e = true → Did listed e.on) :
    i ∈ Region.ready .any ops listed := by
  unfold Region.ready
  refine List.mem_filter.2 ⟨List.mem_range.2 hi, ?_⟩
  simp only [Bool.and_eq_true, Bool.not_eq_true']
  refine ⟨?_, ?_⟩
  · rw [Array.getD_eq_getD_getElem?]
    have : listed[i]? = some (listed[i]'(by omega)) := Array.getElem?_eq_getElem (by omega)
    unfold Did at hnd
    rw [this] at hnd ⊢
    simp at hnd ⊢
    exact hnd
  · rw [Array.getElem?_eq_getElem hi]
    simp only [Option.map_some, Option.getD_some]
    refine Array.all_eq_true_iff_forall_mem.2 fun e he => ?_
    cases hb : Region.binds .any e with
    | false => simp
    | true =>
      have := h ops[i] (Array.getElem?_eq_getElem hi) e (by simpa using he) hb
      unfold Did at this
      rw [Array.getD_eq_getD_getElem?, this]
      simp
theorem Inv.mask (_h : R.Ok) (hI : Inv R s0 w0 D a s w) {i : Nat} (he : ∀ o, R.ops[i]? = some o → ∀ e ∈ o.after.toList, Region.binds .any e = true → D e.on) :
    ∀ x, (preOf R.ops)[i]? = some x → ∀ j, x.m.testBit j = true → D j := by
  intro x hx j hj
  obtain ⟨e, h1, h2, h3⟩ := preOf_bit hx hj
  have hd := he x.o (preOf_at hx).2 e h1 h2
  rcases h3 with h3 | ⟨_, y, hy, hyb⟩
  · exact h3 ▸ hd
  · exact hI.closed e.on y hd hy j hyb

theorem lin_eq (ops : Array Oper) (fuel t : Nat) (listed : Array Bool) : Region.linearise.go .any ops (fuel + 1) t listed [] =
    match (Region.ready .any ops listed)[t % (Region.ready .any ops listed).length]? with
    | some i => i :: Region.linearise.go .any ops fuel (t / (Region.ready .any ops listed).length) (listed.setIfInBounds i true) []
    | none => [] := by
  simp only [Region.linearise.go]
  change (match (Region.ready .any ops listed)[t % (Region.ready .any ops listed).length]? with
      | some i => Region.linearise.go .any ops fuel (t / (Region.ready .any ops listed).length) (listed.setIfInBounds i true) [i]
      | none => [].reverse) = _
  cases (Region.ready .any ops listed)[t % (Region.ready .any ops listed).length]? with
  | none => rfl
  | some i =>
    simp only []
    rw [linearise_go_acc]
    rfl

/-- How many are still to be done. -/
def left (n : Nat) (listed : Array Bool) : Nat := ((List.range n).filter fun i => listed.getD i true == false).length
theorem filter_set (listed : Array Bool) {i : Nat} (hi : i < listed.size) (hnd : ¬ Did listed i) : ∀ (l : List Nat), l.Nodup → i ∈ l →
    (l.filter fun j => (listed.setIfInBounds i true).getD j true == false).length + 1 = (l.filter fun j => listed.getD j true == false).length := by
  have hget : ∀ j, (listed.setIfInBounds i true).getD j true = if j = i then true else listed.getD j true := by
    intro j
    rw [Array.getD_eq_getD_getElem?, Array.getD_eq_getD_getElem?]
    by_cases hj : j = i
    · subst hj; simp [hi]
    · rw [Array.getElem?_setIfInBounds_ne (fun e => hj e.symm)]; simp [hj]
  have hfalse : listed.getD i true = false := by
    unfold Did at hnd
    rw [Array.getD_eq_getD_getElem?, Array.getElem?_eq_getElem hi] at *
    simp at hnd ⊢
    exact hnd
  have keep : ∀ (l : List Nat), i ∉ l → (l.filter fun j => (listed.setIfInBounds i true).getD j true == false) = l.filter fun j => listed.getD j true == false := by
    intro l hl
    refine List.filter_congr fun j hj => ?_
    have : j ≠ i := fun e => hl (e ▸ hj)
    rw [hget, if_neg this]
  intro l
  induction l with
  | nil => intro _ h; simp at h
  | cons x l ih =>
    intro hnd' hmem
    obtain ⟨hx, hnl⟩ := List.nodup_cons.1 hnd'
    by_cases hxi : x = i
    · subst hxi
      have e1 : ((listed.setIfInBounds x true).getD x true == false) = false := by rw [hget, if_pos rfl]; rfl
      have e2 : (listed.getD x true == false) = true := by rw [hfalse]; rfl
      rw [List.filter_cons_of_neg (by rw [e1]; simp), List.filter_cons_of_pos (p := fun j => listed.getD j true == false) (a := x) e2, keep l hx]
      rfl
    · have hm : i ∈ l := by
        rcases List.mem_cons.1 hmem with e | e
        · exact absurd e.symm hxi
        · exact e
      have := ih hnl hm
      have e1 : ((listed.setIfInBounds i true).getD x true == false) = (listed.getD x true == false) := by rw [hget, if_neg hxi]
      cases hv : (listed.getD x true == false) with
      | true =>
        rw [List.filter_cons_of_pos (p := fun j => (listed.setIfInBounds i true).getD j true == false) (a := x) (by rw [e1]; exact hv), List.filter_cons_of_pos (p := fun j => listed.getD j true == false) (a := x) hv]
        simp only [List.length_cons]
        omega
      | false =>
        rw [List.filter_cons_of_neg (by rw [e1, hv]; simp), List.filter_cons_of_neg (by rw [hv]; simp)]
        exact this
theorem left_set {n : Nat} {listed : Array Bool} {i : Nat} (hl : listed.size = n) (hi : i < n) (hnd : ¬ Did listed i) : left n (listed.setIfInBounds i true) + 1 = left n listed :=
  filter_set listed (by omega) hnd _ List.nodup_range (List.mem_range.2 hi)
theorem left_pos {n : Nat} {listed : Array Bool} {i : Nat} (hl : listed.size = n) (hi : i < n) (hnd : ¬ Did listed i) : 0 < left n listed := by
  have := left_set hl hi hnd
  omega
/-- All operations, in whatever order they are taken. -/
theorem Inv.all (h : R.Ok) {b : Frame} (k : List Item) (cs : List Frame) : ∀ (fuel t : Nat) (listed : Array Bool) (a : Act) (s : Ren) (w : World), listed.size = R.ops.size → left R.ops.size listed ≤ fuel → Inv R s0 w0 (Did listed) a s w →
    ∃ a' s' w', Steps R.E.P (lone (b.atR a (.inRegion R.ops (Region.linearise.go .any R.ops fuel t listed []) :: k)) cs w) (lone (b.atR a' (.inRegion R.ops [] :: k)) cs w') ∧ Inv R s0 w0 (fun j => j < R.ops.size) a' s' w' ∧ a'.defers = a.defers ∧ s.le s'
  | fuel, t, listed, a, s, w, hl, hf, hI => by
    by_cases hall : ∀ i, i < R.ops.size → Did listed i
    · have hD : Inv R s0 w0 (fun j => j < R.ops.size) a s w := hI.congr fun i => ⟨fun hi => hall i hi, fun hi => by
        unfold Did at hi
        have := (Array.getElem?_eq_some_iff.1 hi).1
        omega⟩
      have hempty : Region.linearise.go .any R.ops fuel t listed [] = [] := by
        cases fuel with
        | zero => simp [Region.linearise.go]
        | succ fuel =>
          rw [lin_eq]
          have hr : Region.ready .any R.ops listed = [] := by
            cases hrr : Region.ready .any R.ops listed with
            | nil => rfl
            | cons x xs =>
              have hx := ready_mem hl (i := x) (by rw [hrr]; simp)
              exact absurd (hall x hx.1) hx.2.1
          rw [hr]
          simp
      rw [hempty]
      exact ⟨a, s, w, .refl _ _, hD, rfl, .refl s⟩
    · -- some is left
      have hex : ∃ i, i < R.ops.size ∧ ¬ Did listed i := Classical.byContradiction fun hn => hall fun i hi => Classical.byContradiction fun hd => hn ⟨i, hi, hd⟩
      have hrdy : Region.ready .any R.ops listed ≠ [] := by
        obtain ⟨i, hi, hnd⟩ := hex
        have key : ∀ i, i < R.ops.size → ¬ Did listed i → ∃ j, j ∈ Region.ready .any R.ops listed := by
          intro i
          induction i using Nat.strongRecOn with
          | _ i ih =>
            intro hi hnd
            by_cases hedge : ∀ o, R.ops[i]? = some o → ∀ e ∈ o.after.toList, Region.binds .any e = true → Did listed e.on
            · exact ⟨i, ready_of hi hl hnd hedge⟩
            · have : ∃ o e, R.ops[i]? = some o ∧ e ∈ o.after.toList ∧ Region.binds .any e = true ∧ ¬ Did listed e.on := Classical.byContradiction fun hn => hedge fun o ho e he hbe => Classical.byContradiction fun hd => hn ⟨o, e, ho, he, hbe, hd⟩
              obtain ⟨o, e, ho, he, hbe, hd⟩ := this
              have hx : (preOf R.ops)[i]? = some ((preOf R.ops)[i]'(by rw [preOf_len]; exact hi)) := List.getElem?_eq_getElem _
              have hoo := (preOf_at hx).2
              rw [ho] at hoo
              cases hoo
              have hlt := h.edge hx he hbe
              exact ih e.on hlt (by omega) hd
        obtain ⟨j, hj⟩ := key i hi hnd
        intro he
        rw [he] at hj
        simp at hj
      match fuel, hf with
      | 0, hf =>
        obtain ⟨i, hi, hnd⟩ := hex
        have := left_pos hl hi hnd
        omega
      | fuel + 1, hf =>
        rw [lin_eq]
        have hlen : 0 < (Region.ready .any R.ops listed).length := List.length_pos_iff.2 hrdy
        have hlt : t % (Region.ready .any R.ops listed).length < (Region.ready .any R.ops listed).length := Nat.mod_lt _ hlen
        rw [List.getElem?_eq_getElem hlt]
        simp only []
        generalize hi' : (Region.ready .any R.ops listed)[t % (Region.ready .any R.ops listed).length] = i
        have hmem : i ∈ Region.ready .any R.ops listed := hi' ▸ List.getElem_mem hlt
        obtain ⟨hi, hnd, hedge⟩ := ready_mem hl hmem
        obtain ⟨a1, s1, w1, h1, h2, h3, h4⟩ := hI.step (b := b) h hi hnd (hI.mask h hedge) (O := R.ops) rfl (fun _ _ => rfl) (Region.linearise.go .any R.ops fuel (t / (Region.ready .any R.ops listed).length) (listed.setIfInBounds i true) []) k cs
        have hD : Inv R s0 w0 (Did (listed.setIfInBounds i true)) a1 s1 w1 := h2.congr fun j => by
          unfold Did
          by_cases hj : j = i
          · subst hj; simp [show j < listed.size by omega]
          · rw [Array.getElem?_setIfInBounds_ne (fun e => hj e.symm)]; simp [hj]
        have hls := left_set hl hi hnd
        obtain ⟨a2, s2, w2, g1, g2, g3, g4⟩ := Inv.all (b := b) h k cs fuel (t / (Region.ready .any R.ops listed).length) (listed.setIfInBounds i true) a1 s1 w1 (by simpa using hl) (by omega) hD
        exact ⟨a2, s2, w2, h1.trans g1, g2, g3.trans h3, h4.trans g4⟩
end

theorem fillT_ok {β : Type} {E : Env} {ops : Array Oper} {rs : List Rec} : ∀ {l : List Rec} {H : TH} {K : TH → Option β} {b : β}, fillT E ops rs l H K = some b →
    ∃ H', K H' = some b ∧ ∀ g, ((∃ r ∈ l, ∃ ob, r.nb = some (g, ob) ∧ secF ops r.o = true) → H'.get g = some (.umap (insOf E g rs))) ∧ ((¬ ∃ r ∈ l, ∃ ob, r.nb = some (g, ob) ∧ secF ops r.o = true) → H'.get g = H.get g)
  | [], H, K, b, h => ⟨H, h, fun g => ⟨fun ⟨r, hr, _⟩ => by simp at hr, fun _ => rfl⟩⟩
  | r :: l, H, K, b, h => by
    unfold fillT at h
    split at h
    · rename_i g0 ob0 hnb
      cases hs : secF ops r.o with
      | true =>
        simp only [hs, cond_true] at h
        obtain ⟨H1, h1, h2⟩ := TH.put_some h
        obtain ⟨H', h3, h4⟩ := fillT_ok h1
        refine ⟨H', h3, fun g => ⟨fun hex => ?_, fun hno => ?_⟩⟩
        · by_cases hl : ∃ r ∈ l, ∃ ob, r.nb = some (g, ob) ∧ secF ops r.o = true
          · exact (h4 g).1 hl
          · rw [(h4 g).2 hl, h2]
            obtain ⟨r', hr', ob, q1, q2⟩ := hex
            rcases List.mem_cons.1 hr' with e | e
            · subst e
              rw [hnb] at q1
              cases q1
              rw [if_pos rfl]
            · exact absurd ⟨r', e, ob, q1, q2⟩ hl
        · rw [(h4 g).2 fun ⟨r', hr', ob, q1, q2⟩ => hno ⟨r', by simp [hr'], ob, q1, q2⟩, h2, if_neg]
          intro e
          subst e
          exact hno ⟨r, by simp, ob0, hnb, hs⟩
      | false =>
        simp only [hs, cond_false] at h
        obtain ⟨H', h3, h4⟩ := fillT_ok h
        refine ⟨H', h3, fun g => ⟨fun ⟨r', hr', ob, q1, q2⟩ => ?_, fun hno => ?_⟩⟩
        · rcases List.mem_cons.1 hr' with e | e
          · subst e; rw [hs] at q2; cases q2
          · exact (h4 g).1 ⟨r', e, ob, q1, q2⟩
        · exact (h4 g).2 fun ⟨r', hr', ob, q1, q2⟩ => hno ⟨r', by simp [hr'], ob, q1, q2⟩
    · rename_i hnb
      obtain ⟨H', h3, h4⟩ := fillT_ok h
      refine ⟨H', h3, fun g => ⟨fun ⟨r', hr', ob, q1, q2⟩ => ?_, fun hno => ?_⟩⟩
      · rcases List.mem_cons.1 hr' with e | e
        · subst e; rw [hnb] at q1; cases q1
        · exact (h4 g).1 ⟨r', e, ob, q1, q2⟩
      · exact (h4 g).2 fun ⟨r', hr', ob, q1, q2⟩ => hno ⟨r', by simp [hr'], ob, q1, q2⟩
/-- What fills a map, in the order of the listing. -/
theorem insOf_perm {R : Rg} {g : Nat} {L : List Nat} (hn : L.Nodup) (hL : ∀ i, i ∈ L ↔ InsAt R i g) : (L.map (ent R)).Perm (insOf R.E g R.rs) := by
  have key : insOf R.E g R.rs = ((List.range R.rs.length).filter fun i => match R.rs[i]? with
      | some r => match insKV R.E r with
        | some p => Nat.beq g p.1
        | none => false
      | none => false).map (ent R) := by
    have gen : ∀ (l pre : List Rec), R.rs = pre ++ l → l.filterMap (fun r => match insKV R.E r with
        | some (g', k, v) => bif Nat.beq g g' then some (k, v) else none
        | none => none) = ((List.range' pre.length l.length).filter fun i => match R.rs[i]? with
      | some r => match insKV R.E r with
        | some p => Nat.beq g p.1
        | none => false
      | none => false).map (ent R) := by
      intro l
      induction l with
      | nil => intro pre _; rfl
      | cons r l ih =>
        intro pre hpre
        have hr : R.rs[pre.length]? = some r := by rw [hpre]; simp
        have ih' := ih (pre ++ [r]) (by rw [hpre]; simp)
        simp only [List.length_append, List.length_cons, List.length_nil, Nat.zero_add] at ih'
        rw [List.length_cons, List.range'_succ]
        cases hkv : insKV R.E r with
        | none =>
          rw [List.filterMap_cons_none (by rw [hkv]), List.filter_cons_of_neg (by rw [hr]; simp [hkv])]
          exact ih'
        | some p =>
          obtain ⟨g', k, v⟩ := p
          cases hb : Nat.beq g g' with
          | false =>
            rw [List.filterMap_cons_none (by simp only [hkv, hb, cond_false]), List.filter_cons_of_neg (by rw [hr]; simp only [hkv, hb]; simp)]
            exact ih'
          | true =>
            rw [List.filterMap_cons_some (b := (k, v)) (by simp only [hkv, hb, cond_true]), List.filter_cons_of_pos (by rw [hr]; simp only [hkv, hb]), List.map_cons, ih']
            congr 1
            simp only [ent, hr, hkv]
    have := gen R.rs [] rfl
    rw [List.range_eq_range']
    exact this
  rw [key]
  refine List.Perm.map _ ?_
  refine (List.perm_ext_iff_of_nodup hn ((List.nodup_range).filter _)).2 fun i => ?_
  rw [hL, List.mem_filter, List.mem_range]
  constructor
  · rintro ⟨r, k, v, h1, h2⟩
    refine ⟨(List.getElem?_eq_some_iff.1 h1).1, ?_⟩
    simp [h1, h2]
  · rintro ⟨_, h2⟩
    split at h2
    · rename_i r hr
      split at h2
      · rename_i p hp
        obtain ⟨g', k, v⟩ := p
        have := Nat.eq_of_beq_eq_true h2
        simp only at this
        subst this
        exact ⟨r, k, v, hr, hp⟩
      · cases h2
    · cases h2
/-- At a region's begin. -/
theorem region_init {E : Env} {sub : Sub} {nt : Nat} {ops : Array Oper} {tm tmF : TV} {st stF : St} {rs : List Rec} (h : Rg.Ok ⟨E, sub, nt, ops, tm, st, rs, tmF, stF⟩) {s : Ren} {w : World} {a : Act} (hM : Mem s st w) (hg : Gl E.ng s) (ht : TmR s tm a.tmps) (hn : a.tmps.size = nt) :
    Inv ⟨E, sub, nt, ops, tm, st, rs, tmF, stF⟩ s w (Did (Array.replicate ops.size false)) a s { w with drawn := w.drawn + 1 } := by
  have hp : Passed E sub nt ops st.c (preOf ops) tm ⟨st.H, st.c + newsOf ops, st.lim⟩ [] rs tmF stF := h.passed
  have hroom : st.c + newsOf ops < st.lim := h.room
  have hno : ∀ i, ¬ Did (Array.replicate ops.size false) i := by
    intro i hi
    unfold Did at hi
    rw [Array.getElem?_replicate] at hi
    split at hi <;> simp at hi
  have hM1 : Mem s st { w with drawn := w.drawn + 1 } := hM.draws rfl
  have h0 : stAt rs stF 0 = ⟨st.H, st.c + newsOf ops, st.lim⟩ := hp.first
  have hnone : ∀ g, st.c ≤ g → g < st.c + newsOf ops → s g = none ∧ st.H.get g = none := fun g h1 h2 => by
    have h3 := hM.new_ g h1 (by omega)
    refine ⟨h3, ?_⟩
    cases hx : st.H.get g with
    | none => rfl
    | some o =>
      obtain ⟨l, _, e, _⟩ := hM.at_ g o hx
      rw [h3] at e
      cases e
  have hnew : ∀ j g ob, NewAt rs j g ob → st.H.get g = none := fun j g ob hn => by
    obtain ⟨r, _, _, _, _, e1, e2⟩ := h.nb_of hn
    simp only at e1 e2
    exact (hnone g (by omega) e2).2
  refine ⟨fun i x hi => absurd hi (hno i), fun i r t hi => absurd hi (hno i), fun t v _ hv => ht t v hv, hn, ⟨0, st.H.get, Nat.zero_le _, fun e r _ _ => ⟨fun hi => absurd hi (hno e), fun hi => absurd hi (Nat.not_lt_zero _)⟩, ?_, ?_, ⟨st.H.get, ?_, fun _ _ => rfl⟩, fun j g ob hn _ => ⟨fun hd => absurd hd (hno j), fun _ => ⟨hnew j g ob hn, fun i _ => hno i⟩⟩⟩, hg⟩
  · simp only [h0]
    exact ⟨hM1.at_, hM1.inj, fun g h1 h2 => hM1.new_ g (by omega) h2⟩
  · exact EvF.of (Ev.draws rfl rfl rfl rfl)
  · refine ⟨fun g _ => by simp only [h0], fun j g ob _ hd => absurd hd (hno j), fun j g ob _ hd => absurd hd (hno j), fun j g ob hn _ => hnew j g ob hn, fun j r hr hk _ => ?_, fun p hp0 j g ob hn _ => ?_, fun j g ob _ _ hj => absurd hj (Nat.not_lt_zero _), ?_, ?_⟩
    · have := h.id_lt hr hk
      simp only at this ⊢
      exact (hnone _ (by omega) this).1
    · have : p = 0 := by omega
      subst this
      simp only [h0]
      exact hnew j g ob hn
    · simp only [h0]; exact Nat.le_refl _
    · simp only [h0]

/-- Behind a region. -/
theorem region_fin {E : Env} {sub : Sub} {nt : Nat} {ops : Array Oper} {tm tmF : TV} {st stF : St} {rs : List Rec} (h : Rg.Ok ⟨E, sub, nt, ops, tm, st, rs, tmF, stF⟩) {HF : TH} (hfill : ∀ g, ((∃ r ∈ rs, ∃ ob, r.nb = some (g, ob) ∧ secF ops r.o = true) → HF.get g = some (.umap (insOf E g rs))) ∧ ((¬ ∃ r ∈ rs, ∃ ob, r.nb = some (g, ob) ∧ secF ops r.o = true) → HF.get g = stF.H.get g)) {s s' : Ren} {w w' : World} {a' : Act}
    (h2 : Inv ⟨E, sub, nt, ops, tm, st, rs, tmF, stF⟩ s w (fun j => j < ops.size) a' s' w') : TmR s' tmF a'.tmps ∧ a'.tmps.size = nt ∧ Mem s' ⟨HF, stF.c, stF.lim⟩ w' ∧ Ev s st w s' ⟨HF, stF.c, stF.lim⟩ w' := by
  have hp : Passed E sub nt ops st.c (preOf ops) tm ⟨st.H, st.c + newsOf ops, st.lim⟩ [] rs tmF stF := h.passed
  obtain ⟨q, f, hA⟩ := h2.at_
  have hlen : rs.length = ops.size := h.len
  have hq : q ≤ rs.length := hA.le
  have hnoe : ∀ (e : Nat) r, q ≤ e → e < rs.length → rs[e]? = some r → isEff r = false := fun e r h5 h6 h7 => by
    cases h8 : isEff r with
    | false => rfl
    | true =>
      have := (hA.eff e r h7 h8).1 (by show e < ops.size; omega)
      omega
  have hend : stAt rs stF rs.length = stF := by simp [stAt]
  obtain ⟨c1, c2, _⟩ := hp.near (rs.length - q) q (by omega) (fun e r x y => hnoe e r x (by omega))
  rw [show q + (rs.length - q) = rs.length by omega, hend] at c1 c2
  obtain ⟨fh, hk, hfh⟩ := hA.known
  have hfq : ∀ g, fh g = stF.H.get g := fun g => by
    have := hk.seen h (p := rs.length) hq (Nat.le_refl _) hnoe (g := g) fun j ob ⟨r, hr, _⟩ => by
      have hj : j < rs.length := (List.getElem?_eq_some_iff.1 hr).1
      exact ⟨by show j < ops.size; omega, hj⟩
    simp only [hend] at this
    exact this
  have hsec : ∀ g, (∃ r ∈ rs, ∃ ob, r.nb = some (g, ob) ∧ secF ops r.o = true) ↔ Sec ⟨E, sub, nt, ops, tm, st, rs, tmF, stF⟩ g := fun g => by
    constructor
    · rintro ⟨r, hr, ob, q1, q2⟩
      obtain ⟨j, hj⟩ := List.getElem?_of_mem hr
      exact ⟨j, r, ob, hj, q1, q2⟩
    · rintro ⟨j, r, ob, hj, q1, q2⟩
      exact ⟨r, List.mem_of_getElem? hj, ob, q1, q2⟩
  have hnos : ∀ g, ¬ Sec ⟨E, sub, nt, ops, tm, st, rs, tmF, stF⟩ g → HF.get g = f g := fun g hs => by
    rw [(hfill g).2 (fun hx => hs ((hsec g).1 hx)), hfh g hs, hfq g]
  have hyes : ∀ g, Sec ⟨E, sub, nt, ops, tm, st, rs, tmF, stF⟩ g → HF.get g = some (.umap (insOf E g rs)) ∧ ∃ L : List (Value × Value), f g = some (.umap L) ∧ L.Perm (insOf E g rs) := fun g hs => by
    refine ⟨(hfill g).1 ((hsec g).2 hs), ?_⟩
    have hs' := hs
    obtain ⟨j, r, ob, hj, q1, q2⟩ := hs'
    have hjl : j < rs.length := (List.getElem?_eq_some_iff.1 hj).1
    obtain ⟨L, c1, c2, c3⟩ := (hA.sec j g ob ⟨r, hj, q1⟩ hs).1 (by show j < ops.size; omega)
    refine ⟨_, c1, insOf_perm (R := ⟨E, sub, nt, ops, tm, st, rs, tmF, stF⟩) c2 fun i => ?_⟩
    rw [c3]
    constructor
    · exact fun hx => hx.2
    · intro hx
      refine ⟨?_, hx⟩
      obtain ⟨r', _, _, hr', _⟩ := hx
      have : i < rs.length := (List.getElem?_eq_some_iff.1 hr').1
      show i < ops.size
      omega
  have hMF : MemF s' HF.get (stAt rs stF q).c (stAt rs stF q).lim w' := hA.mem.resp fun g o hg => by
    by_cases hs : Sec ⟨E, sub, nt, ops, tm, st, rs, tmF, stF⟩ g
    · obtain ⟨y1, L, y2, y3⟩ := hyes g hs
      rw [y1] at hg
      cases hg
      refine ⟨_, y2, fun l x hx => ?_⟩
      cases x with
      | map es' c => exact UR.perm y3 hx
      | _ => exact hx.elim
    · rw [hnos g hs] at hg
      exact ⟨o, hg, fun _ _ hx => hx⟩
  have hEF : EvF s st w s' HF.get w' := hA.ev.resp (fun g o hg => by
    by_cases hs : Sec ⟨E, sub, nt, ops, tm, st, rs, tmF, stF⟩ g
    · obtain ⟨_, L, y2, _⟩ := hyes g hs
      exact ⟨_, y2⟩
    · rw [hnos g hs] at hg
      exact ⟨o, hg⟩) fun g o hro hg => by
    by_cases hs : Sec ⟨E, sub, nt, ops, tm, st, rs, tmF, stF⟩ g
    · obtain ⟨_, L, y2, _⟩ := hyes g hs
      rw [y2] at hg
      cases hg
      cases hro
    · rw [hnos g hs]; exact hg
  have hMq : Mem s' ⟨HF, stF.c, stF.lim⟩ w' := hMF.to (fun g o hg => hg) (by rw [c1, c2]; exact hA.mem.new_)
  have hEq : Ev s st w s' ⟨HF, stF.c, stF.lim⟩ w' := hEF.to (by show st.c ≤ stF.c; rw [c1]; exact Nat.le_trans (Nat.le_add_right _ _) hk.cnt) (by show stF.lim = st.lim; rw [c2]; exact hk.lim)
  refine ⟨fun t v hv => ?_, h2.size, hMq, hEq⟩
  have htf : tmAt rs tmF rs.length = tmF := by simp [tmAt]
  by_cases hex : ∃ (i : Nat) (r : Rec), rs[i]? = some r ∧ r.o.dst = some t
  · obtain ⟨i, r, hr, hd⟩ := hex
    have hil : i < rs.length := (List.getElem?_eq_some_iff.1 hr).1
    have hw := hp.wrote (p := rs.length) (Nat.le_refl _) hil hr hd (fun q' r' g1 _ g3 => h.dst_ne hr g3 (by omega) hd)
    rw [htf, hv] at hw
    cases hw
    exact h2.done i r t (by have := h.len; simp only at this ⊢; omega) hr hd
  · have hk := hp.keep (p := rs.length) (t := t) (Nat.le_refl _) (fun q r _ hr hd => hex ⟨q, r, hr, hd⟩)
    rw [htf, hv] at hk
    exact h2.rest t v (fun i r _ hr hd => hex ⟨i, r, hr, hd⟩) hk.symm

theorem left_init (ops : Array Oper) : left ops.size (Array.replicate ops.size false) ≤ ops.size := by
  unfold left
  calc _ ≤ (List.range ops.size).length := List.length_filter_le _ _
    _ = ops.size := List.length_range
/-- A region that draws its order. -/
theorem region_draw {E : Env} {sub : Sub} {nt : Nat} {ops : Array Oper} {tm tmF : TV} {st stF : St} {rs : List Rec} (hE : E.Ok) (hsub : SubOk E sub) (hmix : E.P.follows .mixedOrders = true) (hreg : regOk ops = true) (hroom : st.c + newsOf ops < st.lim)
    (hp : Passed E sub nt ops st.c (preOf ops) tm ⟨st.H, st.c + newsOf ops, st.lim⟩ [] rs tmF stF) (hc : checkAll E rs = true) (hins : insOk E ops rs = true) {HF : TH} (hfill : ∀ g, ((∃ r ∈ rs, ∃ ob, r.nb = some (g, ob) ∧ secF ops r.o = true) → HF.get g = some (.umap (insOf E g rs))) ∧ ((¬ ∃ r ∈ rs, ∃ ob, r.nb = some (g, ob) ∧ secF ops r.o = true) → HF.get g = stF.H.get g)) {s : Ren} {w : World} {a : Act} (hM : Mem s st w) (hg : Gl E.ng s) (ht : TmR s tm a.tmps) (hn : a.tmps.size = nt)
    {b : Frame} (id : Nat) (k : List Item) (cs : List Frame) :
    ∃ a' s' w', Steps E.P (lone (b.atR a (.code (.region id ops true) :: k)) cs w) (lone (b.atR a' k) cs w') ∧ TmR s' tmF a'.tmps ∧ a'.tmps.size = nt ∧ a'.defers = a.defers ∧ Mem s' ⟨HF, stF.c, stF.lim⟩ w' ∧ Ev s st w s' ⟨HF, stF.c, stF.lim⟩ w' := by
  have h : Rg.Ok ⟨E, sub, nt, ops, tm, st, rs, tmF, stF⟩ := ⟨hE, hsub, hreg, hp, hc, hroom, hins⟩
  obtain ⟨a', s', w', h1, h2, h3, h4⟩ := Inv.all (b := b) h k cs ops.size (w.tape w.drawn (.order b.fn id)) (Array.replicate ops.size false) a s _ (by simp) (left_init ops) (region_init h hM hg ht hn)
  obtain ⟨g1, g2, g3, g4⟩ := region_fin h hfill h2
  refine ⟨a', s', w', ?_, g1, g2, h3, g3, g4⟩
  refine .head (stepR_region_draw) ?_
  have hsched : Region.schedule (E.P.follows .mixedOrders) ops (w.tape w.drawn (.order b.fn id)) = Region.linearise.go .any ops ops.size (w.tape w.drawn (.order b.fn id)) (Array.replicate ops.size false) [] := by
    simp only [Region.schedule, hmix, Bool.true_or, if_true]
    rfl
  rw [hsched]
  exact h1.trans (.one stepR_region_end)

end Go.Proofs.Ytfilbknnpjbmcaa.Cx
