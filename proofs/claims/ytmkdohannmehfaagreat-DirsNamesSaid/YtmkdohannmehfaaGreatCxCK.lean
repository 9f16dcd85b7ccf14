/- A closed call, run in parts: at a cut its frames are kept, and of slots and memory what is told; behind it the run goes on from what is told alone. No program of its own. -/
import Derived.Test.YtmkdohannmehfaaGreatCxSN
namespace Go.Proofs.YtmkdohannmehfaaGreat.Cx
open Go Go.RowKit Go.BigFrame Go.ChangeShapes Go.WideShapes Go.ChangeAt

/-- What is told of a block. -/
inductive CO where
  | cells (n : Nat) (e : TypeId) (esz : Nat) (opn : Bool) (fz : Fz) (vs : List Value)
  | map (es : List MapEntry) (c : Nat)
  | umap (es : List (Value × Value))
/-- What is told at a cut: slots of the running frame, of its callers' frames, blocks, the next number, the last one. -/
structure Tgt where
  tm : List (Nat × Value)
  tms : List (List (Nat × Value))
  H : List (Nat × CO)
  c : Nat
  lim : Nat

noncomputable def fzEq : Fz → Fz → Bool
  | .upto a, .upto b => Nat.beq a b
  | .mark, .mark => true
  | .any, .any => true
  | _, _ => false
theorem fzEq_eq {a b : Fz} (h : fzEq a b = true) : a = b := by
  cases a <;> cases b <;> first | rfl | (cases h; done) | exact congrArg _ (Nat.eq_of_beq_eq_true h)
noncomputable def esEq : List MapEntry → List MapEntry → Bool
  | [], [] => true
  | a :: r, b :: s => (valEq FUEL a.key b.key && (valEq FUEL a.val b.val && Nat.beq a.born b.born)) && esEq r s
  | _, _ => false
theorem esEq_eq : ∀ {a b : List MapEntry}, esEq a b = true → a = b
  | [], [], _ => rfl
  | a :: r, b :: s, h => by
    simp only [esEq, Bool.and_eq_true] at h
    obtain ⟨⟨h1, h2, h3⟩, h4⟩ := h
    obtain ⟨k, v, n⟩ := a
    obtain ⟨k', v', n'⟩ := b
    rw [esEq_eq h4, show k = k' from valEq_eq h1, show v = v' from valEq_eq h2, show n = n' from Nat.eq_of_beq_eq_true h3]
  | [], _ :: _, h => by cases h
  | _ :: _, [], h => by cases h
noncomputable def psEq : List (Value × Value) → List (Value × Value) → Bool
  | [], [] => true
  | a :: r, b :: s => (valEq FUEL a.1 b.1 && valEq FUEL a.2 b.2) && psEq r s
  | _, _ => false
theorem psEq_eq : ∀ {a b : List (Value × Value)}, psEq a b = true → a = b
  | [], [], _ => rfl
  | a :: r, b :: s, h => by
    simp only [psEq, Bool.and_eq_true] at h
    obtain ⟨⟨h1, h2⟩, h4⟩ := h
    obtain ⟨k, v⟩ := a
    obtain ⟨k', v'⟩ := b
    rw [psEq_eq h4, show k = k' from valEq_eq h1, show v = v' from valEq_eq h2]
  | [], _ :: _, h => by cases h
  | _ :: _, [], h => by cases h

/-- A block has what is told. -/
noncomputable def covO (co : CO) (o : AObj) : Bool :=
  match co, o with
  | .cells n e esz opn fz vs, .cells n' t e' esz' opn' fz' => Nat.beq n n' && (Nat.beq e e' && (Nat.beq esz esz' && (sameB opn opn' && (fzEq fz fz' && atAll t 0 vs))))
  | .map es c, .obj (.map es' c') => esEq es es'.toList && Nat.beq c c'
  | .umap es, .umap es' => psEq es es'
  | _, _ => false
/-- A block made of what is told. -/
noncomputable def mkO {β : Type} (co : CO) (K : AObj → Option β) : Option β :=
  match co with
  | .cells n e esz opn fz vs => ofList vs 0 .leaf fun t => K (.cells n t e esz opn fz)
  | .map es c => K (.obj (.map es.toArray c))
  | .umap es => K (.umap es)
def COk (co : CO) (o : AObj) : Prop :=
  match co with
  | .cells n e esz opn fz vs => ∃ t : TV, o = .cells n t e esz opn fz ∧ ∀ j, t.get j = vs[j]?
  | .map es c => o = .obj (.map es.toArray c)
  | .umap es => o = .umap es
theorem mkO_ok {β : Type} {co : CO} {K : AObj → Option β} {b : β} (h : mkO co K = some b) : ∃ o, K o = some b ∧ COk co o := by
  cases co with
  | cells n e esz opn fz vs =>
    obtain ⟨t, h1, h2⟩ := ofList_ok (show ofList vs 0 .leaf (fun t => K (.cells n t e esz opn fz)) = some b from h)
    refine ⟨_, h1, t, rfl, fun j => ?_⟩
    rw [h2]
    by_cases hj : 0 ≤ j ∧ j < 0 + vs.length
    · rw [if_pos hj, Nat.sub_zero]
    · rw [if_neg hj, TV.get_leaf, List.getElem?_eq_none (by omega)]
  | map es c => exact ⟨_, h, rfl⟩
  | umap es => exact ⟨_, h, rfl⟩
theorem cov_rel {s : Ren} {l : Loc} {co : CO} {o o1 : AObj} {x : Obj} (h : covO co o = true) (h1 : COk co o1) (hr : ObjR s l o x) : ObjR s l o1 x := by
  cases co with
  | cells n e esz opn fz vs =>
    obtain ⟨t1, rfl, ht1⟩ := h1
    cases o with
    | cells n' t e' esz' opn' fz' =>
      simp only [covO, Bool.and_eq_true] at h
      obtain ⟨a1, a2, a3, a4, a5, a6⟩ := h
      obtain rfl := Nat.eq_of_beq_eq_true a1
      obtain rfl := Nat.eq_of_beq_eq_true a2
      obtain rfl := Nat.eq_of_beq_eq_true a3
      obtain rfl := sameB_eq a4
      obtain rfl := fzEq_eq a5
      cases x with
      | cells c ex p =>
        obtain ⟨r1, r2, r3⟩ := hr
        refine ⟨r1, fun i v hi hv => ?_, r3⟩
        rw [ht1] at hv
        have := atAll_ok a6 i v hv
        rw [Nat.zero_add] at this
        exact r2 i v hi this
      | _ => exact hr.elim
    | _ => cases h
  | map es c =>
    have h1 : o1 = .obj (.map es.toArray c) := h1
    subst h1
    cases o with
    | obj o =>
      cases o with
      | map es' c' =>
        simp only [covO, Bool.and_eq_true] at h
        have e1 : es = es'.toList := esEq_eq h.1
        have e2 := Nat.eq_of_beq_eq_true h.2
        subst e1 e2
        exact hr
      | _ => cases h
    | _ => cases h
  | umap es =>
    have h1 : o1 = .umap es := h1
    subst h1
    cases o with
    | umap es' =>
      have e1 : es = es' := psEq_eq h
      subst e1
      exact hr
    | _ => cases h
theorem cov_ro {co : CO} {o o1 : AObj} (h : covO co o = true) (h1 : COk co o1) (hr : roO o = true) : roO o1 = true := by
  cases co with
  | cells n e esz opn fz vs =>
    obtain ⟨t1, rfl, ht1⟩ := h1
    cases o with
    | cells n' t e' esz' opn' fz' =>
      simp only [covO, Bool.and_eq_true] at h
      have := fzEq_eq h.2.2.2.2.1
      subst this
      exact hr
    | _ => cases h
  | _ =>
    cases o with
    | cells n' t e' esz' opn' fz' => cases h
    | _ => cases hr

/-- A frame with these slots. -/
noncomputable def setTm (a : AF) (tm : TV) : AF :=
  match a with
  | ⟨fn, nt, _, todo, ds, mode, kd, ro⟩ => ⟨fn, nt, tm, todo, ds, mode, kd, ro⟩
noncomputable def bare (a : AF) : AF := setTm a .leaf
noncomputable def bares : List AF → List AF
  | [] => []
  | a :: r => bare a :: bares r
noncomputable def covT (tm : TV) : List (Nat × Value) → Bool
  | [] => true
  | p :: r => match tm.get p.1 with
    | some u => valEq FUEL u p.2 && covT tm r
    | none => false
theorem covT_ok {tm : TV} : ∀ {l : List (Nat × Value)}, covT tm l = true → ∀ j v, (j, v) ∈ l → tm.get j = some v
  | [], _, j, v, h => by simp at h
  | p :: r, h, j, v, hm => by
    unfold covT at h
    split at h
    · rename_i u hu
      simp only [Bool.and_eq_true] at h
      rcases List.mem_cons.1 hm with e | e
      · subst e; rw [hu, valEq_eq h.1]
      · exact covT_ok h.2 j v e
    · cases h
noncomputable def mkT {β : Type} : List (Nat × Value) → TV → (TV → Option β) → Option β
  | [], t, K => K t
  | p :: r, t, K => TV.put (some p.2) FUEL t p.1 fun t => mkT r t K
theorem mkT_ok {β : Type} : ∀ {l : List (Nat × Value)} {t : TV} {K : TV → Option β} {b : β}, mkT l t K = some b → ∃ t', K t' = some b ∧ ∀ j v, t'.get j = some v → (j, v) ∈ l ∨ t.get j = some v
  | [], t, K, b, h => ⟨t, h, fun j v e => .inr e⟩
  | p :: r, t, K, b, h => by
    obtain ⟨t1, h1, g1⟩ := TV.put_some (show TV.put (some p.2) FUEL t p.1 (fun t => mkT r t K) = some b from h)
    obtain ⟨t2, h2, g2⟩ := mkT_ok h1
    refine ⟨t2, h2, fun j v e => ?_⟩
    rcases g2 j v e with a | a
    · exact .inl (List.mem_cons_of_mem _ a)
    · rw [g1] at a
      split at a
      · rename_i hj
        subst hj
        cases a
        exact .inl List.mem_cons_self
      · exact .inr a
noncomputable def covH (st : TH) : List (Nat × CO) → Bool
  | [] => true
  | p :: r => match st.get p.1 with
    | some o => covO p.2 o && covH st r
    | none => false
theorem covH_ok {st : TH} : ∀ {l : List (Nat × CO)}, covH st l = true → ∀ g co, (g, co) ∈ l → ∃ o, st.get g = some o ∧ covO co o = true
  | [], _, j, v, h => by simp at h
  | p :: r, h, j, v, hm => by
    unfold covH at h
    split at h
    · rename_i u hu
      simp only [Bool.and_eq_true] at h
      rcases List.mem_cons.1 hm with e | e
      · subst e; exact ⟨u, hu, h.1⟩
      · exact covH_ok h.2 j v e
    · cases h
noncomputable def mkH {β : Type} : List (Nat × CO) → TH → (TH → Option β) → Option β
  | [], H, K => K H
  | p :: r, H, K => mkO p.2 fun o => TH.put (some o) FUEL H p.1 fun H => mkH r H K
theorem mkH_ok {β : Type} : ∀ {l : List (Nat × CO)} {t : TH} {K : TH → Option β} {b : β}, mkH l t K = some b → ∃ t', K t' = some b ∧ ∀ g o, t'.get g = some o → (∃ co, (g, co) ∈ l ∧ COk co o) ∨ t.get g = some o
  | [], t, K, b, h => ⟨t, h, fun j v e => .inr e⟩
  | p :: r, t, K, b, h => by
    obtain ⟨o, h0, hco⟩ := mkO_ok (show mkO p.2 (fun o => TH.put (some o) FUEL t p.1 fun H => mkH r H K) = some b from h)
    obtain ⟨t1, h1, g1⟩ := TH.put_some h0
    obtain ⟨t2, h2, g2⟩ := mkH_ok h1
    refine ⟨t2, h2, fun j v e => ?_⟩
    rcases g2 j v e with ⟨co, a, a'⟩ | a
    · exact .inl ⟨co, List.mem_cons_of_mem _ a, a'⟩
    · rw [g1] at a
      split at a
      · rename_i hj
        subst hj
        cases a
        exact .inl ⟨p.2, List.mem_cons_self, hco⟩
      · exact .inr a
noncomputable def covCs : List AF → List (List (Nat × Value)) → Bool
  | [], [] => true
  | a :: as, l :: ls => covT a.tm l && covCs as ls
  | _, _ => false
noncomputable def mkCs {β : Type} : List AF → List (List (Nat × Value)) → (List AF → Option β) → Option β
  | [], [], K => K []
  | a :: as, l :: ls, K => mkT l .leaf fun tm => mkCs as ls fun r => K (setTm a tm :: r)
  | _, _, _ => none
/-- A frame made of what is told. -/
def AfI (l : List (Nat × Value)) (a b : AF) : Prop := ∃ tm : TV, b = setTm a tm ∧ ∀ j v, tm.get j = some v → (j, v) ∈ l
inductive AfIs : List (List (Nat × Value)) → List AF → List AF → Prop where
  | nil : AfIs [] [] []
  | cons {l ls a as b bs} : AfI l a b → AfIs ls as bs → AfIs (l :: ls) (a :: as) (b :: bs)
theorem mkCs_ok {β : Type} : ∀ {as : List AF} {ls : List (List (Nat × Value))} {K : List AF → Option β} {b : β}, mkCs as ls K = some b → ∃ bs, K bs = some b ∧ AfIs ls as bs
  | [], [], K, b, h => ⟨[], h, .nil⟩
  | a :: as, l :: ls, K, b, h => by
    obtain ⟨tm, h1, g1⟩ := mkT_ok (show mkT l .leaf (fun tm => mkCs as ls fun r => K (setTm a tm :: r)) = some b from h)
    obtain ⟨bs, h2, g2⟩ := mkCs_ok h1
    refine ⟨_, h2, .cons ⟨tm, rfl, fun j v e => ?_⟩ g2⟩
    rcases g1 j v e with q | q
    · exact q
    · rw [TV.get_leaf] at q; cases q
  | [], _ :: _, _, _, h => by cases h
  | _ :: _, [], _, _, h => by cases h

/-- The end of a part: what is told is there. -/
noncomputable def chk (tg : Tgt) (c : Cf) : Option Fin :=
  bif covT c.fr.tm tg.tm && (covCs c.cs tg.tms && (covH c.st.H tg.H && (Nat.beq tg.c c.st.c && Nat.beq tg.lim c.st.lim))) then some (.cut (bare c.fr) (bares c.cs)) else none
/-- The beginning of the next part. -/
noncomputable def inst {β : Type} (tg : Tgt) (a : AF) (as : List AF) (K : Cf → Option β) : Option β :=
  mkT tg.tm .leaf fun tm => mkCs as tg.tms fun cs => mkH tg.H .leaf fun H => K ⟨setTm a tm, cs, ⟨H, tg.c, tg.lim⟩⟩
structure Inst (tg : Tgt) (a : AF) (as : List AF) (c1 : Cf) : Prop where
  fr : AfI tg.tm a c1.fr
  cs : AfIs tg.tms as c1.cs
  H : ∀ g o, c1.st.H.get g = some o → ∃ co, (g, co) ∈ tg.H ∧ COk co o
  c : c1.st.c = tg.c
  lim : c1.st.lim = tg.lim
theorem inst_ok {β : Type} {tg : Tgt} {a : AF} {as : List AF} {K : Cf → Option β} {b : β} (h : inst tg a as K = some b) : ∃ c1, K c1 = some b ∧ Inst tg a as c1 := by
  unfold inst at h
  obtain ⟨tm, h1, g1⟩ := mkT_ok h
  obtain ⟨cs, h2, g2⟩ := mkCs_ok h1
  obtain ⟨H, h3, g3⟩ := mkH_ok h2
  refine ⟨_, h3, ⟨tm, rfl, fun j v e => ?_⟩, g2, fun g o e => ?_, rfl, rfl⟩
  · rcases g1 j v e with q | q
    · exact q
    · rw [TV.get_leaf] at q; cases q
  · rcases g3 g o e with q | q
    · exact q
    · rw [TH.get_leaf] at q; cases q

theorem frel_set {s : Ren} {a : AF} {tm : TV} {fr : Frame} {l : List (Nat × Value)} (h : FRel s a fr) (hc : covT a.tm l = true) (ht : ∀ j v, tm.get j = some v → (j, v) ∈ l) : FRel s (setTm (bare a) tm) fr := by
  obtain ⟨fn, nt, tm0, todo, ds, mode, kd, ro⟩ := a
  exact ⟨h.fn, h.nt, fun j v e => h.tm j v (covT_ok hc j v (ht j v e)), h.todo, h.defers, h.mode, h.kind, h.round⟩
theorem frels_set {s : Ren} : ∀ {as bs : List AF} {fs : List Frame} {ls : List (List (Nat × Value))}, FRels s as fs → covCs as ls = true → AfIs ls (bares as) bs → FRels s bs fs
  | [], _, _, [], h, _, hi => by
    cases hi
    cases h
    exact .nil
  | a :: as, _, _, l :: ls, h, hc, hi => by
    simp only [covCs, Bool.and_eq_true] at hc
    cases h with
    | cons h1 h2 =>
      cases hi with
      | cons q1 q2 =>
        obtain ⟨tm, rfl, ht⟩ := q1
        exact .cons (frel_set h1 hc.1 ht) (frels_set h2 hc.2 q2)
  | [], _, _, _ :: _, _, hc, _ => by cases hc
  | _ :: _, _, _, [], _, hc, _ => by cases hc
/-- What a part comes to, as the next one begins. -/
theorem cut_rel {E : Env} {s : Ren} {tg : Tgt} {c c1 : Cf} {a : AF} {as : List AF} {fr : Frame} {cs : List Frame} {w : World} (hk : chk tg c = some (.cut a as)) (hi : Inst tg a as c1) (h : CfR E s c fr cs w) :
    CfR E s c1 fr cs w ∧ ∀ g o, c1.st.H.get g = some o → ∃ o', c.st.H.get g = some o' ∧ (roO o' = true → roO o = true) := by
  unfold chk at hk
  cases hb : (covT c.fr.tm tg.tm && (covCs c.cs tg.tms && (covH c.st.H tg.H && (Nat.beq tg.c c.st.c && Nat.beq tg.lim c.st.lim)))) with
  | false => rw [hb] at hk; cases hk
  | true =>
    rw [hb] at hk
    simp only [cond_true, Option.some.injEq, Fin.cut.injEq] at hk
    obtain ⟨rfl, rfl⟩ := hk
    simp only [Bool.and_eq_true] at hb
    obtain ⟨b1, b2, b3, b4, b5⟩ := hb
    have b4 := Nat.eq_of_beq_eq_true b4
    have b5 := Nat.eq_of_beq_eq_true b5
    have hsub : ∀ g o, c1.st.H.get g = some o → ∃ o' co, c.st.H.get g = some o' ∧ covO co o' = true ∧ COk co o := fun g o e => by
      obtain ⟨co, q1, q2⟩ := hi.H g o e
      obtain ⟨o', q3, q4⟩ := covH_ok b3 g co q1
      exact ⟨o', co, q3, q4, q2⟩
    refine ⟨⟨?_, frels_set h.cs b2 hi.cs, ⟨fun g o e => ?_, fun g g' o o' l l' e e' => ?_, fun g hg hl => ?_⟩, h.gl⟩, fun g o e => ?_⟩
    · obtain ⟨tm, e, ht⟩ := hi.fr
      rw [e]
      exact frel_set h.fr b1 ht
    · obtain ⟨o', co, q1, q2, q3⟩ := hsub g o e
      obtain ⟨l, x, r1, r2, r3⟩ := h.mem.at_ g o' q1
      exact ⟨l, x, r1, r2, cov_rel q2 q3 r3⟩
    · obtain ⟨_, _, q1, _⟩ := hsub g o e
      obtain ⟨_, _, q1', _⟩ := hsub g' o' e'
      exact h.mem.inj g g' _ _ l l' q1 q1'
    · rw [hi.c, b4] at hg
      rw [hi.lim, b5] at hl
      exact h.mem.new_ g hg hl
    · obtain ⟨o', co, q1, q2, q3⟩ := hsub g o e
      exact ⟨o', q1, cov_ro q2 q3⟩

/-- What a stretch leaves of the world. -/
structure EvW (s : Ren) (st : St) (w w' : World) : Prop where
  os : w'.os = w.os
  tape : w'.tape = w.tape
  output : w'.output = w.output
  size : w.heap.size ≤ w'.heap.size
  frame : ∀ b, b < w.heap.size → (∀ g o l, st.H.get g = some o → s g = some l → l.blk ≠ b) → w'.heap[b]? = w.heap[b]?
  ro : ∀ g o l, st.H.get g = some o → roO o = true → s g = some l → w'.heap[l.blk]? = w.heap[l.blk]?
theorem Ev.w {s s' : Ren} {st st' : St} {w w' : World} (h : Ev s st w s' st' w') : EvW s st w w' := ⟨h.os, h.tape, h.output, h.size, h.frame, fun g o l a b c => (h.ro g o l a b c).2⟩
theorem EvW.trans {s s1 : Ren} {st st1 st2 : St} {w w1 w2 : World} (h : Ev s st w s1 st1 w1) (hM : Mem s1 st1 w1) (hs : ∀ g o, st2.H.get g = some o → ∃ o', st1.H.get g = some o' ∧ (roO o' = true → roO o = true)) (k : EvW s1 st2 w1 w2) : EvW s st w w2 := by
  refine ⟨k.os.trans h.os, k.tape.trans h.tape, k.output.trans h.output, Nat.le_trans h.size k.size, fun b hb hn => ?_, fun g o l hg hr hl => ?_⟩
  · rw [k.frame b (Nat.lt_of_lt_of_le hb h.size) ?_, h.frame b hb hn]
    intro g o l hg hl he
    obtain ⟨o', hg', _⟩ := hs g o hg
    rcases h.img g o' l hg' hl with h1 | ⟨g0, o0, l0, h1, h2, h3⟩
    · omega
    · exact hn g0 o0 l0 h1 h2 (h3.trans he)
  · obtain ⟨a1, a2⟩ := h.ro g o l hg hr hl
    have hl1 := h.le _ _ hl
    rw [← a2]
    cases hq : st2.H.get g with
    | some o2 =>
      obtain ⟨o', e1, e2⟩ := hs g o2 hq
      rw [a1] at e1
      cases e1
      exact k.ro g o2 l hq (e2 hr) hl1
    | none =>
      refine k.frame l.blk (hM.lt a1 hl1) fun g' o2 l' q1 q2 q3 => ?_
      obtain ⟨o', e1, _⟩ := hs g' o2 q1
      have := hM.inj g' g o' o l' l e1 a1 q2 hl1 q3
      subst this
      rw [hq] at q1
      cases q1

/-- The run up to a cut: so many steps (of whatever calls), then what is to be done there. -/
noncomputable def cutF (E : Env) (N : Nat) (K : Cf → Option Fin) (n : Nat) : Cf → Option Fin :=
  Nat.rec (motive := fun _ => Cf → Option Fin) (fun c => K c) (fun _ ih c => fwd E c fun c => goOn (stepA E (subF E (runF E N)) c) ih) n
theorem sub_ok {E : Env} (hEo : E.Ok) (hmix : E.P.follows .mixedOrders = true) (n : Nat) : SubOk E (subF E (runF E n)) := by
  intro g args st v st' hs s w args' hM hG hA tl
  unfold subF at hs
  split at hs
  · rename_i v0 hkn
    cases hs
    obtain ⟨w', fr', k1, k2, k3, k4, k5⟩ := known_ok hEo hkn hM hG hA tl
    exact ⟨s, w', v, fr', k1, k2, k3, k4, k5⟩
  simp only [retOf] at hs
  split at hs
  · rename_i v0 st0 hen
    cases hs
    obtain ⟨af, h1, h2, h3⟩ := enterA_some (s := s) (args' := args') (by simpa using hA) hen
    obtain ⟨s', fr', w', e, st2, q1, q2, q3, q4, q5, _⟩ := runF_ok hEo hmix n h1 (s := s) (fr := Frame.enter E.P g args' .normal) (cs := []) (w := w) ⟨h2, .nil, hM, hG⟩ tl
    cases e with
    | returned v' =>
      obtain ⟨hv, rfl⟩ := q3
      exact ⟨s', w', v', fr', q1, q2, hv, q4, q5⟩
    | panicked _ => exact q3.elim
    | outgrown => exact q3.elim
  · cases hs
theorem cutF_ok {E : Env} (hEo : E.Ok) (hmix : E.P.follows .mixedOrders = true) {N : Nat} {K : Cf → Option Fin} {a : AF} {as : List AF} : ∀ (n : Nat) {c : Cf}, cutF E N K n c = some (.cut a as) → ∀ {s : Ren} {fr : Frame} {cs : List Frame} {w : World}, CfR E s c fr cs w → ∀ tail,
    ∃ c' s' fr' cs' w', K c' = some (.cut a as) ∧ Steps E.P (lone fr (cs ++ tail) w) (lone fr' (cs' ++ tail) w') ∧ CfR E s' c' fr' cs' w' ∧ Ev s c.st w s' c'.st w' ∧ baseA c' = baseA c
  | 0, c, h, s, fr, cs, w, hR, tail => ⟨c, s, fr, cs, w, h, .refl _ _, hR, .refl _ _ _, rfl⟩
  | n + 1, c0, h, s, fr, cs, w, hR, tail => by
    have h : fwd E c0 (fun c => goOn (stepA E (subF E (runF E N)) c) (cutF E N K n)) = some (.cut a as) := h
    obtain ⟨c, h, hgo⟩ := fwd_ok h
    obtain ⟨s0, fr0, cs0, w0, g1, hR, g3, g4⟩ := goes_ok hEo hmix hgo hR tail
    have hsub := sub_ok hEo hmix N
    unfold goOn at h
    split at h
    · rename_i c' hs
      obtain ⟨s1, fr1, cs1, w1, h1, h2, h3⟩ := stepA_ok (tail := tail) hEo hmix hsub hR hs
      obtain ⟨c2, s2, fr2, cs2, w2, q0, q1, q2, q3, q4⟩ := cutF_ok hEo hmix n h h2 tail
      exact ⟨c2, s2, fr2, cs2, w2, q0, g1.trans (h1.trans q1), q2, g3.trans (h3.trans q3), q4.trans ((stepA_base hs).trans g4)⟩
    · rename_i f' hs
      cases h
      obtain ⟨s2, fr2, w2, e, st2, q1, q2, q3, q4, q5, rfl, rfl⟩ := stepA_ok (tail := tail) hEo hmix hsub hR hs
      cases e <;> exact q3.elim
    · cases h

/-- A configuration from which the run comes to true. -/
def Comes (E : Env) (c : Cf) : Prop := ∀ {s : Ren} {fr : Frame} {cs : List Frame} {w : World}, CfR E s c fr cs w → ∀ tail,
  ∃ fr' w', Steps E.P (lone fr (cs ++ tail) w) (lone fr' tail w') ∧ fr'.leaving E.P w' (.returned (.bool true)) ∧ EvW s c.st w w' ∧ fr'.fn = baseA c
def Tg (E : Env) (tg : Tgt) (a : AF) (as : List AF) : Prop := ∃ c1, Inst tg a as c1 ∧ Comes E c1
theorem lasts {s : Ren} : ∀ {as : List AF} {fs : List Frame}, FRels s as fs → (as.getLast?).map (·.fn) = (fs.getLast?).map (·.fn)
  | [], _, h => by cases h; rfl
  | [a], _, h => by
    cases h with
    | cons h1 h2 => cases h2; simp [h1.fn]
  | a :: b :: as, _, h => by
    cases h with
    | cons h1 h2 =>
      have := lasts h2
      cases h2 with
      | cons h3 h4 =>
        simp only [List.getLast?_cons_cons] at this ⊢
        exact this
theorem base_conc {E : Env} {s : Ren} {c : Cf} {fr : Frame} {cs : List Frame} {w : World} (h : CfR E s c fr cs w) : baseA c = ((cs.getLast?).map (·.fn)).getD fr.fn := by
  rw [← lasts h.cs]
  unfold baseA
  cases c.cs.getLast? with
  | none => exact h.fr.fn.symm
  | some a => rfl
theorem comes_run {E : Env} (hEo : E.Ok) (hmix : E.P.follows .mixedOrders = true) {n : Nat} {c : Cf} {st : St} (h : runF E n c = some (.ret (.bool true) st)) : Comes E c := by
  intro s fr cs w hR tail
  obtain ⟨s', fr', w', e, st', q1, q2, q3, q4, q5, q6⟩ := runF_ok hEo hmix n h hR tail
  cases e with
  | returned v =>
    obtain ⟨hv, _⟩ := q3
    have hvt := bool_of hv
    subst hvt
    exact ⟨fr', w', q1, q2, q5.w, q6⟩
  | panicked _ => exact q3.elim
  | outgrown => exact q3.elim
theorem comes_cut {E : Env} (hEo : E.Ok) (hmix : E.P.follows .mixedOrders = true) {N n : Nat} {c : Cf} {tg : Tgt} {a : AF} {as : List AF} (h : cutF E N (chk tg) n c = some (.cut a as)) (ht : Tg E tg a as) : Comes E c := by
  intro s fr cs w hR tail
  obtain ⟨c', s1, fr1, cs1, w1, h1, h2, h3, h4, h5⟩ := cutF_ok hEo hmix n h hR tail
  obtain ⟨c1, hi, hc⟩ := ht
  obtain ⟨hR1, hsub⟩ := cut_rel h1 hi h3
  obtain ⟨fr2, w2, q1, q2, q3, q4⟩ := hc hR1 tail
  refine ⟨fr2, w2, h2.trans q1, q2, EvW.trans h4 h3.mem hsub q3, ?_⟩
  rw [q4, base_conc hR1, ← base_conc h3, h5]
/-- A part between two cuts. -/
noncomputable def part (E : Env) (N : Nat) (tg : Tgt) (a : AF) (as : List AF) (n : Nat) (tg2 : Tgt) : Option Fin := inst tg a as (cutF E N (chk tg2) n)
theorem tg_cut {E : Env} (hEo : E.Ok) (hmix : E.P.follows .mixedOrders = true) {N n : Nat} {tg tg2 : Tgt} {a a2 : AF} {as as2 : List AF} (h : part E N tg a as n tg2 = some (.cut a2 as2)) (ht : Tg E tg2 a2 as2) : Tg E tg a as := by
  obtain ⟨c1, h1, h2⟩ := inst_ok h
  exact ⟨c1, h2, comes_cut hEo hmix h1 ht⟩
noncomputable def retTrue (r : Option Fin) : Bool :=
  match r with
  | some (.ret (.bool true) _) => true
  | _ => false
theorem retTrue_eq {r : Option Fin} (h : retTrue r = true) : ∃ st, r = some (.ret (.bool true) st) := by
  unfold retTrue at h
  split at h
  · exact ⟨_, rfl⟩
  · cases h
/-- The last part. -/
theorem tg_end {E : Env} (hEo : E.Ok) (hmix : E.P.follows .mixedOrders = true) {N : Nat} {tg : Tgt} {a : AF} {as : List AF} (h : retTrue (inst tg a as (runF E N)) = true) : Tg E tg a as := by
  obtain ⟨st, h0⟩ := retTrue_eq h
  obtain ⟨c1, h1, h2⟩ := inst_ok h0
  exact ⟨c1, h2, comes_run hEo hmix h1⟩

/-- The first part. -/
noncomputable def partS (E : Env) (N : Nat) (tabs snts : List (Nat × List Value)) (f : FuncId) (n : Nat) (tg : Tgt) : Option Fin :=
  bif tabs.all (fun p => Nat.blt p.1 E.ng && p.2.all (plainV FUEL)) && snts.all (fun p => Nat.blt p.1 E.ng) then
    tabsH (snts ++ tabs) fun H => enterA E.P f [] .normal fun fr => cutF E N (chk tg) n ⟨fr, [], stOf E H⟩
  else none
/-- A CLOSED CALL IN PARTS. -/
theorem closedC {E : Env} (hEo : E.Ok) (hmix : E.P.follows .mixedOrders = true) {tabs snts : List (Nat × List Value)} {f : FuncId} {N n : Nat} {tg : Tgt} {a : AF} {as : List AF} (h : partS E N tabs snts f n tg = some (.cut a as)) (ht : Tg E tg a as)
    (W : World) (hT : ∀ p ∈ tabs, Tab W p) (hS : ∀ p ∈ snts, ∀ s, TabR s W p) :
    Calls E.P f #[] W fun e W' => e = .returned (.bool true) ∧ Below W.heap.size W W' := by
  intro cs
  unfold partS at h
  cases hall : (tabs.all (fun p => Nat.blt p.1 E.ng && p.2.all (plainV FUEL)) && snts.all (fun p => Nat.blt p.1 E.ng)) with
  | false => rw [hall] at h; cases h
  | true =>
  rw [hall] at h
  simp only [cond_true] at h
  rw [Bool.and_eq_true] at hall
  let s0 : Ren := fun g => if g < E.ng then some ⟨g, 0⟩ else none
  have hs0 : ∀ g, g < E.ng → s0 g = some ⟨g, 0⟩ := fun g hg => by simp [s0, hg]
  obtain ⟨H, hr, hH⟩ := tabsH_r (s := s0) hs0 (W := W) (fun p hp => by
    rcases List.mem_append.1 hp with hp | hp
    · have := List.all_eq_true.1 hall.2 p hp
      rw [Nat.blt_eq] at this
      exact ⟨this, hS p hp s0⟩
    · have := List.all_eq_true.1 hall.1 p hp
      simp only [Bool.and_eq_true, Nat.blt_eq] at this
      exact ⟨this.1, (hT p hp).r this.2⟩) h
  obtain ⟨af, h1, h2, _⟩ := enterA_some (s := s0) (args' := #[]) VRs.nil hr
  have hM : Mem s0 (stOf E H) W := ⟨fun g o hg => by
      obtain ⟨a, _, x, b, c⟩ := hH g o hg
      exact ⟨⟨g, 0⟩, x, hs0 g a, b, c⟩, fun g g' o o' l l' hg hg' e e' he => by
      have a := hs0 g (hH g o hg).1
      have a' := hs0 g' (hH g' o' hg').1
      cases e.symm.trans a
      cases e'.symm.trans a'
      exact he, fun g hg _ => by
    have : ¬ g < E.ng := by have : E.ng ≤ g := hg; omega
    simp [s0, this]⟩
  obtain ⟨fr', w', q1, q2, q5, q6⟩ := comes_cut hEo hmix h1 ht (s := s0) (fr := Frame.enter E.P f #[] .normal) (cs := []) (w := W) ⟨h2, .nil, hM, fun g hg => hs0 g hg⟩ cs
  refine ⟨.returned (.bool true), w', fr', ⟨rfl, q5.os, q5.tape, q5.output, q5.size, fun k hk => ?_⟩, q1, ?_, q2⟩
  · by_cases hk' : ∃ o, H.get k = some o
    · obtain ⟨o, ho⟩ := hk'
      obtain ⟨a, hro, _⟩ := hH k o ho
      exact q5.ro k o ⟨k, 0⟩ ho hro (hs0 k a)
    · refine q5.frame k hk fun g o l hg e hl => hk' ?_
      have a := hs0 g (hH g o hg).1
      cases e.symm.trans a
      subst hl
      exact ⟨o, hg⟩
  · rw [q6]
    unfold baseA
    have := h2.fn
    simp only [List.getLast?_nil]
    exact this.symm

/-- A piece of a function's body, by the way to it. -/
noncomputable def codeGo : List Nat → Code → Code
  | [], c => c
  | 0 :: r, .seq a _ => codeGo r a
  | 1 :: r, .seq _ b => codeGo r b
  | 0 :: r, .cond _ a _ => codeGo r a
  | 1 :: r, .cond _ _ b => codeGo r b
  | _ :: r, .block _ b => codeGo r b
  | _ :: r, .loop b => codeGo r b
  | _ :: r, .scope b => codeGo r b
  | 0 :: r, .rangeFunc _ _ a _ => codeGo r a
  | _ :: r, .rangeFunc _ _ _ b => codeGo r b
  | _, c => c
noncomputable def codeAt (P : Program) (f : FuncId) (l : List Nat) : Code :=
  match P.funcs[f]? with
  | some fn => match fn.body with
    | some c => codeGo l c
    | none => .skip
  | none => .skip
noncomputable def opsOf (c : Code) : Array Oper :=
  match c with
  | .region _ ops _ => ops
  | _ => #[]
/-- One value so many times, ahead of a list. -/
noncomputable def rpV (v : Value) (n : Nat) (l : List Value) : List Value := Nat.rec l (fun _ ih => v :: ih) n
noncomputable def rpB (b : UInt8) (n : Nat) (l : List UInt8) : List UInt8 := Nat.rec l (fun _ ih => b :: ih) n
end Go.Proofs.YtmkdohannmehfaaGreat.Cx
