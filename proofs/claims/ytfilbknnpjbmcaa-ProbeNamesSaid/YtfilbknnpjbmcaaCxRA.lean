/- A closed call, run: what is known of memory, block by block; an operation that is done by what is known of some blocks leaves what is known of the others. No program of its own. -/
import Derived.Test.YtfilbknnpjbmcaaCxR
namespace Go.Proofs.Ytfilbknnpjbmcaa.Cx
open Go Go.RowKit Go.BigFrame

structure MemF (s : Ren) (h : Nat → Option AObj) (c lim : Nat) (w : World) : Prop where
  at_ : ∀ g o, h g = some o → ∃ l x, s g = some l ∧ w.heap[l.blk]? = some x ∧ ObjR s l o x
  inj : ∀ g g' o o' l l', h g = some o → h g' = some o' → s g = some l → s g' = some l' → l.blk = l'.blk → g = g'
  new_ : ∀ g, c ≤ g → g < lim → s g = none
structure EvF (s : Ren) (st : St) (w : World) (s' : Ren) (h : Nat → Option AObj) (w' : World) : Prop where
  le : s.le s'
  os : w'.os = w.os
  tape : w'.tape = w.tape
  output : w'.output = w.output
  size : w.heap.size ≤ w'.heap.size
  frame : ∀ b, b < w.heap.size → (∀ g o l, st.H.get g = some o → s g = some l → l.blk ≠ b) → w'.heap[b]? = w.heap[b]?
  img : ∀ g o l, h g = some o → s' g = some l → w.heap.size ≤ l.blk ∨ ∃ g0 o0 l0, st.H.get g0 = some o0 ∧ s g0 = some l0 ∧ l0.blk = l.blk
  ids : ∀ g, ¬ (st.c ≤ g ∧ g < st.lim) → s' g = s g
  ro : ∀ g o l, st.H.get g = some o → roO o = true → s g = some l → h g = some o ∧ w'.heap[l.blk]? = w.heap[l.blk]?

theorem MemF.of {s : Ren} {st : St} {w : World} (h : Mem s st w) : MemF s st.H.get st.c st.lim w := ⟨h.at_, h.inj, h.new_⟩
theorem MemF.to {s : Ren} {st : St} {w : World} {f : Nat → Option AObj} {c lim : Nat} (h : MemF s f c lim w) (hf : ∀ g o, st.H.get g = some o → f g = some o) (hn : ∀ g, st.c ≤ g → g < st.lim → s g = none) : Mem s st w :=
  ⟨fun g o hg => h.at_ g o (hf g o hg), fun g g' o o' l l' a b => h.inj g g' o o' l l' (hf _ _ a) (hf _ _ b), hn⟩
theorem MemF.lt {s : Ren} {f : Nat → Option AObj} {c lim : Nat} {w : World} (h : MemF s f c lim w) {g : Nat} {o : AObj} {l : Loc} (hg : f g = some o) (hl : s g = some l) : l.blk < w.heap.size := by
  obtain ⟨l', x, h1, h2, _⟩ := h.at_ g o hg
  cases h1.symm.trans hl
  rcases Nat.lt_or_ge l.blk w.heap.size with h3 | h3
  · exact h3
  · rw [Array.getElem?_eq_none h3] at h2; cases h2
theorem EvF.of {s : Ren} {st : St} {w : World} {s' : Ren} {st' : St} {w' : World} (h : Ev s st w s' st' w') : EvF s st w s' st'.H.get w' :=
  ⟨h.le, h.os, h.tape, h.output, h.size, h.frame, h.img, h.ids, h.ro⟩
theorem EvF.less {s : Ren} {st : St} {w : World} {s' : Ren} {f f' : Nat → Option AObj} {w' : World} (h : EvF s st w s' f w') (hf : ∀ g o, f' g = some o → f g = some o) (hro : ∀ g o, roO o = true → f g = some o → f' g = some o) : EvF s st w s' f' w' :=
  ⟨h.le, h.os, h.tape, h.output, h.size, h.frame, fun g o l hg => h.img g o l (hf g o hg), h.ids, fun g o l hg hr hl => ⟨hro g o hr (h.ro g o l hg hr hl).1, (h.ro g o l hg hr hl).2⟩⟩
theorem EvF.to {s : Ren} {st : St} {w : World} {s' : Ren} {st' : St} {w' : World} (h : EvF s st w s' st'.H.get w') (hc : st.c ≤ st'.c) (hl : st'.lim = st.lim) : Ev s st w s' st' w' :=
  ⟨h.le, h.os, h.tape, h.output, h.size, h.frame, h.img, hc, hl, h.ids, h.ro⟩

/-- An operation done by what is known of some blocks: the others are as they were. -/
theorem MemF.carry {s s' : Ren} {f f' : Nat → Option AObj} {c lim c' lim' : Nat} {w w' : World} {S S' : St} (hM : MemF s f c lim w) (hM' : Mem s' S' w') (hE : Ev s S w s' S' w') (hS : ∀ g o, S.H.get g = some o → f g = some o)
    (hf : ∀ g o, f' g = some o → S'.H.get g = some o ∨ (S.H.get g = none ∧ f g = some o)) (hnew : ∀ g, c' ≤ g → g < lim' → s' g = none) : MemF s' f' c' lim' w' := by
  have stay : ∀ g o, S.H.get g = none → f g = some o → ∃ l x, s g = some l ∧ s' g = some l ∧ w.heap[l.blk]? = some x ∧ w'.heap[l.blk]? = some x ∧ ObjR s l o x := by
    intro g o h1 h2
    obtain ⟨l, x, e1, e2, e3⟩ := hM.at_ g o h2
    refine ⟨l, x, e1, hE.le _ _ e1, e2, ?_, e3⟩
    rw [hE.frame l.blk (hM.lt h2 e1) fun g0 o0 l0 q1 q2 q3 => ?_]
    · exact e2
    · have := hM.inj g0 g o0 o l0 l (hS _ _ q1) h2 q2 e1 q3
      subst this
      rw [h1] at q1
      cases q1
  have mixed : ∀ g g' o o' l l', S'.H.get g = some o → S.H.get g' = none → f g' = some o' → s' g = some l → s' g' = some l' → l.blk = l'.blk → g = g' := by
    intro g g' o o' l l' h1 h2 h3 e1 e2 he
    obtain ⟨l2, x, q1, q2, q3, _⟩ := stay g' o' h2 h3
    cases q2.symm.trans e2
    rcases hE.img g o l h1 e1 with h4 | ⟨g0, o0, l0, h4, h5, h6⟩
    · have := hM.lt h3 q1
      omega
    · have := hM.inj g0 g' o0 o' l0 l' (hS _ _ h4) h3 h5 q1 (h6.trans he)
      subst this
      rw [h2] at h4
      cases h4
  refine ⟨fun g o hg => ?_, fun g g' o o' l l' h1 h2 e1 e2 he => ?_, hnew⟩
  · rcases hf g o hg with h | ⟨h1, h2⟩
    · exact hM'.at_ g o h
    · obtain ⟨l, x, _, q2, _, q4, q5⟩ := stay g o h1 h2
      exact ⟨l, x, q2, q4, q5.mono hE.le⟩
  · rcases hf g o h1 with a | ⟨a1, a2⟩ <;> rcases hf g' o' h2 with b | ⟨b1, b2⟩
    · exact hM'.inj _ _ _ _ _ _ a b e1 e2 he
    · exact mixed g g' o o' l l' a b1 b2 e1 e2 he
    · exact (mixed g' g o' o l' l b a1 a2 e2 e1 he.symm).symm
    · obtain ⟨la, _, p1, p2, _⟩ := stay g o a1 a2
      obtain ⟨lb, _, r1, r2, _⟩ := stay g' o' b1 b2
      cases p2.symm.trans e1
      cases r2.symm.trans e2
      exact hM.inj _ _ _ _ _ _ a2 b2 p1 r1 he
theorem EvF.carry {s0 s s' : Ren} {st : St} {f f' : Nat → Option AObj} {c lim : Nat} {w0 w w' : World} {S S' : St} (h : EvF s0 st w0 s f w) (hM : MemF s f c lim w) (hE : Ev s S w s' S' w') (hS : ∀ g o, S.H.get g = some o → f g = some o)
    (hf : ∀ g o, f' g = some o → S'.H.get g = some o ∨ (S.H.get g = none ∧ f g = some o)) (hids : ∀ g, S.c ≤ g → g < S.lim → st.c ≤ g ∧ g < st.lim ∨ s' g = s g)
    (hro : ∀ g o, roO o = true → f g = some o → f' g = some o) : EvF s0 st w0 s' f' w' := by
  refine ⟨h.le.trans hE.le, hE.os.trans h.os, hE.tape.trans h.tape, hE.output.trans h.output, Nat.le_trans h.size hE.size, fun b hb hn => ?_, fun g o l hg hl => ?_, fun g hg => ?_, fun g o l hg hr hl => ?_⟩
  · rw [hE.frame b (Nat.lt_of_lt_of_le hb h.size) fun g o l q1 q2 q3 => ?_]
    · exact h.frame b hb hn
    · rcases h.img g o l (hS _ _ q1) q2 with a | ⟨g0, o0, l0, a1, a2, a3⟩
      · omega
      · exact hn g0 o0 l0 a1 a2 (a3.trans q3)
  · rcases hf g o hg with a | ⟨a1, a2⟩
    · rcases hE.img g o l a hl with b | ⟨g0, o0, l0, b1, b2, b3⟩
      · exact .inl (Nat.le_trans h.size b)
      · rcases h.img g0 o0 l0 (hS _ _ b1) b2 with d | ⟨g1, o1, l1, d1, d2, d3⟩
        · exact .inl (b3 ▸ d)
        · exact .inr ⟨g1, o1, l1, d1, d2, d3.trans b3⟩
    · obtain ⟨l', _, q1, _⟩ := hM.at_ g o a2
      cases (hE.le _ _ q1).symm.trans hl
      exact h.img g o l a2 q1
  · have e1 := h.ids g hg
    by_cases hin : S.c ≤ g ∧ g < S.lim
    · rcases hids g hin.1 hin.2 with a | a
      · exact absurd a hg
      · rw [a, e1]
    · rw [hE.ids g hin, e1]
  · obtain ⟨a1, a2⟩ := h.ro g o l hg hr hl
    have hl' := h.le _ _ hl
    refine ⟨hro g o hr a1, ?_⟩
    rw [← a2]
    cases hSg : S.H.get g with
    | some o' =>
      have := hS g o' hSg
      rw [a1] at this
      cases this
      exact (hE.ro g o l hSg hr hl').2
    | none =>
      refine hE.frame l.blk (hM.lt a1 hl') fun g0 o0 l0 q1 q2 q3 => ?_
      have := hM.inj g0 g o0 o l0 l (hS _ _ q1) a1 q2 hl' q3
      subst this
      rw [hSg] at q1
      cases q1

end Go.Proofs.Ytfilbknnpjbmcaa.Cx
