/- A closed call, run: memory with numbers of its own, and when it stands for the model's. No program. -/
import Derived.Test.YtajkkgibiigioaaCxA
import Derived.Laws.Rows
namespace Go.Proofs.Ytajkkgibiigioaa.Cx
open Go Go.RowKit

/-- How far a block may be shared by strings: cells from k on are not; or just the mark behind its end. -/
inductive Fz where
  | upto (k : Nat)
  | mark
inductive AObj where
  | cells (n : Nat) (t : T Value) (e : TypeId) (esz : Nat) (opn : Bool) (fz : Fz)
  | obj (o : Obj)
structure St where
  H : T AObj
  c : Nat
  lim : Nat

noncomputable def FzR (fz : Fz) (size : Nat) (p : Nat × Nat) : Prop :=
  match fz with
  | .upto k => p.1 = p.2 ∨ p.2 ≤ k
  | .mark => p = (size, size + 1)

inductive DR (s : Ren) : Deferred → Deferred → Prop where
  | fn (f f' : Fn) (c c' a a' : Array Value) : FnR s f f' → VRs s c c' → VRs s a a' → DR s ⟨.fn f c, a⟩ ⟨.fn f' c', a'⟩
  | collected (g : Nat) (l : Loc) : s g = some l → DR s ⟨.collected g, #[]⟩ ⟨.collected l.blk, #[]⟩
inductive DRs (s : Ren) : List Deferred → List Deferred → Prop where
  | nil : DRs s [] []
  | cons {d d' ds ds'} : DR s d d' → DRs s ds ds' → DRs s (d :: ds) (d' :: ds')

inductive OR (s : Ren) : Obj → Obj → Prop where
  | map (es es' : Array MapEntry) (c : Nat) : es.size = es'.size → (∀ i (h : i < es.size) (h' : i < es'.size), VR s es[i].key es'[i].key ∧ VR s es[i].val es'[i].val ∧ es'[i].born = es[i].born) → OR s (.map es c) (.map es' c)
  | strIter (b : ByteArray) (p : Nat) : OR s (.stringIter b p) (.stringIter b p)
  | mapIterNil (a : Nat) (b : Array Nat) (c : Nat) : OR s (.mapIter none a b c) (.mapIter none a b c)
  | mapIter (g : Nat) (l : Loc) (a : Nat) (b : Array Nat) (c : Nat) : s g = some l → OR s (.mapIter (some g) a b c) (.mapIter (some l.blk) a b c)
  | loop (st : LoopState) (p : Option Code) (fn : FuncId) (t t' : Array Value) (ps : Array Tmp) (a b : Code) (g : Nat) (l : Loc) : VRs s t t' → s g = some l →
      OR s (.loop ⟨st, p, fn, t, ps, a, b, g⟩) (.loop ⟨st, p, fn, t', ps, a, b, l.blk⟩)
  | deferred (ds ds' : List Deferred) : DRs s ds ds' → OR s (.deferred (some ds)) (.deferred (some ds'))
  | deferredNone : OR s (.deferred none) (.deferred none)

noncomputable def CellsAt (s : Ren) (n : Nat) (t : T Value) (c : Array Value) : Prop := ∀ i v, i < n → t.get i = some v → ∃ v', c[i]? = some v' ∧ VR s v v'
noncomputable def ObjR (s : Ren) (l : Loc) : AObj → Obj → Prop
  | .cells n t e esz opn fz, .cells c e' p => e' = e ∧ CellsAt s n t c ∧ (if opn then n ≤ c.size ∧ 0 < esz ∧ c.size = l.cap * esz else c.size = n) ∧ FzR fz c.size p
  | .obj o, x => OR s o x
  | _, _ => False

structure Mem (s : Ren) (st : St) (w : World) : Prop where
  at_ : ∀ g o, st.H.get g = some o → ∃ l x, s g = some l ∧ w.heap[l.blk]? = some x ∧ ObjR s l o x
  inj : ∀ g g' o o' l l', st.H.get g = some o → st.H.get g' = some o' → s g = some l → s g' = some l' → l.blk = l'.blk → g = g'
  new_ : ∀ g, st.c ≤ g → g < st.lim → s g = none

/-- One stretch of a run: what is known of the worlds at its ends. -/
structure Ev (s : Ren) (st : St) (w : World) (s' : Ren) (st' : St) (w' : World) : Prop where
  le : s.le s'
  os : w'.os = w.os
  tape : w'.tape = w.tape
  output : w'.output = w.output
  size : w.heap.size ≤ w'.heap.size
  frame : ∀ b, b < w.heap.size → (∀ g o l, st.H.get g = some o → s g = some l → l.blk ≠ b) → w'.heap[b]? = w.heap[b]?
  img : ∀ g o l, st'.H.get g = some o → s' g = some l → w.heap.size ≤ l.blk ∨ ∃ g0 o0 l0, st.H.get g0 = some o0 ∧ s g0 = some l0 ∧ l0.blk = l.blk
  cle : st.c ≤ st'.c
  lim : st'.lim = st.lim
  ids : ∀ g, ¬ (st.c ≤ g ∧ g < st.lim) → s' g = s g

theorem Ev.refl (s : Ren) (st : St) (w : World) : Ev s st w s st w :=
  ⟨.refl s, rfl, rfl, rfl, Nat.le_refl _, fun _ _ _ => rfl, fun g o l h e => .inr ⟨g, o, l, h, e, rfl⟩, Nat.le_refl _, rfl, fun _ _ => rfl⟩
theorem Ev.trans {s s1 s2 : Ren} {st st1 st2 : St} {w w1 w2 : World} (h : Ev s st w s1 st1 w1) (k : Ev s1 st1 w1 s2 st2 w2) : Ev s st w s2 st2 w2 := by
  refine ⟨h.le.trans k.le, k.os.trans h.os, k.tape.trans h.tape, k.output.trans h.output, Nat.le_trans h.size k.size, fun b hb hn => ?_, fun g o l hg hl => ?_, Nat.le_trans h.cle k.cle, k.lim.trans h.lim, fun g hg => ?_⟩
  · rw [k.frame b (Nat.lt_of_lt_of_le hb h.size) ?_, h.frame b hb hn]
    intro g o l hg hl he
    rcases h.img g o l hg hl with h1 | ⟨g0, o0, l0, h1, h2, h3⟩
    · omega
    · exact hn g0 o0 l0 h1 h2 (h3.trans he)
  · rcases k.img g o l hg hl with h1 | ⟨g0, o0, l0, h1, h2, h3⟩
    · exact .inl (Nat.le_trans h.size h1)
    · rcases h.img g0 o0 l0 h1 h2 with h4 | ⟨g1, o1, l1, h4, h5, h6⟩
      · exact .inl (h3 ▸ h4)
      · exact .inr ⟨g1, o1, l1, h4, h5, h6.trans h3⟩
  · rw [k.ids g (fun q => hg ⟨Nat.le_trans h.cle q.1, by rw [← h.lim]; exact q.2⟩), h.ids g hg]

theorem DR.mono {s s' : Ren} (hs : s.le s') {d d' : Deferred} (h : DR s d d') : DR s' d d' := by
  cases h with
  | fn f f' c c' a a' h1 h2 h3 => exact .fn _ _ _ _ _ _ (h1.mono hs) (h2.mono hs) (h3.mono hs)
  | collected g l e => exact .collected g l (hs _ _ e)
theorem DRs.mono {s s' : Ren} (hs : s.le s') {d d' : List Deferred} (h : DRs s d d') : DRs s' d d' := by
  induction h with
  | nil => exact .nil
  | cons h _ ih => exact .cons (h.mono hs) ih
theorem OR.mono {s s' : Ren} (hs : s.le s') {o o' : Obj} (h : OR s o o') : OR s' o o' := by
  cases h with
  | map es es' c h1 h2 => exact .map es es' c h1 fun i a b => ⟨(h2 i a b).1.mono hs, (h2 i a b).2.1.mono hs, (h2 i a b).2.2⟩
  | mapIter g l a b c e => exact .mapIter g l a b c (hs _ _ e)
  | loop st p fn t t' ps a b g l h1 h2 => exact .loop st p fn t t' ps a b g l (h1.mono hs) (hs _ _ h2)
  | deferred ds ds' h => exact .deferred ds ds' (h.mono hs)
  | _ => constructor
theorem ObjR.mono {s s' : Ren} (hs : s.le s') {l : Loc} {o : AObj} {x : Obj} (h : ObjR s l o x) : ObjR s' l o x := by
  cases o with
  | obj o => exact OR.mono hs h
  | cells n t e esz opn fz =>
    cases x with
    | cells c e' p =>
      obtain ⟨h1, h2, h3⟩ := h
      exact ⟨h1, fun i v hi hv => let ⟨v', a, b⟩ := h2 i v hi hv; ⟨v', a, b.mono hs⟩, h3⟩
    | _ => exact h.elim

/-- A draw turns no block. -/
theorem Mem.draws {s : Ren} {st : St} {w w' : World} (h : Mem s st w) (hw : w'.heap = w.heap) : Mem s st w' :=
  ⟨fun g o hg => by rw [hw]; exact h.at_ g o hg, h.inj, h.new_⟩
theorem Ev.draws {s : Ren} {st : St} {w w' : World} (hw : w'.heap = w.heap) (h1 : w'.os = w.os) (h2 : w'.tape = w.tape) (h3 : w'.output = w.output) : Ev s st w s st w' :=
  ⟨.refl s, h1, h2, h3, by rw [hw]; exact Nat.le_refl _, fun _ _ _ => by rw [hw], fun g o l h e => .inr ⟨g, o, l, h, e, rfl⟩, Nat.le_refl _, rfl, fun _ _ => rfl⟩

noncomputable def FUEL : Nat := 40
noncomputable def newO {β : Type} (o : AObj) (st : St) (K : Nat → St → Option β) : Option β := bif Nat.blt st.c st.lim then T.put (some o) FUEL st.H st.c fun H => K st.c ⟨H, Nat.succ st.c, st.lim⟩ else none

theorem Mem.lt {s : Ren} {st : St} {w : World} (h : Mem s st w) {g : Nat} {o : AObj} {l : Loc} (hg : st.H.get g = some o) (hl : s g = some l) : l.blk < w.heap.size := by
  obtain ⟨l', x, h1, h2, _⟩ := h.at_ g o hg
  cases h1.symm.trans hl
  rcases Nat.lt_or_ge l.blk w.heap.size with h3 | h3
  · exact h3
  · rw [Array.getElem?_eq_none h3] at h2; cases h2

/-- A new block. -/
theorem newO_ok {β : Type} {s : Ren} {st : St} {w : World} {o : AObj} {K : Nat → St → Option β} {b : β} (hM : Mem s st w) (h : newO o st K = some b) (x : Obj) (cap : Nat)
    (hx : ∀ s', s.le s' → s' st.c = some ⟨w.heap.size, cap⟩ → ObjR s' ⟨w.heap.size, cap⟩ o x) :
    ∃ s' st', K st.c st' = some b ∧ Mem s' st' (w.alloc x) ∧ Ev s st w s' st' (w.alloc x) ∧ s' st.c = some ⟨w.heap.size, cap⟩ := by
  unfold newO at h
  cases hlim : Nat.blt st.c st.lim with
  | false => simp [hlim] at h
  | true =>
  simp only [hlim, cond_true] at h
  rw [Nat.blt_eq] at hlim
  obtain ⟨H, hK, hg⟩ := T.put_some h
  let s' : Ren := fun g => if g = st.c then some ⟨w.heap.size, cap⟩ else s g
  have hs' : s' st.c = some ⟨w.heap.size, cap⟩ := by simp [s']
  have hle : s.le s' := by
    intro g l e
    have : g ≠ st.c := fun h => by rw [h, hM.new_ _ (Nat.le_refl _) hlim] at e; cases e
    simp [s', this, e]
  have hold : ∀ k, k < w.heap.size → (w.alloc x).heap[k]? = w.heap[k]? := fun k hk => Below.heap_alloc w x k hk
  refine ⟨s', _, hK, ⟨fun g o' hg' => ?_, fun g g' o1 o2 l l' h1 h2 e1 e2 he => ?_, fun g hge hgl => ?_⟩, ⟨hle, rfl, rfl, rfl, by simp, fun b hb _ => hold b hb, fun g o' l hg' e => ?_, by simp, rfl, fun g hg => ?_⟩, hs'⟩
  · simp only [hg] at hg'
    split at hg'
    · rename_i hc
      subst hc
      cases hg'
      exact ⟨_, x, hs', heap_alloc_new w x, hx s' hle hs'⟩
    · obtain ⟨l, y, h1, h2, h3⟩ := hM.at_ g o' hg'
      exact ⟨l, y, hle _ _ h1, by rw [hold _ (hM.lt hg' h1)]; exact h2, h3.mono hle⟩
  · simp only [hg] at h1 h2
    simp only [s'] at e1 e2
    split at h1 <;> split at h2
    · simp_all
    · rename_i hc hc'
      simp only [hc, if_true] at e1
      simp only [hc', if_false] at e2
      cases e1
      have := hM.lt h2 e2
      simp at he
      omega
    · rename_i hc hc'
      simp only [hc', if_true] at e2
      simp only [hc, if_false] at e1
      cases e2
      have := hM.lt h1 e1
      simp at he
      omega
    · rename_i hc hc'
      simp only [hc, if_false] at e1
      simp only [hc', if_false] at e2
      exact hM.inj _ _ _ _ _ _ h1 h2 e1 e2 he
  · have hge' : st.c + 1 ≤ g := hge
    have : g ≠ st.c := by omega
    simp [s', this, hM.new_ g (by omega) hgl]
  · simp only [hg] at hg'
    split at hg'
    · rename_i hc
      subst hc
      cases hs'.symm.trans e
      exact .inl (Nat.le_refl _)
    · rename_i hc
      simp only [s', hc, if_false] at e
      exact .inr ⟨g, o', l, hg', e, rfl⟩
  · have : g ≠ st.c := fun h => hg ⟨by omega, by omega⟩
    simp [s', this]

/-- What a cell holds. -/
noncomputable def loadO (st : St) (g off : Nat) : Option Value :=
  match st.H.get g with
  | some (.cells n t _ _ _ _) => bif Nat.blt off n then t.get off else none
  | _ => none
theorem loadO_ok {s : Ren} {st : St} {w : World} {g off : Nat} {v : Value} {l : Loc} (hM : Mem s st w) (hl : s g = some l) (h : loadO st g off = some v) : ∃ v', w.cell? ⟨l.blk, off, none⟩ = some v' ∧ VR s v v' := by
  unfold loadO at h
  split at h
  · rename_i n t e esz opn fz hg
    cases hb : Nat.blt off n with
    | false => simp [hb] at h
    | true =>
      simp only [hb, cond_true] at h
      obtain ⟨l', x, h1, h2, h3⟩ := hM.at_ g _ hg
      cases h1.symm.trans hl
      cases x with
      | cells c e' p =>
        obtain ⟨v', hv, hr⟩ := h3.2.1 off v (by simpa [Nat.blt_eq] using hb) h
        exact ⟨v', by simp [World.cell?, h2, hv], hr⟩
      | _ => exact h3.elim
  · cases h

noncomputable def oneV : Value → Bool
  | .agg _ | .tuple _ => false
  | _ => true
theorem oneV_of {s : Ren} {v v' : Value} (h : VR s v v') (h1 : oneV v = true) : v'.oneCell' = true := by
  cases h <;> first | rfl | simp [oneV] at h1

noncomputable def storeO {β : Type} (g off : Nat) (v : Value) (st : St) (K : St → Option β) : Option β :=
  match st.H.get g with
  | some (.cells n t e esz opn (.upto k)) => bif Nat.blt off n && Nat.ble k off && oneV v then T.put (some v) FUEL t off fun t' => T.put (some (.cells n t' e esz opn (.upto k))) FUEL st.H g fun H => K ⟨H, st.c, st.lim⟩ else none
  | some (.cells n t e esz opn .mark) => bif Nat.blt off n && oneV v then T.put (some v) FUEL t off fun t' => T.put (some (.cells n t' e esz opn .mark)) FUEL st.H g fun H => K ⟨H, st.c, st.lim⟩ else none
  | _ => none

/-- A block that is turned in place. -/
theorem Mem.turn {s : Ren} {st : St} {w w' : World} {g : Nat} {o o' : AObj} {l : Loc} {x x' : Obj} {H : T AObj} (hM : Mem s st w) (hl : s g = some l) (hg : st.H.get g = some o) (hx : w.heap[l.blk]? = some x)
    (hH : ∀ j, H.get j = if j = g then some o' else st.H.get j) (hw : ∀ k, w'.heap[k]? = if k = l.blk then some x' else w.heap[k]?) (hr : ObjR s l o' x')
    (h1 : w'.os = w.os) (h2 : w'.tape = w.tape) (h3 : w'.output = w.output) : Mem s ⟨H, st.c, st.lim⟩ w' ∧ Ev s st w s ⟨H, st.c, st.lim⟩ w' := by
  have hsz : w.heap.size ≤ w'.heap.size := by
    rcases Nat.lt_or_ge w'.heap.size w.heap.size with hlt | hge
    · have := hw w'.heap.size
      rw [Array.getElem?_eq_none (Nat.le_refl _)] at this
      split at this
      · cases this
      · rw [Array.getElem?_eq_getElem hlt] at this; cases this
    · exact hge
  refine ⟨⟨fun j q hj => ?_, fun a b o1 o2 l1 l2 ha hb e1 e2 he => ?_, hM.new_⟩, ⟨.refl s, h1, h2, h3, hsz, fun b hb hn => ?_, fun j q lj hj e => ?_, Nat.le_refl _, rfl, fun _ _ => rfl⟩⟩
  · simp only [hH] at hj
    split at hj
    · rename_i hc
      subst hc
      cases hj
      exact ⟨l, x', hl, by simp [hw], hr⟩
    · rename_i hc
      obtain ⟨lj, y, e1, e2, e3⟩ := hM.at_ j q hj
      refine ⟨lj, y, e1, ?_, e3⟩
      rw [hw, if_neg (fun h => hc (hM.inj _ _ _ _ _ _ hj hg e1 hl h))]
      exact e2
  · have q1 : ∃ o, st.H.get a = some o := by
      simp only [hH] at ha
      split at ha
      · rename_i hc; exact ⟨_, hc ▸ hg⟩
      · exact ⟨_, ha⟩
    have q2 : ∃ o, st.H.get b = some o := by
      simp only [hH] at hb
      split at hb
      · rename_i hc; exact ⟨_, hc ▸ hg⟩
      · exact ⟨_, hb⟩
    obtain ⟨oa, qa⟩ := q1
    obtain ⟨ob, qb⟩ := q2
    exact hM.inj a b oa ob l1 l2 qa qb e1 e2 he
  · rw [hw, if_neg (fun h => hn g o l hg hl h.symm)]
  · simp only [hH] at hj
    split at hj
    · rename_i hc; exact .inr ⟨g, o, l, hg, hl, by rw [hc, hl] at e; cases e; rfl⟩
    · exact .inr ⟨j, q, lj, hj, e, rfl⟩

theorem setCell_at (w : World) (b off : Nat) (v : Value) (c : Array Value) (e : TypeId) (p : Nat × Nat) (h : w.heap[b]? = some (.cells c e p)) (k : Nat) :
    (w.setCell ⟨b, off, none⟩ v).heap[k]? = if k = b then some (.cells (c.setIfInBounds off v) e p) else w.heap[k]? := by
  simp only [World.setCell, Array.getElem?_modify]
  by_cases hk : k = b
  · subst hk; simp [h]
  · have : ¬ b = k := fun h => hk h.symm
    simp [hk, this]
theorem cellsAt_put {s : Ren} {n : Nat} {t t' : T Value} {c : Array Value} {off : Nat} {v v' : Value} (h : CellsAt s n t c) (ht : ∀ j, t'.get j = if j = off then some v else t.get j) (hn : off < c.size) (hv : VR s v v') :
    CellsAt s n t' (c.setIfInBounds off v') := by
  intro i u hi hu
  rw [ht] at hu
  split at hu
  · rename_i hc
    subst hc
    cases hu
    exact ⟨v', by simp [hn], hv⟩
  · rename_i hc
    obtain ⟨u', h1, h2⟩ := h i u hi hu
    exact ⟨u', by rw [Array.getElem?_setIfInBounds_ne (fun e => hc e.symm)]; exact h1, h2⟩
theorem storeO_ok {β : Type} {s : Ren} {st : St} {w : World} {g off : Nat} {v v' : Value} {l : Loc} {K : St → Option β} {b : β} (hM : Mem s st w) (hl : s g = some l) (hv : VR s v v') (h : storeO g off v st K = some b) :
    ∃ st', K st' = some b ∧ Mem s st' (w.setCell ⟨l.blk, off, none⟩ v') ∧ Ev s st w s st' (w.setCell ⟨l.blk, off, none⟩ v') ∧ (w.cell? ⟨l.blk, off, none⟩).isSome = true ∧ w.frozen? ⟨l.blk, off, none⟩ = false ∧ v'.oneCell' = true ∧ st'.c = st.c := by
  unfold storeO at h
  split at h
  · rename_i n t e esz opn k hg
    cases hb : (Nat.blt off n && Nat.ble k off && oneV v) with
    | false => simp [hb] at h
    | true =>
      simp only [hb, cond_true] at h
      simp only [Bool.and_eq_true, Nat.blt_eq, Nat.ble_eq] at hb
      obtain ⟨t', h', ht⟩ := T.put_some h
      obtain ⟨H, hK, hH⟩ := T.put_some h'
      obtain ⟨l', x, e1, e2, e3⟩ := hM.at_ g _ hg
      cases e1.symm.trans hl
      cases x with
      | cells c e' p =>
        obtain ⟨r1, r2, r3, r4⟩ := e3
        have hn : off < c.size := by
          cases opn
          · have : c.size = n := by simpa using r3
            omega
          · have : n ≤ c.size := by simp at r3; exact r3.1
            omega
        have hsize : (c.setIfInBounds off v').size = c.size := by simp
        obtain ⟨m1, m2⟩ := Mem.turn hM hl hg e2 hH (setCell_at w l.blk off v' c e' p e2) (o' := .cells n t' e esz opn (.upto k)) (x' := .cells (c.setIfInBounds off v') e' p) ⟨r1, cellsAt_put r2 ht hn hv, by rw [hsize]; exact r3, by rw [hsize]; exact r4⟩ rfl rfl rfl
        refine ⟨_, hK, m1, m2, by simp [World.cell?, e2, hn], ?_, oneV_of hv hb.2, rfl⟩
        simp only [World.frozen?, e2]
        simp only [FzR] at r4
        rw [Bool.eq_false_iff]
        simp
        omega
      | _ => exact e3.elim
  · rename_i n t e esz opn hg
    cases hb : (Nat.blt off n && oneV v) with
    | false => simp [hb] at h
    | true =>
      simp only [hb, cond_true] at h
      simp only [Bool.and_eq_true, Nat.blt_eq] at hb
      obtain ⟨t', h', ht⟩ := T.put_some h
      obtain ⟨H, hK, hH⟩ := T.put_some h'
      obtain ⟨l', x, e1, e2, e3⟩ := hM.at_ g _ hg
      cases e1.symm.trans hl
      cases x with
      | cells c e' p =>
        obtain ⟨r1, r2, r3, r4⟩ := e3
        have hn : off < c.size := by
          cases opn
          · have : c.size = n := by simpa using r3
            omega
          · have : n ≤ c.size := by simp at r3; exact r3.1
            omega
        have hsize : (c.setIfInBounds off v').size = c.size := by simp
        obtain ⟨m1, m2⟩ := Mem.turn hM hl hg e2 hH (setCell_at w l.blk off v' c e' p e2) (o' := .cells n t' e esz opn .mark) (x' := .cells (c.setIfInBounds off v') e' p) ⟨r1, cellsAt_put r2 ht hn hv, by rw [hsize]; exact r3, by rw [hsize]; exact r4⟩ rfl rfl rfl
        refine ⟨_, hK, m1, m2, by simp [World.cell?, e2, hn], ?_, oneV_of hv hb.2, rfl⟩
        simp only [World.frozen?, e2]
        simp only [FzR] at r4
        subst r4
        rw [Bool.eq_false_iff]
        simp
        omega
      | _ => exact e3.elim
  · cases h

/-- Many cells in a row. -/
noncomputable def loadsO (st : St) (g : Nat) : Nat → Nat → Option (List Value)
  | _, 0 => some []
  | off, n + 1 =>
    match loadO st g off with
    | none => none
    | some v => match loadsO st g (Nat.succ off) n with
      | none => none
      | some vs => some (v :: vs)
theorem loadsO_ok {s : Ren} {st : St} {w : World} {g : Nat} {l : Loc} (hM : Mem s st w) (hl : s g = some l) : ∀ {n off : Nat} {vs : List Value}, loadsO st g off n = some vs →
    vs.length = n ∧ ∃ vs' : List Value, vs'.length = n ∧ (∀ (j : Nat) (v' : Value), vs'[j]? = some v' → w.cell? ⟨l.blk, off + j, none⟩ = some v') ∧ ∀ (j : Nat) (v : Value), vs[j]? = some v → ∃ v', vs'[j]? = some v' ∧ VR s v v'
  | 0, off, vs, h => by
    cases h
    exact ⟨rfl, [], rfl, fun j v' h => by simp at h, fun j v h => by simp at h⟩
  | n + 1, off, vs, h => by
    unfold loadsO at h
    split at h
    · cases h
    · rename_i v hv
      split at h
      · cases h
      · rename_i r hr
        cases h
        obtain ⟨v', c1, c2⟩ := loadO_ok hM hl hv
        obtain ⟨h1, vs', h2, h3, h4⟩ := loadsO_ok hM hl hr
        refine ⟨by simp [h1], v' :: vs', by simp [h2], fun j u hu => ?_, fun j u hu => ?_⟩
        · cases j with
          | zero => simp at hu; subst hu; exact c1
          | succ j =>
            have := h3 j u (by simpa using hu)
            rwa [show off + (j + 1) = off.succ + j by omega]
        · cases j with
          | zero => simp at hu; subst hu; exact ⟨v', rfl, c2⟩
          | succ j =>
            obtain ⟨u', e1, e2⟩ := h4 j u (by simpa using hu)
            exact ⟨u', by simpa using e1, e2⟩
noncomputable def storesO {β : Type} (g : Nat) : Nat → List Value → St → (St → Option β) → Option β
  | _, [], st, K => K st
  | off, v :: r, st, K => storeO g off v st fun st => storesO g (Nat.succ off) r st K
theorem addr_add (b o i : Nat) : (⟨b, o, none⟩ : Addr).add i = ⟨b, o + i, none⟩ := by unfold Addr.add; split <;> simp_all
theorem storesO_ok {β : Type} {P : Program} {s : Ren} {g : Nat} {l : Loc} {K : St → Option β} {b : β} (hl : s g = some l) : ∀ {vs vs' : List Value} {st : St} {w : World} (off i : Nat), Mem s st w → vs.length = vs'.length →
    (∀ (j : Nat) (v : Value), vs[j]? = some v → ∃ v', vs'[j]? = some v' ∧ VR s v v') → storesO g (off + i) vs st K = some b →
    ∃ st' w', K st' = some b ∧ (storeCells ⟨l.blk, off, none⟩ vs' i).run P w = .ok () w' ∧ Mem s st' w' ∧ Ev s st w s st' w' ∧ st'.c = st.c
  | [], vs', st, w, off, i, hM, hlen, _, h => by
    have : vs' = [] := List.eq_nil_of_length_eq_zero (by simpa using hlen.symm)
    subst this
    exact ⟨st, w, h, rfl, hM, .refl _ _ _, rfl⟩
  | v :: r, [], st, w, off, i, hM, hlen, _, h => by simp at hlen
  | v :: r, v' :: r', st, w, off, i, hM, hlen, hvs, h => by
    have hv : VR s v v' := by
      obtain ⟨u, e, hu⟩ := hvs 0 v rfl
      simp at e; subst e; exact hu
    unfold storesO at h
    obtain ⟨st1, h1, hM1, hE1, hc, hf, ho, hc1⟩ := storeO_ok hM hl hv h
    obtain ⟨st2, w2, hK, hrun, hM2, hE2, hc2⟩ := storesO_ok (P := P) hl (vs' := r') off (i + 1) hM1 (by simpa using hlen) (fun j u hu => by
      obtain ⟨u', e1, e2⟩ := hvs (j + 1) u (by simpa using hu)
      exact ⟨u', by simpa using e1, e2⟩) (by rw [show off + (i + 1) = (off + i).succ by omega]; exact h1)
    obtain ⟨u, hu⟩ := Option.isSome_iff_exists.1 hc
    have hst : (store ((⟨l.blk, off, none⟩ : Addr).add i) v').run P w = .ok () (w.setCell ⟨l.blk, off + i, none⟩ v') := by
      rw [addr_add, run_store P w _ v' _ ho]
      simp [hu, hf]
    exact ⟨st2, w2, hK, by simp only [storeCells, Sem.run_bind, hst, Result.andThen_ok, hrun], hM2, hE1.trans hE2, by rw [hc2, hc1]⟩

end Go.Proofs.Ytajkkgibiigioaa.Cx
