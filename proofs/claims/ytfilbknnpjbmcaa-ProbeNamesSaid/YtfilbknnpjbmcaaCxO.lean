/- A closed call, run: when a frame stands for a frame. No program of its own. -/
import Derived.Test.YtfilbknnpjbmcaaCxN
namespace Go.Proofs.Ytfilbknnpjbmcaa.Cx
open Go Go.RowKit Go.BigFrame

inductive PRs (s : Ren) : List PanicEntry → List PanicEntry → Prop where
  | nil : PRs s [] []
  | cons {v v' : Value} {r g : Bool} {l l' : List PanicEntry} : VR s v v' → PRs s l l' → PRs s ({ v := v, recovered := r, goexit := g } :: l) ({ v := v', recovered := r, goexit := g } :: l')
inductive MR (s : Ren) : FrameMode → FrameMode → Prop where
  | run : MR s .run .run
  | returning : MR s .returning .returning
  | panicking {l l' : List PanicEntry} : PRs s l l' → MR s (.panicking l) (.panicking l')
/-- The loop of which a frame is a round. -/
def RoR (s : Ren) (a f : Option Nat) : Prop :=
  match a, f with
  | none, none => True
  | some g, some l => ∃ c, s g = some ⟨l, c⟩
  | _, _ => False
theorem RoR.mono {s s' : Ren} (hs : s.le s') {a f : Option Nat} (h : RoR s a f) : RoR s' a f := by
  unfold RoR at h ⊢
  split at h
  · trivial
  · obtain ⟨c, e⟩ := h; exact ⟨c, hs _ _ e⟩
  · exact h.elim
theorem RoR.none_iff {s : Ren} {f : Option Nat} (h : RoR s none f) : f = none := by
  cases f with
  | none => rfl
  | some l => exact h.elim
structure FRel (s : Ren) (af : AF) (fr : Frame) : Prop where
  fn : fr.fn = af.fn
  nt : fr.tmps.size = af.nt
  tm : TmR s af.tm fr.tmps
  todo : fr.todo = af.todo
  defers : DRs s af.defers fr.defers
  mode : MR s af.mode fr.mode
  kind : fr.kind = af.kind
  round : RoR s af.round fr.roundOf
inductive FRels (s : Ren) : List AF → List Frame → Prop where
  | nil : FRels s [] []
  | cons {a f as fs} : FRel s a f → FRels s as fs → FRels s (a :: as) (f :: fs)
/-- The package-level variables stand where they stand. -/
def Gl (ng : Nat) (s : Ren) : Prop := ∀ g, g < ng → s g = some ⟨g, 0⟩
theorem Gl.mono {ng : Nat} {s s' : Ren} (hs : s.le s') (h : Gl ng s) : Gl ng s' := fun g hg => hs _ _ (h g hg)

theorem PRs.mono {s s' : Ren} (hs : s.le s') {l l' : List PanicEntry} (h : PRs s l l') : PRs s' l l' := by
  induction h with
  | nil => exact .nil
  | cons h _ ih => exact .cons (h.mono hs) ih
theorem MR.mono {s s' : Ren} (hs : s.le s') {l l' : FrameMode} (h : MR s l l') : MR s' l l' := by
  cases h with
  | run => exact .run
  | returning => exact .returning
  | panicking h => exact .panicking (h.mono hs)
theorem FRel.mono {s s' : Ren} (hs : s.le s') {a : AF} {f : Frame} (h : FRel s a f) : FRel s' a f := ⟨h.fn, h.nt, h.tm.mono hs, h.todo, h.defers.mono hs, h.mode.mono hs, h.kind, h.round.mono hs⟩
theorem FRels.mono {s s' : Ren} (hs : s.le s') {a : List AF} {f : List Frame} (h : FRels s a f) : FRels s' a f := by
  induction h with
  | nil => exact .nil
  | cons h _ ih => exact .cons (h.mono hs) ih
theorem PRs.append {s : Ren} {a a' b b' : List PanicEntry} (h : PRs s a a') (h' : PRs s b b') : PRs s (a ++ b) (a' ++ b') := by
  induction h with
  | nil => exact h'
  | cons h _ ih => exact .cons h ih

/-- What an operand comes to. -/
theorem evT_ok {ng : Nat} {s : Ren} {tm : TV} {a : Act} (hg : Gl ng s) (ht : TmR s tm a.tmps) : ∀ x v, evT ng tm x = some v → VR s v (a.eval x) := by
  intro x v h
  cases x with
  | tmp t =>
    obtain ⟨v', e, r⟩ := ht t v h
    simp only [Act.eval, Array.getD_eq_getD_getElem?, e, Option.getD_some]
    exact r
  | const u =>
    have h : (bif plainV FUEL u then some u else none) = some v := h
    cases hp : plainV FUEL u with
    | false => simp [hp] at h
    | true =>
      simp only [hp, cond_true, Option.some.injEq] at h
      subst h
      exact plainV_self hp
  | global g =>
    have h : (bif Nat.blt g ng then some (Value.pointer (some ⟨g, 0, none⟩)) else none) = some v := h
    cases hb : Nat.blt g ng with
    | false => simp [hb] at h
    | true =>
      simp only [hb, cond_true, Option.some.injEq] at h
      rw [Nat.blt_eq] at hb
      subst h
      exact .ptr g 0 ⟨g, 0⟩ (hg g hb)
  | func f =>
    have h : some (Value.func (.func f) #[] #[]) = some v := h
    cases h
    exact .func _ _ _ _ _ _ (.func f) rfl (fun i h _ => absurd h (by simp)) rfl (fun i h _ => absurd h (by simp))

noncomputable def putG (dst : Option Tmp) (v : Value) (tm : TV) (j : Nat) : Option Value :=
  match dst with
  | some d => if j = d then some v else tm.get j
  | none => tm.get j
theorem putT_some {β : Type} {dst : Option Tmp} {v : Value} {nt : Nat} {tm : TV} {K : TV → Option β} {b : β} (h : putT dst v nt tm K = some b) :
    ∃ tm', K tm' = some b ∧ (∀ d, dst = some d → d < nt) ∧ ∀ j, tm'.get j = putG dst v tm j := by
  unfold putT at h
  split at h
  · exact ⟨tm, h, fun d hd => (by cases hd), fun j => rfl⟩
  · rename_i d
    cases hb : Nat.blt d nt with
    | false => simp [hb] at h
    | true =>
      simp only [hb, cond_true] at h
      rw [Nat.blt_eq] at hb
      obtain ⟨t', h1, h2⟩ := TV.put_some h
      exact ⟨t', h1, fun d' hd => (by cases hd; exact hb), h2⟩
/-- A slot written on both sides. -/
theorem TmR.put {s : Ren} {tm tm' : TV} {a : Act} {dst : Option Tmp} {v v' : Value} (ht : TmR s tm a.tmps) (hd : ∀ d, dst = some d → d < a.tmps.size) (hv : VR s v v') (hg : ∀ j, tm'.get j = putG dst v tm j) : TmR s tm' (a.put dst v').tmps := by
  intro t u hu
  rw [hg] at hu
  cases dst with
  | none => exact ht t u hu
  | some d =>
    simp only [putG] at hu
    split at hu
    · rename_i hc
      subst hc
      cases hu
      exact ⟨v', by simp [Act.put, hd t rfl], hv⟩
    · rename_i hc
      obtain ⟨u', e, r⟩ := ht t u hu
      exact ⟨u', by simp only [Act.put]; rw [Array.getElem?_setIfInBounds_ne (fun h => hc h.symm)]; exact e, r⟩
theorem put_size (a : Act) (dst : Option Tmp) (v : Value) : (a.put dst v).tmps.size = a.tmps.size := by cases dst <;> simp [Act.put]
theorem put_defers (a : Act) (dst : Option Tmp) (v : Value) : (a.put dst v).defers = a.defers := by cases dst <;> rfl
theorem undefR {s : Ren} : VR s undef undef := .tuple _ _ rfl fun i h _ => absurd h (by simp)

theorem wantA_ok {s : Ren} {ops : Array Oper} {tm : TV} {o : Oper} {a : Array Value} {b : Bool} (ht : TmR s tm a) (h : wantA ops tm o = some b) : Region.wanted o (yielded ops a) = b := by
  unfold wantA at h
  simp only [opAt_eq] at h
  unfold Region.wanted
  split at h
  · rename_i hg; cases h; simp [hg]
  · rename_i j want hg
    simp only [hg]
    split at h
    · rename_i oj hj
      split at h
      · rename_i d hd
        split at h
        · rename_i b' hb
          cases h
          obtain ⟨v', e, r⟩ := ht d _ hb
          cases r
          simp only [yielded, hj, Option.bind_some, hd, e]
          cases b' <;> cases want <;> rfl
        · rename_i v hnb hv
          cases h
          obtain ⟨v', e, r⟩ := ht d _ hv
          have : yielded ops a j = none := by
            simp only [yielded, hj, Option.bind_some, hd, e]
            cases r <;> first | rfl | (exact (hnb _ rfl).elim)
          simp [this]
        · cases h
      · rename_i hd
        cases h
        simp [yielded, hj, hd]
    · rename_i hj
      cases h
      simp [yielded, hj]

theorem atR_self {fr : Frame} (h : fr.mode = .run) : fr = fr.atR ⟨fr.tmps, fr.defers⟩ fr.todo := by
  cases fr
  simp only at h
  subst h
  rfl

theorem enterA_some {β : Type} {P : Program} {f : FuncId} {args : List Value} {kind : CallKind} {K : AF → Option β} {b : β} {s : Ren} {args' : Array Value} (ha : VRs s args.toArray args') (h : enterA P f args kind K = some b) :
    ∃ af, K af = some b ∧ FRel s af (Frame.enter P f args' kind) ∧ af.kind = kind := by
  unfold enterA at h
  split at h
  · rename_i fn hf
    split at h
    · rename_i c hb
      obtain ⟨tm, h1, h2⟩ := ofList_ok h
      rw [forceN_eq] at h1
      refine ⟨_, h1, ⟨rfl, ?_, ?_, ?_, .nil, .run, rfl, trivial⟩, rfl⟩
      · have hs := ha.1
        simp at hs
        have hm : Nat.max fn.ntmps args.length = max fn.ntmps args.length := rfl
        simp only [Frame.enter, hf, Option.map_some, Option.getD_some, Array.size_append, Array.size_replicate, hm]
        omega
      · intro t v hv
        rw [h2] at hv
        split at hv
        · rename_i hc
          simp only [Nat.sub_zero] at hv
          obtain ⟨v', e, r⟩ := ha.get (i := t) (v := v) (by simpa using hv)
          refine ⟨v', ?_, r⟩
          simp only [Frame.enter]
          rw [Array.getElem?_append_left]
          · exact e
          · exact (Array.getElem?_eq_some_iff.1 e).1
        · simp [TV.get_leaf] at hv
      · simp [Frame.enter, hf, hb]
    · cases h
  · cases h

end Go.Proofs.Ytfilbknnpjbmcaa.Cx
