/- A closed call, run: a region with the store apart, whole. No program of its own. -/
import Derived.Test.YtfilbknnpjbmcaaCxTL
namespace Go.Proofs.Ytfilbknnpjbmcaa.Cx
open Go Go.RowKit Go.BigFrame

theorem lastP_at : ∀ {l : List PR} {p : PR}, lastP l = some p → ∃ i : Nat, l[i]? = some p
  | [], p, h => by cases h
  | [q], p, h => by
    have : some q = some p := h
    cases this
    exact ⟨0, rfl⟩
  | q :: q2 :: r, p, h => by
    have h' : lastP (q2 :: r) = some p := h
    obtain ⟨i, hi⟩ := lastP_at h'
    exact ⟨i + 1, by simpa using hi⟩
theorem lateP_ok {ops : Array Oper} {p : PR} (h : lateP (preOf ops) = some p) : ops[p.i]? = some p.o ∧ p.o.dst = none ∧ p.o.guard = none := by
  unfold lateP at h
  split at h
  · rename_i q hq
    cases hb : (isStoreK q.o.op && (noD q.o.dst && noGd q.o.guard) && (preOf ops).any fun r => isE (clsOf r.o.op) && (!Nat.beq r.i q.i && !Nat.testBit q.m r.i)) with
    | false => rw [hb] at h; cases h
    | true =>
      rw [hb] at h
      simp only [cond_true, Option.some.injEq] at h
      subst h
      simp only [Bool.and_eq_true] at hb
      obtain ⟨i, hi⟩ := lastP_at hq
      obtain ⟨e1, e2⟩ := preOf_at hi
      refine ⟨by rw [e1]; exact e2, ?_, noGd_none hb.1.2.2⟩
      have := hb.1.2.1
      generalize q.o.dst = d at this
      cases d with
      | none => rfl
      | some _ => cases this
  · cases h

theorem late_ok {β : Type} {E : Env} {sub : Sub} {nt : Nat} {O : Array Oper} {p : PR} {tm : TV} {st : St} {K : TV → St → Option β} {bb : β} (hE : E.Ok) (hsub : SubOk E sub) (hmix : E.P.follows .mixedOrders = true) (hp : lateP (preOf O) = some p) (h : lateAll E sub nt O p tm st K = some bb)
    {s : Ren} {w : World} {a : Act} (hM : Mem s st w) (hg : Gl E.ng s) (ht : TmR s tm a.tmps) (hn : a.tmps.size = nt) {b : Frame} (id : Nat) (k : List Item) (cs : List Frame) :
    ∃ tmF st2 a' s' w', K tmF st2 = some bb ∧ Steps E.P (lone (b.atR a (.code (.region id O true) :: k)) cs w) (lone (b.atR a' k) cs w') ∧ TmR s' tmF a'.tmps ∧ a'.tmps.size = nt ∧ a'.defers = a.defers ∧ Mem s' st2 w' ∧ Ev s st w s' st2 w' := by
  obtain ⟨hX, hdst, hguard⟩ := lateP_ok hp
  unfold lateAll at h
  split at h
  rotate_left
  · cases h
  rename_i t ax xx hop
  unfold lateGo at h
  split at h
  rotate_left
  · cases h
  rename_i l hl
  obtain ⟨rfl, hreg⟩ := okR_ok hl
  cases hroom : Nat.blt (Nat.add st.c (newsOf (lateOps O p))) st.lim with
  | false => simp only [hroom, cond_false] at h; cases h
  | true =>
  simp only [hroom, cond_true] at h
  have hroom : st.c + newsOf (lateOps O p) < st.lim := by rw [Nat.blt_eq] at hroom; exact hroom
  obtain ⟨rs, tmF, stF, h1, h2⟩ := pass_some h
  cases hck2 : (checkAll E rs && insOk E (lateOps O p) rs) with
  | false => simp only [hck2, cond_false] at h1; cases h1
  | true =>
  simp only [hck2, cond_true] at h1
  rw [Bool.and_eq_true] at hck2
  obtain ⟨hck, hins⟩ := hck2
  obtain ⟨HF, h1, hfill⟩ := fillT_ok h1
  unfold lateEnd at h1
  split at h1
  rotate_left
  · cases h1
  rename_i rn gX offX st2 hfind hax hstore
  cases hb : (isPur rn.cls && hasO (HF.get gX) && lateOk E HF rs rn.m p.i gX ax xx) with
  | false => simp only [hb, cond_false] at h1; cases h1
  | true =>
  simp only [hb, cond_true] at h1
  simp only [Bool.and_eq_true] at hb
  obtain ⟨⟨hpur, hgX⟩, hlate⟩ := hb
  unfold lateOk at hlate
  simp only [Bool.and_eq_true] at hlate
  obtain ⟨hall, hba, hbx⟩ := hlate
  have hok : Rg.Ok ⟨E, sub, nt, lateOps O p, tm, st, rs, tmF, stF⟩ := ⟨hE, hsub, hreg, h2, hck, hroom, hins⟩
  have hrn : rs[p.i]? = some rn := by
    have hi : Nat.beq rn.i p.i = true := by simpa using List.find?_some hfind
    obtain ⟨j, hj⟩ := List.getElem?_of_mem (List.mem_of_find?_eq_some hfind)
    have := (hok.rec_ hj).2.1
    rw [Nat.beq_eq] at hi
    rw [← hi, this]
    exact hj
  have hlt : p.i < O.size := (Array.getElem?_eq_some_iff.1 hX).1
  have hbit : ∀ (x : Operand), opsBit rs rn.m x = true → ∀ (i : Nat) (r : Rec) d, rs[i]? = some r → r.o.dst = some d → x = .tmp d → rn.m.testBit i = true := by
    intro x hx i r d hr hd e
    subst e
    unfold opsBit at hx
    simp only at hx
    have := List.all_eq_true.1 hx r (List.mem_of_getElem? hr)
    rw [hd] at this
    simp only [tmpIs, Nat.beq_refl, Bool.not_true, Bool.false_or] at this
    rw [(hok.rec_ hr).2.1] at this
    exact this
  have hL : Late ⟨E, sub, nt, lateOps O p, tm, st, rs, tmF, stF⟩ O p.i p.o t ax xx rn HF gX := by
    refine ⟨hok, hX, hop, hdst, hguard, by simp [lateOps], fun i hi => ?_, by simp [lateOps, hlt], hrn, isPur_pur hpur, fun i r hr hbi hin => ?_, fun i r d hr hd e => ?_⟩
    · simp only [lateOps]
      rw [Array.getElem?_setIfInBounds_ne (fun e => hi e.symm)]
    · have := List.all_eq_true.1 hall r (List.mem_of_getElem? hr)
      have hri := (hok.rec_ hr).2.1
      rw [hri, hbi] at this
      have hne : Nat.beq i p.i = false := by
        rw [Bool.eq_false_iff]
        intro e
        rw [Nat.beq_eq] at e
        exact hin e
      simp only [hne, Bool.false_or, Bool.and_eq_true] at this
      exact ⟨noGd_none this.1, this.2⟩
    · rcases e with e | e
      · exact hbit ax hba i r d hr hd e
      · exact hbit xx hbx i r d hr hd e
  have hsz : (lateOps O p).size = O.size := by simp [lateOps]
  have hno : ∀ i, ¬ Did (Array.replicate O.size false) i := by
    intro i hi
    unfold Did at hi
    rw [Array.getElem?_replicate] at hi
    split at hi <;> simp at hi
  have hinit := region_init hok hM hg ht hn
  rw [hsz] at hinit
  obtain ⟨a', s', w', g1, g2, g3, g4⟩ := Late.all hL (b := b) k cs (lin_of (fun i j hij => hL.edge_lt hij) O.size (w.tape w.drawn (.order b.fn id)) (Array.replicate O.size false) (by simp) (left_init O)) (hno p.i) (fun i hi => absurd hi (hno i)) hinit
  obtain ⟨k1, k2, k3, k4⟩ := region_fin hok hfill g1
  have hev : ∀ x v, evT E.ng tmF x = some v → VR s' v (a'.eval x) := evT_ok (hg.mono g3) k1
  have hS := aop_ok hE (s := s') (cev := a'.eval) k3 hev hstore
  obtain ⟨s2, wF, e1, e2, e3⟩ := hS
  have hst : ∃ vx, evT E.ng tmF xx = some vx ∧ storeA E.P t (.pointer (some ⟨gX, offX, none⟩)) vx ⟨HF, stF.c, stF.lim⟩ = some st2 := by
    unfold aop aopC at hstore
    rw [hop] at hstore
    simp only [hax] at hstore
    split at hstore
    · rename_i v u hv hu
      cases hv
      obtain ⟨st3, q1, q2⟩ := skipA_some hstore
      cases q2
      exact ⟨u, hu, q1⟩
    · cases hstore
  obtain ⟨vx, hvx, hsA⟩ := hst
  obtain ⟨lX, oX, f1, f2, f3, f4⟩ := store_over hop k3 (hev _ _ hax) (hev _ _ hvx) hsA e1
  have hgo := g4 lX.blk oX (fun g l hgo hne hl he => hne (by
    have hh : ∀ g, hasO (HF.get g) = true → ∃ o, HF.get g = some o := fun g h => by
      cases hx : HF.get g with
      | none => rw [hx] at h; cases h
      | some o => exact ⟨o, rfl⟩
    obtain ⟨o1, ho1⟩ := hh g hgo
    obtain ⟨o2, ho2⟩ := hh gX hgX
    exact k3.inj g gX o1 o2 l lX ho1 ho2 hl f1 he)) f4
  rw [← f3] at hgo
  refine ⟨tmF, st2, a', s2, wF, h1, ?_, k1.mono e3.le, k2, g2, e2, k4.trans e3⟩
  refine .head (stepR_region_draw) ?_
  have hsched : Region.schedule (E.P.follows .mixedOrders) O (w.tape w.drawn (.order b.fn id)) = Region.linearise.go .any O O.size (w.tape w.drawn (.order b.fn id)) (Array.replicate O.size false) [] := by
    simp only [Region.schedule, hmix, Bool.true_or, if_true]
    rfl
  rw [hsched]
  exact hgo.trans (.one stepR_region_end)
theorem late_any {β : Type} {E : Env} {sub : Sub} {nt : Nat} {O : Array Oper} {p : PR} {tm : TV} {st : St} {K : TV → St → Option β} {bb : β} (h : lateAll E sub nt O p tm st K = some bb) : ∃ tmF st2, K tmF st2 = some bb := by
  unfold lateAll at h
  split at h
  rotate_left
  · cases h
  unfold lateGo at h
  split at h
  rotate_left
  · cases h
  cases hroom : Nat.blt (Nat.add st.c (newsOf (lateOps O p))) st.lim with
  | false => simp only [hroom, cond_false] at h; cases h
  | true =>
  simp only [hroom, cond_true] at h
  obtain ⟨rs, tmF, stF, h1, _⟩ := pass_some h
  cases hck : (checkAll E rs && insOk E (lateOps O p) rs) with
  | false => simp only [hck, cond_false] at h1; cases h1
  | true =>
  simp only [hck, cond_true] at h1
  obtain ⟨HF, h1, _⟩ := fillT_ok h1
  unfold lateEnd at h1
  split at h1
  · rename_i rn gX offX st2 _ _ _
    generalize (isPur rn.cls && _ && _) = c at h1
    cases c with
    | false => cases h1
    | true => exact ⟨_, _, h1⟩
  · cases h1
end Go.Proofs.Ytfilbknnpjbmcaa.Cx
