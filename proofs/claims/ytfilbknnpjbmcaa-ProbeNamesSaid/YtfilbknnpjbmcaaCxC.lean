/- A closed call, run: operations on values and on memory. No program of its own. -/
import Derived.Test.YtfilbknnpjbmcaaCxB
import Derived.Laws.Cells
import Derived.Laws.Append
namespace Go.Proofs.Ytfilbknnpjbmcaa.Cx
open Go Go.RowKit

/-- What asks nothing of the world. -/
noncomputable def pureRun {α : Type} (P : Program) : Sem α → Option α
  | .pure a => some a
  | .program k => pureRun P (k P)
  | .mark _ k => pureRun P k
  | _ => none
theorem pureRun_ok {α : Type} {P : Program} (e : Sem α) : ∀ {a : α}, pureRun P e = some a → ∀ w, e.run P w = .ok a w := by
  induction e with
  | pure a => intro b h w; cases h; rfl
  | program k ih => intro b h w; exact ih P h w
  | mark m k ih => intro b h w; exact ih h w
  | _ => intro b h; cases h

/-- What an operation that hands back a value comes to. -/
noncomputable def SV (P : Program) (s : Ren) (st : St) (w : World) (e : Sem Value) (v : Value) (st' : St) : Prop :=
  ∃ s' w' v', e.run P w = .ok v' w' ∧ VR s' v v' ∧ Mem s' st' w' ∧ Ev s st w s' st' w'
theorem SV.same {P : Program} {s : Ren} {st : St} {w : World} {e : Sem Value} {v v' : Value} (hM : Mem s st w) (h : e.run P w = .ok v' w) (hv : VR s v v') : SV P s st w e v st :=
  ⟨s, w, v', h, hv, hM, .refl _ _ _⟩

theorem VR.cells {s : Ren} {v v' : Value} (h : VR s v v') : VRs s v.cells v'.cells := by
  cases h with
  | agg a a' h1 h2 => exact ⟨h1, h2⟩
  | _ =>
    refine ⟨rfl, fun i h1 h2 => ?_⟩
    have : i = 0 := by simp [Value.cells] at h1; omega
    subst this
    first
      | (simp only [Value.cells, List.getElem_toArray, List.getElem_cons_zero]; constructor; done)
      | (simp only [Value.cells, List.getElem_toArray, List.getElem_cons_zero]; constructor <;> assumption)

/-- A list laid into a map. -/
noncomputable def ofList {β : Type} : List Value → Nat → TV → (TV → Option β) → Option β
  | [], _, t, K => K t
  | v :: r, i, t, K => TV.put (some v) FUEL t i fun t' => ofList r (Nat.succ i) t' K
theorem ofList_ok {β : Type} : ∀ {vs : List Value} {i : Nat} {t : TV} {K : TV → Option β} {b : β}, ofList vs i t K = some b →
    ∃ t', K t' = some b ∧ ∀ j, t'.get j = if i ≤ j ∧ j < i + vs.length then vs[j - i]? else t.get j
  | [], i, t, K, b, h => ⟨t, h, fun j => by rw [if_neg (by simp only [List.length_nil]; omega)]⟩
  | v :: r, i, t, K, b, h => by
    unfold ofList at h
    obtain ⟨t1, h1, g1⟩ := TV.put_some h
    obtain ⟨t2, h2, g2⟩ := ofList_ok h1
    refine ⟨t2, h2, fun j => ?_⟩
    rw [g2, g1]
    simp only [List.length_cons]
    by_cases hj : j = i
    · subst hj
      rw [if_neg (by omega), if_pos (by omega)]
      simp
    · by_cases hc : i + 1 ≤ j ∧ j < i + 1 + r.length
      · rw [if_pos hc, if_pos (by omega)]
        have : j - i = (j - i.succ) + 1 := by omega
        rw [this]
        simp
      · rw [if_neg (by omega), if_neg hj, if_neg (by omega)]

theorem cellsAt_list {s : Ren} {vs : List Value} {c : Array Value} {t : TV} (h : VRs s vs.toArray c) (ht : ∀ j, t.get j = if 0 ≤ j ∧ j < 0 + vs.length then vs[j - 0]? else (TV.leaf : TV).get j) : CellsAt s vs.length t c := by
  intro i v hi hv
  rw [ht, if_pos (by omega)] at hv
  exact h.get (by simpa using hv)

/-- A new row of cells, known whole. -/
noncomputable def newCells {β : Type} (e : TypeId) (esz : Nat) (vs : List Value) (st : St) (K : Nat → St → Option β) : Option β :=
  ofList vs 0 .leaf fun t => newO (.cells vs.length t e esz false (.upto 0)) st K
theorem newCells_ok {β : Type} {s : Ren} {st : St} {w : World} {e : TypeId} {esz : Nat} {vs : List Value} {vs' : Array Value} {K : Nat → St → Option β} {b : β} (hM : Mem s st w) (hv : VRs s vs.toArray vs') (h : newCells e esz vs st K = some b) :
    ∃ s' st', K st.c st' = some b ∧ Mem s' st' (w.alloc (.cells vs' e)) ∧ Ev s st w s' st' (w.alloc (.cells vs' e)) ∧ s' st.c = some ⟨w.heap.size, 0⟩ := by
  obtain ⟨t, h1, ht⟩ := ofList_ok h
  refine newO_ok hM h1 _ 0 fun s' hs _ => ⟨.inr rfl, cellsAt_list (hv.mono hs) ht, ?_, .inl rfl⟩
  have := hv.1
  simp at this ⊢
  exact this.symm

noncomputable def pt (g : Nat) : Value := .pointer (some ⟨g, 0, none⟩)

/-- new(T), a variable at its zero. -/
noncomputable def allocA (P : Program) (e : TypeId) (st : St) : Option (Value × St) :=
  match P.info? e with
  | some i => match i.zero with
    | some z => bif plainV FUEL z then newCells e 0 z.cells.toList st fun g st' => some (pt g, st') else none
    | none => none
  | none => none
theorem allocA_ok {P : Program} {s : Ren} {st st' : St} {w : World} {e : TypeId} {v : Value} (hM : Mem s st w) (h : allocA P e st = some (v, st')) : SV P s st w (Instr.alloc e true (.tuple #[])) v st' := by
  unfold allocA at h
  split at h
  · rename_i i hi
    split at h
    · rename_i z hz
      cases hp : plainV FUEL z with
      | false => simp [hp] at h
      | true =>
        simp only [hp, cond_true] at h
        obtain ⟨s', st1, h1, m1, e1, hs⟩ := newCells_ok (vs' := z.cells) hM (by simpa using (plainV_self (s := s) hp).cells) h
        cases h1
        refine ⟨s', _, _, ?_, .ptr _ _ _ hs, m1, e1⟩
        simp [Instr.alloc, zeroValue, typeInfo, hi, hz, newVar, newRow]
    · cases h
  · cases h

noncomputable def boxA (e : TypeId) (v : Value) (st : St) : Option (Value × St) := newCells e 0 v.cells.toList st fun g st' => some (pt g, st')
theorem boxA_ok {P : Program} {s : Ren} {st st' : St} {w : World} {e : TypeId} {x x' v : Value} (hM : Mem s st w) (hx : VR s x x') (h : boxA e x st = some (v, st')) : SV P s st w (Instr.box e x') v st' := by
  obtain ⟨s', st1, h1, m1, e1, hs⟩ := newCells_ok (vs' := x'.cells) hM (by simpa using hx.cells) h
  cases h1
  refine ⟨s', _, _, ?_, .ptr _ _ _ hs, m1, e1⟩
  simp [Instr.box, newVar, newRow]

/-- Is a type a struct's, or an array's? -/
noncomputable def aggO (P : Program) (t : TypeId) : Option Bool :=
  match P.underlying t with
  | some (.struct _) | some (.array _ _) => some true
  | some _ => some false
  | none => none
noncomputable def szO (P : Program) (t : TypeId) : Option Nat :=
  match P.info? t with
  | some i => some i.size
  | none => none
theorem run_szO {P : Program} {t : TypeId} {n : Nat} (h : szO P t = some n) (w : World) : (sizeOf t).run P w = .ok n w := by
  unfold szO at h
  split at h
  · rename_i i hi
    cases h
    simp [sizeOf, typeInfo, hi]
  · cases h
theorem run_aggO {P : Program} {t : TypeId} {b : Bool} (h : aggO P t = some b) (w : World) : (isAgg t).run P w = .ok b w := by
  unfold aggO at h
  split at h
  · rename_i hi
    cases h
    simp [isAgg, run_underlying hi]
  · rename_i hi
    cases h
    simp [isAgg, run_underlying hi]
  · rename_i d hn1 hn2 hi
    cases h
    simp only [isAgg, Sem.run_bind, run_underlying hi, Result.andThen_ok]
    rfl
  · cases h

theorem VRs.of_lists {s : Ren} {vs vs' : List Value} (hl : vs.length = vs'.length) (h : ∀ (j : Nat) (v : Value), vs[j]? = some v → ∃ v', vs'[j]? = some v' ∧ VR s v v') : VRs s vs.toArray vs'.toArray :=
  VRs.of_get (by simpa using hl) fun i v hv => by
    obtain ⟨v', e, r⟩ := h i v (by simpa using hv)
    exact ⟨v', by simpa using e, r⟩

theorem loads_run {P : Program} {s : Ren} {st : St} {w : World} {g off n : Nat} {l : Loc} {vs : List Value} (hM : Mem s st w) (hl : s g = some l) (h : loadsO st g off n = some vs) :
    ∃ vs' : List Value, (loadCells ⟨l.blk, off, none⟩ n).run P w = .ok vs'.toArray w ∧ vs'.length = n ∧ vs.length = n ∧ (∀ (j : Nat) (v' : Value), vs'[j]? = some v' → w.cell? ⟨l.blk, off + j, none⟩ = some v') ∧ VRs s vs.toArray vs'.toArray ∧ ∀ (j : Nat) (v : Value), vs[j]? = some v → ∃ v', vs'[j]? = some v' ∧ VR s v v' := by
  obtain ⟨h1, vs', h2, h3, h4⟩ := loadsO_ok hM hl h
  refine ⟨vs', ?_, h2, h1, h3, VRs.of_lists (by omega) h4, h4⟩
  have := run_loadCells_list (P := P) w ⟨l.blk, off, none⟩ vs' (fun j v hj => by rw [addr_add]; exact h3 j v hj)
  rwa [h2] at this

/-- What stands at an address. -/
noncomputable def loadV (P : Program) (st : St) (t : TypeId) (g off : Nat) : Option Value :=
  match aggO P t with
  | some true => match szO P t with
    | some n => match loadsO st g off n with
      | some vs => some (.agg vs.toArray)
      | none => none
    | none => none
  | some false => loadO st g off
  | none => none
theorem loadV_ok {P : Program} {s : Ren} {st : St} {w : World} {t : TypeId} {g off : Nat} {v : Value} {l : Loc} (hM : Mem s st w) (hl : s g = some l) (h : loadV P st t g off = some v) :
    ∃ v', (loadVar t ⟨l.blk, off, none⟩).run P w = .ok v' w ∧ VR s v v' := by
  unfold loadV at h
  split at h
  · rename_i ha
    split at h
    · rename_i n hn
      split at h
      · rename_i vs hvs
        cases h
        obtain ⟨vs', h1, h2, h3, _, h4, _⟩ := loads_run (P := P) hM hl hvs
        refine ⟨.agg vs'.toArray, ?_, .agg _ _ h4.1 h4.2⟩
        simp [loadVar, run_aggO ha, run_szO hn, h1]
      · cases h
    · cases h
  · rename_i ha
    obtain ⟨v', h1, h2⟩ := loadO_ok hM hl h
    refine ⟨v', ?_, h2⟩
    simp [loadVar, run_aggO ha, h1]
  · cases h

noncomputable def loadA (P : Program) (t : TypeId) (a : Value) (st : St) : Option (Value × St) :=
  match a with
  | .pointer (some ⟨g, off, none⟩) => match loadV P st t g off with
    | some v => some (v, st)
    | none => none
  | _ => none
theorem loadA_ok {P : Program} {s : Ren} {st st' : St} {w : World} {t : TypeId} {a a' v : Value} (hM : Mem s st w) (ha : VR s a a') (h : loadA P t a st = some (v, st')) : SV P s st w (Instr.loadAt t a') v st' := by
  unfold loadA at h
  split at h
  · rename_i g off
    split at h
    · rename_i u hu
      cases h
      cases ha with
      | ptr _ _ l hl =>
        obtain ⟨v', h1, h2⟩ := loadV_ok hM hl hu
        refine .same hM (v' := v') ?_ h2
        simp [Instr.loadAt, Instr.sureAddr, h1]
    · cases h
  · cases h

/-- A store: what the world is then. -/
noncomputable def SU (P : Program) (s : Ren) (st : St) (w : World) (e : Sem Unit) (st' : St) : Prop :=
  ∃ s' w', e.run P w = .ok () w' ∧ Mem s' st' w' ∧ Ev s st w s' st' w'
noncomputable def storeA (P : Program) (t : TypeId) (a x : Value) (st : St) : Option St :=
  match a with
  | .pointer (some ⟨g, off, none⟩) => match szO P t with
    | some n => bif Nat.beq n x.cells.size then storesO g off x.cells.toList st some else none
    | none => none
  | _ => none
theorem storeA_ok {P : Program} {s : Ren} {st st' : St} {w : World} {t : TypeId} {a a' x x' : Value} (hM : Mem s st w) (ha : VR s a a') (hx : VR s x x') (h : storeA P t a x st = some st') : SU P s st w (Instr.storeAt t a' x') st' := by
  unfold storeA at h
  split at h
  · rename_i g off
    split at h
    · rename_i n hn
      cases hb : Nat.beq n x.cells.size with
      | false => simp [hb] at h
      | true =>
        simp only [hb, cond_true] at h
        have hsz : x'.cells.size = n := by
          have := hx.cells.1
          have : n = x.cells.size := by simpa using hb
          omega
        cases ha with
        | ptr _ _ l hl =>
          obtain ⟨st1, w1, h1, h2, h3, h4, _⟩ := storesO_ok (P := P) hl (vs' := x'.cells.toList) off 0 hM (by simpa using hx.cells.1) (fun j v hv => by
            obtain ⟨v', e, r⟩ := hx.cells.get (i := j) (v := v) (by simpa using hv)
            exact ⟨v', by simpa using e, r⟩) h
          cases h1
          refine ⟨s, w1, ?_, h3, h4⟩
          simp [Instr.storeAt, Instr.sureAddr, storeVar, run_szO hn, hsz, h2]
    · cases h
  · cases h

theorem fill_rel {s : Ren} {place : Nat → Option (Nat × Nat)} : ∀ {ps ps' : List (Nat × Value)} {cs cs' r : Array Value}, VRs s cs cs' → ps.length = ps'.length →
    (∀ (j : Nat) (p : Nat × Value), ps[j]? = some p → ∃ v', ps'[j]? = some (p.1, v') ∧ VR s p.2 v') → Instr.fill place cs ps = some r → ∃ r', Instr.fill place cs' ps' = some r' ∧ VRs s r r'
  | [], ps', cs, cs', r, hcs, hl, hp, h => by
    have : ps' = [] := List.eq_nil_of_length_eq_zero (by simpa using hl.symm)
    subst this
    cases h
    exact ⟨cs', rfl, hcs⟩
  | (i, v) :: ps, [], cs, cs', r, hcs, hl, hp, h => by simp at hl
  | (i, v) :: ps, p' :: ps', cs, cs', r, hcs, hl, hp, h => by
    obtain ⟨v', e, hv⟩ := hp 0 (i, v) rfl
    simp at e
    subst e
    simp only [Instr.fill] at h ⊢
    split at h
    · cases h
    · rename_i off size hpl
      have hc : VRs s v.cells v'.cells := hv.cells
      split at h
      · cases h
      · rename_i hcond
        rw [if_neg (by rw [← hc.1, ← hcs.1]; exact hcond)]
        refine fill_rel (cs := v.cells.zipIdx.foldl (fun cs (c, j) => cs.setIfInBounds (off + j) c) cs) ?_ (by simpa using hl) (fun j p hj => ?_) h
        · have key : ∀ (l l' : List (Value × Nat)) (a a' : Array Value), VRs s a a' → l.length = l'.length → (∀ (j : Nat) (x : Value × Nat), l[j]? = some x → ∃ y, l'[j]? = some (y, x.2) ∧ VR s x.1 y) →
              VRs s (l.foldl (fun cs (x : Value × Nat) => cs.setIfInBounds (off + x.2) x.1) a) (l'.foldl (fun cs (x : Value × Nat) => cs.setIfInBounds (off + x.2) x.1) a') := by
            intro l
            induction l with
            | nil =>
              intro l' a a' ha hl' _
              have : l' = [] := List.eq_nil_of_length_eq_zero (by simpa using hl'.symm)
              subst this
              exact ha
            | cons x l ih =>
              intro l' a a' ha hl' hx
              match l', hl' with
              | y :: l', hl' =>
                obtain ⟨z, e, hz⟩ := hx 0 x rfl
                simp at e
                subst e
                simp only [List.foldl_cons]
                refine ih l' _ _ ⟨by simp [ha.1], fun k h1 h2 => ?_⟩ (by simpa using hl') (fun j q hq => by
                  obtain ⟨y, e1, e2⟩ := hx (j + 1) q (by simpa using hq)
                  exact ⟨y, by simpa using e1, e2⟩)
                have h1' : k < a.size := by simpa using h1
                have h2' : k < a'.size := by simpa using h2
                rw [Array.getElem_setIfInBounds h1', Array.getElem_setIfInBounds h2']
                split
                · exact hz
                · exact ha.2 k h1' h2'
          have := key v.cells.zipIdx.toList v'.cells.zipIdx.toList cs cs' hcs (by simp [hc.1]) (fun j x hj => by
            have hj' : v.cells.zipIdx[j]? = some x := by simpa using hj
            rw [Array.getElem?_zipIdx] at hj'
            obtain ⟨u, hu, rfl⟩ := Option.map_eq_some_iff.1 hj'
            obtain ⟨u', e1, e2⟩ := hc.get hu
            exact ⟨u', by simp [e1], e2⟩)
          rw [Array.foldl_toList, Array.foldl_toList] at this
          exact this
        · obtain ⟨u, e1, e2⟩ := hp (j + 1) p (by simpa using hj)
          exact ⟨u, by simpa using e1, e2⟩

end Go.Proofs.Ytfilbknnpjbmcaa.Cx
