/- A closed call, run: a region whose last operation stores, and that stands in no order with some that only reckon, or store in other blocks. No program of its own. -/
import Derived.Test.YtfilbknnpjbmcaaCxT
namespace Go.Proofs.Ytfilbknnpjbmcaa.Cx
open Go Go.RowKit Go.BigFrame

/-- A world with one block turned. -/
def over (w : World) (b : Nat) (o : Obj) : World := { w with heap := w.heap.setIfInBounds b o }
theorem over_at (w : World) (b : Nat) (o o0 : Obj) (h : w.heap[b]? = some o0) : (over w b o).heap[b]? = some o := by
  obtain ⟨hlt, _⟩ := Array.getElem?_eq_some_iff.1 h
  simp [over, hlt]
theorem over_ne (w : World) {b c : Nat} (o : Obj) (h : b ≠ c) : (over w b o).heap[c]? = w.heap[c]? := by
  simp only [over]
  rw [Array.getElem?_setIfInBounds_ne h]
theorem over_over (w : World) (b : Nat) (o o' : Obj) : over (over w b o) b o' = over w b o' := by
  simp only [over]
  congr 1
  apply Array.ext_getElem?
  intro i
  by_cases h : b = i
  · subst h; simp [Array.getElem?_setIfInBounds]
  · simp only [Array.getElem?_setIfInBounds_ne h]
theorem over_same (w : World) (b : Nat) (o : Obj) (h : w.heap[b]? = some o) : over w b o = w := by
  simp only [over]
  have : w.heap.setIfInBounds b o = w.heap := by
    apply Array.ext_getElem?
    intro i
    by_cases hi : b = i
    · subst hi
      obtain ⟨hlt, _⟩ := Array.getElem?_eq_some_iff.1 h
      rw [h]
      simp [hlt]
    · rw [Array.getElem?_setIfInBounds_ne hi]
  rw [this]
theorem over_comm (w : World) {b c : Nat} (o o' : Obj) (h : b ≠ c) : over (over w b o) c o' = over (over w c o') b o := by
  simp only [over]
  congr 1
  exact Array.setIfInBounds_comm o o' h
theorem setCell_over (w : World) (b off : Nat) (v : Value) (c : Array Value) (t : TypeId) (p : Nat × Nat) (h : w.heap[b]? = some (.cells c t p)) : w.setCell ⟨b, off, none⟩ v = over w b (.cells (c.setIfInBounds off v) t p) := by
  simp only [World.setCell, over]
  congr 1
  apply Array.ext_getElem?
  intro i
  rw [Array.getElem?_modify]
  by_cases hi : b = i
  · subst hi
    obtain ⟨hlt, _⟩ := Array.getElem?_eq_some_iff.1 h
    rw [if_pos rfl, h]
    simp [hlt]
  · rw [if_neg hi, Array.getElem?_setIfInBounds_ne hi]
/-- What a row of stores does: it turns its block, and asks nothing of the others. -/
theorem storeCells_over {P : Program} {b : Nat} {t : TypeId} {p : Nat × Nat} : ∀ (vs : List Value) (off i : Nat) (w w' : World) (c : Array Value), w.heap[b]? = some (.cells c t p) → (storeCells ⟨b, off, none⟩ vs i).run P w = .ok () w' →
    ∃ c', w' = over w b (.cells c' t p) ∧ ∀ u : World, u.heap[b]? = some (.cells c t p) → (storeCells ⟨b, off, none⟩ vs i).run P u = .ok () (over u b (.cells c' t p))
  | [], off, i, w, w', c, hw, h => by
    simp only [storeCells, Sem.run_pure, Result.ok.injEq, true_and] at h
    subst h
    exact ⟨c, (over_same _ _ _ hw).symm, fun u hu => by simp only [storeCells, Sem.run_pure, over_same _ _ _ hu]⟩
  | v :: r, off, i, w, w', c, hw, h => by
    have hone : v.oneCell' = true := by
      cases v with
      | agg a => simp only [storeCells, Sem.run_bind, store, Sem.run] at h; cases h
      | tuple a => simp only [storeCells, Sem.run_bind, store, Sem.run] at h; cases h
      | _ => rfl
    have hst : ∀ u : World, u.heap[b]? = some (.cells c t p) → (store ((⟨b, off, none⟩ : Addr).add i) v).run P u =
        match c[off + i]? with
        | some _ => if p.1 ≤ off + i && off + i < p.2 then .halt (.unsupported (.unsafePointer "a write to bytes that a string shares")) u else .ok () (over u b (.cells (c.setIfInBounds (off + i) v) t p))
        | none => .halt (.stuck "store: no such cell") u := by
      intro u hu
      rw [run_store P u _ v _ hone, addr_add]
      have hc : u.cell? ⟨b, off + i, none⟩ = c[off + i]? := by simp [World.cell?, hu]
      have hf : u.frozen? ⟨b, off + i, none⟩ = (p.1 ≤ off + i && off + i < p.2) := by simp [World.frozen?, hu]
      rw [hc, hf]
      cases hx : c[off + i]? with
      | none => simp [World.farStore, hu, World.noCell]
      | some y => simp only [setCell_over u b (off + i) v c t p hu]
    rw [storeCells, Sem.run_bind, hst w hw] at h
    cases hx : c[off + i]? with
    | none => rw [hx] at h; cases h
    | some y =>
      rw [hx] at h
      simp only at h
      cases hf : (decide (p.1 ≤ off + i) && decide (off + i < p.2)) with
      | true => rw [hf] at h; cases h
      | false =>
        rw [hf] at h
        simp only [Bool.false_eq_true, if_false, Result.andThen_ok] at h
        obtain ⟨c', h1, h2⟩ := storeCells_over r off (i + 1) _ w' (c.setIfInBounds (off + i) v) (over_at _ _ _ _ hw) h
        refine ⟨c', by rw [h1, over_over], fun u hu => ?_⟩
        rw [storeCells, Sem.run_bind, hst u hu, hx]
        simp only [hf, Bool.false_eq_true, if_false, Result.andThen_ok]
        rw [h2 _ (over_at _ _ _ _ hu), over_over]

/-- The block of a row that is stored. -/
theorem storesO_cells {β : Type} {g off : Nat} {v : Value} {r : List Value} {st : St} {K : St → Option β} {b : β} (h : storesO g off (v :: r) st K = some b) : ∃ n t e esz opn fz, st.H.get g = some (.cells n t e esz opn fz) := by
  unfold storesO storeO at h
  split at h
  · rename_i hg; exact ⟨_, _, _, _, _, _, hg⟩
  · rename_i hg; exact ⟨_, _, _, _, _, _, hg⟩
  · cases h
/-- A store, run: it turns its block, and asks nothing of the others. -/
theorem store_over {P : Program} {s : Ren} {st st2 : St} {w w' : World} {t : TypeId} {ao xo : Operand} {g off : Nat} {vx : Value} {ρ : Operand → Value} {o : Oper} (ho : o.op = .store t ao xo) (hM : Mem s st w)
    (ha : VR s (.pointer (some ⟨g, off, none⟩)) (ρ ao)) (hx : VR s vx (ρ xo)) (h : storeA P t (.pointer (some ⟨g, off, none⟩)) vx st = some st2) (hr : (execOp ρ o).run P w = .ok .skip w') :
    ∃ l o', s g = some l ∧ ρ ao = .pointer (some ⟨l.blk, off, none⟩) ∧ w' = over w l.blk o' ∧ ∀ u : World, u.heap[l.blk]? = w.heap[l.blk]? → (execOp ρ o).run P u = .ok .skip (over u l.blk o') := by
  unfold storeA at h
  simp only at h
  split at h
  · rename_i n hn
    cases hb : Nat.beq n vx.cells.size with
    | false => simp [hb] at h
    | true =>
      simp only [hb, cond_true] at h
      have hsz : (ρ xo).cells.size = n := by
        have h1 := hx.cells.1
        have h2 : n = vx.cells.size := by simpa using hb
        omega
      generalize hA : ρ ao = A at ha
      cases ha with
      | ptr _ _ l hl =>
        have hrun : ∀ u : World, (execOp ρ o).run P u = match (storeCells ⟨l.blk, off, none⟩ (ρ xo).cells.toList).run P u with
            | .ok _ u' => .ok .skip u'
            | .halt x u' => .halt x u' := by
          intro u
          simp only [execOp, ho, hA]
          rw [Sem.run_bind]
          have : (Instr.storeAt t (.pointer (some ⟨l.blk, off, none⟩)) (ρ xo)).run P u = (storeCells ⟨l.blk, off, none⟩ (ρ xo).cells.toList).run P u := by
            simp [Instr.storeAt, Instr.sureAddr, storeVar, run_szO hn, hsz]
          rw [this]
          cases (storeCells ⟨l.blk, off, none⟩ (ρ xo).cells.toList).run P u <;> rfl
        have hr' := (hrun w).symm.trans hr
        cases hq : (storeCells ⟨l.blk, off, none⟩ (ρ xo).cells.toList).run P w with
        | halt x u' => rw [hq] at hr'; cases hr'
        | ok x u' =>
          rw [hq] at hr'
          simp only [Result.ok.injEq, true_and] at hr'
          subst hr'
          cases hcs : vx.cells.toList with
          | nil =>
            have hnil : (ρ xo).cells.toList = [] := by
              have h1 := hx.cells.1
              have h2 : vx.cells.size = 0 := by rw [← Array.length_toList, hcs]; rfl
              exact List.eq_nil_of_length_eq_zero (by rw [Array.length_toList]; omega)
            rw [hnil] at hq hrun
            simp only [storeCells, Sem.run_pure, Result.ok.injEq, true_and] at hq
            subst hq
            have hsame : ∀ u : World, u.heap[l.blk]? = w.heap[l.blk]? → over u l.blk ((w.heap[l.blk]?).getD default) = u := by
              intro u hu
              cases hh : w.heap[l.blk]? with
              | some ob => exact over_same _ _ _ (by rw [hu, hh]; rfl)
              | none =>
                rw [hh] at hu
                have : u.heap.size ≤ l.blk := Array.getElem?_eq_none_iff.1 hu
                simp only [over]
                congr 1
                exact Array.setIfInBounds_eq_of_size_le this
            refine ⟨l, (w.heap[l.blk]?).getD default, hl, rfl, (hsame w rfl).symm, fun u hu => ?_⟩
            rw [hrun, hsame u hu]
            simp only [storeCells, Sem.run_pure]
          | cons v r =>
            rw [hcs] at h
            obtain ⟨m, tt, e, esz, opn, fz, hg⟩ := storesO_cells h
            obtain ⟨l', ob, e1, e2, e3⟩ := hM.at_ g _ hg
            cases e1.symm.trans hl
            cases ob with
            | cells c e' p =>
              obtain ⟨c', h1, h2⟩ := storeCells_over _ _ _ _ _ _ e2 hq
              refine ⟨l, _, hl, rfl, h1, fun u hu => ?_⟩
              rw [hrun, h2 u (by rw [hu]; exact e2)]
            | _ => exact e3.elim
  · cases h

/-- Operations that only reckon: what they come to hangs on no world. -/
theorem calm_op {E : Env} {s : Ren} {ev : Operand → Option Value} {cev : Operand → Value} {o : Oper} {S S' : St} {v : Value} (hev : ∀ x ∈ o.op.operands, ∀ v, ev x = some v → VR s v (cev x)) (h : aop E ev o S = some (.val v S'))
    (hk : (∃ x, o.op = .move x ∨ o.op = .assign x) ∨ (∃ t x f, o.op = .fieldAddr t x f) ∨ (∃ t x i, o.op = .indexAddr t x i) ∨ ∃ x a, o.op = .nilCheck x ∧ ev x = some (.pointer (some a))) :
    ∃ v', VR s v v' ∧ ∀ u : World, (execOp cev o).run E.P u = .ok (.value v') u := by
  obtain ⟨dst, op, type, pos, after, guard⟩ := o
  have one : ∀ {x : Option Value} {r : Res}, oneA S x = some r → ∃ v, x = some v ∧ r = .val v S := by
    intro x r hx
    obtain ⟨v, e, rfl⟩ := oneA_some hx
    exact ⟨v, e, rfl⟩
  unfold aop aopC at h
  rcases hk with ⟨x, rfl | rfl⟩ | ⟨t, x, f, rfl⟩ | ⟨t, x, i, rfl⟩ | ⟨x, a, rfl, hx⟩
  · obtain ⟨v1, e, h1⟩ := one h
    cases h1
    exact ⟨cev x, hev x (by simp [Op.operands]) _ e, fun u => rfl⟩
  · obtain ⟨v1, e, h1⟩ := one h
    cases h1
    exact ⟨cev x, hev x (by simp [Op.operands]) _ e, fun u => rfl⟩
  · simp only at h
    split at h
    · rename_i a ha
      obtain ⟨v1, e, h1⟩ := one h
      cases h1
      have hx := hev x (by simp [Op.operands]) _ ha
      unfold fieldAddrA at e
      split at e
      · rename_i fs g off hu
        split at e
        · rename_i fd hf
          split at e
          · rename_i n hn
            cases e
            simp only [execOp]
            generalize cev x = A at hx
            cases hx with
            | ptr _ _ l hl =>
              refine ⟨.pointer (some ⟨l.blk, off + fd.offset, none⟩), .ptr _ _ _ hl, fun u => ?_⟩
              rw [Sem.run_bind]
              simp [Instr.fieldAt, run_underlying hu, hf, Instr.sureAddr, fieldPlace, run_szO hn, addr_add]
          · cases e
        · cases e
      · cases e
    · cases h
  · simp only at h
    split at h
    · rename_i a b ha hb
      obtain ⟨v1, e, h1⟩ := one h
      cases h1
      have hx := hev x (by simp [Op.operands]) _ ha
      have hi := hev i (by simp [Op.operands]) _ hb
      simp only [execOp]
      generalize cev x = A at hx
      generalize cev i = B at hi
      unfold indexAddrA at e
      split at e
      · rename_i len e' g off n hu hn
        cases hb2 : Nat.blt n len with
        | false => simp [hb2] at e
        | true =>
          simp only [hb2, cond_true] at e
          rw [Nat.blt_eq] at hb2
          split at e
          · rename_i k hk
            cases e
            obtain ⟨kk, rfl⟩ := natO_ok hn hi
            cases hx with
            | ptr _ _ l hl =>
              refine ⟨.pointer (some ⟨l.blk, off + n * k, none⟩), .ptr _ _ _ hl, fun u => ?_⟩
              rw [Sem.run_bind]
              simp [Instr.indexAt, asIntOf, run_underlying hu, Instr.sureAddr, hb2, run_szO hk, addr_add]
          · cases e
      · rename_i e' g off len c n hu hn
        cases hb2 : Nat.blt n len with
        | false => simp [hb2] at e
        | true =>
          simp only [hb2, cond_true] at e
          rw [Nat.blt_eq] at hb2
          split at e
          · rename_i k hk
            cases e
            obtain ⟨kk, rfl⟩ := natO_ok hn hi
            have key : ∀ (l : Loc) (c' : Nat), s g = some l → ∃ v', VR s (.pointer (some ⟨g, off + n * k, none⟩)) v' ∧ ∀ u : World, (do pure (Next.value (← Instr.indexAt t (.slice (some ⟨l.blk, off, none⟩) len c') (.int kk (n : Int)))) : Sem Next).run E.P u = .ok (.value v') u := by
              intro l c' hl
              refine ⟨.pointer (some ⟨l.blk, off + n * k, none⟩), .ptr _ _ _ hl, fun u => ?_⟩
              rw [Sem.run_bind]
              simp [Instr.indexAt, asIntOf, run_underlying hu, hb2, run_szO hk, addr_add]
            cases hx with
            | slice _ _ _ _ l hl hc => exact key l _ hl
            | sliceEnd _ _ _ c _ _ l hl _ _ => exact key l _ hl
            | sliceEmpty _ _ _ _ _ h0 _ => omega
          · cases e
      · cases e
    · cases h
  · simp only at h
    rw [hx] at h
    obtain ⟨v1, e, h1⟩ := one h
    cases h1
    cases e
    have hx' := hev x (by simp [Op.operands]) _ hx
    simp only [execOp]
    generalize cev x = A at hx'
    cases hx' with
    | ptr g o l hl => exact ⟨_, .ptr _ _ _ hl, fun u => rfl⟩
/- Orders. -/
def EdgeOf (ops : Array Oper) (i j : Nat) : Prop := ∃ o e, ops[i]? = some o ∧ e ∈ o.after.toList ∧ Region.binds .any e = true ∧ e.on = j
inductive Lin (n : Nat) (edge : Nat → Nat → Prop) : (Nat → Prop) → List Nat → Prop where
  | nil {D : Nat → Prop} : (∀ i, i < n → D i) → Lin n edge D []
  | cons {D D' : Nat → Prop} {i : Nat} {L : List Nat} : i < n → ¬ D i → (∀ j, edge i j → D j) → (∀ j, D' j ↔ (D j ∨ j = i)) → Lin n edge D' L → Lin n edge D (i :: L)
theorem lin_of {ops : Array Oper} (hlt : ∀ i j, EdgeOf ops i j → j < i) : ∀ (fuel t : Nat) (listed : Array Bool), listed.size = ops.size → left ops.size listed ≤ fuel → Lin ops.size (EdgeOf ops) (Did listed) (Region.linearise.go .any ops fuel t listed [])
  | fuel, t, listed, hl, hf => by
    by_cases hall : ∀ i, i < ops.size → Did listed i
    · have hempty : Region.linearise.go .any ops fuel t listed [] = [] := by
        cases fuel with
        | zero => simp [Region.linearise.go]
        | succ fuel =>
          rw [lin_eq]
          have hr : Region.ready .any ops listed = [] := by
            cases hrr : Region.ready .any ops listed with
            | nil => rfl
            | cons x xs =>
              have hx := ready_mem hl (i := x) (by rw [hrr]; simp)
              exact absurd (hall x hx.1) hx.2.1
          rw [hr]
          simp
      rw [hempty]
      exact .nil hall
    · have hex : ∃ i, i < ops.size ∧ ¬ Did listed i := Classical.byContradiction fun hn => hall fun i hi => Classical.byContradiction fun hd => hn ⟨i, hi, hd⟩
      have hrdy : Region.ready .any ops listed ≠ [] := by
        obtain ⟨i, hi, hnd⟩ := hex
        have key : ∀ i, i < ops.size → ¬ Did listed i → ∃ j, j ∈ Region.ready .any ops listed := by
          intro i
          induction i using Nat.strongRecOn with
          | _ i ih =>
            intro hi hnd
            by_cases hedge : ∀ o, ops[i]? = some o → ∀ e ∈ o.after.toList, Region.binds .any e = true → Did listed e.on
            · exact ⟨i, ready_of hi hl hnd hedge⟩
            · have : ∃ o e, ops[i]? = some o ∧ e ∈ o.after.toList ∧ Region.binds .any e = true ∧ ¬ Did listed e.on := Classical.byContradiction fun hn => hedge fun o ho e he hbe => Classical.byContradiction fun hd => hn ⟨o, e, ho, he, hbe, hd⟩
              obtain ⟨o, e, ho, he, hbe, hd⟩ := this
              have hlt' := hlt i e.on ⟨o, e, ho, he, hbe, rfl⟩
              exact ih e.on hlt' (by omega) hd
        obtain ⟨j, hj⟩ := key i hi hnd
        intro he
        rw [he] at hj
        simp at hj
      match fuel, hf with
      | 0, hf =>
        obtain ⟨i, hi, hnd⟩ := hex
        have := left_pos hl hi hnd
        omega
      | fuel + 1, hf =>
        rw [lin_eq]
        have hlen : 0 < (Region.ready .any ops listed).length := List.length_pos_iff.2 hrdy
        have hlt2 : t % (Region.ready .any ops listed).length < (Region.ready .any ops listed).length := Nat.mod_lt _ hlen
        rw [List.getElem?_eq_getElem hlt2]
        simp only []
        generalize hi' : (Region.ready .any ops listed)[t % (Region.ready .any ops listed).length] = i
        have hmem : i ∈ Region.ready .any ops listed := hi' ▸ List.getElem_mem hlt2
        obtain ⟨hi, hnd, hedge⟩ := ready_mem hl hmem
        have hls := left_set hl hi hnd
        refine .cons hi hnd (fun j ⟨o, e, h1, h2, h3, h4⟩ => h4 ▸ hedge o h1 e h2 h3) (fun j => ?_) (lin_of hlt fuel (t / (Region.ready .any ops listed).length) (listed.setIfInBounds i true) (by simpa using hl) (by omega))
        unfold Did
        by_cases hj : j = i
        · subst hj; simp [show j < listed.size by omega]
        · rw [Array.getElem?_setIfInBounds_ne (fun e => hj e.symm)]; simp [hj]

theorem put_eval {a : Act} {dst : Option Tmp} {v : Value} {x : Operand} (h : ∀ d, dst = some d → x ≠ .tmp d) : (a.put dst v).eval x = a.eval x := by
  cases dst with
  | none => rfl
  | some d =>
    cases x with
    | tmp t =>
      have : d ≠ t := fun e => h d rfl (by rw [e])
      simp only [Act.put, Act.eval, Array.getD_eq_getD_getElem?, Array.getElem?_setIfInBounds_ne this]
    | _ => rfl
theorem wanted_free {o : Oper} (h : o.guard = none) (y : Nat → Option Bool) : Region.wanted o y = true := by
  unfold Region.wanted
  rw [h]
theorem noGd_none {g : Option (Nat × Bool)} (h : noGd g = true) : g = none := by cases g with | none => rfl | some _ => cases h
theorem isE_eff {c : Cls} (h : isE c = true) : c = .eff := by cases c <;> first | rfl | cases h
theorem isPur_pur {c : Cls} (h : isPur c = true) : c = .pur := by cases c <;> first | rfl | cases h

section
variable {R : Rg} {s0 : Ren} {w0 : World} {D : Nat → Prop} {a : Act} {s : Ren} {w : World}
/-- An operation that only reckons, in its place. -/
theorem Inv.reckon (h : R.Ok) (hI : Inv R s0 w0 D a s w) {i : Nat} {r : Rec} (hr : R.rs[i]? = some r) (hnd : ¬ D i) (hm : ∀ j, r.m.testBit j = true → D j) (hc : r.cls = .pur)
    (hk : (∃ x, r.o.op = .move x ∨ r.o.op = .assign x) ∨ (∃ t x f, r.o.op = .fieldAddr t x f) ∨ (∃ t x i, r.o.op = .indexAddr t x i) ∨ ∃ x a, r.o.op = .nilCheck x ∧ evT R.E.ng r.tm x = some (.pointer (some a))) :
    ∃ v', (∀ u : World, (execOp a.eval r.o).run R.E.P u = .ok (.value v') u) ∧ Inv R s0 w0 (fun j => D j ∨ j = i) (a.put r.o.dst v') s w := by
  obtain ⟨_, tm1, hone⟩ := h.passed.at_ hr
  obtain ⟨q, f, hA⟩ := hI.at_
  have hne : isEff r = false := by rw [isEff_cls, hc]; rfl
  rcases hone.how with ⟨_, hc2, _⟩ | ⟨_, ⟨_, hc2, _⟩ | ⟨_, hc2, _⟩ | ⟨hnk, hnb, H, hH, ⟨S, ha, he, hc2, hst⟩ | ⟨hc2, _⟩⟩⟩
  · rw [hc] at hc2; cases hc2
  · rw [hc] at hc2; cases hc2
  · rw [hc] at hc2; cases hc2
  · obtain ⟨v', h1, h2⟩ := calm_op (s := s) (cev := a.eval) (fun x hx v hv => hI.operand h hr hnd hm hx hv) ha hk
    refine ⟨v', h2, ?_⟩
    have hM0 : Mem s ⟨.leaf, (stAt R.rs R.stF q).c, (stAt R.rs R.stF q).lim⟩ w := hA.mem.to (fun g o hg => by simp [TH.get_leaf] at hg) hA.mem.new_
    have hnb0 : ∀ g ob, ¬ NewAt R.rs i g ob := fun g ob ⟨r', h1, h2⟩ => by rw [hr] at h1; cases h1; rw [hnb] at h2; cases h2
    exact hI.next h hr hm rfl (.refl s) h1 ⟨q, f, hA.quiet h hr hne hnb0 (fun g => not_insAt hr (by rw [hc]; intro e; cases e) g) hM0 (.refl _ _ _) (fun g o hg => by simp [TH.get_leaf] at hg) rfl rfl⟩
  · rw [hc] at hc2; cases hc2
/-- A store, in its place. -/
theorem Inv.stores (h : R.Ok) (hI : Inv R s0 w0 D a s w) {i : Nat} {r : Rec} (hr : R.rs[i]? = some r) (hnd : ¬ D i) (hm : ∀ j, r.m.testBit j = true → D j) (hc : r.cls = .eff) {t : TypeId} {ao xo : Operand} (ho : r.o.op = .store t ao xo)
    {g off : Nat} (hao : evT R.E.ng r.tm ao = some (.pointer (some ⟨g, off, none⟩))) :
    ∃ s' w' l o', (execOp a.eval r.o).run R.E.P w = .ok .skip w' ∧ Inv R s0 w0 (fun j => D j ∨ j = i) (a.put r.o.dst undef) s' w' ∧ s.le s' ∧ s g = some l ∧ w' = over w l.blk o' ∧
      ∀ u : World, u.heap[l.blk]? = w.heap[l.blk]? → (execOp a.eval r.o).run R.E.P u = .ok .skip (over u l.blk o') := by
  have hil : i < R.rs.length := (List.getElem?_eq_some_iff.1 hr).1
  obtain ⟨_, tm1, hone⟩ := h.passed.at_ hr
  obtain ⟨q, f, hA⟩ := hI.at_
  have hee : isEff r = true := by rw [isEff_cls, hc]; rfl
  have hni : ∀ g, ¬ InsAt R i g := not_insAt hr (by rw [hc]; intro e; cases e)
  rcases hone.how with ⟨_, hc2, _⟩ | ⟨_, ⟨_, hc2, _⟩ | ⟨_, hc2, _⟩ | ⟨hnk, hnb, H, hH, ⟨S, ha, he, hc2, hst⟩ | ⟨hc2, S, hB, hhow⟩⟩⟩
  · rw [hc] at hc2; cases hc2
  · rw [hc] at hc2; cases hc2
  · rw [hc] at hc2; cases hc2
  · rw [hc] at hc2
    have he' : isE (clsOf r.o.op) = false := he
    rw [← hc2] at he'
    cases he'
  obtain ⟨hqi, hno⟩ := Inv.eff h hA hr hnd hm hee
  have hsi : stAt R.rs R.stF i = r.s1 := by simp [stAt, hr]
  obtain ⟨c1, c2, _⟩ := h.passed.near (i - q) q (by omega) (fun e re a b => hno e re a (by omega))
  rw [show q + (i - q) = i by omega, hsi] at c1 c2
  have hS : ∀ g o, H.get g = some o → f g = some o := hA.sight h (p := i) (by rw [hsi]; exact hH) (Nat.le_of_lt hil) (.inl ⟨hqi, hno⟩) fun j g ob hn hj hd => (h.hidden hr hn hj (h.top hr)).2 (by
    rcases hd with hd | hd
    · left
      cases hb : r.m.testBit j with
      | false => rfl
      | true => exact absurd (hm j hb) hd
    · exact .inr hd)
  have hM0 : Mem s ⟨H, r.s1.c, r.s1.lim⟩ w := hA.mem.to hS (by rw [c1, c2]; exact hA.mem.new_)
  have hop : ∀ {res : Res}, aop R.E (evT R.E.ng r.tm) r.o ⟨H, r.s1.c, r.s1.lim⟩ = some res → ∃ vx st2, evT R.E.ng r.tm xo = some vx ∧ storeA R.E.P t (.pointer (some ⟨g, off, none⟩)) vx ⟨H, r.s1.c, r.s1.lim⟩ = some st2 ∧ res = .skip st2 := by
    intro res hx
    unfold aop aopC at hx
    rw [ho] at hx
    simp only [hao] at hx
    split at hx
    · rename_i v u hv hu
      cases hv
      obtain ⟨st2, e1, rfl⟩ := skipA_some hx
      exact ⟨u, st2, hu, e1, rfl⟩
    · cases hx
  have hx1 : ao ∈ r.o.op.operands := by rw [ho]; simp [Op.operands]
  have hx2 : xo ∈ r.o.op.operands := by rw [ho]; simp [Op.operands]
  rcases hhow with ha | ⟨ha, hv⟩ | ⟨fn, args, S', ha, hs⟩
  · obtain ⟨_, _, _, _, e⟩ := hop ha; cases e
  · obtain ⟨vx, st2, e1, e2, e3⟩ := hop ha
    obtain ⟨s', w', h1, h3, h4⟩ := hI.does h hr hnd hm hM0 ha
    obtain ⟨f', hA'⟩ := hA.did h hr hee hnd hm hqi hni hno hH hB h3 h4
    obtain ⟨l, o', k1, k2, k3, k4⟩ := store_over ho hM0 (hI.operand h hr hnd hm hx1 hao) (hI.operand h hr hnd hm hx2 e1) e2 h1
    exact ⟨s', w', l, o', h1, hI.next h hr hm rfl h4.le (by rw [hv]; exact undefR) ⟨_, f', hA'⟩, h4.le, k1, k3, k4⟩
  · obtain ⟨_, _, _, _, e⟩ := hop ha; cases e

/-- A region with the store apart. -/
structure Late (R : Rg) (O : Array Oper) (n : Nat) (X : Oper) (t : TypeId) (ax xx : Operand) (rn : Rec) (H : TH) (gX : Nat) : Prop where
  ok : R.Ok
  at_ : O[n]? = some X
  op : X.op = .store t ax xx
  dst : X.dst = none
  guard : X.guard = none
  size : O.size = R.ops.size
  ops : ∀ i, i ≠ n → O[i]? = R.ops[i]?
  noop : R.ops[n]? = some (noopO X)
  rec_ : R.rs[n]? = some rn
  pur : rn.cls = .pur
  kinds : ∀ i r, R.rs[i]? = some r → rn.m.testBit i = false → i ≠ n → r.o.guard = none ∧ lateR R.E H gX r = true
  bits : ∀ i r d, R.rs[i]? = some r → r.o.dst = some d → (ax = .tmp d ∨ xx = .tmp d) → rn.m.testBit i = true
variable {O : Array Oper} {n : Nat} {X : Oper} {t : TypeId} {ax xx : Operand} {rn : Rec} {H : TH} {gX : Nat}
theorem Late.edges (hL : Late R O n X t ax xx rn H gX) {i : Nat} {o : Oper} (ho : R.ops[i]? = some o) {e : Edge} (he : e ∈ o.after.toList) (hb : Region.binds .any e = true) : EdgeOf O i e.on := by
  by_cases hi : i = n
  · subst hi
    rw [hL.noop] at ho
    cases ho
    exact ⟨X, e, hL.at_, he, hb, rfl⟩
  · exact ⟨o, e, (hL.ops i hi).trans ho, he, hb, rfl⟩
theorem Late.edge_lt (hL : Late R O n X t ax xx rn H gX) {i j : Nat} (h : EdgeOf O i j) : j < i := by
  obtain ⟨o, e, h1, h2, h3, rfl⟩ := h
  have hx : ∃ o', R.ops[i]? = some o' ∧ o'.after = o.after := by
    by_cases hi : i = n
    · subst hi
      rw [hL.at_] at h1
      cases h1
      exact ⟨_, hL.noop, rfl⟩
    · exact ⟨o, (hL.ops i hi).symm.trans h1, rfl⟩
  obtain ⟨o', h4, h5⟩ := hx
  have hi : i < R.ops.size := (Array.getElem?_eq_some_iff.1 h4).1
  have hp : (preOf R.ops)[i]? = some ((preOf R.ops)[i]'(by rw [preOf_len]; exact hi)) := List.getElem?_eq_getElem _
  have ho := (preOf_at hp).2
  rw [h4] at ho
  cases ho
  exact hL.ok.edge hp (by rw [h5]; exact h2) h3
theorem Late.wants (hL : Late R O n X t ax xx rn H gX) : ∀ o tmps, Region.wanted o (yielded O tmps) = Region.wanted o (yielded R.ops tmps) := by
  intro o tmps
  have : yielded O tmps = yielded R.ops tmps := by
    funext j
    unfold Go.yielded
    by_cases hj : j = n
    · subst hj
      rw [hL.at_, hL.noop]
      simp [hL.dst, noopO]
    · rw [hL.ops j hj]
  rw [this]
theorem Late.same (hL : Late R O n X t ax xx rn H gX) {ρ ρ' : Operand → Value} (h1 : ρ ax = ρ' ax) (h2 : ρ xx = ρ' xx) : execOp ρ X = execOp ρ' X := by
  simp only [execOp, hL.op, h1, h2]
/-- The store, done: what comes behind it is done as without it. -/
theorem Late.tail (hL : Late R O n X t ax xx rn H gX) {b : Frame} (k : List Item) (cs : List Frame) : ∀ {L : List Nat} {D : Nat → Prop} {a : Act} {s : Ren} {w : World}, Lin O.size (EdgeOf O) D L → D n → (∀ j, rn.m.testBit j = true → D j) → (∀ i, D i → i < O.size) → Inv R s0 w0 D a s w →
    ∃ a' s' w', Inv R s0 w0 (fun j => j < R.ops.size) a' s' w' ∧ a'.defers = a.defers ∧ s.le s' ∧ ∀ (bX : Nat) (oX : Obj), (∀ g l, hasO (H.get g) = true → g ≠ gX → s' g = some l → l.blk ≠ bX) →
      (∀ u : World, u.heap[bX]? = w'.heap[bX]? → (execOp a'.eval X).run R.E.P u = .ok .skip (over u bX oX)) →
      w'.heap[bX]? = w.heap[bX]? ∧ (∀ u : World, u.heap[bX]? = w.heap[bX]? → (execOp a.eval X).run R.E.P u = .ok .skip (over u bX oX)) ∧
        Steps R.E.P (lone (b.atR a (.inRegion O L :: k)) cs (over w bX oX)) (lone (b.atR a' (.inRegion O [] :: k)) cs (over w' bX oX)) := by
  intro L D a s w hlin
  induction hlin generalizing a s w with
  | nil hall =>
    intro hDn hmn hDl hI
    exact ⟨a, s, w, hI.congr fun i => ⟨fun hi => hall i (by rw [hL.size]; exact hi), fun hi => by rw [← hL.size]; exact hDl i hi⟩, rfl, .refl s, fun bX oX _ hX => ⟨rfl, hX, .refl _ _⟩⟩
  | @cons D D' i L hi hnd hedge hD' hlin ih =>
    intro hDn hmn hDl hI
    have hin : i ≠ n := fun e => hnd (e ▸ hDn)
    have hir : i < R.ops.size := by rw [← hL.size]; exact hi
    obtain ⟨r, hr⟩ : ∃ r, R.rs[i]? = some r := ⟨_, List.getElem?_eq_getElem (by rw [hL.ok.len]; exact hir)⟩
    obtain ⟨hpre, hri, hop0⟩ := hL.ok.rec_ hr
    have hop : O[i]? = some r.o := (hL.ops i hin).trans hop0
    have hm : ∀ j, r.m.testBit j = true → D j := hI.mask hL.ok (fun o ho e he hb => hedge _ (hL.edges ho he hb)) _ hpre
    have hbit : rn.m.testBit i = false := by
      rw [Bool.eq_false_iff]
      exact fun hb => hnd (hmn i hb)
    obtain ⟨hg, hk⟩ := hL.kinds i r hr hbit hin
    have hdst : ∀ x, (ax = x ∨ xx = x) → ∀ d, r.o.dst = some d → x ≠ .tmp d := fun x hx d hd e => by
      have := hL.bits i r d hr hd (by rw [← e]; exact hx)
      rw [hbit] at this
      cases this
    have hw : ∀ tmps, Region.wanted r.o (Go.yielded O tmps) = true := fun tmps => wanted_free hg _
    -- one that only reckons
    have calm : ∀ v', (∀ u : World, (execOp a.eval r.o).run R.E.P u = .ok (.value v') u) → Inv R s0 w0 (fun j => D j ∨ j = i) (a.put r.o.dst v') s w → ∃ a' s' w', Inv R s0 w0 (fun j => j < R.ops.size) a' s' w' ∧ a'.defers = a.defers ∧ s.le s' ∧ ∀ (bX : Nat) (oX : Obj), (∀ g l, hasO (H.get g) = true → g ≠ gX → s' g = some l → l.blk ≠ bX) →
        (∀ u : World, u.heap[bX]? = w'.heap[bX]? → (execOp a'.eval X).run R.E.P u = .ok .skip (over u bX oX)) →
        w'.heap[bX]? = w.heap[bX]? ∧ (∀ u : World, u.heap[bX]? = w.heap[bX]? → (execOp a.eval X).run R.E.P u = .ok .skip (over u bX oX)) ∧
          Steps R.E.P (lone (b.atR a (.inRegion O (i :: L) :: k)) cs (over w bX oX)) (lone (b.atR a' (.inRegion O [] :: k)) cs (over w' bX oX)) := by
      intro v' hrun hI1
      obtain ⟨a', s', w', g1, g2, g3, g4⟩ := ih (a := a.put r.o.dst v') (s := s) (w := w) ((hD' n).2 (.inl hDn)) (fun j hj => (hD' j).2 (.inl (hmn j hj))) (fun j hj => ((hD' j).1 hj).elim (hDl j) (fun e => e ▸ hi)) (hI1.congr hD')
      refine ⟨a', s', w', g1, g2.trans (put_defers _ _ _), g3, fun bX oX hfar hX => ?_⟩
      obtain ⟨q1, q2, q3⟩ := g4 bX oX hfar hX
      refine ⟨q1, fun u hu => ?_, .head (st_val hop (hw _) (hrun _)) q3⟩
      rw [hL.same (ρ' := (a.put r.o.dst v').eval) (put_eval (hdst ax (.inl rfl))).symm (put_eval (hdst xx (.inr rfl))).symm]
      exact q2 u hu
    unfold lateR at hk
    split at hk
    · rename_i t' ao xo ho
      rw [Bool.and_eq_true] at hk
      obtain ⟨hk1, hk2⟩ := hk
      split at hk2
      · rename_i g off hao
        rw [Bool.and_eq_true] at hk2
        obtain ⟨s1, w1, l, o', h1, h2, h3, h4, h5, h6⟩ := Inv.stores hL.ok hI hr hnd hm (isE_eff hk1) ho hao
        obtain ⟨a', s', w', g1, g2, g3, g4⟩ := ih (a := a.put r.o.dst undef) (s := s1) (w := w1) ((hD' n).2 (.inl hDn)) (fun j hj => (hD' j).2 (.inl (hmn j hj))) (fun j hj => ((hD' j).1 hj).elim (hDl j) (fun e => e ▸ hi)) (h2.congr hD')
        refine ⟨a', s', w', g1, g2.trans (put_defers _ _ _), h3.trans g3, fun bX oX hfar hX => ?_⟩
        have hne : l.blk ≠ bX := hfar g l hk2.2 (by intro e; have h9 := hk2.1; rw [e, Nat.beq_refl] at h9; cases h9) (g3 _ _ (h3 _ _ h4))
        obtain ⟨q1, q2, q3⟩ := g4 bX oX hfar hX
        have hb1 : w1.heap[bX]? = w.heap[bX]? := by rw [h5, over_ne _ _ hne]
        refine ⟨q1.trans hb1, fun u hu => ?_, .head (st_skp hop (hw _) (h6 _ (over_ne _ _ (fun e => hne e.symm)))) ?_⟩
        · rw [hL.same (ρ' := (a.put r.o.dst undef).eval) (put_eval (hdst ax (.inl rfl))).symm (put_eval (hdst xx (.inr rfl))).symm]
          exact q2 u (hu.trans hb1.symm)
        · rw [over_comm _ _ _ (fun e => hne e.symm), ← h5]
          exact q3
      · cases hk2
    · rename_i x ho
      rw [Bool.and_eq_true] at hk
      obtain ⟨hk1, hk2⟩ := hk
      split at hk2
      · rename_i y hy
        obtain ⟨v', h1, h2⟩ := Inv.reckon hL.ok hI hr hnd hm (isPur_pur hk1) (.inr (.inr (.inr ⟨x, y, ho, hy⟩)))
        exact calm v' h1 h2
      · cases hk2
    · rename_i x ho
      obtain ⟨v', h1, h2⟩ := Inv.reckon hL.ok hI hr hnd hm (isPur_pur hk) (.inl ⟨x, .inl ho⟩)
      exact calm v' h1 h2
    · rename_i x ho
      obtain ⟨v', h1, h2⟩ := Inv.reckon hL.ok hI hr hnd hm (isPur_pur hk) (.inl ⟨x, .inr ho⟩)
      exact calm v' h1 h2
    · rename_i x y z ho
      obtain ⟨v', h1, h2⟩ := Inv.reckon hL.ok hI hr hnd hm (isPur_pur hk) (.inr (.inl ⟨_, _, _, ho⟩))
      exact calm v' h1 h2
    · rename_i x y z ho
      obtain ⟨v', h1, h2⟩ := Inv.reckon hL.ok hI hr hnd hm (isPur_pur hk) (.inr (.inr (.inl ⟨_, _, _, ho⟩)))
      exact calm v' h1 h2
    · cases hk
/-- All operations, the store among them. -/
theorem Late.all (hL : Late R O n X t ax xx rn H gX) {b : Frame} (k : List Item) (cs : List Frame) : ∀ {L : List Nat} {D : Nat → Prop} {a : Act} {s : Ren} {w : World}, Lin O.size (EdgeOf O) D L → ¬ D n → (∀ i, D i → i < O.size) → Inv R s0 w0 D a s w →
    ∃ a' s' w', Inv R s0 w0 (fun j => j < R.ops.size) a' s' w' ∧ a'.defers = a.defers ∧ s.le s' ∧ ∀ (bX : Nat) (oX : Obj), (∀ g l, hasO (H.get g) = true → g ≠ gX → s' g = some l → l.blk ≠ bX) →
      (∀ u : World, u.heap[bX]? = w'.heap[bX]? → (execOp a'.eval X).run R.E.P u = .ok .skip (over u bX oX)) →
      Steps R.E.P (lone (b.atR a (.inRegion O L :: k)) cs w) (lone (b.atR a' (.inRegion O [] :: k)) cs (over w' bX oX)) := by
  intro L D a s w hlin
  induction hlin generalizing a s w with
  | nil hall =>
    intro hDn
    exact absurd (hall n (Array.getElem?_eq_some_iff.1 hL.at_).1) hDn
  | @cons D D' i L hi hnd hedge hD' hlin ih =>
    intro hDn hDl hI
    have hir : i < R.ops.size := by rw [← hL.size]; exact hi
    by_cases hin : i = n
    · subst hin
      obtain ⟨hpre, hri, hop0⟩ := hL.ok.rec_ hL.rec_
      have hro : rn.o = noopO X := by
        rw [hL.noop] at hop0
        exact (Option.some.inj hop0).symm
      have hm : ∀ j, rn.m.testBit j = true → D j := hI.mask hL.ok (fun o ho e he hb => hedge _ (hL.edges ho he hb)) _ hpre
      obtain ⟨v', h1, h2⟩ := Inv.reckon hL.ok hI hL.rec_ hnd hm hL.pur (.inl ⟨.const (.bool true), .inl (by rw [hro]; rfl)⟩)
      have hd : rn.o.dst = none := by rw [hro]; exact hL.dst
      rw [hd] at h2
      obtain ⟨a', s', w', g1, g2, g3, g4⟩ := Late.tail hL (b := b) k cs hlin ((hD' i).2 (.inr rfl)) (fun j hj => (hD' j).2 (.inl (hm j hj))) (fun j hj => ((hD' j).1 hj).elim (hDl j) (fun e => e ▸ hi)) (h2.congr hD')
      refine ⟨a', s', w', g1, g2, g3, fun bX oX hfar hX => ?_⟩
      obtain ⟨q1, q2, q3⟩ := g4 bX oX hfar hX
      have hstep := st_skp (b := b) (k := k) (cs := cs) (rest := L) hL.at_ (wanted_free hL.guard _) (q2 w rfl)
      rw [hL.dst] at hstep
      exact .head hstep q3
    · obtain ⟨a1, s1, w1, h1, h2, h3, h4⟩ := hI.step hL.ok hir hnd (hI.mask hL.ok (fun o ho e he hb => hedge _ (hL.edges ho he hb))) (O := O) (hL.ops i hin) hL.wants (b := b) L k cs
      obtain ⟨a', s', w', g1, g2, g3, g4⟩ := ih (a := a1) (s := s1) (w := w1) (fun hd => ((hD' n).1 hd).elim hDn (fun e => hin e.symm)) (fun j hj => ((hD' j).1 hj).elim (hDl j) (fun e => e ▸ hi)) (h2.congr hD')
      exact ⟨a', s', w', g1, g2.trans h3, h4.trans g3, fun bX oX hfar hX => h1.trans (g4 bX oX hfar hX)⟩
end
end Go.Proofs.Ytfilbknnpjbmcaa.Cx
