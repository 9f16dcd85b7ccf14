/- A closed call, run: slices cut, appended to, copied, made. No program of its own. -/
import Derived.Test.YtfilbknnpjbmcaaCxD
namespace Go.Proofs.Ytfilbknnpjbmcaa.Cx
open Go Go.RowKit

/-- A bound that is there, or what stands for it. -/
noncomputable def bndO : Option Value → Nat → Option Nat
  | none, d => some d
  | some v, _ => natO v

/-- How many elements a block is known to have, if its end is not known. -/
noncomputable def kn (st : St) (g : Nat) (size : Nat) : Option Nat :=
  match st.H.get g with
  | some (.cells n _ _ esz true _) => bif Nat.beq esz size && Nat.blt 0 esz then some (Nat.div n esz) else none
  | _ => none
theorem kn_ok {s : Ren} {st : St} {w : World} {g size k : Nat} {l : Loc} (hM : Mem s st w) (hl : s g = some l) (h : kn st g size = some k) : k ≤ l.cap := by
  unfold kn at h
  split at h
  · rename_i n t e esz fz hg
    cases hb : (Nat.beq esz size && Nat.blt 0 esz) with
    | false => simp [hb] at h
    | true =>
      simp only [hb, cond_true, Option.some.injEq] at h
      simp only [Bool.and_eq_true, Nat.beq_eq, Nat.blt_eq] at hb
      obtain ⟨l', x, e1, e2, e3⟩ := hM.at_ g _ hg
      cases e1.symm.trans hl
      cases x with
      | cells c e' p =>
        obtain ⟨_, _, r3, _⟩ := e3
        simp only [if_true] at r3
        have hd : n / esz = k := h
        have h1 : n ≤ l.cap * esz := by omega
        calc k = n / esz := hd.symm
          _ ≤ l.cap * esz / esz := Nat.div_le_div_right h1
          _ = l.cap := Nat.mul_div_cancel _ hb.2
      | _ => exact e3.elim
  · cases h

noncomputable def isNone' {α : Type} : Option α → Bool
  | none => true
  | some _ => false

/-- x[lo:hi:max] of a slice whose room is known. -/
noncomputable def sliceExact (size : Nat) (base : Option Addr) (len cap : Nat) (lo hi mx : Option Value) : Option Value :=
  match bndO lo 0, bndO mx cap with
  | some l, some m => match bndO hi len with
    | some h => bif Nat.ble l h && Nat.ble h m && Nat.ble m cap && (isNone' mx || !isNone' hi) then
        (bif Nat.beq m l then some (.slice base (Nat.sub h l) (Nat.sub m l)) else match base with
          | none => some (.slice none (Nat.sub h l) (Nat.sub m l))
          | some ⟨g, off, none⟩ => some (.slice (some ⟨g, off + l * size, none⟩) (Nat.sub h l) (Nat.sub m l))
          | _ => none)
      else none
    | none => none
  | _, _ => none
/-- .. of one whose room is counted from its block's end. -/
noncomputable def sliceOpen (size av c0 g off len : Nat) (lo hi mx : Option Value) : Option Value :=
  match bndO lo 0, bndO hi len with
  | some l, some h => match mx with
    | none => bif Nat.ble l h && Nat.ble h av then (bif Nat.beq l 0 || Nat.blt l av then some (.slice (some ⟨g, off + l * size, none⟩) (Nat.sub h l) (BIG + (c0 + l))) else some (.slice (some ⟨g, off, none⟩) 0 (BIG + BIG))) else none
    | some mv => match natO mv with
      | some m => bif Nat.ble l h && Nat.ble h m && Nat.ble m av && !isNone' hi && Nat.blt m BIG then
          (bif Nat.beq m l then some (.slice (some ⟨g, off, none⟩) (Nat.sub h l) (Nat.sub m l)) else some (.slice (some ⟨g, off + l * size, none⟩) (Nat.sub h l) (Nat.sub m l)))
        else none
      | none => none
  | _, _ => none
noncomputable def sliceA (P : Program) (t : TypeId) (x : Value) (lo hi mx : Option Value) (st : St) : Option Value :=
  match P.underlying t, x with
  | some (.slice e), .slice base len cap => match szO P e with
    | some size => bif Nat.blt cap BIG then sliceExact size base len cap lo hi mx else match base with
      | some ⟨g, off, none⟩ => match kn st g size with
        | some k => bif Nat.ble (Nat.sub cap BIG) k && Nat.blt (Nat.sub cap BIG) BIG then sliceOpen size (Nat.sub k (Nat.sub cap BIG)) (Nat.sub cap BIG) g off len lo hi mx else none
        | none => none
      | _ => none
    | none => none
  | some (.pointer arr), .pointer (some ⟨g, off, none⟩) => match P.underlying arr with
    | some (.array n e) => match szO P e with
      | some size => bif Nat.blt n BIG && isNone' mx then sliceExact size (some ⟨g, off, none⟩) n n lo hi none else none
      | none => none
    | _ => none
  | some (.array n e), .pointer (some ⟨g, off, none⟩) => match szO P e with
    | some size => bif Nat.blt n BIG && isNone' mx then sliceExact size (some ⟨g, off, none⟩) n n lo hi none else none
    | none => none
  | _, _ => none

/-- A bound of the model's, for one of the run's. -/
noncomputable def OptR (s : Ren) : Option Value → Option Value → Prop
  | none, none => True
  | some v, some v' => VR s v v'
  | _, _ => False
theorem bound_run {P : Program} {s : Ren} {v v' : Value} {n y : Nat} {c : BoundsCode} (hn : natO v = some n) (hv : VR s v v') (h : n ≤ y) (w : World) : (Instr.sliceBound v' y c).run P w = .ok n w := by
  obtain ⟨k, rfl⟩ := natO_ok hn hv
  simp [Instr.sliceBound, asIntOf, h]
theorem bounds_run {P : Program} {s : Ren} {len cap l h m : Nat} {isS : Bool} {lo hi mx lo' hi' mx' : Option Value} (h1 : OptR s lo lo') (h2 : OptR s hi hi') (h3 : OptR s mx mx')
    (e1 : bndO lo 0 = some l) (e2 : bndO hi len = some h) (e3 : bndO mx cap = some m) (a : l ≤ h) (b : h ≤ m) (c : m ≤ cap) (d : mx = none ∨ hi ≠ none) (w : World) :
    (Instr.sliceBounds isS len cap lo' hi' mx').run P w = .ok (l, h, m) w := by
  cases mx <;> cases mx' <;> simp only [OptR] at h3 <;> cases hi <;> cases hi' <;> simp only [OptR] at h2 <;> cases lo <;> cases lo' <;> simp only [OptR] at h1
  all_goals (simp only [bndO] at e1 e2 e3)
  all_goals try (simp at d; done)
  all_goals (try (cases e1)) <;> (try (cases e2)) <;> (try (cases e3))
  all_goals simp only [Instr.sliceBounds]
  all_goals (try simp only [Sem.run_bind, Sem.run_pure, Result.andThen_ok])
  all_goals (try simp only [bound_run e3 h3 c, Result.andThen_ok])
  all_goals (try simp only [bound_run e2 h2 b, Result.andThen_ok])
  all_goals (try simp only [bound_run e1 h1 a, Result.andThen_ok])
  all_goals (try rfl)

theorem exact_ok {P : Program} {s : Ren} {size len cap : Nat} {base base' : Option Addr} {lo hi mx lo' hi' mx' : Option Value} {v : Value} {isS : Bool} (h1 : OptR s lo lo') (h2 : OptR s hi hi') (h3 : OptR s mx mx')
    (hb : VR s (.slice base len cap) (.slice base' len cap)) (hc : cap < BIG) (h : sliceExact size base len cap lo hi mx = some v) (w : World) :
    ∃ l hh m, (Instr.sliceBounds isS len cap lo' hi' mx').run P w = .ok (l, hh, m) w ∧ VR s v (.slice (if m = l then base' else base'.map (·.add (l * size))) (hh - l) (m - l)) := by
  unfold sliceExact at h
  split at h
  · rename_i l m e1 e3
    split at h
    · rename_i hh e2
      cases hcond : (Nat.ble l hh && Nat.ble hh m && Nat.ble m cap && (isNone' mx || !isNone' hi)) with
      | false => simp [hcond] at h
      | true =>
        simp only [hcond, cond_true] at h
        simp only [Bool.and_eq_true, Nat.ble_eq, Bool.or_eq_true, Bool.not_eq_true'] at hcond
        obtain ⟨⟨⟨a, b⟩, c⟩, d⟩ := hcond
        have d' : mx = none ∨ hi ≠ none := by
          rcases d with d | d
          · left; cases mx <;> simp [isNone'] at d ⊢
          · right; cases hi <;> simp [isNone'] at d ⊢
        refine ⟨l, hh, m, bounds_run h1 h2 h3 e1 e2 e3 a b c d' w, ?_⟩
        have hs : ∀ i j : Nat, Nat.sub i j = i - j := fun _ _ => rfl
        simp only [hs] at h
        cases hml : Nat.beq m l with
        | true =>
          simp only [hml, cond_true, Option.some.injEq] at h
          have : m = l := by simpa using hml
          subst h
          rw [if_pos this]
          cases hb with
          | sliceNil _ _ _ => exact .sliceNil _ _ (by omega)
          | slice _ _ _ _ q hq _ => exact .slice _ _ _ _ q hq (by omega)
          | sliceEnd _ _ _ _ _ _ _ _ hk _ => omega
          | sliceEmpty _ _ _ _ _ _ h2 => omega
        | false =>
          simp only [hml, cond_false] at h
          have : ¬ m = l := by rw [beq_nat] at hml; simpa using hml
          rw [if_neg this]
          cases hb with
          | sliceNil _ _ _ =>
            simp only [Option.some.injEq] at h
            subst h
            exact .sliceNil _ _ (by omega)
          | slice _ _ _ _ q hq _ =>
            simp only [Option.some.injEq] at h
            subst h
            simp only [Option.map_some, addr_add]
            exact .slice _ _ _ _ q hq (by omega)
          | sliceEnd _ _ _ _ _ _ _ _ hk _ => omega
          | sliceEmpty _ _ _ _ _ _ h2 => omega
    · cases h
  · cases h

theorem sliceA_ok {P : Program} {s : Ren} {st : St} {w : World} {t : TypeId} {x x' v : Value} {lo hi mx lo' hi' mx' : Option Value} (hM : Mem s st w) (hx : VR s x x') (h1 : OptR s lo lo') (h2 : OptR s hi hi') (h3 : OptR s mx mx')
    (h : sliceA P t x lo hi mx st = some v) : SV P s st w (Instr.sliceAt t x' lo' hi' mx') v st := by
  have mxn : ∀ {b : Bool}, (b && isNone' mx) = true → mx' = none := by
    intro b hb
    simp only [Bool.and_eq_true] at hb
    cases mx with
    | none => cases mx' with
      | none => rfl
      | some _ => simp [OptR] at h3
    | some _ => simp [isNone'] at hb
  unfold sliceA at h
  split at h
  · rename_i e base len cap hu
    split at h
    · rename_i size hsz
      cases hcap : Nat.blt cap BIG with
      | true =>
        simp only [hcap, cond_true] at h
        rw [Nat.blt_eq] at hcap
        have key : ∀ base', VR s (.slice base len cap) (.slice base' len cap) → SV P s st w (Instr.sliceAt t (.slice base' len cap) lo' hi' mx') v st := by
          intro base' hb
          obtain ⟨l, hh, m, r1, r2⟩ := exact_ok (P := P) (isS := true) h1 h2 h3 hb hcap h w
          refine .same hM ?_ r2
          simp [Instr.sliceAt, Instr.slice, run_underlying hu, r1, run_szO hsz]
        cases hx with
        | sliceNil _ _ hc => exact key _ (.sliceNil _ _ hc)
        | slice g o _ _ l hl hc => exact key _ (.slice g o _ _ l hl hc)
        | sliceEnd _ _ _ _ _ _ _ _ hk _ => omega
        | sliceEmpty _ _ _ _ _ _ h2 => omega
      | false =>
        simp only [hcap, cond_false] at h
        split at h
        · rename_i g off
          split at h
          · rename_i k hk
            have hge : BIG ≤ cap := by
              rw [Bool.eq_false_iff] at hcap
              rcases Nat.lt_or_ge cap BIG with hlt | hge
              · exact absurd (show Nat.blt cap BIG = true by rw [Nat.blt_eq]; exact hlt) hcap
              · exact hge
            obtain ⟨c0, rfl⟩ : ∃ c0, cap = BIG + c0 := ⟨cap - BIG, by omega⟩
            have hc0 : Nat.sub (BIG + c0) BIG = c0 := by show BIG + c0 - BIG = c0; omega
            rw [hc0] at h
            cases hle : (Nat.ble c0 k && Nat.blt c0 BIG) with
            | false => simp only [hle, cond_false] at h; cases h
            | true =>
              simp only [hle, cond_true] at h
              simp only [Bool.and_eq_true, Nat.ble_eq, Nat.blt_eq] at hle
              obtain ⟨hle, hlb⟩ := hle
              have key : ∀ (l : Loc), s g = some l → SV P s st w (Instr.sliceAt t (.slice (some ⟨l.blk, off, none⟩) len (l.cap - c0)) lo' hi' mx') v st := by
                intro L hL
                have hkn := kn_ok hM hL hk
                unfold sliceOpen at h
                have hs : ∀ i j : Nat, Nat.sub i j = i - j := fun _ _ => rfl
                simp only [hs] at h
                split at h
                · rename_i l hh e1 e2
                  split at h
                  · have hmx' : mx' = none := by cases mx' with
                      | none => rfl
                      | some _ => simp [OptR] at h3
                    subst hmx'
                    cases hcond : (Nat.ble l hh && Nat.ble hh (k - c0)) with
                    | false => simp only [hcond, cond_false] at h; cases h
                    | true =>
                      simp only [hcond, cond_true] at h
                      simp only [Bool.and_eq_true, Nat.ble_eq] at hcond
                      obtain ⟨a, b⟩ := hcond
                      have r1 := bounds_run (P := P) (isS := true) (len := len) (cap := L.cap - c0) (mx := none) (mx' := none) h1 h2 trivial e1 e2 rfl a (by omega) (Nat.le_refl _) (.inl rfl) w
                      cases hd : (Nat.beq l 0 || Nat.blt l (k - c0)) with
                      | true =>
                        simp only [hd, cond_true, Option.some.injEq] at h
                        simp only [Bool.or_eq_true, Nat.beq_eq, Nat.blt_eq] at hd
                        subst h
                        refine .same hM (v' := .slice (if L.cap - c0 = l then some ⟨L.blk, off, none⟩ else some ⟨L.blk, off + l * size, none⟩) (hh - l) (L.cap - c0 - l)) ?_ ?_
                        · simp [Instr.sliceAt, Instr.slice, run_underlying hu, r1, run_szO hsz, addr_add]
                        · have : (if L.cap - c0 = l then some ⟨L.blk, off, none⟩ else some ⟨L.blk, off + l * size, none⟩ : Option Addr) = some ⟨L.blk, off + l * size, none⟩ := by
                            rcases hd with d | d
                            · subst d; split <;> simp
                            · rw [if_neg (by omega)]
                          rw [this, show L.cap - c0 - l = L.cap - (c0 + l) by omega]
                          exact .sliceEnd _ _ _ _ _ _ _ hL rfl rfl
                      | false =>
                        simp only [hd, cond_false, Option.some.injEq] at h
                        have hlk : ¬ l < k - c0 := by
                          intro q
                          rw [show Nat.blt l (k - c0) = true by rw [Nat.blt_eq]; exact q, Bool.or_true] at hd
                          cases hd
                        subst h
                        refine .same hM (v' := .slice (some (if L.cap - c0 = l then ⟨L.blk, off, none⟩ else ⟨L.blk, off + l * size, none⟩)) 0 (L.cap - c0 - l)) ?_ (.sliceEmpty _ _ _ _ _ rfl rfl)
                        have hz : hh - l = 0 := by omega
                        simp [Instr.sliceAt, Instr.slice, run_underlying hu, r1, run_szO hsz, addr_add, hz]
                        split <;> rfl
                  · rename_i mv
                    split at h
                    · rename_i m hm
                      cases hcond : (Nat.ble l hh && Nat.ble hh m && Nat.ble m (k - c0) && !isNone' hi && Nat.blt m BIG) with
                      | false => simp [hcond] at h
                      | true =>
                        simp only [hcond, cond_true] at h
                        simp only [Bool.and_eq_true, Nat.ble_eq, Bool.not_eq_true', Nat.blt_eq] at hcond
                        obtain ⟨⟨⟨⟨a, b⟩, c⟩, d⟩, f⟩ := hcond
                        have d' : (some mv : Option Value) = none ∨ hi ≠ none := by
                          right; cases hi <;> simp [isNone'] at d ⊢
                        have r1 := bounds_run (P := P) (isS := true) (len := len) (cap := L.cap - c0) h1 h2 h3 e1 e2 (show bndO (some mv) _ = some m from hm) a b (by omega) d' w
                        refine .same hM (v' := .slice (if m = l then some ⟨L.blk, off, none⟩ else some ⟨L.blk, off + l * size, none⟩) (hh - l) (m - l)) ?_ ?_
                        · simp [Instr.sliceAt, Instr.slice, run_underlying hu, r1, run_szO hsz, addr_add]
                        · cases hml : Nat.beq m l with
                          | true =>
                            simp only [hml, cond_true, Option.some.injEq] at h
                            have : m = l := by simpa using hml
                            subst h
                            rw [if_pos this]
                            exact .slice _ _ _ _ _ hL (by omega)
                          | false =>
                            simp only [hml, cond_false, Option.some.injEq] at h
                            have : ¬ m = l := by rw [beq_nat] at hml; simpa using hml
                            subst h
                            rw [if_neg this]
                            exact .slice _ _ _ _ _ hL (by omega)
                    · cases h
                · cases h
              cases hx with
              | slice _ _ _ _ l hl hc => omega
              | sliceEmpty _ _ _ _ _ _ h2 => omega
              | sliceEnd _ _ _ c _ _ l hl hk hk' =>
                have : c = c0 := by omega
                subst this
                subst hk'
                exact key l hl
          · cases h
        · cases h
    · cases h
  · rename_i arr g off hu
    split at h
    · rename_i n e hu2
      split at h
      · rename_i size hsz
        cases hb : (Nat.blt n BIG && isNone' mx) with
        | false => simp [hb] at h
        | true =>
          simp only [hb, cond_true] at h
          have hm := mxn hb
          subst hm
          simp only [Bool.and_eq_true, Nat.blt_eq] at hb
          cases hx with
          | ptr _ _ l hl =>
            obtain ⟨lo1, hh, m, r1, r2⟩ := exact_ok (P := P) (isS := false) h1 h2 (mx := none) (mx' := none) trivial (VR.slice g off n n l hl hb.1) hb.1 h w
            refine .same hM (v' := .slice (if m = lo1 then some ⟨l.blk, off, none⟩ else some ((⟨l.blk, off, none⟩ : Addr).add (lo1 * size))) (hh - lo1) (m - lo1)) ?_ ?_
            · have : (if m = lo1 then (⟨l.blk, off, none⟩ : Addr) else (⟨l.blk, off, none⟩ : Addr).add (lo1 * size)) = (if m = lo1 then ⟨l.blk, off, none⟩ else (⟨l.blk, off, none⟩ : Addr).add (lo1 * size)) := rfl
              simp only [Instr.sliceAt, Sem.run_bind, run_underlying hu, Result.andThen_ok, Instr.slice, asAddr, Sem.run_pure, run_underlying hu2, r1, run_szO hsz]
              split <;> rfl
            · simpa using r2
      · cases h
    · cases h
  · rename_i n e g off hu
    split at h
    · rename_i size hsz
      cases hb : (Nat.blt n BIG && isNone' mx) with
      | false => simp [hb] at h
      | true =>
        simp only [hb, cond_true] at h
        have hm := mxn hb
        subst hm
        simp only [Bool.and_eq_true, Nat.blt_eq] at hb
        cases hx with
        | ptr _ _ l hl =>
          obtain ⟨lo1, hh, m, r1, r2⟩ := exact_ok (P := P) (isS := false) h1 h2 (mx := none) (mx' := none) trivial (VR.slice g off n n l hl hb.1) hb.1 h w
          refine .same hM (v' := .slice (if m = lo1 then some ⟨l.blk, off, none⟩ else some ((⟨l.blk, off, none⟩ : Addr).add (lo1 * size))) (hh - lo1) (m - lo1)) ?_ ?_
          · simp only [Instr.sliceAt, Sem.run_bind, run_underlying hu, Result.andThen_ok, Instr.sureAddr, Sem.run_pure, r1, run_szO hsz]
            split <;> rfl
          · simpa using r2
    · cases h
  · cases h

end Go.Proofs.Ytfilbknnpjbmcaa.Cx
