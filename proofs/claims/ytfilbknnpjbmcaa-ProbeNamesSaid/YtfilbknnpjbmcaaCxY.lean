/- A closed call, run: calls that are known, whose arguments lie in memory: a template of what they reach, held against the memory at the call. No program of its own. -/
import Derived.Test.YtfilbknnpjbmcaaCxX
namespace Go.Proofs.Ytfilbknnpjbmcaa.Cx
open Go Go.RowKit Go.BigFrame

/-- A block of a template: its number, whether more may lie behind what is known, how large an element is, what it holds. -/
structure TB where
  g : Nat
  opn : Bool
  esz : Nat
  vals : List Value
/-- The template's numbers, and those at the call. -/
abbrev Rho := List (Nat × Nat)
noncomputable def look : Rho → Nat → Option Nat
  | [], _ => none
  | p :: r, g => bif Nat.beq p.1 g then some p.2 else look r g
noncomputable def isImg : Rho → Nat → Bool
  | [], _ => false
  | p :: r, h => Nat.beq p.2 h || isImg r h
noncomputable def addR (ng c0 : Nat) (ρ : Rho) (g h : Nat) : Option Rho :=
  bif Nat.blt g ng then (bif Nat.beq g h then some ρ else none) else
    match look ρ g with
    | some h' => bif Nat.beq h h' then some ρ else none
    | none => bif Nat.ble ng h && (Nat.blt g c0 && !isImg ρ h) then some ((g, h) :: ρ) else none
noncomputable def matL (f : Rho → Value → Value → Option Rho) : Rho → List Value → List Value → Option Rho
  | ρ, [], [] => some ρ
  | ρ, u :: a, v :: b => match f ρ u v with
    | some ρ => matL f ρ a b
    | none => none
  | _, _, _ => none
noncomputable def matV (ng c0 : Nat) : Nat → Rho → Value → Value → Option Rho
  | 0, _, _, _ => none
  | n + 1, ρ, u, v => match u, v with
    | .agg a, .agg b => matL (matV ng c0 n) ρ a.toList b.toList
    | .iface t x, .iface t' y => bif Nat.beq t t' then matV ng c0 n ρ x y else none
    | .pointer (some ⟨g, o, none⟩), .pointer (some ⟨h, o', none⟩) => bif Nat.beq o o' then addR ng c0 ρ g h else none
    | .slice (some ⟨g, o, none⟩) l c, .slice (some ⟨h, o', none⟩) l' c' => bif Nat.beq o o' && (Nat.beq l l' && Nat.beq c c') then addR ng c0 ρ g h else none
    | u, v => bif plainV FUEL u && valEq FUEL u v then some ρ else none
noncomputable def matC (ng c0 : Nat) (t : TV) : Nat → List Value → Rho → Option Rho
  | _, [], ρ => some ρ
  | i, u :: r, ρ => match t.get i with
    | some v => match matV ng c0 FUEL ρ u v with
      | some ρ => matC ng c0 t (Nat.succ i) r ρ
      | none => none
    | none => none
noncomputable def atR (ng : Nat) (ρ : Rho) (g : Nat) : Option Nat := bif Nat.blt g ng then some g else look ρ g
noncomputable def sameB (a b : Bool) : Bool := bif a then b else !b
noncomputable def matB (ng c0 : Nat) (st : St) (ρ : Rho) (b : TB) : Option Rho :=
  match atR ng ρ b.g with
  | some h => match st.H.get h with
    | some (.cells n t _ esz opn _) => bif Nat.beq n b.vals.length && (sameB opn b.opn && Nat.beq esz b.esz) then matC ng c0 t 0 b.vals ρ else none
    | _ => none
  | none => none
noncomputable def matBs (ng c0 : Nat) (st : St) : Rho → List TB → Option Rho
  | ρ, [] => some ρ
  | ρ, b :: r => match matB ng c0 st ρ b with
    | some ρ => matBs ng c0 st ρ r
    | none => none
noncomputable def matAll (ng c0 : Nat) (st : St) (targs args : List Value) (pre : List TB) : Option Rho :=
  match matL (matV ng c0 FUEL) [] targs args with
  | some ρ => matBs ng c0 st ρ pre
  | none => none

def Sub' (ρ ρ' : Rho) : Prop := ∀ g h, look ρ g = some h → look ρ' g = some h
theorem Sub'.refl (ρ : Rho) : Sub' ρ ρ := fun _ _ h => h
theorem Sub'.trans {a b c : Rho} (h : Sub' a b) (k : Sub' b c) : Sub' a c := fun g x e => k g x (h g x e)
structure Good (ng c0 : Nat) (ρ : Rho) : Prop where
  key : ∀ g h, look ρ g = some h → ng ≤ g ∧ g < c0 ∧ ng ≤ h
  one : ∀ a b h, look ρ a = some h → look ρ b = some h → a = b
/-- What the template's numbers stand for. -/
noncomputable def renS (ng : Nat) (s : Ren) (ρ : Rho) : Ren := fun g => if g < ng then s g else (look ρ g).bind s
theorem look_img : ∀ {ρ : Rho} {g h : Nat}, look ρ g = some h → isImg ρ h = true
  | [], g, h, e => by cases e
  | p :: r, g, h, e => by
    unfold look at e
    unfold isImg
    cases hb : Nat.beq p.1 g with
    | true =>
      simp only [hb, cond_true, Option.some.injEq] at e
      rw [e]
      simp
    | false =>
      simp only [hb, cond_false] at e
      rw [look_img e]
      simp
theorem addR_ok {ng c0 : Nat} {ρ ρ' : Rho} {g h : Nat} (e : addR ng c0 ρ g h = some ρ') : Sub' ρ ρ' ∧ (Good ng c0 ρ → Good ng c0 ρ') ∧ ∀ (s : Ren) (ρF : Rho), Sub' ρ' ρF → renS ng s ρF g = s h := by
  unfold addR at e
  cases hg : Nat.blt g ng with
  | true =>
    simp only [hg, cond_true] at e
    cases hb : Nat.beq g h with
    | false => simp only [hb, cond_false] at e; cases e
    | true =>
      simp only [hb, cond_true] at e
      cases e
      have : g = h := Nat.eq_of_beq_eq_true hb
      subst this
      rw [Nat.blt_eq] at hg
      exact ⟨.refl _, id, fun s ρF _ => by simp [renS, hg]⟩
  | false =>
    simp only [hg, cond_false] at e
    have hng : ¬ g < ng := fun hlt => by rw [← Nat.blt_eq] at hlt; rw [hlt] at hg; cases hg
    split at e
    · rename_i h' hl
      cases hb : Nat.beq h h' with
      | false => simp only [hb, cond_false] at e; cases e
      | true =>
        simp only [hb, cond_true] at e
        cases e
        have : h = h' := Nat.eq_of_beq_eq_true hb
        subst this
        exact ⟨.refl _, id, fun s ρF hs => by simp [renS, hng, hs g h hl]⟩
    · rename_i hl
      cases hb : (Nat.ble ng h && (Nat.blt g c0 && !isImg ρ h)) with
      | false => simp only [hb, cond_false] at e; cases e
      | true =>
        simp only [hb, cond_true] at e
        cases e
        simp only [Bool.and_eq_true, Nat.ble_eq, Bool.not_eq_true'] at hb
        obtain ⟨b1, b2, b3⟩ := hb
        rw [Nat.blt_eq] at b2
        have hlk : ∀ a, look ((g, h) :: ρ) a = if a = g then some h else look ρ a := fun a => by
          show (bif Nat.beq g a then some h else look ρ a) = _
          by_cases ha : a = g
          · subst ha; simp
          · have : Nat.beq g a = false := by
              rw [Bool.eq_false_iff]
              intro hx
              exact ha (Nat.eq_of_beq_eq_true hx).symm
            simp [this, ha]
        refine ⟨fun a x hx => ?_, fun hG => ⟨fun a x hx => ?_, fun a b x ha hb => ?_⟩, fun s ρF hs => ?_⟩
        · rw [hlk]
          split
          · rename_i hag
            subst hag
            rw [hl] at hx
            cases hx
          · exact hx
        · rw [hlk] at hx
          split at hx
          · rename_i hag
            subst hag
            cases hx
            exact ⟨by omega, b2, b1⟩
          · exact hG.key a x hx
        · rw [hlk] at ha hb
          split at ha <;> split at hb
          · simp_all
          · cases ha
            have := look_img hb
            rw [b3] at this
            cases this
          · cases hb
            have := look_img ha
            rw [b3] at this
            cases this
          · exact hG.one a b x ha hb
        · have := hs g h (by rw [hlk, if_pos rfl])
          simp [renS, hng, this]

def MatOk (ng c0 : Nat) (f : Rho → Value → Value → Option Rho) : Prop := ∀ ρ u v ρ', f ρ u v = some ρ' → Sub' ρ ρ' ∧ (Good ng c0 ρ → Good ng c0 ρ') ∧ ∀ (s : Ren) (ρF : Rho), Sub' ρ' ρF → ∀ x, VR s v x → VR (renS ng s ρF) u x
theorem matL_ok {ng c0 : Nat} {f : Rho → Value → Value → Option Rho} (hf : MatOk ng c0 f) : ∀ {a b : List Value} {ρ ρ' : Rho}, matL f ρ a b = some ρ' → Sub' ρ ρ' ∧ (Good ng c0 ρ → Good ng c0 ρ') ∧ a.length = b.length ∧
    ∀ (s : Ren) (ρF : Rho), Sub' ρ' ρF → ∀ (i : Nat) (u v : Value), a[i]? = some u → b[i]? = some v → ∀ x, VR s v x → VR (renS ng s ρF) u x
  | [], [], ρ, ρ', h => by cases h; exact ⟨.refl _, id, rfl, fun s ρF _ i u v hu => by simp at hu⟩
  | u :: a, v :: b, ρ, ρ', h => by
    unfold matL at h
    split at h
    · rename_i ρ1 h1
      obtain ⟨a1, a2, a3⟩ := hf _ _ _ _ h1
      obtain ⟨b1, b2, b3, b4⟩ := matL_ok hf h
      refine ⟨a1.trans b1, fun hG => b2 (a2 hG), by simp [b3], fun s ρF hs i u' v' hu hv x hx => ?_⟩
      cases i with
      | zero =>
        simp at hu hv
        subst hu hv
        exact a3 s ρF (b1.trans hs) x hx
      | succ i => exact b4 s ρF hs i u' v' (by simpa using hu) (by simpa using hv) x hx
    · cases h
  | [], _ :: _, _, _, h => by cases h
  | _ :: _, [], _, _, h => by cases h
theorem matV_ok {ng c0 : Nat} : ∀ (n : Nat), MatOk ng c0 (matV ng c0 n)
  | 0, ρ, u, v, ρ', h => by cases h
  | n + 1, ρ, u, v, ρ', h => by
    unfold matV at h
    split at h
    · rename_i a b
      obtain ⟨h1, h2, h3, h4⟩ := matL_ok (matV_ok n) h
      refine ⟨h1, h2, fun s ρF hs x hx => ?_⟩
      cases hx with
      | agg _ x' q1 q2 =>
        have hab : a.size = b.size := by simpa using h3
        refine .agg _ _ (hab.trans q1) fun i i1 i2 => ?_
        have ib : i < b.size := hab ▸ i1
        exact h4 s ρF hs i a[i] b[i] (by simp [i1]) (by simp [ib]) _ (q2 i ib i2)
    · rename_i t x' t' y'
      cases hb : Nat.beq t t' with
      | false => simp only [hb, cond_false] at h; cases h
      | true =>
        simp only [hb, cond_true] at h
        have : t = t' := Nat.eq_of_beq_eq_true hb
        subst this
        obtain ⟨h1, h2, h3⟩ := matV_ok n _ _ _ _ h
        refine ⟨h1, h2, fun s ρF hs x hx => ?_⟩
        cases hx with
        | iface _ _ z hz => exact .iface _ _ _ (h3 s ρF hs _ hz)
    · rename_i g o h0 o'
      cases hb : Nat.beq o o' with
      | false => simp only [hb, cond_false] at h; cases h
      | true =>
        simp only [hb, cond_true] at h
        have : o = o' := Nat.eq_of_beq_eq_true hb
        subst this
        obtain ⟨h1, h2, h3⟩ := addR_ok h
        refine ⟨h1, h2, fun s ρF hs x hx => ?_⟩
        cases hx with
        | ptr _ _ l hl => exact .ptr _ _ l ((h3 s ρF hs).trans hl)
    · rename_i g o l c h0 o' l' c'
      cases hb : (Nat.beq o o' && (Nat.beq l l' && Nat.beq c c')) with
      | false => simp only [hb, cond_false] at h; cases h
      | true =>
        simp only [hb, cond_true] at h
        simp only [Bool.and_eq_true] at hb
        have e1 : o = o' := Nat.eq_of_beq_eq_true hb.1
        have e2 : l = l' := Nat.eq_of_beq_eq_true hb.2.1
        have e3 : c = c' := Nat.eq_of_beq_eq_true hb.2.2
        subst e1 e2 e3
        obtain ⟨h1, h2, h3⟩ := addR_ok h
        refine ⟨h1, h2, fun s ρF hs x hx => ?_⟩
        cases hx with
        | slice _ _ _ _ l0 hl hc => exact .slice _ _ _ _ l0 ((h3 s ρF hs).trans hl) hc
        | sliceEnd _ _ _ c0 _ k' l0 hl h5 h6 => exact .sliceEnd _ _ _ c0 _ k' l0 ((h3 s ρF hs).trans hl) h5 h6
        | sliceEmpty _ b _ _ c0 h5 h6 => exact .sliceEmpty _ b _ _ c0 h5 h6
    · cases hb : (plainV FUEL u && valEq FUEL u v) with
      | false => simp only [hb, cond_false] at h; cases h
      | true =>
        simp only [hb, cond_true] at h
        cases h
        simp only [Bool.and_eq_true] at hb
        have := valEq_eq hb.2
        subst this
        refine ⟨.refl _, id, fun s ρF hs x hx => ?_⟩
        rw [plainV_eq hb.1 hx]
        exact plainV_self hb.1
theorem matC_ok {ng c0 : Nat} {t : TV} : ∀ {r : List Value} {i : Nat} {ρ ρ' : Rho}, matC ng c0 t i r ρ = some ρ' → Sub' ρ ρ' ∧ (Good ng c0 ρ → Good ng c0 ρ') ∧
    ∀ (s : Ren) (ρF : Rho), Sub' ρ' ρF → ∀ (j : Nat) (u : Value), r[j]? = some u → ∃ v, t.get (i + j) = some v ∧ ∀ x, VR s v x → VR (renS ng s ρF) u x
  | [], i, ρ, ρ', h => by cases h; exact ⟨.refl _, id, fun s ρF _ j u hu => by simp at hu⟩
  | u :: r, i, ρ, ρ', h => by
    unfold matC at h
    split at h
    · rename_i v hv
      split at h
      · rename_i ρ1 h1
        obtain ⟨a1, a2, a3⟩ := matV_ok FUEL _ _ _ _ h1
        obtain ⟨b1, b2, b3⟩ := matC_ok h
        refine ⟨a1.trans b1, fun hG => b2 (a2 hG), fun s ρF hs j u' hu => ?_⟩
        cases j with
        | zero =>
          simp at hu
          subst hu
          exact ⟨v, hv, a3 s ρF (b1.trans hs)⟩
        | succ j =>
          obtain ⟨v', q1, q2⟩ := b3 s ρF hs j u' (by simpa using hu)
          exact ⟨v', by rw [← q1]; congr 1; omega, q2⟩
      · cases h
    · cases h
theorem sameB_eq {a b : Bool} (h : sameB a b = true) : a = b := by cases a <;> cases b <;> first | rfl | cases h
/-- A block of the template is there at the call. -/
def There (ng : Nat) (st : St) (s : Ren) (ρF : Rho) (b : TB) : Prop := ∃ h t e fz, atR ng ρF b.g = some h ∧ st.H.get h = some (.cells b.vals.length t e b.esz b.opn fz) ∧
  ∀ (j : Nat) (u : Value), b.vals[j]? = some u → ∃ v, t.get j = some v ∧ ∀ x, VR s v x → VR (renS ng s ρF) u x
theorem atR_sub {ng : Nat} {ρ ρF : Rho} {g h : Nat} (hs : Sub' ρ ρF) (e : atR ng ρ g = some h) : atR ng ρF g = some h := by
  unfold atR at e ⊢
  cases hb : Nat.blt g ng with
  | true => rw [hb] at e; exact e
  | false => rw [hb] at e; exact hs g h e
theorem matB_ok {ng c0 : Nat} {st : St} {ρ ρ' : Rho} {b : TB} (h : matB ng c0 st ρ b = some ρ') : Sub' ρ ρ' ∧ (Good ng c0 ρ → Good ng c0 ρ') ∧ ∀ (s : Ren) (ρF : Rho), Sub' ρ' ρF → There ng st s ρF b := by
  unfold matB at h
  split at h
  · rename_i h0 hat
    split at h
    · rename_i n t e esz opn fz hH
      cases hb : (Nat.beq n b.vals.length && (sameB opn b.opn && Nat.beq esz b.esz)) with
      | false => simp only [hb, cond_false] at h; cases h
      | true =>
        simp only [hb, cond_true] at h
        simp only [Bool.and_eq_true] at hb
        have e1 : n = b.vals.length := Nat.eq_of_beq_eq_true hb.1
        have e2 := sameB_eq hb.2.1
        have e3 : esz = b.esz := Nat.eq_of_beq_eq_true hb.2.2
        subst e1 e2 e3
        obtain ⟨a1, a2, a3⟩ := matC_ok h
        refine ⟨a1, a2, fun s ρF hs => ⟨h0, t, e, fz, atR_sub (a1.trans hs) hat, hH, fun j u hu => ?_⟩⟩
        obtain ⟨v, q1, q2⟩ := a3 s ρF hs j u hu
        rw [Nat.zero_add] at q1
        exact ⟨v, q1, q2⟩
    · cases h
  · cases h
theorem matBs_ok {ng c0 : Nat} {st : St} : ∀ {pre : List TB} {ρ ρ' : Rho}, matBs ng c0 st ρ pre = some ρ' → Sub' ρ ρ' ∧ (Good ng c0 ρ → Good ng c0 ρ') ∧ ∀ (s : Ren) (ρF : Rho), Sub' ρ' ρF → ∀ b ∈ pre, There ng st s ρF b
  | [], ρ, ρ', h => by cases h; exact ⟨.refl _, id, fun s ρF _ b hb => by simp at hb⟩
  | b :: r, ρ, ρ', h => by
    unfold matBs at h
    split at h
    · rename_i ρ1 h1
      obtain ⟨a1, a2, a3⟩ := matB_ok h1
      obtain ⟨b1, b2, b3⟩ := matBs_ok h
      refine ⟨a1.trans b1, fun hG => b2 (a2 hG), fun s ρF hs x hx => ?_⟩
      rcases List.mem_cons.1 hx with e | e
      · subst e; exact a3 s ρF (b1.trans hs)
      · exact b3 s ρF hs x e
    · cases h

/-- The template's memory. -/
noncomputable def preH {β : Type} : List TB → (TH → Option β) → Option β
  | [], K => K .leaf
  | b :: r, K => preH r fun H => ofList b.vals 0 .leaf fun t => TH.put (some (.cells b.vals.length t 0 b.esz b.opn .any)) FUEL H b.g K
def CellsOf (b : TB) (o : AObj) : Prop := ∃ t : TV, o = .cells b.vals.length t 0 b.esz b.opn .any ∧ ∀ j, t.get j = b.vals[j]?
theorem preH_ok {β : Type} : ∀ {pre : List TB} {K : TH → Option β} {x : β}, preH pre K = some x → ∃ H, K H = some x ∧ ∀ g o, H.get g = some o → ∃ b ∈ pre, b.g = g ∧ CellsOf b o
  | [], K, x, h => ⟨.leaf, h, fun g o hg => by simp [TH.get_leaf] at hg⟩
  | b :: r, K, x, h => by
    unfold preH at h
    obtain ⟨H, h1, h2⟩ := preH_ok h
    obtain ⟨t, h3, ht⟩ := ofList_ok h1
    obtain ⟨H', h4, hH⟩ := TH.put_some h3
    refine ⟨H', h4, fun g o hg => ?_⟩
    rw [hH] at hg
    split at hg
    · rename_i hc
      subst hc
      cases hg
      refine ⟨b, List.mem_cons_self, rfl, t, rfl, fun j => ?_⟩
      rw [ht]
      by_cases hj : j < b.vals.length
      · rw [if_pos ⟨Nat.zero_le _, by omega⟩]; simp
      · rw [if_neg (by omega), TV.get_leaf, List.getElem?_eq_none (by omega)]
    · obtain ⟨b', h5, h6⟩ := h2 g o hg
      exact ⟨b', List.mem_cons_of_mem _ h5, h6⟩

/-- A call that is known: the template's next number, the arguments, what they reach, the answer. -/
structure Tm where
  f : FuncId
  c0 : Nat
  args : List Value
  pre : List TB
  v : Value
noncomputable def LIM : Nat := 1000000000000
noncomputable def topD (E : Env) (k : Tm) (n : Nat) : Bool :=
  bif Nat.ble E.ng k.c0 && plainV FUEL k.v then
    match preH k.pre fun H => enterA E.P k.f k.args .normal fun fr => runF E n ⟨fr, [], ⟨H, k.c0, LIM⟩⟩ with
    | some (.ret u _) => valEq FUEL u k.v
    | _ => false
  else false
def Tm.Ok (E : Env) (k : Tm) : Prop := E.ng ≤ k.c0 ∧ plainV FUEL k.v = true ∧ ∃ H : TH, (∀ g o, H.get g = some o → ∃ b ∈ k.pre, b.g = g ∧ CellsOf b o) ∧
  ∀ (s : Ren) (W : World) (args' : Array Value), Mem s ⟨H, k.c0, LIM⟩ W → Gl E.ng s → VRs s k.args.toArray args' → Calls E.P k.f args' W fun e W' => e = .returned k.v ∧ Below W.heap.size W W'
theorem deepV {E : Env} (hEo : E.Ok) (hmix : E.P.follows .mixedOrders = true) {k : Tm} {n : Nat} (h : topD E k n = true) : k.Ok E := by
  unfold topD at h
  cases hc : (Nat.ble E.ng k.c0 && plainV FUEL k.v) with
  | false => rw [hc] at h; cases h
  | true =>
  rw [hc] at h
  simp only [cond_true] at h
  simp only [Bool.and_eq_true, Nat.ble_eq] at hc
  split at h
  · rename_i u st0 hr
    have huv := valEq_eq h
    subst huv
    obtain ⟨H, hr, hH⟩ := preH_ok hr
    refine ⟨hc.1, hc.2, H, hH, fun s W args' hM hG hA cs => ?_⟩
    obtain ⟨af, h1, h2, _⟩ := enterA_some (s := s) (args' := args') hA hr
    obtain ⟨s', fr', w', e, st', q1, q2, q3, q4, q5, q6⟩ := runF_ok hEo hmix n h1 (s := s) (fr := Frame.enter E.P k.f args' .normal) (cs := []) (w := W) ⟨h2, .nil, hM, hG⟩ cs
    cases e with
    | returned v' =>
      obtain ⟨hv, _⟩ := q3
      have hvt := plainV_eq hc.2 hv
      subst hvt
      refine ⟨.returned _, w', fr', ⟨rfl, q5.os, q5.tape, q5.output, q5.size, fun b hb => ?_⟩, q1, ?_, q2⟩
      · by_cases hk' : ∃ g o l, H.get g = some o ∧ s g = some l ∧ l.blk = b
        · obtain ⟨g, o, l, a1, a2, a3⟩ := hk'
          obtain ⟨b', _, _, t, rfl, _⟩ := hH g o a1
          have := (q5.ro g _ l a1 rfl a2).2
          rw [a3] at this
          exact this
        · exact q5.frame b hb fun g o l a1 a2 a3 => hk' ⟨g, o, l, a1, a2, a3⟩
      · rw [q6]
        unfold baseA
        have := h2.fn
        simp only [List.getLast?_nil]
        exact this.symm
    | panicked _ => exact q3.elim
    | outgrown => exact q3.elim
  · cases h
/-- At a call where all that the template tells is there. -/
theorem tm_ok {E : Env} {k : Tm} (hk : k.Ok E) {st : St} {args : List Value} {ρ : Rho} (hm : matAll E.ng k.c0 st k.args args k.pre = some ρ) {s : Ren} {W : World} {args' : Array Value} (hM : Mem s st W) (hG : Gl E.ng s) (hA : VRs s args.toArray args') :
    Calls E.P k.f args' W fun e W' => e = .returned k.v ∧ Below W.heap.size W W' := by
  obtain ⟨hng, _, H, hH, hall⟩ := hk
  unfold matAll at hm
  split at hm
  case h_2 => cases hm
  rename_i ρ1 h1
  obtain ⟨a1, a2, a3, a4⟩ := matL_ok (matV_ok FUEL) h1
  obtain ⟨b1, b2, b3⟩ := matBs_ok hm
  have hGood : Good E.ng k.c0 ρ := b2 (a2 ⟨fun g h e => (by cases e), fun a b h e => (by cases e)⟩)
  have hthere := b3 s ρ (.refl _)
  have hs0 : ∀ {g h : Nat}, atR E.ng ρ g = some h → renS E.ng s ρ g = s h := fun {g h} e => by
    unfold atR at e
    cases hb : Nat.blt g E.ng with
    | true =>
      rw [hb] at e
      simp only [cond_true, Option.some.injEq] at e
      subst e
      rw [Nat.blt_eq] at hb
      simp [renS, hb]
    | false =>
      rw [hb] at e
      simp only [cond_false] at e
      have hng : ¬ g < E.ng := fun hlt => by rw [← Nat.blt_eq] at hlt; rw [hlt] at hb; cases hb
      simp [renS, hng, e]
  refine hall (renS E.ng s ρ) W args' ⟨fun g o hg => ?_, fun g g' o o' l l' hg hg' e e' he => ?_, fun g hg _ => ?_⟩ (fun g hg => ?_) ⟨?_, fun i i1 i2 => ?_⟩
  · obtain ⟨b, hb, rfl, t0, rfl, ht0⟩ := hH g o hg
    obtain ⟨h, t, e, fz, q1, q2, q3⟩ := hthere b hb
    obtain ⟨l, x, e1, e2, e3⟩ := hM.at_ h _ q2
    refine ⟨l, x, (hs0 q1).trans e1, e2, ?_⟩
    cases x with
    | cells c e' p =>
      obtain ⟨_, r2, r3, _⟩ := e3
      refine ⟨.inl rfl, fun i v hi hv => ?_, r3, trivial⟩
      rw [ht0] at hv
      obtain ⟨v', q4, q5⟩ := q3 i v hv
      obtain ⟨x', q6, q7⟩ := r2 i v' hi q4
      exact ⟨x', q6, q5 x' q7⟩
    | _ => exact e3.elim
  · obtain ⟨b, hb, rfl, _⟩ := hH g o hg
    obtain ⟨b', hb', rfl, _⟩ := hH g' o' hg'
    obtain ⟨h, t, _, _, q1, q2, _⟩ := hthere b hb
    obtain ⟨h', t', _, _, q1', q2', _⟩ := hthere b' hb'
    have hhh : h = h' := hM.inj h h' _ _ l l' q2 q2' ((hs0 q1).symm.trans e) ((hs0 q1').symm.trans e') he
    subst hhh
    unfold atR at q1 q1'
    cases c1 : Nat.blt b.g E.ng with
    | true =>
      rw [c1] at q1
      simp only [cond_true, Option.some.injEq] at q1
      cases c2 : Nat.blt b'.g E.ng with
      | true =>
        rw [c2] at q1'
        simp only [cond_true, Option.some.injEq] at q1'
        exact q1.trans q1'.symm
      | false =>
        rw [c2] at q1'
        simp only [cond_false] at q1'
        have := (hGood.key _ _ q1').2.2
        rw [Nat.blt_eq] at c1
        omega
    | false =>
      rw [c1] at q1
      simp only [cond_false] at q1
      cases c2 : Nat.blt b'.g E.ng with
      | true =>
        rw [c2] at q1'
        simp only [cond_true, Option.some.injEq] at q1'
        have := (hGood.key _ _ q1).2.2
        rw [Nat.blt_eq] at c2
        omega
      | false =>
        rw [c2] at q1'
        simp only [cond_false] at q1'
        exact hGood.one _ _ _ q1 q1'
  · have hg : k.c0 ≤ g := hg
    have : ¬ g < E.ng := by omega
    cases hl : look ρ g with
    | none => simp [renS, this, hl]
    | some h =>
      have := (hGood.key _ _ hl).2.1
      omega
  · simp only [renS, hg, if_true]
    exact hG g hg
  · have := hA.1
    simp only [List.size_toArray] at this ⊢
    omega
  · have h2 : i < args.length := by
      have := i1
      simp only [List.size_toArray] at this
      omega
    have := a4 s ρ b1 i k.args[i] args[i] (by simp) (by simp) _ (hA.2 i (by simpa using h2) i2)
    simpa using this
noncomputable def knownT (ng : Nat) (l : List Tm) (f : FuncId) (args : List Value) (st : St) : Option Value :=
  match l with
  | [] => none
  | k :: r => bif Nat.beq k.f f then match matAll ng k.c0 st k.args args k.pre with
    | some _ => some k.v
    | none => knownT ng r f args st
    else knownT ng r f args st
theorem knownT_some {ng : Nat} {f : FuncId} {args : List Value} {st : St} {v : Value} : ∀ {l : List Tm}, knownT ng l f args st = some v → ∃ k ∈ l, k.f = f ∧ k.v = v ∧ ∃ ρ, matAll ng k.c0 st k.args args k.pre = some ρ
  | [], h => by cases h
  | k :: r, h => by
    unfold knownT at h
    have rest : knownT ng r f args st = some v → ∃ x ∈ k :: r, x.f = f ∧ x.v = v ∧ ∃ ρ, matAll ng x.c0 st x.args args x.pre = some ρ := fun h => by
      obtain ⟨x, h1, h2⟩ := knownT_some h
      exact ⟨x, List.mem_cons_of_mem _ h1, h2⟩
    cases hb : Nat.beq k.f f with
    | true =>
      simp only [hb, cond_true] at h
      split at h
      · rename_i ρ hm
        cases h
        exact ⟨k, List.mem_cons_self, Nat.eq_of_beq_eq_true hb, rfl, ρ, hm⟩
      · exact rest h
    | false =>
      simp only [hb, cond_false] at h
      exact rest h
/-- Calls with plain arguments, and calls by templates. -/
noncomputable def knownM (ng : Nat) (l : List Kn) (lt : List Tm) (f : FuncId) (args : List Value) (st : St) : Option Value :=
  match knownL l f args st with
  | some v => some v
  | none => knownT ng lt f args st
theorem knownM_ok {P : Program} {ng : Nat} {E : Env} (hP : E.P = P) (hng : E.ng = ng) {l : List Kn} {lt : List Tm} (hl : ∀ k ∈ l, k.Ok E) (hlt : ∀ k ∈ lt, k.Ok E) : ∀ f args st v, knownM ng l lt f args st = some v → plainV FUEL v = true ∧ ∀ (s : Ren) (W : World) (args' : Array Value), Mem s st W → (∀ g, g < ng → s g = some ⟨g, 0⟩) → VRs s args.toArray args' →
    Calls P f args' W fun e W' => e = .returned v ∧ Below W.heap.size W W' := by
  intro f args st v h
  unfold knownM at h
  split at h
  · rename_i v' hv
    cases h
    exact knownL_ok hP hng hl f args st _ hv
  · obtain ⟨k, hk, rfl, rfl, ρ, hm⟩ := knownT_some h
    have hok := hlt k hk
    refine ⟨hok.2.1, fun s W args' hM hG hA => ?_⟩
    subst hng
    rw [← hP]
    exact tm_ok hok hm hM hG hA

end Go.Proofs.Ytfilbknnpjbmcaa.Cx
