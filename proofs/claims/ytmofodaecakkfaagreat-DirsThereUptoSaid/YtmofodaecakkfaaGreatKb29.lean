/- Ways behind what was made: where nothing stood, and something is made, the same way leads to it. No program. -/
import Derived.Test.YtmofodaecakkfaaGreatKb27
import Derived.Test.YtmofodaecakkfaaGreatKb28
namespace Go.Proofs.YtmofodaecakkfaaGreat
open Go.RowKit Px Nx
namespace Wk
theorem at_dirs {n : Nd} (hw : n.well = true) : ∀ (m : Nat) (s q : List ByteArray) (k : Nd), s.length = m → n.at_ (q ++ s) = some k → k.kind = 2 → kindAt n q = 2
  | 0, s, q, k, hs, h, hk => by
    obtain rfl := List.eq_nil_of_length_eq_zero hs
    rw [List.append_nil] at h
    unfold kindAt
    rw [h]
    exact hk
  | m + 1, s, q, k, hs, h, hk => by
    rcases List.eq_nil_or_concat s with rfl | ⟨t, x, rfl⟩
    · simp at hs
    · rw [List.concat_eq_append] at h hs
      rw [← List.append_assoc] at h
      have hd := at_kid hw h
      cases hq : n.at_ (q ++ t) with
      | none => rw [hq] at hd; exact absurd hd (by decide)
      | some d =>
        rw [hq] at hd
        exact at_dirs hw m t q d (by simpa using hs) hq hd
/-- Directories alone stand above an open place. -/
theorem open_above {n : Nd} (hw : n.well = true) {p : List ByteArray} (h : openD n p = true) {q : List ByteArray} (hq : q <+: p) (hne : q ≠ p) : kindAt n q = 2 := by
  obtain ⟨l, x, rfl, _, h2⟩ := open_parts h
  rcases prefix_snoc hq with h3 | h3
  · obtain ⟨s, rfl⟩ := h3
    cases hd : n.at_ (q ++ s) with
    | none => rw [hd] at h2; exact absurd h2 (by decide)
    | some d =>
      rw [hd] at h2
      exact at_dirs hw s.length s q d rfl hd h2
  · exact absurd h3 hne
theorem at_none_below {n : Nd} {p : List ByteArray} (h : n.at_ p = .none) (s : List ByteArray) : n.at_ (p ++ s) = .none := by
  rw [Nd.at_append, h]
  rfl
/-- What stood stays as it was, behind something made where nothing stood. -/
theorem made_kept {n y : Nd} (hw : n.well = true) (hy : Fine y) {p : List ByteArray} (ho : openD n p = true) (h0 : kindAt n p = 0) {q : List ByteArray} (hq : kindAt n q ≠ 0) :
    kindAt (changedD (fun _ => y) p n) q = kindAt n q ∧ (kindAt n q = 3 → textAt (changedD (fun _ => y) p n) q = textAt n q) := by
  have hpq : ¬ p <+: q := by
    rintro ⟨s, rfl⟩
    have h1 : n.at_ p = .none := kat_none hw h0
    apply hq
    unfold kindAt
    rw [at_none_below h1]
    rfl
  by_cases hqp : q <+: p
  · have hne : q ≠ p := fun e => hpq (e ▸ List.prefix_refl q)
    have h2 := open_above hw ho hqp hne
    refine ⟨?_, fun h3 => absurd (h2.symm.trans h3) (by decide)⟩
    exact kind_of_map (kind_apart p q n (.inl hw) hpq)
  · unfold kindAt textAt
    rw [at_apart p q n (.inl hw) hpq hqp]
    exact ⟨rfl, fun _ => rfl⟩
variable {n n' : Nd} {st : ByteArray → List ByteArray} {dr ab : ByteArray → Bool} {P : List ByteArray}
/-- A directory made at a way's end: the way leads to it. -/
theorem run_made (H : ∀ q, kindAt n q ≠ 0 → kindAt n' q = kindAt n q ∧ (kindAt n q = 3 → textAt n' q = textAt n q)) (h1 : kindAt n' P = 2) {fo : Bool} {at_ l : List ByteArray} {j : Nat} {a : Bool} {o : Out}
    (h : Run n st dr ab fo at_ l j a o) : o = .ok P 0 → Run n' st dr ab fo at_ l j a (.ok P 2) := by
  induction h with
  | done at_ j a => intro e; cases e
  | up at_ r j a o _ ih => exact fun e => .up at_ r j a _ (ih e)
  | ends at_ s j a hs he =>
    intro e
    injection e with e1 e2
    subst e1
    cases a with
    | false =>
      have := Run.ends (n := n') (st := st) (dr := dr) (ab := ab) (fo := fo) at_ s j false hs (by rw [h1]; rfl)
      rw [h1] at this
      exact this
    | true => exact .dir at_ s [] j true _ hs (.inr (by rw [h1]; rfl)) h1 (.done _ _ _)
  | none => intro e; cases e
  | dir at_ s r j a o hs hg hk _ ih =>
    intro e
    have hk' : kindAt n' (at_ ++ [s]) = 2 := ((H _ (by rw [hk]; decide)).1).trans hk
    exact .dir at_ s r j a _ hs (by rw [hk']; rwa [hk] at hg) hk' (ih e)
  | loop => intro e; cases e
  | link at_ s r j a o hs hg hk hj _ ih =>
    intro e
    obtain ⟨g1, g2⟩ := H (at_ ++ [s]) (by rw [hk]; decide)
    have hk' : kindAt n' (at_ ++ [s]) = 3 := g1.trans hk
    refine .link at_ s r j a _ hs (by rw [hk']; rwa [hk] at hg) hk' hj ?_
    rw [g2 hk]
    exact ih e
  | file => intro e; cases e
/-- A file made at the end of a way that no link ended: the way leads to it. -/
theorem run_touched (H : ∀ q, kindAt n q ≠ 0 → kindAt n' q = kindAt n q ∧ (kindAt n q = 3 → textAt n' q = textAt n q)) (h1 : kindAt n' P = 1) {at_ l : List ByteArray} {j : Nat} {a : Bool} {o : Out}
    (h : Run n st dr ab false at_ l j a o) : a = false → o = .ok P 0 → ∀ fo, Run n' st dr ab fo at_ l j false (.ok P 1) := by
  induction h with
  | done at_ j a => intro _ e; cases e
  | up at_ r j a o _ ih => exact fun ha e fo => .up at_ r j false _ (ih ha e fo)
  | ends at_ s j a hs he =>
    intro _ e fo
    injection e with e1 e2
    subst e1
    have := Run.ends (n := n') (st := st) (dr := dr) (ab := ab) (fo := fo) at_ s j false hs (by rw [h1]; rfl)
    rw [h1] at this
    exact this
  | none => intro _ e; cases e
  | dir at_ s r j a o hs hg hk _ ih =>
    intro ha e fo
    subst ha
    have hk' : kindAt n' (at_ ++ [s]) = 2 := ((H _ (by rw [hk]; decide)).1).trans hk
    have hr : r ≠ [] := by
      rcases hg with h | h
      · exact h
      · rw [hk] at h; exact absurd h (by decide)
    exact .dir at_ s r j false _ hs (.inl hr) hk' (ih rfl e fo)
  | loop => intro _ e; cases e
  | link at_ s r j a o hs hg hk hj _ ih =>
    intro ha e fo
    subst ha
    obtain ⟨g1, g2⟩ := H (at_ ++ [s]) (by rw [hk]; decide)
    have hk' : kindAt n' (at_ ++ [s]) = 3 := g1.trans hk
    have hr : r ≠ [] := by
      rcases hg with h | h
      · exact h
      · rw [hk] at h; exact absurd h (by decide)
    have hre : r.isEmpty = false := by cases r with
      | nil => exact absurd rfl hr
      | cons _ _ => rfl
    refine .link at_ s r j false _ hs (.inl hr) hk' hj ?_
    rw [g2 hk]
    have := ih (by rw [hre]; rfl) e fo
    rw [hre]
    exact this
  | file => intro _ e; cases e
/-- A way that ends at a directory ends there whether a directory is asked for or not. -/
theorem run_asks {at_ l : List ByteArray} {j : Nat} {a : Bool} {o : Out} (h : Run n st dr ab true at_ l j a o) : o = .ok P 2 → ∀ a', Run n st dr ab true at_ l j a' (.ok P 2) := by
  induction h with
  | done at_ j a =>
    intro e a'
    injection e with e1 _
    subst e1
    exact .done _ _ _
  | up at_ r j a o _ ih => exact fun e a' => .up at_ r j a' _ (ih e a')
  | ends at_ s j a hs he =>
    intro e a'
    injection e with e1 e2
    subst e1
    cases a' with
    | false =>
      have := Run.ends (n := n) (st := st) (dr := dr) (ab := ab) (fo := true) at_ s j false hs (by rw [e2]; rfl)
      rw [e2] at this
      exact this
    | true => exact .dir at_ s [] j true _ hs (.inr (by rw [e2]; rfl)) e2 (.done _ _ _)
  | none => intro e; cases e
  | dir at_ s r j a o hs hg hk hrun ih =>
    intro e a'
    by_cases hr : r = []
    · subst hr
      subst e
      cases hrun
      cases a' with
      | false =>
        have := Run.ends (n := n) (st := st) (dr := dr) (ab := ab) (fo := true) at_ s j false hs (by rw [hk]; rfl)
        rw [hk] at this
        exact this
      | true => exact .dir at_ s [] j true _ hs (.inr (by rw [hk]; rfl)) hk (.done _ _ _)
    · exact .dir at_ s r j a' _ hs (.inl hr) hk (ih e a')
  | loop => intro e; cases e
  | link at_ s r j a o hs hg hk hj _ ih =>
    intro e a'
    exact .link at_ s r j a' _ hs (.inr (by rw [hk]; cases a' <;> rfl)) hk hj (ih e _)
  | file => intro e; cases e
end Wk
namespace Wk
theorem made_step {n y : Nd} (hw : n.well = true) (hy : y.well = true) {p : List ByteArray} (ho : openD n p = true) (h0 : kindAt n p = 0) : putD n p y = changedD (fun _ => y) p n ∧ kindAt (changedD (fun _ => y) p n) p = y.kind := by
  constructor
  · unfold putD
    rw [ho, hy]
    rfl
  · have hne : p ≠ [] := by
      rintro rfl
      rw [openD_nil] at ho
      cases ho
    obtain ⟨l, x, rfl, _, h2⟩ := open_parts ho
    have hr : reachD (l ++ [x]) n = some ((n.at_ (l ++ [x])).getD absent) := by rw [reach_at l x n (.inl hw), if_pos h2]
    have := at_changed (.inl hy) (l ++ [x]) [] n _ (.inl hw) hr hne
    unfold kindAt
    rw [List.append_nil] at this
    rw [this, opt_well hy]
    rfl
variable {n : Nd} {st : ByteArray → List ByteArray} {dr ab : ByteArray → Bool}
/-- mkdir where nothing stood: a directory is there. -/
theorem make_there (hw : n.well = true) (hk : n.kind = 2) {l : List ByteArray} {a : Bool} {p : List ByteArray} (h : Run n st dr ab true [] l 0 a (.ok p 0)) (hc : (makeD n p dirN).1 = 0) (a' : Bool) : Run (makeD n p dirN).2 st dr ab true [] l 0 a' (.ok p 2) := by
  have h0 : kindAt n p = 0 := (run_real hk h (dirsTo_nil hk) p 0 rfl).2
  have hk0 : kat n p = 0 := h0
  have hne : p ≠ [] := by
    rintro rfl
    rw [kat_root hk] at hk0
    exact absurd hk0 (by decide)
  have ht : takenD n p = true := by
    unfold makeD at hc
    cases hd : takenD n p with
    | true => rfl
    | false => rw [hd] at hc; exact absurd (show (5 : Int) = 0 from hc) (by decide)
  have ho := taken_open ht hne
  have hm : (makeD n p dirN).2 = putD n p dirN := by
    unfold makeD
    rw [ht, dirN_well, hk0]
    rfl
  obtain ⟨e1, e2⟩ := made_step hw dirN_well ho h0
  rw [hm, e1]
  exact run_asks (run_made (fun q hq => made_kept hw (.inl dirN_well) ho h0 hq) e2 h rfl) rfl a'
/-- touch where nothing stood, at the end of a way that no link ended: a file is there. -/
theorem touch_there (hw : n.well = true) (hk : n.kind = 2) {l : List ByteArray} {p : List ByteArray} (h : Run n st dr ab false [] l 0 false (.ok p 0)) (hc : (touchD n p).1 = 0) (fo : Bool) : Run (touchD n p).2 st dr ab fo [] l 0 false (.ok p 1) := by
  have h0 : kindAt n p = 0 := (run_real hk h (dirsTo_nil hk) p 0 rfl).2
  have hk0 : kat n p = 0 := h0
  have hne : p ≠ [] := by
    rintro rfl
    rw [kat_root hk] at hk0
    exact absurd hk0 (by decide)
  have ht : takenD n p = true := by
    unfold touchD at hc
    cases hd : takenD n p with
    | true => rfl
    | false => rw [hd] at hc; exact absurd (show (5 : Int) = 0 from hc) (by decide)
  have ho := taken_open ht hne
  have hfw : (fileN ByteArray.empty).well = true := by kernel_rfl
  have hm : (touchD n p).2 = putD n p (fileN ByteArray.empty) := by
    unfold touchD
    rw [ht, hk0]
    rfl
  obtain ⟨e1, e2⟩ := made_step hw hfw ho h0
  rw [hm, e1]
  exact run_touched (fun q hq => made_kept hw (.inl hfw) ho h0 hq) e2 h rfl rfl fo
/-- What was taken away is not there. -/
theorem remove_gone (hw : n.well = true) {p : List ByteArray} {c : Int} (hp : p ≠ []) (hc : (removeD n p c).1 = 0) : kindAt (removeD n p c).2 p = 0 := by
  unfold removeD at hc ⊢
  revert hc
  cases takenD n p
  · exact fun h => absurd (show (5 : Int) = 0 from h) (by decide)
  · cases decide (kat n p = 0)
    · cases hd : decide (c = 0)
      · exact fun h => absurd (show c = 0 from h) (of_decide_eq_false hd)
      · intro _
        show kindAt (delD n p) p = 0
        unfold delD
        rw [if_neg hp]
        unfold kindAt
        rw [del_there hw hp]
        rfl
    · exact fun h => absurd (show (5 : Int) = 0 from h) (by decide)
end Wk
end Go.Proofs.YtmofodaecakkfaaGreat
