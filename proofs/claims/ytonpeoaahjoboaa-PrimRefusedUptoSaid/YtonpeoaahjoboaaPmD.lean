/- What package prim makes of a tree: what is refused changes nothing, what is done keeps it well formed, and no wider than so; made and taken away, renamed and back. No program. -/
import Derived.Test.YtonpeoaahjoboaaPmA0
namespace Go.Proofs.Ytonpeoaahjoboaa
open Go.RowKit Px Nx
namespace Nx
theorem less_self (x : ByteArray) : ¬ Op.bytesLess x.toList x.toList = true := fun h => less_ne h rfl
theorem set_high {l : Ents} {x : ByteArray} (h : ∀ a ∈ l, Op.bytesLess x.toList a.1.toList = true) (o : Option Nd) : setE l x o = one x o ++ l := by
  cases l with
  | nil => rw [setE]; simp
  | cons b r =>
    obtain ⟨y, v⟩ := b
    have h1 : Op.bytesLess x.toList y.toList = true := h (y, v) (by simp)
    have h2 : ¬ Op.bytesLess y.toList x.toList = true := fun h2 => less_self x (less_trans h1 h2)
    rw [setE, if_neg h2, if_neg (fun e => less_ne h1 e.symm)]
theorem set_one {r : Ents} {x : ByteArray} (h : ∀ a ∈ r, Op.bytesLess x.toList a.1.toList = true) (o o' : Option Nd) : setE (one x o ++ r) x o' = one x o' ++ r := by
  cases o with
  | none => exact set_high h o'
  | some k =>
    show setE ((x, k) :: r) x o' = _
    rw [setE, if_neg (less_self x), if_pos rfl]
theorem set_set {l : Ents} (h : Asc l) (x : ByteArray) (o o' : Option Nd) : setE (setE l x o) x o' = setE l x o' := by
  induction l with
  | nil =>
    have := set_one (r := []) (x := x) (fun a ha => by simp at ha) o o'
    rw [List.append_nil, List.append_nil] at this
    rw [setE, setE]
    exact this
  | cons b r ih =>
    obtain ⟨y, v⟩ := b
    obtain ⟨h1, h2⟩ := List.pairwise_cons.1 h
    by_cases hl : Op.bytesLess y.toList x.toList = true
    · rw [setE, if_pos hl, setE, if_pos hl, ih h2, setE, if_pos hl]
    · have hl' := Bool.eq_false_iff.2 hl
      by_cases hy : y = x
      · subst hy
        rw [setE, if_neg hl, if_pos rfl, setE, if_neg hl, if_pos rfl]
        exact set_one (fun a ha => h1 a ha) o o'
      · have hxy := less_tri hl' hy
        rw [setE, if_neg hl, if_neg hy, setE, if_neg hl, if_neg hy]
        refine set_one (fun a ha => ?_) o o'
        rcases List.mem_cons.1 ha with rfl | ha
        · exact hxy
        · exact less_trans hxy (h1 a ha)
theorem last_tail {x : ByteArray} {r : List ByteArray} (h : lastName (x :: r) = true) : lastName r = true := by
  cases r with
  | nil => rfl
  | cons c r => simpa [lastName] using h
theorem changed_twice {y z : Nd} (hz : Fine z) : ∀ (p : List ByteArray) (n : Nd), Fine n → (z = absent ∨ lastName p = true) → changedD (fun _ => y) p (changedD (fun _ => z) p n) = changedD (fun _ => y) p n
  | [], _, _, _ => rfl
  | x :: r, n, hn, hl => by
    have hl' : z = absent ∨ lastName r = true := hl.imp id last_tail
    by_cases hk : n.kind = 2
    · have hw : n.well = true := by
        rcases hn with h | rfl
        · exact h
        · cases hk
      obtain ⟨l, rfl, hg⟩ := dir_ents hw hk
      rw [changed_ofE hg.1, changed_ofE (asc_set x _ hg.1), changed_ofE hg.1, getE_set hg.1, if_pos rfl, opt_eq (fine_changed hz r _ (get_or hg x) hl').1, changed_twice hz r _ (get_or hg x) hl', set_set hg.1]
    · rw [changed_leaf _ x r hk, changed_leaf _ x r hk]
theorem changed_same {k : Nd} : ∀ (p : List ByteArray) (n : Nd), n.well = true → n.at_ p = some k → changedD (fun _ => k) p n = n
  | [], n, _, h => by
    obtain rfl : n = k := by simpa [Nd.at_] using h
    rfl
  | x :: r, n, hw, h => by
    rw [Nd.at_] at h
    obtain ⟨c, hc, hr⟩ := Option.bind_eq_some_iff.1 h
    clear h
    by_cases hk : n.kind = 2
    · obtain ⟨l, rfl, hg⟩ := dir_ents hw hk
      rw [kid_ofE] at hc
      have hcw := good_get hg hc
      have e3 : ((some c : Option Nd).getD absent) = c := rfl
      rw [changed_ofE hg.1, hc, e3, changed_same r c hcw hr, opt_well hcw, ← hc, setE_self hg.1]
    · rw [kid_leaf hw hk] at hc
      cases hc
theorem changed_gone : ∀ (p : List ByteArray) (n : Nd), n.well = true → n.at_ p = .none → changedD (fun _ => absent) p n = n
  | [], n, _, h => by simp [Nd.at_] at h
  | x :: r, n, hw, h => by
    by_cases hk : n.kind = 2
    · obtain ⟨l, rfl, hg⟩ := dir_ents hw hk
      rw [Nd.at_, kid_ofE] at h
      rw [changed_ofE hg.1]
      cases hc : getE l x with
      | none =>
        have e3 : ((.none : Option Nd).getD absent) = absent := rfl
        have e4 : changedD (fun _ => absent) r absent = absent := by
          cases r with
          | nil => rfl
          | cons z q => exact changed_absent _ z q
        rw [e3, e4, opt_absent, ← hc, setE_self hg.1]
      | some c =>
        rw [hc] at h
        have hcw := good_get hg hc
        have e3 : ((some c : Option Nd).getD absent) = c := rfl
        rw [e3, changed_gone r c hcw h, opt_well hcw, ← hc, setE_self hg.1]
    · exact changed_leaf _ x r hk
theorem kat_none {n : Nd} (hw : n.well = true) {p : List ByteArray} (h : kat n p = 0) : n.at_ p = .none := by
  cases ha : n.at_ p with
  | none => rfl
  | some k =>
    unfold kat at h
    rw [ha] at h
    exact absurd h (well_kind (well_at hw ha))
theorem kat_root {n : Nd} (h : n.kind = 2) : kat n [] = 2 := h
theorem taken_open {n : Nd} {p : List ByteArray} (h : takenD n p = true) (hp : p ≠ []) : openD n p = true := by
  unfold takenD at h
  rw [Bool.or_eq_true] at h
  rcases h with h | h
  · exact absurd (List.length_eq_zero_iff.1 (of_decide_eq_true h)) hp
  · exact h
theorem open_taken {n : Nd} {p : List ByteArray} (h : openD n p = true) : takenD n p = true := by
  unfold takenD
  rw [h, Bool.or_true]
theorem kind_of_map {o o' : Option Nd} (h : o.map Nd.kind = o'.map Nd.kind) : (o.getD absent).kind = (o'.getD absent).kind := by
  cases o <;> cases o' <;> simp_all
/-- A place is open still, where what was changed does not stand at its parent, or ahead of it. -/
theorem open_kept {n y : Nd} {A l : List ByteArray} {x : ByteArray} (hw : n.well = true) (ha : ¬ A <+: l) : openD (changedD (fun _ => y) A n) (l ++ [x]) = openD n (l ++ [x]) := by
  rw [openD_snoc, openD_snoc, kind_of_map (kind_apart (y := y) A l n (.inl hw) ha)]
theorem not_longer {l : List ByteArray} {x : ByteArray} : ¬ (l ++ [x]) <+: l := fun h => by
  have := h.length_le
  rw [List.length_append, List.length_singleton] at this
  omega
/-- What was made. -/
theorem made_there {n y : Nd} {p : List ByteArray} (hw : n.well = true) (hk : n.kind = 2) (hy : y.well = true) (h : (makeD n p y).1 = 0) :
    makeD n p y = (0, changedD (fun _ => y) p n) ∧ p ≠ [] ∧ (changedD (fun _ => y) p n).at_ p = some y ∧ (changedD (fun _ => y) p n).well = true ∧ takenD (changedD (fun _ => y) p n) p = true ∧ delD (changedD (fun _ => y) p n) p = n := by
  unfold makeD at h ⊢
  rw [hy] at h ⊢
  cases ht : takenD n p with
  | false => rw [ht] at h; exact absurd (show (5 : Int) = 0 from h) (by decide)
  | true =>
    rw [ht] at h
    cases h0 : decide (kat n p = 0) with
    | false => rw [h0] at h; exact absurd (show (6 : Int) = 0 from h) (by decide)
    | true =>
      have h0' := of_decide_eq_true h0
      have hne : p ≠ [] := fun e => by rw [e, kat_root hk] at h0'; exact absurd h0' (by decide)
      have ho := taken_open ht hne
      have hput : putD n p y = changedD (fun _ => y) p n := by unfold putD; rw [ho, hy]; rfl
      obtain ⟨h1, h2, h3⟩ := copy_at (A := p) hw hy ho
      refine ⟨by rw [hput]; rfl, hne, h1, h2, ?_, ?_⟩
      · obtain ⟨l, x, rfl, _, _⟩ := open_parts ho
        refine open_taken ?_
        rw [open_kept hw not_longer]
        exact ho
      · unfold delD
        obtain ⟨l, x, rfl, hx, _⟩ := open_parts ho
        rw [if_neg hne, changed_twice (.inl hy) _ _ (.inl hw) (.inr (last_snoc hx))]
        exact changed_gone _ n hw (kat_none hw h0')
theorem dirN_well : dirN.well = true := by kernel_rfl
theorem back_dir {n : Nd} {p : List ByteArray} (hw : n.well = true) (hk : n.kind = 2) (h : (makeD n p dirN).1 = 0) :
    (makeD n p dirN).2.well = true ∧ kat (makeD n p dirN).2 p = 2 ∧ emptyD (makeD n p dirN).2 p = true ∧ removeD (makeD n p dirN).2 p (wrongDir (makeD n p dirN).2 p) = (0, n) := by
  obtain ⟨e, hne, h1, h2, h3, h4⟩ := made_there hw hk dirN_well h
  rw [e]
  show (changedD (fun _ => dirN) p n).well = true ∧ kat (changedD (fun _ => dirN) p n) p = 2 ∧ emptyD (changedD (fun _ => dirN) p n) p = true ∧ removeD (changedD (fun _ => dirN) p n) p (wrongDir (changedD (fun _ => dirN) p n) p) = (0, n)
  have hkat : kat (changedD (fun _ => dirN) p n) p = 2 := by unfold kat; rw [h1]; rfl
  have hemp : emptyD (changedD (fun _ => dirN) p n) p = true := by unfold emptyD; rw [h1]; rfl
  refine ⟨h2, hkat, hemp, ?_⟩
  have hl : decide (p.length = 0) = false := decide_eq_false fun e => hne (List.length_eq_zero_iff.1 e)
  unfold removeD wrongDir
  rw [h3, hkat, hemp, hl, h4]
  rfl
theorem fileN_well {s : ByteArray} (h : textL s = true) : (fileN s).well = true := by
  unfold fileN Nd.well
  simp [h]
theorem back_file {n : Nd} {p : List ByteArray} {s : ByteArray} (hs : textL s = true) (hw : n.well = true) (hk : n.kind = 2) (h : (makeD n p (fileN s)).1 = 0) :
    (makeD n p (fileN s)).2.well = true ∧ (((makeD n p (fileN s)).2.at_ p).getD absent).text = s ∧ removeD (makeD n p (fileN s)).2 p (wrongFile (makeD n p (fileN s)).2 p) = (0, n) := by
  obtain ⟨e, hne, h1, h2, h3, h4⟩ := made_there hw hk (fileN_well hs) h
  rw [e]
  show (changedD (fun _ => fileN s) p n).well = true ∧ (((changedD (fun _ => fileN s) p n).at_ p).getD absent).text = s ∧ removeD (changedD (fun _ => fileN s) p n) p (wrongFile (changedD (fun _ => fileN s) p n) p) = (0, n)
  have hkat : kat (changedD (fun _ => fileN s) p n) p = 1 := by unfold kat; rw [h1]; rfl
  refine ⟨h2, by rw [h1]; rfl, ?_⟩
  unfold removeD wrongFile
  rw [h3, hkat, h4]
  rfl
theorem cond_pair {α : Type} {b : Bool} {x y z : α} (h : (bif b then x else y) = z) : (b = true ∧ x = z) ∨ (b = false ∧ y = z) := by
  cases b
  · exact .inr ⟨rfl, h⟩
  · exact .inl ⟨rfl, h⟩
/-- What a renaming that is not refused asks. -/
theorem rename_parts {n : Nd} {p q : List ByteArray} (h : (renameD n p q).1 = 0) : renameD n p q = (0, moveD n p q) ∧ takenD n p = true ∧ takenD n q = true ∧ kat n p ≠ 0 ∧ p ≠ q ∧ p ≠ [] ∧ underL p q = false ∧ givesD n q (decide (kat n p = 2)) = 0 := by
  unfold renameD at h ⊢
  cases h1 : takenD n p && takenD n q with
  | false => rw [h1] at h; exact absurd (show (5 : Int) = 0 from h) (by decide)
  | true =>
    rw [h1] at h
    obtain ⟨t1, t2⟩ := (Bool.and_eq_true _ _).mp h1
    cases h2 : decide (kat n p = 0) with
    | true => rw [h2] at h; exact absurd (show (5 : Int) = 0 from h) (by decide)
    | false =>
      rw [h2] at h
      cases h3 : decide (p = q) with
      | true => rw [h3] at h; exact absurd (show (6 : Int) = 0 from h) (by decide)
      | false =>
        rw [h3] at h
        cases h4 : decide (p.length = 0) with
        | true => rw [h4] at h; exact absurd (show (57 : Int) = 0 from h) (by decide)
        | false =>
          rw [h4] at h
          cases h5 : underL p q with
          | true => rw [h5] at h; exact absurd (show (58 : Int) = 0 from h) (by decide)
          | false =>
            rw [h5] at h
            cases h6 : decide (givesD n q (decide (kat n p = 2)) = 0) with
            | false =>
              rw [h6] at h
              have : givesD n q (decide (kat n p = 2)) = 0 := h
              exact absurd this (of_decide_eq_false h6)
            | true =>
              exact ⟨rfl, t1, t2, of_decide_eq_false h2, of_decide_eq_false h3, fun e => of_decide_eq_false h4 (by rw [e]; rfl), rfl, of_decide_eq_true h6⟩
theorem at_prefix_none {n : Nd} {p q : List ByteArray} (h : n.at_ p = .none) (hp : p <+: q) : n.at_ q = .none := by
  obtain ⟨s, rfl⟩ := hp
  rw [Nd.at_append, h]
  rfl
theorem back_rename {n : Nd} {p q : List ByteArray} (hw : n.well = true) (hk : n.kind = 2) (h0 : kat n q = 0) (h : (renameD n p q).1 = 0) :
    (renameD n p q).2.well = true ∧ kat (renameD n p q).2 p = 0 ∧ renameD (renameD n p q).2 q p = (0, n) := by
  obtain ⟨e, t1, t2, hkp, hpq, hp, hu, hg⟩ := rename_parts h
  rw [e]
  show (moveD n p q).well = true ∧ kat (moveD n p q) p = 0 ∧ renameD (moveD n p q) q p = (0, n)
  have hqn : n.at_ q = .none := kat_none hw h0
  have hq : q ≠ [] := fun e => by rw [e, kat_root hk] at h0; exact absurd h0 (by decide)
  obtain ⟨k, hpk⟩ : ∃ k, n.at_ p = some k := some_of_kind hkp
  have hkw := well_at hw hpk
  have hqp : ¬ q <+: p := fun hh => by
    rw [at_prefix_none hqn hh] at hpk
    cases hpk
  have hpq' := under_not hu
  have hu' : underL q p = false := by
    rw [Bool.eq_false_iff]
    exact fun hh => hqp ((underL_iff q p).1 hh)
  have op := taken_open t1 hp
  have oq := taken_open t2 hq
  have hlead : leadsD n p q = true := by
    unfold leadsD
    rw [hu, hu', hpk, oq]
    simp [well_kind hkw]
  have hmv : moveD n p q = changedD (fun _ => k) q (changedD (fun _ => absent) p n) := by
    unfold moveD
    rw [if_pos hlead, hpk]
    rfl
  obtain ⟨mw, mk⟩ := move_well (A := p) (B := q) hw
  obtain ⟨cw, ck⟩ := left_well hw hlead
  have hne : n ≠ moveD n p q := fun e => by
    have hcq := (copy_at (A := q) cw hkw (open_left hw hpq' oq)).1
    rw [← hmv, ← e, hqn] at hcq
    cases hcq
  obtain ⟨k', h1, h2, h3⟩ := move_there hw hne
  obtain rfl : k = k' := Option.some.inj (hpk.symm.trans h1)
  have hkat : kat (moveD n p q) p = 0 := by unfold kat; rw [h2]; rfl
  have hkat2 : kat (moveD n p q) q = k.kind := by unfold kat; rw [h3]; rfl
  refine ⟨mw, hkat, ?_⟩
  obtain ⟨lp, xp, rfl, nxp, kp⟩ := open_parts op
  obtain ⟨lq, xq, rfl, nxq, kq⟩ := open_parts oq
  have op2 : openD (moveD n (lp ++ [xp]) (lq ++ [xq])) (lp ++ [xp]) = true := by
    rw [hmv, open_kept cw (fun hh => hqp (hh.trans (List.prefix_append lp [xp]))), open_kept hw not_longer]
    exact op
  have oq2 : openD (moveD n (lp ++ [xp]) (lq ++ [xq])) (lq ++ [xq]) = true := by
    rw [hmv, open_kept cw not_longer]
    exact open_left hw hpq' oq
  have hlead2 : leadsD (moveD n (lp ++ [xp]) (lq ++ [xq])) (lq ++ [xq]) (lp ++ [xp]) = true := by
    unfold leadsD
    rw [hu, hu', h3, op2]
    simp [well_kind hkw]
  have hback : moveD (moveD n (lp ++ [xp]) (lq ++ [xq])) (lq ++ [xq]) (lp ++ [xp]) = n := by
    unfold moveD at hlead2 h3 ⊢
    rw [if_pos hlead, hpk] at hlead2 h3 ⊢
    rw [if_pos hlead2, h3]
    show changedD (fun _ => k) (lp ++ [xp]) (changedD (fun _ => absent) (lq ++ [xq]) (changedD (fun _ => k) (lq ++ [xq]) (changedD (fun _ => absent) (lp ++ [xp]) n))) = n
    rw [changed_twice (.inl hkw) _ _ (.inl cw) (.inr (last_snoc nxq)), changed_gone _ _ cw (by rw [at_apart (lp ++ [xp]) (lq ++ [xq]) n (.inl hw) hpq' hqp]; exact hqn), changed_twice (.inr rfl) _ _ (.inl hw) (.inl rfl)]
    exact changed_same _ n hw hpk
  have hgv : givesD (moveD n (lp ++ [xp]) (lq ++ [xq])) (lp ++ [xp]) (decide (kat (moveD n (lp ++ [xp]) (lq ++ [xq])) (lq ++ [xq]) = 2)) = 0 := by
    unfold givesD
    rw [hkat]
    rfl
  unfold renameD
  rw [open_taken op2, open_taken oq2, hkat2, decide_eq_false (well_kind hkw), decide_eq_false (fun e => hpq e.symm), hu']
  rw [hkat2] at hgv
  rw [hgv, hback]
  have hl : decide ((lq ++ [xq]).length = 0) = false := decide_eq_false (by simp)
  rw [hl]
  rfl
end Nx
end Go.Proofs.Ytonpeoaahjoboaa
