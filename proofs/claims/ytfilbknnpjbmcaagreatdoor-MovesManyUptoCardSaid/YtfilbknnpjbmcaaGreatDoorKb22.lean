/- Nodes changed at a place, as data: what stands where then; they stay well formed. No program. -/
import Derived.Test.YtfilbknnpjbmcaaGreatDoorKb21
namespace Go.Proofs.YtfilbknnpjbmcaaGreatDoor
open Go.RowKit Px Nx
namespace Nx

theorem less_tri {x y : ByteArray} (h : Op.bytesLess x.toList y.toList = false) (hn : x ≠ y) : Op.bytesLess y.toList x.toList = true := by
 cases h2 : Op.bytesLess y.toList x.toList with
 | true => rfl
 | false =>
  exfalso
  have h3 : lessL [x] [y] = false := by simp [lessL, h]
  have h4 : lessL [y] [x] = false := by simp [lessL, h2]
  have := lessL_total [x] [y] h3 h4
  simp at this
  exact hn this
theorem less_ne {x y : ByteArray} (h : Op.bytesLess x.toList y.toList = true) : x ≠ y := by
 rintro rfl
 rw [less_irrefl] at h
 cases h

def opt (k : Nd) : Option Nd := if k.kind = 0 then .none else some k
abbrev Ents := List (ByteArray × Nd)
def getE : Ents → ByteArray → Option Nd
 | [], _ => .none
 | (y, v) :: r, x => if y = x then some v else getE r x
def one (x : ByteArray) (o : Option Nd) : Ents := (o.map fun k => (x, k)).toList
def setE : Ents → ByteArray → Option Nd → Ents
 | [], x, o => one x o
 | (y, v) :: r, x, o => if Op.bytesLess y.toList x.toList then (y, v) :: setE r x o else one x o ++ (if y = x then r else (y, v) :: r)
def Asc (l : Ents) : Prop := l.Pairwise fun a b => Op.bytesLess a.1.toList b.1.toList = true
def ofE (l : Ents) : Nd := .mk 2 ByteArray.empty (l.map (·.1)) (l.map (·.2))
def GoodE (l : Ents) : Prop := Asc l ∧ ∀ a ∈ l, nameL a.1.data.toList = true ∧ a.2.well = true

theorem getE_none {l : Ents} {x : ByteArray} (h : ∀ a ∈ l, a.1 ≠ x) : getE l x = .none := by
 induction l with
 | nil => rfl
 | cons a r ih =>
  obtain ⟨y, v⟩ := a
  rw [getE, if_neg (h (y, v) (by simp))]
  exact ih fun a ha => h a (by simp [ha])
theorem getE_mem {l : Ents} {x : ByteArray} {k : Nd} (h : getE l x = some k) : (x, k) ∈ l := by
 induction l with
 | nil => cases h
 | cons a r ih =>
  obtain ⟨y, v⟩ := a
  rw [getE] at h
  split at h
  ·rename_i hy
   cases h
   rw [hy]
   simp
  ·exact List.mem_cons_of_mem _ (ih h)
theorem find_cons (y : ByteArray) (l : List ByteArray) (x : ByteArray) : findL (y :: l) x = if y = x then 0 else if findL l x < 0 then -1 else findL l x + 1 := by
 unfold findL
 rw [List.findIdx?_cons]
 by_cases h : y = x
 ·rw [decide_eq_true h, if_pos h]; rfl
 ·rw [decide_eq_false h, if_neg h]
  cases hf : l.findIdx? (fun y => decide (y = x)) with
  | none => rfl
  | some i =>
   have : ¬ ((i : Int) < 0) := by omega
   simp [this]
theorem kid_ofE (l : Ents) (x : ByteArray) : (ofE l).kid x = getE l x := by
 induction l with
 | nil => rfl
 | cons a r ih =>
  obtain ⟨y, v⟩ := a
  rw [getE, ← ih]
  unfold Nd.kid
  have e1 : (ofE ((y, v) :: r)).names = y :: (ofE r).names := rfl
  have e2 : (ofE ((y, v) :: r)).kids = v :: (ofE r).kids := rfl
  rw [e1, e2, find_cons]
  have hge := findL_ge (ofE r).names x
  by_cases h : y = x
  ·rw [if_pos h, if_pos h]; rfl
  ·rw [if_neg h, if_neg h]
   by_cases hf : findL (ofE r).names x < 0
   ·rw [if_pos hf, if_pos (by decide), if_pos hf]
   ·rw [if_neg hf, if_neg (by omega), if_neg hf]
    have e3 : (findL (ofE r).names x + 1).toNat = (findL (ofE r).names x).toNat + 1 := by omega
    rw [e3, List.getElem?_cons_succ]
theorem one_mem {x : ByteArray} {o : Option Nd} {a : ByteArray × Nd} (h : a ∈ one x o) : a.1 = x ∧ o = some a.2 := by
 unfold one at h
 cases o with
 | none => simp at h
 | some k =>
  simp at h
  subst h
  exact ⟨rfl, rfl⟩
theorem setE_mem {l : Ents} {x : ByteArray} {o : Option Nd} {a : ByteArray × Nd} (h : a ∈ setE l x o) : a ∈ l ∨ (a.1 = x ∧ o = some a.2) := by
 induction l with
 | nil => exact .inr (one_mem h)
 | cons b r ih =>
  obtain ⟨y, v⟩ := b
  rw [setE] at h
  split at h
  ·rcases List.mem_cons.1 h with rfl | h
   ·exact .inl (by simp)
   ·rcases ih h with h | h
    ·exact .inl (by simp [h])
    ·exact .inr h
  ·rcases List.mem_append.1 h with h | h
   ·exact .inr (one_mem h)
   ·split at h
    ·exact .inl (by simp [h])
    ·exact .inl h
theorem asc_set {l : Ents} (x : ByteArray) (o : Option Nd) (h : Asc l) : Asc (setE l x o) := by
 induction l with
 | nil =>
  unfold setE one Asc
  cases o <;> simp
 | cons b r ih =>
  obtain ⟨y, v⟩ := b
  obtain ⟨h1, h2⟩ := List.pairwise_cons.1 h
  rw [setE]
  split
  ·rename_i hl
   refine List.pairwise_cons.2 ⟨fun a ha => ?_, ih h2⟩
   rcases setE_mem ha with h3 | ⟨h3, _⟩
   ·exact h1 a h3
   ·rw [h3]; exact hl
  ·rename_i hl
   have hl' := Bool.eq_false_iff.2 hl
   refine List.pairwise_append.2 ⟨?_, ?_, fun a ha c hc => ?_⟩
   ·unfold one; cases o <;> simp
   ·split
    ·exact h2
    ·exact h
   ·obtain ⟨e, _⟩ := one_mem ha
    rw [e]
    split at hc
    ·rename_i hy
     rw [← hy]
     exact h1 c hc
    ·rename_i hy
     have h3 := less_tri hl' hy
     rcases List.mem_cons.1 hc with rfl | hc
     ·exact h3
     ·exact less_trans h3 (h1 c hc)
theorem getE_set {l : Ents} (h : Asc l) (x : ByteArray) (o : Option Nd) (z : ByteArray) : getE (setE l x o) z = if z = x then o else getE l z := by
 induction l with
 | nil =>
  unfold setE one
  cases o with
  | none => simp [getE]
  | some k =>
   by_cases hz : z = x
   ·simp [getE, hz]
   ·rw [if_neg hz]
    simp [getE, Ne.symm hz]
 | cons b r ih =>
  obtain ⟨y, v⟩ := b
  obtain ⟨h1, h2⟩ := List.pairwise_cons.1 h
  rw [setE]
  split
  ·rename_i hl
   have hyx := less_ne hl
   rw [getE, ih h2, getE]
   by_cases hz : z = x
   ·subst hz
    rw [if_neg hyx, if_pos rfl, if_pos rfl]
   ·rw [if_neg hz]
    by_cases hy : y = z
    ·rw [if_pos hy, if_neg hz]
    ·rw [if_neg hy, if_neg hz]
  ·rename_i hl
   have hl' := Bool.eq_false_iff.2 hl
   have hrest : ∀ w, w ≠ x → getE (if y = x then r else (y, v) :: r) w = getE ((y, v) :: r) w := by
    intro w hw
    split
    ·rename_i hy
     rw [getE, if_neg (fun e => hw (e.symm.trans hy))]
    ·rfl
   have hgone : getE (if y = x then r else (y, v) :: r) x = .none := by
    split
    ·rename_i hy
     exact getE_none fun a ha e => less_ne (h1 a ha) (hy.trans e.symm)
    ·rename_i hy
     have h3 := less_tri hl' hy
     refine getE_none fun a ha e => ?_
     rcases List.mem_cons.1 ha with rfl | ha
     ·exact hy e
     ·exact less_ne (less_trans h3 (h1 a ha)) e.symm
   cases o with
   | none =>
    show getE (if y = x then r else (y, v) :: r) z = _
    by_cases hz : z = x
    ·subst hz; rw [hgone, if_pos rfl]
    ·rw [hrest z hz, if_neg hz]
   | some k =>
    show getE ((x, k) :: (if y = x then r else (y, v) :: r)) z = _
    rw [getE]
    by_cases hz : z = x
    ·subst hz; rw [if_pos rfl, if_pos rfl]
    ·rw [if_neg (Ne.symm hz), hrest z hz, if_neg hz]
theorem pieces_set (l : Ents) (x : ByteArray) (o : Option Nd) : setE l x o = l.take (lowL (l.map (·.1)) x) ++ one x o ++ l.drop (if (getE (l.drop (lowL (l.map (·.1)) x)) x).isSome ∧ (l.map (·.1))[lowL (l.map (·.1)) x]? = some x then lowL (l.map (·.1)) x + 1 else lowL (l.map (·.1)) x) := by
 induction l with
 | nil => simp [setE, lowL]
 | cons b r ih =>
  obtain ⟨y, v⟩ := b
  rw [setE]
  by_cases hl : Op.bytesLess y.toList x.toList = true
  ·have e : lowL (((y, v) :: r).map (·.1)) x = lowL (r.map (·.1)) x + 1 := by
    unfold lowL
    rw [List.map_cons, List.takeWhile_cons, if_pos hl]
    rfl
   rw [if_pos hl, ih, e]
   simp only [List.take_succ_cons, List.drop_succ_cons, List.map_cons, List.getElem?_cons_succ, List.cons_append]
   split <;> rfl
  ·have e : lowL (((y, v) :: r).map (·.1)) x = 0 := by
    unfold lowL
    rw [List.map_cons, List.takeWhile_cons, if_neg hl]
    rfl
   rw [if_neg hl, e]
   by_cases hy : y = x
   ·simp [getE, hy]
   ·simp [hy]
theorem getE_low {l : Ents} (h : Asc l) (x : ByteArray) : ((getE (l.drop (lowL (l.map (·.1)) x)) x).isSome ∧ (l.map (·.1))[lowL (l.map (·.1)) x]? = some x) ↔ (getE l x).isSome := by
 induction l with
 | nil => simp [getE, lowL]
 | cons b r ih =>
  obtain ⟨y, v⟩ := b
  obtain ⟨h1, h2⟩ := List.pairwise_cons.1 h
  by_cases hl : Op.bytesLess y.toList x.toList = true
  ·have e : lowL (((y, v) :: r).map (·.1)) x = lowL (r.map (·.1)) x + 1 := by
    unfold lowL
    rw [List.map_cons, List.takeWhile_cons, if_pos hl]
    rfl
   rw [e, getE, if_neg (less_ne hl), ← ih h2]
   simp
  ·have hl' := Bool.eq_false_iff.2 hl
   have e : lowL (((y, v) :: r).map (·.1)) x = 0 := by
    unfold lowL
    rw [List.map_cons, List.takeWhile_cons, if_neg hl]
    rfl
   rw [e]
   by_cases hy : y = x
   ·simp [getE, hy]
   ·have : getE r x = .none := getE_none fun a ha e => less_ne (less_trans (less_tri hl' hy) (h1 a ha)) e.symm
    simp [getE, hy, this]
theorem cut_ofE (l : Ents) (i e : Nat) (m : Ents) : Nd.mk 2 ByteArray.empty ((l.map (·.1)).take i ++ m.map (·.1) ++ (l.map (·.1)).drop e) ((l.map (·.2)).take i ++ m.map (·.2) ++ (l.map (·.2)).drop e) = ofE (l.take i ++ m ++ l.drop e) := by
 unfold ofE
 simp [List.map_append, List.map_take, List.map_drop]
theorem changed_ofE {l : Ents} (h : Asc l) (f : Nd → Nd) (x : ByteArray) (r : List ByteArray) : changedD f (x :: r) (ofE l) = ofE (setE l x (opt (changedD f r ((getE l x).getD absent)))) := by
 have e1 : (ofE l).names = l.map (·.1) := rfl
 have e2 : (ofE l).kids = l.map (·.2) := rfl
 rw [changed_dir rfl, kid_ofE, pieces_set l x, e1, e2]
 have hc := getE_low h x
 generalize changedD f r ((getE l x).getD absent) = K
 generalize hE : (if (getE l x).isSome = true then lowL (l.map (·.1)) x + 1 else lowL (l.map (·.1)) x) = E
 have hE' : (if (getE (l.drop (lowL (l.map (·.1)) x)) x).isSome ∧ (l.map (·.1))[lowL (l.map (·.1)) x]? = some x then lowL (l.map (·.1)) x + 1 else lowL (l.map (·.1)) x) = E := by
  rw [← hE]
  by_cases hs : (getE l x).isSome = true
  ·rw [if_pos (hc.2 hs), if_pos hs]
  ·rw [if_neg (fun h => hs (hc.1 h)), if_neg hs]
 rw [hE']
 unfold opt
 by_cases hk : K.kind = 0
 ·rw [if_pos hk, if_pos hk, ← cut_ofE]
  simp [one]
 ·rw [if_neg hk, if_neg hk, ← cut_ofE]
  simp [one]

theorem okTo_all {l : List ByteArray} : ∀ k, k ≤ l.length → okTo l k = true → ∀ i, i < k → nameL (l.getD i ByteArray.empty).data.toList = true := by
 intro k _ h i hi
 have := List.all_eq_true.1 h i (List.mem_range.2 hi)
 unfold okAt at this
 rw [Bool.and_eq_true] at this
 exact this.1
theorem zip_fst : ∀ (l : List ByteArray) (q : List Nd), q.length = l.length → (l.zip q).map (·.1) = l ∧ (l.zip q).map (·.2) = q
 | [], [], _ => ⟨rfl, rfl⟩
 | x :: l, [], h => by simp at h
 | [], y :: q, h => by simp at h
 | x :: l, y :: q, h => by
  obtain ⟨h1, h2⟩ := zip_fst l q (by simpa using h)
  simp [h1, h2]
theorem dir_ents {n : Nd} (h : n.well = true) (hk : n.kind = 2) : ∃ l, n = ofE l ∧ GoodE l := by
 obtain ⟨h1, h2, h3⟩ := well_len h
 cases n with
 | mk kind text names kids =>
  obtain rfl : kind = 2 := hk
  have ht : text = ByteArray.empty := by
   rw [Nd.well, if_neg (by decide), if_neg (by decide), if_pos rfl, Bool.and_eq_true, Bool.and_eq_true, Bool.and_eq_true] at h
   have := h.1.1.1
   have h0 : text.size = 0 := by simpa using this
   cases text with
   | mk a =>
    have : a = #[] := Array.eq_empty_of_size_eq_zero h0
    rw [this]
    rfl
  subst ht
  have h1' : kids.length = names.length := h1
  obtain ⟨e1, e2⟩ := zip_fst names kids h1'
  refine ⟨names.zip kids, ?_, ?_, ?_⟩
  ·unfold ofE
   rw [e1, e2]
  ·have hr := rises_of h2
   unfold Asc
   rw [List.pairwise_iff_getElem]
   intro i j hi hj hij
   have hl : (names.zip kids).length = names.length := by simp [h1']
   have := hr i j hij (by show j < names.length; rw [hl] at hj; exact hj)
   rw [List.getElem_zip, List.getElem_zip]
   show Op.bytesLess names[i].toList names[j].toList = true
   have a1 : names.getD i ByteArray.empty = names[i]'(by omega) := by rw [List.getD_eq_getElem?_getD, List.getElem?_eq_getElem (by omega)]; rfl
   have a2 : names.getD j ByteArray.empty = names[j]'(by omega) := by rw [List.getD_eq_getElem?_getD, List.getElem?_eq_getElem (by omega)]; rfl
   have this' : Op.bytesLess (names.getD i ByteArray.empty).toList (names.getD j ByteArray.empty).toList = true := this
   rw [a1, a2] at this'
   exact this'
  ·intro a ha
   obtain ⟨i, hi, rfl⟩ := List.getElem_of_mem ha
   rw [List.getElem_zip]
   have hl : (names.zip kids).length = names.length := by simp [h1']
   refine ⟨?_, h3 _ (List.getElem_mem _)⟩
   have := okTo_all names.length (Nat.le_refl _) h2 i (by omega)
   rw [List.getD_eq_getElem?_getD, List.getElem?_eq_getElem (by omega)] at this
   exact this
theorem namesL_of {l : Ents} (h : GoodE l) : namesL (l.map (·.1)) = true := by
 unfold namesL okTo
 refine List.all_eq_true.2 fun i hi => ?_
 have hi' : i < l.length := by simpa using List.mem_range.1 hi
 unfold okAt
 have a1 : (l.map (·.1)).getD i ByteArray.empty = l[i].1 := by rw [List.getD_eq_getElem?_getD, List.getElem?_eq_getElem (by simpa using hi')]; simp
 rw [a1, (h.2 l[i] (List.getElem_mem _)).1, Bool.true_and]
 cases i with
 | zero => rfl
 | succ i =>
  have a2 : (l.map (·.1)).getD (i + 1 - 1) ByteArray.empty = l[i].1 := by rw [List.getD_eq_getElem?_getD, List.getElem?_eq_getElem (by simp; omega)]; simp
  rw [a2]
  have := List.pairwise_iff_getElem.1 h.1 i (i + 1) (by omega) hi' (by omega)
  rw [this, Bool.or_true]
theorem well_ofE {l : Ents} (h : GoodE l) : (ofE l).well = true := by
 unfold ofE
 rw [Nd.well, if_neg (by decide), if_neg (by decide), if_pos rfl, namesL_of h, Nd.wells_all]
 have : (l.map (·.2)).all Nd.well = true := List.all_eq_true.2 fun k hk => by
  obtain ⟨a, ha, rfl⟩ := List.mem_map.1 hk
  exact (h.2 a ha).2
 rw [this]
 simp
theorem good_get {l : Ents} (h : GoodE l) {x : ByteArray} {k : Nd} (hk : getE l x = some k) : k.well = true := (h.2 _ (getE_mem hk)).2
theorem opt_absent : opt absent = .none := rfl
theorem opt_well {k : Nd} (h : k.well = true) : opt k = some k := by unfold opt; rw [if_neg (well_kind h)]
theorem get_or {l : Ents} (h : GoodE l) (x : ByteArray) : ((getE l x).getD absent).well = true ∨ (getE l x).getD absent = absent := by
 cases hg : getE l x with
 | none => exact .inr rfl
 | some k => exact .inl (good_get h hg)
def Fine (y : Nd) : Prop := y.well = true ∨ y = absent
theorem Fine.kind {y : Nd} (h : Fine y) : y.kind = 0 ↔ y = absent := by
 rcases h with h | rfl
 ·exact ⟨fun e => absurd e (well_kind h), fun e => by rw [e]; rfl⟩
 ·simp [absent, Nd.kind]
def lastName (p : List ByteArray) : Bool := match p.getLast? with | some x => nameL x.data.toList | .none => true

theorem changed_absent (f : Nd → Nd) (x : ByteArray) (r : List ByteArray) : changedD f (x :: r) absent = absent := changed_leaf f x r (by decide)
theorem fine_changed {y : Nd} (hy : Fine y) : ∀ (p : List ByteArray) (n : Nd), Fine n → (y = absent ∨ lastName p = true) → Fine (changedD (fun _ => y) p n) ∧ (p ≠ [] → (changedD (fun _ => y) p n).kind = n.kind)
 | [], n, _, _ => ⟨hy, fun h => absurd rfl h⟩
 | x :: r, n, hn, hl => by
  by_cases hk : n.kind = 2
  ·have hw : n.well = true := by
    rcases hn with h | rfl
    ·exact h
    ·cases hk
   obtain ⟨l, rfl, hg⟩ := dir_ents hw hk
   rw [changed_ofE hg.1]
   refine ⟨.inl (well_ofE ⟨asc_set _ _ hg.1, fun a ha => ?_⟩), fun _ => rfl⟩
   rcases setE_mem ha with h | ⟨h1, h2⟩
   ·exact hg.2 a h
   ·have hlr : y = absent ∨ lastName r = true := by
     rcases hl with h | h
     ·exact .inl h
     ·cases r with
      | nil => exact .inr rfl
      | cons z s => exact .inr (by simpa [lastName] using h)
    obtain ⟨h3, h4⟩ := fine_changed hy r ((getE l x).getD absent) (get_or hg x) hlr
    unfold opt at h2
    split at h2
    ·cases h2
    ·rename_i hkn
     have h2' := Option.some.inj h2
     refine ⟨?_, ?_⟩
     ·rw [h1]
      cases hge : getE l x with
      | some k => exact (hg.2 _ (getE_mem hge)).1
      | none =>
       rw [hge] at hkn
       cases r with
       | nil =>
        rcases hl with h | h
        ·exact absurd (by show y.kind = 0; rw [h]; rfl) hkn
        ·simpa [lastName] using h
       | cons z s => exact absurd (by show (changedD _ (z :: s) absent).kind = 0; rw [changed_absent]; rfl) hkn
     ·rw [← h2']
      rcases h3 with h | h
      ·exact h
      ·exact absurd (by rw [h]; rfl) hkn
  ·rw [changed_leaf _ x r hk]
   exact ⟨hn, fun _ => rfl⟩
theorem kid_leaf {n : Nd} (h : n.well = true) (hk : n.kind ≠ 2) (x : ByteArray) : n.kid x = .none := by
 have hl : n.names = [] := by
  cases n with
  | mk kind text names kids =>
   have hk' : ¬ kind = 2 := hk
   rw [Nd.well] at h
   by_cases k1 : kind = 1
   ·rw [if_pos k1] at h
    simp at h
    exact h.1.2
   ·rw [if_neg k1] at h
    by_cases k3 : kind = 3
    ·rw [if_pos k3] at h
     simp at h
     exact h.1.2
    ·rw [if_neg k3, if_neg hk'] at h
     cases h
 unfold Nd.kid
 rw [hl]
 rfl
theorem kid_fine_leaf {n : Nd} (h : Fine n) (hk : n.kind ≠ 2) (x : ByteArray) : n.kid x = .none := by
 rcases h with h | rfl
 ·exact kid_leaf h hk x
 ·rfl
theorem at_changed {y : Nd} (hy : Fine y) : ∀ (p s : List ByteArray) (n z : Nd), Fine n → reachD p n = some z → p ≠ [] → (changedD (fun _ => y) p n).at_ (p ++ s) = (opt y).bind fun k => k.at_ s
 | [], s, n, z, _, _, h => absurd rfl h
 | x :: r, s, n, z, hn, h, _ => by
  have hk : n.kind = 2 := by
   rw [reachD] at h
   split at h
   ·assumption
   ·cases h
  have hw : n.well = true := by
   rcases hn with h | rfl
   ·exact h
   ·cases hk
  obtain ⟨l, rfl, hg⟩ := dir_ents hw hk
  rw [reach_dir hk, kid_ofE] at h
  rw [changed_ofE hg.1, List.cons_append, Nd.at_, kid_ofE, getE_set hg.1, if_pos rfl]
  cases r with
  | nil =>
   show (opt y).bind _ = (opt y).bind _
   rfl
  | cons x2 r2 =>
   have hk2 : ((getE l x).getD absent).kind = 2 := by
    rw [reachD] at h
    split at h
    ·assumption
    ·cases h
   have ih := at_changed hy (x2 :: r2) s ((getE l x).getD absent) z (get_or hg x) h (by simp)
   obtain ⟨l2, e2, hg2⟩ := dir_ents (by
    rcases get_or hg x with h | h
    ·exact h
    ·rw [h] at hk2; cases hk2) hk2
   rw [e2] at ih ⊢
   have ho : opt (changedD (fun _ => y) (x2 :: r2) (ofE l2)) = some (changedD (fun _ => y) (x2 :: r2) (ofE l2)) := by
    unfold opt
    rw [changed_ofE hg2.1, if_neg (by show ¬ (2 : UInt8) = 0; decide)]
   rw [ho, ← ih]
   rfl
theorem kind_apart {y : Nd} : ∀ (p q : List ByteArray) (n : Nd), Fine n → ¬ p <+: q → ((changedD (fun _ => y) p n).at_ q).map Nd.kind = (n.at_ q).map Nd.kind
 | [], q, n, _, h => absurd (List.nil_prefix) h
 | x :: r, [], n, hn, _ => by
  show some (changedD (fun _ => y) (x :: r) n).kind = some n.kind
  by_cases hk : n.kind = 2
  ·have hw : n.well = true := by
    rcases hn with h | rfl
    ·exact h
    ·cases hk
   obtain ⟨l, rfl, hg⟩ := dir_ents hw hk
   rw [changed_ofE hg.1]
   rfl
  ·rw [changed_leaf _ x r hk]
 | x :: r, z :: s, n, hn, h1 => by
  by_cases hk : n.kind = 2
  ·have hw : n.well = true := by
    rcases hn with h | rfl
    ·exact h
    ·cases hk
   obtain ⟨l, rfl, hg⟩ := dir_ents hw hk
   rw [changed_ofE hg.1, Nd.at_, Nd.at_, kid_ofE, kid_ofE, getE_set hg.1]
   by_cases hz : z = x
   ·subst hz
    rw [if_pos rfl]
    have h1' : ¬ r <+: s := fun h => h1 (List.cons_prefix_cons.2 ⟨rfl, h⟩)
    have ih := kind_apart (y := y) r s ((getE l z).getD absent) (get_or hg z) h1'
    cases r with
    | nil => exact absurd (List.nil_prefix) h1'
    | cons x2 r2 =>
     cases hge : getE l z with
     | none => rw [show opt (changedD (fun _ => y) (x2 :: r2) ((.none : Option Nd).getD absent)) = .none by rw [show ((.none : Option Nd).getD absent) = absent from rfl, changed_absent]; rfl]
     | some k =>
      rw [hge] at ih
      have hkw := good_get hg hge
      have : (changedD (fun _ => y) (x2 :: r2) k).kind ≠ 0 := by
       by_cases hk2 : k.kind = 2
       ·obtain ⟨l2, rfl, hg2⟩ := dir_ents hkw hk2
        rw [changed_ofE hg2.1]
        show ¬ (2 : UInt8) = 0
        decide
       ·rw [changed_leaf _ x2 r2 hk2]
        exact well_kind hkw
      show Option.map Nd.kind ((opt (changedD (fun _ => y) (x2 :: r2) k)).bind _) = _
      unfold opt
      rw [if_neg this]
      exact ih
   ·rw [if_neg hz]
  ·rw [changed_leaf _ x r hk]
theorem reach_at : ∀ (p : List ByteArray) (x : ByteArray) (n : Nd), Fine n → reachD (p ++ [x]) n = if ((n.at_ p).getD absent).kind = 2 then some ((n.at_ (p ++ [x])).getD absent) else .none
 | [], x, n, hn => by
  rw [List.nil_append, reachD]
  show _ = if n.kind = 2 then _ else _
  split
  ·show some ((n.kid x).getD absent) = some (((n.kid x).bind fun k => some k).getD absent)
   cases n.kid x <;> rfl
  ·rfl
 | y :: p, x, n, hn => by
  rw [List.cons_append, reachD, Nd.at_, Nd.at_]
  by_cases hk : n.kind = 2
  ·rw [if_pos hk]
   have hw : n.well = true := by
    rcases hn with h | rfl
    ·exact h
    ·cases hk
   obtain ⟨l, rfl, hg⟩ := dir_ents hw hk
   rw [kid_ofE, reach_at p x _ (get_or hg y)]
   cases hge : getE l y with
   | none =>
    show (if ((absent.at_ p).getD absent).kind = 2 then _ else _) = if (absent : Nd).kind = 2 then _ else _
    rw [if_neg (show ¬ (absent : Nd).kind = 2 by decide)]
    cases p with
    | nil => rw [if_neg (by decide)]
    | cons z p => rw [show ((absent.at_ (z :: p)).getD absent) = absent from rfl, if_neg (show ¬ (absent : Nd).kind = 2 by decide)]
   | some k => rfl
  ·rw [if_neg hk, kid_fine_leaf hn hk]
   rw [show (((.none : Option Nd).bind fun k => k.at_ p).getD absent) = absent from rfl, if_neg (show ¬ (absent : Nd).kind = 2 by decide)]
def openD (n : Nd) (place : List ByteArray) : Bool := decide (place ≠ []) && nameL (place.getLastD ByteArray.empty).data.toList && decide (((n.at_ place.dropLast).getD absent).kind = 2)
theorem openD_nil (n : Nd) : openD n [] = false := rfl
theorem openD_snoc (n : Nd) (l : List ByteArray) (x : ByteArray) : openD n (l ++ [x]) = (nameL x.data.toList && decide (((n.at_ l).getD absent).kind = 2)) := by
 unfold openD
 simp
def leadsD (n : Nd) (p q : List ByteArray) : Bool := !underL p q && !underL q p && !decide (((n.at_ p).getD absent).kind = 0) && openD n q
def putD (n : Nd) (p : List ByteArray) (x : Nd) : Nd := if openD n p && x.well then changedD (fun _ => x) p n else n
def delD (n : Nd) (p : List ByteArray) : Nd := if p = [] then n else changedD (fun _ => absent) p n
def moveD (n : Nd) (p q : List ByteArray) : Nd := if leadsD n p q then changedD (fun _ => (n.at_ p).getD absent) q (changedD (fun _ => absent) p n) else n
def copyD (n : Nd) (p q : List ByteArray) : Nd := if leadsD n p q then changedD (fun _ => (n.at_ p).getD absent) q n else n
theorem nil_underL (l : List ByteArray) : underL [] l = true := (underL_iff [] l).2 List.nil_prefix
theorem at_kid {n k : Nd} (hw : n.well = true) {l : List ByteArray} {x : ByteArray} (h : n.at_ (l ++ [x]) = some k) : ((n.at_ l).getD absent).kind = 2 := by
 rw [Nd.at_append] at h
 obtain ⟨c, hc, hk⟩ := Option.bind_eq_some_iff.1 h
 rw [hc]
 show c.kind = 2
 have hcw := well_at hw hc
 by_cases h2 : c.kind = 2
 ·exact h2
 ·have : c.kid x = .none := kid_leaf hcw h2 x
  rw [Nd.at_, this] at hk
  cases hk
theorem reach_there {n k : Nd} (hw : n.well = true) {p : List ByteArray} (h : n.at_ p = some k) : reachD p n = some k := by
 rcases List.eq_nil_or_concat p with rfl | ⟨l, x, rfl⟩
 ·rw [← h]; rfl
 ·rw [List.concat_eq_append] at *
  rw [reach_at l x n (.inl hw), if_pos (at_kid hw h), h]
  rfl
theorem some_of_kind {o : Option Nd} (h : (o.getD absent).kind ≠ 0) : ∃ k, o = some k := by
 cases o with
 | none => exact absurd rfl h
 | some k => exact ⟨k, rfl⟩
theorem moved_ok {n : Nd} {p q : List ByteArray} (hw : n.well = true) (h : leadsD n p q = true) : reachD p n = some ((n.at_ p).getD absent) ∧ (changedD (fun _ => absent) p n).well = true := by
 unfold leadsD at h
 simp only [Bool.and_eq_true, Bool.not_eq_true', decide_eq_false_iff_not] at h
 obtain ⟨⟨⟨h1, h2⟩, h3⟩, h4⟩ := h
 obtain ⟨k, hk⟩ := some_of_kind h3
 have hp : p ≠ [] := by
  rintro rfl
  rw [nil_underL] at h1
  cases h1
 refine ⟨by rw [hk]; exact reach_there hw hk, ?_⟩
 obtain ⟨h5, h6⟩ := fine_changed (y := absent) (.inr rfl) p n (.inl hw) (.inl rfl)
 rcases h5 with h | h
 ·exact h
 ·have := h6 hp
  rw [h] at this
  exact absurd this.symm (well_kind hw)
end Nx
end Go.Proofs.YtfilbknnpjbmcaaGreatDoor
