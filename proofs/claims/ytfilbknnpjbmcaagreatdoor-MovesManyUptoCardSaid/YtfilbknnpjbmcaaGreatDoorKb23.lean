/- What a step makes of a tree, as data; variables of a call that hold nodes; steps in memory. -/
import Derived.Test.YtfilbknnpjbmcaaGreatDoorKb22
import Derived.Test.YtfilbknnpjbmcaaGreatDoorKb03
namespace Go.Proofs.YtfilbknnpjbmcaaGreatDoor
open Go.RowKit Px Nx
namespace Nx

theorem under_not {p q : List ByteArray} (h : underL p q = false) : ¬ p <+: q := fun hp => by rw [(underL_iff p q).2 hp] at h; cases h
theorem may_well {c : Nd} (h : c.may = true) : c.well = true ∧ c.kind = 2 := by
 unfold Nd.may at h
 simp only [Bool.and_eq_true, decide_eq_true_eq] at h
 exact ⟨h.1.1.2, h.1.1.1⟩
theorem open_parts {n : Nd} {p : List ByteArray} (h : openD n p = true) : ∃ l x, p = l ++ [x] ∧ nameL x.data.toList = true ∧ ((n.at_ l).getD absent).kind = 2 := by
 rcases List.eq_nil_or_concat p with rfl | ⟨l, x, rfl⟩
 ·cases h
 ·rw [List.concat_eq_append, openD_snoc, Bool.and_eq_true] at h
  exact ⟨l, x, List.concat_eq_append, h.1, of_decide_eq_true h.2⟩
theorem last_snoc {l : List ByteArray} {x : ByteArray} (h : nameL x.data.toList = true) : lastName (l ++ [x]) = true := by
 unfold lastName
 simp [h]
theorem put_well {c N : Nd} {A : List ByteArray} (hw : c.well = true) : (putD c A N).well = true ∧ (putD c A N).kind = c.kind := by
 unfold putD
 split
 ·rename_i h
  rw [Bool.and_eq_true] at h
  obtain ⟨l, x, rfl, h1, h2⟩ := open_parts h.1
  obtain ⟨h3, h4⟩ := fine_changed (.inl h.2) (l ++ [x]) c (.inl hw) (.inr (last_snoc h1))
  have h5 := h4 (by simp)
  rcases h3 with h3 | h3
  ·exact ⟨h3, h5⟩
  ·rw [h3] at h5
   exact absurd h5.symm (well_kind hw)
 ·exact ⟨hw, rfl⟩
theorem del_well {c : Nd} {A : List ByteArray} (hw : c.well = true) : (delD c A).well = true ∧ (delD c A).kind = c.kind := by
 unfold delD
 split
 ·exact ⟨hw, rfl⟩
 ·rename_i h
  obtain ⟨h3, h4⟩ := fine_changed (y := absent) (.inr rfl) A c (.inl hw) (.inl rfl)
  have h5 := h4 h
  rcases h3 with h3 | h3
  ·exact ⟨h3, h5⟩
  ·rw [h3] at h5
   exact absurd h5.symm (well_kind hw)
theorem leads_parts {c : Nd} {A B : List ByteArray} (hw : c.well = true) (h : leadsD c A B = true) : ∃ k, c.at_ A = some k ∧ k.well = true ∧ (c.at_ A).getD absent = k ∧ ¬ A <+: B ∧ ¬ B <+: A ∧ openD c B = true := by
 unfold leadsD at h
 simp only [Bool.and_eq_true, Bool.not_eq_true', decide_eq_false_iff_not] at h
 obtain ⟨⟨⟨h1, h2⟩, h3⟩, h4⟩ := h
 obtain ⟨k, hk⟩ := some_of_kind h3
 exact ⟨k, hk, well_at hw hk, by rw [hk]; rfl, under_not h1, under_not h2, h4⟩
theorem copy_at {c k : Nd} {A B : List ByteArray} (hw : c.well = true) (hk : k.well = true) (ho : openD c B = true) : (changedD (fun _ => k) B c).at_ B = some k ∧ (changedD (fun _ => k) B c).well = true ∧ (changedD (fun _ => k) B c).kind = c.kind := by
 have _hA := A
 have hp : putD c B k = changedD (fun _ => k) B c := by unfold putD; rw [ho, hk]; rfl
 obtain ⟨l, x, rfl, h1, h2⟩ := open_parts ho
 have hr := reach_at l x c (.inl hw)
 rw [if_pos h2] at hr
 have := at_changed (.inl hk) (l ++ [x]) [] c _ (.inl hw) hr (by simp)
 rw [List.append_nil, opt_well hk] at this
 have h3 := put_well (c := c) (N := k) (A := l ++ [x]) hw
 rw [hp] at h3
 exact ⟨this, h3⟩
theorem copy_well {c : Nd} {A B : List ByteArray} (hw : c.well = true) : (copyD c A B).well = true ∧ (copyD c A B).kind = c.kind := by
 unfold copyD
 split
 ·rename_i h
  obtain ⟨k, h1, h2, h3, h4, h5, h6⟩ := leads_parts hw h
  rw [h3]
  exact (copy_at (A := A) hw h2 h6).2
 ·exact ⟨hw, rfl⟩
theorem open_left {c : Nd} {A B : List ByteArray} (hw : c.well = true) (ha : ¬ A <+: B) (ho : openD c B = true) : openD (changedD (fun _ => absent) A c) B = true := by
 obtain ⟨l, x, rfl, h1, h2⟩ := open_parts ho
 rw [openD_snoc, h1, Bool.true_and]
 refine decide_eq_true ?_
 have hal : ¬ A <+: l := fun h => ha (h.trans (List.prefix_append l [x]))
 have := kind_apart (y := absent) A l c (.inl hw) hal
 cases hc : c.at_ l with
 | none => rw [hc] at h2; cases h2
 | some z =>
  rw [hc] at this h2
  cases hd : (changedD (fun _ => absent) A c).at_ l with
  | none => rw [hd] at this; cases this
  | some z' =>
   rw [hd] at this
   have e : z'.kind = z.kind := Option.some.inj this
   show z'.kind = 2
   rw [e]
   exact h2
theorem left_well {c : Nd} {A B : List ByteArray} (hw : c.well = true) (hl : leadsD c A B = true) : (changedD (fun _ => absent) A c).well = true ∧ (changedD (fun _ => absent) A c).kind = c.kind := by
 have h := (moved_ok hw hl).2
 refine ⟨h, ?_⟩
 obtain ⟨k, _, _, _, h4, _, _⟩ := leads_parts hw hl
 have hne : A ≠ [] := fun e => h4 (by rw [e]; exact List.nil_prefix)
 exact (fine_changed (y := absent) (.inr rfl) A c (.inl hw) (.inl rfl)).2 hne
theorem move_well {c : Nd} {A B : List ByteArray} (hw : c.well = true) : (moveD c A B).well = true ∧ (moveD c A B).kind = c.kind := by
 unfold moveD
 split
 ·rename_i h
  obtain ⟨k, h1, h2, h3, h4, h5, h6⟩ := leads_parts hw h
  obtain ⟨h7, h8⟩ := left_well hw h
  rw [h3]
  obtain ⟨h9, h10, h11⟩ := copy_at (A := A) h7 h2 (open_left hw h4 h6)
  exact ⟨h10, h11.trans h8⟩
 ·exact ⟨hw, rfl⟩
def bulkE : Ents → Nat
 | [] => 0
 | (x, v) :: r => x.size + 1 + v.bulk + bulkE r
def bulkO (x : ByteArray) : Option Nd → Nat
 | .none => 0
 | some k => x.size + 1 + k.bulk
theorem bulkE_append : ∀ l r : Ents, bulkE (l ++ r) = bulkE l + bulkE r
 | [], r => by simp [bulkE]
 | (x, v) :: l, r => by rw [List.cons_append, bulkE, bulkE, bulkE_append l r]; omega
theorem bulkE_one (x : ByteArray) (o : Option Nd) : bulkE (one x o) = bulkO x o := by cases o <;> simp [one, bulkE, bulkO]
theorem bulk_ofE (l : Ents) : (ofE l).bulk = bulkE l + 1 := by
 unfold ofE
 rw [Nd.bulk]
 have e0 : ByteArray.empty.size = 0 := rfl
 rw [e0]
 have : namesBulk (l.map (·.1)) + Nd.bulks (l.map (·.2)) = bulkE l := by
  induction l with
  | nil => simp [namesBulk, Nd.bulks, bulkE]
  | cons a r ih =>
   obtain ⟨x, v⟩ := a
   rw [bulkE, ← ih]
   simp only [List.map_cons, Nd.bulks, namesBulk, List.sum_cons]
   omega
 omega
theorem bulk_set {l : Ents} (h : Asc l) (x : ByteArray) (o : Option Nd) : bulkE (setE l x o) + bulkO x (getE l x) = bulkE l + bulkO x o := by
 induction l with
 | nil => rw [setE, bulkE_one]; simp [getE, bulkO, bulkE]
 | cons b r ih =>
  obtain ⟨y, v⟩ := b
  obtain ⟨h1, h2⟩ := List.pairwise_cons.1 h
  rw [setE, getE]
  by_cases hl : Op.bytesLess y.toList x.toList = true
  ·rw [if_pos hl, if_neg (less_ne hl), bulkE, bulkE]
   have := ih h2
   omega
  ·have hl' := Bool.eq_false_iff.2 hl
   rw [if_neg hl, bulkE_append, bulkE_one]
   by_cases hy : y = x
   ·rw [if_pos hy, if_pos hy, bulkE, hy]
    show _ + (x.size + 1 + v.bulk) = _
    omega
   ·rw [if_neg hy, if_neg hy, getE_none fun a ha e => less_ne (less_trans (less_tri hl' hy) (h1 a ha)) e.symm]
    show _ + 0 = _
    omega
theorem changed_bulk {y : Nd} : ∀ (p : List ByteArray) (n : Nd), Fine n → (changedD (fun _ => y) p n).bulk ≤ n.bulk + y.bulk + namesBulk p
 | [], n, _ => by show y.bulk ≤ _; omega
 | x :: r, n, hn => by
  by_cases hk : n.kind = 2
  ·have hw : n.well = true := by
    rcases hn with h | rfl
    ·exact h
    ·cases hk
   obtain ⟨l, rfl, hg⟩ := dir_ents hw hk
   rw [changed_ofE hg.1, bulk_ofE, bulk_ofE]
   have hs := bulk_set hg.1 x (opt (changedD (fun _ => y) r ((getE l x).getD absent)))
   have e1 : namesBulk (x :: r) = x.size + 1 + namesBulk r := by simp [namesBulk]
   rw [e1]
   have ho : bulkO x (opt (changedD (fun _ => y) r ((getE l x).getD absent))) ≤ x.size + 1 + (changedD (fun _ => y) r ((getE l x).getD absent)).bulk := by
    unfold opt
    split
    ·exact Nat.zero_le _
    ·exact Nat.le_refl _
   cases hge : getE l x with
   | none =>
    rw [hge] at hs ho
    have e2 : bulkO x (.none) = 0 := rfl
    rw [e2] at hs
    have e3 : ((.none : Option Nd).getD absent) = absent := rfl
    rw [e3] at hs ho ⊢
    cases r with
    | nil =>
     rw [changed_nil] at hs ho ⊢
     omega
    | cons z q =>
     rw [changed_absent, opt_absent, e2] at hs
     rw [changed_absent, opt_absent]
     omega
   | some k =>
    have ih := changed_bulk (y := y) r k (.inl (good_get hg hge))
    rw [hge] at hs ho
    have e2 : bulkO x (some k) = x.size + 1 + k.bulk := rfl
    rw [e2] at hs
    have e3 : ((some k : Option Nd).getD absent) = k := rfl
    rw [e3] at hs ho ⊢
    omega
  ·rw [changed_leaf _ x r hk]
   omega
theorem name_small {x : ByteArray} (h : nameL x.data.toList = true) : x.size ≤ 64 := by
 unfold nameL at h
 simp only [Bool.and_eq_true, decide_eq_true_eq] at h
 have := h.1.2
 rwa [Array.length_toList] at this
theorem text_small {n : Nd} (h : n.well = true) : n.text.size ≤ 256 := by
 cases n with
 | mk kind text names kids =>
  show text.size ≤ 256
  rw [Nd.well] at h
  split at h
  ·simp [textL] at h; omega
  ·split at h
   ·simp [textL] at h; omega
   ·split at h
    ·rw [Bool.and_eq_true, Bool.and_eq_true, Bool.and_eq_true] at h
     have : text.size = 0 := eq_of_beq h.1.1.1
     omega
    ·cases h
mutual
theorem well_bulk : ∀ n : Nd, n.well = true → n.bulk + 65 ≤ 322 * n.nodes
 | .mk kind text names kids, h => by
  have ht := text_small h
  have hl := well_len h
  have hk := wells_bulk kids (fun k hk => hl.2.2 k hk)
  have hn : namesBulk names ≤ 65 * kids.length := by
   have hlen : kids.length = names.length := hl.1
   have : ∀ (m : List ByteArray), (∀ y ∈ m, y.size ≤ 64) → namesBulk m ≤ 65 * m.length := by
    intro m
    induction m with
    | nil => intro _; simp [namesBulk]
    | cons y m ih =>
     intro hy
     have h1 := ih fun z hz => hy z (List.mem_cons_of_mem _ hz)
     have h2 := hy y (by simp)
     simp only [namesBulk, List.map_cons, List.sum_cons, List.length_cons] at *
     omega
   rw [hlen]
   refine this names fun y hy => ?_
   obtain ⟨i, hi, rfl⟩ := List.getElem_of_mem hy
   have h3 := okTo_all names.length (Nat.le_refl _) hl.2.1 i hi
   rw [List.getD_eq_getElem?_getD, List.getElem?_eq_getElem hi] at h3
   exact name_small h3
  rw [Nd.bulk, Nd.nodes]
  have ht' : text.size ≤ 256 := ht
  omega
theorem wells_bulk : ∀ l : List Nd, (∀ k ∈ l, k.well = true) → Nd.bulks l + 65 * l.length ≤ 322 * Nd.nodesAll l
 | [], _ => by simp [Nd.bulks, Nd.nodesAll]
 | c :: r, h => by
  have h1 := well_bulk c (h c (by simp))
  have h2 := wells_bulk r (fun k hk => h k (List.mem_cons_of_mem _ hk))
  rw [Nd.bulks, Nd.nodesAll, List.length_cons]
  omega
end
def girthO : Option Nd → Nat
 | .none => 0
 | some k => k.girth
theorem names_set_girth {l : Ents} (x : ByteArray) (o : Option Nd) : namesBulk ((setE l x o).map (·.1)) + (setE l x o).length ≤ namesBulk (l.map (·.1)) + l.length + x.size + 2 := by
 have h1 : ∀ a b : List ByteArray, namesBulk (a ++ b) = namesBulk a + namesBulk b := fun a b => by simp [namesBulk]
 have ho : namesBulk ((one x o).map (·.1)) + (one x o).length ≤ x.size + 2 := by cases o <;> simp [one, namesBulk]
 induction l with
 | nil => rw [setE]; simp only [List.map_nil, List.length_nil]; have : namesBulk [] = 0 := rfl; omega
 | cons b r ih =>
  obtain ⟨y, v⟩ := b
  have h2 : ∀ (z : ByteArray) (q : List ByteArray), namesBulk (z :: q) = z.size + 1 + namesBulk q := fun z q => by simp [namesBulk]
  rw [setE]
  by_cases hl : Op.bytesLess y.toList x.toList = true
  ·rw [if_pos hl]
   simp only [List.map_cons, List.length_cons, h2]
   omega
  ·rw [if_neg hl, List.map_append, List.length_append, h1]
   by_cases hy : y = x
   ·rw [if_pos hy]
    simp only [List.map_cons, List.length_cons, h2]
    omega
   ·rw [if_neg hy]
    simp only [List.map_cons, List.length_cons, h2]
    omega
theorem girths_append : ∀ a b : List Nd, Nd.girths (a ++ b) = max (Nd.girths a) (Nd.girths b)
 | [], b => by simp [Nd.girths]
 | c :: a, b => by rw [List.cons_append, Nd.girths, Nd.girths, girths_append a b]; omega
theorem kids_set_girth {l : Ents} (x : ByteArray) (o : Option Nd) : Nd.girths ((setE l x o).map (·.2)) ≤ max (Nd.girths (l.map (·.2))) (girthO o) := by
 have ho : Nd.girths ((one x o).map (·.2)) ≤ girthO o := by cases o <;> simp [one, Nd.girths, girthO]
 induction l with
 | nil => rw [setE]; simp only [List.map_nil, Nd.girths]; omega
 | cons b r ih =>
  obtain ⟨y, v⟩ := b
  rw [setE]
  by_cases hl : Op.bytesLess y.toList x.toList = true
  ·rw [if_pos hl]
   simp only [List.map_cons, Nd.girths]
   omega
  ·rw [if_neg hl, List.map_append, girths_append]
   by_cases hy : y = x
   ·rw [if_pos hy]
    simp only [List.map_cons, Nd.girths]
    omega
   ·rw [if_neg hy]
    simp only [List.map_cons, Nd.girths]
    omega
theorem girth_ofE (l : Ents) : (ofE l).girth = max (namesBulk (l.map (·.1)) + l.length + 1) (Nd.girths (l.map (·.2))) := by
 unfold ofE
 rw [Nd.girth]
 have e0 : ByteArray.empty.size = 0 := rfl
 rw [e0, List.length_map]
 omega
theorem kid_girth {l : Ents} {x : ByteArray} {k : Nd} (h : getE l x = some k) : k.girth ≤ Nd.girths (l.map (·.2)) := by
 induction l with
 | nil => rw [getE] at h; cases h
 | cons b r ih =>
  obtain ⟨y, v⟩ := b
  rw [getE] at h
  simp only [List.map_cons, Nd.girths]
  split at h
  ·cases h; omega
  ·have := ih h; omega
theorem changed_girth {y : Nd} : ∀ (p : List ByteArray) (n : Nd), Fine n → (changedD (fun _ => y) p n).girth ≤ max (n.girth + 2 * namesBulk p) y.girth
 | [], n, _ => by show y.girth ≤ _; omega
 | x :: r, n, hn => by
  by_cases hk : n.kind = 2
  ·have hw : n.well = true := by
    rcases hn with h | rfl
    ·exact h
    ·cases hk
   obtain ⟨l, rfl, hg⟩ := dir_ents hw hk
   rw [changed_ofE hg.1, girth_ofE, girth_ofE]
   have e1 : namesBulk (x :: r) = x.size + 1 + namesBulk r := by simp [namesBulk]
   have h1 := names_set_girth (l := l) x (opt (changedD (fun _ => y) r ((getE l x).getD absent)))
   have h2 := kids_set_girth (l := l) x (opt (changedD (fun _ => y) r ((getE l x).getD absent)))
   have ho : girthO (opt (changedD (fun _ => y) r ((getE l x).getD absent))) ≤ (changedD (fun _ => y) r ((getE l x).getD absent)).girth := by
    unfold opt
    split
    ·exact Nat.zero_le _
    ·exact Nat.le_refl _
   rw [e1]
   cases hge : getE l x with
   | none =>
    rw [hge] at h1 h2 ho
    have e3 : ((.none : Option Nd).getD absent) = absent := rfl
    rw [e3] at h1 h2 ho ⊢
    cases r with
    | nil =>
     rw [changed_nil] at h1 h2 ho ⊢
     omega
    | cons z q =>
     rw [changed_absent, opt_absent] at h1 h2
     rw [changed_absent, opt_absent]
     have e4 : girthO (.none) = 0 := rfl
     rw [e4] at h2
     omega
   | some k =>
    have ih := changed_girth (y := y) r k (.inl (good_get hg hge))
    have hkg := kid_girth hge
    rw [hge] at h1 h2 ho
    have e3 : ((some k : Option Nd).getD absent) = k := rfl
    rw [e3] at h1 h2 ho ⊢
    omega
  ·rw [changed_leaf _ x r hk]
   omega
end Nx
end Go.Proofs.YtfilbknnpjbmcaaGreatDoor
/- What package prim makes of a tree, as data. No program. -/
namespace Go.Proofs.YtfilbknnpjbmcaaGreatDoor
open Go.RowKit Px Nx
namespace Nx
def kat (n : Nd) (p : List ByteArray) : UInt8 := ((n.at_ p).getD absent).kind
def takenD (n : Nd) (p : List ByteArray) : Bool := decide (p.length = 0) || openD n p
def emptyD (n : Nd) (p : List ByteArray) : Bool := decide (((n.at_ p).getD absent).kind = 2) && decide (((n.at_ p).getD absent).names.length = 0)
def linkN (s : ByteArray) : Nd := .mk 3 s [] []
def makeD (n : Nd) (p : List ByteArray) (y : Nd) : Int × Nd :=
 bif takenD n p then bif y.well then bif decide (kat n p = 0) then (0, putD n p y) else (6, n) else (4, n) else (5, n)
def removeD (n : Nd) (p : List ByteArray) (c : Int) : Int × Nd :=
 bif takenD n p then bif decide (kat n p = 0) then (5, n) else bif decide (c = 0) then (0, delD n p) else (c, n) else (5, n)
def wrongFile (n : Nd) (p : List ByteArray) : Int := bif decide (kat n p = 2) then 55 else 0
def givesD (n : Nd) (q : List ByteArray) (k : Bool) : Int :=
 bif decide (kat n q = 0) then 0 else bif decide (kat n q = 2) != k then 55 else bif decide (kat n q = 2) && !emptyD n q then 57 else 0
def overD (n : Nd) (q : List ByteArray) (k : Bool) : Int :=
 bif decide (kat n q = 0) then 0 else bif k then 6 else bif decide (kat n q = 1) then 0 else 55
def renameD (n : Nd) (p q : List ByteArray) : Int × Nd :=
 bif takenD n p && takenD n q then
  bif decide (kat n p = 0) then (5, n) else bif decide (p = q) then (6, n) else bif decide (p.length = 0) then (57, n) else bif underL p q then (58, n) else
   bif decide (givesD n q (decide (kat n p = 2)) = 0) then (0, moveD n p q) else (givesD n q (decide (kat n p = 2)), n)
 else (5, n)
def copyingD (n : Nd) (p q : List ByteArray) (deep : Bool) : Int × Nd :=
 bif takenD n p && takenD n q then
  bif decide (kat n p = 0) then (5, n) else bif decide (p = q) then (6, n) else bif decide (kat n p = 2) && !deep then (55, n) else bif underL p q then (58, n) else
   bif decide (overD n q (decide (kat n p = 2)) = 0) then (0, copyD n p q) else (overD n q (decide (kat n p = 2)), n)
 else (5, n)
end Nx

end Go.Proofs.YtfilbknnpjbmcaaGreatDoor
/- What package prim makes of a tree: what is refused changes nothing, what is done keeps it well formed, and no wider than so; made and taken away, renamed and back. No program. -/
namespace Go.Proofs.YtfilbknnpjbmcaaGreatDoor
open Go.RowKit Px Nx
namespace Nx
end Nx
end Go.Proofs.YtfilbknnpjbmcaaGreatDoor
/- Nodes within others: what is put where nothing stood leaves all that was; what is taken away leaves nothing new. No program. -/
namespace Go.Proofs.YtfilbknnpjbmcaaGreatDoor
open Go.RowKit Px Nx
namespace Nx
end Nx
end Go.Proofs.YtfilbknnpjbmcaaGreatDoor
/- What package prim makes of a tree, and what is within what then. No program. -/
namespace Go.Proofs.YtfilbknnpjbmcaaGreatDoor
open Go.RowKit Px Nx
namespace Nx
end Nx
end Go.Proofs.YtfilbknnpjbmcaaGreatDoor
