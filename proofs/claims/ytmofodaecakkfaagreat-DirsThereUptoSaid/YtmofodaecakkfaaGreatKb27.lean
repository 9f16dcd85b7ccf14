/- Nodes within others: what is put where nothing stood leaves all that was; what is taken away leaves nothing new. No program. -/
import Derived.Test.YtmofodaecakkfaaGreatKb26
import Derived.Test.YtmofodaecakkfaaGreatKb04
namespace Go.Proofs.YtmofodaecakkfaaGreat
open Go.RowKit Px Nx
namespace Nx
theorem zip_ofE (l : Ents) : (ofE l).names.zip (ofE l).kids = l := by
  show (l.map (·.1)).zip (l.map (·.2)) = l
  induction l with
  | nil => rfl
  | cons p l ih => rw [List.map_cons, List.map_cons, List.zip_cons_cons, ih]
theorem within_ofE {a b : Ents} : withinD (ofE a) (ofE b) = true ↔ ∀ p ∈ a, ∃ q ∈ b, p.1 = q.1 ∧ withinD p.2 q.2 = true := by
  rw [within_iff, zip_ofE, zip_ofE]
  exact ⟨fun h => h.2.2, fun h => ⟨rfl, rfl, h⟩⟩
theorem get_of_mem : ∀ {l : Ents}, Asc l → ∀ {x : ByteArray} {k : Nd}, (x, k) ∈ l → getE l x = some k
  | [], _, _, _, h => by cases h
  | (y, v) :: r, ha, x, k, h => by
    unfold getE
    have hp := List.pairwise_cons.1 ha
    rcases List.mem_cons.1 h with e | h
    · cases e
      rw [if_pos rfl]
    · have hne : y ≠ x := less_ne (hp.1 _ h)
      rw [if_neg hne]
      exact get_of_mem hp.2 h
/-- What is put where nothing stood leaves all that was. -/
theorem within_put {y : Nd} (hy : Fine y) : ∀ (p : List ByteArray) (n : Nd), Fine n → p ≠ [] → (y = absent ∨ lastName p = true) → reachD p n = some absent → withinD n (changedD (fun _ => y) p n) = true
  | [], _, _, h, _, _ => absurd rfl h
  | x :: r, n, hn, _, hl, hr => by
    rw [reachD] at hr
    by_cases hk : n.kind = 2
    · rw [if_pos hk] at hr
      have hw : n.well = true := by
        rcases hn with h | h
        · exact h
        · rw [h] at hk; exact absurd hk (by decide)
      obtain ⟨l, rfl, hg⟩ := dir_ents hw hk
      rw [changed_ofE hg.1, within_ofE]
      rw [kid_ofE] at hr
      rintro ⟨z, k⟩ hz
      by_cases hzx : z = x
      · subst hzx
        have hget := get_of_mem hg.1 hz
        rw [hget] at hr ⊢
        have hkw : k.well = true := (hg.2 _ hz).2
        have hr' : reachD r k = some absent := hr
        by_cases hrn : r = []
        · subst hrn
          have : k = absent := by simpa [reachD] using hr'
          rw [this] at hkw
          exact absurd hkw (by decide)
        · have hl' : y = absent ∨ lastName r = true := by
            rcases hl with h | h
            · exact .inl h
            · right
              unfold lastName at h ⊢
              cases r with
              | nil => exact absurd rfl hrn
              | cons a b => simpa using h
          have ih := within_put hy r k (.inl hkw) hrn hl' hr'
          have hfk := fine_changed hy r k (.inl hkw) hl'
          have hK : (changedD (fun _ => y) r k).kind = k.kind := hfk.2 hrn
          have ho : opt (changedD (fun _ => y) r k) = some (changedD (fun _ => y) r k) := by
            unfold opt
            rw [if_neg (by rw [hK]; exact well_kind hkw)]
          refine ⟨(z, changedD (fun _ => y) r k), ?_, rfl, ih⟩
          show (z, changedD (fun _ => y) r k) ∈ setE l z (opt (changedD (fun _ => y) r k))
          rw [ho]
          exact getE_mem (by rw [getE_set hg.1, if_pos rfl])
      · refine ⟨(z, k), ?_, rfl, within_refl k⟩
        exact getE_mem (by rw [getE_set hg.1, if_neg hzx]; exact get_of_mem hg.1 hz)
    · rw [if_neg hk] at hr
      cases hr
end Nx
end Go.Proofs.YtmofodaecakkfaaGreat
/- What a step makes of a tree, as data; variables of a call that hold nodes; steps in memory. -/
namespace Go.Proofs.YtmofodaecakkfaaGreat
open Go.RowKit Px Nx
namespace Nx

theorem may_well {c : Nd} (h : c.may = true) : c.well = true ∧ c.kind = 2 := by
  unfold Nd.may at h
  simp only [Bool.and_eq_true, decide_eq_true_eq] at h
  exact ⟨h.1.1.2, h.1.1.1⟩
theorem open_parts {n : Nd} {p : List ByteArray} (h : openD n p = true) : ∃ l x, p = l ++ [x] ∧ nameL x.data.toList = true ∧ ((n.at_ l).getD absent).kind = 2 := by
  rcases List.eq_nil_or_concat p with rfl | ⟨l, x, rfl⟩
  · cases h
  · rw [List.concat_eq_append, openD_snoc, Bool.and_eq_true] at h
    exact ⟨l, x, List.concat_eq_append, h.1, of_decide_eq_true h.2⟩
theorem last_snoc {l : List ByteArray} {x : ByteArray} (h : nameL x.data.toList = true) : lastName (l ++ [x]) = true := by
  unfold lastName
  simp [h]
theorem put_well {c N : Nd} {A : List ByteArray} (hw : c.well = true) : (putD c A N).well = true ∧ (putD c A N).kind = c.kind := by
  unfold putD
  split
  · rename_i h
    rw [Bool.and_eq_true] at h
    obtain ⟨l, x, rfl, h1, h2⟩ := open_parts h.1
    obtain ⟨h3, h4⟩ := fine_changed (.inl h.2) (l ++ [x]) c (.inl hw) (.inr (last_snoc h1))
    have h5 := h4 (by simp)
    rcases h3 with h3 | h3
    · exact ⟨h3, h5⟩
    · rw [h3] at h5
      exact absurd h5.symm (well_kind hw)
  · exact ⟨hw, rfl⟩
theorem del_well {c : Nd} {A : List ByteArray} (hw : c.well = true) : (delD c A).well = true ∧ (delD c A).kind = c.kind := by
  unfold delD
  split
  · exact ⟨hw, rfl⟩
  · rename_i h
    obtain ⟨h3, h4⟩ := fine_changed (y := absent) (.inr rfl) A c (.inl hw) (.inl rfl)
    have h5 := h4 h
    rcases h3 with h3 | h3
    · exact ⟨h3, h5⟩
    · rw [h3] at h5
      exact absurd h5.symm (well_kind hw)
theorem del_there {c : Nd} {A : List ByteArray} (hw : c.well = true) (h : A ≠ []) : (changedD (fun _ => absent) A c).at_ A = .none := by
  cases hr : reachD A c with
  | some z =>
    have := at_changed (y := absent) (.inr rfl) A [] c z (.inl hw) hr h
    rw [List.append_nil] at this
    exact this
  | none =>
    rw [changed_off A c (.inl hw) hr]
    cases ha : c.at_ A with
    | none => rfl
    | some k =>
      rw [reach_there hw ha] at hr
      cases hr
/-- How large what was changed may be. -/
def bulkE : Ents → Nat
  | [] => 0
  | (x, v) :: r => x.size + 1 + v.bulk + bulkE r
theorem bulk_ofE (l : Ents) : (ofE l).bulk = bulkE l + 1 := by
  unfold ofE
  rw [Nd.bulk]
  have e0 : ByteArray.empty.size = 0 := rfl
  rw [e0]
  have : namesBulk (l.map (·.1)) + Nd.bulks (l.map (·.2)) = bulkE l := by
    induction l with
    | nil => simp [namesBulk, Nd.bulks, bulkE]
    | cons a r ih =>
      obtain ⟨x, v⟩ := a
      rw [bulkE, ← ih]
      simp only [List.map_cons, Nd.bulks, namesBulk, List.sum_cons]
      omega
  omega
theorem name_small {x : ByteArray} (h : nameL x.data.toList = true) : x.size ≤ 64 := by
  unfold nameL at h
  simp only [Bool.and_eq_true, decide_eq_true_eq] at h
  have := h.1.2
  rwa [Array.length_toList] at this
theorem text_small {n : Nd} (h : n.well = true) : n.text.size ≤ 256 := by
  cases n with
  | mk kind text names kids =>
    show text.size ≤ 256
    rw [Nd.well] at h
    split at h
    · simp [textL] at h; omega
    · split at h
      · simp [textL] at h; omega
      · split at h
        · rw [Bool.and_eq_true, Bool.and_eq_true, Bool.and_eq_true] at h
          have : text.size = 0 := eq_of_beq h.1.1.1
          omega
        · cases h
mutual
theorem well_bulk : ∀ n : Nd, n.well = true → n.bulk + 65 ≤ 322 * n.nodes
  | .mk kind text names kids, h => by
    have ht := text_small h
    have hl := well_len h
    have hk := wells_bulk kids (fun k hk => hl.2.2 k hk)
    have hn : namesBulk names ≤ 65 * kids.length := by
      have hlen : kids.length = names.length := hl.1
      have : ∀ (m : List ByteArray), (∀ y ∈ m, y.size ≤ 64) → namesBulk m ≤ 65 * m.length := by
        intro m
        induction m with
        | nil => intro _; simp [namesBulk]
        | cons y m ih =>
          intro hy
          have h1 := ih fun z hz => hy z (List.mem_cons_of_mem _ hz)
          have h2 := hy y (by simp)
          simp only [namesBulk, List.map_cons, List.sum_cons, List.length_cons] at *
          omega
      rw [hlen]
      refine this names fun y hy => ?_
      obtain ⟨i, hi, rfl⟩ := List.getElem_of_mem hy
      have h3 := okTo_all names.length (Nat.le_refl _) hl.2.1 i hi
      rw [List.getD_eq_getElem?_getD, List.getElem?_eq_getElem hi] at h3
      exact name_small h3
    rw [Nd.bulk, Nd.nodes]
    have ht' : text.size ≤ 256 := ht
    omega
theorem wells_bulk : ∀ l : List Nd, (∀ k ∈ l, k.well = true) → Nd.bulks l + 65 * l.length ≤ 322 * Nd.nodesAll l
  | [], _ => by simp [Nd.bulks, Nd.nodesAll]
  | c :: r, h => by
    have h1 := well_bulk c (h c (by simp))
    have h2 := wells_bulk r (fun k hk => h k (List.mem_cons_of_mem _ hk))
    rw [Nd.bulks, Nd.nodesAll, List.length_cons]
    omega
end
theorem may_bulk {n : Nd} (h : n.may = true) : n.bulk ≤ 330000 := by
  have h1 := well_bulk n (may_well h).1
  unfold Nd.may at h
  simp only [Bool.and_eq_true, decide_eq_true_eq] at h
  omega
end Nx
end Go.Proofs.YtmofodaecakkfaaGreat
/- What package prim makes of a tree, as data. No program. -/
namespace Go.Proofs.YtmofodaecakkfaaGreat
open Go.RowKit Px Nx
namespace Nx
/-- The Kind of what stands at a place. -/
def kat (n : Nd) (p : List ByteArray) : UInt8 := ((n.at_ p).getD absent).kind
def takenD (n : Nd) (p : List ByteArray) : Bool := decide (p.length = 0) || openD n p
def emptyD (n : Nd) (p : List ByteArray) : Bool := decide (((n.at_ p).getD absent).kind = 2) && decide (((n.at_ p).getD absent).names.length = 0)
def fileN (s : ByteArray) : Nd := .mk 1 s [] []
def dirN : Nd := .mk 2 ByteArray.empty [] []
/-- What a call answers, and the tree then. -/
def makeD (n : Nd) (p : List ByteArray) (y : Nd) : Int × Nd :=
  bif takenD n p then bif y.well then bif decide (kat n p = 0) then (0, putD n p y) else (6, n) else (4, n) else (5, n)
def touchD (n : Nd) (p : List ByteArray) : Int × Nd :=
  bif takenD n p then bif decide (kat n p = 3) then (5, n) else bif decide (kat n p = 0) then (0, putD n p (fileN ByteArray.empty)) else (0, n) else (5, n)
/-- c: what is wrong with what stands there (0: nothing). -/
def removeD (n : Nd) (p : List ByteArray) (c : Int) : Int × Nd :=
  bif takenD n p then bif decide (kat n p = 0) then (5, n) else bif decide (c = 0) then (0, delD n p) else (c, n) else (5, n)
def wrongDir (n : Nd) (p : List ByteArray) : Int :=
  bif decide (kat n p = 2) then bif decide (p.length = 0) || !emptyD n p then 57 else 0 else 55
def wrongFile (n : Nd) (p : List ByteArray) : Int := bif decide (kat n p = 2) then 55 else 0
def wrongAll (p : List ByteArray) : Int := bif decide (p.length = 0) then 57 else 0
end Nx

end Go.Proofs.YtmofodaecakkfaaGreat
/- What package prim makes of a tree: what is refused changes nothing, what is done keeps it well formed, and no wider than so; made and taken away, renamed and back. No program. -/
namespace Go.Proofs.YtmofodaecakkfaaGreat
open Go.RowKit Px Nx
namespace Nx
theorem kat_none {n : Nd} (hw : n.well = true) {p : List ByteArray} (h : kat n p = 0) : n.at_ p = .none := by
  cases ha : n.at_ p with
  | none => rfl
  | some k =>
    unfold kat at h
    rw [ha] at h
    exact absurd h (well_kind (well_at hw ha))
theorem kat_root {n : Nd} (h : n.kind = 2) : kat n [] = 2 := h
theorem taken_open {n : Nd} {p : List ByteArray} (h : takenD n p = true) (hp : p ≠ []) : openD n p = true := by
  unfold takenD at h
  rw [Bool.or_eq_true] at h
  rcases h with h | h
  · exact absurd (List.length_eq_zero_iff.1 (of_decide_eq_true h)) hp
  · exact h
theorem kind_of_map {o o' : Option Nd} (h : o.map Nd.kind = o'.map Nd.kind) : (o.getD absent).kind = (o'.getD absent).kind := by
  cases o <;> cases o' <;> simp_all
theorem dirN_well : dirN.well = true := by kernel_rfl
end Nx
end Go.Proofs.YtmofodaecakkfaaGreat
/- What package prim makes of a tree, and what is within what then. No program. -/
namespace Go.Proofs.YtmofodaecakkfaaGreat
open Go.RowKit Px Nx
namespace Nx
theorem within_putD {n y : Nd} (hw : n.well = true) (hk : n.kind = 2) {p : List ByteArray} (h0 : kat n p = 0) : withinD n (putD n p y) = true := by
  unfold putD
  split
  · rename_i h
    rw [Bool.and_eq_true] at h
    have hp : p ≠ [] := by
      rintro rfl
      rw [kat_root hk] at h0
      exact absurd h0 (by decide)
    obtain ⟨l, x, rfl⟩ : ∃ l x, p = l ++ [x] := ⟨p.dropLast, p.getLast hp, (List.dropLast_concat_getLast hp).symm⟩
    have ho := h.1
    rw [openD_snoc, Bool.and_eq_true, decide_eq_true_eq] at ho
    have hr : reachD (l ++ [x]) n = some absent := by
      rw [reach_at l x n (.inl hw), if_pos ho.2, kat_none hw h0]
      rfl
    refine within_put (.inl h.2) _ n (.inl hw) hp (.inr ?_) hr
    unfold lastName
    rw [List.getLast?_concat]
    exact ho.1
  · exact within_refl n
theorem within_bif {n : Nd} (b : Bool) {x y : Int × Nd} (hx : withinD n x.2 = true) (hy : withinD n y.2 = true) : withinD n (bif b then x else y).2 = true := by cases b <;> assumption
theorem within_make {n y : Nd} (hw : n.well = true) (hk : n.kind = 2) (p : List ByteArray) : withinD n (makeD n p y).2 = true := by
  unfold makeD
  refine within_bif _ (within_bif _ ?_ (within_refl n)) (within_refl n)
  cases h : decide (kat n p = 0) with
  | true => exact within_putD hw hk (of_decide_eq_true h)
  | false => exact within_refl n
/-- What is refused changes nothing. -/
theorem make_same {n y : Nd} {p : List ByteArray} (h : (makeD n p y).1 ≠ 0) : (makeD n p y).2 = n := by
  unfold makeD at h ⊢
  revert h
  cases takenD n p
  · exact fun _ => rfl
  · cases y.well
    · exact fun _ => rfl
    · cases decide (kat n p = 0)
      · exact fun _ => rfl
      · exact fun h => absurd rfl h
end Nx
end Go.Proofs.YtmofodaecakkfaaGreat
