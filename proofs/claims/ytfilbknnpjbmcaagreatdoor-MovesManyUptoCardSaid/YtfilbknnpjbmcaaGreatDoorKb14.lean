/- Walks over nodes: how heavy one is, of the law; where a name stands, and what stands at a place, of the reference. -/
import Derived.Test.YtfilbknnpjbmcaaGreatDoorKb13
namespace Go.Proofs.YtfilbknnpjbmcaaGreatDoor
open Go.RowKit Px Nx

def findL (l : List ByteArray) (x : ByteArray) : Int := match l.findIdx? (fun y => decide (y = x)) with | some i => i | none => -1
theorem findIdx_take {l : List ByteArray} {k : Nat} {f : ByteArray → Bool} (hk : k < l.length) (hn : ∀ i, i < k → f (l.getD i ByteArray.empty) = false) (hx : f (l.getD k ByteArray.empty) = true) : l.findIdx? f = some k := by
 rw [List.findIdx?_eq_some_iff_getElem]
 refine ⟨hk, ?_, fun j hj => ?_⟩
 ·rw [List.getD_eq_getElem?_getD, List.getElem?_eq_getElem hk] at hx
  exact hx
 ·have := hn j hj
  rw [List.getD_eq_getElem?_getD, List.getElem?_eq_getElem (by omega)] at this
  simpa using this
theorem findL_at {l : List ByteArray} {k : Nat} {x : ByteArray} (hk : k < l.length) (hn : ∀ i, i < k → l.getD i ByteArray.empty ≠ x) (hx : l.getD k ByteArray.empty = x) : findL l x = k := by
 unfold findL
 rw [findIdx_take (f := fun y => decide (y = x)) hk (fun i hi => decide_eq_false (hn i hi)) (decide_eq_true hx)]
theorem findL_none {l : List ByteArray} {x : ByteArray} (hn : ∀ i, i < l.length → l.getD i ByteArray.empty ≠ x) : findL l x = -1 := by
 unfold findL
 rw [List.findIdx?_eq_none_iff.2 ?_]
 intro y hy
 obtain ⟨i, hi, rfl⟩ := List.getElem_of_mem hy
 have := hn i hi
 rw [List.getD_eq_getElem?_getD, List.getElem?_eq_getElem hi] at this
 exact decide_eq_false this

end Go.Proofs.YtfilbknnpjbmcaaGreatDoor
/- Walks: slices.BinarySearch over texts. -/
namespace Go.Proofs.YtfilbknnpjbmcaaGreatDoor
open Go.RowKit Px Nx

theorem sisNaN_any (x : ByteArray) (w : World) :
  Calls Tryz.prog 77 #[.string x] w fun e w' => e = .returned (.bool false) ∧ w = w' := by
 go_enter Tryz.func77, Tryz.ntmps77
 go_wp2
 go_ret
 exact ⟨ret_bool (by simp), rfl⟩
theorem lessS_any (x y : ByteArray) (w : World) :
  Calls Tryz.prog 76 #[.string x, .string y] w fun e w' => e = .returned (.bool (Op.bytesLess x.toList y.toList)) ∧ w = w' := by
 go_enter Tryz.func76, Tryz.ntmps76
 go_wp2_with (go_at_call 105; refine (isNaN_any _ _).mono ?_; rintro e w' ⟨rfl, rfl⟩)
 go_ret
 exact ⟨rfl, rfl⟩

def risesL (l : List ByteArray) : Prop := ∀ i j, i < j → j < l.length → Op.bytesLess (l.getD i ByteArray.empty).toList (l.getD j ByteArray.empty).toList = true
theorem less_trans {x y z : ByteArray} (h : Op.bytesLess x.toList y.toList = true) (h' : Op.bytesLess y.toList z.toList = true) : Op.bytesLess x.toList z.toList = true := by
 rw [bl] at *
 exact decide_eq_true (List.lt_trans (of_decide_eq_true h) (of_decide_eq_true h'))
theorem less_irrefl (x : ByteArray) : Op.bytesLess x.toList x.toList = false := by
 rw [bl]; exact decide_eq_false (List.lt_irrefl _)
theorem rises_of {l : List ByteArray} (h : namesL l = true) : risesL l := by
 have step : ∀ i, i + 1 < l.length → Op.bytesLess (l.getD i ByteArray.empty).toList (l.getD (i + 1) ByteArray.empty).toList = true := by
  intro i hi
  have h1 := List.all_eq_true.1 h (i + 1) (List.mem_range.2 hi)
  unfold okAt at h1
  rw [Bool.and_eq_true] at h1
  simpa using h1.2
 intro i j hij
 induction j with
 | zero => omega
 | succ j ih =>
  intro hj
  by_cases he : i = j
  ·subst he; exact step i hj
  ·exact less_trans (ih (by omega) (by omega)) (step j hj)
theorem rises_le {l : List ByteArray} (h : risesL l) {i j : Nat} (hij : i ≤ j) (hj : j < l.length) {x : ByteArray} (hx : Op.bytesLess (l.getD j ByteArray.empty).toList x.toList = true) : Op.bytesLess (l.getD i ByteArray.empty).toList x.toList = true := by
 by_cases he : i = j
 ·subst he; exact hx
 ·exact less_trans (h i j (by omega) hj) hx

def SearchAt (l : List ByteArray) (x : ByteArray) (i : Nat) (b : Bool) : Prop :=
 i ≤ l.length ∧ (∀ k, k < i → Op.bytesLess (l.getD k ByteArray.empty).toList x.toList = true) ∧ (∀ k, i ≤ k → k < l.length → Op.bytesLess (l.getD k ByteArray.empty).toList x.toList = false) ∧ b = (decide (i < l.length) && decide (l.getD i ByteArray.empty = x))

set_option maxRecDepth 1000000 in
set_option maxHeartbeats 4000000 in
theorem search_any {W : World} {p : Option Addr} {l : List ByteArray} (c : Nat) (x : ByteArray) (h : Strs W p l) (hl : l.length < 4611686018427387904) (hs : risesL l) : ∀ w, Below W.heap.size W w →
  Calls Tryz.prog 47 #[.slice p l.length c, .string x] w fun e w' => (∃ (i : Nat) (b : Bool), e = .returned (.tuple #[.int .i64 i, .bool b]) ∧ SearchAt l x i b) ∧ Below w.heap.size w w' := by
 intro w hb
 have HS := Lib.hid h
 have HW := Lib.hid hb
 have HR := Lib.hid hs
 clear h hb hs
 generalize hn : l.length = n at *
 have HN := Lib.hid hn
 clear hn
 have HUN : Hid (∀ i b, i ≤ n → (∀ k, k < i → Op.bytesLess (l.getD k ByteArray.empty).toList x.toList = true) → (∀ k, i ≤ k → k < n → Op.bytesLess (l.getD k ByteArray.empty).toList x.toList = false) → b = (decide (i < n) && decide (l.getD i ByteArray.empty = x)) → SearchAt l x i b) := Lib.hid fun i b h1 h2 h3 h4 => by
  unfold SearchAt
  rw [HN.out]
  exact ⟨h1, h2, h3, h4⟩
 go_enter Tryz.func47, Tryz.ntmps47
 go_wp2
 go_loopg [7, 8] n (fun g s7 s8 wr => ∃ lo hi : Nat, s7 = .int .i64 lo ∧ s8 = .int .i64 hi ∧ lo ≤ hi ∧ hi ≤ n ∧ hi - lo ≤ g ∧ Hid (∀ k, k < lo → Op.bytesLess (l.getD k ByteArray.empty).toList x.toList = true) ∧ Hid (∀ k, hi ≤ k → k < n → Op.bytesLess (l.getD k ByteArray.empty).toList x.toList = false) ∧ Hid (Below w.heap.size w wr))
 case atStart => exact ⟨0, n, rfl, rfl, Nat.zero_le _, Nat.le_refl _, by omega, Lib.hid fun t ht => absurd ht (Nat.not_lt_zero _), Lib.hid fun t h1 h2 => by omega, Lib.hid (Below.refl _ _)⟩
 case round =>
  obtain ⟨lo, hi, rfl, rfl, hlh, hin, hg, H1, H2, HB⟩ := hrel
  have HOLD : Hid (Below W.heap.size W wr) := Lib.hid (HW.out.trans (HB.out.mono HW.out.size))
  by_cases hlt : lo < hi
  ·obtain ⟨b, o, rfl, cm⟩ := name_cell HS.out HOLD.out (show (lo + hi) / 2 < l.length by rw [HN.out]; omega)
   obtain ⟨mid, hmid⟩ : ∃ mid, (lo + hi) / 2 = mid := ⟨_, rfl⟩
   have HUP : Hid (Op.bytesLess (l.getD ((lo + hi) / 2) ByteArray.empty).toList x.toList = true → ∀ k, k < (lo + hi) / 2 + 1 → Op.bytesLess (l.getD k ByteArray.empty).toList x.toList = true) := Lib.hid fun hx k hk => rises_le HR.out (show k ≤ (lo + hi) / 2 by omega) (by rw [HN.out]; omega) hx
   have HDN : Hid (Op.bytesLess (l.getD ((lo + hi) / 2) ByteArray.empty).toList x.toList = false → ∀ k, (lo + hi) / 2 ≤ k → k < n → Op.bytesLess (l.getD k ByteArray.empty).toList x.toList = false) := Lib.hid fun hx k hk hkn => by
    rw [Bool.eq_false_iff]
    intro hkx
    have := rises_le HR.out hk (by rw [HN.out]; exact hkn) hkx
    rw [hx] at this
    cases this
   generalize l.getD ((lo + hi) / 2) ByteArray.empty = y at *
   clear hmid
   by_cases hyx : Op.bytesLess y.toList x.toList = true
   ·have HV := Lib.hid (HUP.out hyx)
    have hmn : (lo + hi) / 2 < n := by omega
    go_wp2_with (go_at_call 76; refine (lessS_any _ _ _).mono ?_; rintro e w' ⟨rfl, rfl⟩)
    go_roundg (hi - ((lo + hi) / 2 + 1))
    case measure => omega
    case rel =>
     exact ⟨(lo + hi) / 2 + 1, hi, by rw [show ((lo : Int) + (hi : Int)) / 2 + 1 = (((lo + hi) / 2 + 1 : Nat) : Int) by omega], rfl, by omega, hin, Nat.le_refl _, HV, H2, HB⟩
   ·have hyx' : Op.bytesLess y.toList x.toList = false := Bool.eq_false_iff.2 hyx
    have HV := Lib.hid (HDN.out hyx')
    have hmn : (lo + hi) / 2 < n := by omega
    clear hyx
    go_wp2_with (go_at_call 76; refine (lessS_any _ _ _).mono ?_; rintro e w' ⟨rfl, rfl⟩)
    go_roundg ((lo + hi) / 2 - lo)
    case measure => omega
    case rel =>
     exact ⟨lo, (lo + hi) / 2, rfl, by rw [show ((lo : Int) + (hi : Int)) / 2 = (((lo + hi) / 2 : Nat) : Int) by omega], by omega, by omega, Nat.le_refl _, H1, HV, HB⟩
  ·have : hi = lo := by omega
   subst this
   by_cases hn : hi < n
   ·obtain ⟨b, o, rfl, cl⟩ := name_cell HS.out HOLD.out (show hi < l.length by rw [HN.out]; exact hn)
    have HE : Hid (∀ b, b = decide (l.getD hi ByteArray.empty = x) → SearchAt l x hi b) := Lib.hid fun b h => HUN.out hi b hin H1.out H2.out (by rw [decide_eq_true hn, h]; rfl)
    generalize l.getD hi ByteArray.empty = y at *
    obtain ⟨bt, hbt, hbt'⟩ := text_ways y x
    have HF := Lib.hid (HE.out bt hbt.symm)
    clear hbt
    cases bt
    all_goals
     go_wp2_with (go_at_call 77; refine (sisNaN_any _ _).mono ?_; rintro e w' ⟨rfl, rfl⟩)
     go_ret2
     exact ⟨⟨_, _, rfl, HF.out⟩, HB.out⟩
   ·have HF : Hid (SearchAt l x hi false) := Lib.hid (HUN.out hi false hin H1.out H2.out (by rw [decide_eq_false hn]; rfl))
    go_wp2_with fail
    go_ret2
    exact ⟨⟨_, _, rfl, HF.out⟩, HB.out⟩

theorem search_find {l : List ByteArray} {x : ByteArray} {i : Nat} {b : Bool} (hs : risesL l) (h : SearchAt l x i b) : (b = true → i < l.length ∧ findL l x = i) ∧ (b = false → findL l x = -1) := by
 obtain ⟨h1, h2, h3, h4⟩ := h
 constructor
 ·intro hb
  rw [hb] at h4
  have h5 := h4.symm
  rw [Bool.and_eq_true] at h5
  have hi := of_decide_eq_true h5.1
  have hx := of_decide_eq_true h5.2
  refine ⟨hi, findL_at hi (fun k hk e => ?_) hx⟩
  have := h2 k hk
  rw [e, less_irrefl] at this
  cases this
 ·intro hb
  refine findL_none fun k hk e => ?_
  rw [hb] at h4
  by_cases hki : k < i
  ·have := h2 k hki
   rw [e, less_irrefl] at this
   cases this
  ·by_cases he : k = i
   ·subst he
    rw [decide_eq_true hk, e] at h4
    simp at h4
   ·have := hs i k (by omega) hk
    rw [e, h3 i (Nat.le_refl _) (by omega)] at this
    cases this
end Go.Proofs.YtfilbknnpjbmcaaGreatDoor
/- Walks over nodes: what stands at a place. -/
namespace Go.Proofs.YtfilbknnpjbmcaaGreatDoor
open Go.RowKit Px Nx

namespace Nx
def Nd.kid (n : Nd) (x : ByteArray) : Option Nd := if findL n.names x < 0 then .none else n.kids[(findL n.names x).toNat]?
def Nd.at_ (n : Nd) : List ByteArray → Option Nd
 | [] => some n
 | x :: r => (n.kid x).bind fun k => k.at_ r
theorem Nd.at_append (l r : List ByteArray) : ∀ n : Nd, n.at_ (l ++ r) = (n.at_ l).bind fun k => k.at_ r := by
 induction l with
 | nil => intro n; rfl
 | cons x l ih =>
  intro n
  rw [List.cons_append, Nd.at_, Nd.at_]
  cases n.kid x with
  | none => rfl
  | some k => exact ih k
theorem Nd.at_snoc (n : Nd) {l : List ByteArray} {k : Nat} {c : Nd} (hk : k < l.length) (h : n.at_ (l.take k) = some c) : n.at_ (l.take (k + 1)) = c.kid (l.getD k ByteArray.empty) := by
 rw [take_snoc_d hk, Nd.at_append, h]
 show (Option.bind (c.kid _) fun k => some k) = _
 cases c.kid (l.getD k ByteArray.empty) <;> rfl
theorem Nd.at_off (n : Nd) {l : List ByteArray} {k : Nat} {c : Nd} (hk : k < l.length) (h : n.at_ (l.take k) = some c) (hc : c.kid (l.getD k ByteArray.empty) = .none) : n.at_ l = .none := by
 have h1 := Nd.at_snoc n hk h
 rw [hc] at h1
 rw [← List.take_append_drop (k + 1) l, Nd.at_append, h1]
 rfl
theorem Nd.at_all (n : Nd) {l : List ByteArray} {k : Nat} {c : Nd} (hk : k = l.length) (h : n.at_ (l.take k) = some c) : n.at_ l = some c := by
 subst hk
 rwa [List.take_length] at h
theorem findL_ge (l : List ByteArray) (x : ByteArray) : -1 ≤ findL l x := by
 unfold findL
 split <;> omega
theorem Nd.girth_at {n c : Nd} {x : ByteArray} (h : n.kid x = some c) : c.girth ≤ n.girth := by
 unfold Nd.kid at h
 split at h
 ·cases h
 ·cases n with
  | mk a b l r =>
   have : c.girth ≤ Nd.girths r := Nd.girth_kid h
   rw [Nd.girth]
   omega
end Nx
theorem held_len {W : World} {v0 v1 v2 : Value} {q : Option Addr} {m d : Nat} {c : Nd} (h : NodeR W [v0, v1, v2, .slice q m d] c) : m = c.kids.length ∧ m ≤ maxLen := by
 cases h with
 | mk kind text names kids p q cp d D h1 h2 h3 h5 h6 h7 h8 => exact ⟨rfl, Nat.le_trans h5 h6⟩
def Four (w : World) (g : Nat) (v0 v1 v2 v3 : Value) : Prop := w.heap[g]? = some (.cells #[v0, v1, v2, v3] 25 (0, 0))
theorem Four.cell {w : World} {g : Nat} {v0 v1 v2 v3 : Value} (h : Four w g v0 v1 v2 v3) : w.cell? ⟨g, 0, none⟩ = some v0 ∧ w.cell? ⟨g, 1, none⟩ = some v1 ∧ w.cell? ⟨g, 2, none⟩ = some v2 ∧ w.cell? ⟨g, 3, none⟩ = some v3 :=
 ⟨by rw [cell_of_row _ _ _ _ _ _ h]; rfl, by rw [cell_of_row _ _ _ _ _ _ h]; rfl, by rw [cell_of_row _ _ _ _ _ _ h]; rfl, by rw [cell_of_row _ _ _ _ _ _ h]; rfl⟩
theorem Four.open_ {w : World} {g : Nat} {v0 v1 v2 v3 : Value} (h : Four w g v0 v1 v2 v3) : w.frozen? ⟨g, 0, none⟩ = false ∧ w.frozen? ⟨g, 1, none⟩ = false ∧ w.frozen? ⟨g, 2, none⟩ = false ∧ w.frozen? ⟨g, 3, none⟩ = false :=
 ⟨frozen_of_row w g 0 _ _ h, frozen_of_row w g 1 _ _ h, frozen_of_row w g 2 _ _ h, frozen_of_row w g 3 _ _ h⟩
theorem Four.kept {w w' : World} {g : Nat} {v0 v1 v2 v3 : Value} (h : Four w g v0 v1 v2 v3) (hb : Below w.heap.size w w') : Four w' g v0 v1 v2 v3 := by
 unfold Four at *
 rw [hb.block _ (by
  rcases Nat.lt_or_ge g w.heap.size with hlt | hge
  ·exact hlt
  ·rw [Array.getElem?_eq_none hge] at h; cases h)]
 exact h
theorem Four.set {w : World} {g : Nat} {v0 v1 v2 v3 : Value} (h : Four w g v0 v1 v2 v3) (u0 u1 u2 u3 : Value) :
  Four ((((w.setCell ⟨g, 0, none⟩ u0).setCell ⟨g, 1, none⟩ u1).setCell ⟨g, 2, none⟩ u2).setCell ⟨g, 3, none⟩ u3) g u0 u1 u2 u3 := by
 have h1 := heap_setCell_same w g 0 _ _ u0 h
 have h2 := heap_setCell_same _ g 1 _ _ u1 h1
 have h3 := heap_setCell_same _ g 2 _ _ u2 h2
 exact heap_setCell_same _ g 3 _ _ u3 h3
theorem Four.other {w : World} {g k : Nat} {v0 v1 v2 v3 : Value} (h : Four w g v0 v1 v2 v3) (hk : g ≠ k) (u0 u1 u2 u3 : Value) :
  Four ((((w.setCell ⟨k, 0, none⟩ u0).setCell ⟨k, 1, none⟩ u1).setCell ⟨k, 2, none⟩ u2).setCell ⟨k, 3, none⟩ u3) g v0 v1 v2 v3 := by
 unfold Four at *
 rw [heap_setCell_other _ _ _ _ hk, heap_setCell_other _ _ _ _ hk, heap_setCell_other _ _ _ _ hk, heap_setCell_other _ _ _ _ hk]
 exact h
theorem below_four {B g : Nat} {a w : World} (h : Below B a w) (hg : B ≤ g) (u0 u1 u2 u3 : Value) :
  Below B a ((((w.setCell ⟨g, 0, none⟩ u0).setCell ⟨g, 1, none⟩ u1).setCell ⟨g, 2, none⟩ u2).setCell ⟨g, 3, none⟩ u3) :=
 (((h.setCell (p := ⟨g, 0, none⟩) hg u0).setCell (p := ⟨g, 1, none⟩) hg u1).setCell (p := ⟨g, 2, none⟩) hg u2).setCell (p := ⟨g, 3, none⟩) hg u3
theorem size_four {w : World} {g : Nat} (u0 u1 u2 u3 : Value) : ((((w.setCell ⟨g, 0, none⟩ u0).setCell ⟨g, 1, none⟩ u1).setCell ⟨g, 2, none⟩ u2).setCell ⟨g, 3, none⟩ u3).heap.size = w.heap.size := by simp
theorem four_new (w : World) (v0 v1 v2 v3 : Value) : Four (w.alloc (.cells #[v0, v1, v2, v3] 25)) w.heap.size v0 v1 v2 v3 := heap_alloc_new w _
theorem four_first (w : World) (v0 v1 v2 v3 : Value) (o : Obj) : Four ((w.alloc (.cells #[v0, v1, v2, v3] 25)).alloc o) w.heap.size v0 v1 v2 v3 := by
 unfold Four
 rw [Below.heap_alloc _ _ _ (by simp)]
 exact heap_alloc_new w _

end Go.Proofs.YtfilbknnpjbmcaaGreatDoor
/- Walks over nodes: what stands at a place of a well-formed one, of the program. -/
namespace Go.Proofs.YtfilbknnpjbmcaaGreatDoor
open Go.RowKit Px Nx

namespace Nx
theorem well_len {n : Nd} (h : n.well = true) : n.kids.length = n.names.length ∧ namesL n.names = true ∧ ∀ x ∈ n.kids, x.well = true := by
 cases n with
 | mk kind text names kids =>
  show kids.length = names.length ∧ namesL names = true ∧ ∀ x ∈ kids, x.well = true
  rw [Nd.well] at h
  by_cases k1 : kind = 1
  ·rw [if_pos k1] at h
   simp at h
   rw [h.1.2, h.2]
   exact ⟨rfl, rfl, fun x hx => by cases hx⟩
  ·rw [if_neg k1] at h
   by_cases k3 : kind = 3
   ·rw [if_pos k3] at h
    simp at h
    rw [h.1.2, h.2]
    exact ⟨rfl, rfl, fun x hx => by cases hx⟩
   ·rw [if_neg k3] at h
    by_cases k2 : kind = 2
    ·rw [if_pos k2, Bool.and_eq_true, Bool.and_eq_true, Bool.and_eq_true, Nd.wells_all] at h
     exact ⟨of_decide_eq_true h.1.2, h.1.1.2, fun x hx => List.all_eq_true.1 h.2 x hx⟩
    ·rw [if_neg k2] at h
     cases h
theorem well_kid {n y : Nd} {x : ByteArray} (h : n.well = true) (hk : n.kid x = some y) : y.well = true := by
 unfold Nd.kid at hk
 split at hk
 ·cases hk
 ·exact (well_len h).2.2 y (List.mem_of_getElem? hk)
theorem well_at {n y : Nd} : ∀ {l : List ByteArray}, n.well = true → n.at_ l = some y → y.well = true := by
 intro l
 induction l generalizing n with
 | nil =>
  intro h hy
  obtain rfl : n = y := by simpa [Nd.at_] using hy
  exact h
 | cons x l ih =>
  intro h hy
  rw [Nd.at_] at hy
  obtain ⟨k, hk, hy⟩ := Option.bind_eq_some_iff.1 hy
  exact ih (well_kid h hk) hy
theorem girth_at_all {n y : Nd} : ∀ {l : List ByteArray}, n.at_ l = some y → y.girth ≤ n.girth := by
 intro l
 induction l generalizing n with
 | nil =>
  intro hy
  obtain rfl : n = y := by simpa [Nd.at_] using hy
  exact Nat.le_refl _
 | cons x l ih =>
  intro hy
  rw [Nd.at_] at hy
  obtain ⟨k, hk, hy⟩ := Option.bind_eq_some_iff.1 hy
  exact Nat.le_trans (ih hy) (Nd.girth_at hk)
theorem names_girth (n : Nd) : n.names.length ≤ n.girth := by
 cases n with
 | mk a b l r =>
  have := namesBulk_len l
  show l.length ≤ _
  rw [Nd.girth]
  omega
end Nx
theorem held_names {W : World} {v0 v1 v3 : Value} {p : Option Addr} {n d : Nat} {c : Nd} (h : NodeR W [v0, v1, .slice p n d, v3] c) : n = c.names.length ∧ Strs W p c.names ∧ n ≤ maxLen := by
 cases h with
 | mk kind text names kids p q cp d D h1 h2 h3 h5 h6 h7 h8 => exact ⟨rfl, h3, Nat.le_trans h1 h2⟩

end Go.Proofs.YtfilbknnpjbmcaaGreatDoor
