/- Walks over nodes: what stands at a place. -/
import Derived.Test.YtonpeoaahjoboaaFtH
namespace Go.Proofs.Ytonpeoaahjoboaa
open Go.RowKit Px Nx

namespace Nx
/-- The kid of a name. -/
def Nd.kid (n : Nd) (x : ByteArray) : Option Nd := if findL n.names x < 0 then .none else n.kids[(findL n.names x).toNat]?
def Nd.at_ (n : Nd) : List ByteArray → Option Nd
  | [] => some n
  | x :: r => (n.kid x).bind fun k => k.at_ r
theorem Nd.at_append (l r : List ByteArray) : ∀ n : Nd, n.at_ (l ++ r) = (n.at_ l).bind fun k => k.at_ r := by
  induction l with
  | nil => intro n; rfl
  | cons x l ih =>
    intro n
    rw [List.cons_append, Nd.at_, Nd.at_]
    cases n.kid x with
    | none => rfl
    | some k => exact ih k
theorem Nd.at_snoc (n : Nd) {l : List ByteArray} {k : Nat} {c : Nd} (hk : k < l.length) (h : n.at_ (l.take k) = some c) : n.at_ (l.take (k + 1)) = c.kid (l.getD k ByteArray.empty) := by
  rw [take_snoc_d hk, Nd.at_append, h]
  show (Option.bind (c.kid _) fun k => some k) = _
  cases c.kid (l.getD k ByteArray.empty) <;> rfl
theorem Nd.at_off (n : Nd) {l : List ByteArray} {k : Nat} {c : Nd} (hk : k < l.length) (h : n.at_ (l.take k) = some c) (hc : c.kid (l.getD k ByteArray.empty) = .none) : n.at_ l = .none := by
  have h1 := Nd.at_snoc n hk h
  rw [hc] at h1
  rw [← List.take_append_drop (k + 1) l, Nd.at_append, h1]
  rfl
theorem Nd.at_all (n : Nd) {l : List ByteArray} {k : Nat} {c : Nd} (hk : k = l.length) (h : n.at_ (l.take k) = some c) : n.at_ l = some c := by
  subst hk
  rwa [List.take_length] at h
theorem findL_ge (l : List ByteArray) (x : ByteArray) : -1 ≤ findL l x := by
  unfold findL
  split <;> omega
theorem Nd.girth_at {n c : Nd} {x : ByteArray} (h : n.kid x = some c) : c.girth ≤ n.girth := by
  unfold Nd.kid at h
  split at h
  · cases h
  · cases n with
    | mk a b l r =>
      have : c.girth ≤ Nd.girths r := Nd.girth_kid h
      rw [Nd.girth]
      omega
end Nx
/-- The kid of a node that cells hold. -/
theorem kid_held {W wr : World} {v0 v1 v2 : Value} {q : Option Addr} {m d : Nat} {c : Nd} (h : NodeR W [v0, v1, v2, .slice q m d] c) (hb : Below W.heap.size W wr) {i : Nat} (hi : i < m) :
    ∃ x b o kk tx p2 n2 c2 q2 m2 d2, c.kids[i]? = some x ∧ q = some ⟨b, o, none⟩ ∧ NodeR W [.int .u8 kk, .string tx, .slice p2 n2 c2, .slice q2 m2 d2] x ∧ wr.cell? ⟨b, o + i * 4, none⟩ = some (.int .u8 kk) ∧ wr.cell? ⟨b, o + i * 4 + 1, none⟩ = some (.string tx) ∧ wr.cell? ⟨b, o + i * 4 + 2, none⟩ = some (.slice p2 n2 c2) ∧ wr.cell? ⟨b, o + i * 4 + 3, none⟩ = some (.slice q2 m2 d2) := by
  cases h with
  | mk kind text names kids p q cp d D h1 h2 h3 h5 h6 h7 h8 =>
    have hx := List.getElem?_eq_getElem hi
    obtain ⟨b, o, kk, tx, p2, n2, c2, q2, m2, d2, he, hD, e⟩ := kid_cells h7 hb hi (h8 i _ hx)
    have hn := h8 i _ hx
    rw [hD] at hn
    exact ⟨_, b, o, kk, tx, p2, n2, c2, q2, m2, d2, hx, he, hn, e⟩
theorem held_len {W : World} {v0 v1 v2 : Value} {q : Option Addr} {m d : Nat} {c : Nd} (h : NodeR W [v0, v1, v2, .slice q m d] c) : m = c.kids.length ∧ m ≤ maxLen := by
  cases h with
  | mk kind text names kids p q cp d D h1 h2 h3 h5 h6 h7 h8 => exact ⟨rfl, Nat.le_trans h5 h6⟩
/-- A block of four cells. -/
def Four (w : World) (g : Nat) (v0 v1 v2 v3 : Value) : Prop := w.heap[g]? = some (.cells #[v0, v1, v2, v3] 40 (0, 0))
theorem Four.cell {w : World} {g : Nat} {v0 v1 v2 v3 : Value} (h : Four w g v0 v1 v2 v3) : w.cell? ⟨g, 0, none⟩ = some v0 ∧ w.cell? ⟨g, 1, none⟩ = some v1 ∧ w.cell? ⟨g, 2, none⟩ = some v2 ∧ w.cell? ⟨g, 3, none⟩ = some v3 :=
  ⟨by rw [cell_of_row _ _ _ _ _ _ h]; rfl, by rw [cell_of_row _ _ _ _ _ _ h]; rfl, by rw [cell_of_row _ _ _ _ _ _ h]; rfl, by rw [cell_of_row _ _ _ _ _ _ h]; rfl⟩
theorem Four.open_ {w : World} {g : Nat} {v0 v1 v2 v3 : Value} (h : Four w g v0 v1 v2 v3) : w.frozen? ⟨g, 0, none⟩ = false ∧ w.frozen? ⟨g, 1, none⟩ = false ∧ w.frozen? ⟨g, 2, none⟩ = false ∧ w.frozen? ⟨g, 3, none⟩ = false :=
  ⟨frozen_of_row w g 0 _ _ h, frozen_of_row w g 1 _ _ h, frozen_of_row w g 2 _ _ h, frozen_of_row w g 3 _ _ h⟩
theorem Four.kept {w w' : World} {g : Nat} {v0 v1 v2 v3 : Value} (h : Four w g v0 v1 v2 v3) (hb : Below w.heap.size w w') : Four w' g v0 v1 v2 v3 := by
  unfold Four at *
  rw [hb.block _ (by
    rcases Nat.lt_or_ge g w.heap.size with hlt | hge
    · exact hlt
    · rw [Array.getElem?_eq_none hge] at h; cases h)]
  exact h
theorem Four.set {w : World} {g : Nat} {v0 v1 v2 v3 : Value} (h : Four w g v0 v1 v2 v3) (u0 u1 u2 u3 : Value) :
    Four ((((w.setCell ⟨g, 0, none⟩ u0).setCell ⟨g, 1, none⟩ u1).setCell ⟨g, 2, none⟩ u2).setCell ⟨g, 3, none⟩ u3) g u0 u1 u2 u3 := by
  have h1 := heap_setCell_same w g 0 _ _ u0 h
  have h2 := heap_setCell_same _ g 1 _ _ u1 h1
  have h3 := heap_setCell_same _ g 2 _ _ u2 h2
  exact heap_setCell_same _ g 3 _ _ u3 h3
theorem Four.other {w : World} {g k : Nat} {v0 v1 v2 v3 : Value} (h : Four w g v0 v1 v2 v3) (hk : g ≠ k) (u0 u1 u2 u3 : Value) :
    Four ((((w.setCell ⟨k, 0, none⟩ u0).setCell ⟨k, 1, none⟩ u1).setCell ⟨k, 2, none⟩ u2).setCell ⟨k, 3, none⟩ u3) g v0 v1 v2 v3 := by
  unfold Four at *
  rw [heap_setCell_other _ _ _ _ hk, heap_setCell_other _ _ _ _ hk, heap_setCell_other _ _ _ _ hk, heap_setCell_other _ _ _ _ hk]
  exact h
theorem below_four {B g : Nat} {a w : World} (h : Below B a w) (hg : B ≤ g) (u0 u1 u2 u3 : Value) :
    Below B a ((((w.setCell ⟨g, 0, none⟩ u0).setCell ⟨g, 1, none⟩ u1).setCell ⟨g, 2, none⟩ u2).setCell ⟨g, 3, none⟩ u3) :=
  (((h.setCell (p := ⟨g, 0, none⟩) hg u0).setCell (p := ⟨g, 1, none⟩) hg u1).setCell (p := ⟨g, 2, none⟩) hg u2).setCell (p := ⟨g, 3, none⟩) hg u3
theorem size_four {w : World} {g : Nat} (u0 u1 u2 u3 : Value) : ((((w.setCell ⟨g, 0, none⟩ u0).setCell ⟨g, 1, none⟩ u1).setCell ⟨g, 2, none⟩ u2).setCell ⟨g, 3, none⟩ u3).heap.size = w.heap.size := by simp
theorem four_new (w : World) (v0 v1 v2 v3 : Value) : Four (w.alloc (.cells #[v0, v1, v2, v3] 40)) w.heap.size v0 v1 v2 v3 := heap_alloc_new w _
theorem four_first (w : World) (v0 v1 v2 v3 : Value) (o : Obj) : Four ((w.alloc (.cells #[v0, v1, v2, v3] 40)).alloc o) w.heap.size v0 v1 v2 v3 := by
  unfold Four
  rw [Below.heap_alloc _ _ _ (by simp)]
  exact heap_alloc_new w _

set_option maxRecDepth 100000 in
set_option maxHeartbeats 4000000 in
theorem atRef_any {W : World} {cs : List Value} {c : Nd} (h : NodeR W cs c) {pv : Value} {place : List ByteArray} (hp : PlR W pv place) : ∀ w, Below W.heap.size W w →
    Calls Try.prog 51 #[.agg cs.toArray, pv] w fun e w' => (∃ vs b, e = .returned (.tuple #[.agg vs, .bool b]) ∧ NodeR W vs.toList ((c.at_ place).getD absent) ∧ b = (c.at_ place).isSome) ∧ Below w.heap.size w w' := by
  intro w hb
  obtain ⟨pp, pc, rfl, HSP, hpl, hpm⟩ := hp
  have hlen : place.length ≤ 9223372036854775807 := by unfold maxLen at hpm; omega
  have HP := Lib.hid HSP
  have HW := Lib.hid hb
  have HN := Lib.hid h
  have HAT0 : Hid (c.at_ (place.take 0) = some c) := Lib.hid rfl
  obtain ⟨p1, q1, c1, d1, rfl⟩ := h.cells
  clear HSP hpm hpl hb h
  generalize c.kind.toNat = k1 at *
  generalize c.text = t1 at *
  generalize c.names.length = n1 at *
  generalize c.kids.length = m1 at *
  generalize hn : place.length = n at *
  have HPN := Lib.hid hn
  clear hn
  go_enter Try.func51, Try.ntmps51
  go_wp2_with fail
  go_loopw [6] (fun i wr => ∃ (k : Nat) (cur : Nd) (kk : Int) (tx : ByteArray) (p2 : Option Addr) (n2 c2 : Nat) (q2 : Option Addr) (m2 d2 : Nat), k ≤ n ∧ i = .int .i64 k ∧ Hid (c.at_ (place.take k) = some cur) ∧ Hid (NodeR W [.int .u8 kk, .string tx, .slice p2 n2 c2, .slice q2 m2 d2] cur) ∧
    Hid (Four wr w.heap.size (.int .u8 kk) (.string tx) (.slice p2 n2 c2) (.slice q2 m2 d2)) ∧ Hid (Four wr (w.heap.size + 1) (.int .u8 0) (.string ⟨#[]⟩) (.slice none 0 0) (.slice none 0 0)) ∧ Hid (Below w.heap.size w wr) ∧ w.heap.size + 2 ≤ wr.heap.size) (fun i _ => n - (intOf i).toNat)
  case atStart => exact ⟨0, c, (k1 : Int), t1, p1, n1, c1, q1, m1, d1, Nat.zero_le _, rfl, HAT0, HN, Lib.hid (four_first w _ _ _ _ _), Lib.hid (by have := four_new (w.alloc (.cells #[.int .u8 k1, .string t1, .slice p1 n1 c1, .slice q1 m1 d1] 40)) (.int .u8 0) (.string ⟨#[]⟩) (.slice none 0 0) (.slice none 0 0); simpa using this), Lib.hid (box2_self (Below.refl _ _)), by simp⟩
  case round =>
    obtain ⟨k, cur, kk, tx, p2, n2, c2, q2, m2, d2, hk, rfl, HA, HC0, HV, HZ, HB, hsz⟩ := hrel
    obtain ⟨c0, c1x, c2x, c3⟩ := HV.out.cell
    by_cases hlt : k < n
    · have HOLD : Hid (Below W.heap.size W wr) := Lib.hid (HW.out.trans (HB.out.mono HW.out.size))
      obtain ⟨b, o, rfl, n0⟩ := name_cell HP.out HOLD.out (by rw [HPN.out]; exact hlt : k < place.length)
      have HAS := Lib.hid (Nd.at_snoc c (show k < place.length by rw [HPN.out]; exact hlt) HA.out)
      have HOFF := Lib.hid (Nd.at_off c (show k < place.length by rw [HPN.out]; exact hlt) HA.out)
      have HC : Hid (∀ wx, Below wr.heap.size wr wx → Calls Try.prog 94 #[.agg #[.int .u8 kk, .string tx, .slice p2 n2 c2, .slice q2 m2 d2], .string (place.getD k ByteArray.empty)] wx fun e w' => e = .returned (.int .i64 (findL cur.names (place.getD k ByteArray.empty))) ∧ Below wx.heap.size wx w') := Lib.hid fun wx hb =>
        find_any HC0.out _ wx (HOLD.out.trans (hb.mono HOLD.out.size))
      have hge := findL_ge cur.names (place.getD k ByteArray.empty)
      have HKD : Hid (cur.kid (place.getD k ByteArray.empty) = if findL cur.names (place.getD k ByteArray.empty) < 0 then .none else cur.kids[(findL cur.names (place.getD k ByteArray.empty)).toNat]?) := Lib.hid rfl
      generalize findL cur.names (place.getD k ByteArray.empty) = fi at *
      generalize place.getD k ByteArray.empty = x at *
      obtain ⟨hm2, hm3⟩ := held_len HC0.out
      have HM2 := Lib.hid hm2
      have hm4 : m2 ≤ 9223372036854775807 := by unfold maxLen at hm3; omega
      clear hm2 hm3
      have HKEEP : Hid (∀ wx w2, (fun wx => Below wr.heap.size wr wx ∧ wx.cell? ⟨w.heap.size, 0, none⟩ = some (.int .u8 kk) ∧ wx.cell? ⟨w.heap.size, 1, none⟩ = some (.string tx) ∧ wx.cell? ⟨w.heap.size, 2, none⟩ = some (.slice p2 n2 c2) ∧ wx.cell? ⟨w.heap.size, 3, none⟩ = some (.slice q2 m2 d2) ∧ wx.cell? ⟨b, o + k, none⟩ = some (.string x)) wx → Below wx.heap.size wx w2 → (fun wx => Below wr.heap.size wr wx ∧ wx.cell? ⟨w.heap.size, 0, none⟩ = some (.int .u8 kk) ∧ wx.cell? ⟨w.heap.size, 1, none⟩ = some (.string tx) ∧ wx.cell? ⟨w.heap.size, 2, none⟩ = some (.slice p2 n2 c2) ∧ wx.cell? ⟨w.heap.size, 3, none⟩ = some (.slice q2 m2 d2) ∧ wx.cell? ⟨b, o + k, none⟩ = some (.string x)) w2) := Lib.hid fun wx w2 hs hb => by
        obtain ⟨s0, s1, s2, s3, s4, s5⟩ := hs
        exact ⟨s0.trans (hb.mono s0.size), cell_kept hb s1, cell_kept hb s2, cell_kept hb s3, cell_kept hb s4, cell_kept hb s5⟩
      go_wp2_with fail
      refine wp_region_held_drew (S := (fun wx => Below wr.heap.size wr wx ∧ wx.cell? ⟨w.heap.size, 0, none⟩ = some (.int .u8 kk) ∧ wx.cell? ⟨w.heap.size, 1, none⟩ = some (.string tx) ∧ wx.cell? ⟨w.heap.size, 2, none⟩ = some (.slice p2 n2 c2) ∧ wx.cell? ⟨w.heap.size, 3, none⟩ = some (.slice q2 m2 d2) ∧ wx.cell? ⟨b, o + k, none⟩ = some (.string x))) (by kernel_rfl) ⟨(Below.refl _ _).drew, c0, c1x, c2x, c3, n0⟩ (fun hHeld => ?_)
      refine wpAnyH_take (i := 0) (oi := { dst := some 14, op := Op.load 40 (Operand.tmp 2), type := 40, pos := "ref.go:89", after := #[], guard := none }) (v := ?_) rfl (by kernel_rfl) (by kernel_rfl) (by kernel_rfl) (fun _ _ _ h => h) (Or.inl ⟨by rfl, ?_⟩) (by assumption) ?_
      rotate_left
      · (intro w hSw; (try dsimp only at hSw); go_simp; try with_reducible rfl)
      try simp only [Act.put, List.setIfInBounds_toArray, List.set_cons_zero, List.set_cons_succ]
      refine wpAnyH_take (i := 1) (oi := { dst := some 15, op := Op.move (Operand.tmp 1), type := 22, pos := "ref.go:89", after := #[], guard := none }) (v := ?_) rfl (by kernel_rfl) (by kernel_rfl) (by kernel_rfl) (fun _ _ _ h => h) (Or.inl ⟨by rfl, ?_⟩) (by assumption) ?_
      rotate_left
      · (intro w hSw; (try dsimp only at hSw); go_simp; try with_reducible rfl)
      try simp only [Act.put, List.setIfInBounds_toArray, List.set_cons_zero, List.set_cons_succ]
      refine wpAnyH_take (i := 2) (oi := { dst := some 16, op := Op.move (Operand.tmp 6), type := 3, pos := "ref.go:89", after := #[], guard := none }) (v := ?_) rfl (by kernel_rfl) (by kernel_rfl) (by kernel_rfl) (fun _ _ _ h => h) (Or.inl ⟨by rfl, ?_⟩) (by assumption) ?_
      rotate_left
      · (intro w hSw; (try dsimp only at hSw); go_simp; try with_reducible rfl)
      try simp only [Act.put, List.setIfInBounds_toArray, List.set_cons_zero, List.set_cons_succ]
      refine wpAnyH_take (i := 3) (oi := { dst := some 17, op := Op.indexAddr 22 (Operand.tmp 15) (Operand.tmp 16), type := 0, pos := "ref.go:89", after := #[{ on := 1, ground := Ground.data }, { on := 2, ground := Ground.data }], guard := none }) (v := ?_) rfl (by kernel_rfl) (by kernel_rfl) (by kernel_rfl) (fun _ _ _ h => h) (Or.inl ⟨by rfl, ?_⟩) (by assumption) ?_
      rotate_left
      · (intro w hSw; (try dsimp only at hSw); go_simp; try with_reducible rfl)
      try simp only [Act.put, List.setIfInBounds_toArray, List.set_cons_zero, List.set_cons_succ]
      refine wpAnyH_take (i := 4) (oi := { dst := some 18, op := Op.load 9 (Operand.tmp 17), type := 9, pos := "ref.go:89", after := #[{ on := 3, ground := Ground.data }], guard := none }) (v := ?_) rfl (by kernel_rfl) (by kernel_rfl) (by kernel_rfl) (fun _ _ _ h => h) (Or.inl ⟨by rfl, ?_⟩) (by assumption) ?_
      rotate_left
      · (intro w hSw; (try dsimp only at hSw); go_simp; try with_reducible rfl)
      try simp only [Act.put, List.setIfInBounds_toArray, List.set_cons_zero, List.set_cons_succ]
      refine wpAnyH_ready (rs := [5]) (by kernel_rfl) (by simp) ?_
      refine AllReadyH.cons (o := { dst := some 19, op := Op.call { callee := Callee.value (Operand.func 94), args := #[Operand.tmp 14, Operand.tmp 18], argTypes := #[40, 9] }, type := 3, pos := "ref.go:89", after := #[{ on := 0, ground := Ground.data }, { on := 4, ground := Ground.data }], guard := none }) rfl (fun K hK => ?_) AllReadyH.nil
      go_simp
      (go_at_call 94; refine (HC.out _ (And.left (by assumption))).mono ?_; rintro e w2 ⟨rfl, hb2⟩; have hS2 := HKEEP.out _ _ (by assumption) hb2; clear hb2)
      go_wp2_with fail
      refine hK.out _ _ (by first | assumption | assumption) (fun hHeld => ?_)
      clear hK K
      try simp only [Act.put, List.setIfInBounds_toArray, List.set_cons_zero, List.set_cons_succ]
      refine wpAnyH_take (i := 6) (oi := { dst := some 7, op := Op.assign (Operand.tmp 19), type := 3, pos := "ref.go:89", after := #[{ on := 5, ground := Ground.data }, { on := 5, ground := Ground.chain }, { on := 0, ground := Ground.phase }, { on := 1, ground := Ground.phase }, { on := 2, ground := Ground.phase }, { on := 3, ground := Ground.phase }, { on := 4, ground := Ground.phase }, { on := 5, ground := Ground.phase }], guard := none }) (v := ?_) rfl (by kernel_rfl) (by kernel_rfl) (by kernel_rfl) (fun _ _ _ h => h) (Or.inl ⟨by rfl, ?_⟩) (by assumption) ?_
      rotate_left
      · (intro w hSw; (try dsimp only at hSw); go_simp; try with_reducible rfl)
      try simp only [Act.put, List.setIfInBounds_toArray, List.set_cons_zero, List.set_cons_succ]
      refine wpAnyH_done (by kernel_rfl) ?_ _
      have HB2 : Hid (Below wr.heap.size wr w2) := Lib.hid (And.left (by assumption))
      clear hHeld hS2 HKEEP c0 c1x c2x c3 n0
      have HV2 := Lib.hid (HV.out.kept HB2.out)
      have HZ2 := Lib.hid (HZ.out.kept HB2.out)
      have HBW : Hid (Below w.heap.size w w2) := Lib.hid (HB.out.trans (HB2.out.mono HB.out.size))
      have hsz2 : w.heap.size + 2 ≤ w2.heap.size := Nat.le_trans hsz HB2.out.size
      obtain ⟨c0, c1x, c2x, c3⟩ := HV2.out.cell
      obtain ⟨y0, y1, y2, y3⟩ := HV2.out.open_
      obtain ⟨z0, z1, z2, z3⟩ := HZ2.out.cell
      obtain ⟨x0, x1, x2, x3⟩ := HZ2.out.open_
      by_cases hf : fi < 0
      · have hg : decide (fi < 0) = true := decide_eq_true hf
        have HV : Hid (c.at_ place = .none) := Lib.hid (HOFF.out (by rw [HKD.out, if_pos hf]))
        clear HKD HOFF HAS
        go_wp2_with fail
        refine bodyPost_ret (v := .tuple #[.agg #[.int .u8 0, .string ⟨#[]⟩, .slice none 0 0, .slice none 0 0], .bool false]) (by simp [results, Try.results51, go_sem, z0, z1, z2, z3]) rfl ?_
        exact ⟨⟨_, _, rfl, by rw [HV.out]; exact absent_R W, by rw [HV.out]; rfl⟩, below_four HBW.out (by omega) _ _ _ _⟩
      · obtain ⟨i, rfl⟩ : ∃ i : Nat, fi = i := ⟨fi.toNat, by omega⟩
        have hg : decide ((i : Int) < 0) = false := decide_eq_false hf
        by_cases hi : i < m2
        · obtain ⟨y, b', o', kk', tx', p2', n2', c2', q2', m2', d2', hy, rfl, hyR, e0, e1, e2, e3⟩ := kid_held HC0.out (HOLD.out.trans (HB2.out.mono HOLD.out.size)) hi
          have HYR := Lib.hid hyR
          have HNEW : Hid (c.at_ (place.take (k + 1)) = some y) := Lib.hid (by rw [HAS.out, HKD.out, if_neg hf]; exact hy)
          clear hyR hy HKD HAS HOFF hf
          have hgi : decide (m2 ≤ i) = false := decide_eq_false (by omega)
          go_wp2_with fail
          go_roundw
          case rel => exact ⟨k + 1, y, kk', tx', p2', n2', c2', q2', m2', d2', by omega, by go_num, HNEW, HYR, Lib.hid (HV2.out.set _ _ _ _), Lib.hid (HZ2.out.other (by omega) _ _ _ _), Lib.hid (below_four HBW.out (Nat.le_refl _) _ _ _ _), by simpa using hsz2⟩
          case measure => simp [intOf]; omega
        · have HV : Hid (c.at_ place = .none) := Lib.hid (HOFF.out (by rw [HKD.out, if_neg hf]; exact List.getElem?_eq_none (by rw [← HM2.out]; simp; omega)))
          clear HKD HAS HOFF hf
          have hgi : decide (m2 ≤ i) = true := decide_eq_true (by omega)
          go_wp2_with fail
          refine bodyPost_ret (v := .tuple #[.agg #[.int .u8 0, .string ⟨#[]⟩, .slice none 0 0, .slice none 0 0], .bool false]) (by simp [results, Try.results51, go_sem, z0, z1, z2, z3]) rfl ?_
          exact ⟨⟨_, _, rfl, by rw [HV.out]; exact absent_R W, by rw [HV.out]; rfl⟩, below_four HBW.out (by omega) _ _ _ _⟩
    · obtain ⟨y0, y1, y2, y3⟩ := HV.out.open_
      obtain ⟨z0, z1, z2, z3⟩ := HZ.out.cell
      obtain ⟨x0, x1, x2, x3⟩ := HZ.out.open_
      have HV2 : Hid (c.at_ place = some cur) := Lib.hid (Nd.at_all c (by rw [HPN.out]; omega) HA.out)
      go_wp2_with fail
      refine bodyPost_ret (v := .tuple #[.agg #[.int .u8 kk, .string tx, .slice p2 n2 c2, .slice q2 m2 d2], .bool true]) (by simp [results, Try.results51, go_sem, z0, z1, z2, z3]) rfl ?_
      exact ⟨⟨_, _, rfl, by rw [HV2.out]; exact HC0.out, by rw [HV2.out]; rfl⟩, below_four HB.out (by omega) _ _ _ _⟩
end Go.Proofs.Ytonpeoaahjoboaa
