/- Values that are lists of texts; what compares them, called behind other calls. -/
import Derived.Test.YtfilbknnpjbmcaaGreatDoorKb01
import Derived.Test.YtfilbknnpjbmcaaGreatDoorKb00
import Derived.ChangeArms
import Derived.Deep.Strs
import Derived.Carry
import Derived.Test.YtfilbknnpjbmcaaGreatDoorProg
import Derived.WalkKit
import Derived.Deep.RegionHeld3
namespace Go.Proofs.YtfilbknnpjbmcaaGreatDoor
open Go.RowKit Px

def PlR (W : World) (v : Value) (xs : List ByteArray) : Prop := ∃ p c, v = .slice p xs.length c ∧ Strs W p xs ∧ xs.length ≤ c ∧ c ≤ maxLen

theorem below_next {W w : World} (hb : Below W.heap.size W w) {w' : World} (h : Below w.heap.size w w') : Below W.heap.size W w' := hb.trans (h.mono hb.size)
theorem below_drew {W w : World} (hb : Below W.heap.size W w) (n : Nat) : Below W.heap.size W (w.drewN n) := below_drewN hb n

theorem under_at {W w : World} (hb : Below W.heap.size W w) {v u : Value} {xs ys : List ByteArray} (hx : PlR W v xs) (hy : PlR W u ys) :
  Calls Tryz.prog 110 #[v, u] w fun e w' => e = .returned (.bool (underL xs ys)) ∧ Below W.heap.size W w' := by
 obtain ⟨p, c, rfl, h1, h2, h3⟩ := hx
 obtain ⟨q, d, rfl, g1, g2, g3⟩ := hy
 exact (under_any c d (h1.grown hb) (g1.grown hb) (by omega) g2 g3).mono fun e w' ⟨he, n, hw⟩ => ⟨he, hw ▸ below_drew hb n⟩
theorem PlR.grown {W w : World} (hb : Below W.heap.size W w) {v : Value} {xs : List ByteArray} (h : PlR W v xs) : PlR w v xs := by
 obtain ⟨p, c, h1, h2, h3, h4⟩ := h
 exact ⟨p, c, h1, h2.grown hb, h3, h4⟩
theorem plR_of_own {W : World} {base : Nat} {v : Value} {xs : List ByteArray} (h : W.ownsRow base 9 1 v xs.length (xs.map Value.string)) : PlR W v xs := by
 obtain ⟨_, h2⟩ := h
 rcases h2 with ⟨rfl, h0⟩ | ⟨g, cap, cur, rfl, _, hh, hn, hm, hc, ht⟩
 ·obtain rfl : xs = [] := List.length_eq_zero_iff.1 h0
  exact ⟨none, 0, rfl, fun i hi => absurd hi (Nat.not_lt_zero _), Nat.le_refl _, Nat.zero_le _⟩
 ·refine ⟨some ⟨g, 0, none⟩, cap, rfl, ?_, hn, hm⟩
  intro i hi
  refine ⟨g, 0, rfl, ?_⟩
  rw [cell_of_row W g (0 + i) cur _ _ hh]
  have h3 : (cur.toList.take (xs.length * 1))[i]? = some (.string (xs.getD i ByteArray.empty)) := by
   rw [ht, List.getElem?_map, List.getElem?_eq_getElem hi, List.getD_eq_getElem?_getD, List.getElem?_eq_getElem hi]
   rfl
  rw [List.getElem?_take_of_lt (by omega)] at h3
  rw [Nat.zero_add]
  simpa using h3
end Go.Proofs.YtfilbknnpjbmcaaGreatDoor
/- An argument that reads as a node, or as a place: the cells that hold it, and that its bulk is at most the reading's. -/
namespace Go.Proofs.YtfilbknnpjbmcaaGreatDoor
open Go.ChangeShapes Go.WideShapes Go.RowKit Px Nx
namespace Nx
variable {H : Type} {enc : TypeId × Value → H} {W : World}

theorem cNode : Tryz.prog.cellsOf 25 = 4 := by kernel_rfl
theorem cStr : Tryz.prog.cellsOf 9 = 1 := by kernel_rfl
theorem cU8 : Tryz.prog.cellsOf 5 = 1 := by kernel_rfl
theorem cStrs : Tryz.prog.cellsOf 22 = 1 := by kernel_rfl
theorem cNodes : Tryz.prog.cellsOf 23 = 1 := by kernel_rfl

theorem bulk_agg (l : List (DataW H)) : Rows.uptoBulk (.agg l) = Rows.uptoBulkAll l + 1 := by rw [Rows.uptoBulk]
theorem bulk_slice (l r : List (DataW H)) : Rows.uptoBulk (.slice l r) = Rows.uptoBulkAll l + Rows.uptoBulkAll r + 1 := by rw [Rows.uptoBulk]
theorem bulk_nil : Rows.uptoBulk (.nil : DataW H) = 1 := by rw [Rows.uptoBulk]
theorem bulk_str (s : ByteArray) : Rows.uptoBulk (.lit (.string s.data.toList) : DataW H) = s.size + 1 := by
  rw [Rows.uptoBulk, Array.length_toList]; rfl
theorem bulk_cons (d : DataW H) (r : List (DataW H)) : Rows.uptoBulkAll (d :: r) = Rows.uptoBulk d + Rows.uptoBulkAll r := by rw [Rows.uptoBulkAll]
theorem bulk_none : Rows.uptoBulkAll ([] : List (DataW H)) = 0 := by rw [Rows.uptoBulkAll]

theorem gather {α : Type} {b : α → Nat} : ∀ {elems : List (DataW H × List MemPlace)} {R : Nat → α → Prop} (_ : ∀ i y, elems[i]? = some y → ∃ x, R i x ∧ b x ≤ Rows.uptoBulk y.1),
    ∃ xs : List α, xs.length = elems.length ∧ (∀ (i : Nat) x, xs[i]? = some x → R i x) ∧ (xs.map b).sum ≤ Rows.uptoBulkAll (elems.map (·.1))
  | [], R, _ => ⟨[], rfl, fun i x h => by simp at h, by simp⟩
  | y :: l, R, h => by
    obtain ⟨x, hx, hb⟩ := h 0 y rfl
    obtain ⟨xs, h1, h2, h3⟩ := gather (elems := l) (R := fun i x => R (i + 1) x) (fun i z hz => h (i + 1) z (by simpa using hz))
    refine ⟨x :: xs, by simp [h1], ?_, ?_⟩
    · intro i z hz
      match i with
      | 0 => obtain rfl : x = z := by simpa using hz
             exact hx
      | i + 1 => exact h2 i z (by simpa using hz)
    · simp only [List.map_cons, List.sum_cons, bulk_cons]
      omega
theorem open_row {t e : TypeId} {k fuel : Nat} {v : Value} {x : DataW H × List MemPlace} (ht : Tryz.prog.underlying t = some (.slice e)) (hk : Tryz.prog.cellsOf e = k) (hk0 : 0 < k)
    (h : DataW.trod enc Tryz.prog W 0 (fun _ => true) true fuel t [v] = some x) :
    ∃ (p : Option Addr) (len cap n : Nat) (C : Nat → List Value) (elems : List (DataW H × List MemPlace)), n < fuel ∧ v = .slice p len cap ∧ len ≤ cap ∧ cap ≤ maxLen ∧ elems.length = len ∧ Row W k p len C ∧
      (∀ i y, elems[i]? = some y → DataW.trod enc Tryz.prog W 0 (fun _ => true) true n e (C i) = some y) ∧ Rows.uptoBulkAll (elems.map (·.1)) + 1 ≤ Rows.uptoBulk x.1 := by
  have hf : 0 < fuel := by
    cases fuel with
    | zero => simp [DataW.trod] at h
    | succ n => omega
  rcases DataW.trod_slice ht h with ⟨h1, rfl⟩ | ⟨a, len, cap, elems, rest, n, hn, h1, rfl, _, hl, hm, hlen, hel, _, _⟩
  · obtain rfl : v = .slice .none 0 0 := by simpa using h1
    exact ⟨.none, 0, 0, 0, fun _ => [], [], hf, rfl, Nat.le_refl _, Nat.zero_le _, rfl, fun i hi => absurd hi (Nat.not_lt_zero _), fun i y hy => by simp at hy, by simp [bulk_nil, bulk_none]⟩
  · obtain rfl : v = .slice (some a) len cap := by simpa using h1
    have key : ∀ i, i < len → ∃ cs y, W.cells? 0 (a.add (i * k)) k = some cs ∧ elems[i]? = some y ∧ DataW.trod enc Tryz.prog W 0 (fun _ => true) true n e cs = some y := by
      intro i hi
      have h2 := hel i hi
      rw [hk, List.getElem?_eq_getElem (by omega)] at h2
      obtain ⟨cs, h3, h4⟩ := Option.bind_eq_some_iff.1 h2
      exact ⟨cs, _, h3, List.getElem?_eq_getElem (by omega), h4⟩
    refine ⟨some a, len, cap, n, fun i => (W.cells? 0 (a.add (i * k)) k).getD [], elems, by omega, rfl, hl, hm, hlen, ?_, ?_, ?_⟩
    · intro i hi
      obtain ⟨cs, y, h3, _, _⟩ := key i hi
      obtain ⟨cs0, _, h30, _, _⟩ := key 0 (by omega)
      have hsp : a.spot = .none := by
        obtain ⟨_, hl0, hc0⟩ := World.cells?_some h30
        have h0 := hc0 0 hk0
        rw [show 0 * k = 0 by omega] at h0
        cases hs : a.spot with
        | none => rfl
        | some q =>
          exfalso
          have : W.cell? ((a.add 0).add 0) = .none := by
            show W.cell? a = none
            unfold World.cell?
            split
            · rw [hs]; rfl
            · rfl
          rw [this] at h0
          rw [List.getElem?_eq_getElem (by omega)] at h0
          cases h0
      obtain ⟨b, o, sp⟩ := a
      obtain rfl : sp = .none := hsp
      obtain ⟨_, hl1, hc1⟩ := World.cells?_some h3
      refine ⟨b, o, rfl, ?_, ?_⟩
      · show ((W.cells? 0 _ k).getD []).length = k
        rw [h3]; exact hl1
      · show W.rangeAt b (o + i * k) ((W.cells? 0 _ k).getD [])
        rw [h3]
        intro j v hv
        have hj : j < k := by
          have := (List.getElem?_eq_some_iff.1 hv).1
          have h9 : (Option.getD (some cs) []).length = k := hl1
          omega
        have h5 := hc1 j hj
        have e1 : ((⟨b, o, .none⟩ : Addr).add (i * k)).add j = ⟨b, o + i * k + j, .none⟩ := by
          unfold Addr.add
          by_cases h1 : i * k = 0 <;> by_cases h2 : j = 0 <;> simp [h1, h2]
        rw [e1] at h5
        rw [h5]
        exact hv
    · intro i y hy
      have hi : i < len := by
        have := (List.getElem?_eq_some_iff.1 hy).1
        omega
      obtain ⟨cs, y', h3, h4, h5⟩ := key i hi
      obtain rfl : y' = y := Option.some.inj (h4.symm.trans hy)
      show DataW.trod enc _ W 0 _ true n e ((W.cells? 0 _ k).getD []) = _
      rw [h3]
      exact h5
    · rw [bulk_slice]
      omega

theorem list4 {α : Type} {l : List α} (h : l.length = 4) : ∃ a b c d, l = [a, b, c, d] := by
  match l, h with
  | [a, b, c, d], _ => exact ⟨a, b, c, d, rfl⟩
theorem bulks_sum : ∀ l : List Nd, (l.map Nd.bulk).sum = Nd.bulks l
  | [] => by simp [Nd.bulks]
  | c :: r => by simp [Nd.bulks, bulks_sum r]

theorem open_strs_at {fuel : Nat} {v : Value} {x : DataW H × List MemPlace} (h : DataW.trod enc Tryz.prog W 0 (fun _ => true) true fuel 22 [v] = some x) :
    ∃ (p : Option Addr) (c : Nat) (xs : List ByteArray), v = .slice p xs.length c ∧ xs.length ≤ c ∧ c ≤ maxLen ∧ Strs W p xs ∧ namesBulk xs + 1 ≤ Rows.uptoBulk x.1 := by
  obtain ⟨p, len, cap, m, C, elems, _, rfl, hlc, hcm, hel, hR, hE, hB⟩ := open_row Tryz.underlying22 cStr (by omega) h
  obtain ⟨ps, hpl, hpR, hpb⟩ := gather (α := ByteArray) (b := fun s => s.size + 1) (R := fun i q => C i = [.string q]) (elems := elems) (fun i y hy => by
    have hr := hE i y hy
    obtain ⟨b, o, _, hl, _⟩ := hR i (by have := (List.getElem?_eq_some_iff.1 hy).1; omega)
    obtain ⟨v1, hv1⟩ : ∃ v1, C i = [v1] := by
      match hC : C i, hl with
      | [v1], _ => exact ⟨v1, rfl⟩
    rw [hv1] at hr
    obtain ⟨s, h1, rfl, _⟩ := DataW.trod_string Tryz.underlying9 hr
    obtain rfl : v1 = .string s := by simpa using h1
    exact ⟨s, hv1, by rw [bulk_str]; omega⟩)
  have hlen : ps.length = len := by omega
  refine ⟨p, cap, ps, by rw [hlen], by omega, hcm, ?_, ?_⟩
  · intro i hi
    obtain ⟨b, o, h1, h2, h3⟩ := hR i (by omega)
    have h4 := hpR i _ (List.getElem?_eq_getElem hi)
    refine ⟨b, o, h1, ?_⟩
    rw [h4] at h3
    have h5 := h3 0 _ rfl
    rw [List.getD_eq_getElem?_getD, List.getElem?_eq_getElem hi, Option.getD_some, ← h5]
    simp
  · unfold namesBulk
    omega

theorem open_node_at : ∀ (fuel : Nat) {cs : List Value} {x : DataW H × List MemPlace}, DataW.trod enc Tryz.prog W 0 (fun _ => true) true fuel 25 cs = some x →
    ∃ c : Nd, NodeR W cs c ∧ c.bulk ≤ Rows.uptoBulk x.1 := by
  intro fuel
  induction fuel using Nat.strongRecOn with
  | ind fuel ih =>
  intro cs x h
  obtain ⟨xs, n, hn, rfl, hl, hxl, hf⟩ := DataW.trod_struct Tryz.underlying25 h
  rw [cNode] at hl
  obtain ⟨y0, y1, y2, y3, rfl⟩ := list4 (hxl.trans rfl)
  obtain ⟨v0, v1, v2, v3, rfl⟩ := list4 hl
  · skip
    have g0 : DataW.trod enc Tryz.prog W 0 (fun _ => true) true n 5 [v0] = some y0 := by simpa [cU8] using hf 0 _ rfl
    have g1 : DataW.trod enc Tryz.prog W 0 (fun _ => true) true n 9 [v1] = some y1 := by simpa [cStr] using hf 1 _ rfl
    have g2 : DataW.trod enc Tryz.prog W 0 (fun _ => true) true n 22 [v2] = some y2 := by simpa [cStrs] using hf 2 _ rfl
    have g3 : DataW.trod enc Tryz.prog W 0 (fun _ => true) true n 23 [v3] = some y3 := by simpa [cNodes] using hf 3 _ rfl
    obtain ⟨k, h0, rfl, hk⟩ := DataW.trod_int Tryz.underlying5 g0
    obtain ⟨s, h1, rfl, _⟩ := DataW.trod_string Tryz.underlying9 g1
    obtain rfl : v0 = .int .u8 k := by simpa using h0
    obtain rfl : v1 = .string s := by simpa using h1
    obtain ⟨p, cap, ns, rfl, hnc, hcm, hS, hNB⟩ := open_strs_at g2
    obtain ⟨q, len', cap', m', D, elems', hm', rfl, hlc', hcm', hel', hR', hE', hB'⟩ := open_row Tryz.underlying23 cNode (by omega) g3
    obtain ⟨ks, hkl, hkR, hkb⟩ := gather (α := Nd) (b := Nd.bulk) (R := fun i q => NodeR W (D i) q) (elems := elems') (fun i y hy => ih m' (by omega) (hE' i y hy))
    obtain rfl : len' = ks.length := by omega
    have hk1 : 0 ≤ k ∧ k ≤ 255 := by simpa [Lit.wf, IntKind.min, IntKind.max, IntKind.signed, IntKind.bits] using hk
    have hk2 : k = ((UInt8.ofNat k.toNat).toNat : Int) := by
      rw [UInt8.toNat_ofNat']
      omega
    refine ⟨.mk (UInt8.ofNat k.toNat) s ns ks, ?_, ?_⟩
    · have hC := NodeR.mk (W := W) (UInt8.ofNat k.toNat) s ns ks p q cap cap' D hnc hcm hS hlc' hcm' hR' hkR
      rwa [← hk2] at hC
    · simp only [List.map_cons, List.map_nil, bulk_agg, bulk_cons, bulk_none, bulk_str, Nd.bulk]
      rw [bulks_sum] at hkb
      omega
set_option maxRecDepth 100000 in
theorem open_node {v : Value} {d : DataW H} {ps : List MemPlace} {base : Nat} (hv : Value.okWide Tryz.prog W .any base 25 v) (h : DataW.Trod enc Tryz.prog W 0 (fun _ => true) true 25 v d ps) :
    ∃ cs c, v = .agg cs ∧ NodeR W cs.toList c ∧ c.bulk ≤ Rows.uptoBulk d := by
  obtain ⟨cs, rfl, _⟩ := okWide_struct Tryz.underlying25 hv
  obtain ⟨fuel, hf⟩ := h
  obtain ⟨c, h1, h2⟩ := open_node_at fuel hf
  exact ⟨cs, c, rfl, h1, h2⟩
set_option maxRecDepth 100000 in
theorem open_place {v : Value} {d : DataW H} {ps : List MemPlace} {base : Nat} (hv : Value.okWide Tryz.prog W .any base 22 v) (h : DataW.Trod enc Tryz.prog W 0 (fun _ => true) true 22 v d ps) :
    ∃ xs, PlR W v xs ∧ namesBulk xs + 1 ≤ Rows.uptoBulk d := by
  obtain ⟨a0, len0, cap0, rfl⟩ := okWide_slice Tryz.underlying22 hv
  obtain ⟨fuel, hf⟩ := h
  obtain ⟨p, c, xs, h1, h2, h3, h4, h5⟩ := open_strs_at hf
  exact ⟨xs, ⟨p, c, h1, h4, h2, h3⟩, h5⟩
end Nx
end Go.Proofs.YtfilbknnpjbmcaaGreatDoor
/- An operation of a drawn region that is taken first: with what is closed told by itself. -/
namespace Go.Proofs.YtfilbknnpjbmcaaGreatDoor
theorem sA {α : Type} {l : List α} {i : Nat} {a : α} : l.toArray.setIfInBounds i a = (l.set i a).toArray := List.setIfInBounds_toArray ..
theorem sB {α : Type} {x a : α} {xs : List α} : (x :: xs).set 0 a = a :: xs := List.set_cons_zero
theorem sC {α : Type} {x a : α} {xs : List α} {n : Nat} : (x :: xs).set (n + 1) a = x :: xs.set n a := List.set_cons_succ
open Go Go.RowKit
theorem tk {P : Program} {md : Region.Mode} {ops : Array Oper} {Q : Exit → Act → World → Prop} {S : World → Prop} (i : Nat) (oi : Oper) {v : Value} {fuel : Nat} {listed : Array Bool} {a : Act} {w : World}
  (h : wpAnyH P md ops Q S fuel (listed.setIfInBounds i true) (a.put oi.dst v) w)
  (hi : ops[i]? = some oi := by exact rfl) (hs : Region.noSelect ops = true := by kernel_rfl) (hf : Region.free md ops listed i = true := by kernel_rfl) (hr : (Region.ready md ops listed).contains i = true := by kernel_rfl)
  (hQ : ∀ c a w, Q (.panic c) (a.put oi.dst v) w → Q (.panic c) a w := by exact fun _ _ _ h => h)
  (hw : Region.wanted oi (yielded ops a.tmps) = true := by rfl) (hy : ∀ w, S w → (execOp a.eval oi).run P w = .ok (.value v) w := by intro w hSw; (try dsimp only at hSw); go_simp; try with_reducible rfl) (hS : S w := by assumption) :
  wpAnyH P md ops Q S (fuel + 1) listed a w := wpAnyH_take hi hs hf hr hQ (.inl ⟨hw, hy⟩) hS h
theorem tkl {P : Program} {md : Region.Mode} {ops : Array Oper} {Q : Exit → Act → World → Prop} {S : World → Prop} (i : Nat) (oi : Oper) {v : Value} {fuel : Nat} {listed : Array Bool} {a : Act} {w : World}
  (hy : ∀ w, S w → (execOp a.eval oi).run P w = .ok (.value v) w) (h : wpAnyH P md ops Q S fuel (listed.setIfInBounds i true) (a.put oi.dst v) w)
  (hi : ops[i]? = some oi := by exact rfl) (hs : Region.noSelect ops = true := by kernel_rfl) (hf : Region.free md ops listed i = true := by kernel_rfl) (hr : (Region.ready md ops listed).contains i = true := by kernel_rfl)
  (hQ : ∀ c a w, Q (.panic c) (a.put oi.dst v) w → Q (.panic c) a w := by exact fun _ _ _ h => h)
  (hw : Region.wanted oi (yielded ops a.tmps) = true := by rfl) (hS : S w := by assumption) :
  wpAnyH P md ops Q S (fuel + 1) listed a w := wpAnyH_take hi hs hf hr hQ (.inl ⟨hw, hy⟩) hS h
theorem tkn {P : Program} {md : Region.Mode} {ops : Array Oper} {Q : Exit → Act → World → Prop} {S : World → Prop} (i : Nat) (oi : Oper) {fuel : Nat} {listed : Array Bool} {a : Act} {w : World}
  (h : wpAnyH P md ops Q S fuel (listed.setIfInBounds i true) (a.put oi.dst undef) w)
  (hi : ops[i]? = some oi := by exact rfl) (hs : Region.noSelect ops = true := by kernel_rfl) (hf : Region.free md ops listed i = true := by kernel_rfl) (hr : (Region.ready md ops listed).contains i = true := by kernel_rfl)
  (hQ : ∀ c a w, Q (.panic c) (a.put oi.dst undef) w → Q (.panic c) a w := by exact fun _ _ _ h => h)
  (hw : Region.wanted oi (yielded ops a.tmps) = false := by rfl) (hS : S w := by assumption) :
  wpAnyH P md ops Q S (fuel + 1) listed a w := wpAnyH_take hi hs hf hr hQ (.inr ⟨hw, rfl⟩) hS h
end Go.Proofs.YtfilbknnpjbmcaaGreatDoor
