/- An argument that reads as a command: the cells that hold it, and that its bulk is at most the reading's. -/
import Derived.Test.YtpibjhlldlbocaaGreatSynR
import Derived.ChangeArms
import Derived.Deep.Strs
import Derived.Carry
namespace Go.Proofs.YtpibjhlldlbocaaGreat
open Go.ChangeShapes Go.WideShapes Go.RowKit Sx
namespace Sx
variable {H : Type} {enc : TypeId × Value → H} {W : World}

theorem cUnd : Tryz.prog.cellsOf 33 = 3 := by kernel_rfl
theorem cWord : Tryz.prog.cellsOf 31 = 2 := by kernel_rfl
theorem cCmd : Tryz.prog.cellsOf 25 = 5 := by kernel_rfl
theorem cBool : Tryz.prog.cellsOf 4 = 1 := by kernel_rfl
theorem cStr : Tryz.prog.cellsOf 9 = 1 := by kernel_rfl
theorem cInt : Tryz.prog.cellsOf 3 = 1 := by kernel_rfl
theorem cU8 : Tryz.prog.cellsOf 5 = 1 := by kernel_rfl
theorem cParts : Tryz.prog.cellsOf 29 = 1 := by kernel_rfl
theorem cWords : Tryz.prog.cellsOf 22 = 1 := by kernel_rfl
theorem cCmds : Tryz.prog.cellsOf 23 = 1 := by kernel_rfl

theorem bulk_agg (l : List (DataW H)) : Rows.uptoBulk (.agg l) = Rows.uptoBulkAll l + 1 := by rw [Rows.uptoBulk]
theorem bulk_slice (l r : List (DataW H)) : Rows.uptoBulk (.slice l r) = Rows.uptoBulkAll l + Rows.uptoBulkAll r + 1 := by rw [Rows.uptoBulk]
theorem bulk_nil : Rows.uptoBulk (.nil : DataW H) = 1 := by rw [Rows.uptoBulk]
theorem bulk_str (s : ByteArray) : Rows.uptoBulk (.lit (.string s.data.toList) : DataW H) = s.size + 1 := by
  rw [Rows.uptoBulk, Array.length_toList]; rfl
theorem bulk_cons (d : DataW H) (r : List (DataW H)) : Rows.uptoBulkAll (d :: r) = Rows.uptoBulk d + Rows.uptoBulkAll r := by rw [Rows.uptoBulkAll]
theorem bulk_none : Rows.uptoBulkAll ([] : List (DataW H)) = 0 := by rw [Rows.uptoBulkAll]

theorem list2 {α : Type} {l : List α} (h : l.length = 2) : ∃ a b, l = [a, b] := by
  match l, h with
  | [a, b], _ => exact ⟨a, b, rfl⟩
theorem list3 {α : Type} {l : List α} (h : l.length = 3) : ∃ a b c, l = [a, b, c] := by
  match l, h with
  | [a, b, c], _ => exact ⟨a, b, c, rfl⟩
theorem list5 {α : Type} {l : List α} (h : l.length = 5) : ∃ a b c d e, l = [a, b, c, d, e] := by
  match l, h with
  | [a, b, c, d, e], _ => exact ⟨a, b, c, d, e, rfl⟩

/-- From each element to a list of them. -/
theorem gather {α : Type} {b : α → Nat} : ∀ {elems : List (DataW H × List MemPlace)} {R : Nat → α → Prop} (_ : ∀ i y, elems[i]? = some y → ∃ x, R i x ∧ b x ≤ Rows.uptoBulk y.1),
    ∃ xs : List α, xs.length = elems.length ∧ (∀ (i : Nat) x, xs[i]? = some x → R i x) ∧ (xs.map b).sum ≤ Rows.uptoBulkAll (elems.map (·.1))
  | [], R, _ => ⟨[], rfl, fun i x h => by simp at h, by simp⟩
  | y :: l, R, h => by
    obtain ⟨x, hx, hb⟩ := h 0 y rfl
    obtain ⟨xs, h1, h2, h3⟩ := gather (elems := l) (R := fun i x => R (i + 1) x) (fun i z hz => h (i + 1) z (by simpa using hz))
    refine ⟨x :: xs, by simp [h1], ?_, ?_⟩
    · intro i z hz
      match i with
      | 0 => obtain rfl : x = z := by simpa using hz
             exact hx
      | i + 1 => exact h2 i z (by simpa using hz)
    · simp only [List.map_cons, List.sum_cons, bulk_cons]
      omega
theorem bulks_sum : ∀ l : List Cmd, (l.map Cmd.bulk).sum = Cmd.bulks l
  | [] => by simp [Cmd.bulks]
  | c :: r => by simp [Cmd.bulks, bulks_sum r]

/-- A slice's cells, element by element. -/
theorem open_row {t e : TypeId} {k fuel : Nat} {v : Value} {x : DataW H × List MemPlace} (ht : Tryz.prog.underlying t = some (.slice e)) (hk : Tryz.prog.cellsOf e = k) (hk0 : 0 < k)
    (h : DataW.trod enc Tryz.prog W 0 (fun _ => true) true fuel t [v] = some x) :
    ∃ (p : Option Addr) (len cap n : Nat) (C : Nat → List Value) (elems : List (DataW H × List MemPlace)), n < fuel ∧ v = .slice p len cap ∧ len ≤ cap ∧ cap ≤ maxLen ∧ elems.length = len ∧ Row W k p len C ∧
      (∀ i y, elems[i]? = some y → DataW.trod enc Tryz.prog W 0 (fun _ => true) true n e (C i) = some y) ∧ Rows.uptoBulkAll (elems.map (·.1)) + 1 ≤ Rows.uptoBulk x.1 := by
  have hf : 0 < fuel := by
    cases fuel with
    | zero => simp [DataW.trod] at h
    | succ n => omega
  rcases DataW.trod_slice ht h with ⟨h1, rfl⟩ | ⟨a, len, cap, elems, rest, n, hn, h1, rfl, _, hl, hm, hlen, hel, _, _⟩
  · obtain rfl : v = .slice none 0 0 := by simpa using h1
    exact ⟨none, 0, 0, 0, fun _ => [], [], hf, rfl, Nat.le_refl _, Nat.zero_le _, rfl, fun i hi => absurd hi (Nat.not_lt_zero _), fun i y hy => by simp at hy, by simp [bulk_nil, bulk_none]⟩
  · obtain rfl : v = .slice (some a) len cap := by simpa using h1
    have key : ∀ i, i < len → ∃ cs y, W.cells? 0 (a.add (i * k)) k = some cs ∧ elems[i]? = some y ∧ DataW.trod enc Tryz.prog W 0 (fun _ => true) true n e cs = some y := by
      intro i hi
      have h2 := hel i hi
      rw [hk, List.getElem?_eq_getElem (by omega)] at h2
      obtain ⟨cs, h3, h4⟩ := Option.bind_eq_some_iff.1 h2
      exact ⟨cs, _, h3, List.getElem?_eq_getElem (by omega), h4⟩
    refine ⟨some a, len, cap, n, fun i => (W.cells? 0 (a.add (i * k)) k).getD [], elems, by omega, rfl, hl, hm, hlen, ?_, ?_, ?_⟩
    · intro i hi
      obtain ⟨cs, y, h3, _, _⟩ := key i hi
      obtain ⟨cs0, _, h30, _, _⟩ := key 0 (by omega)
      have hsp : a.spot = none := by
        obtain ⟨_, hl0, hc0⟩ := World.cells?_some h30
        have h0 := hc0 0 hk0
        rw [show 0 * k = 0 by omega] at h0
        cases hs : a.spot with
        | none => rfl
        | some q =>
          exfalso
          have : W.cell? ((a.add 0).add 0) = none := by
            show W.cell? a = none
            unfold World.cell?
            split
            · rw [hs]; rfl
            · rfl
          rw [this] at h0
          rw [List.getElem?_eq_getElem (by omega)] at h0
          cases h0
      obtain ⟨b, o, sp⟩ := a
      obtain rfl : sp = none := hsp
      obtain ⟨_, hl1, hc1⟩ := World.cells?_some h3
      refine ⟨b, o, rfl, ?_, ?_⟩
      · show ((W.cells? 0 _ k).getD []).length = k
        rw [h3]; exact hl1
      · show W.rangeAt b (o + i * k) ((W.cells? 0 _ k).getD [])
        rw [h3]
        intro j v hv
        have hj : j < k := by
          have := (List.getElem?_eq_some_iff.1 hv).1
          have h9 : (Option.getD (some cs) []).length = k := hl1
          omega
        have h5 := hc1 j hj
        have e1 : ((⟨b, o, none⟩ : Addr).add (i * k)).add j = ⟨b, o + i * k + j, none⟩ := by
          unfold Addr.add
          by_cases h1 : i * k = 0 <;> by_cases h2 : j = 0 <;> simp [h1, h2]
        rw [e1] at h5
        rw [h5]
        exact hv
    · intro i y hy
      have hi : i < len := by
        have := (List.getElem?_eq_some_iff.1 hy).1
        omega
      obtain ⟨cs, y', h3, h4, h5⟩ := key i hi
      obtain rfl : y' = y := Option.some.inj (h4.symm.trans hy)
      show DataW.trod enc _ W 0 _ true n e ((W.cells? 0 _ k).getD []) = _
      rw [h3]
      exact h5
    · rw [bulk_slice]
      omega

theorem open_part {fuel : Nat} {cs : List Value} {x : DataW H × List MemPlace} (h : DataW.trod enc Tryz.prog W 0 (fun _ => true) true fuel 33 cs = some x) :
    ∃ p : Part, cs = partCells p ∧ p.bulk ≤ Rows.uptoBulk x.1 := by
  obtain ⟨xs, n, _, rfl, hl, hxl, hf⟩ := DataW.trod_struct Tryz.underlying33 h
  rw [cUnd] at hl
  obtain ⟨y0, y1, y2, rfl⟩ := list3 (hxl.trans rfl)
  obtain ⟨v0, v1, v2, rfl⟩ := list3 hl
  · skip
    have g0 : DataW.trod enc Tryz.prog W 0 (fun _ => true) true n 4 [v0] = some y0 := by simpa [cBool] using hf 0 _ rfl
    have g1 : DataW.trod enc Tryz.prog W 0 (fun _ => true) true n 9 [v1] = some y1 := by simpa [cStr] using hf 1 _ rfl
    have g2 : DataW.trod enc Tryz.prog W 0 (fun _ => true) true n 4 [v2] = some y2 := by simpa [cBool] using hf 2 _ rfl
    obtain ⟨b0, h0, rfl⟩ := DataW.trod_bool Tryz.underlying4 g0
    obtain ⟨s, h1, rfl, _⟩ := DataW.trod_string Tryz.underlying9 g1
    obtain ⟨b2, h2, rfl⟩ := DataW.trod_bool Tryz.underlying4 g2
    obtain rfl : v0 = .bool b0 := by simpa using h0
    obtain rfl : v1 = .string s := by simpa using h1
    obtain rfl : v2 = .bool b2 := by simpa using h2
    refine ⟨⟨b0, s, b2⟩, rfl, ?_⟩
    simp only [List.map_cons, List.map_nil, bulk_agg, bulk_cons, bulk_none, bulk_str, Part.bulk]
    omega

theorem open_word {fuel : Nat} {cs : List Value} {x : DataW H × List MemPlace} (h : DataW.trod enc Tryz.prog W 0 (fun _ => true) true fuel 31 cs = some x) :
    ∃ p : Word, WordR W cs p ∧ p.bulk ≤ Rows.uptoBulk x.1 := by
  obtain ⟨xs, n, _, rfl, hl, hxl, hf⟩ := DataW.trod_struct Tryz.underlying31 h
  rw [cWord] at hl
  obtain ⟨y0, y1, rfl⟩ := list2 (hxl.trans rfl)
  obtain ⟨v0, v1, rfl⟩ := list2 hl
  · skip
    have g0 : DataW.trod enc Tryz.prog W 0 (fun _ => true) true n 29 [v0] = some y0 := by simpa [cParts] using hf 0 _ rfl
    have g1 : DataW.trod enc Tryz.prog W 0 (fun _ => true) true n 3 [v1] = some y1 := by simpa [cInt] using hf 1 _ rfl
    obtain ⟨z, h1, rfl, _⟩ := DataW.trod_int Tryz.underlying3 g1
    obtain rfl : v1 = .int .i64 z := by simpa using h1
    obtain ⟨p, len, cap, m, C, elems, _, rfl, hlc, hcm, hel, hR, hE, hB⟩ := open_row Tryz.underlying29 cUnd (by omega) g0
    obtain ⟨ps, hpl, hpR, hpb⟩ := gather (α := Part) (b := Part.bulk) (R := fun i q => C i = partCells q) (elems := elems) (fun i y hy => open_part (hE i y hy))
    have hlen : ps.length = len := by omega
    refine ⟨⟨ps, z⟩, ⟨p, cap, by rw [← hlen], hlen ▸ hlc, hcm, ?_⟩, ?_⟩
    · rw [hlen]
      intro i hi
      obtain ⟨b, o, h1, h2, h3⟩ := hR i hi
      have h4 := hpR i _ (List.getElem?_eq_getElem (by omega))
      refine ⟨b, o, h1, ?_, ?_⟩
      · show ((ps[i]?.map partCells).getD []).length = 3
        rw [List.getElem?_eq_getElem (by omega)]; rfl
      · show W.rangeAt b (o + i * 3) ((ps[i]?.map partCells).getD [])
        rw [List.getElem?_eq_getElem (by omega), Option.map_some, Option.getD_some, ← h4]
        exact h3
    · simp only [List.map_cons, List.map_nil, bulk_agg, bulk_cons, bulk_none, Word.bulk]
      have : 0 ≤ Rows.uptoBulk (H := H) (.lit (.int .i64 z)) := Nat.zero_le _
      omega

theorem open_cmd_at : ∀ (fuel : Nat) {cs : List Value} {x : DataW H × List MemPlace}, DataW.trod enc Tryz.prog W 0 (fun _ => true) true fuel 25 cs = some x →
    ∃ c : Cmd, CmdR W cs c ∧ c.bulk ≤ Rows.uptoBulk x.1 := by
  intro fuel
  induction fuel using Nat.strongRecOn with
  | ind fuel ih =>
  intro cs x h
  obtain ⟨xs, n, hn, rfl, hl, hxl, hf⟩ := DataW.trod_struct Tryz.underlying25 h
  rw [cCmd] at hl
  obtain ⟨y0, y1, y2, y3, y4, rfl⟩ := list5 (hxl.trans rfl)
  obtain ⟨v0, v1, v2, v3, v4, rfl⟩ := list5 hl
  · skip
    have g0 : DataW.trod enc Tryz.prog W 0 (fun _ => true) true n 5 [v0] = some y0 := by simpa [cU8] using hf 0 _ rfl
    have g1 : DataW.trod enc Tryz.prog W 0 (fun _ => true) true n 3 [v1] = some y1 := by simpa [cInt] using hf 1 _ rfl
    have g2 : DataW.trod enc Tryz.prog W 0 (fun _ => true) true n 9 [v2] = some y2 := by simpa [cStr] using hf 2 _ rfl
    have g3 : DataW.trod enc Tryz.prog W 0 (fun _ => true) true n 22 [v3] = some y3 := by simpa [cWords] using hf 3 _ rfl
    have g4 : DataW.trod enc Tryz.prog W 0 (fun _ => true) true n 23 [v4] = some y4 := by simpa [cCmds] using hf 4 _ rfl
    obtain ⟨k, h0, rfl, hk⟩ := DataW.trod_int Tryz.underlying5 g0
    obtain ⟨z, h1, rfl, _⟩ := DataW.trod_int Tryz.underlying3 g1
    obtain ⟨s, h2, rfl, _⟩ := DataW.trod_string Tryz.underlying9 g2
    obtain rfl : v0 = .int .u8 k := by simpa using h0
    obtain rfl : v1 = .int .i64 z := by simpa using h1
    obtain rfl : v2 = .string s := by simpa using h2
    obtain ⟨p, len, cap, m, C, elems, _, rfl, hlc, hcm, hel, hR, hE, hB⟩ := open_row Tryz.underlying22 cWord (by omega) g3
    obtain ⟨q, len', cap', m', D, elems', hm', rfl, hlc', hcm', hel', hR', hE', hB'⟩ := open_row Tryz.underlying23 cCmd (by omega) g4
    obtain ⟨ws, hwl, hwR, hwb⟩ := gather (α := Word) (b := Word.bulk) (R := fun i q => WordR W (C i) q) (elems := elems) (fun i y hy => open_word (hE i y hy))
    obtain ⟨ks, hkl, hkR, hkb⟩ := gather (α := Cmd) (b := Cmd.bulk) (R := fun i q => CmdR W (D i) q) (elems := elems') (fun i y hy => ih m' (by omega) (hE' i y hy))
    obtain rfl : len = ws.length := by omega
    obtain rfl : len' = ks.length := by omega
    have hk1 : 0 ≤ k ∧ k ≤ 255 := by simpa [Lit.wf, IntKind.min, IntKind.max, IntKind.signed, IntKind.bits] using hk
    have hk2 : k = ((UInt8.ofNat k.toNat).toNat : Int) := by
      rw [UInt8.toNat_ofNat']
      omega
    refine ⟨.mk (UInt8.ofNat k.toNat) z s ws ks, ?_, ?_⟩
    · have hC := CmdR.mk (W := W) (UInt8.ofNat k.toNat) z s ws ks p q cap cap' C D hlc hcm hR hwR hlc' hcm' hR' hkR
      rwa [← hk2] at hC
    · simp only [List.map_cons, List.map_nil, bulk_agg, bulk_cons, bulk_none, bulk_str, Cmd.bulk]
      rw [bulks_sum] at hkb
      omega
end Sx
end Go.Proofs.YtpibjhlldlbocaaGreat
