/- Walks of the reference: a word that is plain. -/
import Derived.Test.YtpibjhlldlbocaaGreatSynG
namespace Go.Proofs.YtpibjhlldlbocaaGreat
open Go.RowKit Sx

namespace Sx
def plainFrom (nz : Bool) : ByteArray → List Part → ByteArray × Bool
  | a, [] => (a, nz)
  | a, p :: r => if p.var || p.quoted then (⟨#[]⟩, false) else plainFrom nz (a ++ p.text) r
/-- The text of a word that is plain, and whether it is. -/
def Word.plain (x : Word) : ByteArray × Bool := plainFrom (decide (0 < x.parts.length)) ⟨#[]⟩ x.parts
end Sx

set_option maxRecDepth 100000 in
set_option maxHeartbeats 2000000 in
theorem plainRef_any {w : World} {cs : List Value} {x : Word} (hx : WordR w cs x) (hB : x.bulk ≤ 2000000) :
    Calls Tryz.prog 49 #[.agg cs.toArray] w fun e w' => e = .returned (.tuple #[.string x.plain.1, .bool x.plain.2]) ∧ Below w.heap.size w w' := by
  obtain ⟨p, c, rfl, h1, h2, h3⟩ := hx
  have HX := Lib.hid h3
  have hl : x.parts.length ≤ 2000000 := by
    have := sum_ge (f := Part.bulk) (fun p => Nat.succ_pos _) x.parts
    unfold Word.bulk at hB
    omega
  have hB0 : ByteArray.size ⟨#[]⟩ + ((x.parts.drop 0).map Part.bulk).sum ≤ 2000000 := by
    unfold Word.bulk at hB
    show 0 + _ ≤ _
    rw [List.drop_zero]
    omega
  have HB0 := Lib.hid hB0
  clear h3 h1 h2 hB hB0
  obtain ⟨R, hR⟩ : ∃ R, R = x.plain := ⟨_, rfl⟩
  rw [← hR]
  have HR : Hid (R = plainFrom (decide (0 < x.parts.length)) ⟨#[]⟩ (x.parts.drop 0)) := Lib.hid hR
  clear hR
  generalize hn : x.parts.length = n at *
  have HN := Lib.hid hn
  clear hn
  go_enter Tryz.func49, Tryz.ntmps49
  go_wp2_with fail
  go_loopw [4, 5] (fun s i wr => ∃ (k : Nat) (a : ByteArray), k ≤ n ∧ i = .int .i64 k ∧ s = .string a ∧ Hid (a.size + ((x.parts.drop k).map Part.bulk).sum ≤ 2000000) ∧ Hid (R = plainFrom (decide (0 < n)) a (x.parts.drop k)) ∧ Hid (Below (w.heap.size + 1) (w.alloc (.cells #[.slice p n c, .int .i64 x.at_] 31)) wr)) (fun _ i _ => n - (intOf i).toNat)
  case atStart => exact ⟨0, _, Nat.zero_le _, rfl, rfl, HB0, HR, Lib.hid (Below.refl _ _)⟩
  case round =>
    clear HR HB0
    obtain ⟨k, a, hk, rfl, rfl, HS, HK, HB⟩ := hrel
    have c0 : wr.cell? ⟨w.heap.size, 0, none⟩ = some (.slice p n c) := box_cell HB.out 0 rfl
    by_cases hlt : k < n
    · have hkx : k < x.parts.length := by rw [HN.out]; exact hlt
      have hd : x.parts.drop k = x.parts[k] :: x.parts.drop (k + 1) := List.drop_eq_getElem_cons hkx
      have HD : Hid (plainFrom (decide (0 < n)) a (x.parts.drop k) = if x.parts[k].var || x.parts[k].quoted then (⟨#[]⟩, false) else plainFrom (decide (0 < n)) (a ++ x.parts[k].text) (x.parts.drop (k + 1))) := Lib.hid (by rw [hd]; rfl)
      have hs2 : a.size + (x.parts[k].text.size + 1 + ((x.parts.drop (k + 1)).map Part.bulk).sum) ≤ 2000000 := by
        have := HS.out
        rw [hd, List.map_cons, List.sum_cons] at this
        exact this
      clear hd
      obtain ⟨b, o, rfl, _, hr⟩ := HX.out k hlt
      have hr : w.rangeAt b (o + k * 3) (partCells x.parts[k]) := by rw [← part_at hkx]; exact hr
      have hr := range_below (box_self HB.out) hr
      generalize x.parts[k] = P at *
      obtain ⟨var, text, quoted⟩ := P
      dsimp only at *
      have e0 : wr.cell? ⟨b, o + k * 3, none⟩ = some (.bool var) := hr 0 _ rfl
      have e1 : wr.cell? ⟨b, o + k * 3 + 1, none⟩ = some (.string text) := hr 1 _ rfl
      have e2 : wr.cell? ⟨b, o + k * 3 + 2, none⟩ = some (.bool quoted) := hr 2 _ rfl
      have hts : a.size + text.size ≤ 2000000 := by omega
      have HS2 := Lib.hid hs2
      clear hr hs2
      cases var <;> cases quoted <;> go_wp2_with fail
      · go_roundw
        case rel => exact ⟨k + 1, _, by omega, by go_num, rfl, Lib.hid (by rw [ByteArray.size_append]; have := HS2.out; omega), Lib.hid (by rw [HK.out, HD.out]; rfl), HB⟩
        case measure => simp [intOf]; omega
      all_goals (go_ret2; exact ⟨by rw [HK.out, HD.out]; rfl, box_self HB.out⟩)
    · have HE : Hid (k = n) := Lib.hid (by omega)
      go_wp2_with fail
      go_quiet (fail)
      go_wp2
      go_ret2
      have he : x.parts.drop k = [] := by rw [HE.out, ← HN.out, List.drop_length]
      exact ⟨by rw [HK.out, he]; rfl, below_drewN (box_self HB.out) _⟩
end Go.Proofs.YtpibjhlldlbocaaGreat
