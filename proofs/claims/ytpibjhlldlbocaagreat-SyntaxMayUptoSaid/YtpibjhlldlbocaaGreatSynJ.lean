/- Walks of the library: is one of these nineteen ASCII bytes in a text of any bytes? -/
import Derived.Test.YtpibjhlldlbocaaGreatSynI
import Derived.Test.YtpibjhlldlbocaaGreatSynShelf
import Derived.Laws.Runes
import Derived.Laws.RangeAny
import Derived.Deep.LoopGhost
import Derived.Handy
import Derived.Lib.IndexAny
namespace Go.Proofs.YtpibjhlldlbocaaGreat
open Go.RowKit Sx Go.Proofs

namespace Sx
/-- The bytes that the program's word asks for. -/
def bads : ByteArray := ⟨#[0, 32, 9, 10, 59, 38, 124, 60, 62, 40, 41, 42, 63, 91, 96, 39, 34, 92, 36]⟩
theorem bads_size : bads.size = 19 := rfl
theorem bads_ascii : ∀ b ∈ bads.data.toList, b.toNat < 128 := by decide
theorem bads_at (i : Nat) (h : i < bads.size) : bads[i].toNat < 128 := bads_ascii _ (by
  show bads.data[i] ∈ _
  exact Array.getElem_mem_toList (xs := bads.data) h)
theorem bads_high (b : UInt8) (h : 128 ≤ b.toNat) : bads.data.toList.contains b = false := by
  rw [Bool.eq_false_iff]
  intro hc
  have := bads_ascii b (List.contains_iff_mem.1 hc)
  omega
end Sx

theorem iter_below (w : World) (s : ByteArray) (pos : Nat) : Below w.heap.size w (w.iter s pos) :=
  (Below.refl _ w).alloc (Nat.le_refl _) _

set_option maxHeartbeats 4000000 in
set_option maxRecDepth 1000000 in
theorem indexRune_high (r : Int) (w : World) (h0 : 128 ≤ r) (h1 : r ≤ 2147483647) :
    Calls Tryz.prog 98 #[.string bads, .int .i32 r] w fun e w' => e = .returned (.int .i64 (-1)) ∧ Below w.heap.size w w' := by
  have hsz := bads_size
  have HA := Lib.hid bads_at
  generalize hC : bads = C at *
  have HC := Lib.hid hC
  clear hC
  by_cases hr : r = 65533
  · subst hr
    go_enter Tryz.func98, Tryz.ntmps98
    go_wp2_with fail
    go_loopg [5, 6] C.size (fun g _ _ wx => ∃ i : Nat, i + g = C.size ∧ wx = w.iter C i)
    case atStart => exact ⟨0, by omega, rfl⟩
    case round =>
      obtain ⟨i, hig, rfl⟩ := hrel
      cases gk with
      | zero =>
        have HE : ¬ i < C.size := by omega
        have hnx := fun ty => run_next_end (P := Tryz.prog) w C i ty HE
        go_wp2
        go_ret
        exact ⟨rfl, iter_below w C _⟩
      | succ g =>
        have hi : i < C.size := by omega
        have hnx := fun ty => run_next_ascii (P := Tryz.prog) w C i ty hi (HA.out i hi)
        have hx := HA.out i hi
        generalize C[i].toNat = x at *
        have hne : ((x : Int) == 65533) = false := beq_eq_false_iff_ne.2 (by omega)
        go_wp2_with fail
        go_roundg g
        case measure => omega
        case rel => exact ⟨i + 1, by omega, rfl⟩
  · cases hv : Lib.validRune r with
    | false =>
      go_enter Tryz.func98, Tryz.ntmps98
      go_wp2_with (go_at_call 114; refine (Tryz.utf8_ValidRune _ _).mono ?_; rintro e w' ⟨rfl, rfl⟩)
      go_ret
      exact ⟨rfl, Below.refl _ _⟩
    | true =>
      obtain ⟨e1, e2, e3⟩ := encode_facts r (by rw [validRune_eq]; exact hv) h0
      generalize hE : Utf8.encode r = E at *
      obtain ⟨L, hL⟩ : ∃ L, L = E.size - 1 := ⟨_, rfl⟩
      have hlt2 : L < E.size := by omega
      have hz : (E.size : Int) - 1 = (L : Int) := by omega
      have hlt : L < C.size := by omega
      have hL4 : L < 4 := by omega
      have e4 : 128 ≤ E[L].toNat := by
        subst hL
        exact e3 (by omega)
      have hce : ((C[L].toNat : Int) == E[L].toNat) = false := beq_eq_false_iff_ne.2 (by have := HA.out L hlt; omega)
      have HB : Hid (∀ (a b : Nat) w, Calls Tryz.prog 113 #[.string (C.extract a b), .int .u8 E[L].toNat] w fun e w' => e = .returned (.int .i64 (-1)) ∧ w' = w) := Lib.hid fun a b w => by
        refine (Tryz.strings_IndexByte _ _ w).mono ?_
        rintro e w' ⟨rfl, rfl⟩
        refine ⟨ret_int ?_, rfl⟩
        have hback : ((E[L].toNat : Int)).toNat.toUInt8 = E[L] := by simp
        rw [hback]
        have hc := Lib.contains_iff_indexByte (C.extract a b).data.toList E[L]
        have hn : (C.extract a b).data.toList.contains E[L] = false := by
          rw [Bool.eq_false_iff]
          intro h
          have hm := mem_extract (List.contains_iff_mem.1 h)
          obtain ⟨i, hi, he⟩ := List.getElem_of_mem hm
          have hi' : i < C.size := by simpa using hi
          have h1 := HA.out i hi'
          have h2 : C[i] = E[L] := he
          rw [h2] at h1
          omega
        rw [hn] at hc
        have h1 := of_decide_eq_false hc.symm
        have h2 := Lib.indexByte_ge (C.extract a b).data.toList E[L]
        omega
      have hw : IntKind.i64.wrap ((L : Int) + 1) = (L : Int) + 1 := wrap_small _ (by omega) (by omega)
      have hw2 : ((L : Int) + 1).toNat = L + 1 := by omega
      have hw3 : (L : Int) + 1 ≤ 19 := by omega
      clear e3 hL
      generalize hC0 : C[L] = c0 at *
      generalize hE0 : E[L] = c1 at *
      go_enter Tryz.func98, Tryz.ntmps98
      go_wp2_with (go_at_call 114; refine (Tryz.utf8_ValidRune _ _).mono ?_; rintro e w' ⟨rfl, rfl⟩)
      go_step3
      go_wp2_with fail
      go_loop [9, 10] (fun i f => i = .int .i64 L ∧ f = .int .i64 0) (fun _ _ => 0)
      case atStart => exact ⟨rfl, rfl⟩
      case round =>
        obtain ⟨rfl, rfl⟩ := hrel
        go_wp2_with fail
        go_step3
        go_wp2_with fail
        go_quiet (fail)
        go_wp2_with fail
        go_quiet ((go_at_call 113; exact (HB.out _ _ _).mono fun _ _ h => ⟨h.1, _, h.2⟩))
        go_wp2_with fail
        rw [Exit.noGoto_ret]
        go_wp2
        rw [Exit.noGoto_ret]
        go_ret
        exact ⟨rfl, below_drewN (Below.refl _ _) _⟩
end Go.Proofs.YtpibjhlldlbocaaGreat
