/- Walks of the reference: reserved words. -/
import Derived.Test.YtpibjhlldlbocaaGreatSynF
namespace Go.Proofs.YtpibjhlldlbocaaGreat
open Go.RowKit Sx

namespace Sx
/-- case, function, select, time, coproc, [[ -/
def nevers : List ByteArray := [⟨#[99, 97, 115, 101]⟩, ⟨#[102, 117, 110, 99, 116, 105, 111, 110]⟩, ⟨#[115, 101, 108, 101, 99, 116]⟩, ⟨#[116, 105, 109, 101]⟩, ⟨#[99, 111, 112, 114, 111, 99]⟩, ⟨#[91, 91]⟩]
/-- The reserved words that are supported. -/
def reserves : List ByteArray := [⟨#[105, 102]⟩, ⟨#[116, 104, 101, 110]⟩, ⟨#[101, 108, 105, 102]⟩, ⟨#[101, 108, 115, 101]⟩, ⟨#[102, 105]⟩, ⟨#[119, 104, 105, 108, 101]⟩, ⟨#[117, 110, 116, 105, 108]⟩, ⟨#[100, 111]⟩, ⟨#[100, 111, 110, 101]⟩, ⟨#[102, 111, 114]⟩, ⟨#[105, 110]⟩, ⟨#[101, 115, 97, 99]⟩, ⟨#[33]⟩, ⟨#[123]⟩, ⟨#[125]⟩]
def isNever (s : ByteArray) : Bool := nevers.any fun x => x.toList == s.toList
def isReserved (s : ByteArray) : Bool := isNever s || reserves.any fun x => x.toList == s.toList
end Sx

theorem amongNew_any (s : ByteArray) (xs : List ByteArray) (hn : xs.length ≤ 1000000) (w : World) :
    Calls Tryz.prog 68 #[.string s, .slice (some ⟨w.heap.size, 0, none⟩) xs.length xs.length] (w.alloc (.cells (xs.map Value.string).toArray 9)) fun e w' => e = .returned (.bool (xs.any fun x => x.toList == s.toList)) ∧ Below w.heap.size w w' := by
  refine (amongRef_any s xs _ _ _ hn fun i h => ⟨w.heap.size, 0, rfl, ?_⟩).mono ?_
  · rw [Nat.zero_add, cell_of_row _ _ _ _ _ _ (heap_alloc_new w _)]
    simp [h]
  · rintro e w' ⟨he, m, rfl⟩
    exact ⟨he, below_drewN ((Below.refl _ _).alloc (Nat.le_refl _) _) m⟩

set_option maxRecDepth 100000 in
set_option maxHeartbeats 2000000 in
theorem neverRef_any (s : ByteArray) (w : World) :
    Calls Tryz.prog 67 #[.string s] w fun e w' => e = .returned (.bool (isNever s)) ∧ Below w.heap.size w w' := by
  go_enter Tryz.func67, Tryz.ntmps67
  go_wp2_with fail
  refine (amongNew_any s nevers (by decide) w).mono ?_
  rintro e w' ⟨rfl, hb⟩
  go_wp2
  go_ret
  exact ⟨rfl, hb⟩
set_option maxRecDepth 100000 in
set_option maxHeartbeats 2000000 in
theorem reservedRef_any (s : ByteArray) (w : World) :
    Calls Tryz.prog 51 #[.string s] w fun e w' => e = .returned (.bool (isReserved s)) ∧ Below w.heap.size w w' := by
  have HN := Lib.hid (neverRef_any s w)
  have HR : Hid (isReserved s = (isNever s || reserves.any fun x => x.toList == s.toList)) := Lib.hid rfl
  generalize isReserved s = R at *
  cases hn : isNever s with
  | true =>
    rw [hn] at HN HR
    go_enter Tryz.func51, Tryz.ntmps51
    go_wp2_with fail
    refine HN.out.mono ?_
    rintro e w' ⟨rfl, hb⟩
    go_wp2
    go_ret
    exact ⟨ret_bool (by rw [HR.out]; rfl), hb⟩
  | false =>
    rw [hn] at HN HR
    go_enter Tryz.func51, Tryz.ntmps51
    go_wp2_with fail
    refine HN.out.mono ?_
    rintro e w' ⟨rfl, hb⟩
    go_wp2_with fail
    refine (amongNew_any s reserves (by decide) w').mono ?_
    rintro e w2 ⟨rfl, hb2⟩
    go_wp2
    go_ret
    exact ⟨ret_bool (by rw [HR.out]; rfl), hb.trans (hb2.mono hb.size)⟩
end Go.Proofs.YtpibjhlldlbocaaGreat
