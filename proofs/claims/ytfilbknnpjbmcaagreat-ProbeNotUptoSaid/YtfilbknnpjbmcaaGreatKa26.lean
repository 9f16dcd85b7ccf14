/- Walks over nodes: the node at a place, of the program. -/
import Derived.Test.YtfilbknnpjbmcaaGreatKa25
namespace Go.Proofs.YtfilbknnpjbmcaaGreat
open Go.RowKit Px Nx

namespace Nx
theorem at_plain {n : Nd} {l : List ByteArray} (h : n.well = true) : ((n.at_ l).getD absent).well = true ∨ (((n.at_ l).getD absent).names = [] ∧ ((n.at_ l).getD absent).kids = []) := by
  cases hn : n.at_ l with
  | none => exact .inr ⟨rfl, rfl⟩
  | some y => exact .inl (well_at h hn)
theorem well_kind {n : Nd} (h : n.well = true) : n.kind ≠ 0 := by
  cases n with
  | mk kind text names kids =>
    intro e
    obtain rfl : kind = 0 := e
    rw [Nd.well] at h
    simp at h
theorem at_some {n : Nd} {l : List ByteArray} (h : n.well = true) : ((((n.at_ l).getD absent).kind.toNat : Int) != 0) = (n.at_ l).isSome := by
  cases hn : n.at_ l with
  | none => rfl
  | some y =>
    have hk := well_kind (well_at h hn)
    show (((y.kind.toNat : Int)) != 0) = true
    rw [bne_iff_ne]
    intro e
    exact hk (UInt8.toNat_inj.1 (by show _ = 0; omega))
theorem at_girth {n : Nd} {l : List ByteArray} (h : n.girth ≤ 200000000) : ((n.at_ l).getD absent).girth ≤ 200000000 := by
  cases hn : n.at_ l with
  | none => decide
  | some y => exact Nat.le_trans (girth_at_all hn) h
/-- What At tells. -/
def Nd.atW (n : Nd) (l : List ByteArray) : Option Nd := if n.well then n.at_ l else .none
end Nx
theorem absent_X (W : World) (S : Nat → Prop) : NodeX W S [.int .u8 0, .string ByteArray.empty, .slice none 0 0, .slice none 0 0] absent :=
  .mk 0 ByteArray.empty [] [] none none 0 0 (fun _ => []) (Nat.le_refl _) (Nat.zero_le _) (fun i hi => absurd hi (Nat.not_lt_zero _)) (fun a ha _ => by cases ha) (Nat.le_refl _) (Nat.zero_le _) (fun i hi => absurd hi (Nat.not_lt_zero _)) (fun a ha _ => by cases ha) (fun i x hx => by simp at hx)

end Go.Proofs.YtfilbknnpjbmcaaGreat
