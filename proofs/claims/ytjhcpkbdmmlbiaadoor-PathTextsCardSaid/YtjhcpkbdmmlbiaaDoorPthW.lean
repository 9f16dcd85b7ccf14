/- Walks of the reference: parts, Steps, Clean. -/
import Derived.Test.YtjhcpkbdmmlbiaaDoorPthV
namespace Go.Proofs.YtjhcpkbdmmlbiaaDoor
open Go.RowKit Go.Shelf Px

attribute [local go_sem] Oper.semAt_some

namespace Px
theorem pieces_snoc {c : UInt8} (hc : c ≠ 47) : ∀ (l : B) (A : List B) (p : B), pieces l = A ++ [p] → pieces (l ++ [c]) = A ++ [p ++ [c]]
  | [], A, p, h => by
    have : A = [] ∧ p = [] := by
      cases A with
      | nil => simpa [pieces, eq_comm] using h
      | cons x A => simp [pieces] at h
    obtain ⟨rfl, rfl⟩ := this
    simp [pieces, hc]
  | x :: l, A, p, h => by
    by_cases hx : x = 47
    · subst hx
      have h1 : pieces (47 :: l) = [] :: pieces l := by simp [pieces]
      rw [h1] at h
      cases A with
      | nil =>
        have : pieces l = [] := by simp at h; exact h.2
        exact absurd this (pieces_ne l)
      | cons y A =>
        obtain ⟨rfl, h2⟩ : y = [] ∧ pieces l = A ++ [p] := by simp at h; exact ⟨h.1, h.2⟩
        have ih := pieces_snoc hc l A p h2
        rw [List.cons_append, show pieces (47 :: (l ++ [c])) = [] :: pieces (l ++ [c]) by simp [pieces], ih]
        rfl
    · cases hl : pieces l with
      | nil => exact absurd hl (pieces_ne l)
      | cons q r =>
        have h1 : pieces (x :: l) = (x :: q) :: r := by rw [pieces, if_neg hx, hl]
        rw [h1] at h
        have hx2 : ∀ q' r', pieces (l ++ [c]) = q' :: r' → pieces (x :: (l ++ [c])) = (x :: q') :: r' := fun q' r' e => by rw [pieces, if_neg hx, e]
        rw [List.cons_append]
        cases A with
        | nil =>
          obtain ⟨rfl, rfl⟩ : p = x :: q ∧ r = [] := by simp at h; exact ⟨h.1.symm, h.2⟩
          have ih := pieces_snoc hc l [] q (by rw [hl]; rfl)
          rw [hx2 _ _ ih]
          rfl
        | cons y A =>
          obtain ⟨rfl, rfl⟩ : y = x :: q ∧ r = A ++ [p] := by simp at h; exact ⟨h.1.symm, h.2⟩
          have ih := pieces_snoc hc l (q :: A) p (by rw [hl]; rfl)
          rw [hx2 _ _ ih]
          rfl
end Px

def piecesB (s : ByteArray) : List ByteArray := (pieces s.data.toList).map fun l => ⟨l.toArray⟩
theorem below_append1 {B : Nat} {a w w' : World} {e : TypeId} {size : Nat} {v : Value} {n : Nat} {xs : List Value} {o1 : Obj} (h : Below B a w) (hB : B ≤ w.heap.size) (hown : w.ownsRow B e size v n xs)
    (hg : (w.alloc o1).grownBy w' v.ownBlock) : Below B a w' :=
  (h.alloc hB o1).grown hg (by simp; omega) fun _ hk => (own_where hown hk).1
theorem take_snoc_b (s : ByteArray) (k : Nat) (h : k < s.size) : s.data.toList.take (k + 1) = s.data.toList.take k ++ [s[k]] := by
  rw [List.take_succ_eq_append_getElem (by simpa using h)]; rfl
theorem append_one (a s : ByteArray) (k : Nat) (h : k < s.size) : (a ++ s.extract k (k + 1)).data.toList = a.data.toList ++ [s[k]] := by
  rw [ByteArray.data_append, Array.toList_append, Lib.extract_data, show k + 1 - k = 1 by omega, List.drop_eq_getElem_cons (by rw [← Lib.size_eq]; exact h)]
  rfl
theorem back_map2 (xs : List ByteArray) {l : List Px.B} (h : l = xs.map fun x => x.data.toList) : (l.map fun l => (⟨l.toArray⟩ : ByteArray)) = xs := by
  rw [h, List.map_map]
  have : ((fun l => (⟨l.toArray⟩ : ByteArray)) ∘ fun x : ByteArray => x.data.toList) = id := by
    funext x
    exact Lib.mk_data x
  rw [this, List.map_id]

set_option maxRecDepth 100000 in
set_option maxHeartbeats 4000000 in
theorem parts_own (s : ByteArray) (hs : s.size ≤ 100000) (w : World) :
    Calls Tryd.prog 25 #[.string s] w fun e W' => ∃ v, e = .returned v ∧ W'.ownsRow w.heap.size 9 1 v (piecesB s).length ((piecesB s).map Value.string) ∧ Below w.heap.size w W' := by
  obtain ⟨i0, hi, hz0, hz1, hz2⟩ := info_parts infoStr
  refine (callsIn_wide (n := 3)).1 ?_
  refine callsIn_of_wp Tryd.func25 rfl trivial ?_ rfl
  simp only [Tryd.ntmps25, List.size_toArray, List.length_cons, List.length_nil, Nat.reduceAdd, Nat.reduceSub, Array.replicate_succ, Array.replicate_zero, List.push_toArray, List.append_toArray, List.nil_append, List.cons_append]
  gi_wp2
  gi_loopw [3, 4, 5] (fun o p i wr => ∃ (k : Nat) (done : List ByteArray) (one : ByteArray), k ≤ s.size ∧ i = .int .i64 k ∧ p = .string one ∧ one.size ≤ k ∧ done.length ≤ k ∧ wr.ownsRow w.heap.size 9 1 o done.length (done.map Value.string) ∧ Hid (pieces (s.data.toList.take k) = (done.map fun x => x.data.toList) ++ [one.data.toList]) ∧ Hid (Below w.heap.size w wr))
    (fun _ _ i _ => s.size - (intOf i).toNat)
  case atStart => exact ⟨0, [], ⟨#[]⟩, Nat.zero_le _, rfl, rfl, Nat.zero_le _, Nat.zero_le _, World.ownsRow_nil _ _ _ _, Lib.hid rfl, Lib.hid (Below.refl _ _)⟩
  case round =>
    obtain ⟨k, done, one, hk, rfl, rfl, ho, hd, hrow, HP, HB⟩ := hrel
    by_cases hlt : k < s.size
    · have HS := Lib.hid (take_snoc_b s k hlt)
      have HO := Lib.hid (append_one one s k hlt)
      obtain ⟨c, hc⟩ : ∃ c : UInt8, s[k] = c := ⟨_, rfl⟩
      rw [hc] at HS HO
      by_cases h47 : c = 47
      · have h47' : ((s[k].toNat : Int) == 47) = true := by rw [hc, h47]; rfl
        have HP2 : Hid (pieces (s.data.toList.take (k + 1)) = ((done ++ [one]).map fun x => x.data.toList) ++ [[]]) := Lib.hid (by
          rw [HS.out, h47, pieces_slash, HP.out, List.map_append]
          rfl)
        clear hc h47 HO
        gi_wp2_with (gi_at_builtin; refine wpListIn_append_own _ rfl _ _ 24 rfl w.heap.size 9 i0 (.string ⟨#[]⟩) 1 16 Tryd.underlying24 hi hz0 hz1 hz2 rfl (by decide) _ _ _ rfl (hrow.alloc _) ⟨wr.heap.size, 0, none⟩ 1 1 [.string one] rfl rfl (cell_one_new _ _ _) (by simp [Value.oneCell']) (by unfold maxLen; omega) (by omega) (by have := HB.out.size; simp; omega) ?_; intro v' w1 hown' hgrow _; have HB1 := Lib.hid (below_append1 HB.out HB.out.size hrow hgrow))
        go_roundw
        case rel => exact ⟨k + 1, done ++ [one], ⟨#[]⟩, by omega, by go_num, rfl, Nat.zero_le _, by rw [List.length_append]; simp; omega, by rw [List.length_append, List.map_append]; exact hown', Lib.hid HP2.out, HB1⟩
        case measure => simp [intOf]; omega
      · have h47' : ((s[k].toNat : Int) == 47) = false := by
          rw [hc, beq_eq_false_iff_ne]
          intro e
          apply h47
          apply UInt8.toNat_inj.1
          show _ = 47
          omega
        have HP2 : Hid (pieces (s.data.toList.take (k + 1)) = (done.map fun x => x.data.toList) ++ [(one ++ s.extract k (k + 1)).data.toList]) := Lib.hid (by
          rw [HS.out, HO.out]
          exact pieces_snoc h47 _ _ _ HP.out)
        have HOS : Hid ((one ++ s.extract k (k + 1)).size ≤ k + 1) := Lib.hid (by
          rw [ByteArray.size_append, ByteArray.size_extract]
          omega)
        have ho2 : one.size ≤ 100000 := by omega
        clear hc h47 HO
        gi_wp2
        go_roundw
        case rel => exact ⟨k + 1, done, one ++ s.extract k (k + 1), by omega, by go_num, rfl, HOS.out, by omega, hrow, HP2, HB⟩
        case measure => simp [intOf]; omega
    · have HE : Hid (piecesB s = done ++ [one]) := Lib.hid (by
        have h1 := HP.out
        rw [List.take_of_length_le (by rw [← Lib.size_eq]; omega)] at h1
        exact back_map2 _ (by rw [h1, List.map_append]; rfl))
      gi_wp2_with (gi_at_builtin; refine wpListIn_append_own _ rfl _ _ 24 rfl w.heap.size 9 i0 (.string ⟨#[]⟩) 1 16 Tryd.underlying24 hi hz0 hz1 hz2 rfl (by decide) _ _ _ rfl (hrow.alloc _) ⟨wr.heap.size, 0, none⟩ 1 1 [.string one] rfl rfl (cell_one_new _ _ _) (by simp [Value.oneCell']) (by unfold maxLen; omega) (by omega) (by have := HB.out.size; simp; omega) ?_; intro v' w1 hown' hgrow _; have HB1 := Lib.hid (below_append1 HB.out HB.out.size hrow hgrow))
      go_ret
      refine ⟨_, rfl, ?_, HB1.out⟩
      rw [HE.out, List.length_append, List.map_append]
      exact hown'
end Go.Proofs.YtjhcpkbdmmlbiaaDoor
