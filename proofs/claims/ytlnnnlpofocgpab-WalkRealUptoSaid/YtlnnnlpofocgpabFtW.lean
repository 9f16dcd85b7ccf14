/- Walks over nodes: one that is changed at a place. -/
import Derived.Test.YtlnnnlpofocgpabFtV
namespace Go.Proofs.Ytlnnnlpofocgpab
open Go.RowKit Px Nx

namespace Nx
theorem NodeX.lt {w : World} {S : Nat → Prop} {cs : List Value} {x : Nd} (h : NodeX w S cs x) : NodeX w (fun b => S b ∧ b < w.heap.size) cs x := by
  induction h with
  | mk kind text names kids p q c d D h1 h2 h3 h4 h5 h6 h7 h8 _ ih =>
    refine .mk kind text names kids p q c d D h1 h2 h3 (fun a ha hn => ⟨h4 a ha hn, ?_⟩) h5 h6 h7 (fun a ha hn => ⟨h8 a ha hn, ?_⟩) ih
    · obtain ⟨b, o, hp, hc⟩ := h3 0 (by omega)
      obtain rfl : a = ⟨b, o, .none⟩ := Option.some.inj (ha.symm.trans hp)
      exact block_of_cell hc
    · obtain ⟨b, o, hp, hl, hr⟩ := h7 0 (by omega)
      obtain rfl : a = ⟨b, o, .none⟩ := Option.some.inj (ha.symm.trans hp)
      obtain ⟨v0, v1, v2, v3, hv⟩ := four hl
      exact block_of_cell (hr 0 v0 (by rw [hv]; rfl))
/-- A node stays while a block that is none of its own turns. -/
theorem NodeX.grownBy {w w' : World} {S : Nat → Prop} {m : Nat} {cs : List Value} {x : Nd} (h : NodeX w S cs x) (hg : w.grownBy w' (some m)) (hm : ¬ S m) : NodeX w' S cs x :=
  h.lt.same fun b hb => ⟨hg.block b hb.2 (fun e => hm (by cases e; exact hb.1)), hb.1⟩
theorem strs_grownBy {w w' : World} {m : Nat} {p : Option Addr} {l : List ByteArray} (h : Strs w p l) (hg : w.grownBy w' (some m)) (hp : ∀ a, p = some a → l.length ≠ 0 → a.block ≠ m) : Strs w' p l := by
  refine strs_same h fun a ha hn => hg.block _ ?_ (fun e => hp a ha hn (by cases e; rfl))
  obtain ⟨b, o, hb, hc⟩ := h 0 (by omega)
  obtain rfl : a = ⟨b, o, .none⟩ := Option.some.inj (ha.symm.trans hb)
  exact block_of_cell hc
theorem changed_nil (f : Nd → Nd) (n : Nd) : changedD f [] n = f n := rfl
theorem changed_leaf (f : Nd → Nd) (x : ByteArray) (r : List ByteArray) {n : Nd} (h : n.kind ≠ 2) : changedD f (x :: r) n = n := by rw [changedD, if_neg h]
theorem reach_leaf (x : ByteArray) (r : List ByteArray) {n : Nd} (h : n.kind ≠ 2) : reachD (x :: r) n = .none := by rw [reachD, if_neg h]
theorem kid_none {n : Nd} {x : ByteArray} (h : findL n.names x = -1) : n.kid x = .none := by unfold Nd.kid; rw [h]; rfl
theorem kid_some {n : Nd} {x : ByteArray} {i : Nat} (h : findL n.names x = i) : n.kid x = n.kids[i]? := by unfold Nd.kid; rw [h, if_neg (by omega)]; rfl
theorem changed_dir {f : Nd → Nd} {x : ByteArray} {r : List ByteArray} {n : Nd} (h : n.kind = 2) : changedD f (x :: r) n =
    if (changedD f r ((n.kid x).getD absent)).kind = 0 then .mk 2 ByteArray.empty (n.names.take (lowL n.names x) ++ n.names.drop (if (n.kid x).isSome then lowL n.names x + 1 else lowL n.names x)) (n.kids.take (lowL n.names x) ++ n.kids.drop (if (n.kid x).isSome then lowL n.names x + 1 else lowL n.names x))
    else .mk 2 ByteArray.empty (n.names.take (lowL n.names x) ++ [x] ++ n.names.drop (if (n.kid x).isSome then lowL n.names x + 1 else lowL n.names x)) (n.kids.take (lowL n.names x) ++ [changedD f r ((n.kid x).getD absent)] ++ n.kids.drop (if (n.kid x).isSome then lowL n.names x + 1 else lowL n.names x)) := by rw [changedD, if_pos h]
theorem reach_dir {x : ByteArray} {r : List ByteArray} {n : Nd} (h : n.kind = 2) : reachD (x :: r) n = reachD r ((n.kid x).getD absent) := by rw [reachD, if_pos h]
end Nx
theorem grown_four {w : World} {g : Nat} (u0 u1 u2 u3 : Value) : w.grownBy ((((w.setCell ⟨g, 0, none⟩ u0).setCell ⟨g, 1, none⟩ u1).setCell ⟨g, 2, none⟩ u2).setCell ⟨g, 3, none⟩ u3) (some g) := grown_trans (grown_trans (grown_trans grown_set grown_set) grown_set) grown_set
theorem grown_mix {w w1 w2 : World} {m g : Nat} (h1 : w.grownBy w1 (some m)) (h2 : w1.grownBy w2 (some g)) (hg : w.heap.size ≤ g) : w.grownBy w2 (some m) :=
  ⟨h2.os.trans h1.os, h2.tape.trans h1.tape, h2.output.trans h1.output, Nat.le_trans h1.size h2.size, fun k hk hne => (h2.block k (Nat.lt_of_lt_of_le hk h1.size) (by simp; omega)).trans (h1.block k hk hne)⟩

namespace Nx
theorem reads_new {w : World} {cs : List Value} {t : TypeId} (h1 : cs.all (·.oneCell') = true) : Reads (w.alloc (.cells cs.toArray t)) (.slice (some ⟨w.heap.size, 0, none⟩) 1 1) 1 cs.length cs := by
  refine ⟨(Nat.one_mul _).symm, h1, _, _, rfl, Nat.le_refl _, by unfold maxLen; omega, fun j u hj => ⟨_, _, rfl, ?_⟩⟩
  have : (w.alloc (.cells cs.toArray t)).heap[w.heap.size]? = some (.cells cs.toArray t) := by
    show (w.heap.push _)[w.heap.size]? = _
    simp
  simp only [World.cell?, this, Nat.zero_add]
  simpa using hj
theorem node_spliced {w5 wB : World} {S1 S' : Nat → Prop} {zs cs : List Value} {kids ks : List Nd} {names ls : List ByteArray} {i E base base2 nn nk : Nat} {pn pq : Option Addr} {vn vq : Value}
    (hz : All4 (NodeX w5 S1) zs kids) (hk : All4 (NodeX wB S') cs ks) (hb : Below w5.heap.size w5 wB) (h1 : ∀ k, S1 k → S' k)
    (hn : Mine wB base pn 9 1 vn nn ((names.map Value.string).take i ++ ls.map Value.string ++ (names.map Value.string).drop E)) (hq : Mine wB base2 pq 25 4 vq nk (zs.take (i * 4) ++ cs ++ zs.drop (E * 4)))
    (hnn : nn ≤ maxLen) (hnk : nk ≤ maxLen) (hS : ∀ k, base ≤ k → S' k) (hS2 : ∀ k, base2 ≤ k → S' k) (hSn : ∀ a, pn = some a → (ls ≠ [] ∨ names.length ≠ 0) → S' a.block) (hSq : ∀ a, pq = some a → (ks ≠ [] ∨ kids.length ≠ 0) → S' a.block) :
    NodeX wB S' [.int .u8 2, .string ByteArray.empty, vn, vq] (.mk 2 ByteArray.empty (names.take i ++ ls ++ names.drop E) (kids.take i ++ ks ++ kids.drop E)) := by
  have hz' : All4 (NodeX wB S') zs kids := hz.imp fun c x hx => (NodeX.grown hx hb).same fun k hk => ⟨rfl, h1 k hk⟩
  refine node_of_mine (base := base) (base2 := base2) (pn := pn) (pq := pq) (nn := nn) (nk := nk) (by simpa [List.map_take, List.map_drop] using hn) hq (((hz'.take i).append hk).append (hz'.drop E)) hnn hnk hS hS2 (fun a ha hne => hSn a ha ?_) (fun a ha hne => hSq a ha ?_)
  · by_cases hl : ls = []
    · right
      intro h0
      apply hne
      have : names = [] := List.eq_nil_of_length_eq_zero h0
      simp [hl, this]
    · exact .inl hl
  · by_cases hl : ks = []
    · right
      intro h0
      apply hne
      have : kids = [] := List.eq_nil_of_length_eq_zero h0
      simp [hl, this]
    · exact .inl hl
end Nx

/-- What a change does, as a call. -/
def ChangeOk (fn pb L m : Nat) (S0 : Nat → Prop) (f : Nd → Nd) (Inv : World → Prop) (Post : Nd → World → Prop) : Prop :=
  ∀ (S : Nat → Prop), (∀ k, S0 k → k < L → S k) → ¬ S m → ∀ (w : World) (cs : List Value) (x : Nd), (∀ k, w.heap.size ≤ k → S k) → L ≤ w.heap.size → m < w.heap.size → Inv w → NodeX w (fun k => S0 k ∧ k < L) cs x →
    Calls Try.prog fn #[.agg cs.toArray, .pointer (some ⟨pb, 0, none⟩)] w fun e w' => (∃ vs, e = .returned (.agg vs) ∧ NodeX w' S vs.toList (f x)) ∧ w.grownBy w' (some m) ∧ Post x w'

end Go.Proofs.Ytlnnnlpofocgpab
