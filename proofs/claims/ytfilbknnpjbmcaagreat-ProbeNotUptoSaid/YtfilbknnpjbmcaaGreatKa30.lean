/- Names and kids of a node, cut and put together: what spliced makes of them; the node out of both. -/
import Derived.Test.YtfilbknnpjbmcaaGreatKa29
namespace Go.Proofs.YtfilbknnpjbmcaaGreat
open Go.RowKit Px Nx
namespace Nx

theorem Mine.kept {w w' : World} {base : Nat} {po : Option Addr} {e : TypeId} {size : Nat} {v : Value} {n : Nat} {xs : List Value} (h : Mine w base po e size v n xs) (hb : Below w.heap.size w w') : Mine w' base po e size v n xs := by
  rcases h with h | ⟨h1, a, h2, h3, h4⟩
  · exact .inl (own_same h fun g hg => hb.block g (own_where h hg).2)
  · refine .inr ⟨h1, a, h2, h3, fun j u hj => ?_⟩
    obtain ⟨b, o, ha, hc⟩ := h4 j u hj
    exact ⟨b, o, ha, cell_kept hb hc⟩
/-- What a slice that is mine points to. -/
theorem Mine.out {w : World} {base : Nat} {po : Option Addr} {e : TypeId} {size : Nat} {v : Value} {n : Nat} {xs : List Value} (h : Mine w base po e size v n xs) (hn : n ≤ maxLen) :
    xs.length = n * size ∧ ∃ p c, v = .slice p n c ∧ n ≤ c ∧ c ≤ maxLen ∧ (∀ j u, xs[j]? = some u → ∃ b o, p = some ⟨b, o, .none⟩ ∧ w.cell? ⟨b, o + j, .none⟩ = some u) ∧ (∀ a, p = some a → base ≤ a.block ∨ po = some a) := by
  rcases h with h | ⟨h1, a, h2, rfl, h4⟩
  · refine ⟨h.1, ?_⟩
    rcases h.2 with ⟨rfl, rfl⟩ | ⟨g, cap, cur, rfl, hg, hh, hnc, hm, hc, ht⟩
    · have hx : xs = [] := List.length_eq_zero_iff.1 (by simpa using h.1)
      subst hx
      exact ⟨.none, 0, rfl, Nat.le_refl _, Nat.zero_le _, fun j u hj => by simp at hj, fun a ha => by cases ha⟩
    · refine ⟨some ⟨g, 0, .none⟩, cap, rfl, hnc, hm, fun j u hj => ⟨g, 0, rfl, ?_⟩, fun a ha => .inl (by cases ha; exact hg)⟩
      rw [cell_of_row _ _ _ _ _ _ hh]
      have hlt := (List.getElem?_eq_some_iff.1 hj).1
      rw [← ht, List.getElem?_take_of_lt (by rw [h.1] at hlt; exact hlt)] at hj
      rw [Nat.zero_add]
      simpa using hj
  · refine ⟨h1, some a, n, rfl, Nat.le_refl _, hn, fun j u hj => ?_, fun a ha => .inr (by rw [h2]; exact ha)⟩
    obtain ⟨b, o, ha, hc⟩ := h4 j u hj
    exact ⟨b, o, by rw [ha], hc⟩
theorem node_of_mine {w : World} {S : Nat → Prop} {base base2 : Nat} {pn pq : Option Addr} {vn vq : Value} {nn nk : Nat} {l : List ByteArray} {kids : List Nd} {zs : List Value}
    (hn : Mine w base pn 9 1 vn nn (l.map Value.string)) (hq : Mine w base2 pq 25 4 vq nk zs) (hz : All4 (NodeX w S) zs kids) (hnn : nn ≤ maxLen) (hnk : nk ≤ maxLen)
    (hS : ∀ k, base ≤ k → S k) (hS2 : ∀ k, base2 ≤ k → S k) (hSn : ∀ a, pn = some a → l.length ≠ 0 → S a.block) (hSq : ∀ a, pq = some a → kids.length ≠ 0 → S a.block) :
    NodeX w S [.int .u8 2, .string ByteArray.empty, vn, vq] (.mk 2 ByteArray.empty l kids) := by
  obtain ⟨e1, p, c, rfl, h1, h2, h3, h4⟩ := hn.out hnn
  obtain ⟨e2, q, d, rfl, g1, g2, g3, g4⟩ := hq.out hnk
  have hl : nn = l.length := by simpa using e1.symm
  have hzl := hz.len
  have hk : nk = kids.length := by omega
  subst hl
  subst hk
  refine .mk 2 ByteArray.empty l kids p q c d (fun i => (zs.drop (i * 4)).take 4) h1 h2 ?_ (fun a ha hne => ?_) g1 g2 ?_ (fun a ha hne => ?_) (fun i x hx => (hz.at i x hx).1)
  · intro i hi
    obtain ⟨b, o, hp, hc⟩ := h3 i (.string (l.getD i ByteArray.empty)) (by rw [List.getElem?_map, List.getElem?_eq_getElem hi, List.getD_eq_getElem?_getD, List.getElem?_eq_getElem hi]; rfl)
    exact ⟨b, o, hp, hc⟩
  · rcases h4 a ha with h | h
    · exact hS _ h
    · exact hSn a h hne
  · intro i hi
    have hi4 : i * 4 < zs.length := by omega
    obtain ⟨b, o, hp, _⟩ := g3 (i * 4) _ (List.getElem?_eq_getElem hi4)
    refine ⟨b, o, hp, (hz.at i _ (List.getElem?_eq_getElem hi)).2, fun j u hj => ?_⟩
    have hj4 : j < 4 := by
      have := (List.getElem?_eq_some_iff.1 hj).1
      rw [List.length_take] at this
      omega
    have hj' : ((zs.drop (i * 4)).take 4)[j]? = some u := hj
    rw [List.getElem?_take_of_lt hj4, List.getElem?_drop] at hj'
    obtain ⟨b', o', hp', hc⟩ := g3 _ u hj'
    obtain ⟨rfl, rfl⟩ : b = b' ∧ o = o' := by rw [hp] at hp'; simpa using hp'
    rw [← Nat.add_assoc] at hc
    exact hc
  · rcases g4 a ha with h | h
    · exact hS2 _ h
    · exact hSq a h hne
theorem reads_names {w : World} {S : Nat → Prop} {v0 v1 v3 : Value} {p : Option Addr} {n c : Nat} {nd : Nd} (h : NodeX w S [v0, v1, .slice p n c, v3] nd) : Reads w (.slice p n c) n 1 (nd.names.map Value.string) ∧ n = nd.names.length ∧ (∀ a, p = some a → nd.names.length ≠ 0 → S a.block) ∧ c ≤ maxLen := by
  cases h with
  | mk kind text names kids p q c d D h1 h2 h3 h4 h5 h6 h7 h8 h9 =>
    refine ⟨⟨by simp [Nd.names], List.all_eq_true.2 (strings_one _), p, c, rfl, h1, h2, fun j u hj => ?_⟩, rfl, h4, h2⟩
    have hj' : (names.map Value.string)[j]? = some u := hj
    rw [List.getElem?_map] at hj'
    obtain ⟨x, hx, rfl⟩ := Option.map_eq_some_iff.1 hj'
    obtain ⟨b, o, hp, hc⟩ := h3 j (List.getElem?_eq_some_iff.1 hx).1
    refine ⟨b, o, hp, ?_⟩
    rw [hc, List.getD_eq_getElem?_getD, hx]
    rfl
theorem node_one {w : World} {cs : List Value} {x : Nd} (h : NodeR w cs x) : cs.all (·.oneCell') = true := by
  obtain ⟨p, q, c, d, rfl⟩ := h.cells
  rfl
theorem All4.one_all {R : List Value → Nd → Prop} {zs : List Value} {l : List Nd} (h : All4 R zs l) (hr : ∀ cs x, R cs x → cs.all (·.oneCell') = true) : zs.all (·.oneCell') = true := by
  induction h with
  | nil => rfl
  | cons cs zs x l _ h1 _ ih => rw [List.all_append, hr _ _ h1, ih]; rfl
theorem reads_kids {w : World} {S : Nat → Prop} {v0 v1 v2 : Value} {q : Option Addr} {n d : Nat} {nd : Nd} (h : NodeX w S [v0, v1, v2, .slice q n d] nd) : ∃ zs, Reads w (.slice q n d) n 4 zs ∧ All4 (NodeX w S) zs nd.kids ∧ n = nd.kids.length ∧ (∀ a, q = some a → nd.kids.length ≠ 0 → S a.block) ∧ d ≤ maxLen := by
  cases h with
  | mk kind text names kids p q c d D h1 h2 h3 h4 h5 h6 h7 h8 h9 =>
    have hD : ∀ i, i < kids.length → (D i).length = 4 := fun i hi => by
      obtain ⟨_, _, _, hl, _⟩ := h7 i hi
      exact hl
    have hA : All4 (NodeX w S) ((List.range kids.length).flatMap D) kids := All4.flat kids D hD h9
    refine ⟨_, ⟨hA.len, hA.one_all fun cs x hx => node_one hx.to, q, d, rfl, h5, h6, fun j u hj => ?_⟩, hA, rfl, h8, h6⟩
    obtain ⟨i, k, hi, hk, rfl, hu⟩ := flat_at D kids.length hD j u hj
    obtain ⟨b, o, hp, _, hr⟩ := h7 i hi
    exact ⟨b, o, hp, by rw [← Nat.add_assoc]; exact hr k u hu⟩

end Nx
end Go.Proofs.YtfilbknnpjbmcaaGreat
/- Walks over nodes: one that is changed at a place. -/
namespace Go.Proofs.YtfilbknnpjbmcaaGreat
open Go.RowKit Px Nx

namespace Nx
theorem NodeX.lt {w : World} {S : Nat → Prop} {cs : List Value} {x : Nd} (h : NodeX w S cs x) : NodeX w (fun b => S b ∧ b < w.heap.size) cs x := by
  induction h with
  | mk kind text names kids p q c d D h1 h2 h3 h4 h5 h6 h7 h8 _ ih =>
    refine .mk kind text names kids p q c d D h1 h2 h3 (fun a ha hn => ⟨h4 a ha hn, ?_⟩) h5 h6 h7 (fun a ha hn => ⟨h8 a ha hn, ?_⟩) ih
    · obtain ⟨b, o, hp, hc⟩ := h3 0 (by omega)
      obtain rfl : a = ⟨b, o, .none⟩ := Option.some.inj (ha.symm.trans hp)
      exact block_of_cell hc
    · obtain ⟨b, o, hp, hl, hr⟩ := h7 0 (by omega)
      obtain rfl : a = ⟨b, o, .none⟩ := Option.some.inj (ha.symm.trans hp)
      obtain ⟨v0, v1, v2, v3, hv⟩ := four hl
      exact block_of_cell (hr 0 v0 (by rw [hv]; rfl))
/-- A node stays while a block that is none of its own turns. -/
theorem NodeX.grownBy {w w' : World} {S : Nat → Prop} {m : Nat} {cs : List Value} {x : Nd} (h : NodeX w S cs x) (hg : w.grownBy w' (some m)) (hm : ¬ S m) : NodeX w' S cs x :=
  h.lt.same fun b hb => ⟨hg.block b hb.2 (fun e => hm (by cases e; exact hb.1)), hb.1⟩
theorem strs_grownBy {w w' : World} {m : Nat} {p : Option Addr} {l : List ByteArray} (h : Strs w p l) (hg : w.grownBy w' (some m)) (hp : ∀ a, p = some a → l.length ≠ 0 → a.block ≠ m) : Strs w' p l := by
  refine strs_same h fun a ha hn => hg.block _ ?_ (fun e => hp a ha hn (by cases e; rfl))
  obtain ⟨b, o, hb, hc⟩ := h 0 (by omega)
  obtain rfl : a = ⟨b, o, .none⟩ := Option.some.inj (ha.symm.trans hb)
  exact block_of_cell hc
theorem changed_nil (f : Nd → Nd) (n : Nd) : changedD f [] n = f n := rfl
theorem changed_leaf (f : Nd → Nd) (x : ByteArray) (r : List ByteArray) {n : Nd} (h : n.kind ≠ 2) : changedD f (x :: r) n = n := by rw [changedD, if_neg h]
theorem reach_leaf (x : ByteArray) (r : List ByteArray) {n : Nd} (h : n.kind ≠ 2) : reachD (x :: r) n = .none := by rw [reachD, if_neg h]
theorem kid_none {n : Nd} {x : ByteArray} (h : findL n.names x = -1) : n.kid x = .none := by unfold Nd.kid; rw [h]; rfl
theorem kid_some {n : Nd} {x : ByteArray} {i : Nat} (h : findL n.names x = i) : n.kid x = n.kids[i]? := by unfold Nd.kid; rw [h, if_neg (by omega)]; rfl
theorem changed_dir {f : Nd → Nd} {x : ByteArray} {r : List ByteArray} {n : Nd} (h : n.kind = 2) : changedD f (x :: r) n =
    if (changedD f r ((n.kid x).getD absent)).kind = 0 then .mk 2 ByteArray.empty (n.names.take (lowL n.names x) ++ n.names.drop (if (n.kid x).isSome then lowL n.names x + 1 else lowL n.names x)) (n.kids.take (lowL n.names x) ++ n.kids.drop (if (n.kid x).isSome then lowL n.names x + 1 else lowL n.names x))
    else .mk 2 ByteArray.empty (n.names.take (lowL n.names x) ++ [x] ++ n.names.drop (if (n.kid x).isSome then lowL n.names x + 1 else lowL n.names x)) (n.kids.take (lowL n.names x) ++ [changedD f r ((n.kid x).getD absent)] ++ n.kids.drop (if (n.kid x).isSome then lowL n.names x + 1 else lowL n.names x)) := by rw [changedD, if_pos h]
theorem reach_dir {x : ByteArray} {r : List ByteArray} {n : Nd} (h : n.kind = 2) : reachD (x :: r) n = reachD r ((n.kid x).getD absent) := by rw [reachD, if_pos h]
end Nx
theorem grown_four {w : World} {g : Nat} (u0 u1 u2 u3 : Value) : w.grownBy ((((w.setCell ⟨g, 0, none⟩ u0).setCell ⟨g, 1, none⟩ u1).setCell ⟨g, 2, none⟩ u2).setCell ⟨g, 3, none⟩ u3) (some g) := grown_trans (grown_trans (grown_trans grown_set grown_set) grown_set) grown_set
theorem grown_mix {w w1 w2 : World} {m g : Nat} (h1 : w.grownBy w1 (some m)) (h2 : w1.grownBy w2 (some g)) (hg : w.heap.size ≤ g) : w.grownBy w2 (some m) :=
  ⟨h2.os.trans h1.os, h2.tape.trans h1.tape, h2.output.trans h1.output, Nat.le_trans h1.size h2.size, fun k hk hne => (h2.block k (Nat.lt_of_lt_of_le hk h1.size) (by simp; omega)).trans (h1.block k hk hne)⟩

namespace Nx
theorem reads_new {w : World} {cs : List Value} {t : TypeId} (h1 : cs.all (·.oneCell') = true) : Reads (w.alloc (.cells cs.toArray t)) (.slice (some ⟨w.heap.size, 0, none⟩) 1 1) 1 cs.length cs := by
  refine ⟨(Nat.one_mul _).symm, h1, _, _, rfl, Nat.le_refl _, by unfold maxLen; omega, fun j u hj => ⟨_, _, rfl, ?_⟩⟩
  have : (w.alloc (.cells cs.toArray t)).heap[w.heap.size]? = some (.cells cs.toArray t) := by
    show (w.heap.push _)[w.heap.size]? = _
    simp
  simp only [World.cell?, this, Nat.zero_add]
  simpa using hj
theorem node_spliced {w5 wB : World} {S1 S' : Nat → Prop} {zs cs : List Value} {kids ks : List Nd} {names ls : List ByteArray} {i E base base2 nn nk : Nat} {pn pq : Option Addr} {vn vq : Value}
    (hz : All4 (NodeX w5 S1) zs kids) (hk : All4 (NodeX wB S') cs ks) (hb : Below w5.heap.size w5 wB) (h1 : ∀ k, S1 k → S' k)
    (hn : Mine wB base pn 9 1 vn nn ((names.map Value.string).take i ++ ls.map Value.string ++ (names.map Value.string).drop E)) (hq : Mine wB base2 pq 25 4 vq nk (zs.take (i * 4) ++ cs ++ zs.drop (E * 4)))
    (hnn : nn ≤ maxLen) (hnk : nk ≤ maxLen) (hS : ∀ k, base ≤ k → S' k) (hS2 : ∀ k, base2 ≤ k → S' k) (hSn : ∀ a, pn = some a → (ls ≠ [] ∨ names.length ≠ 0) → S' a.block) (hSq : ∀ a, pq = some a → (ks ≠ [] ∨ kids.length ≠ 0) → S' a.block) :
    NodeX wB S' [.int .u8 2, .string ByteArray.empty, vn, vq] (.mk 2 ByteArray.empty (names.take i ++ ls ++ names.drop E) (kids.take i ++ ks ++ kids.drop E)) := by
  have hz' : All4 (NodeX wB S') zs kids := hz.imp fun c x hx => (NodeX.grown hx hb).same fun k hk => ⟨rfl, h1 k hk⟩
  refine node_of_mine (base := base) (base2 := base2) (pn := pn) (pq := pq) (nn := nn) (nk := nk) (by simpa [List.map_take, List.map_drop] using hn) hq (((hz'.take i).append hk).append (hz'.drop E)) hnn hnk hS hS2 (fun a ha hne => hSn a ha ?_) (fun a ha hne => hSq a ha ?_)
  · by_cases hl : ls = []
    · right
      intro h0
      apply hne
      have : names = [] := List.eq_nil_of_length_eq_zero h0
      simp [hl, this]
    · exact .inl hl
  · by_cases hl : ks = []
    · right
      intro h0
      apply hne
      have : kids = [] := List.eq_nil_of_length_eq_zero h0
      simp [hl, this]
    · exact .inl hl
end Nx

/-- What a change does, as a call. -/
def ChangeOk (fn pb L m : Nat) (S0 : Nat → Prop) (f : Nd → Nd) (Inv : World → Prop) (Post : Nd → World → Prop) : Prop :=
  ∀ (S : Nat → Prop), (∀ k, S0 k → k < L → S k) → ¬ S m → ∀ (w : World) (cs : List Value) (x : Nd), (∀ k, w.heap.size ≤ k → S k) → L ≤ w.heap.size → m < w.heap.size → Inv w → NodeX w (fun k => S0 k ∧ k < L) cs x →
    Calls Tryz.prog fn #[.agg cs.toArray, .pointer (some ⟨pb, 0, none⟩)] w fun e w' => (∃ vs, e = .returned (.agg vs) ∧ NodeX w' S vs.toList (f x)) ∧ w.grownBy w' (some m) ∧ Post x w'

end Go.Proofs.YtfilbknnpjbmcaaGreat
