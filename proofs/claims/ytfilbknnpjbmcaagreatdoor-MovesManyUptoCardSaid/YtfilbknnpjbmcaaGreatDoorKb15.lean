/- Nodes whose blocks are told: two rows of a call's own, of names and of kids, that grow one beside the other. No program but types' numbers. -/
import Derived.Test.YtfilbknnpjbmcaaGreatDoorKb05
import Derived.Test.YtfilbknnpjbmcaaGreatDoorKb14
import Derived.Test.YtfilbknnpjbmcaaGreatDoorKb03
import Derived.Laws.AppendOwnNone
namespace Go.Proofs.YtfilbknnpjbmcaaGreatDoor
open Go.RowKit Px Nx
namespace Nx

inductive NodeX (W : World) (S : Nat → Prop) : List Value → Nd → Prop where
 | mk (kind : UInt8) (text : ByteArray) (names : List ByteArray) (kids : List Nd) (p q : Option Addr) (c d : Nat) (D : Nat → List Value) :
  names.length ≤ c → c ≤ maxLen → Strs W p names → (∀ a, p = some a → names.length ≠ 0 → S a.block) →
  kids.length ≤ d → d ≤ maxLen → Row W 4 q kids.length D → (∀ a, q = some a → kids.length ≠ 0 → S a.block) → (∀ (i : Nat) x, kids[i]? = some x → NodeX W S (D i) x) →
  NodeX W S [.int .u8 kind.toNat, .string text, .slice p names.length c, .slice q kids.length d] (.mk kind text names kids)
theorem NodeX.to {W : World} {S : Nat → Prop} {cs : List Value} {x : Nd} (h : NodeX W S cs x) : NodeR W cs x := by
 induction h with
 | mk kind text names kids p q c d D h1 h2 h3 _ h5 h6 h7 _ _ ih => exact .mk kind text names kids p q c d D h1 h2 h3 h5 h6 h7 ih
theorem cell_same {w w' : World} {b o : Nat} (h : w'.heap[b]? = w.heap[b]?) : w'.cell? ⟨b, o, .none⟩ = w.cell? ⟨b, o, .none⟩ := World.cell?_of_block h
theorem strs_same {w w' : World} {p : Option Addr} {l : List ByteArray} (h : Strs w p l) (hs : ∀ a, p = some a → l.length ≠ 0 → w'.heap[a.block]? = w.heap[a.block]?) : Strs w' p l := by
 intro i hi
 obtain ⟨b, o, rfl, hc⟩ := h i hi
 refine ⟨b, o, rfl, ?_⟩
 rw [cell_same (hs ⟨b, o, .none⟩ rfl (by omega))]
 exact hc
theorem row_same {w w' : World} {q : Option Addr} {k n : Nat} {D : Nat → List Value} (h : Row w k q n D) (hs : ∀ a, q = some a → n ≠ 0 → w'.heap[a.block]? = w.heap[a.block]?) : Row w' k q n D := by
 intro i hi
 obtain ⟨b, o, rfl, hl, hr⟩ := h i hi
 refine ⟨b, o, rfl, hl, fun j v hv => ?_⟩
 rw [cell_same (hs ⟨b, o, .none⟩ rfl (by omega))]
 exact hr j v hv
theorem NodeX.same {w w' : World} {S S' : Nat → Prop} {cs : List Value} {x : Nd} (h : NodeX w S cs x) (hk : ∀ b, S b → w'.heap[b]? = w.heap[b]? ∧ S' b) : NodeX w' S' cs x := by
 induction h with
 | mk kind text names kids p q c d D h1 h2 h3 h4 h5 h6 h7 h8 _ ih =>
  exact .mk kind text names kids p q c d D h1 h2 (strs_same h3 fun a ha hn => (hk _ (h4 a ha hn)).1) (fun a ha hn => (hk _ (h4 a ha hn)).2) h5 h6
   (row_same h7 fun a ha hn => (hk _ (h8 a ha hn)).1) (fun a ha hn => (hk _ (h8 a ha hn)).2) ih
theorem block_of_cell {w : World} {a : Addr} {v : Value} (h : w.cell? a = some v) : a.block < w.heap.size := World.block_lt_of_cell? _ _ h
theorem NodeR.x {w : World} {cs : List Value} {x : Nd} (h : NodeR w cs x) : NodeX w (fun b => b < w.heap.size) cs x := by
 induction h with
 | mk kind text names kids p q c d D h1 h2 h3 h5 h6 h7 _ ih =>
  refine .mk kind text names kids p q c d D h1 h2 h3 (fun a ha hn => ?_) h5 h6 h7 (fun a ha hn => ?_) ih
  ·obtain ⟨b, o, hp, hc⟩ := h3 0 (by omega)
   obtain rfl : a = ⟨b, o, .none⟩ := Option.some.inj (ha.symm.trans hp)
   exact block_of_cell hc
  ·obtain ⟨b, o, hp, hl, hr⟩ := h7 0 (by omega)
   obtain rfl : a = ⟨b, o, .none⟩ := Option.some.inj (ha.symm.trans hp)
   obtain ⟨v0, v1, v2, v3, hv⟩ := four hl
   exact block_of_cell (hr 0 v0 (by rw [hv]; rfl))

def Free (w : World) (old base : Nat) (vn v : Value) (b : Nat) : Prop := b < old ∨ (base ≤ b ∧ b < w.heap.size ∧ some b ≠ v.ownBlock ∧ some b ≠ vn.ownBlock)
structure TwoRows (w : World) (old base : Nat) (vn : Value) (names : List ByteArray) (v : Value) (kids : List Nd) : Prop where
 lt : base ≤ w.heap.size
 le : old ≤ base
 hn : w.ownsRow base 9 1 vn names.length (names.map Value.string)
 ne : vn.ownBlock = .none ∨ vn.ownBlock ≠ v.ownBlock
 hk : ∃ xs : List Value, w.ownsRow base 25 4 v kids.length xs ∧ ∀ (i : Nat) x, kids[i]? = some x → NodeX w (Free w old base vn v) ((xs.drop (i * 4)).take 4) x
theorem own_same {w w' : World} {base : Nat} {e : TypeId} {size : Nat} {v : Value} {n : Nat} {xs : List Value} (h : w.ownsRow base e size v n xs) (hs : ∀ g, v.ownBlock = some g → w'.heap[g]? = w.heap[g]?) : w'.ownsRow base e size v n xs := by
 refine ⟨h.1, ?_⟩
 rcases h.2 with h | ⟨g, cap, cur, hv, hg, hh, r⟩
 ·exact .inl h
 ·exact .inr ⟨g, cap, cur, hv, hg, by rw [hs g (by rw [hv]; rfl)]; exact hh, r⟩
theorem TwoRows.nil (w : World) {old base : Nat} (h : old ≤ base) (hb : base ≤ w.heap.size) : TwoRows w old base (.slice .none 0 0) [] (.slice .none 0 0) [] :=
 ⟨hb, h, World.ownsRow_nil _ _ _ _, .inl rfl, [], World.ownsRow_nil _ _ _ _, fun i x hx => by simp at hx⟩
theorem TwoRows.kept {w w' : World} {old base : Nat} {vn v : Value} {names : List ByteArray} {kids : List Nd} (h : TwoRows w old base vn names v kids) (hsz : w.heap.size ≤ w'.heap.size) (hb : ∀ b, b < old ∨ base ≤ b → b < w.heap.size → w'.heap[b]? = w.heap[b]?) : TwoRows w' old base vn names v kids := by
 obtain ⟨h0, h1, h2, h3, xs, h4, h5⟩ := h
 refine ⟨Nat.le_trans h0 hsz, h1, own_same h2 fun g hg => ?_, h3, xs, own_same h4 fun g hg => ?_, fun i x hx => (h5 i x hx).same fun b hb' => ?_⟩
 ·have := own_where h2 hg; exact hb g (.inr this.1) this.2
 ·have := own_where h4 hg; exact hb g (.inr this.1) this.2
 ·rcases hb' with hlt | ⟨a1, a2, a3, a4⟩
  ·exact ⟨hb b (.inl hlt) (by omega), .inl hlt⟩
  ·exact ⟨hb b (.inr a1) a2, .inr ⟨a1, by omega, a3, a4⟩⟩
theorem TwoRows.below {w w' : World} {old base : Nat} {vn v : Value} {names : List ByteArray} {kids : List Nd} (h : TwoRows w old base vn names v kids) (hb : Below w.heap.size w w') : TwoRows w' old base vn names v kids :=
 h.kept hb.size fun b _ hlt => hb.block b hlt
theorem TwoRows.name {w w' : World} {old base : Nat} {vn vn' v : Value} {names names' : List ByteArray} {kids : List Nd} (h : TwoRows w old base vn names v kids)
  (hown : w'.ownsRow base 9 1 vn' names'.length (names'.map Value.string)) (hg : w.grownBy w' vn.ownBlock) (hv : vn'.ownBlock = vn.ownBlock ∨ vn'.ownBlock = some w.heap.size) : TwoRows w' old base vn' names' v kids := by
 obtain ⟨h0, h1, h2, h3, xs, h4, h5⟩ := h
 have hne : ∀ g, v.ownBlock = some g → some g ≠ vn.ownBlock := fun g hgv e => by
  rcases h3 with h3 | h3
  ·rw [h3] at e; cases e
  ·exact h3 (e.symm.trans hgv.symm)
 refine ⟨Nat.le_trans h0 hg.size, h1, hown, ?_, xs, own_same h4 fun g hgv => ?_, fun i x hx => (h5 i x hx).same fun b hb' => ?_⟩
 ·rcases hv with hv | hv
  ·rw [hv]; exact h3
  ·rw [hv]
   refine .inr fun e => ?_
   have := (own_where h4 e.symm).2
   omega
 ·exact hg.block g (own_where h4 hgv).2 (hne g hgv)
 ·rcases hb' with hlt | ⟨a1, a2, a3, a4⟩
  ·refine ⟨hg.block b (by omega) fun e => ?_, .inl hlt⟩
   have := (own_where h2 e.symm).1
   omega
  ·refine ⟨hg.block b a2 a4, .inr ⟨a1, by have := hg.size; omega, a3, ?_⟩⟩
   rcases hv with hv | hv
   ·rw [hv]; exact a4
   ·rw [hv]; simp; omega
theorem TwoRows.kid {w w' : World} {old base : Nat} {vn v v' : Value} {names : List ByteArray} {kids : List Nd} {cs : List Value} {x : Nd} (h : TwoRows w old base vn names v kids)
  (hcs : cs.length = 4) (hx : NodeX w (Free w old base vn v) cs x)
  (hown : ∀ xs, w.ownsRow base 25 4 v kids.length xs → w'.ownsRow base 25 4 v' (kids.length + 1) (xs ++ cs)) (hg : w.grownBy w' v.ownBlock) (hv : v'.ownBlock = v.ownBlock ∨ v'.ownBlock = some w.heap.size) : TwoRows w' old base vn names v' (kids ++ [x]) := by
 obtain ⟨h0, h1, h2, h3, xs, h4, h5⟩ := h
 have hne : ∀ g, vn.ownBlock = some g → some g ≠ v.ownBlock := fun g hgv e => by
  rcases h3 with h3 | h3
  ·rw [h3] at hgv; cases hgv
  ·exact h3 (hgv.trans e)
 have hfree : ∀ b, Free w old base vn v b → w'.heap[b]? = w.heap[b]? ∧ Free w' old base vn v' b := by
  intro b hb'
  rcases hb' with hlt | ⟨a1, a2, a3, a4⟩
  ·refine ⟨hg.block b (by omega) fun e => ?_, .inl hlt⟩
   have := (own_where h4 e.symm).1
   omega
  ·refine ⟨hg.block b a2 a3, .inr ⟨a1, by have := hg.size; omega, ?_, a4⟩⟩
   rcases hv with hv | hv
   ·rw [hv]; exact a3
   ·rw [hv]; simp; omega
 refine ⟨Nat.le_trans h0 hg.size, h1, own_same h2 fun g hgv => ?_, ?_, xs ++ cs, by rw [List.length_append]; exact hown xs h4, fun i y hy => ?_⟩
 ·exact hg.block g (own_where h2 hgv).2 (hne g hgv)
 ·rcases hv with hv | hv
  ·rw [hv]; exact h3
  ·rw [hv]
   cases hvn : vn.ownBlock with
   | none => exact .inl rfl
   | some g =>
    refine .inr fun e => ?_
    have h6 := (own_where h2 hvn).2
    have h7 : g = w.heap.size := Option.some.inj e
    omega
 ·have hxs : xs.length = kids.length * 4 := h4.1
  by_cases hi : i < kids.length
  ·rw [List.getElem?_append_left hi] at hy
   have h6 := (h5 i y hy).same hfree
   rw [List.drop_append_of_le_length (by omega), List.take_append_of_le_length (by rw [List.length_drop]; omega)]
   exact h6
  ·have hlen := (List.getElem?_eq_some_iff.1 hy).1
   rw [List.length_append] at hlen
   have hik : i = kids.length := by simp at hlen; omega
   subst hik
   obtain rfl : x = y := by simpa using hy
   rw [← hxs, List.drop_append_of_le_length (Nat.le_refl _), List.drop_length, List.nil_append, List.take_of_length_le (by omega)]
   exact hx.same hfree
theorem TwoRows.node {w : World} {old base : Nat} {vn v : Value} {names : List ByteArray} {kids : List Nd} (h : TwoRows w old base vn names v kids) (kind : UInt8) (text : ByteArray) :
  NodeX w (fun b => b < old ∨ (base ≤ b ∧ b < w.heap.size)) [.int .u8 kind.toNat, .string text, vn, v] (.mk kind text names kids) := by
 obtain ⟨h0, h1, h2, h3, xs, h4, h5⟩ := h
 obtain ⟨p, c, rfl, hs, hc, hm⟩ := plR_of_own h2
 have hq : ∃ q d, v = .slice q kids.length d ∧ kids.length ≤ d ∧ d ≤ maxLen ∧ Row w 4 q kids.length (fun i => (xs.drop (i * 4)).take 4) := by
  have hl := h4.1
  rcases h4.2 with ⟨rfl, h0⟩ | ⟨g, cap, cur, rfl, hg, hh, hn, hm, hcz, ht⟩
  ·rw [h0]
   exact ⟨.none, 0, rfl, Nat.le_refl _, Nat.zero_le _, fun i hi => absurd hi (Nat.not_lt_zero _)⟩
  ·refine ⟨some ⟨g, 0, .none⟩, cap, rfl, hn, hm, fun i hi => ⟨g, 0, rfl, ?_, fun j u hj => ?_⟩⟩
   ·rw [List.length_take, List.length_drop, hl]; omega
   ·rw [cell_of_row _ _ _ _ _ _ hh]
    have hj4 : j < 4 := by
     have := (List.getElem?_eq_some_iff.1 hj).1
     rw [List.length_take] at this
     omega
    rw [List.getElem?_take_of_lt hj4, List.getElem?_drop, ← ht, List.getElem?_take_of_lt (by omega)] at hj
    rw [Nat.zero_add]
    simpa using hj
 obtain ⟨q, d, rfl, hd1, hd2, hr⟩ := hq
 refine .mk kind text names kids p q c d _ hc hm hs (fun a ha hn => ?_) hd1 hd2 hr (fun a ha hn => ?_) (fun i x hx => (h5 i x hx).same fun b hb => ⟨rfl, ?_⟩)
 ·have := own_where h2 (k := a.block) (by rw [ha]; rfl)
  exact .inr this
 ·have := own_where h4 (k := a.block) (by rw [ha]; rfl)
  exact .inr this
 ·rcases hb with hlt | ⟨a1, a2, _⟩
  ·exact .inl hlt
  ·exact .inr ⟨a1, a2⟩
theorem TwoRows.fresh {w w2 : World} {old base : Nat} {vn v : Value} {names : List ByteArray} {kids : List Nd} {cs : List Value} {x : Nd} (h : TwoRows w old base vn names v kids) (_hb : w.heap.size ≤ w2.heap.size)
  (hx : NodeX w2 (fun b => w.heap.size ≤ b ∧ b < w2.heap.size) cs x) : NodeX w2 (Free w2 old base vn v) cs x :=
 hx.same fun b ⟨h1, h2⟩ => ⟨rfl, .inr ⟨Nat.le_trans h.lt h1, h2, fun e => by
  obtain ⟨_, h4, _⟩ := h.hk
  have := (own_where h4 e.symm).2
  omega, fun e => by
  have := (own_where h.hn e.symm).2
  omega⟩⟩
end Nx
end Go.Proofs.YtfilbknnpjbmcaaGreatDoor
/- Walks over nodes: one in memory of its own, of the law. -/
namespace Go.Proofs.YtfilbknnpjbmcaaGreatDoor
open Go.RowKit Px Nx

theorem Nx.wpList_append_zero {P : Program} {w : World} {ops : Array Oper} {rest : List Oper} {o : Oper} {a : Act} {Q : Exit → Act → World → Prop} (hgd : o.guard = none) (s x : Operand) (t : TypeId)
  (ho : o.op = .call { callee := .builtin .append, args := #[s, x], argTypes := #[t, t] })
  (base : Nat) (e : TypeId) (i : TypeInfo) (size : Nat) (ht : P.underlying t = some (.slice e)) (hi : P.info? e = some i)
  (v : Value) (n : Nat) (xs : List Value) (hs : a.eval s = v) (hown : w.ownsRow base e size v n xs) (pp : Option Addr) (cc : Nat) (hx : a.eval x = .slice pp 0 cc)
  (h : wpList P ops Q rest (a.put o.dst v) w) : wpList P ops Q (o :: rest) a w := by
 refine wpList_plain hgd fun K hK => ?_
 have hrun : (Builtin.append_ #[t, t] o.type #[v, .slice pp 0 cc]).run P w = .ok v w := by
  rcases hown.2 with ⟨rfl, rfl⟩ | ⟨g, cap, cur, rfl, _, _, hnc, _⟩
  ·cases pp <;> simp [Builtin.append_, run_underlying ht, sizeOf, typeInfo, hi, Builtin.lenOf, Builtin.firstCells, loadCells, loadCellsFrom]
  ·cases pp <;> simp [Builtin.append_, run_underlying ht, sizeOf, typeInfo, hi, Builtin.lenOf, Builtin.firstCells, loadCells, loadCellsFrom, hnc, storeCells]
 unfold Oper.wp
 simp [execOp, ho, resolve, invoke, builtin, hs, hx, hrun, Result.andThen]
 exact hK _ _ h

theorem infoNode : (Tryz.prog.info? 25).map (fun i => (i.zero, i.size, i.bytes)) = some (some (.agg #[.int .u8 0, .string ⟨#[]⟩, .slice none 0 0, .slice none 0 0]), 4, 72) := by kernel_rfl
theorem info_parts {i : Option TypeInfo} {z : Option Value} {n m : Nat} (h : i.map (fun i => (i.zero, i.size, i.bytes)) = some (z, n, m)) : ∃ j, i = some j ∧ j.zero = z ∧ j.size = n ∧ j.bytes = m := by
 cases i with
 | none => cases h
 | some j =>
  simp only [Option.map_some, Option.some.injEq, Prod.mk.injEq] at h
  exact ⟨j, rfl, h.1, h.2.1, h.2.2⟩
theorem empty_row (w : World) (base g : Nat) (hg : g = w.heap.size) (hb : base ≤ g) : (w.alloc (.cells #[] 9)).ownsRow base 9 1 (.slice (some ⟨g, 0, none⟩) 0 0) 0 [] := by
 subst hg
 exact ⟨rfl, .inr ⟨w.heap.size, 0, #[], rfl, hb, heap_alloc_new w _, Nat.le_refl _, Nat.zero_le _, rfl, rfl⟩⟩
theorem strs_news {w : World} {b o : Nat} {l : List ByteArray} (h : Strs w (some ⟨b, o, none⟩) l) : ∀ (j : Nat) u, (l.map Value.string)[j]? = some u → w.cell? ((⟨b, o, none⟩ : Addr).add j) = some u := by
 intro j u hj
 rw [List.getElem?_map] at hj
 obtain ⟨x, hx, rfl⟩ := Option.map_eq_some_iff.1 hj
 have hlt := (List.getElem?_eq_some_iff.1 hx).1
 obtain ⟨b', o', he, hc⟩ := h j hlt
 obtain ⟨rfl, rfl⟩ : b = b' ∧ o = o' := by simpa using he
 have : (⟨b, o, none⟩ : Addr).add j = ⟨b, o + j, none⟩ := by unfold Addr.add; split <;> simp_all
 rw [this, hc, List.getD_eq_getElem?_getD, hx]
 rfl
theorem strings_one (l : List ByteArray) : ∀ u ∈ l.map Value.string, u.oneCell' = true := by
 intro u hu
 obtain ⟨x, _, rfl⟩ := List.mem_map.1 hu
 rfl

theorem wpList_append_strs {P : Program} (w : World) {ops : Array Oper} {rest : List Oper} {o : Oper} {a : Act} {Q : Exit → Act → World → Prop} (hgd : o.guard = none) (s x : Operand) (t : TypeId)
  (ho : o.op = .call { callee := .builtin .append, args := #[s, x], argTypes := #[t, t] })
  (base : Nat) (e : TypeId) (i : TypeInfo) (z : Value) (ht : P.underlying t = some (.slice e)) (hi : P.info? e = some i) (hz : i.zero = some z)
  (hsize : i.size = 1) (hby : i.bytes = 16) (hzs : z.cells.size = 1)
  (v : Value) (n : Nat) (xs : List Value) (hs : a.eval s = v) (hown : w.ownsRow base e 1 v n xs)
  (p : Option Addr) (c : Nat) (l : List ByteArray) (hx : a.eval x = .slice p l.length c) (hl : Strs w p l) (hn : n + l.length ≤ 4294967296) (hbase : base ≤ w.heap.size)
  (h : ∀ v' w', w'.ownsRow base e 1 v' (n + l.length) (xs ++ l.map Value.string) → w.grownBy w' v.ownBlock → (v'.ownBlock = v.ownBlock ∨ v'.ownBlock = some w.heap.size) → wpList P ops Q rest (a.put o.dst v') w') : wpList P ops Q (o :: rest) a w := by
 by_cases h0 : l = []
 ·subst h0
  exact Nx.wpList_append_zero hgd s x t ho base e i 1 ht hi v n xs hs hown p c hx (h v w (by simpa using hown) (World.grownBy.refl w _) (.inl rfl))
 ·obtain ⟨b, f, rfl, _⟩ := hl 0 (List.length_pos_iff.2 h0)
  exact wpList_append_own_at w hgd s x t ho base e i z 1 16 ht hi hz hsize hby hzs (by decide) v n xs hs hown ⟨b, f, none⟩ l.length c (l.map Value.string) hx (by simp) (strs_news hl) (strings_one l) (by unfold maxLen; omega) (by omega) hbase (fun v' w' h1 h2 _ h4 => h v' w' h1 h2 h4)
theorem own_unique {w : World} {base : Nat} {e : TypeId} {size : Nat} {v : Value} {n : Nat} {xs ys : List Value} (h : w.ownsRow base e size v n xs) (h' : w.ownsRow base e size v n ys) : xs = ys := by
 rcases h.2 with ⟨rfl, h0⟩ | ⟨g, cap, cur, rfl, hg, hh, hn, hm, hc, ht⟩
 ·have h1 := h.1
  have h2 := h'.1
  rw [h0] at h1 h2
  have e1 : xs = [] := List.length_eq_zero_iff.1 (by simpa using h1)
  have e2 : ys = [] := List.length_eq_zero_iff.1 (by simpa using h2)
  rw [e1, e2]
 ·rcases h'.2 with ⟨h1, _⟩ | ⟨g', cap', cur', he, hg', hh', hn', hm', hc', ht'⟩
  ·cases h1
  ·obtain ⟨rfl, rfl⟩ : g = g' ∧ cap = cap' := by simpa using he
   obtain rfl : cur = cur' := by
    have := hh.symm.trans hh'
    simpa using this
   exact ht.symm.trans ht'
theorem own_slice {w : World} {base : Nat} {e : TypeId} {size : Nat} {v : Value} {n : Nat} {xs : List Value} (h : w.ownsRow base e size v n xs) : ∃ p c, v = .slice p n c := by
 rcases h.2 with ⟨rfl, rfl⟩ | ⟨g, cap, cur, rfl, _⟩
 ·exact ⟨none, 0, rfl⟩
 ·exact ⟨_, cap, rfl⟩
theorem free_alloc {w : World} {old base : Nat} {vn v : Value} {cs : List Value} {x : Nd} (h : NodeX w (Free w old base vn v) cs x) (hold : old ≤ w.heap.size) (o : Obj) : NodeX (w.alloc o) (Free (w.alloc o) old base vn v) cs x :=
 h.same fun b hb => by
  rcases hb with hlt | ⟨a1, a2, a3, a4⟩
  ·exact ⟨Below.heap_alloc _ _ _ (by omega), .inl hlt⟩
  ·exact ⟨Below.heap_alloc _ _ _ a2, .inr ⟨a1, by simp; omega, a3, a4⟩⟩
theorem nodeX_cells {W : World} {S : Nat → Prop} {vs : Array Value} {x : Nd} (h : NodeX W S vs.toList x) : ∃ p q c d, vs = #[.int .u8 x.kind.toNat, .string x.text, .slice p x.names.length c, .slice q x.kids.length d] := by
 obtain ⟨p, q, c, d, he⟩ := h.to.cells
 refine ⟨p, q, c, d, ?_⟩
 rw [← Array.toList_inj, he]
theorem Four.set1 {w : World} {g : Nat} {v0 v1 v2 v3 : Value} (h : Four w g v0 v1 v2 v3) (u : Value) : Four (w.setCell ⟨g, 2, none⟩ u) g v0 v1 u v3 := heap_setCell_same w g 2 _ _ u h
theorem Four.set3 {w : World} {g : Nat} {v0 v1 v2 v3 : Value} (h : Four w g v0 v1 v2 v3) (u : Value) : Four (w.setCell ⟨g, 3, none⟩ u) g v0 v1 v2 u := heap_setCell_same w g 3 _ _ u h
theorem Four.far {w : World} {g k j : Nat} {v0 v1 v2 v3 : Value} (h : Four w g v0 v1 v2 v3) (hk : g ≠ k) (u : Value) : Four (w.setCell ⟨k, j, none⟩ u) g v0 v1 v2 v3 := by
 unfold Four at *
 rw [heap_setCell_other _ _ _ _ hk]
 exact h
theorem Four.grown {w w' : World} {g : Nat} {row : Option Nat} {v0 v1 v2 v3 : Value} (h : Four w g v0 v1 v2 v3) (hg : w.grownBy w' row) (hr : some g ≠ row) : Four w' g v0 v1 v2 v3 := by
 unfold Four at *
 rw [hg.block _ (by
  rcases Nat.lt_or_ge g w.heap.size with hlt | hge
  ·exact hlt
  ·rw [Array.getElem?_eq_none hge] at h; cases h) hr]
 exact h
theorem Four.alloc {w : World} {g : Nat} {v0 v1 v2 v3 : Value} (h : Four w g v0 v1 v2 v3) (o : Obj) : Four (w.alloc o) g v0 v1 v2 v3 := by
 unfold Four at *
 rw [Below.heap_alloc _ _ _ (by
  rcases Nat.lt_or_ge g w.heap.size with hlt | hge
  ·exact hlt
  ·rw [Array.getElem?_eq_none hge] at h; cases h)]
 exact h

end Go.Proofs.YtfilbknnpjbmcaaGreatDoor
