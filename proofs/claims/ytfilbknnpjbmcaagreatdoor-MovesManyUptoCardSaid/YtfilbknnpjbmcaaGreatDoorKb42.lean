/- Walks of package moves: a run of a utility. -/
import Derived.Test.YtfilbknnpjbmcaaGreatDoorKb02
import Derived.Test.YtfilbknnpjbmcaaGreatDoorKb41
import Derived.Test.YtfilbknnpjbmcaaGreatDoorKb09
import Derived.Deep.RegionHeld3
namespace Go.Proofs.YtfilbknnpjbmcaaGreatDoor
open Go.RowKit Px Nx Wk Dn Ox Mv
namespace Dn
theorem bad_mem {R : Rel} {n n' : Nd} {l : List ByteArray} {bad : List (ByteArray × Int)} (h : Ops R n l bad n') : (∀ x ∈ bad, x.1 ∈ l) ∧ bad.length ≤ l.length := by
 induction h with
 | nil n => exact ⟨fun x hx => by simp at hx, Nat.le_refl _⟩
 | ok _ _ ih => exact ⟨fun x hx => List.mem_cons_of_mem _ (ih.1 x hx), Nat.le_trans ih.2 (by simp)⟩
 | bad _ _ _ ih =>
  refine ⟨fun x hx => ?_, by simpa using ih.2⟩
  rcases List.mem_cons.1 hx with rfl | hx
  ·simp
  ·exact List.mem_cons_of_mem _ (ih.1 x hx)
theorem cut_mem {kn : List UInt8} : ∀ {l : List ByteArray} {t : List UInt8} {ops : List ByteArray}, cutD kn l = some (t, ops) → ∀ y ∈ ops, y ∈ l
 | [], t, ops, h, y, hy => by
  simp only [cutD, Option.some.injEq, Prod.mk.injEq] at h
  rw [← h.2] at hy
  exact hy
 | w :: r, t, ops, h, y, hy => by
  unfold cutD at h
  split at h
  ·simp only [Option.some.injEq, Prod.mk.injEq] at h
   rw [← h.2] at hy
   exact List.mem_cons_of_mem _ hy
  ·split at h
   ·simp only [Option.some.injEq, Prod.mk.injEq] at h
    rw [← h.2] at hy
    exact hy
   ·split at h
    ·cases hr : cutD kn r with
     | none => rw [hr] at h; cases h
     | some q =>
      obtain ⟨q1, q2⟩ := q
      rw [hr] at h
      simp only [Option.map_some, Option.some.injEq, Prod.mk.injEq] at h
      rw [← h.2] at hy
      exact List.mem_cons_of_mem _ (cut_mem hr y hy)
    ·cases h
theorem parse_mem {kn : List UInt8} {xs : List ByteArray} {a b : Int} {y : ByteArray} (h : y ∈ (parseD kn xs a b).2.1) : y ∈ xs := by
 unfold parseD at h
 split at h
 ·simp at h
 ·split at h
  ·simp at h
  ·rename_i t ops hc
   split at h
   ·simp at h
   ·exact cut_mem hc y h
theorem parse_len {kn : List UInt8} {xs : List ByteArray} {a b : Int} : (parseD kn xs a b).2.1.length ≤ xs.length := by
 unfold parseD
 split
 ·exact Nat.zero_le _
 ·split
  ·exact Nat.zero_le _
  ·rename_i t ops hc
   split
   ·exact Nat.zero_le _
   ·exact cutD_len hc
end Dn
theorem NodeX.lt {w : World} {S : Nat → Prop} {cs : List Value} {x : Nd} (h : NodeX w S cs x) : NodeX w (fun k => S k ∧ k < w.heap.size) cs x := by
 induction h with
 | mk kind text names kids p q c d D h1 h2 h3 h4 h5 h6 h7 h8 _ ih =>
  refine .mk kind text names kids p q c d D h1 h2 h3 (fun a ha hl => ⟨h4 a ha hl, ?_⟩) h5 h6 h7 (fun a ha hl => ⟨h8 a ha hl, ?_⟩) ih
  ·obtain ⟨b, o, e1, e2⟩ := h3 0 (by omega)
   rw [ha] at e1
   cases e1
   exact World.block_lt_of_cell? _ _ e2
  ·obtain ⟨b, o, e1, hl4, hr⟩ := h7 0 (by omega)
   rw [ha] at e1
   cases e1
   obtain ⟨v, hv⟩ : ∃ v, (D 0)[0]? = some v := ⟨_, List.getElem?_eq_getElem (by omega)⟩
   exact World.block_lt_of_cell? _ _ (hr 0 v hv)
theorem TreeS.stay {w w' : World} {S S' : Nat → Prop} {b : Nat} {n : Nd} {v0 v1 v2 v3 : Value} (h : TreeS w S b n v0 v1 v2 v3) (hb : w'.heap[b]? = w.heap[b]?) (hs : ∀ k, S k → k < w.heap.size → w'.heap[k]? = w.heap[k]? ∧ S' k) (ho : ¬ S' b) : TreeS w' S' b n v0 v1 v2 v3 :=
 ⟨hb.trans h.blk, (NodeX.lt h.node).same fun k hk => hs k hk.1 hk.2, ho⟩
structure Fr (W w : World) (b gb : Nat) : Prop where
 os : w.os = W.os
 tape : w.tape = W.tape
 output : w.output = W.output
 size : W.heap.size ≤ w.heap.size
 block : ∀ k, k < W.heap.size → k ≠ b → k ≠ gb → w.heap[k]? = W.heap[k]?
theorem Fr.refl (W : World) (b gb : Nat) : Fr W W b gb := ⟨rfl, rfl, rfl, Nat.le_refl _, fun _ _ _ _ => rfl⟩
theorem Fr.tree {W w w' : World} {b gb : Nat} (h : Fr W w b gb) (hg : w.grownBy w' (some b)) : Fr W w' b gb := ⟨hg.os.trans h.os, hg.tape.trans h.tape, hg.output.trans h.output, Nat.le_trans h.size hg.size, fun k hk h1 h2 => (hg.block k (Nat.lt_of_lt_of_le hk h.size) (by simpa using h1)).trans (h.block k hk h1 h2)⟩
theorem Fr.stay {W w w' : World} {b gb : Nat} {o : Option Nat} (h : Fr W w b gb) (hg : Stay w w' gb o) (ho : ∀ g, o = some g → W.heap.size ≤ g) : Fr W w' b gb := ⟨hg.1.trans h.os, hg.2.1.trans h.tape, hg.2.2.1.trans h.output, Nat.le_trans h.size hg.2.2.2.1, fun k hk h1 h2 => (hg.2.2.2.2 k (Nat.lt_of_lt_of_le hk h.size) h2 (fun e => by have := ho k e; omega)).trans (h.block k hk h1 h2)⟩
theorem Fr.grown {W W0 w : World} {b gb : Nat} (h0 : Below W.heap.size W W0) (h : Fr W0 w b gb) (hgb : W.heap.size ≤ gb) : W.grownBy w (some b) := ⟨h.os.trans h0.os, h.tape.trans h0.tape, h.output.trans h0.output, Nat.le_trans h0.size h.size, fun k hk hne => (h.block k (Nat.lt_of_lt_of_le hk h0.size) (by simpa using hne) (by omega)).trans (h0.block k hk)⟩
theorem Fr.cell {W w : World} {b gb k i : Nat} {v : Value} (h : Fr W w b gb) (hc : W.cell? ⟨k, i, none⟩ = some v) (h1 : k ≠ b) (h2 : k ≠ gb) : w.cell? ⟨k, i, none⟩ = some v := by
 rw [cell_same (h.block k (block_of_cell hc) h1 h2)]
 exact hc
theorem blen_any {w : World} {gb : Nat} {p v : Value} {l : List UInt8} (h : BV w gb p v l) (hp : p = .pointer none ∨ p = .pointer (some ⟨gb, 0, none⟩)) :
  Calls Tryz.prog 57 #[.pointer (some ⟨gb, 0, none⟩)] w fun e w' => e = .returned (.int .i64 l.length) ∧ w' = w := by
 have := Tryz.Builder_Len 0 gb (Lib.byteCells l) w (h.is hp)
 rw [show (Lib.byteCells l).length = l.length by simp [Lib.byteCells]] at this
 exact this

structure TreeY (b2 : Nat) (w : World) (b : Nat) (n : Nd) (v0 v1 v2 v3 : Value) : Prop where
 s : TreeS w (fun k => k ≠ b ∧ k ≠ b2) b n v0 v1 v2 v3
theorem TreeY.x {b2 : Nat} {w : World} {b : Nat} {n : Nd} {v0 v1 v2 v3 : Value} (h : TreeY b2 w b n v0 v1 v2 v3) : TreeX w b n v0 v1 v2 v3 := h.s.x
theorem TreeY.lt {b2 : Nat} {w : World} {b : Nat} {n : Nd} {v0 v1 v2 v3 : Value} (h : TreeY b2 w b n v0 v1 v2 v3) : b < w.heap.size := h.x.lt
theorem TreeY.kept {b2 : Nat} {w w' : World} {b : Nat} {n : Nd} {v0 v1 v2 v3 : Value} (h : TreeY b2 w b n v0 v1 v2 v3) (hb : Below w.heap.size w w') : TreeY b2 w' b n v0 v1 v2 v3 := ⟨h.s.kept hb⟩
theorem TreeX.y {w : World} {b : Nat} {n : Nd} {v0 v1 v2 v3 : Value} (h : TreeX w b n v0 v1 v2 v3) : TreeY b w b n v0 v1 v2 v3 := ⟨(TreeX.s h).weak (fun _ hk => ⟨hk, hk⟩) (fun q => q.1 rfl)⟩
namespace Mv
def bigI : Int := 9223372036854775807
def GoM (cp : Bool) (R : Goal → Rel) (n : Nd) (name : ByteArray) (ops : List ByteArray) (code : Int) (err : ByteArray) (n' : Nd) : Prop :=
 ∃ c g, goalR cp n (ops.getD (ops.length - 1) ByteArray.empty) (decide (1 < ops.length - 1)) c g ∧ ((c ≠ 0 ∧ code = 1 ∧ err = ⟨(lineM name (ops.getD (ops.length - 1) ByteArray.empty, c)).toArray⟩ ∧ n' = n) ∨
  (c = 0 ∧ ∃ bad, Ops (R g) n (ops.take (ops.length - 1)) bad n' ∧ ((bad = [] ∧ code = 0 ∧ err = ⟨#[]⟩) ∨ (bad ≠ [] ∧ code = 1 ∧ err = ⟨(linesM name bad).toArray⟩))))
def RunM (O : List UInt8) (must : ByteArray → Bool) (cp : Bool) (R : ByteArray → Goal → Rel) (n : Nd) (name : ByteArray) (xs : List ByteArray) (code : Int) (err : ByteArray) (n' : Nd) : Prop :=
 (((parseD O xs 2 bigI).2.2 ≠ 0 ∨ must (parseD O xs 2 bigI).1 = false) ∧ code = 2 ∧ err = name ++ ⟨#[58, 32, 117, 115, 97, 103, 101, 10]⟩ ∧ n' = n) ∨
 ((parseD O xs 2 bigI).2.2 = 0 ∧ must (parseD O xs 2 bigI).1 = true ∧ 2 ≤ (parseD O xs 2 bigI).2.1.length ∧ GoM cp (R (parseD O xs 2 bigI).1) n name (parseD O xs 2 bigI).2.1 code err n')
def RunMQ (O : List UInt8) (must : ByteArray → Bool) (cp : Bool) (R : ByteArray → Goal → Rel) (n : Nd) (name : ByteArray) (xs : List ByteArray) (w : World) (b b2 : Nat) (e : Ending) (w' : World) : Prop :=
 ∃ code err n', e = .returned (.tuple #[.int .i64 code, .string err]) ∧ RunM O must cp R n name xs code err n' ∧ (∃ x0 x1 x2 x3, TreeY b2 w' b n' x0 x1 x2 x3) ∧ w.grownBy w' (some b)
theorem parse_least {kn : List UInt8} {xs : List ByteArray} {a b : Int} (h : (parseD kn xs a b).2.2 = 0) : a ≤ ((parseD kn xs a b).2.1.length : Int) := by
 unfold parseD at h ⊢
 split at h
 ·exact absurd h (show ¬ (1 : Int) = 0 by decide)
 ·rename_i h0
  rw [if_neg h0]
  split at h
  ·exact absurd h (show ¬ (62 : Int) = 0 by decide)
  ·rename_i t ops hc
   split at h
   ·exact absurd h (show ¬ (62 : Int) = 0 by decide)
   ·rename_i h2
    rw [if_neg h2]
    show a ≤ (ops.length : Int)
    omega
theorem lines_snocM (name : ByteArray) (bad : List (ByteArray × Int)) (x : ByteArray × Int) : linesM name (bad ++ [x]) = linesM name bad ++ lineM name x := by simp [linesM]
theorem line_neM (name : ByteArray) (x : ByteArray × Int) : lineM name x ≠ [] := by simp [lineM]
theorem line_sizeM (name : ByteArray) (x : ByteArray × Int) : (lineM name x).length ≤ name.size + x.1.size + 25 := by
 have h2 := why_size x.2
 have q : ∀ s : ByteArray, s.data.toList.length = s.size := fun s => by rw [Array.length_toList]; rfl
 simp only [lineM, List.length_append, q, List.length_cons, List.length_nil]
 omega
theorem lines_sizeM (name : ByteArray) (hn : name.size ≤ 600) : ∀ bad : List (ByteArray × Int), (∀ x ∈ bad, x.1.size ≤ 6000) → (linesM name bad).length ≤ 6700 * bad.length
 | [], _ => Nat.zero_le _
 | x :: r, h => by
  have ih := lines_sizeM name hn r fun y hy => h y (List.mem_cons_of_mem _ hy)
  have h1 := h x (by simp)
  have h2 := line_sizeM name x
  have e : linesM name (x :: r) = lineM name x ++ linesM name r := by simp [linesM]
  rw [e, List.length_append, List.length_cons]
  omega
def Off3 (b b2 gb : Nat) (v : Value) : Nat → Prop := fun k => k ≠ b ∧ k ≠ gb ∧ v.ownBlock ≠ some k ∧ k ≠ b2
structure LIM (R : Rel) (G : Nat) (n : Nd) (name : ByteArray) (ops : List ByteArray) (W0 wr : World) (b b2 gb k : Nat) : Prop where
 all : ∃ nk bad p v x0 x1 x2 x3, Ops R n (ops.take k) bad nk ∧ TreeG (G + 5710000 * k) nk ∧ TreeS wr (Off3 b b2 gb v) b nk x0 x1 x2 x3 ∧ BV wr gb p v (linesM name bad) ∧ (p = .pointer none ∨ p = .pointer (some ⟨gb, 0, none⟩)) ∧ (∀ g, v.ownBlock = some g → W0.heap.size ≤ g)
 fr : Fr W0 wr b gb
end Mv
theorem OwnL.fr {W W0 w : World} {B b gb : Nat} {v : Value} {l : List ByteArray} (h : OwnL W B v l) (hb : Below W.heap.size W W0) (hf : Fr W0 w b gb) (hbB : b < B) (hgb : W.heap.size ≤ gb) : PlT w b v l := fun w' hg => plR_of_own (own_same h fun k hk => by
 have h1 := own_where h hk
 rw [hg.block k (Nat.lt_of_lt_of_le (Nat.lt_of_lt_of_le h1.2 hb.size) hf.size) (by simp; omega), hf.block k (Nat.lt_of_lt_of_le h1.2 hb.size) (by omega) (by omega), hb.block k h1.2])
namespace Mv
def UseM (must : ByteArray → Bool) (r : ByteArray × List ByteArray × Int) : Prop := r.2.2 ≠ 0 ∨ must r.1 = false
def DoneM (must : ByteArray → Bool) (r : ByteArray × List ByteArray × Int) : Prop := r.2.2 = 0 ∧ must r.1 = true ∧ 2 ≤ r.2.1.length
end Mv

set_option maxRecDepth 100000 in
set_option maxHeartbeats 32000000 in
theorem run_gen {w : World} {b b2 G : Nat} {n : Nd} {v0 v1 v2 v3 : Value} (h : TreeY b2 w b n v0 v1 v2 v3) (hb2 : b2 < w.heap.size) (hG : TreeG G n) {K : Nat} (hN : G + 5710000 * K ≤ 90000000) (O : List UInt8) (M : ByteArray) (L F : Nat) (must : ByteArray → Bool) (cp : Bool) (R : ByteArray → Goal → Rel)
  (hO : O.length ≤ 100)
  (hmust : ∀ (S : ByteArray) (wx : World), Calls Tryz.prog 32 #[.string S, .string M] wx fun e w' => e = .returned (.bool (must S)) ∧ w' = wx)
  (hlook : ∀ (wx : World) (S : ByteArray) (up : Option Addr) (un uc : Nat) (t : ByteArray) (sev : Bool), Below w.heap.size w wx → t.size ≤ 40000 → Calls Tryz.prog 54 #[.agg #[.string ⟨O.toArray⟩, .string M, .func (.func L) #[] #[], .func (.func F) #[] #[]], .agg #[.string S, .slice up un uc, .iface 28 (.pointer (some ⟨b, 0, none⟩))], .string t, .bool sev] wx fun e w' => LookQ cp n t sev wx e w')
  (hsend : ∀ (U : Nat → Prop) (wx : World) (H : Nat) (nk : Nd) (x0 x1 x2 x3 : Value), TreeU U wx b nk x0 x1 x2 x3 → TreeG H nk → H ≤ 90000000 → ∀ (S : ByteArray) (up : Option Addr) (un uc : Nat) (s : ByteArray), s.size ≤ 40000 → ∀ (g : Goal) (pp : Option Addr) (m cc : Nat), PlT wx b (.slice pp m cc) g.place → namesBulk g.place ≤ 700000 → Calls Tryz.prog 56 #[.agg #[.string ⟨O.toArray⟩, .string M, .func (.func L) #[] #[], .func (.func F) #[] #[]], .agg #[.string S, .slice up un uc, .iface 28 (.pointer (some ⟨b, 0, none⟩))], .string s, .agg #[.slice pp m cc, .bool g.isIn]] wx fun e w' => DidR U (R S g) nk s wx b e w')
  (hgrow : ∀ (S : ByteArray) (g : Goal) (H : Nat) (nk nk' : Nd) (s : ByteArray) (c : Int), TreeG H nk → namesBulk g.place ≤ 700000 → R S g nk s c nk' → TreeG (H + 5710000) nk')
  (hgoal : ∀ (t : ByteArray) (sev : Bool) (c : Int) (g : Goal), goalR cp n t sev c g → namesBulk g.place ≤ 700000)
  (name : ByteArray) (hname : name.size ≤ 600) {xv : Value} {xs : List ByteArray} (hx : PlR w xv xs) (hxl : xs.length ≤ 14) (hxs : ∀ x ∈ xs, x.size ≤ 6000) (hxK : xs.length ≤ K) :
  Calls Tryz.prog 31 #[.agg #[.string ⟨O.toArray⟩, .string M, .func (.func L) #[] #[], .func (.func F) #[] #[]], .iface 28 (.pointer (some ⟨b, 0, none⟩)), .string name, xv] w fun e w' => RunMQ O must cp R n name xs w b b2 e w' := by
 have HAL : Hid (∀ (o : Obj), Below w.heap.size w (w.alloc o)) := Lib.hid fun o => below_alloc (Below.refl _ _)
 have HPA : Hid (∀ wx, Below w.heap.size w wx → Calls Tryz.prog 53 #[.string ⟨O.toArray⟩, xv, .int .i64 2, .int .i64 9223372036854775807] wx fun e w' => ParseQ wx.heap.size w' e (parseD O xs 2 bigI) ∧ Below wx.heap.size wx w') := Lib.hid fun wx hb => parse_any wx xv xs ⟨O.toArray⟩ 2 9223372036854775807 (hx.grown hb) (by omega) (fun x h => by have := hxs x h; omega) (by show O.toArray.size ≤ _; simp; omega)
 have HOP : Hid (∀ y ∈ (parseD O xs 2 bigI).2.1, y.size ≤ 6000) := Lib.hid fun y hy => hxs y (parse_mem hy)
 have HOL : Hid ((parseD O xs 2 bigI).2.1.length ≤ 14) := Lib.hid (Nat.le_trans parse_len hxl)
 have HOK : Hid ((parseD O xs 2 bigI).2.1.length ≤ K) := Lib.hid (Nat.le_trans parse_len hxK)
 clear hxK
 have HOM : Hid ((parseD O xs 2 bigI).2.2 = 0 → 2 ≤ (parseD O xs 2 bigI).2.1.length) := Lib.hid fun h0 => by have := parse_least h0; omega
 obtain ⟨Q, hQ⟩ : ∃ Q : Ending → World → Prop, Q = fun e w' => RunMQ O must cp R n name xs w b b2 e w' := ⟨_, rfl⟩
 have HQ2 : Hid (∀ w', UseM must (parseD O xs 2 bigI) → (∃ x0 x1 x2 x3, TreeY b2 w' b n x0 x1 x2 x3) → w.grownBy w' (some b) → Q (.returned (.tuple #[.int .i64 2, .string (name ++ ⟨#[58, 32, 117, 115, 97, 103, 101, 10]⟩)])) w') := Lib.hid fun w' h1 h2 h3 => hQ ▸ ⟨_, _, _, rfl, .inl ⟨h1, rfl, rfl, rfl⟩, h2, h3⟩
 have HQR : Hid (∀ w' code err n', DoneM must (parseD O xs 2 bigI) → GoM cp (R (parseD O xs 2 bigI).1) n name (parseD O xs 2 bigI).2.1 code err n' → (∃ x0 x1 x2 x3, TreeY b2 w' b n' x0 x1 x2 x3) → w.grownBy w' (some b) → Q (.returned (.tuple #[.int .i64 code, .string err])) w') := Lib.hid fun w' code err n' h1 h2 h3 h4 => hQ ▸ ⟨_, _, _, rfl, .inr ⟨h1.1, h1.2.1, h1.2.2, h2⟩, h3, h4⟩
 rw [← hQ]
 have HT := Lib.hid h
 have HG := Lib.hid hG
 have HMU := Lib.hid hmust
 have HLO := Lib.hid hlook
 have HSE := Lib.hid hsend
 have HGR := Lib.hid hgrow
 have HGO := Lib.hid hgoal
 have hblt := h.lt
 obtain ⟨xp, xc, rfl, _, hxc, hxm⟩ := id hx
 have hxl2 : xs.length ≤ 9223372036854775807 := by omega
 generalize hL : xs.length = LX at *
 clear hQ h hx hxs hG hmust hlook hsend hgrow hgoal
 generalize parseD O xs 2 bigI = r at *
 obtain ⟨S, ops, cc⟩ := r
 dsimp only at HOP HOL HOK HOM HQ2 HQR
 go_enter Tryz.func31, Tryz.ntmps31
 go_wp2_with fail
 refine (HPA.out _ (HAL.out _)).mono ?_
 rintro e w1 ⟨hr, hb1⟩
 obtain ⟨u, rfl, hu, hub⟩ := hr
 have HU := Lib.hid hu
 have HUB := Lib.hid hub
 obtain ⟨pu, cu, rfl, hst, hcl, hcm⟩ := hu
 have HB1 : Hid (Below w.heap.size w w1) := Lib.hid ((HAL.out _).trans (hb1.mono (HAL.out _).size))
 have hsz1 : w.heap.size + 1 ≤ w1.heap.size := by have := hb1.size; simpa using this
 have HUC : Hid (∀ wx, Below w1.heap.size w1 wx → wx.cell? ⟨w.heap.size, 0, none⟩ = some (.string ⟨O.toArray⟩) ∧ wx.cell? ⟨w.heap.size, 1, none⟩ = some (.string M) ∧ wx.cell? ⟨w.heap.size, 2, none⟩ = some (.func (.func L) #[] #[]) ∧ wx.cell? ⟨w.heap.size, 3, none⟩ = some (.func (.func F) #[] #[])) := Lib.hid fun wx hx => ⟨cell_kept hx (cell_kept hb1 (cell_first rfl)), cell_kept hx (cell_kept hb1 (cell_first rfl)), cell_kept hx (cell_kept hb1 (cell_first rfl)), cell_kept hx (cell_kept hb1 (cell_first rfl))⟩
 have HST := Lib.hid hst
 clear hb1 hub hst
 by_cases hc0 : cc = 0
 ·subst hc0
  have HO2 : Hid (2 ≤ ops.length) := Lib.hid (HOM.out (by first | trivial | rfl))
  obtain ⟨u0, u1, u2, u3⟩ := HUC.out _ (below_alloc (o := .cells #[.string S, .slice pu ops.length cu] 92) (Below.refl _ _))
  go_wp2_with fail
  refine (HMU.out _ _).mono ?_
  rintro e w1' ⟨rfl, rfl⟩
  obtain ⟨ms, hms⟩ : ∃ ms, must S = ms := ⟨_, rfl⟩
  rw [hms]
  have HMS := Lib.hid hms
  clear hms
  cases ms with
  | false =>
   have z1 : ¬ (9223372036854775807 < name.size + 8) := by omega
   go_wp2_with fail
   exact HQ2.out _ (show UseM must (S, ops, 0) from .inr HMS.out) ⟨_, _, _, _, HT.out.kept (below_alloc HB1.out)⟩ (grown_below (below_alloc HB1.out))
  | true =>
   have HDN : Hid (DoneM must (S, ops, 0)) := Lib.hid ⟨rfl, HMS.out, HO2.out⟩
   have ho2 : 2 ≤ ops.length := HO2.out
   have ho14 : ops.length ≤ 14 := HOL.out
   have hoK : ops.length ≤ K := HOK.out
   obtain ⟨l, hl⟩ : ∃ l, ops.length = l + 1 := ⟨ops.length - 1, by omega⟩
   have HLL := Lib.hid hl
   rw [hl] at hcl ⊢
   have hl1 : 1 ≤ l := by omega
   have hl13 : l ≤ 13 := by omega
   have hlK : l ≤ K := by omega
   obtain ⟨bb, oo, rfl, hcell⟩ := HST.out l (by rw [HLL.out]; omega)
   have hbb2 := block_of_cell hcell
   clear u0 u1 u2 u3 hl ho2 ho14 hoK
   go_upto_region 5 with fail
   have HB3 : Hid (Below w1.heap.size w1 ((w1.alloc (.cells #[.string S, .slice (some ⟨bb, oo, none⟩) (l + 1) cu] 92)).alloc (.cells #[.string S, .slice (some ⟨bb, oo, none⟩) (l + 1) cu, .iface 28 (.pointer (some ⟨b, 0, none⟩))] 96))) := Lib.hid (below_alloc (below_alloc (Below.refl _ _)))
   have HCC : Hid (((w1.alloc (.cells #[.string S, .slice (some ⟨bb, oo, none⟩) (l + 1) cu] 92)).alloc (.cells #[.string S, .slice (some ⟨bb, oo, none⟩) (l + 1) cu, .iface 28 (.pointer (some ⟨b, 0, none⟩))] 96)).cell? ⟨w1.heap.size + 1, 0, none⟩ = some (.string S) ∧ ((w1.alloc (.cells #[.string S, .slice (some ⟨bb, oo, none⟩) (l + 1) cu] 92)).alloc (.cells #[.string S, .slice (some ⟨bb, oo, none⟩) (l + 1) cu, .iface 28 (.pointer (some ⟨b, 0, none⟩))] 96)).cell? ⟨w1.heap.size + 1, 1, none⟩ = some (.slice (some ⟨bb, oo, none⟩) (l + 1) cu) ∧ ((w1.alloc (.cells #[.string S, .slice (some ⟨bb, oo, none⟩) (l + 1) cu] 92)).alloc (.cells #[.string S, .slice (some ⟨bb, oo, none⟩) (l + 1) cu, .iface 28 (.pointer (some ⟨b, 0, none⟩))] 96)).cell? ⟨w1.heap.size + 1, 2, none⟩ = some (.iface 28 (.pointer (some ⟨b, 0, none⟩)))) := Lib.hid ⟨cell_firstE (by simp) rfl, cell_firstE (by simp) rfl, cell_firstE (by simp) rfl⟩
   have hszW : ((w1.alloc (.cells #[.string S, .slice (some ⟨bb, oo, none⟩) (l + 1) cu] 92)).alloc (.cells #[.string S, .slice (some ⟨bb, oo, none⟩) (l + 1) cu, .iface 28 (.pointer (some ⟨b, 0, none⟩))] 96)).heap.size = w1.heap.size + 2 := by simp
   generalize ((w1.alloc (.cells #[.string S, .slice (some ⟨bb, oo, none⟩) (l + 1) cu] 92)).alloc (.cells #[.string S, .slice (some ⟨bb, oo, none⟩) (l + 1) cu, .iface 28 (.pointer (some ⟨b, 0, none⟩))] 96)) = w3 at *
   obtain ⟨c0, c1, c2⟩ := HCC.out
   obtain ⟨tl, htl⟩ : ∃ tl, ops.getD l ByteArray.empty = tl := ⟨_, rfl⟩
   rw [htl] at hcell
   have HTL := Lib.hid htl
   have htl6 : tl.size ≤ 6000 := htl ▸ HOP.out _ (getD_in (by rw [HLL.out]; omega))
   have ct : w3.cell? ⟨bb, oo + l, none⟩ = some (.string tl) := cell_kept HB3.out hcell
   have hlc : l ≤ cu := by omega
   have hlc2 : l + 1 ≤ cu := by omega
   have hcu : cu ≤ 9223372036854775807 := by unfold maxLen at hcm; omega
   have hbx : (l : Int) < (l : Int) + 1 := by omega
   clear htl hcell hcl hcm
   go_upto_region 6 with fail
   refine wp_region_held_drew (S := (fun wx => wx.cell? ⟨w1.heap.size + 1, 1, none⟩ = some (.slice (some ⟨bb, oo, none⟩) (l + 1) cu) ∧ wx.cell? ⟨bb, oo + l, none⟩ = some (.string tl))) (by kernel_rfl) ⟨c1, ct⟩ (fun hHeld => ?_)
   refine wpAnyH_take (i := 0) (oi := { dst := some 48, op := Op.fieldAddr 96 (Operand.tmp 12) 0, type := 0, pos := "utility.go:58", after := #[], guard := none }) (v := ?_) rfl (by kernel_rfl) (by kernel_rfl) (by kernel_rfl) (fun _ _ _ h => h) (Or.inl ⟨by rfl, ?_⟩) (by assumption) ?_
   rotate_left
   ·(intro w hSw; (try dsimp only at hSw); go_simp; try with_reducible rfl)
   try simp only [Act.put, sA, sB, sC]
   refine wpAnyH_take (i := 1) (oi := { dst := some 49, op := Op.fieldAddr 92 (Operand.tmp 48) 1, type := 0, pos := "utility.go:58", after := #[{ on := 0, ground := Ground.data }], guard := none }) (v := ?_) rfl (by kernel_rfl) (by kernel_rfl) (by kernel_rfl) (fun _ _ _ h => h) (Or.inl ⟨by rfl, ?_⟩) (by assumption) ?_
   rotate_left
   ·(intro w hSw; (try dsimp only at hSw); go_simp; try with_reducible rfl)
   try simp only [Act.put, sA, sB, sC]
   refine wpAnyH_take (i := 2) (oi := { dst := some 50, op := Op.load 22 (Operand.tmp 49), type := 22, pos := "utility.go:58", after := #[{ on := 1, ground := Ground.data }], guard := none }) (v := ?_) rfl (by kernel_rfl) (by kernel_rfl) (by kernel_rfl) (fun _ _ _ h => h) (Or.inl ⟨by rfl, ?_⟩) (by assumption) ?_
   rotate_left
   ·(intro w hSw; (try dsimp only at hSw); go_simp; try with_reducible rfl)
   try simp only [Act.put, sA, sB, sC]
   refine wpAnyH_take (i := 3) (oi := { dst := some 51, op := Op.move (Operand.tmp 13), type := 3, pos := "utility.go:58", after := #[], guard := none }) (v := ?_) rfl (by kernel_rfl) (by kernel_rfl) (by kernel_rfl) (fun _ _ _ h => h) (Or.inl ⟨by rfl, ?_⟩) (by assumption) ?_
   rotate_left
   ·(intro w hSw; (try dsimp only at hSw); go_simp; try with_reducible rfl)
   try simp only [Act.put, sA, sB, sC]
   refine wpAnyH_take (i := 4) (oi := { dst := some 52, op := Op.slice 22 (Operand.tmp 50) none (some (Operand.tmp 51)) none, type := 22, pos := "utility.go:58", after := #[{ on := 2, ground := Ground.data }, { on := 3, ground := Ground.data }], guard := none }) (v := ?_) rfl (by kernel_rfl) (by kernel_rfl) (by kernel_rfl) (fun _ _ _ h => h) (Or.inl ⟨by rfl, ?_⟩) (by assumption) ?_
   rotate_left
   ·(intro w hSw; (try dsimp only at hSw); go_simp; try with_reducible rfl)
   try simp only [Act.put, sA, sB, sC]
   refine wpAnyH_take (i := 5) (oi := { dst := some 53, op := Op.fieldAddr 96 (Operand.tmp 12) 0, type := 0, pos := "utility.go:58", after := #[{ on := 11, ground := Ground.gcOnly Departure.lateStores }], guard := none }) (v := ?_) rfl (by kernel_rfl) (by kernel_rfl) (by kernel_rfl) (fun _ _ _ h => h) (Or.inl ⟨by rfl, ?_⟩) (by assumption) ?_
   rotate_left
   ·(intro w hSw; (try dsimp only at hSw); go_simp; try with_reducible rfl)
   try simp only [Act.put, sA, sB, sC]
   refine wpAnyH_take (i := 6) (oi := { dst := some 54, op := Op.fieldAddr 92 (Operand.tmp 53) 1, type := 0, pos := "utility.go:58", after := #[{ on := 5, ground := Ground.data }, { on := 11, ground := Ground.gcOnly Departure.lateStores }], guard := none }) (v := ?_) rfl (by kernel_rfl) (by kernel_rfl) (by kernel_rfl) (fun _ _ _ h => h) (Or.inl ⟨by rfl, ?_⟩) (by assumption) ?_
   rotate_left
   ·(intro w hSw; (try dsimp only at hSw); go_simp; try with_reducible rfl)
   try simp only [Act.put, sA, sB, sC]
   refine wpAnyH_take (i := 7) (oi := { dst := some 55, op := Op.load 22 (Operand.tmp 54), type := 22, pos := "utility.go:58", after := #[{ on := 6, ground := Ground.data }, { on := 11, ground := Ground.gcOnly Departure.lateStores }], guard := none }) (v := ?_) rfl (by kernel_rfl) (by kernel_rfl) (by kernel_rfl) (fun _ _ _ h => h) (Or.inl ⟨by rfl, ?_⟩) (by assumption) ?_
   rotate_left
   ·(intro w hSw; (try dsimp only at hSw); go_simp; try with_reducible rfl)
   try simp only [Act.put, sA, sB, sC]
   refine wpAnyH_take (i := 8) (oi := { dst := some 56, op := Op.move (Operand.tmp 13), type := 3, pos := "utility.go:58", after := #[{ on := 11, ground := Ground.gcOnly Departure.lateStores }], guard := none }) (v := ?_) rfl (by kernel_rfl) (by kernel_rfl) (by kernel_rfl) (fun _ _ _ h => h) (Or.inl ⟨by rfl, ?_⟩) (by assumption) ?_
   rotate_left
   ·(intro w hSw; (try dsimp only at hSw); go_simp; try with_reducible rfl)
   try simp only [Act.put, sA, sB, sC]
   refine wpAnyH_take (i := 9) (oi := { dst := some 57, op := Op.indexAddr 22 (Operand.tmp 55) (Operand.tmp 56), type := 0, pos := "utility.go:58", after := #[{ on := 7, ground := Ground.data }, { on := 8, ground := Ground.data }, { on := 11, ground := Ground.gcOnly Departure.lateStores }], guard := none }) (v := ?_) rfl (by kernel_rfl) (by kernel_rfl) (by kernel_rfl) (fun _ _ _ h => h) (Or.inl ⟨by rfl, ?_⟩) (by assumption) ?_
   rotate_left
   ·(intro w hSw; (try dsimp only at hSw); go_simp; try with_reducible rfl)
   try simp only [Act.put, sA, sB, sC]
   refine wpAnyH_take (i := 10) (oi := { dst := some 58, op := Op.load 9 (Operand.tmp 57), type := 9, pos := "utility.go:58", after := #[{ on := 9, ground := Ground.data }, { on := 11, ground := Ground.gcOnly Departure.lateStores }], guard := none }) (v := ?_) rfl (by kernel_rfl) (by kernel_rfl) (by kernel_rfl) (fun _ _ _ h => h) (Or.inl ⟨by rfl, ?_⟩) (by assumption) ?_
   rotate_left
   ·(intro w hSw; (try dsimp only at hSw); go_simp; try with_reducible rfl)
   try simp only [Act.put, sA, sB, sC]
   refine wpAnyH_take (i := 11) (oi := { dst := some 14, op := Op.assign (Operand.tmp 52), type := 22, pos := "utility.go:58", after := #[{ on := 4, ground := Ground.data }, { on := 0, ground := Ground.phase }, { on := 1, ground := Ground.phase }, { on := 2, ground := Ground.phase }, { on := 3, ground := Ground.phase }, { on := 4, ground := Ground.phase }, { on := 5, ground := Ground.textOnly Departure.lateStores }, { on := 6, ground := Ground.textOnly Departure.lateStores }, { on := 7, ground := Ground.textOnly Departure.lateStores }, { on := 8, ground := Ground.textOnly Departure.lateStores }, { on := 9, ground := Ground.textOnly Departure.lateStores }, { on := 10, ground := Ground.textOnly Departure.lateStores }], guard := none }) (v := ?_) rfl (by kernel_rfl) (by kernel_rfl) (by kernel_rfl) (fun _ _ _ h => h) (Or.inl ⟨by rfl, ?_⟩) (by assumption) ?_
   rotate_left
   ·(intro w hSw; (try dsimp only at hSw); go_simp; try with_reducible rfl)
   try simp only [Act.put, sA, sB, sC]
   refine wpAnyH_take (i := 12) (oi := { dst := some 15, op := Op.assign (Operand.tmp 58), type := 9, pos := "utility.go:58", after := #[{ on := 10, ground := Ground.data }, { on := 11, ground := Ground.chain }, { on := 0, ground := Ground.phase }, { on := 1, ground := Ground.phase }, { on := 2, ground := Ground.phase }, { on := 3, ground := Ground.phase }, { on := 4, ground := Ground.phase }, { on := 5, ground := Ground.phase }, { on := 6, ground := Ground.phase }, { on := 7, ground := Ground.phase }, { on := 8, ground := Ground.phase }, { on := 9, ground := Ground.phase }, { on := 10, ground := Ground.phase }, { on := 11, ground := Ground.phase }], guard := none }) (v := ?_) rfl (by kernel_rfl) (by kernel_rfl) (by kernel_rfl) (fun _ _ _ h => h) (Or.inl ⟨by rfl, ?_⟩) (by assumption) ?_
   rotate_left
   ·(intro w hSw; (try dsimp only at hSw); go_simp; try with_reducible rfl)
   try simp only [Act.put, sA, sB, sC]
   refine wpAnyH_done (by kernel_rfl) ?_ _
   clear hHeld
   have HB4 : Hid (Below w1.heap.size w1 w3.drew) := Lib.hid HB3.out.drew
   have HCX : Hid (∀ wx, Below w3.heap.size w3 wx → wx.cell? ⟨w1.heap.size + 1, 0, none⟩ = some (.string S) ∧ wx.cell? ⟨w1.heap.size + 1, 1, none⟩ = some (.slice (some ⟨bb, oo, none⟩) (l + 1) cu) ∧ wx.cell? ⟨w1.heap.size + 1, 2, none⟩ = some (.iface 28 (.pointer (some ⟨b, 0, none⟩)))) := Lib.hid fun wx hx => ⟨cell_kept hx c0, cell_kept hx c1, cell_kept hx c2⟩
   have HB34 : Hid (Below w3.heap.size w3 w3.drew) := Lib.hid (Below.refl _ _).drew
   have hsz4 : w3.drew.heap.size = w1.heap.size + 2 := hszW
   generalize w3.drew = w4 at *
   clear c0 c1 c2 ct
   obtain ⟨c0, c1, c2⟩ := HCX.out _ HB34.out
   obtain ⟨u0, u1, u2, u3⟩ := HUC.out _ HB4.out
   have HBW4 : Hid (Below w.heap.size w w4) := Lib.hid (HB1.out.trans (HB4.out.mono HB1.out.size))
   go_wp2_with fail
   have hc := HLO.out w4 S (some ⟨bb, oo, none⟩) (l + 1) cu tl (decide ((1 : Int) < l)) HBW4.out (by omega)
   refine hc.mono ?_
   clear hc
   rintro e w5 ⟨c, g, pp, m, cc, rfl, hgr, how, hb5⟩
   have HOW := Lib.hid how
   have HB5 : Hid (Below w4.heap.size w4 w5) := Lib.hid hb5
   have HGP : Hid (namesBulk g.place ≤ 700000) := Lib.hid (HGO.out _ _ _ _ hgr)
   have hsz5 : w4.heap.size ≤ w5.heap.size := hb5.size
   have HGM : Hid (ops.length - 1 = l) := Lib.hid (by have := HLL.out; omega)
   have HGOAL : Hid (goalR cp n (ops.getD (ops.length - 1) ByteArray.empty) (decide (1 < ops.length - 1)) c g) := Lib.hid (by
    rw [HGM.out, HTL.out]
    have : decide (1 < l) = decide ((1 : Int) < l) := by
     rw [decide_eq_decide]
     omega
    rw [this]
    exact hgr)
   have HEND : Hid (ops.getD (ops.length - 1) ByteArray.empty = tl) := Lib.hid (by rw [HGM.out]; exact HTL.out)
   have HBA : Hid (Below w5.heap.size w5 (w5.alloc (.cells #[.slice pp m cc, .bool g.isIn] 98))) := Lib.hid (below_alloc (Below.refl _ _))
   have HBW5 : Hid (Below w.heap.size w (w5.alloc (.cells #[.slice pp m cc, .bool g.isIn] 98))) := Lib.hid (below_alloc (HBW4.out.trans (HB5.out.mono HBW4.out.size)))
   clear hgr how hb5 u0 u1 u2 u3 c0 c1 c2
   by_cases hcz : c = 0
   ·subst hcz
    have HQ0 : Hid (∀ w' n', Ops (R S g) n (ops.take l) [] n' → (∃ x0 x1 x2 x3, TreeY b2 w' b n' x0 x1 x2 x3) → w.grownBy w' (some b) → Q (.returned (.tuple #[.int .i64 0, .string ⟨#[]⟩])) w') := Lib.hid fun w' n' h1 h3 h4 => HQR.out _ _ _ _ HDN.out ⟨_, g, HGOAL.out, .inr ⟨rfl, [], by rw [HGM.out]; exact h1, .inl ⟨rfl, rfl, rfl⟩⟩⟩ h3 h4
    have HQ1 : Hid (∀ w' bad n', Ops (R S g) n (ops.take l) bad n' → bad ≠ [] → (∃ x0 x1 x2 x3, TreeY b2 w' b n' x0 x1 x2 x3) → w.grownBy w' (some b) → Q (.returned (.tuple #[.int .i64 1, .string ⟨(linesM name bad).toArray⟩])) w') := Lib.hid fun w' bad n' h1 h2 h3 h4 => HQR.out _ _ _ _ HDN.out ⟨_, g, HGOAL.out, .inr ⟨rfl, bad, by rw [HGM.out]; exact h1, .inr ⟨h2, rfl, rfl⟩⟩⟩ h3 h4
    go_upto_region 11 with fail
    have HB6 : Hid (Below w5.heap.size w5 ((w5.alloc (.cells #[.slice pp m cc, .bool g.isIn] 98)).alloc (.cells #[.pointer none, .slice none 0 0] 79))) := Lib.hid (below_alloc (below_alloc (Below.refl _ _)))
    have HBV : Hid (BV ((w5.alloc (.cells #[.slice pp m cc, .bool g.isIn] 98)).alloc (.cells #[.pointer none, .slice none 0 0] 79)) (w5.heap.size + 1) (.pointer none) (.slice none 0 0) []) := Lib.hid ⟨by have := heap_alloc_new (w5.alloc (.cells #[.slice pp m cc, .bool g.isIn] 98)) (.cells #[.pointer none, .slice none 0 0] 79); simpa using this, ⟨rfl, .inl ⟨rfl, rfl⟩⟩, by simp [Value.ownBlock]⟩
    have HGC0 : Hid (((w5.alloc (.cells #[.slice pp m cc, .bool g.isIn] 98)).alloc (.cells #[.pointer none, .slice none 0 0] 79)).cell? ⟨w5.heap.size, 0, none⟩ = some (.slice pp m cc) ∧ ((w5.alloc (.cells #[.slice pp m cc, .bool g.isIn] 98)).alloc (.cells #[.pointer none, .slice none 0 0] 79)).cell? ⟨w5.heap.size, 1, none⟩ = some (.bool g.isIn)) := Lib.hid ⟨cell_alloc (cell_first rfl), cell_alloc (cell_first rfl)⟩
    have hszW0 : ((w5.alloc (.cells #[.slice pp m cc, .bool g.isIn] 98)).alloc (.cells #[.pointer none, .slice none 0 0] 79)).heap.size = w5.heap.size + 2 := by simp
    generalize ((w5.alloc (.cells #[.slice pp m cc, .bool g.isIn] 98)).alloc (.cells #[.pointer none, .slice none 0 0] 79)) = W0 at *
    have HSZ := Lib.hid hszW0
    have HB46 : Hid (Below w4.heap.size w4 W0) := Lib.hid (HB5.out.trans (HB6.out.mono HB5.out.size))
    have HB16 : Hid (Below w1.heap.size w1 W0) := Lib.hid (HB4.out.trans (HB46.out.mono HB4.out.size))
    have HBW6 : Hid (Below w.heap.size w W0) := Lib.hid (HB1.out.trans (HB16.out.mono HB1.out.size))
    have HUC0 := Lib.hid (HUC.out _ HB16.out)
    have HCC0 := Lib.hid (HCX.out _ (HB34.out.trans (HB46.out.mono HB34.out.size)))
    have HTR0 : Hid (TreeS W0 (Off3 b b2 (w5.heap.size + 1) (.slice none 0 0)) b n v0 v1 v2 v3) := Lib.hid ((HT.out.s).stay (HBW6.out.block _ HT.out.lt) (fun k hk hl => ⟨HBW6.out.block k hl, hk.1, by omega, by simp [Value.ownBlock], hk.2⟩) (fun q => q.1 rfl))
    clear hszW0
    go_wp2_with fail
    go_loopw [77] (fun i wr => ∃ k : Nat, k ≤ l ∧ i = .int .i64 k ∧ Hid (LIM (R S g) G n name (ops.take l) W0 wr b b2 (w5.heap.size + 1) k)) (fun i _ => l - (intOf i).toNat)
    case atStart => exact ⟨0, Nat.zero_le _, rfl, Lib.hid ⟨⟨n, [], _, _, _, _, _, _, .nil _, HG.out, HTR0.out, HBV.out, .inl rfl, fun g hg => by simp [Value.ownBlock] at hg⟩, Fr.refl _ _ _⟩⟩
    case round =>
     obtain ⟨k, hk, rfl, HLI⟩ := hrel
     obtain ⟨⟨nk, bad, p, v, x0, x1, x2, x3, hops, hgk, htk, hbv, hp, hov⟩, hfr⟩ := HLI.out
     have HOPS := Lib.hid hops
     have HGK := Lib.hid hgk
     have HTK := Lib.hid htk
     have HBK := Lib.hid hbv
     have HPP := Lib.hid hp
     have HOV := Lib.hid hov
     have HFR := Lib.hid hfr
     clear HLI hops hgk htk hbv hp hov hfr
     have hbb1 := HUB.out _ _ _ rfl _ rfl
     by_cases hkl : k < l
     ·obtain ⟨bb2, oo2, he2, hcell⟩ := HST.out k (by have := HLL.out; omega)
      cases he2
      have cy := HFR.out.cell (cell_kept HB16.out hcell) (show bb ≠ b by simp at hbb1; omega) (show bb ≠ w5.heap.size + 1 by omega)
      obtain ⟨u0, u1, u2, u3⟩ := HUC0.out
      replace u0 := HFR.out.cell u0 (by omega) (by omega)
      replace u1 := HFR.out.cell u1 (by omega) (by omega)
      replace u2 := HFR.out.cell u2 (by omega) (by omega)
      replace u3 := HFR.out.cell u3 (by omega) (by omega)
      obtain ⟨k0, k1, k2⟩ := HCC0.out
      replace k0 := HFR.out.cell k0 (by omega) (by omega)
      replace k1 := HFR.out.cell k1 (by omega) (by omega)
      replace k2 := HFR.out.cell k2 (by omega) (by omega)
      obtain ⟨g0, g1⟩ := HGC0.out
      replace g0 := HFR.out.cell g0 (by omega) (by omega)
      replace g1 := HFR.out.cell g1 (by omega) (by omega)
      have hy6 : (ops.getD k ByteArray.empty).size ≤ 6000 := HOP.out _ (getD_in (by have := HLL.out; omega))
      have HTD : Hid ((ops.take l).take (k + 1) = (ops.take l).take k ++ [ops.getD k ByteArray.empty]) := Lib.hid (by
       have hln : k < (ops.take l).length := by rw [List.length_take]; have := HLL.out; omega
       rw [List.take_succ_eq_append_getElem hln]
       congr 2
       rw [List.getElem_take, List.getD_eq_getElem?_getD, List.getElem?_eq_getElem (by have := HLL.out; omega)]
       rfl)
      have HDW : Hid (Calls Tryz.prog 56 #[.agg #[.string ⟨O.toArray⟩, .string M, .func (.func L) #[] #[], .func (.func F) #[] #[]], .agg #[.string S, .slice (some ⟨bb, oo, none⟩) (l + 1) cu, .iface 28 (.pointer (some ⟨b, 0, none⟩))], .string (ops.getD k ByteArray.empty), .agg #[.slice pp m cc, .bool g.isIn]] wr fun e w' => DidR (Off3 b b2 (w5.heap.size + 1) v) (R S g) nk (ops.getD k ByteArray.empty) wr b e w') := Lib.hid (HSE.out (Off3 b b2 (w5.heap.size + 1) v) wr (G + 5710000 * k) nk _ _ _ _ ⟨HTK.out, fun j hj => ⟨by have := HTK.out.x.lt; omega, by have := HBK.out.lt; omega, fun e => by have := HBK.out.own_lt e; omega, by have := HBW6.out.size; have := HFR.out.size; omega⟩⟩ HGK.out (by omega) S (some ⟨bb, oo, none⟩) (l + 1) cu _ (by omega) g pp m cc (HOW.out.fr HB6.out HFR.out (by omega) (by omega)) HGP.out)
      clear hcell hbb1
      generalize ops.getD k ByteArray.empty = y at *
      go_wp2_with fail
      refine HDW.out.mono ?_
      rintro e w2 ⟨c2, nn, rfl, hr, ht2, hg2⟩
      have HR := Lib.hid hr
      have HT2 := Lib.hid ht2
      have HFR2 := Lib.hid (HFR.out.tree hg2)
      have HB2 : Hid (BV w2 (w5.heap.size + 1) p v (linesM name bad)) := Lib.hid (HBK.out.by hg2 (by simp; omega) (fun g hg e => absurd (show b = g by simpa using e) (by have := HOV.out g hg; have := HSZ.out; omega)))
      have HGN : Hid (TreeG (G + 5710000 * (k + 1)) nn) := Lib.hid (by have := HGR.out _ _ _ _ _ _ _ HGK.out HGP.out HR.out; exact this.more (by omega))
      clear hr ht2 hg2 cy u0 u1 u2 u3 k0 k1 k2 g0 g1 HDW
      by_cases hc2 : c2 = 0
      ·subst hc2
       have HNX : Hid (LIM (R S g) G n name (ops.take l) W0 w2 b b2 (w5.heap.size + 1) (k + 1)) := Lib.hid (by
        obtain ⟨y0, y1, y2, y3, h2⟩ := HT2.out
        exact ⟨⟨nn, bad, p, v, y0, y1, y2, y3, by rw [HTD.out]; exact HOPS.out.snoc_ok HR.out, HGN.out, h2.s, HB2.out, HPP.out, HOV.out⟩, HFR2.out⟩)
       go_wp2_with fail
       go_roundw
       case rel => exact ⟨k + 1, by omega, by go_num, HNX⟩
       case measure => simp [intOf]; omega
      ·have e0 : (c2 != 0) = true := bne_iff_ne.2 hc2
       have H2 := Lib.hid hc2
       clear hc2
       have hbl : (linesM name bad).length ≤ 100000 := by
        have h1 := bad_mem HOPS.out
        have h2 := lines_sizeM name hname bad fun x hx => HOP.out _ (List.mem_of_mem_take (List.mem_of_mem_take (h1.1 x hx)))
        have h3 : ((ops.take l).take k).length ≤ 13 := by rw [List.length_take]; omega
        have := h1.2
        omega
       have hln := line_sizeM name (y, c2)
       have HLN : Hid ((linesM name bad).length + (⟨(lineM name (y, c2)).toArray⟩ : ByteArray).size ≤ 1000000) := Lib.hid (by
        show _ + (lineM name (y, c2)).toArray.size ≤ _
        rw [List.size_toArray]
        dsimp only at hln
        omega)
       clear hbl hln
       go_wp2_with fail
       refine (refusal_any _ name y c2 hname (by omega)).mono ?_
       rintro e w3' ⟨rfl, rfl⟩
       have HLC : Hid ((⟨(lineM name (y, c2)).toArray⟩ : ByteArray).data.toList = lineM name (y, c2)) := Lib.hid rfl
       generalize (⟨(lineM name (y, c2)).toArray⟩ : ByteArray) = rr at *
       go_wp2_with fail
       refine (wstr_any HB2.out HPP.out _ HLN.out).mono ?_
       rintro e w4' ⟨rfl, v4, hbv4, hst4, hov4⟩
       rw [HLC.out, ← lines_snocM] at hbv4
       have HNX : Hid (LIM (R S g) G n name (ops.take l) W0 w4' b b2 (w5.heap.size + 1) (k + 1)) := Lib.hid (by
        obtain ⟨y0, y1, y2, y3, h2⟩ := HT2.out
        have hsz2 : W0.heap.size ≤ w3'.heap.size := HFR2.out.size
        refine ⟨⟨nn, bad ++ [(y, c2)], _, v4, y0, y1, y2, y3, by rw [HTD.out]; exact HOPS.out.snoc_bad HR.out H2.out, HGN.out, ?_, hbv4, .inr rfl, fun g hg => ?_⟩, HFR2.out.stay hst4 HOV.out⟩
        ·refine h2.s.stay (hst4.2.2.2.2 b h2.lt (by omega) (fun e => by have := HOV.out b e; have := HSZ.out; omega)) (fun j hj hl => ⟨hst4.2.2.2.2 j hl hj.2.1 hj.2.2.1, hj.1, hj.2.1, fun e => ?_, hj.2.2.2⟩) (fun q => q.1 rfl)
         rcases hov4 with q | ⟨g, q, hq⟩
         ·exact hj.2.2.1 (q ▸ e)
         ·rw [q] at e
          have : g = j := by simpa using e
          omega
        ·rcases hov4 with q | ⟨g2, q, hq⟩
         ·exact HOV.out g (q ▸ hg)
         ·rw [q] at hg
          have : g2 = g := by simpa using hg
          omega)
       clear hbv4 hst4 hov4
       go_wp2_with fail
       go_roundw
       case rel => exact ⟨k + 1, by omega, by go_num, HNX⟩
       case measure => simp [intOf]; omega
     ·obtain rfl : k = l := by omega
      have HOPS2 : Hid (Ops (R S g) n (ops.take k) bad nk) := Lib.hid (by have := HOPS.out; rwa [List.take_take, Nat.min_self] at this)
      cases bad with
      | nil =>
       have HB0 : Hid (BV wr (w5.heap.size + 1) p v []) := Lib.hid HBK.out
       go_wp2_with fail
       refine (blen_any HB0.out HPP.out).mono ?_
       rintro e wA ⟨rfl, rfl⟩
       go_wp2_with fail
       exact HQ0.out _ _ HOPS2.out ⟨_, _, _, _, ⟨HTK.out.weak (fun k hk => ⟨hk.1, hk.2.2.2⟩) (fun q => q.1 rfl)⟩⟩ (Fr.grown HBW6.out HFR.out (by omega))
      | cons z0 rest =>
       have hne : linesM name (z0 :: rest) ≠ [] := by
        intro e
        have : lineM name z0 ++ linesM name rest = [] := by rw [← e]; simp [linesM]
        exact line_neM name z0 (List.append_eq_nil_iff.1 this).1
       have hpos : (0 : Int) < ((linesM name (z0 :: rest)).length : Int) := by
        have := List.length_pos_iff.2 hne
        omega
       have HNE := Lib.hid hne
       have HBD : Hid (z0 :: rest ≠ []) := Lib.hid (by simp)
       have HG9 := Lib.hid (Fr.grown HBW6.out HFR.out (show w.heap.size ≤ w5.heap.size + 1 by omega))
       have HSO : Hid (∀ w', Stay wr w' (w5.heap.size + 1) v.ownBlock → (∃ z0 z1 z2 z3, TreeY b2 w' b nk z0 z1 z2 z3) ∧ w.grownBy w' (some b)) := Lib.hid fun w' hs => ⟨⟨_, _, _, _, ⟨(HTK.out.stay (S' := fun j => j ≠ b ∧ j ≠ b2) (hs.2.2.2.2 b HTK.out.x.lt (by omega) (fun e => by have := HOV.out b e; have := HSZ.out; omega)) (fun j hj hl => ⟨hs.2.2.2.2 j hl hj.2.1 hj.2.2.1, hj.1, hj.2.2.2⟩) (fun q => q.1 rfl))⟩⟩, Fr.grown HBW6.out (HFR.out.stay hs HOV.out) (by omega)⟩
       generalize hb9 : z0 :: rest = bad9 at *
       clear hb9 hne
       go_wp2_with fail
       refine (blen_any HBK.out HPP.out).mono ?_
       rintro e wA ⟨rfl, rfl⟩
       go_wp2_with fail
       refine (bstr_any HBK.out HNE.out).mono ?_
       rintro e wB ⟨rfl, hs6⟩
       obtain ⟨q1, q2⟩ := HSO.out _ hs6
       have Q1 := Lib.hid q1
       have Q2 := Lib.hid q2
       clear q1 q2 hs6
       go_wp2_with fail
       exact HQ1.out _ _ _ HOPS2.out HBD.out Q1.out Q2.out
   ·have e0 : (c != 0) = true := bne_iff_ne.2 hcz
    have HC0 := Lib.hid hcz
    clear hcz
    go_wp2_with fail
    refine (refusal_any _ name tl c hname (by omega)).mono ?_
    rintro e w6 ⟨rfl, rfl⟩
    go_wp2_with fail
    exact HQR.out _ _ _ _ HDN.out ⟨_, g, HGOAL.out, .inl ⟨HC0.out, rfl, by rw [HEND.out], rfl⟩⟩ ⟨_, _, _, _, HT.out.kept HBW5.out⟩ (grown_below HBW5.out)
 ·have e0 : (cc != 0) = true := bne_iff_ne.2 hc0
  have H0 := Lib.hid hc0
  have z1 : ¬ (9223372036854775807 < name.size + 8) := by omega
  clear hc0
  go_wp2_with fail
  exact HQ2.out _ (show UseM must (S, ops, cc) from .inl H0.out) ⟨_, _, _, _, HT.out.kept (below_alloc HB1.out)⟩ (grown_below (below_alloc HB1.out))
end Go.Proofs.YtfilbknnpjbmcaaGreatDoor
