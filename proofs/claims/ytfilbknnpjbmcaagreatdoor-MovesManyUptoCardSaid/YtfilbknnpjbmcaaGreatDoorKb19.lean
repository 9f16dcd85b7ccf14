/- Appends to a slice of somebody's memory that has no room behind it, or to a row of the call's own. -/
import Derived.Test.YtfilbknnpjbmcaaGreatDoorKb02
import Derived.Test.YtfilbknnpjbmcaaGreatDoorKb18
import Derived.ArgAppend
namespace Go.Proofs.YtfilbknnpjbmcaaGreatDoor
open Go.RowKit Px Nx
abbrev qFtT_0 : Oper := { dst := some 14, op := Op.move (Operand.tmp 9), type := 22, pos := "node.go:130", after := #[], guard := none }
abbrev qFtT_1 : Oper := { dst := some 15, op := Op.move (Operand.tmp 3), type := 22, pos := "node.go:130", after := #[], guard := none }
abbrev qFtT_2 : Oper := { dst := some 17, op := Op.move (Operand.tmp 0), type := 22, pos := "node.go:130", after := #[], guard := none }
abbrev qFtT_3 : Oper := { dst := some 18, op := Op.move (Operand.tmp 2), type := 3, pos := "node.go:130", after := #[], guard := none }
abbrev qFtT_4 : Oper := { dst := some 19, op := Op.slice 22 (Operand.tmp 17) (some (Operand.tmp 18)) none none, type := 22, pos := "node.go:130", after := #[{ on := 3, ground := Ground.data }, { on := 4, ground := Ground.data }], guard := none }
abbrev qFtT_5 : Oper := { dst := some 16, op := Op.call { callee := Callee.builtin Builtin.append, args := #[Operand.tmp 14, Operand.tmp 15], argTypes := #[22, 22] }, type := 22, pos := "node.go:130", after := #[{ on := 0, ground := Ground.data }, { on := 1, ground := Ground.data }], guard := none }
abbrev qFtT_6 : Oper := { dst := some 20, op := Op.call { callee := Callee.builtin Builtin.append, args := #[Operand.tmp 16, Operand.tmp 19], argTypes := #[22, 22] }, type := 22, pos := "node.go:130", after := #[{ on := 2, ground := Ground.data }, { on := 5, ground := Ground.data }, { on := 2, ground := Ground.chain }], guard := none }
abbrev qFtT_7 : Oper := { dst := some 8, op := Op.assign (Operand.tmp 20), type := 22, pos := "node.go:130", after := #[{ on := 6, ground := Ground.data }, { on := 6, ground := Ground.chain }, { on := 0, ground := Ground.phase }, { on := 1, ground := Ground.phase }, { on := 2, ground := Ground.phase }, { on := 3, ground := Ground.phase }, { on := 4, ground := Ground.phase }, { on := 5, ground := Ground.phase }, { on := 6, ground := Ground.phase }], guard := none }
abbrev qFtT_8 : Oper := { dst := some 14, op := Op.move (Operand.tmp 9), type := 23, pos := "node.go:130", after := #[], guard := none }
abbrev qFtT_9 : Oper := { dst := some 15, op := Op.move (Operand.tmp 3), type := 23, pos := "node.go:130", after := #[], guard := none }
abbrev qFtT_10 : Oper := { dst := some 17, op := Op.move (Operand.tmp 0), type := 23, pos := "node.go:130", after := #[], guard := none }
abbrev qFtT_11 : Oper := { dst := some 19, op := Op.slice 23 (Operand.tmp 17) (some (Operand.tmp 18)) none none, type := 23, pos := "node.go:130", after := #[{ on := 3, ground := Ground.data }, { on := 4, ground := Ground.data }], guard := none }
abbrev qFtT_12 : Oper := { dst := some 16, op := Op.call { callee := Callee.builtin Builtin.append, args := #[Operand.tmp 14, Operand.tmp 15], argTypes := #[23, 23] }, type := 23, pos := "node.go:130", after := #[{ on := 0, ground := Ground.data }, { on := 1, ground := Ground.data }], guard := none }
abbrev qFtT_13 : Oper := { dst := some 20, op := Op.call { callee := Callee.builtin Builtin.append, args := #[Operand.tmp 16, Operand.tmp 19], argTypes := #[23, 23] }, type := 23, pos := "node.go:130", after := #[{ on := 2, ground := Ground.data }, { on := 5, ground := Ground.data }, { on := 2, ground := Ground.chain }], guard := none }
abbrev qFtT_14 : Oper := { dst := some 8, op := Op.assign (Operand.tmp 20), type := 23, pos := "node.go:130", after := #[{ on := 6, ground := Ground.data }, { on := 6, ground := Ground.chain }, { on := 0, ground := Ground.phase }, { on := 1, ground := Ground.phase }, { on := 2, ground := Ground.phase }, { on := 3, ground := Ground.phase }, { on := 4, ground := Ground.phase }, { on := 5, ground := Ground.phase }, { on := 6, ground := Ground.phase }], guard := none }
namespace Nx

def Reads (w : World) (v : Value) (n size : Nat) (xs : List Value) : Prop :=
 xs.length = n * size ∧ xs.all (·.oneCell') = true ∧ ∃ p c, v = .slice p n c ∧ n ≤ c ∧ c ≤ maxLen ∧ (∀ j u, xs[j]? = some u → ∃ b o, p = some ⟨b, o, .none⟩ ∧ w.cell? ⟨b, o + j, .none⟩ = some u)
theorem Reads.kept {w w' : World} {v : Value} {n size : Nat} {xs : List Value} (h : Reads w v n size xs) (hb : Below w.heap.size w w') : Reads w' v n size xs := by
 obtain ⟨h1, h2, p, c, h3, h4, h5, h6⟩ := h
 refine ⟨h1, h2, p, c, h3, h4, h5, fun j u hj => ?_⟩
 obtain ⟨b, o, hp, hc⟩ := h6 j u hj
 exact ⟨b, o, hp, cell_kept hb hc⟩
def Mine (w : World) (base : Nat) (po : Option Addr) (e : TypeId) (size : Nat) (v : Value) (n : Nat) (xs : List Value) : Prop :=
 w.ownsRow base e size v n xs ∨ (xs.length = n * size ∧ ∃ a, po = some a ∧ v = .slice (some a) n n ∧ ∀ j u, xs[j]? = some u → ∃ b o, a = ⟨b, o, .none⟩ ∧ w.cell? ⟨b, o + j, .none⟩ = some u)
def poIf (m : Nat) (p : Option Addr) : Option Addr := if m = 0 then p else none
theorem Mine.weak {w : World} {base : Nat} {m : Nat} {po : Option Addr} {e : TypeId} {size : Nat} {v : Value} {n : Nat} {xs : List Value} (h : Mine w base (poIf m po) e size v n xs) : Mine w base po e size v n xs := by
 rcases h with h | ⟨h1, a, h2, h3, h4⟩
 ·exact .inl h
 ·refine .inr ⟨h1, a, ?_, h3, h4⟩
  unfold poIf at h2
  split at h2
  ·exact h2
  ·cases h2
theorem addr_add (b o j : Nat) : (⟨b, o, .none⟩ : Addr).add j = ⟨b, o + j, .none⟩ := by unfold Addr.add; split <;> simp_all
theorem run_append_mine {P : Program} (w : World) (base : Nat) (t ty e : TypeId) (i : TypeInfo) (z : Value) (size bytes : Nat) (ht : P.underlying t = some (.slice e)) (hi : P.info? e = some i) (hz : i.zero = some z)
  (hsize : i.size = size) (hby : i.bytes = bytes) (hzs : z.cells.size = size) (hsz : 0 < size)
  (v : Value) (n : Nat) (xs : List Value) {po : Option Addr} (hv : Mine w base po e size v n xs) (u : Value) (m : Nat) (ys : List Value) (hu : Reads w u m size ys)
  (h63 : n + m ≤ maxLen) (hbytes : (n + m) * bytes ≤ 140737488355328) (hbase : base ≤ w.heap.size) :
  ∃ v' w', (Builtin.append_ #[t, t] ty #[v, u]).run P w = .ok v' w' ∧ Mine w' base (poIf m po) e size v' (n + m) (xs ++ ys) ∧ Below base w w' := by
 obtain ⟨hl, h1, q, d, rfl, hmd, hdm, hc⟩ := hu
 have h1' : ∀ u ∈ ys, u.oneCell' = true := fun u hu => List.all_eq_true.1 h1 u hu
 by_cases hm0 : m = 0
 ·subst hm0
  obtain rfl : ys = [] := List.length_eq_zero_iff.1 (by simpa using hl)
  have hrun : (Builtin.append_ #[t, t] ty #[v, .slice q 0 d]).run P w = .ok v w := by
   rcases hv with hv | ⟨_, a, _, rfl, _⟩
   ·rcases hv.2 with ⟨rfl, rfl⟩ | ⟨g, cap, cur, rfl, _, _, hnc, _⟩
    ·cases q <;> simp [Builtin.append_, run_underlying ht, sizeOf, typeInfo, hi, Builtin.lenOf, Builtin.firstCells, loadCells, loadCellsFrom]
    ·cases q <;> simp [Builtin.append_, run_underlying ht, sizeOf, typeInfo, hi, Builtin.lenOf, Builtin.firstCells, loadCells, loadCellsFrom, hnc, storeCells]
   ·cases q <;> simp [Builtin.append_, run_underlying ht, sizeOf, typeInfo, hi, Builtin.lenOf, Builtin.firstCells, loadCells, loadCellsFrom, storeCells]
  exact ⟨v, w, hrun, by simpa [poIf] using hv, Below.refl _ _⟩
 ·have hlen : 0 < ys.length := by rw [hl]; exact Nat.mul_pos (by omega) hsz
  obtain ⟨b2, o2, rfl, _⟩ := hc 0 _ (List.getElem?_eq_getElem hlen)
  have hnews : ∀ j u, ys[j]? = some u → w.cell? ((⟨b2, o2, .none⟩ : Addr).add j) = some u := fun j u hj => by
   obtain ⟨b', o', he, hcc⟩ := hc j u hj
   obtain ⟨rfl, rfl⟩ : b2 = b' ∧ o2 = o' := by simpa using he
   rw [addr_add]; exact hcc
  rcases hv with hv | ⟨hlx, a, hpo, rfl, hcx⟩
  ·obtain ⟨v', w', hr, h2, h3, _, _⟩ := run_append_own_at (P := P) w base t ty e i z size bytes ht hi hz hsize hby hzs hsz v n xs hv ⟨b2, o2, .none⟩ m d ys hl hnews h1' h63 hbytes hbase
   exact ⟨v', w', hr, .inl h2, (Below.refl base w).grown h3 hbase fun k hk => (own_where hv hk).1⟩
  ·obtain ⟨v', w', hr, h2, h3⟩ := run_append_arg_grows (P := P) w t ty e i z size bytes ht hi hz hsize hby hzs hsz a n n xs hlx (fun j u hj => by obtain ⟨b, o, rfl, hc⟩ := hcx j u hj; rw [addr_add]; exact hc) ⟨b2, o2, .none⟩ m d ys hl hnews (by omega) h63 hbytes
   exact ⟨v', w', hr, .inl (own_base h2 hbase), (Below.refl base w).grown h3 hbase fun k hk => by cases hk⟩
theorem wp_append_mine {P : Program} (w : World) {o : Oper} {a : Act} {K : Act → World → Prop} {Q : Exit → Act → World → Prop} (s x : Operand) (t : TypeId)
  (ho : o.op = .call { callee := .builtin .append, args := #[s, x], argTypes := #[t, t] })
  (base : Nat) (e : TypeId) (i : TypeInfo) (z : Value) (size bytes : Nat) (ht : P.underlying t = some (.slice e)) (hi : P.info? e = some i) (hz : i.zero = some z)
  (hsize : i.size = size) (hby : i.bytes = bytes) (hzs : z.cells.size = size) (hsz : 0 < size)
  (v : Value) (n : Nat) (xs : List Value) (hs : a.eval s = v) {po : Option Addr} (hv : Mine w base po e size v n xs) (u : Value) (m : Nat) (ys : List Value) (hx : a.eval x = u) (hu : Reads w u m size ys)
  (h63 : n + m ≤ maxLen) (hbytes : (n + m) * bytes ≤ 140737488355328) (hbase : base ≤ w.heap.size)
  (h : ∀ v' w', Mine w' base (poIf m po) e size v' (n + m) (xs ++ ys) → Below base w w' → K (a.put o.dst v') w') : o.wp P a w K Q := by
 obtain ⟨v', w', hr, h2, h3⟩ := run_append_mine (P := P) w base t o.type e i z size bytes ht hi hz hsize hby hzs hsz v n xs hv u m ys hu h63 hbytes hbase
 unfold Oper.wp execOp
 simp only [ho, resolve, invoke, builtin, Sem.run_bind, Sem.run_pure, Result.andThen_ok, List.map_toArray, List.map_cons, List.map_nil, hs, hx, hr]
 exact h v' w' h2 h3
end Nx

set_option maxRecDepth 100000 in
set_option maxHeartbeats 4000000 in
theorem splicedS_nil {w : World} {p : Option Addr} {c i t m : Nat} {ys : List Value} {u : Value} (hy : Reads w u m 1 ys) (hi0 : i = 0) (ht : t = 0) (hc : c ≤ maxLen) (hm : m ≤ 1) :
  Calls Tryz.prog 171 #[.slice p 0 c, .int .i64 i, .int .i64 t, u] w fun e w' => (∃ v, e = .returned v ∧ Mine w' w.heap.size (poIf m p) 9 1 v m ys) ∧ Below w.heap.size w w' := by
 obtain ⟨i0, hi, hz0, hz1, hz2⟩ := info_parts infoStr
 have HY := Lib.hid hy
 obtain ⟨_, _, q, d, rfl, _, _, _⟩ := hy
 subst hi0
 subst ht
 have hc63 : c ≤ 9223372036854775807 := by unfold maxLen at hc; omega
 have HC := Lib.hid hc
 clear hc
 have HR2 : Hid (Reads w.drew (.slice q m d) m 1 ys) := Lib.hid HY.out
 cases p with
 | none =>
  go_enter Tryz.func171, Tryz.ntmps171
  go_upto_region 2 with fail
  have HM1 : Hid (Mine w.drew w.heap.size none 9 1 (.slice none 0 0) 0 []) := Lib.hid (.inl (World.ownsRow_nil _ _ _ _))
  have HRX : Hid (Reads w.drew (.slice none 0 c) 0 1 []) := Lib.hid ⟨by simp, rfl, none, c, rfl, Nat.zero_le _, HC.out, fun j u hj => by simp at hj⟩
  refine wp_region_held_drew (S := (fun _ => True)) (by kernel_rfl) trivial (fun hHeld => ?_)
  refine tk 0 qFtT_0 ?_
  try simp only [Act.put, sA, sB, sC]
  refine tk 1 qFtT_1 ?_
  try simp only [Act.put, sA, sB, sC]
  refine tk 3 qFtT_2 ?_
  try simp only [Act.put, sA, sB, sC]
  refine tk 4 qFtT_3 ?_
  try simp only [Act.put, sA, sB, sC]
  refine tk 5 qFtT_4 ?_
  try simp only [Act.put, sA, sB, sC]
  refine wpAnyH_ready (rs := [2]) (by kernel_rfl) (by simp) ?_
  refine AllReadyH.cons (o := qFtT_5) rfl (fun K hK => ?_) AllReadyH.nil
  rw [if_pos (by rfl)]
  refine wp_append_mine _ (.tmp 14) (.tmp 15) 22 rfl w.heap.size 9 i0 (.string ⟨#[]⟩) 1 16 Tryz.underlying22 hi hz0 hz1 hz2 rfl (by decide) _ 0 [] rfl HM1.out _ m ys rfl HR2.out (by unfold maxLen; omega) (by omega) (Nat.le_refl _) ?_
  intro v2 w2 hm2 hb2
  have HM2 := Lib.hid hm2
  have HB2 : Hid (Below w.heap.size w w2) := Lib.hid ((Below.refl _ _).drew.trans hb2)
  have HR3 := Lib.hid (Reads.kept HRX.out hb2)
  clear hm2 hb2
  refine hK.out _ _ (by trivial) (fun hHeld => ?_)
  clear hK K
  try simp only [Act.put, sA, sB, sC]
  refine wpAnyH_ready (rs := [6]) (by kernel_rfl) (by simp) ?_
  refine AllReadyH.cons (o := qFtT_6) rfl (fun K hK => ?_) AllReadyH.nil
  rw [if_pos (by rfl)]
  refine wp_append_mine _ (.tmp 16) (.tmp 19) 22 rfl w.heap.size 9 i0 (.string ⟨#[]⟩) 1 16 Tryz.underlying22 hi hz0 hz1 hz2 rfl (by decide) _ (0 + m) ([] ++ ys) rfl HM2.out _ 0 [] rfl HR3.out (by unfold maxLen; omega) (by omega) HB2.out.size ?_
  intro v3 w3 hm3 hb3
  have HM3 := Lib.hid hm3
  have HB3 : Hid (Below w.heap.size w w3) := Lib.hid (HB2.out.trans hb3)
  clear hm3 hb3
  refine hK.out _ _ (by trivial) (fun hHeld => ?_)
  clear hK K
  try simp only [Act.put, sA, sB, sC]
  refine tk 7 qFtT_7 ?_
  try simp only [Act.put, sA, sB, sC]
  refine wpAnyH_done (by kernel_rfl) ?_ _
  go_wp2_with fail
  all_goals
   go_ret
   exact ⟨⟨v3, rfl, by simpa using HM3.out.weak⟩, HB3.out⟩
 | some a =>
  go_enter Tryz.func171, Tryz.ntmps171
  go_upto_region 2 with fail
  have HM1 : Hid (Mine w.drew w.heap.size (some a) 9 1 (.slice (some a) 0 0) 0 []) := Lib.hid (.inr ⟨by simp, a, rfl, rfl, fun j u hj => by simp at hj⟩)
  have HRX : Hid (Reads w.drew (.slice (some a) 0 c) 0 1 []) := Lib.hid ⟨by simp, rfl, some a, c, rfl, Nat.zero_le _, HC.out, fun j u hj => by simp at hj⟩
  refine wp_region_held_drew (S := (fun _ => True)) (by kernel_rfl) trivial (fun hHeld => ?_)
  refine tk 0 qFtT_0 ?_
  try simp only [Act.put, sA, sB, sC]
  refine tk 1 qFtT_1 ?_
  try simp only [Act.put, sA, sB, sC]
  refine tk 3 qFtT_2 ?_
  try simp only [Act.put, sA, sB, sC]
  refine tk 4 qFtT_3 ?_
  try simp only [Act.put, sA, sB, sC]
  refine tk 5 qFtT_4 ?_
  try simp only [Act.put, sA, sB, sC]
  refine wpAnyH_ready (rs := [2]) (by kernel_rfl) (by simp) ?_
  refine AllReadyH.cons (o := qFtT_5) rfl (fun K hK => ?_) AllReadyH.nil
  rw [if_pos (by rfl)]
  refine wp_append_mine _ (.tmp 14) (.tmp 15) 22 rfl w.heap.size 9 i0 (.string ⟨#[]⟩) 1 16 Tryz.underlying22 hi hz0 hz1 hz2 rfl (by decide) _ 0 [] rfl HM1.out _ m ys rfl HR2.out (by unfold maxLen; omega) (by omega) (Nat.le_refl _) ?_
  intro v2 w2 hm2 hb2
  have HM2 := Lib.hid hm2
  have HB2 : Hid (Below w.heap.size w w2) := Lib.hid ((Below.refl _ _).drew.trans hb2)
  have HR3 := Lib.hid (Reads.kept HRX.out hb2)
  clear hm2 hb2
  refine hK.out _ _ (by trivial) (fun hHeld => ?_)
  clear hK K
  try simp only [Act.put, sA, sB, sC]
  refine wpAnyH_ready (rs := [6]) (by kernel_rfl) (by simp) ?_
  refine AllReadyH.cons (o := qFtT_6) rfl (fun K hK => ?_) AllReadyH.nil
  rw [if_pos (by rfl)]
  refine wp_append_mine _ (.tmp 16) (.tmp 19) 22 rfl w.heap.size 9 i0 (.string ⟨#[]⟩) 1 16 Tryz.underlying22 hi hz0 hz1 hz2 rfl (by decide) _ (0 + m) ([] ++ ys) rfl HM2.out _ 0 [] rfl HR3.out (by unfold maxLen; omega) (by omega) HB2.out.size ?_
  intro v3 w3 hm3 hb3
  have HM3 := Lib.hid hm3
  have HB3 : Hid (Below w.heap.size w w3) := Lib.hid (HB2.out.trans hb3)
  clear hm3 hb3
  refine hK.out _ _ (by trivial) (fun hHeld => ?_)
  clear hK K
  try simp only [Act.put, sA, sB, sC]
  refine tk 7 qFtT_7 ?_
  try simp only [Act.put, sA, sB, sC]
  refine wpAnyH_done (by kernel_rfl) ?_ _
  go_wp2_with fail
  all_goals
   go_ret
   exact ⟨⟨v3, rfl, by simpa using HM3.out.weak⟩, HB3.out⟩

set_option maxRecDepth 100000 in
set_option maxHeartbeats 4000000 in
theorem splicedN_nil {w : World} {p : Option Addr} {c i t m : Nat} {ys : List Value} {u : Value} (hy : Reads w u m 4 ys) (hi0 : i = 0) (ht : t = 0) (hc : c ≤ maxLen) (hm : m ≤ 1) :
  Calls Tryz.prog 172 #[.slice p 0 c, .int .i64 i, .int .i64 t, u] w fun e w' => (∃ v, e = .returned v ∧ Mine w' w.heap.size (poIf m p) 25 4 v m ys) ∧ Below w.heap.size w w' := by
 obtain ⟨i0, hi, hz0, hz1, hz2⟩ := info_parts infoNode
 have HY := Lib.hid hy
 obtain ⟨_, _, q, d, rfl, _, _, _⟩ := hy
 subst hi0
 subst ht
 have hc63 : c ≤ 9223372036854775807 := by unfold maxLen at hc; omega
 have HC := Lib.hid hc
 clear hc
 have HR2 : Hid (Reads w.drew (.slice q m d) m 4 ys) := Lib.hid HY.out
 cases p with
 | none =>
  go_enter Tryz.func172, Tryz.ntmps172
  go_upto_region 2 with fail
  have HM1 : Hid (Mine w.drew w.heap.size none 25 4 (.slice none 0 0) 0 []) := Lib.hid (.inl (World.ownsRow_nil _ _ _ _))
  have HRX : Hid (Reads w.drew (.slice none 0 c) 0 4 []) := Lib.hid ⟨by simp, rfl, none, c, rfl, Nat.zero_le _, HC.out, fun j u hj => by simp at hj⟩
  refine wp_region_held_drew (S := (fun _ => True)) (by kernel_rfl) trivial (fun hHeld => ?_)
  refine tk 0 qFtT_8 ?_
  try simp only [Act.put, sA, sB, sC]
  refine tk 1 qFtT_9 ?_
  try simp only [Act.put, sA, sB, sC]
  refine tk 3 qFtT_10 ?_
  try simp only [Act.put, sA, sB, sC]
  refine tk 4 qFtT_3 ?_
  try simp only [Act.put, sA, sB, sC]
  refine tk 5 qFtT_11 ?_
  try simp only [Act.put, sA, sB, sC]
  refine wpAnyH_ready (rs := [2]) (by kernel_rfl) (by simp) ?_
  refine AllReadyH.cons (o := qFtT_12) rfl (fun K hK => ?_) AllReadyH.nil
  rw [if_pos (by rfl)]
  refine wp_append_mine _ (.tmp 14) (.tmp 15) 23 rfl w.heap.size 25 i0 (.agg #[.int .u8 0, .string ⟨#[]⟩, .slice none 0 0, .slice none 0 0]) 4 72 Tryz.underlying23 hi hz0 hz1 hz2 rfl (by decide) _ 0 [] rfl HM1.out _ m ys rfl HR2.out (by unfold maxLen; omega) (by omega) (Nat.le_refl _) ?_
  intro v2 w2 hm2 hb2
  have HM2 := Lib.hid hm2
  have HB2 : Hid (Below w.heap.size w w2) := Lib.hid ((Below.refl _ _).drew.trans hb2)
  have HR3 := Lib.hid (Reads.kept HRX.out hb2)
  clear hm2 hb2
  refine hK.out _ _ (by trivial) (fun hHeld => ?_)
  clear hK K
  try simp only [Act.put, sA, sB, sC]
  refine wpAnyH_ready (rs := [6]) (by kernel_rfl) (by simp) ?_
  refine AllReadyH.cons (o := qFtT_13) rfl (fun K hK => ?_) AllReadyH.nil
  rw [if_pos (by rfl)]
  refine wp_append_mine _ (.tmp 16) (.tmp 19) 23 rfl w.heap.size 25 i0 (.agg #[.int .u8 0, .string ⟨#[]⟩, .slice none 0 0, .slice none 0 0]) 4 72 Tryz.underlying23 hi hz0 hz1 hz2 rfl (by decide) _ (0 + m) ([] ++ ys) rfl HM2.out _ 0 [] rfl HR3.out (by unfold maxLen; omega) (by omega) HB2.out.size ?_
  intro v3 w3 hm3 hb3
  have HM3 := Lib.hid hm3
  have HB3 : Hid (Below w.heap.size w w3) := Lib.hid (HB2.out.trans hb3)
  clear hm3 hb3
  refine hK.out _ _ (by trivial) (fun hHeld => ?_)
  clear hK K
  try simp only [Act.put, sA, sB, sC]
  refine tk 7 qFtT_14 ?_
  try simp only [Act.put, sA, sB, sC]
  refine wpAnyH_done (by kernel_rfl) ?_ _
  go_wp2_with fail
  all_goals
   go_ret
   exact ⟨⟨v3, rfl, by simpa using HM3.out.weak⟩, HB3.out⟩
 | some a =>
  go_enter Tryz.func172, Tryz.ntmps172
  go_upto_region 2 with fail
  have HM1 : Hid (Mine w.drew w.heap.size (some a) 25 4 (.slice (some a) 0 0) 0 []) := Lib.hid (.inr ⟨by simp, a, rfl, rfl, fun j u hj => by simp at hj⟩)
  have HRX : Hid (Reads w.drew (.slice (some a) 0 c) 0 4 []) := Lib.hid ⟨by simp, rfl, some a, c, rfl, Nat.zero_le _, HC.out, fun j u hj => by simp at hj⟩
  refine wp_region_held_drew (S := (fun _ => True)) (by kernel_rfl) trivial (fun hHeld => ?_)
  refine tk 0 qFtT_8 ?_
  try simp only [Act.put, sA, sB, sC]
  refine tk 1 qFtT_9 ?_
  try simp only [Act.put, sA, sB, sC]
  refine tk 3 qFtT_10 ?_
  try simp only [Act.put, sA, sB, sC]
  refine tk 4 qFtT_3 ?_
  try simp only [Act.put, sA, sB, sC]
  refine tk 5 qFtT_11 ?_
  try simp only [Act.put, sA, sB, sC]
  refine wpAnyH_ready (rs := [2]) (by kernel_rfl) (by simp) ?_
  refine AllReadyH.cons (o := qFtT_12) rfl (fun K hK => ?_) AllReadyH.nil
  rw [if_pos (by rfl)]
  refine wp_append_mine _ (.tmp 14) (.tmp 15) 23 rfl w.heap.size 25 i0 (.agg #[.int .u8 0, .string ⟨#[]⟩, .slice none 0 0, .slice none 0 0]) 4 72 Tryz.underlying23 hi hz0 hz1 hz2 rfl (by decide) _ 0 [] rfl HM1.out _ m ys rfl HR2.out (by unfold maxLen; omega) (by omega) (Nat.le_refl _) ?_
  intro v2 w2 hm2 hb2
  have HM2 := Lib.hid hm2
  have HB2 : Hid (Below w.heap.size w w2) := Lib.hid ((Below.refl _ _).drew.trans hb2)
  have HR3 := Lib.hid (Reads.kept HRX.out hb2)
  clear hm2 hb2
  refine hK.out _ _ (by trivial) (fun hHeld => ?_)
  clear hK K
  try simp only [Act.put, sA, sB, sC]
  refine wpAnyH_ready (rs := [6]) (by kernel_rfl) (by simp) ?_
  refine AllReadyH.cons (o := qFtT_13) rfl (fun K hK => ?_) AllReadyH.nil
  rw [if_pos (by rfl)]
  refine wp_append_mine _ (.tmp 16) (.tmp 19) 23 rfl w.heap.size 25 i0 (.agg #[.int .u8 0, .string ⟨#[]⟩, .slice none 0 0, .slice none 0 0]) 4 72 Tryz.underlying23 hi hz0 hz1 hz2 rfl (by decide) _ (0 + m) ([] ++ ys) rfl HM2.out _ 0 [] rfl HR3.out (by unfold maxLen; omega) (by omega) HB2.out.size ?_
  intro v3 w3 hm3 hb3
  have HM3 := Lib.hid hm3
  have HB3 : Hid (Below w.heap.size w w3) := Lib.hid (HB2.out.trans hb3)
  clear hm3 hb3
  refine hK.out _ _ (by trivial) (fun hHeld => ?_)
  clear hK K
  try simp only [Act.put, sA, sB, sC]
  refine tk 7 qFtT_14 ?_
  try simp only [Act.put, sA, sB, sC]
  refine wpAnyH_done (by kernel_rfl) ?_ _
  go_wp2_with fail
  all_goals
   go_ret
   exact ⟨⟨v3, rfl, by simpa using HM3.out.weak⟩, HB3.out⟩

set_option maxRecDepth 100000 in
set_option maxHeartbeats 4000000 in
theorem splicedS {w : World} {b o n c i t m : Nat} {xs ys : List Value} {u : Value} (hx : Reads w (.slice (some ⟨b, o, none⟩) n c) n 1 xs) (hy : Reads w u m 1 ys) (hi0 : i ≤ t) (ht : t ≤ n) (hn : n ≤ 200000000) (hm : m ≤ 1) :
  Calls Tryz.prog 171 #[.slice (some ⟨b, o, none⟩) n c, .int .i64 i, .int .i64 t, u] w fun e w' => (∃ v, e = .returned v ∧ Mine w' w.heap.size (poIf m (some ⟨b, o, none⟩)) 9 1 v (i + m + (n - t)) (xs.take (i * 1) ++ ys ++ xs.drop (t * 1))) ∧ Below w.heap.size w w' := by
 obtain ⟨i0, hi, hz0, hz1, hz2⟩ := info_parts infoStr
 have HX := Lib.hid hx
 have HY := Lib.hid hy
 obtain ⟨_, _, q, d, rfl, _, _, _⟩ := hy
 obtain ⟨_, _, p1, c1, he, hc, hcm, _⟩ := hx
 obtain ⟨rfl, rfl⟩ : some ⟨b, o, none⟩ = p1 ∧ c = c1 := by simpa using he
 have hic : i ≤ c := by omega
 have htc : t ≤ c := by omega
 have hc63 : c ≤ 9223372036854775807 := by unfold maxLen at hcm; omega
 clear he hcm
 go_enter Tryz.func171, Tryz.ntmps171
 go_upto_region 2 with fail
 have HM1 : Hid (Mine w.drew w.heap.size (some ⟨b, o, none⟩) 9 1 (.slice (some ⟨b, o, none⟩) i i) i (xs.take (i * 1))) := Lib.hid (.inr ⟨by rw [List.length_take, HX.out.1]; exact Nat.min_eq_left (Nat.mul_le_mul_right _ (by omega)), ⟨b, o, none⟩, rfl, rfl, fun j u hj => by
  obtain ⟨_, _, p, c, he, _, _, hcell⟩ := HX.out
  have hj2 : j < i * 1 := by
   have := (List.getElem?_eq_some_iff.1 hj).1
   rw [List.length_take] at this
   omega
  rw [List.getElem?_take_of_lt hj2] at hj
  obtain ⟨b', o', hp, hc⟩ := hcell j u hj
  obtain ⟨rfl, rfl⟩ : some ⟨b, o, none⟩ = p ∧ _ := by simpa using he
  obtain ⟨rfl, rfl⟩ : b = b' ∧ o = o' := by simpa using hp
  exact ⟨b, o, rfl, hc⟩⟩)
 have HR2 : Hid (Reads w.drew (.slice q m d) m 1 ys) := Lib.hid HY.out
 have HRX : Hid (Reads w.drew (.slice (if c = t then some ⟨b, o, none⟩ else some ⟨b, o + t, none⟩) (n - t) (c - t)) (n - t) 1 (xs.drop (t * 1))) := Lib.hid ⟨by rw [List.length_drop, HX.out.1, Nat.sub_mul], List.all_eq_true.2 fun u hu => List.all_eq_true.1 HX.out.2.1 u (List.mem_of_mem_drop hu), _, _, rfl, by omega, by
  obtain ⟨_, _, p, c', he, _, hcm, _⟩ := HX.out
  obtain ⟨rfl, rfl⟩ : some ⟨b, o, none⟩ = p ∧ c = c' := by simpa using he
  omega, fun j u hj => by
  obtain ⟨hlx, _, p, c', he, _, _, hcell⟩ := HX.out
  have hj2 := (List.getElem?_eq_some_iff.1 hj).1
  rw [List.length_drop, hlx] at hj2
  rw [List.getElem?_drop] at hj
  obtain ⟨b', o', hp, hc⟩ := hcell _ u hj
  obtain ⟨rfl, rfl⟩ : some ⟨b, o, none⟩ = p ∧ c = c' := by simpa using he
  obtain ⟨rfl, rfl⟩ : b = b' ∧ o = o' := by simpa using hp
  by_cases hct : c = t
  ·have h0 : n - t = 0 := by omega
   rw [← Nat.sub_mul, h0] at hj2
   omega
  ·rw [if_neg hct]
   exact ⟨b, o + t, rfl, by rw [Nat.add_assoc]; first | exact hc | simpa using hc⟩⟩
 have hmx : maxLen = maxLen := rfl
 refine wp_region_held_drew (S := (fun _ => True)) (by kernel_rfl) trivial (fun hHeld => ?_)
 refine tk 0 qFtT_0 ?_
 try simp only [Act.put, sA, sB, sC]
 refine tk 1 qFtT_1 ?_
 try simp only [Act.put, sA, sB, sC]
 refine tk 3 qFtT_2 ?_
 try simp only [Act.put, sA, sB, sC]
 refine tk 4 qFtT_3 ?_
 try simp only [Act.put, sA, sB, sC]
 refine tk 5 qFtT_4 ?_
 try simp only [Act.put, sA, sB, sC]
 refine wpAnyH_ready (rs := [2]) (by kernel_rfl) (by simp) ?_
 refine AllReadyH.cons (o := qFtT_5) rfl (fun K hK => ?_) AllReadyH.nil
 rw [if_pos (by rfl)]
 refine wp_append_mine _ (.tmp 14) (.tmp 15) 22 rfl w.heap.size 9 i0 (.string ⟨#[]⟩) 1 16 Tryz.underlying22 hi hz0 hz1 hz2 rfl (by decide) _ i (xs.take (i * 1)) rfl HM1.out _ m ys rfl HR2.out (by unfold maxLen; omega) (by omega) (Nat.le_refl _) ?_
 intro v2 w2 hm2 hb2
 have HM2 := Lib.hid hm2
 have HB2 : Hid (Below w.heap.size w w2) := Lib.hid ((Below.refl _ _).drew.trans hb2)
 have HR3 := Lib.hid (Reads.kept HRX.out hb2)
 clear hm2 hb2
 refine hK.out _ _ (by trivial) (fun hHeld => ?_)
 clear hK K
 try simp only [Act.put, sA, sB, sC]
 refine wpAnyH_ready (rs := [6]) (by kernel_rfl) (by simp) ?_
 refine AllReadyH.cons (o := qFtT_6) rfl (fun K hK => ?_) AllReadyH.nil
 rw [if_pos (by rfl)]
 refine wp_append_mine _ (.tmp 16) (.tmp 19) 22 rfl w.heap.size 9 i0 (.string ⟨#[]⟩) 1 16 Tryz.underlying22 hi hz0 hz1 hz2 rfl (by decide) _ (i + m) (xs.take (i * 1) ++ ys) rfl HM2.out _ (n - t) (xs.drop (t * 1)) rfl HR3.out (by unfold maxLen; omega) (by omega) HB2.out.size ?_
 intro v3 w3 hm3 hb3
 have HM3 := Lib.hid hm3
 have HB3 : Hid (Below w.heap.size w w3) := Lib.hid (HB2.out.trans hb3)
 clear hm3 hb3
 refine hK.out _ _ (by trivial) (fun hHeld => ?_)
 clear hK K
 try simp only [Act.put, sA, sB, sC]
 refine tk 7 qFtT_7 ?_
 try simp only [Act.put, sA, sB, sC]
 refine wpAnyH_done (by kernel_rfl) ?_ _
 go_wp2_with fail
 all_goals
  go_ret
  exact ⟨⟨v3, rfl, by simpa [List.append_assoc] using HM3.out.weak⟩, HB3.out⟩

set_option maxRecDepth 100000 in
set_option maxHeartbeats 4000000 in
theorem splicedN {w : World} {b o n c i t m : Nat} {xs ys : List Value} {u : Value} (hx : Reads w (.slice (some ⟨b, o, none⟩) n c) n 4 xs) (hy : Reads w u m 4 ys) (hi0 : i ≤ t) (ht : t ≤ n) (hn : n ≤ 200000000) (hm : m ≤ 1) :
  Calls Tryz.prog 172 #[.slice (some ⟨b, o, none⟩) n c, .int .i64 i, .int .i64 t, u] w fun e w' => (∃ v, e = .returned v ∧ Mine w' w.heap.size (poIf m (some ⟨b, o, none⟩)) 25 4 v (i + m + (n - t)) (xs.take (i * 4) ++ ys ++ xs.drop (t * 4))) ∧ Below w.heap.size w w' := by
 obtain ⟨i0, hi, hz0, hz1, hz2⟩ := info_parts infoNode
 have HX := Lib.hid hx
 have HY := Lib.hid hy
 obtain ⟨_, _, q, d, rfl, _, _, _⟩ := hy
 obtain ⟨_, _, p1, c1, he, hc, hcm, _⟩ := hx
 obtain ⟨rfl, rfl⟩ : some ⟨b, o, none⟩ = p1 ∧ c = c1 := by simpa using he
 have hic : i ≤ c := by omega
 have htc : t ≤ c := by omega
 have hc63 : c ≤ 9223372036854775807 := by unfold maxLen at hcm; omega
 clear he hcm
 go_enter Tryz.func172, Tryz.ntmps172
 go_upto_region 2 with fail
 have HM1 : Hid (Mine w.drew w.heap.size (some ⟨b, o, none⟩) 25 4 (.slice (some ⟨b, o, none⟩) i i) i (xs.take (i * 4))) := Lib.hid (.inr ⟨by rw [List.length_take, HX.out.1]; exact Nat.min_eq_left (Nat.mul_le_mul_right _ (by omega)), ⟨b, o, none⟩, rfl, rfl, fun j u hj => by
  obtain ⟨_, _, p, c, he, _, _, hcell⟩ := HX.out
  have hj2 : j < i * 4 := by
   have := (List.getElem?_eq_some_iff.1 hj).1
   rw [List.length_take] at this
   omega
  rw [List.getElem?_take_of_lt hj2] at hj
  obtain ⟨b', o', hp, hc⟩ := hcell j u hj
  obtain ⟨rfl, rfl⟩ : some ⟨b, o, none⟩ = p ∧ _ := by simpa using he
  obtain ⟨rfl, rfl⟩ : b = b' ∧ o = o' := by simpa using hp
  exact ⟨b, o, rfl, hc⟩⟩)
 have HR2 : Hid (Reads w.drew (.slice q m d) m 4 ys) := Lib.hid HY.out
 have HRX : Hid (Reads w.drew (.slice (if c = t then some ⟨b, o, none⟩ else some ⟨b, o + t * 4, none⟩) (n - t) (c - t)) (n - t) 4 (xs.drop (t * 4))) := Lib.hid ⟨by rw [List.length_drop, HX.out.1, Nat.sub_mul], List.all_eq_true.2 fun u hu => List.all_eq_true.1 HX.out.2.1 u (List.mem_of_mem_drop hu), _, _, rfl, by omega, by
  obtain ⟨_, _, p, c', he, _, hcm, _⟩ := HX.out
  obtain ⟨rfl, rfl⟩ : some ⟨b, o, none⟩ = p ∧ c = c' := by simpa using he
  omega, fun j u hj => by
  obtain ⟨hlx, _, p, c', he, _, _, hcell⟩ := HX.out
  have hj2 := (List.getElem?_eq_some_iff.1 hj).1
  rw [List.length_drop, hlx] at hj2
  rw [List.getElem?_drop] at hj
  obtain ⟨b', o', hp, hc⟩ := hcell _ u hj
  obtain ⟨rfl, rfl⟩ : some ⟨b, o, none⟩ = p ∧ c = c' := by simpa using he
  obtain ⟨rfl, rfl⟩ : b = b' ∧ o = o' := by simpa using hp
  by_cases hct : c = t
  ·have h0 : n - t = 0 := by omega
   rw [← Nat.sub_mul, h0] at hj2
   omega
  ·rw [if_neg hct]
   exact ⟨b, o + t * 4, rfl, by rw [Nat.add_assoc]; first | exact hc | simpa using hc⟩⟩
 have hmx : maxLen = maxLen := rfl
 refine wp_region_held_drew (S := (fun _ => True)) (by kernel_rfl) trivial (fun hHeld => ?_)
 refine tk 0 qFtT_8 ?_
 try simp only [Act.put, sA, sB, sC]
 refine tk 1 qFtT_9 ?_
 try simp only [Act.put, sA, sB, sC]
 refine tk 3 qFtT_10 ?_
 try simp only [Act.put, sA, sB, sC]
 refine tk 4 qFtT_3 ?_
 try simp only [Act.put, sA, sB, sC]
 refine tk 5 qFtT_11 ?_
 try simp only [Act.put, sA, sB, sC]
 refine wpAnyH_ready (rs := [2]) (by kernel_rfl) (by simp) ?_
 refine AllReadyH.cons (o := qFtT_12) rfl (fun K hK => ?_) AllReadyH.nil
 rw [if_pos (by rfl)]
 refine wp_append_mine _ (.tmp 14) (.tmp 15) 23 rfl w.heap.size 25 i0 (.agg #[.int .u8 0, .string ⟨#[]⟩, .slice none 0 0, .slice none 0 0]) 4 72 Tryz.underlying23 hi hz0 hz1 hz2 rfl (by decide) _ i (xs.take (i * 4)) rfl HM1.out _ m ys rfl HR2.out (by unfold maxLen; omega) (by omega) (Nat.le_refl _) ?_
 intro v2 w2 hm2 hb2
 have HM2 := Lib.hid hm2
 have HB2 : Hid (Below w.heap.size w w2) := Lib.hid ((Below.refl _ _).drew.trans hb2)
 have HR3 := Lib.hid (Reads.kept HRX.out hb2)
 clear hm2 hb2
 refine hK.out _ _ (by trivial) (fun hHeld => ?_)
 clear hK K
 try simp only [Act.put, sA, sB, sC]
 refine wpAnyH_ready (rs := [6]) (by kernel_rfl) (by simp) ?_
 refine AllReadyH.cons (o := qFtT_13) rfl (fun K hK => ?_) AllReadyH.nil
 rw [if_pos (by rfl)]
 refine wp_append_mine _ (.tmp 16) (.tmp 19) 23 rfl w.heap.size 25 i0 (.agg #[.int .u8 0, .string ⟨#[]⟩, .slice none 0 0, .slice none 0 0]) 4 72 Tryz.underlying23 hi hz0 hz1 hz2 rfl (by decide) _ (i + m) (xs.take (i * 4) ++ ys) rfl HM2.out _ (n - t) (xs.drop (t * 4)) rfl HR3.out (by unfold maxLen; omega) (by omega) HB2.out.size ?_
 intro v3 w3 hm3 hb3
 have HM3 := Lib.hid hm3
 have HB3 : Hid (Below w.heap.size w w3) := Lib.hid (HB2.out.trans hb3)
 clear hm3 hb3
 refine hK.out _ _ (by trivial) (fun hHeld => ?_)
 clear hK K
 try simp only [Act.put, sA, sB, sC]
 refine tk 7 qFtT_14 ?_
 try simp only [Act.put, sA, sB, sC]
 refine wpAnyH_done (by kernel_rfl) ?_ _
 go_wp2_with fail
 all_goals
  go_ret
  exact ⟨⟨v3, rfl, by simpa [List.append_assoc] using HM3.out.weak⟩, HB3.out⟩
end Go.Proofs.YtfilbknnpjbmcaaGreatDoor
