/- Walks over nodes: a well-formed one in new memory, of the program. -/
import Derived.Test.YtfilbknnpjbmcaaGreatDoorKb02
import Derived.Test.YtfilbknnpjbmcaaGreatDoorKb15
import Derived.Deep.Cut
import Derived.Deep.DeepCutAuto
namespace Go.Proofs.YtfilbknnpjbmcaaGreatDoor
open Go.RowKit Px Nx
abbrev qFtM_0 : Oper := { dst := some 10, op := Op.call { callee := Callee.value (Operand.func 40), args := #[Operand.tmp 9], argTypes := #[9] }, type := 9, pos := "node.go:135", after := #[{ on := 3, ground := Ground.data }], guard := none }
abbrev qFtM_1 : Oper := { dst := some 3, op := Op.alloc 25, type := 0, pos := "node.go:135", after := #[], guard := none }
abbrev qFtM_2 : Oper := { dst := some 11, op := Op.build 25 #[(0, Operand.tmp 7), (1, Operand.tmp 10)], type := 25, pos := "node.go:135", after := #[{ on := 1, ground := Ground.data }, { on := 4, ground := Ground.data }], guard := none }
abbrev qFtM_3 : Oper := { dst := none, op := Op.store 25 (Operand.tmp 3) (Operand.tmp 11), type := 0, pos := "node.go:135", after := #[{ on := 6, ground := Ground.data }, { on := 5, ground := Ground.data }, { on := 4, ground := Ground.chain }, { on := 0, ground := Ground.phase }, { on := 1, ground := Ground.phase }, { on := 2, ground := Ground.phase }, { on := 3, ground := Ground.phase }, { on := 4, ground := Ground.phase }, { on := 5, ground := Ground.phase }, { on := 6, ground := Ground.phase }], guard := none }
abbrev qFtM_4 : Oper := { dst := some 21, op := Op.load 22 (Operand.tmp 20), type := 22, pos := "node.go:137", after := #[{ on := 0, ground := Ground.data }], guard := none }
abbrev qFtM_5 : Oper := { dst := some 23, op := Op.call { callee := Callee.value (Operand.func 40), args := #[Operand.tmp 22], argTypes := #[9] }, type := 9, pos := "node.go:137", after := #[{ on := 2, ground := Ground.data }], guard := none }
abbrev qFtM_6 : Oper := { dst := some 24, op := Op.buildSlice 22 1 #[(0, Operand.tmp 23)], type := 22, pos := "node.go:137", after := #[{ on := 3, ground := Ground.data }], guard := none }
abbrev qFtM_7 : Oper := { dst := some 25, op := Op.call { callee := Callee.builtin Builtin.append, args := #[Operand.tmp 21, Operand.tmp 24], argTypes := #[22, 22] }, type := 22, pos := "node.go:137", after := #[{ on := 1, ground := Ground.data }, { on := 4, ground := Ground.data }, { on := 3, ground := Ground.chain }], guard := none }
abbrev qFtM_8 : Oper := { dst := some 26, op := Op.fieldAddr 25 (Operand.tmp 3) 2, type := 0, pos := "node.go:137", after := #[{ on := 0, ground := Ground.phase }, { on := 1, ground := Ground.phase }, { on := 2, ground := Ground.phase }, { on := 3, ground := Ground.phase }, { on := 4, ground := Ground.phase }, { on := 5, ground := Ground.phase }], guard := none }
abbrev qFtM_9 : Oper := { dst := none, op := Op.store 22 (Operand.tmp 26) (Operand.tmp 25), type := 0, pos := "node.go:137", after := #[{ on := 6, ground := Ground.data }, { on := 5, ground := Ground.data }, { on := 5, ground := Ground.chain }, { on := 0, ground := Ground.phase }, { on := 1, ground := Ground.phase }, { on := 2, ground := Ground.phase }, { on := 3, ground := Ground.phase }, { on := 4, ground := Ground.phase }, { on := 5, ground := Ground.phase }], guard := none }
abbrev qFtM_10 : Oper := { dst := some 28, op := Op.load 23 (Operand.tmp 27), type := 23, pos := "node.go:138", after := #[{ on := 0, ground := Ground.data }], guard := none }
abbrev qFtM_11 : Oper := { dst := some 34, op := Op.call { callee := Callee.value (Operand.func 24), args := #[Operand.tmp 33], argTypes := #[25] }, type := 25, pos := "node.go:138", after := #[{ on := 6, ground := Ground.data }], guard := none }
abbrev qFtM_12 : Oper := { dst := some 35, op := Op.buildSlice 23 1 #[(0, Operand.tmp 34)], type := 23, pos := "node.go:138", after := #[{ on := 7, ground := Ground.data }], guard := none }
abbrev qFtM_13 : Oper := { dst := some 36, op := Op.call { callee := Callee.builtin Builtin.append, args := #[Operand.tmp 28, Operand.tmp 35], argTypes := #[23, 23] }, type := 23, pos := "node.go:138", after := #[{ on := 1, ground := Ground.data }, { on := 8, ground := Ground.data }, { on := 7, ground := Ground.chain }], guard := none }
abbrev qFtM_14 : Oper := { dst := some 37, op := Op.fieldAddr 25 (Operand.tmp 3) 3, type := 0, pos := "node.go:138", after := #[{ on := 0, ground := Ground.phase }, { on := 1, ground := Ground.phase }, { on := 2, ground := Ground.phase }, { on := 3, ground := Ground.phase }, { on := 4, ground := Ground.phase }, { on := 5, ground := Ground.phase }, { on := 6, ground := Ground.phase }, { on := 7, ground := Ground.phase }, { on := 8, ground := Ground.phase }, { on := 9, ground := Ground.phase }], guard := none }
abbrev qFtM_15 : Oper := { dst := none, op := Op.store 23 (Operand.tmp 37) (Operand.tmp 36), type := 0, pos := "node.go:138", after := #[{ on := 10, ground := Ground.data }, { on := 9, ground := Ground.data }, { on := 9, ground := Ground.chain }, { on := 0, ground := Ground.phase }, { on := 1, ground := Ground.phase }, { on := 2, ground := Ground.phase }, { on := 3, ground := Ground.phase }, { on := 4, ground := Ground.phase }, { on := 5, ground := Ground.phase }, { on := 6, ground := Ground.phase }, { on := 7, ground := Ground.phase }, { on := 8, ground := Ground.phase }, { on := 9, ground := Ground.phase }], guard := none }

theorem Four.lt {w : World} {g : Nat} {v0 v1 v2 v3 : Value} (h : Four w g v0 v1 v2 v3) : g < w.heap.size := by
 rcases Nat.lt_or_ge g w.heap.size with hlt | hge
 ·exact hlt
 ·unfold Four at h
  rw [Array.getElem?_eq_none hge] at h; cases h
theorem far_four {w : World} {g k j : Nat} {v : Value} (h : w.cell? ⟨k, j, none⟩ = some v) (hk : k ≠ g) {u0 u1 u2 u3 : Value} : ((((w.setCell ⟨g, 0, none⟩ u0).setCell ⟨g, 1, none⟩ u1).setCell ⟨g, 2, none⟩ u2).setCell ⟨g, 3, none⟩ u3).cell? ⟨k, j, none⟩ = some v := by
 have e : ((((w.setCell ⟨g, 0, none⟩ u0).setCell ⟨g, 1, none⟩ u1).setCell ⟨g, 2, none⟩ u2).setCell ⟨g, 3, none⟩ u3).heap[k]? = w.heap[k]? := by
  rw [heap_setCell_other _ _ _ _ hk, heap_setCell_other _ _ _ _ hk, heap_setCell_other _ _ _ _ hk, heap_setCell_other _ _ _ _ hk]
 rw [cell_same e]
 exact h

theorem wp_append_own_at2 {P : Program} (w : World) {o : Oper} {a : Act} {K : Act → World → Prop} {Q : Exit → Act → World → Prop} (s x : Operand) (t : TypeId)
  (ho : o.op = .call { callee := .builtin .append, args := #[s, x], argTypes := #[t, t] })
  (base : Nat) (e : TypeId) (i : TypeInfo) (z : Value) (size bytes : Nat) (ht : P.underlying t = some (.slice e)) (hi : P.info? e = some i) (hz : i.zero = some z)
  (hsize : i.size = size) (hby : i.bytes = bytes) (hzs : z.cells.size = size) (hsz : 0 < size)
  (v : Value) (n : Nat) (xs : List Value) (hs : a.eval s = v) (hown : w.ownsRow base e size v n xs)
  (ad : Addr) (m c : Nat) (news : List Value) (hx : a.eval x = .slice (some ad) m c) (hl : news.length = m * size) (hnews : ∀ j u, news[j]? = some u → w.cell? (ad.add j) = some u) (h1 : ∀ u ∈ news, u.oneCell' = true)
  (h63 : n + m ≤ maxLen) (hbytes : (n + m) * bytes ≤ 140737488355328) (hbase : base ≤ w.heap.size)
  (h : ∀ v' w', w'.ownsRow base e size v' (n + m) (xs ++ news) → w.grownBy w' v.ownBlock → (v'.ownBlock = v.ownBlock ∨ v'.ownBlock = some w.heap.size) → K (a.put o.dst v') w') : o.wp P a w K Q := by
 obtain ⟨v', w', hr, h2, h3, _, h5⟩ := run_append_own_at (P := P) w base t o.type e i z size bytes ht hi hz hsize hby hzs hsz v n xs hown ad m c news hl hnews h1 h63 hbytes hbase
 unfold Oper.wp execOp
 simp only [ho, resolve, invoke, builtin, Sem.run_bind, Sem.run_pure, Result.andThen_ok, List.map_toArray, List.map_cons, List.map_nil, hs, hx, hr]
 exact h v' w' h2 h3 h5
theorem cell_one_lit (w : World) (v : Value) (t : TypeId) : ∀ (j : Nat) (u : Value), ([v] : List Value)[j]? = some u → (w.alloc (.cells #[v] t)).cell? ((⟨w.heap.size, 0, none⟩ : Addr).add j) = some u := by
 intro j u hj
 have h0 : j = 0 := by
  have := (List.getElem?_eq_some_iff.1 hj).1
  simp at this
  exact this
 subst h0
 obtain rfl : v = u := by simpa using hj
 show (w.alloc (.cells #[v] t)).cell? ⟨w.heap.size, 0, none⟩ = _
 rw [cell_of_row _ _ _ _ _ _ (heap_alloc_new w _)]
 rfl
theorem cells_four_lit (w : World) (v0 v1 v2 v3 : Value) (t : TypeId) : ∀ (j : Nat) (u : Value), ([v0, v1, v2, v3] : List Value)[j]? = some u → (w.alloc (.cells #[v0, v1, v2, v3] t)).cell? ((⟨w.heap.size, 0, none⟩ : Addr).add j) = some u := by
 intro j u hj
 have : (⟨w.heap.size, 0, none⟩ : Addr).add j = ⟨w.heap.size, j, none⟩ := by unfold Addr.add; split <;> simp_all
 rw [this, cell_of_row _ _ _ _ _ _ (heap_alloc_new w _)]
 simpa using hj
theorem cell_grownBy {w w' : World} {row : Option Nat} (hg : w.grownBy w' row) {b o : Nat} {v : Value} (h : w.cell? ⟨b, o, none⟩ = some v) (hr : some b ≠ row) : w'.cell? ⟨b, o, none⟩ = some v := by
 rw [cell_same (hg.block b (block_of_cell h) hr)]
 exact h
theorem cell_set_far {w : World} {g j b o : Nat} {u v : Value} (h : w.cell? ⟨b, o, none⟩ = some v) (hb : b ≠ g) : (w.setCell ⟨g, j, none⟩ u).cell? ⟨b, o, none⟩ = some v := by
 rw [cell_same (heap_setCell_other _ _ _ _ hb)]
 exact h

set_option maxRecDepth 100000 in
theorem sclone_any (s : ByteArray) (w : World) (hs : s.size ≤ 281474976710656) : Calls Tryz.prog 40 #[.string s] w fun e w' => e = .returned (.string s) ∧ Below w.heap.size w w' := by
 go_enter Tryz.func40, Tryz.ntmps40
 go_wp2_with fail
 refine (Tryz.stringslite_Clone s _ hs).mono ?_
 rintro e w2 ⟨rfl, hb2⟩
 have HB2 := Lib.hid hb2
 clear hb2
 go_wp2_with fail
 go_ret
 exact ⟨rfl, HB2.out⟩

set_option maxRecDepth 100000 in
set_option maxHeartbeats 4000000 in
theorem copyOf_any {W : World} {cs : List Value} {c : Nd} (h : NodeR W cs c) : ∀ w, Below W.heap.size W w → c.girth ≤ 200000000 → (c.well = true ∨ (c.names = [] ∧ c.kids = [])) →
  Calls Tryz.prog 24 #[.agg cs.toArray] w fun e w' => (∃ vs, e = .returned (.agg vs) ∧ NodeX w' (fun b => w.heap.size ≤ b ∧ b < w'.heap.size) vs.toList c) ∧ Below w.heap.size w w' := by
 obtain ⟨i0, hi, hz0, hz1, hz2⟩ := info_parts infoStr
 obtain ⟨j0, hj, hy0, hy1, hy2⟩ := info_parts infoNode
 induction h with
 | mk kind text names kids p q cp d D h1 h2 h3 h5 h6 h7 h8 ih =>
  intro w hb hB hwell
  have hts : text.size ≤ 281474976710656 := by unfold Nd.girth at hB; omega
  have hnl : names.length ≤ 200000000 := by
   have := namesBulk_len names
   unfold Nd.girth at hB
   omega
  have HNB : Hid (∀ i, i < names.length → (names.getD i ByteArray.empty).size ≤ 281474976710656) := Lib.hid fun i hi => by
   have := namesBulk_at hi
   unfold Nd.girth at hB
   omega
  have hkb : Nd.girths kids ≤ 200000000 := by unfold Nd.girth at hB; omega
  obtain ⟨hl1, hl3⟩ : kids.length = names.length ∧ ∀ x ∈ kids, x.well = true := by
   rcases hwell with hwell | ⟨e1, e2⟩
   ·obtain ⟨hl1, hl2, hl3⟩ := well_len hwell
    exact ⟨hl1, hl3⟩
   ·obtain rfl : names = [] := e1
    obtain rfl : kids = [] := e2
    exact ⟨rfl, fun x hx => by cases hx⟩
  have HWK : Hid (∀ x ∈ kids, x.well = true) := Lib.hid hl3
  have IH := Lib.hid ih
  have HR := Lib.hid h7
  have HS := Lib.hid h3
  have HW := Lib.hid hb
  have HKN := Lib.hid hl1
  rw [hl1] at HR ⊢
  clear ih h8 h7 h3 hb hB hwell hl1 hl3 h1 h2 h5 h6
  generalize hn : names.length = n at *
  have HNN := Lib.hid hn
  clear hn
  have HCL := Lib.hid sclone_any
  go_enter Tryz.func24, Tryz.ntmps24
  go_upto_region 1 with fail
  have HV : Hid (Four ((w.alloc (.cells #[.int .u8 kind.toNat, .string text, .slice p n cp, .slice q n d] 25)).alloc (.cells #[.int .u8 0, .string ⟨#[]⟩, .slice none 0 0, .slice none 0 0] 25)) w.heap.size (.int .u8 kind.toNat) (.string text) (.slice p n cp) (.slice q n d)) := Lib.hid (four_first w _ _ _ _ _)
  have HZ : Hid (Four ((w.alloc (.cells #[.int .u8 kind.toNat, .string text, .slice p n cp, .slice q n d] 25)).alloc (.cells #[.int .u8 0, .string ⟨#[]⟩, .slice none 0 0, .slice none 0 0] 25)) (w.heap.size + 1) (.int .u8 0) (.string ⟨#[]⟩) (.slice none 0 0) (.slice none 0 0)) := Lib.hid (by have := four_new (w.alloc (.cells #[.int .u8 kind.toNat, .string text, .slice p n cp, .slice q n d] 25)) (.int .u8 0) (.string ⟨#[]⟩) (.slice none 0 0) (.slice none 0 0); simpa using this)
  have HB : Hid (Below w.heap.size w ((w.alloc (.cells #[.int .u8 kind.toNat, .string text, .slice p n cp, .slice q n d] 25)).alloc (.cells #[.int .u8 0, .string ⟨#[]⟩, .slice none 0 0, .slice none 0 0] 25))) := Lib.hid (box2_self (Below.refl _ _))
  have hsz : w.heap.size + 2 ≤ ((w.alloc (.cells #[.int .u8 kind.toNat, .string text, .slice p n cp, .slice q n d] 25)).alloc (.cells #[.int .u8 0, .string ⟨#[]⟩, .slice none 0 0, .slice none 0 0] 25)).heap.size := by simp
  generalize ((w.alloc (.cells #[.int .u8 kind.toNat, .string text, .slice p n cp, .slice q n d] 25)).alloc (.cells #[.int .u8 0, .string ⟨#[]⟩, .slice none 0 0, .slice none 0 0] 25)) = wr at *
  obtain ⟨c0, c1x, c2x, c3⟩ := HV.out.cell
  go_cut [3] (fun v wx => ∃ g, v = .pointer (some ⟨g, 0, none⟩) ∧ w.heap.size + 2 ≤ g ∧ Hid (Four wx g (.int .u8 kind.toNat) (.string text) (.slice none 0 0) (.slice none 0 0)) ∧ Hid (Four wx w.heap.size (.int .u8 kind.toNat) (.string text) (.slice p n cp) (.slice q n d)) ∧ Hid (Four wx (w.heap.size + 1) (.int .u8 0) (.string ⟨#[]⟩) (.slice none 0 0) (.slice none 0 0)) ∧ Hid (Below w.heap.size w wx) ∧ g + 1 ≤ wx.heap.size)
  case first =>
   refine wp_region_held_drew (S := (fun wx => Below wr.heap.size wr wx ∧ wx.cell? ⟨w.heap.size, 0, none⟩ = some (.int .u8 kind.toNat) ∧ wx.cell? ⟨w.heap.size, 1, none⟩ = some (.string text))) (by kernel_rfl) ⟨(Below.refl _ _).drew, c0, c1x⟩ (fun hHeld => ?_)
   refine tk 0 { dst := some 6, op := Op.fieldAddr 25 (Operand.tmp 1) 0, type := 0, pos := "node.go:135", after := #[], guard := none } ?_
   try simp only [Act.put, sA, sB, sC]
   refine tk 1 { dst := some 7, op := Op.load 5 (Operand.tmp 6), type := 5, pos := "node.go:135", after := #[{ on := 0, ground := Ground.data }], guard := none } ?_
   try simp only [Act.put, sA, sB, sC]
   refine tk 2 { dst := some 8, op := Op.fieldAddr 25 (Operand.tmp 1) 1, type := 0, pos := "node.go:135", after := #[], guard := none } ?_
   try simp only [Act.put, sA, sB, sC]
   refine tk 3 { dst := some 9, op := Op.load 9 (Operand.tmp 8), type := 9, pos := "node.go:135", after := #[{ on := 2, ground := Ground.data }], guard := none } ?_
   try simp only [Act.put, sA, sB, sC]
   refine wpAnyH_ready (rs := [4, 6]) (by kernel_rfl) (by simp) ?_
   refine AllReadyH.cons (o := qFtM_0) rfl (fun K hK => ?_) ?_
   rotate_left
   refine AllReadyH.cons (o := qFtM_1) rfl (fun K hK => ?_) AllReadyH.nil
   ·skip
    go_simp
    have HG1 : Hid (Four (wr.drew.alloc (.cells #[.int .u8 0, .string { data := #[] }, .slice none 0 0, .slice none 0 0] 25)) wr.heap.size (.int .u8 0) (.string ⟨#[]⟩) (.slice none 0 0) (.slice none 0 0)) := Lib.hid (four_new wr.drew _ _ _ _)
    have HB1 : Hid (Below wr.heap.size wr (wr.drew.alloc (.cells #[.int .u8 0, .string { data := #[] }, .slice none 0 0, .slice none 0 0] 25))) := Lib.hid ((Below.refl _ _).drew.alloc (Nat.le_refl _) _)
    have hk2 : (wr.drew.alloc (.cells #[.int .u8 0, .string { data := #[] }, .slice none 0 0, .slice none 0 0] 25)).cell? ⟨w.heap.size, 0, none⟩ = some (.int .u8 kind.toNat) := cell_kept ((Below.refl _ _).alloc (Nat.le_refl _) _) hHeld.2.1
    have hk3 : (wr.drew.alloc (.cells #[.int .u8 0, .string { data := #[] }, .slice none 0 0, .slice none 0 0] 25)).cell? ⟨w.heap.size, 1, none⟩ = some (.string text) := cell_kept ((Below.refl _ _).alloc (Nat.le_refl _) _) hHeld.2.2
    go_wp2_with fail
    refine hK.out _ _ (by exact ⟨HB1.out, hk2, hk3⟩) (fun hHeld => ?_)
    clear hK K
    try simp only [Act.put, sA, sB, sC]
    refine wpAnyH_ready (rs := [4]) (by kernel_rfl) (by simp) ?_
    refine AllReadyH.cons (o := qFtM_0) rfl (fun K hK => ?_) AllReadyH.nil
    go_simp
    (go_at_call 40; refine (HCL.out text _ hts).mono ?_; rintro e w2 ⟨rfl, hb2⟩)
    have HB2 : Hid (Below wr.heap.size wr w2) := Lib.hid (HB1.out.trans (hb2.mono (by simp)))
    have HG2 : Hid (Four w2 wr.heap.size (.int .u8 0) (.string ⟨#[]⟩) (.slice none 0 0) (.slice none 0 0)) := Lib.hid (HG1.out.kept hb2)
    have hk2 := cell_kept hb2 hHeld.2.1
    have hk3 := cell_kept hb2 hHeld.2.2
    clear hb2
    go_wp2_with fail
    refine hK.out _ _ (by exact ⟨HB2.out, hk2, hk3⟩) (fun hHeld => ?_)
    clear hK K
    try simp only [Act.put, sA, sB, sC]
    refine tk 5 qFtM_2 ?_
    try simp only [Act.put, sA, sB, sC]
    refine wpAnyH_ready (rs := [7]) (by kernel_rfl) (by simp) ?_
    refine AllReadyH.cons (o := qFtM_3) rfl (fun K hK => ?_) AllReadyH.nil
    have HKa := Lib.hid hk2
    have HKb := Lib.hid hk3
    clear hHeld hk2 hk3 
    obtain ⟨z0, z1, z2, z3⟩ := HG2.out.cell
    obtain ⟨x0, x1, x2, x3⟩ := HG2.out.open_
    go_simp
    go_wp2_with fail
    refine hK.out _ _ (by exact ⟨below_four HB2.out (Nat.le_refl _) _ _ _ _, far_four HKa.out (by omega), far_four HKb.out (by omega)⟩) (fun hHeld => ?_)
    clear hK K
    try simp only [Act.put, sA, sB, sC]
    refine wpAnyH_done (by kernel_rfl) ?_ _
    go_wp2_with fail
    go_meet
    have hq0 := HG2.out.lt
    have hq1 := HG2.out.set (.int .u8 kind.toNat) (.string text) (.slice none 0 0) (.slice none 0 0)
    have hq2 := (HV.out.kept HB2.out).other (show w.heap.size ≠ wr.heap.size by have := HB2.out.size; omega) (.int .u8 kind.toNat) (.string text) (.slice none 0 0) (.slice none 0 0)
    have hq3 := (HZ.out.kept HB2.out).other (show w.heap.size + 1 ≠ wr.heap.size by have := HB2.out.size; omega) (.int .u8 kind.toNat) (.string text) (.slice none 0 0) (.slice none 0 0)
    have hq4 := below_four (HB.out.trans (HB2.out.mono HB.out.size)) (show w.heap.size ≤ wr.heap.size by have := HB.out.size; have := HB2.out.size; omega) (.int .u8 kind.toNat) (.string text) (.slice none 0 0) (.slice none 0 0)
    have hq5 : w.heap.size + 2 ≤ wr.heap.size := by have := HB2.out.size; omega
    exact ⟨wr.heap.size, rfl, hq5, Lib.hid hq1, Lib.hid hq2, Lib.hid hq3, Lib.hid hq4, by simp at hq0 ⊢; omega⟩
   ·skip
    go_simp
    (go_at_call 40; refine (HCL.out text _ hts).mono ?_; rintro e w2 ⟨rfl, hb2⟩)
    have HB2 : Hid (Below wr.heap.size wr w2) := Lib.hid ((Below.refl _ _).drew.trans hb2)
    have hk2 := cell_kept hb2 hHeld.2.1
    have hk3 := cell_kept hb2 hHeld.2.2
    clear hb2
    go_wp2_with fail
    refine hK.out _ _ (by exact ⟨HB2.out, hk2, hk3⟩) (fun hHeld => ?_)
    clear hK K
    try simp only [Act.put, sA, sB, sC]
    refine tk 5 qFtM_2 ?_
    try simp only [Act.put, sA, sB, sC]
    refine wpAnyH_ready (rs := [6]) (by kernel_rfl) (by simp) ?_
    refine AllReadyH.cons (o := qFtM_1) rfl (fun K hK => ?_) AllReadyH.nil
    go_simp
    have HG2 : Hid (Four (w2.alloc (.cells #[.int .u8 0, .string { data := #[] }, .slice none 0 0, .slice none 0 0] 25)) w2.heap.size (.int .u8 0) (.string ⟨#[]⟩) (.slice none 0 0) (.slice none 0 0)) := Lib.hid (four_new w2 _ _ _ _)
    have HB3 : Hid (Below wr.heap.size wr (w2.alloc (.cells #[.int .u8 0, .string { data := #[] }, .slice none 0 0, .slice none 0 0] 25))) := Lib.hid (HB2.out.alloc HB2.out.size _)
    have hk4 : (w2.alloc (.cells #[.int .u8 0, .string { data := #[] }, .slice none 0 0, .slice none 0 0] 25)).cell? ⟨w.heap.size, 0, none⟩ = some (.int .u8 kind.toNat) := cell_kept ((Below.refl _ _).alloc (Nat.le_refl _) _) hk2
    have hk5 : (w2.alloc (.cells #[.int .u8 0, .string { data := #[] }, .slice none 0 0, .slice none 0 0] 25)).cell? ⟨w.heap.size, 1, none⟩ = some (.string text) := cell_kept ((Below.refl _ _).alloc (Nat.le_refl _) _) hk3
    go_wp2_with fail
    refine hK.out _ _ (by exact ⟨HB3.out, hk4, hk5⟩) (fun hHeld => ?_)
    clear hK K
    try simp only [Act.put, sA, sB, sC]
    refine wpAnyH_ready (rs := [7]) (by kernel_rfl) (by simp) ?_
    refine AllReadyH.cons (o := qFtM_3) rfl (fun K hK => ?_) AllReadyH.nil
    have HKa := Lib.hid hk4
    have HKb := Lib.hid hk5
    clear hHeld hk2 hk3 hk4 hk5
    generalize w2.alloc (.cells #[.int .u8 0, .string { data := #[] }, .slice none 0 0, .slice none 0 0] 25) = w3 at *
    obtain ⟨z0, z1, z2, z3⟩ := HG2.out.cell
    obtain ⟨x0, x1, x2, x3⟩ := HG2.out.open_
    go_simp
    go_wp2_with fail
    refine hK.out _ _ (by exact ⟨below_four HB3.out HB2.out.size _ _ _ _, far_four HKa.out (by have := HB2.out.size; omega), far_four HKb.out (by have := HB2.out.size; omega)⟩) (fun hHeld => ?_)
    clear hK K
    try simp only [Act.put, sA, sB, sC]
    refine wpAnyH_done (by kernel_rfl) ?_ _
    go_wp2_with fail
    go_meet
    have hq0 := HG2.out.lt
    have hq1 := HG2.out.set (.int .u8 kind.toNat) (.string text) (.slice none 0 0) (.slice none 0 0)
    have hq2 := (HV.out.kept HB3.out).other (show w.heap.size ≠ w2.heap.size by have := HB2.out.size; omega) (.int .u8 kind.toNat) (.string text) (.slice none 0 0) (.slice none 0 0)
    have hq3 := (HZ.out.kept HB3.out).other (show w.heap.size + 1 ≠ w2.heap.size by have := HB2.out.size; omega) (.int .u8 kind.toNat) (.string text) (.slice none 0 0) (.slice none 0 0)
    have hq4 := below_four (HB.out.trans (HB3.out.mono HB.out.size)) (show w.heap.size ≤ w2.heap.size by have := HB.out.size; have := HB2.out.size; omega) (.int .u8 kind.toNat) (.string text) (.slice none 0 0) (.slice none 0 0)
    have hq5 : w.heap.size + 2 ≤ w2.heap.size := by have := HB2.out.size; omega
    exact ⟨w2.heap.size, rfl, hq5, Lib.hid hq1, Lib.hid hq2, Lib.hid hq3, Lib.hid hq4, by simp at hq0 ⊢; omega⟩
  case rest =>
   clear c0 c1x c2x c3 HV HZ HB hsz
   obtain ⟨g, rfl, hg, HG, HV, HZ, HB, hgs⟩ := hcut
   have HT0 : Hid (TwoRows wc 0 (g + 1) (.slice none 0 0) [] (.slice none 0 0) []) := Lib.hid (TwoRows.nil wc (Nat.zero_le _) hgs)
   obtain ⟨c0, c1x, c2x, c3⟩ := HV.out.cell
   go_wp2_with fail
   clear c0 c1x c2x c3
   go_loopw [15] (fun i wr => ∃ (k : Nat) (pn : Option Addr) (dn : Nat) (pv : Option Addr) (dv : Nat), k ≤ n ∧ i = .int .i64 k ∧ Hid (TwoRows wr 0 (g + 1) (.slice pn k dn) (names.take k) (.slice pv k dv) (kids.take k)) ∧
    Hid (Four wr g (.int .u8 kind.toNat) (.string text) (.slice pn k dn) (.slice pv k dv)) ∧ Hid (Four wr w.heap.size (.int .u8 kind.toNat) (.string text) (.slice p n cp) (.slice q n d)) ∧ Hid (Four wr (w.heap.size + 1) (.int .u8 0) (.string ⟨#[]⟩) (.slice none 0 0) (.slice none 0 0)) ∧ Hid (Below w.heap.size w wr)) (fun i _ => n - (intOf i).toNat)
   case atStart => exact ⟨0, none, 0, none, 0, Nat.zero_le _, rfl, HT0, HG, HV, HZ, HB⟩
   case round =>
    clear HT0 HG HV HZ HB hgs
    obtain ⟨k, pn, dn, pv, dv, hk, rfl, HT, HG, HV, HZ, HB⟩ := hrel
    by_cases hlt : k < n
    ·have HOLD : Hid (Below W.heap.size W wr) := Lib.hid (HW.out.trans (HB.out.mono HW.out.size))
     have hkn : k < names.length := by rw [HNN.out]; exact hlt
     have hkx : k < kids.length := by rw [HKN.out]; exact hlt
     obtain ⟨b, o, rfl, n0⟩ := name_cell HS.out HOLD.out hkn
     have hxs : (names.getD k ByteArray.empty).size ≤ 281474976710656 := HNB.out k hlt
     have HTN := Lib.hid (take_snoc_d hkn)
     have hlk : (names.take k).length = k := by rw [List.length_take]; omega
     have hll : (kids.take k).length = k := by rw [List.length_take]; omega
     generalize names.getD k ByteArray.empty = x at *
     go_upto_region 5 with fail
     clear n0
     go_cut [] (fun wx => ∃ (pn' : Option Addr) (dn' : Nat), Hid (TwoRows wx 0 (g + 1) (.slice pn' (k + 1) dn') (names.take (k + 1)) (.slice pv k dv) (kids.take k)) ∧
      Hid (Four wx g (.int .u8 kind.toNat) (.string text) (.slice pn' (k + 1) dn') (.slice pv k dv)) ∧ Hid (Four wx w.heap.size (.int .u8 kind.toNat) (.string text) (.slice (some ⟨b, o, none⟩) n cp) (.slice q n d)) ∧ Hid (Four wx (w.heap.size + 1) (.int .u8 0) (.string ⟨#[]⟩) (.slice none 0 0) (.slice none 0 0)) ∧ Hid (Below w.heap.size w wx))
     case first =>
      refine wp_region_held_drew (S := (fun _ => True)) (by kernel_rfl) trivial (fun hHeld => ?_)
      refine tk 0 { dst := some 20, op := Op.fieldAddr 25 (Operand.tmp 3) 2, type := 0, pos := "node.go:137", after := #[], guard := none } ?_
      try simp only [Act.put, sA, sB, sC]
      refine tk 2 { dst := some 22, op := Op.move (Operand.tmp 5), type := 9, pos := "node.go:137", after := #[], guard := none } ?_
      try simp only [Act.put, sA, sB, sC]
      refine wpAnyH_ready (rs := [1, 3]) (by kernel_rfl) (by simp) ?_
      refine AllReadyH.cons (o := qFtM_4) rfl (fun K hK => ?_) ?_
      rotate_left
      refine AllReadyH.cons (o := qFtM_5) rfl (fun K hK => ?_) AllReadyH.nil
      ·skip
       go_simp
       (go_at_call 40; refine (HCL.out x _ hxs).mono ?_; rintro e w2 ⟨rfl, hb2⟩)
       have HB2 : Hid (Below wr.heap.size wr w2) := Lib.hid ((Below.refl _ _).drew.trans hb2)
       have HG2 := Lib.hid (HG.out.kept HB2.out)
       have HT2 := Lib.hid (HT.out.below HB2.out)
       have HRN2 : Hid (w2.ownsRow (g + 1) 9 1 (.slice pn k dn) k ((names.take k).map Value.string)) := Lib.hid (by have := HT2.out.hn; rwa [hlk] at this)
       clear hb2
       go_wp2_with fail
       refine hK.out _ _ (by trivial) (fun hHeld => ?_)
       clear hK K
       try simp only [Act.put, sA, sB, sC]
       refine wpAnyH_ready (rs := [1, 4]) (by kernel_rfl) (by simp) ?_
       refine AllReadyH.cons (o := qFtM_4) rfl (fun K hK => ?_) ?_
       rotate_left
       refine AllReadyH.cons (o := qFtM_6) rfl (fun K hK => ?_) AllReadyH.nil
       ·skip
        go_simp
        have HG3 : Hid (Four (w2.alloc (.cells #[.string x] 9)) g (.int .u8 kind.toNat) (.string text) (.slice pn k dn) (.slice pv k dv)) := Lib.hid (HG2.out.alloc _)
        go_wp2_with fail
        refine hK.out _ _ (by trivial) (fun hHeld => ?_)
        clear hK K
        try simp only [Act.put, sA, sB, sC]
        refine wpAnyH_ready (rs := [1]) (by kernel_rfl) (by simp) ?_
        refine AllReadyH.cons (o := qFtM_4) rfl (fun K hK => ?_) AllReadyH.nil
        obtain ⟨g0, g1, g2, g3⟩ := HG3.out.cell
        go_simp
        go_wp2_with fail
        clear g0 g1 g2 g3
        refine hK.out _ _ (by trivial) (fun hHeld => ?_)
        clear hK K
        try simp only [Act.put, sA, sB, sC]
        refine wpAnyH_ready (rs := [5]) (by kernel_rfl) (by simp) ?_
        refine AllReadyH.cons (o := qFtM_7) rfl (fun K hK => ?_) AllReadyH.nil
        rw [if_pos (by rfl)]
        refine wp_append_own_at2 _ (.tmp 21) (.tmp 24) 22 rfl (g + 1) 9 i0 (.string ⟨#[]⟩) 1 16 Tryz.underlying22 hi hz0 hz1 hz2 rfl (by decide) _ _ _ rfl (HRN2.out.alloc _) ⟨w2.heap.size, 0, none⟩ 1 1 [.string x] rfl rfl (cell_one_lit _ _ _) (by simp [Value.oneCell']) (by unfold maxLen; omega) (by omega) (by have := HT2.out.lt; simp; omega) ?_
        intro v' w4 hown4 hgrow4 hat4
        have HOWN4 := Lib.hid hown4
        have HGR4 := Lib.hid hgrow4
        have HAT4 := Lib.hid hat4
        obtain ⟨pn', dn', rfl⟩ := own_slice hown4
        clear hown4 hgrow4 hat4
        refine hK.out _ _ (by trivial) (fun hHeld => ?_)
        clear hK K
        try simp only [Act.put, sA, sB, sC]
        refine tk 6 qFtM_8 ?_
        try simp only [Act.put, sA, sB, sC]
        refine wpAnyH_ready (rs := [7]) (by kernel_rfl) (by simp) ?_
        refine AllReadyH.cons (o := qFtM_9) rfl (fun K hK => ?_) AllReadyH.nil
        have hrow : ∀ j, j < g + 1 → some j ≠ Value.ownBlock (.slice pn k dn) := fun j hj e => by
         have := (own_where HRN2.out e.symm).1
         omega
        have HG4 := Lib.hid (HG3.out.grown HGR4.out (hrow _ (by omega)))
        have HV4 := Lib.hid (((HV.out.kept HB2.out).alloc (.cells #[.string x] 9)).grown HGR4.out (hrow _ (by omega)))
        have HZ4 := Lib.hid (((HZ.out.kept HB2.out).alloc (.cells #[.string x] 9)).grown HGR4.out (hrow _ (by omega)))
        have HB4 : Hid (Below w.heap.size w w4) := Lib.hid (((HB.out.trans (HB2.out.mono HB.out.size)).alloc (by have := HB2.out.size; have := HB.out.size; omega) (.cells #[.string x] 9)).grown HGR4.out (by have := HB2.out.size; have := HB.out.size; simp; omega) fun j hj => (by have := (own_where HRN2.out hj).1; omega))
        have HT4 : Hid (TwoRows w4 0 (g + 1) (.slice pn' (k + 1) dn') (names.take (k + 1)) (.slice pv k dv) (kids.take k)) := Lib.hid ((HT2.out.kept (w' := w2.alloc (.cells #[.string x] 9)) (by simp) fun b _ hlt => Below.heap_alloc _ _ _ hlt).name (by
         rw [HTN.out, List.length_append, hlk, List.map_append]
         exact HOWN4.out) HGR4.out HAT4.out)
        clear hrow
        obtain ⟨z0, z1, z2, z3⟩ := HG4.out.cell
        obtain ⟨x0, x1, x2, x3⟩ := HG4.out.open_
        go_simp
        go_wp2_with fail
        refine hK.out _ _ (by trivial) (fun hHeld => ?_)
        clear hK K
        try simp only [Act.put, sA, sB, sC]
        refine wpAnyH_done (by kernel_rfl) ?_ _
        go_wp2_with fail
        go_meet
        exact ⟨pn', dn', Lib.hid (HT4.out.kept (by simp) fun b hb _ => heap_setCell_other _ _ _ _ (by simp; omega)), Lib.hid (HG4.out.set1 _), Lib.hid (HV4.out.far (by omega) _), Lib.hid (HZ4.out.far (by omega) _), Lib.hid (HB4.out.setCell (p := ⟨g, 2, none⟩) (show w.heap.size ≤ g by omega) _)⟩
       ·skip
        obtain ⟨g0, g1, g2, g3⟩ := HG2.out.cell
        go_simp
        go_wp2_with fail
        clear g0 g1 g2 g3
        refine hK.out _ _ (by trivial) (fun hHeld => ?_)
        clear hK K
        try simp only [Act.put, sA, sB, sC]
        refine wpAnyH_ready (rs := [4]) (by kernel_rfl) (by simp) ?_
        refine AllReadyH.cons (o := qFtM_6) rfl (fun K hK => ?_) AllReadyH.nil
        go_simp
        have HG3 : Hid (Four (w2.alloc (.cells #[.string x] 9)) g (.int .u8 kind.toNat) (.string text) (.slice pn k dn) (.slice pv k dv)) := Lib.hid (HG2.out.alloc _)
        go_wp2_with fail
        refine hK.out _ _ (by trivial) (fun hHeld => ?_)
        clear hK K
        try simp only [Act.put, sA, sB, sC]
        refine wpAnyH_ready (rs := [5]) (by kernel_rfl) (by simp) ?_
        refine AllReadyH.cons (o := qFtM_7) rfl (fun K hK => ?_) AllReadyH.nil
        rw [if_pos (by rfl)]
        refine wp_append_own_at2 _ (.tmp 21) (.tmp 24) 22 rfl (g + 1) 9 i0 (.string ⟨#[]⟩) 1 16 Tryz.underlying22 hi hz0 hz1 hz2 rfl (by decide) _ _ _ rfl (HRN2.out.alloc _) ⟨w2.heap.size, 0, none⟩ 1 1 [.string x] rfl rfl (cell_one_lit _ _ _) (by simp [Value.oneCell']) (by unfold maxLen; omega) (by omega) (by have := HT2.out.lt; simp; omega) ?_
        intro v' w4 hown4 hgrow4 hat4
        have HOWN4 := Lib.hid hown4
        have HGR4 := Lib.hid hgrow4
        have HAT4 := Lib.hid hat4
        obtain ⟨pn', dn', rfl⟩ := own_slice hown4
        clear hown4 hgrow4 hat4
        refine hK.out _ _ (by trivial) (fun hHeld => ?_)
        clear hK K
        try simp only [Act.put, sA, sB, sC]
        refine tk 6 qFtM_8 ?_
        try simp only [Act.put, sA, sB, sC]
        refine wpAnyH_ready (rs := [7]) (by kernel_rfl) (by simp) ?_
        refine AllReadyH.cons (o := qFtM_9) rfl (fun K hK => ?_) AllReadyH.nil
        have hrow : ∀ j, j < g + 1 → some j ≠ Value.ownBlock (.slice pn k dn) := fun j hj e => by
         have := (own_where HRN2.out e.symm).1
         omega
        have HG4 := Lib.hid (HG3.out.grown HGR4.out (hrow _ (by omega)))
        have HV4 := Lib.hid (((HV.out.kept HB2.out).alloc (.cells #[.string x] 9)).grown HGR4.out (hrow _ (by omega)))
        have HZ4 := Lib.hid (((HZ.out.kept HB2.out).alloc (.cells #[.string x] 9)).grown HGR4.out (hrow _ (by omega)))
        have HB4 : Hid (Below w.heap.size w w4) := Lib.hid (((HB.out.trans (HB2.out.mono HB.out.size)).alloc (by have := HB2.out.size; have := HB.out.size; omega) (.cells #[.string x] 9)).grown HGR4.out (by have := HB2.out.size; have := HB.out.size; simp; omega) fun j hj => (by have := (own_where HRN2.out hj).1; omega))
        have HT4 : Hid (TwoRows w4 0 (g + 1) (.slice pn' (k + 1) dn') (names.take (k + 1)) (.slice pv k dv) (kids.take k)) := Lib.hid ((HT2.out.kept (w' := w2.alloc (.cells #[.string x] 9)) (by simp) fun b _ hlt => Below.heap_alloc _ _ _ hlt).name (by
         rw [HTN.out, List.length_append, hlk, List.map_append]
         exact HOWN4.out) HGR4.out HAT4.out)
        clear hrow
        obtain ⟨z0, z1, z2, z3⟩ := HG4.out.cell
        obtain ⟨x0, x1, x2, x3⟩ := HG4.out.open_
        go_simp
        go_wp2_with fail
        refine hK.out _ _ (by trivial) (fun hHeld => ?_)
        clear hK K
        try simp only [Act.put, sA, sB, sC]
        refine wpAnyH_done (by kernel_rfl) ?_ _
        go_wp2_with fail
        go_meet
        exact ⟨pn', dn', Lib.hid (HT4.out.kept (by simp) fun b hb _ => heap_setCell_other _ _ _ _ (by simp; omega)), Lib.hid (HG4.out.set1 _), Lib.hid (HV4.out.far (by omega) _), Lib.hid (HZ4.out.far (by omega) _), Lib.hid (HB4.out.setCell (p := ⟨g, 2, none⟩) (show w.heap.size ≤ g by omega) _)⟩
      ·skip
       have HGd : Hid (Four wr.drew g (.int .u8 kind.toNat) (.string text) (.slice pn k dn) (.slice pv k dv)) := Lib.hid HG.out
       obtain ⟨g0, g1, g2, g3⟩ := HGd.out.cell
       go_simp
       go_wp2_with fail
       clear g0 g1 g2 g3
       refine hK.out _ _ (by trivial) (fun hHeld => ?_)
       clear hK K
       try simp only [Act.put, sA, sB, sC]
       refine wpAnyH_ready (rs := [3]) (by kernel_rfl) (by simp) ?_
       refine AllReadyH.cons (o := qFtM_5) rfl (fun K hK => ?_) AllReadyH.nil
       go_simp
       (go_at_call 40; refine (HCL.out x _ hxs).mono ?_; rintro e w2 ⟨rfl, hb2⟩)
       have HB2 : Hid (Below wr.heap.size wr w2) := Lib.hid ((Below.refl _ _).drew.trans hb2)
       have HG2 := Lib.hid (HG.out.kept HB2.out)
       have HT2 := Lib.hid (HT.out.below HB2.out)
       have HRN2 : Hid (w2.ownsRow (g + 1) 9 1 (.slice pn k dn) k ((names.take k).map Value.string)) := Lib.hid (by have := HT2.out.hn; rwa [hlk] at this)
       clear hb2
       go_wp2_with fail
       refine hK.out _ _ (by trivial) (fun hHeld => ?_)
       clear hK K
       try simp only [Act.put, sA, sB, sC]
       refine wpAnyH_ready (rs := [4]) (by kernel_rfl) (by simp) ?_
       refine AllReadyH.cons (o := qFtM_6) rfl (fun K hK => ?_) AllReadyH.nil
       go_simp
       have HG3 : Hid (Four (w2.alloc (.cells #[.string x] 9)) g (.int .u8 kind.toNat) (.string text) (.slice pn k dn) (.slice pv k dv)) := Lib.hid (HG2.out.alloc _)
       go_wp2_with fail
       refine hK.out _ _ (by trivial) (fun hHeld => ?_)
       clear hK K
       try simp only [Act.put, sA, sB, sC]
       refine wpAnyH_ready (rs := [5]) (by kernel_rfl) (by simp) ?_
       refine AllReadyH.cons (o := qFtM_7) rfl (fun K hK => ?_) AllReadyH.nil
       rw [if_pos (by rfl)]
       refine wp_append_own_at2 _ (.tmp 21) (.tmp 24) 22 rfl (g + 1) 9 i0 (.string ⟨#[]⟩) 1 16 Tryz.underlying22 hi hz0 hz1 hz2 rfl (by decide) _ _ _ rfl (HRN2.out.alloc _) ⟨w2.heap.size, 0, none⟩ 1 1 [.string x] rfl rfl (cell_one_lit _ _ _) (by simp [Value.oneCell']) (by unfold maxLen; omega) (by omega) (by have := HT2.out.lt; simp; omega) ?_
       intro v' w4 hown4 hgrow4 hat4
       have HOWN4 := Lib.hid hown4
       have HGR4 := Lib.hid hgrow4
       have HAT4 := Lib.hid hat4
       obtain ⟨pn', dn', rfl⟩ := own_slice hown4
       clear hown4 hgrow4 hat4
       refine hK.out _ _ (by trivial) (fun hHeld => ?_)
       clear hK K
       try simp only [Act.put, sA, sB, sC]
       refine tk 6 qFtM_8 ?_
       try simp only [Act.put, sA, sB, sC]
       refine wpAnyH_ready (rs := [7]) (by kernel_rfl) (by simp) ?_
       refine AllReadyH.cons (o := qFtM_9) rfl (fun K hK => ?_) AllReadyH.nil
       have hrow : ∀ j, j < g + 1 → some j ≠ Value.ownBlock (.slice pn k dn) := fun j hj e => by
        have := (own_where HRN2.out e.symm).1
        omega
       have HG4 := Lib.hid (HG3.out.grown HGR4.out (hrow _ (by omega)))
       have HV4 := Lib.hid (((HV.out.kept HB2.out).alloc (.cells #[.string x] 9)).grown HGR4.out (hrow _ (by omega)))
       have HZ4 := Lib.hid (((HZ.out.kept HB2.out).alloc (.cells #[.string x] 9)).grown HGR4.out (hrow _ (by omega)))
       have HB4 : Hid (Below w.heap.size w w4) := Lib.hid (((HB.out.trans (HB2.out.mono HB.out.size)).alloc (by have := HB2.out.size; have := HB.out.size; omega) (.cells #[.string x] 9)).grown HGR4.out (by have := HB2.out.size; have := HB.out.size; simp; omega) fun j hj => (by have := (own_where HRN2.out hj).1; omega))
       have HT4 : Hid (TwoRows w4 0 (g + 1) (.slice pn' (k + 1) dn') (names.take (k + 1)) (.slice pv k dv) (kids.take k)) := Lib.hid ((HT2.out.kept (w' := w2.alloc (.cells #[.string x] 9)) (by simp) fun b _ hlt => Below.heap_alloc _ _ _ hlt).name (by
        rw [HTN.out, List.length_append, hlk, List.map_append]
        exact HOWN4.out) HGR4.out HAT4.out)
       clear hrow
       obtain ⟨z0, z1, z2, z3⟩ := HG4.out.cell
       obtain ⟨x0, x1, x2, x3⟩ := HG4.out.open_
       go_simp
       go_wp2_with fail
       refine hK.out _ _ (by trivial) (fun hHeld => ?_)
       clear hK K
       try simp only [Act.put, sA, sB, sC]
       refine wpAnyH_done (by kernel_rfl) ?_ _
       go_wp2_with fail
       go_meet
       exact ⟨pn', dn', Lib.hid (HT4.out.kept (by simp) fun b hb _ => heap_setCell_other _ _ _ _ (by simp; omega)), Lib.hid (HG4.out.set1 _), Lib.hid (HV4.out.far (by omega) _), Lib.hid (HZ4.out.far (by omega) _), Lib.hid (HB4.out.setCell (p := ⟨g, 2, none⟩) (show w.heap.size ≤ g by omega) _)⟩
     case rest =>
      clear HT HG HV HZ HB HOLD
      obtain ⟨pn', dn', HT, HG, HV, HZ, HB⟩ := hcut
      generalize wc = wr at *
      have HOLD : Hid (Below W.heap.size W wr) := Lib.hid (HW.out.trans (HB.out.mono HW.out.size))
      have HX := Lib.hid (List.getElem?_eq_getElem hkx)
      have HTK : Hid (kids.take (k + 1) = kids.take k ++ [kids[k]]) := Lib.hid (List.take_succ_eq_append_getElem hkx)
      have hmem : kids[k] ∈ kids := List.getElem_mem hkx
      have hxw : kids[k].well = true := HWK.out _ hmem
      have hxb : kids[k].girth ≤ 200000000 := Nat.le_trans (Nd.girth_kid HX.out) hkb
      have HCC := Lib.hid (IH.out k kids[k] HX.out)
      generalize kids[k] = kd at *
      clear hmem
      obtain ⟨bq, oq, u0, u1, u2, u3, rfl, hD, e0, e1, e2, e3⟩ := kid_at HR.out HOLD.out hlt
      obtain ⟨bq2, oq2, _, _, _, _, hbo, _, eW, _, _, _⟩ := kid_at HR.out (Below.refl _ _) hlt
      obtain ⟨rfl, rfl⟩ : bq = bq2 ∧ oq = oq2 := by simpa using hbo
      have hbq : bq < w.heap.size := Nat.lt_of_lt_of_le (block_of_cell eW) HW.out.size
      have HC : Hid (∀ wx, Below wr.heap.size wr wx → Calls Tryz.prog 24 #[.agg #[u0, u1, u2, u3]] wx fun e w' => (∃ vs, e = .returned (.agg vs) ∧ NodeX w' (fun b => wx.heap.size ≤ b ∧ b < w'.heap.size) vs.toList kd) ∧ Below wx.heap.size wx w') := Lib.hid fun wx hb => by
       have := HCC.out wx (HOLD.out.trans (hb.mono HOLD.out.size)) hxb (.inl hxw)
       rwa [hD] at this
      clear hD hbo eW HCC
      have c3 : wr.cell? ⟨w.heap.size, 3, none⟩ = some (.slice (some ⟨bq, oq, none⟩) n d) := HV.out.cell.2.2.2
      go_upto_region 6 with fail
      refine wp_region_held_drew (S := (fun wx => wx.cell? ⟨w.heap.size, 3, none⟩ = some (.slice (some ⟨bq, oq, none⟩) n d) ∧ wx.cell? ⟨bq, oq + k * 4, none⟩ = some u0 ∧ wx.cell? ⟨bq, oq + k * 4 + 1, none⟩ = some u1 ∧ wx.cell? ⟨bq, oq + k * 4 + 2, none⟩ = some u2 ∧ wx.cell? ⟨bq, oq + k * 4 + 3, none⟩ = some u3)) (by kernel_rfl) ⟨c3, e0, e1, e2, e3⟩ (fun hHeld => ?_)
      refine tk 0 { dst := some 27, op := Op.fieldAddr 25 (Operand.tmp 3) 3, type := 0, pos := "node.go:138", after := #[], guard := none } ?_
      try simp only [Act.put, sA, sB, sC]
      refine tk 2 { dst := some 29, op := Op.fieldAddr 25 (Operand.tmp 1) 3, type := 0, pos := "node.go:138", after := #[], guard := none } ?_
      try simp only [Act.put, sA, sB, sC]
      refine tk 3 { dst := some 30, op := Op.load 23 (Operand.tmp 29), type := 23, pos := "node.go:138", after := #[{ on := 2, ground := Ground.data }], guard := none } ?_
      try simp only [Act.put, sA, sB, sC]
      refine tk 4 { dst := some 31, op := Op.move (Operand.tmp 4), type := 3, pos := "node.go:138", after := #[], guard := none } ?_
      try simp only [Act.put, sA, sB, sC]
      refine tk 5 { dst := some 32, op := Op.indexAddr 23 (Operand.tmp 30) (Operand.tmp 31), type := 0, pos := "node.go:138", after := #[{ on := 3, ground := Ground.data }, { on := 4, ground := Ground.data }], guard := none } ?_
      try simp only [Act.put, sA, sB, sC]
      refine tk 6 { dst := some 33, op := Op.load 25 (Operand.tmp 32), type := 25, pos := "node.go:138", after := #[{ on := 5, ground := Ground.data }], guard := none } ?_
      try simp only [Act.put, sA, sB, sC]
      refine wpAnyH_ready (rs := [1, 7]) (by kernel_rfl) (by simp) ?_
      refine AllReadyH.cons (o := qFtM_10) rfl (fun K hK => ?_) ?_
      rotate_left
      refine AllReadyH.cons (o := qFtM_11) rfl (fun K hK => ?_) AllReadyH.nil
      ·skip
       go_simp
       (go_at_call 24; refine (HC.out _ (Below.refl _ _).drew).mono ?_; rintro e w2 ⟨⟨vs, rfl, hvs⟩, hb2⟩)
       have HS6 : Hid ((fun wx => wx.cell? ⟨w.heap.size, 3, none⟩ = some (.slice (some ⟨bq, oq, none⟩) n d) ∧ wx.cell? ⟨bq, oq + k * 4, none⟩ = some u0 ∧ wx.cell? ⟨bq, oq + k * 4 + 1, none⟩ = some u1 ∧ wx.cell? ⟨bq, oq + k * 4 + 2, none⟩ = some u2 ∧ wx.cell? ⟨bq, oq + k * 4 + 3, none⟩ = some u3) w2) := Lib.hid (by
        obtain ⟨s0, s1, s2, s3, s4⟩ := hHeld
        exact ⟨cell_kept hb2 s0, cell_kept hb2 s1, cell_kept hb2 s2, cell_kept hb2 s3, cell_kept hb2 s4⟩)
       have HB2 : Hid (Below wr.heap.size wr w2) := Lib.hid ((Below.refl _ _).drew.trans hb2)
       have HF2 := Lib.hid (HT.out.fresh HB2.out.size hvs)
       have HG2 := Lib.hid (HG.out.kept HB2.out)
       have HT2 := Lib.hid (HT.out.below HB2.out)
       obtain ⟨p4, q4, c4, d4, rfl⟩ := nodeX_cells hvs
       obtain ⟨xs, hxs⟩ : ∃ xs, w2.ownsRow (g + 1) 25 4 (.slice pv k dv) k xs := by
        obtain ⟨xs, h1, _⟩ := HT2.out.hk
        rw [hll] at h1
        exact ⟨xs, h1⟩
       have HXS := Lib.hid hxs
       clear hb2 hvs hxs
       generalize kd.kind.toNat = xk at *
       generalize kd.text = xt at *
       generalize kd.names.length = xn at *
       generalize kd.kids.length = xm at *
       go_wp2_with fail
       refine hK.out _ _ (by exact HS6.out) (fun hHeld => ?_)
       clear hK K
       try simp only [Act.put, sA, sB, sC]
       refine wpAnyH_ready (rs := [1, 8]) (by kernel_rfl) (by simp) ?_
       refine AllReadyH.cons (o := qFtM_10) rfl (fun K hK => ?_) ?_
       rotate_left
       refine AllReadyH.cons (o := qFtM_12) rfl (fun K hK => ?_) AllReadyH.nil
       ·skip
        go_simp
        have HG3 : Hid (Four (w2.alloc (.cells #[.int .u8 xk, .string xt, .slice p4 xn c4, .slice q4 xm d4] 25)) g (.int .u8 kind.toNat) (.string text) (.slice pn' (k + 1) dn') (.slice pv k dv)) := Lib.hid (HG2.out.alloc _)
        have HS7 : Hid ((fun wx => wx.cell? ⟨w.heap.size, 3, none⟩ = some (.slice (some ⟨bq, oq, none⟩) n d) ∧ wx.cell? ⟨bq, oq + k * 4, none⟩ = some u0 ∧ wx.cell? ⟨bq, oq + k * 4 + 1, none⟩ = some u1 ∧ wx.cell? ⟨bq, oq + k * 4 + 2, none⟩ = some u2 ∧ wx.cell? ⟨bq, oq + k * 4 + 3, none⟩ = some u3) (w2.alloc (.cells #[.int .u8 xk, .string xt, .slice p4 xn c4, .slice q4 xm d4] 25))) := Lib.hid (by
         obtain ⟨s0, s1, s2, s3, s4⟩ := HS6.out
         have hb2 : Below w2.heap.size w2 (w2.alloc (.cells #[.int .u8 xk, .string xt, .slice p4 xn c4, .slice q4 xm d4] 25)) := (Below.refl _ _).alloc (Nat.le_refl _) _
         exact ⟨cell_kept hb2 s0, cell_kept hb2 s1, cell_kept hb2 s2, cell_kept hb2 s3, cell_kept hb2 s4⟩)
        go_wp2_with fail
        refine hK.out _ _ (by exact HS7.out) (fun hHeld => ?_)
        clear hK K
        try simp only [Act.put, sA, sB, sC]
        refine wpAnyH_ready (rs := [1]) (by kernel_rfl) (by simp) ?_
        refine AllReadyH.cons (o := qFtM_10) rfl (fun K hK => ?_) AllReadyH.nil
        obtain ⟨g0, g1, g2, g3⟩ := HG3.out.cell
        go_simp
        go_wp2_with fail
        clear g0 g1 g2 g3
        refine hK.out _ _ (by assumption) (fun hHeld => ?_)
        clear hK K
        try simp only [Act.put, sA, sB, sC]
        refine wpAnyH_ready (rs := [9]) (by kernel_rfl) (by simp) ?_
        refine AllReadyH.cons (o := qFtM_13) rfl (fun K hK => ?_) AllReadyH.nil
        rw [if_pos (by rfl)]
        refine wp_append_own_at2 _ (.tmp 28) (.tmp 35) 23 rfl (g + 1) 25 j0 _ 4 72 Tryz.underlying23 hj hy0 hy1 hy2 rfl (by decide) _ _ _ rfl (HXS.out.alloc _) ⟨w2.heap.size, 0, none⟩ 1 1 [.int .u8 xk, .string xt, .slice p4 xn c4, .slice q4 xm d4] rfl rfl (cells_four_lit _ _ _ _ _ _) (by simp [Value.oneCell']) (by unfold maxLen; omega) (by omega) (by have := HT2.out.lt; simp; omega) ?_
        intro v' w4 hown4 hgrow4 hat4
        have HOWN4 := Lib.hid hown4
        have HGR4 := Lib.hid hgrow4
        have HAT4 := Lib.hid hat4
        obtain ⟨pv', dv', rfl⟩ := own_slice hown4
        clear hown4 hgrow4 hat4
        have hrow : ∀ j, j < g + 1 → some j ≠ Value.ownBlock (.slice pv k dv) := fun j hj e => by
         have := (own_where HXS.out e.symm).1
         omega
        have HS8 : Hid ((fun wx => wx.cell? ⟨w.heap.size, 3, none⟩ = some (.slice (some ⟨bq, oq, none⟩) n d) ∧ wx.cell? ⟨bq, oq + k * 4, none⟩ = some u0 ∧ wx.cell? ⟨bq, oq + k * 4 + 1, none⟩ = some u1 ∧ wx.cell? ⟨bq, oq + k * 4 + 2, none⟩ = some u2 ∧ wx.cell? ⟨bq, oq + k * 4 + 3, none⟩ = some u3) w4) := Lib.hid (by
         obtain ⟨s0, s1, s2, s3, s4⟩ := HS7.out
         exact ⟨cell_grownBy HGR4.out s0 (hrow _ (by omega)), cell_grownBy HGR4.out s1 (hrow _ (by omega)), cell_grownBy HGR4.out s2 (hrow _ (by omega)), cell_grownBy HGR4.out s3 (hrow _ (by omega)), cell_grownBy HGR4.out s4 (hrow _ (by omega))⟩)
        refine hK.out _ _ (by exact HS8.out) (fun hHeld => ?_)
        clear hK K
        try simp only [Act.put, sA, sB, sC]
        refine tk 10 qFtM_14 ?_
        try simp only [Act.put, sA, sB, sC]
        refine wpAnyH_ready (rs := [11]) (by kernel_rfl) (by simp) ?_
        refine AllReadyH.cons (o := qFtM_15) rfl (fun K hK => ?_) AllReadyH.nil
        have HG4 := Lib.hid (HG3.out.grown HGR4.out (hrow _ (by omega)))
        have HV4 := Lib.hid (((HV.out.kept HB2.out).alloc (.cells #[.int .u8 xk, .string xt, .slice p4 xn c4, .slice q4 xm d4] 25)).grown HGR4.out (hrow _ (by omega)))
        have HZ4 := Lib.hid (((HZ.out.kept HB2.out).alloc (.cells #[.int .u8 xk, .string xt, .slice p4 xn c4, .slice q4 xm d4] 25)).grown HGR4.out (hrow _ (by omega)))
        have HB4 : Hid (Below w.heap.size w w4) := Lib.hid (((HB.out.trans (HB2.out.mono HB.out.size)).alloc (by have := HB2.out.size; have := HB.out.size; omega) (.cells #[.int .u8 xk, .string xt, .slice p4 xn c4, .slice q4 xm d4] 25)).grown HGR4.out (by have := HB2.out.size; have := HB.out.size; simp; omega) fun j hj => (by have := (own_where HXS.out hj).1; omega))
        have HT4 : Hid (TwoRows w4 0 (g + 1) (.slice pn' (k + 1) dn') (names.take (k + 1)) (.slice pv' (k + 1) dv') (kids.take (k + 1))) := Lib.hid (by
         rw [HTK.out]
         refine (HT2.out.kept (w' := w2.alloc (.cells #[.int .u8 xk, .string xt, .slice p4 xn c4, .slice q4 xm d4] 25)) (by simp) fun b _ hlt => Below.heap_alloc _ _ _ hlt).kid rfl (free_alloc HF2.out (Nat.zero_le _) _) (fun ys hys => ?_) HGR4.out HAT4.out
         rw [hll] at hys ⊢
         rw [own_unique hys (HXS.out.alloc _)]
         exact HOWN4.out)
        clear hrow
        obtain ⟨z0, z1, z2, z3⟩ := HG4.out.cell
        obtain ⟨x0, x1, x2, x3⟩ := HG4.out.open_
        clear hHeld
        go_simp
        go_wp2_with fail
        refine hK.out _ _ (by (obtain ⟨s0, s1, s2, s3, s4⟩ := HS8.out; exact ⟨cell_set_far s0 (by omega), cell_set_far s1 (by omega), cell_set_far s2 (by omega), cell_set_far s3 (by omega), cell_set_far s4 (by omega)⟩)) (fun hHeld => ?_)
        clear hK K
        try simp only [Act.put, sA, sB, sC]
        refine wpAnyH_done (by kernel_rfl) ?_ _
        clear hHeld z0 z1 z2 z3 x0 x1 x2 x3
        have HTn := Lib.hid (HT4.out.kept (w' := w4.setCell ⟨g, 3, none⟩ (.slice pv' (k + 1) dv')) (by simp) fun b hb _ => heap_setCell_other _ _ _ _ (by simp; omega))
        have HGn := Lib.hid (HG4.out.set3 (.slice pv' (k + 1) dv'))
        have HVn := Lib.hid (HV4.out.far (k := g) (j := 3) (by omega) (.slice pv' (k + 1) dv'))
        have HZn := Lib.hid (HZ4.out.far (k := g) (j := 3) (by omega) (.slice pv' (k + 1) dv'))
        have HBn := Lib.hid (HB4.out.setCell (p := ⟨g, 3, none⟩) (show w.heap.size ≤ g by omega) (.slice pv' (k + 1) dv'))
        generalize w4.setCell ⟨g, 3, none⟩ (.slice pv' (k + 1) dv') = w9 at *
        go_wp2_with fail
        go_roundw
        case rel => exact ⟨k + 1, pn', dn', pv', dv', by omega, by go_num, HTn, HGn, HVn, HZn, HBn⟩
        case measure => simp [intOf]; omega
       ·skip
        obtain ⟨g0, g1, g2, g3⟩ := HG2.out.cell
        go_simp
        go_wp2_with fail
        clear g0 g1 g2 g3
        refine hK.out _ _ (by assumption) (fun hHeld => ?_)
        clear hK K
        try simp only [Act.put, sA, sB, sC]
        refine wpAnyH_ready (rs := [8]) (by kernel_rfl) (by simp) ?_
        refine AllReadyH.cons (o := qFtM_12) rfl (fun K hK => ?_) AllReadyH.nil
        go_simp
        have HG3 : Hid (Four (w2.alloc (.cells #[.int .u8 xk, .string xt, .slice p4 xn c4, .slice q4 xm d4] 25)) g (.int .u8 kind.toNat) (.string text) (.slice pn' (k + 1) dn') (.slice pv k dv)) := Lib.hid (HG2.out.alloc _)
        have HS7 : Hid ((fun wx => wx.cell? ⟨w.heap.size, 3, none⟩ = some (.slice (some ⟨bq, oq, none⟩) n d) ∧ wx.cell? ⟨bq, oq + k * 4, none⟩ = some u0 ∧ wx.cell? ⟨bq, oq + k * 4 + 1, none⟩ = some u1 ∧ wx.cell? ⟨bq, oq + k * 4 + 2, none⟩ = some u2 ∧ wx.cell? ⟨bq, oq + k * 4 + 3, none⟩ = some u3) (w2.alloc (.cells #[.int .u8 xk, .string xt, .slice p4 xn c4, .slice q4 xm d4] 25))) := Lib.hid (by
         obtain ⟨s0, s1, s2, s3, s4⟩ := HS6.out
         have hb2 : Below w2.heap.size w2 (w2.alloc (.cells #[.int .u8 xk, .string xt, .slice p4 xn c4, .slice q4 xm d4] 25)) := (Below.refl _ _).alloc (Nat.le_refl _) _
         exact ⟨cell_kept hb2 s0, cell_kept hb2 s1, cell_kept hb2 s2, cell_kept hb2 s3, cell_kept hb2 s4⟩)
        go_wp2_with fail
        refine hK.out _ _ (by exact HS7.out) (fun hHeld => ?_)
        clear hK K
        try simp only [Act.put, sA, sB, sC]
        refine wpAnyH_ready (rs := [9]) (by kernel_rfl) (by simp) ?_
        refine AllReadyH.cons (o := qFtM_13) rfl (fun K hK => ?_) AllReadyH.nil
        rw [if_pos (by rfl)]
        refine wp_append_own_at2 _ (.tmp 28) (.tmp 35) 23 rfl (g + 1) 25 j0 _ 4 72 Tryz.underlying23 hj hy0 hy1 hy2 rfl (by decide) _ _ _ rfl (HXS.out.alloc _) ⟨w2.heap.size, 0, none⟩ 1 1 [.int .u8 xk, .string xt, .slice p4 xn c4, .slice q4 xm d4] rfl rfl (cells_four_lit _ _ _ _ _ _) (by simp [Value.oneCell']) (by unfold maxLen; omega) (by omega) (by have := HT2.out.lt; simp; omega) ?_
        intro v' w4 hown4 hgrow4 hat4
        have HOWN4 := Lib.hid hown4
        have HGR4 := Lib.hid hgrow4
        have HAT4 := Lib.hid hat4
        obtain ⟨pv', dv', rfl⟩ := own_slice hown4
        clear hown4 hgrow4 hat4
        have hrow : ∀ j, j < g + 1 → some j ≠ Value.ownBlock (.slice pv k dv) := fun j hj e => by
         have := (own_where HXS.out e.symm).1
         omega
        have HS8 : Hid ((fun wx => wx.cell? ⟨w.heap.size, 3, none⟩ = some (.slice (some ⟨bq, oq, none⟩) n d) ∧ wx.cell? ⟨bq, oq + k * 4, none⟩ = some u0 ∧ wx.cell? ⟨bq, oq + k * 4 + 1, none⟩ = some u1 ∧ wx.cell? ⟨bq, oq + k * 4 + 2, none⟩ = some u2 ∧ wx.cell? ⟨bq, oq + k * 4 + 3, none⟩ = some u3) w4) := Lib.hid (by
         obtain ⟨s0, s1, s2, s3, s4⟩ := HS7.out
         exact ⟨cell_grownBy HGR4.out s0 (hrow _ (by omega)), cell_grownBy HGR4.out s1 (hrow _ (by omega)), cell_grownBy HGR4.out s2 (hrow _ (by omega)), cell_grownBy HGR4.out s3 (hrow _ (by omega)), cell_grownBy HGR4.out s4 (hrow _ (by omega))⟩)
        refine hK.out _ _ (by exact HS8.out) (fun hHeld => ?_)
        clear hK K
        try simp only [Act.put, sA, sB, sC]
        refine tk 10 qFtM_14 ?_
        try simp only [Act.put, sA, sB, sC]
        refine wpAnyH_ready (rs := [11]) (by kernel_rfl) (by simp) ?_
        refine AllReadyH.cons (o := qFtM_15) rfl (fun K hK => ?_) AllReadyH.nil
        have HG4 := Lib.hid (HG3.out.grown HGR4.out (hrow _ (by omega)))
        have HV4 := Lib.hid (((HV.out.kept HB2.out).alloc (.cells #[.int .u8 xk, .string xt, .slice p4 xn c4, .slice q4 xm d4] 25)).grown HGR4.out (hrow _ (by omega)))
        have HZ4 := Lib.hid (((HZ.out.kept HB2.out).alloc (.cells #[.int .u8 xk, .string xt, .slice p4 xn c4, .slice q4 xm d4] 25)).grown HGR4.out (hrow _ (by omega)))
        have HB4 : Hid (Below w.heap.size w w4) := Lib.hid (((HB.out.trans (HB2.out.mono HB.out.size)).alloc (by have := HB2.out.size; have := HB.out.size; omega) (.cells #[.int .u8 xk, .string xt, .slice p4 xn c4, .slice q4 xm d4] 25)).grown HGR4.out (by have := HB2.out.size; have := HB.out.size; simp; omega) fun j hj => (by have := (own_where HXS.out hj).1; omega))
        have HT4 : Hid (TwoRows w4 0 (g + 1) (.slice pn' (k + 1) dn') (names.take (k + 1)) (.slice pv' (k + 1) dv') (kids.take (k + 1))) := Lib.hid (by
         rw [HTK.out]
         refine (HT2.out.kept (w' := w2.alloc (.cells #[.int .u8 xk, .string xt, .slice p4 xn c4, .slice q4 xm d4] 25)) (by simp) fun b _ hlt => Below.heap_alloc _ _ _ hlt).kid rfl (free_alloc HF2.out (Nat.zero_le _) _) (fun ys hys => ?_) HGR4.out HAT4.out
         rw [hll] at hys ⊢
         rw [own_unique hys (HXS.out.alloc _)]
         exact HOWN4.out)
        clear hrow
        obtain ⟨z0, z1, z2, z3⟩ := HG4.out.cell
        obtain ⟨x0, x1, x2, x3⟩ := HG4.out.open_
        clear hHeld
        go_simp
        go_wp2_with fail
        refine hK.out _ _ (by (obtain ⟨s0, s1, s2, s3, s4⟩ := HS8.out; exact ⟨cell_set_far s0 (by omega), cell_set_far s1 (by omega), cell_set_far s2 (by omega), cell_set_far s3 (by omega), cell_set_far s4 (by omega)⟩)) (fun hHeld => ?_)
        clear hK K
        try simp only [Act.put, sA, sB, sC]
        refine wpAnyH_done (by kernel_rfl) ?_ _
        clear hHeld z0 z1 z2 z3 x0 x1 x2 x3
        have HTn := Lib.hid (HT4.out.kept (w' := w4.setCell ⟨g, 3, none⟩ (.slice pv' (k + 1) dv')) (by simp) fun b hb _ => heap_setCell_other _ _ _ _ (by simp; omega))
        have HGn := Lib.hid (HG4.out.set3 (.slice pv' (k + 1) dv'))
        have HVn := Lib.hid (HV4.out.far (k := g) (j := 3) (by omega) (.slice pv' (k + 1) dv'))
        have HZn := Lib.hid (HZ4.out.far (k := g) (j := 3) (by omega) (.slice pv' (k + 1) dv'))
        have HBn := Lib.hid (HB4.out.setCell (p := ⟨g, 3, none⟩) (show w.heap.size ≤ g by omega) (.slice pv' (k + 1) dv'))
        generalize w4.setCell ⟨g, 3, none⟩ (.slice pv' (k + 1) dv') = w9 at *
        go_wp2_with fail
        go_roundw
        case rel => exact ⟨k + 1, pn', dn', pv', dv', by omega, by go_num, HTn, HGn, HVn, HZn, HBn⟩
        case measure => simp [intOf]; omega
      ·skip
       have HGd : Hid (Four wr.drew g (.int .u8 kind.toNat) (.string text) (.slice pn' (k + 1) dn') (.slice pv k dv)) := Lib.hid HG.out
       obtain ⟨g0, g1, g2, g3⟩ := HGd.out.cell
       go_simp
       go_wp2_with fail
       clear g0 g1 g2 g3
       refine hK.out _ _ (by assumption) (fun hHeld => ?_)
       clear hK K
       try simp only [Act.put, sA, sB, sC]
       refine wpAnyH_ready (rs := [7]) (by kernel_rfl) (by simp) ?_
       refine AllReadyH.cons (o := qFtM_11) rfl (fun K hK => ?_) AllReadyH.nil
       go_simp
       (go_at_call 24; refine (HC.out _ (Below.refl _ _).drew).mono ?_; rintro e w2 ⟨⟨vs, rfl, hvs⟩, hb2⟩)
       have HS6 : Hid ((fun wx => wx.cell? ⟨w.heap.size, 3, none⟩ = some (.slice (some ⟨bq, oq, none⟩) n d) ∧ wx.cell? ⟨bq, oq + k * 4, none⟩ = some u0 ∧ wx.cell? ⟨bq, oq + k * 4 + 1, none⟩ = some u1 ∧ wx.cell? ⟨bq, oq + k * 4 + 2, none⟩ = some u2 ∧ wx.cell? ⟨bq, oq + k * 4 + 3, none⟩ = some u3) w2) := Lib.hid (by
        obtain ⟨s0, s1, s2, s3, s4⟩ := hHeld
        exact ⟨cell_kept hb2 s0, cell_kept hb2 s1, cell_kept hb2 s2, cell_kept hb2 s3, cell_kept hb2 s4⟩)
       have HB2 : Hid (Below wr.heap.size wr w2) := Lib.hid ((Below.refl _ _).drew.trans hb2)
       have HF2 := Lib.hid (HT.out.fresh HB2.out.size hvs)
       have HG2 := Lib.hid (HG.out.kept HB2.out)
       have HT2 := Lib.hid (HT.out.below HB2.out)
       obtain ⟨p4, q4, c4, d4, rfl⟩ := nodeX_cells hvs
       obtain ⟨xs, hxs⟩ : ∃ xs, w2.ownsRow (g + 1) 25 4 (.slice pv k dv) k xs := by
        obtain ⟨xs, h1, _⟩ := HT2.out.hk
        rw [hll] at h1
        exact ⟨xs, h1⟩
       have HXS := Lib.hid hxs
       clear hb2 hvs hxs
       generalize kd.kind.toNat = xk at *
       generalize kd.text = xt at *
       generalize kd.names.length = xn at *
       generalize kd.kids.length = xm at *
       go_wp2_with fail
       refine hK.out _ _ (by exact HS6.out) (fun hHeld => ?_)
       clear hK K
       try simp only [Act.put, sA, sB, sC]
       refine wpAnyH_ready (rs := [8]) (by kernel_rfl) (by simp) ?_
       refine AllReadyH.cons (o := qFtM_12) rfl (fun K hK => ?_) AllReadyH.nil
       go_simp
       have HG3 : Hid (Four (w2.alloc (.cells #[.int .u8 xk, .string xt, .slice p4 xn c4, .slice q4 xm d4] 25)) g (.int .u8 kind.toNat) (.string text) (.slice pn' (k + 1) dn') (.slice pv k dv)) := Lib.hid (HG2.out.alloc _)
       have HS7 : Hid ((fun wx => wx.cell? ⟨w.heap.size, 3, none⟩ = some (.slice (some ⟨bq, oq, none⟩) n d) ∧ wx.cell? ⟨bq, oq + k * 4, none⟩ = some u0 ∧ wx.cell? ⟨bq, oq + k * 4 + 1, none⟩ = some u1 ∧ wx.cell? ⟨bq, oq + k * 4 + 2, none⟩ = some u2 ∧ wx.cell? ⟨bq, oq + k * 4 + 3, none⟩ = some u3) (w2.alloc (.cells #[.int .u8 xk, .string xt, .slice p4 xn c4, .slice q4 xm d4] 25))) := Lib.hid (by
        obtain ⟨s0, s1, s2, s3, s4⟩ := HS6.out
        have hb2 : Below w2.heap.size w2 (w2.alloc (.cells #[.int .u8 xk, .string xt, .slice p4 xn c4, .slice q4 xm d4] 25)) := (Below.refl _ _).alloc (Nat.le_refl _) _
        exact ⟨cell_kept hb2 s0, cell_kept hb2 s1, cell_kept hb2 s2, cell_kept hb2 s3, cell_kept hb2 s4⟩)
       go_wp2_with fail
       refine hK.out _ _ (by exact HS7.out) (fun hHeld => ?_)
       clear hK K
       try simp only [Act.put, sA, sB, sC]
       refine wpAnyH_ready (rs := [9]) (by kernel_rfl) (by simp) ?_
       refine AllReadyH.cons (o := qFtM_13) rfl (fun K hK => ?_) AllReadyH.nil
       rw [if_pos (by rfl)]
       refine wp_append_own_at2 _ (.tmp 28) (.tmp 35) 23 rfl (g + 1) 25 j0 _ 4 72 Tryz.underlying23 hj hy0 hy1 hy2 rfl (by decide) _ _ _ rfl (HXS.out.alloc _) ⟨w2.heap.size, 0, none⟩ 1 1 [.int .u8 xk, .string xt, .slice p4 xn c4, .slice q4 xm d4] rfl rfl (cells_four_lit _ _ _ _ _ _) (by simp [Value.oneCell']) (by unfold maxLen; omega) (by omega) (by have := HT2.out.lt; simp; omega) ?_
       intro v' w4 hown4 hgrow4 hat4
       have HOWN4 := Lib.hid hown4
       have HGR4 := Lib.hid hgrow4
       have HAT4 := Lib.hid hat4
       obtain ⟨pv', dv', rfl⟩ := own_slice hown4
       clear hown4 hgrow4 hat4
       have hrow : ∀ j, j < g + 1 → some j ≠ Value.ownBlock (.slice pv k dv) := fun j hj e => by
        have := (own_where HXS.out e.symm).1
        omega
       have HS8 : Hid ((fun wx => wx.cell? ⟨w.heap.size, 3, none⟩ = some (.slice (some ⟨bq, oq, none⟩) n d) ∧ wx.cell? ⟨bq, oq + k * 4, none⟩ = some u0 ∧ wx.cell? ⟨bq, oq + k * 4 + 1, none⟩ = some u1 ∧ wx.cell? ⟨bq, oq + k * 4 + 2, none⟩ = some u2 ∧ wx.cell? ⟨bq, oq + k * 4 + 3, none⟩ = some u3) w4) := Lib.hid (by
        obtain ⟨s0, s1, s2, s3, s4⟩ := HS7.out
        exact ⟨cell_grownBy HGR4.out s0 (hrow _ (by omega)), cell_grownBy HGR4.out s1 (hrow _ (by omega)), cell_grownBy HGR4.out s2 (hrow _ (by omega)), cell_grownBy HGR4.out s3 (hrow _ (by omega)), cell_grownBy HGR4.out s4 (hrow _ (by omega))⟩)
       refine hK.out _ _ (by exact HS8.out) (fun hHeld => ?_)
       clear hK K
       try simp only [Act.put, sA, sB, sC]
       refine tk 10 qFtM_14 ?_
       try simp only [Act.put, sA, sB, sC]
       refine wpAnyH_ready (rs := [11]) (by kernel_rfl) (by simp) ?_
       refine AllReadyH.cons (o := qFtM_15) rfl (fun K hK => ?_) AllReadyH.nil
       have HG4 := Lib.hid (HG3.out.grown HGR4.out (hrow _ (by omega)))
       have HV4 := Lib.hid (((HV.out.kept HB2.out).alloc (.cells #[.int .u8 xk, .string xt, .slice p4 xn c4, .slice q4 xm d4] 25)).grown HGR4.out (hrow _ (by omega)))
       have HZ4 := Lib.hid (((HZ.out.kept HB2.out).alloc (.cells #[.int .u8 xk, .string xt, .slice p4 xn c4, .slice q4 xm d4] 25)).grown HGR4.out (hrow _ (by omega)))
       have HB4 : Hid (Below w.heap.size w w4) := Lib.hid (((HB.out.trans (HB2.out.mono HB.out.size)).alloc (by have := HB2.out.size; have := HB.out.size; omega) (.cells #[.int .u8 xk, .string xt, .slice p4 xn c4, .slice q4 xm d4] 25)).grown HGR4.out (by have := HB2.out.size; have := HB.out.size; simp; omega) fun j hj => (by have := (own_where HXS.out hj).1; omega))
       have HT4 : Hid (TwoRows w4 0 (g + 1) (.slice pn' (k + 1) dn') (names.take (k + 1)) (.slice pv' (k + 1) dv') (kids.take (k + 1))) := Lib.hid (by
        rw [HTK.out]
        refine (HT2.out.kept (w' := w2.alloc (.cells #[.int .u8 xk, .string xt, .slice p4 xn c4, .slice q4 xm d4] 25)) (by simp) fun b _ hlt => Below.heap_alloc _ _ _ hlt).kid rfl (free_alloc HF2.out (Nat.zero_le _) _) (fun ys hys => ?_) HGR4.out HAT4.out
        rw [hll] at hys ⊢
        rw [own_unique hys (HXS.out.alloc _)]
        exact HOWN4.out)
       clear hrow
       obtain ⟨z0, z1, z2, z3⟩ := HG4.out.cell
       obtain ⟨x0, x1, x2, x3⟩ := HG4.out.open_
       clear hHeld
       go_simp
       go_wp2_with fail
       refine hK.out _ _ (by (obtain ⟨s0, s1, s2, s3, s4⟩ := HS8.out; exact ⟨cell_set_far s0 (by omega), cell_set_far s1 (by omega), cell_set_far s2 (by omega), cell_set_far s3 (by omega), cell_set_far s4 (by omega)⟩)) (fun hHeld => ?_)
       clear hK K
       try simp only [Act.put, sA, sB, sC]
       refine wpAnyH_done (by kernel_rfl) ?_ _
       clear hHeld z0 z1 z2 z3 x0 x1 x2 x3
       have HTn := Lib.hid (HT4.out.kept (w' := w4.setCell ⟨g, 3, none⟩ (.slice pv' (k + 1) dv')) (by simp) fun b hb _ => heap_setCell_other _ _ _ _ (by simp; omega))
       have HGn := Lib.hid (HG4.out.set3 (.slice pv' (k + 1) dv'))
       have HVn := Lib.hid (HV4.out.far (k := g) (j := 3) (by omega) (.slice pv' (k + 1) dv'))
       have HZn := Lib.hid (HZ4.out.far (k := g) (j := 3) (by omega) (.slice pv' (k + 1) dv'))
       have HBn := Lib.hid (HB4.out.setCell (p := ⟨g, 3, none⟩) (show w.heap.size ≤ g by omega) (.slice pv' (k + 1) dv'))
       generalize w4.setCell ⟨g, 3, none⟩ (.slice pv' (k + 1) dv') = w9 at *
       go_wp2_with fail
       go_roundw
       case rel => exact ⟨k + 1, pn', dn', pv', dv', by omega, by go_num, HTn, HGn, HVn, HZn, HBn⟩
       case measure => simp [intOf]; omega
    ·have HE : Hid (k = n) := Lib.hid (by omega)
     have HKT : Hid (kids.take k = kids) := Lib.hid (by rw [HE.out, ← HKN.out, List.take_length])
     have HNT : Hid (names.take k = names) := Lib.hid (by rw [HE.out, ← HNN.out, List.take_length])
     obtain ⟨g0, g1, g2, g3⟩ := HG.out.cell
     obtain ⟨z0, z1, z2, z3⟩ := HZ.out.cell
     obtain ⟨x0, x1, x2, x3⟩ := HZ.out.open_
     go_wp2_with fail
     refine bodyPost_ret (v := .agg #[.int .u8 kind.toNat, .string text, .slice pn k dn, .slice pv k dv]) (by simp [results, Tryz.results24, go_sem, z0, z1, z2, z3]) rfl ?_
     refine ⟨⟨_, rfl, ?_⟩, below_four HB.out (by omega) _ _ _ _⟩
     have h1 := HT.out
     rw [HKT.out, HNT.out] at h1
     have h2 := (h1.kept (w' := ((((wr.setCell ⟨w.heap.size + 1, 0, none⟩ (.int .u8 kind.toNat)).setCell ⟨w.heap.size + 1, 1, none⟩ (.string text)).setCell ⟨w.heap.size + 1, 2, none⟩ (.slice pn k dn)).setCell ⟨w.heap.size + 1, 3, none⟩ (.slice pv k dv))) (by simp) fun b hb _ => by
      rw [heap_setCell_other _ _ _ _ (by simp; omega), heap_setCell_other _ _ _ _ (by simp; omega), heap_setCell_other _ _ _ _ (by simp; omega), heap_setCell_other _ _ _ _ (by simp; omega)]).node kind text
     exact h2.same fun b hb => ⟨rfl, by rcases hb with hb | hb <;> omega⟩
end Go.Proofs.YtfilbknnpjbmcaaGreatDoor
