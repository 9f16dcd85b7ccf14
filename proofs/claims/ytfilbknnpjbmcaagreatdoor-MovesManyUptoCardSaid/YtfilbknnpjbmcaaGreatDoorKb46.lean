/- Walks: the statements' own check of a call of package moves: it comes to that code, these complaints, and that tree. -/
import Derived.Test.YtfilbknnpjbmcaaGreatDoorKb02
import Derived.Test.YtfilbknnpjbmcaaGreatDoorKb45
import Derived.Test.YtfilbknnpjbmcaaGreatDoorKb23
namespace Go.Proofs.YtfilbknnpjbmcaaGreatDoor
open Go.RowKit Px Nx Wk Dn Ox Mv
namespace Works13
def Bk (w : World) (g : Nat) (vs : List Value) (t : TypeId) : Prop := w.heap[g]? = some (.cells vs.toArray t (0, 0))
theorem Bk.lt {w : World} {g : Nat} {vs : List Value} {t : TypeId} (h : Bk w g vs t) : g < w.heap.size := by
 rcases Nat.lt_or_ge g w.heap.size with hlt | hge
 ·exact hlt
 ·unfold Bk at h; rw [Array.getElem?_eq_none hge] at h; cases h
theorem Bk.kept {w w' : World} {g : Nat} {vs : List Value} {t : TypeId} (h : Bk w g vs t) (hb : Below w.heap.size w w') : Bk w' g vs t := by
 have := h.lt
 unfold Bk at *
 rw [hb.block _ this]; exact h
theorem Bk.new (w : World) (vs : List Value) (t : TypeId) : Bk (w.alloc (.cells vs.toArray t)) w.heap.size vs t := heap_alloc_new w _
theorem Bk.at {w : World} {g : Nat} {vs : List Value} {t : TypeId} (h : Bk w g vs t) {j : Nat} {v : Value} (hj : vs[j]? = some v) : w.cell? ⟨g, j, none⟩ = some v := by
 rw [cell_of_row _ _ _ _ _ _ h]
 simpa using hj
theorem Bk.strs {w : World} {g : Nat} {l : List ByteArray} {t : TypeId} (h : Bk w g (l.map Value.string) t) : Strs w (some ⟨g, 0, none⟩) l := by
 intro i hi
 refine ⟨g, 0, rfl, ?_⟩
 rw [Nat.zero_add]
 refine h.at ?_
 rw [List.getElem?_map, List.getElem?_eq_getElem hi, List.getD_eq_getElem?_getD, List.getElem?_eq_getElem hi]
 rfl
theorem Bk.pl {w : World} {g : Nat} {l : List ByteArray} {t : TypeId} (h : Bk w g (l.map Value.string) t) (hl : l.length ≤ maxLen) : PlR w (.slice (some ⟨g, 0, none⟩) l.length l.length) l := ⟨_, _, rfl, h.strs, Nat.le_refl _, hl⟩
theorem Bk.node {w : World} {g h : Nat} {l : List ByteArray} {zs : List Value} {kids : List Nd} {t t' : TypeId} (hn : Bk w g (l.map Value.string) t) (hk : Bk w h zs t') (hz : All4 (NodeR w) zs kids) (hl : l.length ≤ maxLen) (hm : kids.length ≤ maxLen) :
  NodeR w [.int .u8 2, .string ByteArray.empty, .slice (some ⟨g, 0, none⟩) l.length l.length, .slice (some ⟨h, 0, none⟩) kids.length kids.length] (.mk 2 ByteArray.empty l kids) := by
 refine .mk 2 ByteArray.empty l kids _ _ l.length kids.length (fun i => (zs.drop (i * 4)).take 4) (Nat.le_refl _) hl hn.strs (Nat.le_refl _) hm ?_ (fun i x hx => (hz.at i x hx).1)
 intro i hi
 refine ⟨h, 0, rfl, (hz.at i _ (List.getElem?_eq_getElem hi)).2, fun j u hj => ?_⟩
 have hj4 : j < 4 := by
  have := (List.getElem?_eq_some_iff.1 hj).1
  rw [List.length_take] at this
  omega
 have hj' : ((zs.drop (i * 4)).take 4)[j]? = some u := hj
 rw [List.getElem?_take_of_lt hj4, List.getElem?_drop] at hj'
 rw [Nat.zero_add]
 exact hk.at hj'
theorem Bk.by {w w' : World} {g m : Nat} {vs : List Value} {t : TypeId} (h : Bk w g vs t) (hg : w.grownBy w' (some m)) (hne : g ≠ m) : Bk w' g vs t := by
 have := h.lt
 unfold Bk at *
 rw [hg.block _ this (by simpa using hne)]; exact h
theorem leaf (w : World) (s : ByteArray) : NodeR w [.int .u8 1, .string s, .slice none 0 0, .slice none 0 0] (.mk 1 s [] []) :=
 .mk 1 s [] [] none none 0 0 (fun _ => []) (Nat.le_refl _) (Nat.zero_le _) (fun i hi => absurd hi (Nat.not_lt_zero _)) (Nat.le_refl _) (Nat.zero_le _) (fun i hi => absurd hi (Nat.not_lt_zero _)) (fun i x hx => by simp at hx)
theorem Bk.newE {w : World} {g : Nat} {vs : List Value} {t : TypeId} (hg : g = w.heap.size) : Bk (w.alloc (.cells vs.toArray t)) g vs t := hg ▸ Bk.new w vs t
theorem Bk.al {w : World} {g : Nat} {vs : List Value} {t : TypeId} {o : Obj} (h : Bk w g vs t) : Bk (w.alloc o) g vs t := h.kept (below_alloc (Below.refl _ _))
theorem below_turn {W w w' : World} {b : Nat} (h : Below W.heap.size W w) (hg : w.grownBy w' (some b)) (hb : W.heap.size ≤ b) : Below W.heap.size W w' := h.grown hg h.size fun k hk => by cases hk; exact hb
end Works13
open Works13 (Bk)
set_option maxRecDepth 100000 in
set_option maxHeartbeats 8000000 in
theorem runs_ok {W : World} {cs ds : List Value} {n m : Nd} (hn : NodeR W cs n) (hm : NodeR W ds m) (hmay : n.may = true) (hgn : n.girth ≤ 1000000) (hmw : m.well = true) (hgm : m.girth ≤ 100000000) (code : Int) (err : ByteArray) {v : Value} {xs : List ByteArray} (hx : PlR W v xs) {P : Int → ByteArray → Nd → Prop}
  (hrun : ∀ (wx : World) (b : Nat) (y0 y1 y2 y3 : Value), TreeX wx b n y0 y1 y2 y3 → PlR wx v xs → Calls Tryz.prog 10 #[.iface 28 (.pointer (some ⟨b, 0, none⟩)), v] wx fun e w' => ∃ code err n', e = .returned (.tuple #[.int .i64 code, .string ⟨#[]⟩, .string err, .bool true]) ∧ P code err n' ∧ (∃ x0 x1 x2 x3, TreeX w' b n' x0 x1 x2 x3) ∧ wx.grownBy w' (some b))
  (hdet : ∀ c1 e1 n1, P c1 e1 n1 → c1 = code ∧ e1 = err ∧ n1 = m) :
  Calls Tryz.prog 22 #[.agg cs.toArray, .int .i64 code, .string err, .agg ds.toArray, v] W fun e w' => e = .returned (.bool true) ∧ Below W.heap.size W w' := by
 obtain ⟨p1, q1, c1, d1, rfl⟩ := hn.cells
 obtain ⟨p2, q2, c2, d2, rfl⟩ := hm.cells
 have HN := Lib.hid hn
 have HM := Lib.hid hm
 have HX := Lib.hid hx
 have HRUN := Lib.hid hrun
 obtain ⟨px, cx, rfl, _, _, _⟩ := hx
 clear hn hm hrun
 go_enter Tryz.func22, Tryz.ntmps22
 go_wp2_with fail
 have HBW : Hid (Below W.heap.size W ((W.alloc (.cells #[.int .u8 n.kind.toNat, .string n.text, .slice p1 n.names.length c1, .slice q1 n.kids.length d1] 25)).alloc (.cells #[.int .u8 m.kind.toNat, .string m.text, .slice p2 m.names.length c2, .slice q2 m.kids.length d2] 25))) := Lib.hid (below_alloc (below_alloc (Below.refl _ _)))
 have HBM : Hid (Bk ((W.alloc (.cells #[.int .u8 n.kind.toNat, .string n.text, .slice p1 n.names.length c1, .slice q1 n.kids.length d1] 25)).alloc (.cells #[.int .u8 m.kind.toNat, .string m.text, .slice p2 m.names.length c2, .slice q2 m.kids.length d2] 25)) (W.heap.size + 1) [.int .u8 m.kind.toNat, .string m.text, .slice p2 m.names.length c2, .slice q2 m.kids.length d2] 25) := Lib.hid (Bk.newE (by simp))
 generalize ((W.alloc (.cells #[.int .u8 n.kind.toNat, .string n.text, .slice p1 n.names.length c1, .slice q1 n.kids.length d1] 25)).alloc (.cells #[.int .u8 m.kind.toNat, .string m.text, .slice p2 m.names.length c2, .slice q2 m.kids.length d2] 25)) = w1 at *
 refine (fnew_any HN.out (by omega) w1 HBW.out).mono ?_
 rintro e w2 ⟨hnw, hb2⟩
 rw [if_pos hmay] at hnw
 obtain ⟨b, y0, y1, y2, y3, rfl, hbb, ht, _⟩ := hnw
 have hbW : W.heap.size + 1 < b := Nat.lt_of_lt_of_le HBM.out.lt hbb
 have HT2 := Lib.hid ht
 have HB2 := Lib.hid (HBW.out.trans (hb2.mono HBW.out.size))
 have HM2 := Lib.hid (HBM.out.kept hb2)
 clear hb2 ht hbb HBW HBM
 go_wp2_with fail
 refine (HRUN.out w2 b _ _ _ _ HT2.out (HX.out.grown HB2.out)).mono ?_
 rintro e w5 ⟨c', e', nn, rfl, hp, ⟨x0, x1, x2, x3, ht⟩, hg⟩
 obtain ⟨rfl, rfl, rfl⟩ := hdet _ _ _ hp
 have HT5 := Lib.hid ht
 have HB5 := Lib.hid (Works13.below_turn HB2.out hg (by omega))
 have HM5 := Lib.hid (HM2.out.by hg (by omega))
 clear ht hg hp HT2 HB2 HM2
 go_upto_region 5 with fail
 have m0 := HM5.out.at (j := 0) rfl
 have m1 := HM5.out.at (j := 1) rfl
 have m2 := HM5.out.at (j := 2) rfl
 have m3 := HM5.out.at (j := 3) rfl
 have q0 : (c' == c') = true := beq_self_eq_true _
 have q9 : (e'.toList == e'.toList) = true := beq_self_eq_true _
 have q8 : ((⟨#[]⟩ : ByteArray).toList == (⟨#[]⟩ : ByteArray).toList) = true := beq_self_eq_true _
 have HRO : Hid (∀ wx, Below w5.heap.size w5 wx → Calls Tryz.prog 11 #[.pointer (some ⟨b, 0, none⟩)] wx fun e w' => (∃ vs, e = .returned (.agg vs) ∧ NodeX w' (fun k => wx.heap.size ≤ k ∧ k < w'.heap.size) vs.toList nn) ∧ Below wx.heap.size wx w') := Lib.hid fun wx hb => froot_any (HT5.out.kept hb) hmw (by omega)
 have HSA : Hid (∀ (wx : World) (us : List Value), NodeR wx us nn → Below w5.heap.size w5 wx → Calls Tryz.prog 12 #[.agg us.toArray, .agg #[.int .u8 nn.kind.toNat, .string nn.text, .slice p2 nn.names.length c2, .slice q2 nn.kids.length d2]] wx fun e w' => e = .returned (.bool true) ∧ Below wx.heap.size wx w') := Lib.hid fun wx us hu hb => (sameNd_any hu (NodeR.grown (HB5.out.trans (hb.mono HB5.out.size)) HM.out) (by omega) wx (Below.refl _ _)).mono fun e w' ⟨h1, h2⟩ => ⟨by rw [h1, Nd.same_self], h2⟩
 have HKEEP : Hid (∀ wx w2, (fun wx => Below w5.heap.size w5 wx ∧ wx.cell? ⟨W.heap.size + 1, 0, none⟩ = some (.int .u8 nn.kind.toNat) ∧ wx.cell? ⟨W.heap.size + 1, 1, none⟩ = some (.string nn.text) ∧ wx.cell? ⟨W.heap.size + 1, 2, none⟩ = some (.slice p2 nn.names.length c2) ∧ wx.cell? ⟨W.heap.size + 1, 3, none⟩ = some (.slice q2 nn.kids.length d2)) wx → Below wx.heap.size wx w2 → (fun wx => Below w5.heap.size w5 wx ∧ wx.cell? ⟨W.heap.size + 1, 0, none⟩ = some (.int .u8 nn.kind.toNat) ∧ wx.cell? ⟨W.heap.size + 1, 1, none⟩ = some (.string nn.text) ∧ wx.cell? ⟨W.heap.size + 1, 2, none⟩ = some (.slice p2 nn.names.length c2) ∧ wx.cell? ⟨W.heap.size + 1, 3, none⟩ = some (.slice q2 nn.kids.length d2)) w2) := Lib.hid fun wx w2 hs hb => by
  obtain ⟨s0, s1, s2, s3, s4⟩ := hs
  exact ⟨s0.trans (hb.mono s0.size), cell_kept hb s1, cell_kept hb s2, cell_kept hb s3, cell_kept hb s4⟩
 refine wp_region_held_drew (S := (fun wx => Below w5.heap.size w5 wx ∧ wx.cell? ⟨W.heap.size + 1, 0, none⟩ = some (.int .u8 nn.kind.toNat) ∧ wx.cell? ⟨W.heap.size + 1, 1, none⟩ = some (.string nn.text) ∧ wx.cell? ⟨W.heap.size + 1, 2, none⟩ = some (.slice p2 nn.names.length c2) ∧ wx.cell? ⟨W.heap.size + 1, 3, none⟩ = some (.slice q2 nn.kids.length d2))) (by kernel_rfl) ⟨(Below.refl _ _).drew, m0, m1, m2, m3⟩ (fun hHeld => ?_)
 refine tk 0 { dst := some 33, op := Op.move (Operand.tmp 16), type := 4, pos := "outright.go:30", after := #[], guard := none } ?_
 try simp only [Act.put, sA, sB, sC]
 refine tk 1 { dst := some 34, op := Op.move (Operand.tmp 33), type := 4, pos := "outright.go:30", after := #[{ on := 0, ground := Ground.data }], guard := none } ?_
 try simp only [Act.put, sA, sB, sC]
 refine tk 2 { dst := some 35, op := Op.move (Operand.tmp 13), type := 3, pos := "outright.go:30", after := #[{ on := 1, ground := Ground.guard }], guard := some (1, true) } ?_
 try simp only [Act.put, sA, sB, sC]
 refine tk 3 { dst := some 36, op := Op.move (Operand.tmp 1), type := 3, pos := "outright.go:30", after := #[{ on := 1, ground := Ground.guard }], guard := some (1, true) } ?_
 try simp only [Act.put, sA, sB, sC]
 refine tk 4 { dst := some 37, op := Op.binOp BinOp.eql 3 (Operand.tmp 35) (Operand.tmp 36) 3, type := 4, pos := "outright.go:30", after := #[{ on := 2, ground := Ground.data }, { on := 3, ground := Ground.data }, { on := 1, ground := Ground.guard }], guard := some (1, true) } ?_
 try simp only [Act.put, sA, sB, sC]
 refine tk 5 { dst := some 38, op := Op.pick (Operand.tmp 34) (Operand.tmp 37) (Operand.const (Value.bool false)), type := 4, pos := "outright.go:30", after := #[{ on := 1, ground := Ground.data }, { on := 4, ground := Ground.data }], guard := none } ?_
 try simp only [Act.put, sA, sB, sC]
 refine tk 6 { dst := some 39, op := Op.move (Operand.tmp 38), type := 4, pos := "outright.go:30", after := #[{ on := 5, ground := Ground.data }, { on := 1, ground := Ground.chain }], guard := none } ?_
 try simp only [Act.put, sA, sB, sC]
 refine tk 7 { dst := some 40, op := Op.move (Operand.tmp 14), type := 9, pos := "outright.go:30", after := #[{ on := 6, ground := Ground.guard }], guard := some (6, true) } ?_
 try simp only [Act.put, sA, sB, sC]
 refine tk 8 { dst := some 41, op := Op.binOp BinOp.eql 9 (Operand.tmp 40) (Operand.const (Value.string { data := #[] })) 9, type := 4, pos := "outright.go:30", after := #[{ on := 7, ground := Ground.data }, { on := 6, ground := Ground.guard }], guard := some (6, true) } ?_
 try simp only [Act.put, sA, sB, sC]
 refine tk 9 { dst := some 42, op := Op.pick (Operand.tmp 39) (Operand.tmp 41) (Operand.const (Value.bool false)), type := 4, pos := "outright.go:30", after := #[{ on := 6, ground := Ground.data }, { on := 8, ground := Ground.data }], guard := none } ?_
 try simp only [Act.put, sA, sB, sC]
 refine tk 10 { dst := some 43, op := Op.move (Operand.tmp 42), type := 4, pos := "outright.go:30", after := #[{ on := 9, ground := Ground.data }, { on := 6, ground := Ground.chain }], guard := none } ?_
 try simp only [Act.put, sA, sB, sC]
 refine tk 11 { dst := some 44, op := Op.move (Operand.tmp 15), type := 9, pos := "outright.go:30", after := #[{ on := 10, ground := Ground.guard }], guard := some (10, true) } ?_
 try simp only [Act.put, sA, sB, sC]
 refine tk 12 { dst := some 45, op := Op.move (Operand.tmp 2), type := 9, pos := "outright.go:30", after := #[{ on := 10, ground := Ground.guard }], guard := some (10, true) } ?_
 try simp only [Act.put, sA, sB, sC]
 refine tk 13 { dst := some 46, op := Op.binOp BinOp.eql 9 (Operand.tmp 44) (Operand.tmp 45) 9, type := 4, pos := "outright.go:30", after := #[{ on := 11, ground := Ground.data }, { on := 12, ground := Ground.data }, { on := 10, ground := Ground.guard }], guard := some (10, true) } ?_
 try simp only [Act.put, sA, sB, sC]
 refine tk 14 { dst := some 47, op := Op.pick (Operand.tmp 43) (Operand.tmp 46) (Operand.const (Value.bool false)), type := 4, pos := "outright.go:30", after := #[{ on := 10, ground := Ground.data }, { on := 13, ground := Ground.data }], guard := none } ?_
 try simp only [Act.put, sA, sB, sC]
 refine tk 15 { dst := some 48, op := Op.move (Operand.tmp 47), type := 4, pos := "outright.go:30", after := #[{ on := 14, ground := Ground.data }, { on := 10, ground := Ground.chain }], guard := none } ?_
 try simp only [Act.put, sA, sB, sC]
 refine tk 16 { dst := some 49, op := Op.move (Operand.tmp 11), type := 28, pos := "outright.go:30", after := #[{ on := 15, ground := Ground.guard }], guard := some (15, true) } ?_
 try simp only [Act.put, sA, sB, sC]
 refine tk 18 { dst := some 51, op := Op.load 25 (Operand.tmp 8), type := 25, pos := "outright.go:30", after := #[{ on := 15, ground := Ground.guard }], guard := some (15, true) } ?_
 try simp only [Act.put, sA, sB, sC]
 refine wpAnyH_ready (rs := [17]) (by kernel_rfl) (by simp) ?_
 refine AllReadyH.cons (o := { dst := some 50, op := Op.call { callee := Callee.value (Operand.func 11), args := #[Operand.tmp 49], argTypes := #[28] }, type := 25, pos := "outright.go:30", after := #[{ on := 16, ground := Ground.data }, { on := 15, ground := Ground.chain }, { on := 15, ground := Ground.guard }], guard := some (15, true) }) rfl (fun K hK => ?_) AllReadyH.nil
 go_simp
 (go_at_call 11; refine (HRO.out _ (And.left (by assumption))).mono ?_; rintro e w6 ⟨⟨us, rfl, hus⟩, hb2⟩)
 obtain ⟨p3, q3, c3, d3, rfl⟩ := nodeX_cells hus
 have hS2 := HKEEP.out _ _ (by assumption) hb2
 have HV6 := Lib.hid hus.to
 clear hus hb2
 go_wp2_with fail
 refine hK.out _ _ (by first | assumption | assumption) (fun hHeld => ?_)
 clear hK K
 try simp only [Act.put, sA, sB, sC]
 refine wpAnyH_ready (rs := [19]) (by kernel_rfl) (by simp) ?_
 refine AllReadyH.cons (o := { dst := some 52, op := Op.call { callee := Callee.value (Operand.func 12), args := #[Operand.tmp 50, Operand.tmp 51], argTypes := #[25, 25] }, type := 4, pos := "outright.go:30", after := #[{ on := 17, ground := Ground.data }, { on := 18, ground := Ground.data }, { on := 17, ground := Ground.chain }, { on := 15, ground := Ground.guard }], guard := some (15, true) }) rfl (fun K hK => ?_) AllReadyH.nil
 go_simp
 (go_at_call 12; refine (HSA.out _ _ HV6.out (And.left (by assumption))).mono ?_; rintro e w7 ⟨rfl, hb3⟩)
 have hS3 := HKEEP.out _ _ hS2 hb3
 clear hb3
 go_wp2_with fail
 refine hK.out _ _ (by first | assumption | assumption) (fun hHeld => ?_)
 clear hK K
 try simp only [Act.put, sA, sB, sC]
 refine tk 20 { dst := some 53, op := Op.pick (Operand.tmp 48) (Operand.tmp 52) (Operand.const (Value.bool false)), type := 4, pos := "outright.go:30", after := #[{ on := 15, ground := Ground.data }, { on := 19, ground := Ground.data }], guard := none } ?_
 try simp only [Act.put, sA, sB, sC]
 refine tk 21 { dst := some 10, op := Op.assign (Operand.tmp 53), type := 4, pos := "outright.go:30", after := #[{ on := 20, ground := Ground.data }, { on := 19, ground := Ground.chain }, { on := 0, ground := Ground.phase }, { on := 1, ground := Ground.phase }, { on := 2, ground := Ground.phase }, { on := 3, ground := Ground.phase }, { on := 4, ground := Ground.phase }, { on := 5, ground := Ground.phase }, { on := 6, ground := Ground.phase }, { on := 7, ground := Ground.phase }, { on := 8, ground := Ground.phase }, { on := 9, ground := Ground.phase }, { on := 10, ground := Ground.phase }, { on := 11, ground := Ground.phase }, { on := 12, ground := Ground.phase }, { on := 13, ground := Ground.phase }, { on := 14, ground := Ground.phase }, { on := 15, ground := Ground.phase }, { on := 16, ground := Ground.phase }, { on := 17, ground := Ground.phase }, { on := 18, ground := Ground.phase }, { on := 19, ground := Ground.phase }, { on := 20, ground := Ground.phase }], guard := none } ?_
 try simp only [Act.put, sA, sB, sC]
 refine wpAnyH_done (by kernel_rfl) ?_ _
 have HBE : Hid (Below W.heap.size W w7) := Lib.hid (HB5.out.trans ((And.left hS3).mono HB5.out.size))
 clear hHeld
 go_wp2_with fail
 go_ret
 exact ⟨rfl, HBE.out⟩
end Go.Proofs.YtfilbknnpjbmcaaGreatDoor
