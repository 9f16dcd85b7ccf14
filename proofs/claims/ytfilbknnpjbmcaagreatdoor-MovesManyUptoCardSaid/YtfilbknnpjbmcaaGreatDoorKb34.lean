/- Walks: the calls of package prim, over a tree in memory of which it is told where its blocks lie. -/
import Derived.Test.YtfilbknnpjbmcaaGreatDoorKb33
namespace Go.Proofs.YtfilbknnpjbmcaaGreatDoor
open Go.RowKit Px Nx
attribute [local go_sem] ahead_kind meth_Kind meth_Put meth_Del meth_Move meth_Copy meth_Empty

structure TreeU (S : Nat → Prop) (w : World) (b : Nat) (n : Nd) (v0 v1 v2 v3 : Value) : Prop where
 s : TreeS w S b n v0 v1 v2 v3
 new : ∀ k, w.heap.size ≤ k → S k
theorem TreeU.x {S : Nat → Prop} {w : World} {b : Nat} {n : Nd} {v0 v1 v2 v3 : Value} (h : TreeU S w b n v0 v1 v2 v3) : TreeX w b n v0 v1 v2 v3 := h.s.x
theorem TreeU.lt {S : Nat → Prop} {w : World} {b : Nat} {n : Nd} {v0 v1 v2 v3 : Value} (h : TreeU S w b n v0 v1 v2 v3) : b < w.heap.size := h.x.lt
theorem TreeU.kept {S : Nat → Prop} {w w' : World} {b : Nat} {n : Nd} {v0 v1 v2 v3 : Value} (h : TreeU S w b n v0 v1 v2 v3) (hb : Below w.heap.size w w') : TreeU S w' b n v0 v1 v2 v3 := ⟨h.s.kept hb, fun k hk => h.new k (Nat.le_trans hb.size hk)⟩
theorem TreeU.of {S : Nat → Prop} {w w' : World} {b : Nat} {n : Nd} (hS : ∀ k, w.heap.size ≤ k → S k) (hsz : w.heap.size ≤ w'.heap.size) (h : ∃ x0 x1 x2 x3, TreeS w' (fun k => S k ∨ w.heap.size ≤ k) b n x0 x1 x2 x3) : ∃ x0 x1 x2 x3, TreeU S w' b n x0 x1 x2 x3 := by
 obtain ⟨x0, x1, x2, x3, h⟩ := h
 exact ⟨x0, x1, x2, x3, h.weak (fun k hk => hk.elim id (hS k)) (fun hb => h.off (.inl hb)), fun k hk => hS k (Nat.le_trans hsz hk)⟩
theorem uput_any {S : Nat → Prop} {w : World} {b : Nat} {n : Nd} {v0 v1 v2 v3 : Value} (h : TreeU S w b n v0 v1 v2 v3) (hw : n.well = true) (hB : n.girth ≤ 200000000) {pv : Value} {place : List ByteArray} (hp : PlR w pv place) (hnb : namesBulk place ≤ 200000000) {cs : List Value} {x : Nd} (hx : NodeR w cs x) (hxb : x.girth ≤ 200000000) :
  Calls Tryz.prog 161 #[.pointer (some ⟨b, 0, none⟩), pv, .agg cs.toArray] w fun e w' => e = .returned (.tuple #[]) ∧ (∃ x0 x1 x2 x3, TreeU S w' b (putD n place x) x0 x1 x2 x3) ∧ w.grownBy w' (some b) :=
 (put_s h.s hw hB hp hnb hx hxb).mono fun _e _w' ⟨h1, h2, h3⟩ => ⟨h1, TreeU.of h.new h3.size h2, h3⟩
theorem udel_any {S : Nat → Prop} {w : World} {b : Nat} {n : Nd} {v0 v1 v2 v3 : Value} (h : TreeU S w b n v0 v1 v2 v3) (hw : n.well = true) (hB : n.girth ≤ 200000000) {pv : Value} {place : List ByteArray} (hp : PlR w pv place) (hnb : namesBulk place ≤ 200000000) :
  Calls Tryz.prog 157 #[.pointer (some ⟨b, 0, none⟩), pv] w fun e w' => e = .returned (.tuple #[]) ∧ (∃ x0 x1 x2 x3, TreeU S w' b (delD n place) x0 x1 x2 x3) ∧ w.grownBy w' (some b) :=
 (del_s h.s hw hB hp hnb).mono fun _e _w' ⟨h1, h2, h3⟩ => ⟨h1, TreeU.of h.new h3.size h2, h3⟩

def Did (S : Nat → Prop) (w : World) (b : Nat) (r : Int × Nd) (e : Ending) (w' : World) : Prop := e = .returned (.int .i64 r.1) ∧ (∃ x0 x1 x2 x3, TreeU S w' b r.2 x0 x1 x2 x3) ∧ w.grownBy w' (some b)
theorem did {S : Nat → Prop} {w w' : World} {b : Nat} {r : Int × Nd} {c : Int} {n' : Nd} (hr : r = (c, n')) (hT : ∃ x0 x1 x2 x3, TreeU S w' b n' x0 x1 x2 x3) (hg : w.grownBy w' (some b)) : Did S w b r (.returned (.int .i64 c)) w' := by
 subst hr
 exact ⟨rfl, hT, hg⟩
theorem did_ex {S : Nat → Prop} {w w' : World} {b : Nat} {r : Int × Nd} {e : Ending} (h : Did S w b r e w') : ∃ cc : Int, e = .returned (.int .i64 cc) ∧ Did S w b r e w' := ⟨_, h.1, h⟩
theorem Did.from {S : Nat → Prop} {w w1 w' : World} {b : Nat} {r : Int × Nd} {e : Ending} (h : Did S w1 b r e w') (hg : Below w.heap.size w w1) : Did S w b r e w' := ⟨h.1, h.2.1, grown_two (grown_below hg) h.2.2⟩
theorem girth_less {n : Nd} (h : n.girth ≤ 100000000) : n.girth ≤ 200000000 := Nat.le_trans h (by decide)
theorem small_less {l : List ByteArray} (h : namesBulk l ≤ 10000000) : namesBulk l ≤ 200000000 := Nat.le_trans h (by decide)
theorem cell_first {w : World} {c : Array Value} {t : TypeId} {i : Nat} {v : Value} (h : c[i]? = some v) : (w.alloc (.cells c t)).cell? ⟨w.heap.size, i, none⟩ = some v := by
 rw [cell_of_row _ _ _ _ _ _ (heap_alloc_new w _)]
 exact h
theorem cell_firstE {w : World} {c : Array Value} {t : TypeId} {i g : Nat} {v : Value} (hg : g = w.heap.size) (h : c[i]? = some v) : (w.alloc (.cells c t)).cell? ⟨g, i, none⟩ = some v := hg ▸ cell_first h
theorem cell_alloc {w : World} {o : Obj} {d : Addr} {v : Value} (h : w.cell? d = some v) : (w.alloc o).cell? d = some v := cell_kept ((Below.refl _ _).alloc (Nat.le_refl _) _) h
theorem below_alloc {w w' : World} {o : Obj} (h : Below w.heap.size w w') : Below w.heap.size w (w'.alloc o) := h.alloc h.size _
theorem move_small {n : Nd} {p : List ByteArray} (hw : n.well = true) (hB : n.girth ≤ 100000000) (hp : namesBulk p ≤ 10000000) : (changedD (fun _ => absent) p n).girth ≤ 200000000 := by
 have := changed_girth (y := absent) p n (.inl hw)
 have h1 : absent.girth ≤ 100 := of_decide_eq_true (by kernel_rfl)
 omega

set_option maxRecDepth 100000 in
set_option maxHeartbeats 4000000 in
theorem makeNode1_any {S : Nat → Prop} {w : World} {b : Nat} {n : Nd} {v0 v1 v2 v3 : Value} (h : TreeU S w b n v0 v1 v2 v3) (hw : n.well = true) (hB : n.girth ≤ 100000000) {gn gf gp : Nat} {pv : Value} {place : List ByteArray} {y : Nd} {u0 u1 u2 u3 : Value}
  (hf : w.cell? ⟨gf, 0, none⟩ = some (.iface 28 (.pointer (some ⟨b, 0, none⟩)))) (hpc : w.cell? ⟨gp, 0, none⟩ = some pv) (h0 : w.cell? ⟨gn, 0, none⟩ = some u0) (h1 : w.cell? ⟨gn, 1, none⟩ = some u1) (h2 : w.cell? ⟨gn, 2, none⟩ = some u2) (h3 : w.cell? ⟨gn, 3, none⟩ = some u3)
  (hx : NodeR w [u0, u1, u2, u3] y) (hyb : y.girth ≤ 100000000) (hp : PlR w pv place) (hnb : namesBulk place ≤ 10000000) (ht : takenD n place = true) :
  Calls Tryz.prog 132 #[.pointer (some ⟨gn, 0, none⟩), .pointer (some ⟨gf, 0, none⟩), .pointer (some ⟨gp, 0, none⟩)] w fun e w' => Did S w b (makeD n place y) e w' := by
 have HT := Lib.hid h
 have HWE : Hid (∀ wx, Below w.heap.size w wx → Calls Tryz.prog 27 #[.agg #[u0, u1, u2, u3]] wx fun e w' => e = .returned (.bool y.well) ∧ Below wx.heap.size wx w') := Lib.hid fun wx hb => well_any hx wx hb
 have HKI : Hid (∀ wx, Below w.heap.size w wx → Calls Tryz.prog 159 #[.pointer (some ⟨b, 0, none⟩), pv] wx fun e w' => e = .returned (.int .u8 ((n.at_ place).getD absent).kind.toNat) ∧ Below wx.heap.size wx w') := Lib.hid fun wx hb => fkind_any (h.kept hb).x hw (girth_less hB) (hp.grown hb)
 have HPU : Hid (∀ wx, Below w.heap.size w wx → Calls Tryz.prog 161 #[.pointer (some ⟨b, 0, none⟩), pv, .agg #[u0, u1, u2, u3]] wx fun e w' => e = .returned (.tuple #[]) ∧ (∃ x0 x1 x2 x3, TreeU S w' b (putD n place y) x0 x1 x2 x3) ∧ wx.grownBy w' (some b)) := Lib.hid fun wx hb => uput_any (h.kept hb) hw (girth_less hB) (hp.grown hb) (small_less hnb) (hx.grown hb) (girth_less hyb)
 have HR : Hid (makeD n place y = bif y.well then bif decide (((n.at_ place).getD absent).kind = 0) then (0, putD n place y) else (6, n) else (4, n)) := Lib.hid (by unfold makeD kat; rw [ht]; rfl)
 obtain ⟨pp, pc, rfl, _, _, _⟩ := hp
 generalize (n.at_ place).getD absent = R at *
 rw [kind_bool] at HR
 have e0 := beq_int R.kind 0
 rw [show ((0 : UInt8).toNat : Int) = 0 from rfl] at e0
 obtain ⟨k0, hk0⟩ : ∃ kb, (R.kind == 0) = kb := ⟨_, rfl⟩
 rw [hk0] at e0 HR
 have e0n := ne_of e0
 clear hk0
 obtain ⟨p1, q1, c1, d1, hcs⟩ := hx.cells
 simp only [List.cons.injEq, and_true] at hcs
 obtain ⟨rfl, rfl, rfl, rfl⟩ := hcs
 generalize y.well = wl at *
 generalize place.length = pln at *
 clear h hx ht hw hB hyb hnb
 cases wl with
 | false =>
  go_enter Tryz.func132, Tryz.ntmps132
  go_wp2_with fail
  refine (HWE.out _ (Below.refl _ _)).mono ?_
  rintro e w1 ⟨rfl, hb1⟩
  have HB1 : Hid (Below w.heap.size w w1) := Lib.hid (hb1)
  replace hf := cell_kept hb1 hf
  replace hpc := cell_kept hb1 hpc
  replace h0 := cell_kept hb1 h0
  replace h1 := cell_kept hb1 h1
  replace h2 := cell_kept hb1 h2
  replace h3 := cell_kept hb1 h3
  clear hb1
  go_wp2_with fail
  go_ret
  exact did HR.out ⟨_, _, _, _, HT.out.kept (HB1.out)⟩ (grown_below (HB1.out))
 | true =>
  cases k0 with
  | false =>
   go_enter Tryz.func132, Tryz.ntmps132
   go_wp2_with fail
   refine (HWE.out _ (Below.refl _ _)).mono ?_
   rintro e w1 ⟨rfl, hb1⟩
   have HB1 : Hid (Below w.heap.size w w1) := Lib.hid (hb1)
   replace hf := cell_kept hb1 hf
   replace hpc := cell_kept hb1 hpc
   replace h0 := cell_kept hb1 h0
   replace h1 := cell_kept hb1 h1
   replace h2 := cell_kept hb1 h2
   replace h3 := cell_kept hb1 h3
   clear hb1
   go_wp2_with fail
   refine (HKI.out _ (HB1.out)).mono ?_
   rintro e w2 ⟨rfl, hb1⟩
   have HB2 : Hid (Below w.heap.size w w2) := Lib.hid ((HB1.out).trans (hb1.mono (HB1.out).size))
   replace hf := cell_kept hb1 hf
   replace hpc := cell_kept hb1 hpc
   replace h0 := cell_kept hb1 h0
   replace h1 := cell_kept hb1 h1
   replace h2 := cell_kept hb1 h2
   replace h3 := cell_kept hb1 h3
   clear hb1
   go_wp2_with fail
   go_ret
   exact did HR.out ⟨_, _, _, _, HT.out.kept (HB2.out)⟩ (grown_below (HB2.out))
  | true =>
   go_enter Tryz.func132, Tryz.ntmps132
   go_wp2_with fail
   refine (HWE.out _ (Below.refl _ _)).mono ?_
   rintro e w1 ⟨rfl, hb1⟩
   have HB1 : Hid (Below w.heap.size w w1) := Lib.hid (hb1)
   replace hf := cell_kept hb1 hf
   replace hpc := cell_kept hb1 hpc
   replace h0 := cell_kept hb1 h0
   replace h1 := cell_kept hb1 h1
   replace h2 := cell_kept hb1 h2
   replace h3 := cell_kept hb1 h3
   clear hb1
   go_wp2_with fail
   refine (HKI.out _ (HB1.out)).mono ?_
   rintro e w2 ⟨rfl, hb1⟩
   have HB2 : Hid (Below w.heap.size w w2) := Lib.hid ((HB1.out).trans (hb1.mono (HB1.out).size))
   replace hf := cell_kept hb1 hf
   replace hpc := cell_kept hb1 hpc
   replace h0 := cell_kept hb1 h0
   replace h1 := cell_kept hb1 h1
   replace h2 := cell_kept hb1 h2
   replace h3 := cell_kept hb1 h3
   clear hb1
   go_wp2_with fail
   refine (HPU.out _ (HB2.out)).mono ?_
   rintro e w9 ⟨rfl, hT9, hg9⟩
   have HT9 := Lib.hid hT9
   have HG9 := Lib.hid (grown_two (grown_below (HB2.out)) hg9)
   clear hT9 hg9
   go_wp2_with fail
   go_ret
   exact did HR.out HT9.out HG9.out

set_option maxRecDepth 100000 in
set_option maxHeartbeats 4000000 in
theorem make_at {S : Nat → Prop} {w : World} {b : Nat} {n : Nd} {v0 v1 v2 v3 : Value} (h : TreeU S w b n v0 v1 v2 v3) (hw : n.well = true) (hB : n.girth ≤ 100000000) {pv : Value} {place : List ByteArray} {y : Nd} {u0 u1 u2 u3 : Value} (hx : NodeR w [u0, u1, u2, u3] y) (hyb : y.girth ≤ 100000000) (hp : PlR w pv place) (hnb : namesBulk place ≤ 10000000) {wx : World} {g gn gf gp : Nat} (hb : Below w.heap.size w wx) (hc : wx.cell? ⟨g, 0, none⟩ = some pv) (hf : wx.cell? ⟨gf, 0, none⟩ = some (.iface 28 (.pointer (some ⟨b, 0, none⟩)))) (hpc : wx.cell? ⟨gp, 0, none⟩ = some pv) (h0 : wx.cell? ⟨gn, 0, none⟩ = some u0) (h1 : wx.cell? ⟨gn, 1, none⟩ = some u1) (h2 : wx.cell? ⟨gn, 2, none⟩ = some u2) (h3 : wx.cell? ⟨gn, 3, none⟩ = some u3) :
  Calls Tryz.prog 106 #[.iface 28 (.pointer (some ⟨b, 0, none⟩)), .func (.func 132) #[] #[.pointer (some ⟨gn, 0, none⟩), .pointer (some ⟨gf, 0, none⟩), .pointer (some ⟨gp, 0, none⟩)], .slice (some ⟨g, 0, none⟩) 1 1] wx fun e w' => ∃ cc : Int, e = .returned (.int .i64 cc) ∧ Did S w b (makeD n place y) e w' := by
 refine atPlaces_make (h.kept hb).x hw (girth_less hB) (m := 1) (V := fun _ => pv) (pl := fun _ => place) (by omega) (fun i hi => ?_) (fun i hi => hp.grown hb) ?_ ?_
 ·obtain rfl : i = 0 := by omega
  exact hc
 ·rintro ⟨i, hi, ht⟩ w' hb'
  exact did_ex ((did (by unfold makeD; rw [ht]; rfl) ⟨_, _, _, _, (h.kept hb).kept hb'⟩ (grown_below hb')).from hb)
 ·intro ht w' hb'
  have ht0 := ht 0 (by omega)
  refine (makeNode1_any ((h.kept hb).kept hb') hw hB (cell_kept hb' hf) (cell_kept hb' hpc) (cell_kept hb' h0) (cell_kept hb' h1) (cell_kept hb' h2) (cell_kept hb' h3) ((hx.grown hb).grown hb') hyb ((hp.grown hb).grown hb') hnb ht0).mono fun e w2 h2 => ⟨_, h2.1, did_ex ((Did.from h2 hb').from hb)⟩

set_option maxRecDepth 100000 in
set_option maxHeartbeats 4000000 in
theorem makeNode_any {S : Nat → Prop} {w : World} {b : Nat} {n : Nd} {v0 v1 v2 v3 : Value} (h : TreeU S w b n v0 v1 v2 v3) (hw : n.well = true) (hB : n.girth ≤ 100000000) {pv : Value} {place : List ByteArray} {y : Nd} {u0 u1 u2 u3 : Value} (hx : NodeR w [u0, u1, u2, u3] y) (hyb : y.girth ≤ 100000000) (hp : PlR w pv place) (hnb : namesBulk place ≤ 10000000) :
  Calls Tryz.prog 117 #[.iface 28 (.pointer (some ⟨b, 0, none⟩)), pv, .agg #[u0, u1, u2, u3]] w fun e w' => Did S w b (makeD n place y) e w' := by
 have HT := Lib.hid h
 have HP := Lib.hid hp
 obtain ⟨pp, pc, rfl, _, _, _⟩ := hp
 have HX := Lib.hid hx
 obtain ⟨p1, q1, c1, d1, hcs⟩ := hx.cells
 simp only [List.cons.injEq, and_true] at hcs
 obtain ⟨rfl, rfl, rfl, rfl⟩ := hcs
 clear hx h
 go_enter Tryz.func117, Tryz.ntmps117
 go_wp2_with fail
 refine Calls.mono (make_at HT.out hw hB HX.out hyb HP.out hnb ?_ ?_ ?_ ?_ ?_ ?_ ?_ ?_) ?_
 all_goals try (first | exact Below.refl _ _ | exact below_alloc (Below.refl _ _) | exact below_alloc (below_alloc (Below.refl _ _)) | exact below_alloc (below_alloc (below_alloc (Below.refl _ _))) | exact below_alloc (below_alloc (below_alloc (below_alloc (Below.refl _ _)))) | exact below_alloc (below_alloc (below_alloc (below_alloc (below_alloc (Below.refl _ _))))) | (refine cell_firstE ?_ rfl; first | rfl | (simp; done)) | (refine cell_alloc (cell_firstE ?_ rfl); first | rfl | (simp; done)) | (refine cell_alloc (cell_alloc (cell_firstE ?_ rfl)); first | rfl | (simp; done)) | (refine cell_alloc (cell_alloc (cell_alloc (cell_firstE ?_ rfl))); first | rfl | (simp; done)) | (refine cell_alloc (cell_alloc (cell_alloc (cell_alloc (cell_firstE ?_ rfl)))); first | rfl | (simp; done)))
 rintro e w2 ⟨c, rfl, hd⟩
 have HD := Lib.hid hd
 clear hd
 go_wp2_with fail
 go_ret
 exact HD.out

theorem leafK (w : World) (k : UInt8) (s : ByteArray) : NodeR w [.int .u8 k.toNat, .string s, .slice none 0 0, .slice none 0 0] (.mk k s [] []) :=
 .mk k s [] [] none none 0 0 (fun _ => []) (Nat.le_refl _) (Nat.zero_le _) (fun i hi => absurd hi (Nat.not_lt_zero _)) (Nat.le_refl _) (Nat.zero_le _) (fun i hi => absurd hi (Nat.not_lt_zero _)) (fun i x hx => by simp at hx)
theorem leaf_girth (k : UInt8) (s : ByteArray) : (Nd.mk k s [] []).girth = s.size + 1 := by
 unfold Nd.girth Nd.girths namesBulk
 simp

set_option maxRecDepth 100000 in
set_option maxHeartbeats 4000000 in
theorem MakeLink_any {S : Nat → Prop} {w : World} {b : Nat} {n : Nd} {v0 v1 v2 v3 : Value} (h : TreeU S w b n v0 v1 v2 v3) (hw : n.well = true) (hB : n.girth ≤ 100000000) {pv : Value} {place : List ByteArray} (hp : PlR w pv place) (hnb : namesBulk place ≤ 10000000) {s : ByteArray} (hs : s.size ≤ 2000) :
  Calls Tryz.prog 86 #[.iface 28 (.pointer (some ⟨b, 0, none⟩)), pv, .string s] w fun e w' => Did S w b (makeD n place (linkN s)) e w' := by
 have HM := Lib.hid (makeNode_any h hw hB (leafK w 3 s) (by rw [leaf_girth]; omega) hp hnb)
 obtain ⟨pp, pc, rfl, _, _, _⟩ := hp
 clear h
 go_enter Tryz.func86, Tryz.ntmps86
 go_wp2_with fail
 refine HM.out.mono ?_
 intro e w2 hd
 obtain ⟨c, rfl, hd⟩ := did_ex hd
 have HD := Lib.hid hd
 clear hd
 go_wp2_with fail
 go_ret
 exact HD.out

set_option maxRecDepth 100000 in
set_option maxHeartbeats 4000000 in
theorem wrongFile_any {n : Nd} {place : List ByteArray} (w : World) :
  Calls Tryz.prog 116 #[.int .u8 ((n.at_ place).getD absent).kind.toNat] w fun e w' => e = .returned (.int .i64 (wrongFile n place)) ∧ Below w.heap.size w w' := by
 have HR : Hid (wrongFile n place = bif decide (((n.at_ place).getD absent).kind = 2) then 55 else 0) := Lib.hid rfl
 generalize (n.at_ place).getD absent = R at *
 rw [kind_bool] at HR
 have e2 := beq_int R.kind 2
 rw [show ((2 : UInt8).toNat : Int) = 2 from rfl] at e2
 obtain ⟨k2, hk2⟩ : ∃ kb, (R.kind == 2) = kb := ⟨_, rfl⟩
 rw [hk2] at e2 HR
 have e2n := ne_of e2
 clear hk2
 cases k2
 all_goals
  go_enter Tryz.func116, Tryz.ntmps116
  go_wp2_with fail
  go_ret
  exact ⟨by rw [HR.out]; rfl, Below.refl _ _⟩

set_option maxRecDepth 100000 in
set_option maxHeartbeats 4000000 in
theorem remove1_file {S : Nat → Prop} {w : World} {b : Nat} {n : Nd} {v0 v1 v2 v3 : Value} (h : TreeU S w b n v0 v1 v2 v3) (hw : n.well = true) (hB : n.girth ≤ 100000000) {gf gp gw : Nat} {pv : Value} {place : List ByteArray} {c : Int} (hwr : ∀ wx, Below w.heap.size w wx → Calls Tryz.prog 116 #[.int .u8 ((n.at_ place).getD absent).kind.toNat] wx fun e w' => e = .returned (.int .i64 c) ∧ Below wx.heap.size wx w') (hf : w.cell? ⟨gf, 0, none⟩ = some (.iface 28 (.pointer (some ⟨b, 0, none⟩)))) (hpc : w.cell? ⟨gp, 0, none⟩ = some pv) (hwc : w.cell? ⟨gw, 0, none⟩ = some (.func (.func 116) #[] #[])) (hp : PlR w pv place) (hnb : namesBulk place ≤ 10000000) (ht : takenD n place = true) :
  Calls Tryz.prog 131 #[.pointer (some ⟨gf, 0, none⟩), .pointer (some ⟨gp, 0, none⟩), .pointer (some ⟨gw, 0, none⟩)] w fun e w' => Did S w b (removeD n place c) e w' := by
 have HT := Lib.hid h
 have HWR := Lib.hid hwr
 have HKI : Hid (∀ wx, Below w.heap.size w wx → Calls Tryz.prog 159 #[.pointer (some ⟨b, 0, none⟩), pv] wx fun e w' => e = .returned (.int .u8 ((n.at_ place).getD absent).kind.toNat) ∧ Below wx.heap.size wx w') := Lib.hid fun wx hb => fkind_any (h.kept hb).x hw (girth_less hB) (hp.grown hb)
 have HDE : Hid (∀ wx, Below w.heap.size w wx → Calls Tryz.prog 157 #[.pointer (some ⟨b, 0, none⟩), pv] wx fun e w' => e = .returned (.tuple #[]) ∧ (∃ x0 x1 x2 x3, TreeU S w' b (delD n place) x0 x1 x2 x3) ∧ wx.grownBy w' (some b)) := Lib.hid fun wx hb => udel_any (h.kept hb) hw (girth_less hB) (hp.grown hb) (small_less hnb)
 have HR : Hid (removeD n place c = bif decide (((n.at_ place).getD absent).kind = 0) then (5, n) else bif decide (c = 0) then (0, delD n place) else (c, n)) := Lib.hid (by unfold removeD kat; rw [ht]; rfl)
 obtain ⟨pp, pc, rfl, _, _, _⟩ := hp
 generalize (n.at_ place).getD absent = R at *
 rw [kind_bool] at HR
 have e0 := beq_int R.kind 0
 rw [show ((0 : UInt8).toNat : Int) = 0 from rfl] at e0
 obtain ⟨k0, hk0⟩ : ∃ kb, (R.kind == 0) = kb := ⟨_, rfl⟩
 rw [hk0] at e0 HR
 have e0n := ne_of e0
 clear hk0
 have ec : (c != 0) = !decide (c = 0) := by rw [Bool.eq_iff_iff]; simp
 generalize decide (c = 0) = cz at *
 generalize place.length = pln at *
 clear h ht hw hB hnb hwr
 cases k0 with
 | true =>
  go_enter Tryz.func131, Tryz.ntmps131
  go_wp2_with fail
  refine (HKI.out _ (Below.refl _ _)).mono ?_
  rintro e w1 ⟨rfl, hb1⟩
  have HB1 : Hid (Below w.heap.size w w1) := Lib.hid (hb1)
  replace hf := cell_kept hb1 hf
  replace hpc := cell_kept hb1 hpc
  replace hwc := cell_kept hb1 hwc
  clear hb1
  go_wp2_with fail
  go_ret
  exact did HR.out ⟨_, _, _, _, HT.out.kept (HB1.out)⟩ (grown_below (HB1.out))
 | false =>
  cases cz with
  | false =>
   go_enter Tryz.func131, Tryz.ntmps131
   go_wp2_with fail
   refine (HKI.out _ (Below.refl _ _)).mono ?_
   rintro e w1 ⟨rfl, hb1⟩
   have HB1 : Hid (Below w.heap.size w w1) := Lib.hid (hb1)
   replace hf := cell_kept hb1 hf
   replace hpc := cell_kept hb1 hpc
   replace hwc := cell_kept hb1 hwc
   clear hb1
   go_wp2_with fail
   refine (HWR.out _ (HB1.out)).mono ?_
   rintro e w2 ⟨rfl, hb1⟩
   have HB2 : Hid (Below w.heap.size w w2) := Lib.hid ((HB1.out).trans (hb1.mono (HB1.out).size))
   replace hf := cell_kept hb1 hf
   replace hpc := cell_kept hb1 hpc
   replace hwc := cell_kept hb1 hwc
   clear hb1
   go_wp2_with fail
   go_ret
   exact did HR.out ⟨_, _, _, _, HT.out.kept (HB2.out)⟩ (grown_below (HB2.out))
  | true =>
   go_enter Tryz.func131, Tryz.ntmps131
   go_wp2_with fail
   refine (HKI.out _ (Below.refl _ _)).mono ?_
   rintro e w1 ⟨rfl, hb1⟩
   have HB1 : Hid (Below w.heap.size w w1) := Lib.hid (hb1)
   replace hf := cell_kept hb1 hf
   replace hpc := cell_kept hb1 hpc
   replace hwc := cell_kept hb1 hwc
   clear hb1
   go_wp2_with fail
   refine (HWR.out _ (HB1.out)).mono ?_
   rintro e w2 ⟨rfl, hb1⟩
   have HB2 : Hid (Below w.heap.size w w2) := Lib.hid ((HB1.out).trans (hb1.mono (HB1.out).size))
   replace hf := cell_kept hb1 hf
   replace hpc := cell_kept hb1 hpc
   replace hwc := cell_kept hb1 hwc
   clear hb1
   go_wp2_with fail
   refine (HDE.out _ (HB2.out)).mono ?_
   rintro e w9 ⟨rfl, hT9, hg9⟩
   have HT9 := Lib.hid hT9
   have HG9 := Lib.hid (grown_two (grown_below (HB2.out)) hg9)
   clear hT9 hg9
   go_wp2_with fail
   go_ret
   exact did HR.out HT9.out HG9.out

set_option maxRecDepth 100000 in
set_option maxHeartbeats 4000000 in
theorem remove_file_at {S : Nat → Prop} {w : World} {b : Nat} {n : Nd} {v0 v1 v2 v3 : Value} (h : TreeU S w b n v0 v1 v2 v3) (hw : n.well = true) (hB : n.girth ≤ 100000000) {pv : Value} {place : List ByteArray} {c : Int} (hwr : ∀ wx, Below w.heap.size w wx → Calls Tryz.prog 116 #[.int .u8 ((n.at_ place).getD absent).kind.toNat] wx fun e w' => e = .returned (.int .i64 c) ∧ Below wx.heap.size wx w') (hp : PlR w pv place) (hnb : namesBulk place ≤ 10000000) {wx : World} {g gf gp gw : Nat} (hb : Below w.heap.size w wx) (hc : wx.cell? ⟨g, 0, none⟩ = some pv) (hf : wx.cell? ⟨gf, 0, none⟩ = some (.iface 28 (.pointer (some ⟨b, 0, none⟩)))) (hpc : wx.cell? ⟨gp, 0, none⟩ = some pv) (hwc : wx.cell? ⟨gw, 0, none⟩ = some (.func (.func 116) #[] #[])) :
  Calls Tryz.prog 106 #[.iface 28 (.pointer (some ⟨b, 0, none⟩)), .func (.func 131) #[] #[.pointer (some ⟨gf, 0, none⟩), .pointer (some ⟨gp, 0, none⟩), .pointer (some ⟨gw, 0, none⟩)], .slice (some ⟨g, 0, none⟩) 1 1] wx fun e w' => ∃ cc : Int, e = .returned (.int .i64 cc) ∧ Did S w b (removeD n place c) e w' := by
 refine atPlaces_remove (h.kept hb).x hw (girth_less hB) (m := 1) (V := fun _ => pv) (pl := fun _ => place) (by omega) (fun i hi => ?_) (fun i hi => hp.grown hb) ?_ ?_
 ·obtain rfl : i = 0 := by omega
  exact hc
 ·rintro ⟨i, hi, ht⟩ w' hb'
  exact did_ex ((did (by unfold removeD; rw [ht]; rfl) ⟨_, _, _, _, (h.kept hb).kept hb'⟩ (grown_below hb')).from hb)
 ·intro ht w' hb'
  have ht0 := ht 0 (by omega)
  refine (remove1_file ((h.kept hb).kept hb') hw hB (fun wy hy => hwr wy ((hb.trans (hb'.mono hb.size)).trans (hy.mono (Nat.le_trans hb.size hb'.size)))) (cell_kept hb' hf) (cell_kept hb' hpc) (cell_kept hb' hwc) ((hp.grown hb).grown hb') hnb ht0).mono fun e w2 h2 => ⟨_, h2.1, did_ex ((Did.from h2 hb').from hb)⟩

set_option maxRecDepth 100000 in
set_option maxHeartbeats 4000000 in
theorem remove_file {S : Nat → Prop} {w : World} {b : Nat} {n : Nd} {v0 v1 v2 v3 : Value} (h : TreeU S w b n v0 v1 v2 v3) (hw : n.well = true) (hB : n.girth ≤ 100000000) {pv : Value} {place : List ByteArray} {c : Int} (hwr : ∀ wx, Below w.heap.size w wx → Calls Tryz.prog 116 #[.int .u8 ((n.at_ place).getD absent).kind.toNat] wx fun e w' => e = .returned (.int .i64 c) ∧ Below wx.heap.size wx w') (hp : PlR w pv place) (hnb : namesBulk place ≤ 10000000) :
  Calls Tryz.prog 115 #[.iface 28 (.pointer (some ⟨b, 0, none⟩)), pv, .func (.func 116) #[] #[]] w fun e w' => Did S w b (removeD n place c) e w' := by
 have HT := Lib.hid h
 have HP := Lib.hid hp
 obtain ⟨pp, pc, rfl, _, _, _⟩ := hp
 have HWR := Lib.hid hwr
 clear h hwr
 go_enter Tryz.func115, Tryz.ntmps115
 go_wp2_with fail
 refine Calls.mono (remove_file_at HT.out hw hB HWR.out HP.out hnb ?_ ?_ ?_ ?_ ?_) ?_
 all_goals try (first | exact Below.refl _ _ | exact below_alloc (Below.refl _ _) | exact below_alloc (below_alloc (Below.refl _ _)) | exact below_alloc (below_alloc (below_alloc (Below.refl _ _))) | exact below_alloc (below_alloc (below_alloc (below_alloc (Below.refl _ _)))) | exact below_alloc (below_alloc (below_alloc (below_alloc (below_alloc (Below.refl _ _))))) | (refine cell_firstE ?_ rfl; first | rfl | (simp; done)) | (refine cell_alloc (cell_firstE ?_ rfl); first | rfl | (simp; done)) | (refine cell_alloc (cell_alloc (cell_firstE ?_ rfl)); first | rfl | (simp; done)) | (refine cell_alloc (cell_alloc (cell_alloc (cell_firstE ?_ rfl))); first | rfl | (simp; done)) | (refine cell_alloc (cell_alloc (cell_alloc (cell_alloc (cell_firstE ?_ rfl)))); first | rfl | (simp; done)))
 rintro e w2 ⟨c, rfl, hd⟩
 have HD := Lib.hid hd
 clear hd
 go_wp2_with fail
 go_ret
 exact HD.out

set_option maxRecDepth 100000 in
set_option maxHeartbeats 4000000 in
theorem Unlink_any {S : Nat → Prop} {w : World} {b : Nat} {n : Nd} {v0 v1 v2 v3 : Value} (h : TreeU S w b n v0 v1 v2 v3) (hw : n.well = true) (hB : n.girth ≤ 100000000) {pv : Value} {place : List ByteArray} (hp : PlR w pv place) (hnb : namesBulk place ≤ 10000000) :
  Calls Tryz.prog 85 #[.iface 28 (.pointer (some ⟨b, 0, none⟩)), pv] w fun e w' => Did S w b (removeD n place (wrongFile n place)) e w' := by
 have HC := Lib.hid (remove_file h hw hB (fun wy _ => wrongFile_any wy) hp hnb)
 obtain ⟨pp, pc, rfl, _, _, _⟩ := hp
 clear h
 go_enter Tryz.func85, Tryz.ntmps85
 go_wp2_with fail
 refine Calls.mono HC.out ?_
 intro e w2 hd
 obtain ⟨c, rfl, hd⟩ := did_ex hd
 have HD := Lib.hid hd
 clear hd
 go_wp2_with fail
 go_ret
 exact HD.out

end Go.Proofs.YtfilbknnpjbmcaaGreatDoor
