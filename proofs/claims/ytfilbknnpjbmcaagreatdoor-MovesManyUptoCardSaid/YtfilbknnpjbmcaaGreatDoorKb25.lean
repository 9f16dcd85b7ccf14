/- Walks over nodes: one that is changed at a place, by Move. -/
import Derived.Test.YtfilbknnpjbmcaaGreatDoorKb02
import Derived.Test.YtfilbknnpjbmcaaGreatDoorKb21
namespace Go.Proofs.YtfilbknnpjbmcaaGreatDoor
open Go.RowKit Px Nx
abbrev qFtWM_0 : Oper := { dst := some 65, op := Op.call { callee := Callee.value (Operand.func 40), args := #[Operand.tmp 64], argTypes := #[9] }, type := 9, pos := "node.go:123", after := #[{ on := 6, ground := Ground.data }], guard := none }
abbrev qFtWM_1 : Oper := { dst := some 73, op := Op.buildSlice 23 1 #[(0, Operand.tmp 72)], type := 23, pos := "node.go:123", after := #[{ on := 14, ground := Ground.data }], guard := none }
abbrev qFtWM_2 : Oper := { dst := some 66, op := Op.buildSlice 22 1 #[(0, Operand.tmp 65)], type := 22, pos := "node.go:123", after := #[{ on := 7, ground := Ground.data }], guard := none }
abbrev qFtWM_3 : Oper := { dst := some 67, op := Op.call { callee := Callee.value (Operand.func 171), args := #[Operand.tmp 59, Operand.tmp 60, Operand.tmp 61, Operand.tmp 66], argTypes := #[22, 3, 3, 22] }, type := 22, pos := "node.go:123", after := #[{ on := 1, ground := Ground.data }, { on := 2, ground := Ground.data }, { on := 3, ground := Ground.data }, { on := 8, ground := Ground.data }, { on := 7, ground := Ground.chain }], guard := none }
abbrev qFtWM_4 : Oper := { dst := some 74, op := Op.call { callee := Callee.value (Operand.func 172), args := #[Operand.tmp 69, Operand.tmp 70, Operand.tmp 71, Operand.tmp 73], argTypes := #[23, 3, 3, 23] }, type := 23, pos := "node.go:123", after := #[{ on := 11, ground := Ground.data }, { on := 12, ground := Ground.data }, { on := 13, ground := Ground.data }, { on := 15, ground := Ground.data }, { on := 9, ground := Ground.chain }], guard := none }
abbrev qFtWM_5 : Oper := { dst := some 75, op := Op.build 25 #[(0, Operand.const (Value.int IntKind.u8 2)), (2, Operand.tmp 67), (3, Operand.tmp 74)], type := 25, pos := "node.go:123", after := #[{ on := 9, ground := Ground.data }, { on := 16, ground := Ground.data }], guard := none }
abbrev qFtWM_6 : Oper := { dst := none, op := Op.store 25 (Operand.tmp 6) (Operand.tmp 75), type := 0, pos := "node.go:123", after := #[{ on := 17, ground := Ground.data }, { on := 16, ground := Ground.chain }, { on := 0, ground := Ground.phase }, { on := 1, ground := Ground.phase }, { on := 2, ground := Ground.phase }, { on := 3, ground := Ground.phase }, { on := 4, ground := Ground.phase }, { on := 5, ground := Ground.phase }, { on := 6, ground := Ground.phase }, { on := 7, ground := Ground.phase }, { on := 8, ground := Ground.phase }, { on := 9, ground := Ground.phase }, { on := 10, ground := Ground.phase }, { on := 11, ground := Ground.phase }, { on := 12, ground := Ground.phase }, { on := 13, ground := Ground.phase }, { on := 14, ground := Ground.phase }, { on := 15, ground := Ground.phase }, { on := 16, ground := Ground.phase }, { on := 17, ground := Ground.phase }], guard := none }
set_option maxRecDepth 100000 in
set_option maxHeartbeats 8000000 in
theorem changed_move {pb L m : Nat} {S0 : Nat → Prop} {f : Nd → Nd} {Inv : World → Prop} {Post : Nd → World → Prop} (hI : ∀ w w' g, Inv w → w.grownBy w' (some g) → L ≤ g → g ≠ m → Inv w') (hP : ∀ y w w' g, Post y w → w.grownBy w' (some g) → L ≤ g → g ≠ m → Post y w')
  (hm0 : ¬ (S0 m ∧ m < L)) (hch : ChangeOk 167 pb L m S0 f Inv Post) : ∀ (place : List ByteArray) (S : Nat → Prop), (∀ k, S0 k → k < L → S k) → ¬ S m → ∀ (n : Nd) (cs : List Value) (w : World) (p : Option Addr) (c : Nat), L ≤ w.heap.size →
   place.length ≤ c → c ≤ maxLen → Strs w p place → (∀ a, p = some a → place.length ≠ 0 → a.block ≠ m) → namesBulk place ≤ 200000000 → NodeX w (fun k => S0 k ∧ k < L) cs n → (n.well = true ∨ n.kind = 0) → n.girth ≤ 200000000 → Inv w → (∀ k, w.heap.size ≤ k → S k) → m < w.heap.size →
   Calls Tryz.prog 169 #[.agg cs.toArray, .slice p place.length c, .func (.func 167) #[] #[.pointer (some ⟨pb, 0, none⟩)]] w fun e w' => (∃ vs, e = .returned (.agg vs) ∧ NodeX w' S vs.toList (changedD f place n)) ∧ w.grownBy w' (some m) ∧ (∀ y, reachD place n = some y → Post y w') := by
 intro place
 induction place with
 | nil =>
  intro S hS0 hSm n cs w p c hL hpc hcm hst hpm hpb hn hwk hB hinv hSn hmw
  obtain ⟨p1, q1, c1, d1, rfl⟩ := hn.to.cells
  have HN := Lib.hid hn
  have HCH := Lib.hid (hch (fun k => S k ∧ k ≠ w.heap.size ∧ k ≠ w.heap.size + 1) (fun k h1 h2 => ⟨hS0 k h1 h2, by omega, by omega⟩) (fun h => hSm h.1))
  have HIN := Lib.hid hinv
  have HI := Lib.hid hI
  have HP := Lib.hid hP
  clear hn hst hch hI hP hinv
  generalize n.kind.toNat = k1 at *
  generalize n.text = t1 at *
  generalize n.names.length = n1 at *
  generalize n.kids.length = m1 at *
  go_enter Tryz.func169, Tryz.ntmps169
  go_upto_region 2 with fail
  have HV : Hid (Four ((w.alloc (.cells #[.int .u8 k1, .string t1, .slice p1 n1 c1, .slice q1 m1 d1] 25)).alloc (.cells #[.int .u8 0, .string ⟨#[]⟩, .slice none 0 0, .slice none 0 0] 25)) w.heap.size (.int .u8 k1) (.string t1) (.slice p1 n1 c1) (.slice q1 m1 d1)) := Lib.hid (four_first w _ _ _ _ _)
  have HZ : Hid (Four ((w.alloc (.cells #[.int .u8 k1, .string t1, .slice p1 n1 c1, .slice q1 m1 d1] 25)).alloc (.cells #[.int .u8 0, .string ⟨#[]⟩, .slice none 0 0, .slice none 0 0] 25)) (w.heap.size + 1) (.int .u8 0) (.string ⟨#[]⟩) (.slice none 0 0) (.slice none 0 0)) := Lib.hid (by have := four_new (w.alloc (.cells #[.int .u8 k1, .string t1, .slice p1 n1 c1, .slice q1 m1 d1] 25)) (.int .u8 0) (.string ⟨#[]⟩) (.slice none 0 0) (.slice none 0 0); simpa using this)
  have HB : Hid (Below w.heap.size w ((w.alloc (.cells #[.int .u8 k1, .string t1, .slice p1 n1 c1, .slice q1 m1 d1] 25)).alloc (.cells #[.int .u8 0, .string ⟨#[]⟩, .slice none 0 0, .slice none 0 0] 25))) := Lib.hid (box2_self (Below.refl _ _))
  have hsz : w.heap.size + 2 ≤ ((w.alloc (.cells #[.int .u8 k1, .string t1, .slice p1 n1 c1, .slice q1 m1 d1] 25)).alloc (.cells #[.int .u8 0, .string ⟨#[]⟩, .slice none 0 0, .slice none 0 0] 25)).heap.size := by simp
  generalize ((w.alloc (.cells #[.int .u8 k1, .string t1, .slice p1 n1 c1, .slice q1 m1 d1] 25)).alloc (.cells #[.int .u8 0, .string ⟨#[]⟩, .slice none 0 0, .slice none 0 0] 25)) = wr at *
  have HNR : Hid (NodeX wr (fun k => S0 k ∧ k < L) [.int .u8 k1, .string t1, .slice p1 n1 c1, .slice q1 m1 d1] n) := Lib.hid (NodeX.grown HN.out HB.out)
  have HC := Lib.hid (HCH.out wr _ n (fun k hk => ⟨hSn k (by omega), by omega, by omega⟩) (by omega) (by omega) (HI.out _ _ w.heap.size HIN.out (grown_of_below HB.out) hL (by omega)) HNR.out)
  clear HCH HI HIN
  obtain ⟨c0, c1x, c2x, c3⟩ := HV.out.cell
  go_wp2_with fail
  refine HC.out.mono ?_
  rintro e w2 ⟨⟨vs, rfl, hvs⟩, hg2, hp2⟩
  obtain ⟨p5, q5, c5, d5, rfl⟩ := nodeX_cells hvs
  have hne : w.heap.size + 1 ≠ m := by omega
  have HZ2 := Lib.hid (HZ.out.grown hg2 (by simpa using hne))
  have HG2 := Lib.hid hg2
  have HVS := Lib.hid hvs
  have HP2 := Lib.hid hp2
  clear hg2 hvs hp2 c0 c1x c2x c3 HC
  obtain ⟨z0, z1, z2, z3⟩ := HZ2.out.cell
  obtain ⟨x0, x1, x2, x3⟩ := HZ2.out.open_
  generalize (f n).kind.toNat = k2 at *
  generalize (f n).text = t2 at *
  generalize (f n).names.length = n2 at *
  generalize (f n).kids.length = m2 at *
  go_wp2_with fail
  refine bodyPost_ret (v := .agg #[.int .u8 k2, .string t2, .slice p5 n2 c5, .slice q5 m2 d5]) (by simp [results, Tryz.results169, go_sem, z0, z1, z2, z3]) rfl ?_
  have hb9 := grown_four (w := w2) (g := w.heap.size + 1) (.int .u8 k2) (.string t2) (.slice p5 n2 c5) (.slice q5 m2 d5)
  refine ⟨⟨_, rfl, (HVS.out.grownBy hb9 (fun h => h.2.2 rfl)).same fun k hk => ⟨rfl, hk.1⟩⟩, grown_mix (grown_trans (grown_of_below HB.out) HG2.out) hb9 (by omega), fun y hy => ?_⟩
  obtain rfl : n = y := by simpa [reachD] using hy
  exact HP.out _ _ _ _ HP2.out hb9 (by omega) (by omega)
 | cons x r ih =>
  intro S hS0 hSm n cs w p c hL hpc hcm hst hpm hpb hn hwk hB hinv hSn hmw
  obtain ⟨p1, q1, c1, d1, rfl⟩ := hn.to.cells
  have HN := Lib.hid hn
  have HIN := Lib.hid hinv
  have HI := Lib.hid hI
  have HP := Lib.hid hP
  by_cases hk2 : n.kind = 2
  ·have hkk : n.kind.toNat = 2 := by rw [hk2]; rfl
   have HCD := Lib.hid (changed_dir (f := f) (x := x) (r := r) hk2)
   have HRD := Lib.hid (reach_dir (x := x) (r := r) hk2)
   have hnw : n.well = true := hwk.resolve_right (fun h => by rw [h] at hk2; cases hk2)
   obtain ⟨hwl, hnl, hwks⟩ := well_len hnw
   have HRS := Lib.hid (rises_of hnl)
   have hnb : n.names.length ≤ 200000000 := Nat.le_trans (names_girth n) hB
   have HWK : Hid (∀ x ∈ n.kids, x.well = true) := Lib.hid hwks
   obtain ⟨bp, op, hpe, hpx⟩ := hst 0 (by simp)
   subst hpe
   have hbpm : bp ≠ m := hpm _ rfl (by simp)
   have hbpw : bp < w.heap.size := block_of_cell hpx
   have hxx : w.cell? ⟨bp, op, none⟩ = some (.string x) := by simpa using hpx
   have HST := Lib.hid hst
   have HIH := Lib.hid ih
   have hpl1 : r.length + 1 ≤ c := by simpa using hpc
   have hc63 : c ≤ 9223372036854775807 := by unfold maxLen at hcm; omega
   have hn1e : n.names.length = n.names.length := rfl
   rw [hkk]
   rw [hkk] at HN
   rw [List.length_cons]
   clear hn hst hI hP hinv ih hpm hpx hpc hnl hwks hn1e
   have hn1 : n.names.length = n.names.length := rfl
   obtain ⟨n1, hn1⟩ : ∃ n1, n.names.length = n1 := ⟨_, rfl⟩
   obtain ⟨m1, hm1⟩ : ∃ m1, n.kids.length = m1 := ⟨_, rfl⟩
   obtain ⟨t1, ht1⟩ : ∃ t1, n.text = t1 := ⟨_, rfl⟩
   rw [hn1, hm1, ht1] at HN ⊢
   go_enter Tryz.func169, Tryz.ntmps169
   go_upto_region 6 with fail
   have HV : Hid (Four (((w.alloc (.cells #[.int .u8 2, .string t1, .slice p1 n1 c1, .slice q1 m1 d1] 25)).alloc (.cells #[.int .u8 0, .string ⟨#[]⟩, .slice none 0 0, .slice none 0 0] 25)).alloc (.cells #[.int .u8 0, .string ⟨#[]⟩, .slice none 0 0, .slice none 0 0] 25)) w.heap.size (.int .u8 2) (.string t1) (.slice p1 n1 c1) (.slice q1 m1 d1)) := Lib.hid ((four_first w _ _ _ _ _).alloc _)
   have HZ : Hid (Four (((w.alloc (.cells #[.int .u8 2, .string t1, .slice p1 n1 c1, .slice q1 m1 d1] 25)).alloc (.cells #[.int .u8 0, .string ⟨#[]⟩, .slice none 0 0, .slice none 0 0] 25)).alloc (.cells #[.int .u8 0, .string ⟨#[]⟩, .slice none 0 0, .slice none 0 0] 25)) (w.heap.size + 1) (.int .u8 0) (.string ⟨#[]⟩) (.slice none 0 0) (.slice none 0 0)) := Lib.hid (by have := four_first (w.alloc (.cells #[.int .u8 2, .string t1, .slice p1 n1 c1, .slice q1 m1 d1] 25)) (.int .u8 0) (.string ⟨#[]⟩) (.slice none 0 0) (.slice none 0 0) (.cells #[.int .u8 0, .string ⟨#[]⟩, .slice none 0 0, .slice none 0 0] 25); simpa using this)
   have HK : Hid (Four (((w.alloc (.cells #[.int .u8 2, .string t1, .slice p1 n1 c1, .slice q1 m1 d1] 25)).alloc (.cells #[.int .u8 0, .string ⟨#[]⟩, .slice none 0 0, .slice none 0 0] 25)).alloc (.cells #[.int .u8 0, .string ⟨#[]⟩, .slice none 0 0, .slice none 0 0] 25)) (w.heap.size + 2) (.int .u8 0) (.string ⟨#[]⟩) (.slice none 0 0) (.slice none 0 0)) := Lib.hid (by have := four_new ((w.alloc (.cells #[.int .u8 2, .string t1, .slice p1 n1 c1, .slice q1 m1 d1] 25)).alloc (.cells #[.int .u8 0, .string ⟨#[]⟩, .slice none 0 0, .slice none 0 0] 25)) (.int .u8 0) (.string ⟨#[]⟩) (.slice none 0 0) (.slice none 0 0); simpa using this)
   have HB : Hid (Below w.heap.size w (((w.alloc (.cells #[.int .u8 2, .string t1, .slice p1 n1 c1, .slice q1 m1 d1] 25)).alloc (.cells #[.int .u8 0, .string ⟨#[]⟩, .slice none 0 0, .slice none 0 0] 25)).alloc (.cells #[.int .u8 0, .string ⟨#[]⟩, .slice none 0 0, .slice none 0 0] 25))) := Lib.hid ((((Below.refl w.heap.size w).alloc (Nat.le_refl _) _).alloc (by simp) _).alloc (by simp <;> omega) _)
   have hsz : w.heap.size + 3 ≤ (((w.alloc (.cells #[.int .u8 2, .string t1, .slice p1 n1 c1, .slice q1 m1 d1] 25)).alloc (.cells #[.int .u8 0, .string ⟨#[]⟩, .slice none 0 0, .slice none 0 0] 25)).alloc (.cells #[.int .u8 0, .string ⟨#[]⟩, .slice none 0 0, .slice none 0 0] 25)).heap.size := by simp
   generalize (((w.alloc (.cells #[.int .u8 2, .string t1, .slice p1 n1 c1, .slice q1 m1 d1] 25)).alloc (.cells #[.int .u8 0, .string ⟨#[]⟩, .slice none 0 0, .slice none 0 0] 25)).alloc (.cells #[.int .u8 0, .string ⟨#[]⟩, .slice none 0 0, .slice none 0 0] 25)) = wa at *
   have HNA : Hid (NodeX wa (fun k => S0 k ∧ k < L) [.int .u8 2, .string t1, .slice p1 n1 c1, .slice q1 m1 d1] n) := Lib.hid (NodeX.grown HN.out HB.out)
   have px := cell_kept HB.out hxx
   obtain ⟨c0, c1x, c2x, c3⟩ := HV.out.cell
   have HSR : Hid (∀ wx, Below wa.heap.size wa wx → Calls Tryz.prog 47 #[.slice p1 n1 c1, .string x] wx fun e w' => (∃ (i : Nat) (b : Bool), e = .returned (.tuple #[.int .i64 i, .bool b]) ∧ SearchAt n.names x i b) ∧ Below wx.heap.size wx w') := Lib.hid fun wx hx => by
    obtain ⟨h1, h2, _⟩ := held_names HNA.out.to
    have := search_any c1 x h2 (by omega) HRS.out wx hx
    rwa [hn1] at this
   refine wp_region_held_drew (S := (fun wx => wx.cell? ⟨w.heap.size, 2, none⟩ = some (.slice p1 n1 c1) ∧ wx.cell? ⟨bp, op, none⟩ = some (.string x))) (by kernel_rfl) ⟨c2x, px⟩ (fun hHeld => ?_)
   refine tk 0 { dst := some 22, op := Op.fieldAddr 25 (Operand.tmp 3) 2, type := 0, pos := "node.go:114", after := #[], guard := none } ?_
   try simp only [Act.put, sA, sB, sC]
   refine tk 1 { dst := some 23, op := Op.load 22 (Operand.tmp 22), type := 22, pos := "node.go:114", after := #[{ on := 0, ground := Ground.data }], guard := none } ?_
   try simp only [Act.put, sA, sB, sC]
   refine tk 2 { dst := some 24, op := Op.move (Operand.tmp 1), type := 22, pos := "node.go:114", after := #[], guard := none } ?_
   try simp only [Act.put, sA, sB, sC]
   refine tk 3 { dst := some 25, op := Op.indexAddr 22 (Operand.tmp 24) (Operand.const (Value.int IntKind.i64 0)), type := 0, pos := "node.go:114", after := #[{ on := 2, ground := Ground.data }], guard := none } ?_
   try simp only [Act.put, sA, sB, sC]
   refine tk 4 { dst := some 26, op := Op.load 9 (Operand.tmp 25), type := 9, pos := "node.go:114", after := #[{ on := 3, ground := Ground.data }], guard := none } ?_
   try simp only [Act.put, sA, sB, sC]
   refine wpAnyH_ready (rs := [5]) (by kernel_rfl) (by simp) ?_
   refine AllReadyH.cons (o := { dst := some 27, op := Op.call { callee := Callee.value (Operand.func 47), args := #[Operand.tmp 23, Operand.tmp 26], argTypes := #[22, 9] }, type := 89, pos := "node.go:114", after := #[{ on := 1, ground := Ground.data }, { on := 4, ground := Ground.data }], guard := none }) rfl (fun K hK => ?_) AllReadyH.nil
   go_simp
   (go_at_call 47; refine (HSR.out _ (Below.refl _ _).drew).mono ?_; rintro e w2 ⟨⟨i, b, rfl, hse⟩, hb2⟩)
   have HB2 : Hid (Below wa.heap.size wa w2) := Lib.hid ((Below.refl _ _).drew.trans hb2)
   have HSE := Lib.hid hse
   have HS6 : Hid ((fun wx => wx.cell? ⟨w.heap.size, 2, none⟩ = some (.slice p1 n1 c1) ∧ wx.cell? ⟨bp, op, none⟩ = some (.string x)) w2) := Lib.hid ⟨cell_kept hb2 hHeld.1, cell_kept hb2 hHeld.2⟩
   clear hb2 hse
   go_wp2_with fail
   refine hK.out _ _ (by exact HS6.out) (fun hHeld => ?_)
   clear hK K
   try simp only [Act.put, sA, sB, sC]
   refine tk 6 { dst := some 21, op := Op.move (Operand.tmp 27), type := 89, pos := "node.go:114", after := #[{ on := 5, ground := Ground.data }], guard := none } ?_
   try simp only [Act.put, sA, sB, sC]
   refine tk 7 { dst := some 28, op := Op.extract (Operand.tmp 21) 0, type := 3, pos := "node.go:114", after := #[{ on := 6, ground := Ground.data }], guard := none } ?_
   try simp only [Act.put, sA, sB, sC]
   refine tk 8 { dst := some 29, op := Op.extract (Operand.tmp 21) 1, type := 4, pos := "node.go:114", after := #[{ on := 6, ground := Ground.data }, { on := 9, ground := Ground.gcOnly Departure.lateStores }], guard := none } ?_
   try simp only [Act.put, sA, sB, sC]
   refine tk 9 { dst := some 8, op := Op.assign (Operand.tmp 28), type := 3, pos := "node.go:114", after := #[{ on := 7, ground := Ground.data }, { on := 5, ground := Ground.chain }, { on := 0, ground := Ground.phase }, { on := 1, ground := Ground.phase }, { on := 2, ground := Ground.phase }, { on := 3, ground := Ground.phase }, { on := 4, ground := Ground.phase }, { on := 5, ground := Ground.phase }, { on := 6, ground := Ground.phase }, { on := 7, ground := Ground.phase }, { on := 8, ground := Ground.textOnly Departure.lateStores }], guard := none } ?_
   try simp only [Act.put, sA, sB, sC]
   refine tk 10 { dst := some 9, op := Op.assign (Operand.tmp 29), type := 4, pos := "node.go:114", after := #[{ on := 8, ground := Ground.data }, { on := 9, ground := Ground.chain }, { on := 0, ground := Ground.phase }, { on := 1, ground := Ground.phase }, { on := 2, ground := Ground.phase }, { on := 3, ground := Ground.phase }, { on := 4, ground := Ground.phase }, { on := 5, ground := Ground.phase }, { on := 6, ground := Ground.phase }, { on := 7, ground := Ground.phase }, { on := 8, ground := Ground.phase }, { on := 9, ground := Ground.phase }], guard := none } ?_
   try simp only [Act.put, sA, sB, sC]
   refine wpAnyH_done (by kernel_rfl) ?_ _
   clear hHeld HS6
   have HV2 := Lib.hid (HV.out.kept HB2.out)
   have HZ2 := Lib.hid (HZ.out.kept HB2.out)
   have HK2 := Lib.hid (HK.out.kept HB2.out)
   have HN2 := Lib.hid (NodeX.grown HNA.out HB2.out)
   have HBW : Hid (Below w.heap.size w w2) := Lib.hid (HB.out.trans (HB2.out.mono HB.out.size))
   have hsz2 : w.heap.size + 3 ≤ w2.heap.size := Nat.le_trans hsz HB2.out.size
   have hse2 := search_find HRS.out HSE.out
   have hin : i ≤ n.names.length := HSE.out.1
   have HLOW := Lib.hid (low_of HSE.out)
   have HEN : Hid ((if (n.kid x).isSome then i + 1 else i) ≤ n.names.length) := Lib.hid (by
    cases b with
    | false => rw [kid_none (hse2.2 rfl)]; exact hin
    | true =>
     have := (hse2.1 rfl).1
     split <;> omega)
   clear HV HZ HK HNA HSR c0 c1x c2x c3 px HB HB2 HSE
   generalize w2 = wr at *
   go_upto_if 31 with fail
   go_cut [9, 10] (fun th en wx => ∃ (bb : Bool) (kk : Int) (tx : ByteArray) (p2 : Option Addr) (n2 c2 : Nat) (q2 : Option Addr) (m2 d2 : Nat), th = .bool bb ∧ en = .int .i64 ((if (n.kid x).isSome then i + 1 else i : Nat) : Int) ∧ Hid (NodeX wx (fun k => S0 k ∧ k < L) [.int .u8 kk, .string tx, .slice p2 n2 c2, .slice q2 m2 d2] ((n.kid x).getD absent)) ∧
    Hid (Four wx (w.heap.size + 2) (.int .u8 kk) (.string tx) (.slice p2 n2 c2) (.slice q2 m2 d2)) ∧ Hid (Four wx w.heap.size (.int .u8 2) (.string t1) (.slice p1 n1 c1) (.slice q1 m1 d1)) ∧ Hid (Four wx (w.heap.size + 1) (.int .u8 0) (.string ⟨#[]⟩) (.slice none 0 0) (.slice none 0 0)) ∧ Hid (Below w.heap.size w wx) ∧ w.heap.size + 3 ≤ wx.heap.size)
   case first =>
    cases b with
    | false =>
     have hkn := kid_none (hse2.2 rfl)
     go_wp2_with fail
     go_meet
     exact ⟨false, 0, _, _, _, _, _, _, _, rfl, by rw [hkn]; rfl, Lib.hid (by rw [hkn]; exact absent_X _ _), HK2, HV2, HZ2, HBW, hsz2⟩
    | true =>
     have hks := kid_some (hse2.1 rfl).2
     have hi1 : i < m1 := by have := (hse2.1 rfl).1; omega
     obtain ⟨y, b', o', kk', tx', p2', n2', c2', q2', m2', d2', hy, rfl, hyR, e0, e1, e2, e3⟩ := kid_heldX HN2.out (Below.refl _ _) hi1
     have HYR := Lib.hid hyR
     have HKS : Hid (n.kid x = some y) := Lib.hid (by rw [hks]; exact hy)
     clear hyR hy hks hse2
     obtain ⟨c0, c1x, c2x, c3⟩ := HV2.out.cell
     obtain ⟨y0, y1, y2, y3⟩ := HK2.out.cell
     obtain ⟨x0, x1, x2, x3⟩ := HK2.out.open_
     have hi2 : i ≤ 200000000 := by omega
     go_wp2_with fail
     go_meet
     refine ⟨true, kk', tx', p2', n2', c2', q2', m2', d2', rfl, by rw [HKS.out]; rfl, Lib.hid ?_, Lib.hid (HK2.out.set _ _ _ _), Lib.hid (HV2.out.other (by omega) _ _ _ _), Lib.hid (HZ2.out.other (by omega) _ _ _ _), Lib.hid (below_four HBW.out (by omega) _ _ _ _), by simpa using hsz2⟩
     rw [HKS.out]
     exact HYR.out.grownBy (grown_four _ _ _ _) (fun h => by have := h.2; omega)
   case rest =>
    clear HV2 HZ2 HK2 HN2 HBW hsz2 hse2
    obtain ⟨bb, kk, tx, p2, n2, c2, q2, m2, d2, rfl, rfl, HKN, HK, HV, HZ, HB, hsz⟩ := hcut
    generalize wc = wr at *
    have hei : i ≤ (if (n.kid x).isSome then i + 1 else i) := by split <;> omega
    have hen := HEN.out
    generalize hE : (if (n.kid x).isSome then i + 1 else i) = E at *
    have HE := Lib.hid hE
    clear hE HEN
    generalize hKD : (n.kid x).getD absent = KN at *
    have HKK := Lib.hid hKD
    have hKw : KN.well = true ∨ KN.kind = 0 := by
     rw [← hKD]
     cases hk9 : n.kid x with
     | none => exact .inr rfl
     | some y => exact .inl (well_kid hnw hk9)
    have hKb : KN.girth ≤ 200000000 := by
     rw [← hKD]
     cases hk9 : n.kid x with
     | none => decide
     | some y => exact Nat.le_trans (Nd.girth_at hk9) hB
    clear hKD
    have HNW : Hid (NodeX wr (fun k => S0 k ∧ k < L) [.int .u8 2, .string t1, .slice p1 n1 c1, .slice q1 m1 d1] n) := Lib.hid (NodeX.grown HN.out HB.out)
    have HCC : Hid (Calls Tryz.prog 169 #[.agg #[.int .u8 kk, .string tx, .slice p2 n2 c2, .slice q2 m2 d2], .slice (if c = 1 then some ⟨bp, op, none⟩ else some ⟨bp, op + 1, none⟩) r.length (c - 1), .func (.func 167) #[] #[.pointer (some ⟨pb, 0, none⟩)]] wr.drew fun e w' => (∃ vs, e = .returned (.agg vs) ∧ NodeX w' (fun k => S k ∧ k ≠ w.heap.size ∧ k ≠ w.heap.size + 1 ∧ k ≠ w.heap.size + 2) vs.toList (changedD f r KN)) ∧ wr.drew.grownBy w' (some m) ∧ ∀ y, reachD r KN = some y → Post y w') := Lib.hid (by
     refine HIH.out (fun k => S k ∧ k ≠ w.heap.size ∧ k ≠ w.heap.size + 1 ∧ k ≠ w.heap.size + 2) (fun k h1 h2 => ⟨hS0 k h1 h2, by omega, by omega, by omega⟩) (fun h => hSm h.1) KN [.int .u8 kk, .string tx, .slice p2 n2 c2, .slice q2 m2 d2] wr.drew _ (c - 1) (Nat.le_trans hL HB.out.size) (by omega) (by omega) ?_ (fun a ha hne => ?_) (by simp [namesBulk] at hpb ⊢; omega) (NodeX.grown HKN.out (Below.refl _ _).drew) hKw hKb (HI.out _ _ w.heap.size HIN.out (grown_of_below HB.out.drew) hL (by omega)) (fun k hk => ⟨hSn k (Nat.le_trans HB.out.size hk), by have : wr.heap.size ≤ k := hk; omega, by have : wr.heap.size ≤ k := hk; omega, by have : wr.heap.size ≤ k := hk; omega⟩) (Nat.lt_of_lt_of_le hmw HB.out.size)
     ·intro j hj
      have hc1 : ¬ c = 1 := by omega
      rw [if_neg hc1]
      obtain ⟨b', o', he, hc⟩ := HST.out (j + 1) (by simpa using hj)
      obtain ⟨rfl, rfl⟩ : bp = b' ∧ op = o' := by simpa using he
      refine ⟨bp, op + 1, rfl, ?_⟩
      have h9 := cell_kept HB.out hc
      rw [show op + 1 + j = op + (j + 1) by omega]
      simpa using h9
     ·split at ha <;> cases ha <;> exact hbpm)
    clear HIH
    have hl1 : (1 : Int) ≤ (r.length : Int) + 1 := by omega
    have hlc : (r.length : Int) + 1 ≤ (c : Int) := by omega
    have h1c : (1 : Int) ≤ (c : Int) := by omega
    have hl2 : (r.length : Int) + 1 - 1 = (r.length : Int) := by omega
    have hl3 : (c : Int) - 1 = ((c - 1 : Nat) : Int) := by omega
    go_upto_region 10 with fail
    refine wp_region_held_drew (S := (fun _ => True)) (by kernel_rfl) trivial (fun hHeld => ?_)
    refine tk 1 { dst := some 40, op := Op.move (Operand.tmp 1), type := 22, pos := "node.go:119", after := #[], guard := none } ?_
    try simp only [Act.put, sA, sB, sC]
    refine tk 2 { dst := some 41, op := Op.slice 22 (Operand.tmp 40) (some (Operand.const (Value.int IntKind.i64 1))) none none, type := 22, pos := "node.go:119", after := #[{ on := 1, ground := Ground.data }], guard := none } ?_
    try simp only [Act.put, sA, sB, sC]
    refine tk 3 { dst := some 42, op := Op.move (Operand.tmp 2), type := 190, pos := "node.go:119", after := #[], guard := none } ?_
    try simp only [Act.put, sA, sB, sC]
    refine wpAnyH_ready (rs := [0]) (by kernel_rfl) (by simp) ?_
    refine AllReadyH.cons (o := { dst := some 39, op := Op.load 25 (Operand.tmp 7), type := 25, pos := "node.go:119", after := #[], guard := none }) rfl (fun K hK => ?_) AllReadyH.nil
    generalize hpa : (if c = 1 then some (⟨bp, op, none⟩ : Addr) else some ⟨bp, op + 1, none⟩) = pa at *
    clear hpa
    have HKd : Hid (Four wr.drew (w.heap.size + 2) (.int .u8 kk) (.string tx) (.slice p2 n2 c2) (.slice q2 m2 d2)) := Lib.hid HK.out
    obtain ⟨y0, y1, y2, y3⟩ := HKd.out.cell
    go_simp
    go_wp2_with fail
    clear y0 y1 y2 y3
    refine hK.out _ _ (by trivial) (fun hHeld => ?_)
    clear hK K
    try simp only [Act.put, sA, sB, sC]
    refine wpAnyH_ready (rs := [4]) (by kernel_rfl) (by simp) ?_
    refine AllReadyH.cons (o := { dst := some 43, op := Op.call { callee := Callee.value (Operand.func 169), args := #[Operand.tmp 39, Operand.tmp 41, Operand.tmp 42], argTypes := #[25, 22, 190] }, type := 25, pos := "node.go:119", after := #[{ on := 0, ground := Ground.data }, { on := 2, ground := Ground.data }, { on := 3, ground := Ground.data }], guard := none }) rfl (fun K hK => ?_) AllReadyH.nil
    go_simp
    (go_at_call 169; refine HCC.out.mono ?_; rintro e w4 ⟨⟨vs, rfl, hvs⟩, hg4, hp4⟩)
    have HCCx := HCC
    clear HCC HCCx
    generalize hD : changedD f r KN = D at *
    have HDD := Lib.hid hD
    clear hD
    obtain ⟨p5, q5, c5, d5, rfl⟩ := nodeX_cells hvs
    have hg4 : wr.grownBy w4 (some m) := ⟨hg4.os, hg4.tape, hg4.output, hg4.size, hg4.block⟩
    have hn0 : w.heap.size ≠ m := by omega
    have hn1x : w.heap.size + 1 ≠ m := by omega
    have hn2x : w.heap.size + 2 ≠ m := by omega
    have HK4 := Lib.hid (HK.out.grown hg4 (by simpa using hn2x))
    have HV4 := Lib.hid (HV.out.grown hg4 (by simpa using hn0))
    have HZ4 := Lib.hid (HZ.out.grown hg4 (by simpa using hn1x))
    have HG4 := Lib.hid hg4
    have HVS := Lib.hid hvs
    have HP4 := Lib.hid hp4
    clear hg4 hvs hp4
    go_wp2_with fail
    refine hK.out _ _ (by trivial) (fun hHeld => ?_)
    clear hK K
    try simp only [Act.put, sA, sB, sC]
    refine wpAnyH_ready (rs := [5]) (by kernel_rfl) (by simp) ?_
    refine AllReadyH.cons (o := { dst := none, op := Op.store 25 (Operand.tmp 7) (Operand.tmp 43), type := 0, pos := "node.go:119", after := #[{ on := 4, ground := Ground.data }, { on := 4, ground := Ground.chain }, { on := 0, ground := Ground.phase }, { on := 1, ground := Ground.phase }, { on := 2, ground := Ground.phase }, { on := 3, ground := Ground.phase }, { on := 4, ground := Ground.phase }], guard := none }) rfl (fun K hK => ?_) AllReadyH.nil
    obtain ⟨z0, z1, z2, z3⟩ := HK4.out.cell
    obtain ⟨x0, x1, x2, x3⟩ := HK4.out.open_
    go_simp
    go_wp2_with fail
    refine hK.out _ _ (by trivial) (fun hHeld => ?_)
    clear hK K
    try simp only [Act.put, sA, sB, sC]
    refine wpAnyH_done (by kernel_rfl) ?_ _
    clear z0 z1 z2 z3 x0 x1 x2 x3 hHeld
    have hb5 := grown_four (w := w4) (g := w.heap.size + 2) (.int .u8 D.kind.toNat) (.string D.text) (.slice p5 D.names.length c5) (.slice q5 D.kids.length d5)
    have HK5 := Lib.hid (HK4.out.set (.int .u8 D.kind.toNat) (.string D.text) (.slice p5 D.names.length c5) (.slice q5 D.kids.length d5))
    have HV5 := Lib.hid (HV4.out.other (show w.heap.size ≠ w.heap.size + 2 by omega) (.int .u8 D.kind.toNat) (.string D.text) (.slice p5 D.names.length c5) (.slice q5 D.kids.length d5))
    have HZ5 := Lib.hid (HZ4.out.other (show w.heap.size + 1 ≠ w.heap.size + 2 by omega) (.int .u8 D.kind.toNat) (.string D.text) (.slice p5 D.names.length c5) (.slice q5 D.kids.length d5))
    have HG5 := Lib.hid (grown_mix (grown_trans (grown_of_below HB.out) HG4.out) hb5 (by omega))
    have HN5 := Lib.hid ((HNW.out.grownBy HG4.out hm0).grownBy hb5 (fun h => by have := h.2; omega))
    have HD5 := Lib.hid (HVS.out.grownBy hb5 (fun h => h.2.2.2 rfl))
    have HP5 : Hid (∀ y, reachD r KN = some y → Post y _) := Lib.hid fun y hy => HP.out _ _ _ _ (HP4.out y hy) hb5 (by omega) (by omega)
    have hsz5 : w.heap.size + 3 ≤ w4.heap.size := Nat.le_trans hsz HG4.out.size
    have hsz6 := hb5.size
    have px5 := cell_grownBy hb5 (cell_grownBy HG4.out (cell_kept HB.out hxx) (by simpa using hbpm)) (by simp; omega)
    clear hb5 HK4 HV4 HZ4 HVS HP4 HG4 HK HV HZ HKN HNW
    generalize ((((w4.setCell ⟨w.heap.size + 2, 0, none⟩ (.int .u8 D.kind.toNat)).setCell ⟨w.heap.size + 2, 1, none⟩ (.string D.text)).setCell ⟨w.heap.size + 2, 2, none⟩ (.slice p5 D.names.length c5)).setCell ⟨w.heap.size + 2, 3, none⟩ (.slice q5 D.kids.length d5)) = w5 at *
    have hsz7 : w.heap.size + 3 ≤ w5.heap.size := by omega
    clear hsz5 hsz6
    obtain ⟨hrn, hrn2, hrn3, hrn4⟩ := reads_names HN5.out
    obtain ⟨zs, hrk, hra, hrk2, hrk3, hrk4⟩ := reads_kids HN5.out
    have HSPN := Lib.hid (spliceNames hrn (by omega) hrn4)
    have HSPK := Lib.hid (spliceKids hrk (by have := (well_len hnw).1; omega) hrk4)
    have HRA := Lib.hid hra
    have HRN := Lib.hid hrn3
    have HRK := Lib.hid hrk3
    have hm1n : m1 = n1 := by have := (well_len hnw).1; omega
    have HMN := Lib.hid hm1n
    clear hrn hrk hra hrn3 hrk3 hrn2 hrk2 hrn4 hrk4 hm1n
    have HEI := Lib.hid hei
    have HEL : Hid (E ≤ n1) := Lib.hid (by omega)
    have HEM : Hid (E ≤ m1) := Lib.hid (by have := HMN.out; omega)
    have HNB : Hid (n1 ≤ 200000000) := Lib.hid (by omega)
    clear hei hen
    by_cases hD0 : D.kind = 0
    ·have HD0 := Lib.hid hD0
     have hd0 : (((D.kind.toNat : Int)) == 0) = true := by rw [hD0]; rfl
     obtain ⟨z0, z1, z2, z3⟩ := HK5.out.cell
     go_upto_region 12 with fail
     clear z0 z1 z2 z3 hd0 hD0
     obtain ⟨_, _, v2, v3⟩ := HV5.out.cell
     have HNL1 : Hid (∀ wx : World, Reads wx (.slice none 0 0) 0 1 []) := Lib.hid fun wx => ⟨rfl, rfl, none, 0, rfl, Nat.le_refl _, Nat.zero_le _, fun j u hj => by simp at hj⟩
     have HNL4 : Hid (∀ wx : World, Reads wx (.slice none 0 0) 0 4 []) := Lib.hid fun wx => ⟨rfl, rfl, none, 0, rfl, Nat.le_refl _, Nat.zero_le _, fun j u hj => by simp at hj⟩
     refine wp_region_held_drew (S := (fun wx => wx.cell? ⟨w.heap.size, 2, none⟩ = some (.slice p1 n1 c1) ∧ wx.cell? ⟨w.heap.size, 3, none⟩ = some (.slice q1 m1 d1))) (by kernel_rfl) ⟨v2, v3⟩ (fun hHeld => ?_)
     refine tk 0 { dst := some 47, op := Op.fieldAddr 25 (Operand.tmp 3) 2, type := 0, pos := "node.go:121", after := #[], guard := none } ?_
     try simp only [Act.put, sA, sB, sC]
     refine tk 1 { dst := some 48, op := Op.load 22 (Operand.tmp 47), type := 22, pos := "node.go:121", after := #[{ on := 0, ground := Ground.data }], guard := none } ?_
     try simp only [Act.put, sA, sB, sC]
     refine tk 2 { dst := some 49, op := Op.move (Operand.tmp 8), type := 3, pos := "node.go:121", after := #[], guard := none } ?_
     try simp only [Act.put, sA, sB, sC]
     refine tk 3 { dst := some 50, op := Op.move (Operand.tmp 10), type := 3, pos := "node.go:121", after := #[], guard := none } ?_
     try simp only [Act.put, sA, sB, sC]
     refine tk 5 { dst := some 52, op := Op.fieldAddr 25 (Operand.tmp 3) 3, type := 0, pos := "node.go:121", after := #[], guard := none } ?_
     try simp only [Act.put, sA, sB, sC]
     refine tk 6 { dst := some 53, op := Op.load 23 (Operand.tmp 52), type := 23, pos := "node.go:121", after := #[{ on := 5, ground := Ground.data }], guard := none } ?_
     try simp only [Act.put, sA, sB, sC]
     refine tk 7 { dst := some 54, op := Op.move (Operand.tmp 8), type := 3, pos := "node.go:121", after := #[], guard := none } ?_
     try simp only [Act.put, sA, sB, sC]
     refine tk 8 { dst := some 55, op := Op.move (Operand.tmp 10), type := 3, pos := "node.go:121", after := #[], guard := none } ?_
     try simp only [Act.put, sA, sB, sC]
     refine wpAnyH_ready (rs := [4]) (by kernel_rfl) (by simp) ?_
     refine AllReadyH.cons (o := { dst := some 51, op := Op.call { callee := Callee.value (Operand.func 171), args := #[Operand.tmp 48, Operand.tmp 49, Operand.tmp 50, Operand.const (Value.slice none 0 0)], argTypes := #[22, 3, 3, 22] }, type := 22, pos := "node.go:121", after := #[{ on := 1, ground := Ground.data }, { on := 2, ground := Ground.data }, { on := 3, ground := Ground.data }], guard := none }) rfl (fun K hK => ?_) AllReadyH.nil
     go_simp
     (go_at_call 171; refine (HSPN.out _ (Below.refl _ _).drew i E 0 [] _ (HNL1.out _) HEI.out HEL.out (by omega)).mono ?_; rintro e wA ⟨⟨va, rfl, hma⟩, hba⟩)
     have HBA : Hid (Below w5.heap.size w5 wA) := Lib.hid ((Below.refl _ _).drew.trans hba)
     obtain ⟨-, pA, cA, rfl, -⟩ := id (hma.out (by unfold maxLen; omega))
     have HMA := Lib.hid hma
     have HBA0 : Hid (∀ k, w5.heap.size ≤ k → w.heap.size + 3 ≤ k) := Lib.hid fun k hk => by omega
     have HSA : Hid ((fun wx => wx.cell? ⟨w.heap.size, 2, none⟩ = some (.slice p1 n1 c1) ∧ wx.cell? ⟨w.heap.size, 3, none⟩ = some (.slice q1 m1 d1)) wA) := Lib.hid ⟨cell_kept hba hHeld.1, cell_kept hba hHeld.2⟩
     clear hma hba
     go_wp2_with fail
     refine hK.out _ _ (by exact HSA.out) (fun hHeld => ?_)
     clear hK K
     try simp only [Act.put, sA, sB, sC]
     refine wpAnyH_ready (rs := [9]) (by kernel_rfl) (by simp) ?_
     refine AllReadyH.cons (o := { dst := some 56, op := Op.call { callee := Callee.value (Operand.func 172), args := #[Operand.tmp 53, Operand.tmp 54, Operand.tmp 55, Operand.const (Value.slice none 0 0)], argTypes := #[23, 3, 3, 23] }, type := 23, pos := "node.go:121", after := #[{ on := 6, ground := Ground.data }, { on := 7, ground := Ground.data }, { on := 8, ground := Ground.data }, { on := 4, ground := Ground.chain }], guard := none }) rfl (fun K hK => ?_) AllReadyH.nil
     go_simp
     (go_at_call 172; refine (HSPK.out _ HBA.out i E 0 [] _ (HNL4.out _) HEI.out HEM.out (by omega)).mono ?_; rintro e wB ⟨⟨vb, rfl, hmb⟩, hbb⟩)
     have HBB : Hid (Below w5.heap.size w5 wB) := Lib.hid (HBA.out.trans (hbb.mono HBA.out.size))
     obtain ⟨-, pB, cB, rfl, -⟩ := id (hmb.out (by unfold maxLen; have := HMN.out; omega))
     have HMB := Lib.hid hmb
     have HAB := Lib.hid hbb
     have HBB0 : Hid (∀ k, wA.heap.size ≤ k → w.heap.size + 3 ≤ k) := Lib.hid fun k hk => by have := HBA.out.size; omega
     have HSB : Hid ((fun wx => wx.cell? ⟨w.heap.size, 2, none⟩ = some (.slice p1 n1 c1) ∧ wx.cell? ⟨w.heap.size, 3, none⟩ = some (.slice q1 m1 d1)) wB) := Lib.hid ⟨cell_kept hbb hHeld.1, cell_kept hbb hHeld.2⟩
     clear hmb hbb
     go_wp2_with fail
     refine hK.out _ _ (by exact HSB.out) (fun hHeld => ?_)
     clear hK K
     try simp only [Act.put, sA, sB, sC]
     refine tk 10 { dst := some 57, op := Op.build 25 #[(0, Operand.const (Value.int IntKind.u8 2)), (2, Operand.tmp 51), (3, Operand.tmp 56)], type := 25, pos := "node.go:121", after := #[{ on := 4, ground := Ground.data }, { on := 9, ground := Ground.data }], guard := none } ?_
     try simp only [Act.put, sA, sB, sC]
     refine wpAnyH_ready (rs := [11]) (by kernel_rfl) (by simp) ?_
     refine AllReadyH.cons (o := { dst := none, op := Op.store 25 (Operand.tmp 6) (Operand.tmp 57), type := 0, pos := "node.go:121", after := #[{ on := 10, ground := Ground.data }, { on := 9, ground := Ground.chain }, { on := 0, ground := Ground.phase }, { on := 1, ground := Ground.phase }, { on := 2, ground := Ground.phase }, { on := 3, ground := Ground.phase }, { on := 4, ground := Ground.phase }, { on := 5, ground := Ground.phase }, { on := 6, ground := Ground.phase }, { on := 7, ground := Ground.phase }, { on := 8, ground := Ground.phase }, { on := 9, ground := Ground.phase }, { on := 10, ground := Ground.phase }], guard := none }) rfl (fun K hK => ?_) AllReadyH.nil
     have HZB := Lib.hid (HZ5.out.kept HBB.out)
     have HVB := Lib.hid (HV5.out.kept HBB.out)
     obtain ⟨z0, z1, z2, z3⟩ := HZB.out.cell
     obtain ⟨x0, x1, x2, x3⟩ := HZB.out.open_
     go_simp
     go_wp2_with fail
     refine hK.out _ _ (by exact ⟨(HVB.out.other (show w.heap.size ≠ w.heap.size + 1 by omega) _ _ _ _).cell.2.2.1, (HVB.out.other (show w.heap.size ≠ w.heap.size + 1 by omega) _ _ _ _).cell.2.2.2⟩) (fun hHeld => ?_)
     clear hK K
     try simp only [Act.put, sA, sB, sC]
     refine wpAnyH_done (by kernel_rfl) ?_ _
     clear hHeld
     go_wp2_with fail
     refine bodyPost_ret (v := .agg #[.int .u8 2, .string ⟨#[]⟩, .slice pA (i + (n1 - E)) cA, .slice pB (i + (m1 - E)) cB]) (by simp [results, Tryz.results169, go_sem, z0, z1, z2, z3]) rfl ?_
     have hb9 := grown_four (w := wB) (g := w.heap.size + 1) (.int .u8 2) (.string ⟨#[]⟩) (.slice pA (i + (n1 - E)) cA) (.slice pB (i + (m1 - E)) cB)
     have hgB : w.grownBy wB (some m) := grown_trans HG5.out (grown_of_below HBB.out)
     have hke : changedD f (x :: r) n = .mk 2 ByteArray.empty (n.names.take i ++ ([] : List ByteArray) ++ n.names.drop E) (n.kids.take i ++ ([] : List Nd) ++ n.kids.drop E) := by
      rw [HCD.out, if_pos HD0.out, ← HLOW.out, HE.out]
      simp
     have hmn := HMN.out
     have hel := HEL.out
     have hei := HEI.out
     have hn1b : n1 ≤ 200000000 := by have := HNB.out; omega
     have hwA := HBA.out.size
     refine ⟨⟨_, rfl, ?_⟩, grown_mix hgB hb9 (by omega), fun y hy => ?_⟩
     ·rw [hke]
      have h9 := node_spliced (S' := fun k => S k ∧ k ≠ w.heap.size + 1) (ls := ([] : List ByteArray)) (ks := ([] : List Nd)) (cs := []) (i := i) (E := E) (base := w5.heap.size) (base2 := wA.heap.size) (pn := poIf 0 p1) (pq := poIf 0 q1) (vn := .slice pA (i + (n1 - E)) cA) (vq := .slice pB (i + (m1 - E)) cB) (nn := i + (n1 - E)) (nk := i + (m1 - E)) HRA.out .nil HBB.out (fun k hk => ⟨hS0 k hk.1 hk.2, by have := hk.2; omega⟩)
       (by simpa [Nat.add_assoc] using HMA.out.kept HAB.out) (by simpa [Nat.add_assoc] using HMB.out) (by unfold maxLen; omega) (by unfold maxLen; omega) (fun k hk => ⟨hSn k (by have := HBA0.out k hk; omega), by have := HBA0.out k hk; omega⟩) (fun k hk => ⟨hSn k (by have := HBB0.out k hk; omega), by have := HBB0.out k hk; omega⟩)
       (fun a ha hne => by
        have h := HRN.out a ha (by simpa using hne)
        exact ⟨hS0 _ h.1 h.2, by have := h.2; omega⟩) (fun a ha hne => by
        have h := HRK.out a ha (by simpa using hne)
        exact ⟨hS0 _ h.1 h.2, by have := h.2; omega⟩)
      exact (h9.grownBy hb9 (fun h => h.2 rfl)).same fun k hk => ⟨rfl, hk.1⟩
     ·rw [HRD.out] at hy
      exact HP.out _ _ _ _ (HP5.out y hy) (grown_trans (grown_of_below HBB.out) hb9) (by omega) (by omega)
    ·have hd0 : (((D.kind.toNat : Int)) == 0) = false := by
      have : D.kind.toNat ≠ 0 := fun h => hD0 (UInt8.toNat_inj.1 (by simpa using h))
      simpa using this
     obtain ⟨z0, z1, z2, z3⟩ := HK5.out.cell
     go_upto_region 13 with fail
     clear z0 z1 z2 z3 hd0
     have HD0 := Lib.hid hD0
     clear hD0
     obtain ⟨_, _, v2, v3⟩ := HV5.out.cell
     obtain ⟨y0, y1, y2, y3⟩ := HK5.out.cell
     have HCL := Lib.hid sclone_any
     have hxs : x.size ≤ 281474976710656 := by
      have : x.size ≤ namesBulk (x :: r) := by simp [namesBulk]; omega
      omega
     refine wp_region_held_drew (S := (fun wx => wx.cell? ⟨w.heap.size, 2, none⟩ = some (.slice p1 n1 c1) ∧ wx.cell? ⟨w.heap.size, 3, none⟩ = some (.slice q1 m1 d1) ∧ wx.cell? ⟨bp, op, none⟩ = some (.string x) ∧ wx.cell? ⟨w.heap.size + 2, 0, none⟩ = some (.int .u8 D.kind.toNat) ∧ wx.cell? ⟨w.heap.size + 2, 1, none⟩ = some (.string D.text) ∧ wx.cell? ⟨w.heap.size + 2, 2, none⟩ = some (.slice p5 D.names.length c5) ∧ wx.cell? ⟨w.heap.size + 2, 3, none⟩ = some (.slice q5 D.kids.length d5))) (by kernel_rfl) ⟨v2, v3, px5, y0, y1, y2, y3⟩ (fun hHeld => ?_)
     refine tk 0 { dst := some 58, op := Op.fieldAddr 25 (Operand.tmp 3) 2, type := 0, pos := "node.go:123", after := #[], guard := none } ?_
     try simp only [Act.put, sA, sB, sC]
     refine tk 1 { dst := some 59, op := Op.load 22 (Operand.tmp 58), type := 22, pos := "node.go:123", after := #[{ on := 0, ground := Ground.data }], guard := none } ?_
     try simp only [Act.put, sA, sB, sC]
     refine tk 2 { dst := some 60, op := Op.move (Operand.tmp 8), type := 3, pos := "node.go:123", after := #[], guard := none } ?_
     try simp only [Act.put, sA, sB, sC]
     refine tk 3 { dst := some 61, op := Op.move (Operand.tmp 10), type := 3, pos := "node.go:123", after := #[], guard := none } ?_
     try simp only [Act.put, sA, sB, sC]
     refine tk 4 { dst := some 62, op := Op.move (Operand.tmp 1), type := 22, pos := "node.go:123", after := #[], guard := none } ?_
     try simp only [Act.put, sA, sB, sC]
     refine tk 5 { dst := some 63, op := Op.indexAddr 22 (Operand.tmp 62) (Operand.const (Value.int IntKind.i64 0)), type := 0, pos := "node.go:123", after := #[{ on := 4, ground := Ground.data }], guard := none } ?_
     try simp only [Act.put, sA, sB, sC]
     refine tk 6 { dst := some 64, op := Op.load 9 (Operand.tmp 63), type := 9, pos := "node.go:123", after := #[{ on := 5, ground := Ground.data }], guard := none } ?_
     try simp only [Act.put, sA, sB, sC]
     refine tk 10 { dst := some 68, op := Op.fieldAddr 25 (Operand.tmp 3) 3, type := 0, pos := "node.go:123", after := #[], guard := none } ?_
     try simp only [Act.put, sA, sB, sC]
     refine tk 11 { dst := some 69, op := Op.load 23 (Operand.tmp 68), type := 23, pos := "node.go:123", after := #[{ on := 10, ground := Ground.data }], guard := none } ?_
     try simp only [Act.put, sA, sB, sC]
     refine tk 12 { dst := some 70, op := Op.move (Operand.tmp 8), type := 3, pos := "node.go:123", after := #[], guard := none } ?_
     try simp only [Act.put, sA, sB, sC]
     refine tk 13 { dst := some 71, op := Op.move (Operand.tmp 10), type := 3, pos := "node.go:123", after := #[], guard := none } ?_
     try simp only [Act.put, sA, sB, sC]
     refine tk 14 { dst := some 72, op := Op.load 25 (Operand.tmp 7), type := 25, pos := "node.go:123", after := #[], guard := none } ?_
     try simp only [Act.put, sA, sB, sC]
     refine wpAnyH_ready (rs := [7, 15]) (by kernel_rfl) (by simp) ?_
     refine AllReadyH.cons (o := qFtWM_0) rfl (fun K hK => ?_) ?_
     rotate_left
     refine AllReadyH.cons (o := qFtWM_1) rfl (fun K hK => ?_) AllReadyH.nil
     ·skip
      go_simp
      have HB15 : Hid (Below w5.heap.size w5 (w5.alloc (.cells #[.int .u8 D.kind.toNat, .string D.text, .slice p5 D.names.length c5, .slice q5 D.kids.length d5] 25)).drew) := Lib.hid ((Below.refl w5.heap.size w5).drew.alloc (Below.refl w5.heap.size w5).drew.size _)
      have HS15 : Hid ((fun wx => wx.cell? ⟨w.heap.size, 2, none⟩ = some (.slice p1 n1 c1) ∧ wx.cell? ⟨w.heap.size, 3, none⟩ = some (.slice q1 m1 d1) ∧ wx.cell? ⟨bp, op, none⟩ = some (.string x) ∧ wx.cell? ⟨w.heap.size + 2, 0, none⟩ = some (.int .u8 D.kind.toNat) ∧ wx.cell? ⟨w.heap.size + 2, 1, none⟩ = some (.string D.text) ∧ wx.cell? ⟨w.heap.size + 2, 2, none⟩ = some (.slice p5 D.names.length c5) ∧ wx.cell? ⟨w.heap.size + 2, 3, none⟩ = some (.slice q5 D.kids.length d5)) (w5.alloc (.cells #[.int .u8 D.kind.toNat, .string D.text, .slice p5 D.names.length c5, .slice q5 D.kids.length d5] 25)).drew) := Lib.hid ⟨cell_kept ((Below.refl w5.drew.heap.size w5.drew).alloc (Nat.le_refl _) (.cells #[.int .u8 D.kind.toNat, .string D.text, .slice p5 D.names.length c5, .slice q5 D.kids.length d5] 25)) hHeld.1, cell_kept ((Below.refl w5.drew.heap.size w5.drew).alloc (Nat.le_refl _) (.cells #[.int .u8 D.kind.toNat, .string D.text, .slice p5 D.names.length c5, .slice q5 D.kids.length d5] 25)) hHeld.2.1, cell_kept ((Below.refl w5.drew.heap.size w5.drew).alloc (Nat.le_refl _) (.cells #[.int .u8 D.kind.toNat, .string D.text, .slice p5 D.names.length c5, .slice q5 D.kids.length d5] 25)) hHeld.2.2.1, cell_kept ((Below.refl w5.drew.heap.size w5.drew).alloc (Nat.le_refl _) (.cells #[.int .u8 D.kind.toNat, .string D.text, .slice p5 D.names.length c5, .slice q5 D.kids.length d5] 25)) hHeld.2.2.2.1, cell_kept ((Below.refl w5.drew.heap.size w5.drew).alloc (Nat.le_refl _) (.cells #[.int .u8 D.kind.toNat, .string D.text, .slice p5 D.names.length c5, .slice q5 D.kids.length d5] 25)) hHeld.2.2.2.2.1, cell_kept ((Below.refl w5.drew.heap.size w5.drew).alloc (Nat.le_refl _) (.cells #[.int .u8 D.kind.toNat, .string D.text, .slice p5 D.names.length c5, .slice q5 D.kids.length d5] 25)) hHeld.2.2.2.2.2.1, cell_kept ((Below.refl w5.drew.heap.size w5.drew).alloc (Nat.le_refl _) (.cells #[.int .u8 D.kind.toNat, .string D.text, .slice p5 D.names.length c5, .slice q5 D.kids.length d5] 25)) hHeld.2.2.2.2.2.2⟩
      have HR15 : Hid (Reads (w5.alloc (.cells #[.int .u8 D.kind.toNat, .string D.text, .slice p5 D.names.length c5, .slice q5 D.kids.length d5] 25)).drew (.slice (some ⟨w5.heap.size, 0, none⟩) 1 1) 1 4 [.int .u8 D.kind.toNat, .string D.text, .slice p5 D.names.length c5, .slice q5 D.kids.length d5]) := Lib.hid (reads_new (cs := [.int .u8 D.kind.toNat, .string D.text, .slice p5 D.names.length c5, .slice q5 D.kids.length d5]) rfl)
      go_wp2_with fail
      refine hK.out _ _ (by exact HS15.out) (fun hHeld => ?_)
      clear hK K
      try simp only [Act.put, sA, sB, sC]
      refine wpAnyH_ready (rs := [7]) (by kernel_rfl) (by simp) ?_
      refine AllReadyH.cons (o := qFtWM_0) rfl (fun K hK => ?_) AllReadyH.nil
      generalize hgen15 : (w5.alloc (.cells #[.int .u8 D.kind.toNat, .string D.text, .slice p5 D.names.length c5, .slice q5 D.kids.length d5] 25)).drew = w15 at *
      clear hgen15
      go_simp
      (go_at_call 40; refine (HCL.out x _ hxs).mono ?_; rintro e w7 ⟨rfl, hb7⟩)
      have HB7 : Hid (Below w5.heap.size w5 w7) := Lib.hid (HB15.out.trans (hb7.mono HB15.out.size))
      have HS7 : Hid ((fun wx => wx.cell? ⟨w.heap.size, 2, none⟩ = some (.slice p1 n1 c1) ∧ wx.cell? ⟨w.heap.size, 3, none⟩ = some (.slice q1 m1 d1) ∧ wx.cell? ⟨bp, op, none⟩ = some (.string x) ∧ wx.cell? ⟨w.heap.size + 2, 0, none⟩ = some (.int .u8 D.kind.toNat) ∧ wx.cell? ⟨w.heap.size + 2, 1, none⟩ = some (.string D.text) ∧ wx.cell? ⟨w.heap.size + 2, 2, none⟩ = some (.slice p5 D.names.length c5) ∧ wx.cell? ⟨w.heap.size + 2, 3, none⟩ = some (.slice q5 D.kids.length d5)) w7) := Lib.hid ⟨cell_kept hb7 hHeld.1, cell_kept hb7 hHeld.2.1, cell_kept hb7 hHeld.2.2.1, cell_kept hb7 hHeld.2.2.2.1, cell_kept hb7 hHeld.2.2.2.2.1, cell_kept hb7 hHeld.2.2.2.2.2.1, cell_kept hb7 hHeld.2.2.2.2.2.2⟩
      have HR15x := Lib.hid (Reads.kept HR15.out hb7)
      clear HR15
      have HR15 := HR15x
      clear HR15x
      clear hb7
      go_wp2_with fail
      refine hK.out _ _ (by exact HS7.out) (fun hHeld => ?_)
      clear hK K
      try simp only [Act.put, sA, sB, sC]
      refine wpAnyH_ready (rs := [8]) (by kernel_rfl) (by simp) ?_
      refine AllReadyH.cons (o := qFtWM_2) rfl (fun K hK => ?_) AllReadyH.nil
      go_simp
      have HB8 : Hid (Below w5.heap.size w5 (w7.alloc (.cells #[.string x] 9))) := Lib.hid (HB7.out.alloc HB7.out.size _)
      have HS8 : Hid ((fun wx => wx.cell? ⟨w.heap.size, 2, none⟩ = some (.slice p1 n1 c1) ∧ wx.cell? ⟨w.heap.size, 3, none⟩ = some (.slice q1 m1 d1) ∧ wx.cell? ⟨bp, op, none⟩ = some (.string x) ∧ wx.cell? ⟨w.heap.size + 2, 0, none⟩ = some (.int .u8 D.kind.toNat) ∧ wx.cell? ⟨w.heap.size + 2, 1, none⟩ = some (.string D.text) ∧ wx.cell? ⟨w.heap.size + 2, 2, none⟩ = some (.slice p5 D.names.length c5) ∧ wx.cell? ⟨w.heap.size + 2, 3, none⟩ = some (.slice q5 D.kids.length d5)) (w7.alloc (.cells #[.string x] 9))) := Lib.hid ⟨cell_kept ((Below.refl w7.heap.size w7).alloc (Nat.le_refl _) (.cells #[.string x] 9)) hHeld.1, cell_kept ((Below.refl w7.heap.size w7).alloc (Nat.le_refl _) (.cells #[.string x] 9)) hHeld.2.1, cell_kept ((Below.refl w7.heap.size w7).alloc (Nat.le_refl _) (.cells #[.string x] 9)) hHeld.2.2.1, cell_kept ((Below.refl w7.heap.size w7).alloc (Nat.le_refl _) (.cells #[.string x] 9)) hHeld.2.2.2.1, cell_kept ((Below.refl w7.heap.size w7).alloc (Nat.le_refl _) (.cells #[.string x] 9)) hHeld.2.2.2.2.1, cell_kept ((Below.refl w7.heap.size w7).alloc (Nat.le_refl _) (.cells #[.string x] 9)) hHeld.2.2.2.2.2.1, cell_kept ((Below.refl w7.heap.size w7).alloc (Nat.le_refl _) (.cells #[.string x] 9)) hHeld.2.2.2.2.2.2⟩
      have HR15x := Lib.hid (Reads.kept HR15.out ((Below.refl w7.heap.size w7).alloc (Nat.le_refl _) (.cells #[.string x] 9)))
      clear HR15
      have HR15 := HR15x
      clear HR15x
      have HR8 : Hid (Reads (w7.alloc (.cells #[.string x] 9)) (.slice (some ⟨w7.heap.size, 0, none⟩) 1 1) 1 1 [.string x]) := Lib.hid (reads_new (cs := [.string x]) rfl)
      go_wp2_with fail
      refine hK.out _ _ (by exact HS8.out) (fun hHeld => ?_)
      clear hK K
      try simp only [Act.put, sA, sB, sC]
      refine wpAnyH_ready (rs := [9]) (by kernel_rfl) (by simp) ?_
      refine AllReadyH.cons (o := qFtWM_3) rfl (fun K hK => ?_) AllReadyH.nil
      generalize hgen8 : (w7.alloc (.cells #[.string x] 9)) = w8 at *
      clear hgen8
      go_simp
      (go_at_call 171; refine (HSPN.out _ HB8.out i E 1 [.string x] _ HR8.out HEI.out HEL.out (by omega)).mono ?_; rintro e wA ⟨⟨va, rfl, hma⟩, hba⟩)
      have HBA : Hid (Below w5.heap.size w5 wA) := Lib.hid (HB8.out.trans (hba.mono HB8.out.size))
      obtain ⟨-, pA, cA, rfl, -⟩ := id (hma.out (by unfold maxLen; have := HNB.out; omega))
      have HMA : Hid (∃ bs, w5.heap.size ≤ bs ∧ Mine wA bs (poIf 1 p1) 9 1 (.slice pA (i + 1 + (n1 - E)) cA) (i + 1 + (n1 - E)) ((n.names.map Value.string).take i ++ [.string x] ++ (n.names.map Value.string).drop E)) := Lib.hid ⟨_, HB8.out.size, hma⟩
      have HSA : Hid ((fun wx => wx.cell? ⟨w.heap.size, 2, none⟩ = some (.slice p1 n1 c1) ∧ wx.cell? ⟨w.heap.size, 3, none⟩ = some (.slice q1 m1 d1) ∧ wx.cell? ⟨bp, op, none⟩ = some (.string x) ∧ wx.cell? ⟨w.heap.size + 2, 0, none⟩ = some (.int .u8 D.kind.toNat) ∧ wx.cell? ⟨w.heap.size + 2, 1, none⟩ = some (.string D.text) ∧ wx.cell? ⟨w.heap.size + 2, 2, none⟩ = some (.slice p5 D.names.length c5) ∧ wx.cell? ⟨w.heap.size + 2, 3, none⟩ = some (.slice q5 D.kids.length d5)) wA) := Lib.hid ⟨cell_kept hba hHeld.1, cell_kept hba hHeld.2.1, cell_kept hba hHeld.2.2.1, cell_kept hba hHeld.2.2.2.1, cell_kept hba hHeld.2.2.2.2.1, cell_kept hba hHeld.2.2.2.2.2.1, cell_kept hba hHeld.2.2.2.2.2.2⟩
      have HR8x := Lib.hid (Reads.kept HR8.out hba)
      clear HR8
      have HR8 := HR8x
      clear HR8x
      have HR15x := Lib.hid (Reads.kept HR15.out hba)
      clear HR15
      have HR15 := HR15x
      clear HR15x
      clear hma hba HR8
      go_wp2_with fail
      refine hK.out _ _ (by exact HSA.out) (fun hHeld => ?_)
      clear hK K
      try simp only [Act.put, sA, sB, sC]
      refine wpAnyH_ready (rs := [16]) (by kernel_rfl) (by simp) ?_
      refine AllReadyH.cons (o := qFtWM_4) rfl (fun K hK => ?_) AllReadyH.nil
      go_simp
      (go_at_call 172; refine (HSPK.out _ HBA.out i E 1 [.int .u8 D.kind.toNat, .string D.text, .slice p5 D.names.length c5, .slice q5 D.kids.length d5] _ HR15.out HEI.out HEM.out (by omega)).mono ?_; rintro e wB ⟨⟨vb, rfl, hmb⟩, hbb⟩)
      have HBB : Hid (Below w5.heap.size w5 wB) := Lib.hid (HBA.out.trans (hbb.mono HBA.out.size))
      obtain ⟨-, pB, cB, rfl, -⟩ := id (hmb.out (by unfold maxLen; have := HMN.out; have := HNB.out; omega))
      have HMB : Hid (∃ bs, w5.heap.size ≤ bs ∧ Mine wB bs (poIf 1 q1) 25 4 (.slice pB (i + 1 + (m1 - E)) cB) (i + 1 + (m1 - E)) (zs.take (i * 4) ++ [.int .u8 D.kind.toNat, .string D.text, .slice p5 D.names.length c5, .slice q5 D.kids.length d5] ++ zs.drop (E * 4))) := Lib.hid ⟨_, HBA.out.size, hmb⟩
      have HMA2 : Hid (∃ bs, w5.heap.size ≤ bs ∧ Mine wB bs (poIf 1 p1) 9 1 (.slice pA (i + 1 + (n1 - E)) cA) (i + 1 + (n1 - E)) ((n.names.map Value.string).take i ++ [.string x] ++ (n.names.map Value.string).drop E)) := Lib.hid (by
       obtain ⟨bs, h1, h2⟩ := HMA.out
       exact ⟨bs, h1, h2.kept hbb⟩)
      have HSB : Hid ((fun wx => wx.cell? ⟨w.heap.size, 2, none⟩ = some (.slice p1 n1 c1) ∧ wx.cell? ⟨w.heap.size, 3, none⟩ = some (.slice q1 m1 d1) ∧ wx.cell? ⟨bp, op, none⟩ = some (.string x) ∧ wx.cell? ⟨w.heap.size + 2, 0, none⟩ = some (.int .u8 D.kind.toNat) ∧ wx.cell? ⟨w.heap.size + 2, 1, none⟩ = some (.string D.text) ∧ wx.cell? ⟨w.heap.size + 2, 2, none⟩ = some (.slice p5 D.names.length c5) ∧ wx.cell? ⟨w.heap.size + 2, 3, none⟩ = some (.slice q5 D.kids.length d5)) wB) := Lib.hid ⟨cell_kept hbb hHeld.1, cell_kept hbb hHeld.2.1, cell_kept hbb hHeld.2.2.1, cell_kept hbb hHeld.2.2.2.1, cell_kept hbb hHeld.2.2.2.2.1, cell_kept hbb hHeld.2.2.2.2.2.1, cell_kept hbb hHeld.2.2.2.2.2.2⟩
      clear hmb hbb HR15 HMA
      go_wp2_with fail
      refine hK.out _ _ (by exact HSB.out) (fun hHeld => ?_)
      clear hK K
      try simp only [Act.put, sA, sB, sC]
      refine tk 17 qFtWM_5 ?_
      try simp only [Act.put, sA, sB, sC]
      refine wpAnyH_ready (rs := [18]) (by kernel_rfl) (by simp) ?_
      refine AllReadyH.cons (o := qFtWM_6) rfl (fun K hK => ?_) AllReadyH.nil
      have HZB := Lib.hid (HZ5.out.kept HBB.out)
      have HKB := Lib.hid (HK5.out.kept HBB.out)
      have HVB := Lib.hid (HV5.out.kept HBB.out)
      obtain ⟨z0, z1, z2, z3⟩ := HZB.out.cell
      obtain ⟨x0, x1, x2, x3⟩ := HZB.out.open_
      go_simp
      go_wp2_with fail
      refine hK.out _ _ (by exact ⟨(HVB.out.other (show w.heap.size ≠ w.heap.size + 1 by omega) _ _ _ _).cell.2.2.1, (HVB.out.other (show w.heap.size ≠ w.heap.size + 1 by omega) _ _ _ _).cell.2.2.2, far_four HSB.out.2.2.1 (by omega), (HKB.out.other (show w.heap.size + 2 ≠ w.heap.size + 1 by omega) _ _ _ _).cell.1, (HKB.out.other (show w.heap.size + 2 ≠ w.heap.size + 1 by omega) _ _ _ _).cell.2.1, (HKB.out.other (show w.heap.size + 2 ≠ w.heap.size + 1 by omega) _ _ _ _).cell.2.2.1, (HKB.out.other (show w.heap.size + 2 ≠ w.heap.size + 1 by omega) _ _ _ _).cell.2.2.2⟩) (fun hHeld => ?_)
      clear hK K
      try simp only [Act.put, sA, sB, sC]
      refine wpAnyH_done (by kernel_rfl) ?_ _
      have HDK : All4 (NodeX wB (fun k => S k ∧ k ≠ w.heap.size + 1)) [.int .u8 D.kind.toNat, .string D.text, .slice p5 D.names.length c5, .slice q5 D.kids.length d5] [D] := All4.one rfl ((NodeX.grown HD5.out HBB.out).same fun k hk => ⟨rfl, hk.1, hk.2.2.1⟩)
      obtain ⟨bJ, hbJ, hmA⟩ := HMA2.out
      obtain ⟨bK, hbK, hmB⟩ := HMB.out
      clear hHeld
      go_wp2_with fail
      refine bodyPost_ret (v := .agg #[.int .u8 2, .string ⟨#[]⟩, .slice pA (i + 1 + (n1 - E)) cA, .slice pB (i + 1 + (m1 - E)) cB]) (by simp [results, Tryz.results169, go_sem, z0, z1, z2, z3]) rfl ?_
      have hb9 := grown_four (w := wB) (g := w.heap.size + 1) (.int .u8 2) (.string ⟨#[]⟩) (.slice pA (i + 1 + (n1 - E)) cA) (.slice pB (i + 1 + (m1 - E)) cB)
      have hgB : w.grownBy wB (some m) := grown_trans HG5.out (grown_of_below HBB.out)
      have hke : changedD f (x :: r) n = .mk 2 ByteArray.empty (n.names.take i ++ [x] ++ n.names.drop E) (n.kids.take i ++ [D] ++ n.kids.drop E) := by
       rw [HCD.out, if_neg HD0.out, ← HLOW.out, HE.out]
      have hmn := HMN.out
      have hel := HEL.out
      have hei := HEI.out
      have hn1b : n1 ≤ 200000000 := by have := HNB.out; omega
      have hwA := HBA.out.size
      refine ⟨⟨_, rfl, ?_⟩, grown_mix hgB hb9 (by omega), fun y hy => ?_⟩
      ·rw [hke]
       have h9 := node_spliced (S' := fun k => S k ∧ k ≠ w.heap.size + 1) (ls := [x]) (ks := [D]) (cs := [.int .u8 D.kind.toNat, .string D.text, .slice p5 D.names.length c5, .slice q5 D.kids.length d5]) (i := i) (E := E) (base := bJ) (base2 := bK) (pn := poIf 1 p1) (pq := poIf 1 q1) (vn := .slice pA (i + 1 + (n1 - E)) cA) (vq := .slice pB (i + 1 + (m1 - E)) cB) (nn := i + 1 + (n1 - E)) (nk := i + 1 + (m1 - E)) HRA.out HDK HBB.out (fun k hk => ⟨hS0 k hk.1 hk.2, by have := hk.2; omega⟩)
        (by simpa [Nat.add_assoc] using hmA) (by simpa [Nat.add_assoc] using hmB) (by unfold maxLen; omega) (by unfold maxLen; omega) (fun k hk => ⟨hSn k (by have := hbJ; omega), by have := hbJ; omega⟩) (fun k hk => ⟨hSn k (by have := hbK; omega), by have := hbK; omega⟩)
        (fun a ha hne => by cases ha) (fun a ha hne => by cases ha)
       exact (h9.grownBy hb9 (fun h => h.2 rfl)).same fun k hk => ⟨rfl, hk.1⟩
      ·rw [HRD.out] at hy
       exact HP.out _ _ _ _ (HP5.out y hy) (grown_trans (grown_of_below HBB.out) hb9) (by omega) (by omega)
     ·skip
      go_simp
      (go_at_call 40; refine (HCL.out x _ hxs).mono ?_; rintro e w7 ⟨rfl, hb7⟩)
      have HB7 : Hid (Below w5.heap.size w5 w7) := Lib.hid ((Below.refl w5.heap.size w5).drew.trans (hb7.mono (Below.refl w5.heap.size w5).drew.size))
      have HS7 : Hid ((fun wx => wx.cell? ⟨w.heap.size, 2, none⟩ = some (.slice p1 n1 c1) ∧ wx.cell? ⟨w.heap.size, 3, none⟩ = some (.slice q1 m1 d1) ∧ wx.cell? ⟨bp, op, none⟩ = some (.string x) ∧ wx.cell? ⟨w.heap.size + 2, 0, none⟩ = some (.int .u8 D.kind.toNat) ∧ wx.cell? ⟨w.heap.size + 2, 1, none⟩ = some (.string D.text) ∧ wx.cell? ⟨w.heap.size + 2, 2, none⟩ = some (.slice p5 D.names.length c5) ∧ wx.cell? ⟨w.heap.size + 2, 3, none⟩ = some (.slice q5 D.kids.length d5)) w7) := Lib.hid ⟨cell_kept hb7 hHeld.1, cell_kept hb7 hHeld.2.1, cell_kept hb7 hHeld.2.2.1, cell_kept hb7 hHeld.2.2.2.1, cell_kept hb7 hHeld.2.2.2.2.1, cell_kept hb7 hHeld.2.2.2.2.2.1, cell_kept hb7 hHeld.2.2.2.2.2.2⟩
      clear hb7
      go_wp2_with fail
      refine hK.out _ _ (by exact HS7.out) (fun hHeld => ?_)
      clear hK K
      try simp only [Act.put, sA, sB, sC]
      refine wpAnyH_ready (rs := [8, 15]) (by kernel_rfl) (by simp) ?_
      refine AllReadyH.cons (o := qFtWM_2) rfl (fun K hK => ?_) ?_
      rotate_left
      refine AllReadyH.cons (o := qFtWM_1) rfl (fun K hK => ?_) AllReadyH.nil
      ·skip
       go_simp
       have HB15 : Hid (Below w5.heap.size w5 (w7.alloc (.cells #[.int .u8 D.kind.toNat, .string D.text, .slice p5 D.names.length c5, .slice q5 D.kids.length d5] 25))) := Lib.hid (HB7.out.alloc HB7.out.size _)
       have HS15 : Hid ((fun wx => wx.cell? ⟨w.heap.size, 2, none⟩ = some (.slice p1 n1 c1) ∧ wx.cell? ⟨w.heap.size, 3, none⟩ = some (.slice q1 m1 d1) ∧ wx.cell? ⟨bp, op, none⟩ = some (.string x) ∧ wx.cell? ⟨w.heap.size + 2, 0, none⟩ = some (.int .u8 D.kind.toNat) ∧ wx.cell? ⟨w.heap.size + 2, 1, none⟩ = some (.string D.text) ∧ wx.cell? ⟨w.heap.size + 2, 2, none⟩ = some (.slice p5 D.names.length c5) ∧ wx.cell? ⟨w.heap.size + 2, 3, none⟩ = some (.slice q5 D.kids.length d5)) (w7.alloc (.cells #[.int .u8 D.kind.toNat, .string D.text, .slice p5 D.names.length c5, .slice q5 D.kids.length d5] 25))) := Lib.hid ⟨cell_kept ((Below.refl w7.heap.size w7).alloc (Nat.le_refl _) (.cells #[.int .u8 D.kind.toNat, .string D.text, .slice p5 D.names.length c5, .slice q5 D.kids.length d5] 25)) hHeld.1, cell_kept ((Below.refl w7.heap.size w7).alloc (Nat.le_refl _) (.cells #[.int .u8 D.kind.toNat, .string D.text, .slice p5 D.names.length c5, .slice q5 D.kids.length d5] 25)) hHeld.2.1, cell_kept ((Below.refl w7.heap.size w7).alloc (Nat.le_refl _) (.cells #[.int .u8 D.kind.toNat, .string D.text, .slice p5 D.names.length c5, .slice q5 D.kids.length d5] 25)) hHeld.2.2.1, cell_kept ((Below.refl w7.heap.size w7).alloc (Nat.le_refl _) (.cells #[.int .u8 D.kind.toNat, .string D.text, .slice p5 D.names.length c5, .slice q5 D.kids.length d5] 25)) hHeld.2.2.2.1, cell_kept ((Below.refl w7.heap.size w7).alloc (Nat.le_refl _) (.cells #[.int .u8 D.kind.toNat, .string D.text, .slice p5 D.names.length c5, .slice q5 D.kids.length d5] 25)) hHeld.2.2.2.2.1, cell_kept ((Below.refl w7.heap.size w7).alloc (Nat.le_refl _) (.cells #[.int .u8 D.kind.toNat, .string D.text, .slice p5 D.names.length c5, .slice q5 D.kids.length d5] 25)) hHeld.2.2.2.2.2.1, cell_kept ((Below.refl w7.heap.size w7).alloc (Nat.le_refl _) (.cells #[.int .u8 D.kind.toNat, .string D.text, .slice p5 D.names.length c5, .slice q5 D.kids.length d5] 25)) hHeld.2.2.2.2.2.2⟩
       have HR15 : Hid (Reads (w7.alloc (.cells #[.int .u8 D.kind.toNat, .string D.text, .slice p5 D.names.length c5, .slice q5 D.kids.length d5] 25)) (.slice (some ⟨w7.heap.size, 0, none⟩) 1 1) 1 4 [.int .u8 D.kind.toNat, .string D.text, .slice p5 D.names.length c5, .slice q5 D.kids.length d5]) := Lib.hid (reads_new (cs := [.int .u8 D.kind.toNat, .string D.text, .slice p5 D.names.length c5, .slice q5 D.kids.length d5]) rfl)
       go_wp2_with fail
       refine hK.out _ _ (by exact HS15.out) (fun hHeld => ?_)
       clear hK K
       try simp only [Act.put, sA, sB, sC]
       refine wpAnyH_ready (rs := [8]) (by kernel_rfl) (by simp) ?_
       refine AllReadyH.cons (o := qFtWM_2) rfl (fun K hK => ?_) AllReadyH.nil
       generalize hgen15 : (w7.alloc (.cells #[.int .u8 D.kind.toNat, .string D.text, .slice p5 D.names.length c5, .slice q5 D.kids.length d5] 25)) = w15 at *
       clear hgen15
       go_simp
       have HB8 : Hid (Below w5.heap.size w5 (w15.alloc (.cells #[.string x] 9))) := Lib.hid (HB15.out.alloc HB15.out.size _)
       have HS8 : Hid ((fun wx => wx.cell? ⟨w.heap.size, 2, none⟩ = some (.slice p1 n1 c1) ∧ wx.cell? ⟨w.heap.size, 3, none⟩ = some (.slice q1 m1 d1) ∧ wx.cell? ⟨bp, op, none⟩ = some (.string x) ∧ wx.cell? ⟨w.heap.size + 2, 0, none⟩ = some (.int .u8 D.kind.toNat) ∧ wx.cell? ⟨w.heap.size + 2, 1, none⟩ = some (.string D.text) ∧ wx.cell? ⟨w.heap.size + 2, 2, none⟩ = some (.slice p5 D.names.length c5) ∧ wx.cell? ⟨w.heap.size + 2, 3, none⟩ = some (.slice q5 D.kids.length d5)) (w15.alloc (.cells #[.string x] 9))) := Lib.hid ⟨cell_kept ((Below.refl w15.heap.size w15).alloc (Nat.le_refl _) (.cells #[.string x] 9)) hHeld.1, cell_kept ((Below.refl w15.heap.size w15).alloc (Nat.le_refl _) (.cells #[.string x] 9)) hHeld.2.1, cell_kept ((Below.refl w15.heap.size w15).alloc (Nat.le_refl _) (.cells #[.string x] 9)) hHeld.2.2.1, cell_kept ((Below.refl w15.heap.size w15).alloc (Nat.le_refl _) (.cells #[.string x] 9)) hHeld.2.2.2.1, cell_kept ((Below.refl w15.heap.size w15).alloc (Nat.le_refl _) (.cells #[.string x] 9)) hHeld.2.2.2.2.1, cell_kept ((Below.refl w15.heap.size w15).alloc (Nat.le_refl _) (.cells #[.string x] 9)) hHeld.2.2.2.2.2.1, cell_kept ((Below.refl w15.heap.size w15).alloc (Nat.le_refl _) (.cells #[.string x] 9)) hHeld.2.2.2.2.2.2⟩
       have HR15x := Lib.hid (Reads.kept HR15.out ((Below.refl w15.heap.size w15).alloc (Nat.le_refl _) (.cells #[.string x] 9)))
       clear HR15
       have HR15 := HR15x
       clear HR15x
       have HR8 : Hid (Reads (w15.alloc (.cells #[.string x] 9)) (.slice (some ⟨w15.heap.size, 0, none⟩) 1 1) 1 1 [.string x]) := Lib.hid (reads_new (cs := [.string x]) rfl)
       go_wp2_with fail
       refine hK.out _ _ (by exact HS8.out) (fun hHeld => ?_)
       clear hK K
       try simp only [Act.put, sA, sB, sC]
       refine wpAnyH_ready (rs := [9]) (by kernel_rfl) (by simp) ?_
       refine AllReadyH.cons (o := qFtWM_3) rfl (fun K hK => ?_) AllReadyH.nil
       generalize hgen8 : (w15.alloc (.cells #[.string x] 9)) = w8 at *
       clear hgen8
       go_simp
       (go_at_call 171; refine (HSPN.out _ HB8.out i E 1 [.string x] _ HR8.out HEI.out HEL.out (by omega)).mono ?_; rintro e wA ⟨⟨va, rfl, hma⟩, hba⟩)
       have HBA : Hid (Below w5.heap.size w5 wA) := Lib.hid (HB8.out.trans (hba.mono HB8.out.size))
       obtain ⟨-, pA, cA, rfl, -⟩ := id (hma.out (by unfold maxLen; have := HNB.out; omega))
       have HMA : Hid (∃ bs, w5.heap.size ≤ bs ∧ Mine wA bs (poIf 1 p1) 9 1 (.slice pA (i + 1 + (n1 - E)) cA) (i + 1 + (n1 - E)) ((n.names.map Value.string).take i ++ [.string x] ++ (n.names.map Value.string).drop E)) := Lib.hid ⟨_, HB8.out.size, hma⟩
       have HSA : Hid ((fun wx => wx.cell? ⟨w.heap.size, 2, none⟩ = some (.slice p1 n1 c1) ∧ wx.cell? ⟨w.heap.size, 3, none⟩ = some (.slice q1 m1 d1) ∧ wx.cell? ⟨bp, op, none⟩ = some (.string x) ∧ wx.cell? ⟨w.heap.size + 2, 0, none⟩ = some (.int .u8 D.kind.toNat) ∧ wx.cell? ⟨w.heap.size + 2, 1, none⟩ = some (.string D.text) ∧ wx.cell? ⟨w.heap.size + 2, 2, none⟩ = some (.slice p5 D.names.length c5) ∧ wx.cell? ⟨w.heap.size + 2, 3, none⟩ = some (.slice q5 D.kids.length d5)) wA) := Lib.hid ⟨cell_kept hba hHeld.1, cell_kept hba hHeld.2.1, cell_kept hba hHeld.2.2.1, cell_kept hba hHeld.2.2.2.1, cell_kept hba hHeld.2.2.2.2.1, cell_kept hba hHeld.2.2.2.2.2.1, cell_kept hba hHeld.2.2.2.2.2.2⟩
       have HR8x := Lib.hid (Reads.kept HR8.out hba)
       clear HR8
       have HR8 := HR8x
       clear HR8x
       have HR15x := Lib.hid (Reads.kept HR15.out hba)
       clear HR15
       have HR15 := HR15x
       clear HR15x
       clear hma hba HR8
       go_wp2_with fail
       refine hK.out _ _ (by exact HSA.out) (fun hHeld => ?_)
       clear hK K
       try simp only [Act.put, sA, sB, sC]
       refine wpAnyH_ready (rs := [16]) (by kernel_rfl) (by simp) ?_
       refine AllReadyH.cons (o := qFtWM_4) rfl (fun K hK => ?_) AllReadyH.nil
       go_simp
       (go_at_call 172; refine (HSPK.out _ HBA.out i E 1 [.int .u8 D.kind.toNat, .string D.text, .slice p5 D.names.length c5, .slice q5 D.kids.length d5] _ HR15.out HEI.out HEM.out (by omega)).mono ?_; rintro e wB ⟨⟨vb, rfl, hmb⟩, hbb⟩)
       have HBB : Hid (Below w5.heap.size w5 wB) := Lib.hid (HBA.out.trans (hbb.mono HBA.out.size))
       obtain ⟨-, pB, cB, rfl, -⟩ := id (hmb.out (by unfold maxLen; have := HMN.out; have := HNB.out; omega))
       have HMB : Hid (∃ bs, w5.heap.size ≤ bs ∧ Mine wB bs (poIf 1 q1) 25 4 (.slice pB (i + 1 + (m1 - E)) cB) (i + 1 + (m1 - E)) (zs.take (i * 4) ++ [.int .u8 D.kind.toNat, .string D.text, .slice p5 D.names.length c5, .slice q5 D.kids.length d5] ++ zs.drop (E * 4))) := Lib.hid ⟨_, HBA.out.size, hmb⟩
       have HMA2 : Hid (∃ bs, w5.heap.size ≤ bs ∧ Mine wB bs (poIf 1 p1) 9 1 (.slice pA (i + 1 + (n1 - E)) cA) (i + 1 + (n1 - E)) ((n.names.map Value.string).take i ++ [.string x] ++ (n.names.map Value.string).drop E)) := Lib.hid (by
        obtain ⟨bs, h1, h2⟩ := HMA.out
        exact ⟨bs, h1, h2.kept hbb⟩)
       have HSB : Hid ((fun wx => wx.cell? ⟨w.heap.size, 2, none⟩ = some (.slice p1 n1 c1) ∧ wx.cell? ⟨w.heap.size, 3, none⟩ = some (.slice q1 m1 d1) ∧ wx.cell? ⟨bp, op, none⟩ = some (.string x) ∧ wx.cell? ⟨w.heap.size + 2, 0, none⟩ = some (.int .u8 D.kind.toNat) ∧ wx.cell? ⟨w.heap.size + 2, 1, none⟩ = some (.string D.text) ∧ wx.cell? ⟨w.heap.size + 2, 2, none⟩ = some (.slice p5 D.names.length c5) ∧ wx.cell? ⟨w.heap.size + 2, 3, none⟩ = some (.slice q5 D.kids.length d5)) wB) := Lib.hid ⟨cell_kept hbb hHeld.1, cell_kept hbb hHeld.2.1, cell_kept hbb hHeld.2.2.1, cell_kept hbb hHeld.2.2.2.1, cell_kept hbb hHeld.2.2.2.2.1, cell_kept hbb hHeld.2.2.2.2.2.1, cell_kept hbb hHeld.2.2.2.2.2.2⟩
       clear hmb hbb HR15 HMA
       go_wp2_with fail
       refine hK.out _ _ (by exact HSB.out) (fun hHeld => ?_)
       clear hK K
       try simp only [Act.put, sA, sB, sC]
       refine tk 17 qFtWM_5 ?_
       try simp only [Act.put, sA, sB, sC]
       refine wpAnyH_ready (rs := [18]) (by kernel_rfl) (by simp) ?_
       refine AllReadyH.cons (o := qFtWM_6) rfl (fun K hK => ?_) AllReadyH.nil
       have HZB := Lib.hid (HZ5.out.kept HBB.out)
       have HKB := Lib.hid (HK5.out.kept HBB.out)
       have HVB := Lib.hid (HV5.out.kept HBB.out)
       obtain ⟨z0, z1, z2, z3⟩ := HZB.out.cell
       obtain ⟨x0, x1, x2, x3⟩ := HZB.out.open_
       go_simp
       go_wp2_with fail
       refine hK.out _ _ (by exact ⟨(HVB.out.other (show w.heap.size ≠ w.heap.size + 1 by omega) _ _ _ _).cell.2.2.1, (HVB.out.other (show w.heap.size ≠ w.heap.size + 1 by omega) _ _ _ _).cell.2.2.2, far_four HSB.out.2.2.1 (by omega), (HKB.out.other (show w.heap.size + 2 ≠ w.heap.size + 1 by omega) _ _ _ _).cell.1, (HKB.out.other (show w.heap.size + 2 ≠ w.heap.size + 1 by omega) _ _ _ _).cell.2.1, (HKB.out.other (show w.heap.size + 2 ≠ w.heap.size + 1 by omega) _ _ _ _).cell.2.2.1, (HKB.out.other (show w.heap.size + 2 ≠ w.heap.size + 1 by omega) _ _ _ _).cell.2.2.2⟩) (fun hHeld => ?_)
       clear hK K
       try simp only [Act.put, sA, sB, sC]
       refine wpAnyH_done (by kernel_rfl) ?_ _
       have HDK : All4 (NodeX wB (fun k => S k ∧ k ≠ w.heap.size + 1)) [.int .u8 D.kind.toNat, .string D.text, .slice p5 D.names.length c5, .slice q5 D.kids.length d5] [D] := All4.one rfl ((NodeX.grown HD5.out HBB.out).same fun k hk => ⟨rfl, hk.1, hk.2.2.1⟩)
       obtain ⟨bJ, hbJ, hmA⟩ := HMA2.out
       obtain ⟨bK, hbK, hmB⟩ := HMB.out
       clear hHeld
       go_wp2_with fail
       refine bodyPost_ret (v := .agg #[.int .u8 2, .string ⟨#[]⟩, .slice pA (i + 1 + (n1 - E)) cA, .slice pB (i + 1 + (m1 - E)) cB]) (by simp [results, Tryz.results169, go_sem, z0, z1, z2, z3]) rfl ?_
       have hb9 := grown_four (w := wB) (g := w.heap.size + 1) (.int .u8 2) (.string ⟨#[]⟩) (.slice pA (i + 1 + (n1 - E)) cA) (.slice pB (i + 1 + (m1 - E)) cB)
       have hgB : w.grownBy wB (some m) := grown_trans HG5.out (grown_of_below HBB.out)
       have hke : changedD f (x :: r) n = .mk 2 ByteArray.empty (n.names.take i ++ [x] ++ n.names.drop E) (n.kids.take i ++ [D] ++ n.kids.drop E) := by
        rw [HCD.out, if_neg HD0.out, ← HLOW.out, HE.out]
       have hmn := HMN.out
       have hel := HEL.out
       have hei := HEI.out
       have hn1b : n1 ≤ 200000000 := by have := HNB.out; omega
       have hwA := HBA.out.size
       refine ⟨⟨_, rfl, ?_⟩, grown_mix hgB hb9 (by omega), fun y hy => ?_⟩
       ·rw [hke]
        have h9 := node_spliced (S' := fun k => S k ∧ k ≠ w.heap.size + 1) (ls := [x]) (ks := [D]) (cs := [.int .u8 D.kind.toNat, .string D.text, .slice p5 D.names.length c5, .slice q5 D.kids.length d5]) (i := i) (E := E) (base := bJ) (base2 := bK) (pn := poIf 1 p1) (pq := poIf 1 q1) (vn := .slice pA (i + 1 + (n1 - E)) cA) (vq := .slice pB (i + 1 + (m1 - E)) cB) (nn := i + 1 + (n1 - E)) (nk := i + 1 + (m1 - E)) HRA.out HDK HBB.out (fun k hk => ⟨hS0 k hk.1 hk.2, by have := hk.2; omega⟩)
         (by simpa [Nat.add_assoc] using hmA) (by simpa [Nat.add_assoc] using hmB) (by unfold maxLen; omega) (by unfold maxLen; omega) (fun k hk => ⟨hSn k (by have := hbJ; omega), by have := hbJ; omega⟩) (fun k hk => ⟨hSn k (by have := hbK; omega), by have := hbK; omega⟩)
         (fun a ha hne => by cases ha) (fun a ha hne => by cases ha)
        exact (h9.grownBy hb9 (fun h => h.2 rfl)).same fun k hk => ⟨rfl, hk.1⟩
       ·rw [HRD.out] at hy
        exact HP.out _ _ _ _ (HP5.out y hy) (grown_trans (grown_of_below HBB.out) hb9) (by omega) (by omega)
      ·skip
       go_simp
       have HB8 : Hid (Below w5.heap.size w5 (w7.alloc (.cells #[.string x] 9))) := Lib.hid (HB7.out.alloc HB7.out.size _)
       have HS8 : Hid ((fun wx => wx.cell? ⟨w.heap.size, 2, none⟩ = some (.slice p1 n1 c1) ∧ wx.cell? ⟨w.heap.size, 3, none⟩ = some (.slice q1 m1 d1) ∧ wx.cell? ⟨bp, op, none⟩ = some (.string x) ∧ wx.cell? ⟨w.heap.size + 2, 0, none⟩ = some (.int .u8 D.kind.toNat) ∧ wx.cell? ⟨w.heap.size + 2, 1, none⟩ = some (.string D.text) ∧ wx.cell? ⟨w.heap.size + 2, 2, none⟩ = some (.slice p5 D.names.length c5) ∧ wx.cell? ⟨w.heap.size + 2, 3, none⟩ = some (.slice q5 D.kids.length d5)) (w7.alloc (.cells #[.string x] 9))) := Lib.hid ⟨cell_kept ((Below.refl w7.heap.size w7).alloc (Nat.le_refl _) (.cells #[.string x] 9)) hHeld.1, cell_kept ((Below.refl w7.heap.size w7).alloc (Nat.le_refl _) (.cells #[.string x] 9)) hHeld.2.1, cell_kept ((Below.refl w7.heap.size w7).alloc (Nat.le_refl _) (.cells #[.string x] 9)) hHeld.2.2.1, cell_kept ((Below.refl w7.heap.size w7).alloc (Nat.le_refl _) (.cells #[.string x] 9)) hHeld.2.2.2.1, cell_kept ((Below.refl w7.heap.size w7).alloc (Nat.le_refl _) (.cells #[.string x] 9)) hHeld.2.2.2.2.1, cell_kept ((Below.refl w7.heap.size w7).alloc (Nat.le_refl _) (.cells #[.string x] 9)) hHeld.2.2.2.2.2.1, cell_kept ((Below.refl w7.heap.size w7).alloc (Nat.le_refl _) (.cells #[.string x] 9)) hHeld.2.2.2.2.2.2⟩
       have HR8 : Hid (Reads (w7.alloc (.cells #[.string x] 9)) (.slice (some ⟨w7.heap.size, 0, none⟩) 1 1) 1 1 [.string x]) := Lib.hid (reads_new (cs := [.string x]) rfl)
       go_wp2_with fail
       refine hK.out _ _ (by exact HS8.out) (fun hHeld => ?_)
       clear hK K
       try simp only [Act.put, sA, sB, sC]
       refine wpAnyH_ready (rs := [9, 15]) (by kernel_rfl) (by simp) ?_
       refine AllReadyH.cons (o := qFtWM_3) rfl (fun K hK => ?_) ?_
       rotate_left
       refine AllReadyH.cons (o := qFtWM_1) rfl (fun K hK => ?_) AllReadyH.nil
       ·skip
        generalize hgen8 : (w7.alloc (.cells #[.string x] 9)) = w8 at *
        clear hgen8
        go_simp
        have HB15 : Hid (Below w5.heap.size w5 (w8.alloc (.cells #[.int .u8 D.kind.toNat, .string D.text, .slice p5 D.names.length c5, .slice q5 D.kids.length d5] 25))) := Lib.hid (HB8.out.alloc HB8.out.size _)
        have HS15 : Hid ((fun wx => wx.cell? ⟨w.heap.size, 2, none⟩ = some (.slice p1 n1 c1) ∧ wx.cell? ⟨w.heap.size, 3, none⟩ = some (.slice q1 m1 d1) ∧ wx.cell? ⟨bp, op, none⟩ = some (.string x) ∧ wx.cell? ⟨w.heap.size + 2, 0, none⟩ = some (.int .u8 D.kind.toNat) ∧ wx.cell? ⟨w.heap.size + 2, 1, none⟩ = some (.string D.text) ∧ wx.cell? ⟨w.heap.size + 2, 2, none⟩ = some (.slice p5 D.names.length c5) ∧ wx.cell? ⟨w.heap.size + 2, 3, none⟩ = some (.slice q5 D.kids.length d5)) (w8.alloc (.cells #[.int .u8 D.kind.toNat, .string D.text, .slice p5 D.names.length c5, .slice q5 D.kids.length d5] 25))) := Lib.hid ⟨cell_kept ((Below.refl w8.heap.size w8).alloc (Nat.le_refl _) (.cells #[.int .u8 D.kind.toNat, .string D.text, .slice p5 D.names.length c5, .slice q5 D.kids.length d5] 25)) hHeld.1, cell_kept ((Below.refl w8.heap.size w8).alloc (Nat.le_refl _) (.cells #[.int .u8 D.kind.toNat, .string D.text, .slice p5 D.names.length c5, .slice q5 D.kids.length d5] 25)) hHeld.2.1, cell_kept ((Below.refl w8.heap.size w8).alloc (Nat.le_refl _) (.cells #[.int .u8 D.kind.toNat, .string D.text, .slice p5 D.names.length c5, .slice q5 D.kids.length d5] 25)) hHeld.2.2.1, cell_kept ((Below.refl w8.heap.size w8).alloc (Nat.le_refl _) (.cells #[.int .u8 D.kind.toNat, .string D.text, .slice p5 D.names.length c5, .slice q5 D.kids.length d5] 25)) hHeld.2.2.2.1, cell_kept ((Below.refl w8.heap.size w8).alloc (Nat.le_refl _) (.cells #[.int .u8 D.kind.toNat, .string D.text, .slice p5 D.names.length c5, .slice q5 D.kids.length d5] 25)) hHeld.2.2.2.2.1, cell_kept ((Below.refl w8.heap.size w8).alloc (Nat.le_refl _) (.cells #[.int .u8 D.kind.toNat, .string D.text, .slice p5 D.names.length c5, .slice q5 D.kids.length d5] 25)) hHeld.2.2.2.2.2.1, cell_kept ((Below.refl w8.heap.size w8).alloc (Nat.le_refl _) (.cells #[.int .u8 D.kind.toNat, .string D.text, .slice p5 D.names.length c5, .slice q5 D.kids.length d5] 25)) hHeld.2.2.2.2.2.2⟩
        have HR8x := Lib.hid (Reads.kept HR8.out ((Below.refl w8.heap.size w8).alloc (Nat.le_refl _) (.cells #[.int .u8 D.kind.toNat, .string D.text, .slice p5 D.names.length c5, .slice q5 D.kids.length d5] 25)))
        clear HR8
        have HR8 := HR8x
        clear HR8x
        have HR15 : Hid (Reads (w8.alloc (.cells #[.int .u8 D.kind.toNat, .string D.text, .slice p5 D.names.length c5, .slice q5 D.kids.length d5] 25)) (.slice (some ⟨w8.heap.size, 0, none⟩) 1 1) 1 4 [.int .u8 D.kind.toNat, .string D.text, .slice p5 D.names.length c5, .slice q5 D.kids.length d5]) := Lib.hid (reads_new (cs := [.int .u8 D.kind.toNat, .string D.text, .slice p5 D.names.length c5, .slice q5 D.kids.length d5]) rfl)
        go_wp2_with fail
        refine hK.out _ _ (by exact HS15.out) (fun hHeld => ?_)
        clear hK K
        try simp only [Act.put, sA, sB, sC]
        refine wpAnyH_ready (rs := [9]) (by kernel_rfl) (by simp) ?_
        refine AllReadyH.cons (o := qFtWM_3) rfl (fun K hK => ?_) AllReadyH.nil
        generalize hgen15 : (w8.alloc (.cells #[.int .u8 D.kind.toNat, .string D.text, .slice p5 D.names.length c5, .slice q5 D.kids.length d5] 25)) = w15 at *
        clear hgen15
        go_simp
        (go_at_call 171; refine (HSPN.out _ HB15.out i E 1 [.string x] _ HR8.out HEI.out HEL.out (by omega)).mono ?_; rintro e wA ⟨⟨va, rfl, hma⟩, hba⟩)
        have HBA : Hid (Below w5.heap.size w5 wA) := Lib.hid (HB15.out.trans (hba.mono HB15.out.size))
        obtain ⟨-, pA, cA, rfl, -⟩ := id (hma.out (by unfold maxLen; have := HNB.out; omega))
        have HMA : Hid (∃ bs, w5.heap.size ≤ bs ∧ Mine wA bs (poIf 1 p1) 9 1 (.slice pA (i + 1 + (n1 - E)) cA) (i + 1 + (n1 - E)) ((n.names.map Value.string).take i ++ [.string x] ++ (n.names.map Value.string).drop E)) := Lib.hid ⟨_, HB15.out.size, hma⟩
        have HSA : Hid ((fun wx => wx.cell? ⟨w.heap.size, 2, none⟩ = some (.slice p1 n1 c1) ∧ wx.cell? ⟨w.heap.size, 3, none⟩ = some (.slice q1 m1 d1) ∧ wx.cell? ⟨bp, op, none⟩ = some (.string x) ∧ wx.cell? ⟨w.heap.size + 2, 0, none⟩ = some (.int .u8 D.kind.toNat) ∧ wx.cell? ⟨w.heap.size + 2, 1, none⟩ = some (.string D.text) ∧ wx.cell? ⟨w.heap.size + 2, 2, none⟩ = some (.slice p5 D.names.length c5) ∧ wx.cell? ⟨w.heap.size + 2, 3, none⟩ = some (.slice q5 D.kids.length d5)) wA) := Lib.hid ⟨cell_kept hba hHeld.1, cell_kept hba hHeld.2.1, cell_kept hba hHeld.2.2.1, cell_kept hba hHeld.2.2.2.1, cell_kept hba hHeld.2.2.2.2.1, cell_kept hba hHeld.2.2.2.2.2.1, cell_kept hba hHeld.2.2.2.2.2.2⟩
        have HR8x := Lib.hid (Reads.kept HR8.out hba)
        clear HR8
        have HR8 := HR8x
        clear HR8x
        have HR15x := Lib.hid (Reads.kept HR15.out hba)
        clear HR15
        have HR15 := HR15x
        clear HR15x
        clear hma hba HR8
        go_wp2_with fail
        refine hK.out _ _ (by exact HSA.out) (fun hHeld => ?_)
        clear hK K
        try simp only [Act.put, sA, sB, sC]
        refine wpAnyH_ready (rs := [16]) (by kernel_rfl) (by simp) ?_
        refine AllReadyH.cons (o := qFtWM_4) rfl (fun K hK => ?_) AllReadyH.nil
        go_simp
        (go_at_call 172; refine (HSPK.out _ HBA.out i E 1 [.int .u8 D.kind.toNat, .string D.text, .slice p5 D.names.length c5, .slice q5 D.kids.length d5] _ HR15.out HEI.out HEM.out (by omega)).mono ?_; rintro e wB ⟨⟨vb, rfl, hmb⟩, hbb⟩)
        have HBB : Hid (Below w5.heap.size w5 wB) := Lib.hid (HBA.out.trans (hbb.mono HBA.out.size))
        obtain ⟨-, pB, cB, rfl, -⟩ := id (hmb.out (by unfold maxLen; have := HMN.out; have := HNB.out; omega))
        have HMB : Hid (∃ bs, w5.heap.size ≤ bs ∧ Mine wB bs (poIf 1 q1) 25 4 (.slice pB (i + 1 + (m1 - E)) cB) (i + 1 + (m1 - E)) (zs.take (i * 4) ++ [.int .u8 D.kind.toNat, .string D.text, .slice p5 D.names.length c5, .slice q5 D.kids.length d5] ++ zs.drop (E * 4))) := Lib.hid ⟨_, HBA.out.size, hmb⟩
        have HMA2 : Hid (∃ bs, w5.heap.size ≤ bs ∧ Mine wB bs (poIf 1 p1) 9 1 (.slice pA (i + 1 + (n1 - E)) cA) (i + 1 + (n1 - E)) ((n.names.map Value.string).take i ++ [.string x] ++ (n.names.map Value.string).drop E)) := Lib.hid (by
         obtain ⟨bs, h1, h2⟩ := HMA.out
         exact ⟨bs, h1, h2.kept hbb⟩)
        have HSB : Hid ((fun wx => wx.cell? ⟨w.heap.size, 2, none⟩ = some (.slice p1 n1 c1) ∧ wx.cell? ⟨w.heap.size, 3, none⟩ = some (.slice q1 m1 d1) ∧ wx.cell? ⟨bp, op, none⟩ = some (.string x) ∧ wx.cell? ⟨w.heap.size + 2, 0, none⟩ = some (.int .u8 D.kind.toNat) ∧ wx.cell? ⟨w.heap.size + 2, 1, none⟩ = some (.string D.text) ∧ wx.cell? ⟨w.heap.size + 2, 2, none⟩ = some (.slice p5 D.names.length c5) ∧ wx.cell? ⟨w.heap.size + 2, 3, none⟩ = some (.slice q5 D.kids.length d5)) wB) := Lib.hid ⟨cell_kept hbb hHeld.1, cell_kept hbb hHeld.2.1, cell_kept hbb hHeld.2.2.1, cell_kept hbb hHeld.2.2.2.1, cell_kept hbb hHeld.2.2.2.2.1, cell_kept hbb hHeld.2.2.2.2.2.1, cell_kept hbb hHeld.2.2.2.2.2.2⟩
        clear hmb hbb HR15 HMA
        go_wp2_with fail
        refine hK.out _ _ (by exact HSB.out) (fun hHeld => ?_)
        clear hK K
        try simp only [Act.put, sA, sB, sC]
        refine tk 17 qFtWM_5 ?_
        try simp only [Act.put, sA, sB, sC]
        refine wpAnyH_ready (rs := [18]) (by kernel_rfl) (by simp) ?_
        refine AllReadyH.cons (o := qFtWM_6) rfl (fun K hK => ?_) AllReadyH.nil
        have HZB := Lib.hid (HZ5.out.kept HBB.out)
        have HKB := Lib.hid (HK5.out.kept HBB.out)
        have HVB := Lib.hid (HV5.out.kept HBB.out)
        obtain ⟨z0, z1, z2, z3⟩ := HZB.out.cell
        obtain ⟨x0, x1, x2, x3⟩ := HZB.out.open_
        go_simp
        go_wp2_with fail
        refine hK.out _ _ (by exact ⟨(HVB.out.other (show w.heap.size ≠ w.heap.size + 1 by omega) _ _ _ _).cell.2.2.1, (HVB.out.other (show w.heap.size ≠ w.heap.size + 1 by omega) _ _ _ _).cell.2.2.2, far_four HSB.out.2.2.1 (by omega), (HKB.out.other (show w.heap.size + 2 ≠ w.heap.size + 1 by omega) _ _ _ _).cell.1, (HKB.out.other (show w.heap.size + 2 ≠ w.heap.size + 1 by omega) _ _ _ _).cell.2.1, (HKB.out.other (show w.heap.size + 2 ≠ w.heap.size + 1 by omega) _ _ _ _).cell.2.2.1, (HKB.out.other (show w.heap.size + 2 ≠ w.heap.size + 1 by omega) _ _ _ _).cell.2.2.2⟩) (fun hHeld => ?_)
        clear hK K
        try simp only [Act.put, sA, sB, sC]
        refine wpAnyH_done (by kernel_rfl) ?_ _
        have HDK : All4 (NodeX wB (fun k => S k ∧ k ≠ w.heap.size + 1)) [.int .u8 D.kind.toNat, .string D.text, .slice p5 D.names.length c5, .slice q5 D.kids.length d5] [D] := All4.one rfl ((NodeX.grown HD5.out HBB.out).same fun k hk => ⟨rfl, hk.1, hk.2.2.1⟩)
        obtain ⟨bJ, hbJ, hmA⟩ := HMA2.out
        obtain ⟨bK, hbK, hmB⟩ := HMB.out
        clear hHeld
        go_wp2_with fail
        refine bodyPost_ret (v := .agg #[.int .u8 2, .string ⟨#[]⟩, .slice pA (i + 1 + (n1 - E)) cA, .slice pB (i + 1 + (m1 - E)) cB]) (by simp [results, Tryz.results169, go_sem, z0, z1, z2, z3]) rfl ?_
        have hb9 := grown_four (w := wB) (g := w.heap.size + 1) (.int .u8 2) (.string ⟨#[]⟩) (.slice pA (i + 1 + (n1 - E)) cA) (.slice pB (i + 1 + (m1 - E)) cB)
        have hgB : w.grownBy wB (some m) := grown_trans HG5.out (grown_of_below HBB.out)
        have hke : changedD f (x :: r) n = .mk 2 ByteArray.empty (n.names.take i ++ [x] ++ n.names.drop E) (n.kids.take i ++ [D] ++ n.kids.drop E) := by
         rw [HCD.out, if_neg HD0.out, ← HLOW.out, HE.out]
        have hmn := HMN.out
        have hel := HEL.out
        have hei := HEI.out
        have hn1b : n1 ≤ 200000000 := by have := HNB.out; omega
        have hwA := HBA.out.size
        refine ⟨⟨_, rfl, ?_⟩, grown_mix hgB hb9 (by omega), fun y hy => ?_⟩
        ·rw [hke]
         have h9 := node_spliced (S' := fun k => S k ∧ k ≠ w.heap.size + 1) (ls := [x]) (ks := [D]) (cs := [.int .u8 D.kind.toNat, .string D.text, .slice p5 D.names.length c5, .slice q5 D.kids.length d5]) (i := i) (E := E) (base := bJ) (base2 := bK) (pn := poIf 1 p1) (pq := poIf 1 q1) (vn := .slice pA (i + 1 + (n1 - E)) cA) (vq := .slice pB (i + 1 + (m1 - E)) cB) (nn := i + 1 + (n1 - E)) (nk := i + 1 + (m1 - E)) HRA.out HDK HBB.out (fun k hk => ⟨hS0 k hk.1 hk.2, by have := hk.2; omega⟩)
          (by simpa [Nat.add_assoc] using hmA) (by simpa [Nat.add_assoc] using hmB) (by unfold maxLen; omega) (by unfold maxLen; omega) (fun k hk => ⟨hSn k (by have := hbJ; omega), by have := hbJ; omega⟩) (fun k hk => ⟨hSn k (by have := hbK; omega), by have := hbK; omega⟩)
          (fun a ha hne => by cases ha) (fun a ha hne => by cases ha)
         exact (h9.grownBy hb9 (fun h => h.2 rfl)).same fun k hk => ⟨rfl, hk.1⟩
        ·rw [HRD.out] at hy
         exact HP.out _ _ _ _ (HP5.out y hy) (grown_trans (grown_of_below HBB.out) hb9) (by omega) (by omega)
       ·skip
        generalize hgen8 : (w7.alloc (.cells #[.string x] 9)) = w8 at *
        clear hgen8
        go_simp
        (go_at_call 171; refine (HSPN.out _ HB8.out i E 1 [.string x] _ HR8.out HEI.out HEL.out (by omega)).mono ?_; rintro e wA ⟨⟨va, rfl, hma⟩, hba⟩)
        have HBA : Hid (Below w5.heap.size w5 wA) := Lib.hid (HB8.out.trans (hba.mono HB8.out.size))
        obtain ⟨-, pA, cA, rfl, -⟩ := id (hma.out (by unfold maxLen; have := HNB.out; omega))
        have HMA : Hid (∃ bs, w5.heap.size ≤ bs ∧ Mine wA bs (poIf 1 p1) 9 1 (.slice pA (i + 1 + (n1 - E)) cA) (i + 1 + (n1 - E)) ((n.names.map Value.string).take i ++ [.string x] ++ (n.names.map Value.string).drop E)) := Lib.hid ⟨_, HB8.out.size, hma⟩
        have HSA : Hid ((fun wx => wx.cell? ⟨w.heap.size, 2, none⟩ = some (.slice p1 n1 c1) ∧ wx.cell? ⟨w.heap.size, 3, none⟩ = some (.slice q1 m1 d1) ∧ wx.cell? ⟨bp, op, none⟩ = some (.string x) ∧ wx.cell? ⟨w.heap.size + 2, 0, none⟩ = some (.int .u8 D.kind.toNat) ∧ wx.cell? ⟨w.heap.size + 2, 1, none⟩ = some (.string D.text) ∧ wx.cell? ⟨w.heap.size + 2, 2, none⟩ = some (.slice p5 D.names.length c5) ∧ wx.cell? ⟨w.heap.size + 2, 3, none⟩ = some (.slice q5 D.kids.length d5)) wA) := Lib.hid ⟨cell_kept hba hHeld.1, cell_kept hba hHeld.2.1, cell_kept hba hHeld.2.2.1, cell_kept hba hHeld.2.2.2.1, cell_kept hba hHeld.2.2.2.2.1, cell_kept hba hHeld.2.2.2.2.2.1, cell_kept hba hHeld.2.2.2.2.2.2⟩
        have HR8x := Lib.hid (Reads.kept HR8.out hba)
        clear HR8
        have HR8 := HR8x
        clear HR8x
        clear hma hba HR8
        go_wp2_with fail
        refine hK.out _ _ (by exact HSA.out) (fun hHeld => ?_)
        clear hK K
        try simp only [Act.put, sA, sB, sC]
        refine wpAnyH_ready (rs := [15]) (by kernel_rfl) (by simp) ?_
        refine AllReadyH.cons (o := qFtWM_1) rfl (fun K hK => ?_) AllReadyH.nil
        go_simp
        have HB15 : Hid (Below w5.heap.size w5 (wA.alloc (.cells #[.int .u8 D.kind.toNat, .string D.text, .slice p5 D.names.length c5, .slice q5 D.kids.length d5] 25))) := Lib.hid (HBA.out.alloc HBA.out.size _)
        have HS15 : Hid ((fun wx => wx.cell? ⟨w.heap.size, 2, none⟩ = some (.slice p1 n1 c1) ∧ wx.cell? ⟨w.heap.size, 3, none⟩ = some (.slice q1 m1 d1) ∧ wx.cell? ⟨bp, op, none⟩ = some (.string x) ∧ wx.cell? ⟨w.heap.size + 2, 0, none⟩ = some (.int .u8 D.kind.toNat) ∧ wx.cell? ⟨w.heap.size + 2, 1, none⟩ = some (.string D.text) ∧ wx.cell? ⟨w.heap.size + 2, 2, none⟩ = some (.slice p5 D.names.length c5) ∧ wx.cell? ⟨w.heap.size + 2, 3, none⟩ = some (.slice q5 D.kids.length d5)) (wA.alloc (.cells #[.int .u8 D.kind.toNat, .string D.text, .slice p5 D.names.length c5, .slice q5 D.kids.length d5] 25))) := Lib.hid ⟨cell_kept ((Below.refl wA.heap.size wA).alloc (Nat.le_refl _) (.cells #[.int .u8 D.kind.toNat, .string D.text, .slice p5 D.names.length c5, .slice q5 D.kids.length d5] 25)) hHeld.1, cell_kept ((Below.refl wA.heap.size wA).alloc (Nat.le_refl _) (.cells #[.int .u8 D.kind.toNat, .string D.text, .slice p5 D.names.length c5, .slice q5 D.kids.length d5] 25)) hHeld.2.1, cell_kept ((Below.refl wA.heap.size wA).alloc (Nat.le_refl _) (.cells #[.int .u8 D.kind.toNat, .string D.text, .slice p5 D.names.length c5, .slice q5 D.kids.length d5] 25)) hHeld.2.2.1, cell_kept ((Below.refl wA.heap.size wA).alloc (Nat.le_refl _) (.cells #[.int .u8 D.kind.toNat, .string D.text, .slice p5 D.names.length c5, .slice q5 D.kids.length d5] 25)) hHeld.2.2.2.1, cell_kept ((Below.refl wA.heap.size wA).alloc (Nat.le_refl _) (.cells #[.int .u8 D.kind.toNat, .string D.text, .slice p5 D.names.length c5, .slice q5 D.kids.length d5] 25)) hHeld.2.2.2.2.1, cell_kept ((Below.refl wA.heap.size wA).alloc (Nat.le_refl _) (.cells #[.int .u8 D.kind.toNat, .string D.text, .slice p5 D.names.length c5, .slice q5 D.kids.length d5] 25)) hHeld.2.2.2.2.2.1, cell_kept ((Below.refl wA.heap.size wA).alloc (Nat.le_refl _) (.cells #[.int .u8 D.kind.toNat, .string D.text, .slice p5 D.names.length c5, .slice q5 D.kids.length d5] 25)) hHeld.2.2.2.2.2.2⟩
        have HR15 : Hid (Reads (wA.alloc (.cells #[.int .u8 D.kind.toNat, .string D.text, .slice p5 D.names.length c5, .slice q5 D.kids.length d5] 25)) (.slice (some ⟨wA.heap.size, 0, none⟩) 1 1) 1 4 [.int .u8 D.kind.toNat, .string D.text, .slice p5 D.names.length c5, .slice q5 D.kids.length d5]) := Lib.hid (reads_new (cs := [.int .u8 D.kind.toNat, .string D.text, .slice p5 D.names.length c5, .slice q5 D.kids.length d5]) rfl)
        have HA15 : Hid (Below wA.heap.size wA (wA.alloc (.cells #[.int .u8 D.kind.toNat, .string D.text, .slice p5 D.names.length c5, .slice q5 D.kids.length d5] 25))) := Lib.hid ((Below.refl _ _).alloc (Nat.le_refl _) _)
        go_wp2_with fail
        refine hK.out _ _ (by exact HS15.out) (fun hHeld => ?_)
        clear hK K
        try simp only [Act.put, sA, sB, sC]
        refine wpAnyH_ready (rs := [16]) (by kernel_rfl) (by simp) ?_
        refine AllReadyH.cons (o := qFtWM_4) rfl (fun K hK => ?_) AllReadyH.nil
        generalize hgen15 : (wA.alloc (.cells #[.int .u8 D.kind.toNat, .string D.text, .slice p5 D.names.length c5, .slice q5 D.kids.length d5] 25)) = w15 at *
        clear hgen15
        go_simp
        (go_at_call 172; refine (HSPK.out _ HB15.out i E 1 [.int .u8 D.kind.toNat, .string D.text, .slice p5 D.names.length c5, .slice q5 D.kids.length d5] _ HR15.out HEI.out HEM.out (by omega)).mono ?_; rintro e wB ⟨⟨vb, rfl, hmb⟩, hbb⟩)
        have HBB : Hid (Below w5.heap.size w5 wB) := Lib.hid (HB15.out.trans (hbb.mono HB15.out.size))
        obtain ⟨-, pB, cB, rfl, -⟩ := id (hmb.out (by unfold maxLen; have := HMN.out; have := HNB.out; omega))
        have HMB : Hid (∃ bs, w5.heap.size ≤ bs ∧ Mine wB bs (poIf 1 q1) 25 4 (.slice pB (i + 1 + (m1 - E)) cB) (i + 1 + (m1 - E)) (zs.take (i * 4) ++ [.int .u8 D.kind.toNat, .string D.text, .slice p5 D.names.length c5, .slice q5 D.kids.length d5] ++ zs.drop (E * 4))) := Lib.hid ⟨_, HB15.out.size, hmb⟩
        have HMA2 : Hid (∃ bs, w5.heap.size ≤ bs ∧ Mine wB bs (poIf 1 p1) 9 1 (.slice pA (i + 1 + (n1 - E)) cA) (i + 1 + (n1 - E)) ((n.names.map Value.string).take i ++ [.string x] ++ (n.names.map Value.string).drop E)) := Lib.hid (by
         obtain ⟨bs, h1, h2⟩ := HMA.out
         exact ⟨bs, h1, (h2.kept HA15.out).kept hbb⟩)
        have HSB : Hid ((fun wx => wx.cell? ⟨w.heap.size, 2, none⟩ = some (.slice p1 n1 c1) ∧ wx.cell? ⟨w.heap.size, 3, none⟩ = some (.slice q1 m1 d1) ∧ wx.cell? ⟨bp, op, none⟩ = some (.string x) ∧ wx.cell? ⟨w.heap.size + 2, 0, none⟩ = some (.int .u8 D.kind.toNat) ∧ wx.cell? ⟨w.heap.size + 2, 1, none⟩ = some (.string D.text) ∧ wx.cell? ⟨w.heap.size + 2, 2, none⟩ = some (.slice p5 D.names.length c5) ∧ wx.cell? ⟨w.heap.size + 2, 3, none⟩ = some (.slice q5 D.kids.length d5)) wB) := Lib.hid ⟨cell_kept hbb hHeld.1, cell_kept hbb hHeld.2.1, cell_kept hbb hHeld.2.2.1, cell_kept hbb hHeld.2.2.2.1, cell_kept hbb hHeld.2.2.2.2.1, cell_kept hbb hHeld.2.2.2.2.2.1, cell_kept hbb hHeld.2.2.2.2.2.2⟩
        clear hmb hbb HR15 HMA
        go_wp2_with fail
        refine hK.out _ _ (by exact HSB.out) (fun hHeld => ?_)
        clear hK K
        try simp only [Act.put, sA, sB, sC]
        refine tk 17 qFtWM_5 ?_
        try simp only [Act.put, sA, sB, sC]
        refine wpAnyH_ready (rs := [18]) (by kernel_rfl) (by simp) ?_
        refine AllReadyH.cons (o := qFtWM_6) rfl (fun K hK => ?_) AllReadyH.nil
        have HZB := Lib.hid (HZ5.out.kept HBB.out)
        have HKB := Lib.hid (HK5.out.kept HBB.out)
        have HVB := Lib.hid (HV5.out.kept HBB.out)
        obtain ⟨z0, z1, z2, z3⟩ := HZB.out.cell
        obtain ⟨x0, x1, x2, x3⟩ := HZB.out.open_
        go_simp
        go_wp2_with fail
        refine hK.out _ _ (by exact ⟨(HVB.out.other (show w.heap.size ≠ w.heap.size + 1 by omega) _ _ _ _).cell.2.2.1, (HVB.out.other (show w.heap.size ≠ w.heap.size + 1 by omega) _ _ _ _).cell.2.2.2, far_four HSB.out.2.2.1 (by omega), (HKB.out.other (show w.heap.size + 2 ≠ w.heap.size + 1 by omega) _ _ _ _).cell.1, (HKB.out.other (show w.heap.size + 2 ≠ w.heap.size + 1 by omega) _ _ _ _).cell.2.1, (HKB.out.other (show w.heap.size + 2 ≠ w.heap.size + 1 by omega) _ _ _ _).cell.2.2.1, (HKB.out.other (show w.heap.size + 2 ≠ w.heap.size + 1 by omega) _ _ _ _).cell.2.2.2⟩) (fun hHeld => ?_)
        clear hK K
        try simp only [Act.put, sA, sB, sC]
        refine wpAnyH_done (by kernel_rfl) ?_ _
        have HDK : All4 (NodeX wB (fun k => S k ∧ k ≠ w.heap.size + 1)) [.int .u8 D.kind.toNat, .string D.text, .slice p5 D.names.length c5, .slice q5 D.kids.length d5] [D] := All4.one rfl ((NodeX.grown HD5.out HBB.out).same fun k hk => ⟨rfl, hk.1, hk.2.2.1⟩)
        obtain ⟨bJ, hbJ, hmA⟩ := HMA2.out
        obtain ⟨bK, hbK, hmB⟩ := HMB.out
        clear hHeld
        go_wp2_with fail
        refine bodyPost_ret (v := .agg #[.int .u8 2, .string ⟨#[]⟩, .slice pA (i + 1 + (n1 - E)) cA, .slice pB (i + 1 + (m1 - E)) cB]) (by simp [results, Tryz.results169, go_sem, z0, z1, z2, z3]) rfl ?_
        have hb9 := grown_four (w := wB) (g := w.heap.size + 1) (.int .u8 2) (.string ⟨#[]⟩) (.slice pA (i + 1 + (n1 - E)) cA) (.slice pB (i + 1 + (m1 - E)) cB)
        have hgB : w.grownBy wB (some m) := grown_trans HG5.out (grown_of_below HBB.out)
        have hke : changedD f (x :: r) n = .mk 2 ByteArray.empty (n.names.take i ++ [x] ++ n.names.drop E) (n.kids.take i ++ [D] ++ n.kids.drop E) := by
         rw [HCD.out, if_neg HD0.out, ← HLOW.out, HE.out]
        have hmn := HMN.out
        have hel := HEL.out
        have hei := HEI.out
        have hn1b : n1 ≤ 200000000 := by have := HNB.out; omega
        have hwA := HBA.out.size
        refine ⟨⟨_, rfl, ?_⟩, grown_mix hgB hb9 (by omega), fun y hy => ?_⟩
        ·rw [hke]
         have h9 := node_spliced (S' := fun k => S k ∧ k ≠ w.heap.size + 1) (ls := [x]) (ks := [D]) (cs := [.int .u8 D.kind.toNat, .string D.text, .slice p5 D.names.length c5, .slice q5 D.kids.length d5]) (i := i) (E := E) (base := bJ) (base2 := bK) (pn := poIf 1 p1) (pq := poIf 1 q1) (vn := .slice pA (i + 1 + (n1 - E)) cA) (vq := .slice pB (i + 1 + (m1 - E)) cB) (nn := i + 1 + (n1 - E)) (nk := i + 1 + (m1 - E)) HRA.out HDK HBB.out (fun k hk => ⟨hS0 k hk.1 hk.2, by have := hk.2; omega⟩)
          (by simpa [Nat.add_assoc] using hmA) (by simpa [Nat.add_assoc] using hmB) (by unfold maxLen; omega) (by unfold maxLen; omega) (fun k hk => ⟨hSn k (by have := hbJ; omega), by have := hbJ; omega⟩) (fun k hk => ⟨hSn k (by have := hbK; omega), by have := hbK; omega⟩)
          (fun a ha hne => by cases ha) (fun a ha hne => by cases ha)
         exact (h9.grownBy hb9 (fun h => h.2 rfl)).same fun k hk => ⟨rfl, hk.1⟩
        ·rw [HRD.out] at hy
         exact HP.out _ _ _ _ (HP5.out y hy) (grown_trans (grown_of_below HBB.out) hb9) (by omega) (by omega)
  ·have HCD := Lib.hid (changed_leaf f x r hk2)
   have HRD := Lib.hid (reach_leaf x r hk2)
   have e2 := beq_int n.kind 2
   rw [show ((2 : UInt8).toNat : Int) = 2 from rfl, beq_eq_false_iff_ne.2 hk2] at e2
   have e2n := ne_of e2
   clear hn hst hch hI hP hinv ih hk2 hpm
   generalize n.kind.toNat = k1 at *
   generalize n.text = t1 at *
   generalize n.names.length = n1 at *
   generalize n.kids.length = m1 at *
   go_enter Tryz.func169, Tryz.ntmps169
   go_upto_region 4 with fail
   all_goals try (exfalso; simp_all; done)
   have HV : Hid (Four ((w.alloc (.cells #[.int .u8 k1, .string t1, .slice p1 n1 c1, .slice q1 m1 d1] 25)).alloc (.cells #[.int .u8 0, .string ⟨#[]⟩, .slice none 0 0, .slice none 0 0] 25)) w.heap.size (.int .u8 k1) (.string t1) (.slice p1 n1 c1) (.slice q1 m1 d1)) := Lib.hid (four_first w _ _ _ _ _)
   have HZ : Hid (Four ((w.alloc (.cells #[.int .u8 k1, .string t1, .slice p1 n1 c1, .slice q1 m1 d1] 25)).alloc (.cells #[.int .u8 0, .string ⟨#[]⟩, .slice none 0 0, .slice none 0 0] 25)) (w.heap.size + 1) (.int .u8 0) (.string ⟨#[]⟩) (.slice none 0 0) (.slice none 0 0)) := Lib.hid (by have := four_new (w.alloc (.cells #[.int .u8 k1, .string t1, .slice p1 n1 c1, .slice q1 m1 d1] 25)) (.int .u8 0) (.string ⟨#[]⟩) (.slice none 0 0) (.slice none 0 0); simpa using this)
   have HB : Hid (Below w.heap.size w ((w.alloc (.cells #[.int .u8 k1, .string t1, .slice p1 n1 c1, .slice q1 m1 d1] 25)).alloc (.cells #[.int .u8 0, .string ⟨#[]⟩, .slice none 0 0, .slice none 0 0] 25))) := Lib.hid (box2_self (Below.refl _ _))
   generalize ((w.alloc (.cells #[.int .u8 k1, .string t1, .slice p1 n1 c1, .slice q1 m1 d1] 25)).alloc (.cells #[.int .u8 0, .string ⟨#[]⟩, .slice none 0 0, .slice none 0 0] 25)) = wr at *
   obtain ⟨c0, c1x, c2x, c3⟩ := HV.out.cell
   obtain ⟨z0, z1, z2, z3⟩ := HZ.out.cell
   obtain ⟨x0, x1, x2, x3⟩ := HZ.out.open_
   go_wp2_with fail
   refine bodyPost_ret (v := .agg #[.int .u8 k1, .string t1, .slice p1 n1 c1, .slice q1 m1 d1]) (by simp [results, Tryz.results169, go_sem, z0, z1, z2, z3]) rfl ?_
   have hb9 := grown_four (w := wr) (g := w.heap.size + 1) (.int .u8 k1) (.string t1) (.slice p1 n1 c1) (.slice q1 m1 d1)
   refine ⟨⟨_, rfl, ?_⟩, grown_mix (grown_of_below HB.out) hb9 (by omega), fun y hy => by rw [HRD.out] at hy; cases hy⟩
   rw [HCD.out]
   exact ((NodeX.grown HN.out HB.out).grownBy hb9 (fun h => by have := h.2; omega)).same fun k hk => ⟨rfl, hS0 k hk.1 hk.2⟩
end Go.Proofs.YtfilbknnpjbmcaaGreatDoor
