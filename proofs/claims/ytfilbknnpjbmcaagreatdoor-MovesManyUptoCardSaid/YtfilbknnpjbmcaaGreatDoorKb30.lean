/- Walks: the walker's loop: it ends where the way ends. -/
import Derived.Test.YtfilbknnpjbmcaaGreatDoorKb02
import Derived.Test.YtfilbknnpjbmcaaGreatDoorKb29
namespace Go.Proofs.YtfilbknnpjbmcaaGreatDoor
open Go.RowKit Px Nx Wk
abbrev qWkD_0 : Oper := { dst := some 21, op := Op.move (Operand.tmp 0), type := 144, pos := "walk.go:49", after := #[], guard := none }
abbrev qWkD_1 : Oper := { dst := some 22, op := Op.move (Operand.tmp 0), type := 144, pos := "walk.go:49", after := #[], guard := none }
abbrev qWkD_2 : Oper := { dst := some 23, op := Op.nilCheck (Operand.tmp 22), type := 0, pos := "walk.go:49", after := #[{ on := 1, ground := Ground.data }], guard := none }
abbrev qWkD_3 : Oper := { dst := some 24, op := Op.fieldAddr 109 (Operand.tmp 23) 2, type := 0, pos := "walk.go:49", after := #[{ on := 2, ground := Ground.data }], guard := none }
abbrev qWkD_4 : Oper := { dst := some 26, op := Op.move (Operand.tmp 0), type := 144, pos := "walk.go:49", after := #[], guard := none }
abbrev qWkD_5 : Oper := { dst := some 27, op := Op.nilCheck (Operand.tmp 26), type := 0, pos := "walk.go:49", after := #[{ on := 5, ground := Ground.data }], guard := none }
abbrev qWkD_6 : Oper := { dst := some 28, op := Op.fieldAddr 109 (Operand.tmp 27) 2, type := 0, pos := "walk.go:49", after := #[{ on := 6, ground := Ground.data }], guard := none }
abbrev qWkD_7 : Oper := { dst := some 31, op := Op.move (Operand.tmp 0), type := 144, pos := "walk.go:49", after := #[], guard := none }
abbrev qWkD_8 : Oper := { dst := some 32, op := Op.nilCheck (Operand.tmp 31), type := 0, pos := "walk.go:49", after := #[{ on := 10, ground := Ground.data }], guard := none }
abbrev qWkD_9 : Oper := { dst := some 33, op := Op.fieldAddr 109 (Operand.tmp 32) 2, type := 0, pos := "walk.go:49", after := #[{ on := 11, ground := Ground.data }], guard := none }
abbrev qWkD_10 : Oper := { dst := some 25, op := Op.load 22 (Operand.tmp 24), type := 22, pos := "walk.go:49", after := #[{ on := 3, ground := Ground.data }], guard := none }
abbrev qWkD_11 : Oper := { dst := some 29, op := Op.load 22 (Operand.tmp 28), type := 22, pos := "walk.go:49", after := #[{ on := 7, ground := Ground.data }], guard := none }
abbrev qWkD_12 : Oper := { dst := some 34, op := Op.load 22 (Operand.tmp 33), type := 22, pos := "walk.go:49", after := #[{ on := 12, ground := Ground.data }], guard := none }
abbrev qWkD_13 : Oper := { dst := some 35, op := Op.call { callee := Callee.builtin Builtin.len, args := #[Operand.tmp 34], argTypes := #[22] }, type := 3, pos := "walk.go:49", after := #[{ on := 13, ground := Ground.data }], guard := none }
abbrev qWkD_14 : Oper := { dst := some 30, op := Op.call { callee := Callee.builtin Builtin.len, args := #[Operand.tmp 29], argTypes := #[22] }, type := 3, pos := "walk.go:49", after := #[{ on := 8, ground := Ground.data }], guard := none }
abbrev qWkD_15 : Oper := { dst := some 36, op := Op.slice 22 (Operand.tmp 25) (some (Operand.const (Value.int IntKind.i64 1))) (some (Operand.tmp 30)) (some (Operand.tmp 35)), type := 22, pos := "walk.go:49", after := #[{ on := 4, ground := Ground.data }, { on := 9, ground := Ground.data }, { on := 14, ground := Ground.data }], guard := none }
abbrev qWkD_16 : Oper := { dst := some 37, op := Op.nilCheck (Operand.tmp 21), type := 0, pos := "walk.go:49", after := #[{ on := 0, ground := Ground.data }, { on := 0, ground := Ground.phase }, { on := 1, ground := Ground.phase }, { on := 2, ground := Ground.phase }, { on := 3, ground := Ground.phase }, { on := 4, ground := Ground.phase }, { on := 5, ground := Ground.phase }, { on := 6, ground := Ground.phase }, { on := 7, ground := Ground.phase }, { on := 8, ground := Ground.phase }, { on := 9, ground := Ground.phase }, { on := 10, ground := Ground.phase }, { on := 11, ground := Ground.phase }, { on := 12, ground := Ground.phase }, { on := 13, ground := Ground.phase }, { on := 14, ground := Ground.phase }, { on := 15, ground := Ground.phase }], guard := none }
abbrev qWkD_17 : Oper := { dst := some 38, op := Op.fieldAddr 109 (Operand.tmp 37) 2, type := 0, pos := "walk.go:49", after := #[{ on := 16, ground := Ground.data }, { on := 0, ground := Ground.phase }, { on := 1, ground := Ground.phase }, { on := 2, ground := Ground.phase }, { on := 3, ground := Ground.phase }, { on := 4, ground := Ground.phase }, { on := 5, ground := Ground.phase }, { on := 6, ground := Ground.phase }, { on := 7, ground := Ground.phase }, { on := 8, ground := Ground.phase }, { on := 9, ground := Ground.phase }, { on := 10, ground := Ground.phase }, { on := 11, ground := Ground.phase }, { on := 12, ground := Ground.phase }, { on := 13, ground := Ground.phase }, { on := 14, ground := Ground.phase }, { on := 15, ground := Ground.phase }], guard := none }
abbrev qWkD_18 : Oper := { dst := none, op := Op.store 22 (Operand.tmp 38) (Operand.tmp 36), type := 0, pos := "walk.go:49", after := #[{ on := 17, ground := Ground.data }, { on := 15, ground := Ground.data }, { on := 0, ground := Ground.phase }, { on := 1, ground := Ground.phase }, { on := 2, ground := Ground.phase }, { on := 3, ground := Ground.phase }, { on := 4, ground := Ground.phase }, { on := 5, ground := Ground.phase }, { on := 6, ground := Ground.phase }, { on := 7, ground := Ground.phase }, { on := 8, ground := Ground.phase }, { on := 9, ground := Ground.phase }, { on := 10, ground := Ground.phase }, { on := 11, ground := Ground.phase }, { on := 12, ground := Ground.phase }, { on := 13, ground := Ground.phase }, { on := 14, ground := Ground.phase }, { on := 15, ground := Ground.phase }], guard := none }

def dirB (t : ByteArray) : Bool := dirL t.data.toList
def absB (t : ByteArray) : Bool := Lib.hasPrefix t.data.toList [47]
def outV (w' : World) (g : Nat) (o : Out) (e : Ending) : Prop := match o with
 | .ok p k => ∃ pv, e = .returned (.tuple #[pv, .int .u8 k.toNat, .int .i64 0]) ∧ PlG w' g pv p
 | .err c => e = .returned (.tuple #[.slice none 0 0, .int .u8 0, .int .i64 c])
theorem strs_tail {w : World} {b o : Nat} {x : ByteArray} {xs : List ByteArray} (h : Strs w (some ⟨b, o, none⟩) (x :: xs)) : Strs w (some ⟨b, o + 1, none⟩) xs := by
 intro i hi
 obtain ⟨b', o', he, hc⟩ := h (i + 1) (by simp; omega)
 obtain ⟨rfl, rfl⟩ : b = b' ∧ o = o' := by simpa using he
 refine ⟨b, o + 1, rfl, ?_⟩
 rw [show o + 1 + i = o + (i + 1) by omega, hc]
 rfl
theorem plG_tail {w : World} {g b o c m : Nat} {x : ByteArray} {xs : List ByteArray} (h : PlG w g (.slice (some ⟨b, o, none⟩) m c) (x :: xs)) : PlG w g (.slice (some ⟨b, o + 1, none⟩) xs.length xs.length) xs := by
 intro w' hg
 obtain ⟨p', c', he, hs, h1, h2⟩ := h w' hg
 obtain ⟨rfl, _, _⟩ : some ⟨b, o, none⟩ = p' ∧ m = (x :: xs).length ∧ c = c' := by simpa using he
 exact ⟨_, _, rfl, strs_tail hs, Nat.le_refl _, by simp at h1; omega⟩
theorem plG_drop {w : World} {g c m : Nat} {p : Option Addr} {xs : List ByteArray} (h : PlG w g (.slice p m c) xs) : PlG w g (.slice p (m - 1) c) xs.dropLast := by
 intro w' hg
 obtain ⟨p', c', he, hs, h1, h2⟩ := h w' hg
 obtain ⟨rfl, rfl, rfl⟩ : p = p' ∧ m = xs.length ∧ c = c' := by simpa using he
 refine ⟨p, c, by simp, ?_, by simp; omega, h2⟩
 rw [List.dropLast_eq_take]
 exact strs_take hs _
theorem PlG.parts {w : World} {g : Nat} {v : Value} {l : List ByteArray} (h : PlG w g v l) : ∃ p c, v = .slice p l.length c ∧ l.length ≤ c ∧ c ≤ maxLen ∧ (l ≠ [] → ∃ b o, p = some ⟨b, o, none⟩) := by
 obtain ⟨p, c, rfl, hs, h1, h2⟩ := h.now
 refine ⟨p, c, rfl, h1, h2, fun hne => ?_⟩
 obtain ⟨b, o, he, _⟩ := hs 0 (List.length_pos_iff.2 hne)
 exact ⟨b, o, he⟩
theorem PlG.first {w : World} {g b o c m : Nat} {x : ByteArray} {xs : List ByteArray} (h : PlG w g (.slice (some ⟨b, o, none⟩) m c) (x :: xs)) : w.cell? ⟨b, o, none⟩ = some (.string x) := by
 obtain ⟨p', c', he, hs, h1, h2⟩ := h.now
 obtain ⟨rfl, _, _⟩ : some ⟨b, o, none⟩ = p' ∧ m = (x :: xs).length ∧ c = c' := by simpa using he
 obtain ⟨b', o', he, hc⟩ := hs 0 (by simp)
 obtain ⟨rfl, rfl⟩ : b = b' ∧ o = o' := by simpa using he
 simpa using hc
theorem mine_reads {w : World} {p : Option Addr} {n : Nat} {xs : List Value} (h : Reads w (.slice p n n) n 1 xs) : ∃ po, Mine w w.heap.size po 9 1 (.slice p n n) n xs := by
 obtain ⟨h1, h2, p', c', he, h3, h4, h5⟩ := h
 obtain ⟨rfl, _⟩ : p = p' ∧ n = c' := by simpa using he
 cases p with
 | some a => exact ⟨some a, .inr ⟨h1, a, rfl, rfl, fun j u hj => by
   obtain ⟨b, o, hp, hc⟩ := h5 j u hj
   exact ⟨b, o, Option.some.inj hp, hc⟩⟩⟩
 | none =>
  have hn : n = 0 := by
   rcases Nat.eq_zero_or_pos n with h0 | h0
   ·exact h0
   ·obtain ⟨b, o, hp, _⟩ := h5 0 _ (List.getElem?_eq_getElem (by omega))
    cases hp
  subst hn
  obtain rfl : xs = [] := List.length_eq_zero_iff.1 (by omega)
  exact ⟨none, .inl ⟨by simp, .inl ⟨rfl, rfl⟩⟩⟩
theorem not_dots {s : ByteArray} (h : s ≠ dots) : (s.toList == [46, 46]) = false := beq_eq_false_iff_ne.2 fun e => h (by
 rw [Lib.toList_data] at e
 obtain ⟨d⟩ := s
 show ByteArray.mk d = ByteArray.mk #[46, 46]
 congr 1
 exact Array.toList_inj.1 e)
theorem wcell_first {w : World} {c : Array Value} {t : TypeId} {i : Nat} {v : Value} (h : c[i]? = some v) : (w.alloc (.cells c t)).cell? ⟨w.heap.size, i, none⟩ = some v := by
 rw [cell_of_row _ _ _ _ _ _ (heap_alloc_new w _)]
 exact h
theorem wcell_alloc {w : World} {o : Obj} {d : Addr} {v : Value} (h : w.cell? d = some v) : (w.alloc o).cell? d = some v := cell_kept ((Below.refl _ _).alloc (Nat.le_refl _) _) h
theorem wbelow_alloc {w w' : World} {o : Obj} (h : Below w.heap.size w w') : Below w.heap.size w (w'.alloc o) := h.alloc h.size _
theorem mine_plG {w : World} {base g : Nat} {m : Nat} {v : Value} {n : Nat} {l : List ByteArray} {po : Option Addr} (hm : m ≠ 0) (hn : n = l.length) (h : Mine w base (poIf m po) 9 1 v n (l.map Value.string)) (hg : g < base) : PlG w g v l := by
 rcases h with h | ⟨_, a, h2, _⟩
 ·subst hn
  exact own_plG h hg
 ·unfold poIf at h2
  rw [if_neg hm] at h2
  cases h2
theorem one_reads (w : World) (s : ByteArray) : Reads (w.alloc (.cells #[.string s] 9)).drew (.slice (some ⟨w.heap.size, 0, none⟩) 1 1) 1 1 [.string s] := by
 refine ⟨rfl, rfl, _, _, rfl, Nat.le_refl _, by decide, fun j u hj => ⟨w.heap.size, 0, rfl, ?_⟩⟩
 have hj0 : j = 0 := by
  have := (List.getElem?_eq_some_iff.1 hj).1
  simpa using this
 subst hj0
 obtain rfl : Value.string s = u := by simpa using hj
 exact wcell_first (i := 0) rfl
def leftM (g : Nat) (w : World) : Nat := match w.cell? ⟨g, 2, none⟩, w.cell? ⟨g, 3, none⟩ with
 | some (.slice _ n _), some (.int _ j) => n + (8 - j.toNat) * 300
 | _, _ => 0
theorem leftM_of {w : World} {g : Nat} {v0 v1 v4 v5 : Value} {p : Option Addr} {n c j : Nat} (h : Six w g v0 v1 (.slice p n c) (.int .i64 j) v4 v5) : leftM g w = n + (8 - j) * 300 := by
 obtain ⟨c0, c1, c2, c3, c4, c5⟩ := h.cell
 unfold leftM
 rw [c2, c3]
 simp

set_option maxRecDepth 100000 in
set_option maxHeartbeats 8000000 in
theorem walk_any {W : World} {g b : Nat} {n : Nd} {v0 v1 v2 v3 : Value} (hT : TreeS W (fun k => k ≠ b ∧ k ≠ g) b n v0 v1 v2 v3) (hgb : g ≠ b) (hw : n.well = true) (hB : n.girth ≤ 200000000) {at0 left0 : List ByteArray} {av lv : Value} {j0 : Nat} {fo a0 : Bool}
  (h : Six W g (.iface 28 (.pointer (some ⟨b, 0, none⟩))) av lv (.int .i64 j0) (.bool fo) (.bool a0)) (ha : PlG W g av at0) (hl : PlG W g lv left0) (hj : j0 ≤ 8) (hll : at0.length + left0.length + (8 - j0) * 300 ≤ 60000) :
  Calls Tryz.prog 65 #[.pointer (some ⟨g, 0, none⟩)] W fun e w' => (∃ o, Run n stepsB dirB absB fo at0 left0 j0 a0 o ∧ outV w' g o e) ∧ W.grownBy w' (some g) := by
 obtain ⟨i0, hi, hz0, hz1, hz2⟩ := info_parts infoStr
 have HS0 := Lib.hid h
 have HA0 := Lib.hid ha
 have HL0 := Lib.hid hl
 have HT0 := Lib.hid hT
 clear h ha hl hT
 go_enter Tryz.func65, Tryz.ntmps65
 go_wp2_with fail
 go_loopw [5, 6, 7, 8] (fun _ _ _ _ wr => ∃ (at_ left : List ByteArray) (av lv : Value) (j : Nat) (a : Bool), Hid (Six wr g (.iface 28 (.pointer (some ⟨b, 0, none⟩))) av lv (.int .i64 j) (.bool fo) (.bool a)) ∧ Hid (PlG wr g av at_) ∧ Hid (PlG wr g lv left) ∧ j ≤ 8 ∧ at_.length + left.length + (8 - j) * 300 ≤ 60000 ∧
  Hid (TreeS wr (fun k => k ≠ b ∧ k ≠ g) b n v0 v1 v2 v3) ∧ Hid (W.grownBy wr (some g)) ∧ Hid (∀ o, Run n stepsB dirB absB fo at_ left j a o → Run n stepsB dirB absB fo at0 left0 j0 a0 o)) (fun _ _ _ _ wr => leftM g wr)
 case atStart => exact ⟨at0, left0, _, _, j0, a0, HS0, HA0, HL0, hj, hll, HT0, Lib.hid (grown_of_below (Below.refl _ _)), Lib.hid fun o h => h⟩
 case round =>
  clear HS0 HA0 HL0 HT0 hll hj
  obtain ⟨at_, left, av, lv, j, a, HS, HA, HL, hj, hll, HT, HG, HR⟩ := hrel
  obtain ⟨c0, c1, c2, c3, c4, c5⟩ := HS.out.cell
  obtain ⟨pa, ca, rfl, hac, hcm, hpa⟩ := HA.out.parts
  cases left with
  | nil =>
   obtain ⟨pl, cl, rfl, _, _, _⟩ := HL.out.parts
   have HRD := Lib.hid (HR.out _ (.done at_ j a))
   have HGR : Hid (at_.length = at_.length) := Lib.hid rfl
   clear HGR
   go_wp2_with fail
   go_ret3
   exact ⟨⟨_, HRD.out, _, rfl, HA.out⟩, HG.out⟩
  | cons s r =>
   obtain ⟨pl, cl, rfl, hlc, hlm, hpl⟩ := HL.out.parts
   obtain ⟨bl, ol, rfl⟩ := hpl (by simp)
   have f0 := HL.out.first
   have x2 := HS.out.open_ 2
   have HLT := Lib.hid (plG_tail HL.out)
   rw [List.length_cons] at *
   have hm1 : leftM g wr = r.length + 1 + (8 - j) * 300 := leftM_of HS.out
   rw [hm1]
   clear hpl hm1
   go_upto_region 3 with fail
   go_cut [] (fun wx => ∃ p', Hid (Six wx g (.iface 28 (.pointer (some ⟨b, 0, none⟩))) (.slice pa at_.length ca) (.slice p' r.length r.length) (.int .i64 j) (.bool fo) (.bool a)) ∧ Hid (PlG wx g (.slice p' r.length r.length) r) ∧ Hid (wr.grownBy wx (some g)))
   case first =>
    have HSD : Hid (Six wr.drew g (.iface 28 (.pointer (some ⟨b, 0, none⟩))) (.slice pa at_.length ca) (.slice (some ⟨bl, ol, none⟩) (r.length + 1) cl) (.int .i64 j) (.bool fo) (.bool a)) := Lib.hid HS.out
    have HEM : Hid (r.length = 0 → ∀ q w', PlG w' g (.slice q r.length r.length) r) := Lib.hid fun h0 q w' w2 _ => ⟨q, r.length, rfl, fun i hi => absurd hi (by omega), Nat.le_refl _, by omega⟩
    generalize at_.length = ml at *
    clear c0 c1 c2 c3 c4 c5 x2 f0
    rcases Nat.eq_zero_or_pos r.length with hr0 | hr0
    ·generalize r.length = rl at *
     subst hr0
     have hci : (1 : Int) ≤ (cl : Int) := by omega
     clear hlc
     refine wp_region_held_drew (S := (fun _ => True)) (by kernel_rfl) trivial (fun hHeld => ?_)
     refine tk 0 qWkD_0 ?_
     try simp only [Act.put, sA, sB, sC]
     refine tk 1 qWkD_1 ?_
     try simp only [Act.put, sA, sB, sC]
     refine tk 2 qWkD_2 ?_
     try simp only [Act.put, sA, sB, sC]
     refine tk 3 qWkD_3 ?_
     try simp only [Act.put, sA, sB, sC]
     refine tk 5 qWkD_4 ?_
     try simp only [Act.put, sA, sB, sC]
     refine tk 6 qWkD_5 ?_
     try simp only [Act.put, sA, sB, sC]
     refine tk 7 qWkD_6 ?_
     try simp only [Act.put, sA, sB, sC]
     refine tk 10 qWkD_7 ?_
     try simp only [Act.put, sA, sB, sC]
     refine tk 11 qWkD_8 ?_
     try simp only [Act.put, sA, sB, sC]
     refine tk 12 qWkD_9 ?_
     try simp only [Act.put, sA, sB, sC]
     refine wpAnyH_ready (rs := [4, 8, 13]) (by kernel_rfl) (by simp) ?_
     refine AllReadyH.cons (o := qWkD_10) rfl (fun K hK => ?_) ?_
     rotate_left
     refine AllReadyH.cons (o := qWkD_11) rfl (fun K hK => ?_) ?_
     rotate_left
     refine AllReadyH.cons (o := qWkD_12) rfl (fun K hK => ?_) AllReadyH.nil
     ·skip
      obtain ⟨d0, d1, d2, d3, d4, d5⟩ := HSD.out.cell
      go_simp
      clear d0 d1 d2 d3 d4 d5
      refine hK.out _ _ (by trivial) (fun hHeld => ?_)
      clear hK K
      try simp only [Act.put, sA, sB, sC]
      refine tk 14 qWkD_13 ?_
      try simp only [Act.put, sA, sB, sC]
      refine wpAnyH_ready (rs := [4, 8]) (by kernel_rfl) (by simp) ?_
      refine AllReadyH.cons (o := qWkD_10) rfl (fun K hK => ?_) ?_
      rotate_left
      refine AllReadyH.cons (o := qWkD_11) rfl (fun K hK => ?_) AllReadyH.nil
      ·skip
       obtain ⟨d0, d1, d2, d3, d4, d5⟩ := HSD.out.cell
       go_simp
       clear d0 d1 d2 d3 d4 d5
       refine hK.out _ _ (by trivial) (fun hHeld => ?_)
       clear hK K
       try simp only [Act.put, sA, sB, sC]
       refine tk 9 qWkD_14 ?_
       try simp only [Act.put, sA, sB, sC]
       refine wpAnyH_ready (rs := [4]) (by kernel_rfl) (by simp) ?_
       refine AllReadyH.cons (o := qWkD_10) rfl (fun K hK => ?_) AllReadyH.nil
       obtain ⟨d0, d1, d2, d3, d4, d5⟩ := HSD.out.cell
       go_simp
       clear d0 d1 d2 d3 d4 d5
       refine hK.out _ _ (by trivial) (fun hHeld => ?_)
       clear hK K
       try simp only [Act.put, sA, sB, sC]
       refine tk 15 qWkD_15 ?_
       try simp only [Act.put, sA, sB, sC]
       refine tk 16 qWkD_16 ?_
       try simp only [Act.put, sA, sB, sC]
       refine tk 17 qWkD_17 ?_
       try simp only [Act.put, sA, sB, sC]
       refine wpAnyH_ready (rs := [18]) (by kernel_rfl) (by simp) ?_
       refine AllReadyH.cons (o := qWkD_18) rfl (fun K hK => ?_) AllReadyH.nil
       obtain ⟨d0, d1, d2, d3, d4, d5⟩ := HSD.out.cell
       have y2 := HSD.out.open_ 2
       go_simp
       go_wp2_with fail
       refine hK.out _ _ (by trivial) (fun hHeld => ?_)
       clear hK K
       try simp only [Act.put, sA, sB, sC]
       refine wpAnyH_done (by kernel_rfl) ?_ _
       go_wp2_with fail
       go_meet
       exact ⟨_, Lib.hid (HSD.out.set2 _), Lib.hid (HEM.out (by trivial) _ _), Lib.hid (grown_trans (grown_of_below (g := g) (Below.refl _ _).drew) grown_set)⟩
      ·skip
       obtain ⟨d0, d1, d2, d3, d4, d5⟩ := HSD.out.cell
       go_simp
       clear d0 d1 d2 d3 d4 d5
       refine hK.out _ _ (by trivial) (fun hHeld => ?_)
       clear hK K
       try simp only [Act.put, sA, sB, sC]
       refine wpAnyH_ready (rs := [8]) (by kernel_rfl) (by simp) ?_
       refine AllReadyH.cons (o := qWkD_11) rfl (fun K hK => ?_) AllReadyH.nil
       obtain ⟨d0, d1, d2, d3, d4, d5⟩ := HSD.out.cell
       go_simp
       clear d0 d1 d2 d3 d4 d5
       refine hK.out _ _ (by trivial) (fun hHeld => ?_)
       clear hK K
       try simp only [Act.put, sA, sB, sC]
       refine tk 9 qWkD_14 ?_
       try simp only [Act.put, sA, sB, sC]
       refine tk 15 qWkD_15 ?_
       try simp only [Act.put, sA, sB, sC]
       refine tk 16 qWkD_16 ?_
       try simp only [Act.put, sA, sB, sC]
       refine tk 17 qWkD_17 ?_
       try simp only [Act.put, sA, sB, sC]
       refine wpAnyH_ready (rs := [18]) (by kernel_rfl) (by simp) ?_
       refine AllReadyH.cons (o := qWkD_18) rfl (fun K hK => ?_) AllReadyH.nil
       obtain ⟨d0, d1, d2, d3, d4, d5⟩ := HSD.out.cell
       have y2 := HSD.out.open_ 2
       go_simp
       go_wp2_with fail
       refine hK.out _ _ (by trivial) (fun hHeld => ?_)
       clear hK K
       try simp only [Act.put, sA, sB, sC]
       refine wpAnyH_done (by kernel_rfl) ?_ _
       go_wp2_with fail
       go_meet
       exact ⟨_, Lib.hid (HSD.out.set2 _), Lib.hid (HEM.out (by trivial) _ _), Lib.hid (grown_trans (grown_of_below (g := g) (Below.refl _ _).drew) grown_set)⟩
     ·skip
      obtain ⟨d0, d1, d2, d3, d4, d5⟩ := HSD.out.cell
      go_simp
      clear d0 d1 d2 d3 d4 d5
      refine hK.out _ _ (by trivial) (fun hHeld => ?_)
      clear hK K
      try simp only [Act.put, sA, sB, sC]
      refine wpAnyH_ready (rs := [8, 13]) (by kernel_rfl) (by simp) ?_
      refine AllReadyH.cons (o := qWkD_11) rfl (fun K hK => ?_) ?_
      rotate_left
      refine AllReadyH.cons (o := qWkD_12) rfl (fun K hK => ?_) AllReadyH.nil
      ·skip
       obtain ⟨d0, d1, d2, d3, d4, d5⟩ := HSD.out.cell
       go_simp
       clear d0 d1 d2 d3 d4 d5
       refine hK.out _ _ (by trivial) (fun hHeld => ?_)
       clear hK K
       try simp only [Act.put, sA, sB, sC]
       refine tk 14 qWkD_13 ?_
       try simp only [Act.put, sA, sB, sC]
       refine wpAnyH_ready (rs := [8]) (by kernel_rfl) (by simp) ?_
       refine AllReadyH.cons (o := qWkD_11) rfl (fun K hK => ?_) AllReadyH.nil
       obtain ⟨d0, d1, d2, d3, d4, d5⟩ := HSD.out.cell
       go_simp
       clear d0 d1 d2 d3 d4 d5
       refine hK.out _ _ (by trivial) (fun hHeld => ?_)
       clear hK K
       try simp only [Act.put, sA, sB, sC]
       refine tk 9 qWkD_14 ?_
       try simp only [Act.put, sA, sB, sC]
       refine tk 15 qWkD_15 ?_
       try simp only [Act.put, sA, sB, sC]
       refine tk 16 qWkD_16 ?_
       try simp only [Act.put, sA, sB, sC]
       refine tk 17 qWkD_17 ?_
       try simp only [Act.put, sA, sB, sC]
       refine wpAnyH_ready (rs := [18]) (by kernel_rfl) (by simp) ?_
       refine AllReadyH.cons (o := qWkD_18) rfl (fun K hK => ?_) AllReadyH.nil
       obtain ⟨d0, d1, d2, d3, d4, d5⟩ := HSD.out.cell
       have y2 := HSD.out.open_ 2
       go_simp
       go_wp2_with fail
       refine hK.out _ _ (by trivial) (fun hHeld => ?_)
       clear hK K
       try simp only [Act.put, sA, sB, sC]
       refine wpAnyH_done (by kernel_rfl) ?_ _
       go_wp2_with fail
       go_meet
       exact ⟨_, Lib.hid (HSD.out.set2 _), Lib.hid (HEM.out (by trivial) _ _), Lib.hid (grown_trans (grown_of_below (g := g) (Below.refl _ _).drew) grown_set)⟩
      ·skip
       obtain ⟨d0, d1, d2, d3, d4, d5⟩ := HSD.out.cell
       go_simp
       clear d0 d1 d2 d3 d4 d5
       refine hK.out _ _ (by trivial) (fun hHeld => ?_)
       clear hK K
       try simp only [Act.put, sA, sB, sC]
       refine tk 9 qWkD_14 ?_
       try simp only [Act.put, sA, sB, sC]
       refine wpAnyH_ready (rs := [13]) (by kernel_rfl) (by simp) ?_
       refine AllReadyH.cons (o := qWkD_12) rfl (fun K hK => ?_) AllReadyH.nil
       obtain ⟨d0, d1, d2, d3, d4, d5⟩ := HSD.out.cell
       go_simp
       clear d0 d1 d2 d3 d4 d5
       refine hK.out _ _ (by trivial) (fun hHeld => ?_)
       clear hK K
       try simp only [Act.put, sA, sB, sC]
       refine tk 14 qWkD_13 ?_
       try simp only [Act.put, sA, sB, sC]
       refine tk 15 qWkD_15 ?_
       try simp only [Act.put, sA, sB, sC]
       refine tk 16 qWkD_16 ?_
       try simp only [Act.put, sA, sB, sC]
       refine tk 17 qWkD_17 ?_
       try simp only [Act.put, sA, sB, sC]
       refine wpAnyH_ready (rs := [18]) (by kernel_rfl) (by simp) ?_
       refine AllReadyH.cons (o := qWkD_18) rfl (fun K hK => ?_) AllReadyH.nil
       obtain ⟨d0, d1, d2, d3, d4, d5⟩ := HSD.out.cell
       have y2 := HSD.out.open_ 2
       go_simp
       go_wp2_with fail
       refine hK.out _ _ (by trivial) (fun hHeld => ?_)
       clear hK K
       try simp only [Act.put, sA, sB, sC]
       refine wpAnyH_done (by kernel_rfl) ?_ _
       go_wp2_with fail
       go_meet
       exact ⟨_, Lib.hid (HSD.out.set2 _), Lib.hid (HEM.out (by trivial) _ _), Lib.hid (grown_trans (grown_of_below (g := g) (Below.refl _ _).drew) grown_set)⟩
     ·skip
      obtain ⟨d0, d1, d2, d3, d4, d5⟩ := HSD.out.cell
      go_simp
      clear d0 d1 d2 d3 d4 d5
      refine hK.out _ _ (by trivial) (fun hHeld => ?_)
      clear hK K
      try simp only [Act.put, sA, sB, sC]
      refine tk 9 qWkD_14 ?_
      try simp only [Act.put, sA, sB, sC]
      refine wpAnyH_ready (rs := [4, 13]) (by kernel_rfl) (by simp) ?_
      refine AllReadyH.cons (o := qWkD_10) rfl (fun K hK => ?_) ?_
      rotate_left
      refine AllReadyH.cons (o := qWkD_12) rfl (fun K hK => ?_) AllReadyH.nil
      ·skip
       obtain ⟨d0, d1, d2, d3, d4, d5⟩ := HSD.out.cell
       go_simp
       clear d0 d1 d2 d3 d4 d5
       refine hK.out _ _ (by trivial) (fun hHeld => ?_)
       clear hK K
       try simp only [Act.put, sA, sB, sC]
       refine tk 14 qWkD_13 ?_
       try simp only [Act.put, sA, sB, sC]
       refine wpAnyH_ready (rs := [4]) (by kernel_rfl) (by simp) ?_
       refine AllReadyH.cons (o := qWkD_10) rfl (fun K hK => ?_) AllReadyH.nil
       obtain ⟨d0, d1, d2, d3, d4, d5⟩ := HSD.out.cell
       go_simp
       clear d0 d1 d2 d3 d4 d5
       refine hK.out _ _ (by trivial) (fun hHeld => ?_)
       clear hK K
       try simp only [Act.put, sA, sB, sC]
       refine tk 15 qWkD_15 ?_
       try simp only [Act.put, sA, sB, sC]
       refine tk 16 qWkD_16 ?_
       try simp only [Act.put, sA, sB, sC]
       refine tk 17 qWkD_17 ?_
       try simp only [Act.put, sA, sB, sC]
       refine wpAnyH_ready (rs := [18]) (by kernel_rfl) (by simp) ?_
       refine AllReadyH.cons (o := qWkD_18) rfl (fun K hK => ?_) AllReadyH.nil
       obtain ⟨d0, d1, d2, d3, d4, d5⟩ := HSD.out.cell
       have y2 := HSD.out.open_ 2
       go_simp
       go_wp2_with fail
       refine hK.out _ _ (by trivial) (fun hHeld => ?_)
       clear hK K
       try simp only [Act.put, sA, sB, sC]
       refine wpAnyH_done (by kernel_rfl) ?_ _
       go_wp2_with fail
       go_meet
       exact ⟨_, Lib.hid (HSD.out.set2 _), Lib.hid (HEM.out (by trivial) _ _), Lib.hid (grown_trans (grown_of_below (g := g) (Below.refl _ _).drew) grown_set)⟩
      ·skip
       obtain ⟨d0, d1, d2, d3, d4, d5⟩ := HSD.out.cell
       go_simp
       clear d0 d1 d2 d3 d4 d5
       refine hK.out _ _ (by trivial) (fun hHeld => ?_)
       clear hK K
       try simp only [Act.put, sA, sB, sC]
       refine wpAnyH_ready (rs := [13]) (by kernel_rfl) (by simp) ?_
       refine AllReadyH.cons (o := qWkD_12) rfl (fun K hK => ?_) AllReadyH.nil
       obtain ⟨d0, d1, d2, d3, d4, d5⟩ := HSD.out.cell
       go_simp
       clear d0 d1 d2 d3 d4 d5
       refine hK.out _ _ (by trivial) (fun hHeld => ?_)
       clear hK K
       try simp only [Act.put, sA, sB, sC]
       refine tk 14 qWkD_13 ?_
       try simp only [Act.put, sA, sB, sC]
       refine tk 15 qWkD_15 ?_
       try simp only [Act.put, sA, sB, sC]
       refine tk 16 qWkD_16 ?_
       try simp only [Act.put, sA, sB, sC]
       refine tk 17 qWkD_17 ?_
       try simp only [Act.put, sA, sB, sC]
       refine wpAnyH_ready (rs := [18]) (by kernel_rfl) (by simp) ?_
       refine AllReadyH.cons (o := qWkD_18) rfl (fun K hK => ?_) AllReadyH.nil
       obtain ⟨d0, d1, d2, d3, d4, d5⟩ := HSD.out.cell
       have y2 := HSD.out.open_ 2
       go_simp
       go_wp2_with fail
       refine hK.out _ _ (by trivial) (fun hHeld => ?_)
       clear hK K
       try simp only [Act.put, sA, sB, sC]
       refine wpAnyH_done (by kernel_rfl) ?_ _
       go_wp2_with fail
       go_meet
       exact ⟨_, Lib.hid (HSD.out.set2 _), Lib.hid (HEM.out (by trivial) _ _), Lib.hid (grown_trans (grown_of_below (g := g) (Below.refl _ _).drew) grown_set)⟩
    ·generalize r.length = rl at *
     have hci : ((rl : Int) + 1) ≤ (cl : Int) := by omega
     have hcj : (1 : Int) ≤ (cl : Int) := by omega
     have hck : (1 : Int) ≤ (rl : Int) + 1 := by omega
     have hrl : ¬ rl = 0 := by omega
     refine wp_region_held_drew (S := (fun _ => True)) (by kernel_rfl) trivial (fun hHeld => ?_)
     refine tk 0 qWkD_0 ?_
     try simp only [Act.put, sA, sB, sC]
     refine tk 1 qWkD_1 ?_
     try simp only [Act.put, sA, sB, sC]
     refine tk 2 qWkD_2 ?_
     try simp only [Act.put, sA, sB, sC]
     refine tk 3 qWkD_3 ?_
     try simp only [Act.put, sA, sB, sC]
     refine tk 5 qWkD_4 ?_
     try simp only [Act.put, sA, sB, sC]
     refine tk 6 qWkD_5 ?_
     try simp only [Act.put, sA, sB, sC]
     refine tk 7 qWkD_6 ?_
     try simp only [Act.put, sA, sB, sC]
     refine tk 10 qWkD_7 ?_
     try simp only [Act.put, sA, sB, sC]
     refine tk 11 qWkD_8 ?_
     try simp only [Act.put, sA, sB, sC]
     refine tk 12 qWkD_9 ?_
     try simp only [Act.put, sA, sB, sC]
     refine wpAnyH_ready (rs := [4, 8, 13]) (by kernel_rfl) (by simp) ?_
     refine AllReadyH.cons (o := qWkD_10) rfl (fun K hK => ?_) ?_
     rotate_left
     refine AllReadyH.cons (o := qWkD_11) rfl (fun K hK => ?_) ?_
     rotate_left
     refine AllReadyH.cons (o := qWkD_12) rfl (fun K hK => ?_) AllReadyH.nil
     ·skip
      obtain ⟨d0, d1, d2, d3, d4, d5⟩ := HSD.out.cell
      go_simp
      clear d0 d1 d2 d3 d4 d5
      refine hK.out _ _ (by trivial) (fun hHeld => ?_)
      clear hK K
      try simp only [Act.put, sA, sB, sC]
      refine tk 14 qWkD_13 ?_
      try simp only [Act.put, sA, sB, sC]
      refine wpAnyH_ready (rs := [4, 8]) (by kernel_rfl) (by simp) ?_
      refine AllReadyH.cons (o := qWkD_10) rfl (fun K hK => ?_) ?_
      rotate_left
      refine AllReadyH.cons (o := qWkD_11) rfl (fun K hK => ?_) AllReadyH.nil
      ·skip
       obtain ⟨d0, d1, d2, d3, d4, d5⟩ := HSD.out.cell
       go_simp
       clear d0 d1 d2 d3 d4 d5
       refine hK.out _ _ (by trivial) (fun hHeld => ?_)
       clear hK K
       try simp only [Act.put, sA, sB, sC]
       refine tk 9 qWkD_14 ?_
       try simp only [Act.put, sA, sB, sC]
       refine wpAnyH_ready (rs := [4]) (by kernel_rfl) (by simp) ?_
       refine AllReadyH.cons (o := qWkD_10) rfl (fun K hK => ?_) AllReadyH.nil
       obtain ⟨d0, d1, d2, d3, d4, d5⟩ := HSD.out.cell
       go_simp
       clear d0 d1 d2 d3 d4 d5
       refine hK.out _ _ (by trivial) (fun hHeld => ?_)
       clear hK K
       try simp only [Act.put, sA, sB, sC]
       refine tk 15 qWkD_15 ?_
       try simp only [Act.put, sA, sB, sC]
       refine tk 16 qWkD_16 ?_
       try simp only [Act.put, sA, sB, sC]
       refine tk 17 qWkD_17 ?_
       try simp only [Act.put, sA, sB, sC]
       refine wpAnyH_ready (rs := [18]) (by kernel_rfl) (by simp) ?_
       refine AllReadyH.cons (o := qWkD_18) rfl (fun K hK => ?_) AllReadyH.nil
       obtain ⟨d0, d1, d2, d3, d4, d5⟩ := HSD.out.cell
       have y2 := HSD.out.open_ 2
       go_simp
       go_wp2_with fail
       refine hK.out _ _ (by trivial) (fun hHeld => ?_)
       clear hK K
       try simp only [Act.put, sA, sB, sC]
       refine wpAnyH_done (by kernel_rfl) ?_ _
       go_wp2_with fail
       go_meet
       exact ⟨_, Lib.hid (HSD.out.set2 _), Lib.hid (HLT.out.by (grown_trans (grown_of_below (g := g) (Below.refl _ _).drew) grown_set)), Lib.hid (grown_trans (grown_of_below (g := g) (Below.refl _ _).drew) grown_set)⟩
      ·skip
       obtain ⟨d0, d1, d2, d3, d4, d5⟩ := HSD.out.cell
       go_simp
       clear d0 d1 d2 d3 d4 d5
       refine hK.out _ _ (by trivial) (fun hHeld => ?_)
       clear hK K
       try simp only [Act.put, sA, sB, sC]
       refine wpAnyH_ready (rs := [8]) (by kernel_rfl) (by simp) ?_
       refine AllReadyH.cons (o := qWkD_11) rfl (fun K hK => ?_) AllReadyH.nil
       obtain ⟨d0, d1, d2, d3, d4, d5⟩ := HSD.out.cell
       go_simp
       clear d0 d1 d2 d3 d4 d5
       refine hK.out _ _ (by trivial) (fun hHeld => ?_)
       clear hK K
       try simp only [Act.put, sA, sB, sC]
       refine tk 9 qWkD_14 ?_
       try simp only [Act.put, sA, sB, sC]
       refine tk 15 qWkD_15 ?_
       try simp only [Act.put, sA, sB, sC]
       refine tk 16 qWkD_16 ?_
       try simp only [Act.put, sA, sB, sC]
       refine tk 17 qWkD_17 ?_
       try simp only [Act.put, sA, sB, sC]
       refine wpAnyH_ready (rs := [18]) (by kernel_rfl) (by simp) ?_
       refine AllReadyH.cons (o := qWkD_18) rfl (fun K hK => ?_) AllReadyH.nil
       obtain ⟨d0, d1, d2, d3, d4, d5⟩ := HSD.out.cell
       have y2 := HSD.out.open_ 2
       go_simp
       go_wp2_with fail
       refine hK.out _ _ (by trivial) (fun hHeld => ?_)
       clear hK K
       try simp only [Act.put, sA, sB, sC]
       refine wpAnyH_done (by kernel_rfl) ?_ _
       go_wp2_with fail
       go_meet
       exact ⟨_, Lib.hid (HSD.out.set2 _), Lib.hid (HLT.out.by (grown_trans (grown_of_below (g := g) (Below.refl _ _).drew) grown_set)), Lib.hid (grown_trans (grown_of_below (g := g) (Below.refl _ _).drew) grown_set)⟩
     ·skip
      obtain ⟨d0, d1, d2, d3, d4, d5⟩ := HSD.out.cell
      go_simp
      clear d0 d1 d2 d3 d4 d5
      refine hK.out _ _ (by trivial) (fun hHeld => ?_)
      clear hK K
      try simp only [Act.put, sA, sB, sC]
      refine wpAnyH_ready (rs := [8, 13]) (by kernel_rfl) (by simp) ?_
      refine AllReadyH.cons (o := qWkD_11) rfl (fun K hK => ?_) ?_
      rotate_left
      refine AllReadyH.cons (o := qWkD_12) rfl (fun K hK => ?_) AllReadyH.nil
      ·skip
       obtain ⟨d0, d1, d2, d3, d4, d5⟩ := HSD.out.cell
       go_simp
       clear d0 d1 d2 d3 d4 d5
       refine hK.out _ _ (by trivial) (fun hHeld => ?_)
       clear hK K
       try simp only [Act.put, sA, sB, sC]
       refine tk 14 qWkD_13 ?_
       try simp only [Act.put, sA, sB, sC]
       refine wpAnyH_ready (rs := [8]) (by kernel_rfl) (by simp) ?_
       refine AllReadyH.cons (o := qWkD_11) rfl (fun K hK => ?_) AllReadyH.nil
       obtain ⟨d0, d1, d2, d3, d4, d5⟩ := HSD.out.cell
       go_simp
       clear d0 d1 d2 d3 d4 d5
       refine hK.out _ _ (by trivial) (fun hHeld => ?_)
       clear hK K
       try simp only [Act.put, sA, sB, sC]
       refine tk 9 qWkD_14 ?_
       try simp only [Act.put, sA, sB, sC]
       refine tk 15 qWkD_15 ?_
       try simp only [Act.put, sA, sB, sC]
       refine tk 16 qWkD_16 ?_
       try simp only [Act.put, sA, sB, sC]
       refine tk 17 qWkD_17 ?_
       try simp only [Act.put, sA, sB, sC]
       refine wpAnyH_ready (rs := [18]) (by kernel_rfl) (by simp) ?_
       refine AllReadyH.cons (o := qWkD_18) rfl (fun K hK => ?_) AllReadyH.nil
       obtain ⟨d0, d1, d2, d3, d4, d5⟩ := HSD.out.cell
       have y2 := HSD.out.open_ 2
       go_simp
       go_wp2_with fail
       refine hK.out _ _ (by trivial) (fun hHeld => ?_)
       clear hK K
       try simp only [Act.put, sA, sB, sC]
       refine wpAnyH_done (by kernel_rfl) ?_ _
       go_wp2_with fail
       go_meet
       exact ⟨_, Lib.hid (HSD.out.set2 _), Lib.hid (HLT.out.by (grown_trans (grown_of_below (g := g) (Below.refl _ _).drew) grown_set)), Lib.hid (grown_trans (grown_of_below (g := g) (Below.refl _ _).drew) grown_set)⟩
      ·skip
       obtain ⟨d0, d1, d2, d3, d4, d5⟩ := HSD.out.cell
       go_simp
       clear d0 d1 d2 d3 d4 d5
       refine hK.out _ _ (by trivial) (fun hHeld => ?_)
       clear hK K
       try simp only [Act.put, sA, sB, sC]
       refine tk 9 qWkD_14 ?_
       try simp only [Act.put, sA, sB, sC]
       refine wpAnyH_ready (rs := [13]) (by kernel_rfl) (by simp) ?_
       refine AllReadyH.cons (o := qWkD_12) rfl (fun K hK => ?_) AllReadyH.nil
       obtain ⟨d0, d1, d2, d3, d4, d5⟩ := HSD.out.cell
       go_simp
       clear d0 d1 d2 d3 d4 d5
       refine hK.out _ _ (by trivial) (fun hHeld => ?_)
       clear hK K
       try simp only [Act.put, sA, sB, sC]
       refine tk 14 qWkD_13 ?_
       try simp only [Act.put, sA, sB, sC]
       refine tk 15 qWkD_15 ?_
       try simp only [Act.put, sA, sB, sC]
       refine tk 16 qWkD_16 ?_
       try simp only [Act.put, sA, sB, sC]
       refine tk 17 qWkD_17 ?_
       try simp only [Act.put, sA, sB, sC]
       refine wpAnyH_ready (rs := [18]) (by kernel_rfl) (by simp) ?_
       refine AllReadyH.cons (o := qWkD_18) rfl (fun K hK => ?_) AllReadyH.nil
       obtain ⟨d0, d1, d2, d3, d4, d5⟩ := HSD.out.cell
       have y2 := HSD.out.open_ 2
       go_simp
       go_wp2_with fail
       refine hK.out _ _ (by trivial) (fun hHeld => ?_)
       clear hK K
       try simp only [Act.put, sA, sB, sC]
       refine wpAnyH_done (by kernel_rfl) ?_ _
       go_wp2_with fail
       go_meet
       exact ⟨_, Lib.hid (HSD.out.set2 _), Lib.hid (HLT.out.by (grown_trans (grown_of_below (g := g) (Below.refl _ _).drew) grown_set)), Lib.hid (grown_trans (grown_of_below (g := g) (Below.refl _ _).drew) grown_set)⟩
     ·skip
      obtain ⟨d0, d1, d2, d3, d4, d5⟩ := HSD.out.cell
      go_simp
      clear d0 d1 d2 d3 d4 d5
      refine hK.out _ _ (by trivial) (fun hHeld => ?_)
      clear hK K
      try simp only [Act.put, sA, sB, sC]
      refine tk 9 qWkD_14 ?_
      try simp only [Act.put, sA, sB, sC]
      refine wpAnyH_ready (rs := [4, 13]) (by kernel_rfl) (by simp) ?_
      refine AllReadyH.cons (o := qWkD_10) rfl (fun K hK => ?_) ?_
      rotate_left
      refine AllReadyH.cons (o := qWkD_12) rfl (fun K hK => ?_) AllReadyH.nil
      ·skip
       obtain ⟨d0, d1, d2, d3, d4, d5⟩ := HSD.out.cell
       go_simp
       clear d0 d1 d2 d3 d4 d5
       refine hK.out _ _ (by trivial) (fun hHeld => ?_)
       clear hK K
       try simp only [Act.put, sA, sB, sC]
       refine tk 14 qWkD_13 ?_
       try simp only [Act.put, sA, sB, sC]
       refine wpAnyH_ready (rs := [4]) (by kernel_rfl) (by simp) ?_
       refine AllReadyH.cons (o := qWkD_10) rfl (fun K hK => ?_) AllReadyH.nil
       obtain ⟨d0, d1, d2, d3, d4, d5⟩ := HSD.out.cell
       go_simp
       clear d0 d1 d2 d3 d4 d5
       refine hK.out _ _ (by trivial) (fun hHeld => ?_)
       clear hK K
       try simp only [Act.put, sA, sB, sC]
       refine tk 15 qWkD_15 ?_
       try simp only [Act.put, sA, sB, sC]
       refine tk 16 qWkD_16 ?_
       try simp only [Act.put, sA, sB, sC]
       refine tk 17 qWkD_17 ?_
       try simp only [Act.put, sA, sB, sC]
       refine wpAnyH_ready (rs := [18]) (by kernel_rfl) (by simp) ?_
       refine AllReadyH.cons (o := qWkD_18) rfl (fun K hK => ?_) AllReadyH.nil
       obtain ⟨d0, d1, d2, d3, d4, d5⟩ := HSD.out.cell
       have y2 := HSD.out.open_ 2
       go_simp
       go_wp2_with fail
       refine hK.out _ _ (by trivial) (fun hHeld => ?_)
       clear hK K
       try simp only [Act.put, sA, sB, sC]
       refine wpAnyH_done (by kernel_rfl) ?_ _
       go_wp2_with fail
       go_meet
       exact ⟨_, Lib.hid (HSD.out.set2 _), Lib.hid (HLT.out.by (grown_trans (grown_of_below (g := g) (Below.refl _ _).drew) grown_set)), Lib.hid (grown_trans (grown_of_below (g := g) (Below.refl _ _).drew) grown_set)⟩
      ·skip
       obtain ⟨d0, d1, d2, d3, d4, d5⟩ := HSD.out.cell
       go_simp
       clear d0 d1 d2 d3 d4 d5
       refine hK.out _ _ (by trivial) (fun hHeld => ?_)
       clear hK K
       try simp only [Act.put, sA, sB, sC]
       refine wpAnyH_ready (rs := [13]) (by kernel_rfl) (by simp) ?_
       refine AllReadyH.cons (o := qWkD_12) rfl (fun K hK => ?_) AllReadyH.nil
       obtain ⟨d0, d1, d2, d3, d4, d5⟩ := HSD.out.cell
       go_simp
       clear d0 d1 d2 d3 d4 d5
       refine hK.out _ _ (by trivial) (fun hHeld => ?_)
       clear hK K
       try simp only [Act.put, sA, sB, sC]
       refine tk 14 qWkD_13 ?_
       try simp only [Act.put, sA, sB, sC]
       refine tk 15 qWkD_15 ?_
       try simp only [Act.put, sA, sB, sC]
       refine tk 16 qWkD_16 ?_
       try simp only [Act.put, sA, sB, sC]
       refine tk 17 qWkD_17 ?_
       try simp only [Act.put, sA, sB, sC]
       refine wpAnyH_ready (rs := [18]) (by kernel_rfl) (by simp) ?_
       refine AllReadyH.cons (o := qWkD_18) rfl (fun K hK => ?_) AllReadyH.nil
       obtain ⟨d0, d1, d2, d3, d4, d5⟩ := HSD.out.cell
       have y2 := HSD.out.open_ 2
       go_simp
       go_wp2_with fail
       refine hK.out _ _ (by trivial) (fun hHeld => ?_)
       clear hK K
       try simp only [Act.put, sA, sB, sC]
       refine wpAnyH_done (by kernel_rfl) ?_ _
       go_wp2_with fail
       go_meet
       exact ⟨_, Lib.hid (HSD.out.set2 _), Lib.hid (HLT.out.by (grown_trans (grown_of_below (g := g) (Below.refl _ _).drew) grown_set)), Lib.hid (grown_trans (grown_of_below (g := g) (Below.refl _ _).drew) grown_set)⟩
   case rest =>
    obtain ⟨p', HS3, HL3, HG3⟩ := hcut
    have HA3 := Lib.hid (HA.out.by HG3.out)
    have HT3 := Lib.hid (HT.out.by HG3.out (Ne.symm hgb) (fun hh => hh.2 rfl))
    have HGW := Lib.hid (grown_trans HG.out HG3.out)
    clear HS HL HLT HT HG HA HG3 c0 c1 c2 c3 c4 c5 x2 f0 hlc hlm
    generalize wc = w3 at *
    by_cases hd : s = dots
    ·subst hd
     have HRU : Hid (∀ o, Run n stepsB dirB absB fo at_.dropLast r j a o → Run n stepsB dirB absB fo at0 left0 j0 a0 o) := Lib.hid fun o h => HR.out o (.up at_ r j a o h)
     unfold dots at *
     go_wp2_with fail
     refine (goUp_any HS3.out hac hcm (fun hne => hpa (fun e => hne (by rw [e]; rfl)))).mono ?_
     rintro e w5 ⟨rfl, hs, hg⟩
     have HS5 := Lib.hid hs
     have HA5 := Lib.hid ((plG_drop HA3.out).by hg)
     have HL5 := Lib.hid (HL3.out.by hg)
     have HT5 := Lib.hid (HT3.out.by hg (Ne.symm hgb) (fun hh => hh.2 rfl))
     have HG5 := Lib.hid (grown_trans HGW.out hg)
     clear hs hg HS3 HA3 HL3 HT3 HGW HR
     go_wp2_with fail
     go_roundw
     case rel => exact ⟨at_.dropLast, r, _, _, j, a, HS5, HA5, HL5, hj, by rw [List.length_dropLast]; omega, HT5, HG5, HRU⟩
     case measure => rw [leftM_of HS5.out]; omega
    ·have hd2 : (s.toList == [46, 46]) = false := not_dots hd
     have hnl : at_.length = at_.length := rfl
     clear hnl
     obtain ⟨c0, c1, c2, c3, c4, c5⟩ := HS3.out.cell
     have HRS : Hid (Reads w3 (.slice pa at_.length at_.length) at_.length 1 (at_.map Value.string)) := Lib.hid (by
      have h1 := reads_pl HA3.out.now
      obtain ⟨k1, k2, p, c, k3, k4, k5, k6⟩ := h1
      obtain ⟨rfl, _, _⟩ : pa = p ∧ at_.length = at_.length ∧ ca = c := by simpa using k3
      exact ⟨k1, k2, pa, at_.length, rfl, Nat.le_refl _, by omega, k6⟩)
     have HMI : Hid (∃ po, Mine w3 w3.heap.size po 9 1 (.slice pa at_.length at_.length) at_.length (at_.map Value.string)) := Lib.hid (mine_reads HRS.out)
     obtain ⟨po, hmi⟩ := HMI.out
     have HMN := Lib.hid hmi
     have hms : at_.length ≤ 60000 := by omega
     clear hmi HMI HRS c0 c2 c3 c4 c5
     go_upto_region 6 with fail
     refine wp_region_held_drew (S := (fun wx => wx.cell? ⟨g, 1, none⟩ = some (.slice pa at_.length ca))) (by kernel_rfl) c1 (fun hHeld => ?_)
     refine tk 0 { dst := some 43, op := Op.move (Operand.tmp 0), type := 144, pos := "walk.go:55", after := #[], guard := none } ?_
     try simp only [Act.put, sA, sB, sC]
     refine tk 1 { dst := some 44, op := Op.nilCheck (Operand.tmp 43), type := 0, pos := "walk.go:55", after := #[{ on := 0, ground := Ground.data }], guard := none } ?_
     try simp only [Act.put, sA, sB, sC]
     refine tk 2 { dst := some 45, op := Op.fieldAddr 109 (Operand.tmp 44) 1, type := 0, pos := "walk.go:55", after := #[{ on := 1, ground := Ground.data }], guard := none } ?_
     try simp only [Act.put, sA, sB, sC]
     refine tk 3 { dst := some 46, op := Op.load 22 (Operand.tmp 45), type := 22, pos := "walk.go:55", after := #[{ on := 2, ground := Ground.data }], guard := none } ?_
     try simp only [Act.put, sA, sB, sC]
     refine tk 4 { dst := some 47, op := Op.move (Operand.tmp 0), type := 144, pos := "walk.go:55", after := #[], guard := none } ?_
     try simp only [Act.put, sA, sB, sC]
     refine tk 5 { dst := some 48, op := Op.nilCheck (Operand.tmp 47), type := 0, pos := "walk.go:55", after := #[{ on := 4, ground := Ground.data }], guard := none } ?_
     try simp only [Act.put, sA, sB, sC]
     refine tk 6 { dst := some 49, op := Op.fieldAddr 109 (Operand.tmp 48) 1, type := 0, pos := "walk.go:55", after := #[{ on := 5, ground := Ground.data }], guard := none } ?_
     try simp only [Act.put, sA, sB, sC]
     refine tk 7 { dst := some 50, op := Op.load 22 (Operand.tmp 49), type := 22, pos := "walk.go:55", after := #[{ on := 6, ground := Ground.data }], guard := none } ?_
     try simp only [Act.put, sA, sB, sC]
     refine tk 8 { dst := some 51, op := Op.call { callee := Callee.builtin Builtin.len, args := #[Operand.tmp 50], argTypes := #[22] }, type := 3, pos := "walk.go:55", after := #[{ on := 7, ground := Ground.data }], guard := none } ?_
     try simp only [Act.put, sA, sB, sC]
     refine tk 9 { dst := some 52, op := Op.move (Operand.tmp 0), type := 144, pos := "walk.go:55", after := #[], guard := none } ?_
     try simp only [Act.put, sA, sB, sC]
     refine tk 10 { dst := some 53, op := Op.nilCheck (Operand.tmp 52), type := 0, pos := "walk.go:55", after := #[{ on := 9, ground := Ground.data }], guard := none } ?_
     try simp only [Act.put, sA, sB, sC]
     refine tk 11 { dst := some 54, op := Op.fieldAddr 109 (Operand.tmp 53) 1, type := 0, pos := "walk.go:55", after := #[{ on := 10, ground := Ground.data }], guard := none } ?_
     try simp only [Act.put, sA, sB, sC]
     refine tk 12 { dst := some 55, op := Op.load 22 (Operand.tmp 54), type := 22, pos := "walk.go:55", after := #[{ on := 11, ground := Ground.data }], guard := none } ?_
     try simp only [Act.put, sA, sB, sC]
     refine tk 13 { dst := some 56, op := Op.call { callee := Callee.builtin Builtin.len, args := #[Operand.tmp 55], argTypes := #[22] }, type := 3, pos := "walk.go:55", after := #[{ on := 12, ground := Ground.data }], guard := none } ?_
     try simp only [Act.put, sA, sB, sC]
     refine tk 14 { dst := some 57, op := Op.slice 22 (Operand.tmp 46) none (some (Operand.tmp 51)) (some (Operand.tmp 56)), type := 22, pos := "walk.go:55", after := #[{ on := 3, ground := Ground.data }, { on := 8, ground := Ground.data }, { on := 13, ground := Ground.data }], guard := none } ?_
     try simp only [Act.put, sA, sB, sC]
     refine tk 15 { dst := some 58, op := Op.move (Operand.tmp 5), type := 9, pos := "walk.go:55", after := #[], guard := none } ?_
     try simp only [Act.put, sA, sB, sC]
     refine wpAnyH_ready (rs := [16]) (by kernel_rfl) (by simp) ?_
     refine AllReadyH.cons (o := { dst := some 59, op := Op.buildSlice 22 1 #[(0, Operand.tmp 58)], type := 22, pos := "walk.go:55", after := #[{ on := 15, ground := Ground.data }], guard := none }) rfl (fun K hK => ?_) AllReadyH.nil
     go_simp
     skip
     refine hK.out _ _ (by first | assumption | exact wcell_alloc hHeld | exact wcell_alloc (by assumption)) (fun hHeld => ?_)
     clear hK K
     try simp only [Act.put, sA, sB, sC]
     refine wpAnyH_ready (rs := [17]) (by kernel_rfl) (by simp) ?_
     refine AllReadyH.cons (o := { dst := some 60, op := Op.call { callee := Callee.builtin Builtin.append, args := #[Operand.tmp 57, Operand.tmp 59], argTypes := #[22, 22] }, type := 22, pos := "walk.go:55", after := #[{ on := 14, ground := Ground.data }, { on := 16, ground := Ground.data }], guard := none }) rfl (fun K hK => ?_) AllReadyH.nil
     have HBA : Hid (Below w3.heap.size w3 (w3.alloc (.cells #[.string s] 9)).drew) := Lib.hid (wbelow_alloc (Below.refl _ _)).drew
     have HRE : Hid (Reads (w3.alloc (.cells #[.string s] 9)).drew (.slice (some ⟨w3.heap.size, 0, none⟩) 1 1) 1 1 [.string s]) := Lib.hid (one_reads w3 s)
     rw [if_pos (by rfl)]
     refine wp_append_mine (po := po) _ (.tmp 57) (.tmp 59) 22 rfl w3.heap.size 9 i0 (.string ⟨#[]⟩) 1 16 Tryz.underlying22 hi hz0 hz1 hz2 rfl (by decide) _ at_.length (at_.map Value.string) rfl (HMN.out.kept HBA.out) _ 1 [.string s] rfl HRE.out (by unfold maxLen; omega) (by omega) (by have := HBA.out.size; omega) ?_
     intro v7 w7 hm7 hb7
     obtain ⟨_, p7, c7, rfl, _, _, _, _⟩ := Mine.out hm7 (by unfold maxLen; omega)
     have HB7 : Hid (Below w3.heap.size w3 w7) := Lib.hid (HBA.out.trans hb7)
     have HP7 : Hid (PlG w7 g (.slice p7 (at_.length + 1) c7) (at_ ++ [s])) := Lib.hid (mine_plG (m := 1) (n := at_.length + 1) (by decide) (by simp) (by simpa using hm7) HS3.out.lt)
     clear hm7 hb7
     refine hK.out _ _ (by exact cell_kept HB7.out c1) (fun hHeld => ?_)
     clear hK K
     try simp only [Act.put, sA, sB, sC]
     refine tk 18 { dst := some 6, op := Op.assign (Operand.tmp 60), type := 22, pos := "walk.go:55", after := #[{ on := 17, ground := Ground.data }, { on := 17, ground := Ground.chain }, { on := 0, ground := Ground.phase }, { on := 1, ground := Ground.phase }, { on := 2, ground := Ground.phase }, { on := 3, ground := Ground.phase }, { on := 4, ground := Ground.phase }, { on := 5, ground := Ground.phase }, { on := 6, ground := Ground.phase }, { on := 7, ground := Ground.phase }, { on := 8, ground := Ground.phase }, { on := 9, ground := Ground.phase }, { on := 10, ground := Ground.phase }, { on := 11, ground := Ground.phase }, { on := 12, ground := Ground.phase }, { on := 13, ground := Ground.phase }, { on := 14, ground := Ground.phase }, { on := 15, ground := Ground.phase }, { on := 16, ground := Ground.phase }, { on := 17, ground := Ground.phase }], guard := none } ?_
     try simp only [Act.put, sA, sB, sC]
     refine wpAnyH_done (by kernel_rfl) ?_ _
     clear hHeld
     have HS7 := Lib.hid (HS3.out.kept HB7.out)
     have HG7' : Hid (w3.grownBy w7 (some g)) := Lib.hid (grown_of_below HB7.out)
     have HL7 := Lib.hid (HL3.out.by HG7'.out)
     have HA7 := Lib.hid (HA3.out.by HG7'.out)
     have HT7 := Lib.hid (HT3.out.kept HB7.out)
     have HG7 := Lib.hid (grown_trans HGW.out HG7'.out)
     clear HS3 HL3 HA3 HT3 HGW HG7' HB7 HMN c1
     have hl7 : (at_ ++ [s]).length = at_.length + 1 := by simp
     obtain ⟨c0, c1, c2, c3, c4, c5⟩ := HS7.out.cell
     have HKI := Lib.hid (fkind_any HT7.out.x hw hB HP7.out.now)
     have HKD : Hid (kindAt n (at_ ++ [s]) = ((n.at_ (at_ ++ [s])).getD absent).kind) := Lib.hid rfl
     generalize ((n.at_ (at_ ++ [s])).getD absent).kind = K at *
     go_wp2_with fail
     refine HKI.out.mono ?_
     rintro e w8 ⟨rfl, hb8⟩
     have HS8 := Lib.hid (HS7.out.kept hb8)
     have HG8' : Hid (w7.grownBy w8 (some g)) := Lib.hid (grown_of_below hb8)
     have HL8 := Lib.hid (HL7.out.by HG8'.out)
     have HA8 := Lib.hid (HA7.out.by HG8'.out)
     have HP8 := Lib.hid (HP7.out.by HG8'.out)
     have HT8 := Lib.hid (HT7.out.kept hb8)
     have HG8 := Lib.hid (grown_trans HG7.out HG8'.out)
     clear HS7 HL7 HA7 HP7 HT7 HG7 HG8' hb8 HKI c0 c1 c2 c3 c4 c5
     go_wp2_with fail
     refine (endsAt_any HS8.out K).mono ?_
     rintro e w9 ⟨rfl, rfl⟩
     obtain ⟨en, hen⟩ : ∃ en, (decide (r.length = 0) && endsD fo a K) = en := ⟨_, rfl⟩
     rw [hen]
     cases en with
     | true =>
      obtain ⟨he1, he2⟩ := (Bool.and_eq_true _ _).mp hen
      obtain rfl : r = [] := List.length_eq_zero_iff.1 (of_decide_eq_true he1)
      have HRE := Lib.hid (HR.out _ (.ends at_ s j a hd (by rw [HKD.out]; exact he2)))
      rw [HKD.out] at HRE
      clear hen he1 he2
      go_wp2_with fail
      go_ret3
      exact ⟨⟨_, HRE.out, _, rfl, HP8.out⟩, HG8.out⟩
     | false =>
      have HGO : Hid (GoesOn fo a (kindAt n (at_ ++ [s])) r) := Lib.hid (by
       rw [HKD.out]
       rcases r with _ | ⟨x, r⟩
       ·right; simpa using hen
       ·left; simp)
      clear hen
      by_cases h0 : K = 0
      ·subst h0
       have HRE := Lib.hid (HR.out _ (.none at_ s r j a hd HGO.out HKD.out))
       go_wp2_with fail
       refine (goInto_none (w := w8) (g := g)).mono ?_
       rintro e w10 ⟨rfl, rfl⟩
       go_wp2_with fail
       go_ret3
       exact ⟨⟨_, HRE.out, rfl⟩, HG8.out⟩
      ·by_cases h2 : K = 2
       ·subst h2
        have HRE : Hid (∀ o, Run n stepsB dirB absB fo (at_ ++ [s]) r j a o → Run n stepsB dirB absB fo at0 left0 j0 a0 o) := Lib.hid fun o h => HR.out o (.dir at_ s r j a o hd HGO.out HKD.out h)
        go_wp2_with fail
        refine (goInto_dir HS8.out p7 (at_.length + 1) c7).mono ?_
        rintro e w10 ⟨rfl, hw10⟩
        have hg : w8.grownBy w10 (some g) := by rw [hw10]; exact grown_set
        have HS10 : Hid (Six w10 g (.iface 28 (.pointer (some ⟨b, 0, none⟩))) (.slice p7 (at_.length + 1) c7) (.slice p' r.length r.length) (.int .i64 j) (.bool fo) (.bool a)) := Lib.hid (by rw [hw10]; exact HS8.out.set1 _)
        have HL10 := Lib.hid (HL8.out.by hg)
        have HP10 := Lib.hid (HP8.out.by hg)
        have HT10 := Lib.hid (HT8.out.by hg (Ne.symm hgb) (fun hh => hh.2 rfl))
        have HG10 := Lib.hid (grown_trans HG8.out hg)
        clear hw10 hg HS8 HL8 HP8 HT8 HG8 HA8 HR HGO HKD
        go_wp2_with fail
        go_roundw
        case rel => exact ⟨at_ ++ [s], r, _, _, j, a, HS10, HP10, HL10, hj, by rw [hl7]; omega, HT10, HG10, HRE⟩
        case measure => rw [leftM_of HS10.out]; omega
       ·by_cases h3 : K = 3
        ·subst h3
         by_cases hj8 : j = 8
         ·have HRE := Lib.hid (HR.out _ (.loop at_ s r j a hd HGO.out HKD.out hj8))
          have HS9 : Hid (Six w8 g (.iface 28 (.pointer (some ⟨b, 0, none⟩))) (.slice pa at_.length ca) (.slice p' r.length r.length) (.int .i64 8) (.bool fo) (.bool a)) := Lib.hid (by rw [← show ((8 : Nat) : Int) = 8 from rfl, ← hj8]; exact HS8.out)
          go_wp2_with fail
          refine (goInto_link (Q := fun e w' => e = .returned (.int .i64 61) ∧ w8 = w') ((follow_loop HS9.out).mono fun e w' ⟨h1, h2⟩ => ⟨61, h1, h1, h2.symm⟩)).mono ?_
          rintro e w10 ⟨rfl, rfl⟩
          go_wp2_with fail
          go_ret3
          exact ⟨⟨_, HRE.out, rfl⟩, HG8.out⟩
         ·have hjl : j < 8 := by omega
          have htx : ((n.at_ (at_ ++ [s])).getD absent).text.size ≤ 256 := by
           cases hat : n.at_ (at_ ++ [s]) with
           | none => decide
           | some y => exact text_small (well_at hw hat)
          have hsl := stepsB_len ((n.at_ (at_ ++ [s])).getD absent).text
          have HRE : Hid (∀ o, Run n stepsB dirB absB fo (if absB ((n.at_ (at_ ++ [s])).getD absent).text then [] else at_) (stepsB ((n.at_ (at_ ++ [s])).getD absent).text ++ r) (j + 1) (a || (r.isEmpty && dirB ((n.at_ (at_ ++ [s])).getD absent).text)) o → Run n stepsB dirB absB fo at0 left0 j0 a0 o) := Lib.hid fun o h => HR.out o (.link at_ s r j a o hd HGO.out HKD.out hj8 h)
          have hfo := follow_any HT8.out hgb hw hB HS8.out HA8.out HL8.out hjl (by omega) (HP8.out _ grown_set)
          have hat : (if absB ((n.at_ (at_ ++ [s])).getD absent).text then [] else at_).length ≤ at_.length := by split <;> simp
          have HAT : Hid ((bif Lib.hasPrefix ((n.at_ (at_ ++ [s])).getD absent).text.data.toList [47] then [] else at_) = if absB ((n.at_ (at_ ++ [s])).getD absent).text then [] else at_) := Lib.hid (by unfold absB; cases Lib.hasPrefix ((n.at_ (at_ ++ [s])).getD absent).text.data.toList [47] <;> rfl)
          have HFO := Lib.hid hfo
          clear hfo
          unfold dirB at HRE
          generalize ((n.at_ (at_ ++ [s])).getD absent).text = tx at *
          generalize (if absB tx then [] else at_) = at9 at *
          go_wp2_with fail
          refine (goInto_link (Q := fun e w' => e = .returned (.int .i64 0) ∧ ∃ av' lv', Six w' g (.iface 28 (.pointer (some ⟨b, 0, none⟩))) av' lv' (.int .i64 (j + 1 : Nat)) (.bool fo) (.bool (a || (r.isEmpty && dirL tx.data.toList))) ∧ PlG w' g av' at9 ∧ PlG w' g lv' (stepsB tx ++ r) ∧ w8.grownBy w' (some g)) (HFO.out.mono fun e w' ⟨h1, av', lv', h2, h3, h4, h5⟩ => ⟨0, h1, h1, av', lv', h2, by rw [← HAT.out]; exact h3, h4, h5⟩)).mono ?_
          rintro e w10 ⟨rfl, av', lv', hs, ha, hl, hg⟩
          obtain ⟨p9, c9, rfl, _, _, _⟩ := hl.parts
          have HS10 := Lib.hid hs
          have HA10 := Lib.hid ha
          have HL10 := Lib.hid hl
          have HT10 := Lib.hid (HT8.out.by hg (Ne.symm hgb) (fun hh => hh.2 rfl))
          have HG10 := Lib.hid (grown_trans HG8.out hg)
          have hll9 : (stepsB tx ++ r).length = (stepsB tx).length + r.length := List.length_append
          clear hs ha hl hg HS8 HL8 HP8 HT8 HG8 HA8 HR HGO HKD HFO HAT
          go_wp2_with fail
          go_roundw
          case rel => exact ⟨at9, stepsB tx ++ r, _, _, j + 1, _, HS10, HA10, HL10, by omega, by rw [hll9]; omega, HT10, HG10, HRE⟩
          case measure => rw [leftM_of HS10.out, hll9]; omega
        ·have HRE := Lib.hid (HR.out _ (.file at_ s r j a hd HGO.out (by rw [HKD.out]; exact h0) (by rw [HKD.out]; exact h2) (by rw [HKD.out]; exact h3)))
         go_wp2_with fail
         refine (goInto_file (w := w8) (g := g) h0 h2 h3).mono ?_
         rintro e w10 ⟨rfl, rfl⟩
         go_wp2_with fail
         go_ret3
         exact ⟨⟨_, HRE.out, rfl⟩, HG8.out⟩
end Go.Proofs.YtfilbknnpjbmcaaGreatDoor
