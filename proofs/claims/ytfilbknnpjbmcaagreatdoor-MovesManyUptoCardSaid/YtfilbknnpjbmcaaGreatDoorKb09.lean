/- Walks of package opts: Parse, Has. -/
import Derived.Test.YtfilbknnpjbmcaaGreatDoorKb08
import Derived.Laws.Cover1
import Derived.Laws.AppendOwnNone
import Derived.Handy
import Derived.Deep.DeepCutAuto
import Derived.Deep.CutBlock
namespace Go.Proofs.YtfilbknnpjbmcaaGreatDoor
open Go.RowKit Ox Px

def restD (least most : Int) (r : Option (List UInt8 × List ByteArray)) : ByteArray × List ByteArray × Int :=
 match r with
 | none => (ByteArray.empty, [], 62)
 | some (t, ops) => if (ops.length : Int) < least ∨ most < (ops.length : Int) then (ByteArray.empty, [], 62) else (setD t, ops, 0)
def ParseQ (B : Nat) (w' : World) (e : Ending) (r : ByteArray × List ByteArray × Int) : Prop :=
 ∃ u, e = .returned (.tuple #[.agg #[.string r.1, u], .int .i64 r.2.2]) ∧ PlR w' u r.2.1 ∧ ∀ p n c, u = .slice p n c → ∀ a, p = some a → B ≤ a.block
def Two (w : World) (b : Nat) (u v : Value) : Prop := w.heap[b]? = some (.cells #[u, v] 92 (0, 0))
theorem Two.new (w : World) (u v : Value) : Two (w.alloc (.cells #[u, v] 92)) w.heap.size u v := heap_alloc_last w _
theorem Two.lt {w : World} {b : Nat} {u v : Value} (h : Two w b u v) : b < w.heap.size := (Array.getElem?_eq_some_iff.1 h).1
theorem Two.grown {w w' : World} {b : Nat} {u v : Value} (h : Two w b u v) (hb : Below w.heap.size w w') : Two w' b u v := (hb.block b h.lt).trans h
theorem Two.cell {w : World} {b : Nat} {u v : Value} (h : Two w b u v) : w.cell? ⟨b, 0, none⟩ = some u ∧ w.cell? ⟨b, 1, none⟩ = some v := ⟨by rw [cell_of_row _ _ _ _ _ _ h]; rfl, by rw [cell_of_row _ _ _ _ _ _ h]; rfl⟩
theorem Two.thaw {w : World} {b : Nat} {u v : Value} (h : Two w b u v) (j : Nat) : w.frozen? ⟨b, j, none⟩ = false := frozen_of_row w b j _ _ h
theorem Two.row {w : World} {b g : Nat} {u v : Value} (h : Two w b u v) (hne : b ≠ g) (c : Array Value) : Two (w.setRow g c) b u v := by
 unfold Two World.setRow
 rw [Array.getElem?_modify, if_neg (fun e => hne e.symm)]
 exact h
theorem Two.set {w : World} {b : Nat} {u v : Value} (h : Two w b u v) (u' v' : Value) : Two ((w.setCell ⟨b, 0, none⟩ u').setCell ⟨b, 1, none⟩ v') b u' v' := by
 have h1 := heap_setCell_same w b 0 _ _ u' h
 exact heap_setCell_same _ b 1 _ _ v' h1

theorem plr_set2 {w : World} {b : Nat} {u0 v0 v : Value} {xs : List ByteArray} (h : PlR w v xs) (ht : Two w b u0 v0) (u' v' : Value) (hne : ∀ p n c, v = .slice p n c → ∀ a, p = some a → a.block ≠ b) : PlR ((w.setCell ⟨b, 0, none⟩ u').setCell ⟨b, 1, none⟩ v') v xs := by
 obtain ⟨p, c, rfl, h1, h2, h3⟩ := h
 refine ⟨p, c, rfl, fun i hi => ?_, h2, h3⟩
 obtain ⟨g, o, rfl, hc⟩ := h1 i hi
 refine ⟨g, o, rfl, ?_⟩
 have hg := hne _ _ _ rfl _ rfl
 have e1 : ∀ (w : World) (a : Addr) (v : Value) (j : Nat), g ≠ a.block → (w.setCell a v).cell? ⟨g, j, none⟩ = w.cell? ⟨g, j, none⟩ := fun w a v j hn => by
  have := heap_setCell_other w a g v hn
  unfold World.cell?
  simp only [this]
 rw [e1 _ _ _ _ hg, e1 _ _ _ _ hg]
 exact hc
theorem cutD_sub {kn : List UInt8} : ∀ {l : List ByteArray} {t : List UInt8} {ops : List ByteArray}, cutD kn l = some (t, ops) → ∀ {x}, x ∈ ops → x ∈ l
 | [], t, ops, h, x, hx => by
  simp only [cutD, Option.some.injEq, Prod.mk.injEq] at h
  rw [← h.2] at hx
  exact hx
 | w :: r, t, ops, h, x, hx => by
  unfold cutD at h
  split at h
  ·simp only [Option.some.injEq, Prod.mk.injEq] at h
   rw [← h.2] at hx
   exact List.mem_cons_of_mem _ hx
  ·split at h
   ·simp only [Option.some.injEq, Prod.mk.injEq] at h
    rw [← h.2] at hx
    exact hx
   ·split at h
    ·cases hr : cutD kn r with
     | none => rw [hr] at h; cases h
     | some p =>
      rw [hr] at h
      simp only [Option.map_some, Option.some.injEq, Prod.mk.injEq] at h
      rw [← h.2] at hx
      exact List.mem_cons_of_mem _ (cutD_sub (t := p.1) (ops := p.2) hr hx)
    ·cases h

set_option maxRecDepth 100000 in
set_option maxHeartbeats 4000000 in
theorem parse_any (w : World) (v : Value) (xs : List ByteArray) (known : ByteArray) (least most : Int) (hx : PlR w v xs) (hl : xs.length ≤ 100000) (hs : ∀ x ∈ xs, x.size ≤ 1000000) (hk : known.size ≤ 1000000) :
  Calls Tryz.prog 53 #[.string known, v, .int .i64 least, .int .i64 most] w fun e w' => ParseQ w.heap.size w' e (parseD known.data.toList xs least most) ∧ Below w.heap.size w w' := by
 have HP : Hid (PlR w v xs) := Lib.hid hx
 clear hx
 have hz := ox_zero
 go_enter Tryz.func53, Tryz.ntmps53
 go_upto_region 1 with fail
 have T0 := Lib.hid (Two.new w (.string ⟨#[]⟩) (.slice none 0 0))
 have B0 : Hid (Below w.heap.size w (w.alloc (.cells #[.string ⟨#[]⟩, .slice none 0 0] 92))) := Lib.hid ((Below.refl _ _).alloc (Nat.le_refl _) _)
 generalize w.alloc (.cells #[.string ⟨#[]⟩, .slice none 0 0] 92) = w1 at *
 apply wp_region_lit
 refine wpList_plain rfl fun _ hK => ?_
 go_simp
 refine hK _ _ ?_
 clear hK
 refine wpList_plain rfl fun _ hK => ?_
 go_simp
 refine (letters_any _).mono ?_
 rintro e w2 ⟨rfl, hb⟩
 have T1 := Lib.hid (T0.out.grown hb)
 have B1 := Lib.hid (B0.out.trans (hb.mono B0.out.size))
 clear hb T0 B0
 (try dsimp only)
 refine hK _ _ ?_
 clear hK
 obtain ⟨q, hq⟩ : ∃ q, known.data.toList.all isLetter = q := ⟨_, rfl⟩
 have HQ := Lib.hid hq
 have hql : known.data.toList.all (lets 26).contains = q := by rw [← hq]; congr 1; funext c; exact lets_is c
 have HQL := Lib.hid hql
 clear hq hql
 refine wpList_plain rfl fun _ hK => ?_
 go_simp
 refine (marksOf_any _ (lets 26) known hk).mono ?_
 rintro e w3 ⟨⟨r, he, hr⟩, hb⟩
 rw [HQL.out] at he hr
 subst he
 have HR := Lib.hid hr
 have T2 := Lib.hid (T1.out.grown hb)
 have B2 := Lib.hid (B1.out.trans (hb.mono B1.out.size))
 clear hb hr T1 B1
 (try dsimp only)
 refine hK _ _ ?_
 clear hK
 refine wpList_plain rfl fun _ hK => ?_
 go_simp
 refine hK _ _ ?_
 clear hK
 refine wpList_plain rfl fun _ hK => ?_
 go_simp
 refine hK _ _ ?_
 clear hK
 refine wpList_plain rfl fun _ hK => ?_
 go_simp
 refine hK _ _ ?_
 clear hK
 refine wpList_plain rfl fun _ hK => ?_
 go_simp
 refine hK _ _ ?_
 clear hK
 have z1 := ox_sizeC r
 have A3 := Lib.hid (Arr.new w3 [])
 have T3 : Hid (Two (w3.alloc (.cells (Lib.setCells []) MK)) w.heap.size (.string ⟨#[]⟩) (.slice none 0 0)) := Lib.hid (T2.out.grown ((Below.refl _ _).alloc (Nat.le_refl _) _))
 have B3 : Hid (Below w.heap.size w (w3.alloc (.cells (Lib.setCells []) MK))) := Lib.hid (B2.out.alloc B2.out.size _)
 have hn3 : w.heap.size < w3.heap.size := T2.out.lt
 generalize w3.alloc (.cells (Lib.setCells []) MK) = w4 at *
 clear T2 B2
 refine wpList_plain rfl fun _ hK => wp_store_arr rfl rfl rfl A3.out z1 (by rw [Lib.setCells_size, Lib.setCells_size]) (Lib.setCells_one _) (hK _ _ ?_)
 clear hK
 have A4 := Lib.hid (A3.out.set r)
 have T4 := Lib.hid (T3.out.row (by omega) (g := w3.heap.size) (Lib.setCells r))
 have B4 := Lib.hid (below_setRow B3.out (g := w3.heap.size) (by omega) (Lib.setCells r))
 generalize w4.setRow w3.heap.size (Lib.setCells r) = w5 at *
 clear A3 T3 B3
 go_upto_region 2 with fail
 by_cases hbad : least < 0 ∨ most < least ∨ q = false
 ·have HBAD := Lib.hid hbad
  have hv0 : parseD known.data.toList xs least most = (ByteArray.empty, [], 1) := by
   unfold parseD
   rw [if_pos (by rw [HQ.out]; exact hbad)]
  have HV0 := Lib.hid hv0
  clear hv0 hbad
  cases q with
  | false =>
   have HV : Hid (parseD known.data.toList xs least most = (ByteArray.empty, [], 1)) := Lib.hid (HV0.out)
   have f0 := T4.out.thaw 0
   have f1 := T4.out.thaw 1
   obtain ⟨c0, c1⟩ := T4.out.cell
   obtain ⟨z0, z1⟩ := (T4.out.set (.string ⟨#[]⟩) (.slice none 0 0)).cell
   have HBF := Lib.hid ((B4.out.setCell (Nat.le_refl _) (.string ⟨#[]⟩) (p := ⟨w.heap.size, 0, none⟩)).setCell (Nat.le_refl _) (.slice none 0 0) (p := ⟨w.heap.size, 1, none⟩))
   go_wp2_with fail
   (try simp only [Exit.inBlock, Exit.then])
   refine bodyPost_ret (v := .tuple #[.agg #[.string ⟨#[]⟩, .slice none 0 0], .int .i64 1]) (by simp [results, Tryz.results53, go_sem, z0, z1]) rfl ⟨by rw [HV.out]; exact ⟨_, rfl, nil_plr _, fun p n c h a ha => by cases h; cases ha⟩, HBF.out⟩
  | true =>
   by_cases h1 : least < 0
   ·skip
    have HV : Hid (parseD known.data.toList xs least most = (ByteArray.empty, [], 1)) := Lib.hid (HV0.out)
    have f0 := T4.out.thaw 0
    have f1 := T4.out.thaw 1
    obtain ⟨c0, c1⟩ := T4.out.cell
    obtain ⟨z0, z1⟩ := (T4.out.set (.string ⟨#[]⟩) (.slice none 0 0)).cell
    have HBF := Lib.hid ((B4.out.setCell (Nat.le_refl _) (.string ⟨#[]⟩) (p := ⟨w.heap.size, 0, none⟩)).setCell (Nat.le_refl _) (.slice none 0 0) (p := ⟨w.heap.size, 1, none⟩))
    go_wp2_with fail
    (try simp only [Exit.inBlock, Exit.then])
    refine bodyPost_ret (v := .tuple #[.agg #[.string ⟨#[]⟩, .slice none 0 0], .int .i64 1]) (by simp [results, Tryz.results53, go_sem, z0, z1]) rfl ⟨by rw [HV.out]; exact ⟨_, rfl, nil_plr _, fun p n c h a ha => by cases h; cases ha⟩, HBF.out⟩
   ·have h2 : most < least := by
     rcases HBAD.out with h | h | h
     ·exact absurd h h1
     ·exact h
     ·cases h
    have HV : Hid (parseD known.data.toList xs least most = (ByteArray.empty, [], 1)) := Lib.hid (HV0.out)
    have f0 := T4.out.thaw 0
    have f1 := T4.out.thaw 1
    obtain ⟨c0, c1⟩ := T4.out.cell
    obtain ⟨z0, z1⟩ := (T4.out.set (.string ⟨#[]⟩) (.slice none 0 0)).cell
    have HBF := Lib.hid ((B4.out.setCell (Nat.le_refl _) (.string ⟨#[]⟩) (p := ⟨w.heap.size, 0, none⟩)).setCell (Nat.le_refl _) (.slice none 0 0) (p := ⟨w.heap.size, 1, none⟩))
    go_wp2_with fail
    (try simp only [Exit.inBlock, Exit.then])
    refine bodyPost_ret (v := .tuple #[.agg #[.string ⟨#[]⟩, .slice none 0 0], .int .i64 1]) (by simp [results, Tryz.results53, go_sem, z0, z1]) rfl ⟨by rw [HV.out]; exact ⟨_, rfl, nil_plr _, fun p n c h a ha => by cases h; cases ha⟩, HBF.out⟩
 ·have h1 : ¬ least < 0 := fun h => hbad (.inl h)
  have h2 : ¬ most < least := fun h => hbad (.inr (.inl h))
  obtain rfl : q = true := by cases q; exact absurd (.inr (.inr rfl)) hbad; rfl
  obtain rfl := HR.out rfl
  have HPD : Hid (parseD known.data.toList xs least most = restD least most (cutD known.data.toList xs)) := Lib.hid (by
   unfold parseD restD
   rw [if_neg (by rw [HQ.out]; exact hbad)]
   rfl)
  clear hbad HR HQL
  go_upto_region 4 with fail
  apply wp_region_lit
  refine wpList_plain rfl fun _ hK => ?_
  go_simp
  refine hK _ _ ?_
  clear hK
  refine wpList_plain rfl fun _ hK => wp_load_arr rfl rfl A4.out Tryz.underlying135 z1 (hK _ _ ?_)
  clear hK
  refine wpList_plain rfl fun _ hK => ?_
  go_simp
  refine (ocut_any _ v xs known.data.toList (HP.out.grown B4.out) (by omega) hs).mono ?_
  rintro e w6 ⟨hc, hb⟩
  have T5 := Lib.hid (T4.out.grown hb)
  have B5 := Lib.hid (B4.out.trans (hb.mono B4.out.size))
  have hp6 := hb.size
  have hlen : ∀ t ops, cutD known.data.toList xs = some (t, ops) → ops.length ≤ 100000 ∧ ∀ x ∈ ops, x.size ≤ 1000000 := fun t ops h => ⟨Nat.le_trans (cutD_len h) hl, fun x hx => hs x (cutD_sub h hx)⟩
  have HLEN := Lib.hid hlen
  clear hb T4 B4 A4 hlen
  generalize cutD known.data.toList xs = cd at *
  have zz := ox_zero
  cases cd with
  | none =>
   obtain ⟨r2, u, rfl⟩ := hc
   dsimp only
   refine hK _ _ ?_
   clear hK
   refine wpList_plain rfl fun _ hK => ?_
   go_simp
   refine hK _ _ ?_
   clear hK
   refine wpList_plain rfl fun _ hK => ?_
   go_simp
   refine hK _ _ ?_
   clear hK
   refine wpList_plain rfl fun _ hK => ?_
   go_simp
   refine hK _ _ ?_
   clear hK
   refine wpList_plain rfl fun _ hK => ?_
   go_simp
   refine hK _ _ ?_
   clear hK
   refine wpList_plain rfl fun _ hK => ?_
   go_simp
   refine hK _ _ ?_
   clear hK
   have z2 := ox_sizeC r2
   have A6 := Lib.hid (Arr.new w6 [])
   have T6 : Hid (Two (w6.alloc (.cells (Lib.setCells []) MK)) w.heap.size (.string ⟨#[]⟩) (.slice none 0 0)) := Lib.hid (T5.out.grown ((Below.refl _ _).alloc (Nat.le_refl _) _))
   have B6 : Hid (Below w.heap.size w (w6.alloc (.cells (Lib.setCells []) MK))) := Lib.hid (B5.out.alloc B5.out.size _)
   have hn6 : w.heap.size < w6.heap.size := T5.out.lt
   have BG : Hid (Below w6.heap.size w6 (w6.alloc (.cells (Lib.setCells []) MK))) := Lib.hid ((Below.refl _ _).alloc (Nat.le_refl _) _)
   generalize w6.alloc (.cells (Lib.setCells []) MK) = w7 at *
   clear T5 B5
   refine wpList_plain rfl fun _ hK => wp_store_arr rfl rfl rfl A6.out z2 (by rw [Lib.setCells_size, Lib.setCells_size]) (Lib.setCells_one _) (hK _ _ ?_)
   clear hK
   have A7 := Lib.hid (A6.out.set r2)
   have T7 := Lib.hid (T6.out.row (by omega) (g := w6.heap.size) (Lib.setCells r2))
   have B7 := Lib.hid (below_setRow B6.out (g := w6.heap.size) (by omega) (Lib.setCells r2))
   have BG7 := Lib.hid (below_setRow BG.out (g := w6.heap.size) (Nat.le_refl _) (Lib.setCells r2))
   generalize w7.setRow w6.heap.size (Lib.setCells r2) = w8 at *
   clear A6 T6 B6 BG zz
   have HV : Hid (parseD known.data.toList xs least most = (ByteArray.empty, [], 62)) := Lib.hid (by rw [HPD.out]; rfl)
   have f0 := T7.out.thaw 0
   have f1 := T7.out.thaw 1
   obtain ⟨c0, c1⟩ := T7.out.cell
   obtain ⟨z0, z1⟩ := (T7.out.set (.string ⟨#[]⟩) (.slice none 0 0)).cell
   have HBF := Lib.hid ((B7.out.setCell (Nat.le_refl _) (.string ⟨#[]⟩) (p := ⟨w.heap.size, 0, none⟩)).setCell (Nat.le_refl _) (.slice none 0 0) (p := ⟨w.heap.size, 1, none⟩))
   go_wp2_with fail
   (try simp only [Exit.inBlock, Exit.then])
   refine bodyPost_ret (v := .tuple #[.agg #[.string ⟨#[]⟩, .slice none 0 0], .int .i64 62]) (by simp [results, Tryz.results53, go_sem, z0, z1]) rfl ⟨by rw [HV.out]; exact ⟨_, rfl, nil_plr _, fun p n c h a ha => by cases h; cases ha⟩, HBF.out⟩
  | some p =>
   obtain ⟨t, ops⟩ := p
   obtain ⟨u, rfl, hu⟩ := hc
   have HU := Lib.hid hu
   clear hu
   obtain ⟨hol, hos⟩ := HLEN.out t ops rfl
   have HOS := Lib.hid hos
   clear hos
   obtain ⟨pu, cu, rfl, _, _, _⟩ := id HU.out
   dsimp only
   refine hK _ _ ?_
   clear hK
   refine wpList_plain rfl fun _ hK => ?_
   go_simp
   refine hK _ _ ?_
   clear hK
   refine wpList_plain rfl fun _ hK => ?_
   go_simp
   refine hK _ _ ?_
   clear hK
   refine wpList_plain rfl fun _ hK => ?_
   go_simp
   refine hK _ _ ?_
   clear hK
   refine wpList_plain rfl fun _ hK => ?_
   go_simp
   refine hK _ _ ?_
   clear hK
   refine wpList_plain rfl fun _ hK => ?_
   go_simp
   refine hK _ _ ?_
   clear hK
   have z2 := ox_sizeC t
   have A6 := Lib.hid (Arr.new w6 [])
   have T6 : Hid (Two (w6.alloc (.cells (Lib.setCells []) MK)) w.heap.size (.string ⟨#[]⟩) (.slice none 0 0)) := Lib.hid (T5.out.grown ((Below.refl _ _).alloc (Nat.le_refl _) _))
   have B6 : Hid (Below w.heap.size w (w6.alloc (.cells (Lib.setCells []) MK))) := Lib.hid (B5.out.alloc B5.out.size _)
   have hn6 : w.heap.size < w6.heap.size := T5.out.lt
   have BG : Hid (Below w6.heap.size w6 (w6.alloc (.cells (Lib.setCells []) MK))) := Lib.hid ((Below.refl _ _).alloc (Nat.le_refl _) _)
   generalize w6.alloc (.cells (Lib.setCells []) MK) = w7 at *
   clear T5 B5
   refine wpList_plain rfl fun _ hK => wp_store_arr rfl rfl rfl A6.out z2 (by rw [Lib.setCells_size, Lib.setCells_size]) (Lib.setCells_one _) (hK _ _ ?_)
   clear hK
   have A7 := Lib.hid (A6.out.set t)
   have T7 := Lib.hid (T6.out.row (by omega) (g := w6.heap.size) (Lib.setCells t))
   have B7 := Lib.hid (below_setRow B6.out (g := w6.heap.size) (by omega) (Lib.setCells t))
   have BG7 := Lib.hid (below_setRow BG.out (g := w6.heap.size) (Nat.le_refl _) (Lib.setCells t))
   generalize w7.setRow w6.heap.size (Lib.setCells t) = w8 at *
   clear A6 T6 B6 BG zz
   have HU7 := Lib.hid (HU.out.grown BG7.out)
   have HR7 : Hid (restD least most (some (t, ops)) = if (ops.length : Int) < least ∨ most < (ops.length : Int) then (ByteArray.empty, [], 62) else (setD t, ops, 0)) := Lib.hid rfl
   by_cases g1 : (ops.length : Int) < least
   ·skip
    have HV : Hid (parseD known.data.toList xs least most = (ByteArray.empty, [], 62)) := Lib.hid (by rw [HPD.out, HR7.out, if_pos (.inl g1)])
    have f0 := T7.out.thaw 0
    have f1 := T7.out.thaw 1
    obtain ⟨c0, c1⟩ := T7.out.cell
    obtain ⟨z0, z1⟩ := (T7.out.set (.string ⟨#[]⟩) (.slice none 0 0)).cell
    have HBF := Lib.hid ((B7.out.setCell (Nat.le_refl _) (.string ⟨#[]⟩) (p := ⟨w.heap.size, 0, none⟩)).setCell (Nat.le_refl _) (.slice none 0 0) (p := ⟨w.heap.size, 1, none⟩))
    go_wp2_with fail
    (try simp only [Exit.inBlock, Exit.then])
    refine bodyPost_ret (v := .tuple #[.agg #[.string ⟨#[]⟩, .slice none 0 0], .int .i64 62]) (by simp [results, Tryz.results53, go_sem, z0, z1]) rfl ⟨by rw [HV.out]; exact ⟨_, rfl, nil_plr _, fun p n c h a ha => by cases h; cases ha⟩, HBF.out⟩
   ·by_cases g2 : most < (ops.length : Int)
    ·skip
     have HV : Hid (parseD known.data.toList xs least most = (ByteArray.empty, [], 62)) := Lib.hid (by rw [HPD.out, HR7.out, if_pos (.inr g2)])
     have f0 := T7.out.thaw 0
     have f1 := T7.out.thaw 1
     obtain ⟨c0, c1⟩ := T7.out.cell
     obtain ⟨z0, z1⟩ := (T7.out.set (.string ⟨#[]⟩) (.slice none 0 0)).cell
     have HBF := Lib.hid ((B7.out.setCell (Nat.le_refl _) (.string ⟨#[]⟩) (p := ⟨w.heap.size, 0, none⟩)).setCell (Nat.le_refl _) (.slice none 0 0) (p := ⟨w.heap.size, 1, none⟩))
     go_wp2_with fail
     (try simp only [Exit.inBlock, Exit.then])
     refine bodyPost_ret (v := .tuple #[.agg #[.string ⟨#[]⟩, .slice none 0 0], .int .i64 62]) (by simp [results, Tryz.results53, go_sem, z0, z1]) rfl ⟨by rw [HV.out]; exact ⟨_, rfl, nil_plr _, fun p n c h a ha => by cases h; cases ha⟩, HBF.out⟩
    ·have HV : Hid (parseD known.data.toList xs least most = (setD t, ops, 0)) := Lib.hid (by rw [HPD.out, HR7.out, if_neg (fun h => h.elim g1 g2)])
     go_upto_region 7 with fail
     apply wp_region_lit
     refine wpList_plain rfl fun _ hK => ?_
     go_simp
     refine (text_any _ _ t A7.out).mono ?_
     rintro e w9 ⟨rfl, hb⟩
     have T8 := Lib.hid (T7.out.grown hb)
     have B8 := Lib.hid (B7.out.trans (hb.mono B7.out.size))
     have HU8 := Lib.hid (HU7.out.grown hb)
     clear hb T7 B7 HU7 A7
     (try dsimp only)
     refine hK _ _ ?_
     clear hK
     refine wpList_plain rfl fun _ hK => ?_
     go_simp
     refine hK _ _ ?_
     clear hK
     refine wpList_plain rfl fun _ hK => ?_
     go_simp
     refine (ocopyOf_any _ _ ops HU8.out (by omega) HOS.out).mono ?_
     rintro e w10 ⟨⟨rfl, hu2⟩, hb⟩
     have hn9 := T8.out.lt
     have T9 := Lib.hid (T8.out.grown hb)
     have B9 := Lib.hid (B8.out.trans (hb.mono B8.out.size))
     have HU9 := Lib.hid hu2
     clear hb hu2 T8 B8 HU8
     dsimp only
     refine hK _ _ ?_
     clear hK
     have f0 := T9.out.thaw 0
     have f1 := T9.out.thaw 1
     obtain ⟨c0, c1⟩ := T9.out.cell
     obtain ⟨z0, z1⟩ := (T9.out.set (.string (setD t)) (.slice (some ⟨w9.heap.size, 0, none⟩) ops.length ops.length)).cell
     have HBF := Lib.hid ((B9.out.setCell (Nat.le_refl _) (.string (setD t)) (p := ⟨w.heap.size, 0, none⟩)).setCell (Nat.le_refl _) (.slice (some ⟨w9.heap.size, 0, none⟩) ops.length ops.length) (p := ⟨w.heap.size, 1, none⟩))
     have HUF := Lib.hid (plr_set2 HU9.out T9.out (.string (setD t)) (.slice (some ⟨w9.heap.size, 0, none⟩) ops.length ops.length) (fun p n c h a ha => by cases h; cases ha; exact fun e => by simp at e; omega))
     go_wp2_with fail
     (try simp only [Exit.inBlock, Exit.then])
     refine bodyPost_ret (v := .tuple #[.agg #[.string (setD t), .slice (some ⟨w9.heap.size, 0, none⟩) ops.length ops.length], .int .i64 0]) (by simp [results, Tryz.results53, go_sem, z0, z1]) rfl ⟨by rw [HV.out]; exact ⟨_, rfl, HUF.out, fun p n c h a ha => by cases h; cases ha; simp; omega⟩, HBF.out⟩
end Go.Proofs.YtfilbknnpjbmcaaGreatDoor
/- Appends of lists of texts to a row of one's own. -/
namespace Go.Proofs.YtfilbknnpjbmcaaGreatDoor
open Go.RowKit Px

end Go.Proofs.YtfilbknnpjbmcaaGreatDoor
/- Walks: Opts.Has; the reference's has. -/
namespace Go.Proofs.YtfilbknnpjbmcaaGreatDoor
open Go.RowKit Ox Px

theorem u8_back (c : UInt8) : ((c.toNat : Int).toNat.toUInt8) = c := by simp
set_option maxRecDepth 100000 in
theorem has_any (w : World) (s : ByteArray) (u : Value) (c : UInt8) :
  Calls Tryz.prog 81 #[.agg #[.string s, u], .int .u8 c.toNat] w fun e w' => e = .returned (.bool (decide (0 ≤ Lib.indexByte s.data.toList c))) ∧ Below w.heap.size w w' := by
 go_enter Tryz.func81, Tryz.ntmps81
 have hx := u8_back c
 go_wp2_with (go_at_call 112; refine (Tryz.strings_IndexByte _ _ _).mono ?_; rintro e w' ⟨rfl, rfl⟩; rw [hx])
 go_ret
 exact ⟨rfl, (Below.refl _ _).alloc (Nat.le_refl _) _⟩
end Go.Proofs.YtfilbknnpjbmcaaGreatDoor
