/- Walks of the reference's syntax: may a simple command with a name be? -/
import Derived.Test.YtpibjhlldlbocaaGreatSynZL
import Derived.Laws.OwnMore
import Derived.Deep.Cut
import Derived.Deep.DeepCutAuto
namespace Go.Proofs.YtpibjhlldlbocaaGreat
open Go.RowKit Sx Go.Proofs
namespace Sx
theorem own_ne {w : World} {base B : Nat} {v : Value} {n : Nat} {xs : List Value} {cs : Array Value} (h : w.ownsRow base 33 3 v n xs) (hV : w.heap[B]? = some (.cells cs 31 (0, 0))) : v.ownBlock ≠ some B := by
  intro hk
  rcases h.2 with ⟨rfl, _⟩ | ⟨g, cap, cur, rfl, hg, hh, _⟩
  · simp [Value.ownBlock] at hk
  · have : g = B := by simpa [Value.ownBlock] using hk
    subst this
    rw [hV] at hh
    simp at hh
theorem own_one {w : World} {g : Nat} {t : ByteArray} (h : w.heap[g]? = some (.cells #[.bool false, .string t, .bool false] 33 (0, 0))) : w.ownsRow g 33 3 (.slice (some ⟨g, 0, none⟩) 1 1) 1 (pcells [⟨false, t, false⟩]) :=
  ⟨rfl, .inr ⟨g, 1, _, rfl, Nat.le_refl _, h, Nat.le_refl _, by decide, rfl, rfl⟩⟩
def merges (p : Part) : Bool := !p.var && !p.quoted && !p.text.toList.isEmpty
theorem rWhole_cons (name : ByteArray) (x : Part) (r : List Part) : rWhole name (x :: r) = if merges x then ⟨false, name ++ eqB ++ x.text, false⟩ :: r else ⟨false, name ++ eqB, false⟩ :: x :: r := rfl
theorem rWhole_merge {name : ByteArray} {q : List Part} {p : Part} (h : q[0]? = some p) (hm : merges p = true) : rWhole name (q.take 1) = [⟨false, name ++ eqB ++ p.text, false⟩] := by
  cases q with
  | nil => simp at h
  | cons x r =>
    obtain rfl : x = p := by simpa using h
    show rWhole name [x] = _
    rw [rWhole_cons, if_pos hm]
theorem rWhole_step {name : ByteArray} {q : List Part} {k : Nat} {p : Part} (h : q[k]? = some p) (hm : (decide (k = 0) && merges p) = false) : rWhole name (q.take (k + 1)) = rWhole name (q.take k) ++ [p] := by
  cases q with
  | nil => simp at h
  | cons x r =>
    cases k with
    | zero =>
      obtain rfl : x = p := by simpa using h
      show rWhole name [x] = rWhole name [] ++ [x]
      have hm2 : ¬ (merges x = true) := by simpa using hm
      rw [rWhole_cons, if_neg hm2]
      rfl
    | succ k =>
      have h2 : r[k]? = some p := by simpa using h
      show rWhole name (x :: r.take (k + 1)) = rWhole name (x :: r.take k) ++ [p]
      have ht : r.take (k + 1) = r.take k ++ [p] := by rw [List.take_add_one, h2]; rfl
      rw [ht, rWhole_cons, rWhole_cons]
      split <;> rfl
theorem rWhole_len (name : ByteArray) (q : List Part) : (rWhole name q).length ≤ q.length + 1 := by
  cases q with
  | nil => simp [rWhole]
  | cons x r => rw [rWhole_cons]; split <;> simp
theorem rWhole_bulk {name : ByteArray} {q : List Part} {a : Int} (h : name.size + Word.bulk ⟨q, a⟩ ≤ 1900000) : Word.bulk ⟨rWhole name q, 0⟩ ≤ 2000000 := by
  have h1 : (name ++ eqB).size = name.size + 1 := by rw [ByteArray.size_append]; rfl
  cases q with
  | nil =>
    show ((name ++ eqB).size + 1 + 0) + 1 ≤ 2000000
    have h : name.size + (0 + 1) ≤ 1900000 := h
    omega
  | cons x r =>
    have h : name.size + ((x.text.size + 1 + (r.map Part.bulk).sum) + 1) ≤ 1900000 := by
      have h2 := h
      unfold Word.bulk at h2
      simp only [List.map_cons, List.sum_cons] at h2
      exact h2
    rw [rWhole_cons]
    unfold Word.bulk
    split
    · simp only [List.map_cons, List.sum_cons]
      show ((name ++ eqB ++ x.text).size + 1 + _) + 1 ≤ 2000000
      rw [ByteArray.size_append]
      omega
    · simp only [List.map_cons, List.sum_cons]
      show ((name ++ eqB).size + 1 + ((x.text.size + 1) + _)) + 1 ≤ 2000000
      omega
end Sx

set_option maxRecDepth 100000 in
set_option maxHeartbeats 8000000 in
theorem simpleRef_named {W : World} {x : Word} {p q : Option Addr} {cp m d kd : Nat} {at_ : Int} {C : Nat → List Value} (name : ByteArray) (h1 : 1 ≤ cp) (h2 : cp ≤ maxLen) (h3 : Row W 2 p 1 C) (h4 : WordR W (C 0) x)
    (hB : name.size + x.bulk ≤ 1900000) (hn0 : name.size ≠ 0) (hN : isCmdName name.data.toList = true) : ∀ w, Below W.heap.size W w →
    Calls Tryz.prog 27 #[.agg #[.int .u8 kd, .int .i64 at_, .string name, .slice p 1 cp, .slice q m d]] w fun e w' => e = .returned (.bool (Word.may ⟨rWhole name x.parts, 0⟩)) ∧ Below w.heap.size w w' := by
  intro w hb
  have HNA : Hid (∀ wx, Calls Tryz.prog 28 #[.string name] wx fun e w' => e = .returned (.bool true) ∧ wx = w') := Lib.hid fun wx => by rw [← hN]; exact cmdNameRef_any name wx
  have he : name.toList.isEmpty = false := full_of (by omega)
  have hne : ¬ name.toList = [] := by intro h; rw [h] at he; cases he
  have HW := Lib.hid hb
  have HBK := Lib.hid hB
  obtain ⟨b, o, rfl, _, hr⟩ := h3 0 (by decide)
  rw [show o + 0 * 2 = o by omega] at hr
  obtain ⟨parts, xat⟩ := x
  obtain ⟨pp, pc, hcs, hp1, hp2, hp3⟩ := h4
  dsimp only at hcs hp1 hp3 hB
  rw [hcs] at hr
  have HX : Hid (Row w 3 pp parts.length (fun i => (parts[i]?.map partCells).getD [])) := Lib.hid (hp3.grown hb)
  have e0 : w.cell? ⟨b, o, none⟩ = some (.slice pp parts.length pc) := (range_below hb hr) 0 _ rfl
  have e1 : w.cell? ⟨b, o + 1, none⟩ = some (.int .i64 xat) := (range_below hb hr) 1 _ rfl
  have f0 := cell_kept (box_self (w := w) (wr := (w.alloc (.cells #[.int .u8 kd, .int .i64 at_, .string name, .slice (some ⟨b, o, none⟩) 1 cp, .slice q m d] 25))) (Below.refl _ _)) e0
  have f1 := cell_kept (box_self (w := w) (wr := (w.alloc (.cells #[.int .u8 kd, .int .i64 at_, .string name, .slice (some ⟨b, o, none⟩) 1 cp, .slice q m d] 25))) (Below.refl _ _)) e1
  have hlp : parts.length ≤ 2000000 := by
    have := sum_ge (f := Part.bulk) (fun x => Nat.succ_pos _) parts
    unfold Word.bulk at hB
    dsimp only at hB
    omega
  have hns : name.size + 1 ≤ 1900001 := by omega
  have hnc : ¬ (9223372036854775807 < name.size + 1) := by omega
  obtain ⟨i0, hi0, hz0, hz1, hz2⟩ := info_parts info_part
  clear h3 hcs hp3 hr hb hB hn0
  dsimp only
  go_enter Tryz.func27, Tryz.ntmps27
  go_wp2_with fail
  refine (HNA.out _).mono ?_
  rintro e w2 ⟨rfl, rfl⟩
  go_wp2_with fail
  go_loopw [10] (fun i wr => ∃ (k : Nat) (vv : Value), k ≤ parts.length ∧ i = .int .i64 k ∧ Hid (wr.heap[(w.heap.size + 1 + 1)]? = some (.cells #[vv, .int .i64 0] 31 (0, 0))) ∧ Hid (wr.ownsRow (w.heap.size + 1) 33 3 vv (rWhole name (parts.take k)).length (pcells (rWhole name (parts.take k)))) ∧ Hid (k = 0 → vv = .slice (some ⟨(w.heap.size + 1), 0, none⟩) 1 1 ∧ wr.heap[(w.heap.size + 1)]? = some (.cells #[.bool false, .string (name ++ ⟨#[61]⟩), .bool false] 33 (0, 0))) ∧ Hid (Below w.heap.size w wr)) (fun i _ => parts.length - (intOf i).toNat)
  case atStart => exact ⟨0, _, Nat.zero_le _, rfl, Lib.hid (by rw [show w.heap.size + 1 + 1 = ((w.alloc (.cells #[.int .u8 kd, .int .i64 at_, .string name, .slice (some ⟨b, o, none⟩) 1 cp, .slice q m d] 25)).alloc (.cells #[.bool false, .string (name ++ ⟨#[61]⟩), .bool false] 33)).heap.size by simp]; exact heap_alloc_new _ _), Lib.hid (Sx.own_one (t := name ++ eqB) (by rw [Below.heap_alloc _ _ _ (by simp), show w.heap.size + 1 = (w.alloc (.cells #[.int .u8 kd, .int .i64 at_, .string name, .slice (some ⟨b, o, none⟩) 1 cp, .slice q m d] 25)).heap.size by simp]; exact heap_alloc_new _ _)), Lib.hid (fun _ => ⟨rfl, by rw [Below.heap_alloc _ _ _ (by simp), show w.heap.size + 1 = (w.alloc (.cells #[.int .u8 kd, .int .i64 at_, .string name, .slice (some ⟨b, o, none⟩) 1 cp, .slice q m d] 25)).heap.size by simp]; exact heap_alloc_new _ _⟩), Lib.hid ((box_self (Below.refl _ _)).trans (((Below.refl _ _).alloc (by simp) _).alloc (by simp; omega) _))⟩
  case round =>
    clear f0 f1 e0 e1
    obtain ⟨k, vv, hk, rfl, HV, HO, HZ, HB⟩ := hrel
    by_cases hlt : k < parts.length
    · obtain ⟨b', o', rfl, _, hr⟩ := HX.out k hlt
      have hr : wr.rangeAt b' (o' + k * 3) (partCells parts[k]) := by
        have h2 : ((parts[k]?.map partCells).getD []) = partCells parts[k] := by rw [List.getElem?_eq_getElem hlt]; rfl
        rw [← h2]; exact range_below HB.out hr
      have HP := Lib.hid (List.getElem?_eq_getElem hlt)
      have hpb : (parts[k]).text.size ≤ 1900000 := by
        have h : (parts[k]).text.size + 1 ≤ (parts.map Part.bulk).sum := sum_at (f := Part.bulk) (List.getElem?_eq_getElem hlt)
        have h2 := HBK.out
        unfold Word.bulk at h2
        dsimp only at h2
        omega
      have hpc : name.size + 1 + (parts[k]).text.size ≤ 1900001 := by
        have h : (parts[k]).text.size + 1 ≤ (parts.map Part.bulk).sum := sum_at (f := Part.bulk) (List.getElem?_eq_getElem hlt)
        have h2 := HBK.out
        unfold Word.bulk at h2
        dsimp only at h2
        omega
      obtain ⟨d0, d1, d2⟩ := part_cells hr
      clear hr
      have hrl := rWhole_len name (parts.take k)
      rw [List.length_take] at hrl
      have hrl2 : (rWhole name (parts.take k)).length ≤ 2000001 := by omega
      clear hrl
      generalize parts[k] = P at *
      obtain ⟨var, text, quoted⟩ := P
      dsimp only at d0 d1 d2 hpb hpc
      have HVD : Hid (wr.drew.heap[(w.heap.size + 1 + 1)]? = some (.cells #[vv, .int .i64 0] 31 (0, 0))) := HV
      have HOD : Hid (wr.drew.ownsRow (w.heap.size + 1) 33 3 vv (rWhole name (parts.take k)).length (pcells (rWhole name (parts.take k)))) := HO
      have HBD : Hid (Below w.heap.size w wr.drew) := Lib.hid HB.out.drew
      have hVlt : (w.heap.size + 1 + 1) < wr.drew.heap.size := (Array.getElem?_eq_some_iff.1 HVD.out).1
      have g0 : wr.drew.cell? ⟨(w.heap.size + 1 + 1), 0, none⟩ = some vv := by rw [cell_of_row _ _ _ _ _ _ HVD.out]; rfl
      have d0' : wr.drew.cell? ⟨b', o' + k * 3, none⟩ = some (.bool var) := d0
      have d1' : wr.drew.cell? ⟨b', o' + k * 3 + 1, none⟩ = some (.string text) := d1
      have d2' : wr.drew.cell? ⟨b', o' + k * 3 + 2, none⟩ = some (.bool quoted) := d2
      go_upto_region 14 with fail
      go_cut [109] (fun t wx => t = .bool (decide (k = 0) && (!var && !quoted && !text.toList.isEmpty)) ∧ wr = wx)
      case first =>
        by_cases hk0 : k = 0
        · subst hk0
          rw [show o' + 0 * 3 = o' by omega] at d0 d1 d2
          cases var with
          | true =>
            go_wp2_with fail
            go_meet
            exact ⟨rfl, rfl⟩
          | false =>
            cases quoted with
            | true =>
              go_wp2_with fail
              go_meet
              exact ⟨rfl, rfl⟩
            | false =>
              by_cases ht : text.size = 0
              · have hte : text.toList = [] := empty_of ht
                go_wp2_with fail
                go_meet
                exact ⟨by rw [hte]; rfl, rfl⟩
              · have hte : text.toList.isEmpty = false := full_of (by omega)
                have htn : ¬ text.toList = [] := by intro h; rw [h] at hte; cases hte
                go_wp2_with fail
                go_meet
                exact ⟨by rw [hte]; rfl, rfl⟩
        · have hkz : ((k : Int) == 0) = false := beq_eq_false_iff_ne.2 (by omega)
          go_wp2_with fail
          go_meet
          exact ⟨by rw [decide_eq_false hk0]; rfl, rfl⟩
      case rest =>
        obtain ⟨rfl, rfl⟩ := hcut
        have HMB : Hid ((decide (k = 0) && merges ⟨var, text, quoted⟩) = (decide (k = 0) && (!var && !quoted && !text.toList.isEmpty))) := Lib.hid rfl
        generalize (decide (k = 0) && (!var && !quoted && !text.toList.isEmpty)) = M at *
        go_upto_if 109 with fail
        cases M with
        | true =>
          have hk0 : k = 0 := by
            have h := HMB.out
            simp only [Bool.and_eq_true, decide_eq_true_eq] at h
            exact h.1
          have hmg : merges ⟨var, text, quoted⟩ = true := by
            have h := HMB.out
            simp only [Bool.and_eq_true] at h
            exact h.2
          subst hk0
          have HMRG := Lib.hid (rWhole_merge (name := name) HP.out hmg)
          obtain ⟨rfl, hA⟩ := HZ.out rfl
          have HAD : Hid (wr.drew.heap[(w.heap.size + 1)]? = some (.cells #[.bool false, .string (name ++ ⟨#[61]⟩), .bool false] 33 (0, 0))) := Lib.hid hA
          have a1 : wr.drew.cell? ⟨(w.heap.size + 1), 1, none⟩ = some (.string (name ++ ⟨#[61]⟩)) := by rw [cell_of_row _ _ _ _ _ _ HAD.out]; rfl
          have z1 := frozen_of_row wr.drew (w.heap.size + 1) 1 _ _ HAD.out
          rw [show o' + 0 * 3 = o' by omega] at d0 d1 d2 d0' d1' d2'
          have hnc2 : ¬ (9223372036854775807 < name.size + 1 + text.size) := by omega
          have hp0 : (0 : Int) < (parts.length : Int) := by omega
          have hVA : w.heap.size + 1 + 1 ≠ w.heap.size + 1 := by omega
          clear hmg hA HMB
          go_wp2_with fail
          refine wp_region_any (by kernel_rfl) (show wpAny _ _ _ _ _ _ _ (World.drew _) from ?_)
          generalize wr.drew = wd at *
          refine wpAny_take (i := 0) (oi := { dst := some 110, op := Op.fieldAddr 31 (Operand.tmp 9) 0, type := 0, pos := "ref.go:386", after := #[], guard := none }) (v := ?_) rfl (by kernel_rfl) (by kernel_rfl) (by kernel_rfl) (fun _ _ _ h => h) (Or.inl ⟨by rfl, ?_⟩) ?_
          rotate_left
          · (intro w; go_simp; try with_reducible rfl)
          try simp only [Act.put, List.setIfInBounds_toArray, List.set_cons_zero, List.set_cons_succ]
          refine wpAny_take (i := 2) (oi := { dst := some 112, op := Op.fieldAddr 31 (Operand.tmp 9) 0, type := 0, pos := "ref.go:386", after := #[], guard := none }) (v := ?_) rfl (by kernel_rfl) (by kernel_rfl) (by kernel_rfl) (fun _ _ _ h => h) (Or.inl ⟨by rfl, ?_⟩) ?_
          rotate_left
          · (intro w; go_simp; try with_reducible rfl)
          try simp only [Act.put, List.setIfInBounds_toArray, List.set_cons_zero, List.set_cons_succ]
          refine wpAny_take (i := 7) (oi := { dst := some 117, op := Op.move (Operand.tmp 8), type := 29, pos := "ref.go:386", after := #[], guard := none }) (v := ?_) rfl (by kernel_rfl) (by kernel_rfl) (by kernel_rfl) (fun _ _ _ h => h) (Or.inl ⟨by rfl, ?_⟩) ?_
          rotate_left
          · (intro w; go_simp; try with_reducible rfl)
          try simp only [Act.put, List.setIfInBounds_toArray, List.set_cons_zero, List.set_cons_succ]
          refine wpAny_take (i := 8) (oi := { dst := some 118, op := Op.move (Operand.tmp 10), type := 3, pos := "ref.go:386", after := #[], guard := none }) (v := ?_) rfl (by kernel_rfl) (by kernel_rfl) (by kernel_rfl) (fun _ _ _ h => h) (Or.inl ⟨by rfl, ?_⟩) ?_
          rotate_left
          · (intro w; go_simp; try with_reducible rfl)
          try simp only [Act.put, List.setIfInBounds_toArray, List.set_cons_zero, List.set_cons_succ]
          refine wpAny_take (i := 9) (oi := { dst := some 119, op := Op.indexAddr 29 (Operand.tmp 117) (Operand.tmp 118), type := 0, pos := "ref.go:386", after := #[{ on := 7, ground := Ground.data }, { on := 8, ground := Ground.data }], guard := none }) (v := ?_) rfl (by kernel_rfl) (by kernel_rfl) (by kernel_rfl) (fun _ _ _ h => h) (Or.inl ⟨by rfl, ?_⟩) ?_
          rotate_left
          · (intro w; go_simp; try with_reducible rfl)
          try simp only [Act.put, List.setIfInBounds_toArray, List.set_cons_zero, List.set_cons_succ]
          refine wpAny_take (i := 10) (oi := { dst := some 120, op := Op.fieldAddr 33 (Operand.tmp 119) 1, type := 0, pos := "ref.go:386", after := #[{ on := 9, ground := Ground.data }], guard := none }) (v := ?_) rfl (by kernel_rfl) (by kernel_rfl) (by kernel_rfl) (fun _ _ _ h => h) (Or.inl ⟨by rfl, ?_⟩) ?_
          rotate_left
          · (intro w; go_simp; try with_reducible rfl)
          try simp only [Act.put, List.setIfInBounds_toArray, List.set_cons_zero, List.set_cons_succ]
          refine wpAny_ready (rs := [1, 3, 11]) (by kernel_rfl) (by simp) ?_
          refine AllReady.cons (o := { dst := some 111, op := Op.load 29 (Operand.tmp 110), type := 29, pos := "ref.go:386", after := #[{ on := 0, ground := Ground.data }], guard := none }) rfl (fun K hK0 => ?_) ?_
          rotate_left
          refine AllReady.cons (o := { dst := some 113, op := Op.load 29 (Operand.tmp 112), type := 29, pos := "ref.go:386", after := #[{ on := 2, ground := Ground.data }], guard := none }) rfl (fun K hK0 => ?_) ?_
          rotate_left
          refine AllReady.cons (o := { dst := some 121, op := Op.load 9 (Operand.tmp 120), type := 9, pos := "ref.go:386", after := #[{ on := 10, ground := Ground.data }], guard := none }) rfl (fun K hK0 => ?_) AllReady.nil
          · have hK := Lib.hid hK0
            clear hK0
            go_simp
            refine hK.out _ _ ?_
            clear hK K
            try simp only [Act.put, List.setIfInBounds_toArray, List.set_cons_zero, List.set_cons_succ]
            refine wpAny_ready (rs := [1, 3]) (by kernel_rfl) (by simp) ?_
            refine AllReady.cons (o := { dst := some 111, op := Op.load 29 (Operand.tmp 110), type := 29, pos := "ref.go:386", after := #[{ on := 0, ground := Ground.data }], guard := none }) rfl (fun K hK0 => ?_) ?_
            rotate_left
            refine AllReady.cons (o := { dst := some 113, op := Op.load 29 (Operand.tmp 112), type := 29, pos := "ref.go:386", after := #[{ on := 2, ground := Ground.data }], guard := none }) rfl (fun K hK0 => ?_) AllReady.nil
            · have hK := Lib.hid hK0
              clear hK0
              go_simp
              refine hK.out _ _ ?_
              clear hK K
              try simp only [Act.put, List.setIfInBounds_toArray, List.set_cons_zero, List.set_cons_succ]
              refine wpAny_take (i := 4) (oi := { dst := some 114, op := Op.indexAddr 29 (Operand.tmp 113) (Operand.const (Value.int IntKind.i64 0)), type := 0, pos := "ref.go:386", after := #[{ on := 3, ground := Ground.data }], guard := none }) (v := ?_) rfl (by kernel_rfl) (by kernel_rfl) (by kernel_rfl) (fun _ _ _ h => h) (Or.inl ⟨by rfl, ?_⟩) ?_
              rotate_left
              · (intro w; go_simp; try with_reducible rfl)
              try simp only [Act.put, List.setIfInBounds_toArray, List.set_cons_zero, List.set_cons_succ]
              refine wpAny_take (i := 5) (oi := { dst := some 115, op := Op.fieldAddr 33 (Operand.tmp 114) 1, type := 0, pos := "ref.go:386", after := #[{ on := 4, ground := Ground.data }], guard := none }) (v := ?_) rfl (by kernel_rfl) (by kernel_rfl) (by kernel_rfl) (fun _ _ _ h => h) (Or.inl ⟨by rfl, ?_⟩) ?_
              rotate_left
              · (intro w; go_simp; try with_reducible rfl)
              try simp only [Act.put, List.setIfInBounds_toArray, List.set_cons_zero, List.set_cons_succ]
              refine wpAny_ready (rs := [1, 6]) (by kernel_rfl) (by simp) ?_
              refine AllReady.cons (o := { dst := some 111, op := Op.load 29 (Operand.tmp 110), type := 29, pos := "ref.go:386", after := #[{ on := 0, ground := Ground.data }], guard := none }) rfl (fun K hK0 => ?_) ?_
              rotate_left
              refine AllReady.cons (o := { dst := some 116, op := Op.load 9 (Operand.tmp 115), type := 9, pos := "ref.go:386", after := #[{ on := 5, ground := Ground.data }], guard := none }) rfl (fun K hK0 => ?_) AllReady.nil
              · have hK := Lib.hid hK0
                clear hK0
                go_simp
                refine hK.out _ _ ?_
                clear hK K
                try simp only [Act.put, List.setIfInBounds_toArray, List.set_cons_zero, List.set_cons_succ]
                refine wpAny_take (i := 12) (oi := { dst := some 122, op := Op.binOp BinOp.add 9 (Operand.tmp 116) (Operand.tmp 121) 9, type := 9, pos := "ref.go:386", after := #[{ on := 6, ground := Ground.data }, { on := 11, ground := Ground.data }], guard := none }) (v := ?_) rfl (by kernel_rfl) (by kernel_rfl) (by kernel_rfl) (fun _ _ _ h => h) (Or.inl ⟨by rfl, ?_⟩) ?_
                rotate_left
                · (intro w; go_simp; try with_reducible rfl)
                try simp only [Act.put, List.setIfInBounds_toArray, List.set_cons_zero, List.set_cons_succ]
                refine wpAny_ready (rs := [1]) (by kernel_rfl) (by simp) ?_
                refine AllReady.cons (o := { dst := some 111, op := Op.load 29 (Operand.tmp 110), type := 29, pos := "ref.go:386", after := #[{ on := 0, ground := Ground.data }], guard := none }) rfl (fun K hK0 => ?_) AllReady.nil
                have hK := Lib.hid hK0
                clear hK0
                go_simp
                refine hK.out _ _ ?_
                clear hK K
                try simp only [Act.put, List.setIfInBounds_toArray, List.set_cons_zero, List.set_cons_succ]
                refine wpAny_take (i := 13) (oi := { dst := some 123, op := Op.indexAddr 29 (Operand.tmp 111) (Operand.const (Value.int IntKind.i64 0)), type := 0, pos := "ref.go:386", after := #[{ on := 1, ground := Ground.data }, { on := 0, ground := Ground.phase }, { on := 1, ground := Ground.phase }, { on := 2, ground := Ground.phase }, { on := 3, ground := Ground.phase }, { on := 4, ground := Ground.phase }, { on := 5, ground := Ground.phase }, { on := 6, ground := Ground.phase }, { on := 7, ground := Ground.phase }, { on := 8, ground := Ground.phase }, { on := 9, ground := Ground.phase }, { on := 10, ground := Ground.phase }, { on := 11, ground := Ground.phase }, { on := 12, ground := Ground.phase }], guard := none }) (v := ?_) rfl (by kernel_rfl) (by kernel_rfl) (by kernel_rfl) (fun _ _ _ h => h) (Or.inl ⟨by rfl, ?_⟩) ?_
                rotate_left
                · (intro w; go_simp; try with_reducible rfl)
                try simp only [Act.put, List.setIfInBounds_toArray, List.set_cons_zero, List.set_cons_succ]
                refine wpAny_take (i := 14) (oi := { dst := some 124, op := Op.fieldAddr 33 (Operand.tmp 123) 1, type := 0, pos := "ref.go:386", after := #[{ on := 13, ground := Ground.data }, { on := 0, ground := Ground.phase }, { on := 1, ground := Ground.phase }, { on := 2, ground := Ground.phase }, { on := 3, ground := Ground.phase }, { on := 4, ground := Ground.phase }, { on := 5, ground := Ground.phase }, { on := 6, ground := Ground.phase }, { on := 7, ground := Ground.phase }, { on := 8, ground := Ground.phase }, { on := 9, ground := Ground.phase }, { on := 10, ground := Ground.phase }, { on := 11, ground := Ground.phase }, { on := 12, ground := Ground.phase }], guard := none }) (v := ?_) rfl (by kernel_rfl) (by kernel_rfl) (by kernel_rfl) (fun _ _ _ h => h) (Or.inl ⟨by rfl, ?_⟩) ?_
                rotate_left
                · (intro w; go_simp; try with_reducible rfl)
                try simp only [Act.put, List.setIfInBounds_toArray, List.set_cons_zero, List.set_cons_succ]
                refine wpAny_ready (rs := [15]) (by kernel_rfl) (by simp) ?_
                refine AllReady.cons (o := { dst := none, op := Op.store 9 (Operand.tmp 124) (Operand.tmp 122), type := 0, pos := "ref.go:386", after := #[{ on := 14, ground := Ground.data }, { on := 12, ground := Ground.data }, { on := 0, ground := Ground.phase }, { on := 1, ground := Ground.phase }, { on := 2, ground := Ground.phase }, { on := 3, ground := Ground.phase }, { on := 4, ground := Ground.phase }, { on := 5, ground := Ground.phase }, { on := 6, ground := Ground.phase }, { on := 7, ground := Ground.phase }, { on := 8, ground := Ground.phase }, { on := 9, ground := Ground.phase }, { on := 10, ground := Ground.phase }, { on := 11, ground := Ground.phase }, { on := 12, ground := Ground.phase }], guard := none }) rfl (fun K hK0 => ?_) AllReady.nil
                have hK := Lib.hid hK0
                clear hK0
                go_simp
                refine hK.out _ _ ?_
                clear hK K
                try simp only [Act.put, List.setIfInBounds_toArray, List.set_cons_zero, List.set_cons_succ]
                refine wpAny_done (by kernel_rfl) ?_ _
                go_wp2_with fail
                go_roundw
                case rel => exact ⟨1, _, by omega, by go_num, Lib.hid (by rw [heap_setCell_other _ _ _ _ hVA]; exact HVD.out), Lib.hid (by rw [HMRG.out]; exact Sx.own_one (heap_setCell_same wd (w.heap.size + 1) 1 _ _ _ HAD.out)), Lib.hid (fun h => absurd h (by decide)), Lib.hid (HBD.out.setCell (p := ⟨_, _, none⟩) (Nat.le_succ _) _)⟩
                case measure => simp [intOf]; omega
              · have hK := Lib.hid hK0
                clear hK0
                go_simp
                refine hK.out _ _ ?_
                clear hK K
                try simp only [Act.put, List.setIfInBounds_toArray, List.set_cons_zero, List.set_cons_succ]
                refine wpAny_ready (rs := [6]) (by kernel_rfl) (by simp) ?_
                refine AllReady.cons (o := { dst := some 116, op := Op.load 9 (Operand.tmp 115), type := 9, pos := "ref.go:386", after := #[{ on := 5, ground := Ground.data }], guard := none }) rfl (fun K hK0 => ?_) AllReady.nil
                have hK := Lib.hid hK0
                clear hK0
                go_simp
                refine hK.out _ _ ?_
                clear hK K
                try simp only [Act.put, List.setIfInBounds_toArray, List.set_cons_zero, List.set_cons_succ]
                refine wpAny_take (i := 12) (oi := { dst := some 122, op := Op.binOp BinOp.add 9 (Operand.tmp 116) (Operand.tmp 121) 9, type := 9, pos := "ref.go:386", after := #[{ on := 6, ground := Ground.data }, { on := 11, ground := Ground.data }], guard := none }) (v := ?_) rfl (by kernel_rfl) (by kernel_rfl) (by kernel_rfl) (fun _ _ _ h => h) (Or.inl ⟨by rfl, ?_⟩) ?_
                rotate_left
                · (intro w; go_simp; try with_reducible rfl)
                try simp only [Act.put, List.setIfInBounds_toArray, List.set_cons_zero, List.set_cons_succ]
                refine wpAny_take (i := 13) (oi := { dst := some 123, op := Op.indexAddr 29 (Operand.tmp 111) (Operand.const (Value.int IntKind.i64 0)), type := 0, pos := "ref.go:386", after := #[{ on := 1, ground := Ground.data }, { on := 0, ground := Ground.phase }, { on := 1, ground := Ground.phase }, { on := 2, ground := Ground.phase }, { on := 3, ground := Ground.phase }, { on := 4, ground := Ground.phase }, { on := 5, ground := Ground.phase }, { on := 6, ground := Ground.phase }, { on := 7, ground := Ground.phase }, { on := 8, ground := Ground.phase }, { on := 9, ground := Ground.phase }, { on := 10, ground := Ground.phase }, { on := 11, ground := Ground.phase }, { on := 12, ground := Ground.phase }], guard := none }) (v := ?_) rfl (by kernel_rfl) (by kernel_rfl) (by kernel_rfl) (fun _ _ _ h => h) (Or.inl ⟨by rfl, ?_⟩) ?_
                rotate_left
                · (intro w; go_simp; try with_reducible rfl)
                try simp only [Act.put, List.setIfInBounds_toArray, List.set_cons_zero, List.set_cons_succ]
                refine wpAny_take (i := 14) (oi := { dst := some 124, op := Op.fieldAddr 33 (Operand.tmp 123) 1, type := 0, pos := "ref.go:386", after := #[{ on := 13, ground := Ground.data }, { on := 0, ground := Ground.phase }, { on := 1, ground := Ground.phase }, { on := 2, ground := Ground.phase }, { on := 3, ground := Ground.phase }, { on := 4, ground := Ground.phase }, { on := 5, ground := Ground.phase }, { on := 6, ground := Ground.phase }, { on := 7, ground := Ground.phase }, { on := 8, ground := Ground.phase }, { on := 9, ground := Ground.phase }, { on := 10, ground := Ground.phase }, { on := 11, ground := Ground.phase }, { on := 12, ground := Ground.phase }], guard := none }) (v := ?_) rfl (by kernel_rfl) (by kernel_rfl) (by kernel_rfl) (fun _ _ _ h => h) (Or.inl ⟨by rfl, ?_⟩) ?_
                rotate_left
                · (intro w; go_simp; try with_reducible rfl)
                try simp only [Act.put, List.setIfInBounds_toArray, List.set_cons_zero, List.set_cons_succ]
                refine wpAny_ready (rs := [15]) (by kernel_rfl) (by simp) ?_
                refine AllReady.cons (o := { dst := none, op := Op.store 9 (Operand.tmp 124) (Operand.tmp 122), type := 0, pos := "ref.go:386", after := #[{ on := 14, ground := Ground.data }, { on := 12, ground := Ground.data }, { on := 0, ground := Ground.phase }, { on := 1, ground := Ground.phase }, { on := 2, ground := Ground.phase }, { on := 3, ground := Ground.phase }, { on := 4, ground := Ground.phase }, { on := 5, ground := Ground.phase }, { on := 6, ground := Ground.phase }, { on := 7, ground := Ground.phase }, { on := 8, ground := Ground.phase }, { on := 9, ground := Ground.phase }, { on := 10, ground := Ground.phase }, { on := 11, ground := Ground.phase }, { on := 12, ground := Ground.phase }], guard := none }) rfl (fun K hK0 => ?_) AllReady.nil
                have hK := Lib.hid hK0
                clear hK0
                go_simp
                refine hK.out _ _ ?_
                clear hK K
                try simp only [Act.put, List.setIfInBounds_toArray, List.set_cons_zero, List.set_cons_succ]
                refine wpAny_done (by kernel_rfl) ?_ _
                go_wp2_with fail
                go_roundw
                case rel => exact ⟨1, _, by omega, by go_num, Lib.hid (by rw [heap_setCell_other _ _ _ _ hVA]; exact HVD.out), Lib.hid (by rw [HMRG.out]; exact Sx.own_one (heap_setCell_same wd (w.heap.size + 1) 1 _ _ _ HAD.out)), Lib.hid (fun h => absurd h (by decide)), Lib.hid (HBD.out.setCell (p := ⟨_, _, none⟩) (Nat.le_succ _) _)⟩
                case measure => simp [intOf]; omega
            · have hK := Lib.hid hK0
              clear hK0
              go_simp
              refine hK.out _ _ ?_
              clear hK K
              try simp only [Act.put, List.setIfInBounds_toArray, List.set_cons_zero, List.set_cons_succ]
              refine wpAny_ready (rs := [3]) (by kernel_rfl) (by simp) ?_
              refine AllReady.cons (o := { dst := some 113, op := Op.load 29 (Operand.tmp 112), type := 29, pos := "ref.go:386", after := #[{ on := 2, ground := Ground.data }], guard := none }) rfl (fun K hK0 => ?_) AllReady.nil
              have hK := Lib.hid hK0
              clear hK0
              go_simp
              refine hK.out _ _ ?_
              clear hK K
              try simp only [Act.put, List.setIfInBounds_toArray, List.set_cons_zero, List.set_cons_succ]
              refine wpAny_take (i := 4) (oi := { dst := some 114, op := Op.indexAddr 29 (Operand.tmp 113) (Operand.const (Value.int IntKind.i64 0)), type := 0, pos := "ref.go:386", after := #[{ on := 3, ground := Ground.data }], guard := none }) (v := ?_) rfl (by kernel_rfl) (by kernel_rfl) (by kernel_rfl) (fun _ _ _ h => h) (Or.inl ⟨by rfl, ?_⟩) ?_
              rotate_left
              · (intro w; go_simp; try with_reducible rfl)
              try simp only [Act.put, List.setIfInBounds_toArray, List.set_cons_zero, List.set_cons_succ]
              refine wpAny_take (i := 5) (oi := { dst := some 115, op := Op.fieldAddr 33 (Operand.tmp 114) 1, type := 0, pos := "ref.go:386", after := #[{ on := 4, ground := Ground.data }], guard := none }) (v := ?_) rfl (by kernel_rfl) (by kernel_rfl) (by kernel_rfl) (fun _ _ _ h => h) (Or.inl ⟨by rfl, ?_⟩) ?_
              rotate_left
              · (intro w; go_simp; try with_reducible rfl)
              try simp only [Act.put, List.setIfInBounds_toArray, List.set_cons_zero, List.set_cons_succ]
              refine wpAny_ready (rs := [6]) (by kernel_rfl) (by simp) ?_
              refine AllReady.cons (o := { dst := some 116, op := Op.load 9 (Operand.tmp 115), type := 9, pos := "ref.go:386", after := #[{ on := 5, ground := Ground.data }], guard := none }) rfl (fun K hK0 => ?_) AllReady.nil
              have hK := Lib.hid hK0
              clear hK0
              go_simp
              refine hK.out _ _ ?_
              clear hK K
              try simp only [Act.put, List.setIfInBounds_toArray, List.set_cons_zero, List.set_cons_succ]
              refine wpAny_take (i := 12) (oi := { dst := some 122, op := Op.binOp BinOp.add 9 (Operand.tmp 116) (Operand.tmp 121) 9, type := 9, pos := "ref.go:386", after := #[{ on := 6, ground := Ground.data }, { on := 11, ground := Ground.data }], guard := none }) (v := ?_) rfl (by kernel_rfl) (by kernel_rfl) (by kernel_rfl) (fun _ _ _ h => h) (Or.inl ⟨by rfl, ?_⟩) ?_
              rotate_left
              · (intro w; go_simp; try with_reducible rfl)
              try simp only [Act.put, List.setIfInBounds_toArray, List.set_cons_zero, List.set_cons_succ]
              refine wpAny_take (i := 13) (oi := { dst := some 123, op := Op.indexAddr 29 (Operand.tmp 111) (Operand.const (Value.int IntKind.i64 0)), type := 0, pos := "ref.go:386", after := #[{ on := 1, ground := Ground.data }, { on := 0, ground := Ground.phase }, { on := 1, ground := Ground.phase }, { on := 2, ground := Ground.phase }, { on := 3, ground := Ground.phase }, { on := 4, ground := Ground.phase }, { on := 5, ground := Ground.phase }, { on := 6, ground := Ground.phase }, { on := 7, ground := Ground.phase }, { on := 8, ground := Ground.phase }, { on := 9, ground := Ground.phase }, { on := 10, ground := Ground.phase }, { on := 11, ground := Ground.phase }, { on := 12, ground := Ground.phase }], guard := none }) (v := ?_) rfl (by kernel_rfl) (by kernel_rfl) (by kernel_rfl) (fun _ _ _ h => h) (Or.inl ⟨by rfl, ?_⟩) ?_
              rotate_left
              · (intro w; go_simp; try with_reducible rfl)
              try simp only [Act.put, List.setIfInBounds_toArray, List.set_cons_zero, List.set_cons_succ]
              refine wpAny_take (i := 14) (oi := { dst := some 124, op := Op.fieldAddr 33 (Operand.tmp 123) 1, type := 0, pos := "ref.go:386", after := #[{ on := 13, ground := Ground.data }, { on := 0, ground := Ground.phase }, { on := 1, ground := Ground.phase }, { on := 2, ground := Ground.phase }, { on := 3, ground := Ground.phase }, { on := 4, ground := Ground.phase }, { on := 5, ground := Ground.phase }, { on := 6, ground := Ground.phase }, { on := 7, ground := Ground.phase }, { on := 8, ground := Ground.phase }, { on := 9, ground := Ground.phase }, { on := 10, ground := Ground.phase }, { on := 11, ground := Ground.phase }, { on := 12, ground := Ground.phase }], guard := none }) (v := ?_) rfl (by kernel_rfl) (by kernel_rfl) (by kernel_rfl) (fun _ _ _ h => h) (Or.inl ⟨by rfl, ?_⟩) ?_
              rotate_left
              · (intro w; go_simp; try with_reducible rfl)
              try simp only [Act.put, List.setIfInBounds_toArray, List.set_cons_zero, List.set_cons_succ]
              refine wpAny_ready (rs := [15]) (by kernel_rfl) (by simp) ?_
              refine AllReady.cons (o := { dst := none, op := Op.store 9 (Operand.tmp 124) (Operand.tmp 122), type := 0, pos := "ref.go:386", after := #[{ on := 14, ground := Ground.data }, { on := 12, ground := Ground.data }, { on := 0, ground := Ground.phase }, { on := 1, ground := Ground.phase }, { on := 2, ground := Ground.phase }, { on := 3, ground := Ground.phase }, { on := 4, ground := Ground.phase }, { on := 5, ground := Ground.phase }, { on := 6, ground := Ground.phase }, { on := 7, ground := Ground.phase }, { on := 8, ground := Ground.phase }, { on := 9, ground := Ground.phase }, { on := 10, ground := Ground.phase }, { on := 11, ground := Ground.phase }, { on := 12, ground := Ground.phase }], guard := none }) rfl (fun K hK0 => ?_) AllReady.nil
              have hK := Lib.hid hK0
              clear hK0
              go_simp
              refine hK.out _ _ ?_
              clear hK K
              try simp only [Act.put, List.setIfInBounds_toArray, List.set_cons_zero, List.set_cons_succ]
              refine wpAny_done (by kernel_rfl) ?_ _
              go_wp2_with fail
              go_roundw
              case rel => exact ⟨1, _, by omega, by go_num, Lib.hid (by rw [heap_setCell_other _ _ _ _ hVA]; exact HVD.out), Lib.hid (by rw [HMRG.out]; exact Sx.own_one (heap_setCell_same wd (w.heap.size + 1) 1 _ _ _ HAD.out)), Lib.hid (fun h => absurd h (by decide)), Lib.hid (HBD.out.setCell (p := ⟨_, _, none⟩) (Nat.le_succ _) _)⟩
              case measure => simp [intOf]; omega
          · have hK := Lib.hid hK0
            clear hK0
            go_simp
            refine hK.out _ _ ?_
            clear hK K
            try simp only [Act.put, List.setIfInBounds_toArray, List.set_cons_zero, List.set_cons_succ]
            refine wpAny_ready (rs := [3, 11]) (by kernel_rfl) (by simp) ?_
            refine AllReady.cons (o := { dst := some 113, op := Op.load 29 (Operand.tmp 112), type := 29, pos := "ref.go:386", after := #[{ on := 2, ground := Ground.data }], guard := none }) rfl (fun K hK0 => ?_) ?_
            rotate_left
            refine AllReady.cons (o := { dst := some 121, op := Op.load 9 (Operand.tmp 120), type := 9, pos := "ref.go:386", after := #[{ on := 10, ground := Ground.data }], guard := none }) rfl (fun K hK0 => ?_) AllReady.nil
            · have hK := Lib.hid hK0
              clear hK0
              go_simp
              refine hK.out _ _ ?_
              clear hK K
              try simp only [Act.put, List.setIfInBounds_toArray, List.set_cons_zero, List.set_cons_succ]
              refine wpAny_ready (rs := [3]) (by kernel_rfl) (by simp) ?_
              refine AllReady.cons (o := { dst := some 113, op := Op.load 29 (Operand.tmp 112), type := 29, pos := "ref.go:386", after := #[{ on := 2, ground := Ground.data }], guard := none }) rfl (fun K hK0 => ?_) AllReady.nil
              have hK := Lib.hid hK0
              clear hK0
              go_simp
              refine hK.out _ _ ?_
              clear hK K
              try simp only [Act.put, List.setIfInBounds_toArray, List.set_cons_zero, List.set_cons_succ]
              refine wpAny_take (i := 4) (oi := { dst := some 114, op := Op.indexAddr 29 (Operand.tmp 113) (Operand.const (Value.int IntKind.i64 0)), type := 0, pos := "ref.go:386", after := #[{ on := 3, ground := Ground.data }], guard := none }) (v := ?_) rfl (by kernel_rfl) (by kernel_rfl) (by kernel_rfl) (fun _ _ _ h => h) (Or.inl ⟨by rfl, ?_⟩) ?_
              rotate_left
              · (intro w; go_simp; try with_reducible rfl)
              try simp only [Act.put, List.setIfInBounds_toArray, List.set_cons_zero, List.set_cons_succ]
              refine wpAny_take (i := 5) (oi := { dst := some 115, op := Op.fieldAddr 33 (Operand.tmp 114) 1, type := 0, pos := "ref.go:386", after := #[{ on := 4, ground := Ground.data }], guard := none }) (v := ?_) rfl (by kernel_rfl) (by kernel_rfl) (by kernel_rfl) (fun _ _ _ h => h) (Or.inl ⟨by rfl, ?_⟩) ?_
              rotate_left
              · (intro w; go_simp; try with_reducible rfl)
              try simp only [Act.put, List.setIfInBounds_toArray, List.set_cons_zero, List.set_cons_succ]
              refine wpAny_ready (rs := [6]) (by kernel_rfl) (by simp) ?_
              refine AllReady.cons (o := { dst := some 116, op := Op.load 9 (Operand.tmp 115), type := 9, pos := "ref.go:386", after := #[{ on := 5, ground := Ground.data }], guard := none }) rfl (fun K hK0 => ?_) AllReady.nil
              have hK := Lib.hid hK0
              clear hK0
              go_simp
              refine hK.out _ _ ?_
              clear hK K
              try simp only [Act.put, List.setIfInBounds_toArray, List.set_cons_zero, List.set_cons_succ]
              refine wpAny_take (i := 12) (oi := { dst := some 122, op := Op.binOp BinOp.add 9 (Operand.tmp 116) (Operand.tmp 121) 9, type := 9, pos := "ref.go:386", after := #[{ on := 6, ground := Ground.data }, { on := 11, ground := Ground.data }], guard := none }) (v := ?_) rfl (by kernel_rfl) (by kernel_rfl) (by kernel_rfl) (fun _ _ _ h => h) (Or.inl ⟨by rfl, ?_⟩) ?_
              rotate_left
              · (intro w; go_simp; try with_reducible rfl)
              try simp only [Act.put, List.setIfInBounds_toArray, List.set_cons_zero, List.set_cons_succ]
              refine wpAny_take (i := 13) (oi := { dst := some 123, op := Op.indexAddr 29 (Operand.tmp 111) (Operand.const (Value.int IntKind.i64 0)), type := 0, pos := "ref.go:386", after := #[{ on := 1, ground := Ground.data }, { on := 0, ground := Ground.phase }, { on := 1, ground := Ground.phase }, { on := 2, ground := Ground.phase }, { on := 3, ground := Ground.phase }, { on := 4, ground := Ground.phase }, { on := 5, ground := Ground.phase }, { on := 6, ground := Ground.phase }, { on := 7, ground := Ground.phase }, { on := 8, ground := Ground.phase }, { on := 9, ground := Ground.phase }, { on := 10, ground := Ground.phase }, { on := 11, ground := Ground.phase }, { on := 12, ground := Ground.phase }], guard := none }) (v := ?_) rfl (by kernel_rfl) (by kernel_rfl) (by kernel_rfl) (fun _ _ _ h => h) (Or.inl ⟨by rfl, ?_⟩) ?_
              rotate_left
              · (intro w; go_simp; try with_reducible rfl)
              try simp only [Act.put, List.setIfInBounds_toArray, List.set_cons_zero, List.set_cons_succ]
              refine wpAny_take (i := 14) (oi := { dst := some 124, op := Op.fieldAddr 33 (Operand.tmp 123) 1, type := 0, pos := "ref.go:386", after := #[{ on := 13, ground := Ground.data }, { on := 0, ground := Ground.phase }, { on := 1, ground := Ground.phase }, { on := 2, ground := Ground.phase }, { on := 3, ground := Ground.phase }, { on := 4, ground := Ground.phase }, { on := 5, ground := Ground.phase }, { on := 6, ground := Ground.phase }, { on := 7, ground := Ground.phase }, { on := 8, ground := Ground.phase }, { on := 9, ground := Ground.phase }, { on := 10, ground := Ground.phase }, { on := 11, ground := Ground.phase }, { on := 12, ground := Ground.phase }], guard := none }) (v := ?_) rfl (by kernel_rfl) (by kernel_rfl) (by kernel_rfl) (fun _ _ _ h => h) (Or.inl ⟨by rfl, ?_⟩) ?_
              rotate_left
              · (intro w; go_simp; try with_reducible rfl)
              try simp only [Act.put, List.setIfInBounds_toArray, List.set_cons_zero, List.set_cons_succ]
              refine wpAny_ready (rs := [15]) (by kernel_rfl) (by simp) ?_
              refine AllReady.cons (o := { dst := none, op := Op.store 9 (Operand.tmp 124) (Operand.tmp 122), type := 0, pos := "ref.go:386", after := #[{ on := 14, ground := Ground.data }, { on := 12, ground := Ground.data }, { on := 0, ground := Ground.phase }, { on := 1, ground := Ground.phase }, { on := 2, ground := Ground.phase }, { on := 3, ground := Ground.phase }, { on := 4, ground := Ground.phase }, { on := 5, ground := Ground.phase }, { on := 6, ground := Ground.phase }, { on := 7, ground := Ground.phase }, { on := 8, ground := Ground.phase }, { on := 9, ground := Ground.phase }, { on := 10, ground := Ground.phase }, { on := 11, ground := Ground.phase }, { on := 12, ground := Ground.phase }], guard := none }) rfl (fun K hK0 => ?_) AllReady.nil
              have hK := Lib.hid hK0
              clear hK0
              go_simp
              refine hK.out _ _ ?_
              clear hK K
              try simp only [Act.put, List.setIfInBounds_toArray, List.set_cons_zero, List.set_cons_succ]
              refine wpAny_done (by kernel_rfl) ?_ _
              go_wp2_with fail
              go_roundw
              case rel => exact ⟨1, _, by omega, by go_num, Lib.hid (by rw [heap_setCell_other _ _ _ _ hVA]; exact HVD.out), Lib.hid (by rw [HMRG.out]; exact Sx.own_one (heap_setCell_same wd (w.heap.size + 1) 1 _ _ _ HAD.out)), Lib.hid (fun h => absurd h (by decide)), Lib.hid (HBD.out.setCell (p := ⟨_, _, none⟩) (Nat.le_succ _) _)⟩
              case measure => simp [intOf]; omega
            · have hK := Lib.hid hK0
              clear hK0
              go_simp
              refine hK.out _ _ ?_
              clear hK K
              try simp only [Act.put, List.setIfInBounds_toArray, List.set_cons_zero, List.set_cons_succ]
              refine wpAny_take (i := 4) (oi := { dst := some 114, op := Op.indexAddr 29 (Operand.tmp 113) (Operand.const (Value.int IntKind.i64 0)), type := 0, pos := "ref.go:386", after := #[{ on := 3, ground := Ground.data }], guard := none }) (v := ?_) rfl (by kernel_rfl) (by kernel_rfl) (by kernel_rfl) (fun _ _ _ h => h) (Or.inl ⟨by rfl, ?_⟩) ?_
              rotate_left
              · (intro w; go_simp; try with_reducible rfl)
              try simp only [Act.put, List.setIfInBounds_toArray, List.set_cons_zero, List.set_cons_succ]
              refine wpAny_take (i := 5) (oi := { dst := some 115, op := Op.fieldAddr 33 (Operand.tmp 114) 1, type := 0, pos := "ref.go:386", after := #[{ on := 4, ground := Ground.data }], guard := none }) (v := ?_) rfl (by kernel_rfl) (by kernel_rfl) (by kernel_rfl) (fun _ _ _ h => h) (Or.inl ⟨by rfl, ?_⟩) ?_
              rotate_left
              · (intro w; go_simp; try with_reducible rfl)
              try simp only [Act.put, List.setIfInBounds_toArray, List.set_cons_zero, List.set_cons_succ]
              refine wpAny_ready (rs := [6, 11]) (by kernel_rfl) (by simp) ?_
              refine AllReady.cons (o := { dst := some 116, op := Op.load 9 (Operand.tmp 115), type := 9, pos := "ref.go:386", after := #[{ on := 5, ground := Ground.data }], guard := none }) rfl (fun K hK0 => ?_) ?_
              rotate_left
              refine AllReady.cons (o := { dst := some 121, op := Op.load 9 (Operand.tmp 120), type := 9, pos := "ref.go:386", after := #[{ on := 10, ground := Ground.data }], guard := none }) rfl (fun K hK0 => ?_) AllReady.nil
              · have hK := Lib.hid hK0
                clear hK0
                go_simp
                refine hK.out _ _ ?_
                clear hK K
                try simp only [Act.put, List.setIfInBounds_toArray, List.set_cons_zero, List.set_cons_succ]
                refine wpAny_ready (rs := [6]) (by kernel_rfl) (by simp) ?_
                refine AllReady.cons (o := { dst := some 116, op := Op.load 9 (Operand.tmp 115), type := 9, pos := "ref.go:386", after := #[{ on := 5, ground := Ground.data }], guard := none }) rfl (fun K hK0 => ?_) AllReady.nil
                have hK := Lib.hid hK0
                clear hK0
                go_simp
                refine hK.out _ _ ?_
                clear hK K
                try simp only [Act.put, List.setIfInBounds_toArray, List.set_cons_zero, List.set_cons_succ]
                refine wpAny_take (i := 12) (oi := { dst := some 122, op := Op.binOp BinOp.add 9 (Operand.tmp 116) (Operand.tmp 121) 9, type := 9, pos := "ref.go:386", after := #[{ on := 6, ground := Ground.data }, { on := 11, ground := Ground.data }], guard := none }) (v := ?_) rfl (by kernel_rfl) (by kernel_rfl) (by kernel_rfl) (fun _ _ _ h => h) (Or.inl ⟨by rfl, ?_⟩) ?_
                rotate_left
                · (intro w; go_simp; try with_reducible rfl)
                try simp only [Act.put, List.setIfInBounds_toArray, List.set_cons_zero, List.set_cons_succ]
                refine wpAny_take (i := 13) (oi := { dst := some 123, op := Op.indexAddr 29 (Operand.tmp 111) (Operand.const (Value.int IntKind.i64 0)), type := 0, pos := "ref.go:386", after := #[{ on := 1, ground := Ground.data }, { on := 0, ground := Ground.phase }, { on := 1, ground := Ground.phase }, { on := 2, ground := Ground.phase }, { on := 3, ground := Ground.phase }, { on := 4, ground := Ground.phase }, { on := 5, ground := Ground.phase }, { on := 6, ground := Ground.phase }, { on := 7, ground := Ground.phase }, { on := 8, ground := Ground.phase }, { on := 9, ground := Ground.phase }, { on := 10, ground := Ground.phase }, { on := 11, ground := Ground.phase }, { on := 12, ground := Ground.phase }], guard := none }) (v := ?_) rfl (by kernel_rfl) (by kernel_rfl) (by kernel_rfl) (fun _ _ _ h => h) (Or.inl ⟨by rfl, ?_⟩) ?_
                rotate_left
                · (intro w; go_simp; try with_reducible rfl)
                try simp only [Act.put, List.setIfInBounds_toArray, List.set_cons_zero, List.set_cons_succ]
                refine wpAny_take (i := 14) (oi := { dst := some 124, op := Op.fieldAddr 33 (Operand.tmp 123) 1, type := 0, pos := "ref.go:386", after := #[{ on := 13, ground := Ground.data }, { on := 0, ground := Ground.phase }, { on := 1, ground := Ground.phase }, { on := 2, ground := Ground.phase }, { on := 3, ground := Ground.phase }, { on := 4, ground := Ground.phase }, { on := 5, ground := Ground.phase }, { on := 6, ground := Ground.phase }, { on := 7, ground := Ground.phase }, { on := 8, ground := Ground.phase }, { on := 9, ground := Ground.phase }, { on := 10, ground := Ground.phase }, { on := 11, ground := Ground.phase }, { on := 12, ground := Ground.phase }], guard := none }) (v := ?_) rfl (by kernel_rfl) (by kernel_rfl) (by kernel_rfl) (fun _ _ _ h => h) (Or.inl ⟨by rfl, ?_⟩) ?_
                rotate_left
                · (intro w; go_simp; try with_reducible rfl)
                try simp only [Act.put, List.setIfInBounds_toArray, List.set_cons_zero, List.set_cons_succ]
                refine wpAny_ready (rs := [15]) (by kernel_rfl) (by simp) ?_
                refine AllReady.cons (o := { dst := none, op := Op.store 9 (Operand.tmp 124) (Operand.tmp 122), type := 0, pos := "ref.go:386", after := #[{ on := 14, ground := Ground.data }, { on := 12, ground := Ground.data }, { on := 0, ground := Ground.phase }, { on := 1, ground := Ground.phase }, { on := 2, ground := Ground.phase }, { on := 3, ground := Ground.phase }, { on := 4, ground := Ground.phase }, { on := 5, ground := Ground.phase }, { on := 6, ground := Ground.phase }, { on := 7, ground := Ground.phase }, { on := 8, ground := Ground.phase }, { on := 9, ground := Ground.phase }, { on := 10, ground := Ground.phase }, { on := 11, ground := Ground.phase }, { on := 12, ground := Ground.phase }], guard := none }) rfl (fun K hK0 => ?_) AllReady.nil
                have hK := Lib.hid hK0
                clear hK0
                go_simp
                refine hK.out _ _ ?_
                clear hK K
                try simp only [Act.put, List.setIfInBounds_toArray, List.set_cons_zero, List.set_cons_succ]
                refine wpAny_done (by kernel_rfl) ?_ _
                go_wp2_with fail
                go_roundw
                case rel => exact ⟨1, _, by omega, by go_num, Lib.hid (by rw [heap_setCell_other _ _ _ _ hVA]; exact HVD.out), Lib.hid (by rw [HMRG.out]; exact Sx.own_one (heap_setCell_same wd (w.heap.size + 1) 1 _ _ _ HAD.out)), Lib.hid (fun h => absurd h (by decide)), Lib.hid (HBD.out.setCell (p := ⟨_, _, none⟩) (Nat.le_succ _) _)⟩
                case measure => simp [intOf]; omega
              · have hK := Lib.hid hK0
                clear hK0
                go_simp
                refine hK.out _ _ ?_
                clear hK K
                try simp only [Act.put, List.setIfInBounds_toArray, List.set_cons_zero, List.set_cons_succ]
                refine wpAny_ready (rs := [11]) (by kernel_rfl) (by simp) ?_
                refine AllReady.cons (o := { dst := some 121, op := Op.load 9 (Operand.tmp 120), type := 9, pos := "ref.go:386", after := #[{ on := 10, ground := Ground.data }], guard := none }) rfl (fun K hK0 => ?_) AllReady.nil
                have hK := Lib.hid hK0
                clear hK0
                go_simp
                refine hK.out _ _ ?_
                clear hK K
                try simp only [Act.put, List.setIfInBounds_toArray, List.set_cons_zero, List.set_cons_succ]
                refine wpAny_take (i := 12) (oi := { dst := some 122, op := Op.binOp BinOp.add 9 (Operand.tmp 116) (Operand.tmp 121) 9, type := 9, pos := "ref.go:386", after := #[{ on := 6, ground := Ground.data }, { on := 11, ground := Ground.data }], guard := none }) (v := ?_) rfl (by kernel_rfl) (by kernel_rfl) (by kernel_rfl) (fun _ _ _ h => h) (Or.inl ⟨by rfl, ?_⟩) ?_
                rotate_left
                · (intro w; go_simp; try with_reducible rfl)
                try simp only [Act.put, List.setIfInBounds_toArray, List.set_cons_zero, List.set_cons_succ]
                refine wpAny_take (i := 13) (oi := { dst := some 123, op := Op.indexAddr 29 (Operand.tmp 111) (Operand.const (Value.int IntKind.i64 0)), type := 0, pos := "ref.go:386", after := #[{ on := 1, ground := Ground.data }, { on := 0, ground := Ground.phase }, { on := 1, ground := Ground.phase }, { on := 2, ground := Ground.phase }, { on := 3, ground := Ground.phase }, { on := 4, ground := Ground.phase }, { on := 5, ground := Ground.phase }, { on := 6, ground := Ground.phase }, { on := 7, ground := Ground.phase }, { on := 8, ground := Ground.phase }, { on := 9, ground := Ground.phase }, { on := 10, ground := Ground.phase }, { on := 11, ground := Ground.phase }, { on := 12, ground := Ground.phase }], guard := none }) (v := ?_) rfl (by kernel_rfl) (by kernel_rfl) (by kernel_rfl) (fun _ _ _ h => h) (Or.inl ⟨by rfl, ?_⟩) ?_
                rotate_left
                · (intro w; go_simp; try with_reducible rfl)
                try simp only [Act.put, List.setIfInBounds_toArray, List.set_cons_zero, List.set_cons_succ]
                refine wpAny_take (i := 14) (oi := { dst := some 124, op := Op.fieldAddr 33 (Operand.tmp 123) 1, type := 0, pos := "ref.go:386", after := #[{ on := 13, ground := Ground.data }, { on := 0, ground := Ground.phase }, { on := 1, ground := Ground.phase }, { on := 2, ground := Ground.phase }, { on := 3, ground := Ground.phase }, { on := 4, ground := Ground.phase }, { on := 5, ground := Ground.phase }, { on := 6, ground := Ground.phase }, { on := 7, ground := Ground.phase }, { on := 8, ground := Ground.phase }, { on := 9, ground := Ground.phase }, { on := 10, ground := Ground.phase }, { on := 11, ground := Ground.phase }, { on := 12, ground := Ground.phase }], guard := none }) (v := ?_) rfl (by kernel_rfl) (by kernel_rfl) (by kernel_rfl) (fun _ _ _ h => h) (Or.inl ⟨by rfl, ?_⟩) ?_
                rotate_left
                · (intro w; go_simp; try with_reducible rfl)
                try simp only [Act.put, List.setIfInBounds_toArray, List.set_cons_zero, List.set_cons_succ]
                refine wpAny_ready (rs := [15]) (by kernel_rfl) (by simp) ?_
                refine AllReady.cons (o := { dst := none, op := Op.store 9 (Operand.tmp 124) (Operand.tmp 122), type := 0, pos := "ref.go:386", after := #[{ on := 14, ground := Ground.data }, { on := 12, ground := Ground.data }, { on := 0, ground := Ground.phase }, { on := 1, ground := Ground.phase }, { on := 2, ground := Ground.phase }, { on := 3, ground := Ground.phase }, { on := 4, ground := Ground.phase }, { on := 5, ground := Ground.phase }, { on := 6, ground := Ground.phase }, { on := 7, ground := Ground.phase }, { on := 8, ground := Ground.phase }, { on := 9, ground := Ground.phase }, { on := 10, ground := Ground.phase }, { on := 11, ground := Ground.phase }, { on := 12, ground := Ground.phase }], guard := none }) rfl (fun K hK0 => ?_) AllReady.nil
                have hK := Lib.hid hK0
                clear hK0
                go_simp
                refine hK.out _ _ ?_
                clear hK K
                try simp only [Act.put, List.setIfInBounds_toArray, List.set_cons_zero, List.set_cons_succ]
                refine wpAny_done (by kernel_rfl) ?_ _
                go_wp2_with fail
                go_roundw
                case rel => exact ⟨1, _, by omega, by go_num, Lib.hid (by rw [heap_setCell_other _ _ _ _ hVA]; exact HVD.out), Lib.hid (by rw [HMRG.out]; exact Sx.own_one (heap_setCell_same wd (w.heap.size + 1) 1 _ _ _ HAD.out)), Lib.hid (fun h => absurd h (by decide)), Lib.hid (HBD.out.setCell (p := ⟨_, _, none⟩) (Nat.le_succ _) _)⟩
                case measure => simp [intOf]; omega
          · have hK := Lib.hid hK0
            clear hK0
            go_simp
            refine hK.out _ _ ?_
            clear hK K
            try simp only [Act.put, List.setIfInBounds_toArray, List.set_cons_zero, List.set_cons_succ]
            refine wpAny_take (i := 4) (oi := { dst := some 114, op := Op.indexAddr 29 (Operand.tmp 113) (Operand.const (Value.int IntKind.i64 0)), type := 0, pos := "ref.go:386", after := #[{ on := 3, ground := Ground.data }], guard := none }) (v := ?_) rfl (by kernel_rfl) (by kernel_rfl) (by kernel_rfl) (fun _ _ _ h => h) (Or.inl ⟨by rfl, ?_⟩) ?_
            rotate_left
            · (intro w; go_simp; try with_reducible rfl)
            try simp only [Act.put, List.setIfInBounds_toArray, List.set_cons_zero, List.set_cons_succ]
            refine wpAny_take (i := 5) (oi := { dst := some 115, op := Op.fieldAddr 33 (Operand.tmp 114) 1, type := 0, pos := "ref.go:386", after := #[{ on := 4, ground := Ground.data }], guard := none }) (v := ?_) rfl (by kernel_rfl) (by kernel_rfl) (by kernel_rfl) (fun _ _ _ h => h) (Or.inl ⟨by rfl, ?_⟩) ?_
            rotate_left
            · (intro w; go_simp; try with_reducible rfl)
            try simp only [Act.put, List.setIfInBounds_toArray, List.set_cons_zero, List.set_cons_succ]
            refine wpAny_ready (rs := [1, 6, 11]) (by kernel_rfl) (by simp) ?_
            refine AllReady.cons (o := { dst := some 111, op := Op.load 29 (Operand.tmp 110), type := 29, pos := "ref.go:386", after := #[{ on := 0, ground := Ground.data }], guard := none }) rfl (fun K hK0 => ?_) ?_
            rotate_left
            refine AllReady.cons (o := { dst := some 116, op := Op.load 9 (Operand.tmp 115), type := 9, pos := "ref.go:386", after := #[{ on := 5, ground := Ground.data }], guard := none }) rfl (fun K hK0 => ?_) ?_
            rotate_left
            refine AllReady.cons (o := { dst := some 121, op := Op.load 9 (Operand.tmp 120), type := 9, pos := "ref.go:386", after := #[{ on := 10, ground := Ground.data }], guard := none }) rfl (fun K hK0 => ?_) AllReady.nil
            · have hK := Lib.hid hK0
              clear hK0
              go_simp
              refine hK.out _ _ ?_
              clear hK K
              try simp only [Act.put, List.setIfInBounds_toArray, List.set_cons_zero, List.set_cons_succ]
              refine wpAny_ready (rs := [1, 6]) (by kernel_rfl) (by simp) ?_
              refine AllReady.cons (o := { dst := some 111, op := Op.load 29 (Operand.tmp 110), type := 29, pos := "ref.go:386", after := #[{ on := 0, ground := Ground.data }], guard := none }) rfl (fun K hK0 => ?_) ?_
              rotate_left
              refine AllReady.cons (o := { dst := some 116, op := Op.load 9 (Operand.tmp 115), type := 9, pos := "ref.go:386", after := #[{ on := 5, ground := Ground.data }], guard := none }) rfl (fun K hK0 => ?_) AllReady.nil
              · have hK := Lib.hid hK0
                clear hK0
                go_simp
                refine hK.out _ _ ?_
                clear hK K
                try simp only [Act.put, List.setIfInBounds_toArray, List.set_cons_zero, List.set_cons_succ]
                refine wpAny_take (i := 12) (oi := { dst := some 122, op := Op.binOp BinOp.add 9 (Operand.tmp 116) (Operand.tmp 121) 9, type := 9, pos := "ref.go:386", after := #[{ on := 6, ground := Ground.data }, { on := 11, ground := Ground.data }], guard := none }) (v := ?_) rfl (by kernel_rfl) (by kernel_rfl) (by kernel_rfl) (fun _ _ _ h => h) (Or.inl ⟨by rfl, ?_⟩) ?_
                rotate_left
                · (intro w; go_simp; try with_reducible rfl)
                try simp only [Act.put, List.setIfInBounds_toArray, List.set_cons_zero, List.set_cons_succ]
                refine wpAny_ready (rs := [1]) (by kernel_rfl) (by simp) ?_
                refine AllReady.cons (o := { dst := some 111, op := Op.load 29 (Operand.tmp 110), type := 29, pos := "ref.go:386", after := #[{ on := 0, ground := Ground.data }], guard := none }) rfl (fun K hK0 => ?_) AllReady.nil
                have hK := Lib.hid hK0
                clear hK0
                go_simp
                refine hK.out _ _ ?_
                clear hK K
                try simp only [Act.put, List.setIfInBounds_toArray, List.set_cons_zero, List.set_cons_succ]
                refine wpAny_take (i := 13) (oi := { dst := some 123, op := Op.indexAddr 29 (Operand.tmp 111) (Operand.const (Value.int IntKind.i64 0)), type := 0, pos := "ref.go:386", after := #[{ on := 1, ground := Ground.data }, { on := 0, ground := Ground.phase }, { on := 1, ground := Ground.phase }, { on := 2, ground := Ground.phase }, { on := 3, ground := Ground.phase }, { on := 4, ground := Ground.phase }, { on := 5, ground := Ground.phase }, { on := 6, ground := Ground.phase }, { on := 7, ground := Ground.phase }, { on := 8, ground := Ground.phase }, { on := 9, ground := Ground.phase }, { on := 10, ground := Ground.phase }, { on := 11, ground := Ground.phase }, { on := 12, ground := Ground.phase }], guard := none }) (v := ?_) rfl (by kernel_rfl) (by kernel_rfl) (by kernel_rfl) (fun _ _ _ h => h) (Or.inl ⟨by rfl, ?_⟩) ?_
                rotate_left
                · (intro w; go_simp; try with_reducible rfl)
                try simp only [Act.put, List.setIfInBounds_toArray, List.set_cons_zero, List.set_cons_succ]
                refine wpAny_take (i := 14) (oi := { dst := some 124, op := Op.fieldAddr 33 (Operand.tmp 123) 1, type := 0, pos := "ref.go:386", after := #[{ on := 13, ground := Ground.data }, { on := 0, ground := Ground.phase }, { on := 1, ground := Ground.phase }, { on := 2, ground := Ground.phase }, { on := 3, ground := Ground.phase }, { on := 4, ground := Ground.phase }, { on := 5, ground := Ground.phase }, { on := 6, ground := Ground.phase }, { on := 7, ground := Ground.phase }, { on := 8, ground := Ground.phase }, { on := 9, ground := Ground.phase }, { on := 10, ground := Ground.phase }, { on := 11, ground := Ground.phase }, { on := 12, ground := Ground.phase }], guard := none }) (v := ?_) rfl (by kernel_rfl) (by kernel_rfl) (by kernel_rfl) (fun _ _ _ h => h) (Or.inl ⟨by rfl, ?_⟩) ?_
                rotate_left
                · (intro w; go_simp; try with_reducible rfl)
                try simp only [Act.put, List.setIfInBounds_toArray, List.set_cons_zero, List.set_cons_succ]
                refine wpAny_ready (rs := [15]) (by kernel_rfl) (by simp) ?_
                refine AllReady.cons (o := { dst := none, op := Op.store 9 (Operand.tmp 124) (Operand.tmp 122), type := 0, pos := "ref.go:386", after := #[{ on := 14, ground := Ground.data }, { on := 12, ground := Ground.data }, { on := 0, ground := Ground.phase }, { on := 1, ground := Ground.phase }, { on := 2, ground := Ground.phase }, { on := 3, ground := Ground.phase }, { on := 4, ground := Ground.phase }, { on := 5, ground := Ground.phase }, { on := 6, ground := Ground.phase }, { on := 7, ground := Ground.phase }, { on := 8, ground := Ground.phase }, { on := 9, ground := Ground.phase }, { on := 10, ground := Ground.phase }, { on := 11, ground := Ground.phase }, { on := 12, ground := Ground.phase }], guard := none }) rfl (fun K hK0 => ?_) AllReady.nil
                have hK := Lib.hid hK0
                clear hK0
                go_simp
                refine hK.out _ _ ?_
                clear hK K
                try simp only [Act.put, List.setIfInBounds_toArray, List.set_cons_zero, List.set_cons_succ]
                refine wpAny_done (by kernel_rfl) ?_ _
                go_wp2_with fail
                go_roundw
                case rel => exact ⟨1, _, by omega, by go_num, Lib.hid (by rw [heap_setCell_other _ _ _ _ hVA]; exact HVD.out), Lib.hid (by rw [HMRG.out]; exact Sx.own_one (heap_setCell_same wd (w.heap.size + 1) 1 _ _ _ HAD.out)), Lib.hid (fun h => absurd h (by decide)), Lib.hid (HBD.out.setCell (p := ⟨_, _, none⟩) (Nat.le_succ _) _)⟩
                case measure => simp [intOf]; omega
              · have hK := Lib.hid hK0
                clear hK0
                go_simp
                refine hK.out _ _ ?_
                clear hK K
                try simp only [Act.put, List.setIfInBounds_toArray, List.set_cons_zero, List.set_cons_succ]
                refine wpAny_ready (rs := [6]) (by kernel_rfl) (by simp) ?_
                refine AllReady.cons (o := { dst := some 116, op := Op.load 9 (Operand.tmp 115), type := 9, pos := "ref.go:386", after := #[{ on := 5, ground := Ground.data }], guard := none }) rfl (fun K hK0 => ?_) AllReady.nil
                have hK := Lib.hid hK0
                clear hK0
                go_simp
                refine hK.out _ _ ?_
                clear hK K
                try simp only [Act.put, List.setIfInBounds_toArray, List.set_cons_zero, List.set_cons_succ]
                refine wpAny_take (i := 12) (oi := { dst := some 122, op := Op.binOp BinOp.add 9 (Operand.tmp 116) (Operand.tmp 121) 9, type := 9, pos := "ref.go:386", after := #[{ on := 6, ground := Ground.data }, { on := 11, ground := Ground.data }], guard := none }) (v := ?_) rfl (by kernel_rfl) (by kernel_rfl) (by kernel_rfl) (fun _ _ _ h => h) (Or.inl ⟨by rfl, ?_⟩) ?_
                rotate_left
                · (intro w; go_simp; try with_reducible rfl)
                try simp only [Act.put, List.setIfInBounds_toArray, List.set_cons_zero, List.set_cons_succ]
                refine wpAny_take (i := 13) (oi := { dst := some 123, op := Op.indexAddr 29 (Operand.tmp 111) (Operand.const (Value.int IntKind.i64 0)), type := 0, pos := "ref.go:386", after := #[{ on := 1, ground := Ground.data }, { on := 0, ground := Ground.phase }, { on := 1, ground := Ground.phase }, { on := 2, ground := Ground.phase }, { on := 3, ground := Ground.phase }, { on := 4, ground := Ground.phase }, { on := 5, ground := Ground.phase }, { on := 6, ground := Ground.phase }, { on := 7, ground := Ground.phase }, { on := 8, ground := Ground.phase }, { on := 9, ground := Ground.phase }, { on := 10, ground := Ground.phase }, { on := 11, ground := Ground.phase }, { on := 12, ground := Ground.phase }], guard := none }) (v := ?_) rfl (by kernel_rfl) (by kernel_rfl) (by kernel_rfl) (fun _ _ _ h => h) (Or.inl ⟨by rfl, ?_⟩) ?_
                rotate_left
                · (intro w; go_simp; try with_reducible rfl)
                try simp only [Act.put, List.setIfInBounds_toArray, List.set_cons_zero, List.set_cons_succ]
                refine wpAny_take (i := 14) (oi := { dst := some 124, op := Op.fieldAddr 33 (Operand.tmp 123) 1, type := 0, pos := "ref.go:386", after := #[{ on := 13, ground := Ground.data }, { on := 0, ground := Ground.phase }, { on := 1, ground := Ground.phase }, { on := 2, ground := Ground.phase }, { on := 3, ground := Ground.phase }, { on := 4, ground := Ground.phase }, { on := 5, ground := Ground.phase }, { on := 6, ground := Ground.phase }, { on := 7, ground := Ground.phase }, { on := 8, ground := Ground.phase }, { on := 9, ground := Ground.phase }, { on := 10, ground := Ground.phase }, { on := 11, ground := Ground.phase }, { on := 12, ground := Ground.phase }], guard := none }) (v := ?_) rfl (by kernel_rfl) (by kernel_rfl) (by kernel_rfl) (fun _ _ _ h => h) (Or.inl ⟨by rfl, ?_⟩) ?_
                rotate_left
                · (intro w; go_simp; try with_reducible rfl)
                try simp only [Act.put, List.setIfInBounds_toArray, List.set_cons_zero, List.set_cons_succ]
                refine wpAny_ready (rs := [15]) (by kernel_rfl) (by simp) ?_
                refine AllReady.cons (o := { dst := none, op := Op.store 9 (Operand.tmp 124) (Operand.tmp 122), type := 0, pos := "ref.go:386", after := #[{ on := 14, ground := Ground.data }, { on := 12, ground := Ground.data }, { on := 0, ground := Ground.phase }, { on := 1, ground := Ground.phase }, { on := 2, ground := Ground.phase }, { on := 3, ground := Ground.phase }, { on := 4, ground := Ground.phase }, { on := 5, ground := Ground.phase }, { on := 6, ground := Ground.phase }, { on := 7, ground := Ground.phase }, { on := 8, ground := Ground.phase }, { on := 9, ground := Ground.phase }, { on := 10, ground := Ground.phase }, { on := 11, ground := Ground.phase }, { on := 12, ground := Ground.phase }], guard := none }) rfl (fun K hK0 => ?_) AllReady.nil
                have hK := Lib.hid hK0
                clear hK0
                go_simp
                refine hK.out _ _ ?_
                clear hK K
                try simp only [Act.put, List.setIfInBounds_toArray, List.set_cons_zero, List.set_cons_succ]
                refine wpAny_done (by kernel_rfl) ?_ _
                go_wp2_with fail
                go_roundw
                case rel => exact ⟨1, _, by omega, by go_num, Lib.hid (by rw [heap_setCell_other _ _ _ _ hVA]; exact HVD.out), Lib.hid (by rw [HMRG.out]; exact Sx.own_one (heap_setCell_same wd (w.heap.size + 1) 1 _ _ _ HAD.out)), Lib.hid (fun h => absurd h (by decide)), Lib.hid (HBD.out.setCell (p := ⟨_, _, none⟩) (Nat.le_succ _) _)⟩
                case measure => simp [intOf]; omega
            · have hK := Lib.hid hK0
              clear hK0
              go_simp
              refine hK.out _ _ ?_
              clear hK K
              try simp only [Act.put, List.setIfInBounds_toArray, List.set_cons_zero, List.set_cons_succ]
              refine wpAny_ready (rs := [6, 11]) (by kernel_rfl) (by simp) ?_
              refine AllReady.cons (o := { dst := some 116, op := Op.load 9 (Operand.tmp 115), type := 9, pos := "ref.go:386", after := #[{ on := 5, ground := Ground.data }], guard := none }) rfl (fun K hK0 => ?_) ?_
              rotate_left
              refine AllReady.cons (o := { dst := some 121, op := Op.load 9 (Operand.tmp 120), type := 9, pos := "ref.go:386", after := #[{ on := 10, ground := Ground.data }], guard := none }) rfl (fun K hK0 => ?_) AllReady.nil
              · have hK := Lib.hid hK0
                clear hK0
                go_simp
                refine hK.out _ _ ?_
                clear hK K
                try simp only [Act.put, List.setIfInBounds_toArray, List.set_cons_zero, List.set_cons_succ]
                refine wpAny_ready (rs := [6]) (by kernel_rfl) (by simp) ?_
                refine AllReady.cons (o := { dst := some 116, op := Op.load 9 (Operand.tmp 115), type := 9, pos := "ref.go:386", after := #[{ on := 5, ground := Ground.data }], guard := none }) rfl (fun K hK0 => ?_) AllReady.nil
                have hK := Lib.hid hK0
                clear hK0
                go_simp
                refine hK.out _ _ ?_
                clear hK K
                try simp only [Act.put, List.setIfInBounds_toArray, List.set_cons_zero, List.set_cons_succ]
                refine wpAny_take (i := 12) (oi := { dst := some 122, op := Op.binOp BinOp.add 9 (Operand.tmp 116) (Operand.tmp 121) 9, type := 9, pos := "ref.go:386", after := #[{ on := 6, ground := Ground.data }, { on := 11, ground := Ground.data }], guard := none }) (v := ?_) rfl (by kernel_rfl) (by kernel_rfl) (by kernel_rfl) (fun _ _ _ h => h) (Or.inl ⟨by rfl, ?_⟩) ?_
                rotate_left
                · (intro w; go_simp; try with_reducible rfl)
                try simp only [Act.put, List.setIfInBounds_toArray, List.set_cons_zero, List.set_cons_succ]
                refine wpAny_take (i := 13) (oi := { dst := some 123, op := Op.indexAddr 29 (Operand.tmp 111) (Operand.const (Value.int IntKind.i64 0)), type := 0, pos := "ref.go:386", after := #[{ on := 1, ground := Ground.data }, { on := 0, ground := Ground.phase }, { on := 1, ground := Ground.phase }, { on := 2, ground := Ground.phase }, { on := 3, ground := Ground.phase }, { on := 4, ground := Ground.phase }, { on := 5, ground := Ground.phase }, { on := 6, ground := Ground.phase }, { on := 7, ground := Ground.phase }, { on := 8, ground := Ground.phase }, { on := 9, ground := Ground.phase }, { on := 10, ground := Ground.phase }, { on := 11, ground := Ground.phase }, { on := 12, ground := Ground.phase }], guard := none }) (v := ?_) rfl (by kernel_rfl) (by kernel_rfl) (by kernel_rfl) (fun _ _ _ h => h) (Or.inl ⟨by rfl, ?_⟩) ?_
                rotate_left
                · (intro w; go_simp; try with_reducible rfl)
                try simp only [Act.put, List.setIfInBounds_toArray, List.set_cons_zero, List.set_cons_succ]
                refine wpAny_take (i := 14) (oi := { dst := some 124, op := Op.fieldAddr 33 (Operand.tmp 123) 1, type := 0, pos := "ref.go:386", after := #[{ on := 13, ground := Ground.data }, { on := 0, ground := Ground.phase }, { on := 1, ground := Ground.phase }, { on := 2, ground := Ground.phase }, { on := 3, ground := Ground.phase }, { on := 4, ground := Ground.phase }, { on := 5, ground := Ground.phase }, { on := 6, ground := Ground.phase }, { on := 7, ground := Ground.phase }, { on := 8, ground := Ground.phase }, { on := 9, ground := Ground.phase }, { on := 10, ground := Ground.phase }, { on := 11, ground := Ground.phase }, { on := 12, ground := Ground.phase }], guard := none }) (v := ?_) rfl (by kernel_rfl) (by kernel_rfl) (by kernel_rfl) (fun _ _ _ h => h) (Or.inl ⟨by rfl, ?_⟩) ?_
                rotate_left
                · (intro w; go_simp; try with_reducible rfl)
                try simp only [Act.put, List.setIfInBounds_toArray, List.set_cons_zero, List.set_cons_succ]
                refine wpAny_ready (rs := [15]) (by kernel_rfl) (by simp) ?_
                refine AllReady.cons (o := { dst := none, op := Op.store 9 (Operand.tmp 124) (Operand.tmp 122), type := 0, pos := "ref.go:386", after := #[{ on := 14, ground := Ground.data }, { on := 12, ground := Ground.data }, { on := 0, ground := Ground.phase }, { on := 1, ground := Ground.phase }, { on := 2, ground := Ground.phase }, { on := 3, ground := Ground.phase }, { on := 4, ground := Ground.phase }, { on := 5, ground := Ground.phase }, { on := 6, ground := Ground.phase }, { on := 7, ground := Ground.phase }, { on := 8, ground := Ground.phase }, { on := 9, ground := Ground.phase }, { on := 10, ground := Ground.phase }, { on := 11, ground := Ground.phase }, { on := 12, ground := Ground.phase }], guard := none }) rfl (fun K hK0 => ?_) AllReady.nil
                have hK := Lib.hid hK0
                clear hK0
                go_simp
                refine hK.out _ _ ?_
                clear hK K
                try simp only [Act.put, List.setIfInBounds_toArray, List.set_cons_zero, List.set_cons_succ]
                refine wpAny_done (by kernel_rfl) ?_ _
                go_wp2_with fail
                go_roundw
                case rel => exact ⟨1, _, by omega, by go_num, Lib.hid (by rw [heap_setCell_other _ _ _ _ hVA]; exact HVD.out), Lib.hid (by rw [HMRG.out]; exact Sx.own_one (heap_setCell_same wd (w.heap.size + 1) 1 _ _ _ HAD.out)), Lib.hid (fun h => absurd h (by decide)), Lib.hid (HBD.out.setCell (p := ⟨_, _, none⟩) (Nat.le_succ _) _)⟩
                case measure => simp [intOf]; omega
              · have hK := Lib.hid hK0
                clear hK0
                go_simp
                refine hK.out _ _ ?_
                clear hK K
                try simp only [Act.put, List.setIfInBounds_toArray, List.set_cons_zero, List.set_cons_succ]
                refine wpAny_ready (rs := [11]) (by kernel_rfl) (by simp) ?_
                refine AllReady.cons (o := { dst := some 121, op := Op.load 9 (Operand.tmp 120), type := 9, pos := "ref.go:386", after := #[{ on := 10, ground := Ground.data }], guard := none }) rfl (fun K hK0 => ?_) AllReady.nil
                have hK := Lib.hid hK0
                clear hK0
                go_simp
                refine hK.out _ _ ?_
                clear hK K
                try simp only [Act.put, List.setIfInBounds_toArray, List.set_cons_zero, List.set_cons_succ]
                refine wpAny_take (i := 12) (oi := { dst := some 122, op := Op.binOp BinOp.add 9 (Operand.tmp 116) (Operand.tmp 121) 9, type := 9, pos := "ref.go:386", after := #[{ on := 6, ground := Ground.data }, { on := 11, ground := Ground.data }], guard := none }) (v := ?_) rfl (by kernel_rfl) (by kernel_rfl) (by kernel_rfl) (fun _ _ _ h => h) (Or.inl ⟨by rfl, ?_⟩) ?_
                rotate_left
                · (intro w; go_simp; try with_reducible rfl)
                try simp only [Act.put, List.setIfInBounds_toArray, List.set_cons_zero, List.set_cons_succ]
                refine wpAny_take (i := 13) (oi := { dst := some 123, op := Op.indexAddr 29 (Operand.tmp 111) (Operand.const (Value.int IntKind.i64 0)), type := 0, pos := "ref.go:386", after := #[{ on := 1, ground := Ground.data }, { on := 0, ground := Ground.phase }, { on := 1, ground := Ground.phase }, { on := 2, ground := Ground.phase }, { on := 3, ground := Ground.phase }, { on := 4, ground := Ground.phase }, { on := 5, ground := Ground.phase }, { on := 6, ground := Ground.phase }, { on := 7, ground := Ground.phase }, { on := 8, ground := Ground.phase }, { on := 9, ground := Ground.phase }, { on := 10, ground := Ground.phase }, { on := 11, ground := Ground.phase }, { on := 12, ground := Ground.phase }], guard := none }) (v := ?_) rfl (by kernel_rfl) (by kernel_rfl) (by kernel_rfl) (fun _ _ _ h => h) (Or.inl ⟨by rfl, ?_⟩) ?_
                rotate_left
                · (intro w; go_simp; try with_reducible rfl)
                try simp only [Act.put, List.setIfInBounds_toArray, List.set_cons_zero, List.set_cons_succ]
                refine wpAny_take (i := 14) (oi := { dst := some 124, op := Op.fieldAddr 33 (Operand.tmp 123) 1, type := 0, pos := "ref.go:386", after := #[{ on := 13, ground := Ground.data }, { on := 0, ground := Ground.phase }, { on := 1, ground := Ground.phase }, { on := 2, ground := Ground.phase }, { on := 3, ground := Ground.phase }, { on := 4, ground := Ground.phase }, { on := 5, ground := Ground.phase }, { on := 6, ground := Ground.phase }, { on := 7, ground := Ground.phase }, { on := 8, ground := Ground.phase }, { on := 9, ground := Ground.phase }, { on := 10, ground := Ground.phase }, { on := 11, ground := Ground.phase }, { on := 12, ground := Ground.phase }], guard := none }) (v := ?_) rfl (by kernel_rfl) (by kernel_rfl) (by kernel_rfl) (fun _ _ _ h => h) (Or.inl ⟨by rfl, ?_⟩) ?_
                rotate_left
                · (intro w; go_simp; try with_reducible rfl)
                try simp only [Act.put, List.setIfInBounds_toArray, List.set_cons_zero, List.set_cons_succ]
                refine wpAny_ready (rs := [15]) (by kernel_rfl) (by simp) ?_
                refine AllReady.cons (o := { dst := none, op := Op.store 9 (Operand.tmp 124) (Operand.tmp 122), type := 0, pos := "ref.go:386", after := #[{ on := 14, ground := Ground.data }, { on := 12, ground := Ground.data }, { on := 0, ground := Ground.phase }, { on := 1, ground := Ground.phase }, { on := 2, ground := Ground.phase }, { on := 3, ground := Ground.phase }, { on := 4, ground := Ground.phase }, { on := 5, ground := Ground.phase }, { on := 6, ground := Ground.phase }, { on := 7, ground := Ground.phase }, { on := 8, ground := Ground.phase }, { on := 9, ground := Ground.phase }, { on := 10, ground := Ground.phase }, { on := 11, ground := Ground.phase }, { on := 12, ground := Ground.phase }], guard := none }) rfl (fun K hK0 => ?_) AllReady.nil
                have hK := Lib.hid hK0
                clear hK0
                go_simp
                refine hK.out _ _ ?_
                clear hK K
                try simp only [Act.put, List.setIfInBounds_toArray, List.set_cons_zero, List.set_cons_succ]
                refine wpAny_done (by kernel_rfl) ?_ _
                go_wp2_with fail
                go_roundw
                case rel => exact ⟨1, _, by omega, by go_num, Lib.hid (by rw [heap_setCell_other _ _ _ _ hVA]; exact HVD.out), Lib.hid (by rw [HMRG.out]; exact Sx.own_one (heap_setCell_same wd (w.heap.size + 1) 1 _ _ _ HAD.out)), Lib.hid (fun h => absurd h (by decide)), Lib.hid (HBD.out.setCell (p := ⟨_, _, none⟩) (Nat.le_succ _) _)⟩
                case measure => simp [intOf]; omega
            · have hK := Lib.hid hK0
              clear hK0
              go_simp
              refine hK.out _ _ ?_
              clear hK K
              try simp only [Act.put, List.setIfInBounds_toArray, List.set_cons_zero, List.set_cons_succ]
              refine wpAny_ready (rs := [1, 11]) (by kernel_rfl) (by simp) ?_
              refine AllReady.cons (o := { dst := some 111, op := Op.load 29 (Operand.tmp 110), type := 29, pos := "ref.go:386", after := #[{ on := 0, ground := Ground.data }], guard := none }) rfl (fun K hK0 => ?_) ?_
              rotate_left
              refine AllReady.cons (o := { dst := some 121, op := Op.load 9 (Operand.tmp 120), type := 9, pos := "ref.go:386", after := #[{ on := 10, ground := Ground.data }], guard := none }) rfl (fun K hK0 => ?_) AllReady.nil
              · have hK := Lib.hid hK0
                clear hK0
                go_simp
                refine hK.out _ _ ?_
                clear hK K
                try simp only [Act.put, List.setIfInBounds_toArray, List.set_cons_zero, List.set_cons_succ]
                refine wpAny_take (i := 12) (oi := { dst := some 122, op := Op.binOp BinOp.add 9 (Operand.tmp 116) (Operand.tmp 121) 9, type := 9, pos := "ref.go:386", after := #[{ on := 6, ground := Ground.data }, { on := 11, ground := Ground.data }], guard := none }) (v := ?_) rfl (by kernel_rfl) (by kernel_rfl) (by kernel_rfl) (fun _ _ _ h => h) (Or.inl ⟨by rfl, ?_⟩) ?_
                rotate_left
                · (intro w; go_simp; try with_reducible rfl)
                try simp only [Act.put, List.setIfInBounds_toArray, List.set_cons_zero, List.set_cons_succ]
                refine wpAny_ready (rs := [1]) (by kernel_rfl) (by simp) ?_
                refine AllReady.cons (o := { dst := some 111, op := Op.load 29 (Operand.tmp 110), type := 29, pos := "ref.go:386", after := #[{ on := 0, ground := Ground.data }], guard := none }) rfl (fun K hK0 => ?_) AllReady.nil
                have hK := Lib.hid hK0
                clear hK0
                go_simp
                refine hK.out _ _ ?_
                clear hK K
                try simp only [Act.put, List.setIfInBounds_toArray, List.set_cons_zero, List.set_cons_succ]
                refine wpAny_take (i := 13) (oi := { dst := some 123, op := Op.indexAddr 29 (Operand.tmp 111) (Operand.const (Value.int IntKind.i64 0)), type := 0, pos := "ref.go:386", after := #[{ on := 1, ground := Ground.data }, { on := 0, ground := Ground.phase }, { on := 1, ground := Ground.phase }, { on := 2, ground := Ground.phase }, { on := 3, ground := Ground.phase }, { on := 4, ground := Ground.phase }, { on := 5, ground := Ground.phase }, { on := 6, ground := Ground.phase }, { on := 7, ground := Ground.phase }, { on := 8, ground := Ground.phase }, { on := 9, ground := Ground.phase }, { on := 10, ground := Ground.phase }, { on := 11, ground := Ground.phase }, { on := 12, ground := Ground.phase }], guard := none }) (v := ?_) rfl (by kernel_rfl) (by kernel_rfl) (by kernel_rfl) (fun _ _ _ h => h) (Or.inl ⟨by rfl, ?_⟩) ?_
                rotate_left
                · (intro w; go_simp; try with_reducible rfl)
                try simp only [Act.put, List.setIfInBounds_toArray, List.set_cons_zero, List.set_cons_succ]
                refine wpAny_take (i := 14) (oi := { dst := some 124, op := Op.fieldAddr 33 (Operand.tmp 123) 1, type := 0, pos := "ref.go:386", after := #[{ on := 13, ground := Ground.data }, { on := 0, ground := Ground.phase }, { on := 1, ground := Ground.phase }, { on := 2, ground := Ground.phase }, { on := 3, ground := Ground.phase }, { on := 4, ground := Ground.phase }, { on := 5, ground := Ground.phase }, { on := 6, ground := Ground.phase }, { on := 7, ground := Ground.phase }, { on := 8, ground := Ground.phase }, { on := 9, ground := Ground.phase }, { on := 10, ground := Ground.phase }, { on := 11, ground := Ground.phase }, { on := 12, ground := Ground.phase }], guard := none }) (v := ?_) rfl (by kernel_rfl) (by kernel_rfl) (by kernel_rfl) (fun _ _ _ h => h) (Or.inl ⟨by rfl, ?_⟩) ?_
                rotate_left
                · (intro w; go_simp; try with_reducible rfl)
                try simp only [Act.put, List.setIfInBounds_toArray, List.set_cons_zero, List.set_cons_succ]
                refine wpAny_ready (rs := [15]) (by kernel_rfl) (by simp) ?_
                refine AllReady.cons (o := { dst := none, op := Op.store 9 (Operand.tmp 124) (Operand.tmp 122), type := 0, pos := "ref.go:386", after := #[{ on := 14, ground := Ground.data }, { on := 12, ground := Ground.data }, { on := 0, ground := Ground.phase }, { on := 1, ground := Ground.phase }, { on := 2, ground := Ground.phase }, { on := 3, ground := Ground.phase }, { on := 4, ground := Ground.phase }, { on := 5, ground := Ground.phase }, { on := 6, ground := Ground.phase }, { on := 7, ground := Ground.phase }, { on := 8, ground := Ground.phase }, { on := 9, ground := Ground.phase }, { on := 10, ground := Ground.phase }, { on := 11, ground := Ground.phase }, { on := 12, ground := Ground.phase }], guard := none }) rfl (fun K hK0 => ?_) AllReady.nil
                have hK := Lib.hid hK0
                clear hK0
                go_simp
                refine hK.out _ _ ?_
                clear hK K
                try simp only [Act.put, List.setIfInBounds_toArray, List.set_cons_zero, List.set_cons_succ]
                refine wpAny_done (by kernel_rfl) ?_ _
                go_wp2_with fail
                go_roundw
                case rel => exact ⟨1, _, by omega, by go_num, Lib.hid (by rw [heap_setCell_other _ _ _ _ hVA]; exact HVD.out), Lib.hid (by rw [HMRG.out]; exact Sx.own_one (heap_setCell_same wd (w.heap.size + 1) 1 _ _ _ HAD.out)), Lib.hid (fun h => absurd h (by decide)), Lib.hid (HBD.out.setCell (p := ⟨_, _, none⟩) (Nat.le_succ _) _)⟩
                case measure => simp [intOf]; omega
              · have hK := Lib.hid hK0
                clear hK0
                go_simp
                refine hK.out _ _ ?_
                clear hK K
                try simp only [Act.put, List.setIfInBounds_toArray, List.set_cons_zero, List.set_cons_succ]
                refine wpAny_ready (rs := [11]) (by kernel_rfl) (by simp) ?_
                refine AllReady.cons (o := { dst := some 121, op := Op.load 9 (Operand.tmp 120), type := 9, pos := "ref.go:386", after := #[{ on := 10, ground := Ground.data }], guard := none }) rfl (fun K hK0 => ?_) AllReady.nil
                have hK := Lib.hid hK0
                clear hK0
                go_simp
                refine hK.out _ _ ?_
                clear hK K
                try simp only [Act.put, List.setIfInBounds_toArray, List.set_cons_zero, List.set_cons_succ]
                refine wpAny_take (i := 12) (oi := { dst := some 122, op := Op.binOp BinOp.add 9 (Operand.tmp 116) (Operand.tmp 121) 9, type := 9, pos := "ref.go:386", after := #[{ on := 6, ground := Ground.data }, { on := 11, ground := Ground.data }], guard := none }) (v := ?_) rfl (by kernel_rfl) (by kernel_rfl) (by kernel_rfl) (fun _ _ _ h => h) (Or.inl ⟨by rfl, ?_⟩) ?_
                rotate_left
                · (intro w; go_simp; try with_reducible rfl)
                try simp only [Act.put, List.setIfInBounds_toArray, List.set_cons_zero, List.set_cons_succ]
                refine wpAny_take (i := 13) (oi := { dst := some 123, op := Op.indexAddr 29 (Operand.tmp 111) (Operand.const (Value.int IntKind.i64 0)), type := 0, pos := "ref.go:386", after := #[{ on := 1, ground := Ground.data }, { on := 0, ground := Ground.phase }, { on := 1, ground := Ground.phase }, { on := 2, ground := Ground.phase }, { on := 3, ground := Ground.phase }, { on := 4, ground := Ground.phase }, { on := 5, ground := Ground.phase }, { on := 6, ground := Ground.phase }, { on := 7, ground := Ground.phase }, { on := 8, ground := Ground.phase }, { on := 9, ground := Ground.phase }, { on := 10, ground := Ground.phase }, { on := 11, ground := Ground.phase }, { on := 12, ground := Ground.phase }], guard := none }) (v := ?_) rfl (by kernel_rfl) (by kernel_rfl) (by kernel_rfl) (fun _ _ _ h => h) (Or.inl ⟨by rfl, ?_⟩) ?_
                rotate_left
                · (intro w; go_simp; try with_reducible rfl)
                try simp only [Act.put, List.setIfInBounds_toArray, List.set_cons_zero, List.set_cons_succ]
                refine wpAny_take (i := 14) (oi := { dst := some 124, op := Op.fieldAddr 33 (Operand.tmp 123) 1, type := 0, pos := "ref.go:386", after := #[{ on := 13, ground := Ground.data }, { on := 0, ground := Ground.phase }, { on := 1, ground := Ground.phase }, { on := 2, ground := Ground.phase }, { on := 3, ground := Ground.phase }, { on := 4, ground := Ground.phase }, { on := 5, ground := Ground.phase }, { on := 6, ground := Ground.phase }, { on := 7, ground := Ground.phase }, { on := 8, ground := Ground.phase }, { on := 9, ground := Ground.phase }, { on := 10, ground := Ground.phase }, { on := 11, ground := Ground.phase }, { on := 12, ground := Ground.phase }], guard := none }) (v := ?_) rfl (by kernel_rfl) (by kernel_rfl) (by kernel_rfl) (fun _ _ _ h => h) (Or.inl ⟨by rfl, ?_⟩) ?_
                rotate_left
                · (intro w; go_simp; try with_reducible rfl)
                try simp only [Act.put, List.setIfInBounds_toArray, List.set_cons_zero, List.set_cons_succ]
                refine wpAny_ready (rs := [15]) (by kernel_rfl) (by simp) ?_
                refine AllReady.cons (o := { dst := none, op := Op.store 9 (Operand.tmp 124) (Operand.tmp 122), type := 0, pos := "ref.go:386", after := #[{ on := 14, ground := Ground.data }, { on := 12, ground := Ground.data }, { on := 0, ground := Ground.phase }, { on := 1, ground := Ground.phase }, { on := 2, ground := Ground.phase }, { on := 3, ground := Ground.phase }, { on := 4, ground := Ground.phase }, { on := 5, ground := Ground.phase }, { on := 6, ground := Ground.phase }, { on := 7, ground := Ground.phase }, { on := 8, ground := Ground.phase }, { on := 9, ground := Ground.phase }, { on := 10, ground := Ground.phase }, { on := 11, ground := Ground.phase }, { on := 12, ground := Ground.phase }], guard := none }) rfl (fun K hK0 => ?_) AllReady.nil
                have hK := Lib.hid hK0
                clear hK0
                go_simp
                refine hK.out _ _ ?_
                clear hK K
                try simp only [Act.put, List.setIfInBounds_toArray, List.set_cons_zero, List.set_cons_succ]
                refine wpAny_done (by kernel_rfl) ?_ _
                go_wp2_with fail
                go_roundw
                case rel => exact ⟨1, _, by omega, by go_num, Lib.hid (by rw [heap_setCell_other _ _ _ _ hVA]; exact HVD.out), Lib.hid (by rw [HMRG.out]; exact Sx.own_one (heap_setCell_same wd (w.heap.size + 1) 1 _ _ _ HAD.out)), Lib.hid (fun h => absurd h (by decide)), Lib.hid (HBD.out.setCell (p := ⟨_, _, none⟩) (Nat.le_succ _) _)⟩
                case measure => simp [intOf]; omega
        | false =>
          have HSTEP := Lib.hid (rWhole_step (name := name) HP.out HMB.out)
          clear HMB
          obtain ⟨m', hm'⟩ : ∃ m', m' = (rWhole name (parts.take (k + 1))).length := ⟨_, rfl⟩
          have HM' := Lib.hid hm'
          clear hm'
          go_wp2_with fail
          refine wp_region_any (by kernel_rfl) (show wpAny _ _ _ _ _ _ _ (World.drew _) from ?_)
          generalize wr.drew = wd at *
          refine wpAny_take (i := 0) (oi := { dst := some 125, op := Op.fieldAddr 31 (Operand.tmp 9) 0, type := 0, pos := "ref.go:388", after := #[], guard := none }) (v := ?_) rfl (by kernel_rfl) (by kernel_rfl) (by kernel_rfl) (fun _ _ _ h => h) (Or.inl ⟨by rfl, ?_⟩) ?_
          rotate_left
          · (intro w; go_simp; try with_reducible rfl)
          try simp only [Act.put, List.setIfInBounds_toArray, List.set_cons_zero, List.set_cons_succ]
          refine wpAny_take (i := 2) (oi := { dst := some 127, op := Op.move (Operand.tmp 8), type := 29, pos := "ref.go:388", after := #[], guard := none }) (v := ?_) rfl (by kernel_rfl) (by kernel_rfl) (by kernel_rfl) (fun _ _ _ h => h) (Or.inl ⟨by rfl, ?_⟩) ?_
          rotate_left
          · (intro w; go_simp; try with_reducible rfl)
          try simp only [Act.put, List.setIfInBounds_toArray, List.set_cons_zero, List.set_cons_succ]
          refine wpAny_take (i := 3) (oi := { dst := some 128, op := Op.move (Operand.tmp 10), type := 3, pos := "ref.go:388", after := #[], guard := none }) (v := ?_) rfl (by kernel_rfl) (by kernel_rfl) (by kernel_rfl) (fun _ _ _ h => h) (Or.inl ⟨by rfl, ?_⟩) ?_
          rotate_left
          · (intro w; go_simp; try with_reducible rfl)
          try simp only [Act.put, List.setIfInBounds_toArray, List.set_cons_zero, List.set_cons_succ]
          refine wpAny_take (i := 4) (oi := { dst := some 129, op := Op.indexAddr 29 (Operand.tmp 127) (Operand.tmp 128), type := 0, pos := "ref.go:388", after := #[{ on := 2, ground := Ground.data }, { on := 3, ground := Ground.data }], guard := none }) (v := ?_) rfl (by kernel_rfl) (by kernel_rfl) (by kernel_rfl) (fun _ _ _ h => h) (Or.inl ⟨by rfl, ?_⟩) ?_
          rotate_left
          · (intro w; go_simp; try with_reducible rfl)
          try simp only [Act.put, List.setIfInBounds_toArray, List.set_cons_zero, List.set_cons_succ]
          refine wpAny_ready (rs := [1, 5]) (by kernel_rfl) (by simp) ?_
          refine AllReady.cons (o := { dst := some 126, op := Op.load 29 (Operand.tmp 125), type := 29, pos := "ref.go:388", after := #[{ on := 0, ground := Ground.data }], guard := none }) rfl (fun K hK0 => ?_) ?_
          rotate_left
          refine AllReady.cons (o := { dst := some 130, op := Op.load 33 (Operand.tmp 129), type := 33, pos := "ref.go:388", after := #[{ on := 4, ground := Ground.data }], guard := none }) rfl (fun K hK0 => ?_) AllReady.nil
          · have hK := Lib.hid hK0
            clear hK0
            go_simp
            refine hK.out _ _ ?_
            clear hK K
            try simp only [Act.put, List.setIfInBounds_toArray, List.set_cons_zero, List.set_cons_succ]
            refine wpAny_ready (rs := [1, 6]) (by kernel_rfl) (by simp) ?_
            refine AllReady.cons (o := { dst := some 126, op := Op.load 29 (Operand.tmp 125), type := 29, pos := "ref.go:388", after := #[{ on := 0, ground := Ground.data }], guard := none }) rfl (fun K hK0 => ?_) ?_
            rotate_left
            refine AllReady.cons (o := { dst := some 131, op := Op.buildSlice 29 1 #[(0, Operand.tmp 130)], type := 29, pos := "ref.go:388", after := #[{ on := 5, ground := Ground.data }], guard := none }) rfl (fun K hK0 => ?_) AllReady.nil
            · have hK := Lib.hid hK0
              clear hK0
              go_simp
              refine hK.out _ _ ?_
              clear hK K
              try simp only [Act.put, List.setIfInBounds_toArray, List.set_cons_zero, List.set_cons_succ]
              refine wpAny_ready (rs := [1]) (by kernel_rfl) (by simp) ?_
              refine AllReady.cons (o := { dst := some 126, op := Op.load 29 (Operand.tmp 125), type := 29, pos := "ref.go:388", after := #[{ on := 0, ground := Ground.data }], guard := none }) rfl (fun K hK0 => ?_) AllReady.nil
              have hK := Lib.hid hK0
              clear hK0
              go_simp
              refine hK.out _ _ ?_
              clear hK K
              try simp only [Act.put, List.setIfInBounds_toArray, List.set_cons_zero, List.set_cons_succ]
              refine wpAny_ready (rs := [7]) (by kernel_rfl) (by simp) ?_
              refine AllReady.cons (o := { dst := some 132, op := Op.call { callee := Callee.builtin Builtin.append, args := #[Operand.tmp 126, Operand.tmp 131], argTypes := #[29, 29] }, type := 29, pos := "ref.go:388", after := #[{ on := 1, ground := Ground.data }, { on := 6, ground := Ground.data }], guard := none }) rfl (fun K hK0 => ?_) AllReady.nil
              have hK := Lib.hid hK0
              clear hK0
              rw [if_pos (by rfl)]
              refine wp_append_own _ (.tmp 126) (.tmp 131) 29 rfl (w.heap.size + 1) 33 i0 _ 3 32 Tryz.underlying29 hi0 hz0 hz1 hz2 rfl (by decide) vv (rWhole name (parts.take k)).length (pcells (rWhole name (parts.take k))) rfl (HOD.out.alloc (.cells #[.bool var, .string text, .bool quoted] 33)) ⟨wd.heap.size, 0, none⟩ 1 1 (partCells ⟨var, text, quoted⟩) rfl rfl (news_alloc wd _ _) (part_one _) (by unfold maxLen; omega) (by omega) (by have := hVlt; simp only [World.alloc, Array.size_push]; omega) ?_
              intro v' w4 hown hgrow _
              have HV4 : Hid (w4.heap[(w.heap.size + 1 + 1)]? = some (.cells #[vv, .int .i64 0] 31 (0, 0))) := Lib.hid (by rw [hgrow.block _ (by have := hVlt; simp only [World.alloc, Array.size_push]; omega) (fun h => Sx.own_ne HOD.out HVD.out h.symm), Below.heap_alloc _ _ _ hVlt]; exact HVD.out)
              have g4 : w4.cell? ⟨(w.heap.size + 1 + 1), 0, none⟩ = some vv := by rw [cell_of_row _ _ _ _ _ _ HV4.out]; rfl
              have y4 := frozen_of_row w4 (w.heap.size + 1 + 1) 0 _ _ HV4.out
              have hown10 : w4.ownsRow (w.heap.size + 1) 33 3 v' m' (pcells (rWhole name (parts.take (k + 1)))) := by rw [HM'.out, HSTEP.out, pcells_append, List.length_append]; simpa [pcells, partCells] using hown
              obtain ⟨p4, c4, rfl⟩ := Sx.own_slice hown10
              have HOW2 := Lib.hid hown10
              have HGROW := Lib.hid hgrow
              clear hown hgrow hown10
              refine hK.out _ _ ?_
              clear hK K
              try simp only [Act.put, List.setIfInBounds_toArray, List.set_cons_zero, List.set_cons_succ]
              refine wpAny_take (i := 8) (oi := { dst := some 133, op := Op.fieldAddr 31 (Operand.tmp 9) 0, type := 0, pos := "ref.go:388", after := #[{ on := 0, ground := Ground.phase }, { on := 1, ground := Ground.phase }, { on := 2, ground := Ground.phase }, { on := 3, ground := Ground.phase }, { on := 4, ground := Ground.phase }, { on := 5, ground := Ground.phase }, { on := 6, ground := Ground.phase }, { on := 7, ground := Ground.phase }], guard := none }) (v := ?_) rfl (by kernel_rfl) (by kernel_rfl) (by kernel_rfl) (fun _ _ _ h => h) (Or.inl ⟨by rfl, ?_⟩) ?_
              rotate_left
              · (intro w; go_simp; try with_reducible rfl)
              try simp only [Act.put, List.setIfInBounds_toArray, List.set_cons_zero, List.set_cons_succ]
              refine wpAny_ready (rs := [9]) (by kernel_rfl) (by simp) ?_
              refine AllReady.cons (o := { dst := none, op := Op.store 29 (Operand.tmp 133) (Operand.tmp 132), type := 0, pos := "ref.go:388", after := #[{ on := 8, ground := Ground.data }, { on := 7, ground := Ground.data }, { on := 7, ground := Ground.chain }, { on := 0, ground := Ground.phase }, { on := 1, ground := Ground.phase }, { on := 2, ground := Ground.phase }, { on := 3, ground := Ground.phase }, { on := 4, ground := Ground.phase }, { on := 5, ground := Ground.phase }, { on := 6, ground := Ground.phase }, { on := 7, ground := Ground.phase }], guard := none }) rfl (fun K hK0 => ?_) AllReady.nil
              have hK := Lib.hid hK0
              clear hK0
              go_simp
              refine hK.out _ _ ?_
              clear hK K
              try simp only [Act.put, List.setIfInBounds_toArray, List.set_cons_zero, List.set_cons_succ]
              refine wpAny_done (by kernel_rfl) ?_ _
              have HNE4 := Lib.hid (Sx.own_ne HOW2.out HV4.out)
              have HBB : Hid (Below w.heap.size w (w4.setCell ⟨(w.heap.size + 1 + 1), 0, none⟩ (.slice p4 m' c4))) := Lib.hid (((HBD.out.alloc HBD.out.size _).grown HGROW.out (by have := HBD.out.size; simp only [World.alloc, Array.size_push]; omega) (fun q hq => by have := own_where HOD.out hq; omega)).setCell (p := ⟨_, _, none⟩) (show w.heap.size ≤ w.heap.size + 1 + 1 by omega) _)
              go_wp2_with fail
              go_roundw
              case rel => exact ⟨k + 1, _, by omega, by go_num, Lib.hid (heap_setCell_same w4 (w.heap.size + 1 + 1) 0 _ _ _ HV4.out), Lib.hid (by rw [← HM'.out]; exact own_far HOW2.out (w.heap.size + 1 + 1) 0 _ HNE4.out), Lib.hid (fun h => absurd h (Nat.succ_ne_zero k)), HBB⟩
              case measure => simp [intOf]; omega
            · have hK := Lib.hid hK0
              clear hK0
              go_simp
              refine hK.out _ _ ?_
              clear hK K
              try simp only [Act.put, List.setIfInBounds_toArray, List.set_cons_zero, List.set_cons_succ]
              refine wpAny_ready (rs := [6]) (by kernel_rfl) (by simp) ?_
              refine AllReady.cons (o := { dst := some 131, op := Op.buildSlice 29 1 #[(0, Operand.tmp 130)], type := 29, pos := "ref.go:388", after := #[{ on := 5, ground := Ground.data }], guard := none }) rfl (fun K hK0 => ?_) AllReady.nil
              have hK := Lib.hid hK0
              clear hK0
              go_simp
              refine hK.out _ _ ?_
              clear hK K
              try simp only [Act.put, List.setIfInBounds_toArray, List.set_cons_zero, List.set_cons_succ]
              refine wpAny_ready (rs := [7]) (by kernel_rfl) (by simp) ?_
              refine AllReady.cons (o := { dst := some 132, op := Op.call { callee := Callee.builtin Builtin.append, args := #[Operand.tmp 126, Operand.tmp 131], argTypes := #[29, 29] }, type := 29, pos := "ref.go:388", after := #[{ on := 1, ground := Ground.data }, { on := 6, ground := Ground.data }], guard := none }) rfl (fun K hK0 => ?_) AllReady.nil
              have hK := Lib.hid hK0
              clear hK0
              rw [if_pos (by rfl)]
              refine wp_append_own _ (.tmp 126) (.tmp 131) 29 rfl (w.heap.size + 1) 33 i0 _ 3 32 Tryz.underlying29 hi0 hz0 hz1 hz2 rfl (by decide) vv (rWhole name (parts.take k)).length (pcells (rWhole name (parts.take k))) rfl (HOD.out.alloc (.cells #[.bool var, .string text, .bool quoted] 33)) ⟨wd.heap.size, 0, none⟩ 1 1 (partCells ⟨var, text, quoted⟩) rfl rfl (news_alloc wd _ _) (part_one _) (by unfold maxLen; omega) (by omega) (by have := hVlt; simp only [World.alloc, Array.size_push]; omega) ?_
              intro v' w4 hown hgrow _
              have HV4 : Hid (w4.heap[(w.heap.size + 1 + 1)]? = some (.cells #[vv, .int .i64 0] 31 (0, 0))) := Lib.hid (by rw [hgrow.block _ (by have := hVlt; simp only [World.alloc, Array.size_push]; omega) (fun h => Sx.own_ne HOD.out HVD.out h.symm), Below.heap_alloc _ _ _ hVlt]; exact HVD.out)
              have g4 : w4.cell? ⟨(w.heap.size + 1 + 1), 0, none⟩ = some vv := by rw [cell_of_row _ _ _ _ _ _ HV4.out]; rfl
              have y4 := frozen_of_row w4 (w.heap.size + 1 + 1) 0 _ _ HV4.out
              have hown10 : w4.ownsRow (w.heap.size + 1) 33 3 v' m' (pcells (rWhole name (parts.take (k + 1)))) := by rw [HM'.out, HSTEP.out, pcells_append, List.length_append]; simpa [pcells, partCells] using hown
              obtain ⟨p4, c4, rfl⟩ := Sx.own_slice hown10
              have HOW2 := Lib.hid hown10
              have HGROW := Lib.hid hgrow
              clear hown hgrow hown10
              refine hK.out _ _ ?_
              clear hK K
              try simp only [Act.put, List.setIfInBounds_toArray, List.set_cons_zero, List.set_cons_succ]
              refine wpAny_take (i := 8) (oi := { dst := some 133, op := Op.fieldAddr 31 (Operand.tmp 9) 0, type := 0, pos := "ref.go:388", after := #[{ on := 0, ground := Ground.phase }, { on := 1, ground := Ground.phase }, { on := 2, ground := Ground.phase }, { on := 3, ground := Ground.phase }, { on := 4, ground := Ground.phase }, { on := 5, ground := Ground.phase }, { on := 6, ground := Ground.phase }, { on := 7, ground := Ground.phase }], guard := none }) (v := ?_) rfl (by kernel_rfl) (by kernel_rfl) (by kernel_rfl) (fun _ _ _ h => h) (Or.inl ⟨by rfl, ?_⟩) ?_
              rotate_left
              · (intro w; go_simp; try with_reducible rfl)
              try simp only [Act.put, List.setIfInBounds_toArray, List.set_cons_zero, List.set_cons_succ]
              refine wpAny_ready (rs := [9]) (by kernel_rfl) (by simp) ?_
              refine AllReady.cons (o := { dst := none, op := Op.store 29 (Operand.tmp 133) (Operand.tmp 132), type := 0, pos := "ref.go:388", after := #[{ on := 8, ground := Ground.data }, { on := 7, ground := Ground.data }, { on := 7, ground := Ground.chain }, { on := 0, ground := Ground.phase }, { on := 1, ground := Ground.phase }, { on := 2, ground := Ground.phase }, { on := 3, ground := Ground.phase }, { on := 4, ground := Ground.phase }, { on := 5, ground := Ground.phase }, { on := 6, ground := Ground.phase }, { on := 7, ground := Ground.phase }], guard := none }) rfl (fun K hK0 => ?_) AllReady.nil
              have hK := Lib.hid hK0
              clear hK0
              go_simp
              refine hK.out _ _ ?_
              clear hK K
              try simp only [Act.put, List.setIfInBounds_toArray, List.set_cons_zero, List.set_cons_succ]
              refine wpAny_done (by kernel_rfl) ?_ _
              have HNE4 := Lib.hid (Sx.own_ne HOW2.out HV4.out)
              have HBB : Hid (Below w.heap.size w (w4.setCell ⟨(w.heap.size + 1 + 1), 0, none⟩ (.slice p4 m' c4))) := Lib.hid (((HBD.out.alloc HBD.out.size _).grown HGROW.out (by have := HBD.out.size; simp only [World.alloc, Array.size_push]; omega) (fun q hq => by have := own_where HOD.out hq; omega)).setCell (p := ⟨_, _, none⟩) (show w.heap.size ≤ w.heap.size + 1 + 1 by omega) _)
              go_wp2_with fail
              go_roundw
              case rel => exact ⟨k + 1, _, by omega, by go_num, Lib.hid (heap_setCell_same w4 (w.heap.size + 1 + 1) 0 _ _ _ HV4.out), Lib.hid (by rw [← HM'.out]; exact own_far HOW2.out (w.heap.size + 1 + 1) 0 _ HNE4.out), Lib.hid (fun h => absurd h (Nat.succ_ne_zero k)), HBB⟩
              case measure => simp [intOf]; omega
          · have hK := Lib.hid hK0
            clear hK0
            go_simp
            refine hK.out _ _ ?_
            clear hK K
            try simp only [Act.put, List.setIfInBounds_toArray, List.set_cons_zero, List.set_cons_succ]
            refine wpAny_ready (rs := [5]) (by kernel_rfl) (by simp) ?_
            refine AllReady.cons (o := { dst := some 130, op := Op.load 33 (Operand.tmp 129), type := 33, pos := "ref.go:388", after := #[{ on := 4, ground := Ground.data }], guard := none }) rfl (fun K hK0 => ?_) AllReady.nil
            have hK := Lib.hid hK0
            clear hK0
            go_simp
            refine hK.out _ _ ?_
            clear hK K
            try simp only [Act.put, List.setIfInBounds_toArray, List.set_cons_zero, List.set_cons_succ]
            refine wpAny_ready (rs := [6]) (by kernel_rfl) (by simp) ?_
            refine AllReady.cons (o := { dst := some 131, op := Op.buildSlice 29 1 #[(0, Operand.tmp 130)], type := 29, pos := "ref.go:388", after := #[{ on := 5, ground := Ground.data }], guard := none }) rfl (fun K hK0 => ?_) AllReady.nil
            have hK := Lib.hid hK0
            clear hK0
            go_simp
            refine hK.out _ _ ?_
            clear hK K
            try simp only [Act.put, List.setIfInBounds_toArray, List.set_cons_zero, List.set_cons_succ]
            refine wpAny_ready (rs := [7]) (by kernel_rfl) (by simp) ?_
            refine AllReady.cons (o := { dst := some 132, op := Op.call { callee := Callee.builtin Builtin.append, args := #[Operand.tmp 126, Operand.tmp 131], argTypes := #[29, 29] }, type := 29, pos := "ref.go:388", after := #[{ on := 1, ground := Ground.data }, { on := 6, ground := Ground.data }], guard := none }) rfl (fun K hK0 => ?_) AllReady.nil
            have hK := Lib.hid hK0
            clear hK0
            rw [if_pos (by rfl)]
            refine wp_append_own _ (.tmp 126) (.tmp 131) 29 rfl (w.heap.size + 1) 33 i0 _ 3 32 Tryz.underlying29 hi0 hz0 hz1 hz2 rfl (by decide) vv (rWhole name (parts.take k)).length (pcells (rWhole name (parts.take k))) rfl (HOD.out.alloc (.cells #[.bool var, .string text, .bool quoted] 33)) ⟨wd.heap.size, 0, none⟩ 1 1 (partCells ⟨var, text, quoted⟩) rfl rfl (news_alloc wd _ _) (part_one _) (by unfold maxLen; omega) (by omega) (by have := hVlt; simp only [World.alloc, Array.size_push]; omega) ?_
            intro v' w4 hown hgrow _
            have HV4 : Hid (w4.heap[(w.heap.size + 1 + 1)]? = some (.cells #[vv, .int .i64 0] 31 (0, 0))) := Lib.hid (by rw [hgrow.block _ (by have := hVlt; simp only [World.alloc, Array.size_push]; omega) (fun h => Sx.own_ne HOD.out HVD.out h.symm), Below.heap_alloc _ _ _ hVlt]; exact HVD.out)
            have g4 : w4.cell? ⟨(w.heap.size + 1 + 1), 0, none⟩ = some vv := by rw [cell_of_row _ _ _ _ _ _ HV4.out]; rfl
            have y4 := frozen_of_row w4 (w.heap.size + 1 + 1) 0 _ _ HV4.out
            have hown10 : w4.ownsRow (w.heap.size + 1) 33 3 v' m' (pcells (rWhole name (parts.take (k + 1)))) := by rw [HM'.out, HSTEP.out, pcells_append, List.length_append]; simpa [pcells, partCells] using hown
            obtain ⟨p4, c4, rfl⟩ := Sx.own_slice hown10
            have HOW2 := Lib.hid hown10
            have HGROW := Lib.hid hgrow
            clear hown hgrow hown10
            refine hK.out _ _ ?_
            clear hK K
            try simp only [Act.put, List.setIfInBounds_toArray, List.set_cons_zero, List.set_cons_succ]
            refine wpAny_take (i := 8) (oi := { dst := some 133, op := Op.fieldAddr 31 (Operand.tmp 9) 0, type := 0, pos := "ref.go:388", after := #[{ on := 0, ground := Ground.phase }, { on := 1, ground := Ground.phase }, { on := 2, ground := Ground.phase }, { on := 3, ground := Ground.phase }, { on := 4, ground := Ground.phase }, { on := 5, ground := Ground.phase }, { on := 6, ground := Ground.phase }, { on := 7, ground := Ground.phase }], guard := none }) (v := ?_) rfl (by kernel_rfl) (by kernel_rfl) (by kernel_rfl) (fun _ _ _ h => h) (Or.inl ⟨by rfl, ?_⟩) ?_
            rotate_left
            · (intro w; go_simp; try with_reducible rfl)
            try simp only [Act.put, List.setIfInBounds_toArray, List.set_cons_zero, List.set_cons_succ]
            refine wpAny_ready (rs := [9]) (by kernel_rfl) (by simp) ?_
            refine AllReady.cons (o := { dst := none, op := Op.store 29 (Operand.tmp 133) (Operand.tmp 132), type := 0, pos := "ref.go:388", after := #[{ on := 8, ground := Ground.data }, { on := 7, ground := Ground.data }, { on := 7, ground := Ground.chain }, { on := 0, ground := Ground.phase }, { on := 1, ground := Ground.phase }, { on := 2, ground := Ground.phase }, { on := 3, ground := Ground.phase }, { on := 4, ground := Ground.phase }, { on := 5, ground := Ground.phase }, { on := 6, ground := Ground.phase }, { on := 7, ground := Ground.phase }], guard := none }) rfl (fun K hK0 => ?_) AllReady.nil
            have hK := Lib.hid hK0
            clear hK0
            go_simp
            refine hK.out _ _ ?_
            clear hK K
            try simp only [Act.put, List.setIfInBounds_toArray, List.set_cons_zero, List.set_cons_succ]
            refine wpAny_done (by kernel_rfl) ?_ _
            have HNE4 := Lib.hid (Sx.own_ne HOW2.out HV4.out)
            have HBB : Hid (Below w.heap.size w (w4.setCell ⟨(w.heap.size + 1 + 1), 0, none⟩ (.slice p4 m' c4))) := Lib.hid (((HBD.out.alloc HBD.out.size _).grown HGROW.out (by have := HBD.out.size; simp only [World.alloc, Array.size_push]; omega) (fun q hq => by have := own_where HOD.out hq; omega)).setCell (p := ⟨_, _, none⟩) (show w.heap.size ≤ w.heap.size + 1 + 1 by omega) _)
            go_wp2_with fail
            go_roundw
            case rel => exact ⟨k + 1, _, by omega, by go_num, Lib.hid (heap_setCell_same w4 (w.heap.size + 1 + 1) 0 _ _ _ HV4.out), Lib.hid (by rw [← HM'.out]; exact own_far HOW2.out (w.heap.size + 1 + 1) 0 _ HNE4.out), Lib.hid (fun h => absurd h (Nat.succ_ne_zero k)), HBB⟩
            case measure => simp [intOf]; omega
    · have hkn : k = parts.length := by omega
      subst hkn
      rw [List.take_length] at HO
      have HWR := Lib.hid (Sx.own_parts HO.out)
      obtain ⟨p1, c1, rfl, hc1, hc2, hrow⟩ := HWR.out
      have HMW : Hid (∀ wx, Below wr.heap.size wr wx → Calls Tryz.prog 52 #[.agg #[.slice p1 (rWhole name parts).length c1, .int .i64 0]] wx fun e w' => e = .returned (.bool (Word.may ⟨rWhole name parts, 0⟩)) ∧ Below wx.heap.size wx w') := Lib.hid fun wx hx => mayWordRef_any (x := ⟨rWhole name parts, 0⟩) ⟨p1, c1, rfl, hc1, hc2, hrow.grown hx⟩ (rWhole_bulk HBK.out)
      have x0 : wr.cell? ⟨(w.heap.size + 1 + 1), 0, none⟩ = some (.slice p1 (rWhole name parts).length c1) := by rw [cell_of_row _ _ _ _ _ _ HV.out]; rfl
      have x1 : wr.cell? ⟨(w.heap.size + 1 + 1), 1, none⟩ = some (.int .i64 0) := by rw [cell_of_row _ _ _ _ _ _ HV.out]; rfl
      have hge : ¬ ((parts.length : Int) < (parts.length : Int)) := by omega
      clear hrow HX HWR HZ hlt
      generalize (rWhole name parts).length = rn at *
      generalize hgg : Word.may ⟨rWhole name parts, 0⟩ = g at *
      have HGG := Lib.hid hgg
      clear hgg
      go_wp2_with fail
      refine (HMW.out _ (Below.refl _ _)).mono ?_
      rintro e w9 ⟨rfl, hb9⟩
      have HB9 : Hid (Below w.heap.size w w9) := Lib.hid (HB.out.trans (hb9.mono HB.out.size))
      clear hb9
      go_wp2_with fail
      go_ret
      exact ⟨ret_bool HGG.out.symm, HB9.out⟩
end Go.Proofs.YtpibjhlldlbocaaGreat
