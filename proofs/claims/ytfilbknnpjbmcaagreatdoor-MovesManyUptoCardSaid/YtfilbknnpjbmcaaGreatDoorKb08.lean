/- Walks of package opts: words cut. -/
import Derived.Test.YtfilbknnpjbmcaaGreatDoorKb02
import Derived.Test.YtfilbknnpjbmcaaGreatDoorKb07
import Derived.Deep.RegionHeld3
namespace Go.Proofs.YtfilbknnpjbmcaaGreatDoor
open Go.RowKit Ox Px
abbrev qOpD_0 : Oper := { dst := some 32, op := Op.load 135 (Operand.tmp 7), type := 135, pos := "opts.go:40", after := #[], guard := none }
abbrev qOpD_1 : Oper := { dst := some 33, op := Op.move (Operand.tmp 0), type := 22, pos := "opts.go:40", after := #[], guard := none }
abbrev qOpD_2 : Oper := { dst := some 34, op := Op.move (Operand.tmp 8), type := 3, pos := "opts.go:40", after := #[], guard := none }
abbrev qOpD_3 : Oper := { dst := some 35, op := Op.slice 22 (Operand.tmp 33) (some (Operand.tmp 34)) none none, type := 22, pos := "opts.go:40", after := #[{ on := 1, ground := Ground.data }, { on := 2, ground := Ground.data }], guard := none }
abbrev qOpD_4 : Oper := { dst := none, op := Op.store 135 (Operand.tmp 4) (Operand.tmp 32), type := 0, pos := "opts.go:40", after := #[{ on := 0, ground := Ground.data }, { on := 0, ground := Ground.phase }, { on := 1, ground := Ground.textOnly Departure.lateStores }, { on := 2, ground := Ground.textOnly Departure.lateStores }, { on := 3, ground := Ground.textOnly Departure.lateStoresUnsure }], guard := none }
abbrev qOpD_5 : Oper := { dst := some 5, op := Op.assign (Operand.tmp 35), type := 22, pos := "opts.go:40", after := #[{ on := 3, ground := Ground.data }, { on := 4, ground := Ground.chain }, { on := 0, ground := Ground.phase }, { on := 1, ground := Ground.phase }, { on := 2, ground := Ground.phase }, { on := 3, ground := Ground.phase }, { on := 4, ground := Ground.phase }], guard := none }
abbrev qOpD_6 : Oper := { dst := some 6, op := Op.assign (Operand.const (Value.bool true)), type := 4, pos := "opts.go:40", after := #[{ on := 5, ground := Ground.chain }, { on := 0, ground := Ground.phase }, { on := 1, ground := Ground.phase }, { on := 2, ground := Ground.phase }, { on := 3, ground := Ground.phase }, { on := 4, ground := Ground.phase }, { on := 5, ground := Ground.phase }], guard := none }

theorem results_cell_tmp2 {fn : Func} {p u v : Tmp} {ty : TypeId} (h : fn.results = #[.cell p ty, .tmp u, .tmp v]) (tmps : Array Value) (P : Program) (w : World) :
  (results fn tmps).run P w =
   ((asAddr (tmps.getD p undef)).run P w).andThen fun a w₁ => ((loadVar ty a).run P w₁).andThen fun x w₂ => .ok (.tuple #[x, tmps.getD u undef, tmps.getD v undef]) w₂ := by
 simp only [results, h]
 simp [Sem.run_bind, Result.andThen]
theorem PlR.from {w : World} {b o c k : Nat} {xs : List ByteArray} (h : Strs w (some ⟨b, o, none⟩) xs) (hk : k ≤ xs.length) (hc : xs.length ≤ c) (hm : c ≤ maxLen) :
  PlR w (.slice (if c = k then some ⟨b, o, none⟩ else some ⟨b, o + k, none⟩) (xs.length - k) (c - k)) (xs.drop k) := by
 refine ⟨_, _, by rw [List.length_drop], fun i hi => ?_, by rw [List.length_drop]; omega, by omega⟩
 rw [List.length_drop] at hi
 refine ⟨b, o + k, if_neg (by omega), ?_⟩
 have := strs_getD h (k + i) (by omega)
 rw [Nat.add_assoc, this, List.getD_eq_getElem?_getD, List.getD_eq_getElem?_getD, List.getElem?_drop]
theorem nil_plr (w : World) : PlR w (.slice none 0 0) [] := ⟨none, 0, rfl, fun i hi => by simp at hi, by simp, by unfold maxLen; omega⟩
theorem extract_one (x : ByteArray) : (x.extract 1 x.size).data.toList = x.data.toList.drop 1 := by
 have h : x.size = x.data.toList.length := by rw [Lib.size_eq]
 rw [ByteArray.data_extract, Array.toList_extract, List.extract_eq_take_drop, h]
 exact List.take_of_length_le (by rw [List.length_drop]; omega)
theorem exec_load_arr {P : Program} {o : Oper} {a : Act} {w : World} {t : TypeId} {p : Operand} {b n : Nat} {e : TypeId} {cs : Array Value} {ty : TypeId} {fr : Nat × Nat}
  (ho : o.op = .load t p) (hp : a.eval p = .pointer (some ⟨b, 0, none⟩)) (hh : w.heap[b]? = some (.cells cs ty fr)) (hu : P.underlying t = some (.array n e)) (hi : (P.info? t).map (·.size) = some cs.size) :
  (execOp a.eval o).run P w = .ok (.value (.agg cs)) w := by
 have hl := run_loadVar_row (P := P) w b ty t cs fr _ hh hu rfl hi
 simp [execOp, ho, hp, Instr.loadAt, Instr.sureAddr, hl, Sem.run_bind, Sem.run_pure, Result.andThen]
abbrev dd : ByteArray := ⟨#[45, 45]⟩
theorem cut_end {kn : List UInt8} {s : ByteArray} {r : List ByteArray} (h : s = dd) : cutD kn (s :: r) = some ([], r) := by
 rw [cutD, if_pos h]
theorem cut_op {kn : List UInt8} {s : ByteArray} {r : List ByteArray} (h : s ≠ dd) (h2 : s.size < 2 ∨ s.data.toList.head? ≠ some 45) : cutD kn (s :: r) = some ([], s :: r) := by
 rw [cutD, if_neg h, if_pos h2]
theorem cut_go {kn : List UInt8} {s : ByteArray} {r : List ByteArray} (h : s ≠ dd) (h2 : ¬ (s.size < 2 ∨ s.data.toList.head? ≠ some 45)) :
  cutD kn (s :: r) = if (s.data.toList.drop 1).all kn.contains then (cutD kn r).map fun p => (s.data.toList.drop 1 ++ p.1, p.2) else none := by
 rw [cutD, if_neg h, if_neg h2]
theorem drop_getD {xs : List ByteArray} {k : Nat} (h : k < xs.length) : xs.drop k = xs.getD k ByteArray.empty :: xs.drop (k + 1) := by
 rw [List.drop_eq_getElem_cons h, List.getD_eq_getElem?_getD, List.getElem?_eq_getElem h]
 rfl
def ahead (l : List UInt8) : Option (List UInt8 × List ByteArray) → Option (List UInt8 × List ByteArray)
 | none => none
 | some (t, ops) => some (l ++ t, ops)
def CutQ (w' : World) (e : Ending) : Option (List UInt8 × List ByteArray) → Prop
 | none => ∃ r u, e = .returned (.tuple #[.agg (Lib.setCells r), u, .bool false])
 | some (t, ops) => ∃ u, e = .returned (.tuple #[.agg (Lib.setCells t), u, .bool true]) ∧ PlR w' u ops

set_option maxRecDepth 100000 in
set_option maxHeartbeats 4000000 in
theorem ocut_any (w : World) (v : Value) (xs : List ByteArray) (km : List UInt8) (hx : PlR w v xs) (hl : xs.length ≤ 1000000) (hs : ∀ x ∈ xs, x.size ≤ 1000000) :
  Calls Tryz.prog 89 #[v, .agg (Lib.setCells km)] w fun e w' => CutQ w' e (cutD km xs) ∧ Below w.heap.size w w' := by
 obtain ⟨p, c, rfl, h1, h2, h3⟩ := hx
 have HS := Lib.hid h1
 clear h1
 unfold maxLen at h3
 have hz := ox_zero
 go_enter Tryz.func89, Tryz.ntmps89
 go_upto_region 2 with fail
 obtain ⟨w3, hw, h1, h2', h3', hb, hsz⟩ := new3 w km [] []
 rw [← hw]
 have H0 := Lib.hid h1
 have H1 := Lib.hid h2'
 have H2 := Lib.hid h3'
 have HB := Lib.hid hb
 clear hw h1 h2' h3' hb hz hsz
 go_wp2_with fail
 go_loopw [12] (fun i wr => ∃ (k : Nat) (l : List UInt8), k ≤ xs.length ∧ i = .int .i64 k ∧ Hid (Arr wr w.heap.size km) ∧ Hid (Arr wr (w.heap.size + 1) []) ∧ Hid (Arr wr (w.heap.size + 1 + 1) l) ∧ Hid (Below w.heap.size w wr) ∧ Hid (cutD km xs = ahead l (cutD km (xs.drop k)))) (fun i _ => xs.length - (intOf i).toNat)
 case atStart => exact ⟨0, [], Nat.zero_le _, rfl, H0, H1, H2, HB, Lib.hid (by rw [List.drop_zero]; cases cutD km xs <;> rfl)⟩
 case round =>
  clear H0 H1 H2 HB
  obtain ⟨k, l, hk, rfl, H0, H1, H2, HB, HC⟩ := hrel
  by_cases hlt : k < xs.length
  ·obtain ⟨b, o, rfl, hc⟩ := HS.out k hlt
   have hc1 := hc
   rw [← HB.out.cell (World.block_lt_of_cell? _ _ hc)] at hc1
   have hsx := hs (xs.getD k ByteArray.empty) (getD_mem hlt)
   have HD := Lib.hid (drop_getD hlt)
   generalize xs.getD k ByteArray.empty = x at *
   clear hc
   by_cases hdd : x = dd
   ·have hq : (x.toList == (⟨#[45, 45]⟩ : ByteArray).toList) = true := (Lib.bytes_beq_iff _ _).2 hdd
    have z2 := ox_sizeC l
    have hw1 : IntKind.i64.wrap ((k : Int) + 1) = (k : Int) + 1 := Go.IntWalk.i64_in _ (by omega)
    have hw2 : (k : Int) + 1 ≤ (xs.length : Int) := by omega
    have hw3 : (0 : Int) ≤ (k : Int) + 1 := by omega
    have hw4 : ((k : Int) + 1).toNat = k + 1 := by omega
    go_upto_region 6 with fail
    have HV : Hid (cutD km xs = some (l, xs.drop (k + 1))) := Lib.hid (by rw [HC.out, HD.out, cut_end hdd]; simp [ahead])
    refine wp_region_held_drew (S := (fun w' => Arr w' (w.heap.size + 1 + 1) l ∧ ∃ r, Arr w' (w.heap.size + 1) r)) (by kernel_rfl) ⟨H2.out, _, H1.out⟩ (fun hHeld => ?_)
    refine tkl 0 { dst := some 19, op := Op.load 135 (Operand.tmp 7), type := 135, pos := "opts.go:37", after := #[], guard := none } (v := .agg (Lib.setCells l)) ?_ ?_
    skip
    ·exact fun _ hSw => exec_load_arr rfl rfl hSw.1 Tryz.underlying135 z2
    try simp only [Act.put, sA, sB, sC]
    refine tk 1 { dst := some 20, op := Op.move (Operand.tmp 0), type := 22, pos := "opts.go:37", after := #[], guard := none } ?_
    try simp only [Act.put, sA, sB, sC]
    refine tk 2 { dst := some 21, op := Op.move (Operand.tmp 8), type := 3, pos := "opts.go:37", after := #[], guard := none } ?_
    try simp only [Act.put, sA, sB, sC]
    refine tk 3 { dst := some 22, op := Op.binOp BinOp.add 3 (Operand.tmp 21) (Operand.const (Value.int IntKind.i64 1)) 3, type := 3, pos := "opts.go:37", after := #[{ on := 2, ground := Ground.data }], guard := none } ?_
    try simp only [Act.put, sA, sB, sC]
    refine tk 4 { dst := some 23, op := Op.slice 22 (Operand.tmp 20) (some (Operand.tmp 22)) none none, type := 22, pos := "opts.go:37", after := #[{ on := 1, ground := Ground.data }, { on := 3, ground := Ground.data }], guard := none } ?_
    try simp only [Act.put, sA, sB, sC]
    refine wpAnyH_ready (rs := [5]) (by kernel_rfl) (by simp) ?_
    refine AllReadyH.cons (o := { dst := none, op := Op.store 135 (Operand.tmp 4) (Operand.tmp 19), type := 0, pos := "opts.go:37", after := #[{ on := 0, ground := Ground.data }, { on := 0, ground := Ground.phase }, { on := 1, ground := Ground.textOnly Departure.lateStores }, { on := 2, ground := Ground.textOnly Departure.lateStores }, { on := 3, ground := Ground.textOnly Departure.lateStores }, { on := 4, ground := Ground.textOnly Departure.lateStoresUnsure }], guard := none }) rfl (fun K hK => ?_) AllReadyH.nil
    refine wp_store_arr rfl rfl rfl H1.out.drew z2 (by rw [Lib.setCells_size, Lib.setCells_size]) (Lib.setCells_one _) ?_
    refine hK.out _ _ ⟨H2.out.drew.set_ne (by omega) _, _, H1.out.drew.set _⟩ (fun hHeld => ?_)
    clear hK K
    try simp only [Act.put, sA, sB, sC]
    refine tk 6 { dst := some 5, op := Op.assign (Operand.tmp 23), type := 22, pos := "opts.go:37", after := #[{ on := 4, ground := Ground.data }, { on := 5, ground := Ground.chain }, { on := 0, ground := Ground.phase }, { on := 1, ground := Ground.phase }, { on := 2, ground := Ground.phase }, { on := 3, ground := Ground.phase }, { on := 4, ground := Ground.phase }, { on := 5, ground := Ground.phase }], guard := none } ?_
    try simp only [Act.put, sA, sB, sC]
    refine tk 7 { dst := some 6, op := Op.assign (Operand.const (Value.bool true)), type := 4, pos := "opts.go:37", after := #[{ on := 6, ground := Ground.chain }, { on := 0, ground := Ground.phase }, { on := 1, ground := Ground.phase }, { on := 2, ground := Ground.phase }, { on := 3, ground := Ground.phase }, { on := 4, ground := Ground.phase }, { on := 5, ground := Ground.phase }, { on := 6, ground := Ground.phase }], guard := none } ?_
    try simp only [Act.put, sA, sB, sC]
    refine wpAnyH_done (by kernel_rfl) ?_ _
    have HP : Hid (PlR w (.slice (if c = (k + 1) then some ⟨b, o, none⟩ else some ⟨b, o + (k + 1), none⟩) (xs.length - (k + 1)) (c - (k + 1))) (xs.drop (k + 1))) := Lib.hid (by exact (PlR.from HS.out (by omega) h2 (by unfold maxLen; omega)))
    generalize (if c = (k + 1) then some (⟨b, o, none⟩ : Addr) else some ⟨b, o + (k + 1), none⟩) = pp at *
    go_wp2_with fail
    (try simp only [Exit.inBlock, Exit.then])
    have HBF := below_setRow HB.out.drew (g := w.heap.size + 1) (by omega) (Lib.setCells l)
    refine bodyPost_ret (v := .tuple #[.agg (Lib.setCells l), .slice pp (xs.length - (k + 1)) (c - (k + 1)), .bool true]) ?_ rfl ⟨by rw [HV.out]; exact ⟨_, rfl, HP.out.grown HBF⟩, HBF⟩
    rw [results_cell_tmp2 rfl]
    have hl := run_loadVar_row (P := Tryz.prog) (wr.drew.setRow (w.heap.size + 1) (Lib.setCells l)) (w.heap.size + 1) 135 135 _ _ _ (H1.out.drew.set l) Tryz.underlying135 rfl z2
    simp [asAddr, Result.andThen, hl]
   ·have hq : (x.toList == [45, 45]) = false := by
     have h := (Lib.bytes_beq_false_iff x dd).2 hdd
     rwa [Lib.toList_data dd] at h
    have HN := Lib.hid hdd
    by_cases hop : x.size < 2 ∨ x.data.toList.head? ≠ some 45
    ·have z2 := ox_sizeC l
     by_cases hx2 : x.size < 2
     ·have HV : Hid (cutD km xs = some (l, x :: xs.drop (k + 1))) := Lib.hid (by rw [HC.out, HD.out, cut_op hdd hop]; simp [ahead])
      clear hop hdd
      go_upto_region 8 with fail
      refine wp_region_held_drew (S := (fun w' => Arr w' (w.heap.size + 1 + 1) l ∧ ∃ r, Arr w' (w.heap.size + 1) r)) (by kernel_rfl) ⟨H2.out, _, H1.out⟩ (fun hHeld => ?_)
      refine tkl 0 qOpD_0 (v := .agg (Lib.setCells l)) ?_ ?_
      skip
      ·exact fun _ hSw => exec_load_arr rfl rfl hSw.1 Tryz.underlying135 z2
      try simp only [Act.put, sA, sB, sC]
      refine tk 1 qOpD_1 ?_
      try simp only [Act.put, sA, sB, sC]
      refine tk 2 qOpD_2 ?_
      try simp only [Act.put, sA, sB, sC]
      refine tk 3 qOpD_3 ?_
      try simp only [Act.put, sA, sB, sC]
      refine wpAnyH_ready (rs := [4]) (by kernel_rfl) (by simp) ?_
      refine AllReadyH.cons (o := qOpD_4) rfl (fun K hK => ?_) AllReadyH.nil
      refine wp_store_arr rfl rfl rfl H1.out.drew z2 (by rw [Lib.setCells_size, Lib.setCells_size]) (Lib.setCells_one _) ?_
      refine hK.out _ _ ⟨H2.out.drew.set_ne (by omega) _, _, H1.out.drew.set _⟩ (fun hHeld => ?_)
      clear hK K
      try simp only [Act.put, sA, sB, sC]
      refine tk 5 qOpD_5 ?_
      try simp only [Act.put, sA, sB, sC]
      refine tk 6 qOpD_6 ?_
      try simp only [Act.put, sA, sB, sC]
      refine wpAnyH_done (by kernel_rfl) ?_ _
      have HP : Hid (PlR w (.slice (if c = k then some ⟨b, o, none⟩ else some ⟨b, o + k, none⟩) (xs.length - k) (c - k)) (x :: xs.drop (k + 1))) := Lib.hid (by rw [← HD.out]; exact (PlR.from HS.out (by omega) h2 (by unfold maxLen; omega)))
      generalize (if c = k then some (⟨b, o, none⟩ : Addr) else some ⟨b, o + k, none⟩) = pp at *
      go_wp2_with fail
      (try simp only [Exit.inBlock, Exit.then])
      have HBF := below_setRow HB.out.drew (g := w.heap.size + 1) (by omega) (Lib.setCells l)
      refine bodyPost_ret (v := .tuple #[.agg (Lib.setCells l), .slice pp (xs.length - k) (c - k), .bool true]) ?_ rfl ⟨by rw [HV.out]; exact ⟨_, rfl, HP.out.grown HBF⟩, HBF⟩
      rw [results_cell_tmp2 rfl]
      have hl := run_loadVar_row (P := Tryz.prog) (wr.drew.setRow (w.heap.size + 1) (Lib.setCells l)) (w.heap.size + 1) 135 135 _ _ _ (H1.out.drew.set l) Tryz.underlying135 rfl z2
      simp [asAddr, Result.andThen, hl]
     ·have hpos : 0 < x.size := by clear hop; omega
      obtain ⟨y, hy⟩ : ∃ y : UInt8, x[0]'hpos = y := ⟨_, rfl⟩
      have hy45 : ((y.toNat : Int) != 45) = true := by
       have h : x.data.toList.head? ≠ some 45 := hop.resolve_left hx2
       rw [List.head?_eq_getElem?, Lib.data_getElem? x 0 hpos, hy] at h
       refine bne_iff_ne.2 fun e => h ?_
       rw [show y = 45 from UInt8.toNat_inj.1 (by show y.toNat = 45; omega)]
      have HV : Hid (cutD km xs = some (l, x :: xs.drop (k + 1))) := Lib.hid (by rw [HC.out, HD.out, cut_op hdd hop]; simp [ahead])
      clear hop hdd
      go_upto_region 8 with fail
      refine wp_region_held_drew (S := (fun w' => Arr w' (w.heap.size + 1 + 1) l ∧ ∃ r, Arr w' (w.heap.size + 1) r)) (by kernel_rfl) ⟨H2.out, _, H1.out⟩ (fun hHeld => ?_)
      refine tkl 0 qOpD_0 (v := .agg (Lib.setCells l)) ?_ ?_
      skip
      ·exact fun _ hSw => exec_load_arr rfl rfl hSw.1 Tryz.underlying135 z2
      try simp only [Act.put, sA, sB, sC]
      refine tk 1 qOpD_1 ?_
      try simp only [Act.put, sA, sB, sC]
      refine tk 2 qOpD_2 ?_
      try simp only [Act.put, sA, sB, sC]
      refine tk 3 qOpD_3 ?_
      try simp only [Act.put, sA, sB, sC]
      refine wpAnyH_ready (rs := [4]) (by kernel_rfl) (by simp) ?_
      refine AllReadyH.cons (o := qOpD_4) rfl (fun K hK => ?_) AllReadyH.nil
      refine wp_store_arr rfl rfl rfl H1.out.drew z2 (by rw [Lib.setCells_size, Lib.setCells_size]) (Lib.setCells_one _) ?_
      refine hK.out _ _ ⟨H2.out.drew.set_ne (by omega) _, _, H1.out.drew.set _⟩ (fun hHeld => ?_)
      clear hK K
      try simp only [Act.put, sA, sB, sC]
      refine tk 5 qOpD_5 ?_
      try simp only [Act.put, sA, sB, sC]
      refine tk 6 qOpD_6 ?_
      try simp only [Act.put, sA, sB, sC]
      refine wpAnyH_done (by kernel_rfl) ?_ _
      have HP : Hid (PlR w (.slice (if c = k then some ⟨b, o, none⟩ else some ⟨b, o + k, none⟩) (xs.length - k) (c - k)) (x :: xs.drop (k + 1))) := Lib.hid (by rw [← HD.out]; exact (PlR.from HS.out (by omega) h2 (by unfold maxLen; omega)))
      generalize (if c = k then some (⟨b, o, none⟩ : Addr) else some ⟨b, o + k, none⟩) = pp at *
      go_wp2_with fail
      (try simp only [Exit.inBlock, Exit.then])
      have HBF := below_setRow HB.out.drew (g := w.heap.size + 1) (by omega) (Lib.setCells l)
      refine bodyPost_ret (v := .tuple #[.agg (Lib.setCells l), .slice pp (xs.length - k) (c - k), .bool true]) ?_ rfl ⟨by rw [HV.out]; exact ⟨_, rfl, HP.out.grown HBF⟩, HBF⟩
      rw [results_cell_tmp2 rfl]
      have hl := run_loadVar_row (P := Tryz.prog) (wr.drew.setRow (w.heap.size + 1) (Lib.setCells l)) (w.heap.size + 1) 135 135 _ _ _ (H1.out.drew.set l) Tryz.underlying135 rfl z2
      simp [asAddr, Result.andThen, hl]
    ·have z0 := ox_sizeC km
     have hx2 : ¬ x.size < 2 := fun h => hop (.inl h)
     have hpos : 0 < x.size := by clear hop; omega
     obtain ⟨y, hy⟩ : ∃ y : UInt8, x[0]'hpos = y := ⟨_, rfl⟩
     have hy45 : ((y.toNat : Int) != 45) = false := by
      have h : x.data.toList.head? = some 45 := Classical.not_not.1 fun h => hop (.inr h)
      rw [List.head?_eq_getElem?, Lib.data_getElem? x 0 hpos, hy] at h
      rw [Option.some.inj h]
      rfl
     have HG := Lib.hid (cut_go (kn := km) (r := xs.drop (k + 1)) hdd hop)
     clear hop hdd
     have hx1 : (1 : Int) ≤ (x.size : Int) := by omega
     have HTX := Lib.hid (extract_one x)
     have hts : (x.extract 1 x.size).size ≤ 1000000 := by rw [ByteArray.size_extract]; omega
     have HTS := Lib.hid hts
     clear hts
     obtain ⟨q, hq⟩ : ∃ q, (x.data.toList.drop 1).all km.contains = q := ⟨_, rfl⟩
     have HQ := Lib.hid hq
     clear hq
     go_upto_region 9 with fail
     refine wp_region_held_drew (S := (fun w' => Arr w' w.heap.size km)) (by kernel_rfl) H0.out (fun hHeld => ?_)
     refine tk 0 { dst := some 36, op := Op.move (Operand.tmp 9), type := 9, pos := "opts.go:43", after := #[], guard := none } ?_
     try simp only [Act.put, sA, sB, sC]
     refine tk 1 { dst := some 37, op := Op.slice 9 (Operand.tmp 36) (some (Operand.const (Value.int IntKind.i64 1))) none none, type := 9, pos := "opts.go:43", after := #[{ on := 0, ground := Ground.data }], guard := none } ?_
     try simp only [Act.put, sA, sB, sC]
     refine tkl 2 { dst := some 38, op := Op.load 135 (Operand.tmp 3), type := 135, pos := "opts.go:43", after := #[], guard := none } (v := .agg (Lib.setCells km)) ?_ ?_
     skip
     ·exact fun _ hSw => exec_load_arr rfl rfl hSw Tryz.underlying135 z0
     try simp only [Act.put, sA, sB, sC]
     refine wpAnyH_ready (rs := [3]) (by kernel_rfl) (by simp) ?_
     refine AllReadyH.cons (o := { dst := some 39, op := Op.call { callee := Callee.value (Operand.func 118), args := #[Operand.tmp 7, Operand.tmp 37, Operand.tmp 38], argTypes := #[135, 9, 135] }, type := 4, pos := "opts.go:43", after := #[{ on := 1, ground := Ground.data }, { on := 2, ground := Ground.data }], guard := none }) rfl (fun K hK => ?_) AllReadyH.nil
     go_simp
     refine (add_any _ _ l km (x.extract 1 x.size) H2.out.drew HTS.out).mono ?_
     rintro e w2 ⟨he, ⟨r, h2, hr⟩, hb2⟩
     rw [HTX.out, HQ.out] at he hr
     subst he
     have K0 := Lib.hid (H0.out.drew.bl hb2 (by omega))
     have K1 := Lib.hid (H1.out.drew.bl hb2 (by omega))
     have K2 := Lib.hid h2
     have KB := Lib.hid (HB.out.drew.trans (hb2.below (B := w.heap.size) (by omega) HB.out.size))
     have HR := Lib.hid hr
     clear h2 hr hb2
     go_wp2_with fail
     refine hK.out _ _ K0.out (fun hHeld => ?_)
     clear hK K
     try simp only [Act.put, sA, sB, sC]
     refine tk 4 { dst := some 40, op := Op.unOp UnOp.not 4 (Operand.tmp 39), type := 4, pos := "opts.go:43", after := #[{ on := 3, ground := Ground.data }], guard := none } ?_
     try simp only [Act.put, sA, sB, sC]
     refine wpAnyH_done (by kernel_rfl) ?_ _
     cases q with
     | true =>
      have hq := HQ.out
      obtain rfl := HR.out rfl
      have HC2 : Hid (cutD km xs = ahead (l ++ x.data.toList.drop 1) (cutD km (xs.drop (k + 1)))) := Lib.hid (by
       rw [HC.out, HD.out, HG.out, if_pos hq]
       cases cutD km (xs.drop (k + 1)) with
       | none => rfl
       | some p => simp [ahead, List.append_assoc])
      go_wp2_with fail
      go_roundw
      case rel => exact ⟨k + 1, _, by omega, by go_num, K0, K1, K2, KB, HC2⟩
      case measure => simp [intOf]; omega
     | false =>
      have HV : Hid (cutD km xs = none) := Lib.hid (by rw [HC.out, HD.out, HG.out, if_neg (by rw [HQ.out]; decide)]; rfl)
      have z1 := ox_sizeC []
      go_upto_region 10 with fail
      apply wp_region_lit
      have hz := ox_zero
      refine wpList_plain rfl fun _ hK => ?_
      go_simp
      refine hK _ _ ?_
      clear hK hz
      refine wpList_plain rfl fun _ hK => wp_store_arr rfl rfl rfl K1.out z1 rfl (Lib.setCells_one _) (hK _ _ ?_)
      clear hK
      have HBF := below_setRow KB.out (g := w.heap.size + 1) (by omega) (Lib.setCells [])
      go_wp2_with fail
      (try simp only [Exit.inBlock, Exit.then])
      refine bodyPost_ret (v := .tuple #[.agg (Lib.setCells []), .slice none 0 0, .bool false]) ?_ rfl ⟨by rw [HV.out]; exact ⟨_, _, rfl⟩, HBF⟩
      rw [results_cell_tmp2 rfl]
      have hl := run_loadVar_row (P := Tryz.prog) (w2.setRow (w.heap.size + 1) (Lib.setCells [])) (w.heap.size + 1) 135 135 _ _ _ (K1.out.set []) Tryz.underlying135 rfl z1
      simp [asAddr, Result.andThen, hl]
  ·obtain rfl : k = xs.length := by omega
   have HV : Hid (cutD km xs = some (l, [])) := Lib.hid (by rw [HC.out, List.drop_length]; simp [cutD, ahead])
   have z2 := ox_sizeC l
   have HBF := below_setRow HB.out (g := w.heap.size + 1) (by omega) (Lib.setCells l)
   go_upto_region 12 with fail
   apply wp_region_lit
   refine wpList_plain rfl fun _ hK => wp_load_arr rfl rfl H2.out Tryz.underlying135 z2 (hK _ _ ?_)
   clear hK
   refine wpList_plain rfl fun _ hK => wp_store_arr rfl rfl rfl H1.out z2 (by rw [Lib.setCells_size, Lib.setCells_size]) (Lib.setCells_one _) (hK _ _ ?_)
   clear hK
   go_wp2_with fail
   (try simp only [Exit.inBlock, Exit.then])
   refine bodyPost_ret (v := .tuple #[.agg (Lib.setCells l), .slice none 0 0, .bool true]) ?_ rfl ⟨by rw [HV.out]; exact ⟨_, rfl, nil_plr _⟩, HBF⟩
   rw [results_cell_tmp2 rfl]
   have hl := run_loadVar_row (P := Tryz.prog) (wr.setRow (w.heap.size + 1) (Lib.setCells l)) (w.heap.size + 1) 135 135 _ _ _ (H1.out.set l) Tryz.underlying135 rfl z2
   simp [asAddr, Result.andThen, hl]
end Go.Proofs.YtfilbknnpjbmcaaGreatDoor
