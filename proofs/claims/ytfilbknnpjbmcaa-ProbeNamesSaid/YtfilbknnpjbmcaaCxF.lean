/- A closed call, run: append, copy, make. No program of its own. -/
import Derived.Test.YtfilbknnpjbmcaaCxE
import Derived.IntWalk
namespace Go.Proofs.Ytfilbknnpjbmcaa.Cx
open Go Go.RowKit

/-- How many elements a source has, and the first cells of it. -/
noncomputable def lenOfA : Value → Option Nat
  | .slice _ n _ => some n
  | .string b => some b.size
  | _ => none
noncomputable def byteVals : List UInt8 → List Value
  | [] => []
  | c :: r => forceN c.toNat fun m => .int .u8 (.ofNat m) :: byteVals r
theorem byteVals_eq : ∀ b, byteVals b = b.map fun c => .int .u8 c.toNat
  | [] => rfl
  | c :: r => by
    show Value.int .u8 (.ofNat c.toNat) :: byteVals r = _
    rw [byteVals_eq r]
    rfl
noncomputable def firstA (st : St) (size n : Nat) : Value → Option (List Value)
  | .slice (some ⟨g, off, none⟩) _ _ => loadsO st g off (n * size)
  | .slice none _ _ => some []
  | .string b => some (byteVals (b.data.toList.take n))
  | _ => none
theorem lenOfA_ok {P : Program} {s : Ren} {x x' : Value} {n : Nat} (h : lenOfA x = some n) (hx : VR s x x') (w : World) : (Builtin.lenOf x').run P w = .ok n w := by
  unfold lenOfA at h
  split at h
  · cases h; cases hx <;> simp [Builtin.lenOf]
  · cases h; cases hx; simp [Builtin.lenOf]
  · cases h
theorem firstA_ok {P : Program} {s : Ren} {st : St} {w : World} {size n : Nat} {x x' : Value} {vs : List Value} (hM : Mem s st w) (hx : VR s x x') (hle : ∀ m, lenOfA x = some m → n ≤ m) (h : firstA st size n x = some vs) :
    ∃ vs' : Array Value, (Builtin.firstCells size n x').run P w = .ok vs' w ∧ VRs s vs.toArray vs' := by
  unfold firstA at h
  split at h
  · rename_i g off len cap
    have key : ∀ (l : Loc) (c' : Nat), s g = some l → ∃ vs' : Array Value, (Builtin.firstCells size n (.slice (some ⟨l.blk, off, none⟩) len c')).run P w = .ok vs' w ∧ VRs s vs.toArray vs' := by
      intro l c' hl
      obtain ⟨vs', h1, _, _, _, h4, _⟩ := loads_run (P := P) hM hl h
      exact ⟨vs'.toArray, by simp [Builtin.firstCells, h1], h4⟩
    cases hx with
    | slice _ _ _ _ l hl hc => exact key l _ hl
    | sliceEnd _ _ _ c _ _ l hl _ _ => exact key l _ hl
    | sliceEmpty _ b _ _ c h0 _ =>
      have hn : n = 0 := by have := hle len rfl; omega
      subst hn
      rw [Nat.zero_mul] at h
      cases h
      exact ⟨#[], by simp [Builtin.firstCells, loadCells, loadCellsFrom], VRs.nil⟩
  · cases h
    cases hx
    exact ⟨#[], by simp [Builtin.firstCells], VRs.nil⟩
  · cases h
    cases hx
    rename_i b
    refine ⟨(b.extract 0 n).data.map fun c => .int .u8 c.toNat, by simp [Builtin.firstCells], ?_⟩
    have ht : b.data.toList.take n = (b.extract 0 n).data.toList := by simp
    rw [byteVals_eq, ht]
    refine VRs.of_get (by simp) fun i v hv => ?_
    simp only [List.getElem?_toArray, List.getElem?_map, Option.map_eq_some_iff] at hv
    obtain ⟨c, hc, rfl⟩ := hv
    exact ⟨.int .u8 c.toNat, by simp only [Array.getElem?_map]; rw [show (b.extract 0 n).data[i]? = some c by rw [← Array.getElem?_toList]; exact hc]; rfl, .int _ _⟩
  · cases h

/-- A block whose place is taken by another number. -/
theorem Mem.swap {s : Ren} {st : St} {w w' : World} {g : Nat} {o o' : AObj} {l : Loc} {x' : Obj} {H : TH} (hM : Mem s st w) (hlim : st.c < st.lim) (hl : s g = some l) (hg : st.H.get g = some o)
    (hH : ∀ j, H.get j = if j = st.c then some o' else if j = g then none else st.H.get j) (hw : ∀ k, w'.heap[k]? = if k = l.blk then some x' else w.heap[k]?)
    (hr : ∀ s', s.le s' → s' st.c = some l → ObjR s' l o' x') (h1 : w'.os = w.os) (h2 : w'.tape = w.tape) (h3 : w'.output = w.output) (hro : roO o = false := by rfl) :
    ∃ s', Mem s' ⟨H, Nat.succ st.c, st.lim⟩ w' ∧ Ev s st w s' ⟨H, Nat.succ st.c, st.lim⟩ w' ∧ s' st.c = some l := by
  let s' : Ren := fun j => if j = st.c then some l else s j
  have hs' : s' st.c = some l := by simp [s']
  have hle : s.le s' := by
    intro j q e
    have : j ≠ st.c := fun h => by rw [h, hM.new_ _ (Nat.le_refl _) hlim] at e; cases e
    simp [s', this, e]
  have hsz : w.heap.size ≤ w'.heap.size := by
    rcases Nat.lt_or_ge w'.heap.size w.heap.size with hlt | hge
    · have := hw w'.heap.size
      rw [Array.getElem?_eq_none (Nat.le_refl _)] at this
      split at this
      · cases this
      · rw [Array.getElem?_eq_getElem hlt] at this; cases this
    · exact hge
  have old : ∀ j q, H.get j = some q → j ≠ st.c → j ≠ g ∧ st.H.get j = some q := by
    intro j q hj hc
    rw [hH, if_neg hc] at hj
    split at hj
    · cases hj
    · rename_i hne; exact ⟨hne, hj⟩
  refine ⟨s', ⟨fun j q hj => ?_, fun a b o1 o2 l1 l2 ha hb e1 e2 he => ?_, fun j hj hjl => ?_⟩, ⟨hle, h1, h2, h3, hsz, fun b hb hn => ?_, fun j q lj hj e => ?_, Nat.le_succ _, rfl, fun g hg => ?_, fun j q lj hj hrq e => ?_⟩, hs'⟩
  · by_cases hc : j = st.c
    · subst hc
      simp only [hH, if_true, Option.some.injEq] at hj
      subst hj
      exact ⟨l, x', hs', by simp [hw], hr s' hle hs'⟩
    · obtain ⟨hne, hj'⟩ := old j q hj hc
      obtain ⟨lj, y, e1, e2, e3⟩ := hM.at_ j q hj'
      refine ⟨lj, y, hle _ _ e1, ?_, e3.mono hle⟩
      rw [hw, if_neg (fun h => hne (hM.inj _ _ _ _ _ _ hj' hg e1 hl h))]
      exact e2
  · by_cases ca : a = st.c <;> by_cases cb : b = st.c
    · rw [ca, cb]
    · obtain ⟨hne, hb'⟩ := old b o2 hb cb
      simp only [s', ca, if_true] at e1
      simp only [s', cb, if_false] at e2
      cases e1
      exact absurd (hM.inj _ _ _ _ _ _ hg hb' hl e2 he).symm hne
    · obtain ⟨hne, ha'⟩ := old a o1 ha ca
      simp only [s', ca, if_false] at e1
      simp only [s', cb, if_true] at e2
      cases e2
      exact absurd (hM.inj _ _ _ _ _ _ ha' hg e1 hl he) hne
    · obtain ⟨_, ha'⟩ := old a o1 ha ca
      obtain ⟨_, hb'⟩ := old b o2 hb cb
      simp only [s', ca, if_false] at e1
      simp only [s', cb, if_false] at e2
      exact hM.inj _ _ _ _ _ _ ha' hb' e1 e2 he
  · have hj' : st.c + 1 ≤ j := hj
    have : j ≠ st.c := by omega
    simp [s', this, hM.new_ j (by omega) hjl]
  · rw [hw, if_neg (fun h => hn g o l hg hl h.symm)]
  · by_cases hc : j = st.c
    · subst hc
      cases hs'.symm.trans e
      exact .inr ⟨g, o, l, hg, hl, rfl⟩
    · obtain ⟨_, hj'⟩ := old j q hj hc
      simp only [s', hc, if_false] at e
      exact .inr ⟨j, q, lj, hj', e, rfl⟩
  · have : g ≠ st.c := fun h => hg ⟨by omega, by omega⟩
    simp [s', this]
  · have hne : j ≠ g := fun h => by
      rw [h, hg] at hj
      cases hj
      rw [hro] at hrq
      cases hrq
    have hc : j ≠ st.c := fun h => by rw [h, hM.new_ _ (Nat.le_refl _) hlim] at e; cases e
    refine ⟨?_, ?_⟩
    · show H.get j = _
      rw [hH, if_neg hc, if_neg hne]
      exact hj
    · rw [hw, if_neg (fun h => hne (hM.inj _ _ _ _ _ _ hj hg e hl h))]
theorem Mem.kill {s : Ren} {st : St} {w : World} {g : Nat} {H : TH} (hM : Mem s st w) (hH : ∀ j, H.get j = if j = g then none else st.H.get j) (hro : ∀ o, st.H.get g = some o → roO o = false) : Mem s ⟨H, st.c, st.lim⟩ w ∧ Ev s st w s ⟨H, st.c, st.lim⟩ w := by
  have old : ∀ j q, H.get j = some q → st.H.get j = some q := by
    intro j q hj
    rw [hH] at hj
    split at hj
    · cases hj
    · exact hj
  exact ⟨⟨fun j q hj => hM.at_ j q (old j q hj), fun a b o1 o2 l1 l2 ha hb e1 e2 he => hM.inj _ _ _ _ _ _ (old _ _ ha) (old _ _ hb) e1 e2 he, hM.new_⟩,
    ⟨.refl s, rfl, rfl, rfl, Nat.le_refl _, fun _ _ _ => rfl, fun j q lj hj e => .inr ⟨j, q, lj, old j q hj, e, rfl⟩, Nat.le_refl _, rfl, fun _ _ => rfl, fun j q lj hj hrq e => ⟨by
      show H.get j = _
      rw [hH, if_neg (fun h => by rw [h] at hj; rw [hro _ hj] at hrq; cases hrq)]
      exact hj, rfl⟩⟩⟩

/-- Cells written into a block, whatever else is known of it. -/
theorem storeRaw {P : Program} (b off : Nat) (e : TypeId) (p : Nat × Nat) : ∀ (vs : List Value) (i : Nat) (w : World) (c : Array Value), w.heap[b]? = some (.cells c e p) → off + i + vs.length ≤ c.size →
    (∀ k, off + i ≤ k → ¬ (p.1 ≤ k ∧ k < p.2)) → (∀ v ∈ vs, v.oneCell' = true) →
    ∃ w' c', (storeCells ⟨b, off, none⟩ vs i).run P w = .ok () w' ∧ (∀ k, w'.heap[k]? = if k = b then some (.cells c' e p) else w.heap[k]?) ∧ w'.os = w.os ∧ w'.tape = w.tape ∧ w'.output = w.output ∧
      c'.size = c.size ∧ ∀ k, c'[k]? = if off + i ≤ k ∧ k < off + i + vs.length then vs[k - (off + i)]? else c[k]?
  | [], i, w, c, hc, _, _, _ => ⟨w, c, rfl, fun k => by by_cases hk : k = b <;> simp [hk, hc], rfl, rfl, rfl, rfl, fun k => by rw [if_neg (by simp only [List.length_nil]; omega)]⟩
  | v :: r, i, w, c, hc, hl, hf, h1 => by
    simp only [List.length_cons] at hl
    have hcell : w.cell? ⟨b, off + i, none⟩ = some (c[off + i]'(by omega)) := by
      simp [World.cell?, hc, Array.getElem?_eq_getElem (show off + i < c.size by omega)]
    have hfr : w.frozen? ⟨b, off + i, none⟩ = false := by
      have := hf (off + i) (Nat.le_refl _)
      simp only [World.frozen?, hc]
      rw [Bool.eq_false_iff]
      simpa using this
    have hset := setCell_at w b (off + i) v c e p hc
    obtain ⟨w', c', r1, r2, r3, r4, r5, r6, r7⟩ := storeRaw (P := P) b off e p r (i + 1) (w.setCell ⟨b, off + i, none⟩ v) (c.setIfInBounds (off + i) v) (by simp [hset]) (by simp; omega) (fun k hk => hf k (by omega)) (fun x hx => h1 x (by simp [hx]))
    have hst : (store ((⟨b, off, none⟩ : Addr).add i) v).run P w = .ok () (w.setCell ⟨b, off + i, none⟩ v) := by
      rw [addr_add, run_store P w _ v _ (h1 v (by simp))]
      simp [hcell, hfr]
    refine ⟨w', c', by simp only [storeCells, Sem.run_bind, hst, Result.andThen_ok, r1], fun k => ?_, r3, r4, r5, by rw [r6]; simp, fun k => ?_⟩
    · rw [r2, hset]
      by_cases hk : k = b <;> simp [hk]
    · rw [r7]
      by_cases hk : k = off + i
      · subst hk
        rw [if_neg (by omega), if_pos (by simp only [List.length_cons]; omega)]
        simp [show off + i < c.size by omega]
      · by_cases hc2 : off + (i + 1) ≤ k ∧ k < off + (i + 1) + r.length
        · rw [if_pos hc2, if_pos (by simp only [List.length_cons]; omega), show k - (off + i) = (k - (off + (i + 1))) + 1 by omega]
          simp
        · rw [if_neg hc2, if_neg (by simp only [List.length_cons]; omega), Array.getElem?_setIfInBounds_ne (fun e => hk e.symm)]

/-- A row that has grown: new memory. -/
noncomputable def growA (_P : Program) (e : TypeId) (i : TypeInfo) (need : Nat) (cells : List Value) (st : St) : Option (Value × St) :=
  match i.zero with
  | some z => bif plainV FUEL z && Nat.blt 0 i.size && Nat.beq z.cells.size i.size && Nat.ble (need * i.bytes) 140737488355328 && Nat.ble need 4611686018427387904 && Nat.beq cells.length (need * i.size) then
      ofList cells 0 .leaf fun t => newO (.cells (need * i.size) t e i.size true (.upto 0)) st fun g st' => some (.slice (some ⟨g, 0, none⟩) need BIG, st')
    else none
  | none => none
theorem growA_ok {P : Program} {s : Ren} {st st' : St} {w : World} {e : TypeId} {i : TypeInfo} {need n len cap : Nat} {olds news : List Value} {olds' news' : Array Value} {t t1 ty : TypeId} {sx x' v : Value} {base : Option Addr}
    (hM : Mem s st w) (hu : P.underlying t = some (.slice e)) (hi : P.info? e = some i) (hz : (∃ e', P.underlying t1 = some (.slice e')) ∨ P.underlying t1 = some .string) (hs : sx = .slice base len cap) (hn : ∀ w, (Builtin.lenOf x').run P w = .ok n w)
    (ho : (Builtin.firstCells i.size len (.slice base len cap)).run P w.drew = .ok olds' w.drew) (hw : (Builtin.firstCells i.size n x').run P w.drew = .ok news' w.drew) (ro : VRs s olds.toArray olds') (rn : VRs s news.toArray news')
    (hneed : need = len + n) (hcap : cap < need) (h : growA P e i need (olds ++ news) st = some (v, st')) : SV P s st w (Builtin.append_ #[t, t1] ty #[sx, x']) v st' := by
  subst hs
  unfold growA at h
  split at h
  · rename_i z hzero
    cases hb : (plainV FUEL z && Nat.blt 0 i.size && Nat.beq z.cells.size i.size && Nat.ble (need * i.bytes) 140737488355328 && Nat.ble need 4611686018427387904 && Nat.beq (olds ++ news).length (need * i.size)) with
    | false => simp only [hb, cond_false] at h; cases h
    | true =>
      simp only [hb, cond_true] at h
      simp only [Bool.and_eq_true, Nat.blt_eq, Nat.beq_eq, Nat.ble_eq] at hb
      obtain ⟨⟨⟨⟨⟨hpl, h0⟩, hzs⟩, hby⟩, hmax⟩, hlen⟩ := hb
      obtain ⟨tt, h1, ht⟩ := ofList_ok h
      have hge := grownCap_ge w need cap e
      have hcells : VRs s (olds ++ news).toArray (olds' ++ news') := by
        have := ro.append rn
        simpa using this
      have hcsz : (olds' ++ news').size = need * i.size := by rw [← hcells.1]; simpa using hlen
      obtain ⟨s', st1, h2, m1, e1, hs⟩ := newO_ok (w := w.drew) (hM.draws rfl) h1 (.cells (olds' ++ news' ++ Builtin.zeroCells z.cells (grownCap w need cap e - need)) e) (grownCap w need cap e) (fun s' hle hc => by
        refine ⟨.inr rfl, ?_, ?_, .inl rfl⟩
        · have hca := cellsAt_list (hcells.mono hle) ht
          intro k u hk hu
          obtain ⟨u', q1, q2⟩ := hca k u (by omega) hu
          refine ⟨u', ?_, q2⟩
          rw [Array.getElem?_append_left (by omega)]
          exact q1
        · have hsz : (olds' ++ news' ++ Builtin.zeroCells z.cells (grownCap w need cap e - need)).size = grownCap w need cap e * i.size := by
            rw [Array.size_append, hcsz, show (Builtin.zeroCells z.cells (grownCap w need cap e - need)).size = (grownCap w need cap e - need) * z.cells.size by simp [Builtin.zeroCells], hzs, ← Nat.add_mul]
            congr 1
            omega
          simp only [if_true]
          refine ⟨?_, h0, hsz⟩
          rw [hsz]
          exact Nat.mul_le_mul_right _ hge)
      cases h2
      have e0 : Ev s st w s st w.drew := Ev.draws rfl rfl rfl rfl
      refine ⟨s', _, .slice (some ⟨w.heap.size, 0, none⟩) need (grownCap w need cap e), ?_, .sliceEnd _ _ _ 0 _ _ _ hs rfl rfl, m1, e0.trans e1⟩
      have hfit := growslice_fits (need := need) (old := cap) (bytes := i.bytes) hcap hby
      have hni : ¬ (len + n ≤ cap) := by omega
      have e2 : ¬ ((281474976710656 : Nat) < Builtin.nextslicecap (len + n) cap * i.bytes) := by rw [← hneed]; omega
      have e3 : ¬ ((9223372036854775807 : Int) < ((len + n : Nat) : Int)) := by omega
      have e3' : ¬ ((9223372036854775807 : Int) < (len : Int) + (n : Int)) := by omega
      subst hneed
      rcases hz with ⟨e', hd1⟩ | hd1
      all_goals simp [Builtin.append_, run_underlying hu, run_underlying hd1, sizeOf, typeInfo, zeroValue, hi, hzero, hn, hni, e2, e3', Question.forced, ho, hw, newRow, grownCap, IntKind.max, IntKind.signed, IntKind.bits]
  · cases h

end Go.Proofs.Ytfilbknnpjbmcaa.Cx
