/- Walks: a step of the statements on prim; whether steps are more than a statement does. -/
import Derived.Test.YtonpeoaahjoboaaPmE
namespace Go.Proofs.Ytonpeoaahjoboaa
open Go.RowKit Px Nx
namespace Nx
/-- A step as data. -/
structure Ob where
  kind : UInt8
  a : List ByteArray
  b : List ByteArray
  text : ByteArray
  deep : Bool
def ObR (W : World) (cs : List Value) (s : Ob) : Prop := ∃ (pa : Option Addr) (ca : Nat) (pb : Option Addr) (cb : Nat), cs = [.int .u8 s.kind.toNat, .slice pa s.a.length ca, .slice pb s.b.length cb, .string s.text, .bool s.deep] ∧ PlR W (.slice pa s.a.length ca) s.a ∧ PlR W (.slice pb s.b.length cb) s.b
def doD (n : Nd) (s : Ob) : Int × Nd :=
  bif s.kind == 0 then makeD n s.a dirN else bif s.kind == 1 then makeD n s.a (fileN s.text) else bif s.kind == 2 then makeD n s.a (linkN s.text) else bif s.kind == 3 then touchD n s.a else
  bif s.kind == 4 then removeD n s.a (wrongDir n s.a) else bif s.kind == 5 then removeD n s.a (wrongFile n s.a) else bif s.kind == 6 then removeD n s.a (wrongAll s.a) else bif s.kind == 7 then renameD n s.a s.b else copyingD n s.a s.b s.deep
/-- A place as the statements ask it. -/
def SmallP (l : List ByteArray) : Prop := l.length ≤ 20 ∧ ∀ i, i < l.length → (l.getD i ByteArray.empty).size ≤ 200
/-- It ends with true or false; with false just if P. -/
def Tells (P : Prop) (e : Ending) : Prop := ∃ lb, e = .returned (.bool lb) ∧ (lb = false → P)
def Short (n : Nd) (l : List Ob) : Prop := n.may = true ∧ n.nodes ≤ 200 ∧ l.length ≤ 40 ∧ ∀ (i : Nat) s, l[i]? = some s → SmallP s.a ∧ SmallP s.b ∧ s.text.size ≤ 1000
theorem small_bulk {l : List ByteArray} (h : SmallP l) : namesBulk l ≤ 4020 := by
  obtain ⟨h1, h2⟩ := h
  have : ∀ l : List ByteArray, (∀ i, i < l.length → (l.getD i ByteArray.empty).size ≤ 200) → namesBulk l ≤ 201 * l.length := by
    intro l
    induction l with
    | nil => intro _; exact Nat.zero_le _
    | cons x r ih =>
      intro h
      have h0 : x.size ≤ 200 := h 0 (by simp)
      have h3 := ih fun i hi => h (i + 1) (by simp; omega)
      have e : namesBulk (x :: r) = x.size + 1 + namesBulk r := by simp [namesBulk]
      rw [e, List.length_cons]
      omega
  have := this l h2
  omega
theorem pl_cell1 {W : World} {p : Option Addr} {n c : Nat} {l : List ByteArray} (h : PlR W (.slice p n c) l) {k : Nat} (hk : k < l.length) : ∃ b o, p = some ⟨b, o, none⟩ ∧ ∀ {wx : World}, Below W.heap.size W wx → wx.cell? ⟨b, o + k, none⟩ = some (.string (l.getD k ByteArray.empty)) := by
  obtain ⟨p', c', he, hs, _, _⟩ := h
  obtain ⟨rfl, _, _⟩ : p = p' ∧ n = l.length ∧ c = c' := by simpa using he
  obtain ⟨b, o, h1, h2⟩ := name_cell hs (Below.refl _ _) hk
  exact ⟨b, o, h1, fun hb => cell_kept hb h2⟩
theorem pl_max1 {W : World} {p : Option Addr} {c : Nat} {l : List ByteArray} (h : PlR W (.slice p l.length c) l) : l.length ≤ 9223372036854775807 := by
  obtain ⟨p', c', he, hs, h1, h2⟩ := h
  unfold maxLen at h2
  omega
end Nx

set_option maxRecDepth 100000 in
set_option maxHeartbeats 4000000 in
theorem do_any {w : World} {b : Nat} {n : Nd} {v0 v1 v2 v3 : Value} (h : TreeX w b n v0 v1 v2 v3) (hw : n.well = true) (hB : n.girth ≤ 1000000) {s : Ob} {pa pb : Option Addr} {ca cb : Nat} (ha : PlT w b (.slice pa s.a.length ca) s.a) (hb2 : PlT w b (.slice pb s.b.length cb) s.b) (hna : namesBulk s.a ≤ 100000) (hnb : namesBulk s.b ≤ 100000) (hst : s.text.size ≤ 2000) :
    Calls Try.prog 10 #[.agg #[.int .u8 s.kind.toNat, .slice pa s.a.length ca, .slice pb s.b.length cb, .string s.text, .bool s.deep], .iface 28 (.pointer (some ⟨b, 0, none⟩))] w fun e w' => Did w b (doD n s) e w' := by
  have HT := Lib.hid h
  have HAL : Hid (∀ (o : Obj), Below w.heap.size w (w.alloc o)) := Lib.hid fun o => below_alloc (Below.refl _ _)
  have HR : Hid (doD n s = bif s.kind == 0 then makeD n s.a dirN else bif s.kind == 1 then makeD n s.a (fileN s.text) else bif s.kind == 2 then makeD n s.a (linkN s.text) else bif s.kind == 3 then touchD n s.a else bif s.kind == 4 then removeD n s.a (wrongDir n s.a) else bif s.kind == 5 then removeD n s.a (wrongFile n s.a) else bif s.kind == 6 then removeD n s.a (wrongAll s.a) else bif s.kind == 7 then renameD n s.a s.b else copyingD n s.a s.b s.deep) := Lib.hid rfl
  have H0 : Hid (∀ wx, Below w.heap.size w wx → Calls Try.prog 12 #[.iface 28 (.pointer (some ⟨b, 0, none⟩)), .slice pa s.a.length ca] wx fun e w' => Did w b (makeD n s.a dirN) e w') := Lib.hid fun wx hb => (MakeDir_any (HT.out.kept hb) hw hB (ha.r.grown hb) hna).mono fun e w' hd => hd.from hb
  have H1 : Hid (∀ wx, Below w.heap.size w wx → Calls Try.prog 18 #[.iface 28 (.pointer (some ⟨b, 0, none⟩)), .slice pa s.a.length ca, .string s.text] wx fun e w' => Did w b (makeD n s.a (fileN s.text)) e w') := Lib.hid fun wx hb => (MakeFile_any (HT.out.kept hb) hw hB (ha.r.grown hb) hna hst).mono fun e w' hd => hd.from hb
  have H2 : Hid (∀ wx, Below w.heap.size w wx → Calls Try.prog 17 #[.iface 28 (.pointer (some ⟨b, 0, none⟩)), .slice pa s.a.length ca, .string s.text] wx fun e w' => Did w b (makeD n s.a (linkN s.text)) e w') := Lib.hid fun wx hb => (MakeLink_any (HT.out.kept hb) hw hB (ha.r.grown hb) hna hst).mono fun e w' hd => hd.from hb
  have H3 : Hid (∀ wx, Below w.heap.size w wx → Calls Try.prog 19 #[.iface 28 (.pointer (some ⟨b, 0, none⟩)), .slice pa s.a.length ca] wx fun e w' => Did w b (touchD n s.a) e w') := Lib.hid fun wx hb => (Touch_any (HT.out.kept hb) hw hB (ha.r.grown hb) hna).mono fun e w' hd => hd.from hb
  have H4 : Hid (∀ wx, Below w.heap.size w wx → Calls Try.prog 13 #[.iface 28 (.pointer (some ⟨b, 0, none⟩)), .slice pa s.a.length ca] wx fun e w' => Did w b (removeD n s.a (wrongDir n s.a)) e w') := Lib.hid fun wx hb => (RemoveDir_any (HT.out.kept hb) hw hB (ha.r.grown hb) hna).mono fun e w' hd => hd.from hb
  have H5 : Hid (∀ wx, Below w.heap.size w wx → Calls Try.prog 20 #[.iface 28 (.pointer (some ⟨b, 0, none⟩)), .slice pa s.a.length ca] wx fun e w' => Did w b (removeD n s.a (wrongFile n s.a)) e w') := Lib.hid fun wx hb => (Unlink_any (HT.out.kept hb) hw hB (ha.r.grown hb) hna).mono fun e w' hd => hd.from hb
  have H6 : Hid (∀ wx, Below w.heap.size w wx → Calls Try.prog 16 #[.iface 28 (.pointer (some ⟨b, 0, none⟩)), .slice pa s.a.length ca] wx fun e w' => Did w b (removeD n s.a (wrongAll s.a)) e w') := Lib.hid fun wx hb => (RemoveAll_any (HT.out.kept hb) hw hB (ha.r.grown hb) hna).mono fun e w' hd => hd.from hb
  have H7 : Hid (∀ wx, Below w.heap.size w wx → Calls Try.prog 14 #[.iface 28 (.pointer (some ⟨b, 0, none⟩)), .slice pa s.a.length ca, .slice pb s.b.length cb] wx fun e w' => Did w b (renameD n s.a s.b) e w') := Lib.hid fun wx hb => (Rename_any (HT.out.kept hb) hw hB (ha.kept hb) (hb2.kept hb) hna hnb).mono fun e w' hd => hd.from hb
  have H8 : Hid (∀ wx, Below w.heap.size w wx → Calls Try.prog 15 #[.iface 28 (.pointer (some ⟨b, 0, none⟩)), .slice pa s.a.length ca, .slice pb s.b.length cb, .bool s.deep] wx fun e w' => Did w b (copyingD n s.a s.b s.deep) e w') := Lib.hid fun wx hb => (Copy_any (HT.out.kept hb) hw hB (ha.kept hb) (hb2.kept hb) hna hnb).mono fun e w' hd => hd.from hb
  have e0 := beq_int s.kind 0
  rw [show ((0 : UInt8).toNat : Int) = 0 from rfl] at e0
  have e1 := beq_int s.kind 1
  rw [show ((1 : UInt8).toNat : Int) = 1 from rfl] at e1
  have e2 := beq_int s.kind 2
  rw [show ((2 : UInt8).toNat : Int) = 2 from rfl] at e2
  have e3 := beq_int s.kind 3
  rw [show ((3 : UInt8).toNat : Int) = 3 from rfl] at e3
  have e4 := beq_int s.kind 4
  rw [show ((4 : UInt8).toNat : Int) = 4 from rfl] at e4
  have e5 := beq_int s.kind 5
  rw [show ((5 : UInt8).toNat : Int) = 5 from rfl] at e5
  have e6 := beq_int s.kind 6
  rw [show ((6 : UInt8).toNat : Int) = 6 from rfl] at e6
  have e7 := beq_int s.kind 7
  rw [show ((7 : UInt8).toNat : Int) = 7 from rfl] at e7
  generalize (s.kind == 0) = k0 at *
  generalize (s.kind == 1) = k1 at *
  generalize (s.kind == 2) = k2 at *
  generalize (s.kind == 3) = k3 at *
  generalize (s.kind == 4) = k4 at *
  generalize (s.kind == 5) = k5 at *
  generalize (s.kind == 6) = k6 at *
  generalize (s.kind == 7) = k7 at *
  clear h ha hb2 hw hB hna hnb hst HT
  cases k0 with
  | true =>
    clear H1 H2 H3 H4 H5 H6 H7 H8
    go_enter Try.func10, Try.ntmps10
    go_wp2_with fail
    refine (H0.out _ (HAL.out _)).mono ?_
    intro e w2 hd
    obtain ⟨c, rfl, hd⟩ := did_ex hd
    have HD := Lib.hid hd
    clear hd
    go_wp2_with fail
    go_ret
    rw [show doD n s = makeD n s.a dirN from HR.out]
    exact HD.out
  | false =>
    clear H0
    cases k1 with
    | true =>
      clear H2 H3 H4 H5 H6 H7 H8
      go_enter Try.func10, Try.ntmps10
      go_wp2_with fail
      refine (H1.out _ (HAL.out _)).mono ?_
      intro e w2 hd
      obtain ⟨c, rfl, hd⟩ := did_ex hd
      have HD := Lib.hid hd
      clear hd
      go_wp2_with fail
      go_ret
      rw [show doD n s = makeD n s.a (fileN s.text) from HR.out]
      exact HD.out
    | false =>
      clear H1
      cases k2 with
      | true =>
        clear H3 H4 H5 H6 H7 H8
        go_enter Try.func10, Try.ntmps10
        go_wp2_with fail
        refine (H2.out _ (HAL.out _)).mono ?_
        intro e w2 hd
        obtain ⟨c, rfl, hd⟩ := did_ex hd
        have HD := Lib.hid hd
        clear hd
        go_wp2_with fail
        go_ret
        rw [show doD n s = makeD n s.a (linkN s.text) from HR.out]
        exact HD.out
      | false =>
        clear H2
        cases k3 with
        | true =>
          clear H4 H5 H6 H7 H8
          go_enter Try.func10, Try.ntmps10
          go_wp2_with fail
          refine (H3.out _ (HAL.out _)).mono ?_
          intro e w2 hd
          obtain ⟨c, rfl, hd⟩ := did_ex hd
          have HD := Lib.hid hd
          clear hd
          go_wp2_with fail
          go_ret
          rw [show doD n s = touchD n s.a from HR.out]
          exact HD.out
        | false =>
          clear H3
          cases k4 with
          | true =>
            clear H5 H6 H7 H8
            go_enter Try.func10, Try.ntmps10
            go_wp2_with fail
            refine (H4.out _ (HAL.out _)).mono ?_
            intro e w2 hd
            obtain ⟨c, rfl, hd⟩ := did_ex hd
            have HD := Lib.hid hd
            clear hd
            go_wp2_with fail
            go_ret
            rw [show doD n s = removeD n s.a (wrongDir n s.a) from HR.out]
            exact HD.out
          | false =>
            clear H4
            cases k5 with
            | true =>
              clear H6 H7 H8
              go_enter Try.func10, Try.ntmps10
              go_wp2_with fail
              refine (H5.out _ (HAL.out _)).mono ?_
              intro e w2 hd
              obtain ⟨c, rfl, hd⟩ := did_ex hd
              have HD := Lib.hid hd
              clear hd
              go_wp2_with fail
              go_ret
              rw [show doD n s = removeD n s.a (wrongFile n s.a) from HR.out]
              exact HD.out
            | false =>
              clear H5
              cases k6 with
              | true =>
                clear H7 H8
                go_enter Try.func10, Try.ntmps10
                go_wp2_with fail
                refine (H6.out _ (HAL.out _)).mono ?_
                intro e w2 hd
                obtain ⟨c, rfl, hd⟩ := did_ex hd
                have HD := Lib.hid hd
                clear hd
                go_wp2_with fail
                go_ret
                rw [show doD n s = removeD n s.a (wrongAll s.a) from HR.out]
                exact HD.out
              | false =>
                clear H6
                cases k7 with
                | true =>
                  clear H8
                  go_enter Try.func10, Try.ntmps10
                  go_wp2_with fail
                  refine (H7.out _ (HAL.out _)).mono ?_
                  intro e w2 hd
                  obtain ⟨c, rfl, hd⟩ := did_ex hd
                  have HD := Lib.hid hd
                  clear hd
                  go_wp2_with fail
                  go_ret
                  rw [show doD n s = renameD n s.a s.b from HR.out]
                  exact HD.out
                | false =>
                  clear H7
                  go_enter Try.func10, Try.ntmps10
                  go_wp2_with fail
                  refine (H8.out _ (HAL.out _)).mono ?_
                  intro e w2 hd
                  obtain ⟨c, rfl, hd⟩ := did_ex hd
                  have HD := Lib.hid hd
                  clear hd
                  go_wp2_with fail
                  go_ret
                  rw [show doD n s = copyingD n s.a s.b s.deep from HR.out]
                  exact HD.out

set_option maxRecDepth 100000 in
set_option maxHeartbeats 4000000 in
theorem long_any {W : World} {cs : List Value} {n : Nd} (hn : NodeR W cs n) (hB : n.bulk ≤ 2000000) {p : Option Addr} {c : Nat} {l : List Ob} {C : Nat → List Value} (hR : Row W 5 p l.length C) (hE : ∀ (i : Nat) s, l[i]? = some s → ObR W (C i) s) (hl : l.length ≤ 9223372036854775807) : ∀ w, Below W.heap.size W w →
    Calls Try.prog 25 #[.agg cs.toArray, .slice p l.length c] w fun e w' => Tells (Short n l) e ∧ Below w.heap.size w w' := by
  intro w hb
  have HW := Lib.hid hb
  have HMA : Hid (∀ wx, Below w.heap.size w wx → Calls Try.prog 46 #[.agg cs.toArray] wx fun e w' => e = .returned (.bool n.may) ∧ Below wx.heap.size wx w') := Lib.hid fun wx hx => mayRef_any hn hB wx (hb.trans (hx.mono hb.size))
  have HNO : Hid (∀ wx, Below w.heap.size w wx → Calls Try.prog 77 #[.agg cs.toArray] wx fun e w' => e = .returned (.int .i64 n.nodes) ∧ Below wx.heap.size wx w') := Lib.hid fun wx hx => nodesRef_any hn wx (hb.trans (hx.mono hb.size)) hB
  have HST : Hid (∀ {wr : World}, Below W.heap.size W wr → ∀ (i : Nat), i < l.length → ∃ b o s pa ca pb cb, l[i]? = some s ∧ p = some ⟨b, o, none⟩ ∧ PlR W (.slice pa (Ob.a s).length ca) s.a ∧ PlR W (.slice pb s.b.length cb) s.b ∧ wr.cell? ⟨b, o + i * 5 + 1, none⟩ = some (.slice pa s.a.length ca) ∧ wr.cell? ⟨b, o + i * 5 + 2, none⟩ = some (.slice pb s.b.length cb) ∧ wr.cell? ⟨b, o + i * 5 + 3, none⟩ = some (.string s.text)) := Lib.hid fun hb i hi => by
    obtain ⟨b, o, hp, hl, hr⟩ := hR i hi
    obtain ⟨pa, ca, pb, cb, he, h1, h2⟩ := hE _ _ (List.getElem?_eq_getElem hi)
    have hr' := range_below hb hr
    rw [he] at hr'
    exact ⟨b, o, _, pa, ca, pb, cb, List.getElem?_eq_getElem hi, hp, h1, h2, hr' 1 _ rfl, hr' 2 _ rfl, hr' 3 _ rfl⟩
  have HSH : Hid (n.may = true → n.nodes ≤ 200 → l.length ≤ 40 → (∀ (i : Nat) s, i < l.length → l[i]? = some s → SmallP s.a ∧ SmallP s.b ∧ s.text.size ≤ 1000) → Short n l) := Lib.hid fun h1 h2 h3 h4 => ⟨h1, h2, h3, fun i s hs => h4 i s (List.getElem?_eq_some_iff.1 hs).1 hs⟩
  obtain ⟨p1, q1, c1, d1, rfl⟩ := hn.cells
  have hnn : n.nodes ≤ 9223372036854775807 := by have := Nd.nodes_bulk n; omega
  clear hR hE hb hn hB
  generalize hln : l.length = ln at *
  clear hln
  generalize n.nodes = nn at *
  generalize hmy : n.may = my at *
  clear hmy
  cases my with
  | false =>
    go_enter Try.func25, Try.ntmps25
    go_wp2_with fail
    refine (HMA.out _ (box_self (Below.refl _ _))).mono ?_
    rintro e w1 ⟨rfl, hb1⟩
    have HB1 := Lib.hid (box_self (hb1.mono (by simp)))
    clear hb1
    go_wp2_with fail
    go_ret
    exact ⟨⟨_, rfl, fun h => by cases h⟩, HB1.out⟩
  | true =>
    go_enter Try.func25, Try.ntmps25
    go_wp2_with fail
    refine (HMA.out _ (box_self (Below.refl _ _))).mono ?_
    rintro e w1 ⟨rfl, hb1⟩
    have HB1 : Hid (Below (w.heap.size + 1) (w.alloc (.cells #[.int .u8 n.kind.toNat, .string n.text, .slice p1 n.names.length c1, .slice q1 n.kids.length d1] 40)) w1) := Lib.hid (hb1.mono (by simp))
    clear hb1
    have c0 := box_cell HB1.out 0 rfl
    have c1' := box_cell HB1.out 1 rfl
    have c2 := box_cell HB1.out 2 rfl
    have c3 := box_cell HB1.out 3 rfl
    go_wp2_with fail
    refine (HNO.out _ (box_self HB1.out)).mono ?_
    rintro e w2 ⟨rfl, hb2⟩
    have HB2 : Hid (Below w.heap.size w w2) := Lib.hid ((box_self HB1.out).trans (hb2.mono (box_self HB1.out).size))
    clear hb2 c0 c1' c2 c3 HB1
    by_cases h200 : 200 < nn
    · go_wp2_with fail
      go_ret
      exact ⟨⟨_, rfl, fun h => by cases h⟩, HB2.out⟩
    · by_cases h40 : 40 < ln
      · go_wp2_with fail
        go_ret
        exact ⟨⟨_, rfl, fun h => by cases h⟩, HB2.out⟩
      · go_wp2_with fail
        go_loopw [5, 6, 7] (fun i _ _ wr => ∃ (k : Nat), k ≤ ln ∧ i = .int .i64 k ∧ Hid (∀ (i : Nat) s, i < k → l[i]? = some s → SmallP s.a ∧ SmallP s.b ∧ s.text.size ≤ 1000) ∧ Hid (Below w.heap.size w wr)) (fun i _ _ _ => ln - (intOf i).toNat)
        case atStart => exact ⟨0, Nat.zero_le _, rfl, Lib.hid (fun i s h => absurd h (Nat.not_lt_zero _)), HB2⟩
        case round =>
          clear HB2
          obtain ⟨k, hk, rfl, HA, HB⟩ := hrel
          have HOLD : Hid (Below W.heap.size W wr) := Lib.hid (HW.out.trans (HB.out.mono HW.out.size))
          by_cases hlt : k < ln
          · obtain ⟨b, o, s, pa, ca, pb, cb, hs, rfl, ha, hb, e1, e2, e3⟩ := HST.out HOLD.out k hlt
            have hxa := pl_max1 ha
            have hxb := pl_max1 hb
            have HPA := Lib.hid ha
            have HPB := Lib.hid hb
            have HS := Lib.hid hs
            have HSA : Hid (∀ j, j < s.a.length → ∃ b o, pa = some ⟨b, o, none⟩ ∧ ∀ {wx : World}, Below W.heap.size W wx → wx.cell? ⟨b, o + j, none⟩ = some (.string (s.a.getD j ByteArray.empty))) := Lib.hid fun j hj => pl_cell1 HPA.out hj
            have HSB : Hid (∀ j, j < s.b.length → ∃ b o, pb = some ⟨b, o, none⟩ ∧ ∀ {wx : World}, Below W.heap.size W wx → wx.cell? ⟨b, o + j, none⟩ = some (.string (s.b.getD j ByteArray.empty))) := Lib.hid fun j hj => pl_cell1 HPB.out hj
            have HSM : Hid (s.a.length ≤ 20 → (∀ j, j < s.a.length → (s.a.getD j ByteArray.empty).size ≤ 200) → s.b.length ≤ 20 → (∀ j, j < s.b.length → (s.b.getD j ByteArray.empty).size ≤ 200) → s.text.size ≤ 1000 → ∀ (i : Nat) s', i < k + 1 → l[i]? = some s' → SmallP s'.a ∧ SmallP s'.b ∧ s'.text.size ≤ 1000) := Lib.hid fun h1 h2 h3 h4 h5 i s' hi hs' => by
              rcases Nat.lt_succ_iff_lt_or_eq.1 hi with hi | rfl
              · exact HA.out i s' hi hs'
              · obtain rfl : s = s' := Option.some.inj (HS.out.symm.trans hs')
                exact ⟨⟨h1, h2⟩, ⟨h3, h4⟩, h5⟩
            clear ha hb hs HPA HPB HS HA
            generalize s.a.length = la at *
            generalize s.b.length = lb at *
            generalize hfa : (fun j => s.a.getD j ByteArray.empty) = fa at *
            generalize hfb : (fun j => s.b.getD j ByteArray.empty) = fb at *
            have hfa' : ∀ j, s.a.getD j ByteArray.empty = fa j := fun j => by rw [← hfa]
            have hfb' : ∀ j, s.b.getD j ByteArray.empty = fb j := fun j => by rw [← hfb]
            simp only [hfa', hfb'] at HSA HSB HSM
            clear hfa hfb hfa' hfb'
            generalize s.text = tx at *
            by_cases h20 : 20 < la
            · go_wp2_with fail
              go_ret
              exact ⟨⟨_, rfl, fun h => by cases h⟩, HB.out⟩
            · by_cases h21 : 20 < lb
              · go_wp2_with fail
                go_ret
                exact ⟨⟨_, rfl, fun h => by cases h⟩, HB.out⟩
              · by_cases h22 : 1000 < tx.size
                · go_wp2_with fail
                  go_ret
                  exact ⟨⟨_, rfl, fun h => by cases h⟩, HB.out⟩
                · go_wp2_with fail
                  go_loopw [6] (fun i wq => ∃ (j : Nat), j ≤ la ∧ i = .int .i64 j ∧ Hid (∀ i, i < j → (fa i).size ≤ 200) ∧ Hid (Below w.heap.size w wq) ∧ wq.cell? ⟨b, o + k * 5 + 1, none⟩ = some (.slice pa la ca) ∧ wq.cell? ⟨b, o + k * 5 + 2, none⟩ = some (.slice pb lb cb)) (fun i _ => la - (intOf i).toNat)
                  case atStart => exact ⟨0, Nat.zero_le _, rfl, Lib.hid (fun i h => absurd h (Nat.not_lt_zero _)), HB, e1, e2⟩
                  case round =>
                    clear e1 e2 e3
                    obtain ⟨j, hj, rfl, HSZ, HB3, f1, f2⟩ := hrel
                    have HO2 : Hid (Below W.heap.size W wr) := Lib.hid (HW.out.trans (HB3.out.mono HW.out.size))
                    by_cases hjn : j < la
                    · obtain ⟨b', o', rfl, g⟩ := HSA.out j hjn
                      have g0 := g HO2.out
                      clear g
                      by_cases h2 : 200 < (fa j).size
                      · generalize fa j = x at *
                        go_wp2_with fail
                        go_ret
                        exact ⟨⟨_, rfl, fun h => by cases h⟩, HB3.out⟩
                      · have HSZ2 : Hid (∀ i, i < j + 1 → (fa i).size ≤ 200) := Lib.hid fun i hi => (Nat.lt_succ_iff_lt_or_eq.1 hi).elim (HSZ.out i) (fun e => e ▸ Nat.le_of_not_lt h2)
                        clear HSZ
                        generalize fa j = x at *
                        go_wp2_with fail
                        go_roundw
                        case rel => exact ⟨j + 1, by omega, by go_num, HSZ2, HB3, f1, f2⟩
                        case measure => simp [intOf]; omega
                    · have HSA2 : Hid (∀ i, i < la → (fa i).size ≤ 200) := Lib.hid fun i hi => HSZ.out i (by omega)
                      clear HSZ
                      go_wp2_with fail
                      go_loopw [7] (fun i wq => ∃ (j : Nat), j ≤ lb ∧ i = .int .i64 j ∧ Hid (∀ i, i < j → (fb i).size ≤ 200) ∧ Hid (Below w.heap.size w wq) ∧ wq.cell? ⟨b, o + k * 5 + 1, none⟩ = some (.slice pa la ca) ∧ wq.cell? ⟨b, o + k * 5 + 2, none⟩ = some (.slice pb lb cb)) (fun i _ => lb - (intOf i).toNat)
                      case atStart => exact ⟨0, Nat.zero_le _, rfl, Lib.hid (fun i h => absurd h (Nat.not_lt_zero _)), HB3, f1, f2⟩
                      case round =>
                        clear f1 f2 HB3 HO2
                        obtain ⟨i, hi, rfl, HSZ, HB3, f1, f2⟩ := hrel
                        have HO2 : Hid (Below W.heap.size W wr) := Lib.hid (HW.out.trans (HB3.out.mono HW.out.size))
                        by_cases hin : i < lb
                        · obtain ⟨b', o', rfl, g⟩ := HSB.out i hin
                          have g0 := g HO2.out
                          clear g
                          by_cases h2 : 200 < (fb i).size
                          · generalize fb i = x at *
                            go_wp2_with fail
                            go_ret
                            exact ⟨⟨_, rfl, fun h => by cases h⟩, HB3.out⟩
                          · have HSZ2 : Hid (∀ j, j < i + 1 → (fb j).size ≤ 200) := Lib.hid fun j hj => (Nat.lt_succ_iff_lt_or_eq.1 hj).elim (HSZ.out j) (fun e => e ▸ Nat.le_of_not_lt h2)
                            clear HSZ
                            generalize fb i = x at *
                            go_wp2_with fail
                            go_roundw
                            case rel => exact ⟨i + 1, by omega, by go_num, HSZ2, HB3, f1, f2⟩
                            case measure => simp [intOf]; omega
                        · have HNEXT := Lib.hid (HSM.out (by omega) HSA2.out (by omega) (fun j hj => HSZ.out j (by omega)) (by omega))
                          clear HSZ HSA2 HSM
                          go_wp2_with fail
                          go_roundw
                          case rel => exact ⟨k + 1, by omega, by go_num, HNEXT, HB3⟩
                          case measure => simp [intOf]; omega
          · have HFI : Hid (Short n l) := Lib.hid (HSH.out (by trivial) (by omega) (by omega) (fun i s hi hs => HA.out i s (by omega) hs))
            go_wp2_with fail
            go_ret
            exact ⟨⟨_, rfl, fun _ => HFI.out⟩, HB.out⟩

end Go.Proofs.Ytonpeoaahjoboaa
