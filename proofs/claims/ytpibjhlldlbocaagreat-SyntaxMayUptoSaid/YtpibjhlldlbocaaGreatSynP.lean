/- Walks of the program's syntax: how deep a command is. -/
import Derived.Test.YtpibjhlldlbocaaGreatSynO
namespace Go.Proofs.YtpibjhlldlbocaaGreat
open Go.RowKit Sx Go.Proofs

theorem Sx.CmdR.cells {W : World} {cs : List Value} {x : Cmd} (h : CmdR W cs x) : ∃ (k : Nat) (a : Int) (s : ByteArray) (p q : Option Addr) (n c m d : Nat), cs = [.int .u8 k, .int .i64 a, .string s, .slice p n c, .slice q m d] := by
  cases h
  exact ⟨_, _, _, _, _, _, _, _, _, rfl⟩

set_option maxRecDepth 100000 in
set_option maxHeartbeats 2000000 in
theorem depth_any {W : World} {cs : List Value} {c : Cmd} (h : CmdR W cs c) : ∀ w, Below W.heap.size W w → c.bulk ≤ 2000000 →
    Calls Tryz.prog 7 #[.agg cs.toArray] w fun e w' => e = .returned (.int .i64 c.depth) ∧ Below w.heap.size w w' := by
  induction h with
  | mk kind at_ name words kids p q cp d C D h1 h2 h3 h4 h5 h6 h7 h8 ih =>
    intro w hb hB
    have hlen : kids.length ≤ 2000000 := by
      have := Cmd.bulks_len kids
      unfold Cmd.bulk at hB
      omega
    have hkb : Cmd.bulks kids ≤ 2000000 := by unfold Cmd.bulk at hB; omega
    have IH := Lib.hid ih
    have HR := Lib.hid h7
    have H8 := Lib.hid h8
    have HW := Lib.hid hb
    clear ih h8 h7 h4 h3 hb hB
    go_enter Tryz.func7, Tryz.ntmps7
    go_wp2_with fail
    go_loopw [3, 9] (fun n i wr => ∃ k m : Nat, k ≤ kids.length ∧ i = .int .i64 k ∧ n = .int .i64 m ∧ Hid (m = Cmd.depths (kids.take k)) ∧ Hid (Below (w.heap.size + 1) (w.alloc (.cells #[.int .u8 kind.toNat, .int .i64 at_, .string name, .slice p words.length cp, .slice q kids.length d] 25)) wr)) (fun _ i _ => kids.length - (intOf i).toNat)
    case atStart => exact ⟨0, 0, Nat.zero_le _, rfl, rfl, Lib.hid rfl, Lib.hid (Below.refl _ _)⟩
    case round =>
      obtain ⟨k, m, hk, rfl, rfl, HM, HB⟩ := hrel
      have hm : m ≤ 2000000 := by
        have := Cmd.depths_bulk (kids.take k)
        have := Cmd.bulks_take kids k
        rw [HM.out]; omega
      by_cases hlt : k < kids.length
      · obtain ⟨b, o, rfl, hl, hr⟩ := HR.out k hlt
        have HX := Lib.hid (List.getElem?_eq_getElem hlt)
        obtain ⟨zk, za, zs, zp, zq, zn, zc, zm, zd, hD⟩ := (H8.out k _ HX.out).cells
        generalize kids[k] = x at HX
        have hxb : x.bulk ≤ 2000000 := Nat.le_trans (Cmd.bulk_kid HX.out) hkb
        have HOLD := Lib.hid (box_old HW.out (Nat.le_refl _) HB.out)
        have HC0 : Hid (∀ wx, Below wr.heap.size wr wx → Calls Tryz.prog 7 #[.agg (D k).toArray] wx fun e w' => e = .returned (.int .i64 x.depth) ∧ Below wx.heap.size wx w') := Lib.hid fun wx hb => IH.out k x HX.out wx (HOLD.out.trans (hb.mono HOLD.out.size)) hxb
        rw [hD] at hr HC0
        have hr' := range_below HOLD.out hr
        have c50 : wr.cell? ⟨b, o + k * 5, none⟩ = some (.int .u8 zk) := hr' 0 _ rfl
        have c51 := hr' 1 _ rfl
        have c52 := hr' 2 _ rfl
        have c53 := hr' 3 _ rfl
        have c54 := hr' 4 _ rfl
        clear hr hr' hD hl
        have hxd : x.depth ≤ 2000000 := Nat.le_trans (Cmd.depth_bulk x) hxb
        have HX2 := Lib.hid (Cmd.depths_take HX.out)
        generalize x.depth = xd at *
        go_wp2_with fail
        refine (HC0.out _ ((Below.refl _ _).alloc (Nat.le_refl _) _)).mono ?_
        rintro e w2 ⟨rfl, hb2⟩
        have HB2 : Hid (Below (w.heap.size + 1) (w.alloc (.cells #[.int .u8 kind.toNat, .int .i64 at_, .string name, .slice p words.length cp, .slice (some ⟨b, o, none⟩) kids.length d] 25)) w2) := Lib.hid ((box_more HB.out).trans (hb2.mono (by have := HB.out.size; simp at this; simp; omega)))
        clear hb2 HC0
        go_wp2
        go_roundw
        case rel => exact ⟨k + 1, max m xd, by omega, by go_num, congrArg (Value.int .i64) (by first | omega | (split <;> omega)), Lib.hid (by rw [HX2.out, ← HM.out]), HB2⟩
        case measure => simp [intOf]; omega
      · have HE : Hid (k = kids.length) := Lib.hid (by omega)
        go_wp2
        go_ret
        refine ⟨ret_int ?_, box_self HB.out⟩
        rw [HM.out, HE.out, List.take_length]
        unfold Cmd.depth
        omega
end Go.Proofs.YtpibjhlldlbocaaGreat
