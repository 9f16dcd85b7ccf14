/- Walks of the library: is one of these three ASCII bytes in a text of any bytes? -/
import Derived.Test.YtfilbknnpjbmcaaGreatDoorKb01
import Derived.Lib.OthersKept
import Derived.Laws.Runes
import Derived.Laws.RangeAny
import Derived.Deep.LoopGhost
import Derived.Handy
import Derived.Lib.IndexAny
import Derived.Test.YtfilbknnpjbmcaaGreatDoorKb00
import Derived.Test.YtfilbknnpjbmcaaGreatDoorKb02
import Derived.Deep.RegionHeld3
import Derived.Maps.AppendAt
import Derived.Laws.AppendOwnNone
namespace Go.Proofs.YtfilbknnpjbmcaaGreatDoor
open Go.RowKit Px Go.Proofs

namespace Px
def bads : ByteArray := ⟨#[0, 47, 10]⟩
theorem bads_size : bads.size = 3 := rfl
theorem bads_ascii : ∀ b ∈ bads.data.toList, b.toNat < 128 := by decide
theorem bads_at (i : Nat) (h : i < bads.size) : bads[i].toNat < 128 := bads_ascii _ (by
 show bads.data[i] ∈ _
 exact Array.getElem_mem_toList (xs := bads.data) h)
theorem bads_high (b : UInt8) (h : 128 ≤ b.toNat) : bads.data.toList.contains b = false := by
 rw [Bool.eq_false_iff]
 intro hc
 have := bads_ascii b (List.contains_iff_mem.1 hc)
 omega
end Px

theorem full_of {s : ByteArray} (h : 0 < s.size) : s.toList.isEmpty = false := by
 rw [Lib.toList_data, Bool.eq_false_iff]
 intro hh
 have := List.isEmpty_iff.1 hh
 have h2 : s.data.toList.length = 0 := by rw [this]; rfl
 have h3 : s.data.toList.length = s.size := by simp
 omega
theorem iter_below (w : World) (s : ByteArray) (pos : Nat) : Below w.heap.size w (w.iter s pos) :=
 (Below.refl _ w).alloc (Nat.le_refl _) _

set_option maxHeartbeats 4000000 in
set_option maxRecDepth 1000000 in
theorem indexRune_high (r : Int) (w : World) (h0 : 128 ≤ r) (h1 : r ≤ 2147483647) :
  Calls Tryz.prog 124 #[.string bads, .int .i32 r] w fun e w' => e = .returned (.int .i64 (-1)) ∧ Below w.heap.size w w' := by
 have hsz := bads_size
 have HA := Lib.hid bads_at
 generalize hC : bads = C at *
 have HC := Lib.hid hC
 clear hC
 by_cases hr : r = 65533
 ·subst hr
  go_enter Tryz.func124, Tryz.ntmps124
  go_wp2_with fail
  go_loopg [5, 6] C.size (fun g _ _ wx => ∃ i : Nat, i + g = C.size ∧ wx = w.iter C i)
  case atStart => exact ⟨0, by omega, rfl⟩
  case round =>
   obtain ⟨i, hig, rfl⟩ := hrel
   cases gk with
   | zero =>
    have HE : ¬ i < C.size := by omega
    have hnx := fun ty => run_next_end (P := Tryz.prog) w C i ty HE
    go_wp2
    go_ret
    exact ⟨rfl, iter_below w C _⟩
   | succ g =>
    have hi : i < C.size := by omega
    have hnx := fun ty => run_next_ascii (P := Tryz.prog) w C i ty hi (HA.out i hi)
    have hx := HA.out i hi
    generalize C[i].toNat = x at *
    have hne : ((x : Int) == 65533) = false := beq_eq_false_iff_ne.2 (by omega)
    go_wp2_with fail
    go_roundg g
    case measure => omega
    case rel => exact ⟨i + 1, by omega, rfl⟩
 ·cases hv : Lib.validRune r with
  | false =>
   go_enter Tryz.func124, Tryz.ntmps124
   go_wp2_with (go_at_call 135; refine (Tryz.utf8_ValidRune _ _).mono ?_; rintro e w' ⟨rfl, rfl⟩)
   go_ret
   exact ⟨rfl, Below.refl _ _⟩
  | true =>
   obtain ⟨e1, e2, e3⟩ := encode_facts r (by rw [validRune_eq]; exact hv) h0
   generalize hE : Utf8.encode r = E at *
   obtain ⟨L, hL⟩ : ∃ L, L = E.size - 1 := ⟨_, rfl⟩
   have hlt2 : L < E.size := by omega
   have hz : (E.size : Int) - 1 = (L : Int) := by omega
   have hL4 : L < 4 := by omega
   by_cases hlt : L < C.size
   ·skip
    have e4 : 128 ≤ E[L].toNat := by
     subst hL
     exact e3 (by omega)
    have hce : ((C[L].toNat : Int) == E[L].toNat) = false := beq_eq_false_iff_ne.2 (by have := HA.out L hlt; omega)
    have HB : Hid (∀ (a b : Nat) w, Calls Tryz.prog 112 #[.string (C.extract a b), .int .u8 E[L].toNat] w fun e w' => e = .returned (.int .i64 (-1)) ∧ w' = w) := Lib.hid fun a b w => by
     refine (Tryz.strings_IndexByte _ _ w).mono ?_
     rintro e w' ⟨rfl, rfl⟩
     refine ⟨ret_int ?_, rfl⟩
     have hback : ((E[L].toNat : Int)).toNat.toUInt8 = E[L] := by simp
     rw [hback]
     have hc := Lib.contains_iff_indexByte (C.extract a b).data.toList E[L]
     have hn : (C.extract a b).data.toList.contains E[L] = false := by
      rw [Bool.eq_false_iff]
      intro h
      have hm := mem_extract (List.contains_iff_mem.1 h)
      obtain ⟨i, hi, he⟩ := List.getElem_of_mem hm
      have hi' : i < C.size := by simpa using hi
      have h1 := HA.out i hi'
      have h2 : C[i] = E[L] := he
      rw [h2] at h1
      omega
     rw [hn] at hc
     have h1 := of_decide_eq_false hc.symm
     have h2 := Lib.indexByte_ge (C.extract a b).data.toList E[L]
     omega
    have hw : IntKind.i64.wrap ((L : Int) + 1) = (L : Int) + 1 := wrap_small _ (by omega) (by omega)
    have hw2 : ((L : Int) + 1).toNat = L + 1 := by omega
    have hw3 : (L : Int) + 1 ≤ 19 := by omega
    clear e3 hL
    generalize hC0 : C[L] = c0 at *
    generalize hE0 : E[L] = c1 at *
    go_enter Tryz.func124, Tryz.ntmps124
    go_wp2_with (go_at_call 135; refine (Tryz.utf8_ValidRune _ _).mono ?_; rintro e w' ⟨rfl, rfl⟩)
    go_step3
    go_wp2_with fail
    go_loop [9, 10] (fun i f => i = .int .i64 L ∧ f = .int .i64 0) (fun _ _ => 0)
    case atStart => exact ⟨rfl, rfl⟩
    case round =>
     obtain ⟨rfl, rfl⟩ := hrel
     go_wp2_with fail
     go_step3
     go_wp2_with fail
     go_quiet (fail)
     go_wp2_with fail
     go_quiet ((go_at_call 112; exact (HB.out _ _ _).mono fun _ _ h => ⟨h.1, _, h.2⟩))
     go_wp2_with fail
     rw [Exit.noGoto_ret]
     go_wp2
     rw [Exit.noGoto_ret]
     go_ret
     exact ⟨rfl, below_drewN (Below.refl _ _) _⟩
   ·clear e3 hL
    go_enter Tryz.func124, Tryz.ntmps124
    go_wp2_with (go_at_call 135; refine (Tryz.utf8_ValidRune _ _).mono ?_; rintro e w' ⟨rfl, rfl⟩)
    go_step3
    go_wp2_with fail
    go_loop [9, 10] (fun i f => i = .int .i64 L ∧ f = .int .i64 0) (fun _ _ => 0)
    case atStart => exact ⟨rfl, rfl⟩
    case round =>
     obtain ⟨rfl, rfl⟩ := hrel
     go_wp2_with fail
     go_ret
     exact ⟨rfl, Below.refl _ _⟩
namespace Px
theorem data_get (s : ByteArray) (i : Nat) (h : i < s.size) : s.get! i = s[i]'h := by
 show s.data[i]! = _
 rw [getElem!_pos s.data i h]
 rfl
theorem decode_none (s : ByteArray) (pos : Nat) (h : pos < s.size) (ha : 128 ≤ (s[pos]'h).toNat) : ∀ j, j < (Utf8.decode s pos).2 → pos + j < s.size ∧ 128 ≤ (s.get! (pos + j)).toNat := by
 have h0 : (s.get! (pos + 0)).toNat = (s[pos]'h).toNat := by rw [Nat.add_zero, data_get s pos h]
 have hz : 128 ≤ (s.get! (pos + 0)).toNat := by rw [h0]; exact ha
 intro j
 simp only [Utf8.decode]
 have hn : ¬ (s.get! (pos + 0)).toNat < 128 := by omega
 rw [if_neg hn]
 have c : ∀ k, (decide (pos + k < s.size) && (s.get! (pos + k)).toNat / 64 == 2) = true → pos + k < s.size ∧ 128 ≤ (s.get! (pos + k)).toNat := by
  intro k hk
  simp only [Bool.and_eq_true, decide_eq_true_eq, beq_iff_eq] at hk
  exact ⟨hk.1, by omega⟩
 have hb : pos + 0 < s.size ∧ 128 ≤ (s.get! (pos + 0)).toNat := ⟨h, hz⟩
 split
 ·rename_i h1
  have k1 := c 1 (by simp only [Bool.and_eq_true] at h1 ⊢; exact h1.2)
  split <;> intro hj
  ·match j, hj with
   | 0, _ => exact hb
   | 1, _ => exact k1
  ·obtain rfl : j = 0 := by simp at hj; omega
   exact hb
 ·split
  ·rename_i h1
   have k1 := c 1 (by simp only [Bool.and_eq_true] at h1 ⊢; exact h1.1.2)
   have k2 := c 2 (by simp only [Bool.and_eq_true] at h1 ⊢; exact h1.2)
   split <;> intro hj
   ·match j, hj with
    | 0, _ => exact hb
    | 1, _ => exact k1
    | 2, _ => exact k2
   ·obtain rfl : j = 0 := by simp at hj; omega
    exact hb
  ·split
   ·rename_i h1
    have k1 := c 1 (by simp only [Bool.and_eq_true] at h1 ⊢; exact h1.1.1.2)
    have k2 := c 2 (by simp only [Bool.and_eq_true] at h1 ⊢; exact h1.1.2)
    have k3 := c 3 (by simp only [Bool.and_eq_true] at h1 ⊢; exact h1.2)
    split <;> intro hj
    ·match j, hj with
     | 0, _ => exact hb
     | 1, _ => exact k1
     | 2, _ => exact k2
     | 3, _ => exact k3
    ·obtain rfl : j = 0 := by simp at hj; omega
     exact hb
   ·intro hj
    obtain rfl : j = 0 := by simp at hj; omega
    exact hb
theorem noAny_run {s : ByteArray} {pos k : Nat} (h : Lib.NoAny s.data.toList bads.data.toList pos) (hk : ∀ j, j < k → pos + j < s.size ∧ 128 ≤ (s.get! (pos + j)).toNat) : Lib.NoAny s.data.toList bads.data.toList (pos + k) := by
 intro j b hj hb
 rcases Nat.lt_or_ge j pos with h1 | h1
 ·exact h j b h1 hb
 ·obtain ⟨h2, h3⟩ := hk (j - pos) (by omega)
  rw [show pos + (j - pos) = j by omega] at h2 h3
  rw [data_get s j h2] at h3
  have : s.data.toList[j]? = some (s[j]'h2) := Lib.data_getElem? s j h2
  rw [this] at hb
  obtain rfl : s[j] = b := by simpa using hb
  exact bads_high _ h3
end Px

set_option maxHeartbeats 8000000 in
set_option maxRecDepth 1000000 in
theorem indexAny_any (s : ByteArray) (w : World) (hs : s.size < 4294967281) :
  Calls Tryz.prog 96 #[.string s, .string bads] w fun e w' => e = .returned (.int .i64 (Lib.indexAny s.data.toList bads.data.toList)) ∧ Below w.heap.size w w' := by
 by_cases h8 : 8 < s.size
 ·refine (Tryz.strings_IndexAny_long (zero_of_info (P := Tryz.prog) (t := 117) (n := 256) (by kernel_rfl)).1 s bads w (by decide) h8 hs (by decide) ?_).mono ?_
  ·intro j b hb
   exact bads_ascii b (List.mem_of_getElem? hb)
  ·rintro e w' ⟨rfl, rfl⟩
   exact ⟨rfl, ((Below.refl _ w).alloc (Nat.le_refl _) _).alloc (by simp) _⟩
 ·have h8z : decide ((8 : Int) < (s.size : Int)) = false := decide_eq_false (by omega)
  have hemp : bads.toList.isEmpty = false := full_of (by decide)
  have hne : ¬ bads.toList = [] := by intro h; rw [h] at hemp; cases hemp
  have hsz := bads_size
  have HNONE : Hid (∀ pos, Lib.NoAny s.data.toList bads.data.toList pos → ¬ pos < s.size → Lib.indexAny s.data.toList bads.data.toList = -1) := Lib.hid fun pos h hp => by
   refine Lib.indexAny_none fun j b hj hb => h j b ?_ hb
   rw [← Lib.size_eq] at hj
   omega
  have HHIT : Hid (∀ pos, Lib.NoAny s.data.toList bads.data.toList pos → (hp : pos < s.size) → bads.data.toList.contains s[pos] = true → Lib.indexAny s.data.toList bads.data.toList = pos) := Lib.hid fun pos h hp hin =>
   Lib.indexAny_hit h (Lib.data_getElem? s pos hp) hin
  have HSUC : Hid (∀ pos, Lib.NoAny s.data.toList bads.data.toList pos → (hp : pos < s.size) → bads.data.toList.contains s[pos] = false → Lib.NoAny s.data.toList bads.data.toList (pos + 1)) := Lib.hid fun pos h hp hin =>
   Lib.NoAny.succ h (Lib.data_getElem? s pos hp) hin
  have HRUN : Hid (∀ pos, Lib.NoAny s.data.toList bads.data.toList pos → (hp : pos < s.size) → 128 ≤ s[pos].toNat → Lib.NoAny s.data.toList bads.data.toList (pos + (Utf8.decode s pos).2)) := Lib.hid fun pos h hp ha =>
   noAny_run h (decode_none s pos hp ha)
  have HZ : Hid (Lib.NoAny s.data.toList bads.data.toList 0) := Lib.hid (Lib.NoAny.zero _ _)
  have HHIGH : Hid (∀ (r : Int) w, 128 ≤ r → r ≤ 2147483647 → Calls Tryz.prog 124 #[.string bads, .int .i32 r] w fun e w' => e = .returned (.int .i64 (-1)) ∧ Below w.heap.size w w') := Lib.hid fun r w h0 h1 => indexRune_high r w h0 h1
  have HASC : Hid (∀ (b : UInt8) w, b.toNat < 128 → Calls Tryz.prog 124 #[.string bads, .int .i32 b.toNat] w fun e w' => (∃ i : Int, e = .returned (.int .i64 i) ∧ decide (0 ≤ i) = bads.data.toList.contains b) ∧ w' = w) := Lib.hid fun b w hb => by
   refine (Tryz.strings_IndexRune_ascii _ _ w (by omega) (by omega)).mono ?_
   rintro e w' ⟨rfl, rfl⟩
   have hback : ((b.toNat : Int)).toNat.toUInt8 = b := by simp
   rw [hback]
   exact ⟨⟨_, rfl, (Lib.contains_iff_indexByte _ _).symm⟩, rfl⟩
  generalize Lib.indexAny s.data.toList bads.data.toList = R at *
  generalize hC : bads = C at *
  clear hC
  go_enter Tryz.func96, Tryz.ntmps96
  go_wp2_with (go_at_call 125; refine (Tryz.strings_shouldUseASCIISet _ _).mono ?_; rintro e w' ⟨rfl, hw⟩; rw [hw, h8z])
  go_loopw [9, 10] (fun _ _ wr => ∃ pos : Nat, wr.heap[w.heap.size]? = some (.stringIter s pos) ∧ Hid (Lib.NoAny s.data.toList C.data.toList pos) ∧ Hid (Below w.heap.size w wr)) (fun _ _ wr => s.size - wr.iterPos w.heap.size)
  case atStart => exact ⟨0, World.iter_heap w s 0, HZ, Lib.hid (iter_below w s 0)⟩
  case round =>
   clear HZ
   obtain ⟨pos, hit, HNO, HB⟩ := hrel
   have hpos : wr.iterPos w.heap.size = pos := by unfold World.iterPos; rw [hit]
   by_cases hp : pos < s.size
   ·have hnx := fun ty => Lib.run_next_any_at (P := Tryz.prog) wr w.heap.size s pos ty hit hp
    by_cases ha : s[pos].toNat < 128
    ·obtain ⟨x, hx⟩ : ∃ x : UInt8, s[pos] = x := ⟨_, rfl⟩
     have hd : Utf8.decode s pos = (x.toNat, 1) := by rw [← hx]; exact decode_ascii s pos hp ha
     rw [hd] at hnx
     dsimp only at hnx
     have HIT2 := Lib.hid (Lib.iterAt_heap wr w.heap.size s pos (pos + 1) hit)
     have HB2 := Lib.hid (Lib.below_iterAt HB.out (k := w.heap.size) (Nat.le_refl _) s (pos + 1))
     have HX := Lib.hid (HASC.out x)
     have HS := Lib.hid (HSUC.out pos HNO.out hp)
     have HH := Lib.hid (HHIT.out pos HNO.out hp)
     rw [hx] at ha HS HH
     have hx128 := ha
     clear hd hit
     cases hin : C.data.toList.contains x
     ·go_wp2_with (go_at_call 124; refine (HX.out _ hx128).mono ?_; rintro e w' ⟨⟨i, rfl, hi⟩, rfl⟩; rw [hin] at hi; have hi0 := of_decide_eq_false hi; clear hi)
      go_roundw
      case rel => exact ⟨pos + 1, HIT2.out, Lib.hid (HS.out hin), HB2⟩
      case measure =>
       have := HIT2.out
       simp only [World.iterPos, this] at *
       omega
     ·go_wp2_with (go_at_call 124; refine (HX.out _ hx128).mono ?_; rintro e w' ⟨⟨i, rfl, hi⟩, rfl⟩; rw [hin] at hi; have hi0 := of_decide_eq_true hi; clear hi)
      go_ret
      exact ⟨ret_int (HH.out hin).symm, HB2.out⟩
    ·have ha : 128 ≤ s[pos].toNat := by omega
     obtain ⟨hd1, hd2⟩ := decode_high s pos hp ha
     have hd3 := decode_le s pos
     have HR := Lib.hid (HRUN.out pos HNO.out hp ha)
     generalize hdk : (Utf8.decode s pos).2 = k at *
     generalize hdr : (Utf8.decode s pos).1 = r at *
     have HIT2 := Lib.hid (Lib.iterAt_heap wr w.heap.size s pos (pos + k) hit)
     have HB2 := Lib.hid (Lib.below_iterAt HB.out (k := w.heap.size) (Nat.le_refl _) s (pos + k))
     have HX := Lib.hid (HHIGH.out r (wr.iterAt w.heap.size s (pos + k)) (by omega) (by omega))
     clear hit ha hdk hdr
     go_wp2_with (go_at_call 124; refine HX.out.mono ?_; rintro e w2 ⟨rfl, hb⟩; have HB3 := Lib.hid hb; clear hb)
     have hlt : w.heap.size < (wr.iterAt w.heap.size s (pos + k)).heap.size := (Array.getElem?_eq_some_iff.1 HIT2.out).1
     have HIT3 : Hid (w2.heap[w.heap.size]? = some (.stringIter s (pos + k))) := Lib.hid (by rw [HB3.out.block _ hlt]; exact HIT2.out)
     have HB4 : Hid (Below w.heap.size w w2) := Lib.hid (HB2.out.trans (HB3.out.mono (Nat.le_of_lt hlt)))
     go_roundw
     case rel => exact ⟨pos + k, HIT3.out, HR, HB4⟩
     case measure =>
      have := HIT3.out
      simp only [World.iterPos, this] at *
      omega
   ·have hnx := fun ty => Lib.run_next_end_at (P := Tryz.prog) wr w.heap.size s pos ty hit hp
    have HE := Lib.hid (HNONE.out pos HNO.out hp)
    go_wp2
    go_ret
    exact ⟨ret_int HE.out.symm, HB.out⟩
theorem containsAny_any (s : ByteArray) (w : World) (hs : s.size < 4294967281) :
  Calls Tryz.prog 61 #[.string s, .string bads] w fun e w' => e = .returned (.bool (s.data.toList.any fun b => bads.data.toList.contains b)) ∧ Below w.heap.size w w' := by
 have hA : decide (0 ≤ Lib.indexAny s.data.toList bads.data.toList) = s.data.toList.any fun b => bads.data.toList.contains b := by
  generalize s.data.toList = l
  induction l with
  | nil => rfl
  | cons x l ih =>
   rw [List.any_cons, ← ih]
   rw [show Lib.indexAny (x :: l) bads.data.toList = if bads.data.toList.contains x then 0 else if Lib.indexAny l bads.data.toList == -1 then -1 else Lib.indexAny l bads.data.toList + 1 from rfl]
   cases hx : bads.data.toList.contains x with
   | true => rfl
   | false =>
    have hge := Lib.indexAny_ge bads.data.toList l
    simp only [Bool.false_eq_true, if_false, Bool.false_or]
    split
    ·rename_i h
     have := beq_iff_eq.1 h
     rw [this]
    ·rename_i h
     have h1 : Lib.indexAny l bads.data.toList ≠ -1 := fun he => h (beq_iff_eq.2 he)
     simp only [decide_eq_decide]
     omega
 have HC := Lib.hid (indexAny_any s w hs)
 have HA := Lib.hid hA
 generalize (s.data.toList.any fun b => bads.data.toList.contains b) = R at *
 generalize Lib.indexAny s.data.toList bads.data.toList = i at *
 generalize bads = C at *
 go_enter Tryz.func61, Tryz.ntmps61
 go_wp2_with (go_at_call 96; refine HC.out.mono ?_; rintro e w' ⟨rfl, hb⟩; have HB := Lib.hid hb; clear hb)
 go_ret
 exact ⟨ret_bool rfl, HB.out⟩
end Go.Proofs.YtfilbknnpjbmcaaGreatDoor
/- Walks: whether a text is a name. -/
namespace Go.Proofs.YtfilbknnpjbmcaaGreatDoor
open Go.RowKit Px

theorem any_bads (l : Px.B) : (!(l.any fun b => bads.data.toList.contains b)) = l.all fun c => !(c == 0) && !(c == 47) && !(c == 10) := by
 induction l with
 | nil => rfl
 | cons x l ih =>
  rw [List.any_cons, List.all_cons, ← ih, Bool.not_or]
  congr 1
  show (!([0, 47, 10] : List UInt8).contains x) = _
  rw [List.contains_cons, List.contains_cons, List.contains_cons, List.contains_nil, Bool.or_false, Bool.not_or, Bool.not_or, Bool.and_assoc]

set_option maxRecDepth 100000 in
theorem name_any (s : ByteArray) (w : World) :
  Calls Tryz.prog 34 #[.string s] w fun e w' => e = .returned (.bool (nameL s.data.toList)) ∧ Below w.heap.size w w' := by
 by_cases h0 : s.toList = [] ∨ s.toList = [46] ∨ s.toList = [46, 46]
 ·have HV : Hid (nameL s.data.toList = false) := Lib.hid (by
   rw [Lib.toList_data] at h0
   unfold nameL
   rcases h0 with h | h | h <;> rw [h] <;> rfl)
  rcases h0 with h | h | h
  all_goals
   go_enter Tryz.func34, Tryz.ntmps34
   go_wp2_with fail
   go_ret
   exact ⟨ret_bool HV.out.symm, Below.refl _ _⟩
 ·have h1 : ¬ s.toList = [] := fun h => h0 (.inl h)
  have h2 : (s.toList == [46]) = false := beq_eq_false_iff_ne.2 fun h => h0 (.inr (.inl h))
  have h3 : (s.toList == [46, 46]) = false := beq_eq_false_iff_ne.2 fun h => h0 (.inr (.inr h))
  have h4 : s.toList.isEmpty = false := by
   cases e : s.toList with
   | nil => exact absurd e h1
   | cons x y => rfl
  clear h0
  by_cases h64 : s.size ≤ 64
  ·have HV : Hid (nameL s.data.toList = !(s.data.toList.any fun b => bads.data.toList.contains b)) := Lib.hid (by
    rw [Lib.toList_data] at h1 h2 h3
    unfold nameL
    rw [any_bads, show (s.data.toList == []) = false from beq_eq_false_iff_ne.2 h1, h2, h3, ← Lib.size_eq, decide_eq_true h64]
    rfl)
   have HC := Lib.hid (containsAny_any s w (by omega))
   generalize (s.data.toList.any fun b => bads.data.toList.contains b) = R at HV HC
   unfold bads at HC
   go_enter Tryz.func34, Tryz.ntmps34
   go_wp2_with (go_at_call 61; refine HC.out.mono ?_; rintro e w' ⟨rfl, hb⟩)
   go_ret
   exact ⟨ret_bool HV.out.symm, hb⟩
  ·have HV : Hid (nameL s.data.toList = false) := Lib.hid (by
    unfold nameL
    rw [← Lib.size_eq, decide_eq_false h64, Bool.and_false, Bool.false_and])
   go_enter Tryz.func34, Tryz.ntmps34
   go_wp2_with fail
   go_ret
   exact ⟨ret_bool HV.out.symm, Below.refl _ _⟩
end Go.Proofs.YtfilbknnpjbmcaaGreatDoor
/- Walks of the reference: whether a text is a name. -/
namespace Go.Proofs.YtfilbknnpjbmcaaGreatDoor
open Go.RowKit Px

theorem four_ways (q : ByteArray) : q.toList = [] ∨ q.toList = [46] ∨ q.toList = [46, 46] ∨ (¬ q.toList = [] ∧ (q.toList == [46]) = false ∧ (q.toList == [46, 46]) = false) := by
 by_cases h1 : q.toList = []
 ·exact .inl h1
 ·by_cases h2 : q.toList = [46]
  ·exact .inr (.inl h2)
  ·by_cases h3 : q.toList = [46, 46]
   ·exact .inr (.inr (.inl h3))
   ·exact .inr (.inr (.inr ⟨h1, beq_eq_false_iff_ne.2 h2, beq_eq_false_iff_ne.2 h3⟩))

theorem full_list {q : ByteArray} (h : ¬ q.toList = []) : q.toList.isEmpty = false := by
 cases e : q.toList with
 | nil => exact absurd e h
 | cons x y => rfl
theorem beq_int (c : UInt8) (n : UInt8) : ((c.toNat : Int) == (n.toNat : Int)) = (c == n) := by
 by_cases h : c = n
 ·subst h; simp
 ·rw [beq_eq_false_iff_ne.2 h, beq_eq_false_iff_ne]
  intro e
  apply h
  apply UInt8.toNat_inj.1
  omega
theorem size_of_list {s : ByteArray} {l : List UInt8} (h : s.toList = l) : s.size = l.length := by
 rw [← h, Lib.toList_data, Lib.size_eq]

end Go.Proofs.YtfilbknnpjbmcaaGreatDoor
/- Walks over nodes, of the reference and the law: how many there are, how deep, how heavy. -/
namespace Go.Proofs.YtfilbknnpjbmcaaGreatDoor
open Go.RowKit Px Nx

theorem box_cell {w wr : World} {cs : Array Value} {t : TypeId} (hb : Below (w.heap.size + 1) (w.alloc (.cells cs t)) wr) (i : Nat) {v : Value} (h : cs[i]? = some v) : wr.cell? ⟨w.heap.size, i, none⟩ = some v := by
 rw [hb.cell (show w.heap.size < w.heap.size + 1 by omega)]
 rw [cell_of_row _ _ _ _ _ _ (heap_alloc_new w _)]
 exact h
theorem box_self {w wr : World} {o : Obj} (hb : Below (w.heap.size + 1) (w.alloc o) wr) : Below w.heap.size w wr :=
 ((Below.refl w.heap.size w).alloc (Nat.le_refl _) o).trans (hb.mono (Nat.le_succ _))
theorem box_old {B : Nat} {W w wr : World} {o : Obj} (h : Below B W w) (hB : B ≤ W.heap.size) (hb : Below (w.heap.size + 1) (w.alloc o) wr) : Below B W wr :=
 h.trans ((box_self hb).mono (Nat.le_trans hB h.size))
theorem cell_grown {W w : World} (hb : Below W.heap.size W w) {a : Addr} {v : Value} (h : W.cell? a = some v) : w.cell? a = some v := by
 rw [hb.cell (World.block_lt_of_cell? _ _ h)]
 exact h
theorem four {l : List Value} (h : l.length = 4) : ∃ a b c d, l = [a, b, c, d] := by
 match l, h with
 | [a, b, c, d], _ => exact ⟨a, b, c, d, rfl⟩
theorem kid_at {W wr : World} {q : Option Addr} {n : Nat} {D : Nat → List Value} (h : Row W 4 q n D) (hb : Below W.heap.size W wr) {k : Nat} (hk : k < n) :
  ∃ b o v0 v1 v2 v3, q = some ⟨b, o, none⟩ ∧ D k = [v0, v1, v2, v3] ∧ wr.cell? ⟨b, o + k * 4, none⟩ = some v0 ∧ wr.cell? ⟨b, o + k * 4 + 1, none⟩ = some v1 ∧ wr.cell? ⟨b, o + k * 4 + 2, none⟩ = some v2 ∧ wr.cell? ⟨b, o + k * 4 + 3, none⟩ = some v3 := by
 obtain ⟨b, o, rfl, hl, hr⟩ := h k hk
 obtain ⟨v0, v1, v2, v3, hv⟩ := four hl
 rw [hv] at hr
 have hr := range_below hb hr
 exact ⟨b, o, v0, v1, v2, v3, rfl, hv, hr 0 _ rfl, hr 1 _ rfl, hr 2 _ rfl, hr 3 _ rfl⟩
end Go.Proofs.YtfilbknnpjbmcaaGreatDoor
/- Small laws of my own for walks: appends that say where the row lies; an append of an owned row. -/
namespace Go.Proofs.YtfilbknnpjbmcaaGreatDoor
open Go.RowKit

end Go.Proofs.YtfilbknnpjbmcaaGreatDoor
/- Nodes within others, as data. No program. -/
namespace Go.Proofs.YtfilbknnpjbmcaaGreatDoor
open Go.RowKit Px Nx
namespace Nx
end Nx
end Go.Proofs.YtfilbknnpjbmcaaGreatDoor
