/- A place as a path: the text, of the program; places of at most 200 names of at most 3000 bytes. -/
import Derived.Test.YtlnnnlpofocgpabPthP
import Derived.Test.YtlnnnlpofocgpabPthBuild
import Derived.Test.YtlnnnlpofocgpabWkShelf
import Derived.Laws.Concat
import Derived.Lib.AppendStr
namespace Go.Proofs.Ytlnnnlpofocgpab
open Go.RowKit Px

theorem ret_str {a b : List UInt8} (h : a = b) : Ending.returned (.string ⟨a.toArray⟩) = Ending.returned (.string ⟨b.toArray⟩) := by rw [h]
namespace Px
def smallL (xs : List ByteArray) : Prop := xs.length ≤ 200 ∧ ∀ x ∈ xs, x.size ≤ 3000
/-- Each name behind a slash. -/
def flat : List ByteArray → List UInt8
  | [] => []
  | x :: l => 47 :: (x.data.toList ++ flat l)
def showL (xs : List ByteArray) : List UInt8 := if xs.length = 0 then [47] else flat xs
theorem flat_append : ∀ l r, flat (l ++ r) = flat l ++ flat r
  | [], r => rfl
  | x :: l, r => by
    rw [List.cons_append, flat, flat, flat_append l r]
    simp
theorem flat_snoc {xs : List ByteArray} {k : Nat} (h : k < xs.length) : flat (xs.take (k + 1)) = flat (xs.take k) ++ (47 :: (xs.getD k ByteArray.empty).data.toList) := by
  rw [take_snoc_d h, flat_append]
  simp [flat]
theorem small_at {xs : List ByteArray} {k : Nat} (h : smallL xs) (hk : k < xs.length) : (xs.getD k ByteArray.empty).size ≤ 3000 := by
  rw [List.getD_eq_getElem?_getD, List.getElem?_eq_getElem hk]
  exact h.2 _ (List.getElem_mem _)
theorem flat_le {xs : List ByteArray} (h : smallL xs) : ∀ k, k ≤ xs.length → (flat (xs.take k)).length ≤ k * 3001
  | 0, _ => by simp [flat]
  | k + 1, hk => by
    have h1 := flat_le h k (by omega)
    have h2 := small_at h (k := k) (by omega)
    rw [flat_snoc (by omega), List.length_append, List.length_cons]
    have h3 : (xs.getD k ByteArray.empty).data.toList.length = (xs.getD k ByteArray.empty).size := by rw [Lib.size_eq]
    omega
theorem append_data (a b : ByteArray) : (a ++ b).data.toList = a.data.toList ++ b.data.toList := by simp [ByteArray.data_append]
theorem str_of_list {a : ByteArray} {l : List UInt8} (h : a.data.toList = l) : a = ⟨l.toArray⟩ := by
  cases a
  simp at h
  simp [← h]
end Px
theorem isBuilder_at {T e : TypeId} {B b : Nat} {p : Value} {bs : List Value} {w : World} (h : Lib.BuilderAt T e B b p bs w) (hp : p = .pointer (some ⟨b, 0, none⟩)) : Lib.IsBuilder T e B b bs w := Or.inr (hp ▸ h)
theorem byteCells_append (l r : List UInt8) : Lib.byteCells (l ++ r) = Lib.byteCells l ++ Lib.byteCells r := by simp [Lib.byteCells]
theorem byteCells_len (l : List UInt8) : (Lib.byteCells l).length = l.length := by simp [Lib.byteCells]

set_option maxRecDepth 100000 in
set_option maxHeartbeats 1000000 in
theorem show_any {w : World} {p : Option Addr} {xs : List ByteArray} (c : Nat) (hx : Strs w p xs) (hs : smallL xs) :
    Calls Try.prog 9 #[.slice p xs.length c] w fun e w' => e = .returned (.string ⟨(showL xs).toArray⟩) ∧ Below w.heap.size w w' := by
  have hl := hs.1
  have HS := Lib.hid hs
  have HX := Lib.hid hx
  clear hx hs
  by_cases h0 : xs.length = 0
  · have HV : Hid (showL xs = [47]) := Lib.hid (by unfold showL; rw [if_pos h0])
    have h1 : ((xs.length : Int) == 0) = true := by simp [h0]
    clear h0
    go_enter Try.func9, Try.ntmps9
    go_wp2_with fail
    go_ret
    exact ⟨ret_str (by rw [HV.out]), Below.refl _ _⟩
  · have HV : Hid (showL xs = flat xs) := Lib.hid (by unfold showL; rw [if_neg h0])
    have h1 : ((xs.length : Int) == 0) = false := by rw [beq_eq_false_iff_ne]; omega
    clear h0
    go_enter Try.func9, Try.ntmps9
    go_wp2_with fail
    go_loopw [11] (fun i wr => ∃ (k : Nat), k ≤ xs.length ∧ i = .int .i64 k ∧ Hid (Lib.IsBuilder 55 5 w.heap.size w.heap.size (Lib.byteCells (flat (xs.take k))) wr) ∧ Hid (Below w.heap.size w wr) ∧ Hid (w.heap.size ≤ wr.heap.size)) (fun i _ => xs.length - (intOf i).toNat)
    case atStart =>
      exact ⟨0, Nat.zero_le _, rfl, Lib.hid (Lib.fresh_isBuilder _ _ w), Lib.hid ((Below.refl _ w).alloc (Nat.le_refl _) _), Lib.hid (by simp)⟩
    case round =>
      obtain ⟨k, hk, rfl, HI, HB, HZ⟩ := hrel
      by_cases hlt : k < xs.length
      · obtain ⟨b, o, rfl, hc0⟩ := HX.out k hlt
        have hc : wr.cell? ⟨b, o + k, none⟩ = some (.string (xs.getD k ByteArray.empty)) := by
          rw [HB.out.cell (World.block_lt_of_cell? _ _ hc0)]
          exact hc0
        have hx5 := small_at HS.out hlt
        have HF := Lib.hid (flat_snoc hlt)
        have HL := Lib.hid (flat_le HS.out k hk)
        clear hc0
        generalize xs.getD k ByteArray.empty = x at hc hx5 HF
        have HW1 := Lib.hid (Try.writeByte_any w.heap.size w.heap.size _ 47 wr HI.out (by rw [byteCells_len]; have := HL.out; omega) HZ.out)
        have HW2 : Hid (∀ w2, Lib.IsBuilder 55 5 w.heap.size w.heap.size (Lib.byteCells (flat (xs.take k)) ++ [.int .u8 47]) w2 → w.heap.size ≤ w2.heap.size → Calls Try.prog 25 #[.pointer (some ⟨w.heap.size, 0, none⟩), .string x] w2 fun e w' => e = .returned (.tuple #[.int .i64 x.size, .nilIface]) ∧ Lib.IsBuilder 55 5 w.heap.size w.heap.size (Lib.byteCells (flat (xs.take (k + 1)))) w' ∧ Below w.heap.size w2 w') := Lib.hid fun w2 h2 hz => by
          refine (Try.writeString_any w.heap.size w.heap.size _ x w2 h2 (by rw [List.length_append, byteCells_len]; have := HL.out; simp; omega) hz).mono fun e w' ⟨he, hi, hb⟩ => ⟨he, ?_, hb⟩
          rw [HF.out, byteCells_append]
          have := isBuilder_at hi rfl
          rw [List.append_assoc] at this
          exact this
        go_wp2_with (first
          | (go_at_call 24; refine HW1.out.mono ?_; rintro e w2 ⟨rfl, hi2, hb2⟩; have HI2 := Lib.hid hi2; have HB2 := Lib.hid hb2; clear hi2 hb2)
          | (go_at_call 25; refine (HW2.out _ (isBuilder_at HI2.out rfl) (Nat.le_trans HZ.out HB2.out.size)).mono ?_; rintro e w3 ⟨rfl, hi3, hb3⟩; have HI3 := Lib.hid hi3; have HB3 := Lib.hid hb3; clear hi3 hb3))
        go_roundw
        case rel => exact ⟨k + 1, by omega, by go_num, HI3, Lib.hid ((HB.out.trans HB2.out).trans HB3.out), Lib.hid (Nat.le_trans (Nat.le_trans HZ.out HB2.out.size) HB3.out.size)⟩
        case measure => simp [intOf]; omega
      · have HE : Hid (k = xs.length) := Lib.hid (by omega)
        have HR : Hid (Calls Try.prog 26 #[.pointer (some ⟨w.heap.size, 0, none⟩)] wr fun e w' => e = .returned (.string ⟨(showL xs).toArray⟩) ∧ Below w.heap.size wr w') := Lib.hid (by
          have := HI.out
          rw [HE.out, List.take_length, ← HV.out] at this
          exact Try.Builder_String_any _ _ _ wr this HZ.out)
        go_wp2_with (go_at_call 26; refine HR.out.mono ?_; rintro e w2 ⟨rfl, hb2⟩)
        go_ret
        exact ⟨rfl, HB.out.trans hb2⟩

theorem show_at {W w : World} (hb : Below W.heap.size W w) {v : Value} {xs : List ByteArray} (hx : PlR W v xs) (hs : smallL xs) :
    Calls Try.prog 9 #[v] w fun e w' => e = .returned (.string ⟨(showL xs).toArray⟩) ∧ Below W.heap.size W w' := by
  obtain ⟨p, c, rfl, h1, h2, h3⟩ := hx
  exact (show_any c (h1.grown hb) hs).mono fun e w' ⟨he, hw⟩ => ⟨he, below_next hb hw⟩
end Go.Proofs.Ytlnnnlpofocgpab
