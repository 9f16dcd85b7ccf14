/- Walks: which words are too many; is a byte in a text. -/
import Derived.Test.YtlnnnlpofocgpaaOpF
namespace Go.Proofs.Ytlnnnlpofocgpaa
open Go.RowKit Ox Px

theorem idx_has : ∀ (l : List UInt8) (c : UInt8), decide (0 ≤ Lib.indexByte l c) = l.contains c
  | [], c => rfl
  | b :: l, c => by
    have ih := idx_has l c
    unfold Lib.indexByte
    by_cases h : b = c
    · subst h
      simp
    · have hb : (b == c) = false := beq_eq_false_iff_ne.2 h
      have hc : (c == b) = false := beq_eq_false_iff_ne.2 fun e => h e.symm
      rw [hb, List.contains_cons, hc, Bool.false_or, ← ih, if_neg (by decide)]
      have hg := Lib.indexByte_ge l c
      by_cases h1 : Lib.indexByte l c = -1
      · rw [h1, if_pos (by decide)]
      · rw [if_neg (by simpa using h1)]
        exact decide_eq_decide.2 (by omega)

/-- How much of words a statement counts. -/
def sumW : List ByteArray → Nat
  | [] => 0
  | x :: r => 1 + min x.size 5000 + sumW r
theorem sumW_snoc : ∀ (l : List ByteArray) (x : ByteArray), sumW (l ++ [x]) = sumW l + (1 + min x.size 5000)
  | [], x => by simp [sumW]
  | y :: l, x => by rw [List.cons_append, sumW, sumW, sumW_snoc l x]; omega
theorem sumW_small : ∀ {l : List ByteArray}, sumW l < 5000 → l.length < 5000 ∧ ∀ x ∈ l, x.size ≤ 5000
  | [], _ => ⟨by decide, fun x hx => by cases hx⟩
  | y :: l, h => by
    rw [sumW] at h
    obtain ⟨h1, h2⟩ := sumW_small (l := l) (by omega)
    have hlen : ∀ l : List ByteArray, l.length ≤ sumW l := by
      intro l
      induction l with
      | nil => exact Nat.le_refl _
      | cons z r ih => rw [sumW, List.length_cons]; omega
    have := hlen l
    refine ⟨by rw [List.length_cons]; omega, fun x hx => ?_⟩
    rcases List.mem_cons.1 hx with rfl | hx
    · omega
    · exact h2 x hx

set_option maxRecDepth 100000 in
theorem large_any (w : World) (v : Value) (xs : List ByteArray) (hx : PlR w v xs) :
    Calls Try.prog 12 #[v] w fun e w' => (∃ b, e = .returned (.bool b) ∧ (b = false → xs.length ≤ 5000 ∧ ∀ x ∈ xs, x.size ≤ 5000)) ∧ w' = w := by
  obtain ⟨p, c, rfl, h1, h2, h3⟩ := hx
  have HS := Lib.hid h1
  clear h1
  unfold maxLen at h3
  go_enter Try.func12, Try.ntmps12
  go_wp2_with fail
  go_loopw [3, 4] (fun nv i wr => ∃ (k n : Nat), k ≤ xs.length ∧ nv = .int .i64 n ∧ n ≤ 10001 ∧ i = .int .i64 k ∧ w = wr ∧ Hid (n = sumW (xs.take k))) (fun _ i _ => xs.length - (intOf i).toNat)
  case atStart => exact ⟨0, 0, Nat.zero_le _, rfl, Nat.zero_le _, rfl, rfl, Lib.hid rfl⟩
  case round =>
    obtain ⟨k, n, hk, rfl, hn, rfl, rfl, HN⟩ := hrel
    by_cases hlt : k < xs.length
    · by_cases hn5 : n < 5000
      · obtain ⟨b, o, rfl, hc⟩ := HS.out k hlt
        have HD := Lib.hid (take_snoc_d hlt)
        generalize xs.getD k ByteArray.empty = x at *
        have HN2 : Hid (n + (1 + min x.size 5000) = sumW (xs.take (k + 1))) := Lib.hid (by rw [HD.out, sumW_snoc, HN.out])
        go_wp2_with fail
        go_roundw
        case rel => exact ⟨k + 1, n + (1 + min x.size 5000), by omega, by rw [show (n : Int) + 1 + min (x.size : Int) 5000 = ((n + (1 + min x.size 5000) : Nat) : Int) from by omega], by omega, by go_num, trivial, HN2⟩
        case measure => simp [intOf]; omega
      · have hn6 : (5000 : Int) ≤ (n : Int) := by omega
        go_wp2_with fail
        go_ret
        exact ⟨⟨_, rfl, fun h => absurd h (by simp)⟩, rfl⟩
    · obtain rfl : k = xs.length := by omega
      have HN2 : Hid (n = sumW xs) := Lib.hid (by rw [HN.out, List.take_length])
      go_wp2_with fail
      go_ret
      exact ⟨⟨_, rfl, fun h => by
        have h5 : sumW xs < 5000 := by rw [← HN2.out]; simp at h; omega
        exact ⟨Nat.le_of_lt (sumW_small h5).1, (sumW_small h5).2⟩⟩, rfl⟩

/-- A list of texts stays while a block of others is written. -/
theorem PlR.bl {w w' : World} {g : Nat} {v : Value} {xs : List ByteArray} (h : PlR w v xs) (hb : Bl g w w') (hne : ∀ p n c, v = .slice p n c → ∀ a, p = some a → a.block ≠ g) : PlR w' v xs := by
  obtain ⟨p, c, rfl, h1, h2, h3⟩ := h
  refine ⟨p, c, rfl, fun i hi => ?_, h2, h3⟩
  obtain ⟨b, o, rfl, hc⟩ := h1 i hi
  refine ⟨b, o, rfl, ?_⟩
  have hbn := hne _ _ _ rfl _ rfl
  have hlt := World.block_lt_of_cell? _ _ hc
  have := hb.block b hlt hbn
  unfold World.cell? at hc ⊢
  simp only [this]
  exact hc
end Go.Proofs.Ytlnnnlpofocgpaa
