/- Walks: works() of the statements on words cut: true in any world. -/
import Derived.Test.YtlnnnlpofocgpaaOpI
namespace Go.Proofs.Ytlnnnlpofocgpaa
open Go.RowKit Ox Px

theorem plr_new (w : World) (l : List ByteArray) (hl : l.length ≤ 1000) : PlR (w.alloc (.cells (l.map Value.string).toArray 9)) (.slice (some ⟨w.heap.size, 0, none⟩) l.length l.length) l := by
  refine ⟨_, _, rfl, fun i hi => ⟨w.heap.size, 0, rfl, ?_⟩, Nat.le_refl _, by unfold maxLen; omega⟩
  rw [cell_of_row _ _ (0 + i) _ _ _ (heap_alloc_last w _), Nat.zero_add]
  simp [hi, List.getD_eq_getElem?_getD]
theorem plr_new1 (w : World) (l r : List ByteArray) (hl : l.length ≤ 1000) : PlR ((w.alloc (.cells (l.map Value.string).toArray 9)).alloc (.cells (r.map Value.string).toArray 9)) (.slice (some ⟨w.heap.size, 0, none⟩) l.length l.length) l := (plr_new w l hl).grown ((Below.refl _ _).alloc (Nat.le_refl _) _)
theorem plr_new2 (w : World) (l r : List ByteArray) (hl : r.length ≤ 1000) : PlR ((w.alloc (.cells (l.map Value.string).toArray 9)).alloc (.cells (r.map Value.string).toArray 9)) (.slice (some ⟨w.heap.size + 1, 0, none⟩) r.length r.length) r := by
  have := plr_new (w.alloc (.cells (l.map Value.string).toArray 9)) r hl
  rw [alloc_size'] at this
  exact this
theorem eq_self' (c : Int) : (c == c) = true := beq_self_eq_true c
theorem bytes_eq_self (s : ByteArray) : (s.toList == s.toList) = true := beq_self_eq_true _
theorem sameL_self (l : List ByteArray) : sameL l l = true := decide_eq_true rfl

set_option maxRecDepth 100000 in
theorem lawCut_true (w : World) (known S : ByteArray) (v v2 : Value) (xs ops : List ByteArray) (hx : PlR w v xs) (h2 : PlR w v2 ops) (hl : xs.length ≤ 1000) (hs : ∀ x ∈ xs, x.size ≤ 1000) (hk : known.size ≤ 1000) (hp : parseD known.data.toList xs 0 99 = (S, ops, 0)) :
    Calls Try.prog 10 #[.string known, v, .string S, v2] w fun e w' => e = .returned (.bool true) ∧ Below w.heap.size w w' := by
  have HP := Lib.hid hp
  have HX := Lib.hid hx
  have H2 := Lib.hid h2
  obtain ⟨q2, d2, rfl, _, _, _⟩ := h2
  clear hp hx
  go_enter Try.func10, Try.ntmps10
  go_wp2_with fail
  refine (parse_any w v xs known 0 99 HX.out (by omega) (fun x hx => by have := hs x hx; omega) (by omega)).mono ?_
  rintro e w1 ⟨hr, hb⟩
  rw [HP.out] at hr
  obtain ⟨u, rfl, hu, _⟩ := hr
  have B1 := Lib.hid hb
  have U1 := Lib.hid hu
  obtain ⟨q1, d1, rfl, _, _, _⟩ := hu
  have V1 := Lib.hid (H2.out.grown hb)
  clear hb
  have e1 := bytes_eq_self S
  have BA : Below w1.heap.size w1 (w1.alloc (.cells #[.string S, .slice q1 ops.length d1] 25)) := (Below.refl _ _).alloc (Nat.le_refl _) _
  have HSA := Lib.hid (same_at (Below.refl _ _) (U1.out.grown BA) (V1.out.grown BA))
  have B2 := Lib.hid (B1.out.trans (BA.mono B1.out.size))
  rw [sameL_self] at HSA
  clear BA
  go_wp2_with fail
  refine HSA.out.mono ?_
  rintro e w2 ⟨rfl, hb⟩
  have B3 := Lib.hid (B2.out.trans (hb.mono B2.out.size))
  clear hb
  go_wp2_with fail
  go_ret
  exact ⟨rfl, B3.out⟩
set_option maxRecDepth 100000 in
theorem lawRefused_true (w : World) (known : ByteArray) (v : Value) (xs : List ByteArray) (least most c : Int) (hx : PlR w v xs) (hl : xs.length ≤ 1000) (hs : ∀ x ∈ xs, x.size ≤ 1000) (hk : known.size ≤ 1000) (hp : parseD known.data.toList xs least most = (ByteArray.empty, [], c)) :
    Calls Try.prog 11 #[.string known, v, .int .i64 least, .int .i64 most, .int .i64 c] w fun e w' => e = .returned (.bool true) ∧ Below w.heap.size w w' := by
  have HP := Lib.hid hp
  have HX := Lib.hid hx
  clear hp hx
  go_enter Try.func11, Try.ntmps11
  go_wp2_with fail
  refine (parse_any w v xs known least most HX.out (by omega) (fun x hx => by have := hs x hx; omega) (by omega)).mono ?_
  rintro e w1 ⟨hr, hb⟩
  rw [HP.out] at hr
  obtain ⟨u, rfl, hu, _⟩ := hr
  have B1 := Lib.hid hb
  obtain ⟨q1, d1, rfl, _, _, _⟩ := hu
  clear hb
  have e0 := eq_self' c
  go_wp2_with fail
  go_ret
  exact ⟨rfl, B1.out.alloc B1.out.size _⟩

set_option maxRecDepth 100000 in
set_option maxHeartbeats 8000000 in
theorem works_any (w : World) : Calls Try.prog 6 #[] w fun e w' => e = .returned (.bool true) ∧ Below w.heap.size w w' := by
  go_enter Try.func6, Try.ntmps6
  have B0 : Hid (Below w.heap.size w w) := Lib.hid (Below.refl _ _)
  go_wp2_with fail
  have hc := lawCut_true ((w.alloc (.cells (([(⟨#[45, 114, 102]⟩ : ByteArray), (⟨#[120]⟩ : ByteArray), (⟨#[45, 114]⟩ : ByteArray)]).map Value.string).toArray 9)).alloc (.cells (([(⟨#[120]⟩ : ByteArray), (⟨#[45, 114]⟩ : ByteArray)]).map Value.string).toArray 9)) (⟨#[114, 102]⟩ : ByteArray) (⟨#[102, 114]⟩ : ByteArray) (.slice (some ⟨w.heap.size, 0, none⟩) 3 3) (.slice (some ⟨w.heap.size + 1, 0, none⟩) 2 2) ([(⟨#[45, 114, 102]⟩ : ByteArray), (⟨#[120]⟩ : ByteArray), (⟨#[45, 114]⟩ : ByteArray)]) ([(⟨#[120]⟩ : ByteArray), (⟨#[45, 114]⟩ : ByteArray)]) (plr_new1 w _ _ (by decide)) (plr_new2 w _ _ (by decide)) (by decide) (by decide) (by decide) (by decide +kernel)
  simp only [List.map_cons, List.map_nil] at hc
  refine hc.mono ?_
  clear hc
  rintro e w1 ⟨rfl, hb⟩
  have B1 := Lib.hid (((B0.out.alloc B0.out.size _).alloc (by have := B0.out.size; simp <;> omega) _).trans (hb.mono (by have := B0.out.size; simp <;> omega)))
  clear hb B0
  go_wp2_with fail
  have hc := lawCut_true ((w1.alloc (.cells (([(⟨#[45, 102]⟩ : ByteArray), (⟨#[45, 45]⟩ : ByteArray), (⟨#[45, 114]⟩ : ByteArray)]).map Value.string).toArray 9)).alloc (.cells (([(⟨#[45, 114]⟩ : ByteArray)]).map Value.string).toArray 9)) (⟨#[114, 102]⟩ : ByteArray) (⟨#[102]⟩ : ByteArray) (.slice (some ⟨w1.heap.size, 0, none⟩) 3 3) (.slice (some ⟨w1.heap.size + 1, 0, none⟩) 1 1) ([(⟨#[45, 102]⟩ : ByteArray), (⟨#[45, 45]⟩ : ByteArray), (⟨#[45, 114]⟩ : ByteArray)]) ([(⟨#[45, 114]⟩ : ByteArray)]) (plr_new1 w1 _ _ (by decide)) (plr_new2 w1 _ _ (by decide)) (by decide) (by decide) (by decide) (by decide +kernel)
  simp only [List.map_cons, List.map_nil] at hc
  refine hc.mono ?_
  clear hc
  rintro e w2 ⟨rfl, hb⟩
  have B2 := Lib.hid (((B1.out.alloc B1.out.size _).alloc (by have := B1.out.size; simp <;> omega) _).trans (hb.mono (by have := B1.out.size; simp <;> omega)))
  clear hb B1
  go_wp2_with fail
  have hc := lawRefused_true (w2.alloc (.cells (([(⟨#[45, 120]⟩ : ByteArray)]).map Value.string).toArray 9)) (⟨#[114, 102]⟩ : ByteArray) (.slice (some ⟨w2.heap.size, 0, none⟩) 1 1) ([(⟨#[45, 120]⟩ : ByteArray)]) 0 9 62 (plr_new w2 _ (by decide)) (by decide) (by decide) (by decide) (by decide +kernel)
  simp only [List.map_cons, List.map_nil] at hc
  refine hc.mono ?_
  clear hc
  rintro e w3 ⟨rfl, hb⟩
  have B3 := Lib.hid ((B2.out.alloc B2.out.size _).trans (hb.mono (by have := B2.out.size; simp <;> omega)))
  clear hb B2
  go_wp2_with fail
  have hc := lawRefused_true (w3.alloc (.cells (([(⟨#[45, 45, 102]⟩ : ByteArray)]).map Value.string).toArray 9)) (⟨#[114, 102]⟩ : ByteArray) (.slice (some ⟨w3.heap.size, 0, none⟩) 1 1) ([(⟨#[45, 45, 102]⟩ : ByteArray)]) 0 9 62 (plr_new w3 _ (by decide)) (by decide) (by decide) (by decide) (by decide +kernel)
  simp only [List.map_cons, List.map_nil] at hc
  refine hc.mono ?_
  clear hc
  rintro e w4 ⟨rfl, hb⟩
  have B4 := Lib.hid ((B3.out.alloc B3.out.size _).trans (hb.mono (by have := B3.out.size; simp <;> omega)))
  clear hb B3
  go_wp2_with fail
  have hc := lawCut_true ((w4.alloc (.cells (([(⟨#[45]⟩ : ByteArray)]).map Value.string).toArray 9)).alloc (.cells (([(⟨#[45]⟩ : ByteArray)]).map Value.string).toArray 9)) (⟨#[114, 102]⟩ : ByteArray) (⟨#[]⟩ : ByteArray) (.slice (some ⟨w4.heap.size, 0, none⟩) 1 1) (.slice (some ⟨w4.heap.size + 1, 0, none⟩) 1 1) ([(⟨#[45]⟩ : ByteArray)]) ([(⟨#[45]⟩ : ByteArray)]) (plr_new1 w4 _ _ (by decide)) (plr_new2 w4 _ _ (by decide)) (by decide) (by decide) (by decide) (by decide +kernel)
  simp only [List.map_cons, List.map_nil] at hc
  refine hc.mono ?_
  clear hc
  rintro e w5 ⟨rfl, hb⟩
  have B5 := Lib.hid (((B4.out.alloc B4.out.size _).alloc (by have := B4.out.size; simp <;> omega) _).trans (hb.mono (by have := B4.out.size; simp <;> omega)))
  clear hb B4
  go_wp2_with fail
  have hc := lawRefused_true w5 (⟨#[112]⟩ : ByteArray) (.slice none 0 0) [] 1 9 62 (nil_plr w5) (by decide) (by decide) (by decide) (by decide +kernel)
  refine hc.mono ?_
  clear hc
  rintro e w6 ⟨rfl, hb⟩
  have B6 := Lib.hid (B5.out.trans (hb.mono B5.out.size))
  clear hb B5
  go_wp2_with fail
  go_ret
  exact ⟨rfl, B6.out⟩
end Go.Proofs.Ytlnnnlpofocgpaa
