/- Walks for lex: the statements' own helpers cut, bad, works. -/
import Derived.Test.YtlingnajbhlpdaaDoorLexI
namespace Go.Proofs.YtlingnajbhlpdaaDoor
open Go.RowKit Lx

def badOk (l : Lx.B) (n : Nat) : Bool := match Lx.tokens l with | (ts, p, e) => ts.isEmpty && p == n && e == 63
theorem badOk_eq {l : Lx.B} {n : Nat} (h : badOk l n = true) : Lx.tokens l = ([], n, 63) := by
  unfold badOk at h
  generalize Lx.tokens l = r at h ⊢
  obtain ⟨ts, p, e⟩ := r
  simp at h
  obtain ⟨⟨rfl, rfl⟩, rfl⟩ := h
  rfl

theorem bad_any (s : ByteArray) (i : Int) (n : Nat) (w : World) (hi : i = n) (hs : s.size ≤ 100000) (hT : Table w) (hb : badOk s.data.toList n = true) :
    Calls Tryd.prog 9 #[.string s, .int .i64 i] w fun e w' => e = .returned (.bool true) ∧ Below w.heap.size w w' := by
  subst hi
  have HT := Lib.hid hT
  have HB := Lib.hid (badOk_eq hb)
  clear hT hb
  go_enter Tryd.func9, Tryd.ntmps9
  go_wp2_with fail
  refine (tokens_any s w hs HT.out).mono ?_
  rintro e w1 ⟨v, rfl, ho, hbl⟩
  have HBL := Lib.hid hbl
  obtain ⟨A, cap, rfl, _, _⟩ := own_slice ho
  clear ho hbl
  rw [HB.out]
  go_wp2_with fail
  go_ret
  exact ⟨rfl, HBL.out⟩

/-- Texts that lie in memory, as a slice of strings. -/
def Texts (w : World) (V : Value) (T : List Lx.B) : Prop :=
  ∃ A c, V = .slice A T.length c ∧ (0 < T.length → ∃ g, A = some ⟨g, 0, none⟩ ∧ g < w.heap.size ∧ ∀ i x, T[i]? = some x → w.cell? ⟨g, i, none⟩ = some (.string ⟨x.toArray⟩))
theorem Texts.below {w w' : World} {V : Value} {T : List Lx.B} (h : Texts w V T) (hb : Below w.heap.size w w') : Texts w' V T := by
  obtain ⟨A, c, hv, hg⟩ := h
  refine ⟨A, c, hv, fun h0 => ?_⟩
  obtain ⟨g, hA, hlt, hc⟩ := hg h0
  exact ⟨g, hA, Nat.lt_of_lt_of_le hlt hb.size, fun i x hi => (hb.cell hlt).trans (hc i x hi)⟩
theorem Texts.none_ (w : World) : Texts w (.slice none 0 0) [] := ⟨_, _, rfl, fun h => absurd h (by simp)⟩
theorem Texts.new_ (w : World) (T : List Lx.B) (cs : Array Value) (t : TypeId) (n : Nat) (hn : n = T.length) (h : cs = (T.map fun l => Value.string ⟨l.toArray⟩).toArray) :
    Texts (w.alloc (.cells cs t)) (.slice (some ⟨w.heap.size, 0, none⟩) n n) T := by
  subst hn h
  refine ⟨_, _, rfl, fun _ => ⟨_, rfl, by simp, fun i x hi => ?_⟩⟩
  rw [cell_of_row _ _ _ _ _ _ (heap_alloc1 w _)]
  simp [hi]

/-- Does a script's token stand as told? -/
def fits (l : Lx.B) : List Lx.Tok → Lx.B → List Lx.B → Bool
  | [], [], [] => true
  | t :: ts, k :: ks, x :: xs => (t.kind == (if k == 111 then 2 else if k == 110 then 1 else 3)) && t.text == x && isAt l t.at_ x && fits l ts ks xs
  | _, _, _ => false
def cutOk (l k : Lx.B) (T : List Lx.B) : Bool := match Lx.tokens l with | (ts, p, e) => p == 0 && e == 0 && fits l ts k T
theorem fits_len {l : Lx.B} : ∀ {ts : List Lx.Tok} {k : Lx.B} {T : List Lx.B}, fits l ts k T = true → ts.length = T.length ∧ k.length = T.length
  | [], [], [], _ => ⟨rfl, rfl⟩
  | t :: ts, k :: ks, x :: xs, h => by
    simp only [fits, Bool.and_eq_true] at h
    have := fits_len h.2
    simp [this]
  | [], [], _ :: _, h => by simp [fits] at h
  | [], _ :: _, _, h => by simp [fits] at h
  | _ :: _, [], _, h => by simp [fits] at h
  | _ :: _, _ :: _, [], h => by simp [fits] at h
theorem fits_at {l : Lx.B} : ∀ {ts : List Lx.Tok} {k : Lx.B} {T : List Lx.B}, fits l ts k T = true → ∀ (i : Nat) (h1 : i < ts.length) (h2 : i < k.length) (h3 : i < T.length),
    ts[i].kind = (if k[i] == 111 then 2 else if k[i] == 110 then 1 else 3) ∧ ts[i].text = T[i] ∧ isAt l ts[i].at_ T[i] = true
  | t :: ts, k :: ks, x :: xs, h, 0, _, _, _ => by
    simp only [fits, Bool.and_eq_true] at h
    exact ⟨eq_of_beq h.1.1.1, eq_of_beq h.1.1.2, h.1.2⟩
  | t :: ts, k :: ks, x :: xs, h, i + 1, h1, h2, h3 => by
    simp only [fits, Bool.and_eq_true] at h
    exact fits_at h.2 i (by simpa using h1) (by simpa using h2) (by simpa using h3)
theorem cutOk_eq {l k : Lx.B} {T : List Lx.B} (h : cutOk l k T = true) : ∃ ts, Lx.tokens l = (ts, 0, 0) ∧ fits l ts k T = true := by
  unfold cutOk at h
  generalize Lx.tokens l = r at h ⊢
  obtain ⟨ts, p, e⟩ := r
  simp at h
  obtain ⟨⟨rfl, rfl⟩, h⟩ := h
  exact ⟨ts, rfl, h⟩

set_option maxHeartbeats 2000000 in
theorem cut_true (s K : ByteArray) (V : Value) (T : List Lx.B) (w : World) (hs : s.size ≤ 100000) (hT : Table w) (hV : Texts w V T) (hb : cutOk s.data.toList K.data.toList T = true) (hl : T.all (fun x => x.length ≤ 100000) = true) :
    Calls Tryd.prog 8 #[.string s, .string K, V] w fun e w' => e = .returned (.bool true) ∧ Below w.heap.size w w' := by
  have HT := Lib.hid hT
  obtain ⟨ts, hts, hf⟩ := cutOk_eq hb
  have hlen := fits_len hf
  have hfew := Lx.tokens_few s.data.toList
  rw [hts, ← Lib.size_eq] at hfew
  have hK : K.size = T.length := by rw [Lib.size_eq]; exact hlen.2
  have hn1 := hlen.1
  simp only at hfew
  have HF := Lib.hid hf
  have HTS := Lib.hid hts
  have HLN := Lib.hid hlen
  have HLL := Lib.hid hl
  have HV := Lib.hid hV
  obtain ⟨A, c, rfl, hg⟩ := hV
  have HG := Lib.hid hg
  clear hT hb hts hf hlen hl hg
  generalize hnT : T.length = n at *
  have HNT := Lib.hid hnT
  have HNS := Lib.hid hn1
  have HK := Lib.hid hK
  have hn : n ≤ 100000 := by omega
  clear hnT hfew
  go_enter Tryd.func8, Tryd.ntmps8
  go_wp2_with fail
  refine (tokens_any s w hs HT.out).mono ?_
  rintro e w1 ⟨v, rfl, ho, hbl⟩
  rw [HTS.out] at ho ⊢
  simp only [HNS.out] at ho
  have HBL := Lib.hid hbl
  obtain ⟨Al, cap, rfl, hcap, hown⟩ := own_slice ho
  have HO := Lib.hid hown
  clear ho hbl hown
  go_wp2_with fail
  clear hK hn1
  go_loopw [10] (fun i wr => ∃ k m : Nat, k ≤ n ∧ i = .int .i64 k ∧ wr = w1.drewN m) (fun i _ => n - (intOf i).toNat)
  case atStart => exact ⟨0, 0, Nat.zero_le _, rfl, rfl⟩
  case round =>
    obtain ⟨k, m, hk, rfl, rfl⟩ := hrel
    by_cases hlt : k < n
    · obtain ⟨gt, rfl, hgt, hct⟩ := HG.out (by omega)
      obtain ⟨gl, rfl, _, _, _, hcl⟩ := HO.out (by omega)
      have hkK : k < K.size := by have := HK.out; omega
      have h1 : k < ts.length := by have := HNS.out; omega
      have h2 : k < K.data.toList.length := by rw [← Lib.size_eq]; exact hkK
      have h3 : k < T.length := by have := HNT.out; omega
      have hfit := fits_at HF.out k h1 h2 h3
      have htk := tok_at ts k h1
      have hx : (T[k]).length ≤ 100000 := by have := List.all_eq_true.1 HLL.out T[k] (List.getElem_mem _); simpa using this
      have d0 := (HBL.out.cell (p := ⟨gt, k, none⟩) hgt).trans (hct k T[k] (List.getElem?_eq_getElem h3))
      have c0 := hcl _ _ htk.1
      have c1 := hcl _ _ htk.2.1
      have c2 := hcl _ _ htk.2.2
      rw [hfit.2.1] at c1
      have hI := hfit.2.2
      have hkk : ts[k].kind = if K[k] == 111 then 2 else if K[k] == 110 then 1 else 3 := hfit.1
      rw [hkk] at c0
      have hat : ts[k].at_ ≤ s.size := by
        unfold isAt at hI
        simp only [Bool.and_eq_true, decide_eq_true_eq] at hI
        rw [Lib.size_eq]
        omega
      clear hkk hfit htk hcl hct
      generalize ts[k].at_ = at_ at *
      generalize T[k] = x at *
      have hxs : (⟨x.toArray⟩ : ByteArray).size ≤ 100000 := by rw [Lib.size_eq]; simpa using hx
      have HC0 := Lib.hid c0
      clear c0 hx
      have his : ∀ W, Calls Tryd.prog 15 #[.string s, .int .i64 at_, .string ⟨x.toArray⟩] W fun e w' => e = .returned (.bool true) ∧ w' = W := fun W =>
        (is_any s ⟨x.toArray⟩ _ at_ W rfl hs hxs (by omega)).mono fun e w' h => ⟨h.1.trans (by rw [show (⟨x.toArray⟩ : ByteArray).data.toList = x from rfl, hI]), h.2.symm⟩
      have HIS := Lib.hid his
      clear his hI
      cases h111 : ((K[k].toNat : Int) == 111) with
      | true =>
        have c0 : w1.cell? ⟨gl, k * 3, none⟩ = some (.int .u8 2) := by rw [HC0.out, show K[k] = 111 from Lx.u8 111 (by simpa using h111) rfl]; rfl
        go_wp2_with fail
        go_quiet ((go_at_call 15; exact (HIS.out _).mono fun _ _ h => ⟨h.1, _, h.2⟩))
        go_wp2
        go_roundw
        case rel => exact ⟨k + 1, _, by omega, by go_num, rfl⟩
        case measure => simp [intOf]; omega
      | false =>
      cases h110 : ((K[k].toNat : Int) == 110) with
      | true =>
        have c0 : w1.cell? ⟨gl, k * 3, none⟩ = some (.int .u8 1) := by rw [HC0.out, show K[k] = 110 from Lx.u8 110 (by simpa using h110) rfl]; rfl
        go_wp2_with fail
        go_quiet ((go_at_call 15; exact (HIS.out _).mono fun _ _ h => ⟨h.1, _, h.2⟩))
        go_wp2
        go_roundw
        case rel => exact ⟨k + 1, _, by omega, by go_num, rfl⟩
        case measure => simp [intOf]; omega
      | false =>
        have c0 : w1.cell? ⟨gl, k * 3, none⟩ = some (.int .u8 3) := by
          rw [HC0.out, show (K[k] == 111) = false from by rw [Lx.beq8]; simpa using h111, show (K[k] == 110) = false from by rw [Lx.beq8]; simpa using h110]; rfl
        go_wp2_with fail
        go_quiet ((go_at_call 15; exact (HIS.out _).mono fun _ _ h => ⟨h.1, _, h.2⟩))
        go_wp2
        go_roundw
        case rel => exact ⟨k + 1, _, by omega, by go_num, rfl⟩
        case measure => simp [intOf]; omega
    · go_wp2
      go_ret
      exact ⟨rfl, below_drewN HBL.out _⟩
end Go.Proofs.YtlingnajbhlpdaaDoor
