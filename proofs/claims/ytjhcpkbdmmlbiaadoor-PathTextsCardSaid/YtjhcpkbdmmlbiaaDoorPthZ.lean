/- Walks: the last name of the reference; what is wrong with a path, of the reference and of the program. -/
import Derived.Test.YtjhcpkbdmmlbiaaDoorPthY
namespace Go.Proofs.YtjhcpkbdmmlbiaaDoor
open Go.RowKit Go.Shelf Px

namespace Px
theorem lastF_B (s : ByteArray) : lastF s.data.toList = ((((piecesB s).map fun x => x.data.toList).reverse.find? fun p => !(p == [])).getD []) := by
  rw [lastF_at]
  congr 3
  unfold piecesB
  rw [List.map_map]
  have : ((fun x : ByteArray => x.data.toList) ∘ fun l : B => (⟨l.toArray⟩ : ByteArray)) = id := rfl
  rw [this, List.map_id]
end Px
/-- What the first m pieces come to, from behind. -/
def findL (ps : List ByteArray) (m : Nat) : Px.B := ((((ps.take m).map fun x => x.data.toList).reverse.find? fun p => !(p == [])).getD [])
theorem findL_zero (ps : List ByteArray) : findL ps 0 = [] := rfl
theorem findL_succ {ps : List ByteArray} {m : Nat} (h : m < ps.length) : findL ps (m + 1) = if (ps.getD m ByteArray.empty).toList = [] then findL ps m else (ps.getD m ByteArray.empty).data.toList := by
  unfold findL
  rw [take_snoc_d h, List.map_append, List.reverse_append]
  show (List.find? _ ((ps.getD m ByteArray.empty).data.toList :: _)).getD [] = _
  rw [List.find?_cons, Lib.toList_data]
  by_cases h0 : (ps.getD m ByteArray.empty).data.toList = []
  · rw [if_pos h0, h0]
    rfl
  · rw [if_neg h0, show (!((ps.getD m ByteArray.empty).data.toList == [])) = true from by simpa using h0]
    rfl

set_option maxRecDepth 100000 in
theorem lastRef_any (s : ByteArray) (w : World) (hs : s.size ≤ 100000) :
    Calls Tryd.prog 12 #[.string s] w fun e w' => LastAt s e ∧ Hid (Below w.heap.size w w') := by
  go_enter Tryd.func12, Tryd.ntmps12
  go_wp2_with fail
  refine (parts_pl hs).mono ?_
  rintro e w1 ⟨v, rfl, HP, HB⟩
  obtain ⟨p, c, rfl, hS, h1, h2⟩ := HP.out
  have HS := Lib.hid hS
  have hN : (piecesB s).length ≤ 100001 := by
    have := piecesB_len s
    omega
  have HF : Hid (lastF s.data.toList = findL (piecesB s) (piecesB s).length) := Lib.hid (by
    rw [lastF_B]
    unfold findL
    rw [List.take_length])
  have hsz : ∀ k, k < (piecesB s).length → ((piecesB s).getD k ByteArray.empty).size ≤ 100000 := fun k hk => by
    have hk' : k < (pieces s.data.toList).length := by unfold piecesB at hk; simpa using hk
    have e : ((piecesB s).getD k ByteArray.empty) = ⟨((pieces s.data.toList)[k]).toArray⟩ := by
      unfold piecesB
      rw [List.getD_eq_getElem?_getD, List.getElem?_map, List.getElem?_eq_getElem hk']
      rfl
    rw [e]
    show ((pieces s.data.toList)[k]).toArray.size ≤ _
    rw [List.size_toArray]
    have := pieces_size s.data.toList _ (List.getElem_mem hk')
    rw [← Lib.size_eq] at this
    omega
  have HSZ := Lib.hid hsz
  clear HP hS h1 h2 hsz
  generalize piecesB s = ps at *
  generalize hn : ps.length = n at *
  have HN := Lib.hid hn
  clear hn
  have hn1 : n = 0 ∨ ∃ j, n = j + 1 := by
    cases n with
    | zero => exact .inl rfl
    | succ j => exact .inr ⟨j, rfl⟩
  have HN1 := Lib.hid hn1
  clear hn1
  go_wp2_with fail
  go_loop [5] (fun i => ∃ m : Nat, m ≤ n ∧ (m = 0 ∧ i = .int .i64 (-1) ∨ ∃ j : Nat, m = j + 1 ∧ i = .int .i64 j) ∧ Hid (lastF s.data.toList = findL ps m)) (fun i => (intOf i + 1).toNat)
  case atStart =>
    refine ⟨n, Nat.le_refl _, ?_, HF⟩
    rcases HN1.out with h | ⟨j, h⟩
    · exact .inl ⟨h, by rw [h]; rfl⟩
    · exact .inr ⟨j, h, by rw [h]; go_num⟩
  case round =>
    obtain ⟨m, hm, ⟨rfl, rfl⟩ | ⟨j, rfl, rfl⟩, HL⟩ := hrel
    · have HV : Hid (lastF s.data.toList = []) := Lib.hid (by rw [HL.out, findL_zero])
      go_wp2
      exact bodyPost_ret (v := .tuple #[.string ⟨#[]⟩, .bool false]) (by simp [results, Tryd.results12, go_sem]) rfl ⟨⟨⟨#[]⟩, by rw [HV.out]; rfl, by rw [HV.out]; rfl⟩, HB⟩
    · have hlt : j < ps.length := by rw [HN.out]; omega
      obtain ⟨b, o, rfl, hc⟩ := HS.out j hlt
      have HF2 := Lib.hid (findL_succ hlt)
      have hxs := HSZ.out j (by omega)
      clear hlt
      generalize ps.getD j ByteArray.empty = x at hc HF2 hxs
      have hj : j ≤ 100001 := by omega
      by_cases hx : x.toList = []
      · have HL2 : Hid (lastF s.data.toList = findL ps j) := Lib.hid (by rw [HL.out, HF2.out, if_pos hx])
        go_wp2
        go_round
        case rel =>
          refine ⟨j, by omega, ?_, HL2⟩
          cases j with
          | zero => exact .inl ⟨rfl, by go_num⟩
          | succ j => exact .inr ⟨j, rfl, by go_num⟩
        case measure => simp [intOf]
      · have HL2 : Hid (lastF s.data.toList = x.data.toList) := Lib.hid (by rw [HL.out, HF2.out, if_neg hx])
        have he := full_list hx
        go_wp2_with fail
        refine (nameRef_any x _ (by omega)).mono ?_
        rintro e w' ⟨rfl, rfl⟩
        cases hn : nameL x.data.toList with
        | false =>
          have HNN := Lib.hid hn
          clear hn
          go_wp2
          exact bodyPost_ret (v := .tuple #[.string ⟨#[]⟩, .bool false]) (by simp [results, Tryd.results12, go_sem]) rfl ⟨⟨⟨#[]⟩, by rw [HL2.out, HNN.out], by rw [HL2.out, HNN.out]; rfl⟩, HB⟩
        | true =>
          have HNN := Lib.hid hn
          clear hn
          go_wp2
          exact bodyPost_ret (v := .tuple #[.string x, .bool true]) (by simp [results, Tryd.results12, go_sem]) rfl ⟨⟨x, by rw [HL2.out, HNN.out], by rw [HL2.out, HNN.out]; rfl⟩, HB⟩
end Go.Proofs.YtjhcpkbdmmlbiaaDoor
