/- A reason's word: as data; the walks of the two functions that tell it. -/
import Derived.WalkKit
import Derived.Test.YtmofodaecakkfaaLib
namespace Go.Proofs.Ytmofodaecakkfaa
open Go.RowKit
/-- A reason's word. -/
def reasonD (e : Int) : ByteArray := bif e == 5 then ⟨#[110, 111, 116, 32, 116, 104, 101, 114, 101]⟩ else bif e == 6 then ⟨#[116, 104, 101, 114, 101, 32, 97, 108, 114, 101, 97, 100, 121]⟩ else bif e == 55 then ⟨#[119, 114, 111, 110, 103, 32, 107, 105, 110, 100]⟩ else bif e == 57 then ⟨#[110, 111, 116, 32, 101, 109, 112, 116, 121]⟩ else bif e == 58 then ⟨#[105, 110, 116, 111, 32, 105, 116, 115, 101, 108, 102]⟩ else bif e == 61 then ⟨#[116, 111, 111, 32, 109, 97, 110, 121, 32, 108, 105, 110, 107, 115]⟩ else bif e == 40 then ⟨#[116, 111, 111, 32, 108, 97, 114, 103, 101]⟩ else bif e == 4 then ⟨#[98, 97, 100, 32, 110, 97, 109, 101]⟩ else ⟨#[119, 114, 111, 110, 103]⟩
set_option maxRecDepth 100000 in
theorem reason_any (w : World) (e : Int) : Calls Try.prog 45 #[.int .i64 e] w fun o w' => o = .returned (.string (reasonD e)) ∧ w = w' := by
  cases h0 : (e == 5) with
  | true =>
    go_enter Try.func45, Try.ntmps45
    go_wp2_with fail
    go_ret
    exact ⟨by simp only [reasonD, h0, cond_true]; rfl, rfl⟩
  | false =>
    cases h1 : (e == 6) with
    | true =>
      go_enter Try.func45, Try.ntmps45
      go_wp2_with fail
      go_ret
      exact ⟨by simp only [reasonD, h0, h1, cond_true, cond_false]; rfl, rfl⟩
    | false =>
      cases h2 : (e == 55) with
      | true =>
        go_enter Try.func45, Try.ntmps45
        go_wp2_with fail
        go_ret
        exact ⟨by simp only [reasonD, h0, h1, h2, cond_true, cond_false]; rfl, rfl⟩
      | false =>
        cases h3 : (e == 57) with
        | true =>
          go_enter Try.func45, Try.ntmps45
          go_wp2_with fail
          go_ret
          exact ⟨by simp only [reasonD, h0, h1, h2, h3, cond_true, cond_false]; rfl, rfl⟩
        | false =>
          cases h4 : (e == 58) with
          | true =>
            go_enter Try.func45, Try.ntmps45
            go_wp2_with fail
            go_ret
            exact ⟨by simp only [reasonD, h0, h1, h2, h3, h4, cond_true, cond_false]; rfl, rfl⟩
          | false =>
            cases h5 : (e == 61) with
            | true =>
              go_enter Try.func45, Try.ntmps45
              go_wp2_with fail
              go_ret
              exact ⟨by simp only [reasonD, h0, h1, h2, h3, h4, h5, cond_true, cond_false]; rfl, rfl⟩
            | false =>
              cases h6 : (e == 40) with
              | true =>
                go_enter Try.func45, Try.ntmps45
                go_wp2_with fail
                go_ret
                exact ⟨by simp only [reasonD, h0, h1, h2, h3, h4, h5, h6, cond_true, cond_false]; rfl, rfl⟩
              | false =>
                cases h7 : (e == 4) with
                | true =>
                  go_enter Try.func45, Try.ntmps45
                  go_wp2_with fail
                  go_ret
                  exact ⟨by simp only [reasonD, h0, h1, h2, h3, h4, h5, h6, h7, cond_true, cond_false]; rfl, rfl⟩
                | false =>
                  go_enter Try.func45, Try.ntmps45
                  go_wp2_with fail
                  go_ret
                  exact ⟨by simp only [reasonD, h0, h1, h2, h3, h4, h5, h6, h7, cond_false]; rfl, rfl⟩
-- the reference
end Go.Proofs.Ytmofodaecakkfaa
