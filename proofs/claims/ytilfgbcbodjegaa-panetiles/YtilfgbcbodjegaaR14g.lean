/- Layer 14, the document: no tree, nothing closed. -/
import Derived.Test.YtilfgbcbodjegaaR14e
namespace Go.Proofs.Ytilfgbcbodjegaa
open Go.RowKit
set_option maxHeartbeats 1000000
set_option maxRecDepth 100000
set_option linter.unusedVariables false

theorem dnew_bad (x y : Int) (w : World) (h : scrB x y = false) : Calls Try.prog 34 #[.int .i64 x, .int .i64 y] w fun e w' => e = .returned (.tuple #[.pointer none, .int .i64 1]) ∧ w' = w := by
  have hs : ¬ (0 ≤ x ∧ x ≤ 1000 ∧ 0 ≤ y ∧ y ≤ 1000) := by simpa [scrB] using h
  clear h
  by_cases h0 : x < 0
  · clear hs
    go_enter Try.func34, Try.ntmps34
    go_wp2
    go_ret2
    exact ⟨rfl, rfl⟩
  · by_cases h1 : x > 1000
    · clear hs
      go_enter Try.func34, Try.ntmps34
      go_wp2
      go_ret2
      exact ⟨rfl, rfl⟩
    · by_cases h2 : y < 0
      · clear hs
        go_enter Try.func34, Try.ntmps34
        go_wp2
        go_ret2
        exact ⟨rfl, rfl⟩
      · have h3 : y > 1000 := by omega
        clear hs
        go_enter Try.func34, Try.ntmps34
        go_wp2
        go_ret2
        exact ⟨rfl, rfl⟩
theorem dclose_bad {B m : Nat} {v : Value} {s : Ps} {w : World} (h : QAt B w m v s) (hn : s.L.length ≤ 1000) (x : Int) (hx : hasB s.L x = false) :
    Calls Try.prog 54 #[.pointer (some ⟨m, 0, none⟩), .int .i64 x] w fun e w' => e = .returned (.tuple #[.slice none 0 0, .int .i64 5]) ∧ w' = w := by
  have HA := hidden (dat_any h hn x)
  rw [ixW_none hx] at HA
  clear h hx
  go_enter Try.func54, Try.ntmps54
  go_wp2_with (first | (go_at_call 53; refine HA.out.mono ?_; rintro e w1 ⟨rfl, e1⟩; rw [e1]; clear e1 w1) | fail)
  go_ret2
  exact ⟨rfl, rfl⟩
/-- why a pair cannot be arranged so: the first two reasons -/
theorem darr_nopair {B m : Nat} {v : Value} {s : Ps} {w : World} (h : QAt B w m v s) (hn : s.L.length ≤ 1000) (x method size key : Int) (P : Int) (hP : (if hasB s.L x = false then 5 else if (ofW s.L x).k = 4 then 0 else 1) = P) (h0 : P ≠ 0) :
    Calls Try.prog 55 #[.pointer (some ⟨m, 0, none⟩), .int .i64 x, .int .i64 method, .int .u32 size, .int .i64 key] w fun e w' => e = .returned (.int .i64 P) ∧ Hid (Below w.heap.size w w') := by
  have HA := hidden (dpair_any h hn x)
  rw [hP] at HA
  have q0 : (P != 0) = true := by simp [h0]
  clear h hP h0
  go_enter Try.func55, Try.ntmps55
  go_wp2_with (first | (go_at_call 72; refine HA.out.mono ?_; rintro e w1 ⟨rfl, HB⟩) | fail)
  go_ret
  exact ⟨rfl, HB⟩
end Go.Proofs.Ytilfgbcbodjegaa
