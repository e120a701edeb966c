/- Contracts of word.Holds: for every number of a comparison and any two words it answers hB of them, and leaves the world as it was. -/
import Derived.Test.YtckkbiohkflknaaDoorRows
import Derived.WalkKit
import Derived.ProofKit
import Derived.OpenShut
import Derived.ShutString
namespace Go.Proofs.YtckkbiohkflknaaDoor
open Go.RowKit (wrap32 wrap64)

/-- what word.Holds answers -/
def hB (c a b : Int) : Bool :=
  if c = 1 then a == b else if c = 2 then a != b
  else if c = 3 then decide (wrap32 a < wrap32 b) else if c = 4 then decide (wrap32 b ≤ wrap32 a)
  else if c = 5 then decide (wrap32 b < wrap32 a) else if c = 6 then decide (wrap32 a ≤ wrap32 b)
  else if c = 7 then decide (a < b) else if c = 8 then decide (b ≤ a)
  else if c = 9 then decide (b < a) else if c = 10 then decide (a ≤ b) else false

theorem bool_ret {a b : Bool} (h : a = b) : Ending.returned (.bool a) = .returned (.bool b) := by rw [h]

set_option maxHeartbeats 1000000 in
theorem holds_any (c a b : Int) (w : World) :
    Calls Tryd.prog 31 #[.int .i64 c, .int .u32 a, .int .u32 b] w fun e w' => e = .returned (.bool (hB c a b)) ∧ w' = w := by
  by_cases h1 : c = 1
  · subst h1
    go_enter Tryd.func31, Tryd.ntmps31
    go_wp2
    go_ret
    exact ⟨rfl, rfl⟩
  by_cases h2 : c = 2
  · subst h2
    go_enter Tryd.func31, Tryd.ntmps31
    go_wp2
    go_ret
    exact ⟨rfl, rfl⟩
  by_cases h3 : c = 3
  · subst h3
    go_enter Tryd.func31, Tryd.ntmps31
    go_wp2
    go_ret
    exact ⟨rfl, rfl⟩
  by_cases h4 : c = 4
  · subst h4
    go_enter Tryd.func31, Tryd.ntmps31
    go_wp2
    go_ret
    exact ⟨rfl, rfl⟩
  by_cases h5 : c = 5
  · subst h5
    go_enter Tryd.func31, Tryd.ntmps31
    go_wp2
    go_ret
    exact ⟨rfl, rfl⟩
  by_cases h6 : c = 6
  · subst h6
    go_enter Tryd.func31, Tryd.ntmps31
    go_wp2
    go_ret
    exact ⟨rfl, rfl⟩
  by_cases h7 : c = 7
  · subst h7
    go_enter Tryd.func31, Tryd.ntmps31
    go_wp2
    go_ret
    exact ⟨rfl, rfl⟩
  by_cases h8 : c = 8
  · subst h8
    go_enter Tryd.func31, Tryd.ntmps31
    go_wp2
    go_ret
    exact ⟨rfl, rfl⟩
  by_cases h9 : c = 9
  · subst h9
    go_enter Tryd.func31, Tryd.ntmps31
    go_wp2
    go_ret
    exact ⟨rfl, rfl⟩
  by_cases h10 : c = 10
  · subst h10
    go_enter Tryd.func31, Tryd.ntmps31
    go_wp2
    go_ret
    exact ⟨rfl, rfl⟩
  have e : hB c a b = false := by unfold hB; simp [h1, h2, h3, h4, h5, h6, h7, h8, h9, h10]
  rw [e]
  have n1 : (c == 1) = false := by simpa using h1
  have n2 : (c == 2) = false := by simpa using h2
  have n3 : (c == 3) = false := by simpa using h3
  have n4 : (c == 4) = false := by simpa using h4
  have n5 : (c == 5) = false := by simpa using h5
  have n6 : (c == 6) = false := by simpa using h6
  have n7 : (c == 7) = false := by simpa using h7
  have n8 : (c == 8) = false := by simpa using h8
  have n9 : (c == 9) = false := by simpa using h9
  have n10 : (c == 10) = false := by simpa using h10
  clear h1 h2 h3 h4 h5 h6 h7 h8 h9 h10 e
  go_enter Tryd.func31, Tryd.ntmps31
  go_wp2
  go_ret
  exact ⟨rfl, rfl⟩
end Go.Proofs.YtckkbiohkflknaaDoor
