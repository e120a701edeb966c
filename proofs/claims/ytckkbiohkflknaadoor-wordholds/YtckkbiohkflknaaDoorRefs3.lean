/- Contract of the document's own Holds (package grottoref01): for all words each comparison answers the same as package word's. -/
import Derived.Test.YtckkbiohkflknaaDoorRefs
namespace Go.Proofs.YtckkbiohkflknaaDoor
open Go.RowKit
set_option maxHeartbeats 400000

/-- what the document's Holds answers, by the two differences -/
def hBR (c d u : Int) : Bool :=
  if c = 1 then u == 0 else if c = 2 then u != 0
  else if c = 3 then decide (d < 0) else if c = 4 then decide (0 ≤ d)
  else if c = 5 then decide (0 < d) else if c = 6 then decide (d ≤ 0)
  else if c = 7 then decide (u < 0) else if c = 8 then decide (0 ≤ u)
  else if c = 9 then decide (0 < u) else if c = 10 then decide (u ≤ 0) else false
theorem hBR_eq (c a b : Int) (_a0 : 0 ≤ a) (_a1 : a ≤ 4294967295) (_b0 : 0 ≤ b) (_b1 : b ≤ 4294967295) : hBR c (wrap32 a - wrap32 b) (a - b) = hB c a b := by
  unfold hBR hB
  by_cases h1 : c = 1
  · subst h1; simp only [if_true]; rw [Bool.eq_iff_iff]; simp; omega
  by_cases h2 : c = 2
  · subst h2; simp only [if_true, if_neg (show ¬ (2 : Int) = 1 by decide)]; rw [Bool.eq_iff_iff]; simp; omega
  simp only [h1, h2, if_false]
  repeat' split
  all_goals first | rfl | (rw [Bool.eq_iff_iff]; simp; done) | (rw [Bool.eq_iff_iff]; simp; omega)
theorem holdsR_any (c a b : Int) (w : World) (a0 : 0 ≤ a) (a1 : a ≤ 4294967295) (b0 : 0 ≤ b) (b1 : b ≤ 4294967295) :
    Calls Tryd.prog 32 #[.int .i64 c, .int .u32 a, .int .u32 b] w fun e w' => e = .returned (.bool (hB c a b)) ∧ w' = w := by
  have hx := wrap32_range a
  have hy := wrap32_range b
  by_cases h1 : c = 1
  · subst h1
    have H : Hid (hBR 1 (wrap32 a - wrap32 b) (a - b) = hB 1 a b) := hidden (hBR_eq _ a b a0 a1 b0 b1)
    go_enter Tryd.func32, Tryd.ntmps32
    go_wp2_with (go_at_call 23; refine (int_any _ _ (by omega) (by omega)).mono ?_; rintro e w' ⟨rfl, rfl⟩)
    go_ret
    first | exact ⟨ret_bool H.out, rfl⟩ | exact ⟨rfl, rfl⟩
  by_cases h2 : c = 2
  · subst h2
    have H : Hid (hBR 2 (wrap32 a - wrap32 b) (a - b) = hB 2 a b) := hidden (hBR_eq _ a b a0 a1 b0 b1)
    go_enter Tryd.func32, Tryd.ntmps32
    go_wp2_with (go_at_call 23; refine (int_any _ _ (by omega) (by omega)).mono ?_; rintro e w' ⟨rfl, rfl⟩)
    go_ret
    first | exact ⟨ret_bool H.out, rfl⟩ | exact ⟨rfl, rfl⟩
  by_cases h3 : c = 3
  · subst h3
    have H : Hid (hBR 3 (wrap32 a - wrap32 b) (a - b) = hB 3 a b) := hidden (hBR_eq _ a b a0 a1 b0 b1)
    go_enter Tryd.func32, Tryd.ntmps32
    go_wp2_with (go_at_call 23; refine (int_any _ _ (by omega) (by omega)).mono ?_; rintro e w' ⟨rfl, rfl⟩)
    go_ret
    first | exact ⟨ret_bool H.out, rfl⟩ | exact ⟨rfl, rfl⟩
  by_cases h4 : c = 4
  · subst h4
    have H : Hid (hBR 4 (wrap32 a - wrap32 b) (a - b) = hB 4 a b) := hidden (hBR_eq _ a b a0 a1 b0 b1)
    go_enter Tryd.func32, Tryd.ntmps32
    go_wp2_with (go_at_call 23; refine (int_any _ _ (by omega) (by omega)).mono ?_; rintro e w' ⟨rfl, rfl⟩)
    go_ret
    first | exact ⟨ret_bool H.out, rfl⟩ | exact ⟨rfl, rfl⟩
  by_cases h5 : c = 5
  · subst h5
    have H : Hid (hBR 5 (wrap32 a - wrap32 b) (a - b) = hB 5 a b) := hidden (hBR_eq _ a b a0 a1 b0 b1)
    go_enter Tryd.func32, Tryd.ntmps32
    go_wp2_with (go_at_call 23; refine (int_any _ _ (by omega) (by omega)).mono ?_; rintro e w' ⟨rfl, rfl⟩)
    go_ret
    first | exact ⟨ret_bool H.out, rfl⟩ | exact ⟨rfl, rfl⟩
  by_cases h6 : c = 6
  · subst h6
    have H : Hid (hBR 6 (wrap32 a - wrap32 b) (a - b) = hB 6 a b) := hidden (hBR_eq _ a b a0 a1 b0 b1)
    go_enter Tryd.func32, Tryd.ntmps32
    go_wp2_with (go_at_call 23; refine (int_any _ _ (by omega) (by omega)).mono ?_; rintro e w' ⟨rfl, rfl⟩)
    go_ret
    first | exact ⟨ret_bool H.out, rfl⟩ | exact ⟨rfl, rfl⟩
  by_cases h7 : c = 7
  · subst h7
    have H : Hid (hBR 7 (wrap32 a - wrap32 b) (a - b) = hB 7 a b) := hidden (hBR_eq _ a b a0 a1 b0 b1)
    go_enter Tryd.func32, Tryd.ntmps32
    go_wp2_with (go_at_call 23; refine (int_any _ _ (by omega) (by omega)).mono ?_; rintro e w' ⟨rfl, rfl⟩)
    go_ret
    first | exact ⟨ret_bool H.out, rfl⟩ | exact ⟨rfl, rfl⟩
  by_cases h8 : c = 8
  · subst h8
    have H : Hid (hBR 8 (wrap32 a - wrap32 b) (a - b) = hB 8 a b) := hidden (hBR_eq _ a b a0 a1 b0 b1)
    go_enter Tryd.func32, Tryd.ntmps32
    go_wp2_with (go_at_call 23; refine (int_any _ _ (by omega) (by omega)).mono ?_; rintro e w' ⟨rfl, rfl⟩)
    go_ret
    first | exact ⟨ret_bool H.out, rfl⟩ | exact ⟨rfl, rfl⟩
  by_cases h9 : c = 9
  · subst h9
    have H : Hid (hBR 9 (wrap32 a - wrap32 b) (a - b) = hB 9 a b) := hidden (hBR_eq _ a b a0 a1 b0 b1)
    go_enter Tryd.func32, Tryd.ntmps32
    go_wp2_with (go_at_call 23; refine (int_any _ _ (by omega) (by omega)).mono ?_; rintro e w' ⟨rfl, rfl⟩)
    go_ret
    first | exact ⟨ret_bool H.out, rfl⟩ | exact ⟨rfl, rfl⟩
  by_cases h10 : c = 10
  · subst h10
    have H : Hid (hBR 10 (wrap32 a - wrap32 b) (a - b) = hB 10 a b) := hidden (hBR_eq _ a b a0 a1 b0 b1)
    go_enter Tryd.func32, Tryd.ntmps32
    go_wp2_with (go_at_call 23; refine (int_any _ _ (by omega) (by omega)).mono ?_; rintro e w' ⟨rfl, rfl⟩)
    go_ret
    first | exact ⟨ret_bool H.out, rfl⟩ | exact ⟨rfl, rfl⟩
  have e : hB c a b = false := by unfold hB; simp [h1, h2, h3, h4, h5, h6, h7, h8, h9, h10]
  rw [e]
  have n1 : (c == 1) = false := by simpa using h1
  have n2 : (c == 2) = false := by simpa using h2
  have n3 : (c == 3) = false := by simpa using h3
  have n4 : (c == 4) = false := by simpa using h4
  have n5 : (c == 5) = false := by simpa using h5
  have n6 : (c == 6) = false := by simpa using h6
  have n7 : (c == 7) = false := by simpa using h7
  have n8 : (c == 8) = false := by simpa using h8
  have n9 : (c == 9) = false := by simpa using h9
  have n10 : (c == 10) = false := by simpa using h10
  clear h1 h2 h3 h4 h5 h6 h7 h8 h9 h10 e
  go_enter Tryd.func32, Tryd.ntmps32
  go_wp2_with (go_at_call 23; refine (int_any _ _ (by omega) (by omega)).mono ?_; rintro e w' ⟨rfl, rfl⟩)
  go_ret
  exact ⟨rfl, rfl⟩
end Go.Proofs.YtckkbiohkflknaaDoor
