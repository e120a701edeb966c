/- The walk of HeapFull. -/
import Derived.Test.YtfkplfaikicidaaE8o
namespace Go.Proofs.Ytfkplfaikicidaa
open Go.RowKit
set_option maxHeartbeats 1000000
set_option maxRecDepth 100000
set_option linter.unusedVariables false

theorem full_none {m x n : Nat} (h : mallocR ⟨m, 0, 0, []⟩ n x = none) : n = 0 ∨ x = 0 ∨ x % 256 ≠ 0 ∨ m < x ∨ m - m % 256 < x + n := by
  unfold mallocR at h
  simp only [List.length_nil, stR, enR, if_true, place] at h
  by_cases h1 : n = 0
  · exact .inl h1
  · rw [if_neg (by omega)] at h
    by_cases h2 : begR m x = false
    · have : ¬ (x ≠ 0 ∧ x % 256 = 0 ∧ x ≤ m) := by
        intro hh
        simp [begR, hh.1, hh.2.1, hh.2.2] at h2
      by_cases q1 : x = 0
      · exact .inr (.inl q1)
      · by_cases q2 : x % 256 = 0
        · by_cases q3 : x ≤ m
          · exact absurd ⟨q1, q2, q3⟩ this
          · omega
        · omega
    · rw [if_neg (fun e => h2 e.2)] at h
      by_cases h3 : x + n ≤ x
      · omega
      · rw [if_neg h3] at h
        by_cases h4 : m < up (x + n)
        · unfold up at h4; omega
        · rw [if_neg h4] at h; cases h
theorem full_some {m x n a : Nat} {s : Hs} (h : mallocR ⟨m, 0, 0, []⟩ n x = some (a, s)) : a = x ∧ s = ⟨m, x, up (x + n), [⟨x, n⟩]⟩ ∧ n ≠ 0 ∧ x ≠ 0 ∧ up (x + n) ≤ m := by
  unfold mallocR at h
  simp only [List.length_nil, stR, enR, if_true, place] at h
  by_cases h1 : n = 0
  · rw [if_pos (.inl h1)] at h; cases h
  · rw [if_neg (by omega)] at h
    by_cases h2 : begR m x = false
    · rw [if_pos (by simp [h2])] at h; cases h
    · rw [if_neg (fun e => h2 e.2)] at h
      obtain ⟨b1, b2, b3⟩ := begR_true (m := m) (x := x) (by simpa using h2)
      rw [if_neg (by omega)] at h
      by_cases h4 : m < up (x + n)
      · rw [if_pos h4] at h; cases h
      · rw [if_neg h4] at h
        cases h
        exact ⟨rfl, rfl, h1, b1, by omega⟩
theorem full_more {m x n : Nat} (hu : up (x + n) ≤ m) (hn : n ≠ 0) : mallocR ⟨m, x, up (x + n), [⟨x, n⟩]⟩ (m - m % 256 - x - n + 1) 0 = none := by
  have hu2 := up_ge (x + n)
  have hM : up (x + n) ≤ m - m % 256 := by unfold up at hu ⊢; omega
  unfold mallocR
  simp only [List.length_cons, List.length_nil, stR, enR, place]
  rw [if_neg (by omega), if_neg (by omega)]
  simp only [show ¬ (0 + 1 = 0) by omega, if_false, Nat.sub_self]
  rw [if_neg (show ¬ m - m % 256 - x - n + 1 ≤ 0 by omega)]
  simp only
  rw [if_neg (by omega), if_pos (by unfold up; omega)]
theorem full_fits {m x n : Nat} (hu : up (x + n) ≤ m) (hn : n ≠ 0) (hL : m - m % 256 - x - n ≠ 0) : ∃ s, mallocR ⟨m, x, up (x + n), [⟨x, n⟩]⟩ (m - m % 256 - x - n) 0 = some (x + n, s) ∧ s.en = m - m % 256 := by
  have hu2 := up_ge (x + n)
  have hM : up (x + n) ≤ m - m % 256 := by unfold up at hu ⊢; omega
  unfold mallocR
  simp only [List.length_cons, List.length_nil, stR, enR, place]
  rw [if_neg (by omega), if_neg (by omega)]
  simp only [show ¬ (0 + 1 = 0) by omega, if_false, Nat.sub_self]
  rw [if_neg (show ¬ m - m % 256 - x - n ≤ 0 by omega)]
  simp only
  by_cases h : x + n + (m - m % 256 - x - n) ≤ up (x + n)
  · rw [if_pos h]
    exact ⟨_, rfl, by simp only; omega⟩
  · rw [if_neg h, if_neg (by unfold up; omega)]
    exact ⟨_, rfl, by simp only; unfold up; omega⟩
theorem Run.blocks {B h : Nat} {w0 w : World} {s : Hs} (r : Run B h w0 w s) (ok : OkS s) : Calls Try.prog 15 #[.pointer (some ⟨h, 0, none⟩)] w fun e w' => ∃ ao c, e = .returned (.slice ao s.bs.length c) ∧ Run B h w0 w' s := by
  obtain ⟨v, hp, hb, hB⟩ := r
  refine (blocks_any B h v s w hp ok.len).mono ?_
  rintro e w' ⟨ao, c, rfl, ho, hb'⟩
  exact ⟨ao, c, rfl, Run.later ⟨v, hp, hb, hB⟩ hb'⟩
theorem full_no0 (m x n : Nat) (w : World) (hm : m < 4294967296) (hx : x < 4294967296) (hn : n < 4294967296) (hno : mallocR ⟨m, 0, 0, []⟩ n x = none)  (hc : n = 0) :
    Calls Try.prog 7 #[.int .u32 m, .int .u32 x, .int .u32 n] w fun e w' => e = .returned (.bool true) ∧ Below w.heap.size w w' := by
  have HN : Hid (Calls Try.prog 11 #[.int .u32 m] w fun e w' => e = .returned (.pointer (some ⟨w.heap.size, 0, none⟩)) ∧ Run w.heap.size w.heap.size w w' ⟨m, 0, 0, []⟩) := Run.new m w w w.heap.size (Below.refl _ _) (Nat.le_refl _)
  have HL : Hid (∀ w1 s, Run w.heap.size w.heap.size w w1 s → Calls Try.prog 10 #[] w1 fun e w' => e = .returned (.bool true) ∧ Below w.heap.size w w') := fun w1 s r => (live_any w1).mono (fun e w' hh => ⟨hh.1, by obtain ⟨v, _, hb, hB⟩ := r; exact hb.trans (hh.2.mono hB)⟩)
  obtain ⟨r, hr⟩ : ∃ r, r = m % 256 := ⟨_, rfl⟩
  obtain ⟨M, hM⟩ : ∃ M, M = m - m % 256 := ⟨_, rfl⟩
  have hmr : (m : Int).tmod 256 = (r : Int) := by rw [Int.tmod_eq_emod_of_nonneg (by omega)]; omega
  have hmM : (m : Int) - (r : Int) = (M : Int) := by omega
  have hM2 : M < 4294967296 := by omega
  have hr2 : r < 256 := by omega
  have H1 : Hid (∀ w1, Run w.heap.size w.heap.size w w1 ⟨m, 0, 0, []⟩ → Calls Try.prog 12 #[.pointer (some ⟨w.heap.size, 0, none⟩), .int .u32 n, .int .u32 x] w1 fun e w' => e = .returned (.tuple #[.int .u32 0, .bool false]) ∧ Run w.heap.size w.heap.size w w' ⟨m, 0, 0, []⟩) := fun w1 r => r.refuse (n := n) (x := x) (ok_new hm) hn hx hno
  have H2 : Hid (∀ w1, Run w.heap.size w.heap.size w w1 ⟨m, 0, 0, []⟩ → Calls Try.prog 18 #[.pointer (some ⟨w.heap.size, 0, none⟩)] w1 fun e w' => e = .returned (.bool false) ∧ w' = w1) := fun w1 r => r.active
  obtain ⟨q, hq⟩ : ∃ q, q = x % 256 := ⟨_, rfl⟩
  have hxq : (x : Int).tmod 256 = (q : Int) := by rw [Int.tmod_eq_emod_of_nonneg (by omega)]; omega
  have hq2 : q < 256 := by omega
  have d0 : ((n : Int) == 0) = true := by rw [beq_iff_eq]; omega
  clear hno hr hM hq hc 
  go_enter Try.func7, Try.ntmps7
  go_wp2_with (first | (go_at_call 11; refine HN.out.mono ?_; rintro e w1 ⟨rfl, r1⟩) | (go_at_call 12; refine (H1.out _ r1).mono ?_; rintro e w2 ⟨rfl, r2⟩) | (go_at_call 18; refine (H2.out _ r2).mono ?_; rintro e w3 ⟨rfl, rfl⟩) | (go_at_call 10; refine (HL.out _ _ r2).mono ?_; rintro e w4 ⟨rfl, hb4⟩))
  go_ret
  exact ⟨rfl, hb4⟩
theorem full_no1 (m x n : Nat) (w : World) (hm : m < 4294967296) (hx : x < 4294967296) (hn : n < 4294967296) (hno : mallocR ⟨m, 0, 0, []⟩ n x = none) (g0 : n ≠ 0) (hc : x = 0) :
    Calls Try.prog 7 #[.int .u32 m, .int .u32 x, .int .u32 n] w fun e w' => e = .returned (.bool true) ∧ Below w.heap.size w w' := by
  have HN : Hid (Calls Try.prog 11 #[.int .u32 m] w fun e w' => e = .returned (.pointer (some ⟨w.heap.size, 0, none⟩)) ∧ Run w.heap.size w.heap.size w w' ⟨m, 0, 0, []⟩) := Run.new m w w w.heap.size (Below.refl _ _) (Nat.le_refl _)
  have HL : Hid (∀ w1 s, Run w.heap.size w.heap.size w w1 s → Calls Try.prog 10 #[] w1 fun e w' => e = .returned (.bool true) ∧ Below w.heap.size w w') := fun w1 s r => (live_any w1).mono (fun e w' hh => ⟨hh.1, by obtain ⟨v, _, hb, hB⟩ := r; exact hb.trans (hh.2.mono hB)⟩)
  obtain ⟨r, hr⟩ : ∃ r, r = m % 256 := ⟨_, rfl⟩
  obtain ⟨M, hM⟩ : ∃ M, M = m - m % 256 := ⟨_, rfl⟩
  have hmr : (m : Int).tmod 256 = (r : Int) := by rw [Int.tmod_eq_emod_of_nonneg (by omega)]; omega
  have hmM : (m : Int) - (r : Int) = (M : Int) := by omega
  have hM2 : M < 4294967296 := by omega
  have hr2 : r < 256 := by omega
  have H1 : Hid (∀ w1, Run w.heap.size w.heap.size w w1 ⟨m, 0, 0, []⟩ → Calls Try.prog 12 #[.pointer (some ⟨w.heap.size, 0, none⟩), .int .u32 n, .int .u32 x] w1 fun e w' => e = .returned (.tuple #[.int .u32 0, .bool false]) ∧ Run w.heap.size w.heap.size w w' ⟨m, 0, 0, []⟩) := fun w1 r => r.refuse (n := n) (x := x) (ok_new hm) hn hx hno
  have H2 : Hid (∀ w1, Run w.heap.size w.heap.size w w1 ⟨m, 0, 0, []⟩ → Calls Try.prog 18 #[.pointer (some ⟨w.heap.size, 0, none⟩)] w1 fun e w' => e = .returned (.bool false) ∧ w' = w1) := fun w1 r => r.active
  obtain ⟨q, hq⟩ : ∃ q, q = x % 256 := ⟨_, rfl⟩
  have hxq : (x : Int).tmod 256 = (q : Int) := by rw [Int.tmod_eq_emod_of_nonneg (by omega)]; omega
  have hq2 : q < 256 := by omega
  have d0 : ¬ (n : Int) = 0 := by omega
  have d1 : ((x : Int) == 0) = true := by rw [beq_iff_eq]; omega
  clear hno hr hM hq hc g0
  go_enter Try.func7, Try.ntmps7
  go_wp2_with (first | (go_at_call 11; refine HN.out.mono ?_; rintro e w1 ⟨rfl, r1⟩) | (go_at_call 12; refine (H1.out _ r1).mono ?_; rintro e w2 ⟨rfl, r2⟩) | (go_at_call 18; refine (H2.out _ r2).mono ?_; rintro e w3 ⟨rfl, rfl⟩) | (go_at_call 10; refine (HL.out _ _ r2).mono ?_; rintro e w4 ⟨rfl, hb4⟩))
  go_ret
  exact ⟨rfl, hb4⟩
theorem full_no2 (m x n : Nat) (w : World) (hm : m < 4294967296) (hx : x < 4294967296) (hn : n < 4294967296) (hno : mallocR ⟨m, 0, 0, []⟩ n x = none) (g0 : n ≠ 0) (g1 : x ≠ 0) (hc : x % 256 ≠ 0) :
    Calls Try.prog 7 #[.int .u32 m, .int .u32 x, .int .u32 n] w fun e w' => e = .returned (.bool true) ∧ Below w.heap.size w w' := by
  have HN : Hid (Calls Try.prog 11 #[.int .u32 m] w fun e w' => e = .returned (.pointer (some ⟨w.heap.size, 0, none⟩)) ∧ Run w.heap.size w.heap.size w w' ⟨m, 0, 0, []⟩) := Run.new m w w w.heap.size (Below.refl _ _) (Nat.le_refl _)
  have HL : Hid (∀ w1 s, Run w.heap.size w.heap.size w w1 s → Calls Try.prog 10 #[] w1 fun e w' => e = .returned (.bool true) ∧ Below w.heap.size w w') := fun w1 s r => (live_any w1).mono (fun e w' hh => ⟨hh.1, by obtain ⟨v, _, hb, hB⟩ := r; exact hb.trans (hh.2.mono hB)⟩)
  obtain ⟨r, hr⟩ : ∃ r, r = m % 256 := ⟨_, rfl⟩
  obtain ⟨M, hM⟩ : ∃ M, M = m - m % 256 := ⟨_, rfl⟩
  have hmr : (m : Int).tmod 256 = (r : Int) := by rw [Int.tmod_eq_emod_of_nonneg (by omega)]; omega
  have hmM : (m : Int) - (r : Int) = (M : Int) := by omega
  have hM2 : M < 4294967296 := by omega
  have hr2 : r < 256 := by omega
  have H1 : Hid (∀ w1, Run w.heap.size w.heap.size w w1 ⟨m, 0, 0, []⟩ → Calls Try.prog 12 #[.pointer (some ⟨w.heap.size, 0, none⟩), .int .u32 n, .int .u32 x] w1 fun e w' => e = .returned (.tuple #[.int .u32 0, .bool false]) ∧ Run w.heap.size w.heap.size w w' ⟨m, 0, 0, []⟩) := fun w1 r => r.refuse (n := n) (x := x) (ok_new hm) hn hx hno
  have H2 : Hid (∀ w1, Run w.heap.size w.heap.size w w1 ⟨m, 0, 0, []⟩ → Calls Try.prog 18 #[.pointer (some ⟨w.heap.size, 0, none⟩)] w1 fun e w' => e = .returned (.bool false) ∧ w' = w1) := fun w1 r => r.active
  obtain ⟨q, hq⟩ : ∃ q, q = x % 256 := ⟨_, rfl⟩
  have hxq : (x : Int).tmod 256 = (q : Int) := by rw [Int.tmod_eq_emod_of_nonneg (by omega)]; omega
  have hq2 : q < 256 := by omega
  have d0 : ¬ (n : Int) = 0 := by omega
  have d1 : ¬ (x : Int) = 0 := by omega
  have d2 : ¬ (q : Int) = 0 := by omega
  clear hno hr hM hq hc g0 g1
  go_enter Try.func7, Try.ntmps7
  go_wp2_with (first | (go_at_call 11; refine HN.out.mono ?_; rintro e w1 ⟨rfl, r1⟩) | (go_at_call 12; refine (H1.out _ r1).mono ?_; rintro e w2 ⟨rfl, r2⟩) | (go_at_call 18; refine (H2.out _ r2).mono ?_; rintro e w3 ⟨rfl, rfl⟩) | (go_at_call 10; refine (HL.out _ _ r2).mono ?_; rintro e w4 ⟨rfl, hb4⟩))
  go_ret
  exact ⟨rfl, hb4⟩
theorem full_no3 (m x n : Nat) (w : World) (hm : m < 4294967296) (hx : x < 4294967296) (hn : n < 4294967296) (hno : mallocR ⟨m, 0, 0, []⟩ n x = none) (g0 : n ≠ 0) (g1 : x ≠ 0) (g2 : x % 256 = 0) (hc : m < x) :
    Calls Try.prog 7 #[.int .u32 m, .int .u32 x, .int .u32 n] w fun e w' => e = .returned (.bool true) ∧ Below w.heap.size w w' := by
  have HN : Hid (Calls Try.prog 11 #[.int .u32 m] w fun e w' => e = .returned (.pointer (some ⟨w.heap.size, 0, none⟩)) ∧ Run w.heap.size w.heap.size w w' ⟨m, 0, 0, []⟩) := Run.new m w w w.heap.size (Below.refl _ _) (Nat.le_refl _)
  have HL : Hid (∀ w1 s, Run w.heap.size w.heap.size w w1 s → Calls Try.prog 10 #[] w1 fun e w' => e = .returned (.bool true) ∧ Below w.heap.size w w') := fun w1 s r => (live_any w1).mono (fun e w' hh => ⟨hh.1, by obtain ⟨v, _, hb, hB⟩ := r; exact hb.trans (hh.2.mono hB)⟩)
  obtain ⟨r, hr⟩ : ∃ r, r = m % 256 := ⟨_, rfl⟩
  obtain ⟨M, hM⟩ : ∃ M, M = m - m % 256 := ⟨_, rfl⟩
  have hmr : (m : Int).tmod 256 = (r : Int) := by rw [Int.tmod_eq_emod_of_nonneg (by omega)]; omega
  have hmM : (m : Int) - (r : Int) = (M : Int) := by omega
  have hM2 : M < 4294967296 := by omega
  have hr2 : r < 256 := by omega
  have H1 : Hid (∀ w1, Run w.heap.size w.heap.size w w1 ⟨m, 0, 0, []⟩ → Calls Try.prog 12 #[.pointer (some ⟨w.heap.size, 0, none⟩), .int .u32 n, .int .u32 x] w1 fun e w' => e = .returned (.tuple #[.int .u32 0, .bool false]) ∧ Run w.heap.size w.heap.size w w' ⟨m, 0, 0, []⟩) := fun w1 r => r.refuse (n := n) (x := x) (ok_new hm) hn hx hno
  have H2 : Hid (∀ w1, Run w.heap.size w.heap.size w w1 ⟨m, 0, 0, []⟩ → Calls Try.prog 18 #[.pointer (some ⟨w.heap.size, 0, none⟩)] w1 fun e w' => e = .returned (.bool false) ∧ w' = w1) := fun w1 r => r.active
  obtain ⟨q, hq⟩ : ∃ q, q = x % 256 := ⟨_, rfl⟩
  have hxq : (x : Int).tmod 256 = (q : Int) := by rw [Int.tmod_eq_emod_of_nonneg (by omega)]; omega
  have hq2 : q < 256 := by omega
  have d0 : ¬ (n : Int) = 0 := by omega
  have d1 : ¬ (x : Int) = 0 := by omega
  have d2 : (q : Int) = 0 := by omega
  have d3 : (m : Int) < (x : Int) := by omega
  clear hno hr hM hq hc g0 g1 g2
  go_enter Try.func7, Try.ntmps7
  go_wp2_with (first | (go_at_call 11; refine HN.out.mono ?_; rintro e w1 ⟨rfl, r1⟩) | (go_at_call 12; refine (H1.out _ r1).mono ?_; rintro e w2 ⟨rfl, r2⟩) | (go_at_call 18; refine (H2.out _ r2).mono ?_; rintro e w3 ⟨rfl, rfl⟩) | (go_at_call 10; refine (HL.out _ _ r2).mono ?_; rintro e w4 ⟨rfl, hb4⟩))
  go_ret
  exact ⟨rfl, hb4⟩
theorem full_no4 (m x n : Nat) (w : World) (hm : m < 4294967296) (hx : x < 4294967296) (hn : n < 4294967296) (hno : mallocR ⟨m, 0, 0, []⟩ n x = none) (g0 : n ≠ 0) (g1 : x ≠ 0) (g2 : x % 256 = 0) (g3 : x ≤ m) (hc : m - m % 256 < x + n) :
    Calls Try.prog 7 #[.int .u32 m, .int .u32 x, .int .u32 n] w fun e w' => e = .returned (.bool true) ∧ Below w.heap.size w w' := by
  have HN : Hid (Calls Try.prog 11 #[.int .u32 m] w fun e w' => e = .returned (.pointer (some ⟨w.heap.size, 0, none⟩)) ∧ Run w.heap.size w.heap.size w w' ⟨m, 0, 0, []⟩) := Run.new m w w w.heap.size (Below.refl _ _) (Nat.le_refl _)
  have HL : Hid (∀ w1 s, Run w.heap.size w.heap.size w w1 s → Calls Try.prog 10 #[] w1 fun e w' => e = .returned (.bool true) ∧ Below w.heap.size w w') := fun w1 s r => (live_any w1).mono (fun e w' hh => ⟨hh.1, by obtain ⟨v, _, hb, hB⟩ := r; exact hb.trans (hh.2.mono hB)⟩)
  obtain ⟨r, hr⟩ : ∃ r, r = m % 256 := ⟨_, rfl⟩
  obtain ⟨M, hM⟩ : ∃ M, M = m - m % 256 := ⟨_, rfl⟩
  have hmr : (m : Int).tmod 256 = (r : Int) := by rw [Int.tmod_eq_emod_of_nonneg (by omega)]; omega
  have hmM : (m : Int) - (r : Int) = (M : Int) := by omega
  have hM2 : M < 4294967296 := by omega
  have hr2 : r < 256 := by omega
  have H1 : Hid (∀ w1, Run w.heap.size w.heap.size w w1 ⟨m, 0, 0, []⟩ → Calls Try.prog 12 #[.pointer (some ⟨w.heap.size, 0, none⟩), .int .u32 n, .int .u32 x] w1 fun e w' => e = .returned (.tuple #[.int .u32 0, .bool false]) ∧ Run w.heap.size w.heap.size w w' ⟨m, 0, 0, []⟩) := fun w1 r => r.refuse (n := n) (x := x) (ok_new hm) hn hx hno
  have H2 : Hid (∀ w1, Run w.heap.size w.heap.size w w1 ⟨m, 0, 0, []⟩ → Calls Try.prog 18 #[.pointer (some ⟨w.heap.size, 0, none⟩)] w1 fun e w' => e = .returned (.bool false) ∧ w' = w1) := fun w1 r => r.active
  obtain ⟨q, hq⟩ : ∃ q, q = x % 256 := ⟨_, rfl⟩
  have hxq : (x : Int).tmod 256 = (q : Int) := by rw [Int.tmod_eq_emod_of_nonneg (by omega)]; omega
  have hq2 : q < 256 := by omega
  have d0 : ¬ (n : Int) = 0 := by omega
  have d1 : ¬ (x : Int) = 0 := by omega
  have d2 : (q : Int) = 0 := by omega
  have d3 : ¬ (m : Int) < (x : Int) := by omega
  have d4 : (M : Int) < (x : Int) + (n : Int) := by omega
  clear hno hr hM hq hc g0 g1 g2 g3
  go_enter Try.func7, Try.ntmps7
  go_wp2_with (first | (go_at_call 11; refine HN.out.mono ?_; rintro e w1 ⟨rfl, r1⟩) | (go_at_call 12; refine (H1.out _ r1).mono ?_; rintro e w2 ⟨rfl, r2⟩) | (go_at_call 18; refine (H2.out _ r2).mono ?_; rintro e w3 ⟨rfl, rfl⟩) | (go_at_call 10; refine (HL.out _ _ r2).mono ?_; rintro e w4 ⟨rfl, hb4⟩))
  go_ret
  exact ⟨rfl, hb4⟩
set_option maxHeartbeats 3000000 in
theorem full_yes0 (m x n : Nat) (w : World) (hm : m < 4294967296) (hx : x < 4294967296) (hn : n < 4294967296) (hyes : mallocR ⟨m, 0, 0, []⟩ n x = some (x, ⟨m, x, up (x + n), [⟨x, n⟩]⟩)) (hn0 : n ≠ 0) (hup : up (x + n) ≤ m) (hL : m - m % 256 - x - n = 0) :
    Calls Try.prog 7 #[.int .u32 m, .int .u32 x, .int .u32 n] w fun e w' => e = .returned (.bool true) ∧ Below w.heap.size w w' := by
  have HN : Hid (Calls Try.prog 11 #[.int .u32 m] w fun e w' => e = .returned (.pointer (some ⟨w.heap.size, 0, none⟩)) ∧ Run w.heap.size w.heap.size w w' ⟨m, 0, 0, []⟩) := Run.new m w w w.heap.size (Below.refl _ _) (Nat.le_refl _)
  have HL : Hid (∀ w1 s, Run w.heap.size w.heap.size w w1 s → Calls Try.prog 10 #[] w1 fun e w' => e = .returned (.bool true) ∧ Below w.heap.size w w') := fun w1 s r => (live_any w1).mono (fun e w' hh => ⟨hh.1, by obtain ⟨v, _, hb, hB⟩ := r; exact hb.trans (hh.2.mono hB)⟩)
  obtain ⟨r, hr⟩ : ∃ r, r = m % 256 := ⟨_, rfl⟩
  obtain ⟨M, hM⟩ : ∃ M, M = m - m % 256 := ⟨_, rfl⟩
  have hmr : (m : Int).tmod 256 = (r : Int) := by rw [Int.tmod_eq_emod_of_nonneg (by omega)]; omega
  have hmM : (m : Int) - (r : Int) = (M : Int) := by omega
  have hM2 : M < 4294967296 := by omega
  have hr2 : r < 256 := by omega
  have hge := up_ge (x + n)
  have hxM : x + n ≤ M := by unfold up at hup; omega
  obtain ⟨D, hD⟩ : ∃ D, D = M - x := ⟨_, rfl⟩
  obtain ⟨L, hLL⟩ : ∃ L, L = m - m % 256 - x - n := ⟨_, rfl⟩
  have hMD : (M : Int) - (x : Int) = (D : Int) := by omega
  have hDL : (D : Int) - (n : Int) = (L : Int) := by omega
  have hL2 : L + 1 < 4294967296 := by omega
  have hD2 : D < 4294967296 := by omega
  have ok1 := ok_malloc_to (ok_new hm) hyes
  have hmore := full_more hup hn0
  rw [← hLL] at hmore
  have hnofit : mallocR ⟨m, x, up (x + n), [⟨x, n⟩]⟩ L 0 = none := by unfold mallocR; rw [if_pos (.inl (by omega))]
  generalize hU : up (x + n) = U at *
  have hU2 : U < 4294967296 := by omega
  have H1 : Hid (∀ w1, Run w.heap.size w.heap.size w w1 ⟨m, 0, 0, []⟩ → Calls Try.prog 12 #[.pointer (some ⟨w.heap.size, 0, none⟩), .int .u32 n, .int .u32 x] w1 fun e w' => e = .returned (.tuple #[.int .u32 x, .bool true]) ∧ Run w.heap.size w.heap.size w w' ⟨m, x, U, [⟨x, n⟩]⟩) := fun w1 r => r.malloc (n := n) (x := x) (ok_new hm) hn hx hyes
  have H2 : Hid (∀ w1, Run w.heap.size w.heap.size w w1 ⟨m, x, U, [⟨x, n⟩]⟩ → Calls Try.prog 16 #[.pointer (some ⟨w.heap.size, 0, none⟩)] w1 fun e w' => e = .returned (.int .u32 x) ∧ w' = w1) := fun w1 r => r.start
  have H3 : Hid (∀ w1, Run w.heap.size w.heap.size w w1 ⟨m, x, U, [⟨x, n⟩]⟩ → Calls Try.prog 17 #[.pointer (some ⟨w.heap.size, 0, none⟩)] w1 fun e w' => e = .returned (.int .u32 U) ∧ w' = w1) := fun w1 r => r.end
  have H4 : Hid (∀ w1, Run w.heap.size w.heap.size w w1 ⟨m, x, U, [⟨x, n⟩]⟩ → Calls Try.prog 12 #[.pointer (some ⟨w.heap.size, 0, none⟩), .int .u32 ((L : Int) + 1), .int .u32 0] w1 fun e w' => e = .returned (.tuple #[.int .u32 0, .bool false]) ∧ Run w.heap.size w.heap.size w w' ⟨m, x, U, [⟨x, n⟩]⟩) := fun w1 r => r.refuse (n := L + 1) (x := 0) ok1 hL2 (by decide) hmore
  have H5 : Hid (∀ w1, Run w.heap.size w.heap.size w w1 ⟨m, x, U, [⟨x, n⟩]⟩ → Calls Try.prog 15 #[.pointer (some ⟨w.heap.size, 0, none⟩)] w1 fun e w' => ∃ ao c, e = .returned (.slice ao 1 c) ∧ Run w.heap.size w.heap.size w w' ⟨m, x, U, [⟨x, n⟩]⟩) := fun w1 r => r.blocks ok1
  have H6 : Hid (∀ w1, Run w.heap.size w.heap.size w w1 ⟨m, x, U, [⟨x, n⟩]⟩ → Calls Try.prog 12 #[.pointer (some ⟨w.heap.size, 0, none⟩), .int .u32 (L : Int), .int .u32 0] w1 fun e w' => e = .returned (.tuple #[.int .u32 0, .bool false]) ∧ Run w.heap.size w.heap.size w w' ⟨m, x, U, [⟨x, n⟩]⟩) := fun w1 r => r.refuse (n := L) (x := 0) ok1 (by omega) (by decide) hnofit
  have cL : decide (L > 0) = false := by simp; omega
  have cL2 : decide ((L : Int) > 0) = false := by simp; omega
  have cL3 : ¬ (0 : Int) < (L : Int) := by omega
  have cL4 : ¬ 0 < L := by omega
  clear hyes ok1 hmore hr hM hD hLL hL hup hU hge hnofit
  go_enter Try.func7, Try.ntmps7
  go_wp2_with (first | (go_at_call 11; refine HN.out.mono ?_; rintro e w1 ⟨rfl, r1⟩) | (go_at_call_of 12 (Value.int .u32 (x : Int)); refine (H1.out _ r1).mono ?_; rintro e w2 ⟨rfl, r2⟩) | (go_at_call 16; refine (H2.out _ r2).mono ?_; rintro e w3 ⟨rfl, rfl⟩) | (go_at_call 17; (with_reducible refine (H3.out _ r2).mono ?_); rintro e w3 ⟨rfl, rfl⟩) | (go_at_call 12; (with_reducible refine (H4.out _ r2).mono ?_); rintro e w4 ⟨rfl, r4⟩) | (go_at_call 17; (with_reducible refine (H3.out _ r4).mono ?_); rintro e w3 ⟨rfl, rfl⟩) | (go_at_call 15; refine (H5.out _ r4).mono ?_; rintro e w5 ⟨ao5, c5, rfl, r5⟩) | (go_at_call 12; (with_reducible refine (H6.out _ r5).mono ?_); rintro e w6 ⟨rfl, r6⟩)  | (go_at_call 10; refine (HL.out _ _ r6).mono ?_; rintro e w7 ⟨rfl, hb7⟩))
  go_ret
  exact ⟨rfl, hb7⟩
set_option maxHeartbeats 3000000 in
theorem full_yes1 (m x n : Nat) (w : World) (hm : m < 4294967296) (hx : x < 4294967296) (hn : n < 4294967296) (hyes : mallocR ⟨m, 0, 0, []⟩ n x = some (x, ⟨m, x, up (x + n), [⟨x, n⟩]⟩)) (hn0 : n ≠ 0) (hup : up (x + n) ≤ m) (hL : m - m % 256 - x - n ≠ 0) :
    Calls Try.prog 7 #[.int .u32 m, .int .u32 x, .int .u32 n] w fun e w' => e = .returned (.bool true) ∧ Below w.heap.size w w' := by
  have HN : Hid (Calls Try.prog 11 #[.int .u32 m] w fun e w' => e = .returned (.pointer (some ⟨w.heap.size, 0, none⟩)) ∧ Run w.heap.size w.heap.size w w' ⟨m, 0, 0, []⟩) := Run.new m w w w.heap.size (Below.refl _ _) (Nat.le_refl _)
  have HL : Hid (∀ w1 s, Run w.heap.size w.heap.size w w1 s → Calls Try.prog 10 #[] w1 fun e w' => e = .returned (.bool true) ∧ Below w.heap.size w w') := fun w1 s r => (live_any w1).mono (fun e w' hh => ⟨hh.1, by obtain ⟨v, _, hb, hB⟩ := r; exact hb.trans (hh.2.mono hB)⟩)
  obtain ⟨r, hr⟩ : ∃ r, r = m % 256 := ⟨_, rfl⟩
  obtain ⟨M, hM⟩ : ∃ M, M = m - m % 256 := ⟨_, rfl⟩
  have hmr : (m : Int).tmod 256 = (r : Int) := by rw [Int.tmod_eq_emod_of_nonneg (by omega)]; omega
  have hmM : (m : Int) - (r : Int) = (M : Int) := by omega
  have hM2 : M < 4294967296 := by omega
  have hr2 : r < 256 := by omega
  have hge := up_ge (x + n)
  have hxM : x + n ≤ M := by unfold up at hup; omega
  obtain ⟨D, hD⟩ : ∃ D, D = M - x := ⟨_, rfl⟩
  obtain ⟨L, hLL⟩ : ∃ L, L = m - m % 256 - x - n := ⟨_, rfl⟩
  have hMD : (M : Int) - (x : Int) = (D : Int) := by omega
  have hDL : (D : Int) - (n : Int) = (L : Int) := by omega
  have hL2 : L + 1 < 4294967296 := by omega
  have hD2 : D < 4294967296 := by omega
  have ok1 := ok_malloc_to (ok_new hm) hyes
  have hmore := full_more hup hn0
  rw [← hLL] at hmore
  obtain ⟨s2, hfit, hs2⟩ := full_fits hup hn0 hL
  rw [← hLL] at hfit
  rw [← hM] at hs2
  generalize hU : up (x + n) = U at *
  have hU2 : U < 4294967296 := by omega
  have H1 : Hid (∀ w1, Run w.heap.size w.heap.size w w1 ⟨m, 0, 0, []⟩ → Calls Try.prog 12 #[.pointer (some ⟨w.heap.size, 0, none⟩), .int .u32 n, .int .u32 x] w1 fun e w' => e = .returned (.tuple #[.int .u32 x, .bool true]) ∧ Run w.heap.size w.heap.size w w' ⟨m, x, U, [⟨x, n⟩]⟩) := fun w1 r => r.malloc (n := n) (x := x) (ok_new hm) hn hx hyes
  have H2 : Hid (∀ w1, Run w.heap.size w.heap.size w w1 ⟨m, x, U, [⟨x, n⟩]⟩ → Calls Try.prog 16 #[.pointer (some ⟨w.heap.size, 0, none⟩)] w1 fun e w' => e = .returned (.int .u32 x) ∧ w' = w1) := fun w1 r => r.start
  have H3 : Hid (∀ w1, Run w.heap.size w.heap.size w w1 ⟨m, x, U, [⟨x, n⟩]⟩ → Calls Try.prog 17 #[.pointer (some ⟨w.heap.size, 0, none⟩)] w1 fun e w' => e = .returned (.int .u32 U) ∧ w' = w1) := fun w1 r => r.end
  have H4 : Hid (∀ w1, Run w.heap.size w.heap.size w w1 ⟨m, x, U, [⟨x, n⟩]⟩ → Calls Try.prog 12 #[.pointer (some ⟨w.heap.size, 0, none⟩), .int .u32 ((L : Int) + 1), .int .u32 0] w1 fun e w' => e = .returned (.tuple #[.int .u32 0, .bool false]) ∧ Run w.heap.size w.heap.size w w' ⟨m, x, U, [⟨x, n⟩]⟩) := fun w1 r => r.refuse (n := L + 1) (x := 0) ok1 hL2 (by decide) hmore
  have H5 : Hid (∀ w1, Run w.heap.size w.heap.size w w1 ⟨m, x, U, [⟨x, n⟩]⟩ → Calls Try.prog 15 #[.pointer (some ⟨w.heap.size, 0, none⟩)] w1 fun e w' => ∃ ao c, e = .returned (.slice ao 1 c) ∧ Run w.heap.size w.heap.size w w' ⟨m, x, U, [⟨x, n⟩]⟩) := fun w1 r => r.blocks ok1
  have H6 : Hid (∀ w1, Run w.heap.size w.heap.size w w1 ⟨m, x, U, [⟨x, n⟩]⟩ → Calls Try.prog 12 #[.pointer (some ⟨w.heap.size, 0, none⟩), .int .u32 (L : Int), .int .u32 0] w1 fun e w' => e = .returned (.tuple #[.int .u32 ((x : Int) + (n : Int)), .bool true]) ∧ Run w.heap.size w.heap.size w w' s2) := fun w1 r => r.malloc (n := L) (x := 0) ok1 (by omega) (by decide) hfit
  have H7 : Hid (∀ w1, Run w.heap.size w.heap.size w w1 s2 → Calls Try.prog 17 #[.pointer (some ⟨w.heap.size, 0, none⟩)] w1 fun e w' => e = .returned (.int .u32 M) ∧ w' = w1) := fun w1 r => by have := r.end; rw [hs2] at this; exact this
  have cL : decide (L > 0) = true := by simp; omega
  have cL3 : (0 : Int) < (L : Int) := by omega
  have cL4 : 0 < L := by omega
  have cxn : (x : Int) + (n : Int) < 4294967296 := by omega
  clear hyes ok1 hmore hr hM hD hLL hL hup hU hge hfit hs2
  go_enter Try.func7, Try.ntmps7
  go_wp2_with (first | (go_at_call 11; refine HN.out.mono ?_; rintro e w1 ⟨rfl, r1⟩) | (go_at_call_of 12 (Value.int .u32 (x : Int)); refine (H1.out _ r1).mono ?_; rintro e w2 ⟨rfl, r2⟩) | (go_at_call 16; refine (H2.out _ r2).mono ?_; rintro e w3 ⟨rfl, rfl⟩) | (go_at_call 17; (with_reducible refine (H3.out _ r2).mono ?_); rintro e w3 ⟨rfl, rfl⟩) | (go_at_call 12; (with_reducible refine (H4.out _ r2).mono ?_); rintro e w4 ⟨rfl, r4⟩) | (go_at_call 17; (with_reducible refine (H3.out _ r4).mono ?_); rintro e w3 ⟨rfl, rfl⟩) | (go_at_call 15; refine (H5.out _ r4).mono ?_; rintro e w5 ⟨ao5, c5, rfl, r5⟩) | (go_at_call 12; (with_reducible refine (H6.out _ r5).mono ?_); rintro e w6 ⟨rfl, r6⟩) | (go_at_call 17; (with_reducible refine (H7.out _ r6).mono ?_); rintro e w3 ⟨rfl, rfl⟩) | (go_at_call 10; refine (HL.out _ _ r6).mono ?_; rintro e w7 ⟨rfl, hb7⟩))
  go_ret
  exact ⟨rfl, hb7⟩
theorem heapFull_walk (m x n : Int) (w : World) (hm : (Lit.int .u32 m).wf = true) (hx : (Lit.int .u32 x).wf = true) (hn : (Lit.int .u32 n).wf = true) :
    Calls Try.prog 7 #[.int .u32 m, .int .u32 x, .int .u32 n] w fun e w' => e = .returned (.bool true) ∧ Below w.heap.size w w' := by
  have b0 := bounds_u32 hm
  have b1 := bounds_u32 hx
  have b2 := bounds_u32 hn
  obtain ⟨m, rfl⟩ := Int.eq_ofNat_of_zero_le b0.1
  obtain ⟨x, rfl⟩ := Int.eq_ofNat_of_zero_le b1.1
  obtain ⟨n, rfl⟩ := Int.eq_ofNat_of_zero_le b2.1
  have c0 : m < 4294967296 := by omega
  have c1 : x < 4294967296 := by omega
  have c2 : n < 4294967296 := by omega
  cases hr : mallocR ⟨m, 0, 0, []⟩ n x with
  | none =>
    have h := full_none hr
    by_cases g0 : n = 0
    · exact full_no0 m x n w c0 c1 c2 hr g0
    · by_cases g1 : x = 0
      · exact full_no1 m x n w c0 c1 c2 hr g0 g1
      · by_cases g2 : x % 256 = 0
        · by_cases g3 : m < x
          · exact full_no3 m x n w c0 c1 c2 hr g0 g1 g2 g3
          · exact full_no4 m x n w c0 c1 c2 hr g0 g1 g2 (by omega) (by omega)
        · exact full_no2 m x n w c0 c1 c2 hr g0 g1 g2
  | some r =>
    obtain ⟨a, s⟩ := r
    obtain ⟨rfl, rfl, h1, h2, h3⟩ := full_some hr
    by_cases hL : m - m % 256 - a - n = 0
    · exact full_yes0 m a n w c0 c1 c2 hr h1 h3 hL
    · exact full_yes1 m a n w c0 c1 c2 hr h1 h3 hL
end Go.Proofs.Ytfkplfaikicidaa
