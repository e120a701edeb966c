/- Contracts of package heap's Load; of all of its functions on a nil heap. -/
import Derived.Test.YtmebjbnglndfcaaE8j
namespace Go.Proofs.Ytmebjbnglndfcaa
open Go.RowKit
set_option maxHeartbeats 1000000
set_option maxRecDepth 100000
set_option linter.unusedVariables false

theorem mallocN_any (n x : Nat) (w : World) : Calls Try.prog 47 #[.pointer none, .int .u32 n, .int .u32 x] w fun e w' => e = .returned (.tuple #[.int .u32 0, .bool false]) ∧ w' = w := by
  go_enter Try.func47, Try.ntmps47
  go_wp2
  go_ret2
  exact ⟨rfl, rfl⟩
theorem freeN_any (x : Nat) (w : World) : Calls Try.prog 49 #[.pointer none, .int .u32 x] w fun e w' => e = .returned (.int .i64 8) ∧ Below w.heap.size w w' := by
  go_enter Try.func49, Try.ntmps49
  go_wp2
  go_ret
  exact ⟨rfl, (Below.refl _ _).alloc (Nat.le_refl _) _⟩
theorem loadN_any (x y : Nat) (u : Value) (w : World) : Calls Try.prog 71 #[.pointer none, .int .u32 x, .int .u32 y, u] w fun e w' => e = .returned (.int .i64 8) ∧ w' = w := by
  go_enter Try.func71, Try.ntmps71
  go_wp2
  go_ret
  exact ⟨rfl, rfl⟩
theorem activeN_any (w : World) : Calls Try.prog 43 #[.pointer none] w fun e w' => e = .returned (.bool false) ∧ w' = w := by
  go_enter Try.func43, Try.ntmps43
  go_wp2
  go_ret
  exact ⟨rfl, rfl⟩
theorem startN_any (w : World) : Calls Try.prog 41 #[.pointer none] w fun e w' => e = .returned (.int .u32 0) ∧ w' = w := by
  go_enter Try.func41, Try.ntmps41
  go_wp2
  go_ret
  exact ⟨rfl, rfl⟩
theorem endN_any (w : World) : Calls Try.prog 48 #[.pointer none] w fun e w' => e = .returned (.int .u32 0) ∧ w' = w := by
  go_enter Try.func48, Try.ntmps48
  go_wp2
  go_ret
  exact ⟨rfl, rfl⟩
theorem blocksN_any (w : World) : Calls Try.prog 42 #[.pointer none] w fun e w' => e = .returned (.slice none 0 0) ∧ w' = w := by
  go_enter Try.func42, Try.ntmps42
  go_wp2
  go_ret
  exact ⟨rfl, rfl⟩
/-- do the blocks rise from f on, apart, and end at y at most? -/
def chainB (y : Nat) : Nat → List Bk → Bool
  | f, [] => decide (f ≤ y)
  | f, b :: bs => decide (0 < b.l) && decide (f ≤ b.a) && chainB y (b.a + b.l) bs
theorem chainB_iff (y : Nat) : ∀ (f : Nat) (bs : List Bk), chainB y f bs = true ↔ Chain y f bs
  | f, [] => by simp [chainB, Chain]
  | f, b :: bs => by simp [chainB, Chain, chainB_iff y _ bs, and_assoc]
theorem chainB_le {y f : Nat} {bs : List Bk} (h : y < f) : chainB y f bs = false := by
  cases hc : chainB y f bs with
  | false => rfl
  | true => have := ((chainB_iff y f bs).1 hc).le; omega
/-- can a heap have these bounds and blocks? -/
def mayR (m x y : Nat) (bs : List Bk) : Bool :=
  if bs.length = 0 then decide (x = 0) && decide (y = 0)
  else decide (x ≠ 0) && decide (x % 256 = 0) && decide (y % 256 = 0) && decide (y ≤ m) && chainB y x bs
/-- all numbers of the blocks are words -/
def FitB (bs : List Bk) : Prop := ∀ b ∈ bs, b.a < 4294967296 ∧ b.l < 4294967296
theorem may_nil (h : Nat) (x y : Nat) (ao : Option Addr) (c : Nat) (w : World) :
    Calls Try.prog 80 #[.pointer (some ⟨h, 0, none⟩), .int .u32 x, .int .u32 y, .slice ao 0 c] w fun e w' => e = .returned (.bool (decide (x = 0) && decide (y = 0))) ∧ w' = w := by
  by_cases h1 : x = 0
  · have c1 : (x : Int) = 0 := by omega
    have hd : ((y : Int) == 0) = decide (y = 0) := by
      by_cases h : y = 0
      · simp [h]
      · rw [show decide (y = 0) = false by simp [h], beq_eq_false_iff_ne]; omega
    rw [show (decide (x = 0) && decide (y = 0)) = decide (y = 0) by simp [h1]]
    clear h1
    go_enter Try.func80, Try.ntmps80
    go_wp2
    go_ret
    first | exact ⟨rfl, rfl⟩ | (refine ⟨?_, rfl⟩; simp_all)
  · have c1 : ¬ (x : Int) = 0 := by omega
    rw [show (decide (x = 0) && decide (y = 0)) = false by simp [h1]]
    clear h1
    go_enter Try.func80, Try.ntmps80
    go_wp2
    go_ret
    first | exact ⟨rfl, rfl⟩ | (refine ⟨?_, rfl⟩; simp_all)
theorem may_head (B h : Nat) (v : Value) (s : Hs) (x y : Nat) (ao : Option Addr) (n c : Nat) (w : World) (hp : HpAt B w h v s) (hn : 0 < n) (hx : x < 4294967296) (hy : y < 4294967296) (hno : ¬ (x ≠ 0 ∧ x % 256 = 0 ∧ y % 256 = 0 ∧ y ≤ s.most)) :
    Calls Try.prog 80 #[.pointer (some ⟨h, 0, none⟩), .int .u32 x, .int .u32 y, .slice ao n c] w fun e w' => e = .returned (.bool false) ∧ w' = w := by
  have h3 := hp.cells.1
  clear hp
  generalize s.most = m at *
  have c0 : ¬ (n : Int) = 0 := by omega
  have HX := hidden8 (whole_any x w hx)
  have HY := hidden8 (whole_any y w hy)
  by_cases h1 : x = 0
  · have c1 : (x : Int) = 0 := by omega
    clear h1 hno HX HY
    go_enter Try.func80, Try.ntmps80
    go_wp2
    go_ret
    exact ⟨rfl, rfl⟩
  · have c1 : ¬ (x : Int) = 0 := by omega
    by_cases h2 : x % 256 = 0
    · rw [show decide (x % 256 = 0) = true by simp [h2]] at HX
      by_cases h4 : y % 256 = 0
      · rw [show decide (y % 256 = 0) = true by simp [h4]] at HY
        have c5 : (m : Int) < (y : Int) := by omega
        clear h1 h2 h4 hno
        go_enter Try.func80, Try.ntmps80
        go_wp2_with (first | (go_at_call_of 76 (Value.int .u32 (x : Int)); refine HX.out.mono ?_; rintro e w1 ⟨rfl, rfl⟩) | (go_at_call_of 76 (Value.int .u32 (y : Int)); refine HY.out.mono ?_; rintro e w1 ⟨rfl, rfl⟩))
        go_ret
        exact ⟨rfl, rfl⟩
      · rw [show decide (y % 256 = 0) = false by simp [h4]] at HY
        clear h1 h2 h4 hno
        go_enter Try.func80, Try.ntmps80
        go_wp2_with (first | (go_at_call_of 76 (Value.int .u32 (x : Int)); refine HX.out.mono ?_; rintro e w1 ⟨rfl, rfl⟩) | (go_at_call_of 76 (Value.int .u32 (y : Int)); refine HY.out.mono ?_; rintro e w1 ⟨rfl, rfl⟩))
        go_ret
        exact ⟨rfl, rfl⟩
    · rw [show decide (x % 256 = 0) = false by simp [h2]] at HX
      clear h1 h2 hno HY
      go_enter Try.func80, Try.ntmps80
      go_wp2_with (go_at_call 76; refine HX.out.mono ?_; rintro e w1 ⟨rfl, rfl⟩)
      go_ret
      exact ⟨rfl, rfl⟩
end Go.Proofs.Ytmebjbnglndfcaa
