/- Package soft's Ceil, Floor, Cmp and Sub. -/
import Derived.Test.YtnjgknklcfdjlaaP3m
import Derived.Test.YtnjgknklcfdjlaaX3m
namespace Go.Proofs.Ytnjgknklcfdjlaa
open Go.RowKit
set_option maxRecDepth 100000
set_option maxHeartbeats 400000
set_option linter.unusedVariables false

theorem pceil (m x a R g : Int) (w : World)
    (HW : Hid (∀ w, Calls Try.prog 36 #[.agg #[.int .i64 m, .int .i64 x], .int .u64 a, .bool false] w fun r w' => r = .returned (.tuple #[.int .u64 R, .int .i64 g]) ∧ Below w.heap.size w w')) :
    Calls Try.prog 20 #[.agg #[.int .i64 m, .int .i64 x], .int .u64 a] w fun r w' => r = .returned (.tuple #[.int .u64 R, .int .i64 g]) ∧ Below w.heap.size w w' := by
  go_enter Try.func20, Try.ntmps20
  go_wp2_with (go_at_call 36; refine (HW.out _).mono ?_; rintro r w1 ⟨rfl, hb⟩)
  go_ret2
  exact ⟨rfl, box_below _ hb⟩
theorem pfloor (m x a R g : Int) (w : World)
    (HW : Hid (∀ w, Calls Try.prog 36 #[.agg #[.int .i64 m, .int .i64 x], .int .u64 a, .bool true] w fun r w' => r = .returned (.tuple #[.int .u64 R, .int .i64 g]) ∧ Below w.heap.size w w')) :
    Calls Try.prog 19 #[.agg #[.int .i64 m, .int .i64 x], .int .u64 a] w fun r w' => r = .returned (.tuple #[.int .u64 R, .int .i64 g]) ∧ Below w.heap.size w w' := by
  go_enter Try.func19, Try.ntmps19
  go_wp2_with (go_at_call 36; refine (HW.out _).mono ?_; rintro r w1 ⟨rfl, hb⟩)
  go_ret2
  exact ⟨rfl, box_below _ hb⟩
/-- a pattern's rank -/
def rankI (k : Nat) (a : Int) : Int := if p2 k ≤ a then -(a % p2 k) else a % p2 k
def cmpZ (a b : Int) : Int := if a < b then -1 else if b < a then 1 else 0
theorem psub_walk (m x a b P TB R g : Int) (w : World) (hx : bits .xor .u64 b P = TB)
    (HS : Hid (∀ w, Calls Try.prog 31 #[.agg #[.int .i64 m, .int .i64 x]] w fun r w' => r = .returned (.int .u64 P) ∧ Below w.heap.size w w'))
    (HA : Hid (∀ w, Calls Try.prog 8 #[.agg #[.int .i64 m, .int .i64 x], .int .u64 a, .int .u64 TB] w fun r w' => r = .returned (.tuple #[.int .u64 R, .int .i64 g]) ∧ Below w.heap.size w w')) :
    Calls Try.prog 9 #[.agg #[.int .i64 m, .int .i64 x], .int .u64 a, .int .u64 b] w fun r w' => r = .returned (.tuple #[.int .u64 R, .int .i64 g]) ∧ Below w.heap.size w w' := by
  have c0 : (w.alloc (.cells #[.int .i64 m, .int .i64 x] 23)).cell? ⟨w.heap.size, 0, none⟩ = some (.int .i64 m) := by simp
  have c1 : (w.alloc (.cells #[.int .i64 m, .int .i64 x] 23)).cell? ⟨w.heap.size, 1, none⟩ = some (.int .i64 x) := by simp
  have HB := hidden ((Below.refl w.heap.size w).alloc (Nat.le_refl _) (.cells #[.int .i64 m, .int .i64 x] 23))
  go_enter Try.func9, Try.ntmps9
  go_upto_region 1 with fail
  generalize w.alloc (.cells #[.int .i64 m, .int .i64 x] 23) = w5 at *
  go_region_held3 (fun w' => w'.cell? ⟨w.heap.size, 0, none⟩ = some (.int .i64 m) ∧ w'.cell? ⟨w.heap.size, 1, none⟩ = some (.int .i64 x)) (go_keep) (first | (go_at_call 31; refine (HS.out _).mono ?_; rintro r w9 ⟨rfl, hb⟩; have c0 : w9.cell? ⟨w.heap.size, 0, none⟩ = some (.int .i64 m) := cellLater hb (by go_keep); have c1 : w9.cell? ⟨w.heap.size, 1, none⟩ = some (.int .i64 x) := cellLater hb (by go_keep); have HB : Hid (Below w.heap.size w w9) := hidden (by first | exact HB.out.trans (hb.mono HB.out.size) | exact HB.out.drew.trans (hb.mono HB.out.drew.size)); clear hb) | (go_at_call 8; refine (HA.out _).mono ?_; rintro r w9 ⟨rfl, hb⟩; have c0 : w9.cell? ⟨w.heap.size, 0, none⟩ = some (.int .i64 m) := cellLater hb (by go_keep); have c1 : w9.cell? ⟨w.heap.size, 1, none⟩ = some (.int .i64 x) := cellLater hb (by go_keep); have HB : Hid (Below w.heap.size w w9) := hidden (by first | exact HB.out.trans (hb.mono HB.out.size) | exact HB.out.drew.trans (hb.mono HB.out.drew.size)); clear hb))
  all_goals
    go_wp2
    go_ret2
    exact ⟨rfl, by first | exact HB.out | exact HB.out.drew⟩
end Go.Proofs.Ytnjgknklcfdjlaa
