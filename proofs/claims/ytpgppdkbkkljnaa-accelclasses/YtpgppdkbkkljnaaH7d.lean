/- Contracts of package header's checkNumbers, leaf by leaf. -/
import Derived.Test.YtpgppdkbkkljnaaH7c
namespace Go.Proofs.Ytpgppdkbkkljnaa
open Go.RowKit
set_option maxHeartbeats 1000000
set_option maxRecDepth 100000
set_option linter.unusedVariables false

theorem cnum_0 (v ram ext en st start tab sm size : Int) (w : World) (z0 : 0 ≤ size) (z1 : size ≤ 1048576) (c0 : v < 131072) :
    Calls Try.prog 58 #[.agg #[.int .u32 v, .int .u32 ram, .int .u32 ext, .int .u32 en, .int .u32 st, .int .u32 start, .int .u32 tab, .int .u32 sm], .int .i64 size] w fun e w' => e = .returned (.tuple #[.int .i64 70, .int .i64 4]) ∧ Below w.heap.size w w' := by
  go_enter Try.func58, Try.ntmps58
  go_wp2
  go_ret2
  exact ⟨rfl, (Below.refl _ _).alloc (Nat.le_refl _) _⟩
theorem cnum_1 (v ram ext en st start tab sm size : Int) (w : World) (z0 : 0 ≤ size) (z1 : size ≤ 1048576) (c0 : 131072 ≤ v) (c1 : 197119 < v) :
    Calls Try.prog 58 #[.agg #[.int .u32 v, .int .u32 ram, .int .u32 ext, .int .u32 en, .int .u32 st, .int .u32 start, .int .u32 tab, .int .u32 sm], .int .i64 size] w fun e w' => e = .returned (.tuple #[.int .i64 70, .int .i64 4]) ∧ Below w.heap.size w w' := by
  go_enter Try.func58, Try.ntmps58
  go_wp2
  go_ret2
  exact ⟨rfl, (Below.refl _ _).alloc (Nat.le_refl _) _⟩
theorem cnum_2 (v ram ext en st start tab sm size : Int) (w : World) (z0 : 0 ≤ size) (z1 : size ≤ 1048576) (c0 : 131072 ≤ v) (c1 : v ≤ 197119) (c2 : ram < 256) :
    Calls Try.prog 58 #[.agg #[.int .u32 v, .int .u32 ram, .int .u32 ext, .int .u32 en, .int .u32 st, .int .u32 start, .int .u32 tab, .int .u32 sm], .int .i64 size] w fun e w' => e = .returned (.tuple #[.int .i64 71, .int .i64 8]) ∧ Below w.heap.size w w' := by
  go_enter Try.func58, Try.ntmps58
  go_wp2
  go_ret2
  exact ⟨rfl, (Below.refl _ _).alloc (Nat.le_refl _) _⟩
theorem cnum_3 (v ram ext en st start tab sm size : Int) (w : World) (z0 : 0 ≤ size) (z1 : size ≤ 1048576) (c0 : 131072 ≤ v) (c1 : v ≤ 197119) (c2 : 256 ≤ ram) (p3 : ¬ ram % 256 = 0) :
    Calls Try.prog 58 #[.agg #[.int .u32 v, .int .u32 ram, .int .u32 ext, .int .u32 en, .int .u32 st, .int .u32 start, .int .u32 tab, .int .u32 sm], .int .i64 size] w fun e w' => e = .returned (.tuple #[.int .i64 71, .int .i64 8]) ∧ Below w.heap.size w w' := by
  have Pram := hidden p3
  clear p3
  go_enter Try.func58, Try.ntmps58
  go_wp2_with (first | (go_at_call 74; (with_reducible refine (pages_no ram _ Pram.out).mono ?_); rintro e w9 ⟨rfl, hw⟩; obtain rfl := hw.symm))
  go_ret2
  exact ⟨rfl, (Below.refl _ _).alloc (Nat.le_refl _) _⟩
theorem cnum_4 (v ram ext en st start tab sm size : Int) (w : World) (z0 : 0 ≤ size) (z1 : size ≤ 1048576) (c0 : 131072 ≤ v) (c1 : v ≤ 197119) (c2 : 256 ≤ ram) (p3 : ram % 256 = 0) (c4 : ext < ram) :
    Calls Try.prog 58 #[.agg #[.int .u32 v, .int .u32 ram, .int .u32 ext, .int .u32 en, .int .u32 st, .int .u32 start, .int .u32 tab, .int .u32 sm], .int .i64 size] w fun e w' => e = .returned (.tuple #[.int .i64 71, .int .i64 12]) ∧ Below w.heap.size w w' := by
  have Pram := hidden p3
  clear p3
  go_enter Try.func58, Try.ntmps58
  go_wp2_with (first | (go_at_call 74; (with_reducible refine (pages_yes ram _ Pram.out).mono ?_); rintro e w9 ⟨rfl, hw⟩; obtain rfl := hw.symm))
  go_ret2
  exact ⟨rfl, (Below.refl _ _).alloc (Nat.le_refl _) _⟩
theorem cnum_5 (v ram ext en st start tab sm size : Int) (w : World) (z0 : 0 ≤ size) (z1 : size ≤ 1048576) (c0 : 131072 ≤ v) (c1 : v ≤ 197119) (c2 : 256 ≤ ram) (p3 : ram % 256 = 0) (c4 : ram ≤ ext) (c5 : ¬ ext = size) :
    Calls Try.prog 58 #[.agg #[.int .u32 v, .int .u32 ram, .int .u32 ext, .int .u32 en, .int .u32 st, .int .u32 start, .int .u32 tab, .int .u32 sm], .int .i64 size] w fun e w' => e = .returned (.tuple #[.int .i64 71, .int .i64 12]) ∧ Below w.heap.size w w' := by
  have Pram := hidden p3
  clear p3
  have d5 : (ext != size) = true := by simpa using c5
  go_enter Try.func58, Try.ntmps58
  go_wp2_with (first | (go_at_call 74; (with_reducible refine (pages_yes ram _ Pram.out).mono ?_); rintro e w9 ⟨rfl, hw⟩; obtain rfl := hw.symm))
  go_ret2
  exact ⟨rfl, (Below.refl _ _).alloc (Nat.le_refl _) _⟩
theorem cnum_6 (v ram ext en st start tab sm size : Int) (w : World) (z0 : 0 ≤ size) (z1 : size ≤ 1048576) (c0 : 131072 ≤ v) (c1 : v ≤ 197119) (c2 : 256 ≤ ram) (p3 : ram % 256 = 0) (c4 : ram ≤ ext) (c5 : ext = size) (p6 : ¬ ext % 256 = 0) :
    Calls Try.prog 58 #[.agg #[.int .u32 v, .int .u32 ram, .int .u32 ext, .int .u32 en, .int .u32 st, .int .u32 start, .int .u32 tab, .int .u32 sm], .int .i64 size] w fun e w' => e = .returned (.tuple #[.int .i64 71, .int .i64 12]) ∧ Below w.heap.size w w' := by
  have Pram := hidden p3
  clear p3
  subst c5
  have Pext := hidden p6
  clear p6
  go_enter Try.func58, Try.ntmps58
  go_wp2_with (first | (go_at_call 74; (with_reducible refine (pages_yes ram _ Pram.out).mono ?_); rintro e w9 ⟨rfl, hw⟩; obtain rfl := hw.symm) | (go_at_call 74; (with_reducible refine (pages_no ext _ Pext.out).mono ?_); rintro e w9 ⟨rfl, hw⟩; obtain rfl := hw.symm))
  go_ret2
  exact ⟨rfl, (Below.refl _ _).alloc (Nat.le_refl _) _⟩
theorem cnum_7 (v ram ext en st start tab sm size : Int) (w : World) (z0 : 0 ≤ size) (z1 : size ≤ 1048576) (c0 : 131072 ≤ v) (c1 : v ≤ 197119) (c2 : 256 ≤ ram) (p3 : ram % 256 = 0) (c4 : ram ≤ ext) (c5 : ext = size) (p6 : ext % 256 = 0) (c7 : en < ext) :
    Calls Try.prog 58 #[.agg #[.int .u32 v, .int .u32 ram, .int .u32 ext, .int .u32 en, .int .u32 st, .int .u32 start, .int .u32 tab, .int .u32 sm], .int .i64 size] w fun e w' => e = .returned (.tuple #[.int .i64 71, .int .i64 16]) ∧ Below w.heap.size w w' := by
  have Pram := hidden p3
  clear p3
  subst c5
  have Pext := hidden p6
  clear p6
  go_enter Try.func58, Try.ntmps58
  go_wp2_with (first | (go_at_call 74; (with_reducible refine (pages_yes ram _ Pram.out).mono ?_); rintro e w9 ⟨rfl, hw⟩; obtain rfl := hw.symm) | (go_at_call 74; (with_reducible refine (pages_yes ext _ Pext.out).mono ?_); rintro e w9 ⟨rfl, hw⟩; obtain rfl := hw.symm))
  go_ret2
  exact ⟨rfl, (Below.refl _ _).alloc (Nat.le_refl _) _⟩
theorem cnum_8 (v ram ext en st start tab sm size : Int) (w : World) (z0 : 0 ≤ size) (z1 : size ≤ 1048576) (c0 : 131072 ≤ v) (c1 : v ≤ 197119) (c2 : 256 ≤ ram) (p3 : ram % 256 = 0) (c4 : ram ≤ ext) (c5 : ext = size) (p6 : ext % 256 = 0) (c7 : ext ≤ en) (c8 : 1048576 < en) :
    Calls Try.prog 58 #[.agg #[.int .u32 v, .int .u32 ram, .int .u32 ext, .int .u32 en, .int .u32 st, .int .u32 start, .int .u32 tab, .int .u32 sm], .int .i64 size] w fun e w' => e = .returned (.tuple #[.int .i64 71, .int .i64 16]) ∧ Below w.heap.size w w' := by
  have Pram := hidden p3
  clear p3
  subst c5
  have Pext := hidden p6
  clear p6
  go_enter Try.func58, Try.ntmps58
  go_wp2_with (first | (go_at_call 74; (with_reducible refine (pages_yes ram _ Pram.out).mono ?_); rintro e w9 ⟨rfl, hw⟩; obtain rfl := hw.symm) | (go_at_call 74; (with_reducible refine (pages_yes ext _ Pext.out).mono ?_); rintro e w9 ⟨rfl, hw⟩; obtain rfl := hw.symm))
  go_ret2
  exact ⟨rfl, (Below.refl _ _).alloc (Nat.le_refl _) _⟩
theorem cnum_9 (v ram ext en st start tab sm size : Int) (w : World) (z0 : 0 ≤ size) (z1 : size ≤ 1048576) (c0 : 131072 ≤ v) (c1 : v ≤ 197119) (c2 : 256 ≤ ram) (p3 : ram % 256 = 0) (c4 : ram ≤ ext) (c5 : ext = size) (p6 : ext % 256 = 0) (c7 : ext ≤ en) (c8 : en ≤ 1048576) (p9 : ¬ en % 256 = 0) :
    Calls Try.prog 58 #[.agg #[.int .u32 v, .int .u32 ram, .int .u32 ext, .int .u32 en, .int .u32 st, .int .u32 start, .int .u32 tab, .int .u32 sm], .int .i64 size] w fun e w' => e = .returned (.tuple #[.int .i64 71, .int .i64 16]) ∧ Below w.heap.size w w' := by
  have Pram := hidden p3
  clear p3
  subst c5
  have Pext := hidden p6
  clear p6
  have Pen := hidden p9
  clear p9
  go_enter Try.func58, Try.ntmps58
  go_wp2_with (first | (go_at_call 74; (with_reducible refine (pages_yes ram _ Pram.out).mono ?_); rintro e w9 ⟨rfl, hw⟩; obtain rfl := hw.symm) | (go_at_call 74; (with_reducible refine (pages_yes ext _ Pext.out).mono ?_); rintro e w9 ⟨rfl, hw⟩; obtain rfl := hw.symm) | (go_at_call 74; (with_reducible refine (pages_no en _ Pen.out).mono ?_); rintro e w9 ⟨rfl, hw⟩; obtain rfl := hw.symm))
  go_ret2
  exact ⟨rfl, (Below.refl _ _).alloc (Nat.le_refl _) _⟩
theorem cnum_10 (v ram ext en st start tab sm size : Int) (w : World) (z0 : 0 ≤ size) (z1 : size ≤ 1048576) (c0 : 131072 ≤ v) (c1 : v ≤ 197119) (c2 : 256 ≤ ram) (p3 : ram % 256 = 0) (c4 : ram ≤ ext) (c5 : ext = size) (p6 : ext % 256 = 0) (c7 : ext ≤ en) (c8 : en ≤ 1048576) (p9 : en % 256 = 0) (c10 : st = 0) :
    Calls Try.prog 58 #[.agg #[.int .u32 v, .int .u32 ram, .int .u32 ext, .int .u32 en, .int .u32 st, .int .u32 start, .int .u32 tab, .int .u32 sm], .int .i64 size] w fun e w' => e = .returned (.tuple #[.int .i64 72, .int .i64 20]) ∧ Below w.heap.size w w' := by
  have Pram := hidden p3
  clear p3
  subst c5
  have Pext := hidden p6
  clear p6
  have Pen := hidden p9
  clear p9
  subst c10
  go_enter Try.func58, Try.ntmps58
  go_wp2_with (first | (go_at_call 74; (with_reducible refine (pages_yes ram _ Pram.out).mono ?_); rintro e w9 ⟨rfl, hw⟩; obtain rfl := hw.symm) | (go_at_call 74; (with_reducible refine (pages_yes ext _ Pext.out).mono ?_); rintro e w9 ⟨rfl, hw⟩; obtain rfl := hw.symm) | (go_at_call 74; (with_reducible refine (pages_yes en _ Pen.out).mono ?_); rintro e w9 ⟨rfl, hw⟩; obtain rfl := hw.symm))
  go_ret2
  exact ⟨rfl, (Below.refl _ _).alloc (Nat.le_refl _) _⟩
theorem cnum_11 (v ram ext en st start tab sm size : Int) (w : World) (z0 : 0 ≤ size) (z1 : size ≤ 1048576) (c0 : 131072 ≤ v) (c1 : v ≤ 197119) (c2 : 256 ≤ ram) (p3 : ram % 256 = 0) (c4 : ram ≤ ext) (c5 : ext = size) (p6 : ext % 256 = 0) (c7 : ext ≤ en) (c8 : en ≤ 1048576) (p9 : en % 256 = 0) (c10 : ¬ st = 0) (c11 : 65536 < st) :
    Calls Try.prog 58 #[.agg #[.int .u32 v, .int .u32 ram, .int .u32 ext, .int .u32 en, .int .u32 st, .int .u32 start, .int .u32 tab, .int .u32 sm], .int .i64 size] w fun e w' => e = .returned (.tuple #[.int .i64 72, .int .i64 20]) ∧ Below w.heap.size w w' := by
  have Pram := hidden p3
  clear p3
  subst c5
  have Pext := hidden p6
  clear p6
  have Pen := hidden p9
  clear p9
  have d10 : (st == 0) = false := by simpa using c10
  go_enter Try.func58, Try.ntmps58
  go_wp2_with (first | (go_at_call 74; (with_reducible refine (pages_yes ram _ Pram.out).mono ?_); rintro e w9 ⟨rfl, hw⟩; obtain rfl := hw.symm) | (go_at_call 74; (with_reducible refine (pages_yes ext _ Pext.out).mono ?_); rintro e w9 ⟨rfl, hw⟩; obtain rfl := hw.symm) | (go_at_call 74; (with_reducible refine (pages_yes en _ Pen.out).mono ?_); rintro e w9 ⟨rfl, hw⟩; obtain rfl := hw.symm))
  go_ret2
  exact ⟨rfl, (Below.refl _ _).alloc (Nat.le_refl _) _⟩
theorem cnum_12 (v ram ext en st start tab sm size : Int) (w : World) (z0 : 0 ≤ size) (z1 : size ≤ 1048576) (c0 : 131072 ≤ v) (c1 : v ≤ 197119) (c2 : 256 ≤ ram) (p3 : ram % 256 = 0) (c4 : ram ≤ ext) (c5 : ext = size) (p6 : ext % 256 = 0) (c7 : ext ≤ en) (c8 : en ≤ 1048576) (p9 : en % 256 = 0) (c10 : ¬ st = 0) (c11 : st ≤ 65536) (p12 : ¬ st % 256 = 0) :
    Calls Try.prog 58 #[.agg #[.int .u32 v, .int .u32 ram, .int .u32 ext, .int .u32 en, .int .u32 st, .int .u32 start, .int .u32 tab, .int .u32 sm], .int .i64 size] w fun e w' => e = .returned (.tuple #[.int .i64 72, .int .i64 20]) ∧ Below w.heap.size w w' := by
  have Pram := hidden p3
  clear p3
  subst c5
  have Pext := hidden p6
  clear p6
  have Pen := hidden p9
  clear p9
  have d10 : (st == 0) = false := by simpa using c10
  have Pst := hidden p12
  clear p12
  go_enter Try.func58, Try.ntmps58
  go_wp2_with (first | (go_at_call 74; (with_reducible refine (pages_yes ram _ Pram.out).mono ?_); rintro e w9 ⟨rfl, hw⟩; obtain rfl := hw.symm) | (go_at_call 74; (with_reducible refine (pages_yes ext _ Pext.out).mono ?_); rintro e w9 ⟨rfl, hw⟩; obtain rfl := hw.symm) | (go_at_call 74; (with_reducible refine (pages_yes en _ Pen.out).mono ?_); rintro e w9 ⟨rfl, hw⟩; obtain rfl := hw.symm) | (go_at_call 74; (with_reducible refine (pages_no st _ Pst.out).mono ?_); rintro e w9 ⟨rfl, hw⟩; obtain rfl := hw.symm))
  go_ret2
  exact ⟨rfl, (Below.refl _ _).alloc (Nat.le_refl _) _⟩
theorem cnum_13 (v ram ext en st start tab sm size : Int) (w : World) (z0 : 0 ≤ size) (z1 : size ≤ 1048576) (c0 : 131072 ≤ v) (c1 : v ≤ 197119) (c2 : 256 ≤ ram) (p3 : ram % 256 = 0) (c4 : ram ≤ ext) (c5 : ext = size) (p6 : ext % 256 = 0) (c7 : ext ≤ en) (c8 : en ≤ 1048576) (p9 : en % 256 = 0) (c10 : ¬ st = 0) (c11 : st ≤ 65536) (p12 : st % 256 = 0) (c13 : start < 36) :
    Calls Try.prog 58 #[.agg #[.int .u32 v, .int .u32 ram, .int .u32 ext, .int .u32 en, .int .u32 st, .int .u32 start, .int .u32 tab, .int .u32 sm], .int .i64 size] w fun e w' => e = .returned (.tuple #[.int .i64 71, .int .i64 24]) ∧ Below w.heap.size w w' := by
  have Pram := hidden p3
  clear p3
  subst c5
  have Pext := hidden p6
  clear p6
  have Pen := hidden p9
  clear p9
  have d10 : (st == 0) = false := by simpa using c10
  have Pst := hidden p12
  clear p12
  go_enter Try.func58, Try.ntmps58
  go_wp2_with (first | (go_at_call 74; (with_reducible refine (pages_yes ram _ Pram.out).mono ?_); rintro e w9 ⟨rfl, hw⟩; obtain rfl := hw.symm) | (go_at_call 74; (with_reducible refine (pages_yes ext _ Pext.out).mono ?_); rintro e w9 ⟨rfl, hw⟩; obtain rfl := hw.symm) | (go_at_call 74; (with_reducible refine (pages_yes en _ Pen.out).mono ?_); rintro e w9 ⟨rfl, hw⟩; obtain rfl := hw.symm) | (go_at_call 74; (with_reducible refine (pages_yes st _ Pst.out).mono ?_); rintro e w9 ⟨rfl, hw⟩; obtain rfl := hw.symm))
  go_ret2
  exact ⟨rfl, (Below.refl _ _).alloc (Nat.le_refl _) _⟩
theorem cnum_14 (v ram ext en st start tab sm size : Int) (w : World) (z0 : 0 ≤ size) (z1 : size ≤ 1048576) (c0 : 131072 ≤ v) (c1 : v ≤ 197119) (c2 : 256 ≤ ram) (p3 : ram % 256 = 0) (c4 : ram ≤ ext) (c5 : ext = size) (p6 : ext % 256 = 0) (c7 : ext ≤ en) (c8 : en ≤ 1048576) (p9 : en % 256 = 0) (c10 : ¬ st = 0) (c11 : st ≤ 65536) (p12 : st % 256 = 0) (c13 : 36 ≤ start) (c14 : en ≤ start) :
    Calls Try.prog 58 #[.agg #[.int .u32 v, .int .u32 ram, .int .u32 ext, .int .u32 en, .int .u32 st, .int .u32 start, .int .u32 tab, .int .u32 sm], .int .i64 size] w fun e w' => e = .returned (.tuple #[.int .i64 71, .int .i64 24]) ∧ Below w.heap.size w w' := by
  have Pram := hidden p3
  clear p3
  subst c5
  have Pext := hidden p6
  clear p6
  have Pen := hidden p9
  clear p9
  have d10 : (st == 0) = false := by simpa using c10
  have Pst := hidden p12
  clear p12
  go_enter Try.func58, Try.ntmps58
  go_wp2_with (first | (go_at_call 74; (with_reducible refine (pages_yes ram _ Pram.out).mono ?_); rintro e w9 ⟨rfl, hw⟩; obtain rfl := hw.symm) | (go_at_call 74; (with_reducible refine (pages_yes ext _ Pext.out).mono ?_); rintro e w9 ⟨rfl, hw⟩; obtain rfl := hw.symm) | (go_at_call 74; (with_reducible refine (pages_yes en _ Pen.out).mono ?_); rintro e w9 ⟨rfl, hw⟩; obtain rfl := hw.symm) | (go_at_call 74; (with_reducible refine (pages_yes st _ Pst.out).mono ?_); rintro e w9 ⟨rfl, hw⟩; obtain rfl := hw.symm))
  go_ret2
  exact ⟨rfl, (Below.refl _ _).alloc (Nat.le_refl _) _⟩
theorem cnum_15 (v ram ext en st start tab sm size : Int) (w : World) (z0 : 0 ≤ size) (z1 : size ≤ 1048576) (c0 : 131072 ≤ v) (c1 : v ≤ 197119) (c2 : 256 ≤ ram) (p3 : ram % 256 = 0) (c4 : ram ≤ ext) (c5 : ext = size) (p6 : ext % 256 = 0) (c7 : ext ≤ en) (c8 : en ≤ 1048576) (p9 : en % 256 = 0) (c10 : ¬ st = 0) (c11 : st ≤ 65536) (p12 : st % 256 = 0) (c13 : 36 ≤ start) (c14 : start < en) (c15 : en ≤ tab) :
    Calls Try.prog 58 #[.agg #[.int .u32 v, .int .u32 ram, .int .u32 ext, .int .u32 en, .int .u32 st, .int .u32 start, .int .u32 tab, .int .u32 sm], .int .i64 size] w fun e w' => e = .returned (.tuple #[.int .i64 71, .int .i64 28]) ∧ Below w.heap.size w w' := by
  have Pram := hidden p3
  clear p3
  subst c5
  have Pext := hidden p6
  clear p6
  have Pen := hidden p9
  clear p9
  have d10 : (st == 0) = false := by simpa using c10
  have Pst := hidden p12
  clear p12
  go_enter Try.func58, Try.ntmps58
  go_wp2_with (first | (go_at_call 74; (with_reducible refine (pages_yes ram _ Pram.out).mono ?_); rintro e w9 ⟨rfl, hw⟩; obtain rfl := hw.symm) | (go_at_call 74; (with_reducible refine (pages_yes ext _ Pext.out).mono ?_); rintro e w9 ⟨rfl, hw⟩; obtain rfl := hw.symm) | (go_at_call 74; (with_reducible refine (pages_yes en _ Pen.out).mono ?_); rintro e w9 ⟨rfl, hw⟩; obtain rfl := hw.symm) | (go_at_call 74; (with_reducible refine (pages_yes st _ Pst.out).mono ?_); rintro e w9 ⟨rfl, hw⟩; obtain rfl := hw.symm))
  go_ret2
  exact ⟨rfl, (Below.refl _ _).alloc (Nat.le_refl _) _⟩
theorem cnum_16 (v ram ext en st start tab sm size : Int) (w : World) (z0 : 0 ≤ size) (z1 : size ≤ 1048576) (c0 : 131072 ≤ v) (c1 : v ≤ 197119) (c2 : 256 ≤ ram) (p3 : ram % 256 = 0) (c4 : ram ≤ ext) (c5 : ext = size) (p6 : ext % 256 = 0) (c7 : ext ≤ en) (c8 : en ≤ 1048576) (p9 : en % 256 = 0) (c10 : ¬ st = 0) (c11 : st ≤ 65536) (p12 : st % 256 = 0) (c13 : 36 ≤ start) (c14 : start < en) (c15 : tab < en) :
    Calls Try.prog 58 #[.agg #[.int .u32 v, .int .u32 ram, .int .u32 ext, .int .u32 en, .int .u32 st, .int .u32 start, .int .u32 tab, .int .u32 sm], .int .i64 size] w fun e w' => e = .returned (.tuple #[.int .i64 0, .int .i64 0]) ∧ Below w.heap.size w w' := by
  have Pram := hidden p3
  clear p3
  subst c5
  have Pext := hidden p6
  clear p6
  have Pen := hidden p9
  clear p9
  have d10 : (st == 0) = false := by simpa using c10
  have Pst := hidden p12
  clear p12
  go_enter Try.func58, Try.ntmps58
  go_wp2_with (first | (go_at_call 74; (with_reducible refine (pages_yes ram _ Pram.out).mono ?_); rintro e w9 ⟨rfl, hw⟩; obtain rfl := hw.symm) | (go_at_call 74; (with_reducible refine (pages_yes ext _ Pext.out).mono ?_); rintro e w9 ⟨rfl, hw⟩; obtain rfl := hw.symm) | (go_at_call 74; (with_reducible refine (pages_yes en _ Pen.out).mono ?_); rintro e w9 ⟨rfl, hw⟩; obtain rfl := hw.symm) | (go_at_call 74; (with_reducible refine (pages_yes st _ Pst.out).mono ?_); rintro e w9 ⟨rfl, hw⟩; obtain rfl := hw.symm))
  go_ret2
  exact ⟨rfl, (Below.refl _ _).alloc (Nat.le_refl _) _⟩
end Go.Proofs.Ytpgppdkbkkljnaa
