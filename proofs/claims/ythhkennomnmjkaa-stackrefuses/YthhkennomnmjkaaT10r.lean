/- The document's stack: its Push, Stub and Peek. -/
import Derived.Test.YthhkennomnmjkaaT10k
namespace Go.Proofs.Ythhkennomnmjkaa
open Go.RowKit
set_option maxHeartbeats 1000000
set_option maxRecDepth 100000
set_option linter.unusedVariables false

theorem lack0 {s : Ks} (h : s.on = true) : lackE s 0 = 0 := by
  unfold lackE
  rw [h]
  simp
theorem dPush_off (B m x : Nat) (v : Value) (s : Ks) (w : World) (h : DAt B w m v s) (hon : s.on = false) :
    Calls Try.prog 25 #[.pointer (some ⟨m, 0, none⟩), .int .u32 x] w fun e w' => e = .returned (.int .i64 102) ∧ w' = w := by
  obtain ⟨a, c, rfl, dc⟩ := h.dc
  have c3 := dc.c3
  rw [hon] at c3
  clear h dc
  go_enter Try.func25, Try.ntmps25
  go_wp2
  go_ret
  exact ⟨rfl, rfl⟩
theorem dPush_over (B m x : Nat) (v : Value) (s : Ks) (w : World) (h : DAt B w m v s) (ok : OkK s) (hon : s.on = true) (hr : s.size < s.bs.length + 4) :
    Calls Try.prog 25 #[.pointer (some ⟨m, 0, none⟩), .int .u32 x] w fun e w' => e = .returned (.int .i64 100) ∧ Below w.heap.size w w' := by
  obtain ⟨a, c, rfl, dc⟩ := h.dc
  have hsz := ok.sz
  have hmo := ok.most
  have c0 := dc.c0
  have c1 := dc.c1
  have c3 := dc.c3
  rw [hon] at c3
  clear h dc ok
  generalize s.bs.length = L at *
  generalize s.size = Z at *
  have hw : IntKind.i64.wrap ((L : Int) + 4) = (L : Int) + 4 := by rw [IntKind.wrap_i64]; omega
  have d1 : (L : Int) + 4 > (Z : Int) := by omega
  go_enter Try.func25, Try.ntmps25
  go_wp2
  go_quiet (fail)
  all_goals (try go_wp2)
  go_ret
  exact ⟨rfl, Dr.below ⟨_, rfl⟩⟩
theorem dPush_good (B m x : Nat) (v : Value) (s : Ks) (w : World) (h : DAt B w m v s) (hB : B ≤ w.heap.size) (ok : OkK s) (hon : s.on = true) (hr : s.bs.length + 4 ≤ s.size) (hx : x < 4294967296) :
    Calls Try.prog 25 #[.pointer (some ⟨m, 0, none⟩), .int .u32 x] w fun e w' => e = .returned (.int .i64 0) ∧ LeftD B w w' m v { s with bs := s.bs ++ putL x 4 } := by
  have hmo := ok.most
  have HL : Hid (∀ w1, Below w.heap.size w w1 → Calls Try.prog 58 #[.pointer (some ⟨m, 0, none⟩), .slice (some ⟨w1.heap.size, 0, none⟩) 1 1] (w1.alloc (.cells #[.int .u32 x] 23)) fun e w' => e = .returned (.tuple #[]) ∧ Hid (LeftD B w w' m v { s with bs := s.bs ++ putL x 4 })) := fun w1 hb => by
    refine (dlay_new B m v s [x] w1 (h.later hb) (Nat.le_trans hB hb.size) (by simp; omega) (by simpa using hx)).mono ?_
    rintro e w' ⟨rfl, v', g1, g2⟩
    refine ⟨rfl, v', by simpa [putsL] using g1, (Fm.same hb).trans g2⟩
  obtain ⟨a, c, rfl, dc⟩ := h.dc
  have c0 := dc.c0
  have c1 := dc.c1
  have c3 := dc.c3
  rw [hon] at c3
  clear h dc ok
  generalize s.bs.length = L at *
  generalize s.size = Z at *
  have hw : IntKind.i64.wrap ((L : Int) + 4) = (L : Int) + 4 := by rw [IntKind.wrap_i64]; omega
  have d1 : ¬ (L : Int) + 4 > (Z : Int) := by omega
  go_enter Try.func25, Try.ntmps25
  go_wp2
  go_quiet (fail)
  have hdd : Below w.heap.size w (w.drewN nq) := Dr.below ⟨_, rfl⟩
  generalize w.drewN nq = w1 at *
  go_wp2_with (first | (go_at_call 58; refine (HL.out _ hdd).mono ?_; rintro e w2 ⟨rfl, g2⟩))
  go_ret
  exact ⟨rfl, g2.out⟩
theorem dPush_any (B m x : Nat) (v : Value) (s : Ks) (w : World) (h : DAt B w m v s) (hB : B ≤ w.heap.size) (ok : OkK s) (hx : x < 4294967296) :
    Calls Try.prog 25 #[.pointer (some ⟨m, 0, none⟩), .int .u32 x] w fun e w' => e = .returned (.int .i64 (pushE s)) ∧ LeftD B w w' m v (pushS s x) := by
  unfold pushS pushE roomForE
  cases hon : s.on with
  | false =>
    have e1 : lackE s 0 = 102 := by unfold lackE; rw [hon]; simp
    rw [e1]
    simp only [Nat.reduceEqDiff, if_false]
    refine (dPush_off B m x v s w h hon).mono ?_
    rintro e w' ⟨rfl, rfl⟩
    exact ⟨rfl, LeftD.same h (Below.refl _ _)⟩
  | true =>
    rw [lack0 hon, if_pos rfl]
    unfold roomE
    by_cases hr : s.size < s.bs.length + 4
    · rw [if_pos (by omega), if_neg (by omega)]
      refine (dPush_over B m x v s w h ok hon hr).mono ?_
      rintro e w' ⟨rfl, hb⟩
      exact ⟨rfl, LeftD.same h hb⟩
    · rw [if_neg (by omega), if_pos rfl]
      have := dPush_good B m x v s w h hB ok hon (by omega) hx
      simpa [hon] using this
end Go.Proofs.Ythhkennomnmjkaa
