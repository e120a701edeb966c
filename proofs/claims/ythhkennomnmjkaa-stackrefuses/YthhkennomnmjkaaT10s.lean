/- The document's stack: its Stub and Peek. -/
import Derived.Test.YthhkennomnmjkaaT10r
namespace Go.Proofs.Ythhkennomnmjkaa
open Go.RowKit
set_option maxHeartbeats 1000000
set_option maxRecDepth 100000
set_option linter.unusedVariables false

theorem dStub_off (B m x y z : Nat) (v : Value) (s : Ks) (w : World) (h : DAt B w m v s) (hon : s.on = false) :
    Calls Try.prog 72 #[.pointer (some ⟨m, 0, none⟩), .int .u32 x, .int .u32 y, .int .u32 z] w fun e w' => e = .returned (.int .i64 102) ∧ w' = w := by
  obtain ⟨a, c, rfl, dc⟩ := h.dc
  have c3 := dc.c3
  rw [hon] at c3
  clear h dc
  go_enter Try.func72, Try.ntmps72
  go_wp2
  go_ret
  exact ⟨rfl, rfl⟩
theorem dStub_over (B m x y z : Nat) (v : Value) (s : Ks) (w : World) (h : DAt B w m v s) (ok : OkK s) (hon : s.on = true) (hr : s.size < s.bs.length + 16) :
    Calls Try.prog 72 #[.pointer (some ⟨m, 0, none⟩), .int .u32 x, .int .u32 y, .int .u32 z] w fun e w' => e = .returned (.int .i64 100) ∧ Below w.heap.size w w' := by
  obtain ⟨a, c, rfl, dc⟩ := h.dc
  have hsz := ok.sz
  have hmo := ok.most
  have c0 := dc.c0
  have c1 := dc.c1
  have c3 := dc.c3
  rw [hon] at c3
  clear h dc ok
  generalize s.bs.length = L at *
  generalize s.size = Z at *
  have hw : IntKind.i64.wrap ((L : Int) + 16) = (L : Int) + 16 := by rw [IntKind.wrap_i64]; omega
  have d1 : (L : Int) + 16 > (Z : Int) := by omega
  go_enter Try.func72, Try.ntmps72
  go_wp2
  go_quiet (fail)
  all_goals (try go_wp2)
  go_ret
  exact ⟨rfl, Dr.below ⟨_, rfl⟩⟩
theorem dStub_good (B m x y z : Nat) (v : Value) (s : Ks) (w : World) (h : DAt B w m v s) (hB : B ≤ w.heap.size) (ok : OkK s) (hon : s.on = true) (hr : s.bs.length + 16 ≤ s.size) (hx : x < 4294967296) (hy : y < 4294967296) (hz : z < 4294967296) :
    Calls Try.prog 72 #[.pointer (some ⟨m, 0, none⟩), .int .u32 x, .int .u32 y, .int .u32 z] w fun e w' => e = .returned (.int .i64 0) ∧ LeftD B w w' m v { s with bs := s.bs ++ putStub x y z s.fr } := by
  have hmo := ok.most
  have hsz := ok.sz
  have hbd := (ok.bd hon).1
  have HL : Hid (∀ w1, Below w.heap.size w w1 → Calls Try.prog 58 #[.pointer (some ⟨m, 0, none⟩), .slice (some ⟨w1.heap.size, 0, none⟩) 4 4] (w1.alloc (.cells #[.int .u32 x, .int .u32 y, .int .u32 z, .int .u32 s.fr] 23)) fun e w' => e = .returned (.tuple #[]) ∧ Hid (LeftD B w w' m v { s with bs := s.bs ++ putStub x y z s.fr })) := fun w1 hb => by
    refine (dlay_new B m v s [x, y, z, s.fr] w1 (h.later hb) (Nat.le_trans hB hb.size) (by simp; omega) (by intro u hu; simp at hu; omega)).mono ?_
    rintro e w' ⟨rfl, v', g1, g2⟩
    refine ⟨rfl, v', by simpa [putsL, putStub] using g1, (Fm.same hb).trans g2⟩
  obtain ⟨a, c, rfl, dc⟩ := h.dc
  have HD := hidden dc
  have c0 := dc.c0
  have c1 := dc.c1
  have c3 := dc.c3
  rw [hon] at c3
  clear h dc ok
  have hw : IntKind.i64.wrap ((s.bs.length : Int) + 16) = (s.bs.length : Int) + 16 := by rw [IntKind.wrap_i64]; omega
  have d1 : ¬ (s.bs.length : Int) + 16 > (s.size : Int) := by omega
  have hwf : IntKind.u32.wrap (s.fr : Int) = (s.fr : Int) := by rw [IntKind.wrap_u32]; omega
  go_enter Try.func72, Try.ntmps72
  go_wp2
  go_quiet (fail)
  have hdd : Below w.heap.size w (w.drewN nq) := Dr.below ⟨_, rfl⟩
  generalize w.drewN nq = w1 at *
  have c2 := (HD.out.later hdd).c2
  go_wp2_with (first | (go_at_call 58; refine (HL.out _ hdd).mono ?_; rintro e w2 ⟨rfl, g2⟩))
  go_ret
  exact ⟨rfl, g2.out⟩
theorem dStub_any (B m x y z : Nat) (v : Value) (s : Ks) (w : World) (h : DAt B w m v s) (hB : B ≤ w.heap.size) (ok : OkK s) (hx : x < 4294967296) (hy : y < 4294967296) (hz : z < 4294967296) :
    Calls Try.prog 72 #[.pointer (some ⟨m, 0, none⟩), .int .u32 x, .int .u32 y, .int .u32 z] w fun e w' => e = .returned (.int .i64 (stubUE s)) ∧ LeftD B w w' m v (stubS s x y z) := by
  unfold stubS stubUE roomForE
  cases hon : s.on with
  | false =>
    have e1 : lackE s 0 = 102 := by unfold lackE; rw [hon]; simp
    rw [e1]
    simp only [Nat.reduceEqDiff, if_false]
    refine (dStub_off B m x y z v s w h hon).mono ?_
    rintro e w' ⟨rfl, rfl⟩
    exact ⟨rfl, LeftD.same h (Below.refl _ _)⟩
  | true =>
    rw [lack0 hon, if_pos rfl]
    unfold roomE
    by_cases hr : s.size < s.bs.length + 16
    · rw [if_pos (by omega), if_neg (by omega)]
      refine (dStub_over B m x y z v s w h ok hon hr).mono ?_
      rintro e w' ⟨rfl, hb⟩
      exact ⟨rfl, LeftD.same h hb⟩
    · rw [if_neg (by omega), if_pos rfl]
      have := dStub_good B m x y z v s w h hB ok hon (by omega) hx hy hz
      simpa [hon] using this
theorem vals_at (s : Ks) (j : Nat) (h : j < cnt s) : (valsK s).getD j 0 = nu s.bs (endK s + 4 * j) := by
  simp [valsK, List.getD_eq_getElem?_getD, h]
theorem dPeek_off (m i : Nat) (a : Option Addr) (c : Nat) (s : Ks) (w : World) (h : DC w m a c s) (hon : s.on = false) :
    Calls Try.prog 28 #[.pointer (some ⟨m, 0, none⟩), .int .u32 i] w fun e w' => e = .returned (.tuple #[.int .u32 0, .int .i64 102]) ∧ w' = w := by
  have c3 := h.c3
  rw [hon] at c3
  clear h
  go_enter Try.func28, Try.ntmps28
  go_wp2
  refine bodyPost_ret (v := .tuple #[.int .u32 0, .int .i64 102]) (by simp [results, Try.results28, go_sem]) rfl ⟨rfl, rfl⟩
theorem dPeek_few (m i : Nat) (a : Option Addr) (c : Nat) (s : Ks) (w : World) (h : DC w m a c s) (ok : OkK s) (hon : s.on = true) (hi : i < 4294967296) (hc : cnt s ≤ i) :
    Calls Try.prog 28 #[.pointer (some ⟨m, 0, none⟩), .int .u32 i] w fun e w' => e = .returned (.tuple #[.int .u32 0, .int .i64 101]) ∧ Below w.heap.size w w' := by
  have HV := hidden (dvals_on m a c s w h ok hon)
  have c3 := h.c3
  rw [hon] at c3
  clear h ok hon
  generalize valsK s = X at *
  generalize cnt s = C at *
  have hwi : IntKind.i64.wrap (i : Int) = (i : Int) := by rw [IntKind.wrap_i64]; omega
  have d1 : (i : Int) ≥ (C : Int) := by omega
  go_enter Try.func28, Try.ntmps28
  go_wp2_with (first | (go_at_call 57; refine HV.out.mono ?_; rintro e w1 ⟨a', c', rfl, ho, hb⟩; clear ho))
  refine bodyPost_ret (v := .tuple #[.int .u32 0, .int .i64 101]) (by simp [results, Try.results28, go_sem]) rfl ⟨rfl, hb⟩
theorem dPeek_good (m i : Nat) (a : Option Addr) (c : Nat) (s : Ks) (w : World) (h : DC w m a c s) (ok : OkK s) (hon : s.on = true) (hc : i < cnt s) :
    Calls Try.prog 28 #[.pointer (some ⟨m, 0, none⟩), .int .u32 i] w fun e w' => e = .returned (.tuple #[.int .u32 (nu s.bs (s.bs.length - 4 * (i + 1))), .int .i64 0]) ∧ Below w.heap.size w w' := by
  obtain ⟨b1, b2, b3, b4, b5, b6⟩ := ok.bd hon
  have hsz := ok.sz
  have hmo := ok.most
  have HV : Hid (Calls Try.prog 57 #[.pointer (some ⟨m, 0, none⟩)] w fun e w' => ∃ g c', e = .returned (.slice (some ⟨g, 0, none⟩) (cnt s) c') ∧ cnt s ≤ c' ∧ w'.cell? ⟨g, cnt s - 1 - i, none⟩ = some (.int .u32 (nu s.bs (s.bs.length - 4 * (i + 1)))) ∧ Hid (Below w.heap.size w w')) := by
    refine (dvals_on m a c s w h ok hon).mono ?_
    rintro e w' ⟨a', c', rfl, ho, hb⟩
    obtain ⟨g, rfl, hcc, _⟩ := row32 ho (by omega)
    refine ⟨g, c', rfl, hcc, ?_, hb⟩
    rw [cell32 ho (cnt s - 1 - i) (by omega), vals_at s _ (by omega), show endK s + 4 * (cnt s - 1 - i) = s.bs.length - 4 * (i + 1) by omega]
  have c3 := h.c3
  rw [hon] at c3
  have hC : cnt s ≤ 65536 := by omega
  clear h ok hon b1 b2 b3 b4 b5 b6 hsz hmo
  generalize nu s.bs (s.bs.length - 4 * (i + 1)) = X at *
  generalize cnt s = C at *
  have hwi : IntKind.i64.wrap (i : Int) = (i : Int) := by rw [IntKind.wrap_i64]; omega
  have d1 : ¬ (i : Int) ≥ (C : Int) := by omega
  have w1 : IntKind.i64.wrap ((C : Int) - 1) = (C : Int) - 1 := by rw [IntKind.wrap_i64]; omega
  have w2 : IntKind.i64.wrap ((C : Int) - 1 - (i : Int)) = ((C - 1 - i : Nat) : Int) := by rw [IntKind.wrap_i64]; omega
  have l1 : C - 1 - i < C := by omega
  go_enter Try.func28, Try.ntmps28
  go_wp2_with (first | (go_at_call 57; refine HV.out.mono ?_; rintro e w1 ⟨g, c', rfl, hcc, hcell, hb⟩))
  refine bodyPost_ret (v := .tuple #[.int .u32 X, .int .i64 0]) (by simp [results, Try.results28, go_sem]) rfl ⟨rfl, hb.out⟩
theorem dPeek_any (m i : Nat) (a : Option Addr) (c : Nat) (s : Ks) (w : World) (h : DC w m a c s) (ok : OkK s) (hi : i < 4294967296) :
    Calls Try.prog 28 #[.pointer (some ⟨m, 0, none⟩), .int .u32 i] w fun e w' => e = .returned (.tuple #[.int .u32 (peekV s i), .int .i64 (peekE s i)]) ∧ Below w.heap.size w w' := by
  unfold peekV peekE
  cases hon : s.on with
  | false =>
    have e0 : lackE s (i + 1) = 102 := by unfold lackE; rw [hon]; simp
    rw [e0]
    refine (dPeek_off m i a c s w h hon).mono ?_
    rintro e w' ⟨rfl, rfl⟩
    exact ⟨rfl, Below.refl _ _⟩
  | true =>
    have e0 : lackE s (i + 1) = if cnt s < i + 1 then 101 else 0 := by unfold lackE; rw [hon]; simp
    rw [e0]
    by_cases hc : cnt s < i + 1
    · rw [if_pos hc, if_neg (by omega)]
      exact dPeek_few m i a c s w h ok hon hi (by omega)
    · rw [if_neg hc, if_pos rfl]
      exact dPeek_good m i a c s w h ok hon (by omega)
end Go.Proofs.Ythhkennomnmjkaa
