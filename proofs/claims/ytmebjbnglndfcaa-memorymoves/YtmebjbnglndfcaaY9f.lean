/- Contract of endAt of package memory: its four ways. -/
import Derived.Test.YtmebjbnglndfcaaY9A
import Derived.Deep.RegionHeld3
namespace Go.Proofs.Ytmebjbnglndfcaa
open Go.RowKit
set_option maxHeartbeats 1000000
set_option maxRecDepth 100000
set_option linter.unusedVariables false

theorem endAt_1 (m gb GL gc R L x bc bb bb' bc' : Nat) (w w1 : World) (hL : L ≤ 1048576) (hX : x ≤ 1048576) (hbc : L ≤ bc) (hRG : R < GL) (hGc : GL ≤ gc) (hr0 : 0 < R) (hR1 : R < L) (hlx : L < x) (hbn : x ≤ bc')
    (c9 : w.cell? ⟨m, 9, none⟩ = some (.slice (some ⟨bb, 0, none⟩) L bc))
    (hrun : ∀ ty, (Builtin.append_ #[28, 23] ty #[.slice (some ⟨bb, 0, none⟩) L bc, .int .u32 ((x - L : Nat) : Int)]).run Try.prog w = .ok (.slice (some ⟨bb', 0, none⟩) x bc') w1)
    (b9 : w1.cell? ⟨m, 9, none⟩ = some (.slice (some ⟨bb, 0, none⟩) L bc)) (bf : w1.frozen? ⟨m, 9, none⟩ = false)
    (d9 : (w1.setCell ⟨m, 9, none⟩ (.slice (some ⟨bb', 0, none⟩) x bc')).cell? ⟨m, 9, none⟩ = some (.slice (some ⟨bb', 0, none⟩) x bc')) (d8 : (w1.setCell ⟨m, 9, none⟩ (.slice (some ⟨bb', 0, none⟩) x bc')).cell? ⟨m, 8, none⟩ = some (.slice (some ⟨gb, 0, none⟩) GL gc)) (d1 : (w1.setCell ⟨m, 9, none⟩ (.slice (some ⟨bb', 0, none⟩) x bc')).cell? ⟨m, 1, none⟩ = some (.int .u32 R)) :
    Calls Try.prog 45 #[.pointer (some ⟨m, 0, none⟩), .int .u32 x] w fun e w' => e = .returned (.tuple #[]) ∧ Below (w1.setCell ⟨m, 9, none⟩ (.slice (some ⟨bb', 0, none⟩) x bc')).heap.size (w1.setCell ⟨m, 9, none⟩ (.slice (some ⟨bb', 0, none⟩) x bc')) w' := by
  have HS := hidden (size_any m L bc (some ⟨bb, 0, none⟩) w c9 (by omega))
  have HR := hidden (fun w' (q8 : w'.cell? ⟨m, 8, none⟩ = some (.slice (some ⟨gb, 0, none⟩) GL gc)) (q1 : w'.cell? ⟨m, 1, none⟩ = some (.int .u32 R)) => rom_any m gb GL gc R w' q8 q1 (by omega) hGc)
  have HRUN := hidden hrun
  have hw : IntKind.u32.wrap ((x : Int) - (L : Int)) = ((x - L : Nat) : Int) := by rw [IntKind.wrap_u32]; omega
  have q0 : (R : Int) ≤ (x : Int) := by omega
  have q1 : (R : Int) ≤ (L : Int) := by omega
  have q3 : ¬ gc = R := by omega
  have q4 : R ≤ gc := by omega
  have q5 : L ≤ bc := by omega
  have q6 : L ≤ bc' := by omega
  have q7 : ¬ bc' = L := by omega
  have q8 : L ≤ x := by omega
  have q9 : (L : Int) ≤ (x : Int) := by omega
  clear hrun
  go_enter Try.func45, Try.ntmps45
  go_wp2_with (first | (go_at_call 36; refine HS.out.mono ?_; rintro e w9 ⟨rfl, e9⟩; rw [e9]; clear e9) | (at_builtin; refine Lib.wpList_append_run _ rfl (.tmp 18) (.tmp 21) 28 23 rfl _ _ rfl rfl _ _ (HRUN.out _) ?_) | fail)
  generalize hw2 : (w1.setCell ⟨m, 9, none⟩ (.slice (some ⟨bb', 0, none⟩) x bc')) = w2 at *
  have HW2 := hidden hw2
  clear hw2
  go_region_held3 (fun w' => w'.cell? ⟨m, 9, none⟩ = some (.slice (some ⟨bb', 0, none⟩) x bc') ∧ w'.cell? ⟨m, 1, none⟩ = some (.int .u32 R)) (first | assumption | exact ⟨by assumption, by assumption⟩ | go_keep) (first | (go_at_call 53; refine (HR.out w2.drew d8 d1).mono ?_; rintro e w9 ⟨rfl, hb9⟩; have k9 := cellLater hb9 d9; have k8 := cellLater hb9 d1) | (refine step_copy0 rfl (.tmp 32) (.tmp 45) rfl (by simp [Act.eval]; exact ⟨_, _, ⟨rfl, rfl⟩, _, _, ⟨rfl, rfl⟩, (by first | exact .inl rfl | simp)⟩) ?_) | fail)
  all_goals (try go_wp2)
  all_goals (refine bodyPost_end (v := .tuple #[]) (by simp [results, Try.results45, go_sem]) rfl ⟨rfl, ?_⟩)
  all_goals (rw [HW2.out])
  all_goals (first | exact ⟨hb9.os, hb9.tape, hb9.output, hb9.size, hb9.block⟩ | fail)

theorem endAt_2 (m gb GL gc R L bb : Nat) (w : World) (hL : L ≤ 1048576) (hX : L ≤ 1048576) (hbc : L ≤ L) (hRG : R < GL) (hGc : GL ≤ gc) (hr0 : 0 < R) (hR1 : R < L) 
    (c9 : w.cell? ⟨m, 9, none⟩ = some (.slice (some ⟨bb, 0, none⟩) L L))
    (hrun : ∀ ty, (Builtin.append_ #[28, 23] ty #[.slice (some ⟨bb, 0, none⟩) L L, .int .u32 0]).run Try.prog w = .ok (.slice (some ⟨bb, 0, none⟩) L L) w)
    (b9 : w.cell? ⟨m, 9, none⟩ = some (.slice (some ⟨bb, 0, none⟩) L L)) (bf : w.frozen? ⟨m, 9, none⟩ = false)
    (d9 : (w.setCell ⟨m, 9, none⟩ (.slice (some ⟨bb, 0, none⟩) L L)).cell? ⟨m, 9, none⟩ = some (.slice (some ⟨bb, 0, none⟩) L L)) (d8 : (w.setCell ⟨m, 9, none⟩ (.slice (some ⟨bb, 0, none⟩) L L)).cell? ⟨m, 8, none⟩ = some (.slice (some ⟨gb, 0, none⟩) GL gc)) (d1 : (w.setCell ⟨m, 9, none⟩ (.slice (some ⟨bb, 0, none⟩) L L)).cell? ⟨m, 1, none⟩ = some (.int .u32 R)) :
    Calls Try.prog 45 #[.pointer (some ⟨m, 0, none⟩), .int .u32 L] w fun e w' => e = .returned (.tuple #[]) ∧ Below (w.setCell ⟨m, 9, none⟩ (.slice (some ⟨bb, 0, none⟩) L L)).heap.size (w.setCell ⟨m, 9, none⟩ (.slice (some ⟨bb, 0, none⟩) L L)) w' := by
  have HS := hidden (size_any m L L (some ⟨bb, 0, none⟩) w c9 (by omega))
  have HR := hidden (fun w' (q8 : w'.cell? ⟨m, 8, none⟩ = some (.slice (some ⟨gb, 0, none⟩) GL gc)) (q1 : w'.cell? ⟨m, 1, none⟩ = some (.int .u32 R)) => rom_any m gb GL gc R w' q8 q1 (by omega) hGc)
  have HRUN := hidden hrun
  have hw : IntKind.u32.wrap ((L : Int) - (L : Int)) = 0 := by rw [IntKind.wrap_u32]; omega
  have q0 : (R : Int) ≤ (L : Int) := by omega
  have q1 : (R : Int) ≤ (L : Int) := by omega
  have q3 : ¬ gc = R := by omega
  have q4 : R ≤ gc := by omega
  have q5 : L ≤ L := by omega
  have q6 : L ≤ L := by omega
  skip
  have q8 : L ≤ L := by omega
  have q9 : (L : Int) ≤ (L : Int) := by omega
  clear hrun
  go_enter Try.func45, Try.ntmps45
  go_wp2_with (first | (go_at_call 36; refine HS.out.mono ?_; rintro e w9 ⟨rfl, e9⟩; rw [e9]; clear e9) | (at_builtin; refine Lib.wpList_append_run _ rfl (.tmp 18) (.tmp 21) 28 23 rfl _ _ rfl rfl _ _ (HRUN.out _) ?_) | fail)
  generalize hw2 : (w.setCell ⟨m, 9, none⟩ (.slice (some ⟨bb, 0, none⟩) L L)) = w2 at *
  have HW2 := hidden hw2
  clear hw2
  go_region_held3 (fun w' => w'.cell? ⟨m, 9, none⟩ = some (.slice (some ⟨bb, 0, none⟩) L L) ∧ w'.cell? ⟨m, 1, none⟩ = some (.int .u32 R)) (first | assumption | exact ⟨by assumption, by assumption⟩ | go_keep) (first | (go_at_call 53; refine (HR.out w2.drew d8 d1).mono ?_; rintro e w9 ⟨rfl, hb9⟩; have k9 := cellLater hb9 d9; have k8 := cellLater hb9 d1) | (refine step_copy0 rfl (.tmp 32) (.tmp 45) rfl (by simp [Act.eval]; exact ⟨_, _, ⟨rfl, rfl⟩, _, _, ⟨rfl, rfl⟩, (by first | exact .inl rfl | simp)⟩) ?_) | fail)
  all_goals (try go_wp2)
  all_goals (refine bodyPost_end (v := .tuple #[]) (by simp [results, Try.results45, go_sem]) rfl ⟨rfl, ?_⟩)
  all_goals (rw [HW2.out])
  all_goals (first | exact ⟨hb9.os, hb9.tape, hb9.output, hb9.size, hb9.block⟩ | fail)

theorem endAt_3 (m gb GL gc R L bc bb : Nat) (w : World) (hL : L ≤ 1048576) (hX : L ≤ 1048576) (hbc : L ≤ bc) (hRG : R < GL) (hGc : GL ≤ gc) (hr0 : 0 < R) (hR1 : R < L) (hne : ¬ bc = L)
    (c9 : w.cell? ⟨m, 9, none⟩ = some (.slice (some ⟨bb, 0, none⟩) L bc))
    (hrun : ∀ ty, (Builtin.append_ #[28, 23] ty #[.slice (some ⟨bb, 0, none⟩) L bc, .int .u32 0]).run Try.prog w = .ok (.slice (some ⟨bb, 0, none⟩) L bc) w)
    (b9 : w.cell? ⟨m, 9, none⟩ = some (.slice (some ⟨bb, 0, none⟩) L bc)) (bf : w.frozen? ⟨m, 9, none⟩ = false)
    (d9 : (w.setCell ⟨m, 9, none⟩ (.slice (some ⟨bb, 0, none⟩) L bc)).cell? ⟨m, 9, none⟩ = some (.slice (some ⟨bb, 0, none⟩) L bc)) (d8 : (w.setCell ⟨m, 9, none⟩ (.slice (some ⟨bb, 0, none⟩) L bc)).cell? ⟨m, 8, none⟩ = some (.slice (some ⟨gb, 0, none⟩) GL gc)) (d1 : (w.setCell ⟨m, 9, none⟩ (.slice (some ⟨bb, 0, none⟩) L bc)).cell? ⟨m, 1, none⟩ = some (.int .u32 R)) :
    Calls Try.prog 45 #[.pointer (some ⟨m, 0, none⟩), .int .u32 L] w fun e w' => e = .returned (.tuple #[]) ∧ Below (w.setCell ⟨m, 9, none⟩ (.slice (some ⟨bb, 0, none⟩) L bc)).heap.size (w.setCell ⟨m, 9, none⟩ (.slice (some ⟨bb, 0, none⟩) L bc)) w' := by
  have HS := hidden (size_any m L bc (some ⟨bb, 0, none⟩) w c9 (by omega))
  have HR := hidden (fun w' (q8 : w'.cell? ⟨m, 8, none⟩ = some (.slice (some ⟨gb, 0, none⟩) GL gc)) (q1 : w'.cell? ⟨m, 1, none⟩ = some (.int .u32 R)) => rom_any m gb GL gc R w' q8 q1 (by omega) hGc)
  have HRUN := hidden hrun
  have hw : IntKind.u32.wrap ((L : Int) - (L : Int)) = 0 := by rw [IntKind.wrap_u32]; omega
  have q0 : (R : Int) ≤ (L : Int) := by omega
  have q1 : (R : Int) ≤ (L : Int) := by omega
  have q3 : ¬ gc = R := by omega
  have q4 : R ≤ gc := by omega
  have q5 : L ≤ bc := by omega
  have q6 : L ≤ bc := by omega
  have q7 : ¬ bc = L := by omega
  have q8 : L ≤ L := by omega
  have q9 : (L : Int) ≤ (L : Int) := by omega
  clear hrun
  go_enter Try.func45, Try.ntmps45
  go_wp2_with (first | (go_at_call 36; refine HS.out.mono ?_; rintro e w9 ⟨rfl, e9⟩; rw [e9]; clear e9) | (at_builtin; refine Lib.wpList_append_run _ rfl (.tmp 18) (.tmp 21) 28 23 rfl _ _ rfl rfl _ _ (HRUN.out _) ?_) | fail)
  generalize hw2 : (w.setCell ⟨m, 9, none⟩ (.slice (some ⟨bb, 0, none⟩) L bc)) = w2 at *
  have HW2 := hidden hw2
  clear hw2
  go_region_held3 (fun w' => w'.cell? ⟨m, 9, none⟩ = some (.slice (some ⟨bb, 0, none⟩) L bc) ∧ w'.cell? ⟨m, 1, none⟩ = some (.int .u32 R)) (first | assumption | exact ⟨by assumption, by assumption⟩ | go_keep) (first | (go_at_call 53; refine (HR.out w2.drew d8 d1).mono ?_; rintro e w9 ⟨rfl, hb9⟩; have k9 := cellLater hb9 d9; have k8 := cellLater hb9 d1) | (refine step_copy0 rfl (.tmp 32) (.tmp 45) rfl (by simp [Act.eval]; exact ⟨_, _, ⟨rfl, rfl⟩, _, _, ⟨rfl, rfl⟩, (by first | exact .inl rfl | simp)⟩) ?_) | fail)
  all_goals (try go_wp2)
  all_goals (refine bodyPost_end (v := .tuple #[]) (by simp [results, Try.results45, go_sem]) rfl ⟨rfl, ?_⟩)
  all_goals (rw [HW2.out])
  all_goals (first | exact ⟨hb9.os, hb9.tape, hb9.output, hb9.size, hb9.block⟩ | fail)

theorem endAt_4 (m gb GL gc R L x bc bb : Nat) (w : World) (hL : L ≤ 1048576) (hX : x ≤ 1048576) (hbc : L ≤ bc) (hRG : R < GL) (hGc : GL ≤ gc) (hr0 : 0 < R) (hR1 : R < x) (hlx : x < L)
    (c9 : w.cell? ⟨m, 9, none⟩ = some (.slice (some ⟨bb, 0, none⟩) L bc))
    (hrun : ∀ ty, (Builtin.append_ #[28, 23] ty #[.slice (some ⟨bb, 0, none⟩) x bc, .int .u32 0]).run Try.prog w = .ok (.slice (some ⟨bb, 0, none⟩) x bc) w)
    (b9 : w.cell? ⟨m, 9, none⟩ = some (.slice (some ⟨bb, 0, none⟩) L bc)) (bf : w.frozen? ⟨m, 9, none⟩ = false)
    (d9 : (w.setCell ⟨m, 9, none⟩ (.slice (some ⟨bb, 0, none⟩) x bc)).cell? ⟨m, 9, none⟩ = some (.slice (some ⟨bb, 0, none⟩) x bc)) (d8 : (w.setCell ⟨m, 9, none⟩ (.slice (some ⟨bb, 0, none⟩) x bc)).cell? ⟨m, 8, none⟩ = some (.slice (some ⟨gb, 0, none⟩) GL gc)) (d1 : (w.setCell ⟨m, 9, none⟩ (.slice (some ⟨bb, 0, none⟩) x bc)).cell? ⟨m, 1, none⟩ = some (.int .u32 R)) :
    Calls Try.prog 45 #[.pointer (some ⟨m, 0, none⟩), .int .u32 x] w fun e w' => e = .returned (.tuple #[]) ∧ Below (w.setCell ⟨m, 9, none⟩ (.slice (some ⟨bb, 0, none⟩) x bc)).heap.size (w.setCell ⟨m, 9, none⟩ (.slice (some ⟨bb, 0, none⟩) x bc)) w' := by
  have HS := hidden (size_any m L bc (some ⟨bb, 0, none⟩) w c9 (by omega))
  have HR := hidden (fun w' (q8 : w'.cell? ⟨m, 8, none⟩ = some (.slice (some ⟨gb, 0, none⟩) GL gc)) (q1 : w'.cell? ⟨m, 1, none⟩ = some (.int .u32 R)) => rom_any m gb GL gc R w' q8 q1 (by omega) hGc)
  have HRUN := hidden hrun
  have hw : IntKind.u32.wrap ((x : Int) - (x : Int)) = 0 := by rw [IntKind.wrap_u32]; omega
  have q0 : (R : Int) ≤ (x : Int) := by omega
  have q1 : (R : Int) ≤ (L : Int) := by omega
  have q3 : ¬ gc = R := by omega
  have q4 : R ≤ gc := by omega
  have q5 : x ≤ bc := by omega
  have q6 : x ≤ bc := by omega
  have q7 : ¬ bc = x := by omega
  have q8 : x ≤ x := by omega
  have q9 : (x : Int) ≤ (x : Int) := by omega
  clear hrun
  go_enter Try.func45, Try.ntmps45
  go_wp2_with (first | (go_at_call 36; refine HS.out.mono ?_; rintro e w9 ⟨rfl, e9⟩; rw [e9]; clear e9) | (at_builtin; refine Lib.wpList_append_run _ rfl (.tmp 18) (.tmp 21) 28 23 rfl _ _ rfl rfl _ _ (HRUN.out _) ?_) | fail)
  generalize hw2 : (w.setCell ⟨m, 9, none⟩ (.slice (some ⟨bb, 0, none⟩) x bc)) = w2 at *
  have HW2 := hidden hw2
  clear hw2
  go_region_held3 (fun w' => w'.cell? ⟨m, 9, none⟩ = some (.slice (some ⟨bb, 0, none⟩) x bc) ∧ w'.cell? ⟨m, 1, none⟩ = some (.int .u32 R)) (first | assumption | exact ⟨by assumption, by assumption⟩ | go_keep) (first | (go_at_call 53; refine (HR.out w2.drew d8 d1).mono ?_; rintro e w9 ⟨rfl, hb9⟩; have k9 := cellLater hb9 d9; have k8 := cellLater hb9 d1) | (refine step_copy0 rfl (.tmp 32) (.tmp 45) rfl (by simp [Act.eval]; exact ⟨_, _, ⟨rfl, rfl⟩, _, _, ⟨rfl, rfl⟩, (by first | exact .inl rfl | simp)⟩) ?_) | fail)
  all_goals (try go_wp2)
  all_goals (refine bodyPost_end (v := .tuple #[]) (by simp [results, Try.results45, go_sem]) rfl ⟨rfl, ?_⟩)
  all_goals (rw [HW2.out])
  all_goals (first | exact ⟨hb9.os, hb9.tape, hb9.output, hb9.size, hb9.block⟩ | fail)

theorem endAt_1e (m gb GL gc L x bc bb bb' bc' : Nat) (w w1 : World) (hL : L ≤ 1048576) (hX : x ≤ 1048576) (hbc : L ≤ bc) (hRG : L < GL) (hGc : GL ≤ gc) (hr0 : 0 < L)  (hlx : L < x) (hbn : x ≤ bc')
    (c9 : w.cell? ⟨m, 9, none⟩ = some (.slice (some ⟨bb, 0, none⟩) L bc))
    (hrun : ∀ ty, (Builtin.append_ #[28, 23] ty #[.slice (some ⟨bb, 0, none⟩) L bc, .int .u32 ((x - L : Nat) : Int)]).run Try.prog w = .ok (.slice (some ⟨bb', 0, none⟩) x bc') w1)
    (b9 : w1.cell? ⟨m, 9, none⟩ = some (.slice (some ⟨bb, 0, none⟩) L bc)) (bf : w1.frozen? ⟨m, 9, none⟩ = false)
    (d9 : (w1.setCell ⟨m, 9, none⟩ (.slice (some ⟨bb', 0, none⟩) x bc')).cell? ⟨m, 9, none⟩ = some (.slice (some ⟨bb', 0, none⟩) x bc')) (d8 : (w1.setCell ⟨m, 9, none⟩ (.slice (some ⟨bb', 0, none⟩) x bc')).cell? ⟨m, 8, none⟩ = some (.slice (some ⟨gb, 0, none⟩) GL gc)) (d1 : (w1.setCell ⟨m, 9, none⟩ (.slice (some ⟨bb', 0, none⟩) x bc')).cell? ⟨m, 1, none⟩ = some (.int .u32 L)) :
    Calls Try.prog 45 #[.pointer (some ⟨m, 0, none⟩), .int .u32 x] w fun e w' => e = .returned (.tuple #[]) ∧ Below (w1.setCell ⟨m, 9, none⟩ (.slice (some ⟨bb', 0, none⟩) x bc')).heap.size (w1.setCell ⟨m, 9, none⟩ (.slice (some ⟨bb', 0, none⟩) x bc')) w' := by
  have HS := hidden (size_any m L bc (some ⟨bb, 0, none⟩) w c9 (by omega))
  have HR := hidden (fun w' (q8 : w'.cell? ⟨m, 8, none⟩ = some (.slice (some ⟨gb, 0, none⟩) GL gc)) (q1 : w'.cell? ⟨m, 1, none⟩ = some (.int .u32 L)) => rom_any m gb GL gc L w' q8 q1 (by omega) hGc)
  have HRUN := hidden hrun
  have hw : IntKind.u32.wrap ((x : Int) - (L : Int)) = ((x - L : Nat) : Int) := by rw [IntKind.wrap_u32]; omega
  have q0 : (L : Int) ≤ (x : Int) := by omega
  have q1 : (L : Int) ≤ (L : Int) := by omega
  have q3 : ¬ gc = L := by omega
  have q4 : L ≤ gc := by omega
  have q5 : L ≤ bc := by omega
  have q6 : L ≤ bc' := by omega
  have q7 : ¬ bc' = L := by omega
  have q8 : L ≤ x := by omega
  have q9 : (L : Int) ≤ (x : Int) := by omega
  clear hrun
  go_enter Try.func45, Try.ntmps45
  go_wp2_with (first | (go_at_call 36; refine HS.out.mono ?_; rintro e w9 ⟨rfl, e9⟩; rw [e9]; clear e9) | (at_builtin; refine Lib.wpList_append_run _ rfl (.tmp 18) (.tmp 21) 28 23 rfl _ _ rfl rfl _ _ (HRUN.out _) ?_) | fail)
  generalize hw2 : (w1.setCell ⟨m, 9, none⟩ (.slice (some ⟨bb', 0, none⟩) x bc')) = w2 at *
  have HW2 := hidden hw2
  clear hw2
  go_region_held3 (fun w' => w'.cell? ⟨m, 9, none⟩ = some (.slice (some ⟨bb', 0, none⟩) x bc') ∧ w'.cell? ⟨m, 1, none⟩ = some (.int .u32 L)) (first | assumption | exact ⟨by assumption, by assumption⟩ | go_keep) (first | (go_at_call 53; refine (HR.out w2.drew d8 d1).mono ?_; rintro e w9 ⟨rfl, hb9⟩; have k9 := cellLater hb9 d9; have k8 := cellLater hb9 d1) | (refine step_copy0 rfl (.tmp 32) (.tmp 45) rfl (by simp [Act.eval]; exact ⟨_, _, ⟨rfl, rfl⟩, _, _, ⟨rfl, rfl⟩, (by first | exact .inl rfl | simp)⟩) ?_) | fail)
  all_goals (try go_wp2)
  all_goals (refine bodyPost_end (v := .tuple #[]) (by simp [results, Try.results45, go_sem]) rfl ⟨rfl, ?_⟩)
  all_goals (rw [HW2.out])
  all_goals (first | exact ⟨hb9.os, hb9.tape, hb9.output, hb9.size, hb9.block⟩ | fail)

theorem endAt_2e (m gb GL gc L bb : Nat) (w : World) (hL : L ≤ 1048576) (hX : L ≤ 1048576) (hbc : L ≤ L) (hRG : L < GL) (hGc : GL ≤ gc) (hr0 : 0 < L)  
    (c9 : w.cell? ⟨m, 9, none⟩ = some (.slice (some ⟨bb, 0, none⟩) L L))
    (hrun : ∀ ty, (Builtin.append_ #[28, 23] ty #[.slice (some ⟨bb, 0, none⟩) L L, .int .u32 0]).run Try.prog w = .ok (.slice (some ⟨bb, 0, none⟩) L L) w)
    (b9 : w.cell? ⟨m, 9, none⟩ = some (.slice (some ⟨bb, 0, none⟩) L L)) (bf : w.frozen? ⟨m, 9, none⟩ = false)
    (d9 : (w.setCell ⟨m, 9, none⟩ (.slice (some ⟨bb, 0, none⟩) L L)).cell? ⟨m, 9, none⟩ = some (.slice (some ⟨bb, 0, none⟩) L L)) (d8 : (w.setCell ⟨m, 9, none⟩ (.slice (some ⟨bb, 0, none⟩) L L)).cell? ⟨m, 8, none⟩ = some (.slice (some ⟨gb, 0, none⟩) GL gc)) (d1 : (w.setCell ⟨m, 9, none⟩ (.slice (some ⟨bb, 0, none⟩) L L)).cell? ⟨m, 1, none⟩ = some (.int .u32 L)) :
    Calls Try.prog 45 #[.pointer (some ⟨m, 0, none⟩), .int .u32 L] w fun e w' => e = .returned (.tuple #[]) ∧ Below (w.setCell ⟨m, 9, none⟩ (.slice (some ⟨bb, 0, none⟩) L L)).heap.size (w.setCell ⟨m, 9, none⟩ (.slice (some ⟨bb, 0, none⟩) L L)) w' := by
  have HS := hidden (size_any m L L (some ⟨bb, 0, none⟩) w c9 (by omega))
  have HR := hidden (fun w' (q8 : w'.cell? ⟨m, 8, none⟩ = some (.slice (some ⟨gb, 0, none⟩) GL gc)) (q1 : w'.cell? ⟨m, 1, none⟩ = some (.int .u32 L)) => rom_any m gb GL gc L w' q8 q1 (by omega) hGc)
  have HRUN := hidden hrun
  have hw : IntKind.u32.wrap ((L : Int) - (L : Int)) = 0 := by rw [IntKind.wrap_u32]; omega
  have q0 : (L : Int) ≤ (L : Int) := by omega
  have q1 : (L : Int) ≤ (L : Int) := by omega
  have q3 : ¬ gc = L := by omega
  have q4 : L ≤ gc := by omega
  have q5 : L ≤ L := by omega
  have q6 : L ≤ L := by omega
  skip
  have q8 : L ≤ L := by omega
  have q9 : (L : Int) ≤ (L : Int) := by omega
  clear hrun
  go_enter Try.func45, Try.ntmps45
  go_wp2_with (first | (go_at_call 36; refine HS.out.mono ?_; rintro e w9 ⟨rfl, e9⟩; rw [e9]; clear e9) | (at_builtin; refine Lib.wpList_append_run _ rfl (.tmp 18) (.tmp 21) 28 23 rfl _ _ rfl rfl _ _ (HRUN.out _) ?_) | fail)
  generalize hw2 : (w.setCell ⟨m, 9, none⟩ (.slice (some ⟨bb, 0, none⟩) L L)) = w2 at *
  have HW2 := hidden hw2
  clear hw2
  go_region_held3 (fun w' => w'.cell? ⟨m, 9, none⟩ = some (.slice (some ⟨bb, 0, none⟩) L L) ∧ w'.cell? ⟨m, 1, none⟩ = some (.int .u32 L)) (first | assumption | exact ⟨by assumption, by assumption⟩ | go_keep) (first | (go_at_call 53; refine (HR.out w2.drew d8 d1).mono ?_; rintro e w9 ⟨rfl, hb9⟩; have k9 := cellLater hb9 d9; have k8 := cellLater hb9 d1) | (refine step_copy0 rfl (.tmp 32) (.tmp 45) rfl (by simp [Act.eval]; exact ⟨_, _, ⟨rfl, rfl⟩, _, _, ⟨rfl, rfl⟩, (by first | exact .inl rfl | simp)⟩) ?_) | fail)
  all_goals (try go_wp2)
  all_goals (refine bodyPost_end (v := .tuple #[]) (by simp [results, Try.results45, go_sem]) rfl ⟨rfl, ?_⟩)
  all_goals (rw [HW2.out])
  all_goals (first | exact ⟨hb9.os, hb9.tape, hb9.output, hb9.size, hb9.block⟩ | fail)

theorem endAt_3e (m gb GL gc L bc bb : Nat) (w : World) (hL : L ≤ 1048576) (hX : L ≤ 1048576) (hbc : L ≤ bc) (hRG : L < GL) (hGc : GL ≤ gc) (hr0 : 0 < L)  (hne : ¬ bc = L)
    (c9 : w.cell? ⟨m, 9, none⟩ = some (.slice (some ⟨bb, 0, none⟩) L bc))
    (hrun : ∀ ty, (Builtin.append_ #[28, 23] ty #[.slice (some ⟨bb, 0, none⟩) L bc, .int .u32 0]).run Try.prog w = .ok (.slice (some ⟨bb, 0, none⟩) L bc) w)
    (b9 : w.cell? ⟨m, 9, none⟩ = some (.slice (some ⟨bb, 0, none⟩) L bc)) (bf : w.frozen? ⟨m, 9, none⟩ = false)
    (d9 : (w.setCell ⟨m, 9, none⟩ (.slice (some ⟨bb, 0, none⟩) L bc)).cell? ⟨m, 9, none⟩ = some (.slice (some ⟨bb, 0, none⟩) L bc)) (d8 : (w.setCell ⟨m, 9, none⟩ (.slice (some ⟨bb, 0, none⟩) L bc)).cell? ⟨m, 8, none⟩ = some (.slice (some ⟨gb, 0, none⟩) GL gc)) (d1 : (w.setCell ⟨m, 9, none⟩ (.slice (some ⟨bb, 0, none⟩) L bc)).cell? ⟨m, 1, none⟩ = some (.int .u32 L)) :
    Calls Try.prog 45 #[.pointer (some ⟨m, 0, none⟩), .int .u32 L] w fun e w' => e = .returned (.tuple #[]) ∧ Below (w.setCell ⟨m, 9, none⟩ (.slice (some ⟨bb, 0, none⟩) L bc)).heap.size (w.setCell ⟨m, 9, none⟩ (.slice (some ⟨bb, 0, none⟩) L bc)) w' := by
  have HS := hidden (size_any m L bc (some ⟨bb, 0, none⟩) w c9 (by omega))
  have HR := hidden (fun w' (q8 : w'.cell? ⟨m, 8, none⟩ = some (.slice (some ⟨gb, 0, none⟩) GL gc)) (q1 : w'.cell? ⟨m, 1, none⟩ = some (.int .u32 L)) => rom_any m gb GL gc L w' q8 q1 (by omega) hGc)
  have HRUN := hidden hrun
  have hw : IntKind.u32.wrap ((L : Int) - (L : Int)) = 0 := by rw [IntKind.wrap_u32]; omega
  have q0 : (L : Int) ≤ (L : Int) := by omega
  have q1 : (L : Int) ≤ (L : Int) := by omega
  have q3 : ¬ gc = L := by omega
  have q4 : L ≤ gc := by omega
  have q5 : L ≤ bc := by omega
  have q6 : L ≤ bc := by omega
  have q7 : ¬ bc = L := by omega
  have q8 : L ≤ L := by omega
  have q9 : (L : Int) ≤ (L : Int) := by omega
  clear hrun
  go_enter Try.func45, Try.ntmps45
  go_wp2_with (first | (go_at_call 36; refine HS.out.mono ?_; rintro e w9 ⟨rfl, e9⟩; rw [e9]; clear e9) | (at_builtin; refine Lib.wpList_append_run _ rfl (.tmp 18) (.tmp 21) 28 23 rfl _ _ rfl rfl _ _ (HRUN.out _) ?_) | fail)
  generalize hw2 : (w.setCell ⟨m, 9, none⟩ (.slice (some ⟨bb, 0, none⟩) L bc)) = w2 at *
  have HW2 := hidden hw2
  clear hw2
  go_region_held3 (fun w' => w'.cell? ⟨m, 9, none⟩ = some (.slice (some ⟨bb, 0, none⟩) L bc) ∧ w'.cell? ⟨m, 1, none⟩ = some (.int .u32 L)) (first | assumption | exact ⟨by assumption, by assumption⟩ | go_keep) (first | (go_at_call 53; refine (HR.out w2.drew d8 d1).mono ?_; rintro e w9 ⟨rfl, hb9⟩; have k9 := cellLater hb9 d9; have k8 := cellLater hb9 d1) | (refine step_copy0 rfl (.tmp 32) (.tmp 45) rfl (by simp [Act.eval]; exact ⟨_, _, ⟨rfl, rfl⟩, _, _, ⟨rfl, rfl⟩, (by first | exact .inl rfl | simp)⟩) ?_) | fail)
  all_goals (try go_wp2)
  all_goals (refine bodyPost_end (v := .tuple #[]) (by simp [results, Try.results45, go_sem]) rfl ⟨rfl, ?_⟩)
  all_goals (rw [HW2.out])
  all_goals (first | exact ⟨hb9.os, hb9.tape, hb9.output, hb9.size, hb9.block⟩ | fail)

theorem endAt_4e (m gb GL gc L x bc bb : Nat) (w : World) (hL : L ≤ 1048576) (hX : x ≤ 1048576) (hbc : L ≤ bc) (hRG : x < GL) (hGc : GL ≤ gc) (hr0 : 0 < x)  (hlx : x < L)
    (c9 : w.cell? ⟨m, 9, none⟩ = some (.slice (some ⟨bb, 0, none⟩) L bc))
    (hrun : ∀ ty, (Builtin.append_ #[28, 23] ty #[.slice (some ⟨bb, 0, none⟩) x bc, .int .u32 0]).run Try.prog w = .ok (.slice (some ⟨bb, 0, none⟩) x bc) w)
    (b9 : w.cell? ⟨m, 9, none⟩ = some (.slice (some ⟨bb, 0, none⟩) L bc)) (bf : w.frozen? ⟨m, 9, none⟩ = false)
    (d9 : (w.setCell ⟨m, 9, none⟩ (.slice (some ⟨bb, 0, none⟩) x bc)).cell? ⟨m, 9, none⟩ = some (.slice (some ⟨bb, 0, none⟩) x bc)) (d8 : (w.setCell ⟨m, 9, none⟩ (.slice (some ⟨bb, 0, none⟩) x bc)).cell? ⟨m, 8, none⟩ = some (.slice (some ⟨gb, 0, none⟩) GL gc)) (d1 : (w.setCell ⟨m, 9, none⟩ (.slice (some ⟨bb, 0, none⟩) x bc)).cell? ⟨m, 1, none⟩ = some (.int .u32 x)) :
    Calls Try.prog 45 #[.pointer (some ⟨m, 0, none⟩), .int .u32 x] w fun e w' => e = .returned (.tuple #[]) ∧ Below (w.setCell ⟨m, 9, none⟩ (.slice (some ⟨bb, 0, none⟩) x bc)).heap.size (w.setCell ⟨m, 9, none⟩ (.slice (some ⟨bb, 0, none⟩) x bc)) w' := by
  have HS := hidden (size_any m L bc (some ⟨bb, 0, none⟩) w c9 (by omega))
  have HR := hidden (fun w' (q8 : w'.cell? ⟨m, 8, none⟩ = some (.slice (some ⟨gb, 0, none⟩) GL gc)) (q1 : w'.cell? ⟨m, 1, none⟩ = some (.int .u32 x)) => rom_any m gb GL gc x w' q8 q1 (by omega) hGc)
  have HRUN := hidden hrun
  have hw : IntKind.u32.wrap ((x : Int) - (x : Int)) = 0 := by rw [IntKind.wrap_u32]; omega
  have q0 : (x : Int) ≤ (x : Int) := by omega
  have q1 : (x : Int) ≤ (L : Int) := by omega
  have q3 : ¬ gc = x := by omega
  have q4 : x ≤ gc := by omega
  have q5 : x ≤ bc := by omega
  have q6 : x ≤ bc := by omega
  have q7 : ¬ bc = x := by omega
  have q8 : x ≤ x := by omega
  have q9 : (x : Int) ≤ (x : Int) := by omega
  clear hrun
  go_enter Try.func45, Try.ntmps45
  go_wp2_with (first | (go_at_call 36; refine HS.out.mono ?_; rintro e w9 ⟨rfl, e9⟩; rw [e9]; clear e9) | (at_builtin; refine Lib.wpList_append_run _ rfl (.tmp 18) (.tmp 21) 28 23 rfl _ _ rfl rfl _ _ (HRUN.out _) ?_) | fail)
  generalize hw2 : (w.setCell ⟨m, 9, none⟩ (.slice (some ⟨bb, 0, none⟩) x bc)) = w2 at *
  have HW2 := hidden hw2
  clear hw2
  go_region_held3 (fun w' => w'.cell? ⟨m, 9, none⟩ = some (.slice (some ⟨bb, 0, none⟩) x bc) ∧ w'.cell? ⟨m, 1, none⟩ = some (.int .u32 x)) (first | assumption | exact ⟨by assumption, by assumption⟩ | go_keep) (first | (go_at_call 53; refine (HR.out w2.drew d8 d1).mono ?_; rintro e w9 ⟨rfl, hb9⟩; have k9 := cellLater hb9 d9; have k8 := cellLater hb9 d1) | (refine step_copy0 rfl (.tmp 32) (.tmp 45) rfl (by simp [Act.eval]; exact ⟨_, _, ⟨rfl, rfl⟩, _, _, ⟨rfl, rfl⟩, (by first | exact .inl rfl | simp)⟩) ?_) | fail)
  all_goals (try go_wp2)
  all_goals (refine bodyPost_end (v := .tuple #[]) (by simp [results, Try.results45, go_sem]) rfl ⟨rfl, ?_⟩)
  all_goals (rw [HW2.out])
  all_goals (first | exact ⟨hb9.os, hb9.tape, hb9.output, hb9.size, hb9.block⟩ | fail)

end Go.Proofs.Ytmebjbnglndfcaa
