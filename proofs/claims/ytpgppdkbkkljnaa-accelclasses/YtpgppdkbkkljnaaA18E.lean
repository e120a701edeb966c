/- Layer 18: objectOf, by leaves. Layer 18: objectOf, further leaves. Layer 18: of, by leaves. Layer 18: addr, length, by leaves. -/
import Derived.Test.YtpgppdkbkkljnaaA18A
namespace Go.Proofs.Ytpgppdkbkkljnaa
open Go.RowKit
set_option maxHeartbeats 1000000
set_option maxRecDepth 100000
set_option linter.unusedVariables false

theorem obj_1 (j : Jb) (m pb po pc : Nat) (w : World) (J : JAt w j m (some ⟨pb, po, none⟩)) (a b : Nat) (c : Bool) (s e : Int) (h2 : b = j.p 2) (c1 : ∀ w, JAt w j m (some ⟨pb, po, none⟩) → Calls Try.prog 80 #[.agg #[.pointer (some ⟨m, 0, none⟩), .slice (some ⟨pb, po, none⟩) 9 pc, .int .u32 j.att], .int .u32 (a : Nat)] w fun r w' => r = .returned (.tuple #[.bool c, .agg #[.int .i64 s, .int .i64 e]]) ∧ Below w.heap.size w w') :
    Calls Try.prog 70 #[.agg #[.pointer (some ⟨m, 0, none⟩), .slice (some ⟨pb, po, none⟩) 9 pc, .int .u32 j.att], .int .u32 (a : Nat), .int .u32 (b : Nat)] w fun r w' => r = .returned (.tuple #[.bool c, .agg #[.int .i64 s, .int .i64 e]]) ∧ Below w.heap.size w w' := by
  have Hc1 := hidden c1
  have q2 : ((b : Int) == ((j.p 2 : Nat) : Int)) = true := by rw [h2]; simp
  clear h2
  clear c1
  have HX := hidden (Bx2.start w m (some ⟨pb, po, none⟩) pc j.att)
  go_enter Try.func70, Try.ntmps70
  go_upto_region 1 with fail
  generalize (w.alloc (.cells #[.pointer (some ⟨m, 0, none⟩), .slice (some ⟨pb, po, none⟩) 9 pc, .int .u32 j.att] 94)).alloc (.cells #[.int .i64 0, .int .i64 0] 91) = w1 at *
  have HJ := hidden (J.later HX.out.bel)
  obtain ⟨a0, a1, a2, b0, b1, f0, f1⟩ := HX.out.cells
  have p2 := HJ.out.cell 2 (by omega)
  go_wp2_with (first | (go_at_call 80; (with_reducible refine (Hc1.out _ HJ.out).mono ?_); rintro e w99 ⟨rfl, hb99⟩; have HX9 := hidden (HX.out.call hb99); have HF := hidden (HX9.out.fin (s) (e)); clear hb99; obtain ⟨a0, a1, a2, b0, b1, f0, f1⟩ := HX9.out.cells) | fail)
  all_goals
    go_wp2
    obtain ⟨d0, d1, _⟩ := HF.out.1.cells
    refine bodyPost_ret (v := .tuple #[.bool c, .agg #[.int .i64 (s), .int .i64 (e)]]) (by simp [results, Try.results70, go_sem, d0, d1]) rfl ⟨?_, HF.out.2⟩
    rfl
theorem obj_2 (j : Jb) (m pb po pc : Nat) (w : World) (J : JAt w j m (some ⟨pb, po, none⟩)) (a b : Nat) (h2 : ¬ b = j.p 2) (h3 : b = j.p 3) (c1 : ∀ w, JAt w j m (some ⟨pb, po, none⟩) → Calls Try.prog 80 #[.agg #[.pointer (some ⟨m, 0, none⟩), .slice (some ⟨pb, po, none⟩) 9 pc, .int .u32 j.att], .int .u32 (a : Nat)] w fun r w' => r = .returned (.tuple #[.bool true, .agg #[.int .i64 0, .int .i64 0]]) ∧ Below w.heap.size w w') :
    Calls Try.prog 70 #[.agg #[.pointer (some ⟨m, 0, none⟩), .slice (some ⟨pb, po, none⟩) 9 pc, .int .u32 j.att], .int .u32 (a : Nat), .int .u32 (b : Nat)] w fun r w' => r = .returned (.tuple #[.bool false, .agg #[.int .i64 0, .int .i64 0]]) ∧ Below w.heap.size w w' := by
  have Hc1 := hidden c1
  have q2 : ((b : Int) == ((j.p 2 : Nat) : Int)) = false := by rw [beq_eq_false_iff_ne]; omega
  have q3 : ((b : Int) == ((j.p 3 : Nat) : Int)) = true := by rw [h3]; simp
  clear h2 h3
  clear c1
  have HX := hidden (Bx2.start w m (some ⟨pb, po, none⟩) pc j.att)
  go_enter Try.func70, Try.ntmps70
  go_upto_region 1 with fail
  generalize (w.alloc (.cells #[.pointer (some ⟨m, 0, none⟩), .slice (some ⟨pb, po, none⟩) 9 pc, .int .u32 j.att] 94)).alloc (.cells #[.int .i64 0, .int .i64 0] 91) = w1 at *
  have HJ := hidden (J.later HX.out.bel)
  obtain ⟨a0, a1, a2, b0, b1, f0, f1⟩ := HX.out.cells
  have p2 := HJ.out.cell 2 (by omega)
  have p3 := HJ.out.cell 3 (by omega)
  go_upto_region 6 with (first | (go_at_call 80; (with_reducible refine (Hc1.out _ HJ.out).mono ?_); rintro e w2 ⟨rfl, hb2⟩; replace HX := hidden (HX.out.call hb2); replace HJ := hidden (HJ.out.later hb2); clear a0 a1 a2 b0 b1 f0 f1; obtain ⟨a0, a1, a2, b0, b1, f0, f1⟩ := HX.out.cells; clear hb2) | fail)
  replace HX := hidden (HX.out.new (0) (0))
  replace HJ := hidden (HJ.out.later ((Below.refl _ _).alloc (Nat.le_refl _) (.cells #[.int .i64 (0), .int .i64 (0)] 91)))
  clear a0 a1 a2 b0 b1 f0 f1
  change Code.wp _ _ _ _ (w2.alloc (.cells #[.int .i64 (0), .int .i64 (0)] 91))
  generalize w2.alloc (.cells #[.int .i64 (0), .int .i64 (0)] 91) = w3 at *
  generalize w2.heap.size = H3 at *
  obtain ⟨a0, a1, a2, b0, b1, f0, f1⟩ := HX.out.b2.cells
  obtain ⟨h0, h1, g0, g1⟩ := HX.out.cells
  have HXD := hidden (HX.out.call ((Below.refl _ _).drew))
  have HF := hidden (HX.out.b2.find (0) (0))
  clear HXD
  (first | (go_region_with (fail)) | fail)
  all_goals
    go_wp2
    generalize ((w3.setCell ⟨w.heap.size + 1, 0, none⟩ (.int .i64 (0))).setCell ⟨w.heap.size + 1, 1, none⟩ (.int .i64 (0))).drew = w98 at *
    obtain ⟨d0, d1, _⟩ := HF.out.1.cells
    refine bodyPost_ret (v := .tuple #[.bool false, .agg #[.int .i64 (0), .int .i64 (0)]]) (by simp [results, Try.results70, go_sem, d0, d1]) rfl ⟨?_, HF.out.2⟩
    rfl
theorem obj_3 (j : Jb) (m pb po pc : Nat) (w : World) (J : JAt w j m (some ⟨pb, po, none⟩)) (a b : Nat) (h2 : ¬ b = j.p 2) (h3 : b = j.p 3) (c1 : ∀ w, JAt w j m (some ⟨pb, po, none⟩) → Calls Try.prog 80 #[.agg #[.pointer (some ⟨m, 0, none⟩), .slice (some ⟨pb, po, none⟩) 9 pc, .int .u32 j.att], .int .u32 (a : Nat)] w fun r w' => r = .returned (.tuple #[.bool false, .agg #[.int .i64 0, .int .i64 0]]) ∧ Below w.heap.size w w') :
    Calls Try.prog 70 #[.agg #[.pointer (some ⟨m, 0, none⟩), .slice (some ⟨pb, po, none⟩) 9 pc, .int .u32 j.att], .int .u32 (a : Nat), .int .u32 (b : Nat)] w fun r w' => r = .returned (.tuple #[.bool true, .agg #[.int .i64 0, .int .i64 0]]) ∧ Below w.heap.size w w' := by
  have Hc1 := hidden c1
  have q2 : ((b : Int) == ((j.p 2 : Nat) : Int)) = false := by rw [beq_eq_false_iff_ne]; omega
  have q3 : ((b : Int) == ((j.p 3 : Nat) : Int)) = true := by rw [h3]; simp
  clear h2 h3
  clear c1
  have HX := hidden (Bx2.start w m (some ⟨pb, po, none⟩) pc j.att)
  go_enter Try.func70, Try.ntmps70
  go_upto_region 1 with fail
  generalize (w.alloc (.cells #[.pointer (some ⟨m, 0, none⟩), .slice (some ⟨pb, po, none⟩) 9 pc, .int .u32 j.att] 94)).alloc (.cells #[.int .i64 0, .int .i64 0] 91) = w1 at *
  have HJ := hidden (J.later HX.out.bel)
  obtain ⟨a0, a1, a2, b0, b1, f0, f1⟩ := HX.out.cells
  have p2 := HJ.out.cell 2 (by omega)
  have p3 := HJ.out.cell 3 (by omega)
  go_upto_region 6 with (first | (go_at_call 80; (with_reducible refine (Hc1.out _ HJ.out).mono ?_); rintro e w2 ⟨rfl, hb2⟩; replace HX := hidden (HX.out.call hb2); replace HJ := hidden (HJ.out.later hb2); clear a0 a1 a2 b0 b1 f0 f1; obtain ⟨a0, a1, a2, b0, b1, f0, f1⟩ := HX.out.cells; clear hb2) | fail)
  replace HX := hidden (HX.out.new (0) (0))
  replace HJ := hidden (HJ.out.later ((Below.refl _ _).alloc (Nat.le_refl _) (.cells #[.int .i64 (0), .int .i64 (0)] 91)))
  clear a0 a1 a2 b0 b1 f0 f1
  change Code.wp _ _ _ _ (w2.alloc (.cells #[.int .i64 (0), .int .i64 (0)] 91))
  generalize w2.alloc (.cells #[.int .i64 (0), .int .i64 (0)] 91) = w3 at *
  generalize w2.heap.size = H3 at *
  obtain ⟨a0, a1, a2, b0, b1, f0, f1⟩ := HX.out.b2.cells
  obtain ⟨h0, h1, g0, g1⟩ := HX.out.cells
  have HXD := hidden (HX.out.call ((Below.refl _ _).drew))
  go_region_held3 (fun w' => w'.cell? ⟨w.heap.size, 0, none⟩ = some (.pointer (some ⟨m, 0, none⟩)) ∧ w'.cell? ⟨w.heap.size, 1, none⟩ = some (.slice (some ⟨pb, po, none⟩) 9 pc) ∧ w'.cell? ⟨w.heap.size, 2, none⟩ = some (.int .u32 j.att) ∧ w'.cell? ⟨H3, 0, none⟩ = some (.int .i64 (0)) ∧ w'.cell? ⟨H3, 1, none⟩ = some (.int .i64 (0))) (first | (refine ⟨?_, ?_, ?_, ?_, ?_⟩ <;> with_reducible assumption) | go_keep) (first | (go_at_call 66; (with_reducible refine (ends_good _).mono ?_); rintro e w99 ⟨rfl, hb99⟩; have HX9 := hidden (HXD.out.call hb99); have HF := hidden (HX9.out.b2.fin (0) (0)); obtain ⟨a0, a1, a2, b0, b1, f0, f1⟩ := HX9.out.b2.cells; obtain ⟨h0, h1, g0, g1⟩ := HX9.out.cells; obtain ⟨k0, k1, k2, k3, k4⟩ := HX9.out.fink (0) (0); clear hb99) | fail)
  all_goals
    go_wp2
    obtain ⟨d0, d1, _⟩ := HF.out.1.cells
    refine bodyPost_ret (v := .tuple #[.bool true, .agg #[.int .i64 (0), .int .i64 (0)]]) (by simp [results, Try.results70, go_sem, d0, d1]) rfl ⟨?_, HF.out.2⟩
    rfl
theorem obj_4 (j : Jb) (m pb po pc : Nat) (w : World) (J : JAt w j m (some ⟨pb, po, none⟩)) (a b : Nat) (s e : Int) (hne : ¬ (s = 0 ∧ e = 0)) (h2 : ¬ b = j.p 2) (h3 : b = j.p 3) (c1 : ∀ w, JAt w j m (some ⟨pb, po, none⟩) → Calls Try.prog 80 #[.agg #[.pointer (some ⟨m, 0, none⟩), .slice (some ⟨pb, po, none⟩) 9 pc, .int .u32 j.att], .int .u32 (a : Nat)] w fun r w' => r = .returned (.tuple #[.bool false, .agg #[.int .i64 s, .int .i64 e]]) ∧ Below w.heap.size w w') :
    Calls Try.prog 70 #[.agg #[.pointer (some ⟨m, 0, none⟩), .slice (some ⟨pb, po, none⟩) 9 pc, .int .u32 j.att], .int .u32 (a : Nat), .int .u32 (b : Nat)] w fun r w' => r = .returned (.tuple #[.bool false, .agg #[.int .i64 s, .int .i64 e]]) ∧ Below w.heap.size w w' := by
  have Hc1 := hidden c1
  have q2 : ((b : Int) == ((j.p 2 : Nat) : Int)) = false := by rw [beq_eq_false_iff_ne]; omega
  have q3 : ((b : Int) == ((j.p 3 : Nat) : Int)) = true := by rw [h3]; simp
  clear h2 h3
  clear c1
  have HX := hidden (Bx2.start w m (some ⟨pb, po, none⟩) pc j.att)
  go_enter Try.func70, Try.ntmps70
  go_upto_region 1 with fail
  generalize (w.alloc (.cells #[.pointer (some ⟨m, 0, none⟩), .slice (some ⟨pb, po, none⟩) 9 pc, .int .u32 j.att] 94)).alloc (.cells #[.int .i64 0, .int .i64 0] 91) = w1 at *
  have HJ := hidden (J.later HX.out.bel)
  obtain ⟨a0, a1, a2, b0, b1, f0, f1⟩ := HX.out.cells
  have p2 := HJ.out.cell 2 (by omega)
  have p3 := HJ.out.cell 3 (by omega)
  go_upto_region 6 with (first | (go_at_call 80; (with_reducible refine (Hc1.out _ HJ.out).mono ?_); rintro e w2 ⟨rfl, hb2⟩; replace HX := hidden (HX.out.call hb2); replace HJ := hidden (HJ.out.later hb2); clear a0 a1 a2 b0 b1 f0 f1; obtain ⟨a0, a1, a2, b0, b1, f0, f1⟩ := HX.out.cells; clear hb2) | fail)
  replace HX := hidden (HX.out.new (s) (e))
  replace HJ := hidden (HJ.out.later ((Below.refl _ _).alloc (Nat.le_refl _) (.cells #[.int .i64 (s), .int .i64 (e)] 91)))
  clear a0 a1 a2 b0 b1 f0 f1
  change Code.wp _ _ _ _ (w2.alloc (.cells #[.int .i64 (s), .int .i64 (e)] 91))
  generalize w2.alloc (.cells #[.int .i64 (s), .int .i64 (e)] 91) = w3 at *
  generalize w2.heap.size = H3 at *
  obtain ⟨a0, a1, a2, b0, b1, f0, f1⟩ := HX.out.b2.cells
  obtain ⟨h0, h1, g0, g1⟩ := HX.out.cells
  have HXD := hidden (HX.out.call ((Below.refl _ _).drew))
  go_region_held3 (fun w' => w'.cell? ⟨w.heap.size, 0, none⟩ = some (.pointer (some ⟨m, 0, none⟩)) ∧ w'.cell? ⟨w.heap.size, 1, none⟩ = some (.slice (some ⟨pb, po, none⟩) 9 pc) ∧ w'.cell? ⟨w.heap.size, 2, none⟩ = some (.int .u32 j.att) ∧ w'.cell? ⟨H3, 0, none⟩ = some (.int .i64 (s)) ∧ w'.cell? ⟨H3, 1, none⟩ = some (.int .i64 (e))) (first | (refine ⟨?_, ?_, ?_, ?_, ?_⟩ <;> with_reducible assumption) | go_keep) (first | (go_at_call 66; (with_reducible refine (ends_bad hne _).mono ?_); rintro e w99 ⟨rfl, hb99⟩; have HX9 := hidden (HXD.out.call hb99); have HF := hidden (HX9.out.b2.fin (s) (e)); obtain ⟨a0, a1, a2, b0, b1, f0, f1⟩ := HX9.out.b2.cells; obtain ⟨h0, h1, g0, g1⟩ := HX9.out.cells; obtain ⟨k0, k1, k2, k3, k4⟩ := HX9.out.fink (s) (e); clear hb99) | fail)
  all_goals
    go_wp2
    obtain ⟨d0, d1, _⟩ := HF.out.1.cells
    refine bodyPost_ret (v := .tuple #[.bool false, .agg #[.int .i64 (s), .int .i64 (e)]]) (by simp [results, Try.results70, go_sem, d0, d1]) rfl ⟨?_, HF.out.2⟩
    rfl
theorem obj_5 (j : Jb) (m pb po pc : Nat) (w : World) (J : JAt w j m (some ⟨pb, po, none⟩)) (a b : Nat) (h2 : ¬ b = j.p 2) (h3 : ¬ b = j.p 3) (h5 : b = j.p 5)  :
    Calls Try.prog 70 #[.agg #[.pointer (some ⟨m, 0, none⟩), .slice (some ⟨pb, po, none⟩) 9 pc, .int .u32 j.att], .int .u32 (a : Nat), .int .u32 (b : Nat)] w fun r w' => r = .returned (.tuple #[.bool false, .agg #[.int .i64 0, .int .i64 0]]) ∧ Below w.heap.size w w' := by
  have q2 : ((b : Int) == ((j.p 2 : Nat) : Int)) = false := by rw [beq_eq_false_iff_ne]; omega
  have q3 : ((b : Int) == ((j.p 3 : Nat) : Int)) = false := by rw [beq_eq_false_iff_ne]; omega
  have q5 : ((b : Int) == ((j.p 5 : Nat) : Int)) = true := by rw [h5]; simp
  clear h2 h3 h5
  have HX := hidden (Bx2.start w m (some ⟨pb, po, none⟩) pc j.att)
  go_enter Try.func70, Try.ntmps70
  go_upto_region 1 with fail
  generalize (w.alloc (.cells #[.pointer (some ⟨m, 0, none⟩), .slice (some ⟨pb, po, none⟩) 9 pc, .int .u32 j.att] 94)).alloc (.cells #[.int .i64 0, .int .i64 0] 91) = w1 at *
  have HJ := hidden (J.later HX.out.bel)
  obtain ⟨a0, a1, a2, b0, b1, f0, f1⟩ := HX.out.cells
  have p2 := HJ.out.cell 2 (by omega)
  have p3 := HJ.out.cell 3 (by omega)
  have p5 := HJ.out.cell 5 (by omega)
  have p4 := HJ.out.cell 4 (by omega)
  have HF := hidden (HX.out.fin (0) (0))
  all_goals
    go_wp2
    obtain ⟨d0, d1, _⟩ := HF.out.1.cells
    refine bodyPost_ret (v := .tuple #[.bool false, .agg #[.int .i64 (0), .int .i64 (0)]]) (by simp [results, Try.results70, go_sem, d0, d1]) rfl ⟨?_, HF.out.2⟩
    rfl
theorem obj_6 (j : Jb) (m pb po pc : Nat) (w : World) (J : JAt w j m (some ⟨pb, po, none⟩)) (a b : Nat) (h2 : ¬ b = j.p 2) (h3 : ¬ b = j.p 3) (h5 : ¬ b = j.p 5) (h4 : b = j.p 4)  :
    Calls Try.prog 70 #[.agg #[.pointer (some ⟨m, 0, none⟩), .slice (some ⟨pb, po, none⟩) 9 pc, .int .u32 j.att], .int .u32 (a : Nat), .int .u32 (b : Nat)] w fun r w' => r = .returned (.tuple #[.bool false, .agg #[.int .i64 0, .int .i64 0]]) ∧ Below w.heap.size w w' := by
  have q2 : ((b : Int) == ((j.p 2 : Nat) : Int)) = false := by rw [beq_eq_false_iff_ne]; omega
  have q3 : ((b : Int) == ((j.p 3 : Nat) : Int)) = false := by rw [beq_eq_false_iff_ne]; omega
  have q5 : ((b : Int) == ((j.p 5 : Nat) : Int)) = false := by rw [beq_eq_false_iff_ne]; omega
  have q4 : ((b : Int) == ((j.p 4 : Nat) : Int)) = true := by rw [h4]; simp
  clear h2 h3 h5 h4
  have HX := hidden (Bx2.start w m (some ⟨pb, po, none⟩) pc j.att)
  go_enter Try.func70, Try.ntmps70
  go_upto_region 1 with fail
  generalize (w.alloc (.cells #[.pointer (some ⟨m, 0, none⟩), .slice (some ⟨pb, po, none⟩) 9 pc, .int .u32 j.att] 94)).alloc (.cells #[.int .i64 0, .int .i64 0] 91) = w1 at *
  have HJ := hidden (J.later HX.out.bel)
  obtain ⟨a0, a1, a2, b0, b1, f0, f1⟩ := HX.out.cells
  have p2 := HJ.out.cell 2 (by omega)
  have p3 := HJ.out.cell 3 (by omega)
  have p5 := HJ.out.cell 5 (by omega)
  have p4 := HJ.out.cell 4 (by omega)
  have HF := hidden (HX.out.fin (0) (0))
  all_goals
    go_wp2
    obtain ⟨d0, d1, _⟩ := HF.out.1.cells
    refine bodyPost_ret (v := .tuple #[.bool false, .agg #[.int .i64 (0), .int .i64 (0)]]) (by simp [results, Try.results70, go_sem, d0, d1]) rfl ⟨?_, HF.out.2⟩
    rfl
end Go.Proofs.Ytpgppdkbkkljnaa
namespace Go.Proofs.Ytpgppdkbkkljnaa
open Go.RowKit
set_option maxHeartbeats 1000000
set_option maxRecDepth 100000
set_option linter.unusedVariables false

theorem obj_7 (j : Jb) (m pb po pc : Nat) (w : World) (J : JAt w j m (some ⟨pb, po, none⟩)) (a b : Nat) (s e : Int) (hne : ¬ (s = 0 ∧ e = 0)) (h2 : ¬ b = j.p 2) (h3 : ¬ b = j.p 3) (h5 : ¬ b = j.p 5) (h4 : ¬ b = j.p 4) (c1 : ∀ w, JAt w j m (some ⟨pb, po, none⟩) → Calls Try.prog 81 #[.agg #[.pointer (some ⟨m, 0, none⟩), .slice (some ⟨pb, po, none⟩) 9 pc, .int .u32 j.att], .int .u32 (b : Nat)] w fun r w' => r = .returned (.tuple #[.bool false, .agg #[.int .i64 s, .int .i64 e]]) ∧ Below w.heap.size w w') :
    Calls Try.prog 70 #[.agg #[.pointer (some ⟨m, 0, none⟩), .slice (some ⟨pb, po, none⟩) 9 pc, .int .u32 j.att], .int .u32 (a : Nat), .int .u32 (b : Nat)] w fun r w' => r = .returned (.tuple #[.bool false, .agg #[.int .i64 s, .int .i64 e]]) ∧ Below w.heap.size w w' := by
  have Hc1 := hidden c1
  have q2 : ((b : Int) == ((j.p 2 : Nat) : Int)) = false := by rw [beq_eq_false_iff_ne]; omega
  have q3 : ((b : Int) == ((j.p 3 : Nat) : Int)) = false := by rw [beq_eq_false_iff_ne]; omega
  have q5 : ((b : Int) == ((j.p 5 : Nat) : Int)) = false := by rw [beq_eq_false_iff_ne]; omega
  have q4 : ((b : Int) == ((j.p 4 : Nat) : Int)) = false := by rw [beq_eq_false_iff_ne]; omega
  clear h2 h3 h5 h4
  clear c1
  have HX := hidden (Bx2.start w m (some ⟨pb, po, none⟩) pc j.att)
  go_enter Try.func70, Try.ntmps70
  go_upto_region 1 with fail
  generalize (w.alloc (.cells #[.pointer (some ⟨m, 0, none⟩), .slice (some ⟨pb, po, none⟩) 9 pc, .int .u32 j.att] 94)).alloc (.cells #[.int .i64 0, .int .i64 0] 91) = w1 at *
  have HJ := hidden (J.later HX.out.bel)
  obtain ⟨a0, a1, a2, b0, b1, f0, f1⟩ := HX.out.cells
  have p2 := HJ.out.cell 2 (by omega)
  have p3 := HJ.out.cell 3 (by omega)
  have p5 := HJ.out.cell 5 (by omega)
  have p4 := HJ.out.cell 4 (by omega)
  go_upto_region 11 with (first | (go_at_call 81; (with_reducible refine (Hc1.out _ HJ.out).mono ?_); rintro e w2 ⟨rfl, hb2⟩; replace HX := hidden (HX.out.call hb2); replace HJ := hidden (HJ.out.later hb2); clear a0 a1 a2 b0 b1 f0 f1; obtain ⟨a0, a1, a2, b0, b1, f0, f1⟩ := HX.out.cells; clear hb2) | fail)
  replace HX := hidden (HX.out.new (s) (e))
  replace HJ := hidden (HJ.out.later ((Below.refl _ _).alloc (Nat.le_refl _) (.cells #[.int .i64 (s), .int .i64 (e)] 91)))
  clear a0 a1 a2 b0 b1 f0 f1
  change Code.wp _ _ _ _ (w2.alloc (.cells #[.int .i64 (s), .int .i64 (e)] 91))
  generalize w2.alloc (.cells #[.int .i64 (s), .int .i64 (e)] 91) = w3 at *
  generalize w2.heap.size = H3 at *
  obtain ⟨a0, a1, a2, b0, b1, f0, f1⟩ := HX.out.b2.cells
  obtain ⟨h0, h1, g0, g1⟩ := HX.out.cells
  go_upto_region 12 with (first | (go_at_call 66; (with_reducible refine (ends_bad hne _).mono ?_); rintro e w4 ⟨rfl, hb4⟩; replace HX := hidden (HX.out.call hb4); replace HJ := hidden (HJ.out.later hb4); clear a0 a1 a2 b0 b1 f0 f1; clear h0 h1 g0 g1; obtain ⟨a0, a1, a2, b0, b1, f0, f1⟩ := HX.out.b2.cells; obtain ⟨h0, h1, g0, g1⟩ := HX.out.cells; clear hb4) | fail)
  have HXD := hidden (HX.out.call ((Below.refl _ _).drew))
  have HF := hidden (HX.out.b2.find (s) (e))
  clear HXD
  (first | (go_region_with (fail)) | fail)
  all_goals
    go_wp2
    generalize ((w4.setCell ⟨w.heap.size + 1, 0, none⟩ (.int .i64 (s))).setCell ⟨w.heap.size + 1, 1, none⟩ (.int .i64 (e))).drew = w98 at *
    obtain ⟨d0, d1, _⟩ := HF.out.1.cells
    refine bodyPost_ret (v := .tuple #[.bool false, .agg #[.int .i64 (s), .int .i64 (e)]]) (by simp [results, Try.results70, go_sem, d0, d1]) rfl ⟨?_, HF.out.2⟩
    rfl
theorem obj_8 (j : Jb) (m pb po pc : Nat) (w : World) (J : JAt w j m (some ⟨pb, po, none⟩)) (a b : Nat) (h2 : ¬ b = j.p 2) (h3 : ¬ b = j.p 3) (h5 : ¬ b = j.p 5) (h4 : ¬ b = j.p 4) (c1 : ∀ w, JAt w j m (some ⟨pb, po, none⟩) → Calls Try.prog 81 #[.agg #[.pointer (some ⟨m, 0, none⟩), .slice (some ⟨pb, po, none⟩) 9 pc, .int .u32 j.att], .int .u32 (b : Nat)] w fun r w' => r = .returned (.tuple #[.bool false, .agg #[.int .i64 0, .int .i64 0]]) ∧ Below w.heap.size w w') :
    Calls Try.prog 70 #[.agg #[.pointer (some ⟨m, 0, none⟩), .slice (some ⟨pb, po, none⟩) 9 pc, .int .u32 j.att], .int .u32 (a : Nat), .int .u32 (b : Nat)] w fun r w' => r = .returned (.tuple #[.bool false, .agg #[.int .i64 2, .int .i64 0]]) ∧ Below w.heap.size w w' := by
  have Hc1 := hidden c1
  have q2 : ((b : Int) == ((j.p 2 : Nat) : Int)) = false := by rw [beq_eq_false_iff_ne]; omega
  have q3 : ((b : Int) == ((j.p 3 : Nat) : Int)) = false := by rw [beq_eq_false_iff_ne]; omega
  have q5 : ((b : Int) == ((j.p 5 : Nat) : Int)) = false := by rw [beq_eq_false_iff_ne]; omega
  have q4 : ((b : Int) == ((j.p 4 : Nat) : Int)) = false := by rw [beq_eq_false_iff_ne]; omega
  clear h2 h3 h5 h4
  clear c1
  have HX := hidden (Bx2.start w m (some ⟨pb, po, none⟩) pc j.att)
  go_enter Try.func70, Try.ntmps70
  go_upto_region 1 with fail
  generalize (w.alloc (.cells #[.pointer (some ⟨m, 0, none⟩), .slice (some ⟨pb, po, none⟩) 9 pc, .int .u32 j.att] 94)).alloc (.cells #[.int .i64 0, .int .i64 0] 91) = w1 at *
  have HJ := hidden (J.later HX.out.bel)
  obtain ⟨a0, a1, a2, b0, b1, f0, f1⟩ := HX.out.cells
  have p2 := HJ.out.cell 2 (by omega)
  have p3 := HJ.out.cell 3 (by omega)
  have p5 := HJ.out.cell 5 (by omega)
  have p4 := HJ.out.cell 4 (by omega)
  go_upto_region 11 with (first | (go_at_call 81; (with_reducible refine (Hc1.out _ HJ.out).mono ?_); rintro e w2 ⟨rfl, hb2⟩; replace HX := hidden (HX.out.call hb2); replace HJ := hidden (HJ.out.later hb2); clear a0 a1 a2 b0 b1 f0 f1; obtain ⟨a0, a1, a2, b0, b1, f0, f1⟩ := HX.out.cells; clear hb2) | fail)
  replace HX := hidden (HX.out.new (0) (0))
  replace HJ := hidden (HJ.out.later ((Below.refl _ _).alloc (Nat.le_refl _) (.cells #[.int .i64 (0), .int .i64 (0)] 91)))
  clear a0 a1 a2 b0 b1 f0 f1
  change Code.wp _ _ _ _ (w2.alloc (.cells #[.int .i64 (0), .int .i64 (0)] 91))
  generalize w2.alloc (.cells #[.int .i64 (0), .int .i64 (0)] 91) = w3 at *
  generalize w2.heap.size = H3 at *
  obtain ⟨a0, a1, a2, b0, b1, f0, f1⟩ := HX.out.b2.cells
  obtain ⟨h0, h1, g0, g1⟩ := HX.out.cells
  go_upto_region 13 with (first | (go_at_call 66; (with_reducible refine (ends_good _).mono ?_); rintro e w4 ⟨rfl, hb4⟩; replace HX := hidden (HX.out.call hb4); replace HJ := hidden (HJ.out.later hb4); clear a0 a1 a2 b0 b1 f0 f1; clear h0 h1 g0 g1; obtain ⟨a0, a1, a2, b0, b1, f0, f1⟩ := HX.out.b2.cells; obtain ⟨h0, h1, g0, g1⟩ := HX.out.cells; clear hb4) | fail)
  have HF := hidden (HX.out.b2.fin (2) (0))
  all_goals
    go_wp2
    obtain ⟨d0, d1, _⟩ := HF.out.1.cells
    refine bodyPost_ret (v := .tuple #[.bool false, .agg #[.int .i64 (2), .int .i64 (0)]]) (by simp [results, Try.results70, go_sem, d0, d1]) rfl ⟨?_, HF.out.2⟩
    rfl
theorem obj_9 (j : Jb) (m pb po pc : Nat) (w : World) (J : JAt w j m (some ⟨pb, po, none⟩)) (a b : Nat) (c : Bool) (s e : Int) (h2 : ¬ b = j.p 2) (h3 : ¬ b = j.p 3) (h5 : ¬ b = j.p 5) (h4 : ¬ b = j.p 4) (c1 : ∀ w, JAt w j m (some ⟨pb, po, none⟩) → Calls Try.prog 81 #[.agg #[.pointer (some ⟨m, 0, none⟩), .slice (some ⟨pb, po, none⟩) 9 pc, .int .u32 j.att], .int .u32 (b : Nat)] w fun r w' => r = .returned (.tuple #[.bool true, .agg #[.int .i64 0, .int .i64 0]]) ∧ Below w.heap.size w w') (c2 : ∀ w, JAt w j m (some ⟨pb, po, none⟩) → Calls Try.prog 82 #[.agg #[.pointer (some ⟨m, 0, none⟩), .slice (some ⟨pb, po, none⟩) 9 pc, .int .u32 j.att], .int .u32 (a : Nat), .int .u32 (b : Nat)] w fun r w' => r = .returned (.tuple #[.bool c, .agg #[.int .i64 s, .int .i64 e]]) ∧ Below w.heap.size w w') :
    Calls Try.prog 70 #[.agg #[.pointer (some ⟨m, 0, none⟩), .slice (some ⟨pb, po, none⟩) 9 pc, .int .u32 j.att], .int .u32 (a : Nat), .int .u32 (b : Nat)] w fun r w' => r = .returned (.tuple #[.bool c, .agg #[.int .i64 s, .int .i64 e]]) ∧ Below w.heap.size w w' := by
  have Hc1 := hidden c1
  have Hc2 := hidden c2
  have q2 : ((b : Int) == ((j.p 2 : Nat) : Int)) = false := by rw [beq_eq_false_iff_ne]; omega
  have q3 : ((b : Int) == ((j.p 3 : Nat) : Int)) = false := by rw [beq_eq_false_iff_ne]; omega
  have q5 : ((b : Int) == ((j.p 5 : Nat) : Int)) = false := by rw [beq_eq_false_iff_ne]; omega
  have q4 : ((b : Int) == ((j.p 4 : Nat) : Int)) = false := by rw [beq_eq_false_iff_ne]; omega
  clear h2 h3 h5 h4
  clear c1 c2
  have HX := hidden (Bx2.start w m (some ⟨pb, po, none⟩) pc j.att)
  go_enter Try.func70, Try.ntmps70
  go_upto_region 1 with fail
  generalize (w.alloc (.cells #[.pointer (some ⟨m, 0, none⟩), .slice (some ⟨pb, po, none⟩) 9 pc, .int .u32 j.att] 94)).alloc (.cells #[.int .i64 0, .int .i64 0] 91) = w1 at *
  have HJ := hidden (J.later HX.out.bel)
  obtain ⟨a0, a1, a2, b0, b1, f0, f1⟩ := HX.out.cells
  have p2 := HJ.out.cell 2 (by omega)
  have p3 := HJ.out.cell 3 (by omega)
  have p5 := HJ.out.cell 5 (by omega)
  have p4 := HJ.out.cell 4 (by omega)
  go_upto_region 11 with (first | (go_at_call 81; (with_reducible refine (Hc1.out _ HJ.out).mono ?_); rintro e w2 ⟨rfl, hb2⟩; replace HX := hidden (HX.out.call hb2); replace HJ := hidden (HJ.out.later hb2); clear a0 a1 a2 b0 b1 f0 f1; obtain ⟨a0, a1, a2, b0, b1, f0, f1⟩ := HX.out.cells; clear hb2) | fail)
  replace HX := hidden (HX.out.new (0) (0))
  replace HJ := hidden (HJ.out.later ((Below.refl _ _).alloc (Nat.le_refl _) (.cells #[.int .i64 (0), .int .i64 (0)] 91)))
  clear a0 a1 a2 b0 b1 f0 f1
  change Code.wp _ _ _ _ (w2.alloc (.cells #[.int .i64 (0), .int .i64 (0)] 91))
  generalize w2.alloc (.cells #[.int .i64 (0), .int .i64 (0)] 91) = w3 at *
  generalize w2.heap.size = H3 at *
  obtain ⟨a0, a1, a2, b0, b1, f0, f1⟩ := HX.out.b2.cells
  obtain ⟨h0, h1, g0, g1⟩ := HX.out.cells
  go_upto_region 13 with (first | (go_at_call 66; (with_reducible refine (ends_good _).mono ?_); rintro e w4 ⟨rfl, hb4⟩; replace HX := hidden (HX.out.call hb4); replace HJ := hidden (HJ.out.later hb4); clear a0 a1 a2 b0 b1 f0 f1; clear h0 h1 g0 g1; obtain ⟨a0, a1, a2, b0, b1, f0, f1⟩ := HX.out.b2.cells; obtain ⟨h0, h1, g0, g1⟩ := HX.out.cells; clear hb4) | fail)
  go_wp2_with (first | (go_at_call 82; (with_reducible refine (Hc2.out _ HJ.out).mono ?_); rintro e w99 ⟨rfl, hb99⟩; have HX9 := hidden (HX.out.call hb99); have HF := hidden (HX9.out.b2.fin (s) (e)); clear hb99; obtain ⟨a0, a1, a2, b0, b1, f0, f1⟩ := HX9.out.b2.cells) | fail)
  all_goals
    go_wp2
    obtain ⟨d0, d1, _⟩ := HF.out.1.cells
    refine bodyPost_ret (v := .tuple #[.bool c, .agg #[.int .i64 (s), .int .i64 (e)]]) (by simp [results, Try.results70, go_sem, d0, d1]) rfl ⟨?_, HF.out.2⟩
    rfl
end Go.Proofs.Ytpgppdkbkkljnaa
namespace Go.Proofs.Ytpgppdkbkkljnaa
open Go.RowKit
set_option maxHeartbeats 1000000
set_option maxRecDepth 100000
set_option linter.unusedVariables false

theorem of_1t (j : Jb) (m pb po pc : Nat) (w : World) (J : JAt w j m (some ⟨pb, po, none⟩)) (a b : Nat) (h5 : b = j.p 5) (c1 : ∀ w, JAt w j m (some ⟨pb, po, none⟩) → Calls Try.prog 48 #[.agg #[.pointer (some ⟨m, 0, none⟩), .slice (some ⟨pb, po, none⟩) 9 pc, .int .u32 j.att], .int .u32 (a : Nat)] w fun r w' => r = .returned (.int .u32 3) ∧ Below w.heap.size w w') :
    Calls Try.prog 52 #[.agg #[.pointer (some ⟨m, 0, none⟩), .slice (some ⟨pb, po, none⟩) 9 pc, .int .u32 j.att], .int .u32 (a : Nat), .int .u32 (b : Nat)] w fun r w' => r = .returned (.tuple #[.int .u32 1, .agg #[.int .i64 0, .int .i64 0]]) ∧ Below w.heap.size w w' := by
  have Hc1 := hidden c1
  have q5 : ((b : Int) == ((j.p 5 : Nat) : Int)) = true := by rw [h5]; simp
  clear h5
  clear c1
  have HX := hidden (Bx2.start w m (some ⟨pb, po, none⟩) pc j.att)
  go_enter Try.func52, Try.ntmps52
  go_upto_region 1 with fail
  generalize (w.alloc (.cells #[.pointer (some ⟨m, 0, none⟩), .slice (some ⟨pb, po, none⟩) 9 pc, .int .u32 j.att] 94)).alloc (.cells #[.int .i64 0, .int .i64 0] 91) = w1 at *
  have HJ := hidden (J.later HX.out.bel)
  obtain ⟨a0, a1, a2, b0, b1, f0, f1⟩ := HX.out.cells
  go_upto_region 2 with (first | (go_at_call 48; (with_reducible refine (Hc1.out _ HJ.out).mono ?_); rintro e w2 ⟨rfl, hb2⟩; replace HX := hidden (HX.out.call hb2); replace HJ := hidden (HJ.out.later hb2); clear a0 a1 a2 b0 b1 f0 f1; obtain ⟨a0, a1, a2, b0, b1, f0, f1⟩ := HX.out.cells; clear hb2) | fail)
  have p5 := HJ.out.cell 5 (by omega)
  go_wp2_with (first | (go_at_call 69; (with_reducible refine (one_t _).mono ?_); rintro e w99 ⟨rfl, hb99⟩; have HX9 := hidden (HX.out.call hb99); have HF := hidden (HX9.out.fin (0) (0)); clear hb99; obtain ⟨a0, a1, a2, b0, b1, f0, f1⟩ := HX9.out.cells) | fail)
  all_goals
    go_wp2
    obtain ⟨d0, d1, _⟩ := HF.out.1.cells
    refine bodyPost_ret (v := .tuple #[.int .u32 1, .agg #[.int .i64 (0), .int .i64 (0)]]) (by simp [results, Try.results52, go_sem, d0, d1]) rfl ⟨?_, HF.out.2⟩
    rfl
theorem of_1f (j : Jb) (m pb po pc : Nat) (w : World) (J : JAt w j m (some ⟨pb, po, none⟩)) (a b : Nat) (h5 : ¬ b = j.p 5) (c1 : ∀ w, JAt w j m (some ⟨pb, po, none⟩) → Calls Try.prog 48 #[.agg #[.pointer (some ⟨m, 0, none⟩), .slice (some ⟨pb, po, none⟩) 9 pc, .int .u32 j.att], .int .u32 (a : Nat)] w fun r w' => r = .returned (.int .u32 3) ∧ Below w.heap.size w w') :
    Calls Try.prog 52 #[.agg #[.pointer (some ⟨m, 0, none⟩), .slice (some ⟨pb, po, none⟩) 9 pc, .int .u32 j.att], .int .u32 (a : Nat), .int .u32 (b : Nat)] w fun r w' => r = .returned (.tuple #[.int .u32 0, .agg #[.int .i64 0, .int .i64 0]]) ∧ Below w.heap.size w w' := by
  have Hc1 := hidden c1
  have q5 : ((b : Int) == ((j.p 5 : Nat) : Int)) = false := by rw [beq_eq_false_iff_ne]; omega
  clear h5
  clear c1
  have HX := hidden (Bx2.start w m (some ⟨pb, po, none⟩) pc j.att)
  go_enter Try.func52, Try.ntmps52
  go_upto_region 1 with fail
  generalize (w.alloc (.cells #[.pointer (some ⟨m, 0, none⟩), .slice (some ⟨pb, po, none⟩) 9 pc, .int .u32 j.att] 94)).alloc (.cells #[.int .i64 0, .int .i64 0] 91) = w1 at *
  have HJ := hidden (J.later HX.out.bel)
  obtain ⟨a0, a1, a2, b0, b1, f0, f1⟩ := HX.out.cells
  go_upto_region 2 with (first | (go_at_call 48; (with_reducible refine (Hc1.out _ HJ.out).mono ?_); rintro e w2 ⟨rfl, hb2⟩; replace HX := hidden (HX.out.call hb2); replace HJ := hidden (HJ.out.later hb2); clear a0 a1 a2 b0 b1 f0 f1; obtain ⟨a0, a1, a2, b0, b1, f0, f1⟩ := HX.out.cells; clear hb2) | fail)
  have p5 := HJ.out.cell 5 (by omega)
  go_wp2_with (first | (go_at_call 69; (with_reducible refine (one_f _).mono ?_); rintro e w99 ⟨rfl, hb99⟩; have HX9 := hidden (HX.out.call hb99); have HF := hidden (HX9.out.fin (0) (0)); clear hb99; obtain ⟨a0, a1, a2, b0, b1, f0, f1⟩ := HX9.out.cells) | fail)
  all_goals
    go_wp2
    obtain ⟨d0, d1, _⟩ := HF.out.1.cells
    refine bodyPost_ret (v := .tuple #[.int .u32 0, .agg #[.int .i64 (0), .int .i64 (0)]]) (by simp [results, Try.results52, go_sem, d0, d1]) rfl ⟨?_, HF.out.2⟩
    rfl
theorem of_2t (j : Jb) (m pb po pc : Nat) (w : World) (J : JAt w j m (some ⟨pb, po, none⟩)) (a b : Nat) (h4 : b = j.p 4) (c1 : ∀ w, JAt w j m (some ⟨pb, po, none⟩) → Calls Try.prog 48 #[.agg #[.pointer (some ⟨m, 0, none⟩), .slice (some ⟨pb, po, none⟩) 9 pc, .int .u32 j.att], .int .u32 (a : Nat)] w fun r w' => r = .returned (.int .u32 2) ∧ Below w.heap.size w w') :
    Calls Try.prog 52 #[.agg #[.pointer (some ⟨m, 0, none⟩), .slice (some ⟨pb, po, none⟩) 9 pc, .int .u32 j.att], .int .u32 (a : Nat), .int .u32 (b : Nat)] w fun r w' => r = .returned (.tuple #[.int .u32 1, .agg #[.int .i64 0, .int .i64 0]]) ∧ Below w.heap.size w w' := by
  have Hc1 := hidden c1
  have q4 : ((b : Int) == ((j.p 4 : Nat) : Int)) = true := by rw [h4]; simp
  clear h4
  clear c1
  have HX := hidden (Bx2.start w m (some ⟨pb, po, none⟩) pc j.att)
  go_enter Try.func52, Try.ntmps52
  go_upto_region 1 with fail
  generalize (w.alloc (.cells #[.pointer (some ⟨m, 0, none⟩), .slice (some ⟨pb, po, none⟩) 9 pc, .int .u32 j.att] 94)).alloc (.cells #[.int .i64 0, .int .i64 0] 91) = w1 at *
  have HJ := hidden (J.later HX.out.bel)
  obtain ⟨a0, a1, a2, b0, b1, f0, f1⟩ := HX.out.cells
  go_upto_region 2 with (first | (go_at_call 48; (with_reducible refine (Hc1.out _ HJ.out).mono ?_); rintro e w2 ⟨rfl, hb2⟩; replace HX := hidden (HX.out.call hb2); replace HJ := hidden (HJ.out.later hb2); clear a0 a1 a2 b0 b1 f0 f1; obtain ⟨a0, a1, a2, b0, b1, f0, f1⟩ := HX.out.cells; clear hb2) | fail)
  have p4 := HJ.out.cell 4 (by omega)
  go_wp2_with (first | (go_at_call 69; (with_reducible refine (one_t _).mono ?_); rintro e w99 ⟨rfl, hb99⟩; have HX9 := hidden (HX.out.call hb99); have HF := hidden (HX9.out.fin (0) (0)); clear hb99; obtain ⟨a0, a1, a2, b0, b1, f0, f1⟩ := HX9.out.cells) | fail)
  all_goals
    go_wp2
    obtain ⟨d0, d1, _⟩ := HF.out.1.cells
    refine bodyPost_ret (v := .tuple #[.int .u32 1, .agg #[.int .i64 (0), .int .i64 (0)]]) (by simp [results, Try.results52, go_sem, d0, d1]) rfl ⟨?_, HF.out.2⟩
    rfl
theorem of_2f (j : Jb) (m pb po pc : Nat) (w : World) (J : JAt w j m (some ⟨pb, po, none⟩)) (a b : Nat) (h4 : ¬ b = j.p 4) (c1 : ∀ w, JAt w j m (some ⟨pb, po, none⟩) → Calls Try.prog 48 #[.agg #[.pointer (some ⟨m, 0, none⟩), .slice (some ⟨pb, po, none⟩) 9 pc, .int .u32 j.att], .int .u32 (a : Nat)] w fun r w' => r = .returned (.int .u32 2) ∧ Below w.heap.size w w') :
    Calls Try.prog 52 #[.agg #[.pointer (some ⟨m, 0, none⟩), .slice (some ⟨pb, po, none⟩) 9 pc, .int .u32 j.att], .int .u32 (a : Nat), .int .u32 (b : Nat)] w fun r w' => r = .returned (.tuple #[.int .u32 0, .agg #[.int .i64 0, .int .i64 0]]) ∧ Below w.heap.size w w' := by
  have Hc1 := hidden c1
  have q4 : ((b : Int) == ((j.p 4 : Nat) : Int)) = false := by rw [beq_eq_false_iff_ne]; omega
  clear h4
  clear c1
  have HX := hidden (Bx2.start w m (some ⟨pb, po, none⟩) pc j.att)
  go_enter Try.func52, Try.ntmps52
  go_upto_region 1 with fail
  generalize (w.alloc (.cells #[.pointer (some ⟨m, 0, none⟩), .slice (some ⟨pb, po, none⟩) 9 pc, .int .u32 j.att] 94)).alloc (.cells #[.int .i64 0, .int .i64 0] 91) = w1 at *
  have HJ := hidden (J.later HX.out.bel)
  obtain ⟨a0, a1, a2, b0, b1, f0, f1⟩ := HX.out.cells
  go_upto_region 2 with (first | (go_at_call 48; (with_reducible refine (Hc1.out _ HJ.out).mono ?_); rintro e w2 ⟨rfl, hb2⟩; replace HX := hidden (HX.out.call hb2); replace HJ := hidden (HJ.out.later hb2); clear a0 a1 a2 b0 b1 f0 f1; obtain ⟨a0, a1, a2, b0, b1, f0, f1⟩ := HX.out.cells; clear hb2) | fail)
  have p4 := HJ.out.cell 4 (by omega)
  go_wp2_with (first | (go_at_call 69; (with_reducible refine (one_f _).mono ?_); rintro e w99 ⟨rfl, hb99⟩; have HX9 := hidden (HX.out.call hb99); have HF := hidden (HX9.out.fin (0) (0)); clear hb99; obtain ⟨a0, a1, a2, b0, b1, f0, f1⟩ := HX9.out.cells) | fail)
  all_goals
    go_wp2
    obtain ⟨d0, d1, _⟩ := HF.out.1.cells
    refine bodyPost_ret (v := .tuple #[.int .u32 0, .agg #[.int .i64 (0), .int .i64 (0)]]) (by simp [results, Try.results52, go_sem, d0, d1]) rfl ⟨?_, HF.out.2⟩
    rfl
theorem of_3t (j : Jb) (m pb po pc : Nat) (w : World) (J : JAt w j m (some ⟨pb, po, none⟩)) (a b : Nat) (c1 : ∀ w, JAt w j m (some ⟨pb, po, none⟩) → Calls Try.prog 48 #[.agg #[.pointer (some ⟨m, 0, none⟩), .slice (some ⟨pb, po, none⟩) 9 pc, .int .u32 j.att], .int .u32 (a : Nat)] w fun r w' => r = .returned (.int .u32 1) ∧ Below w.heap.size w w') (c2 : ∀ w, JAt w j m (some ⟨pb, po, none⟩) → Calls Try.prog 70 #[.agg #[.pointer (some ⟨m, 0, none⟩), .slice (some ⟨pb, po, none⟩) 9 pc, .int .u32 j.att], .int .u32 (a : Nat), .int .u32 (b : Nat)] w fun r w' => r = .returned (.tuple #[.bool true, .agg #[.int .i64 0, .int .i64 0]]) ∧ Below w.heap.size w w') :
    Calls Try.prog 52 #[.agg #[.pointer (some ⟨m, 0, none⟩), .slice (some ⟨pb, po, none⟩) 9 pc, .int .u32 j.att], .int .u32 (a : Nat), .int .u32 (b : Nat)] w fun r w' => r = .returned (.tuple #[.int .u32 1, .agg #[.int .i64 0, .int .i64 0]]) ∧ Below w.heap.size w w' := by
  have Hc1 := hidden c1
  have Hc2 := hidden c2
  clear c1 c2
  have HX := hidden (Bx2.start w m (some ⟨pb, po, none⟩) pc j.att)
  go_enter Try.func52, Try.ntmps52
  go_upto_region 1 with fail
  generalize (w.alloc (.cells #[.pointer (some ⟨m, 0, none⟩), .slice (some ⟨pb, po, none⟩) 9 pc, .int .u32 j.att] 94)).alloc (.cells #[.int .i64 0, .int .i64 0] 91) = w1 at *
  have HJ := hidden (J.later HX.out.bel)
  obtain ⟨a0, a1, a2, b0, b1, f0, f1⟩ := HX.out.cells
  go_upto_region 2 with (first | (go_at_call 48; (with_reducible refine (Hc1.out _ HJ.out).mono ?_); rintro e w2 ⟨rfl, hb2⟩; replace HX := hidden (HX.out.call hb2); replace HJ := hidden (HJ.out.later hb2); clear a0 a1 a2 b0 b1 f0 f1; obtain ⟨a0, a1, a2, b0, b1, f0, f1⟩ := HX.out.cells; clear hb2) | fail)
  go_upto_region 8 with (first | (go_at_call 70; (with_reducible refine (Hc2.out _ HJ.out).mono ?_); rintro e w3 ⟨rfl, hb3⟩; replace HX := hidden (HX.out.call hb3); replace HJ := hidden (HJ.out.later hb3); clear a0 a1 a2 b0 b1 f0 f1; obtain ⟨a0, a1, a2, b0, b1, f0, f1⟩ := HX.out.cells; clear hb3) | fail)
  replace HX := hidden (HX.out.new (0) (0))
  replace HJ := hidden (HJ.out.later ((Below.refl _ _).alloc (Nat.le_refl _) (.cells #[.int .i64 (0), .int .i64 (0)] 91)))
  clear a0 a1 a2 b0 b1 f0 f1
  change Code.wp _ _ _ _ (w3.alloc (.cells #[.int .i64 (0), .int .i64 (0)] 91))
  generalize w3.alloc (.cells #[.int .i64 (0), .int .i64 (0)] 91) = w4 at *
  generalize w3.heap.size = H4 at *
  obtain ⟨a0, a1, a2, b0, b1, f0, f1⟩ := HX.out.b2.cells
  obtain ⟨h0, h1, g0, g1⟩ := HX.out.cells
  have HXD := hidden (HX.out.call ((Below.refl _ _).drew))
  go_region_held3 (fun w' => w'.cell? ⟨w.heap.size, 0, none⟩ = some (.pointer (some ⟨m, 0, none⟩)) ∧ w'.cell? ⟨w.heap.size, 1, none⟩ = some (.slice (some ⟨pb, po, none⟩) 9 pc) ∧ w'.cell? ⟨w.heap.size, 2, none⟩ = some (.int .u32 j.att) ∧ w'.cell? ⟨H4, 0, none⟩ = some (.int .i64 (0)) ∧ w'.cell? ⟨H4, 1, none⟩ = some (.int .i64 (0))) (first | (refine ⟨?_, ?_, ?_, ?_, ?_⟩ <;> with_reducible assumption) | go_keep) (first | (go_at_call 69; (with_reducible refine (one_t _).mono ?_); rintro e w99 ⟨rfl, hb99⟩; have HX9 := hidden (HXD.out.call hb99); have HF := hidden (HX9.out.b2.fin (0) (0)); obtain ⟨a0, a1, a2, b0, b1, f0, f1⟩ := HX9.out.b2.cells; obtain ⟨h0, h1, g0, g1⟩ := HX9.out.cells; obtain ⟨k0, k1, k2, k3, k4⟩ := HX9.out.fink (0) (0); clear hb99) | fail)
  all_goals
    go_wp2
    obtain ⟨d0, d1, _⟩ := HF.out.1.cells
    refine bodyPost_ret (v := .tuple #[.int .u32 1, .agg #[.int .i64 (0), .int .i64 (0)]]) (by simp [results, Try.results52, go_sem, d0, d1]) rfl ⟨?_, HF.out.2⟩
    rfl
theorem of_3f (j : Jb) (m pb po pc : Nat) (w : World) (J : JAt w j m (some ⟨pb, po, none⟩)) (a b : Nat) (s e : Int) (c1 : ∀ w, JAt w j m (some ⟨pb, po, none⟩) → Calls Try.prog 48 #[.agg #[.pointer (some ⟨m, 0, none⟩), .slice (some ⟨pb, po, none⟩) 9 pc, .int .u32 j.att], .int .u32 (a : Nat)] w fun r w' => r = .returned (.int .u32 1) ∧ Below w.heap.size w w') (c2 : ∀ w, JAt w j m (some ⟨pb, po, none⟩) → Calls Try.prog 70 #[.agg #[.pointer (some ⟨m, 0, none⟩), .slice (some ⟨pb, po, none⟩) 9 pc, .int .u32 j.att], .int .u32 (a : Nat), .int .u32 (b : Nat)] w fun r w' => r = .returned (.tuple #[.bool false, .agg #[.int .i64 s, .int .i64 e]]) ∧ Below w.heap.size w w') :
    Calls Try.prog 52 #[.agg #[.pointer (some ⟨m, 0, none⟩), .slice (some ⟨pb, po, none⟩) 9 pc, .int .u32 j.att], .int .u32 (a : Nat), .int .u32 (b : Nat)] w fun r w' => r = .returned (.tuple #[.int .u32 0, .agg #[.int .i64 s, .int .i64 e]]) ∧ Below w.heap.size w w' := by
  have Hc1 := hidden c1
  have Hc2 := hidden c2
  clear c1 c2
  have HX := hidden (Bx2.start w m (some ⟨pb, po, none⟩) pc j.att)
  go_enter Try.func52, Try.ntmps52
  go_upto_region 1 with fail
  generalize (w.alloc (.cells #[.pointer (some ⟨m, 0, none⟩), .slice (some ⟨pb, po, none⟩) 9 pc, .int .u32 j.att] 94)).alloc (.cells #[.int .i64 0, .int .i64 0] 91) = w1 at *
  have HJ := hidden (J.later HX.out.bel)
  obtain ⟨a0, a1, a2, b0, b1, f0, f1⟩ := HX.out.cells
  go_upto_region 2 with (first | (go_at_call 48; (with_reducible refine (Hc1.out _ HJ.out).mono ?_); rintro e w2 ⟨rfl, hb2⟩; replace HX := hidden (HX.out.call hb2); replace HJ := hidden (HJ.out.later hb2); clear a0 a1 a2 b0 b1 f0 f1; obtain ⟨a0, a1, a2, b0, b1, f0, f1⟩ := HX.out.cells; clear hb2) | fail)
  go_upto_region 8 with (first | (go_at_call 70; (with_reducible refine (Hc2.out _ HJ.out).mono ?_); rintro e w3 ⟨rfl, hb3⟩; replace HX := hidden (HX.out.call hb3); replace HJ := hidden (HJ.out.later hb3); clear a0 a1 a2 b0 b1 f0 f1; obtain ⟨a0, a1, a2, b0, b1, f0, f1⟩ := HX.out.cells; clear hb3) | fail)
  replace HX := hidden (HX.out.new (s) (e))
  replace HJ := hidden (HJ.out.later ((Below.refl _ _).alloc (Nat.le_refl _) (.cells #[.int .i64 (s), .int .i64 (e)] 91)))
  clear a0 a1 a2 b0 b1 f0 f1
  change Code.wp _ _ _ _ (w3.alloc (.cells #[.int .i64 (s), .int .i64 (e)] 91))
  generalize w3.alloc (.cells #[.int .i64 (s), .int .i64 (e)] 91) = w4 at *
  generalize w3.heap.size = H4 at *
  obtain ⟨a0, a1, a2, b0, b1, f0, f1⟩ := HX.out.b2.cells
  obtain ⟨h0, h1, g0, g1⟩ := HX.out.cells
  have HXD := hidden (HX.out.call ((Below.refl _ _).drew))
  go_region_held3 (fun w' => w'.cell? ⟨w.heap.size, 0, none⟩ = some (.pointer (some ⟨m, 0, none⟩)) ∧ w'.cell? ⟨w.heap.size, 1, none⟩ = some (.slice (some ⟨pb, po, none⟩) 9 pc) ∧ w'.cell? ⟨w.heap.size, 2, none⟩ = some (.int .u32 j.att) ∧ w'.cell? ⟨H4, 0, none⟩ = some (.int .i64 (s)) ∧ w'.cell? ⟨H4, 1, none⟩ = some (.int .i64 (e))) (first | (refine ⟨?_, ?_, ?_, ?_, ?_⟩ <;> with_reducible assumption) | go_keep) (first | (go_at_call 69; (with_reducible refine (one_f _).mono ?_); rintro e w99 ⟨rfl, hb99⟩; have HX9 := hidden (HXD.out.call hb99); have HF := hidden (HX9.out.b2.fin (s) (e)); obtain ⟨a0, a1, a2, b0, b1, f0, f1⟩ := HX9.out.b2.cells; obtain ⟨h0, h1, g0, g1⟩ := HX9.out.cells; obtain ⟨k0, k1, k2, k3, k4⟩ := HX9.out.fink (s) (e); clear hb99) | fail)
  all_goals
    go_wp2
    obtain ⟨d0, d1, _⟩ := HF.out.1.cells
    refine bodyPost_ret (v := .tuple #[.int .u32 0, .agg #[.int .i64 (s), .int .i64 (e)]]) (by simp [results, Try.results52, go_sem, d0, d1]) rfl ⟨?_, HF.out.2⟩
    rfl
theorem of_0 (j : Jb) (m pb po pc : Nat) (w : World) (J : JAt w j m (some ⟨pb, po, none⟩)) (a b : Nat) (c1 : ∀ w, JAt w j m (some ⟨pb, po, none⟩) → Calls Try.prog 48 #[.agg #[.pointer (some ⟨m, 0, none⟩), .slice (some ⟨pb, po, none⟩) 9 pc, .int .u32 j.att], .int .u32 (a : Nat)] w fun r w' => r = .returned (.int .u32 0) ∧ Below w.heap.size w w') :
    Calls Try.prog 52 #[.agg #[.pointer (some ⟨m, 0, none⟩), .slice (some ⟨pb, po, none⟩) 9 pc, .int .u32 j.att], .int .u32 (a : Nat), .int .u32 (b : Nat)] w fun r w' => r = .returned (.tuple #[.int .u32 0, .agg #[.int .i64 0, .int .i64 0]]) ∧ Below w.heap.size w w' := by
  have Hc1 := hidden c1
  clear c1
  have HX := hidden (Bx2.start w m (some ⟨pb, po, none⟩) pc j.att)
  go_enter Try.func52, Try.ntmps52
  go_upto_region 1 with fail
  generalize (w.alloc (.cells #[.pointer (some ⟨m, 0, none⟩), .slice (some ⟨pb, po, none⟩) 9 pc, .int .u32 j.att] 94)).alloc (.cells #[.int .i64 0, .int .i64 0] 91) = w1 at *
  have HJ := hidden (J.later HX.out.bel)
  obtain ⟨a0, a1, a2, b0, b1, f0, f1⟩ := HX.out.cells
  go_upto_region 2 with (first | (go_at_call 48; (with_reducible refine (Hc1.out _ HJ.out).mono ?_); rintro e w2 ⟨rfl, hb2⟩; replace HX := hidden (HX.out.call hb2); replace HJ := hidden (HJ.out.later hb2); clear a0 a1 a2 b0 b1 f0 f1; obtain ⟨a0, a1, a2, b0, b1, f0, f1⟩ := HX.out.cells; clear hb2) | fail)
  have HF := hidden (HX.out.fin (0) (0))
  all_goals
    go_wp2
    obtain ⟨d0, d1, _⟩ := HF.out.1.cells
    refine bodyPost_ret (v := .tuple #[.int .u32 0, .agg #[.int .i64 (0), .int .i64 (0)]]) (by simp [results, Try.results52, go_sem, d0, d1]) rfl ⟨?_, HF.out.2⟩
    rfl
end Go.Proofs.Ytpgppdkbkkljnaa
namespace Go.Proofs.Ytpgppdkbkkljnaa
open Go.RowKit
set_option maxHeartbeats 1000000
set_option maxRecDepth 100000
set_option linter.unusedVariables false

theorem adr_1 (j : Jb) (m pb po pc : Nat) (w : World) (J : JAt w j m (some ⟨pb, po, none⟩)) (a b x : Nat) (s e : Int) (hne : ¬ (s = 0 ∧ e = 0)) (c1 : ∀ w, JAt w j m (some ⟨pb, po, none⟩) → Calls Try.prog 68 #[.agg #[.pointer (some ⟨m, 0, none⟩), .slice (some ⟨pb, po, none⟩) 9 pc, .int .u32 j.att], .int .u32 (a : Nat), .int .u32 (b : Nat)] w fun r w' => r = .returned (.tuple #[.int .u32 (x : Nat), .agg #[.int .i64 s, .int .i64 e]]) ∧ Below w.heap.size w w') :
    Calls Try.prog 50 #[.agg #[.pointer (some ⟨m, 0, none⟩), .slice (some ⟨pb, po, none⟩) 9 pc, .int .u32 j.att], .int .u32 (a : Nat), .int .u32 (b : Nat)] w fun r w' => r = .returned (.tuple #[.int .u32 0, .agg #[.int .i64 s, .int .i64 e]]) ∧ Below w.heap.size w w' := by
  have Hc1 := hidden c1
  clear c1
  have HX := hidden (Bx2.start w m (some ⟨pb, po, none⟩) pc j.att)
  go_enter Try.func50, Try.ntmps50
  go_upto_region 1 with fail
  generalize (w.alloc (.cells #[.pointer (some ⟨m, 0, none⟩), .slice (some ⟨pb, po, none⟩) 9 pc, .int .u32 j.att] 94)).alloc (.cells #[.int .i64 0, .int .i64 0] 91) = w1 at *
  have HJ := hidden (J.later HX.out.bel)
  obtain ⟨a0, a1, a2, b0, b1, f0, f1⟩ := HX.out.cells
  go_upto_region 2 with (first | (go_at_call 68; (with_reducible refine (Hc1.out _ HJ.out).mono ?_); rintro e w2 ⟨rfl, hb2⟩; replace HX := hidden (HX.out.call hb2); replace HJ := hidden (HJ.out.later hb2); clear a0 a1 a2 b0 b1 f0 f1; obtain ⟨a0, a1, a2, b0, b1, f0, f1⟩ := HX.out.cells; clear hb2) | fail)
  replace HX := hidden (HX.out.new (s) (e))
  replace HJ := hidden (HJ.out.later ((Below.refl _ _).alloc (Nat.le_refl _) (.cells #[.int .i64 (s), .int .i64 (e)] 91)))
  clear a0 a1 a2 b0 b1 f0 f1
  change Code.wp _ _ _ _ (w2.alloc (.cells #[.int .i64 (s), .int .i64 (e)] 91))
  generalize w2.alloc (.cells #[.int .i64 (s), .int .i64 (e)] 91) = w3 at *
  generalize w2.heap.size = H3 at *
  obtain ⟨a0, a1, a2, b0, b1, f0, f1⟩ := HX.out.b2.cells
  obtain ⟨h0, h1, g0, g1⟩ := HX.out.cells
  go_upto_region 3 with (first | (go_at_call 66; (with_reducible refine (ends_bad hne _).mono ?_); rintro e w4 ⟨rfl, hb4⟩; replace HX := hidden (HX.out.call hb4); replace HJ := hidden (HJ.out.later hb4); clear a0 a1 a2 b0 b1 f0 f1; clear h0 h1 g0 g1; obtain ⟨a0, a1, a2, b0, b1, f0, f1⟩ := HX.out.b2.cells; obtain ⟨h0, h1, g0, g1⟩ := HX.out.cells; clear hb4) | fail)
  have HXD := hidden (HX.out.call ((Below.refl _ _).drew))
  have HF := hidden (HX.out.b2.find (s) (e))
  clear HXD
  (first | (go_region_with (fail)) | fail)
  all_goals
    go_wp2
    generalize ((w4.setCell ⟨w.heap.size + 1, 0, none⟩ (.int .i64 (s))).setCell ⟨w.heap.size + 1, 1, none⟩ (.int .i64 (e))).drew = w98 at *
    obtain ⟨d0, d1, _⟩ := HF.out.1.cells
    refine bodyPost_ret (v := .tuple #[.int .u32 0, .agg #[.int .i64 (s), .int .i64 (e)]]) (by simp [results, Try.results50, go_sem, d0, d1]) rfl ⟨?_, HF.out.2⟩
    rfl
theorem adr_2 (j : Jb) (m pb po pc : Nat) (w : World) (J : JAt w j m (some ⟨pb, po, none⟩)) (a b : Nat) (c1 : ∀ w, JAt w j m (some ⟨pb, po, none⟩) → Calls Try.prog 68 #[.agg #[.pointer (some ⟨m, 0, none⟩), .slice (some ⟨pb, po, none⟩) 9 pc, .int .u32 j.att], .int .u32 (a : Nat), .int .u32 (b : Nat)] w fun r w' => r = .returned (.tuple #[.int .u32 0, .agg #[.int .i64 0, .int .i64 0]]) ∧ Below w.heap.size w w') :
    Calls Try.prog 50 #[.agg #[.pointer (some ⟨m, 0, none⟩), .slice (some ⟨pb, po, none⟩) 9 pc, .int .u32 j.att], .int .u32 (a : Nat), .int .u32 (b : Nat)] w fun r w' => r = .returned (.tuple #[.int .u32 0, .agg #[.int .i64 0, .int .i64 0]]) ∧ Below w.heap.size w w' := by
  have Hc1 := hidden c1
  clear c1
  have HX := hidden (Bx2.start w m (some ⟨pb, po, none⟩) pc j.att)
  go_enter Try.func50, Try.ntmps50
  go_upto_region 1 with fail
  generalize (w.alloc (.cells #[.pointer (some ⟨m, 0, none⟩), .slice (some ⟨pb, po, none⟩) 9 pc, .int .u32 j.att] 94)).alloc (.cells #[.int .i64 0, .int .i64 0] 91) = w1 at *
  have HJ := hidden (J.later HX.out.bel)
  obtain ⟨a0, a1, a2, b0, b1, f0, f1⟩ := HX.out.cells
  go_upto_region 2 with (first | (go_at_call 68; (with_reducible refine (Hc1.out _ HJ.out).mono ?_); rintro e w2 ⟨rfl, hb2⟩; replace HX := hidden (HX.out.call hb2); replace HJ := hidden (HJ.out.later hb2); clear a0 a1 a2 b0 b1 f0 f1; obtain ⟨a0, a1, a2, b0, b1, f0, f1⟩ := HX.out.cells; clear hb2) | fail)
  replace HX := hidden (HX.out.new (0) (0))
  replace HJ := hidden (HJ.out.later ((Below.refl _ _).alloc (Nat.le_refl _) (.cells #[.int .i64 (0), .int .i64 (0)] 91)))
  clear a0 a1 a2 b0 b1 f0 f1
  change Code.wp _ _ _ _ (w2.alloc (.cells #[.int .i64 (0), .int .i64 (0)] 91))
  generalize w2.alloc (.cells #[.int .i64 (0), .int .i64 (0)] 91) = w3 at *
  generalize w2.heap.size = H3 at *
  obtain ⟨a0, a1, a2, b0, b1, f0, f1⟩ := HX.out.b2.cells
  obtain ⟨h0, h1, g0, g1⟩ := HX.out.cells
  go_upto_region 3 with (first | (go_at_call 66; (with_reducible refine (ends_good _).mono ?_); rintro e w4 ⟨rfl, hb4⟩; replace HX := hidden (HX.out.call hb4); replace HJ := hidden (HJ.out.later hb4); clear a0 a1 a2 b0 b1 f0 f1; clear h0 h1 g0 g1; obtain ⟨a0, a1, a2, b0, b1, f0, f1⟩ := HX.out.b2.cells; obtain ⟨h0, h1, g0, g1⟩ := HX.out.cells; clear hb4) | fail)
  have HXD := hidden (HX.out.call ((Below.refl _ _).drew))
  have HF := hidden (HX.out.b2.find (0) (0))
  clear HXD
  (first | (go_region_with (fail)) | fail)
  all_goals
    go_wp2
    generalize ((w4.setCell ⟨w.heap.size + 1, 0, none⟩ (.int .i64 (0))).setCell ⟨w.heap.size + 1, 1, none⟩ (.int .i64 (0))).drew = w98 at *
    obtain ⟨d0, d1, _⟩ := HF.out.1.cells
    refine bodyPost_ret (v := .tuple #[.int .u32 0, .agg #[.int .i64 (0), .int .i64 (0)]]) (by simp [results, Try.results50, go_sem, d0, d1]) rfl ⟨?_, HF.out.2⟩
    rfl
theorem adr_3 (j : Jb) (m pb po pc : Nat) (w : World) (J : JAt w j m (some ⟨pb, po, none⟩)) (a b x p4 y : Nat) (e : Int) (hx : ¬ x = 0) (e4 : ((x : Int) + 4) % 4294967296 = (p4 : Int)) (c1 : ∀ w, JAt w j m (some ⟨pb, po, none⟩) → Calls Try.prog 68 #[.agg #[.pointer (some ⟨m, 0, none⟩), .slice (some ⟨pb, po, none⟩) 9 pc, .int .u32 j.att], .int .u32 (a : Nat), .int .u32 (b : Nat)] w fun r w' => r = .returned (.tuple #[.int .u32 (x : Nat), .agg #[.int .i64 0, .int .i64 0]]) ∧ Below w.heap.size w w') (c2 : ∀ w, JAt w j m (some ⟨pb, po, none⟩) → Calls Try.prog 65 #[.agg #[.pointer (some ⟨m, 0, none⟩), .slice (some ⟨pb, po, none⟩) 9 pc, .int .u32 j.att], .int .u32 (p4 : Nat), .int .i64 4] w fun r w' => r = .returned (.tuple #[.int .u32 (y : Nat), .agg #[.int .i64 0, .int .i64 e]]) ∧ Below w.heap.size w w') :
    Calls Try.prog 50 #[.agg #[.pointer (some ⟨m, 0, none⟩), .slice (some ⟨pb, po, none⟩) 9 pc, .int .u32 j.att], .int .u32 (a : Nat), .int .u32 (b : Nat)] w fun r w' => r = .returned (.tuple #[.int .u32 (y : Nat), .agg #[.int .i64 0, .int .i64 e]]) ∧ Below w.heap.size w w' := by
  have Hc1 := hidden c1
  have Hc2 := hidden c2
  have q : ((x : Int) == 0) = false := by rw [beq_eq_false_iff_ne]; omega
  clear hx
  clear c1 c2
  have HX := hidden (Bx2.start w m (some ⟨pb, po, none⟩) pc j.att)
  go_enter Try.func50, Try.ntmps50
  go_upto_region 1 with fail
  generalize (w.alloc (.cells #[.pointer (some ⟨m, 0, none⟩), .slice (some ⟨pb, po, none⟩) 9 pc, .int .u32 j.att] 94)).alloc (.cells #[.int .i64 0, .int .i64 0] 91) = w1 at *
  have HJ := hidden (J.later HX.out.bel)
  obtain ⟨a0, a1, a2, b0, b1, f0, f1⟩ := HX.out.cells
  go_upto_region 2 with (first | (go_at_call 68; (with_reducible refine (Hc1.out _ HJ.out).mono ?_); rintro e w2 ⟨rfl, hb2⟩; replace HX := hidden (HX.out.call hb2); replace HJ := hidden (HJ.out.later hb2); clear a0 a1 a2 b0 b1 f0 f1; obtain ⟨a0, a1, a2, b0, b1, f0, f1⟩ := HX.out.cells; clear hb2) | fail)
  replace HX := hidden (HX.out.new (0) (0))
  replace HJ := hidden (HJ.out.later ((Below.refl _ _).alloc (Nat.le_refl _) (.cells #[.int .i64 (0), .int .i64 (0)] 91)))
  clear a0 a1 a2 b0 b1 f0 f1
  change Code.wp _ _ _ _ (w2.alloc (.cells #[.int .i64 (0), .int .i64 (0)] 91))
  generalize w2.alloc (.cells #[.int .i64 (0), .int .i64 (0)] 91) = w3 at *
  generalize w2.heap.size = H3 at *
  obtain ⟨a0, a1, a2, b0, b1, f0, f1⟩ := HX.out.b2.cells
  obtain ⟨h0, h1, g0, g1⟩ := HX.out.cells
  go_upto_region 4 with (first | (go_at_call 66; (with_reducible refine (ends_good _).mono ?_); rintro e w4 ⟨rfl, hb4⟩; replace HX := hidden (HX.out.call hb4); replace HJ := hidden (HJ.out.later hb4); clear a0 a1 a2 b0 b1 f0 f1; clear h0 h1 g0 g1; obtain ⟨a0, a1, a2, b0, b1, f0, f1⟩ := HX.out.b2.cells; obtain ⟨h0, h1, g0, g1⟩ := HX.out.cells; clear hb4) | fail)
  go_wp2_with (first | (go_at_call 65; (with_reducible refine (Hc2.out _ HJ.out).mono ?_); rintro e w99 ⟨rfl, hb99⟩; have HX9 := hidden (HX.out.call hb99); have HF := hidden (HX9.out.b2.fin (0) (e)); clear hb99; obtain ⟨a0, a1, a2, b0, b1, f0, f1⟩ := HX9.out.b2.cells) | fail)
  all_goals
    go_wp2
    obtain ⟨d0, d1, _⟩ := HF.out.1.cells
    refine bodyPost_ret (v := .tuple #[.int .u32 (y : Nat), .agg #[.int .i64 (0), .int .i64 (e)]]) (by simp [results, Try.results50, go_sem, d0, d1]) rfl ⟨?_, HF.out.2⟩
    rfl
theorem len_1 (j : Jb) (m pb po pc : Nat) (w : World) (J : JAt w j m (some ⟨pb, po, none⟩)) (a b x : Nat) (s e : Int) (hne : ¬ (s = 0 ∧ e = 0)) (c1 : ∀ w, JAt w j m (some ⟨pb, po, none⟩) → Calls Try.prog 68 #[.agg #[.pointer (some ⟨m, 0, none⟩), .slice (some ⟨pb, po, none⟩) 9 pc, .int .u32 j.att], .int .u32 (a : Nat), .int .u32 (b : Nat)] w fun r w' => r = .returned (.tuple #[.int .u32 (x : Nat), .agg #[.int .i64 s, .int .i64 e]]) ∧ Below w.heap.size w w') :
    Calls Try.prog 51 #[.agg #[.pointer (some ⟨m, 0, none⟩), .slice (some ⟨pb, po, none⟩) 9 pc, .int .u32 j.att], .int .u32 (a : Nat), .int .u32 (b : Nat)] w fun r w' => r = .returned (.tuple #[.int .u32 0, .agg #[.int .i64 s, .int .i64 e]]) ∧ Below w.heap.size w w' := by
  have Hc1 := hidden c1
  clear c1
  have HX := hidden (Bx2.start w m (some ⟨pb, po, none⟩) pc j.att)
  go_enter Try.func51, Try.ntmps51
  go_upto_region 1 with fail
  generalize (w.alloc (.cells #[.pointer (some ⟨m, 0, none⟩), .slice (some ⟨pb, po, none⟩) 9 pc, .int .u32 j.att] 94)).alloc (.cells #[.int .i64 0, .int .i64 0] 91) = w1 at *
  have HJ := hidden (J.later HX.out.bel)
  obtain ⟨a0, a1, a2, b0, b1, f0, f1⟩ := HX.out.cells
  go_upto_region 2 with (first | (go_at_call 68; (with_reducible refine (Hc1.out _ HJ.out).mono ?_); rintro e w2 ⟨rfl, hb2⟩; replace HX := hidden (HX.out.call hb2); replace HJ := hidden (HJ.out.later hb2); clear a0 a1 a2 b0 b1 f0 f1; obtain ⟨a0, a1, a2, b0, b1, f0, f1⟩ := HX.out.cells; clear hb2) | fail)
  replace HX := hidden (HX.out.new (s) (e))
  replace HJ := hidden (HJ.out.later ((Below.refl _ _).alloc (Nat.le_refl _) (.cells #[.int .i64 (s), .int .i64 (e)] 91)))
  clear a0 a1 a2 b0 b1 f0 f1
  change Code.wp _ _ _ _ (w2.alloc (.cells #[.int .i64 (s), .int .i64 (e)] 91))
  generalize w2.alloc (.cells #[.int .i64 (s), .int .i64 (e)] 91) = w3 at *
  generalize w2.heap.size = H3 at *
  obtain ⟨a0, a1, a2, b0, b1, f0, f1⟩ := HX.out.b2.cells
  obtain ⟨h0, h1, g0, g1⟩ := HX.out.cells
  go_upto_region 3 with (first | (go_at_call 66; (with_reducible refine (ends_bad hne _).mono ?_); rintro e w4 ⟨rfl, hb4⟩; replace HX := hidden (HX.out.call hb4); replace HJ := hidden (HJ.out.later hb4); clear a0 a1 a2 b0 b1 f0 f1; clear h0 h1 g0 g1; obtain ⟨a0, a1, a2, b0, b1, f0, f1⟩ := HX.out.b2.cells; obtain ⟨h0, h1, g0, g1⟩ := HX.out.cells; clear hb4) | fail)
  have HXD := hidden (HX.out.call ((Below.refl _ _).drew))
  have HF := hidden (HX.out.b2.find (s) (e))
  clear HXD
  (first | (go_region_with (fail)) | fail)
  all_goals
    go_wp2
    generalize ((w4.setCell ⟨w.heap.size + 1, 0, none⟩ (.int .i64 (s))).setCell ⟨w.heap.size + 1, 1, none⟩ (.int .i64 (e))).drew = w98 at *
    obtain ⟨d0, d1, _⟩ := HF.out.1.cells
    refine bodyPost_ret (v := .tuple #[.int .u32 0, .agg #[.int .i64 (s), .int .i64 (e)]]) (by simp [results, Try.results51, go_sem, d0, d1]) rfl ⟨?_, HF.out.2⟩
    rfl
theorem len_2 (j : Jb) (m pb po pc : Nat) (w : World) (J : JAt w j m (some ⟨pb, po, none⟩)) (a b : Nat) (c1 : ∀ w, JAt w j m (some ⟨pb, po, none⟩) → Calls Try.prog 68 #[.agg #[.pointer (some ⟨m, 0, none⟩), .slice (some ⟨pb, po, none⟩) 9 pc, .int .u32 j.att], .int .u32 (a : Nat), .int .u32 (b : Nat)] w fun r w' => r = .returned (.tuple #[.int .u32 0, .agg #[.int .i64 0, .int .i64 0]]) ∧ Below w.heap.size w w') :
    Calls Try.prog 51 #[.agg #[.pointer (some ⟨m, 0, none⟩), .slice (some ⟨pb, po, none⟩) 9 pc, .int .u32 j.att], .int .u32 (a : Nat), .int .u32 (b : Nat)] w fun r w' => r = .returned (.tuple #[.int .u32 0, .agg #[.int .i64 0, .int .i64 0]]) ∧ Below w.heap.size w w' := by
  have Hc1 := hidden c1
  clear c1
  have HX := hidden (Bx2.start w m (some ⟨pb, po, none⟩) pc j.att)
  go_enter Try.func51, Try.ntmps51
  go_upto_region 1 with fail
  generalize (w.alloc (.cells #[.pointer (some ⟨m, 0, none⟩), .slice (some ⟨pb, po, none⟩) 9 pc, .int .u32 j.att] 94)).alloc (.cells #[.int .i64 0, .int .i64 0] 91) = w1 at *
  have HJ := hidden (J.later HX.out.bel)
  obtain ⟨a0, a1, a2, b0, b1, f0, f1⟩ := HX.out.cells
  go_upto_region 2 with (first | (go_at_call 68; (with_reducible refine (Hc1.out _ HJ.out).mono ?_); rintro e w2 ⟨rfl, hb2⟩; replace HX := hidden (HX.out.call hb2); replace HJ := hidden (HJ.out.later hb2); clear a0 a1 a2 b0 b1 f0 f1; obtain ⟨a0, a1, a2, b0, b1, f0, f1⟩ := HX.out.cells; clear hb2) | fail)
  replace HX := hidden (HX.out.new (0) (0))
  replace HJ := hidden (HJ.out.later ((Below.refl _ _).alloc (Nat.le_refl _) (.cells #[.int .i64 (0), .int .i64 (0)] 91)))
  clear a0 a1 a2 b0 b1 f0 f1
  change Code.wp _ _ _ _ (w2.alloc (.cells #[.int .i64 (0), .int .i64 (0)] 91))
  generalize w2.alloc (.cells #[.int .i64 (0), .int .i64 (0)] 91) = w3 at *
  generalize w2.heap.size = H3 at *
  obtain ⟨a0, a1, a2, b0, b1, f0, f1⟩ := HX.out.b2.cells
  obtain ⟨h0, h1, g0, g1⟩ := HX.out.cells
  go_upto_region 3 with (first | (go_at_call 66; (with_reducible refine (ends_good _).mono ?_); rintro e w4 ⟨rfl, hb4⟩; replace HX := hidden (HX.out.call hb4); replace HJ := hidden (HJ.out.later hb4); clear a0 a1 a2 b0 b1 f0 f1; clear h0 h1 g0 g1; obtain ⟨a0, a1, a2, b0, b1, f0, f1⟩ := HX.out.b2.cells; obtain ⟨h0, h1, g0, g1⟩ := HX.out.cells; clear hb4) | fail)
  have HXD := hidden (HX.out.call ((Below.refl _ _).drew))
  have HF := hidden (HX.out.b2.find (0) (0))
  clear HXD
  (first | (go_region_with (fail)) | fail)
  all_goals
    go_wp2
    generalize ((w4.setCell ⟨w.heap.size + 1, 0, none⟩ (.int .i64 (0))).setCell ⟨w.heap.size + 1, 1, none⟩ (.int .i64 (0))).drew = w98 at *
    obtain ⟨d0, d1, _⟩ := HF.out.1.cells
    refine bodyPost_ret (v := .tuple #[.int .u32 0, .agg #[.int .i64 (0), .int .i64 (0)]]) (by simp [results, Try.results51, go_sem, d0, d1]) rfl ⟨?_, HF.out.2⟩
    rfl
theorem len_3 (j : Jb) (m pb po pc : Nat) (w : World) (J : JAt w j m (some ⟨pb, po, none⟩)) (a b x p2 n n4 : Nat) (e : Int) (hx : ¬ x = 0) (e2 : ((x : Int) + 2) % 4294967296 = (p2 : Int)) (en : 4 * (n : Int) % 4294967296 = (n4 : Int)) (c1 : ∀ w, JAt w j m (some ⟨pb, po, none⟩) → Calls Try.prog 68 #[.agg #[.pointer (some ⟨m, 0, none⟩), .slice (some ⟨pb, po, none⟩) 9 pc, .int .u32 j.att], .int .u32 (a : Nat), .int .u32 (b : Nat)] w fun r w' => r = .returned (.tuple #[.int .u32 (x : Nat), .agg #[.int .i64 0, .int .i64 0]]) ∧ Below w.heap.size w w') (c2 : ∀ w, JAt w j m (some ⟨pb, po, none⟩) → Calls Try.prog 65 #[.agg #[.pointer (some ⟨m, 0, none⟩), .slice (some ⟨pb, po, none⟩) 9 pc, .int .u32 j.att], .int .u32 (p2 : Nat), .int .i64 2] w fun r w' => r = .returned (.tuple #[.int .u32 (n : Nat), .agg #[.int .i64 0, .int .i64 e]]) ∧ Below w.heap.size w w') :
    Calls Try.prog 51 #[.agg #[.pointer (some ⟨m, 0, none⟩), .slice (some ⟨pb, po, none⟩) 9 pc, .int .u32 j.att], .int .u32 (a : Nat), .int .u32 (b : Nat)] w fun r w' => r = .returned (.tuple #[.int .u32 (n4 : Nat), .agg #[.int .i64 0, .int .i64 e]]) ∧ Below w.heap.size w w' := by
  have Hc1 := hidden c1
  have Hc2 := hidden c2
  have q : ((x : Int) == 0) = false := by rw [beq_eq_false_iff_ne]; omega
  have enw : IntKind.u32.wrap (4 * (n : Int)) = (n4 : Int) := by rw [IntKind.wrap_u32]; exact en
  clear hx
  clear c1 c2
  have HX := hidden (Bx2.start w m (some ⟨pb, po, none⟩) pc j.att)
  go_enter Try.func51, Try.ntmps51
  go_upto_region 1 with fail
  generalize (w.alloc (.cells #[.pointer (some ⟨m, 0, none⟩), .slice (some ⟨pb, po, none⟩) 9 pc, .int .u32 j.att] 94)).alloc (.cells #[.int .i64 0, .int .i64 0] 91) = w1 at *
  have HJ := hidden (J.later HX.out.bel)
  obtain ⟨a0, a1, a2, b0, b1, f0, f1⟩ := HX.out.cells
  go_upto_region 2 with (first | (go_at_call 68; (with_reducible refine (Hc1.out _ HJ.out).mono ?_); rintro e w2 ⟨rfl, hb2⟩; replace HX := hidden (HX.out.call hb2); replace HJ := hidden (HJ.out.later hb2); clear a0 a1 a2 b0 b1 f0 f1; obtain ⟨a0, a1, a2, b0, b1, f0, f1⟩ := HX.out.cells; clear hb2) | fail)
  replace HX := hidden (HX.out.new (0) (0))
  replace HJ := hidden (HJ.out.later ((Below.refl _ _).alloc (Nat.le_refl _) (.cells #[.int .i64 (0), .int .i64 (0)] 91)))
  clear a0 a1 a2 b0 b1 f0 f1
  change Code.wp _ _ _ _ (w2.alloc (.cells #[.int .i64 (0), .int .i64 (0)] 91))
  generalize w2.alloc (.cells #[.int .i64 (0), .int .i64 (0)] 91) = w3 at *
  generalize w2.heap.size = H3 at *
  obtain ⟨a0, a1, a2, b0, b1, f0, f1⟩ := HX.out.b2.cells
  obtain ⟨h0, h1, g0, g1⟩ := HX.out.cells
  go_upto_region 4 with (first | (go_at_call 66; (with_reducible refine (ends_good _).mono ?_); rintro e w4 ⟨rfl, hb4⟩; replace HX := hidden (HX.out.call hb4); replace HJ := hidden (HJ.out.later hb4); clear a0 a1 a2 b0 b1 f0 f1; clear h0 h1 g0 g1; obtain ⟨a0, a1, a2, b0, b1, f0, f1⟩ := HX.out.b2.cells; obtain ⟨h0, h1, g0, g1⟩ := HX.out.cells; clear hb4) | fail)
  go_upto_region 5 with (first | (go_at_call 65; (with_reducible refine (Hc2.out _ HJ.out).mono ?_); rintro e w5 ⟨rfl, hb5⟩; replace HX := hidden (HX.out.call hb5); replace HJ := hidden (HJ.out.later hb5); clear a0 a1 a2 b0 b1 f0 f1; clear h0 h1 g0 g1; obtain ⟨a0, a1, a2, b0, b1, f0, f1⟩ := HX.out.b2.cells; obtain ⟨h0, h1, g0, g1⟩ := HX.out.cells; clear hb5) | fail)
  replace HX := hidden (HX.out.put (0) (e))
  replace HJ := hidden (J.later HX.out.b2.bel)
  clear a0 a1 a2 b0 b1 f0 f1 h0 h1 g0 g1
  generalize (w5.setCell ⟨H3, 0, none⟩ (.int .i64 (0))).setCell ⟨H3, 1, none⟩ (.int .i64 (e)) = w6 at *
  obtain ⟨a0, a1, a2, b0, b1, f0, f1⟩ := HX.out.b2.cells
  obtain ⟨h0, h1, g0, g1⟩ := HX.out.cells
  have HXD := hidden (HX.out.call ((Below.refl _ _).drew))
  have HF := hidden (HX.out.b2.find (0) (e))
  clear HXD
  (first | (go_region_with (fail)) | fail)
  all_goals
    go_wp2
    generalize ((w6.setCell ⟨w.heap.size + 1, 0, none⟩ (.int .i64 (0))).setCell ⟨w.heap.size + 1, 1, none⟩ (.int .i64 (e))).drew = w98 at *
    obtain ⟨d0, d1, _⟩ := HF.out.1.cells
    refine bodyPost_ret (v := .tuple #[.int .u32 (n4 : Nat), .agg #[.int .i64 (0), .int .i64 (e)]]) (by simp [results, Try.results51, go_sem, d0, d1]) rfl ⟨?_, HF.out.2⟩
    rfl
end Go.Proofs.Ytpgppdkbkkljnaa
