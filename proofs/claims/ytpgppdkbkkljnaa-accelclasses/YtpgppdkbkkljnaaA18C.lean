/- Layer 18: isClass, by leaves. Layer 18: hidden, barred, by leaves. Layer 18: tab, by leaves. -/
import Derived.Test.YtpgppdkbkkljnaaA18A
namespace Go.Proofs.Ytpgppdkbkkljnaa
open Go.RowKit
set_option maxHeartbeats 1000000
set_option maxRecDepth 100000
set_option linter.unusedVariables false

theorem icl_1 (j : Jb) (m pb po pc : Nat) (w : World) (J : JAt w j m (some ⟨pb, po, none⟩)) (a : Nat) (s e : Int) (hne : ¬ (s = 0 ∧ e = 0)) (c1 : ∀ w, JAt w j m (some ⟨pb, po, none⟩) → Calls Try.prog 81 #[.agg #[.pointer (some ⟨m, 0, none⟩), .slice (some ⟨pb, po, none⟩) 9 pc, .int .u32 j.att], .int .u32 (a : Nat)] w fun r w' => r = .returned (.tuple #[.bool false, .agg #[.int .i64 s, .int .i64 e]]) ∧ Below w.heap.size w w') :
    Calls Try.prog 80 #[.agg #[.pointer (some ⟨m, 0, none⟩), .slice (some ⟨pb, po, none⟩) 9 pc, .int .u32 j.att], .int .u32 (a : Nat)] w fun r w' => r = .returned (.tuple #[.bool false, .agg #[.int .i64 s, .int .i64 e]]) ∧ Below w.heap.size w w' := by
  have Hc1 := hidden c1
  clear c1
  have HX := hidden (Bx2.start w m (some ⟨pb, po, none⟩) pc j.att)
  go_enter Try.func80, Try.ntmps80
  go_upto_region 1 with fail
  generalize (w.alloc (.cells #[.pointer (some ⟨m, 0, none⟩), .slice (some ⟨pb, po, none⟩) 9 pc, .int .u32 j.att] 94)).alloc (.cells #[.int .i64 0, .int .i64 0] 91) = w1 at *
  have HJ := hidden (J.later HX.out.bel)
  obtain ⟨a0, a1, a2, b0, b1, f0, f1⟩ := HX.out.cells
  go_upto_region 2 with (first | (go_at_call 81; (with_reducible refine (Hc1.out _ HJ.out).mono ?_); rintro e w2 ⟨rfl, hb2⟩; replace HX := hidden (HX.out.call hb2); replace HJ := hidden (HJ.out.later hb2); clear a0 a1 a2 b0 b1 f0 f1; obtain ⟨a0, a1, a2, b0, b1, f0, f1⟩ := HX.out.cells; clear hb2) | fail)
  replace HX := hidden (HX.out.new (s) (e))
  replace HJ := hidden (HJ.out.later ((Below.refl _ _).alloc (Nat.le_refl _) (.cells #[.int .i64 (s), .int .i64 (e)] 91)))
  clear a0 a1 a2 b0 b1 f0 f1
  change Code.wp _ _ _ _ (w2.alloc (.cells #[.int .i64 (s), .int .i64 (e)] 91))
  generalize w2.alloc (.cells #[.int .i64 (s), .int .i64 (e)] 91) = w3 at *
  generalize w2.heap.size = H3 at *
  obtain ⟨a0, a1, a2, b0, b1, f0, f1⟩ := HX.out.b2.cells
  obtain ⟨h0, h1, g0, g1⟩ := HX.out.cells
  go_upto_region 3 with (first | (go_at_call 66; (with_reducible refine (ends_bad hne _).mono ?_); rintro e w4 ⟨rfl, hb4⟩; replace HX := hidden (HX.out.call hb4); replace HJ := hidden (HJ.out.later hb4); clear a0 a1 a2 b0 b1 f0 f1; clear h0 h1 g0 g1; obtain ⟨a0, a1, a2, b0, b1, f0, f1⟩ := HX.out.b2.cells; obtain ⟨h0, h1, g0, g1⟩ := HX.out.cells; clear hb4) | fail)
  have HXD := hidden (HX.out.call ((Below.refl _ _).drew))
  have HF := hidden (HX.out.b2.find (s) (e))
  clear HXD
  (first | (go_region_with (fail)) | fail)
  all_goals
    go_wp2
    generalize ((w4.setCell ⟨w.heap.size + 1, 0, none⟩ (.int .i64 (s))).setCell ⟨w.heap.size + 1, 1, none⟩ (.int .i64 (e))).drew = w98 at *
    obtain ⟨d0, d1, _⟩ := HF.out.1.cells
    refine bodyPost_ret (v := .tuple #[.bool false, .agg #[.int .i64 (s), .int .i64 (e)]]) (by simp [results, Try.results80, go_sem, d0, d1]) rfl ⟨?_, HF.out.2⟩
    rfl
theorem icl_2 (j : Jb) (m pb po pc : Nat) (w : World) (J : JAt w j m (some ⟨pb, po, none⟩)) (a : Nat) (c1 : ∀ w, JAt w j m (some ⟨pb, po, none⟩) → Calls Try.prog 81 #[.agg #[.pointer (some ⟨m, 0, none⟩), .slice (some ⟨pb, po, none⟩) 9 pc, .int .u32 j.att], .int .u32 (a : Nat)] w fun r w' => r = .returned (.tuple #[.bool true, .agg #[.int .i64 0, .int .i64 0]]) ∧ Below w.heap.size w w') :
    Calls Try.prog 80 #[.agg #[.pointer (some ⟨m, 0, none⟩), .slice (some ⟨pb, po, none⟩) 9 pc, .int .u32 j.att], .int .u32 (a : Nat)] w fun r w' => r = .returned (.tuple #[.bool true, .agg #[.int .i64 0, .int .i64 0]]) ∧ Below w.heap.size w w' := by
  have Hc1 := hidden c1
  clear c1
  have HX := hidden (Bx2.start w m (some ⟨pb, po, none⟩) pc j.att)
  go_enter Try.func80, Try.ntmps80
  go_upto_region 1 with fail
  generalize (w.alloc (.cells #[.pointer (some ⟨m, 0, none⟩), .slice (some ⟨pb, po, none⟩) 9 pc, .int .u32 j.att] 94)).alloc (.cells #[.int .i64 0, .int .i64 0] 91) = w1 at *
  have HJ := hidden (J.later HX.out.bel)
  obtain ⟨a0, a1, a2, b0, b1, f0, f1⟩ := HX.out.cells
  go_upto_region 2 with (first | (go_at_call 81; (with_reducible refine (Hc1.out _ HJ.out).mono ?_); rintro e w2 ⟨rfl, hb2⟩; replace HX := hidden (HX.out.call hb2); replace HJ := hidden (HJ.out.later hb2); clear a0 a1 a2 b0 b1 f0 f1; obtain ⟨a0, a1, a2, b0, b1, f0, f1⟩ := HX.out.cells; clear hb2) | fail)
  replace HX := hidden (HX.out.new (0) (0))
  replace HJ := hidden (HJ.out.later ((Below.refl _ _).alloc (Nat.le_refl _) (.cells #[.int .i64 (0), .int .i64 (0)] 91)))
  clear a0 a1 a2 b0 b1 f0 f1
  change Code.wp _ _ _ _ (w2.alloc (.cells #[.int .i64 (0), .int .i64 (0)] 91))
  generalize w2.alloc (.cells #[.int .i64 (0), .int .i64 (0)] 91) = w3 at *
  generalize w2.heap.size = H3 at *
  obtain ⟨a0, a1, a2, b0, b1, f0, f1⟩ := HX.out.b2.cells
  obtain ⟨h0, h1, g0, g1⟩ := HX.out.cells
  go_upto_region 3 with (first | (go_at_call 66; (with_reducible refine (ends_good _).mono ?_); rintro e w4 ⟨rfl, hb4⟩; replace HX := hidden (HX.out.call hb4); replace HJ := hidden (HJ.out.later hb4); clear a0 a1 a2 b0 b1 f0 f1; clear h0 h1 g0 g1; obtain ⟨a0, a1, a2, b0, b1, f0, f1⟩ := HX.out.b2.cells; obtain ⟨h0, h1, g0, g1⟩ := HX.out.cells; clear hb4) | fail)
  have HXD := hidden (HX.out.call ((Below.refl _ _).drew))
  have HF := hidden (HX.out.b2.find (0) (0))
  clear HXD
  (first | (go_region_with (fail)) | fail)
  all_goals
    go_wp2
    generalize ((w4.setCell ⟨w.heap.size + 1, 0, none⟩ (.int .i64 (0))).setCell ⟨w.heap.size + 1, 1, none⟩ (.int .i64 (0))).drew = w98 at *
    obtain ⟨d0, d1, _⟩ := HF.out.1.cells
    refine bodyPost_ret (v := .tuple #[.bool true, .agg #[.int .i64 (0), .int .i64 (0)]]) (by simp [results, Try.results80, go_sem, d0, d1]) rfl ⟨?_, HF.out.2⟩
    rfl
theorem icl_3 (j : Jb) (m pb po pc : Nat) (w : World) (J : JAt w j m (some ⟨pb, po, none⟩)) (a : Nat)  (e2 : a = j.p 2) (c1 : ∀ w, JAt w j m (some ⟨pb, po, none⟩) → Calls Try.prog 81 #[.agg #[.pointer (some ⟨m, 0, none⟩), .slice (some ⟨pb, po, none⟩) 9 pc, .int .u32 j.att], .int .u32 (a : Nat)] w fun r w' => r = .returned (.tuple #[.bool false, .agg #[.int .i64 0, .int .i64 0]]) ∧ Below w.heap.size w w') :
    Calls Try.prog 80 #[.agg #[.pointer (some ⟨m, 0, none⟩), .slice (some ⟨pb, po, none⟩) 9 pc, .int .u32 j.att], .int .u32 (a : Nat)] w fun r w' => r = .returned (.tuple #[.bool true, .agg #[.int .i64 0, .int .i64 0]]) ∧ Below w.heap.size w w' := by
  have Hc1 := hidden c1
  have q2 : ((a : Int) == ((j.p 2 : Nat) : Int)) = true := by rw [e2]; simp
  clear e2
  clear c1
  have HX := hidden (Bx2.start w m (some ⟨pb, po, none⟩) pc j.att)
  go_enter Try.func80, Try.ntmps80
  go_upto_region 1 with fail
  generalize (w.alloc (.cells #[.pointer (some ⟨m, 0, none⟩), .slice (some ⟨pb, po, none⟩) 9 pc, .int .u32 j.att] 94)).alloc (.cells #[.int .i64 0, .int .i64 0] 91) = w1 at *
  have HJ := hidden (J.later HX.out.bel)
  obtain ⟨a0, a1, a2, b0, b1, f0, f1⟩ := HX.out.cells
  go_upto_region 2 with (first | (go_at_call 81; (with_reducible refine (Hc1.out _ HJ.out).mono ?_); rintro e w2 ⟨rfl, hb2⟩; replace HX := hidden (HX.out.call hb2); replace HJ := hidden (HJ.out.later hb2); clear a0 a1 a2 b0 b1 f0 f1; obtain ⟨a0, a1, a2, b0, b1, f0, f1⟩ := HX.out.cells; clear hb2) | fail)
  replace HX := hidden (HX.out.new (0) (0))
  replace HJ := hidden (HJ.out.later ((Below.refl _ _).alloc (Nat.le_refl _) (.cells #[.int .i64 (0), .int .i64 (0)] 91)))
  clear a0 a1 a2 b0 b1 f0 f1
  change Code.wp _ _ _ _ (w2.alloc (.cells #[.int .i64 (0), .int .i64 (0)] 91))
  generalize w2.alloc (.cells #[.int .i64 (0), .int .i64 (0)] 91) = w3 at *
  generalize w2.heap.size = H3 at *
  obtain ⟨a0, a1, a2, b0, b1, f0, f1⟩ := HX.out.b2.cells
  obtain ⟨h0, h1, g0, g1⟩ := HX.out.cells
  go_upto_region 4 with (first | (go_at_call 66; (with_reducible refine (ends_good _).mono ?_); rintro e w4 ⟨rfl, hb4⟩; replace HX := hidden (HX.out.call hb4); replace HJ := hidden (HJ.out.later hb4); clear a0 a1 a2 b0 b1 f0 f1; clear h0 h1 g0 g1; obtain ⟨a0, a1, a2, b0, b1, f0, f1⟩ := HX.out.b2.cells; obtain ⟨h0, h1, g0, g1⟩ := HX.out.cells; clear hb4) | fail)
  have p2 := HJ.out.cell 2 (by omega)
  have p5 := HJ.out.cell 5 (by omega)
  have p4 := HJ.out.cell 4 (by omega)
  have p3 := HJ.out.cell 3 (by omega)
  have HF := hidden (HX.out.b2.fin (0) (0))
  all_goals
    go_wp2
    obtain ⟨d0, d1, _⟩ := HF.out.1.cells
    refine bodyPost_ret (v := .tuple #[.bool true, .agg #[.int .i64 (0), .int .i64 (0)]]) (by simp [results, Try.results80, go_sem, d0, d1]) rfl ⟨?_, HF.out.2⟩
    rfl
theorem icl_4 (j : Jb) (m pb po pc : Nat) (w : World) (J : JAt w j m (some ⟨pb, po, none⟩)) (a : Nat) (e2 : ¬ a = j.p 2) (e5 : a = j.p 5) (c1 : ∀ w, JAt w j m (some ⟨pb, po, none⟩) → Calls Try.prog 81 #[.agg #[.pointer (some ⟨m, 0, none⟩), .slice (some ⟨pb, po, none⟩) 9 pc, .int .u32 j.att], .int .u32 (a : Nat)] w fun r w' => r = .returned (.tuple #[.bool false, .agg #[.int .i64 0, .int .i64 0]]) ∧ Below w.heap.size w w') :
    Calls Try.prog 80 #[.agg #[.pointer (some ⟨m, 0, none⟩), .slice (some ⟨pb, po, none⟩) 9 pc, .int .u32 j.att], .int .u32 (a : Nat)] w fun r w' => r = .returned (.tuple #[.bool true, .agg #[.int .i64 0, .int .i64 0]]) ∧ Below w.heap.size w w' := by
  have Hc1 := hidden c1
  have q2 : ((a : Int) == ((j.p 2 : Nat) : Int)) = false := by rw [beq_eq_false_iff_ne]; omega
  have q5 : ((a : Int) == ((j.p 5 : Nat) : Int)) = true := by rw [e5]; simp
  clear e2 e5
  clear c1
  have HX := hidden (Bx2.start w m (some ⟨pb, po, none⟩) pc j.att)
  go_enter Try.func80, Try.ntmps80
  go_upto_region 1 with fail
  generalize (w.alloc (.cells #[.pointer (some ⟨m, 0, none⟩), .slice (some ⟨pb, po, none⟩) 9 pc, .int .u32 j.att] 94)).alloc (.cells #[.int .i64 0, .int .i64 0] 91) = w1 at *
  have HJ := hidden (J.later HX.out.bel)
  obtain ⟨a0, a1, a2, b0, b1, f0, f1⟩ := HX.out.cells
  go_upto_region 2 with (first | (go_at_call 81; (with_reducible refine (Hc1.out _ HJ.out).mono ?_); rintro e w2 ⟨rfl, hb2⟩; replace HX := hidden (HX.out.call hb2); replace HJ := hidden (HJ.out.later hb2); clear a0 a1 a2 b0 b1 f0 f1; obtain ⟨a0, a1, a2, b0, b1, f0, f1⟩ := HX.out.cells; clear hb2) | fail)
  replace HX := hidden (HX.out.new (0) (0))
  replace HJ := hidden (HJ.out.later ((Below.refl _ _).alloc (Nat.le_refl _) (.cells #[.int .i64 (0), .int .i64 (0)] 91)))
  clear a0 a1 a2 b0 b1 f0 f1
  change Code.wp _ _ _ _ (w2.alloc (.cells #[.int .i64 (0), .int .i64 (0)] 91))
  generalize w2.alloc (.cells #[.int .i64 (0), .int .i64 (0)] 91) = w3 at *
  generalize w2.heap.size = H3 at *
  obtain ⟨a0, a1, a2, b0, b1, f0, f1⟩ := HX.out.b2.cells
  obtain ⟨h0, h1, g0, g1⟩ := HX.out.cells
  go_upto_region 4 with (first | (go_at_call 66; (with_reducible refine (ends_good _).mono ?_); rintro e w4 ⟨rfl, hb4⟩; replace HX := hidden (HX.out.call hb4); replace HJ := hidden (HJ.out.later hb4); clear a0 a1 a2 b0 b1 f0 f1; clear h0 h1 g0 g1; obtain ⟨a0, a1, a2, b0, b1, f0, f1⟩ := HX.out.b2.cells; obtain ⟨h0, h1, g0, g1⟩ := HX.out.cells; clear hb4) | fail)
  have p2 := HJ.out.cell 2 (by omega)
  have p5 := HJ.out.cell 5 (by omega)
  have p4 := HJ.out.cell 4 (by omega)
  have p3 := HJ.out.cell 3 (by omega)
  have HF := hidden (HX.out.b2.fin (0) (0))
  all_goals
    go_wp2
    obtain ⟨d0, d1, _⟩ := HF.out.1.cells
    refine bodyPost_ret (v := .tuple #[.bool true, .agg #[.int .i64 (0), .int .i64 (0)]]) (by simp [results, Try.results80, go_sem, d0, d1]) rfl ⟨?_, HF.out.2⟩
    rfl
theorem icl_5 (j : Jb) (m pb po pc : Nat) (w : World) (J : JAt w j m (some ⟨pb, po, none⟩)) (a : Nat) (e2 : ¬ a = j.p 2) (e5 : ¬ a = j.p 5) (e4 : a = j.p 4) (c1 : ∀ w, JAt w j m (some ⟨pb, po, none⟩) → Calls Try.prog 81 #[.agg #[.pointer (some ⟨m, 0, none⟩), .slice (some ⟨pb, po, none⟩) 9 pc, .int .u32 j.att], .int .u32 (a : Nat)] w fun r w' => r = .returned (.tuple #[.bool false, .agg #[.int .i64 0, .int .i64 0]]) ∧ Below w.heap.size w w') :
    Calls Try.prog 80 #[.agg #[.pointer (some ⟨m, 0, none⟩), .slice (some ⟨pb, po, none⟩) 9 pc, .int .u32 j.att], .int .u32 (a : Nat)] w fun r w' => r = .returned (.tuple #[.bool true, .agg #[.int .i64 0, .int .i64 0]]) ∧ Below w.heap.size w w' := by
  have Hc1 := hidden c1
  have q2 : ((a : Int) == ((j.p 2 : Nat) : Int)) = false := by rw [beq_eq_false_iff_ne]; omega
  have q5 : ((a : Int) == ((j.p 5 : Nat) : Int)) = false := by rw [beq_eq_false_iff_ne]; omega
  have q4 : ((a : Int) == ((j.p 4 : Nat) : Int)) = true := by rw [e4]; simp
  clear e2 e5 e4
  clear c1
  have HX := hidden (Bx2.start w m (some ⟨pb, po, none⟩) pc j.att)
  go_enter Try.func80, Try.ntmps80
  go_upto_region 1 with fail
  generalize (w.alloc (.cells #[.pointer (some ⟨m, 0, none⟩), .slice (some ⟨pb, po, none⟩) 9 pc, .int .u32 j.att] 94)).alloc (.cells #[.int .i64 0, .int .i64 0] 91) = w1 at *
  have HJ := hidden (J.later HX.out.bel)
  obtain ⟨a0, a1, a2, b0, b1, f0, f1⟩ := HX.out.cells
  go_upto_region 2 with (first | (go_at_call 81; (with_reducible refine (Hc1.out _ HJ.out).mono ?_); rintro e w2 ⟨rfl, hb2⟩; replace HX := hidden (HX.out.call hb2); replace HJ := hidden (HJ.out.later hb2); clear a0 a1 a2 b0 b1 f0 f1; obtain ⟨a0, a1, a2, b0, b1, f0, f1⟩ := HX.out.cells; clear hb2) | fail)
  replace HX := hidden (HX.out.new (0) (0))
  replace HJ := hidden (HJ.out.later ((Below.refl _ _).alloc (Nat.le_refl _) (.cells #[.int .i64 (0), .int .i64 (0)] 91)))
  clear a0 a1 a2 b0 b1 f0 f1
  change Code.wp _ _ _ _ (w2.alloc (.cells #[.int .i64 (0), .int .i64 (0)] 91))
  generalize w2.alloc (.cells #[.int .i64 (0), .int .i64 (0)] 91) = w3 at *
  generalize w2.heap.size = H3 at *
  obtain ⟨a0, a1, a2, b0, b1, f0, f1⟩ := HX.out.b2.cells
  obtain ⟨h0, h1, g0, g1⟩ := HX.out.cells
  go_upto_region 4 with (first | (go_at_call 66; (with_reducible refine (ends_good _).mono ?_); rintro e w4 ⟨rfl, hb4⟩; replace HX := hidden (HX.out.call hb4); replace HJ := hidden (HJ.out.later hb4); clear a0 a1 a2 b0 b1 f0 f1; clear h0 h1 g0 g1; obtain ⟨a0, a1, a2, b0, b1, f0, f1⟩ := HX.out.b2.cells; obtain ⟨h0, h1, g0, g1⟩ := HX.out.cells; clear hb4) | fail)
  have p2 := HJ.out.cell 2 (by omega)
  have p5 := HJ.out.cell 5 (by omega)
  have p4 := HJ.out.cell 4 (by omega)
  have p3 := HJ.out.cell 3 (by omega)
  have HF := hidden (HX.out.b2.fin (0) (0))
  all_goals
    go_wp2
    obtain ⟨d0, d1, _⟩ := HF.out.1.cells
    refine bodyPost_ret (v := .tuple #[.bool true, .agg #[.int .i64 (0), .int .i64 (0)]]) (by simp [results, Try.results80, go_sem, d0, d1]) rfl ⟨?_, HF.out.2⟩
    rfl
theorem icl_6 (j : Jb) (m pb po pc : Nat) (w : World) (J : JAt w j m (some ⟨pb, po, none⟩)) (a : Nat) (e2 : ¬ a = j.p 2) (e5 : ¬ a = j.p 5) (e4 : ¬ a = j.p 4) (e3 : a = j.p 3) (c1 : ∀ w, JAt w j m (some ⟨pb, po, none⟩) → Calls Try.prog 81 #[.agg #[.pointer (some ⟨m, 0, none⟩), .slice (some ⟨pb, po, none⟩) 9 pc, .int .u32 j.att], .int .u32 (a : Nat)] w fun r w' => r = .returned (.tuple #[.bool false, .agg #[.int .i64 0, .int .i64 0]]) ∧ Below w.heap.size w w') :
    Calls Try.prog 80 #[.agg #[.pointer (some ⟨m, 0, none⟩), .slice (some ⟨pb, po, none⟩) 9 pc, .int .u32 j.att], .int .u32 (a : Nat)] w fun r w' => r = .returned (.tuple #[.bool true, .agg #[.int .i64 0, .int .i64 0]]) ∧ Below w.heap.size w w' := by
  have Hc1 := hidden c1
  have q2 : ((a : Int) == ((j.p 2 : Nat) : Int)) = false := by rw [beq_eq_false_iff_ne]; omega
  have q5 : ((a : Int) == ((j.p 5 : Nat) : Int)) = false := by rw [beq_eq_false_iff_ne]; omega
  have q4 : ((a : Int) == ((j.p 4 : Nat) : Int)) = false := by rw [beq_eq_false_iff_ne]; omega
  have q3 : ((a : Int) == ((j.p 3 : Nat) : Int)) = true := by rw [e3]; simp
  clear e2 e5 e4 e3
  clear c1
  have HX := hidden (Bx2.start w m (some ⟨pb, po, none⟩) pc j.att)
  go_enter Try.func80, Try.ntmps80
  go_upto_region 1 with fail
  generalize (w.alloc (.cells #[.pointer (some ⟨m, 0, none⟩), .slice (some ⟨pb, po, none⟩) 9 pc, .int .u32 j.att] 94)).alloc (.cells #[.int .i64 0, .int .i64 0] 91) = w1 at *
  have HJ := hidden (J.later HX.out.bel)
  obtain ⟨a0, a1, a2, b0, b1, f0, f1⟩ := HX.out.cells
  go_upto_region 2 with (first | (go_at_call 81; (with_reducible refine (Hc1.out _ HJ.out).mono ?_); rintro e w2 ⟨rfl, hb2⟩; replace HX := hidden (HX.out.call hb2); replace HJ := hidden (HJ.out.later hb2); clear a0 a1 a2 b0 b1 f0 f1; obtain ⟨a0, a1, a2, b0, b1, f0, f1⟩ := HX.out.cells; clear hb2) | fail)
  replace HX := hidden (HX.out.new (0) (0))
  replace HJ := hidden (HJ.out.later ((Below.refl _ _).alloc (Nat.le_refl _) (.cells #[.int .i64 (0), .int .i64 (0)] 91)))
  clear a0 a1 a2 b0 b1 f0 f1
  change Code.wp _ _ _ _ (w2.alloc (.cells #[.int .i64 (0), .int .i64 (0)] 91))
  generalize w2.alloc (.cells #[.int .i64 (0), .int .i64 (0)] 91) = w3 at *
  generalize w2.heap.size = H3 at *
  obtain ⟨a0, a1, a2, b0, b1, f0, f1⟩ := HX.out.b2.cells
  obtain ⟨h0, h1, g0, g1⟩ := HX.out.cells
  go_upto_region 4 with (first | (go_at_call 66; (with_reducible refine (ends_good _).mono ?_); rintro e w4 ⟨rfl, hb4⟩; replace HX := hidden (HX.out.call hb4); replace HJ := hidden (HJ.out.later hb4); clear a0 a1 a2 b0 b1 f0 f1; clear h0 h1 g0 g1; obtain ⟨a0, a1, a2, b0, b1, f0, f1⟩ := HX.out.b2.cells; obtain ⟨h0, h1, g0, g1⟩ := HX.out.cells; clear hb4) | fail)
  have p2 := HJ.out.cell 2 (by omega)
  have p5 := HJ.out.cell 5 (by omega)
  have p4 := HJ.out.cell 4 (by omega)
  have p3 := HJ.out.cell 3 (by omega)
  have HF := hidden (HX.out.b2.fin (0) (0))
  all_goals
    go_wp2
    obtain ⟨d0, d1, _⟩ := HF.out.1.cells
    refine bodyPost_ret (v := .tuple #[.bool true, .agg #[.int .i64 (0), .int .i64 (0)]]) (by simp [results, Try.results80, go_sem, d0, d1]) rfl ⟨?_, HF.out.2⟩
    rfl
theorem icl_7 (j : Jb) (m pb po pc : Nat) (w : World) (J : JAt w j m (some ⟨pb, po, none⟩)) (a : Nat) (e2 : ¬ a = j.p 2) (e5 : ¬ a = j.p 5) (e4 : ¬ a = j.p 4) (e3 : ¬ a = j.p 3) (c1 : ∀ w, JAt w j m (some ⟨pb, po, none⟩) → Calls Try.prog 81 #[.agg #[.pointer (some ⟨m, 0, none⟩), .slice (some ⟨pb, po, none⟩) 9 pc, .int .u32 j.att], .int .u32 (a : Nat)] w fun r w' => r = .returned (.tuple #[.bool false, .agg #[.int .i64 0, .int .i64 0]]) ∧ Below w.heap.size w w') :
    Calls Try.prog 80 #[.agg #[.pointer (some ⟨m, 0, none⟩), .slice (some ⟨pb, po, none⟩) 9 pc, .int .u32 j.att], .int .u32 (a : Nat)] w fun r w' => r = .returned (.tuple #[.bool false, .agg #[.int .i64 0, .int .i64 0]]) ∧ Below w.heap.size w w' := by
  have Hc1 := hidden c1
  have q2 : ((a : Int) == ((j.p 2 : Nat) : Int)) = false := by rw [beq_eq_false_iff_ne]; omega
  have q5 : ((a : Int) == ((j.p 5 : Nat) : Int)) = false := by rw [beq_eq_false_iff_ne]; omega
  have q4 : ((a : Int) == ((j.p 4 : Nat) : Int)) = false := by rw [beq_eq_false_iff_ne]; omega
  have q3 : ((a : Int) == ((j.p 3 : Nat) : Int)) = false := by rw [beq_eq_false_iff_ne]; omega
  clear e2 e5 e4 e3
  clear c1
  have HX := hidden (Bx2.start w m (some ⟨pb, po, none⟩) pc j.att)
  go_enter Try.func80, Try.ntmps80
  go_upto_region 1 with fail
  generalize (w.alloc (.cells #[.pointer (some ⟨m, 0, none⟩), .slice (some ⟨pb, po, none⟩) 9 pc, .int .u32 j.att] 94)).alloc (.cells #[.int .i64 0, .int .i64 0] 91) = w1 at *
  have HJ := hidden (J.later HX.out.bel)
  obtain ⟨a0, a1, a2, b0, b1, f0, f1⟩ := HX.out.cells
  go_upto_region 2 with (first | (go_at_call 81; (with_reducible refine (Hc1.out _ HJ.out).mono ?_); rintro e w2 ⟨rfl, hb2⟩; replace HX := hidden (HX.out.call hb2); replace HJ := hidden (HJ.out.later hb2); clear a0 a1 a2 b0 b1 f0 f1; obtain ⟨a0, a1, a2, b0, b1, f0, f1⟩ := HX.out.cells; clear hb2) | fail)
  replace HX := hidden (HX.out.new (0) (0))
  replace HJ := hidden (HJ.out.later ((Below.refl _ _).alloc (Nat.le_refl _) (.cells #[.int .i64 (0), .int .i64 (0)] 91)))
  clear a0 a1 a2 b0 b1 f0 f1
  change Code.wp _ _ _ _ (w2.alloc (.cells #[.int .i64 (0), .int .i64 (0)] 91))
  generalize w2.alloc (.cells #[.int .i64 (0), .int .i64 (0)] 91) = w3 at *
  generalize w2.heap.size = H3 at *
  obtain ⟨a0, a1, a2, b0, b1, f0, f1⟩ := HX.out.b2.cells
  obtain ⟨h0, h1, g0, g1⟩ := HX.out.cells
  go_upto_region 4 with (first | (go_at_call 66; (with_reducible refine (ends_good _).mono ?_); rintro e w4 ⟨rfl, hb4⟩; replace HX := hidden (HX.out.call hb4); replace HJ := hidden (HJ.out.later hb4); clear a0 a1 a2 b0 b1 f0 f1; clear h0 h1 g0 g1; obtain ⟨a0, a1, a2, b0, b1, f0, f1⟩ := HX.out.b2.cells; obtain ⟨h0, h1, g0, g1⟩ := HX.out.cells; clear hb4) | fail)
  have p2 := HJ.out.cell 2 (by omega)
  have p5 := HJ.out.cell 5 (by omega)
  have p4 := HJ.out.cell 4 (by omega)
  have p3 := HJ.out.cell 3 (by omega)
  have HF := hidden (HX.out.b2.fin (0) (0))
  all_goals
    go_wp2
    obtain ⟨d0, d1, _⟩ := HF.out.1.cells
    refine bodyPost_ret (v := .tuple #[.bool false, .agg #[.int .i64 (0), .int .i64 (0)]]) (by simp [results, Try.results80, go_sem, d0, d1]) rfl ⟨?_, HF.out.2⟩
    rfl
end Go.Proofs.Ytpgppdkbkkljnaa
namespace Go.Proofs.Ytpgppdkbkkljnaa
open Go.RowKit
set_option maxHeartbeats 1000000
set_option maxRecDepth 100000
set_option linter.unusedVariables false

theorem hid_1 (j : Jb) (m pb po pc : Nat) (w : World) (J : JAt w j m (some ⟨pb, po, none⟩)) (a b : Nat) (cp : Bool) (c1 : ∀ w, JAt w j m (some ⟨pb, po, none⟩) → Calls Try.prog 81 #[.agg #[.pointer (some ⟨m, 0, none⟩), .slice (some ⟨pb, po, none⟩) 9 pc, .int .u32 j.att], .int .u32 (a : Nat)] w fun r w' => r = .returned (.tuple #[.bool true, .agg #[.int .i64 0, .int .i64 0]]) ∧ Below w.heap.size w w') (c2 : ∀ w, JAt w j m (some ⟨pb, po, none⟩) → Calls Try.prog 83 #[.agg #[.pointer (some ⟨m, 0, none⟩), .slice (some ⟨pb, po, none⟩) 9 pc, .int .u32 j.att], .int .u32 (b : Nat)] w fun r w' => r = .returned (.bool cp) ∧ Below w.heap.size w w') :
    Calls Try.prog 89 #[.agg #[.pointer (some ⟨m, 0, none⟩), .slice (some ⟨pb, po, none⟩) 9 pc, .int .u32 j.att], .int .u32 (a : Nat), .int .u32 (b : Nat)] w fun r w' => r = .returned (.tuple #[.bool (!cp), .agg #[.int .i64 0, .int .i64 0]]) ∧ Below w.heap.size w w' := by
  have Hc1 := hidden c1
  have Hc2 := hidden c2
  clear c1 c2
  have HX := hidden (Bx2.start w m (some ⟨pb, po, none⟩) pc j.att)
  go_enter Try.func89, Try.ntmps89
  go_upto_region 1 with fail
  generalize (w.alloc (.cells #[.pointer (some ⟨m, 0, none⟩), .slice (some ⟨pb, po, none⟩) 9 pc, .int .u32 j.att] 94)).alloc (.cells #[.int .i64 0, .int .i64 0] 91) = w1 at *
  have HJ := hidden (J.later HX.out.bel)
  obtain ⟨a0, a1, a2, b0, b1, f0, f1⟩ := HX.out.cells
  go_upto_region 2 with (first | (go_at_call 81; (with_reducible refine (Hc1.out _ HJ.out).mono ?_); rintro e w2 ⟨rfl, hb2⟩; replace HX := hidden (HX.out.call hb2); replace HJ := hidden (HJ.out.later hb2); clear a0 a1 a2 b0 b1 f0 f1; obtain ⟨a0, a1, a2, b0, b1, f0, f1⟩ := HX.out.cells; clear hb2) | fail)
  replace HX := hidden (HX.out.new (0) (0))
  replace HJ := hidden (HJ.out.later ((Below.refl _ _).alloc (Nat.le_refl _) (.cells #[.int .i64 (0), .int .i64 (0)] 91)))
  clear a0 a1 a2 b0 b1 f0 f1
  change Code.wp _ _ _ _ (w2.alloc (.cells #[.int .i64 (0), .int .i64 (0)] 91))
  generalize w2.alloc (.cells #[.int .i64 (0), .int .i64 (0)] 91) = w3 at *
  generalize w2.heap.size = H3 at *
  obtain ⟨a0, a1, a2, b0, b1, f0, f1⟩ := HX.out.b2.cells
  obtain ⟨h0, h1, g0, g1⟩ := HX.out.cells
  have HXD := hidden (HX.out.call ((Below.refl _ _).drew))
  go_region_held3 (fun w' => w'.cell? ⟨w.heap.size, 0, none⟩ = some (.pointer (some ⟨m, 0, none⟩)) ∧ w'.cell? ⟨w.heap.size, 1, none⟩ = some (.slice (some ⟨pb, po, none⟩) 9 pc) ∧ w'.cell? ⟨w.heap.size, 2, none⟩ = some (.int .u32 j.att) ∧ w'.cell? ⟨H3, 0, none⟩ = some (.int .i64 (0)) ∧ w'.cell? ⟨H3, 1, none⟩ = some (.int .i64 (0))) (first | (refine ⟨?_, ?_, ?_, ?_, ?_⟩ <;> with_reducible assumption) | go_keep) (first | (go_at_call 83; (with_reducible refine (Hc2.out _ (HJ.out.later ((Below.refl _ _).drew))).mono ?_); rintro e w99 ⟨rfl, hb99⟩; have HX9 := hidden (HXD.out.call hb99); have HF := hidden (HX9.out.b2.fin (0) (0)); obtain ⟨a0, a1, a2, b0, b1, f0, f1⟩ := HX9.out.b2.cells; obtain ⟨h0, h1, g0, g1⟩ := HX9.out.cells; obtain ⟨k0, k1, k2, k3, k4⟩ := HX9.out.fink (0) (0); clear hb99) | fail)
  all_goals
    go_wp2
    obtain ⟨d0, d1, _⟩ := HF.out.1.cells
    refine bodyPost_ret (v := .tuple #[.bool (!cp), .agg #[.int .i64 (0), .int .i64 (0)]]) (by simp [results, Try.results89, go_sem, d0, d1]) rfl ⟨?_, HF.out.2⟩
    rfl
theorem hid_2 (j : Jb) (m pb po pc : Nat) (w : World) (J : JAt w j m (some ⟨pb, po, none⟩)) (a b : Nat) (s e : Int) (c1 : ∀ w, JAt w j m (some ⟨pb, po, none⟩) → Calls Try.prog 81 #[.agg #[.pointer (some ⟨m, 0, none⟩), .slice (some ⟨pb, po, none⟩) 9 pc, .int .u32 j.att], .int .u32 (a : Nat)] w fun r w' => r = .returned (.tuple #[.bool false, .agg #[.int .i64 s, .int .i64 e]]) ∧ Below w.heap.size w w') :
    Calls Try.prog 89 #[.agg #[.pointer (some ⟨m, 0, none⟩), .slice (some ⟨pb, po, none⟩) 9 pc, .int .u32 j.att], .int .u32 (a : Nat), .int .u32 (b : Nat)] w fun r w' => r = .returned (.tuple #[.bool false, .agg #[.int .i64 s, .int .i64 e]]) ∧ Below w.heap.size w w' := by
  have Hc1 := hidden c1
  clear c1
  have HX := hidden (Bx2.start w m (some ⟨pb, po, none⟩) pc j.att)
  go_enter Try.func89, Try.ntmps89
  go_upto_region 1 with fail
  generalize (w.alloc (.cells #[.pointer (some ⟨m, 0, none⟩), .slice (some ⟨pb, po, none⟩) 9 pc, .int .u32 j.att] 94)).alloc (.cells #[.int .i64 0, .int .i64 0] 91) = w1 at *
  have HJ := hidden (J.later HX.out.bel)
  obtain ⟨a0, a1, a2, b0, b1, f0, f1⟩ := HX.out.cells
  go_upto_region 2 with (first | (go_at_call 81; (with_reducible refine (Hc1.out _ HJ.out).mono ?_); rintro e w2 ⟨rfl, hb2⟩; replace HX := hidden (HX.out.call hb2); replace HJ := hidden (HJ.out.later hb2); clear a0 a1 a2 b0 b1 f0 f1; obtain ⟨a0, a1, a2, b0, b1, f0, f1⟩ := HX.out.cells; clear hb2) | fail)
  replace HX := hidden (HX.out.new (s) (e))
  replace HJ := hidden (HJ.out.later ((Below.refl _ _).alloc (Nat.le_refl _) (.cells #[.int .i64 (s), .int .i64 (e)] 91)))
  clear a0 a1 a2 b0 b1 f0 f1
  change Code.wp _ _ _ _ (w2.alloc (.cells #[.int .i64 (s), .int .i64 (e)] 91))
  generalize w2.alloc (.cells #[.int .i64 (s), .int .i64 (e)] 91) = w3 at *
  generalize w2.heap.size = H3 at *
  obtain ⟨a0, a1, a2, b0, b1, f0, f1⟩ := HX.out.b2.cells
  obtain ⟨h0, h1, g0, g1⟩ := HX.out.cells
  have HXD := hidden (HX.out.call ((Below.refl _ _).drew))
  have HF := hidden (HX.out.b2.find (s) (e))
  clear HXD
  (first | (go_region_with (fail)) | fail)
  all_goals
    go_wp2
    generalize ((w3.setCell ⟨w.heap.size + 1, 0, none⟩ (.int .i64 (s))).setCell ⟨w.heap.size + 1, 1, none⟩ (.int .i64 (e))).drew = w98 at *
    obtain ⟨d0, d1, _⟩ := HF.out.1.cells
    refine bodyPost_ret (v := .tuple #[.bool false, .agg #[.int .i64 (s), .int .i64 (e)]]) (by simp [results, Try.results89, go_sem, d0, d1]) rfl ⟨?_, HF.out.2⟩
    rfl
theorem bar_1 (j : Jb) (m pb po pc : Nat) (w : World) (J : JAt w j m (some ⟨pb, po, none⟩)) (a p x : Nat) (e : Int) (hne : ¬ e = 0) (c1 : ∀ w, JAt w j m (some ⟨pb, po, none⟩) → Calls Try.prog 65 #[.agg #[.pointer (some ⟨m, 0, none⟩), .slice (some ⟨pb, po, none⟩) 9 pc, .int .u32 j.att], .int .u32 (j.p 6 : Nat), .int .i64 4] w fun r w' => r = .returned (.tuple #[.int .u32 (x : Nat), .agg #[.int .i64 0, .int .i64 e]]) ∧ Below w.heap.size w w') :
    Calls Try.prog 90 #[.agg #[.pointer (some ⟨m, 0, none⟩), .slice (some ⟨pb, po, none⟩) 9 pc, .int .u32 j.att], .int .u32 (a : Nat), .int .u32 (p : Nat)] w fun r w' => r = .returned (.tuple #[.bool false, .agg #[.int .i64 0, .int .i64 e]]) ∧ Below w.heap.size w w' := by
  have Hc1 := hidden c1
  clear c1
  have HX := hidden (Bx2.start w m (some ⟨pb, po, none⟩) pc j.att)
  go_enter Try.func90, Try.ntmps90
  go_upto_region 1 with fail
  generalize (w.alloc (.cells #[.pointer (some ⟨m, 0, none⟩), .slice (some ⟨pb, po, none⟩) 9 pc, .int .u32 j.att] 94)).alloc (.cells #[.int .i64 0, .int .i64 0] 91) = w1 at *
  have HJ := hidden (J.later HX.out.bel)
  obtain ⟨a0, a1, a2, b0, b1, f0, f1⟩ := HX.out.cells
  go_cut [8, 9] from 11 (fun s8 s9 wx => ∃ HH, s8 = .int .u32 (x : Nat) ∧ s9 = .pointer (some ⟨HH, 0, none⟩) ∧ Hid (Bx3 w wx w.heap.size (w.heap.size + 1) m (some ⟨pb, po, none⟩) pc j.att HH 0 (e)))
  case first =>
    have p6 := HJ.out.cell 6 (by omega)
    have HXD := hidden (HX.out.call ((Below.refl _ _).drew))
    have HJD := hidden (HJ.out.later ((Below.refl _ _).drew))
    have HXA := hidden ((HX.out.new 0 0).call ((Below.refl _ _).drew))
    have HJA := hidden ((HJ.out.later ((Below.refl _ _).alloc (Nat.le_refl _) (.cells #[.int .i64 0, .int .i64 0] 91))).later ((Below.refl _ _).drew))
    go_region_held3 (fun w' => w'.cell? ⟨w.heap.size, 0, none⟩ = some (.pointer (some ⟨m, 0, none⟩)) ∧ w'.cell? ⟨w.heap.size, 1, none⟩ = some (.slice (some ⟨pb, po, none⟩) 9 pc) ∧ w'.cell? ⟨w.heap.size, 2, none⟩ = some (.int .u32 j.att) ∧ w'.cell? ⟨pb, po + 6, none⟩ = some (.int .u32 (j.p 6))) (first | (refine ⟨?_, ?_, ?_, ?_⟩ <;> with_reducible assumption) | go_keep) (first | (go_at_call 65; (with_reducible refine (Hc1.out _ HJD.out).mono ?_); rintro e w99 ⟨rfl, hb99⟩; have HXC := hidden (HXD.out.call hb99); have HXE := hidden (HXC.out.new 0 (e)); obtain ⟨a0, a1, a2, b0, b1, f0, f1⟩ := HXC.out.cells; have p6 := (HJD.out.later hb99).cell 6 (by omega); clear hb99; obtain ⟨k0, k1, k2, _, _, _, _⟩ := HXE.out.b2.cells; have kp := (J.later HXE.out.b2.bel).cell 6 (by omega)) | (go_at_call 65; (with_reducible refine (Hc1.out _ HJA.out).mono ?_); rintro e w99 ⟨rfl, hb99⟩; have HXC := hidden (HXA.out.call hb99); have HXE := hidden (HXC.out.put 0 (e)); obtain ⟨a0, a1, a2, b0, b1, f0, f1⟩ := HXC.out.b2.cells; obtain ⟨h0, h1, g0, g1⟩ := HXC.out.cells; have p6 := (HJA.out.later hb99).cell 6 (by omega); clear hb99; obtain ⟨k0, k1, k2, _, _, _, _⟩ := HXE.out.b2.cells; have kp := (J.later HXE.out.b2.bel).cell 6 (by omega)) | fail)
    all_goals (try go_wp2_with fail)
    all_goals go_meet
    all_goals exact ⟨_, rfl, rfl, HXE⟩
  case rest =>
    obtain ⟨HH, rfl, rfl, HX2⟩ := hcut
    clear HX HJ a0 a1 a2 b0 b1 f0 f1
    have HX := HX2
    clear HX2
    have HJ := hidden (J.later HX.out.b2.bel)
    generalize wc = w2 at *
    obtain ⟨a0, a1, a2, b0, b1, f0, f1⟩ := HX.out.b2.cells
    obtain ⟨h0, h1, g0, g1⟩ := HX.out.cells
    go_upto_region 3 with (first | (go_at_call 66; (with_reducible refine (ends_bad2 hne _).mono ?_); rintro e w3 ⟨rfl, hb3⟩; replace HX := hidden (HX.out.call hb3); replace HJ := hidden (HJ.out.later hb3); clear a0 a1 a2 b0 b1 f0 f1; clear h0 h1 g0 g1; obtain ⟨a0, a1, a2, b0, b1, f0, f1⟩ := HX.out.b2.cells; obtain ⟨h0, h1, g0, g1⟩ := HX.out.cells; clear hb3) | fail)
    have HXD := hidden (HX.out.call ((Below.refl _ _).drew))
    have HF := hidden (HX.out.b2.find (0) (e))
    clear HXD
    (first | (go_region_with (fail)) | fail)
    all_goals
      go_wp2
      generalize ((w3.setCell ⟨w.heap.size + 1, 0, none⟩ (.int .i64 (0))).setCell ⟨w.heap.size + 1, 1, none⟩ (.int .i64 (e))).drew = w98 at *
      obtain ⟨d0, d1, _⟩ := HF.out.1.cells
      refine bodyPost_ret (v := .tuple #[.bool false, .agg #[.int .i64 (0), .int .i64 (e)]]) (by simp [results, Try.results90, go_sem, d0, d1]) rfl ⟨?_, HF.out.2⟩
      rfl
theorem bar_2 (j : Jb) (m pb po pc : Nat) (w : World) (J : JAt w j m (some ⟨pb, po, none⟩)) (a p x : Nat) (hx : x = a) (c1 : ∀ w, JAt w j m (some ⟨pb, po, none⟩) → Calls Try.prog 65 #[.agg #[.pointer (some ⟨m, 0, none⟩), .slice (some ⟨pb, po, none⟩) 9 pc, .int .u32 j.att], .int .u32 (j.p 6 : Nat), .int .i64 4] w fun r w' => r = .returned (.tuple #[.int .u32 (x : Nat), .agg #[.int .i64 0, .int .i64 0]]) ∧ Below w.heap.size w w') :
    Calls Try.prog 90 #[.agg #[.pointer (some ⟨m, 0, none⟩), .slice (some ⟨pb, po, none⟩) 9 pc, .int .u32 j.att], .int .u32 (a : Nat), .int .u32 (p : Nat)] w fun r w' => r = .returned (.tuple #[.bool false, .agg #[.int .i64 0, .int .i64 0]]) ∧ Below w.heap.size w w' := by
  have Hc1 := hidden c1
  have q : ((x : Int) == (a : Int)) = true := by rw [hx]; simp
  clear hx
  clear c1
  have HX := hidden (Bx2.start w m (some ⟨pb, po, none⟩) pc j.att)
  go_enter Try.func90, Try.ntmps90
  go_upto_region 1 with fail
  generalize (w.alloc (.cells #[.pointer (some ⟨m, 0, none⟩), .slice (some ⟨pb, po, none⟩) 9 pc, .int .u32 j.att] 94)).alloc (.cells #[.int .i64 0, .int .i64 0] 91) = w1 at *
  have HJ := hidden (J.later HX.out.bel)
  obtain ⟨a0, a1, a2, b0, b1, f0, f1⟩ := HX.out.cells
  go_cut [8, 9] from 11 (fun s8 s9 wx => ∃ HH, s8 = .int .u32 (x : Nat) ∧ s9 = .pointer (some ⟨HH, 0, none⟩) ∧ Hid (Bx3 w wx w.heap.size (w.heap.size + 1) m (some ⟨pb, po, none⟩) pc j.att HH 0 (0)))
  case first =>
    have p6 := HJ.out.cell 6 (by omega)
    have HXD := hidden (HX.out.call ((Below.refl _ _).drew))
    have HJD := hidden (HJ.out.later ((Below.refl _ _).drew))
    have HXA := hidden ((HX.out.new 0 0).call ((Below.refl _ _).drew))
    have HJA := hidden ((HJ.out.later ((Below.refl _ _).alloc (Nat.le_refl _) (.cells #[.int .i64 0, .int .i64 0] 91))).later ((Below.refl _ _).drew))
    go_region_held3 (fun w' => w'.cell? ⟨w.heap.size, 0, none⟩ = some (.pointer (some ⟨m, 0, none⟩)) ∧ w'.cell? ⟨w.heap.size, 1, none⟩ = some (.slice (some ⟨pb, po, none⟩) 9 pc) ∧ w'.cell? ⟨w.heap.size, 2, none⟩ = some (.int .u32 j.att) ∧ w'.cell? ⟨pb, po + 6, none⟩ = some (.int .u32 (j.p 6))) (first | (refine ⟨?_, ?_, ?_, ?_⟩ <;> with_reducible assumption) | go_keep) (first | (go_at_call 65; (with_reducible refine (Hc1.out _ HJD.out).mono ?_); rintro e w99 ⟨rfl, hb99⟩; have HXC := hidden (HXD.out.call hb99); have HXE := hidden (HXC.out.new 0 (0)); obtain ⟨a0, a1, a2, b0, b1, f0, f1⟩ := HXC.out.cells; have p6 := (HJD.out.later hb99).cell 6 (by omega); clear hb99; obtain ⟨k0, k1, k2, _, _, _, _⟩ := HXE.out.b2.cells; have kp := (J.later HXE.out.b2.bel).cell 6 (by omega)) | (go_at_call 65; (with_reducible refine (Hc1.out _ HJA.out).mono ?_); rintro e w99 ⟨rfl, hb99⟩; have HXC := hidden (HXA.out.call hb99); have HXE := hidden (HXC.out.put 0 (0)); obtain ⟨a0, a1, a2, b0, b1, f0, f1⟩ := HXC.out.b2.cells; obtain ⟨h0, h1, g0, g1⟩ := HXC.out.cells; have p6 := (HJA.out.later hb99).cell 6 (by omega); clear hb99; obtain ⟨k0, k1, k2, _, _, _, _⟩ := HXE.out.b2.cells; have kp := (J.later HXE.out.b2.bel).cell 6 (by omega)) | fail)
    all_goals (try go_wp2_with fail)
    all_goals go_meet
    all_goals exact ⟨_, rfl, rfl, HXE⟩
  case rest =>
    obtain ⟨HH, rfl, rfl, HX2⟩ := hcut
    clear HX HJ a0 a1 a2 b0 b1 f0 f1
    have HX := HX2
    clear HX2
    have HJ := hidden (J.later HX.out.b2.bel)
    generalize wc = w2 at *
    obtain ⟨a0, a1, a2, b0, b1, f0, f1⟩ := HX.out.b2.cells
    obtain ⟨h0, h1, g0, g1⟩ := HX.out.cells
    go_upto_region 3 with (first | (go_at_call 66; (with_reducible refine (ends_good _).mono ?_); rintro e w3 ⟨rfl, hb3⟩; replace HX := hidden (HX.out.call hb3); replace HJ := hidden (HJ.out.later hb3); clear a0 a1 a2 b0 b1 f0 f1; clear h0 h1 g0 g1; obtain ⟨a0, a1, a2, b0, b1, f0, f1⟩ := HX.out.b2.cells; obtain ⟨h0, h1, g0, g1⟩ := HX.out.cells; clear hb3) | fail)
    have HXD := hidden (HX.out.call ((Below.refl _ _).drew))
    have HF := hidden (HX.out.b2.find (0) (0))
    clear HXD
    (first | (go_region_with (fail)) | fail)
    all_goals
      go_wp2
      generalize ((w3.setCell ⟨w.heap.size + 1, 0, none⟩ (.int .i64 (0))).setCell ⟨w.heap.size + 1, 1, none⟩ (.int .i64 (0))).drew = w98 at *
      obtain ⟨d0, d1, _⟩ := HF.out.1.cells
      refine bodyPost_ret (v := .tuple #[.bool false, .agg #[.int .i64 (0), .int .i64 (0)]]) (by simp [results, Try.results90, go_sem, d0, d1]) rfl ⟨?_, HF.out.2⟩
      rfl
theorem bar_3 (j : Jb) (m pb po pc : Nat) (w : World) (J : JAt w j m (some ⟨pb, po, none⟩)) (a p x p9 f : Nat) (fe : Int) (hx : ¬ x = a) (e9 : ((p : Int) + 9) % 4294967296 = (p9 : Int)) (hf : f % 2 = 0) (c1 : ∀ w, JAt w j m (some ⟨pb, po, none⟩) → Calls Try.prog 65 #[.agg #[.pointer (some ⟨m, 0, none⟩), .slice (some ⟨pb, po, none⟩) 9 pc, .int .u32 j.att], .int .u32 (j.p 6 : Nat), .int .i64 4] w fun r w' => r = .returned (.tuple #[.int .u32 (x : Nat), .agg #[.int .i64 0, .int .i64 0]]) ∧ Below w.heap.size w w') (c2 : ∀ w, JAt w j m (some ⟨pb, po, none⟩) → Calls Try.prog 65 #[.agg #[.pointer (some ⟨m, 0, none⟩), .slice (some ⟨pb, po, none⟩) 9 pc, .int .u32 j.att], .int .u32 (p9 : Nat), .int .i64 1] w fun r w' => r = .returned (.tuple #[.int .u32 (f : Nat), .agg #[.int .i64 0, .int .i64 fe]]) ∧ Below w.heap.size w w') :
    Calls Try.prog 90 #[.agg #[.pointer (some ⟨m, 0, none⟩), .slice (some ⟨pb, po, none⟩) 9 pc, .int .u32 j.att], .int .u32 (a : Nat), .int .u32 (p : Nat)] w fun r w' => r = .returned (.tuple #[.bool false, .agg #[.int .i64 0, .int .i64 fe]]) ∧ Below w.heap.size w w' := by
  have Hc1 := hidden c1
  have Hc2 := hidden c2
  have q : ((x : Int) == (a : Int)) = false := by rw [beq_eq_false_iff_ne]; omega
  have q2 : (f : Int).tmod 2 = 0 := by rw [Int.tmod_eq_emod_of_nonneg (by omega)]; omega
  clear hx hf
  clear c1 c2
  have HX := hidden (Bx2.start w m (some ⟨pb, po, none⟩) pc j.att)
  go_enter Try.func90, Try.ntmps90
  go_upto_region 1 with fail
  generalize (w.alloc (.cells #[.pointer (some ⟨m, 0, none⟩), .slice (some ⟨pb, po, none⟩) 9 pc, .int .u32 j.att] 94)).alloc (.cells #[.int .i64 0, .int .i64 0] 91) = w1 at *
  have HJ := hidden (J.later HX.out.bel)
  obtain ⟨a0, a1, a2, b0, b1, f0, f1⟩ := HX.out.cells
  go_cut [8, 9] from 11 (fun s8 s9 wx => ∃ HH, s8 = .int .u32 (x : Nat) ∧ s9 = .pointer (some ⟨HH, 0, none⟩) ∧ Hid (Bx3 w wx w.heap.size (w.heap.size + 1) m (some ⟨pb, po, none⟩) pc j.att HH 0 (0)))
  case first =>
    have p6 := HJ.out.cell 6 (by omega)
    have HXD := hidden (HX.out.call ((Below.refl _ _).drew))
    have HJD := hidden (HJ.out.later ((Below.refl _ _).drew))
    have HXA := hidden ((HX.out.new 0 0).call ((Below.refl _ _).drew))
    have HJA := hidden ((HJ.out.later ((Below.refl _ _).alloc (Nat.le_refl _) (.cells #[.int .i64 0, .int .i64 0] 91))).later ((Below.refl _ _).drew))
    go_region_held3 (fun w' => w'.cell? ⟨w.heap.size, 0, none⟩ = some (.pointer (some ⟨m, 0, none⟩)) ∧ w'.cell? ⟨w.heap.size, 1, none⟩ = some (.slice (some ⟨pb, po, none⟩) 9 pc) ∧ w'.cell? ⟨w.heap.size, 2, none⟩ = some (.int .u32 j.att) ∧ w'.cell? ⟨pb, po + 6, none⟩ = some (.int .u32 (j.p 6))) (first | (refine ⟨?_, ?_, ?_, ?_⟩ <;> with_reducible assumption) | go_keep) (first | (go_at_call 65; (with_reducible refine (Hc1.out _ HJD.out).mono ?_); rintro e w99 ⟨rfl, hb99⟩; have HXC := hidden (HXD.out.call hb99); have HXE := hidden (HXC.out.new 0 (0)); obtain ⟨a0, a1, a2, b0, b1, f0, f1⟩ := HXC.out.cells; have p6 := (HJD.out.later hb99).cell 6 (by omega); clear hb99; obtain ⟨k0, k1, k2, _, _, _, _⟩ := HXE.out.b2.cells; have kp := (J.later HXE.out.b2.bel).cell 6 (by omega)) | (go_at_call 65; (with_reducible refine (Hc1.out _ HJA.out).mono ?_); rintro e w99 ⟨rfl, hb99⟩; have HXC := hidden (HXA.out.call hb99); have HXE := hidden (HXC.out.put 0 (0)); obtain ⟨a0, a1, a2, b0, b1, f0, f1⟩ := HXC.out.b2.cells; obtain ⟨h0, h1, g0, g1⟩ := HXC.out.cells; have p6 := (HJA.out.later hb99).cell 6 (by omega); clear hb99; obtain ⟨k0, k1, k2, _, _, _, _⟩ := HXE.out.b2.cells; have kp := (J.later HXE.out.b2.bel).cell 6 (by omega)) | fail)
    all_goals (try go_wp2_with fail)
    all_goals go_meet
    all_goals exact ⟨_, rfl, rfl, HXE⟩
  case rest =>
    obtain ⟨HH, rfl, rfl, HX2⟩ := hcut
    clear HX HJ a0 a1 a2 b0 b1 f0 f1
    have HX := HX2
    clear HX2
    have HJ := hidden (J.later HX.out.b2.bel)
    generalize wc = w2 at *
    obtain ⟨a0, a1, a2, b0, b1, f0, f1⟩ := HX.out.b2.cells
    obtain ⟨h0, h1, g0, g1⟩ := HX.out.cells
    go_upto_region 4 with (first | (go_at_call 66; (with_reducible refine (ends_good _).mono ?_); rintro e w3 ⟨rfl, hb3⟩; replace HX := hidden (HX.out.call hb3); replace HJ := hidden (HJ.out.later hb3); clear a0 a1 a2 b0 b1 f0 f1; clear h0 h1 g0 g1; obtain ⟨a0, a1, a2, b0, b1, f0, f1⟩ := HX.out.b2.cells; obtain ⟨h0, h1, g0, g1⟩ := HX.out.cells; clear hb3) | fail)
    go_upto_region 5 with (first | (go_at_call 65; (with_reducible refine (Hc2.out _ HJ.out).mono ?_); rintro e w4 ⟨rfl, hb4⟩; replace HX := hidden (HX.out.call hb4); replace HJ := hidden (HJ.out.later hb4); clear a0 a1 a2 b0 b1 f0 f1; clear h0 h1 g0 g1; obtain ⟨a0, a1, a2, b0, b1, f0, f1⟩ := HX.out.b2.cells; obtain ⟨h0, h1, g0, g1⟩ := HX.out.cells; clear hb4) | fail)
    replace HX := hidden (HX.out.put (0) (fe))
    replace HJ := hidden (J.later HX.out.b2.bel)
    clear a0 a1 a2 b0 b1 f0 f1 h0 h1 g0 g1
    generalize (w4.setCell ⟨HH, 0, none⟩ (.int .i64 (0))).setCell ⟨HH, 1, none⟩ (.int .i64 (fe)) = w5 at *
    obtain ⟨a0, a1, a2, b0, b1, f0, f1⟩ := HX.out.b2.cells
    obtain ⟨h0, h1, g0, g1⟩ := HX.out.cells
    have HXD := hidden (HX.out.call ((Below.refl _ _).drew))
    have HF := hidden (HX.out.b2.find (0) (fe))
    clear HXD
    (first | (go_region_with (fail)) | fail)
    all_goals
      go_wp2
      generalize ((w5.setCell ⟨w.heap.size + 1, 0, none⟩ (.int .i64 (0))).setCell ⟨w.heap.size + 1, 1, none⟩ (.int .i64 (fe))).drew = w98 at *
      obtain ⟨d0, d1, _⟩ := HF.out.1.cells
      refine bodyPost_ret (v := .tuple #[.bool false, .agg #[.int .i64 (0), .int .i64 (fe)]]) (by simp [results, Try.results90, go_sem, d0, d1]) rfl ⟨?_, HF.out.2⟩
      rfl
theorem bar_4 (j : Jb) (m pb po pc : Nat) (w : World) (J : JAt w j m (some ⟨pb, po, none⟩)) (a p x p9 f : Nat) (fe : Int) (hx : ¬ x = a) (e9 : ((p : Int) + 9) % 4294967296 = (p9 : Int)) (hf : ¬ f % 2 = 0) (c1 : ∀ w, JAt w j m (some ⟨pb, po, none⟩) → Calls Try.prog 65 #[.agg #[.pointer (some ⟨m, 0, none⟩), .slice (some ⟨pb, po, none⟩) 9 pc, .int .u32 j.att], .int .u32 (j.p 6 : Nat), .int .i64 4] w fun r w' => r = .returned (.tuple #[.int .u32 (x : Nat), .agg #[.int .i64 0, .int .i64 0]]) ∧ Below w.heap.size w w') (c2 : ∀ w, JAt w j m (some ⟨pb, po, none⟩) → Calls Try.prog 65 #[.agg #[.pointer (some ⟨m, 0, none⟩), .slice (some ⟨pb, po, none⟩) 9 pc, .int .u32 j.att], .int .u32 (p9 : Nat), .int .i64 1] w fun r w' => r = .returned (.tuple #[.int .u32 (f : Nat), .agg #[.int .i64 0, .int .i64 fe]]) ∧ Below w.heap.size w w') :
    Calls Try.prog 90 #[.agg #[.pointer (some ⟨m, 0, none⟩), .slice (some ⟨pb, po, none⟩) 9 pc, .int .u32 j.att], .int .u32 (a : Nat), .int .u32 (p : Nat)] w fun r w' => r = .returned (.tuple #[.bool true, .agg #[.int .i64 0, .int .i64 fe]]) ∧ Below w.heap.size w w' := by
  have Hc1 := hidden c1
  have Hc2 := hidden c2
  have q : ((x : Int) == (a : Int)) = false := by rw [beq_eq_false_iff_ne]; omega
  have q2 : (f : Int).tmod 2 = 1 := by rw [Int.tmod_eq_emod_of_nonneg (by omega)]; omega
  clear hx hf
  clear c1 c2
  have HX := hidden (Bx2.start w m (some ⟨pb, po, none⟩) pc j.att)
  go_enter Try.func90, Try.ntmps90
  go_upto_region 1 with fail
  generalize (w.alloc (.cells #[.pointer (some ⟨m, 0, none⟩), .slice (some ⟨pb, po, none⟩) 9 pc, .int .u32 j.att] 94)).alloc (.cells #[.int .i64 0, .int .i64 0] 91) = w1 at *
  have HJ := hidden (J.later HX.out.bel)
  obtain ⟨a0, a1, a2, b0, b1, f0, f1⟩ := HX.out.cells
  go_cut [8, 9] from 11 (fun s8 s9 wx => ∃ HH, s8 = .int .u32 (x : Nat) ∧ s9 = .pointer (some ⟨HH, 0, none⟩) ∧ Hid (Bx3 w wx w.heap.size (w.heap.size + 1) m (some ⟨pb, po, none⟩) pc j.att HH 0 (0)))
  case first =>
    have p6 := HJ.out.cell 6 (by omega)
    have HXD := hidden (HX.out.call ((Below.refl _ _).drew))
    have HJD := hidden (HJ.out.later ((Below.refl _ _).drew))
    have HXA := hidden ((HX.out.new 0 0).call ((Below.refl _ _).drew))
    have HJA := hidden ((HJ.out.later ((Below.refl _ _).alloc (Nat.le_refl _) (.cells #[.int .i64 0, .int .i64 0] 91))).later ((Below.refl _ _).drew))
    go_region_held3 (fun w' => w'.cell? ⟨w.heap.size, 0, none⟩ = some (.pointer (some ⟨m, 0, none⟩)) ∧ w'.cell? ⟨w.heap.size, 1, none⟩ = some (.slice (some ⟨pb, po, none⟩) 9 pc) ∧ w'.cell? ⟨w.heap.size, 2, none⟩ = some (.int .u32 j.att) ∧ w'.cell? ⟨pb, po + 6, none⟩ = some (.int .u32 (j.p 6))) (first | (refine ⟨?_, ?_, ?_, ?_⟩ <;> with_reducible assumption) | go_keep) (first | (go_at_call 65; (with_reducible refine (Hc1.out _ HJD.out).mono ?_); rintro e w99 ⟨rfl, hb99⟩; have HXC := hidden (HXD.out.call hb99); have HXE := hidden (HXC.out.new 0 (0)); obtain ⟨a0, a1, a2, b0, b1, f0, f1⟩ := HXC.out.cells; have p6 := (HJD.out.later hb99).cell 6 (by omega); clear hb99; obtain ⟨k0, k1, k2, _, _, _, _⟩ := HXE.out.b2.cells; have kp := (J.later HXE.out.b2.bel).cell 6 (by omega)) | (go_at_call 65; (with_reducible refine (Hc1.out _ HJA.out).mono ?_); rintro e w99 ⟨rfl, hb99⟩; have HXC := hidden (HXA.out.call hb99); have HXE := hidden (HXC.out.put 0 (0)); obtain ⟨a0, a1, a2, b0, b1, f0, f1⟩ := HXC.out.b2.cells; obtain ⟨h0, h1, g0, g1⟩ := HXC.out.cells; have p6 := (HJA.out.later hb99).cell 6 (by omega); clear hb99; obtain ⟨k0, k1, k2, _, _, _, _⟩ := HXE.out.b2.cells; have kp := (J.later HXE.out.b2.bel).cell 6 (by omega)) | fail)
    all_goals (try go_wp2_with fail)
    all_goals go_meet
    all_goals exact ⟨_, rfl, rfl, HXE⟩
  case rest =>
    obtain ⟨HH, rfl, rfl, HX2⟩ := hcut
    clear HX HJ a0 a1 a2 b0 b1 f0 f1
    have HX := HX2
    clear HX2
    have HJ := hidden (J.later HX.out.b2.bel)
    generalize wc = w2 at *
    obtain ⟨a0, a1, a2, b0, b1, f0, f1⟩ := HX.out.b2.cells
    obtain ⟨h0, h1, g0, g1⟩ := HX.out.cells
    go_upto_region 4 with (first | (go_at_call 66; (with_reducible refine (ends_good _).mono ?_); rintro e w3 ⟨rfl, hb3⟩; replace HX := hidden (HX.out.call hb3); replace HJ := hidden (HJ.out.later hb3); clear a0 a1 a2 b0 b1 f0 f1; clear h0 h1 g0 g1; obtain ⟨a0, a1, a2, b0, b1, f0, f1⟩ := HX.out.b2.cells; obtain ⟨h0, h1, g0, g1⟩ := HX.out.cells; clear hb3) | fail)
    go_upto_region 5 with (first | (go_at_call 65; (with_reducible refine (Hc2.out _ HJ.out).mono ?_); rintro e w4 ⟨rfl, hb4⟩; replace HX := hidden (HX.out.call hb4); replace HJ := hidden (HJ.out.later hb4); clear a0 a1 a2 b0 b1 f0 f1; clear h0 h1 g0 g1; obtain ⟨a0, a1, a2, b0, b1, f0, f1⟩ := HX.out.b2.cells; obtain ⟨h0, h1, g0, g1⟩ := HX.out.cells; clear hb4) | fail)
    replace HX := hidden (HX.out.put (0) (fe))
    replace HJ := hidden (J.later HX.out.b2.bel)
    clear a0 a1 a2 b0 b1 f0 f1 h0 h1 g0 g1
    generalize (w4.setCell ⟨HH, 0, none⟩ (.int .i64 (0))).setCell ⟨HH, 1, none⟩ (.int .i64 (fe)) = w5 at *
    obtain ⟨a0, a1, a2, b0, b1, f0, f1⟩ := HX.out.b2.cells
    obtain ⟨h0, h1, g0, g1⟩ := HX.out.cells
    have HXD := hidden (HX.out.call ((Below.refl _ _).drew))
    have HF := hidden (HX.out.b2.find (0) (fe))
    clear HXD
    (first | (go_region_with (fail)) | fail)
    all_goals
      go_wp2
      generalize ((w5.setCell ⟨w.heap.size + 1, 0, none⟩ (.int .i64 (0))).setCell ⟨w.heap.size + 1, 1, none⟩ (.int .i64 (fe))).drew = w98 at *
      obtain ⟨d0, d1, _⟩ := HF.out.1.cells
      refine bodyPost_ret (v := .tuple #[.bool true, .agg #[.int .i64 (0), .int .i64 (fe)]]) (by simp [results, Try.results90, go_sem, d0, d1]) rfl ⟨?_, HF.out.2⟩
      rfl
end Go.Proofs.Ytpgppdkbkkljnaa
namespace Go.Proofs.Ytpgppdkbkkljnaa
open Go.RowKit
set_option maxHeartbeats 1000000
set_option maxRecDepth 100000
set_option linter.unusedVariables false

theorem tab_1 (j : Jb) (m pb po pc : Nat) (w : World) (J : JAt w j m (some ⟨pb, po, none⟩)) (a b rg : Nat) (hr : ¬ rg = 1) (c1 : ∀ w, JAt w j m (some ⟨pb, po, none⟩) → Calls Try.prog 48 #[.agg #[.pointer (some ⟨m, 0, none⟩), .slice (some ⟨pb, po, none⟩) 9 pc, .int .u32 j.att], .int .u32 (a : Nat)] w fun r w' => r = .returned (.int .u32 (rg : Nat)) ∧ Below w.heap.size w w') :
    Calls Try.prog 49 #[.agg #[.pointer (some ⟨m, 0, none⟩), .slice (some ⟨pb, po, none⟩) 9 pc, .int .u32 j.att], .int .u32 (a : Nat), .int .u32 (b : Nat)] w fun r w' => r = .returned (.tuple #[.int .u32 0, .agg #[.int .i64 1, .int .i64 0]]) ∧ Below w.heap.size w w' := by
  have Hc1 := hidden c1
  have q : ((rg : Int) == 1) = false := by rw [beq_eq_false_iff_ne]; omega
  clear hr
  clear c1
  have HX := hidden (Bx2.start w m (some ⟨pb, po, none⟩) pc j.att)
  go_enter Try.func49, Try.ntmps49
  go_upto_region 1 with fail
  generalize (w.alloc (.cells #[.pointer (some ⟨m, 0, none⟩), .slice (some ⟨pb, po, none⟩) 9 pc, .int .u32 j.att] 94)).alloc (.cells #[.int .i64 0, .int .i64 0] 91) = w1 at *
  have HJ := hidden (J.later HX.out.bel)
  obtain ⟨a0, a1, a2, b0, b1, f0, f1⟩ := HX.out.cells
  go_upto_region 2 with (first | (go_at_call 48; (with_reducible refine (Hc1.out _ HJ.out).mono ?_); rintro e w2 ⟨rfl, hb2⟩; replace HX := hidden (HX.out.call hb2); replace HJ := hidden (HJ.out.later hb2); clear a0 a1 a2 b0 b1 f0 f1; obtain ⟨a0, a1, a2, b0, b1, f0, f1⟩ := HX.out.cells; clear hb2) | fail)
  have HF := hidden (HX.out.fin (1) (0))
  all_goals
    go_wp2
    obtain ⟨d0, d1, _⟩ := HF.out.1.cells
    refine bodyPost_ret (v := .tuple #[.int .u32 0, .agg #[.int .i64 (1), .int .i64 (0)]]) (by simp [results, Try.results49, go_sem, d0, d1]) rfl ⟨?_, HF.out.2⟩
    rfl
theorem tab_2 (j : Jb) (m pb po pc : Nat) (w : World) (J : JAt w j m (some ⟨pb, po, none⟩)) (a b AD t : Nat) (te : Int) (e1 : ((a : Int) + 4 * ((3 + (j.att : Int) / 4) % 4294967296)) % 4294967296 = (AD : Int)) (hne : ¬ te = 0) (c1 : ∀ w, JAt w j m (some ⟨pb, po, none⟩) → Calls Try.prog 48 #[.agg #[.pointer (some ⟨m, 0, none⟩), .slice (some ⟨pb, po, none⟩) 9 pc, .int .u32 j.att], .int .u32 (a : Nat)] w fun r w' => r = .returned (.int .u32 1) ∧ Below w.heap.size w w') (c2 : ∀ w, JAt w j m (some ⟨pb, po, none⟩) → Calls Try.prog 65 #[.agg #[.pointer (some ⟨m, 0, none⟩), .slice (some ⟨pb, po, none⟩) 9 pc, .int .u32 j.att], .int .u32 (AD : Nat), .int .i64 4] w fun r w' => r = .returned (.tuple #[.int .u32 (t : Nat), .agg #[.int .i64 0, .int .i64 te]]) ∧ Below w.heap.size w w') :
    Calls Try.prog 49 #[.agg #[.pointer (some ⟨m, 0, none⟩), .slice (some ⟨pb, po, none⟩) 9 pc, .int .u32 j.att], .int .u32 (a : Nat), .int .u32 (b : Nat)] w fun r w' => r = .returned (.tuple #[.int .u32 0, .agg #[.int .i64 0, .int .i64 te]]) ∧ Below w.heap.size w w' := by
  have Hc1 := hidden c1
  have Hc2 := hidden c2
  clear c1 c2
  have HX := hidden (Bx2.start w m (some ⟨pb, po, none⟩) pc j.att)
  go_enter Try.func49, Try.ntmps49
  go_upto_region 1 with fail
  generalize (w.alloc (.cells #[.pointer (some ⟨m, 0, none⟩), .slice (some ⟨pb, po, none⟩) 9 pc, .int .u32 j.att] 94)).alloc (.cells #[.int .i64 0, .int .i64 0] 91) = w1 at *
  have HJ := hidden (J.later HX.out.bel)
  obtain ⟨a0, a1, a2, b0, b1, f0, f1⟩ := HX.out.cells
  go_upto_region 3 with (first | (go_at_call 48; (with_reducible refine (Hc1.out _ HJ.out).mono ?_); rintro e w2 ⟨rfl, hb2⟩; replace HX := hidden (HX.out.call hb2); replace HJ := hidden (HJ.out.later hb2); clear a0 a1 a2 b0 b1 f0 f1; obtain ⟨a0, a1, a2, b0, b1, f0, f1⟩ := HX.out.cells; clear hb2) | fail)
  go_upto_region 4 with (first | (go_at_call 65; (with_reducible refine (Hc2.out _ HJ.out).mono ?_); rintro e w3 ⟨rfl, hb3⟩; replace HX := hidden (HX.out.call hb3); replace HJ := hidden (HJ.out.later hb3); clear a0 a1 a2 b0 b1 f0 f1; obtain ⟨a0, a1, a2, b0, b1, f0, f1⟩ := HX.out.cells; clear hb3) | fail)
  replace HX := hidden (HX.out.new (0) (te))
  replace HJ := hidden (HJ.out.later ((Below.refl _ _).alloc (Nat.le_refl _) (.cells #[.int .i64 (0), .int .i64 (te)] 91)))
  clear a0 a1 a2 b0 b1 f0 f1
  change Code.wp _ _ _ _ (w3.alloc (.cells #[.int .i64 (0), .int .i64 (te)] 91))
  generalize w3.alloc (.cells #[.int .i64 (0), .int .i64 (te)] 91) = w4 at *
  generalize w3.heap.size = H4 at *
  obtain ⟨a0, a1, a2, b0, b1, f0, f1⟩ := HX.out.b2.cells
  obtain ⟨h0, h1, g0, g1⟩ := HX.out.cells
  go_upto_region 5 with (first | (go_at_call 66; (with_reducible refine (ends_bad2 hne _).mono ?_); rintro e w5 ⟨rfl, hb5⟩; replace HX := hidden (HX.out.call hb5); replace HJ := hidden (HJ.out.later hb5); clear a0 a1 a2 b0 b1 f0 f1; clear h0 h1 g0 g1; obtain ⟨a0, a1, a2, b0, b1, f0, f1⟩ := HX.out.b2.cells; obtain ⟨h0, h1, g0, g1⟩ := HX.out.cells; clear hb5) | fail)
  have HXD := hidden (HX.out.call ((Below.refl _ _).drew))
  have HF := hidden (HX.out.b2.find (0) (te))
  clear HXD
  (first | (go_region_with (fail)) | fail)
  all_goals
    go_wp2
    generalize ((w5.setCell ⟨w.heap.size + 1, 0, none⟩ (.int .i64 (0))).setCell ⟨w.heap.size + 1, 1, none⟩ (.int .i64 (te))).drew = w98 at *
    obtain ⟨d0, d1, _⟩ := HF.out.1.cells
    refine bodyPost_ret (v := .tuple #[.int .u32 0, .agg #[.int .i64 (0), .int .i64 (te)]]) (by simp [results, Try.results49, go_sem, d0, d1]) rfl ⟨?_, HF.out.2⟩
    rfl
theorem tab_3 (j : Jb) (m pb po pc : Nat) (w : World) (J : JAt w j m (some ⟨pb, po, none⟩)) (a b AD : Nat) (e1 : ((a : Int) + 4 * ((3 + (j.att : Int) / 4) % 4294967296)) % 4294967296 = (AD : Int)) (c1 : ∀ w, JAt w j m (some ⟨pb, po, none⟩) → Calls Try.prog 48 #[.agg #[.pointer (some ⟨m, 0, none⟩), .slice (some ⟨pb, po, none⟩) 9 pc, .int .u32 j.att], .int .u32 (a : Nat)] w fun r w' => r = .returned (.int .u32 1) ∧ Below w.heap.size w w') (c2 : ∀ w, JAt w j m (some ⟨pb, po, none⟩) → Calls Try.prog 65 #[.agg #[.pointer (some ⟨m, 0, none⟩), .slice (some ⟨pb, po, none⟩) 9 pc, .int .u32 j.att], .int .u32 (AD : Nat), .int .i64 4] w fun r w' => r = .returned (.tuple #[.int .u32 0, .agg #[.int .i64 0, .int .i64 0]]) ∧ Below w.heap.size w w') :
    Calls Try.prog 49 #[.agg #[.pointer (some ⟨m, 0, none⟩), .slice (some ⟨pb, po, none⟩) 9 pc, .int .u32 j.att], .int .u32 (a : Nat), .int .u32 (b : Nat)] w fun r w' => r = .returned (.tuple #[.int .u32 0, .agg #[.int .i64 0, .int .i64 0]]) ∧ Below w.heap.size w w' := by
  have Hc1 := hidden c1
  have Hc2 := hidden c2
  clear c1 c2
  have HX := hidden (Bx2.start w m (some ⟨pb, po, none⟩) pc j.att)
  go_enter Try.func49, Try.ntmps49
  go_upto_region 1 with fail
  generalize (w.alloc (.cells #[.pointer (some ⟨m, 0, none⟩), .slice (some ⟨pb, po, none⟩) 9 pc, .int .u32 j.att] 94)).alloc (.cells #[.int .i64 0, .int .i64 0] 91) = w1 at *
  have HJ := hidden (J.later HX.out.bel)
  obtain ⟨a0, a1, a2, b0, b1, f0, f1⟩ := HX.out.cells
  go_upto_region 3 with (first | (go_at_call 48; (with_reducible refine (Hc1.out _ HJ.out).mono ?_); rintro e w2 ⟨rfl, hb2⟩; replace HX := hidden (HX.out.call hb2); replace HJ := hidden (HJ.out.later hb2); clear a0 a1 a2 b0 b1 f0 f1; obtain ⟨a0, a1, a2, b0, b1, f0, f1⟩ := HX.out.cells; clear hb2) | fail)
  go_upto_region 4 with (first | (go_at_call 65; (with_reducible refine (Hc2.out _ HJ.out).mono ?_); rintro e w3 ⟨rfl, hb3⟩; replace HX := hidden (HX.out.call hb3); replace HJ := hidden (HJ.out.later hb3); clear a0 a1 a2 b0 b1 f0 f1; obtain ⟨a0, a1, a2, b0, b1, f0, f1⟩ := HX.out.cells; clear hb3) | fail)
  replace HX := hidden (HX.out.new (0) (0))
  replace HJ := hidden (HJ.out.later ((Below.refl _ _).alloc (Nat.le_refl _) (.cells #[.int .i64 (0), .int .i64 (0)] 91)))
  clear a0 a1 a2 b0 b1 f0 f1
  change Code.wp _ _ _ _ (w3.alloc (.cells #[.int .i64 (0), .int .i64 (0)] 91))
  generalize w3.alloc (.cells #[.int .i64 (0), .int .i64 (0)] 91) = w4 at *
  generalize w3.heap.size = H4 at *
  obtain ⟨a0, a1, a2, b0, b1, f0, f1⟩ := HX.out.b2.cells
  obtain ⟨h0, h1, g0, g1⟩ := HX.out.cells
  go_upto_region 5 with (first | (go_at_call 66; (with_reducible refine (ends_good _).mono ?_); rintro e w5 ⟨rfl, hb5⟩; replace HX := hidden (HX.out.call hb5); replace HJ := hidden (HJ.out.later hb5); clear a0 a1 a2 b0 b1 f0 f1; clear h0 h1 g0 g1; obtain ⟨a0, a1, a2, b0, b1, f0, f1⟩ := HX.out.b2.cells; obtain ⟨h0, h1, g0, g1⟩ := HX.out.cells; clear hb5) | fail)
  have HXD := hidden (HX.out.call ((Below.refl _ _).drew))
  have HF := hidden (HX.out.b2.find (0) (0))
  clear HXD
  (first | (go_region_with (fail)) | fail)
  all_goals
    go_wp2
    generalize ((w5.setCell ⟨w.heap.size + 1, 0, none⟩ (.int .i64 (0))).setCell ⟨w.heap.size + 1, 1, none⟩ (.int .i64 (0))).drew = w98 at *
    obtain ⟨d0, d1, _⟩ := HF.out.1.cells
    refine bodyPost_ret (v := .tuple #[.int .u32 0, .agg #[.int .i64 (0), .int .i64 (0)]]) (by simp [results, Try.results49, go_sem, d0, d1]) rfl ⟨?_, HF.out.2⟩
    rfl
theorem tab_4 (j : Jb) (m pb po pc : Nat) (w : World) (J : JAt w j m (some ⟨pb, po, none⟩)) (a b AD t n : Nat) (ne : Int) (e1 : ((a : Int) + 4 * ((3 + (j.att : Int) / 4) % 4294967296)) % 4294967296 = (AD : Int)) (ht : ¬ t = 0) (hne : ¬ ne = 0) (c1 : ∀ w, JAt w j m (some ⟨pb, po, none⟩) → Calls Try.prog 48 #[.agg #[.pointer (some ⟨m, 0, none⟩), .slice (some ⟨pb, po, none⟩) 9 pc, .int .u32 j.att], .int .u32 (a : Nat)] w fun r w' => r = .returned (.int .u32 1) ∧ Below w.heap.size w w') (c2 : ∀ w, JAt w j m (some ⟨pb, po, none⟩) → Calls Try.prog 65 #[.agg #[.pointer (some ⟨m, 0, none⟩), .slice (some ⟨pb, po, none⟩) 9 pc, .int .u32 j.att], .int .u32 (AD : Nat), .int .i64 4] w fun r w' => r = .returned (.tuple #[.int .u32 (t : Nat), .agg #[.int .i64 0, .int .i64 0]]) ∧ Below w.heap.size w w') (c3 : ∀ w, JAt w j m (some ⟨pb, po, none⟩) → Calls Try.prog 65 #[.agg #[.pointer (some ⟨m, 0, none⟩), .slice (some ⟨pb, po, none⟩) 9 pc, .int .u32 j.att], .int .u32 (t : Nat), .int .i64 4] w fun r w' => r = .returned (.tuple #[.int .u32 (n : Nat), .agg #[.int .i64 0, .int .i64 ne]]) ∧ Below w.heap.size w w') :
    Calls Try.prog 49 #[.agg #[.pointer (some ⟨m, 0, none⟩), .slice (some ⟨pb, po, none⟩) 9 pc, .int .u32 j.att], .int .u32 (a : Nat), .int .u32 (b : Nat)] w fun r w' => r = .returned (.tuple #[.int .u32 0, .agg #[.int .i64 0, .int .i64 ne]]) ∧ Below w.heap.size w w' := by
  have Hc1 := hidden c1
  have Hc2 := hidden c2
  have Hc3 := hidden c3
  have q : ((t : Int) == 0) = false := by rw [beq_eq_false_iff_ne]; omega
  clear ht
  clear c1 c2 c3
  have HX := hidden (Bx2.start w m (some ⟨pb, po, none⟩) pc j.att)
  go_enter Try.func49, Try.ntmps49
  go_upto_region 1 with fail
  generalize (w.alloc (.cells #[.pointer (some ⟨m, 0, none⟩), .slice (some ⟨pb, po, none⟩) 9 pc, .int .u32 j.att] 94)).alloc (.cells #[.int .i64 0, .int .i64 0] 91) = w1 at *
  have HJ := hidden (J.later HX.out.bel)
  obtain ⟨a0, a1, a2, b0, b1, f0, f1⟩ := HX.out.cells
  go_upto_region 3 with (first | (go_at_call 48; (with_reducible refine (Hc1.out _ HJ.out).mono ?_); rintro e w2 ⟨rfl, hb2⟩; replace HX := hidden (HX.out.call hb2); replace HJ := hidden (HJ.out.later hb2); clear a0 a1 a2 b0 b1 f0 f1; obtain ⟨a0, a1, a2, b0, b1, f0, f1⟩ := HX.out.cells; clear hb2) | fail)
  go_upto_region 4 with (first | (go_at_call 65; (with_reducible refine (Hc2.out _ HJ.out).mono ?_); rintro e w3 ⟨rfl, hb3⟩; replace HX := hidden (HX.out.call hb3); replace HJ := hidden (HJ.out.later hb3); clear a0 a1 a2 b0 b1 f0 f1; obtain ⟨a0, a1, a2, b0, b1, f0, f1⟩ := HX.out.cells; clear hb3) | fail)
  replace HX := hidden (HX.out.new (0) (0))
  replace HJ := hidden (HJ.out.later ((Below.refl _ _).alloc (Nat.le_refl _) (.cells #[.int .i64 (0), .int .i64 (0)] 91)))
  clear a0 a1 a2 b0 b1 f0 f1
  change Code.wp _ _ _ _ (w3.alloc (.cells #[.int .i64 (0), .int .i64 (0)] 91))
  generalize w3.alloc (.cells #[.int .i64 (0), .int .i64 (0)] 91) = w4 at *
  generalize w3.heap.size = H4 at *
  obtain ⟨a0, a1, a2, b0, b1, f0, f1⟩ := HX.out.b2.cells
  obtain ⟨h0, h1, g0, g1⟩ := HX.out.cells
  go_upto_region 6 with (first | (go_at_call 66; (with_reducible refine (ends_good _).mono ?_); rintro e w5 ⟨rfl, hb5⟩; replace HX := hidden (HX.out.call hb5); replace HJ := hidden (HJ.out.later hb5); clear a0 a1 a2 b0 b1 f0 f1; clear h0 h1 g0 g1; obtain ⟨a0, a1, a2, b0, b1, f0, f1⟩ := HX.out.b2.cells; obtain ⟨h0, h1, g0, g1⟩ := HX.out.cells; clear hb5) | fail)
  go_upto_region 7 with (first | (go_at_call 65; (with_reducible refine (Hc3.out _ HJ.out).mono ?_); rintro e w6 ⟨rfl, hb6⟩; replace HX := hidden (HX.out.call hb6); replace HJ := hidden (HJ.out.later hb6); clear a0 a1 a2 b0 b1 f0 f1; clear h0 h1 g0 g1; obtain ⟨a0, a1, a2, b0, b1, f0, f1⟩ := HX.out.b2.cells; obtain ⟨h0, h1, g0, g1⟩ := HX.out.cells; clear hb6) | fail)
  replace HX := hidden (HX.out.put (0) (ne))
  replace HJ := hidden (J.later HX.out.b2.bel)
  clear a0 a1 a2 b0 b1 f0 f1 h0 h1 g0 g1
  generalize (w6.setCell ⟨H4, 0, none⟩ (.int .i64 (0))).setCell ⟨H4, 1, none⟩ (.int .i64 (ne)) = w7 at *
  obtain ⟨a0, a1, a2, b0, b1, f0, f1⟩ := HX.out.b2.cells
  obtain ⟨h0, h1, g0, g1⟩ := HX.out.cells
  go_upto_region 8 with (first | (go_at_call 66; (with_reducible refine (ends_bad2 hne _).mono ?_); rintro e w8 ⟨rfl, hb8⟩; replace HX := hidden (HX.out.call hb8); replace HJ := hidden (HJ.out.later hb8); clear a0 a1 a2 b0 b1 f0 f1; clear h0 h1 g0 g1; obtain ⟨a0, a1, a2, b0, b1, f0, f1⟩ := HX.out.b2.cells; obtain ⟨h0, h1, g0, g1⟩ := HX.out.cells; clear hb8) | fail)
  have HXD := hidden (HX.out.call ((Below.refl _ _).drew))
  have HF := hidden (HX.out.b2.find (0) (ne))
  clear HXD
  (first | (go_region_with (fail)) | fail)
  all_goals
    go_wp2
    generalize ((w8.setCell ⟨w.heap.size + 1, 0, none⟩ (.int .i64 (0))).setCell ⟨w.heap.size + 1, 1, none⟩ (.int .i64 (ne))).drew = w98 at *
    obtain ⟨d0, d1, _⟩ := HF.out.1.cells
    refine bodyPost_ret (v := .tuple #[.int .u32 0, .agg #[.int .i64 (0), .int .i64 (ne)]]) (by simp [results, Try.results49, go_sem, d0, d1]) rfl ⟨?_, HF.out.2⟩
    rfl
theorem tab_5 (j : Jb) (m pb po pc : Nat) (w : World) (J : JAt w j m (some ⟨pb, po, none⟩)) (a b AD t t4 n x : Nat) (xe : Int) (e1 : ((a : Int) + 4 * ((3 + (j.att : Int) / 4) % 4294967296)) % 4294967296 = (AD : Int)) (e4 : ((t : Int) + 4) % 4294967296 = (t4 : Int)) (ht : ¬ t = 0) (c1 : ∀ w, JAt w j m (some ⟨pb, po, none⟩) → Calls Try.prog 48 #[.agg #[.pointer (some ⟨m, 0, none⟩), .slice (some ⟨pb, po, none⟩) 9 pc, .int .u32 j.att], .int .u32 (a : Nat)] w fun r w' => r = .returned (.int .u32 1) ∧ Below w.heap.size w w') (c2 : ∀ w, JAt w j m (some ⟨pb, po, none⟩) → Calls Try.prog 65 #[.agg #[.pointer (some ⟨m, 0, none⟩), .slice (some ⟨pb, po, none⟩) 9 pc, .int .u32 j.att], .int .u32 (AD : Nat), .int .i64 4] w fun r w' => r = .returned (.tuple #[.int .u32 (t : Nat), .agg #[.int .i64 0, .int .i64 0]]) ∧ Below w.heap.size w w') (c3 : ∀ w, JAt w j m (some ⟨pb, po, none⟩) → Calls Try.prog 65 #[.agg #[.pointer (some ⟨m, 0, none⟩), .slice (some ⟨pb, po, none⟩) 9 pc, .int .u32 j.att], .int .u32 (t : Nat), .int .i64 4] w fun r w' => r = .returned (.tuple #[.int .u32 (n : Nat), .agg #[.int .i64 0, .int .i64 0]]) ∧ Below w.heap.size w w') (c4 : ∀ w, JAt w j m (some ⟨pb, po, none⟩) → Calls Try.prog 67 #[.pointer (some ⟨m, 0, none⟩), .agg #[.int .u32 (b : Nat), .int .u32 2, .int .u32 (t4 : Nat), .int .u32 10, .int .u32 (n : Nat), .int .u32 0, .int .u32 0, .int .u32 0]] w fun r w' => r = .returned (.tuple #[.int .u32 (x : Nat), .int .i64 xe]) ∧ Below w.heap.size w w') :
    Calls Try.prog 49 #[.agg #[.pointer (some ⟨m, 0, none⟩), .slice (some ⟨pb, po, none⟩) 9 pc, .int .u32 j.att], .int .u32 (a : Nat), .int .u32 (b : Nat)] w fun r w' => r = .returned (.tuple #[.int .u32 (x : Nat), .agg #[.int .i64 0, .int .i64 xe]]) ∧ Below w.heap.size w w' := by
  have Hc1 := hidden c1
  have Hc2 := hidden c2
  have Hc3 := hidden c3
  have Hc4 := hidden c4
  have q : ((t : Int) == 0) = false := by rw [beq_eq_false_iff_ne]; omega
  clear ht
  clear c1 c2 c3 c4
  have HX := hidden (Bx2.start w m (some ⟨pb, po, none⟩) pc j.att)
  go_enter Try.func49, Try.ntmps49
  go_upto_region 1 with fail
  generalize (w.alloc (.cells #[.pointer (some ⟨m, 0, none⟩), .slice (some ⟨pb, po, none⟩) 9 pc, .int .u32 j.att] 94)).alloc (.cells #[.int .i64 0, .int .i64 0] 91) = w1 at *
  have HJ := hidden (J.later HX.out.bel)
  obtain ⟨a0, a1, a2, b0, b1, f0, f1⟩ := HX.out.cells
  go_upto_region 3 with (first | (go_at_call 48; (with_reducible refine (Hc1.out _ HJ.out).mono ?_); rintro e w2 ⟨rfl, hb2⟩; replace HX := hidden (HX.out.call hb2); replace HJ := hidden (HJ.out.later hb2); clear a0 a1 a2 b0 b1 f0 f1; obtain ⟨a0, a1, a2, b0, b1, f0, f1⟩ := HX.out.cells; clear hb2) | fail)
  go_upto_region 4 with (first | (go_at_call 65; (with_reducible refine (Hc2.out _ HJ.out).mono ?_); rintro e w3 ⟨rfl, hb3⟩; replace HX := hidden (HX.out.call hb3); replace HJ := hidden (HJ.out.later hb3); clear a0 a1 a2 b0 b1 f0 f1; obtain ⟨a0, a1, a2, b0, b1, f0, f1⟩ := HX.out.cells; clear hb3) | fail)
  replace HX := hidden (HX.out.new (0) (0))
  replace HJ := hidden (HJ.out.later ((Below.refl _ _).alloc (Nat.le_refl _) (.cells #[.int .i64 (0), .int .i64 (0)] 91)))
  clear a0 a1 a2 b0 b1 f0 f1
  change Code.wp _ _ _ _ (w3.alloc (.cells #[.int .i64 (0), .int .i64 (0)] 91))
  generalize w3.alloc (.cells #[.int .i64 (0), .int .i64 (0)] 91) = w4 at *
  generalize w3.heap.size = H4 at *
  obtain ⟨a0, a1, a2, b0, b1, f0, f1⟩ := HX.out.b2.cells
  obtain ⟨h0, h1, g0, g1⟩ := HX.out.cells
  go_upto_region 6 with (first | (go_at_call 66; (with_reducible refine (ends_good _).mono ?_); rintro e w5 ⟨rfl, hb5⟩; replace HX := hidden (HX.out.call hb5); replace HJ := hidden (HJ.out.later hb5); clear a0 a1 a2 b0 b1 f0 f1; clear h0 h1 g0 g1; obtain ⟨a0, a1, a2, b0, b1, f0, f1⟩ := HX.out.b2.cells; obtain ⟨h0, h1, g0, g1⟩ := HX.out.cells; clear hb5) | fail)
  go_upto_region 7 with (first | (go_at_call 65; (with_reducible refine (Hc3.out _ HJ.out).mono ?_); rintro e w6 ⟨rfl, hb6⟩; replace HX := hidden (HX.out.call hb6); replace HJ := hidden (HJ.out.later hb6); clear a0 a1 a2 b0 b1 f0 f1; clear h0 h1 g0 g1; obtain ⟨a0, a1, a2, b0, b1, f0, f1⟩ := HX.out.b2.cells; obtain ⟨h0, h1, g0, g1⟩ := HX.out.cells; clear hb6) | fail)
  replace HX := hidden (HX.out.put (0) (0))
  replace HJ := hidden (J.later HX.out.b2.bel)
  clear a0 a1 a2 b0 b1 f0 f1 h0 h1 g0 g1
  generalize (w6.setCell ⟨H4, 0, none⟩ (.int .i64 (0))).setCell ⟨H4, 1, none⟩ (.int .i64 (0)) = w7 at *
  obtain ⟨a0, a1, a2, b0, b1, f0, f1⟩ := HX.out.b2.cells
  obtain ⟨h0, h1, g0, g1⟩ := HX.out.cells
  go_upto_region 9 with (first | (go_at_call 66; (with_reducible refine (ends_good _).mono ?_); rintro e w8 ⟨rfl, hb8⟩; replace HX := hidden (HX.out.call hb8); replace HJ := hidden (HJ.out.later hb8); clear a0 a1 a2 b0 b1 f0 f1; clear h0 h1 g0 g1; obtain ⟨a0, a1, a2, b0, b1, f0, f1⟩ := HX.out.b2.cells; obtain ⟨h0, h1, g0, g1⟩ := HX.out.cells; clear hb8) | fail)
  go_upto_region 10 with (first | (go_at_call 67; (with_reducible refine (Hc4.out _ HJ.out).mono ?_); rintro e w9 ⟨rfl, hb9⟩; replace HX := hidden (HX.out.call hb9); replace HJ := hidden (HJ.out.later hb9); clear a0 a1 a2 b0 b1 f0 f1; clear h0 h1 g0 g1; obtain ⟨a0, a1, a2, b0, b1, f0, f1⟩ := HX.out.b2.cells; obtain ⟨h0, h1, g0, g1⟩ := HX.out.cells; clear hb9) | fail)
  have HF := hidden (HX.out.b2.fin (0) (xe))
  all_goals
    go_wp2
    obtain ⟨d0, d1, _⟩ := HF.out.1.cells
    refine bodyPost_ret (v := .tuple #[.int .u32 (x : Nat), .agg #[.int .i64 (0), .int .i64 (xe)]]) (by simp [results, Try.results49, go_sem, d0, d1]) rfl ⟨?_, HF.out.2⟩
    rfl
end Go.Proofs.Ytpgppdkbkkljnaa
