/- Layer 18: names, by leaves. Layer 18: names, the row. -/
import Derived.Test.YtpgppdkbkkljnaaA18A
namespace Go.Proofs.Ytpgppdkbkkljnaa
open Go.RowKit
set_option maxHeartbeats 1000000
set_option maxRecDepth 100000
set_option linter.unusedVariables false

theorem nam_1 (j : Jb) (m pb po pc : Nat) (w : World) (J : JAt w j m (some ⟨pb, po, none⟩)) (a b x : Nat) (s e : Int) (hne : ¬ (s = 0 ∧ e = 0)) (c1 : ∀ w, JAt w j m (some ⟨pb, po, none⟩) → Calls Try.prog 68 #[.agg #[.pointer (some ⟨m, 0, none⟩), .slice (some ⟨pb, po, none⟩) 9 pc, .int .u32 j.att], .int .u32 (a : Nat), .int .u32 2] w fun r w' => r = .returned (.tuple #[.int .u32 (x : Nat), .agg #[.int .i64 s, .int .i64 e]]) ∧ Below w.heap.size w w') :
    Calls Try.prog 82 #[.agg #[.pointer (some ⟨m, 0, none⟩), .slice (some ⟨pb, po, none⟩) 9 pc, .int .u32 j.att], .int .u32 (a : Nat), .int .u32 (b : Nat)] w fun r w' => r = .returned (.tuple #[.bool false, .agg #[.int .i64 s, .int .i64 e]]) ∧ Below w.heap.size w w' := by
  have Hc1 := hidden c1
  clear c1
  have HX := hidden (Bx2.start w m (some ⟨pb, po, none⟩) pc j.att)
  go_enter Try.func82, Try.ntmps82
  go_upto_region 1 with fail
  generalize (w.alloc (.cells #[.pointer (some ⟨m, 0, none⟩), .slice (some ⟨pb, po, none⟩) 9 pc, .int .u32 j.att] 94)).alloc (.cells #[.int .i64 0, .int .i64 0] 91) = w1 at *
  have HJ := hidden (J.later HX.out.bel)
  obtain ⟨a0, a1, a2, b0, b1, f0, f1⟩ := HX.out.cells
  go_upto_region 2 with (first | (go_at_call 68; (with_reducible refine (Hc1.out _ HJ.out).mono ?_); rintro e w2 ⟨rfl, hb2⟩; replace HX := hidden (HX.out.call hb2); replace HJ := hidden (HJ.out.later hb2); clear a0 a1 a2 b0 b1 f0 f1; obtain ⟨a0, a1, a2, b0, b1, f0, f1⟩ := HX.out.cells; clear hb2) | fail)
  replace HX := hidden (HX.out.new (s) (e))
  replace HJ := hidden (HJ.out.later ((Below.refl _ _).alloc (Nat.le_refl _) (.cells #[.int .i64 (s), .int .i64 (e)] 91)))
  clear a0 a1 a2 b0 b1 f0 f1
  change Code.wp _ _ _ _ (w2.alloc (.cells #[.int .i64 (s), .int .i64 (e)] 91))
  generalize w2.alloc (.cells #[.int .i64 (s), .int .i64 (e)] 91) = w3 at *
  generalize w2.heap.size = H3 at *
  obtain ⟨a0, a1, a2, b0, b1, f0, f1⟩ := HX.out.b2.cells
  obtain ⟨h0, h1, g0, g1⟩ := HX.out.cells
  go_upto_region 3 with (first | (go_at_call 66; (with_reducible refine (ends_bad hne _).mono ?_); rintro e w4 ⟨rfl, hb4⟩; replace HX := hidden (HX.out.call hb4); replace HJ := hidden (HJ.out.later hb4); clear a0 a1 a2 b0 b1 f0 f1; clear h0 h1 g0 g1; obtain ⟨a0, a1, a2, b0, b1, f0, f1⟩ := HX.out.b2.cells; obtain ⟨h0, h1, g0, g1⟩ := HX.out.cells; clear hb4) | fail)
  have HXD := hidden (HX.out.call ((Below.refl _ _).drew))
  have HF := hidden (HX.out.b2.find (s) (e))
  clear HXD
  (first | (go_region_with (fail)) | fail)
  all_goals
    go_wp2
    generalize ((w4.setCell ⟨w.heap.size + 1, 0, none⟩ (.int .i64 (s))).setCell ⟨w.heap.size + 1, 1, none⟩ (.int .i64 (e))).drew = w98 at *
    obtain ⟨d0, d1, _⟩ := HF.out.1.cells
    refine bodyPost_ret (v := .tuple #[.bool false, .agg #[.int .i64 (s), .int .i64 (e)]]) (by simp [results, Try.results82, go_sem, d0, d1]) rfl ⟨?_, HF.out.2⟩
    rfl
theorem nam_2 (j : Jb) (m pb po pc : Nat) (w : World) (J : JAt w j m (some ⟨pb, po, none⟩)) (a b : Nat) (c1 : ∀ w, JAt w j m (some ⟨pb, po, none⟩) → Calls Try.prog 68 #[.agg #[.pointer (some ⟨m, 0, none⟩), .slice (some ⟨pb, po, none⟩) 9 pc, .int .u32 j.att], .int .u32 (a : Nat), .int .u32 2] w fun r w' => r = .returned (.tuple #[.int .u32 0, .agg #[.int .i64 0, .int .i64 0]]) ∧ Below w.heap.size w w') :
    Calls Try.prog 82 #[.agg #[.pointer (some ⟨m, 0, none⟩), .slice (some ⟨pb, po, none⟩) 9 pc, .int .u32 j.att], .int .u32 (a : Nat), .int .u32 (b : Nat)] w fun r w' => r = .returned (.tuple #[.bool false, .agg #[.int .i64 0, .int .i64 0]]) ∧ Below w.heap.size w w' := by
  have Hc1 := hidden c1
  clear c1
  have HX := hidden (Bx2.start w m (some ⟨pb, po, none⟩) pc j.att)
  go_enter Try.func82, Try.ntmps82
  go_upto_region 1 with fail
  generalize (w.alloc (.cells #[.pointer (some ⟨m, 0, none⟩), .slice (some ⟨pb, po, none⟩) 9 pc, .int .u32 j.att] 94)).alloc (.cells #[.int .i64 0, .int .i64 0] 91) = w1 at *
  have HJ := hidden (J.later HX.out.bel)
  obtain ⟨a0, a1, a2, b0, b1, f0, f1⟩ := HX.out.cells
  go_upto_region 2 with (first | (go_at_call 68; (with_reducible refine (Hc1.out _ HJ.out).mono ?_); rintro e w2 ⟨rfl, hb2⟩; replace HX := hidden (HX.out.call hb2); replace HJ := hidden (HJ.out.later hb2); clear a0 a1 a2 b0 b1 f0 f1; obtain ⟨a0, a1, a2, b0, b1, f0, f1⟩ := HX.out.cells; clear hb2) | fail)
  replace HX := hidden (HX.out.new (0) (0))
  replace HJ := hidden (HJ.out.later ((Below.refl _ _).alloc (Nat.le_refl _) (.cells #[.int .i64 (0), .int .i64 (0)] 91)))
  clear a0 a1 a2 b0 b1 f0 f1
  change Code.wp _ _ _ _ (w2.alloc (.cells #[.int .i64 (0), .int .i64 (0)] 91))
  generalize w2.alloc (.cells #[.int .i64 (0), .int .i64 (0)] 91) = w3 at *
  generalize w2.heap.size = H3 at *
  obtain ⟨a0, a1, a2, b0, b1, f0, f1⟩ := HX.out.b2.cells
  obtain ⟨h0, h1, g0, g1⟩ := HX.out.cells
  go_upto_region 3 with (first | (go_at_call 66; (with_reducible refine (ends_good _).mono ?_); rintro e w4 ⟨rfl, hb4⟩; replace HX := hidden (HX.out.call hb4); replace HJ := hidden (HJ.out.later hb4); clear a0 a1 a2 b0 b1 f0 f1; clear h0 h1 g0 g1; obtain ⟨a0, a1, a2, b0, b1, f0, f1⟩ := HX.out.b2.cells; obtain ⟨h0, h1, g0, g1⟩ := HX.out.cells; clear hb4) | fail)
  have HXD := hidden (HX.out.call ((Below.refl _ _).drew))
  have HF := hidden (HX.out.b2.find (0) (0))
  clear HXD
  (first | (go_region_with (fail)) | fail)
  all_goals
    go_wp2
    generalize ((w4.setCell ⟨w.heap.size + 1, 0, none⟩ (.int .i64 (0))).setCell ⟨w.heap.size + 1, 1, none⟩ (.int .i64 (0))).drew = w98 at *
    obtain ⟨d0, d1, _⟩ := HF.out.1.cells
    refine bodyPost_ret (v := .tuple #[.bool false, .agg #[.int .i64 (0), .int .i64 (0)]]) (by simp [results, Try.results82, go_sem, d0, d1]) rfl ⟨?_, HF.out.2⟩
    rfl
theorem nam_3 (j : Jb) (m pb po pc : Nat) (w : World) (J : JAt w j m (some ⟨pb, po, none⟩)) (a b x p4 y : Nat) (e : Int) (hne : ¬ e = 0) (hx : ¬ x = 0) (e4 : ((x : Int) + 4) % 4294967296 = (p4 : Int)) (c1 : ∀ w, JAt w j m (some ⟨pb, po, none⟩) → Calls Try.prog 68 #[.agg #[.pointer (some ⟨m, 0, none⟩), .slice (some ⟨pb, po, none⟩) 9 pc, .int .u32 j.att], .int .u32 (a : Nat), .int .u32 2] w fun r w' => r = .returned (.tuple #[.int .u32 (x : Nat), .agg #[.int .i64 0, .int .i64 0]]) ∧ Below w.heap.size w w') (c2 : ∀ w, JAt w j m (some ⟨pb, po, none⟩) → Calls Try.prog 65 #[.agg #[.pointer (some ⟨m, 0, none⟩), .slice (some ⟨pb, po, none⟩) 9 pc, .int .u32 j.att], .int .u32 (p4 : Nat), .int .i64 4] w fun r w' => r = .returned (.tuple #[.int .u32 (y : Nat), .agg #[.int .i64 0, .int .i64 e]]) ∧ Below w.heap.size w w') :
    Calls Try.prog 82 #[.agg #[.pointer (some ⟨m, 0, none⟩), .slice (some ⟨pb, po, none⟩) 9 pc, .int .u32 j.att], .int .u32 (a : Nat), .int .u32 (b : Nat)] w fun r w' => r = .returned (.tuple #[.bool false, .agg #[.int .i64 0, .int .i64 e]]) ∧ Below w.heap.size w w' := by
  have Hc1 := hidden c1
  have Hc2 := hidden c2
  have q : ((x : Int) == 0) = false := by rw [beq_eq_false_iff_ne]; omega
  clear hx
  clear c1 c2
  have HX := hidden (Bx2.start w m (some ⟨pb, po, none⟩) pc j.att)
  go_enter Try.func82, Try.ntmps82
  go_upto_region 1 with fail
  generalize (w.alloc (.cells #[.pointer (some ⟨m, 0, none⟩), .slice (some ⟨pb, po, none⟩) 9 pc, .int .u32 j.att] 94)).alloc (.cells #[.int .i64 0, .int .i64 0] 91) = w1 at *
  have HJ := hidden (J.later HX.out.bel)
  obtain ⟨a0, a1, a2, b0, b1, f0, f1⟩ := HX.out.cells
  go_upto_region 2 with (first | (go_at_call 68; (with_reducible refine (Hc1.out _ HJ.out).mono ?_); rintro e w2 ⟨rfl, hb2⟩; replace HX := hidden (HX.out.call hb2); replace HJ := hidden (HJ.out.later hb2); clear a0 a1 a2 b0 b1 f0 f1; obtain ⟨a0, a1, a2, b0, b1, f0, f1⟩ := HX.out.cells; clear hb2) | fail)
  replace HX := hidden (HX.out.new (0) (0))
  replace HJ := hidden (HJ.out.later ((Below.refl _ _).alloc (Nat.le_refl _) (.cells #[.int .i64 (0), .int .i64 (0)] 91)))
  clear a0 a1 a2 b0 b1 f0 f1
  change Code.wp _ _ _ _ (w2.alloc (.cells #[.int .i64 (0), .int .i64 (0)] 91))
  generalize w2.alloc (.cells #[.int .i64 (0), .int .i64 (0)] 91) = w3 at *
  generalize w2.heap.size = H3 at *
  obtain ⟨a0, a1, a2, b0, b1, f0, f1⟩ := HX.out.b2.cells
  obtain ⟨h0, h1, g0, g1⟩ := HX.out.cells
  go_upto_region 4 with (first | (go_at_call 66; (with_reducible refine (ends_good _).mono ?_); rintro e w4 ⟨rfl, hb4⟩; replace HX := hidden (HX.out.call hb4); replace HJ := hidden (HJ.out.later hb4); clear a0 a1 a2 b0 b1 f0 f1; clear h0 h1 g0 g1; obtain ⟨a0, a1, a2, b0, b1, f0, f1⟩ := HX.out.b2.cells; obtain ⟨h0, h1, g0, g1⟩ := HX.out.cells; clear hb4) | fail)
  go_upto_region 5 with (first | (go_at_call 65; (with_reducible refine (Hc2.out _ HJ.out).mono ?_); rintro e w5 ⟨rfl, hb5⟩; replace HX := hidden (HX.out.call hb5); replace HJ := hidden (HJ.out.later hb5); clear a0 a1 a2 b0 b1 f0 f1; clear h0 h1 g0 g1; obtain ⟨a0, a1, a2, b0, b1, f0, f1⟩ := HX.out.b2.cells; obtain ⟨h0, h1, g0, g1⟩ := HX.out.cells; clear hb5) | fail)
  replace HX := hidden (HX.out.put (0) (e))
  replace HJ := hidden (J.later HX.out.b2.bel)
  clear a0 a1 a2 b0 b1 f0 f1 h0 h1 g0 g1
  generalize (w5.setCell ⟨H3, 0, none⟩ (.int .i64 (0))).setCell ⟨H3, 1, none⟩ (.int .i64 (e)) = w6 at *
  obtain ⟨a0, a1, a2, b0, b1, f0, f1⟩ := HX.out.b2.cells
  obtain ⟨h0, h1, g0, g1⟩ := HX.out.cells
  go_upto_region 6 with (first | (go_at_call 66; (with_reducible refine (ends_bad2 hne _).mono ?_); rintro e w7 ⟨rfl, hb7⟩; replace HX := hidden (HX.out.call hb7); replace HJ := hidden (HJ.out.later hb7); clear a0 a1 a2 b0 b1 f0 f1; clear h0 h1 g0 g1; obtain ⟨a0, a1, a2, b0, b1, f0, f1⟩ := HX.out.b2.cells; obtain ⟨h0, h1, g0, g1⟩ := HX.out.cells; clear hb7) | fail)
  have HXD := hidden (HX.out.call ((Below.refl _ _).drew))
  have HF := hidden (HX.out.b2.find (0) (e))
  clear HXD
  (first | (go_region_with (fail)) | fail)
  all_goals
    go_wp2
    generalize ((w7.setCell ⟨w.heap.size + 1, 0, none⟩ (.int .i64 (0))).setCell ⟨w.heap.size + 1, 1, none⟩ (.int .i64 (e))).drew = w98 at *
    obtain ⟨d0, d1, _⟩ := HF.out.1.cells
    refine bodyPost_ret (v := .tuple #[.bool false, .agg #[.int .i64 (0), .int .i64 (e)]]) (by simp [results, Try.results82, go_sem, d0, d1]) rfl ⟨?_, HF.out.2⟩
    rfl
theorem nam_4 (j : Jb) (m pb po pc : Nat) (w : World) (J : JAt w j m (some ⟨pb, po, none⟩)) (a b x p4 : Nat) (hx : ¬ x = 0) (e4 : ((x : Int) + 4) % 4294967296 = (p4 : Int)) (c1 : ∀ w, JAt w j m (some ⟨pb, po, none⟩) → Calls Try.prog 68 #[.agg #[.pointer (some ⟨m, 0, none⟩), .slice (some ⟨pb, po, none⟩) 9 pc, .int .u32 j.att], .int .u32 (a : Nat), .int .u32 2] w fun r w' => r = .returned (.tuple #[.int .u32 (x : Nat), .agg #[.int .i64 0, .int .i64 0]]) ∧ Below w.heap.size w w') (c2 : ∀ w, JAt w j m (some ⟨pb, po, none⟩) → Calls Try.prog 65 #[.agg #[.pointer (some ⟨m, 0, none⟩), .slice (some ⟨pb, po, none⟩) 9 pc, .int .u32 j.att], .int .u32 (p4 : Nat), .int .i64 4] w fun r w' => r = .returned (.tuple #[.int .u32 0, .agg #[.int .i64 0, .int .i64 0]]) ∧ Below w.heap.size w w') :
    Calls Try.prog 82 #[.agg #[.pointer (some ⟨m, 0, none⟩), .slice (some ⟨pb, po, none⟩) 9 pc, .int .u32 j.att], .int .u32 (a : Nat), .int .u32 (b : Nat)] w fun r w' => r = .returned (.tuple #[.bool false, .agg #[.int .i64 0, .int .i64 0]]) ∧ Below w.heap.size w w' := by
  have Hc1 := hidden c1
  have Hc2 := hidden c2
  have q : ((x : Int) == 0) = false := by rw [beq_eq_false_iff_ne]; omega
  clear hx
  clear c1 c2
  have HX := hidden (Bx2.start w m (some ⟨pb, po, none⟩) pc j.att)
  go_enter Try.func82, Try.ntmps82
  go_upto_region 1 with fail
  generalize (w.alloc (.cells #[.pointer (some ⟨m, 0, none⟩), .slice (some ⟨pb, po, none⟩) 9 pc, .int .u32 j.att] 94)).alloc (.cells #[.int .i64 0, .int .i64 0] 91) = w1 at *
  have HJ := hidden (J.later HX.out.bel)
  obtain ⟨a0, a1, a2, b0, b1, f0, f1⟩ := HX.out.cells
  go_upto_region 2 with (first | (go_at_call 68; (with_reducible refine (Hc1.out _ HJ.out).mono ?_); rintro e w2 ⟨rfl, hb2⟩; replace HX := hidden (HX.out.call hb2); replace HJ := hidden (HJ.out.later hb2); clear a0 a1 a2 b0 b1 f0 f1; obtain ⟨a0, a1, a2, b0, b1, f0, f1⟩ := HX.out.cells; clear hb2) | fail)
  replace HX := hidden (HX.out.new (0) (0))
  replace HJ := hidden (HJ.out.later ((Below.refl _ _).alloc (Nat.le_refl _) (.cells #[.int .i64 (0), .int .i64 (0)] 91)))
  clear a0 a1 a2 b0 b1 f0 f1
  change Code.wp _ _ _ _ (w2.alloc (.cells #[.int .i64 (0), .int .i64 (0)] 91))
  generalize w2.alloc (.cells #[.int .i64 (0), .int .i64 (0)] 91) = w3 at *
  generalize w2.heap.size = H3 at *
  obtain ⟨a0, a1, a2, b0, b1, f0, f1⟩ := HX.out.b2.cells
  obtain ⟨h0, h1, g0, g1⟩ := HX.out.cells
  go_upto_region 4 with (first | (go_at_call 66; (with_reducible refine (ends_good _).mono ?_); rintro e w4 ⟨rfl, hb4⟩; replace HX := hidden (HX.out.call hb4); replace HJ := hidden (HJ.out.later hb4); clear a0 a1 a2 b0 b1 f0 f1; clear h0 h1 g0 g1; obtain ⟨a0, a1, a2, b0, b1, f0, f1⟩ := HX.out.b2.cells; obtain ⟨h0, h1, g0, g1⟩ := HX.out.cells; clear hb4) | fail)
  go_upto_region 5 with (first | (go_at_call 65; (with_reducible refine (Hc2.out _ HJ.out).mono ?_); rintro e w5 ⟨rfl, hb5⟩; replace HX := hidden (HX.out.call hb5); replace HJ := hidden (HJ.out.later hb5); clear a0 a1 a2 b0 b1 f0 f1; clear h0 h1 g0 g1; obtain ⟨a0, a1, a2, b0, b1, f0, f1⟩ := HX.out.b2.cells; obtain ⟨h0, h1, g0, g1⟩ := HX.out.cells; clear hb5) | fail)
  replace HX := hidden (HX.out.put (0) (0))
  replace HJ := hidden (J.later HX.out.b2.bel)
  clear a0 a1 a2 b0 b1 f0 f1 h0 h1 g0 g1
  generalize (w5.setCell ⟨H3, 0, none⟩ (.int .i64 (0))).setCell ⟨H3, 1, none⟩ (.int .i64 (0)) = w6 at *
  obtain ⟨a0, a1, a2, b0, b1, f0, f1⟩ := HX.out.b2.cells
  obtain ⟨h0, h1, g0, g1⟩ := HX.out.cells
  go_upto_region 6 with (first | (go_at_call 66; (with_reducible refine (ends_good _).mono ?_); rintro e w7 ⟨rfl, hb7⟩; replace HX := hidden (HX.out.call hb7); replace HJ := hidden (HJ.out.later hb7); clear a0 a1 a2 b0 b1 f0 f1; clear h0 h1 g0 g1; obtain ⟨a0, a1, a2, b0, b1, f0, f1⟩ := HX.out.b2.cells; obtain ⟨h0, h1, g0, g1⟩ := HX.out.cells; clear hb7) | fail)
  have HXD := hidden (HX.out.call ((Below.refl _ _).drew))
  have HF := hidden (HX.out.b2.find (0) (0))
  clear HXD
  (first | (go_region_with (fail)) | fail)
  all_goals
    go_wp2
    generalize ((w7.setCell ⟨w.heap.size + 1, 0, none⟩ (.int .i64 (0))).setCell ⟨w.heap.size + 1, 1, none⟩ (.int .i64 (0))).drew = w98 at *
    obtain ⟨d0, d1, _⟩ := HF.out.1.cells
    refine bodyPost_ret (v := .tuple #[.bool false, .agg #[.int .i64 (0), .int .i64 (0)]]) (by simp [results, Try.results82, go_sem, d0, d1]) rfl ⟨?_, HF.out.2⟩
    rfl
theorem nam_5 (j : Jb) (m pb po pc : Nat) (w : World) (J : JAt w j m (some ⟨pb, po, none⟩)) (a b x p4 y p2 n : Nat) (e : Int) (hne : ¬ e = 0) (hx : ¬ x = 0) (e4 : ((x : Int) + 4) % 4294967296 = (p4 : Int)) (hy : ¬ y = 0) (e2 : ((x : Int) + 2) % 4294967296 = (p2 : Int)) (c1 : ∀ w, JAt w j m (some ⟨pb, po, none⟩) → Calls Try.prog 68 #[.agg #[.pointer (some ⟨m, 0, none⟩), .slice (some ⟨pb, po, none⟩) 9 pc, .int .u32 j.att], .int .u32 (a : Nat), .int .u32 2] w fun r w' => r = .returned (.tuple #[.int .u32 (x : Nat), .agg #[.int .i64 0, .int .i64 0]]) ∧ Below w.heap.size w w') (c2 : ∀ w, JAt w j m (some ⟨pb, po, none⟩) → Calls Try.prog 65 #[.agg #[.pointer (some ⟨m, 0, none⟩), .slice (some ⟨pb, po, none⟩) 9 pc, .int .u32 j.att], .int .u32 (p4 : Nat), .int .i64 4] w fun r w' => r = .returned (.tuple #[.int .u32 (y : Nat), .agg #[.int .i64 0, .int .i64 0]]) ∧ Below w.heap.size w w') (c3 : ∀ w, JAt w j m (some ⟨pb, po, none⟩) → Calls Try.prog 65 #[.agg #[.pointer (some ⟨m, 0, none⟩), .slice (some ⟨pb, po, none⟩) 9 pc, .int .u32 j.att], .int .u32 (p2 : Nat), .int .i64 2] w fun r w' => r = .returned (.tuple #[.int .u32 (n : Nat), .agg #[.int .i64 0, .int .i64 e]]) ∧ Below w.heap.size w w') :
    Calls Try.prog 82 #[.agg #[.pointer (some ⟨m, 0, none⟩), .slice (some ⟨pb, po, none⟩) 9 pc, .int .u32 j.att], .int .u32 (a : Nat), .int .u32 (b : Nat)] w fun r w' => r = .returned (.tuple #[.bool false, .agg #[.int .i64 0, .int .i64 e]]) ∧ Below w.heap.size w w' := by
  have Hc1 := hidden c1
  have Hc2 := hidden c2
  have Hc3 := hidden c3
  have q : ((x : Int) == 0) = false := by rw [beq_eq_false_iff_ne]; omega
  have qy : ((y : Int) == 0) = false := by rw [beq_eq_false_iff_ne]; omega
  clear hx hy
  clear c1 c2 c3
  have HX := hidden (Bx2.start w m (some ⟨pb, po, none⟩) pc j.att)
  go_enter Try.func82, Try.ntmps82
  go_upto_region 1 with fail
  generalize (w.alloc (.cells #[.pointer (some ⟨m, 0, none⟩), .slice (some ⟨pb, po, none⟩) 9 pc, .int .u32 j.att] 94)).alloc (.cells #[.int .i64 0, .int .i64 0] 91) = w1 at *
  have HJ := hidden (J.later HX.out.bel)
  obtain ⟨a0, a1, a2, b0, b1, f0, f1⟩ := HX.out.cells
  go_upto_region 2 with (first | (go_at_call 68; (with_reducible refine (Hc1.out _ HJ.out).mono ?_); rintro e w2 ⟨rfl, hb2⟩; replace HX := hidden (HX.out.call hb2); replace HJ := hidden (HJ.out.later hb2); clear a0 a1 a2 b0 b1 f0 f1; obtain ⟨a0, a1, a2, b0, b1, f0, f1⟩ := HX.out.cells; clear hb2) | fail)
  replace HX := hidden (HX.out.new (0) (0))
  replace HJ := hidden (HJ.out.later ((Below.refl _ _).alloc (Nat.le_refl _) (.cells #[.int .i64 (0), .int .i64 (0)] 91)))
  clear a0 a1 a2 b0 b1 f0 f1
  change Code.wp _ _ _ _ (w2.alloc (.cells #[.int .i64 (0), .int .i64 (0)] 91))
  generalize w2.alloc (.cells #[.int .i64 (0), .int .i64 (0)] 91) = w3 at *
  generalize w2.heap.size = H3 at *
  obtain ⟨a0, a1, a2, b0, b1, f0, f1⟩ := HX.out.b2.cells
  obtain ⟨h0, h1, g0, g1⟩ := HX.out.cells
  go_upto_region 4 with (first | (go_at_call 66; (with_reducible refine (ends_good _).mono ?_); rintro e w4 ⟨rfl, hb4⟩; replace HX := hidden (HX.out.call hb4); replace HJ := hidden (HJ.out.later hb4); clear a0 a1 a2 b0 b1 f0 f1; clear h0 h1 g0 g1; obtain ⟨a0, a1, a2, b0, b1, f0, f1⟩ := HX.out.b2.cells; obtain ⟨h0, h1, g0, g1⟩ := HX.out.cells; clear hb4) | fail)
  go_upto_region 5 with (first | (go_at_call 65; (with_reducible refine (Hc2.out _ HJ.out).mono ?_); rintro e w5 ⟨rfl, hb5⟩; replace HX := hidden (HX.out.call hb5); replace HJ := hidden (HJ.out.later hb5); clear a0 a1 a2 b0 b1 f0 f1; clear h0 h1 g0 g1; obtain ⟨a0, a1, a2, b0, b1, f0, f1⟩ := HX.out.b2.cells; obtain ⟨h0, h1, g0, g1⟩ := HX.out.cells; clear hb5) | fail)
  replace HX := hidden (HX.out.put (0) (0))
  replace HJ := hidden (J.later HX.out.b2.bel)
  clear a0 a1 a2 b0 b1 f0 f1 h0 h1 g0 g1
  generalize (w5.setCell ⟨H3, 0, none⟩ (.int .i64 (0))).setCell ⟨H3, 1, none⟩ (.int .i64 (0)) = w6 at *
  obtain ⟨a0, a1, a2, b0, b1, f0, f1⟩ := HX.out.b2.cells
  obtain ⟨h0, h1, g0, g1⟩ := HX.out.cells
  go_upto_region 7 with (first | (go_at_call 66; (with_reducible refine (ends_good _).mono ?_); rintro e w7 ⟨rfl, hb7⟩; replace HX := hidden (HX.out.call hb7); replace HJ := hidden (HJ.out.later hb7); clear a0 a1 a2 b0 b1 f0 f1; clear h0 h1 g0 g1; obtain ⟨a0, a1, a2, b0, b1, f0, f1⟩ := HX.out.b2.cells; obtain ⟨h0, h1, g0, g1⟩ := HX.out.cells; clear hb7) | fail)
  go_upto_region 8 with (first | (go_at_call 65; (with_reducible refine (Hc3.out _ HJ.out).mono ?_); rintro e w8 ⟨rfl, hb8⟩; replace HX := hidden (HX.out.call hb8); replace HJ := hidden (HJ.out.later hb8); clear a0 a1 a2 b0 b1 f0 f1; clear h0 h1 g0 g1; obtain ⟨a0, a1, a2, b0, b1, f0, f1⟩ := HX.out.b2.cells; obtain ⟨h0, h1, g0, g1⟩ := HX.out.cells; clear hb8) | fail)
  replace HX := hidden (HX.out.put (0) (e))
  replace HJ := hidden (J.later HX.out.b2.bel)
  clear a0 a1 a2 b0 b1 f0 f1 h0 h1 g0 g1
  generalize (w8.setCell ⟨H3, 0, none⟩ (.int .i64 (0))).setCell ⟨H3, 1, none⟩ (.int .i64 (e)) = w9 at *
  obtain ⟨a0, a1, a2, b0, b1, f0, f1⟩ := HX.out.b2.cells
  obtain ⟨h0, h1, g0, g1⟩ := HX.out.cells
  go_upto_region 9 with (first | (go_at_call 66; (with_reducible refine (ends_bad2 hne _).mono ?_); rintro e w10 ⟨rfl, hb10⟩; replace HX := hidden (HX.out.call hb10); replace HJ := hidden (HJ.out.later hb10); clear a0 a1 a2 b0 b1 f0 f1; clear h0 h1 g0 g1; obtain ⟨a0, a1, a2, b0, b1, f0, f1⟩ := HX.out.b2.cells; obtain ⟨h0, h1, g0, g1⟩ := HX.out.cells; clear hb10) | fail)
  have HXD := hidden (HX.out.call ((Below.refl _ _).drew))
  have HF := hidden (HX.out.b2.find (0) (e))
  clear HXD
  (first | (go_region_with (fail)) | fail)
  all_goals
    go_wp2
    generalize ((w10.setCell ⟨w.heap.size + 1, 0, none⟩ (.int .i64 (0))).setCell ⟨w.heap.size + 1, 1, none⟩ (.int .i64 (e))).drew = w98 at *
    obtain ⟨d0, d1, _⟩ := HF.out.1.cells
    refine bodyPost_ret (v := .tuple #[.bool false, .agg #[.int .i64 (0), .int .i64 (e)]]) (by simp [results, Try.results82, go_sem, d0, d1]) rfl ⟨?_, HF.out.2⟩
    rfl
end Go.Proofs.Ytpgppdkbkkljnaa
namespace Go.Proofs.Ytpgppdkbkkljnaa
open Go.RowKit
set_option maxHeartbeats 1000000
set_option maxRecDepth 100000
set_option linter.unusedVariables false

theorem nam_6 (j : Jb) (m pb po pc : Nat) (w : World) (J : JAt w j m (some ⟨pb, po, none⟩)) (ok : j.ok) (a b x p4 y p2 n : Nat) (hn : n < 65536) (V : An) (hV : namF j y b n 0 = V) (hx : ¬ x = 0) (e4 : ((x : Int) + 4) % 4294967296 = (p4 : Int)) (hy : ¬ y = 0) (e2 : ((x : Int) + 2) % 4294967296 = (p2 : Int)) (c1 : ∀ w, JAt w j m (some ⟨pb, po, none⟩) → Calls Try.prog 68 #[.agg #[.pointer (some ⟨m, 0, none⟩), .slice (some ⟨pb, po, none⟩) 9 pc, .int .u32 j.att], .int .u32 (a : Nat), .int .u32 2] w fun r w' => r = .returned (.tuple #[.int .u32 (x : Nat), .agg #[.int .i64 0, .int .i64 0]]) ∧ Below w.heap.size w w') (c2 : ∀ w, JAt w j m (some ⟨pb, po, none⟩) → Calls Try.prog 65 #[.agg #[.pointer (some ⟨m, 0, none⟩), .slice (some ⟨pb, po, none⟩) 9 pc, .int .u32 j.att], .int .u32 (p4 : Nat), .int .i64 4] w fun r w' => r = .returned (.tuple #[.int .u32 (y : Nat), .agg #[.int .i64 0, .int .i64 0]]) ∧ Below w.heap.size w w') (c3 : ∀ w, JAt w j m (some ⟨pb, po, none⟩) → Calls Try.prog 65 #[.agg #[.pointer (some ⟨m, 0, none⟩), .slice (some ⟨pb, po, none⟩) 9 pc, .int .u32 j.att], .int .u32 (p2 : Nat), .int .i64 2] w fun r w' => r = .returned (.tuple #[.int .u32 (n : Nat), .agg #[.int .i64 0, .int .i64 0]]) ∧ Below w.heap.size w w') :
    Calls Try.prog 82 #[.agg #[.pointer (some ⟨m, 0, none⟩), .slice (some ⟨pb, po, none⟩) 9 pc, .int .u32 j.att], .int .u32 (a : Nat), .int .u32 (b : Nat)] w fun r w' => r = .returned (.tuple #[.bool (decide (V.x = 1)), .agg #[.int .i64 V.s, .int .i64 V.e]]) ∧ Below w.heap.size w w' := by
  have Hc1 := hidden c1
  have Hc2 := hidden c2
  have Hc3 := hidden c3
  have q : ((x : Int) == 0) = false := by rw [beq_eq_false_iff_ne]; omega
  have qy : ((y : Int) == 0) = false := by rw [beq_eq_false_iff_ne]; omega
  have HV := hidden (show namF j y b (n - 0) 0 = V from hV)
  clear hx hy hV
  clear c1 c2 c3
  have HX := hidden (Bx2.start w m (some ⟨pb, po, none⟩) pc j.att)
  go_enter Try.func82, Try.ntmps82
  go_upto_region 1 with fail
  generalize (w.alloc (.cells #[.pointer (some ⟨m, 0, none⟩), .slice (some ⟨pb, po, none⟩) 9 pc, .int .u32 j.att] 94)).alloc (.cells #[.int .i64 0, .int .i64 0] 91) = w1 at *
  have HJ := hidden (J.later HX.out.bel)
  obtain ⟨a0, a1, a2, b0, b1, f0, f1⟩ := HX.out.cells
  go_upto_region 2 with (first | (go_at_call 68; (with_reducible refine (Hc1.out _ HJ.out).mono ?_); rintro e w2 ⟨rfl, hb2⟩; replace HX := hidden (HX.out.call hb2); replace HJ := hidden (HJ.out.later hb2); clear a0 a1 a2 b0 b1 f0 f1; obtain ⟨a0, a1, a2, b0, b1, f0, f1⟩ := HX.out.cells; clear hb2) | fail)
  replace HX := hidden (HX.out.new (0) (0))
  replace HJ := hidden (HJ.out.later ((Below.refl _ _).alloc (Nat.le_refl _) (.cells #[.int .i64 (0), .int .i64 (0)] 91)))
  clear a0 a1 a2 b0 b1 f0 f1
  change Code.wp _ _ _ _ (w2.alloc (.cells #[.int .i64 (0), .int .i64 (0)] 91))
  generalize w2.alloc (.cells #[.int .i64 (0), .int .i64 (0)] 91) = w3 at *
  generalize w2.heap.size = H3 at *
  obtain ⟨a0, a1, a2, b0, b1, f0, f1⟩ := HX.out.b2.cells
  obtain ⟨h0, h1, g0, g1⟩ := HX.out.cells
  go_upto_region 4 with (first | (go_at_call 66; (with_reducible refine (ends_good _).mono ?_); rintro e w4 ⟨rfl, hb4⟩; replace HX := hidden (HX.out.call hb4); replace HJ := hidden (HJ.out.later hb4); clear a0 a1 a2 b0 b1 f0 f1; clear h0 h1 g0 g1; obtain ⟨a0, a1, a2, b0, b1, f0, f1⟩ := HX.out.b2.cells; obtain ⟨h0, h1, g0, g1⟩ := HX.out.cells; clear hb4) | fail)
  go_upto_region 5 with (first | (go_at_call 65; (with_reducible refine (Hc2.out _ HJ.out).mono ?_); rintro e w5 ⟨rfl, hb5⟩; replace HX := hidden (HX.out.call hb5); replace HJ := hidden (HJ.out.later hb5); clear a0 a1 a2 b0 b1 f0 f1; clear h0 h1 g0 g1; obtain ⟨a0, a1, a2, b0, b1, f0, f1⟩ := HX.out.b2.cells; obtain ⟨h0, h1, g0, g1⟩ := HX.out.cells; clear hb5) | fail)
  replace HX := hidden (HX.out.put (0) (0))
  replace HJ := hidden (J.later HX.out.b2.bel)
  clear a0 a1 a2 b0 b1 f0 f1 h0 h1 g0 g1
  generalize (w5.setCell ⟨H3, 0, none⟩ (.int .i64 (0))).setCell ⟨H3, 1, none⟩ (.int .i64 (0)) = w6 at *
  obtain ⟨a0, a1, a2, b0, b1, f0, f1⟩ := HX.out.b2.cells
  obtain ⟨h0, h1, g0, g1⟩ := HX.out.cells
  go_upto_region 7 with (first | (go_at_call 66; (with_reducible refine (ends_good _).mono ?_); rintro e w7 ⟨rfl, hb7⟩; replace HX := hidden (HX.out.call hb7); replace HJ := hidden (HJ.out.later hb7); clear a0 a1 a2 b0 b1 f0 f1; clear h0 h1 g0 g1; obtain ⟨a0, a1, a2, b0, b1, f0, f1⟩ := HX.out.b2.cells; obtain ⟨h0, h1, g0, g1⟩ := HX.out.cells; clear hb7) | fail)
  go_upto_region 8 with (first | (go_at_call 65; (with_reducible refine (Hc3.out _ HJ.out).mono ?_); rintro e w8 ⟨rfl, hb8⟩; replace HX := hidden (HX.out.call hb8); replace HJ := hidden (HJ.out.later hb8); clear a0 a1 a2 b0 b1 f0 f1; clear h0 h1 g0 g1; obtain ⟨a0, a1, a2, b0, b1, f0, f1⟩ := HX.out.b2.cells; obtain ⟨h0, h1, g0, g1⟩ := HX.out.cells; clear hb8) | fail)
  replace HX := hidden (HX.out.put (0) (0))
  replace HJ := hidden (J.later HX.out.b2.bel)
  clear a0 a1 a2 b0 b1 f0 f1 h0 h1 g0 g1
  generalize (w8.setCell ⟨H3, 0, none⟩ (.int .i64 (0))).setCell ⟨H3, 1, none⟩ (.int .i64 (0)) = w9 at *
  obtain ⟨a0, a1, a2, b0, b1, f0, f1⟩ := HX.out.b2.cells
  obtain ⟨h0, h1, g0, g1⟩ := HX.out.cells
  go_upto_region 11 with (first | (go_at_call 66; (with_reducible refine (ends_good _).mono ?_); rintro e w10 ⟨rfl, hb10⟩; replace HX := hidden (HX.out.call hb10); replace HJ := hidden (HJ.out.later hb10); clear a0 a1 a2 b0 b1 f0 f1; clear h0 h1 g0 g1; obtain ⟨a0, a1, a2, b0, b1, f0, f1⟩ := HX.out.b2.cells; obtain ⟨h0, h1, g0, g1⟩ := HX.out.cells; clear hb10) | fail)
  have HX2 := hidden HX.out.b2
  clear HX HJ a0 a1 a2 b0 b1 f0 f1 h0 h1 g0 g1
  go_loopw [53] (fun i w' => ∃ k : Nat, k ≤ n ∧ i = .int .u32 k ∧ Hid (namF j y b (n - k) k = V) ∧ Hid (Bx2 w w' w.heap.size (w.heap.size + 1) m (some ⟨pb, po, none⟩) pc j.att)) (fun i _ => n - (intOf i).toNat)
  case atStart => exact ⟨0, by omega, rfl, HV, HX2⟩
  case round =>
    clear HX2 HV
    obtain ⟨k, hk, rfl, HV, HX⟩ := hrel
    have HJ := hidden (J.later HX.out.bel)
    generalize hwq : wr = wq at *
    clear hwq
    obtain ⟨a0, a1, a2, b0, b1, f0, f1⟩ := HX.out.cells
    by_cases h1 : k < n
    · have l1 : (k : Int) < (n : Int) := by omega
      have HRD : Hid (∀ w, JAt w j m (some ⟨pb, po, none⟩) → Calls Try.prog 65 #[.agg #[.pointer (some ⟨m, 0, none⟩), .slice (some ⟨pb, po, none⟩) 9 pc, .int .u32 j.att], .int .u32 ((wr32 (y + 4 * k) : Nat) : Int), .int .i64 4] w fun r w' => r = .returned (.tuple #[.int .u32 (rdA j.bs (wr32 (y + 4 * k)) 4).x, .agg #[.int .i64 (rdA j.bs (wr32 (y + 4 * k)) 4).s, .int .i64 (rdA j.bs (wr32 (y + 4 * k)) 4).e]]) ∧ Below w.heap.size w w') := hidden (fun w J => read18 j ok m (some ⟨pb, po, none⟩) pc (wr32 (y + 4 * k)) 4 (.inr (.inr rfl)) (wr32_lt _) w J)
      have HVV : Hid (V = (rdA j.bs (wr32 (y + 4 * k)) 4).go fun x => if x = b then just 1 else namF j y b (n - (k + 1)) (k + 1)) := hidden (by
        rw [← HV.out, show n - k = (n - (k + 1)) + 1 by omega]; rfl)
      have hfit := rd_fit ok.okb (wr32 (y + 4 * k)) 4 (.inr (.inr rfl))
      have hs := rdA_s j.bs (wr32 (y + 4 * k)) 4
      have ea : ((y : Int) + 4 * (k : Int)) % 4294967296 = ((wr32 (y + 4 * k) : Nat) : Int) := by unfold wr32; omega
      have ek : ((k : Int) + 1) % 4294967296 = (k : Int) + 1 := by omega
      generalize wr32 (y + 4 * k) = AD at *
      generalize rdA j.bs AD 4 = RR at *
      obtain ⟨x, s, e⟩ := RR
      simp only at hs
      subst hs
      simp only at HRD
      by_cases he : e = 0
      · subst he
        by_cases hb : x = b
        · have q : ((x : Int) == (b : Int)) = true := by rw [hb]; simp
          have HV3 : Hid (V = ⟨1, 0, 0⟩) := hidden (by rw [HVV.out]; simp [An.go, hb, just])
          clear HVV HV hb hfit
          go_upto_region 14 with (first | (go_at_call 65; (with_reducible refine (HRD.out _ HJ.out).mono ?_); rintro e w51 ⟨rfl, hb51⟩; replace HX := hidden (HX.out.call hb51); replace HJ := hidden (HJ.out.later hb51); clear a0 a1 a2 b0 b1 f0 f1; obtain ⟨a0, a1, a2, b0, b1, f0, f1⟩ := HX.out.cells; clear hb51) | fail)
          replace HX := hidden (HX.out.new (0) (0))
          replace HJ := hidden (HJ.out.later ((Below.refl _ _).alloc (Nat.le_refl _) (.cells #[.int .i64 (0), .int .i64 (0)] 91)))
          clear a0 a1 a2 b0 b1 f0 f1
          change Code.wp _ _ _ _ (w51.alloc (.cells #[.int .i64 (0), .int .i64 (0)] 91))
          generalize w51.alloc (.cells #[.int .i64 (0), .int .i64 (0)] 91) = w52 at *
          generalize w51.heap.size = H52 at *
          obtain ⟨a0, a1, a2, b0, b1, f0, f1⟩ := HX.out.b2.cells
          obtain ⟨h0, h1, g0, g1⟩ := HX.out.cells
          go_upto_region 15 with (first | (go_at_call 66; (with_reducible refine (ends_good _).mono ?_); rintro e w53 ⟨rfl, hb53⟩; replace HX := hidden (HX.out.call hb53); replace HJ := hidden (HJ.out.later hb53); clear a0 a1 a2 b0 b1 f0 f1; clear h0 h1 g0 g1; obtain ⟨a0, a1, a2, b0, b1, f0, f1⟩ := HX.out.b2.cells; obtain ⟨h0, h1, g0, g1⟩ := HX.out.cells; clear hb53) | fail)
          have HXD := hidden (HX.out.call ((Below.refl _ _).drew))
          go_region_held3 (fun w' => w'.cell? ⟨w.heap.size, 0, none⟩ = some (.pointer (some ⟨m, 0, none⟩)) ∧ w'.cell? ⟨w.heap.size, 1, none⟩ = some (.slice (some ⟨pb, po, none⟩) 9 pc) ∧ w'.cell? ⟨w.heap.size, 2, none⟩ = some (.int .u32 j.att) ∧ w'.cell? ⟨H52, 0, none⟩ = some (.int .i64 (0)) ∧ w'.cell? ⟨H52, 1, none⟩ = some (.int .i64 (0))) (first | (refine ⟨?_, ?_, ?_, ?_, ?_⟩ <;> with_reducible assumption) | go_keep) (first | (go_at_call 66; (with_reducible refine (ends_good _).mono ?_); rintro e w99 ⟨rfl, hb99⟩; have HX9 := hidden (HXD.out.call hb99); have HF := hidden (HX9.out.b2.fin (0) (0)); obtain ⟨a0, a1, a2, b0, b1, f0, f1⟩ := HX9.out.b2.cells; obtain ⟨h0, h1, g0, g1⟩ := HX9.out.cells; obtain ⟨k0, k1, k2, k3, k4⟩ := HX9.out.fink (0) (0); clear hb99) | fail)
          all_goals
            go_wp2
            obtain ⟨d0, d1, _⟩ := HF.out.1.cells
            refine bodyPost_ret (v := .tuple #[.bool true, .agg #[.int .i64 (0), .int .i64 (0)]]) (by simp [results, Try.results82, go_sem, d0, d1]) rfl ⟨?_, HF.out.2⟩
            rw [HV3.out]; rfl
        · have q : ((x : Int) == (b : Int)) = false := by rw [beq_eq_false_iff_ne]; omega
          have HV3 : Hid (namF j y b (n - (k + 1)) (k + 1) = V) := hidden (by rw [HVV.out]; simp [An.go, hb])
          clear HVV HV hb hfit
          go_upto_region 14 with (first | (go_at_call 65; (with_reducible refine (HRD.out _ HJ.out).mono ?_); rintro e w51 ⟨rfl, hb51⟩; replace HX := hidden (HX.out.call hb51); replace HJ := hidden (HJ.out.later hb51); clear a0 a1 a2 b0 b1 f0 f1; obtain ⟨a0, a1, a2, b0, b1, f0, f1⟩ := HX.out.cells; clear hb51) | fail)
          replace HX := hidden (HX.out.new (0) (0))
          replace HJ := hidden (HJ.out.later ((Below.refl _ _).alloc (Nat.le_refl _) (.cells #[.int .i64 (0), .int .i64 (0)] 91)))
          clear a0 a1 a2 b0 b1 f0 f1
          change Code.wp _ _ _ _ (w51.alloc (.cells #[.int .i64 (0), .int .i64 (0)] 91))
          generalize w51.alloc (.cells #[.int .i64 (0), .int .i64 (0)] 91) = w52 at *
          generalize w51.heap.size = H52 at *
          obtain ⟨a0, a1, a2, b0, b1, f0, f1⟩ := HX.out.b2.cells
          obtain ⟨h0, h1, g0, g1⟩ := HX.out.cells
          go_wp2_with (first | (go_at_call 66; (with_reducible refine (ends_good _).mono ?_); rintro e w53 ⟨rfl, hb53⟩; replace HX := hidden (HX.out.call hb53); replace HJ := hidden (HJ.out.later hb53); clear a0 a1 a2 b0 b1 f0 f1; clear h0 h1 g0 g1; obtain ⟨a0, a1, a2, b0, b1, f0, f1⟩ := HX.out.b2.cells; obtain ⟨h0, h1, g0, g1⟩ := HX.out.cells; clear hb53) | fail)
          go_roundw
          case rel => exact ⟨k + 1, by omega, by go_num, HV3, hidden HX.out.b2⟩
          case measure => simp [intOf]; omega
      · have hx0 := hfit.z (fun h => he h.2)
        simp only at hx0
        subst hx0
        have HV3 : Hid (V = ⟨0, 0, e⟩) := hidden (by rw [HVV.out]; simp [An.go, he])
        clear HVV HV hfit
        go_upto_region 14 with (first | (go_at_call 65; (with_reducible refine (HRD.out _ HJ.out).mono ?_); rintro e w51 ⟨rfl, hb51⟩; replace HX := hidden (HX.out.call hb51); replace HJ := hidden (HJ.out.later hb51); clear a0 a1 a2 b0 b1 f0 f1; obtain ⟨a0, a1, a2, b0, b1, f0, f1⟩ := HX.out.cells; clear hb51) | fail)
        replace HX := hidden (HX.out.new (0) (e))
        replace HJ := hidden (HJ.out.later ((Below.refl _ _).alloc (Nat.le_refl _) (.cells #[.int .i64 (0), .int .i64 (e)] 91)))
        clear a0 a1 a2 b0 b1 f0 f1
        change Code.wp _ _ _ _ (w51.alloc (.cells #[.int .i64 (0), .int .i64 (e)] 91))
        generalize w51.alloc (.cells #[.int .i64 (0), .int .i64 (e)] 91) = w52 at *
        generalize w51.heap.size = H52 at *
        obtain ⟨a0, a1, a2, b0, b1, f0, f1⟩ := HX.out.b2.cells
        obtain ⟨h0, h1, g0, g1⟩ := HX.out.cells
        go_upto_region 15 with (first | (go_at_call 66; (with_reducible refine (ends_bad2 he _).mono ?_); rintro e w53 ⟨rfl, hb53⟩; replace HX := hidden (HX.out.call hb53); replace HJ := hidden (HJ.out.later hb53); clear a0 a1 a2 b0 b1 f0 f1; clear h0 h1 g0 g1; obtain ⟨a0, a1, a2, b0, b1, f0, f1⟩ := HX.out.b2.cells; obtain ⟨h0, h1, g0, g1⟩ := HX.out.cells; clear hb53) | fail)
        have HXD := hidden (HX.out.call ((Below.refl _ _).drew))
        go_region_held3 (fun w' => w'.cell? ⟨w.heap.size, 0, none⟩ = some (.pointer (some ⟨m, 0, none⟩)) ∧ w'.cell? ⟨w.heap.size, 1, none⟩ = some (.slice (some ⟨pb, po, none⟩) 9 pc) ∧ w'.cell? ⟨w.heap.size, 2, none⟩ = some (.int .u32 j.att) ∧ w'.cell? ⟨H52, 0, none⟩ = some (.int .i64 (0)) ∧ w'.cell? ⟨H52, 1, none⟩ = some (.int .i64 (e))) (first | (refine ⟨?_, ?_, ?_, ?_, ?_⟩ <;> with_reducible assumption) | go_keep) (first | (go_at_call 66; (with_reducible refine (ends_bad2 he _).mono ?_); rintro e w99 ⟨rfl, hb99⟩; have HX9 := hidden (HXD.out.call hb99); have HF := hidden (HX9.out.b2.fin (0) (e)); obtain ⟨a0, a1, a2, b0, b1, f0, f1⟩ := HX9.out.b2.cells; obtain ⟨h0, h1, g0, g1⟩ := HX9.out.cells; obtain ⟨k0, k1, k2, k3, k4⟩ := HX9.out.fink (0) (e); clear hb99) | fail)
        all_goals
          go_wp2
          obtain ⟨d0, d1, _⟩ := HF.out.1.cells
          refine bodyPost_ret (v := .tuple #[.bool false, .agg #[.int .i64 (0), .int .i64 (e)]]) (by simp [results, Try.results82, go_sem, d0, d1]) rfl ⟨?_, HF.out.2⟩
          rw [HV3.out]; rfl
    · have l1 : ¬ (k : Int) < (n : Int) := by omega
      have HV3 : Hid (V = ⟨0, 0, 0⟩) := hidden (by rw [← HV.out, show n - k = 0 by omega]; rfl)
      have HF := hidden (HX.out.fin (0) (0))
      all_goals
        go_wp2
        obtain ⟨d0, d1, _⟩ := HF.out.1.cells
        refine bodyPost_ret (v := .tuple #[.bool false, .agg #[.int .i64 (0), .int .i64 (0)]]) (by simp [results, Try.results82, go_sem, d0, d1]) rfl ⟨?_, HF.out.2⟩
        rw [HV3.out]; rfl
end Go.Proofs.Ytpgppdkbkkljnaa
