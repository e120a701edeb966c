/- Layer 18: shown, by leaves. Layer 18: prop, by leaves. -/
import Derived.Test.YtpgppdkbkkljnaaA18A
namespace Go.Proofs.Ytpgppdkbkkljnaa
open Go.RowKit
set_option maxHeartbeats 1000000
set_option maxRecDepth 100000
set_option linter.unusedVariables false

theorem sho_1t (j : Jb) (m pb po pc : Nat) (w : World) (J : JAt w j m (some ⟨pb, po, none⟩)) (a b x : Nat) (s e : Int) (hne : ¬ (s = 0 ∧ e = 0)) (c1 : ∀ w, JAt w j m (some ⟨pb, po, none⟩) → Calls Try.prog 49 #[.agg #[.pointer (some ⟨m, 0, none⟩), .slice (some ⟨pb, po, none⟩) 9 pc, .int .u32 j.att], .int .u32 (a : Nat), .int .u32 (b : Nat)] w fun r w' => r = .returned (.tuple #[.int .u32 (x : Nat), .agg #[.int .i64 s, .int .i64 e]]) ∧ Below w.heap.size w w') :
    Calls Try.prog 79 #[.agg #[.pointer (some ⟨m, 0, none⟩), .slice (some ⟨pb, po, none⟩) 9 pc, .int .u32 j.att], .int .u32 (a : Nat), .int .u32 (b : Nat), .bool true] w fun r w' => r = .returned (.tuple #[.int .u32 0, .agg #[.int .i64 s, .int .i64 e]]) ∧ Below w.heap.size w w' := by
  have Hc1 := hidden c1
  clear c1
  have HX := hidden (Bx2.start w m (some ⟨pb, po, none⟩) pc j.att)
  go_enter Try.func79, Try.ntmps79
  go_upto_region 1 with fail
  generalize (w.alloc (.cells #[.pointer (some ⟨m, 0, none⟩), .slice (some ⟨pb, po, none⟩) 9 pc, .int .u32 j.att] 94)).alloc (.cells #[.int .i64 0, .int .i64 0] 91) = w1 at *
  have HJ := hidden (J.later HX.out.bel)
  obtain ⟨a0, a1, a2, b0, b1, f0, f1⟩ := HX.out.cells
  go_upto_region 2 with (first | (go_at_call 49; (with_reducible refine (Hc1.out _ HJ.out).mono ?_); rintro e w2 ⟨rfl, hb2⟩; replace HX := hidden (HX.out.call hb2); replace HJ := hidden (HJ.out.later hb2); clear a0 a1 a2 b0 b1 f0 f1; obtain ⟨a0, a1, a2, b0, b1, f0, f1⟩ := HX.out.cells; clear hb2) | fail)
  replace HX := hidden (HX.out.new (s) (e))
  replace HJ := hidden (HJ.out.later ((Below.refl _ _).alloc (Nat.le_refl _) (.cells #[.int .i64 (s), .int .i64 (e)] 91)))
  clear a0 a1 a2 b0 b1 f0 f1
  change Code.wp _ _ _ _ (w2.alloc (.cells #[.int .i64 (s), .int .i64 (e)] 91))
  generalize w2.alloc (.cells #[.int .i64 (s), .int .i64 (e)] 91) = w3 at *
  generalize w2.heap.size = H3 at *
  obtain ⟨a0, a1, a2, b0, b1, f0, f1⟩ := HX.out.b2.cells
  obtain ⟨h0, h1, g0, g1⟩ := HX.out.cells
  go_upto_region 3 with (first | (go_at_call 66; (with_reducible refine (ends_bad hne _).mono ?_); rintro e w4 ⟨rfl, hb4⟩; replace HX := hidden (HX.out.call hb4); replace HJ := hidden (HJ.out.later hb4); clear a0 a1 a2 b0 b1 f0 f1; clear h0 h1 g0 g1; obtain ⟨a0, a1, a2, b0, b1, f0, f1⟩ := HX.out.b2.cells; obtain ⟨h0, h1, g0, g1⟩ := HX.out.cells; clear hb4) | fail)
  have HXD := hidden (HX.out.call ((Below.refl _ _).drew))
  have HF := hidden (HX.out.b2.find (s) (e))
  clear HXD
  (first | (go_region_with (fail)) | fail)
  all_goals
    go_wp2
    generalize ((w4.setCell ⟨w.heap.size + 1, 0, none⟩ (.int .i64 (s))).setCell ⟨w.heap.size + 1, 1, none⟩ (.int .i64 (e))).drew = w98 at *
    obtain ⟨d0, d1, _⟩ := HF.out.1.cells
    refine bodyPost_ret (v := .tuple #[.int .u32 0, .agg #[.int .i64 (s), .int .i64 (e)]]) (by simp [results, Try.results79, go_sem, d0, d1]) rfl ⟨?_, HF.out.2⟩
    rfl
theorem sho_2t (j : Jb) (m pb po pc : Nat) (w : World) (J : JAt w j m (some ⟨pb, po, none⟩)) (a b : Nat) (c1 : ∀ w, JAt w j m (some ⟨pb, po, none⟩) → Calls Try.prog 49 #[.agg #[.pointer (some ⟨m, 0, none⟩), .slice (some ⟨pb, po, none⟩) 9 pc, .int .u32 j.att], .int .u32 (a : Nat), .int .u32 (b : Nat)] w fun r w' => r = .returned (.tuple #[.int .u32 0, .agg #[.int .i64 0, .int .i64 0]]) ∧ Below w.heap.size w w') :
    Calls Try.prog 79 #[.agg #[.pointer (some ⟨m, 0, none⟩), .slice (some ⟨pb, po, none⟩) 9 pc, .int .u32 j.att], .int .u32 (a : Nat), .int .u32 (b : Nat), .bool true] w fun r w' => r = .returned (.tuple #[.int .u32 0, .agg #[.int .i64 0, .int .i64 0]]) ∧ Below w.heap.size w w' := by
  have Hc1 := hidden c1
  clear c1
  have HX := hidden (Bx2.start w m (some ⟨pb, po, none⟩) pc j.att)
  go_enter Try.func79, Try.ntmps79
  go_upto_region 1 with fail
  generalize (w.alloc (.cells #[.pointer (some ⟨m, 0, none⟩), .slice (some ⟨pb, po, none⟩) 9 pc, .int .u32 j.att] 94)).alloc (.cells #[.int .i64 0, .int .i64 0] 91) = w1 at *
  have HJ := hidden (J.later HX.out.bel)
  obtain ⟨a0, a1, a2, b0, b1, f0, f1⟩ := HX.out.cells
  go_upto_region 2 with (first | (go_at_call 49; (with_reducible refine (Hc1.out _ HJ.out).mono ?_); rintro e w2 ⟨rfl, hb2⟩; replace HX := hidden (HX.out.call hb2); replace HJ := hidden (HJ.out.later hb2); clear a0 a1 a2 b0 b1 f0 f1; obtain ⟨a0, a1, a2, b0, b1, f0, f1⟩ := HX.out.cells; clear hb2) | fail)
  replace HX := hidden (HX.out.new (0) (0))
  replace HJ := hidden (HJ.out.later ((Below.refl _ _).alloc (Nat.le_refl _) (.cells #[.int .i64 (0), .int .i64 (0)] 91)))
  clear a0 a1 a2 b0 b1 f0 f1
  change Code.wp _ _ _ _ (w2.alloc (.cells #[.int .i64 (0), .int .i64 (0)] 91))
  generalize w2.alloc (.cells #[.int .i64 (0), .int .i64 (0)] 91) = w3 at *
  generalize w2.heap.size = H3 at *
  obtain ⟨a0, a1, a2, b0, b1, f0, f1⟩ := HX.out.b2.cells
  obtain ⟨h0, h1, g0, g1⟩ := HX.out.cells
  go_upto_region 3 with (first | (go_at_call 66; (with_reducible refine (ends_good _).mono ?_); rintro e w4 ⟨rfl, hb4⟩; replace HX := hidden (HX.out.call hb4); replace HJ := hidden (HJ.out.later hb4); clear a0 a1 a2 b0 b1 f0 f1; clear h0 h1 g0 g1; obtain ⟨a0, a1, a2, b0, b1, f0, f1⟩ := HX.out.b2.cells; obtain ⟨h0, h1, g0, g1⟩ := HX.out.cells; clear hb4) | fail)
  have HXD := hidden (HX.out.call ((Below.refl _ _).drew))
  have HF := hidden (HX.out.b2.find (0) (0))
  clear HXD
  (first | (go_region_with (fail)) | fail)
  all_goals
    go_wp2
    generalize ((w4.setCell ⟨w.heap.size + 1, 0, none⟩ (.int .i64 (0))).setCell ⟨w.heap.size + 1, 1, none⟩ (.int .i64 (0))).drew = w98 at *
    obtain ⟨d0, d1, _⟩ := HF.out.1.cells
    refine bodyPost_ret (v := .tuple #[.int .u32 0, .agg #[.int .i64 (0), .int .i64 (0)]]) (by simp [results, Try.results79, go_sem, d0, d1]) rfl ⟨?_, HF.out.2⟩
    rfl
theorem sho_3t (j : Jb) (m pb po pc : Nat) (w : World) (J : JAt w j m (some ⟨pb, po, none⟩)) (a b x : Nat) (s e : Int) (hx : ¬ x = 0) (hne : ¬ (s = 0 ∧ e = 0)) (c1 : ∀ w, JAt w j m (some ⟨pb, po, none⟩) → Calls Try.prog 49 #[.agg #[.pointer (some ⟨m, 0, none⟩), .slice (some ⟨pb, po, none⟩) 9 pc, .int .u32 j.att], .int .u32 (a : Nat), .int .u32 (b : Nat)] w fun r w' => r = .returned (.tuple #[.int .u32 (x : Nat), .agg #[.int .i64 0, .int .i64 0]]) ∧ Below w.heap.size w w') (c3 : ∀ w, JAt w j m (some ⟨pb, po, none⟩) → Calls Try.prog 90 #[.agg #[.pointer (some ⟨m, 0, none⟩), .slice (some ⟨pb, po, none⟩) 9 pc, .int .u32 j.att], .int .u32 (a : Nat), .int .u32 (x : Nat)] w fun r w' => r = .returned (.tuple #[.bool false, .agg #[.int .i64 s, .int .i64 e]]) ∧ Below w.heap.size w w') :
    Calls Try.prog 79 #[.agg #[.pointer (some ⟨m, 0, none⟩), .slice (some ⟨pb, po, none⟩) 9 pc, .int .u32 j.att], .int .u32 (a : Nat), .int .u32 (b : Nat), .bool true] w fun r w' => r = .returned (.tuple #[.int .u32 0, .agg #[.int .i64 s, .int .i64 e]]) ∧ Below w.heap.size w w' := by
  have Hc1 := hidden c1
  have Hc3 := hidden c3
  have q : ((x : Int) == 0) = false := by rw [beq_eq_false_iff_ne]; omega
  clear hx
  clear c1 c3
  have HX := hidden (Bx2.start w m (some ⟨pb, po, none⟩) pc j.att)
  go_enter Try.func79, Try.ntmps79
  go_upto_region 1 with fail
  generalize (w.alloc (.cells #[.pointer (some ⟨m, 0, none⟩), .slice (some ⟨pb, po, none⟩) 9 pc, .int .u32 j.att] 94)).alloc (.cells #[.int .i64 0, .int .i64 0] 91) = w1 at *
  have HJ := hidden (J.later HX.out.bel)
  obtain ⟨a0, a1, a2, b0, b1, f0, f1⟩ := HX.out.cells
  go_upto_region 2 with (first | (go_at_call 49; (with_reducible refine (Hc1.out _ HJ.out).mono ?_); rintro e w2 ⟨rfl, hb2⟩; replace HX := hidden (HX.out.call hb2); replace HJ := hidden (HJ.out.later hb2); clear a0 a1 a2 b0 b1 f0 f1; obtain ⟨a0, a1, a2, b0, b1, f0, f1⟩ := HX.out.cells; clear hb2) | fail)
  replace HX := hidden (HX.out.new (0) (0))
  replace HJ := hidden (HJ.out.later ((Below.refl _ _).alloc (Nat.le_refl _) (.cells #[.int .i64 (0), .int .i64 (0)] 91)))
  clear a0 a1 a2 b0 b1 f0 f1
  change Code.wp _ _ _ _ (w2.alloc (.cells #[.int .i64 (0), .int .i64 (0)] 91))
  generalize w2.alloc (.cells #[.int .i64 (0), .int .i64 (0)] 91) = w3 at *
  generalize w2.heap.size = H3 at *
  obtain ⟨a0, a1, a2, b0, b1, f0, f1⟩ := HX.out.b2.cells
  obtain ⟨h0, h1, g0, g1⟩ := HX.out.cells
  go_upto_region 4 with (first | (go_at_call 66; (with_reducible refine (ends_good _).mono ?_); rintro e w4 ⟨rfl, hb4⟩; replace HX := hidden (HX.out.call hb4); replace HJ := hidden (HJ.out.later hb4); clear a0 a1 a2 b0 b1 f0 f1; clear h0 h1 g0 g1; obtain ⟨a0, a1, a2, b0, b1, f0, f1⟩ := HX.out.b2.cells; obtain ⟨h0, h1, g0, g1⟩ := HX.out.cells; clear hb4) | fail)
  go_upto_region 8 with fail
  go_upto_region 9 with (first | (go_at_call 90; (with_reducible refine (Hc3.out _ HJ.out).mono ?_); rintro e w5 ⟨rfl, hb5⟩; replace HX := hidden (HX.out.call hb5); replace HJ := hidden (HJ.out.later hb5); clear a0 a1 a2 b0 b1 f0 f1; clear h0 h1 g0 g1; obtain ⟨a0, a1, a2, b0, b1, f0, f1⟩ := HX.out.b2.cells; obtain ⟨h0, h1, g0, g1⟩ := HX.out.cells; clear hb5) | fail)
  replace HX := hidden (HX.out.put (s) (e))
  replace HJ := hidden (J.later HX.out.b2.bel)
  clear a0 a1 a2 b0 b1 f0 f1 h0 h1 g0 g1
  generalize (w5.setCell ⟨H3, 0, none⟩ (.int .i64 (s))).setCell ⟨H3, 1, none⟩ (.int .i64 (e)) = w6 at *
  obtain ⟨a0, a1, a2, b0, b1, f0, f1⟩ := HX.out.b2.cells
  obtain ⟨h0, h1, g0, g1⟩ := HX.out.cells
  go_upto_region 10 with (first | (go_at_call 66; (with_reducible refine (ends_bad hne _).mono ?_); rintro e w7 ⟨rfl, hb7⟩; replace HX := hidden (HX.out.call hb7); replace HJ := hidden (HJ.out.later hb7); clear a0 a1 a2 b0 b1 f0 f1; clear h0 h1 g0 g1; obtain ⟨a0, a1, a2, b0, b1, f0, f1⟩ := HX.out.b2.cells; obtain ⟨h0, h1, g0, g1⟩ := HX.out.cells; clear hb7) | fail)
  have HXD := hidden (HX.out.call ((Below.refl _ _).drew))
  have HF := hidden (HX.out.b2.find (s) (e))
  clear HXD
  (first | (go_region_with (fail)) | fail)
  all_goals
    go_wp2
    generalize ((w7.setCell ⟨w.heap.size + 1, 0, none⟩ (.int .i64 (s))).setCell ⟨w.heap.size + 1, 1, none⟩ (.int .i64 (e))).drew = w98 at *
    obtain ⟨d0, d1, _⟩ := HF.out.1.cells
    refine bodyPost_ret (v := .tuple #[.int .u32 0, .agg #[.int .i64 (s), .int .i64 (e)]]) (by simp [results, Try.results79, go_sem, d0, d1]) rfl ⟨?_, HF.out.2⟩
    rfl
theorem sho_4t (j : Jb) (m pb po pc : Nat) (w : World) (J : JAt w j m (some ⟨pb, po, none⟩)) (a b x : Nat) (hx : ¬ x = 0) (c1 : ∀ w, JAt w j m (some ⟨pb, po, none⟩) → Calls Try.prog 49 #[.agg #[.pointer (some ⟨m, 0, none⟩), .slice (some ⟨pb, po, none⟩) 9 pc, .int .u32 j.att], .int .u32 (a : Nat), .int .u32 (b : Nat)] w fun r w' => r = .returned (.tuple #[.int .u32 (x : Nat), .agg #[.int .i64 0, .int .i64 0]]) ∧ Below w.heap.size w w') (c3 : ∀ w, JAt w j m (some ⟨pb, po, none⟩) → Calls Try.prog 90 #[.agg #[.pointer (some ⟨m, 0, none⟩), .slice (some ⟨pb, po, none⟩) 9 pc, .int .u32 j.att], .int .u32 (a : Nat), .int .u32 (x : Nat)] w fun r w' => r = .returned (.tuple #[.bool true, .agg #[.int .i64 0, .int .i64 0]]) ∧ Below w.heap.size w w') :
    Calls Try.prog 79 #[.agg #[.pointer (some ⟨m, 0, none⟩), .slice (some ⟨pb, po, none⟩) 9 pc, .int .u32 j.att], .int .u32 (a : Nat), .int .u32 (b : Nat), .bool true] w fun r w' => r = .returned (.tuple #[.int .u32 0, .agg #[.int .i64 0, .int .i64 0]]) ∧ Below w.heap.size w w' := by
  have Hc1 := hidden c1
  have Hc3 := hidden c3
  have q : ((x : Int) == 0) = false := by rw [beq_eq_false_iff_ne]; omega
  clear hx
  clear c1 c3
  have HX := hidden (Bx2.start w m (some ⟨pb, po, none⟩) pc j.att)
  go_enter Try.func79, Try.ntmps79
  go_upto_region 1 with fail
  generalize (w.alloc (.cells #[.pointer (some ⟨m, 0, none⟩), .slice (some ⟨pb, po, none⟩) 9 pc, .int .u32 j.att] 94)).alloc (.cells #[.int .i64 0, .int .i64 0] 91) = w1 at *
  have HJ := hidden (J.later HX.out.bel)
  obtain ⟨a0, a1, a2, b0, b1, f0, f1⟩ := HX.out.cells
  go_upto_region 2 with (first | (go_at_call 49; (with_reducible refine (Hc1.out _ HJ.out).mono ?_); rintro e w2 ⟨rfl, hb2⟩; replace HX := hidden (HX.out.call hb2); replace HJ := hidden (HJ.out.later hb2); clear a0 a1 a2 b0 b1 f0 f1; obtain ⟨a0, a1, a2, b0, b1, f0, f1⟩ := HX.out.cells; clear hb2) | fail)
  replace HX := hidden (HX.out.new (0) (0))
  replace HJ := hidden (HJ.out.later ((Below.refl _ _).alloc (Nat.le_refl _) (.cells #[.int .i64 (0), .int .i64 (0)] 91)))
  clear a0 a1 a2 b0 b1 f0 f1
  change Code.wp _ _ _ _ (w2.alloc (.cells #[.int .i64 (0), .int .i64 (0)] 91))
  generalize w2.alloc (.cells #[.int .i64 (0), .int .i64 (0)] 91) = w3 at *
  generalize w2.heap.size = H3 at *
  obtain ⟨a0, a1, a2, b0, b1, f0, f1⟩ := HX.out.b2.cells
  obtain ⟨h0, h1, g0, g1⟩ := HX.out.cells
  go_upto_region 4 with (first | (go_at_call 66; (with_reducible refine (ends_good _).mono ?_); rintro e w4 ⟨rfl, hb4⟩; replace HX := hidden (HX.out.call hb4); replace HJ := hidden (HJ.out.later hb4); clear a0 a1 a2 b0 b1 f0 f1; clear h0 h1 g0 g1; obtain ⟨a0, a1, a2, b0, b1, f0, f1⟩ := HX.out.b2.cells; obtain ⟨h0, h1, g0, g1⟩ := HX.out.cells; clear hb4) | fail)
  go_upto_region 8 with fail
  go_upto_region 9 with (first | (go_at_call 90; (with_reducible refine (Hc3.out _ HJ.out).mono ?_); rintro e w5 ⟨rfl, hb5⟩; replace HX := hidden (HX.out.call hb5); replace HJ := hidden (HJ.out.later hb5); clear a0 a1 a2 b0 b1 f0 f1; clear h0 h1 g0 g1; obtain ⟨a0, a1, a2, b0, b1, f0, f1⟩ := HX.out.b2.cells; obtain ⟨h0, h1, g0, g1⟩ := HX.out.cells; clear hb5) | fail)
  replace HX := hidden (HX.out.put (0) (0))
  replace HJ := hidden (J.later HX.out.b2.bel)
  clear a0 a1 a2 b0 b1 f0 f1 h0 h1 g0 g1
  generalize (w5.setCell ⟨H3, 0, none⟩ (.int .i64 (0))).setCell ⟨H3, 1, none⟩ (.int .i64 (0)) = w6 at *
  obtain ⟨a0, a1, a2, b0, b1, f0, f1⟩ := HX.out.b2.cells
  obtain ⟨h0, h1, g0, g1⟩ := HX.out.cells
  go_upto_region 10 with (first | (go_at_call 66; (with_reducible refine (ends_good _).mono ?_); rintro e w7 ⟨rfl, hb7⟩; replace HX := hidden (HX.out.call hb7); replace HJ := hidden (HJ.out.later hb7); clear a0 a1 a2 b0 b1 f0 f1; clear h0 h1 g0 g1; obtain ⟨a0, a1, a2, b0, b1, f0, f1⟩ := HX.out.b2.cells; obtain ⟨h0, h1, g0, g1⟩ := HX.out.cells; clear hb7) | fail)
  have HXD := hidden (HX.out.call ((Below.refl _ _).drew))
  have HF := hidden (HX.out.b2.find (0) (0))
  clear HXD
  (first | (go_region_with (fail)) | fail)
  all_goals
    go_wp2
    generalize ((w7.setCell ⟨w.heap.size + 1, 0, none⟩ (.int .i64 (0))).setCell ⟨w.heap.size + 1, 1, none⟩ (.int .i64 (0))).drew = w98 at *
    obtain ⟨d0, d1, _⟩ := HF.out.1.cells
    refine bodyPost_ret (v := .tuple #[.int .u32 0, .agg #[.int .i64 (0), .int .i64 (0)]]) (by simp [results, Try.results79, go_sem, d0, d1]) rfl ⟨?_, HF.out.2⟩
    rfl
theorem sho_5t (j : Jb) (m pb po pc : Nat) (w : World) (J : JAt w j m (some ⟨pb, po, none⟩)) (a b x : Nat) (hx : ¬ x = 0) (c1 : ∀ w, JAt w j m (some ⟨pb, po, none⟩) → Calls Try.prog 49 #[.agg #[.pointer (some ⟨m, 0, none⟩), .slice (some ⟨pb, po, none⟩) 9 pc, .int .u32 j.att], .int .u32 (a : Nat), .int .u32 (b : Nat)] w fun r w' => r = .returned (.tuple #[.int .u32 (x : Nat), .agg #[.int .i64 0, .int .i64 0]]) ∧ Below w.heap.size w w') (c3 : ∀ w, JAt w j m (some ⟨pb, po, none⟩) → Calls Try.prog 90 #[.agg #[.pointer (some ⟨m, 0, none⟩), .slice (some ⟨pb, po, none⟩) 9 pc, .int .u32 j.att], .int .u32 (a : Nat), .int .u32 (x : Nat)] w fun r w' => r = .returned (.tuple #[.bool false, .agg #[.int .i64 0, .int .i64 0]]) ∧ Below w.heap.size w w') :
    Calls Try.prog 79 #[.agg #[.pointer (some ⟨m, 0, none⟩), .slice (some ⟨pb, po, none⟩) 9 pc, .int .u32 j.att], .int .u32 (a : Nat), .int .u32 (b : Nat), .bool true] w fun r w' => r = .returned (.tuple #[.int .u32 (x : Nat), .agg #[.int .i64 0, .int .i64 0]]) ∧ Below w.heap.size w w' := by
  have Hc1 := hidden c1
  have Hc3 := hidden c3
  have q : ((x : Int) == 0) = false := by rw [beq_eq_false_iff_ne]; omega
  clear hx
  clear c1 c3
  have HX := hidden (Bx2.start w m (some ⟨pb, po, none⟩) pc j.att)
  go_enter Try.func79, Try.ntmps79
  go_upto_region 1 with fail
  generalize (w.alloc (.cells #[.pointer (some ⟨m, 0, none⟩), .slice (some ⟨pb, po, none⟩) 9 pc, .int .u32 j.att] 94)).alloc (.cells #[.int .i64 0, .int .i64 0] 91) = w1 at *
  have HJ := hidden (J.later HX.out.bel)
  obtain ⟨a0, a1, a2, b0, b1, f0, f1⟩ := HX.out.cells
  go_upto_region 2 with (first | (go_at_call 49; (with_reducible refine (Hc1.out _ HJ.out).mono ?_); rintro e w2 ⟨rfl, hb2⟩; replace HX := hidden (HX.out.call hb2); replace HJ := hidden (HJ.out.later hb2); clear a0 a1 a2 b0 b1 f0 f1; obtain ⟨a0, a1, a2, b0, b1, f0, f1⟩ := HX.out.cells; clear hb2) | fail)
  replace HX := hidden (HX.out.new (0) (0))
  replace HJ := hidden (HJ.out.later ((Below.refl _ _).alloc (Nat.le_refl _) (.cells #[.int .i64 (0), .int .i64 (0)] 91)))
  clear a0 a1 a2 b0 b1 f0 f1
  change Code.wp _ _ _ _ (w2.alloc (.cells #[.int .i64 (0), .int .i64 (0)] 91))
  generalize w2.alloc (.cells #[.int .i64 (0), .int .i64 (0)] 91) = w3 at *
  generalize w2.heap.size = H3 at *
  obtain ⟨a0, a1, a2, b0, b1, f0, f1⟩ := HX.out.b2.cells
  obtain ⟨h0, h1, g0, g1⟩ := HX.out.cells
  go_upto_region 4 with (first | (go_at_call 66; (with_reducible refine (ends_good _).mono ?_); rintro e w4 ⟨rfl, hb4⟩; replace HX := hidden (HX.out.call hb4); replace HJ := hidden (HJ.out.later hb4); clear a0 a1 a2 b0 b1 f0 f1; clear h0 h1 g0 g1; obtain ⟨a0, a1, a2, b0, b1, f0, f1⟩ := HX.out.b2.cells; obtain ⟨h0, h1, g0, g1⟩ := HX.out.cells; clear hb4) | fail)
  go_upto_region 8 with fail
  go_upto_region 9 with (first | (go_at_call 90; (with_reducible refine (Hc3.out _ HJ.out).mono ?_); rintro e w5 ⟨rfl, hb5⟩; replace HX := hidden (HX.out.call hb5); replace HJ := hidden (HJ.out.later hb5); clear a0 a1 a2 b0 b1 f0 f1; clear h0 h1 g0 g1; obtain ⟨a0, a1, a2, b0, b1, f0, f1⟩ := HX.out.b2.cells; obtain ⟨h0, h1, g0, g1⟩ := HX.out.cells; clear hb5) | fail)
  replace HX := hidden (HX.out.put (0) (0))
  replace HJ := hidden (J.later HX.out.b2.bel)
  clear a0 a1 a2 b0 b1 f0 f1 h0 h1 g0 g1
  generalize (w5.setCell ⟨H3, 0, none⟩ (.int .i64 (0))).setCell ⟨H3, 1, none⟩ (.int .i64 (0)) = w6 at *
  obtain ⟨a0, a1, a2, b0, b1, f0, f1⟩ := HX.out.b2.cells
  obtain ⟨h0, h1, g0, g1⟩ := HX.out.cells
  go_upto_region 11 with (first | (go_at_call 66; (with_reducible refine (ends_good _).mono ?_); rintro e w7 ⟨rfl, hb7⟩; replace HX := hidden (HX.out.call hb7); replace HJ := hidden (HJ.out.later hb7); clear a0 a1 a2 b0 b1 f0 f1; clear h0 h1 g0 g1; obtain ⟨a0, a1, a2, b0, b1, f0, f1⟩ := HX.out.b2.cells; obtain ⟨h0, h1, g0, g1⟩ := HX.out.cells; clear hb7) | fail)
  have HF := hidden (HX.out.b2.fin (0) (0))
  all_goals
    go_wp2
    obtain ⟨d0, d1, _⟩ := HF.out.1.cells
    refine bodyPost_ret (v := .tuple #[.int .u32 (x : Nat), .agg #[.int .i64 (0), .int .i64 (0)]]) (by simp [results, Try.results79, go_sem, d0, d1]) rfl ⟨?_, HF.out.2⟩
    rfl
theorem sho_1f (j : Jb) (m pb po pc : Nat) (w : World) (J : JAt w j m (some ⟨pb, po, none⟩)) (a b x : Nat) (s e : Int) (hne : ¬ (s = 0 ∧ e = 0)) (c1 : ∀ w, JAt w j m (some ⟨pb, po, none⟩) → Calls Try.prog 49 #[.agg #[.pointer (some ⟨m, 0, none⟩), .slice (some ⟨pb, po, none⟩) 9 pc, .int .u32 j.att], .int .u32 (a : Nat), .int .u32 (b : Nat)] w fun r w' => r = .returned (.tuple #[.int .u32 (x : Nat), .agg #[.int .i64 s, .int .i64 e]]) ∧ Below w.heap.size w w') :
    Calls Try.prog 79 #[.agg #[.pointer (some ⟨m, 0, none⟩), .slice (some ⟨pb, po, none⟩) 9 pc, .int .u32 j.att], .int .u32 (a : Nat), .int .u32 (b : Nat), .bool false] w fun r w' => r = .returned (.tuple #[.int .u32 0, .agg #[.int .i64 s, .int .i64 e]]) ∧ Below w.heap.size w w' := by
  have Hc1 := hidden c1
  clear c1
  have HX := hidden (Bx2.start w m (some ⟨pb, po, none⟩) pc j.att)
  go_enter Try.func79, Try.ntmps79
  go_upto_region 1 with fail
  generalize (w.alloc (.cells #[.pointer (some ⟨m, 0, none⟩), .slice (some ⟨pb, po, none⟩) 9 pc, .int .u32 j.att] 94)).alloc (.cells #[.int .i64 0, .int .i64 0] 91) = w1 at *
  have HJ := hidden (J.later HX.out.bel)
  obtain ⟨a0, a1, a2, b0, b1, f0, f1⟩ := HX.out.cells
  go_upto_region 2 with (first | (go_at_call 49; (with_reducible refine (Hc1.out _ HJ.out).mono ?_); rintro e w2 ⟨rfl, hb2⟩; replace HX := hidden (HX.out.call hb2); replace HJ := hidden (HJ.out.later hb2); clear a0 a1 a2 b0 b1 f0 f1; obtain ⟨a0, a1, a2, b0, b1, f0, f1⟩ := HX.out.cells; clear hb2) | fail)
  replace HX := hidden (HX.out.new (s) (e))
  replace HJ := hidden (HJ.out.later ((Below.refl _ _).alloc (Nat.le_refl _) (.cells #[.int .i64 (s), .int .i64 (e)] 91)))
  clear a0 a1 a2 b0 b1 f0 f1
  change Code.wp _ _ _ _ (w2.alloc (.cells #[.int .i64 (s), .int .i64 (e)] 91))
  generalize w2.alloc (.cells #[.int .i64 (s), .int .i64 (e)] 91) = w3 at *
  generalize w2.heap.size = H3 at *
  obtain ⟨a0, a1, a2, b0, b1, f0, f1⟩ := HX.out.b2.cells
  obtain ⟨h0, h1, g0, g1⟩ := HX.out.cells
  go_upto_region 3 with (first | (go_at_call 66; (with_reducible refine (ends_bad hne _).mono ?_); rintro e w4 ⟨rfl, hb4⟩; replace HX := hidden (HX.out.call hb4); replace HJ := hidden (HJ.out.later hb4); clear a0 a1 a2 b0 b1 f0 f1; clear h0 h1 g0 g1; obtain ⟨a0, a1, a2, b0, b1, f0, f1⟩ := HX.out.b2.cells; obtain ⟨h0, h1, g0, g1⟩ := HX.out.cells; clear hb4) | fail)
  have HXD := hidden (HX.out.call ((Below.refl _ _).drew))
  have HF := hidden (HX.out.b2.find (s) (e))
  clear HXD
  (first | (go_region_with (fail)) | fail)
  all_goals
    go_wp2
    generalize ((w4.setCell ⟨w.heap.size + 1, 0, none⟩ (.int .i64 (s))).setCell ⟨w.heap.size + 1, 1, none⟩ (.int .i64 (e))).drew = w98 at *
    obtain ⟨d0, d1, _⟩ := HF.out.1.cells
    refine bodyPost_ret (v := .tuple #[.int .u32 0, .agg #[.int .i64 (s), .int .i64 (e)]]) (by simp [results, Try.results79, go_sem, d0, d1]) rfl ⟨?_, HF.out.2⟩
    rfl
theorem sho_2f (j : Jb) (m pb po pc : Nat) (w : World) (J : JAt w j m (some ⟨pb, po, none⟩)) (a b : Nat) (c1 : ∀ w, JAt w j m (some ⟨pb, po, none⟩) → Calls Try.prog 49 #[.agg #[.pointer (some ⟨m, 0, none⟩), .slice (some ⟨pb, po, none⟩) 9 pc, .int .u32 j.att], .int .u32 (a : Nat), .int .u32 (b : Nat)] w fun r w' => r = .returned (.tuple #[.int .u32 0, .agg #[.int .i64 0, .int .i64 0]]) ∧ Below w.heap.size w w') :
    Calls Try.prog 79 #[.agg #[.pointer (some ⟨m, 0, none⟩), .slice (some ⟨pb, po, none⟩) 9 pc, .int .u32 j.att], .int .u32 (a : Nat), .int .u32 (b : Nat), .bool false] w fun r w' => r = .returned (.tuple #[.int .u32 0, .agg #[.int .i64 0, .int .i64 0]]) ∧ Below w.heap.size w w' := by
  have Hc1 := hidden c1
  clear c1
  have HX := hidden (Bx2.start w m (some ⟨pb, po, none⟩) pc j.att)
  go_enter Try.func79, Try.ntmps79
  go_upto_region 1 with fail
  generalize (w.alloc (.cells #[.pointer (some ⟨m, 0, none⟩), .slice (some ⟨pb, po, none⟩) 9 pc, .int .u32 j.att] 94)).alloc (.cells #[.int .i64 0, .int .i64 0] 91) = w1 at *
  have HJ := hidden (J.later HX.out.bel)
  obtain ⟨a0, a1, a2, b0, b1, f0, f1⟩ := HX.out.cells
  go_upto_region 2 with (first | (go_at_call 49; (with_reducible refine (Hc1.out _ HJ.out).mono ?_); rintro e w2 ⟨rfl, hb2⟩; replace HX := hidden (HX.out.call hb2); replace HJ := hidden (HJ.out.later hb2); clear a0 a1 a2 b0 b1 f0 f1; obtain ⟨a0, a1, a2, b0, b1, f0, f1⟩ := HX.out.cells; clear hb2) | fail)
  replace HX := hidden (HX.out.new (0) (0))
  replace HJ := hidden (HJ.out.later ((Below.refl _ _).alloc (Nat.le_refl _) (.cells #[.int .i64 (0), .int .i64 (0)] 91)))
  clear a0 a1 a2 b0 b1 f0 f1
  change Code.wp _ _ _ _ (w2.alloc (.cells #[.int .i64 (0), .int .i64 (0)] 91))
  generalize w2.alloc (.cells #[.int .i64 (0), .int .i64 (0)] 91) = w3 at *
  generalize w2.heap.size = H3 at *
  obtain ⟨a0, a1, a2, b0, b1, f0, f1⟩ := HX.out.b2.cells
  obtain ⟨h0, h1, g0, g1⟩ := HX.out.cells
  go_upto_region 3 with (first | (go_at_call 66; (with_reducible refine (ends_good _).mono ?_); rintro e w4 ⟨rfl, hb4⟩; replace HX := hidden (HX.out.call hb4); replace HJ := hidden (HJ.out.later hb4); clear a0 a1 a2 b0 b1 f0 f1; clear h0 h1 g0 g1; obtain ⟨a0, a1, a2, b0, b1, f0, f1⟩ := HX.out.b2.cells; obtain ⟨h0, h1, g0, g1⟩ := HX.out.cells; clear hb4) | fail)
  have HXD := hidden (HX.out.call ((Below.refl _ _).drew))
  have HF := hidden (HX.out.b2.find (0) (0))
  clear HXD
  (first | (go_region_with (fail)) | fail)
  all_goals
    go_wp2
    generalize ((w4.setCell ⟨w.heap.size + 1, 0, none⟩ (.int .i64 (0))).setCell ⟨w.heap.size + 1, 1, none⟩ (.int .i64 (0))).drew = w98 at *
    obtain ⟨d0, d1, _⟩ := HF.out.1.cells
    refine bodyPost_ret (v := .tuple #[.int .u32 0, .agg #[.int .i64 (0), .int .i64 (0)]]) (by simp [results, Try.results79, go_sem, d0, d1]) rfl ⟨?_, HF.out.2⟩
    rfl
theorem sho_3f (j : Jb) (m pb po pc : Nat) (w : World) (J : JAt w j m (some ⟨pb, po, none⟩)) (a b x : Nat) (s e : Int) (hx : ¬ x = 0) (hne : ¬ (s = 0 ∧ e = 0)) (c1 : ∀ w, JAt w j m (some ⟨pb, po, none⟩) → Calls Try.prog 49 #[.agg #[.pointer (some ⟨m, 0, none⟩), .slice (some ⟨pb, po, none⟩) 9 pc, .int .u32 j.att], .int .u32 (a : Nat), .int .u32 (b : Nat)] w fun r w' => r = .returned (.tuple #[.int .u32 (x : Nat), .agg #[.int .i64 0, .int .i64 0]]) ∧ Below w.heap.size w w') (c2 : ∀ w, JAt w j m (some ⟨pb, po, none⟩) → Calls Try.prog 89 #[.agg #[.pointer (some ⟨m, 0, none⟩), .slice (some ⟨pb, po, none⟩) 9 pc, .int .u32 j.att], .int .u32 (a : Nat), .int .u32 (b : Nat)] w fun r w' => r = .returned (.tuple #[.bool false, .agg #[.int .i64 0, .int .i64 0]]) ∧ Below w.heap.size w w') (c3 : ∀ w, JAt w j m (some ⟨pb, po, none⟩) → Calls Try.prog 90 #[.agg #[.pointer (some ⟨m, 0, none⟩), .slice (some ⟨pb, po, none⟩) 9 pc, .int .u32 j.att], .int .u32 (a : Nat), .int .u32 (x : Nat)] w fun r w' => r = .returned (.tuple #[.bool false, .agg #[.int .i64 s, .int .i64 e]]) ∧ Below w.heap.size w w') :
    Calls Try.prog 79 #[.agg #[.pointer (some ⟨m, 0, none⟩), .slice (some ⟨pb, po, none⟩) 9 pc, .int .u32 j.att], .int .u32 (a : Nat), .int .u32 (b : Nat), .bool false] w fun r w' => r = .returned (.tuple #[.int .u32 0, .agg #[.int .i64 s, .int .i64 e]]) ∧ Below w.heap.size w w' := by
  have Hc1 := hidden c1
  have Hc2 := hidden c2
  have Hc3 := hidden c3
  have q : ((x : Int) == 0) = false := by rw [beq_eq_false_iff_ne]; omega
  clear hx
  clear c1 c2 c3
  have HX := hidden (Bx2.start w m (some ⟨pb, po, none⟩) pc j.att)
  go_enter Try.func79, Try.ntmps79
  go_upto_region 1 with fail
  generalize (w.alloc (.cells #[.pointer (some ⟨m, 0, none⟩), .slice (some ⟨pb, po, none⟩) 9 pc, .int .u32 j.att] 94)).alloc (.cells #[.int .i64 0, .int .i64 0] 91) = w1 at *
  have HJ := hidden (J.later HX.out.bel)
  obtain ⟨a0, a1, a2, b0, b1, f0, f1⟩ := HX.out.cells
  go_upto_region 2 with (first | (go_at_call 49; (with_reducible refine (Hc1.out _ HJ.out).mono ?_); rintro e w2 ⟨rfl, hb2⟩; replace HX := hidden (HX.out.call hb2); replace HJ := hidden (HJ.out.later hb2); clear a0 a1 a2 b0 b1 f0 f1; obtain ⟨a0, a1, a2, b0, b1, f0, f1⟩ := HX.out.cells; clear hb2) | fail)
  replace HX := hidden (HX.out.new (0) (0))
  replace HJ := hidden (HJ.out.later ((Below.refl _ _).alloc (Nat.le_refl _) (.cells #[.int .i64 (0), .int .i64 (0)] 91)))
  clear a0 a1 a2 b0 b1 f0 f1
  change Code.wp _ _ _ _ (w2.alloc (.cells #[.int .i64 (0), .int .i64 (0)] 91))
  generalize w2.alloc (.cells #[.int .i64 (0), .int .i64 (0)] 91) = w3 at *
  generalize w2.heap.size = H3 at *
  obtain ⟨a0, a1, a2, b0, b1, f0, f1⟩ := HX.out.b2.cells
  obtain ⟨h0, h1, g0, g1⟩ := HX.out.cells
  go_upto_region 4 with (first | (go_at_call 66; (with_reducible refine (ends_good _).mono ?_); rintro e w4 ⟨rfl, hb4⟩; replace HX := hidden (HX.out.call hb4); replace HJ := hidden (HJ.out.later hb4); clear a0 a1 a2 b0 b1 f0 f1; clear h0 h1 g0 g1; obtain ⟨a0, a1, a2, b0, b1, f0, f1⟩ := HX.out.b2.cells; obtain ⟨h0, h1, g0, g1⟩ := HX.out.cells; clear hb4) | fail)
  go_upto_region 5 with fail
  go_upto_region 6 with (first | (go_at_call 89; (with_reducible refine (Hc2.out _ HJ.out).mono ?_); rintro e w5 ⟨rfl, hb5⟩; replace HX := hidden (HX.out.call hb5); replace HJ := hidden (HJ.out.later hb5); clear a0 a1 a2 b0 b1 f0 f1; clear h0 h1 g0 g1; obtain ⟨a0, a1, a2, b0, b1, f0, f1⟩ := HX.out.b2.cells; obtain ⟨h0, h1, g0, g1⟩ := HX.out.cells; clear hb5) | fail)
  have HY := hidden (HX.out.call ((Below.refl _ _).alloc (Nat.le_refl _) (.cells #[.int .i64 (0), .int .i64 (0)] 91)))
  replace HX := hidden (HX.out.b2.new (0) (0))
  replace HJ := hidden (HJ.out.later ((Below.refl _ _).alloc (Nat.le_refl _) (.cells #[.int .i64 (0), .int .i64 (0)] 91)))
  clear a0 a1 a2 b0 b1 f0 f1 h0 h1 g0 g1
  change Code.wp _ _ _ _ (w5.alloc (.cells #[.int .i64 (0), .int .i64 (0)] 91))
  generalize w5.alloc (.cells #[.int .i64 (0), .int .i64 (0)] 91) = w6 at *
  generalize w5.heap.size = H6 at *
  obtain ⟨a0, a1, a2, b0, b1, f0, f1⟩ := HX.out.b2.cells
  obtain ⟨h0, h1, g0, g1⟩ := HX.out.cells
  go_upto_region 8 with (first | (go_at_call 66; (with_reducible refine (ends_good _).mono ?_); rintro e w7 ⟨rfl, hb7⟩; replace HY := hidden (HY.out.call hb7); replace HX := hidden (HX.out.call hb7); replace HJ := hidden (HJ.out.later hb7); clear a0 a1 a2 b0 b1 f0 f1; clear h0 h1 g0 g1; obtain ⟨a0, a1, a2, b0, b1, f0, f1⟩ := HX.out.b2.cells; obtain ⟨h0, h1, g0, g1⟩ := HX.out.cells; clear hb7) | fail)
  replace HX := HY
  clear HY a0 a1 a2 b0 b1 f0 f1 h0 h1 g0 g1
  obtain ⟨a0, a1, a2, b0, b1, f0, f1⟩ := HX.out.b2.cells
  obtain ⟨h0, h1, g0, g1⟩ := HX.out.cells
  go_upto_region 9 with (first | (go_at_call 90; (with_reducible refine (Hc3.out _ HJ.out).mono ?_); rintro e w8 ⟨rfl, hb8⟩; replace HX := hidden (HX.out.call hb8); replace HJ := hidden (HJ.out.later hb8); clear a0 a1 a2 b0 b1 f0 f1; clear h0 h1 g0 g1; obtain ⟨a0, a1, a2, b0, b1, f0, f1⟩ := HX.out.b2.cells; obtain ⟨h0, h1, g0, g1⟩ := HX.out.cells; clear hb8) | fail)
  replace HX := hidden (HX.out.put (s) (e))
  replace HJ := hidden (J.later HX.out.b2.bel)
  clear a0 a1 a2 b0 b1 f0 f1 h0 h1 g0 g1
  generalize (w8.setCell ⟨H3, 0, none⟩ (.int .i64 (s))).setCell ⟨H3, 1, none⟩ (.int .i64 (e)) = w9 at *
  obtain ⟨a0, a1, a2, b0, b1, f0, f1⟩ := HX.out.b2.cells
  obtain ⟨h0, h1, g0, g1⟩ := HX.out.cells
  go_upto_region 10 with (first | (go_at_call 66; (with_reducible refine (ends_bad hne _).mono ?_); rintro e w10 ⟨rfl, hb10⟩; replace HX := hidden (HX.out.call hb10); replace HJ := hidden (HJ.out.later hb10); clear a0 a1 a2 b0 b1 f0 f1; clear h0 h1 g0 g1; obtain ⟨a0, a1, a2, b0, b1, f0, f1⟩ := HX.out.b2.cells; obtain ⟨h0, h1, g0, g1⟩ := HX.out.cells; clear hb10) | fail)
  have HXD := hidden (HX.out.call ((Below.refl _ _).drew))
  have HF := hidden (HX.out.b2.find (s) (e))
  clear HXD
  (first | (go_region_with (fail)) | fail)
  all_goals
    go_wp2
    generalize ((w10.setCell ⟨w.heap.size + 1, 0, none⟩ (.int .i64 (s))).setCell ⟨w.heap.size + 1, 1, none⟩ (.int .i64 (e))).drew = w98 at *
    obtain ⟨d0, d1, _⟩ := HF.out.1.cells
    refine bodyPost_ret (v := .tuple #[.int .u32 0, .agg #[.int .i64 (s), .int .i64 (e)]]) (by simp [results, Try.results79, go_sem, d0, d1]) rfl ⟨?_, HF.out.2⟩
    rfl
theorem sho_4f (j : Jb) (m pb po pc : Nat) (w : World) (J : JAt w j m (some ⟨pb, po, none⟩)) (a b x : Nat) (hx : ¬ x = 0) (c1 : ∀ w, JAt w j m (some ⟨pb, po, none⟩) → Calls Try.prog 49 #[.agg #[.pointer (some ⟨m, 0, none⟩), .slice (some ⟨pb, po, none⟩) 9 pc, .int .u32 j.att], .int .u32 (a : Nat), .int .u32 (b : Nat)] w fun r w' => r = .returned (.tuple #[.int .u32 (x : Nat), .agg #[.int .i64 0, .int .i64 0]]) ∧ Below w.heap.size w w') (c2 : ∀ w, JAt w j m (some ⟨pb, po, none⟩) → Calls Try.prog 89 #[.agg #[.pointer (some ⟨m, 0, none⟩), .slice (some ⟨pb, po, none⟩) 9 pc, .int .u32 j.att], .int .u32 (a : Nat), .int .u32 (b : Nat)] w fun r w' => r = .returned (.tuple #[.bool false, .agg #[.int .i64 0, .int .i64 0]]) ∧ Below w.heap.size w w') (c3 : ∀ w, JAt w j m (some ⟨pb, po, none⟩) → Calls Try.prog 90 #[.agg #[.pointer (some ⟨m, 0, none⟩), .slice (some ⟨pb, po, none⟩) 9 pc, .int .u32 j.att], .int .u32 (a : Nat), .int .u32 (x : Nat)] w fun r w' => r = .returned (.tuple #[.bool true, .agg #[.int .i64 0, .int .i64 0]]) ∧ Below w.heap.size w w') :
    Calls Try.prog 79 #[.agg #[.pointer (some ⟨m, 0, none⟩), .slice (some ⟨pb, po, none⟩) 9 pc, .int .u32 j.att], .int .u32 (a : Nat), .int .u32 (b : Nat), .bool false] w fun r w' => r = .returned (.tuple #[.int .u32 0, .agg #[.int .i64 0, .int .i64 0]]) ∧ Below w.heap.size w w' := by
  have Hc1 := hidden c1
  have Hc2 := hidden c2
  have Hc3 := hidden c3
  have q : ((x : Int) == 0) = false := by rw [beq_eq_false_iff_ne]; omega
  clear hx
  clear c1 c2 c3
  have HX := hidden (Bx2.start w m (some ⟨pb, po, none⟩) pc j.att)
  go_enter Try.func79, Try.ntmps79
  go_upto_region 1 with fail
  generalize (w.alloc (.cells #[.pointer (some ⟨m, 0, none⟩), .slice (some ⟨pb, po, none⟩) 9 pc, .int .u32 j.att] 94)).alloc (.cells #[.int .i64 0, .int .i64 0] 91) = w1 at *
  have HJ := hidden (J.later HX.out.bel)
  obtain ⟨a0, a1, a2, b0, b1, f0, f1⟩ := HX.out.cells
  go_upto_region 2 with (first | (go_at_call 49; (with_reducible refine (Hc1.out _ HJ.out).mono ?_); rintro e w2 ⟨rfl, hb2⟩; replace HX := hidden (HX.out.call hb2); replace HJ := hidden (HJ.out.later hb2); clear a0 a1 a2 b0 b1 f0 f1; obtain ⟨a0, a1, a2, b0, b1, f0, f1⟩ := HX.out.cells; clear hb2) | fail)
  replace HX := hidden (HX.out.new (0) (0))
  replace HJ := hidden (HJ.out.later ((Below.refl _ _).alloc (Nat.le_refl _) (.cells #[.int .i64 (0), .int .i64 (0)] 91)))
  clear a0 a1 a2 b0 b1 f0 f1
  change Code.wp _ _ _ _ (w2.alloc (.cells #[.int .i64 (0), .int .i64 (0)] 91))
  generalize w2.alloc (.cells #[.int .i64 (0), .int .i64 (0)] 91) = w3 at *
  generalize w2.heap.size = H3 at *
  obtain ⟨a0, a1, a2, b0, b1, f0, f1⟩ := HX.out.b2.cells
  obtain ⟨h0, h1, g0, g1⟩ := HX.out.cells
  go_upto_region 4 with (first | (go_at_call 66; (with_reducible refine (ends_good _).mono ?_); rintro e w4 ⟨rfl, hb4⟩; replace HX := hidden (HX.out.call hb4); replace HJ := hidden (HJ.out.later hb4); clear a0 a1 a2 b0 b1 f0 f1; clear h0 h1 g0 g1; obtain ⟨a0, a1, a2, b0, b1, f0, f1⟩ := HX.out.b2.cells; obtain ⟨h0, h1, g0, g1⟩ := HX.out.cells; clear hb4) | fail)
  go_upto_region 5 with fail
  go_upto_region 6 with (first | (go_at_call 89; (with_reducible refine (Hc2.out _ HJ.out).mono ?_); rintro e w5 ⟨rfl, hb5⟩; replace HX := hidden (HX.out.call hb5); replace HJ := hidden (HJ.out.later hb5); clear a0 a1 a2 b0 b1 f0 f1; clear h0 h1 g0 g1; obtain ⟨a0, a1, a2, b0, b1, f0, f1⟩ := HX.out.b2.cells; obtain ⟨h0, h1, g0, g1⟩ := HX.out.cells; clear hb5) | fail)
  have HY := hidden (HX.out.call ((Below.refl _ _).alloc (Nat.le_refl _) (.cells #[.int .i64 (0), .int .i64 (0)] 91)))
  replace HX := hidden (HX.out.b2.new (0) (0))
  replace HJ := hidden (HJ.out.later ((Below.refl _ _).alloc (Nat.le_refl _) (.cells #[.int .i64 (0), .int .i64 (0)] 91)))
  clear a0 a1 a2 b0 b1 f0 f1 h0 h1 g0 g1
  change Code.wp _ _ _ _ (w5.alloc (.cells #[.int .i64 (0), .int .i64 (0)] 91))
  generalize w5.alloc (.cells #[.int .i64 (0), .int .i64 (0)] 91) = w6 at *
  generalize w5.heap.size = H6 at *
  obtain ⟨a0, a1, a2, b0, b1, f0, f1⟩ := HX.out.b2.cells
  obtain ⟨h0, h1, g0, g1⟩ := HX.out.cells
  go_upto_region 8 with (first | (go_at_call 66; (with_reducible refine (ends_good _).mono ?_); rintro e w7 ⟨rfl, hb7⟩; replace HY := hidden (HY.out.call hb7); replace HX := hidden (HX.out.call hb7); replace HJ := hidden (HJ.out.later hb7); clear a0 a1 a2 b0 b1 f0 f1; clear h0 h1 g0 g1; obtain ⟨a0, a1, a2, b0, b1, f0, f1⟩ := HX.out.b2.cells; obtain ⟨h0, h1, g0, g1⟩ := HX.out.cells; clear hb7) | fail)
  replace HX := HY
  clear HY a0 a1 a2 b0 b1 f0 f1 h0 h1 g0 g1
  obtain ⟨a0, a1, a2, b0, b1, f0, f1⟩ := HX.out.b2.cells
  obtain ⟨h0, h1, g0, g1⟩ := HX.out.cells
  go_upto_region 9 with (first | (go_at_call 90; (with_reducible refine (Hc3.out _ HJ.out).mono ?_); rintro e w8 ⟨rfl, hb8⟩; replace HX := hidden (HX.out.call hb8); replace HJ := hidden (HJ.out.later hb8); clear a0 a1 a2 b0 b1 f0 f1; clear h0 h1 g0 g1; obtain ⟨a0, a1, a2, b0, b1, f0, f1⟩ := HX.out.b2.cells; obtain ⟨h0, h1, g0, g1⟩ := HX.out.cells; clear hb8) | fail)
  replace HX := hidden (HX.out.put (0) (0))
  replace HJ := hidden (J.later HX.out.b2.bel)
  clear a0 a1 a2 b0 b1 f0 f1 h0 h1 g0 g1
  generalize (w8.setCell ⟨H3, 0, none⟩ (.int .i64 (0))).setCell ⟨H3, 1, none⟩ (.int .i64 (0)) = w9 at *
  obtain ⟨a0, a1, a2, b0, b1, f0, f1⟩ := HX.out.b2.cells
  obtain ⟨h0, h1, g0, g1⟩ := HX.out.cells
  go_upto_region 10 with (first | (go_at_call 66; (with_reducible refine (ends_good _).mono ?_); rintro e w10 ⟨rfl, hb10⟩; replace HX := hidden (HX.out.call hb10); replace HJ := hidden (HJ.out.later hb10); clear a0 a1 a2 b0 b1 f0 f1; clear h0 h1 g0 g1; obtain ⟨a0, a1, a2, b0, b1, f0, f1⟩ := HX.out.b2.cells; obtain ⟨h0, h1, g0, g1⟩ := HX.out.cells; clear hb10) | fail)
  have HXD := hidden (HX.out.call ((Below.refl _ _).drew))
  have HF := hidden (HX.out.b2.find (0) (0))
  clear HXD
  (first | (go_region_with (fail)) | fail)
  all_goals
    go_wp2
    generalize ((w10.setCell ⟨w.heap.size + 1, 0, none⟩ (.int .i64 (0))).setCell ⟨w.heap.size + 1, 1, none⟩ (.int .i64 (0))).drew = w98 at *
    obtain ⟨d0, d1, _⟩ := HF.out.1.cells
    refine bodyPost_ret (v := .tuple #[.int .u32 0, .agg #[.int .i64 (0), .int .i64 (0)]]) (by simp [results, Try.results79, go_sem, d0, d1]) rfl ⟨?_, HF.out.2⟩
    rfl
theorem sho_5f (j : Jb) (m pb po pc : Nat) (w : World) (J : JAt w j m (some ⟨pb, po, none⟩)) (a b x : Nat) (hx : ¬ x = 0) (c1 : ∀ w, JAt w j m (some ⟨pb, po, none⟩) → Calls Try.prog 49 #[.agg #[.pointer (some ⟨m, 0, none⟩), .slice (some ⟨pb, po, none⟩) 9 pc, .int .u32 j.att], .int .u32 (a : Nat), .int .u32 (b : Nat)] w fun r w' => r = .returned (.tuple #[.int .u32 (x : Nat), .agg #[.int .i64 0, .int .i64 0]]) ∧ Below w.heap.size w w') (c2 : ∀ w, JAt w j m (some ⟨pb, po, none⟩) → Calls Try.prog 89 #[.agg #[.pointer (some ⟨m, 0, none⟩), .slice (some ⟨pb, po, none⟩) 9 pc, .int .u32 j.att], .int .u32 (a : Nat), .int .u32 (b : Nat)] w fun r w' => r = .returned (.tuple #[.bool false, .agg #[.int .i64 0, .int .i64 0]]) ∧ Below w.heap.size w w') (c3 : ∀ w, JAt w j m (some ⟨pb, po, none⟩) → Calls Try.prog 90 #[.agg #[.pointer (some ⟨m, 0, none⟩), .slice (some ⟨pb, po, none⟩) 9 pc, .int .u32 j.att], .int .u32 (a : Nat), .int .u32 (x : Nat)] w fun r w' => r = .returned (.tuple #[.bool false, .agg #[.int .i64 0, .int .i64 0]]) ∧ Below w.heap.size w w') :
    Calls Try.prog 79 #[.agg #[.pointer (some ⟨m, 0, none⟩), .slice (some ⟨pb, po, none⟩) 9 pc, .int .u32 j.att], .int .u32 (a : Nat), .int .u32 (b : Nat), .bool false] w fun r w' => r = .returned (.tuple #[.int .u32 (x : Nat), .agg #[.int .i64 0, .int .i64 0]]) ∧ Below w.heap.size w w' := by
  have Hc1 := hidden c1
  have Hc2 := hidden c2
  have Hc3 := hidden c3
  have q : ((x : Int) == 0) = false := by rw [beq_eq_false_iff_ne]; omega
  clear hx
  clear c1 c2 c3
  have HX := hidden (Bx2.start w m (some ⟨pb, po, none⟩) pc j.att)
  go_enter Try.func79, Try.ntmps79
  go_upto_region 1 with fail
  generalize (w.alloc (.cells #[.pointer (some ⟨m, 0, none⟩), .slice (some ⟨pb, po, none⟩) 9 pc, .int .u32 j.att] 94)).alloc (.cells #[.int .i64 0, .int .i64 0] 91) = w1 at *
  have HJ := hidden (J.later HX.out.bel)
  obtain ⟨a0, a1, a2, b0, b1, f0, f1⟩ := HX.out.cells
  go_upto_region 2 with (first | (go_at_call 49; (with_reducible refine (Hc1.out _ HJ.out).mono ?_); rintro e w2 ⟨rfl, hb2⟩; replace HX := hidden (HX.out.call hb2); replace HJ := hidden (HJ.out.later hb2); clear a0 a1 a2 b0 b1 f0 f1; obtain ⟨a0, a1, a2, b0, b1, f0, f1⟩ := HX.out.cells; clear hb2) | fail)
  replace HX := hidden (HX.out.new (0) (0))
  replace HJ := hidden (HJ.out.later ((Below.refl _ _).alloc (Nat.le_refl _) (.cells #[.int .i64 (0), .int .i64 (0)] 91)))
  clear a0 a1 a2 b0 b1 f0 f1
  change Code.wp _ _ _ _ (w2.alloc (.cells #[.int .i64 (0), .int .i64 (0)] 91))
  generalize w2.alloc (.cells #[.int .i64 (0), .int .i64 (0)] 91) = w3 at *
  generalize w2.heap.size = H3 at *
  obtain ⟨a0, a1, a2, b0, b1, f0, f1⟩ := HX.out.b2.cells
  obtain ⟨h0, h1, g0, g1⟩ := HX.out.cells
  go_upto_region 4 with (first | (go_at_call 66; (with_reducible refine (ends_good _).mono ?_); rintro e w4 ⟨rfl, hb4⟩; replace HX := hidden (HX.out.call hb4); replace HJ := hidden (HJ.out.later hb4); clear a0 a1 a2 b0 b1 f0 f1; clear h0 h1 g0 g1; obtain ⟨a0, a1, a2, b0, b1, f0, f1⟩ := HX.out.b2.cells; obtain ⟨h0, h1, g0, g1⟩ := HX.out.cells; clear hb4) | fail)
  go_upto_region 5 with fail
  go_upto_region 6 with (first | (go_at_call 89; (with_reducible refine (Hc2.out _ HJ.out).mono ?_); rintro e w5 ⟨rfl, hb5⟩; replace HX := hidden (HX.out.call hb5); replace HJ := hidden (HJ.out.later hb5); clear a0 a1 a2 b0 b1 f0 f1; clear h0 h1 g0 g1; obtain ⟨a0, a1, a2, b0, b1, f0, f1⟩ := HX.out.b2.cells; obtain ⟨h0, h1, g0, g1⟩ := HX.out.cells; clear hb5) | fail)
  have HY := hidden (HX.out.call ((Below.refl _ _).alloc (Nat.le_refl _) (.cells #[.int .i64 (0), .int .i64 (0)] 91)))
  replace HX := hidden (HX.out.b2.new (0) (0))
  replace HJ := hidden (HJ.out.later ((Below.refl _ _).alloc (Nat.le_refl _) (.cells #[.int .i64 (0), .int .i64 (0)] 91)))
  clear a0 a1 a2 b0 b1 f0 f1 h0 h1 g0 g1
  change Code.wp _ _ _ _ (w5.alloc (.cells #[.int .i64 (0), .int .i64 (0)] 91))
  generalize w5.alloc (.cells #[.int .i64 (0), .int .i64 (0)] 91) = w6 at *
  generalize w5.heap.size = H6 at *
  obtain ⟨a0, a1, a2, b0, b1, f0, f1⟩ := HX.out.b2.cells
  obtain ⟨h0, h1, g0, g1⟩ := HX.out.cells
  go_upto_region 8 with (first | (go_at_call 66; (with_reducible refine (ends_good _).mono ?_); rintro e w7 ⟨rfl, hb7⟩; replace HY := hidden (HY.out.call hb7); replace HX := hidden (HX.out.call hb7); replace HJ := hidden (HJ.out.later hb7); clear a0 a1 a2 b0 b1 f0 f1; clear h0 h1 g0 g1; obtain ⟨a0, a1, a2, b0, b1, f0, f1⟩ := HX.out.b2.cells; obtain ⟨h0, h1, g0, g1⟩ := HX.out.cells; clear hb7) | fail)
  replace HX := HY
  clear HY a0 a1 a2 b0 b1 f0 f1 h0 h1 g0 g1
  obtain ⟨a0, a1, a2, b0, b1, f0, f1⟩ := HX.out.b2.cells
  obtain ⟨h0, h1, g0, g1⟩ := HX.out.cells
  go_upto_region 9 with (first | (go_at_call 90; (with_reducible refine (Hc3.out _ HJ.out).mono ?_); rintro e w8 ⟨rfl, hb8⟩; replace HX := hidden (HX.out.call hb8); replace HJ := hidden (HJ.out.later hb8); clear a0 a1 a2 b0 b1 f0 f1; clear h0 h1 g0 g1; obtain ⟨a0, a1, a2, b0, b1, f0, f1⟩ := HX.out.b2.cells; obtain ⟨h0, h1, g0, g1⟩ := HX.out.cells; clear hb8) | fail)
  replace HX := hidden (HX.out.put (0) (0))
  replace HJ := hidden (J.later HX.out.b2.bel)
  clear a0 a1 a2 b0 b1 f0 f1 h0 h1 g0 g1
  generalize (w8.setCell ⟨H3, 0, none⟩ (.int .i64 (0))).setCell ⟨H3, 1, none⟩ (.int .i64 (0)) = w9 at *
  obtain ⟨a0, a1, a2, b0, b1, f0, f1⟩ := HX.out.b2.cells
  obtain ⟨h0, h1, g0, g1⟩ := HX.out.cells
  go_upto_region 11 with (first | (go_at_call 66; (with_reducible refine (ends_good _).mono ?_); rintro e w10 ⟨rfl, hb10⟩; replace HX := hidden (HX.out.call hb10); replace HJ := hidden (HJ.out.later hb10); clear a0 a1 a2 b0 b1 f0 f1; clear h0 h1 g0 g1; obtain ⟨a0, a1, a2, b0, b1, f0, f1⟩ := HX.out.b2.cells; obtain ⟨h0, h1, g0, g1⟩ := HX.out.cells; clear hb10) | fail)
  have HF := hidden (HX.out.b2.fin (0) (0))
  all_goals
    go_wp2
    obtain ⟨d0, d1, _⟩ := HF.out.1.cells
    refine bodyPost_ret (v := .tuple #[.int .u32 (x : Nat), .agg #[.int .i64 (0), .int .i64 (0)]]) (by simp [results, Try.results79, go_sem, d0, d1]) rfl ⟨?_, HF.out.2⟩
    rfl
theorem sho_6 (j : Jb) (m pb po pc : Nat) (w : World) (J : JAt w j m (some ⟨pb, po, none⟩)) (a b x : Nat) (hx : ¬ x = 0) (s e : Int) (hne : ¬ (s = 0 ∧ e = 0)) (c1 : ∀ w, JAt w j m (some ⟨pb, po, none⟩) → Calls Try.prog 49 #[.agg #[.pointer (some ⟨m, 0, none⟩), .slice (some ⟨pb, po, none⟩) 9 pc, .int .u32 j.att], .int .u32 (a : Nat), .int .u32 (b : Nat)] w fun r w' => r = .returned (.tuple #[.int .u32 (x : Nat), .agg #[.int .i64 0, .int .i64 0]]) ∧ Below w.heap.size w w') (c2 : ∀ w, JAt w j m (some ⟨pb, po, none⟩) → Calls Try.prog 89 #[.agg #[.pointer (some ⟨m, 0, none⟩), .slice (some ⟨pb, po, none⟩) 9 pc, .int .u32 j.att], .int .u32 (a : Nat), .int .u32 (b : Nat)] w fun r w' => r = .returned (.tuple #[.bool false, .agg #[.int .i64 s, .int .i64 e]]) ∧ Below w.heap.size w w') :
    Calls Try.prog 79 #[.agg #[.pointer (some ⟨m, 0, none⟩), .slice (some ⟨pb, po, none⟩) 9 pc, .int .u32 j.att], .int .u32 (a : Nat), .int .u32 (b : Nat), .bool false] w fun r w' => r = .returned (.tuple #[.int .u32 0, .agg #[.int .i64 s, .int .i64 e]]) ∧ Below w.heap.size w w' := by
  have Hc1 := hidden c1
  have Hc2 := hidden c2
  have q : ((x : Int) == 0) = false := by rw [beq_eq_false_iff_ne]; omega
  clear hx
  clear c1 c2
  have HX := hidden (Bx2.start w m (some ⟨pb, po, none⟩) pc j.att)
  go_enter Try.func79, Try.ntmps79
  go_upto_region 1 with fail
  generalize (w.alloc (.cells #[.pointer (some ⟨m, 0, none⟩), .slice (some ⟨pb, po, none⟩) 9 pc, .int .u32 j.att] 94)).alloc (.cells #[.int .i64 0, .int .i64 0] 91) = w1 at *
  have HJ := hidden (J.later HX.out.bel)
  obtain ⟨a0, a1, a2, b0, b1, f0, f1⟩ := HX.out.cells
  go_upto_region 2 with (first | (go_at_call 49; (with_reducible refine (Hc1.out _ HJ.out).mono ?_); rintro e w2 ⟨rfl, hb2⟩; replace HX := hidden (HX.out.call hb2); replace HJ := hidden (HJ.out.later hb2); clear a0 a1 a2 b0 b1 f0 f1; obtain ⟨a0, a1, a2, b0, b1, f0, f1⟩ := HX.out.cells; clear hb2) | fail)
  replace HX := hidden (HX.out.new (0) (0))
  replace HJ := hidden (HJ.out.later ((Below.refl _ _).alloc (Nat.le_refl _) (.cells #[.int .i64 (0), .int .i64 (0)] 91)))
  clear a0 a1 a2 b0 b1 f0 f1
  change Code.wp _ _ _ _ (w2.alloc (.cells #[.int .i64 (0), .int .i64 (0)] 91))
  generalize w2.alloc (.cells #[.int .i64 (0), .int .i64 (0)] 91) = w3 at *
  generalize w2.heap.size = H3 at *
  obtain ⟨a0, a1, a2, b0, b1, f0, f1⟩ := HX.out.b2.cells
  obtain ⟨h0, h1, g0, g1⟩ := HX.out.cells
  go_upto_region 4 with (first | (go_at_call 66; (with_reducible refine (ends_good _).mono ?_); rintro e w4 ⟨rfl, hb4⟩; replace HX := hidden (HX.out.call hb4); replace HJ := hidden (HJ.out.later hb4); clear a0 a1 a2 b0 b1 f0 f1; clear h0 h1 g0 g1; obtain ⟨a0, a1, a2, b0, b1, f0, f1⟩ := HX.out.b2.cells; obtain ⟨h0, h1, g0, g1⟩ := HX.out.cells; clear hb4) | fail)
  go_upto_region 5 with fail
  go_upto_region 6 with (first | (go_at_call 89; (with_reducible refine (Hc2.out _ HJ.out).mono ?_); rintro e w5 ⟨rfl, hb5⟩; replace HX := hidden (HX.out.call hb5); replace HJ := hidden (HJ.out.later hb5); clear a0 a1 a2 b0 b1 f0 f1; clear h0 h1 g0 g1; obtain ⟨a0, a1, a2, b0, b1, f0, f1⟩ := HX.out.b2.cells; obtain ⟨h0, h1, g0, g1⟩ := HX.out.cells; clear hb5) | fail)
  replace HX := hidden (HX.out.b2.new (s) (e))
  replace HJ := hidden (HJ.out.later ((Below.refl _ _).alloc (Nat.le_refl _) (.cells #[.int .i64 (s), .int .i64 (e)] 91)))
  clear a0 a1 a2 b0 b1 f0 f1 h0 h1 g0 g1
  change Code.wp _ _ _ _ (w5.alloc (.cells #[.int .i64 (s), .int .i64 (e)] 91))
  generalize w5.alloc (.cells #[.int .i64 (s), .int .i64 (e)] 91) = w6 at *
  generalize w5.heap.size = H6 at *
  obtain ⟨a0, a1, a2, b0, b1, f0, f1⟩ := HX.out.b2.cells
  obtain ⟨h0, h1, g0, g1⟩ := HX.out.cells
  go_upto_region 7 with (first | (go_at_call 66; (with_reducible refine (ends_bad hne _).mono ?_); rintro e w7 ⟨rfl, hb7⟩; replace HX := hidden (HX.out.call hb7); replace HJ := hidden (HJ.out.later hb7); clear a0 a1 a2 b0 b1 f0 f1; clear h0 h1 g0 g1; obtain ⟨a0, a1, a2, b0, b1, f0, f1⟩ := HX.out.b2.cells; obtain ⟨h0, h1, g0, g1⟩ := HX.out.cells; clear hb7) | fail)
  have HXD := hidden (HX.out.call ((Below.refl _ _).drew))
  have HF := hidden (HX.out.b2.find (s) (e))
  clear HXD
  (first | (go_region_with (fail)) | fail)
  all_goals
    go_wp2
    generalize ((w7.setCell ⟨w.heap.size + 1, 0, none⟩ (.int .i64 (s))).setCell ⟨w.heap.size + 1, 1, none⟩ (.int .i64 (e))).drew = w98 at *
    obtain ⟨d0, d1, _⟩ := HF.out.1.cells
    refine bodyPost_ret (v := .tuple #[.int .u32 0, .agg #[.int .i64 (s), .int .i64 (e)]]) (by simp [results, Try.results79, go_sem, d0, d1]) rfl ⟨?_, HF.out.2⟩
    rfl
theorem sho_7 (j : Jb) (m pb po pc : Nat) (w : World) (J : JAt w j m (some ⟨pb, po, none⟩)) (a b x : Nat) (hx : ¬ x = 0) (c1 : ∀ w, JAt w j m (some ⟨pb, po, none⟩) → Calls Try.prog 49 #[.agg #[.pointer (some ⟨m, 0, none⟩), .slice (some ⟨pb, po, none⟩) 9 pc, .int .u32 j.att], .int .u32 (a : Nat), .int .u32 (b : Nat)] w fun r w' => r = .returned (.tuple #[.int .u32 (x : Nat), .agg #[.int .i64 0, .int .i64 0]]) ∧ Below w.heap.size w w') (c2 : ∀ w, JAt w j m (some ⟨pb, po, none⟩) → Calls Try.prog 89 #[.agg #[.pointer (some ⟨m, 0, none⟩), .slice (some ⟨pb, po, none⟩) 9 pc, .int .u32 j.att], .int .u32 (a : Nat), .int .u32 (b : Nat)] w fun r w' => r = .returned (.tuple #[.bool true, .agg #[.int .i64 0, .int .i64 0]]) ∧ Below w.heap.size w w') :
    Calls Try.prog 79 #[.agg #[.pointer (some ⟨m, 0, none⟩), .slice (some ⟨pb, po, none⟩) 9 pc, .int .u32 j.att], .int .u32 (a : Nat), .int .u32 (b : Nat), .bool false] w fun r w' => r = .returned (.tuple #[.int .u32 0, .agg #[.int .i64 0, .int .i64 0]]) ∧ Below w.heap.size w w' := by
  have Hc1 := hidden c1
  have Hc2 := hidden c2
  have q : ((x : Int) == 0) = false := by rw [beq_eq_false_iff_ne]; omega
  clear hx
  clear c1 c2
  have HX := hidden (Bx2.start w m (some ⟨pb, po, none⟩) pc j.att)
  go_enter Try.func79, Try.ntmps79
  go_upto_region 1 with fail
  generalize (w.alloc (.cells #[.pointer (some ⟨m, 0, none⟩), .slice (some ⟨pb, po, none⟩) 9 pc, .int .u32 j.att] 94)).alloc (.cells #[.int .i64 0, .int .i64 0] 91) = w1 at *
  have HJ := hidden (J.later HX.out.bel)
  obtain ⟨a0, a1, a2, b0, b1, f0, f1⟩ := HX.out.cells
  go_upto_region 2 with (first | (go_at_call 49; (with_reducible refine (Hc1.out _ HJ.out).mono ?_); rintro e w2 ⟨rfl, hb2⟩; replace HX := hidden (HX.out.call hb2); replace HJ := hidden (HJ.out.later hb2); clear a0 a1 a2 b0 b1 f0 f1; obtain ⟨a0, a1, a2, b0, b1, f0, f1⟩ := HX.out.cells; clear hb2) | fail)
  replace HX := hidden (HX.out.new (0) (0))
  replace HJ := hidden (HJ.out.later ((Below.refl _ _).alloc (Nat.le_refl _) (.cells #[.int .i64 (0), .int .i64 (0)] 91)))
  clear a0 a1 a2 b0 b1 f0 f1
  change Code.wp _ _ _ _ (w2.alloc (.cells #[.int .i64 (0), .int .i64 (0)] 91))
  generalize w2.alloc (.cells #[.int .i64 (0), .int .i64 (0)] 91) = w3 at *
  generalize w2.heap.size = H3 at *
  obtain ⟨a0, a1, a2, b0, b1, f0, f1⟩ := HX.out.b2.cells
  obtain ⟨h0, h1, g0, g1⟩ := HX.out.cells
  go_upto_region 4 with (first | (go_at_call 66; (with_reducible refine (ends_good _).mono ?_); rintro e w4 ⟨rfl, hb4⟩; replace HX := hidden (HX.out.call hb4); replace HJ := hidden (HJ.out.later hb4); clear a0 a1 a2 b0 b1 f0 f1; clear h0 h1 g0 g1; obtain ⟨a0, a1, a2, b0, b1, f0, f1⟩ := HX.out.b2.cells; obtain ⟨h0, h1, g0, g1⟩ := HX.out.cells; clear hb4) | fail)
  go_upto_region 5 with fail
  go_upto_region 6 with (first | (go_at_call 89; (with_reducible refine (Hc2.out _ HJ.out).mono ?_); rintro e w5 ⟨rfl, hb5⟩; replace HX := hidden (HX.out.call hb5); replace HJ := hidden (HJ.out.later hb5); clear a0 a1 a2 b0 b1 f0 f1; clear h0 h1 g0 g1; obtain ⟨a0, a1, a2, b0, b1, f0, f1⟩ := HX.out.b2.cells; obtain ⟨h0, h1, g0, g1⟩ := HX.out.cells; clear hb5) | fail)
  replace HX := hidden (HX.out.b2.new (0) (0))
  replace HJ := hidden (HJ.out.later ((Below.refl _ _).alloc (Nat.le_refl _) (.cells #[.int .i64 (0), .int .i64 (0)] 91)))
  clear a0 a1 a2 b0 b1 f0 f1 h0 h1 g0 g1
  change Code.wp _ _ _ _ (w5.alloc (.cells #[.int .i64 (0), .int .i64 (0)] 91))
  generalize w5.alloc (.cells #[.int .i64 (0), .int .i64 (0)] 91) = w6 at *
  generalize w5.heap.size = H6 at *
  obtain ⟨a0, a1, a2, b0, b1, f0, f1⟩ := HX.out.b2.cells
  obtain ⟨h0, h1, g0, g1⟩ := HX.out.cells
  go_upto_region 7 with (first | (go_at_call 66; (with_reducible refine (ends_good _).mono ?_); rintro e w7 ⟨rfl, hb7⟩; replace HX := hidden (HX.out.call hb7); replace HJ := hidden (HJ.out.later hb7); clear a0 a1 a2 b0 b1 f0 f1; clear h0 h1 g0 g1; obtain ⟨a0, a1, a2, b0, b1, f0, f1⟩ := HX.out.b2.cells; obtain ⟨h0, h1, g0, g1⟩ := HX.out.cells; clear hb7) | fail)
  have HXD := hidden (HX.out.call ((Below.refl _ _).drew))
  have HF := hidden (HX.out.b2.find (0) (0))
  clear HXD
  (first | (go_region_with (fail)) | fail)
  all_goals
    go_wp2
    generalize ((w7.setCell ⟨w.heap.size + 1, 0, none⟩ (.int .i64 (0))).setCell ⟨w.heap.size + 1, 1, none⟩ (.int .i64 (0))).drew = w98 at *
    obtain ⟨d0, d1, _⟩ := HF.out.1.cells
    refine bodyPost_ret (v := .tuple #[.int .u32 0, .agg #[.int .i64 (0), .int .i64 (0)]]) (by simp [results, Try.results79, go_sem, d0, d1]) rfl ⟨?_, HF.out.2⟩
    rfl
end Go.Proofs.Ytpgppdkbkkljnaa
namespace Go.Proofs.Ytpgppdkbkkljnaa
open Go.RowKit
set_option maxHeartbeats 1000000
set_option maxRecDepth 100000
set_option linter.unusedVariables false

theorem pro_1 (j : Jb) (m pb po pc : Nat) (w : World) (J : JAt w j m (some ⟨pb, po, none⟩)) (a b x : Nat) (s e : Int) (hb : b < 65536) (c1 : ∀ w, JAt w j m (some ⟨pb, po, none⟩) → Calls Try.prog 79 #[.agg #[.pointer (some ⟨m, 0, none⟩), .slice (some ⟨pb, po, none⟩) 9 pc, .int .u32 j.att], .int .u32 (a : Nat), .int .u32 (b : Nat), .bool false] w fun r w' => r = .returned (.tuple #[.int .u32 (x : Nat), .agg #[.int .i64 s, .int .i64 e]]) ∧ Below w.heap.size w w') :
    Calls Try.prog 68 #[.agg #[.pointer (some ⟨m, 0, none⟩), .slice (some ⟨pb, po, none⟩) 9 pc, .int .u32 j.att], .int .u32 (a : Nat), .int .u32 (b : Nat)] w fun r w' => r = .returned (.tuple #[.int .u32 (x : Nat), .agg #[.int .i64 s, .int .i64 e]]) ∧ Below w.heap.size w w' := by
  have Hc1 := hidden c1
  have l1 : (b : Int) < 65536 := by omega
  clear c1
  have HX := hidden (Bx2.start w m (some ⟨pb, po, none⟩) pc j.att)
  go_enter Try.func68, Try.ntmps68
  go_upto_region 1 with fail
  generalize (w.alloc (.cells #[.pointer (some ⟨m, 0, none⟩), .slice (some ⟨pb, po, none⟩) 9 pc, .int .u32 j.att] 94)).alloc (.cells #[.int .i64 0, .int .i64 0] 91) = w1 at *
  have HJ := hidden (J.later HX.out.bel)
  obtain ⟨a0, a1, a2, b0, b1, f0, f1⟩ := HX.out.cells
  go_wp2_with (first | (go_at_call 79; (with_reducible refine (Hc1.out _ HJ.out).mono ?_); rintro e w99 ⟨rfl, hb99⟩; have HX9 := hidden (HX.out.call hb99); have HF := hidden (HX9.out.fin (s) (e)); clear hb99; obtain ⟨a0, a1, a2, b0, b1, f0, f1⟩ := HX9.out.cells) | fail)
  all_goals
    go_wp2
    obtain ⟨d0, d1, _⟩ := HF.out.1.cells
    refine bodyPost_ret (v := .tuple #[.int .u32 (x : Nat), .agg #[.int .i64 (s), .int .i64 (e)]]) (by simp [results, Try.results68, go_sem, d0, d1]) rfl ⟨?_, HF.out.2⟩
    rfl
theorem pro_2 (j : Jb) (m pb po pc : Nat) (w : World) (J : JAt w j m (some ⟨pb, po, none⟩)) (a b AD c : Nat) (e : Int) (hb : ¬ b < 65536) (e1 : IntKind.u32.wrap ((j.p 0 : Int) + IntKind.u32.wrap (4 * (b : Int).tmod 65536)) = (AD : Int)) (hne : ¬ e = 0) (c1 : ∀ w, JAt w j m (some ⟨pb, po, none⟩) → Calls Try.prog 65 #[.agg #[.pointer (some ⟨m, 0, none⟩), .slice (some ⟨pb, po, none⟩) 9 pc, .int .u32 j.att], .int .u32 (AD : Nat), .int .i64 4] w fun r w' => r = .returned (.tuple #[.int .u32 (c : Nat), .agg #[.int .i64 0, .int .i64 e]]) ∧ Below w.heap.size w w') :
    Calls Try.prog 68 #[.agg #[.pointer (some ⟨m, 0, none⟩), .slice (some ⟨pb, po, none⟩) 9 pc, .int .u32 j.att], .int .u32 (a : Nat), .int .u32 (b : Nat)] w fun r w' => r = .returned (.tuple #[.int .u32 0, .agg #[.int .i64 0, .int .i64 e]]) ∧ Below w.heap.size w w' := by
  have Hc1 := hidden c1
  have l1 : ¬ (b : Int) < 65536 := by omega
  clear hb
  clear c1
  have HX := hidden (Bx2.start w m (some ⟨pb, po, none⟩) pc j.att)
  go_enter Try.func68, Try.ntmps68
  go_upto_region 1 with fail
  generalize (w.alloc (.cells #[.pointer (some ⟨m, 0, none⟩), .slice (some ⟨pb, po, none⟩) 9 pc, .int .u32 j.att] 94)).alloc (.cells #[.int .i64 0, .int .i64 0] 91) = w1 at *
  have HJ := hidden (J.later HX.out.bel)
  obtain ⟨a0, a1, a2, b0, b1, f0, f1⟩ := HX.out.cells
  go_upto_region 3 with fail
  go_cut [8, 9] from 11 (fun s8 s9 wx => ∃ HH, s8 = .int .u32 (c : Nat) ∧ s9 = .pointer (some ⟨HH, 0, none⟩) ∧ Hid (Bx3 w wx w.heap.size (w.heap.size + 1) m (some ⟨pb, po, none⟩) pc j.att HH 0 (e)))
  case first =>
    have p0 := HJ.out.cell 0 (by omega)
    rw [Nat.add_zero] at p0
    have HXD := hidden (HX.out.call ((Below.refl _ _).drew))
    have HJD := hidden (HJ.out.later ((Below.refl _ _).drew))
    have HXA := hidden ((HX.out.new 0 0).call ((Below.refl _ _).drew))
    have HJA := hidden ((HJ.out.later ((Below.refl _ _).alloc (Nat.le_refl _) (.cells #[.int .i64 0, .int .i64 0] 91))).later ((Below.refl _ _).drew))
    go_region_held3 (fun w' => w'.cell? ⟨w.heap.size, 0, none⟩ = some (.pointer (some ⟨m, 0, none⟩)) ∧ w'.cell? ⟨w.heap.size, 1, none⟩ = some (.slice (some ⟨pb, po, none⟩) 9 pc) ∧ w'.cell? ⟨w.heap.size, 2, none⟩ = some (.int .u32 j.att) ∧ w'.cell? ⟨pb, po, none⟩ = some (.int .u32 (j.p 0))) (first | (refine ⟨?_, ?_, ?_, ?_⟩ <;> with_reducible assumption) | go_keep) (first | (go_at_call 65; (with_reducible refine (Hc1.out _ HJD.out).mono ?_); rintro e w99 ⟨rfl, hb99⟩; have HXC := hidden (HXD.out.call hb99); have HXE := hidden (HXC.out.new 0 (e)); obtain ⟨a0, a1, a2, b0, b1, f0, f1⟩ := HXC.out.cells; have p0 := (HJD.out.later hb99).cell 0 (by omega); rw [Nat.add_zero] at p0; clear hb99; obtain ⟨k0, k1, k2, _, _, _, _⟩ := HXE.out.b2.cells; have kp := (J.later HXE.out.b2.bel).cell 0 (by omega); rw [Nat.add_zero] at kp) | (go_at_call 65; (with_reducible refine (Hc1.out _ HJA.out).mono ?_); rintro e w99 ⟨rfl, hb99⟩; have HXC := hidden (HXA.out.call hb99); have HXE := hidden (HXC.out.put 0 (e)); obtain ⟨a0, a1, a2, b0, b1, f0, f1⟩ := HXC.out.b2.cells; obtain ⟨h0, h1, g0, g1⟩ := HXC.out.cells; have p0 := (HJA.out.later hb99).cell 0 (by omega); rw [Nat.add_zero] at p0; clear hb99; obtain ⟨k0, k1, k2, _, _, _, _⟩ := HXE.out.b2.cells; have kp := (J.later HXE.out.b2.bel).cell 0 (by omega); rw [Nat.add_zero] at kp) | fail)
    all_goals (try go_wp2_with fail)
    all_goals go_meet
    all_goals exact ⟨_, rfl, rfl, HXE⟩
  case rest =>
    obtain ⟨HH, rfl, rfl, HX2⟩ := hcut
    clear HX HJ a0 a1 a2 b0 b1 f0 f1
    have HX := HX2
    clear HX2
    have HJ := hidden (J.later HX.out.b2.bel)
    generalize wc = w2 at *
    obtain ⟨a0, a1, a2, b0, b1, f0, f1⟩ := HX.out.b2.cells
    obtain ⟨h0, h1, g0, g1⟩ := HX.out.cells
    go_upto_region 5 with (first | (go_at_call 66; (with_reducible refine (ends_bad2 hne _).mono ?_); rintro e w3 ⟨rfl, hb3⟩; replace HX := hidden (HX.out.call hb3); replace HJ := hidden (HJ.out.later hb3); clear a0 a1 a2 b0 b1 f0 f1; clear h0 h1 g0 g1; obtain ⟨a0, a1, a2, b0, b1, f0, f1⟩ := HX.out.b2.cells; obtain ⟨h0, h1, g0, g1⟩ := HX.out.cells; clear hb3) | fail)
    have HXD := hidden (HX.out.call ((Below.refl _ _).drew))
    have HF := hidden (HX.out.b2.find (0) (e))
    clear HXD
    (first | (go_region_with (fail)) | fail)
    all_goals
      go_wp2
      generalize ((w3.setCell ⟨w.heap.size + 1, 0, none⟩ (.int .i64 (0))).setCell ⟨w.heap.size + 1, 1, none⟩ (.int .i64 (e))).drew = w98 at *
      obtain ⟨d0, d1, _⟩ := HF.out.1.cells
      refine bodyPost_ret (v := .tuple #[.int .u32 0, .agg #[.int .i64 (0), .int .i64 (e)]]) (by simp [results, Try.results68, go_sem, d0, d1]) rfl ⟨?_, HF.out.2⟩
      rfl
theorem pro_3 (j : Jb) (m pb po pc : Nat) (w : World) (J : JAt w j m (some ⟨pb, po, none⟩)) (a b AD c x : Nat) (s e : Int) (hb : ¬ b < 65536) (e1 : IntKind.u32.wrap ((j.p 0 : Int) + IntKind.u32.wrap (4 * (b : Int).tmod 65536)) = (AD : Int)) (hne : ¬ (s = 0 ∧ e = 0)) (c1 : ∀ w, JAt w j m (some ⟨pb, po, none⟩) → Calls Try.prog 65 #[.agg #[.pointer (some ⟨m, 0, none⟩), .slice (some ⟨pb, po, none⟩) 9 pc, .int .u32 j.att], .int .u32 (AD : Nat), .int .i64 4] w fun r w' => r = .returned (.tuple #[.int .u32 (c : Nat), .agg #[.int .i64 0, .int .i64 0]]) ∧ Below w.heap.size w w') (c2 : ∀ w, JAt w j m (some ⟨pb, po, none⟩) → Calls Try.prog 52 #[.agg #[.pointer (some ⟨m, 0, none⟩), .slice (some ⟨pb, po, none⟩) 9 pc, .int .u32 j.att], .int .u32 (a : Nat), .int .u32 (c : Nat)] w fun r w' => r = .returned (.tuple #[.int .u32 (x : Nat), .agg #[.int .i64 s, .int .i64 e]]) ∧ Below w.heap.size w w') :
    Calls Try.prog 68 #[.agg #[.pointer (some ⟨m, 0, none⟩), .slice (some ⟨pb, po, none⟩) 9 pc, .int .u32 j.att], .int .u32 (a : Nat), .int .u32 (b : Nat)] w fun r w' => r = .returned (.tuple #[.int .u32 0, .agg #[.int .i64 s, .int .i64 e]]) ∧ Below w.heap.size w w' := by
  have Hc1 := hidden c1
  have Hc2 := hidden c2
  have l1 : ¬ (b : Int) < 65536 := by omega
  clear hb
  clear c1 c2
  have HX := hidden (Bx2.start w m (some ⟨pb, po, none⟩) pc j.att)
  go_enter Try.func68, Try.ntmps68
  go_upto_region 1 with fail
  generalize (w.alloc (.cells #[.pointer (some ⟨m, 0, none⟩), .slice (some ⟨pb, po, none⟩) 9 pc, .int .u32 j.att] 94)).alloc (.cells #[.int .i64 0, .int .i64 0] 91) = w1 at *
  have HJ := hidden (J.later HX.out.bel)
  obtain ⟨a0, a1, a2, b0, b1, f0, f1⟩ := HX.out.cells
  go_upto_region 3 with fail
  go_cut [8, 9] from 11 (fun s8 s9 wx => ∃ HH, s8 = .int .u32 (c : Nat) ∧ s9 = .pointer (some ⟨HH, 0, none⟩) ∧ Hid (Bx3 w wx w.heap.size (w.heap.size + 1) m (some ⟨pb, po, none⟩) pc j.att HH 0 (0)))
  case first =>
    have p0 := HJ.out.cell 0 (by omega)
    rw [Nat.add_zero] at p0
    have HXD := hidden (HX.out.call ((Below.refl _ _).drew))
    have HJD := hidden (HJ.out.later ((Below.refl _ _).drew))
    have HXA := hidden ((HX.out.new 0 0).call ((Below.refl _ _).drew))
    have HJA := hidden ((HJ.out.later ((Below.refl _ _).alloc (Nat.le_refl _) (.cells #[.int .i64 0, .int .i64 0] 91))).later ((Below.refl _ _).drew))
    go_region_held3 (fun w' => w'.cell? ⟨w.heap.size, 0, none⟩ = some (.pointer (some ⟨m, 0, none⟩)) ∧ w'.cell? ⟨w.heap.size, 1, none⟩ = some (.slice (some ⟨pb, po, none⟩) 9 pc) ∧ w'.cell? ⟨w.heap.size, 2, none⟩ = some (.int .u32 j.att) ∧ w'.cell? ⟨pb, po, none⟩ = some (.int .u32 (j.p 0))) (first | (refine ⟨?_, ?_, ?_, ?_⟩ <;> with_reducible assumption) | go_keep) (first | (go_at_call 65; (with_reducible refine (Hc1.out _ HJD.out).mono ?_); rintro e w99 ⟨rfl, hb99⟩; have HXC := hidden (HXD.out.call hb99); have HXE := hidden (HXC.out.new 0 (0)); obtain ⟨a0, a1, a2, b0, b1, f0, f1⟩ := HXC.out.cells; have p0 := (HJD.out.later hb99).cell 0 (by omega); rw [Nat.add_zero] at p0; clear hb99; obtain ⟨k0, k1, k2, _, _, _, _⟩ := HXE.out.b2.cells; have kp := (J.later HXE.out.b2.bel).cell 0 (by omega); rw [Nat.add_zero] at kp) | (go_at_call 65; (with_reducible refine (Hc1.out _ HJA.out).mono ?_); rintro e w99 ⟨rfl, hb99⟩; have HXC := hidden (HXA.out.call hb99); have HXE := hidden (HXC.out.put 0 (0)); obtain ⟨a0, a1, a2, b0, b1, f0, f1⟩ := HXC.out.b2.cells; obtain ⟨h0, h1, g0, g1⟩ := HXC.out.cells; have p0 := (HJA.out.later hb99).cell 0 (by omega); rw [Nat.add_zero] at p0; clear hb99; obtain ⟨k0, k1, k2, _, _, _, _⟩ := HXE.out.b2.cells; have kp := (J.later HXE.out.b2.bel).cell 0 (by omega); rw [Nat.add_zero] at kp) | fail)
    all_goals (try go_wp2_with fail)
    all_goals go_meet
    all_goals exact ⟨_, rfl, rfl, HXE⟩
  case rest =>
    obtain ⟨HH, rfl, rfl, HX2⟩ := hcut
    clear HX HJ a0 a1 a2 b0 b1 f0 f1
    have HX := HX2
    clear HX2
    have HJ := hidden (J.later HX.out.b2.bel)
    generalize wc = w2 at *
    obtain ⟨a0, a1, a2, b0, b1, f0, f1⟩ := HX.out.b2.cells
    obtain ⟨h0, h1, g0, g1⟩ := HX.out.cells
    go_upto_region 6 with (first | (go_at_call 66; (with_reducible refine (ends_good _).mono ?_); rintro e w3 ⟨rfl, hb3⟩; replace HX := hidden (HX.out.call hb3); replace HJ := hidden (HJ.out.later hb3); clear a0 a1 a2 b0 b1 f0 f1; clear h0 h1 g0 g1; obtain ⟨a0, a1, a2, b0, b1, f0, f1⟩ := HX.out.b2.cells; obtain ⟨h0, h1, g0, g1⟩ := HX.out.cells; clear hb3) | fail)
    go_upto_region 7 with (first | (go_at_call 52; (with_reducible refine (Hc2.out _ HJ.out).mono ?_); rintro e w4 ⟨rfl, hb4⟩; replace HX := hidden (HX.out.call hb4); replace HJ := hidden (HJ.out.later hb4); clear a0 a1 a2 b0 b1 f0 f1; clear h0 h1 g0 g1; obtain ⟨a0, a1, a2, b0, b1, f0, f1⟩ := HX.out.b2.cells; obtain ⟨h0, h1, g0, g1⟩ := HX.out.cells; clear hb4) | fail)
    replace HX := hidden (HX.out.put (s) (e))
    replace HJ := hidden (J.later HX.out.b2.bel)
    clear a0 a1 a2 b0 b1 f0 f1 h0 h1 g0 g1
    generalize (w4.setCell ⟨HH, 0, none⟩ (.int .i64 (s))).setCell ⟨HH, 1, none⟩ (.int .i64 (e)) = w5 at *
    obtain ⟨a0, a1, a2, b0, b1, f0, f1⟩ := HX.out.b2.cells
    obtain ⟨h0, h1, g0, g1⟩ := HX.out.cells
    go_upto_region 8 with (first | (go_at_call 66; (with_reducible refine (ends_bad hne _).mono ?_); rintro e w6 ⟨rfl, hb6⟩; replace HX := hidden (HX.out.call hb6); replace HJ := hidden (HJ.out.later hb6); clear a0 a1 a2 b0 b1 f0 f1; clear h0 h1 g0 g1; obtain ⟨a0, a1, a2, b0, b1, f0, f1⟩ := HX.out.b2.cells; obtain ⟨h0, h1, g0, g1⟩ := HX.out.cells; clear hb6) | fail)
    have HXD := hidden (HX.out.call ((Below.refl _ _).drew))
    have HF := hidden (HX.out.b2.find (s) (e))
    clear HXD
    (first | (go_region_with (fail)) | fail)
    all_goals
      go_wp2
      generalize ((w6.setCell ⟨w.heap.size + 1, 0, none⟩ (.int .i64 (s))).setCell ⟨w.heap.size + 1, 1, none⟩ (.int .i64 (e))).drew = w98 at *
      obtain ⟨d0, d1, _⟩ := HF.out.1.cells
      refine bodyPost_ret (v := .tuple #[.int .u32 0, .agg #[.int .i64 (s), .int .i64 (e)]]) (by simp [results, Try.results68, go_sem, d0, d1]) rfl ⟨?_, HF.out.2⟩
      rfl
theorem pro_4 (j : Jb) (m pb po pc : Nat) (w : World) (J : JAt w j m (some ⟨pb, po, none⟩)) (a b AD c : Nat) (hb : ¬ b < 65536) (e1 : IntKind.u32.wrap ((j.p 0 : Int) + IntKind.u32.wrap (4 * (b : Int).tmod 65536)) = (AD : Int)) (c1 : ∀ w, JAt w j m (some ⟨pb, po, none⟩) → Calls Try.prog 65 #[.agg #[.pointer (some ⟨m, 0, none⟩), .slice (some ⟨pb, po, none⟩) 9 pc, .int .u32 j.att], .int .u32 (AD : Nat), .int .i64 4] w fun r w' => r = .returned (.tuple #[.int .u32 (c : Nat), .agg #[.int .i64 0, .int .i64 0]]) ∧ Below w.heap.size w w') (c2 : ∀ w, JAt w j m (some ⟨pb, po, none⟩) → Calls Try.prog 52 #[.agg #[.pointer (some ⟨m, 0, none⟩), .slice (some ⟨pb, po, none⟩) 9 pc, .int .u32 j.att], .int .u32 (a : Nat), .int .u32 (c : Nat)] w fun r w' => r = .returned (.tuple #[.int .u32 0, .agg #[.int .i64 0, .int .i64 0]]) ∧ Below w.heap.size w w') :
    Calls Try.prog 68 #[.agg #[.pointer (some ⟨m, 0, none⟩), .slice (some ⟨pb, po, none⟩) 9 pc, .int .u32 j.att], .int .u32 (a : Nat), .int .u32 (b : Nat)] w fun r w' => r = .returned (.tuple #[.int .u32 0, .agg #[.int .i64 0, .int .i64 0]]) ∧ Below w.heap.size w w' := by
  have Hc1 := hidden c1
  have Hc2 := hidden c2
  have l1 : ¬ (b : Int) < 65536 := by omega
  clear hb
  clear c1 c2
  have HX := hidden (Bx2.start w m (some ⟨pb, po, none⟩) pc j.att)
  go_enter Try.func68, Try.ntmps68
  go_upto_region 1 with fail
  generalize (w.alloc (.cells #[.pointer (some ⟨m, 0, none⟩), .slice (some ⟨pb, po, none⟩) 9 pc, .int .u32 j.att] 94)).alloc (.cells #[.int .i64 0, .int .i64 0] 91) = w1 at *
  have HJ := hidden (J.later HX.out.bel)
  obtain ⟨a0, a1, a2, b0, b1, f0, f1⟩ := HX.out.cells
  go_upto_region 3 with fail
  go_cut [8, 9] from 11 (fun s8 s9 wx => ∃ HH, s8 = .int .u32 (c : Nat) ∧ s9 = .pointer (some ⟨HH, 0, none⟩) ∧ Hid (Bx3 w wx w.heap.size (w.heap.size + 1) m (some ⟨pb, po, none⟩) pc j.att HH 0 (0)))
  case first =>
    have p0 := HJ.out.cell 0 (by omega)
    rw [Nat.add_zero] at p0
    have HXD := hidden (HX.out.call ((Below.refl _ _).drew))
    have HJD := hidden (HJ.out.later ((Below.refl _ _).drew))
    have HXA := hidden ((HX.out.new 0 0).call ((Below.refl _ _).drew))
    have HJA := hidden ((HJ.out.later ((Below.refl _ _).alloc (Nat.le_refl _) (.cells #[.int .i64 0, .int .i64 0] 91))).later ((Below.refl _ _).drew))
    go_region_held3 (fun w' => w'.cell? ⟨w.heap.size, 0, none⟩ = some (.pointer (some ⟨m, 0, none⟩)) ∧ w'.cell? ⟨w.heap.size, 1, none⟩ = some (.slice (some ⟨pb, po, none⟩) 9 pc) ∧ w'.cell? ⟨w.heap.size, 2, none⟩ = some (.int .u32 j.att) ∧ w'.cell? ⟨pb, po, none⟩ = some (.int .u32 (j.p 0))) (first | (refine ⟨?_, ?_, ?_, ?_⟩ <;> with_reducible assumption) | go_keep) (first | (go_at_call 65; (with_reducible refine (Hc1.out _ HJD.out).mono ?_); rintro e w99 ⟨rfl, hb99⟩; have HXC := hidden (HXD.out.call hb99); have HXE := hidden (HXC.out.new 0 (0)); obtain ⟨a0, a1, a2, b0, b1, f0, f1⟩ := HXC.out.cells; have p0 := (HJD.out.later hb99).cell 0 (by omega); rw [Nat.add_zero] at p0; clear hb99; obtain ⟨k0, k1, k2, _, _, _, _⟩ := HXE.out.b2.cells; have kp := (J.later HXE.out.b2.bel).cell 0 (by omega); rw [Nat.add_zero] at kp) | (go_at_call 65; (with_reducible refine (Hc1.out _ HJA.out).mono ?_); rintro e w99 ⟨rfl, hb99⟩; have HXC := hidden (HXA.out.call hb99); have HXE := hidden (HXC.out.put 0 (0)); obtain ⟨a0, a1, a2, b0, b1, f0, f1⟩ := HXC.out.b2.cells; obtain ⟨h0, h1, g0, g1⟩ := HXC.out.cells; have p0 := (HJA.out.later hb99).cell 0 (by omega); rw [Nat.add_zero] at p0; clear hb99; obtain ⟨k0, k1, k2, _, _, _, _⟩ := HXE.out.b2.cells; have kp := (J.later HXE.out.b2.bel).cell 0 (by omega); rw [Nat.add_zero] at kp) | fail)
    all_goals (try go_wp2_with fail)
    all_goals go_meet
    all_goals exact ⟨_, rfl, rfl, HXE⟩
  case rest =>
    obtain ⟨HH, rfl, rfl, HX2⟩ := hcut
    clear HX HJ a0 a1 a2 b0 b1 f0 f1
    have HX := HX2
    clear HX2
    have HJ := hidden (J.later HX.out.b2.bel)
    generalize wc = w2 at *
    obtain ⟨a0, a1, a2, b0, b1, f0, f1⟩ := HX.out.b2.cells
    obtain ⟨h0, h1, g0, g1⟩ := HX.out.cells
    go_upto_region 6 with (first | (go_at_call 66; (with_reducible refine (ends_good _).mono ?_); rintro e w3 ⟨rfl, hb3⟩; replace HX := hidden (HX.out.call hb3); replace HJ := hidden (HJ.out.later hb3); clear a0 a1 a2 b0 b1 f0 f1; clear h0 h1 g0 g1; obtain ⟨a0, a1, a2, b0, b1, f0, f1⟩ := HX.out.b2.cells; obtain ⟨h0, h1, g0, g1⟩ := HX.out.cells; clear hb3) | fail)
    go_upto_region 7 with (first | (go_at_call 52; (with_reducible refine (Hc2.out _ HJ.out).mono ?_); rintro e w4 ⟨rfl, hb4⟩; replace HX := hidden (HX.out.call hb4); replace HJ := hidden (HJ.out.later hb4); clear a0 a1 a2 b0 b1 f0 f1; clear h0 h1 g0 g1; obtain ⟨a0, a1, a2, b0, b1, f0, f1⟩ := HX.out.b2.cells; obtain ⟨h0, h1, g0, g1⟩ := HX.out.cells; clear hb4) | fail)
    replace HX := hidden (HX.out.put (0) (0))
    replace HJ := hidden (J.later HX.out.b2.bel)
    clear a0 a1 a2 b0 b1 f0 f1 h0 h1 g0 g1
    generalize (w4.setCell ⟨HH, 0, none⟩ (.int .i64 (0))).setCell ⟨HH, 1, none⟩ (.int .i64 (0)) = w5 at *
    obtain ⟨a0, a1, a2, b0, b1, f0, f1⟩ := HX.out.b2.cells
    obtain ⟨h0, h1, g0, g1⟩ := HX.out.cells
    go_upto_region 8 with (first | (go_at_call 66; (with_reducible refine (ends_good _).mono ?_); rintro e w6 ⟨rfl, hb6⟩; replace HX := hidden (HX.out.call hb6); replace HJ := hidden (HJ.out.later hb6); clear a0 a1 a2 b0 b1 f0 f1; clear h0 h1 g0 g1; obtain ⟨a0, a1, a2, b0, b1, f0, f1⟩ := HX.out.b2.cells; obtain ⟨h0, h1, g0, g1⟩ := HX.out.cells; clear hb6) | fail)
    have HXD := hidden (HX.out.call ((Below.refl _ _).drew))
    have HF := hidden (HX.out.b2.find (0) (0))
    clear HXD
    (first | (go_region_with (fail)) | fail)
    all_goals
      go_wp2
      generalize ((w6.setCell ⟨w.heap.size + 1, 0, none⟩ (.int .i64 (0))).setCell ⟨w.heap.size + 1, 1, none⟩ (.int .i64 (0))).drew = w98 at *
      obtain ⟨d0, d1, _⟩ := HF.out.1.cells
      refine bodyPost_ret (v := .tuple #[.int .u32 0, .agg #[.int .i64 (0), .int .i64 (0)]]) (by simp [results, Try.results68, go_sem, d0, d1]) rfl ⟨?_, HF.out.2⟩
      rfl
theorem pro_5 (j : Jb) (m pb po pc : Nat) (w : World) (J : JAt w j m (some ⟨pb, po, none⟩)) (a b AD c y x : Nat) (s e : Int) (hb : ¬ b < 65536) (e1 : IntKind.u32.wrap ((j.p 0 : Int) + IntKind.u32.wrap (4 * (b : Int).tmod 65536)) = (AD : Int)) (hy : ¬ y = 0) (hc : c = 0) (d : Nat) (ed : (b : Int) / 65536 = (d : Int)) (hd : d < 65536) (c1 : ∀ w, JAt w j m (some ⟨pb, po, none⟩) → Calls Try.prog 65 #[.agg #[.pointer (some ⟨m, 0, none⟩), .slice (some ⟨pb, po, none⟩) 9 pc, .int .u32 j.att], .int .u32 (AD : Nat), .int .i64 4] w fun r w' => r = .returned (.tuple #[.int .u32 (c : Nat), .agg #[.int .i64 0, .int .i64 0]]) ∧ Below w.heap.size w w') (c2 : ∀ w, JAt w j m (some ⟨pb, po, none⟩) → Calls Try.prog 52 #[.agg #[.pointer (some ⟨m, 0, none⟩), .slice (some ⟨pb, po, none⟩) 9 pc, .int .u32 j.att], .int .u32 (a : Nat), .int .u32 (c : Nat)] w fun r w' => r = .returned (.tuple #[.int .u32 (y : Nat), .agg #[.int .i64 0, .int .i64 0]]) ∧ Below w.heap.size w w') (c3 : ∀ w, JAt w j m (some ⟨pb, po, none⟩) → Calls Try.prog 79 #[.agg #[.pointer (some ⟨m, 0, none⟩), .slice (some ⟨pb, po, none⟩) 9 pc, .int .u32 j.att], .int .u32 (c : Nat), .int .u32 (d : Nat), .bool false] w fun r w' => r = .returned (.tuple #[.int .u32 (x : Nat), .agg #[.int .i64 s, .int .i64 e]]) ∧ Below w.heap.size w w') :
    Calls Try.prog 68 #[.agg #[.pointer (some ⟨m, 0, none⟩), .slice (some ⟨pb, po, none⟩) 9 pc, .int .u32 j.att], .int .u32 (a : Nat), .int .u32 (b : Nat)] w fun r w' => r = .returned (.tuple #[.int .u32 (x : Nat), .agg #[.int .i64 s, .int .i64 e]]) ∧ Below w.heap.size w w' := by
  have Hc1 := hidden c1
  have Hc2 := hidden c2
  have Hc3 := hidden c3
  have l1 : ¬ (b : Int) < 65536 := by omega
  clear hb
  have q : ((y : Int) == 0) = false := by rw [beq_eq_false_iff_ne]; omega
  have q2 : ((c : Int) == 0) = true := by rw [hc]; rfl
  have qn : ((c : Int) != 0) = false := by rw [bne, q2]; rfl
  have ed2 : (d : Int) % 4294967296 = (d : Int) := by omega
  clear hy hc
  clear c1 c2 c3
  have HX := hidden (Bx2.start w m (some ⟨pb, po, none⟩) pc j.att)
  go_enter Try.func68, Try.ntmps68
  go_upto_region 1 with fail
  generalize (w.alloc (.cells #[.pointer (some ⟨m, 0, none⟩), .slice (some ⟨pb, po, none⟩) 9 pc, .int .u32 j.att] 94)).alloc (.cells #[.int .i64 0, .int .i64 0] 91) = w1 at *
  have HJ := hidden (J.later HX.out.bel)
  obtain ⟨a0, a1, a2, b0, b1, f0, f1⟩ := HX.out.cells
  go_upto_region 3 with fail
  go_cut [8, 9] from 11 (fun s8 s9 wx => ∃ HH, s8 = .int .u32 (c : Nat) ∧ s9 = .pointer (some ⟨HH, 0, none⟩) ∧ Hid (Bx3 w wx w.heap.size (w.heap.size + 1) m (some ⟨pb, po, none⟩) pc j.att HH 0 (0)))
  case first =>
    have p0 := HJ.out.cell 0 (by omega)
    rw [Nat.add_zero] at p0
    have HXD := hidden (HX.out.call ((Below.refl _ _).drew))
    have HJD := hidden (HJ.out.later ((Below.refl _ _).drew))
    have HXA := hidden ((HX.out.new 0 0).call ((Below.refl _ _).drew))
    have HJA := hidden ((HJ.out.later ((Below.refl _ _).alloc (Nat.le_refl _) (.cells #[.int .i64 0, .int .i64 0] 91))).later ((Below.refl _ _).drew))
    go_region_held3 (fun w' => w'.cell? ⟨w.heap.size, 0, none⟩ = some (.pointer (some ⟨m, 0, none⟩)) ∧ w'.cell? ⟨w.heap.size, 1, none⟩ = some (.slice (some ⟨pb, po, none⟩) 9 pc) ∧ w'.cell? ⟨w.heap.size, 2, none⟩ = some (.int .u32 j.att) ∧ w'.cell? ⟨pb, po, none⟩ = some (.int .u32 (j.p 0))) (first | (refine ⟨?_, ?_, ?_, ?_⟩ <;> with_reducible assumption) | go_keep) (first | (go_at_call 65; (with_reducible refine (Hc1.out _ HJD.out).mono ?_); rintro e w99 ⟨rfl, hb99⟩; have HXC := hidden (HXD.out.call hb99); have HXE := hidden (HXC.out.new 0 (0)); obtain ⟨a0, a1, a2, b0, b1, f0, f1⟩ := HXC.out.cells; have p0 := (HJD.out.later hb99).cell 0 (by omega); rw [Nat.add_zero] at p0; clear hb99; obtain ⟨k0, k1, k2, _, _, _, _⟩ := HXE.out.b2.cells; have kp := (J.later HXE.out.b2.bel).cell 0 (by omega); rw [Nat.add_zero] at kp) | (go_at_call 65; (with_reducible refine (Hc1.out _ HJA.out).mono ?_); rintro e w99 ⟨rfl, hb99⟩; have HXC := hidden (HXA.out.call hb99); have HXE := hidden (HXC.out.put 0 (0)); obtain ⟨a0, a1, a2, b0, b1, f0, f1⟩ := HXC.out.b2.cells; obtain ⟨h0, h1, g0, g1⟩ := HXC.out.cells; have p0 := (HJA.out.later hb99).cell 0 (by omega); rw [Nat.add_zero] at p0; clear hb99; obtain ⟨k0, k1, k2, _, _, _, _⟩ := HXE.out.b2.cells; have kp := (J.later HXE.out.b2.bel).cell 0 (by omega); rw [Nat.add_zero] at kp) | fail)
    all_goals (try go_wp2_with fail)
    all_goals go_meet
    all_goals exact ⟨_, rfl, rfl, HXE⟩
  case rest =>
    obtain ⟨HH, rfl, rfl, HX2⟩ := hcut
    clear HX HJ a0 a1 a2 b0 b1 f0 f1
    have HX := HX2
    clear HX2
    have HJ := hidden (J.later HX.out.b2.bel)
    generalize wc = w2 at *
    obtain ⟨a0, a1, a2, b0, b1, f0, f1⟩ := HX.out.b2.cells
    obtain ⟨h0, h1, g0, g1⟩ := HX.out.cells
    go_upto_region 6 with (first | (go_at_call 66; (with_reducible refine (ends_good _).mono ?_); rintro e w3 ⟨rfl, hb3⟩; replace HX := hidden (HX.out.call hb3); replace HJ := hidden (HJ.out.later hb3); clear a0 a1 a2 b0 b1 f0 f1; clear h0 h1 g0 g1; obtain ⟨a0, a1, a2, b0, b1, f0, f1⟩ := HX.out.b2.cells; obtain ⟨h0, h1, g0, g1⟩ := HX.out.cells; clear hb3) | fail)
    go_upto_region 7 with (first | (go_at_call 52; (with_reducible refine (Hc2.out _ HJ.out).mono ?_); rintro e w4 ⟨rfl, hb4⟩; replace HX := hidden (HX.out.call hb4); replace HJ := hidden (HJ.out.later hb4); clear a0 a1 a2 b0 b1 f0 f1; clear h0 h1 g0 g1; obtain ⟨a0, a1, a2, b0, b1, f0, f1⟩ := HX.out.b2.cells; obtain ⟨h0, h1, g0, g1⟩ := HX.out.cells; clear hb4) | fail)
    replace HX := hidden (HX.out.put (0) (0))
    replace HJ := hidden (J.later HX.out.b2.bel)
    clear a0 a1 a2 b0 b1 f0 f1 h0 h1 g0 g1
    generalize (w4.setCell ⟨HH, 0, none⟩ (.int .i64 (0))).setCell ⟨HH, 1, none⟩ (.int .i64 (0)) = w5 at *
    obtain ⟨a0, a1, a2, b0, b1, f0, f1⟩ := HX.out.b2.cells
    obtain ⟨h0, h1, g0, g1⟩ := HX.out.cells
    go_upto_region 9 with (first | (go_at_call 66; (with_reducible refine (ends_good _).mono ?_); rintro e w6 ⟨rfl, hb6⟩; replace HX := hidden (HX.out.call hb6); replace HJ := hidden (HJ.out.later hb6); clear a0 a1 a2 b0 b1 f0 f1; clear h0 h1 g0 g1; obtain ⟨a0, a1, a2, b0, b1, f0, f1⟩ := HX.out.b2.cells; obtain ⟨h0, h1, g0, g1⟩ := HX.out.cells; clear hb6) | fail)
    go_wp2_with (first | (go_at_call 79; (with_reducible refine (Hc3.out _ HJ.out).mono ?_); rintro e w99 ⟨rfl, hb99⟩; have HX9 := hidden (HX.out.call hb99); have HF := hidden (HX9.out.b2.fin (s) (e)); clear hb99; obtain ⟨a0, a1, a2, b0, b1, f0, f1⟩ := HX9.out.b2.cells) | fail)
    all_goals
      go_wp2
      obtain ⟨d0, d1, _⟩ := HF.out.1.cells
      refine bodyPost_ret (v := .tuple #[.int .u32 (x : Nat), .agg #[.int .i64 (s), .int .i64 (e)]]) (by simp [results, Try.results68, go_sem, d0, d1]) rfl ⟨?_, HF.out.2⟩
      rfl
theorem pro_6 (j : Jb) (m pb po pc : Nat) (w : World) (J : JAt w j m (some ⟨pb, po, none⟩)) (a b AD c y x : Nat) (s e : Int) (hb : ¬ b < 65536) (e1 : IntKind.u32.wrap ((j.p 0 : Int) + IntKind.u32.wrap (4 * (b : Int).tmod 65536)) = (AD : Int)) (hy : ¬ y = 0) (hc : ¬ c = 0) (d : Nat) (ed : (b : Int) / 65536 = (d : Int)) (hd : d < 65536) (c1 : ∀ w, JAt w j m (some ⟨pb, po, none⟩) → Calls Try.prog 65 #[.agg #[.pointer (some ⟨m, 0, none⟩), .slice (some ⟨pb, po, none⟩) 9 pc, .int .u32 j.att], .int .u32 (AD : Nat), .int .i64 4] w fun r w' => r = .returned (.tuple #[.int .u32 (c : Nat), .agg #[.int .i64 0, .int .i64 0]]) ∧ Below w.heap.size w w') (c2 : ∀ w, JAt w j m (some ⟨pb, po, none⟩) → Calls Try.prog 52 #[.agg #[.pointer (some ⟨m, 0, none⟩), .slice (some ⟨pb, po, none⟩) 9 pc, .int .u32 j.att], .int .u32 (a : Nat), .int .u32 (c : Nat)] w fun r w' => r = .returned (.tuple #[.int .u32 (y : Nat), .agg #[.int .i64 0, .int .i64 0]]) ∧ Below w.heap.size w w') (c3 : ∀ w, JAt w j m (some ⟨pb, po, none⟩) → Calls Try.prog 79 #[.agg #[.pointer (some ⟨m, 0, none⟩), .slice (some ⟨pb, po, none⟩) 9 pc, .int .u32 j.att], .int .u32 (c : Nat), .int .u32 (d : Nat), .bool true] w fun r w' => r = .returned (.tuple #[.int .u32 (x : Nat), .agg #[.int .i64 s, .int .i64 e]]) ∧ Below w.heap.size w w') :
    Calls Try.prog 68 #[.agg #[.pointer (some ⟨m, 0, none⟩), .slice (some ⟨pb, po, none⟩) 9 pc, .int .u32 j.att], .int .u32 (a : Nat), .int .u32 (b : Nat)] w fun r w' => r = .returned (.tuple #[.int .u32 (x : Nat), .agg #[.int .i64 s, .int .i64 e]]) ∧ Below w.heap.size w w' := by
  have Hc1 := hidden c1
  have Hc2 := hidden c2
  have Hc3 := hidden c3
  have l1 : ¬ (b : Int) < 65536 := by omega
  clear hb
  have q : ((y : Int) == 0) = false := by rw [beq_eq_false_iff_ne]; omega
  have q2 : ((c : Int) == 0) = false := by rw [beq_eq_false_iff_ne]; omega
  have qn : ((c : Int) != 0) = true := by rw [bne, q2]; rfl
  have ed2 : (d : Int) % 4294967296 = (d : Int) := by omega
  clear hy hc
  clear c1 c2 c3
  have HX := hidden (Bx2.start w m (some ⟨pb, po, none⟩) pc j.att)
  go_enter Try.func68, Try.ntmps68
  go_upto_region 1 with fail
  generalize (w.alloc (.cells #[.pointer (some ⟨m, 0, none⟩), .slice (some ⟨pb, po, none⟩) 9 pc, .int .u32 j.att] 94)).alloc (.cells #[.int .i64 0, .int .i64 0] 91) = w1 at *
  have HJ := hidden (J.later HX.out.bel)
  obtain ⟨a0, a1, a2, b0, b1, f0, f1⟩ := HX.out.cells
  go_upto_region 3 with fail
  go_cut [8, 9] from 11 (fun s8 s9 wx => ∃ HH, s8 = .int .u32 (c : Nat) ∧ s9 = .pointer (some ⟨HH, 0, none⟩) ∧ Hid (Bx3 w wx w.heap.size (w.heap.size + 1) m (some ⟨pb, po, none⟩) pc j.att HH 0 (0)))
  case first =>
    have p0 := HJ.out.cell 0 (by omega)
    rw [Nat.add_zero] at p0
    have HXD := hidden (HX.out.call ((Below.refl _ _).drew))
    have HJD := hidden (HJ.out.later ((Below.refl _ _).drew))
    have HXA := hidden ((HX.out.new 0 0).call ((Below.refl _ _).drew))
    have HJA := hidden ((HJ.out.later ((Below.refl _ _).alloc (Nat.le_refl _) (.cells #[.int .i64 0, .int .i64 0] 91))).later ((Below.refl _ _).drew))
    go_region_held3 (fun w' => w'.cell? ⟨w.heap.size, 0, none⟩ = some (.pointer (some ⟨m, 0, none⟩)) ∧ w'.cell? ⟨w.heap.size, 1, none⟩ = some (.slice (some ⟨pb, po, none⟩) 9 pc) ∧ w'.cell? ⟨w.heap.size, 2, none⟩ = some (.int .u32 j.att) ∧ w'.cell? ⟨pb, po, none⟩ = some (.int .u32 (j.p 0))) (first | (refine ⟨?_, ?_, ?_, ?_⟩ <;> with_reducible assumption) | go_keep) (first | (go_at_call 65; (with_reducible refine (Hc1.out _ HJD.out).mono ?_); rintro e w99 ⟨rfl, hb99⟩; have HXC := hidden (HXD.out.call hb99); have HXE := hidden (HXC.out.new 0 (0)); obtain ⟨a0, a1, a2, b0, b1, f0, f1⟩ := HXC.out.cells; have p0 := (HJD.out.later hb99).cell 0 (by omega); rw [Nat.add_zero] at p0; clear hb99; obtain ⟨k0, k1, k2, _, _, _, _⟩ := HXE.out.b2.cells; have kp := (J.later HXE.out.b2.bel).cell 0 (by omega); rw [Nat.add_zero] at kp) | (go_at_call 65; (with_reducible refine (Hc1.out _ HJA.out).mono ?_); rintro e w99 ⟨rfl, hb99⟩; have HXC := hidden (HXA.out.call hb99); have HXE := hidden (HXC.out.put 0 (0)); obtain ⟨a0, a1, a2, b0, b1, f0, f1⟩ := HXC.out.b2.cells; obtain ⟨h0, h1, g0, g1⟩ := HXC.out.cells; have p0 := (HJA.out.later hb99).cell 0 (by omega); rw [Nat.add_zero] at p0; clear hb99; obtain ⟨k0, k1, k2, _, _, _, _⟩ := HXE.out.b2.cells; have kp := (J.later HXE.out.b2.bel).cell 0 (by omega); rw [Nat.add_zero] at kp) | fail)
    all_goals (try go_wp2_with fail)
    all_goals go_meet
    all_goals exact ⟨_, rfl, rfl, HXE⟩
  case rest =>
    obtain ⟨HH, rfl, rfl, HX2⟩ := hcut
    clear HX HJ a0 a1 a2 b0 b1 f0 f1
    have HX := HX2
    clear HX2
    have HJ := hidden (J.later HX.out.b2.bel)
    generalize wc = w2 at *
    obtain ⟨a0, a1, a2, b0, b1, f0, f1⟩ := HX.out.b2.cells
    obtain ⟨h0, h1, g0, g1⟩ := HX.out.cells
    go_upto_region 6 with (first | (go_at_call 66; (with_reducible refine (ends_good _).mono ?_); rintro e w3 ⟨rfl, hb3⟩; replace HX := hidden (HX.out.call hb3); replace HJ := hidden (HJ.out.later hb3); clear a0 a1 a2 b0 b1 f0 f1; clear h0 h1 g0 g1; obtain ⟨a0, a1, a2, b0, b1, f0, f1⟩ := HX.out.b2.cells; obtain ⟨h0, h1, g0, g1⟩ := HX.out.cells; clear hb3) | fail)
    go_upto_region 7 with (first | (go_at_call 52; (with_reducible refine (Hc2.out _ HJ.out).mono ?_); rintro e w4 ⟨rfl, hb4⟩; replace HX := hidden (HX.out.call hb4); replace HJ := hidden (HJ.out.later hb4); clear a0 a1 a2 b0 b1 f0 f1; clear h0 h1 g0 g1; obtain ⟨a0, a1, a2, b0, b1, f0, f1⟩ := HX.out.b2.cells; obtain ⟨h0, h1, g0, g1⟩ := HX.out.cells; clear hb4) | fail)
    replace HX := hidden (HX.out.put (0) (0))
    replace HJ := hidden (J.later HX.out.b2.bel)
    clear a0 a1 a2 b0 b1 f0 f1 h0 h1 g0 g1
    generalize (w4.setCell ⟨HH, 0, none⟩ (.int .i64 (0))).setCell ⟨HH, 1, none⟩ (.int .i64 (0)) = w5 at *
    obtain ⟨a0, a1, a2, b0, b1, f0, f1⟩ := HX.out.b2.cells
    obtain ⟨h0, h1, g0, g1⟩ := HX.out.cells
    go_upto_region 9 with (first | (go_at_call 66; (with_reducible refine (ends_good _).mono ?_); rintro e w6 ⟨rfl, hb6⟩; replace HX := hidden (HX.out.call hb6); replace HJ := hidden (HJ.out.later hb6); clear a0 a1 a2 b0 b1 f0 f1; clear h0 h1 g0 g1; obtain ⟨a0, a1, a2, b0, b1, f0, f1⟩ := HX.out.b2.cells; obtain ⟨h0, h1, g0, g1⟩ := HX.out.cells; clear hb6) | fail)
    go_wp2_with (first | (go_at_call 79; (with_reducible refine (Hc3.out _ HJ.out).mono ?_); rintro e w99 ⟨rfl, hb99⟩; have HX9 := hidden (HX.out.call hb99); have HF := hidden (HX9.out.b2.fin (s) (e)); clear hb99; obtain ⟨a0, a1, a2, b0, b1, f0, f1⟩ := HX9.out.b2.cells) | fail)
    all_goals
      go_wp2
      obtain ⟨d0, d1, _⟩ := HF.out.1.cells
      refine bodyPost_ret (v := .tuple #[.int .u32 (x : Nat), .agg #[.int .i64 (s), .int .i64 (e)]]) (by simp [results, Try.results68, go_sem, d0, d1]) rfl ⟨?_, HF.out.2⟩
      rfl
end Go.Proofs.Ytpgppdkbkkljnaa
