/- Layer 18: value, by leaves. Layer 18: objectHas, by leaves. Layer 18: has, by leaves. Layer 18: do, by leaves. -/
import Derived.Test.YtpgppdkbkkljnaaA18A
namespace Go.Proofs.Ytpgppdkbkkljnaa
open Go.RowKit
set_option maxHeartbeats 1000000
set_option maxRecDepth 100000
set_option linter.unusedVariables false

theorem val_1 (j : Jb) (m pb po pc : Nat) (w : World) (J : JAt w j m (some ⟨pb, po, none⟩)) (a b x : Nat) (s e : Int) (hne : ¬ (s = 0 ∧ e = 0)) (c1 : ∀ w, JAt w j m (some ⟨pb, po, none⟩) → Calls Try.prog 50 #[.agg #[.pointer (some ⟨m, 0, none⟩), .slice (some ⟨pb, po, none⟩) 9 pc, .int .u32 j.att], .int .u32 (a : Nat), .int .u32 (b : Nat)] w fun r w' => r = .returned (.tuple #[.int .u32 (x : Nat), .agg #[.int .i64 s, .int .i64 e]]) ∧ Below w.heap.size w w') :
    Calls Try.prog 53 #[.agg #[.pointer (some ⟨m, 0, none⟩), .slice (some ⟨pb, po, none⟩) 9 pc, .int .u32 j.att], .int .u32 (a : Nat), .int .u32 (b : Nat)] w fun r w' => r = .returned (.tuple #[.int .u32 0, .agg #[.int .i64 s, .int .i64 e]]) ∧ Below w.heap.size w w' := by
  have Hc1 := hidden c1
  clear c1
  have HX := hidden (Bx2.start w m (some ⟨pb, po, none⟩) pc j.att)
  go_enter Try.func53, Try.ntmps53
  go_upto_region 1 with fail
  generalize (w.alloc (.cells #[.pointer (some ⟨m, 0, none⟩), .slice (some ⟨pb, po, none⟩) 9 pc, .int .u32 j.att] 94)).alloc (.cells #[.int .i64 0, .int .i64 0] 91) = w1 at *
  have HJ := hidden (J.later HX.out.bel)
  obtain ⟨a0, a1, a2, b0, b1, f0, f1⟩ := HX.out.cells
  go_upto_region 2 with (first | (go_at_call 50; (with_reducible refine (Hc1.out _ HJ.out).mono ?_); rintro e w2 ⟨rfl, hb2⟩; replace HX := hidden (HX.out.call hb2); replace HJ := hidden (HJ.out.later hb2); clear a0 a1 a2 b0 b1 f0 f1; obtain ⟨a0, a1, a2, b0, b1, f0, f1⟩ := HX.out.cells; clear hb2) | fail)
  replace HX := hidden (HX.out.new (s) (e))
  replace HJ := hidden (HJ.out.later ((Below.refl _ _).alloc (Nat.le_refl _) (.cells #[.int .i64 (s), .int .i64 (e)] 91)))
  clear a0 a1 a2 b0 b1 f0 f1
  change Code.wp _ _ _ _ (w2.alloc (.cells #[.int .i64 (s), .int .i64 (e)] 91))
  generalize w2.alloc (.cells #[.int .i64 (s), .int .i64 (e)] 91) = w3 at *
  generalize w2.heap.size = H3 at *
  obtain ⟨a0, a1, a2, b0, b1, f0, f1⟩ := HX.out.b2.cells
  obtain ⟨h0, h1, g0, g1⟩ := HX.out.cells
  go_upto_region 3 with (first | (go_at_call 66; (with_reducible refine (ends_bad hne _).mono ?_); rintro e w4 ⟨rfl, hb4⟩; replace HX := hidden (HX.out.call hb4); replace HJ := hidden (HJ.out.later hb4); clear a0 a1 a2 b0 b1 f0 f1; clear h0 h1 g0 g1; obtain ⟨a0, a1, a2, b0, b1, f0, f1⟩ := HX.out.b2.cells; obtain ⟨h0, h1, g0, g1⟩ := HX.out.cells; clear hb4) | fail)
  have HXD := hidden (HX.out.call ((Below.refl _ _).drew))
  have HF := hidden (HX.out.b2.find (s) (e))
  clear HXD
  (first | (go_region_with (fail)) | fail)
  all_goals
    go_wp2
    generalize ((w4.setCell ⟨w.heap.size + 1, 0, none⟩ (.int .i64 (s))).setCell ⟨w.heap.size + 1, 1, none⟩ (.int .i64 (e))).drew = w98 at *
    obtain ⟨d0, d1, _⟩ := HF.out.1.cells
    refine bodyPost_ret (v := .tuple #[.int .u32 0, .agg #[.int .i64 (s), .int .i64 (e)]]) (by simp [results, Try.results53, go_sem, d0, d1]) rfl ⟨?_, HF.out.2⟩
    rfl
theorem val_2 (j : Jb) (m pb po pc : Nat) (w : World) (J : JAt w j m (some ⟨pb, po, none⟩)) (a b x y : Nat) (e : Int) (hx : ¬ x = 0) (c1 : ∀ w, JAt w j m (some ⟨pb, po, none⟩) → Calls Try.prog 50 #[.agg #[.pointer (some ⟨m, 0, none⟩), .slice (some ⟨pb, po, none⟩) 9 pc, .int .u32 j.att], .int .u32 (a : Nat), .int .u32 (b : Nat)] w fun r w' => r = .returned (.tuple #[.int .u32 (x : Nat), .agg #[.int .i64 0, .int .i64 0]]) ∧ Below w.heap.size w w') (c2 : ∀ w, JAt w j m (some ⟨pb, po, none⟩) → Calls Try.prog 65 #[.agg #[.pointer (some ⟨m, 0, none⟩), .slice (some ⟨pb, po, none⟩) 9 pc, .int .u32 j.att], .int .u32 (x : Nat), .int .i64 4] w fun r w' => r = .returned (.tuple #[.int .u32 (y : Nat), .agg #[.int .i64 0, .int .i64 e]]) ∧ Below w.heap.size w w') :
    Calls Try.prog 53 #[.agg #[.pointer (some ⟨m, 0, none⟩), .slice (some ⟨pb, po, none⟩) 9 pc, .int .u32 j.att], .int .u32 (a : Nat), .int .u32 (b : Nat)] w fun r w' => r = .returned (.tuple #[.int .u32 (y : Nat), .agg #[.int .i64 0, .int .i64 e]]) ∧ Below w.heap.size w w' := by
  have Hc1 := hidden c1
  have Hc2 := hidden c2
  have q : ((x : Int) == 0) = false := by rw [beq_eq_false_iff_ne]; omega
  clear hx
  clear c1 c2
  have HX := hidden (Bx2.start w m (some ⟨pb, po, none⟩) pc j.att)
  go_enter Try.func53, Try.ntmps53
  go_upto_region 1 with fail
  generalize (w.alloc (.cells #[.pointer (some ⟨m, 0, none⟩), .slice (some ⟨pb, po, none⟩) 9 pc, .int .u32 j.att] 94)).alloc (.cells #[.int .i64 0, .int .i64 0] 91) = w1 at *
  have HJ := hidden (J.later HX.out.bel)
  obtain ⟨a0, a1, a2, b0, b1, f0, f1⟩ := HX.out.cells
  go_upto_region 2 with (first | (go_at_call 50; (with_reducible refine (Hc1.out _ HJ.out).mono ?_); rintro e w2 ⟨rfl, hb2⟩; replace HX := hidden (HX.out.call hb2); replace HJ := hidden (HJ.out.later hb2); clear a0 a1 a2 b0 b1 f0 f1; obtain ⟨a0, a1, a2, b0, b1, f0, f1⟩ := HX.out.cells; clear hb2) | fail)
  replace HX := hidden (HX.out.new (0) (0))
  replace HJ := hidden (HJ.out.later ((Below.refl _ _).alloc (Nat.le_refl _) (.cells #[.int .i64 (0), .int .i64 (0)] 91)))
  clear a0 a1 a2 b0 b1 f0 f1
  change Code.wp _ _ _ _ (w2.alloc (.cells #[.int .i64 (0), .int .i64 (0)] 91))
  generalize w2.alloc (.cells #[.int .i64 (0), .int .i64 (0)] 91) = w3 at *
  generalize w2.heap.size = H3 at *
  obtain ⟨a0, a1, a2, b0, b1, f0, f1⟩ := HX.out.b2.cells
  obtain ⟨h0, h1, g0, g1⟩ := HX.out.cells
  go_upto_region 4 with (first | (go_at_call 66; (with_reducible refine (ends_good _).mono ?_); rintro e w4 ⟨rfl, hb4⟩; replace HX := hidden (HX.out.call hb4); replace HJ := hidden (HJ.out.later hb4); clear a0 a1 a2 b0 b1 f0 f1; clear h0 h1 g0 g1; obtain ⟨a0, a1, a2, b0, b1, f0, f1⟩ := HX.out.b2.cells; obtain ⟨h0, h1, g0, g1⟩ := HX.out.cells; clear hb4) | fail)
  go_wp2_with (first | (go_at_call 65; (with_reducible refine (Hc2.out _ HJ.out).mono ?_); rintro e w99 ⟨rfl, hb99⟩; have HX9 := hidden (HX.out.call hb99); have HF := hidden (HX9.out.b2.fin (0) (e)); clear hb99; obtain ⟨a0, a1, a2, b0, b1, f0, f1⟩ := HX9.out.b2.cells) | fail)
  all_goals
    go_wp2
    obtain ⟨d0, d1, _⟩ := HF.out.1.cells
    refine bodyPost_ret (v := .tuple #[.int .u32 (y : Nat), .agg #[.int .i64 (0), .int .i64 (e)]]) (by simp [results, Try.results53, go_sem, d0, d1]) rfl ⟨?_, HF.out.2⟩
    rfl
theorem val_3 (j : Jb) (m pb po pc : Nat) (w : World) (J : JAt w j m (some ⟨pb, po, none⟩)) (a b AD y : Nat) (e : Int) (hb : 0 < b) (h1 : b < j.p 1) (e8 : IntKind.u32.wrap ((j.p 8 : Int) + IntKind.u32.wrap (4 * (b : Int))) = (AD : Int)) (c1 : ∀ w, JAt w j m (some ⟨pb, po, none⟩) → Calls Try.prog 50 #[.agg #[.pointer (some ⟨m, 0, none⟩), .slice (some ⟨pb, po, none⟩) 9 pc, .int .u32 j.att], .int .u32 (a : Nat), .int .u32 (b : Nat)] w fun r w' => r = .returned (.tuple #[.int .u32 0, .agg #[.int .i64 0, .int .i64 0]]) ∧ Below w.heap.size w w') (c2 : ∀ w, JAt w j m (some ⟨pb, po, none⟩) → Calls Try.prog 65 #[.agg #[.pointer (some ⟨m, 0, none⟩), .slice (some ⟨pb, po, none⟩) 9 pc, .int .u32 j.att], .int .u32 (AD : Nat), .int .i64 4] w fun r w' => r = .returned (.tuple #[.int .u32 (y : Nat), .agg #[.int .i64 0, .int .i64 e]]) ∧ Below w.heap.size w w') :
    Calls Try.prog 53 #[.agg #[.pointer (some ⟨m, 0, none⟩), .slice (some ⟨pb, po, none⟩) 9 pc, .int .u32 j.att], .int .u32 (a : Nat), .int .u32 (b : Nat)] w fun r w' => r = .returned (.tuple #[.int .u32 (y : Nat), .agg #[.int .i64 0, .int .i64 e]]) ∧ Below w.heap.size w w' := by
  have Hc1 := hidden c1
  have Hc2 := hidden c2
  have l1 : (b : Int) > 0 := by omega
  have l2 : (b : Int) < (j.p 1 : Int) := by omega
  clear hb h1
  clear c1 c2
  have HX := hidden (Bx2.start w m (some ⟨pb, po, none⟩) pc j.att)
  go_enter Try.func53, Try.ntmps53
  go_upto_region 1 with fail
  generalize (w.alloc (.cells #[.pointer (some ⟨m, 0, none⟩), .slice (some ⟨pb, po, none⟩) 9 pc, .int .u32 j.att] 94)).alloc (.cells #[.int .i64 0, .int .i64 0] 91) = w1 at *
  have HJ := hidden (J.later HX.out.bel)
  obtain ⟨a0, a1, a2, b0, b1, f0, f1⟩ := HX.out.cells
  go_upto_region 2 with (first | (go_at_call 50; (with_reducible refine (Hc1.out _ HJ.out).mono ?_); rintro e w2 ⟨rfl, hb2⟩; replace HX := hidden (HX.out.call hb2); replace HJ := hidden (HJ.out.later hb2); clear a0 a1 a2 b0 b1 f0 f1; obtain ⟨a0, a1, a2, b0, b1, f0, f1⟩ := HX.out.cells; clear hb2) | fail)
  replace HX := hidden (HX.out.new (0) (0))
  replace HJ := hidden (HJ.out.later ((Below.refl _ _).alloc (Nat.le_refl _) (.cells #[.int .i64 (0), .int .i64 (0)] 91)))
  clear a0 a1 a2 b0 b1 f0 f1
  change Code.wp _ _ _ _ (w2.alloc (.cells #[.int .i64 (0), .int .i64 (0)] 91))
  generalize w2.alloc (.cells #[.int .i64 (0), .int .i64 (0)] 91) = w3 at *
  generalize w2.heap.size = H3 at *
  obtain ⟨a0, a1, a2, b0, b1, f0, f1⟩ := HX.out.b2.cells
  obtain ⟨h0, h1, g0, g1⟩ := HX.out.cells
  go_upto_region 4 with (first | (go_at_call 66; (with_reducible refine (ends_good _).mono ?_); rintro e w4 ⟨rfl, hb4⟩; replace HX := hidden (HX.out.call hb4); replace HJ := hidden (HJ.out.later hb4); clear a0 a1 a2 b0 b1 f0 f1; clear h0 h1 g0 g1; obtain ⟨a0, a1, a2, b0, b1, f0, f1⟩ := HX.out.b2.cells; obtain ⟨h0, h1, g0, g1⟩ := HX.out.cells; clear hb4) | fail)
  have p1 := HJ.out.cell 1 (by omega)
  go_upto_region 7 with fail
  clear p1
  have p8 := HJ.out.cell 8 (by omega)
  have HXD := hidden (HX.out.call ((Below.refl _ _).drew))
  have HJD := hidden (HJ.out.later ((Below.refl _ _).drew))
  go_region_held3 (fun w' => w'.cell? ⟨w.heap.size, 0, none⟩ = some (.pointer (some ⟨m, 0, none⟩)) ∧ w'.cell? ⟨w.heap.size, 1, none⟩ = some (.slice (some ⟨pb, po, none⟩) 9 pc) ∧ w'.cell? ⟨w.heap.size, 2, none⟩ = some (.int .u32 j.att) ∧ w'.cell? ⟨H3, 0, none⟩ = some (.int .i64 (0)) ∧ w'.cell? ⟨H3, 1, none⟩ = some (.int .i64 (0)) ∧ w'.cell? ⟨pb, po + 8, none⟩ = some (.int .u32 (j.p 8))) (first | (refine ⟨?_, ?_, ?_, ?_, ?_, ?_⟩ <;> with_reducible assumption) | go_keep) (first | (go_at_call 65; (with_reducible refine (Hc2.out _ HJD.out).mono ?_); rintro e w99 ⟨rfl, hb99⟩; have HX9 := hidden (HXD.out.call hb99); have HF := hidden (HX9.out.b2.fin (0) (e)); obtain ⟨a0, a1, a2, b0, b1, f0, f1⟩ := HX9.out.b2.cells; obtain ⟨h0, h1, g0, g1⟩ := HX9.out.cells; obtain ⟨k0, k1, k2, k3, k4⟩ := HX9.out.fink (0) (e); have kp8 := (J.later (HX9.out.b2.fin (0) (e)).2).cell 8 (by omega); have p8 := (HJD.out.later hb99).cell 8 (by omega); clear hb99) | fail)
  all_goals
    go_wp2
    obtain ⟨d0, d1, _⟩ := HF.out.1.cells
    refine bodyPost_ret (v := .tuple #[.int .u32 (y : Nat), .agg #[.int .i64 (0), .int .i64 (e)]]) (by simp [results, Try.results53, go_sem, d0, d1]) rfl ⟨?_, HF.out.2⟩
    rfl
theorem val_4 (j : Jb) (m pb po pc : Nat) (w : World) (J : JAt w j m (some ⟨pb, po, none⟩)) (a b : Nat) (hb : b = 0) (c1 : ∀ w, JAt w j m (some ⟨pb, po, none⟩) → Calls Try.prog 50 #[.agg #[.pointer (some ⟨m, 0, none⟩), .slice (some ⟨pb, po, none⟩) 9 pc, .int .u32 j.att], .int .u32 (a : Nat), .int .u32 (b : Nat)] w fun r w' => r = .returned (.tuple #[.int .u32 0, .agg #[.int .i64 0, .int .i64 0]]) ∧ Below w.heap.size w w') :
    Calls Try.prog 53 #[.agg #[.pointer (some ⟨m, 0, none⟩), .slice (some ⟨pb, po, none⟩) 9 pc, .int .u32 j.att], .int .u32 (a : Nat), .int .u32 (b : Nat)] w fun r w' => r = .returned (.tuple #[.int .u32 0, .agg #[.int .i64 3, .int .i64 0]]) ∧ Below w.heap.size w w' := by
  have Hc1 := hidden c1
  have l1 : ¬ (b : Int) > 0 := by omega
  clear hb
  clear c1
  have HX := hidden (Bx2.start w m (some ⟨pb, po, none⟩) pc j.att)
  go_enter Try.func53, Try.ntmps53
  go_upto_region 1 with fail
  generalize (w.alloc (.cells #[.pointer (some ⟨m, 0, none⟩), .slice (some ⟨pb, po, none⟩) 9 pc, .int .u32 j.att] 94)).alloc (.cells #[.int .i64 0, .int .i64 0] 91) = w1 at *
  have HJ := hidden (J.later HX.out.bel)
  obtain ⟨a0, a1, a2, b0, b1, f0, f1⟩ := HX.out.cells
  go_upto_region 2 with (first | (go_at_call 50; (with_reducible refine (Hc1.out _ HJ.out).mono ?_); rintro e w2 ⟨rfl, hb2⟩; replace HX := hidden (HX.out.call hb2); replace HJ := hidden (HJ.out.later hb2); clear a0 a1 a2 b0 b1 f0 f1; obtain ⟨a0, a1, a2, b0, b1, f0, f1⟩ := HX.out.cells; clear hb2) | fail)
  replace HX := hidden (HX.out.new (0) (0))
  replace HJ := hidden (HJ.out.later ((Below.refl _ _).alloc (Nat.le_refl _) (.cells #[.int .i64 (0), .int .i64 (0)] 91)))
  clear a0 a1 a2 b0 b1 f0 f1
  change Code.wp _ _ _ _ (w2.alloc (.cells #[.int .i64 (0), .int .i64 (0)] 91))
  generalize w2.alloc (.cells #[.int .i64 (0), .int .i64 (0)] 91) = w3 at *
  generalize w2.heap.size = H3 at *
  obtain ⟨a0, a1, a2, b0, b1, f0, f1⟩ := HX.out.b2.cells
  obtain ⟨h0, h1, g0, g1⟩ := HX.out.cells
  go_upto_region 4 with (first | (go_at_call 66; (with_reducible refine (ends_good _).mono ?_); rintro e w4 ⟨rfl, hb4⟩; replace HX := hidden (HX.out.call hb4); replace HJ := hidden (HJ.out.later hb4); clear a0 a1 a2 b0 b1 f0 f1; clear h0 h1 g0 g1; obtain ⟨a0, a1, a2, b0, b1, f0, f1⟩ := HX.out.b2.cells; obtain ⟨h0, h1, g0, g1⟩ := HX.out.cells; clear hb4) | fail)
  have HF := hidden (HX.out.b2.fin (3) (0))
  all_goals
    go_wp2
    obtain ⟨d0, d1, _⟩ := HF.out.1.cells
    refine bodyPost_ret (v := .tuple #[.int .u32 0, .agg #[.int .i64 (3), .int .i64 (0)]]) (by simp [results, Try.results53, go_sem, d0, d1]) rfl ⟨?_, HF.out.2⟩
    rfl
theorem val_5 (j : Jb) (m pb po pc : Nat) (w : World) (J : JAt w j m (some ⟨pb, po, none⟩)) (a b : Nat) (hb : 0 < b) (h1 : ¬ b < j.p 1) (c1 : ∀ w, JAt w j m (some ⟨pb, po, none⟩) → Calls Try.prog 50 #[.agg #[.pointer (some ⟨m, 0, none⟩), .slice (some ⟨pb, po, none⟩) 9 pc, .int .u32 j.att], .int .u32 (a : Nat), .int .u32 (b : Nat)] w fun r w' => r = .returned (.tuple #[.int .u32 0, .agg #[.int .i64 0, .int .i64 0]]) ∧ Below w.heap.size w w') :
    Calls Try.prog 53 #[.agg #[.pointer (some ⟨m, 0, none⟩), .slice (some ⟨pb, po, none⟩) 9 pc, .int .u32 j.att], .int .u32 (a : Nat), .int .u32 (b : Nat)] w fun r w' => r = .returned (.tuple #[.int .u32 0, .agg #[.int .i64 3, .int .i64 0]]) ∧ Below w.heap.size w w' := by
  have Hc1 := hidden c1
  have l1 : (b : Int) > 0 := by omega
  have l2 : ¬ (b : Int) < (j.p 1 : Int) := by omega
  clear hb h1
  clear c1
  have HX := hidden (Bx2.start w m (some ⟨pb, po, none⟩) pc j.att)
  go_enter Try.func53, Try.ntmps53
  go_upto_region 1 with fail
  generalize (w.alloc (.cells #[.pointer (some ⟨m, 0, none⟩), .slice (some ⟨pb, po, none⟩) 9 pc, .int .u32 j.att] 94)).alloc (.cells #[.int .i64 0, .int .i64 0] 91) = w1 at *
  have HJ := hidden (J.later HX.out.bel)
  obtain ⟨a0, a1, a2, b0, b1, f0, f1⟩ := HX.out.cells
  go_upto_region 2 with (first | (go_at_call 50; (with_reducible refine (Hc1.out _ HJ.out).mono ?_); rintro e w2 ⟨rfl, hb2⟩; replace HX := hidden (HX.out.call hb2); replace HJ := hidden (HJ.out.later hb2); clear a0 a1 a2 b0 b1 f0 f1; obtain ⟨a0, a1, a2, b0, b1, f0, f1⟩ := HX.out.cells; clear hb2) | fail)
  replace HX := hidden (HX.out.new (0) (0))
  replace HJ := hidden (HJ.out.later ((Below.refl _ _).alloc (Nat.le_refl _) (.cells #[.int .i64 (0), .int .i64 (0)] 91)))
  clear a0 a1 a2 b0 b1 f0 f1
  change Code.wp _ _ _ _ (w2.alloc (.cells #[.int .i64 (0), .int .i64 (0)] 91))
  generalize w2.alloc (.cells #[.int .i64 (0), .int .i64 (0)] 91) = w3 at *
  generalize w2.heap.size = H3 at *
  obtain ⟨a0, a1, a2, b0, b1, f0, f1⟩ := HX.out.b2.cells
  obtain ⟨h0, h1, g0, g1⟩ := HX.out.cells
  go_upto_region 4 with (first | (go_at_call 66; (with_reducible refine (ends_good _).mono ?_); rintro e w4 ⟨rfl, hb4⟩; replace HX := hidden (HX.out.call hb4); replace HJ := hidden (HJ.out.later hb4); clear a0 a1 a2 b0 b1 f0 f1; clear h0 h1 g0 g1; obtain ⟨a0, a1, a2, b0, b1, f0, f1⟩ := HX.out.b2.cells; obtain ⟨h0, h1, g0, g1⟩ := HX.out.cells; clear hb4) | fail)
  have p1 := HJ.out.cell 1 (by omega)
  have HF := hidden (HX.out.b2.fin (3) (0))
  all_goals
    go_wp2
    obtain ⟨d0, d1, _⟩ := HF.out.1.cells
    refine bodyPost_ret (v := .tuple #[.int .u32 0, .agg #[.int .i64 (3), .int .i64 (0)]]) (by simp [results, Try.results53, go_sem, d0, d1]) rfl ⟨?_, HF.out.2⟩
    rfl
end Go.Proofs.Ytpgppdkbkkljnaa
namespace Go.Proofs.Ytpgppdkbkkljnaa
open Go.RowKit
set_option maxHeartbeats 1000000
set_option maxRecDepth 100000
set_option linter.unusedVariables false

theorem oha_1 (j : Jb) (m pb po pc : Nat) (w : World) (J : JAt w j m (some ⟨pb, po, none⟩)) (a b : Nat) (s e : Int) (hne : ¬ (s = 0 ∧ e = 0)) (c1 : ∀ w, JAt w j m (some ⟨pb, po, none⟩) → Calls Try.prog 83 #[.agg #[.pointer (some ⟨m, 0, none⟩), .slice (some ⟨pb, po, none⟩) 9 pc, .int .u32 j.att], .int .u32 (b : Nat)] w fun r w' => r = .returned (.bool true) ∧ Below w.heap.size w w') (c2 : ∀ w, JAt w j m (some ⟨pb, po, none⟩) → Calls Try.prog 81 #[.agg #[.pointer (some ⟨m, 0, none⟩), .slice (some ⟨pb, po, none⟩) 9 pc, .int .u32 j.att], .int .u32 (a : Nat)] w fun r w' => r = .returned (.tuple #[.bool false, .agg #[.int .i64 s, .int .i64 e]]) ∧ Below w.heap.size w w') :
    Calls Try.prog 71 #[.agg #[.pointer (some ⟨m, 0, none⟩), .slice (some ⟨pb, po, none⟩) 9 pc, .int .u32 j.att], .int .u32 (a : Nat), .int .u32 (b : Nat)] w fun r w' => r = .returned (.tuple #[.int .u32 0, .agg #[.int .i64 s, .int .i64 e]]) ∧ Below w.heap.size w w' := by
  have Hc1 := hidden c1
  have Hc2 := hidden c2
  clear c1 c2
  have HX := hidden (Bx2.start w m (some ⟨pb, po, none⟩) pc j.att)
  go_enter Try.func71, Try.ntmps71
  go_upto_region 1 with fail
  generalize (w.alloc (.cells #[.pointer (some ⟨m, 0, none⟩), .slice (some ⟨pb, po, none⟩) 9 pc, .int .u32 j.att] 94)).alloc (.cells #[.int .i64 0, .int .i64 0] 91) = w1 at *
  have HJ := hidden (J.later HX.out.bel)
  obtain ⟨a0, a1, a2, b0, b1, f0, f1⟩ := HX.out.cells
  go_upto_region 2 with (first | (go_at_call 83; (with_reducible refine (Hc1.out _ HJ.out).mono ?_); rintro e w2 ⟨rfl, hb2⟩; replace HX := hidden (HX.out.call hb2); replace HJ := hidden (HJ.out.later hb2); clear a0 a1 a2 b0 b1 f0 f1; obtain ⟨a0, a1, a2, b0, b1, f0, f1⟩ := HX.out.cells; clear hb2) | fail)
  go_upto_region 3 with (first | (go_at_call 81; (with_reducible refine (Hc2.out _ HJ.out).mono ?_); rintro e w3 ⟨rfl, hb3⟩; replace HX := hidden (HX.out.call hb3); replace HJ := hidden (HJ.out.later hb3); clear a0 a1 a2 b0 b1 f0 f1; obtain ⟨a0, a1, a2, b0, b1, f0, f1⟩ := HX.out.cells; clear hb3) | fail)
  replace HX := hidden (HX.out.new (s) (e))
  replace HJ := hidden (HJ.out.later ((Below.refl _ _).alloc (Nat.le_refl _) (.cells #[.int .i64 (s), .int .i64 (e)] 91)))
  clear a0 a1 a2 b0 b1 f0 f1
  change Code.wp _ _ _ _ (w3.alloc (.cells #[.int .i64 (s), .int .i64 (e)] 91))
  generalize w3.alloc (.cells #[.int .i64 (s), .int .i64 (e)] 91) = w4 at *
  generalize w3.heap.size = H4 at *
  obtain ⟨a0, a1, a2, b0, b1, f0, f1⟩ := HX.out.b2.cells
  obtain ⟨h0, h1, g0, g1⟩ := HX.out.cells
  go_upto_region 4 with (first | (go_at_call 66; (with_reducible refine (ends_bad hne _).mono ?_); rintro e w5 ⟨rfl, hb5⟩; replace HX := hidden (HX.out.call hb5); replace HJ := hidden (HJ.out.later hb5); clear a0 a1 a2 b0 b1 f0 f1; clear h0 h1 g0 g1; obtain ⟨a0, a1, a2, b0, b1, f0, f1⟩ := HX.out.b2.cells; obtain ⟨h0, h1, g0, g1⟩ := HX.out.cells; clear hb5) | fail)
  have HXD := hidden (HX.out.call ((Below.refl _ _).drew))
  go_region_held3 (fun w' => w'.cell? ⟨w.heap.size, 0, none⟩ = some (.pointer (some ⟨m, 0, none⟩)) ∧ w'.cell? ⟨w.heap.size, 1, none⟩ = some (.slice (some ⟨pb, po, none⟩) 9 pc) ∧ w'.cell? ⟨w.heap.size, 2, none⟩ = some (.int .u32 j.att) ∧ w'.cell? ⟨H4, 0, none⟩ = some (.int .i64 (s)) ∧ w'.cell? ⟨H4, 1, none⟩ = some (.int .i64 (e))) (first | (refine ⟨?_, ?_, ?_, ?_, ?_⟩ <;> with_reducible assumption) | go_keep) (first | (go_at_call 69; (with_reducible refine (one_f _).mono ?_); rintro e w99 ⟨rfl, hb99⟩; have HX9 := hidden (HXD.out.call hb99); have HF := hidden (HX9.out.b2.fin (s) (e)); obtain ⟨a0, a1, a2, b0, b1, f0, f1⟩ := HX9.out.b2.cells; obtain ⟨h0, h1, g0, g1⟩ := HX9.out.cells; obtain ⟨k0, k1, k2, k3, k4⟩ := HX9.out.fink (s) (e); clear hb99) | fail)
  all_goals
    go_wp2
    obtain ⟨d0, d1, _⟩ := HF.out.1.cells
    refine bodyPost_ret (v := .tuple #[.int .u32 0, .agg #[.int .i64 (s), .int .i64 (e)]]) (by simp [results, Try.results71, go_sem, d0, d1]) rfl ⟨?_, HF.out.2⟩
    rfl
theorem oha_2 (j : Jb) (m pb po pc : Nat) (w : World) (J : JAt w j m (some ⟨pb, po, none⟩)) (a b : Nat) (c1 : ∀ w, JAt w j m (some ⟨pb, po, none⟩) → Calls Try.prog 83 #[.agg #[.pointer (some ⟨m, 0, none⟩), .slice (some ⟨pb, po, none⟩) 9 pc, .int .u32 j.att], .int .u32 (b : Nat)] w fun r w' => r = .returned (.bool true) ∧ Below w.heap.size w w') (c2 : ∀ w, JAt w j m (some ⟨pb, po, none⟩) → Calls Try.prog 81 #[.agg #[.pointer (some ⟨m, 0, none⟩), .slice (some ⟨pb, po, none⟩) 9 pc, .int .u32 j.att], .int .u32 (a : Nat)] w fun r w' => r = .returned (.tuple #[.bool true, .agg #[.int .i64 0, .int .i64 0]]) ∧ Below w.heap.size w w') :
    Calls Try.prog 71 #[.agg #[.pointer (some ⟨m, 0, none⟩), .slice (some ⟨pb, po, none⟩) 9 pc, .int .u32 j.att], .int .u32 (a : Nat), .int .u32 (b : Nat)] w fun r w' => r = .returned (.tuple #[.int .u32 1, .agg #[.int .i64 0, .int .i64 0]]) ∧ Below w.heap.size w w' := by
  have Hc1 := hidden c1
  have Hc2 := hidden c2
  clear c1 c2
  have HX := hidden (Bx2.start w m (some ⟨pb, po, none⟩) pc j.att)
  go_enter Try.func71, Try.ntmps71
  go_upto_region 1 with fail
  generalize (w.alloc (.cells #[.pointer (some ⟨m, 0, none⟩), .slice (some ⟨pb, po, none⟩) 9 pc, .int .u32 j.att] 94)).alloc (.cells #[.int .i64 0, .int .i64 0] 91) = w1 at *
  have HJ := hidden (J.later HX.out.bel)
  obtain ⟨a0, a1, a2, b0, b1, f0, f1⟩ := HX.out.cells
  go_upto_region 2 with (first | (go_at_call 83; (with_reducible refine (Hc1.out _ HJ.out).mono ?_); rintro e w2 ⟨rfl, hb2⟩; replace HX := hidden (HX.out.call hb2); replace HJ := hidden (HJ.out.later hb2); clear a0 a1 a2 b0 b1 f0 f1; obtain ⟨a0, a1, a2, b0, b1, f0, f1⟩ := HX.out.cells; clear hb2) | fail)
  go_upto_region 3 with (first | (go_at_call 81; (with_reducible refine (Hc2.out _ HJ.out).mono ?_); rintro e w3 ⟨rfl, hb3⟩; replace HX := hidden (HX.out.call hb3); replace HJ := hidden (HJ.out.later hb3); clear a0 a1 a2 b0 b1 f0 f1; obtain ⟨a0, a1, a2, b0, b1, f0, f1⟩ := HX.out.cells; clear hb3) | fail)
  replace HX := hidden (HX.out.new (0) (0))
  replace HJ := hidden (HJ.out.later ((Below.refl _ _).alloc (Nat.le_refl _) (.cells #[.int .i64 (0), .int .i64 (0)] 91)))
  clear a0 a1 a2 b0 b1 f0 f1
  change Code.wp _ _ _ _ (w3.alloc (.cells #[.int .i64 (0), .int .i64 (0)] 91))
  generalize w3.alloc (.cells #[.int .i64 (0), .int .i64 (0)] 91) = w4 at *
  generalize w3.heap.size = H4 at *
  obtain ⟨a0, a1, a2, b0, b1, f0, f1⟩ := HX.out.b2.cells
  obtain ⟨h0, h1, g0, g1⟩ := HX.out.cells
  go_upto_region 4 with (first | (go_at_call 66; (with_reducible refine (ends_good _).mono ?_); rintro e w5 ⟨rfl, hb5⟩; replace HX := hidden (HX.out.call hb5); replace HJ := hidden (HJ.out.later hb5); clear a0 a1 a2 b0 b1 f0 f1; clear h0 h1 g0 g1; obtain ⟨a0, a1, a2, b0, b1, f0, f1⟩ := HX.out.b2.cells; obtain ⟨h0, h1, g0, g1⟩ := HX.out.cells; clear hb5) | fail)
  have HXD := hidden (HX.out.call ((Below.refl _ _).drew))
  go_region_held3 (fun w' => w'.cell? ⟨w.heap.size, 0, none⟩ = some (.pointer (some ⟨m, 0, none⟩)) ∧ w'.cell? ⟨w.heap.size, 1, none⟩ = some (.slice (some ⟨pb, po, none⟩) 9 pc) ∧ w'.cell? ⟨w.heap.size, 2, none⟩ = some (.int .u32 j.att) ∧ w'.cell? ⟨H4, 0, none⟩ = some (.int .i64 (0)) ∧ w'.cell? ⟨H4, 1, none⟩ = some (.int .i64 (0))) (first | (refine ⟨?_, ?_, ?_, ?_, ?_⟩ <;> with_reducible assumption) | go_keep) (first | (go_at_call 69; (with_reducible refine (one_t _).mono ?_); rintro e w99 ⟨rfl, hb99⟩; have HX9 := hidden (HXD.out.call hb99); have HF := hidden (HX9.out.b2.fin (0) (0)); obtain ⟨a0, a1, a2, b0, b1, f0, f1⟩ := HX9.out.b2.cells; obtain ⟨h0, h1, g0, g1⟩ := HX9.out.cells; obtain ⟨k0, k1, k2, k3, k4⟩ := HX9.out.fink (0) (0); clear hb99) | fail)
  all_goals
    go_wp2
    obtain ⟨d0, d1, _⟩ := HF.out.1.cells
    refine bodyPost_ret (v := .tuple #[.int .u32 1, .agg #[.int .i64 (0), .int .i64 (0)]]) (by simp [results, Try.results71, go_sem, d0, d1]) rfl ⟨?_, HF.out.2⟩
    rfl
theorem oha_tt (j : Jb) (m pb po pc : Nat) (w : World) (J : JAt w j m (some ⟨pb, po, none⟩)) (a b x : Nat) (s e : Int) (hx : ¬ x = 0) (c1 : ∀ w, JAt w j m (some ⟨pb, po, none⟩) → Calls Try.prog 83 #[.agg #[.pointer (some ⟨m, 0, none⟩), .slice (some ⟨pb, po, none⟩) 9 pc, .int .u32 j.att], .int .u32 (b : Nat)] w fun r w' => r = .returned (.bool true) ∧ Below w.heap.size w w') (c2 : ∀ w, JAt w j m (some ⟨pb, po, none⟩) → Calls Try.prog 81 #[.agg #[.pointer (some ⟨m, 0, none⟩), .slice (some ⟨pb, po, none⟩) 9 pc, .int .u32 j.att], .int .u32 (a : Nat)] w fun r w' => r = .returned (.tuple #[.bool false, .agg #[.int .i64 0, .int .i64 0]]) ∧ Below w.heap.size w w') (c3 : ∀ w, JAt w j m (some ⟨pb, po, none⟩) → Calls Try.prog 50 #[.agg #[.pointer (some ⟨m, 0, none⟩), .slice (some ⟨pb, po, none⟩) 9 pc, .int .u32 j.att], .int .u32 (a : Nat), .int .u32 (b : Nat)] w fun r w' => r = .returned (.tuple #[.int .u32 (x : Nat), .agg #[.int .i64 s, .int .i64 e]]) ∧ Below w.heap.size w w') :
    Calls Try.prog 71 #[.agg #[.pointer (some ⟨m, 0, none⟩), .slice (some ⟨pb, po, none⟩) 9 pc, .int .u32 j.att], .int .u32 (a : Nat), .int .u32 (b : Nat)] w fun r w' => r = .returned (.tuple #[.int .u32 1, .agg #[.int .i64 s, .int .i64 e]]) ∧ Below w.heap.size w w' := by
  have Hc1 := hidden c1
  have Hc2 := hidden c2
  have Hc3 := hidden c3
  have q : ((x : Int) == 0) = false := by rw [beq_eq_false_iff_ne]; omega
  have qn : ((x : Int) != 0) = true := by rw [bne, q]; rfl
  clear hx
  clear c1 c2 c3
  have HX := hidden (Bx2.start w m (some ⟨pb, po, none⟩) pc j.att)
  go_enter Try.func71, Try.ntmps71
  go_upto_region 1 with fail
  generalize (w.alloc (.cells #[.pointer (some ⟨m, 0, none⟩), .slice (some ⟨pb, po, none⟩) 9 pc, .int .u32 j.att] 94)).alloc (.cells #[.int .i64 0, .int .i64 0] 91) = w1 at *
  have HJ := hidden (J.later HX.out.bel)
  obtain ⟨a0, a1, a2, b0, b1, f0, f1⟩ := HX.out.cells
  go_upto_region 2 with (first | (go_at_call 83; (with_reducible refine (Hc1.out _ HJ.out).mono ?_); rintro e w2 ⟨rfl, hb2⟩; replace HX := hidden (HX.out.call hb2); replace HJ := hidden (HJ.out.later hb2); clear a0 a1 a2 b0 b1 f0 f1; obtain ⟨a0, a1, a2, b0, b1, f0, f1⟩ := HX.out.cells; clear hb2) | fail)
  go_upto_region 3 with (first | (go_at_call 81; (with_reducible refine (Hc2.out _ HJ.out).mono ?_); rintro e w3 ⟨rfl, hb3⟩; replace HX := hidden (HX.out.call hb3); replace HJ := hidden (HJ.out.later hb3); clear a0 a1 a2 b0 b1 f0 f1; obtain ⟨a0, a1, a2, b0, b1, f0, f1⟩ := HX.out.cells; clear hb3) | fail)
  replace HX := hidden (HX.out.new (0) (0))
  replace HJ := hidden (HJ.out.later ((Below.refl _ _).alloc (Nat.le_refl _) (.cells #[.int .i64 (0), .int .i64 (0)] 91)))
  clear a0 a1 a2 b0 b1 f0 f1
  change Code.wp _ _ _ _ (w3.alloc (.cells #[.int .i64 (0), .int .i64 (0)] 91))
  generalize w3.alloc (.cells #[.int .i64 (0), .int .i64 (0)] 91) = w4 at *
  generalize w3.heap.size = H4 at *
  obtain ⟨a0, a1, a2, b0, b1, f0, f1⟩ := HX.out.b2.cells
  obtain ⟨h0, h1, g0, g1⟩ := HX.out.cells
  go_upto_region 5 with (first | (go_at_call 66; (with_reducible refine (ends_good _).mono ?_); rintro e w5 ⟨rfl, hb5⟩; replace HX := hidden (HX.out.call hb5); replace HJ := hidden (HJ.out.later hb5); clear a0 a1 a2 b0 b1 f0 f1; clear h0 h1 g0 g1; obtain ⟨a0, a1, a2, b0, b1, f0, f1⟩ := HX.out.b2.cells; obtain ⟨h0, h1, g0, g1⟩ := HX.out.cells; clear hb5) | fail)
  go_upto_region 6 with (first | (go_at_call 50; (with_reducible refine (Hc3.out _ HJ.out).mono ?_); rintro e w6 ⟨rfl, hb6⟩; replace HX := hidden (HX.out.call hb6); replace HJ := hidden (HJ.out.later hb6); clear a0 a1 a2 b0 b1 f0 f1; clear h0 h1 g0 g1; obtain ⟨a0, a1, a2, b0, b1, f0, f1⟩ := HX.out.b2.cells; obtain ⟨h0, h1, g0, g1⟩ := HX.out.cells; clear hb6) | fail)
  replace HX := hidden (HX.out.b2.new (s) (e))
  replace HJ := hidden (HJ.out.later ((Below.refl _ _).alloc (Nat.le_refl _) (.cells #[.int .i64 (s), .int .i64 (e)] 91)))
  clear a0 a1 a2 b0 b1 f0 f1 h0 h1 g0 g1
  change Code.wp _ _ _ _ (w6.alloc (.cells #[.int .i64 (s), .int .i64 (e)] 91))
  generalize w6.alloc (.cells #[.int .i64 (s), .int .i64 (e)] 91) = w7 at *
  generalize w6.heap.size = H7 at *
  obtain ⟨a0, a1, a2, b0, b1, f0, f1⟩ := HX.out.b2.cells
  obtain ⟨h0, h1, g0, g1⟩ := HX.out.cells
  have HXD := hidden (HX.out.call ((Below.refl _ _).drew))
  go_region_held3 (fun w' => w'.cell? ⟨w.heap.size, 0, none⟩ = some (.pointer (some ⟨m, 0, none⟩)) ∧ w'.cell? ⟨w.heap.size, 1, none⟩ = some (.slice (some ⟨pb, po, none⟩) 9 pc) ∧ w'.cell? ⟨w.heap.size, 2, none⟩ = some (.int .u32 j.att) ∧ w'.cell? ⟨H7, 0, none⟩ = some (.int .i64 (s)) ∧ w'.cell? ⟨H7, 1, none⟩ = some (.int .i64 (e))) (first | (refine ⟨?_, ?_, ?_, ?_, ?_⟩ <;> with_reducible assumption) | go_keep) (first | (go_at_call 69; (with_reducible refine (one_t _).mono ?_); rintro e w99 ⟨rfl, hb99⟩; have HX9 := hidden (HXD.out.call hb99); have HF := hidden (HX9.out.b2.fin (s) (e)); obtain ⟨a0, a1, a2, b0, b1, f0, f1⟩ := HX9.out.b2.cells; obtain ⟨h0, h1, g0, g1⟩ := HX9.out.cells; obtain ⟨k0, k1, k2, k3, k4⟩ := HX9.out.fink (s) (e); clear hb99) | fail)
  all_goals
    go_wp2
    obtain ⟨d0, d1, _⟩ := HF.out.1.cells
    refine bodyPost_ret (v := .tuple #[.int .u32 1, .agg #[.int .i64 (s), .int .i64 (e)]]) (by simp [results, Try.results71, go_sem, d0, d1]) rfl ⟨?_, HF.out.2⟩
    rfl
theorem oha_tf (j : Jb) (m pb po pc : Nat) (w : World) (J : JAt w j m (some ⟨pb, po, none⟩)) (a b : Nat) (s e : Int) (c1 : ∀ w, JAt w j m (some ⟨pb, po, none⟩) → Calls Try.prog 83 #[.agg #[.pointer (some ⟨m, 0, none⟩), .slice (some ⟨pb, po, none⟩) 9 pc, .int .u32 j.att], .int .u32 (b : Nat)] w fun r w' => r = .returned (.bool true) ∧ Below w.heap.size w w') (c2 : ∀ w, JAt w j m (some ⟨pb, po, none⟩) → Calls Try.prog 81 #[.agg #[.pointer (some ⟨m, 0, none⟩), .slice (some ⟨pb, po, none⟩) 9 pc, .int .u32 j.att], .int .u32 (a : Nat)] w fun r w' => r = .returned (.tuple #[.bool false, .agg #[.int .i64 0, .int .i64 0]]) ∧ Below w.heap.size w w') (c3 : ∀ w, JAt w j m (some ⟨pb, po, none⟩) → Calls Try.prog 50 #[.agg #[.pointer (some ⟨m, 0, none⟩), .slice (some ⟨pb, po, none⟩) 9 pc, .int .u32 j.att], .int .u32 (a : Nat), .int .u32 (b : Nat)] w fun r w' => r = .returned (.tuple #[.int .u32 0, .agg #[.int .i64 s, .int .i64 e]]) ∧ Below w.heap.size w w') :
    Calls Try.prog 71 #[.agg #[.pointer (some ⟨m, 0, none⟩), .slice (some ⟨pb, po, none⟩) 9 pc, .int .u32 j.att], .int .u32 (a : Nat), .int .u32 (b : Nat)] w fun r w' => r = .returned (.tuple #[.int .u32 0, .agg #[.int .i64 s, .int .i64 e]]) ∧ Below w.heap.size w w' := by
  have Hc1 := hidden c1
  have Hc2 := hidden c2
  have Hc3 := hidden c3
  clear c1 c2 c3
  have HX := hidden (Bx2.start w m (some ⟨pb, po, none⟩) pc j.att)
  go_enter Try.func71, Try.ntmps71
  go_upto_region 1 with fail
  generalize (w.alloc (.cells #[.pointer (some ⟨m, 0, none⟩), .slice (some ⟨pb, po, none⟩) 9 pc, .int .u32 j.att] 94)).alloc (.cells #[.int .i64 0, .int .i64 0] 91) = w1 at *
  have HJ := hidden (J.later HX.out.bel)
  obtain ⟨a0, a1, a2, b0, b1, f0, f1⟩ := HX.out.cells
  go_upto_region 2 with (first | (go_at_call 83; (with_reducible refine (Hc1.out _ HJ.out).mono ?_); rintro e w2 ⟨rfl, hb2⟩; replace HX := hidden (HX.out.call hb2); replace HJ := hidden (HJ.out.later hb2); clear a0 a1 a2 b0 b1 f0 f1; obtain ⟨a0, a1, a2, b0, b1, f0, f1⟩ := HX.out.cells; clear hb2) | fail)
  go_upto_region 3 with (first | (go_at_call 81; (with_reducible refine (Hc2.out _ HJ.out).mono ?_); rintro e w3 ⟨rfl, hb3⟩; replace HX := hidden (HX.out.call hb3); replace HJ := hidden (HJ.out.later hb3); clear a0 a1 a2 b0 b1 f0 f1; obtain ⟨a0, a1, a2, b0, b1, f0, f1⟩ := HX.out.cells; clear hb3) | fail)
  replace HX := hidden (HX.out.new (0) (0))
  replace HJ := hidden (HJ.out.later ((Below.refl _ _).alloc (Nat.le_refl _) (.cells #[.int .i64 (0), .int .i64 (0)] 91)))
  clear a0 a1 a2 b0 b1 f0 f1
  change Code.wp _ _ _ _ (w3.alloc (.cells #[.int .i64 (0), .int .i64 (0)] 91))
  generalize w3.alloc (.cells #[.int .i64 (0), .int .i64 (0)] 91) = w4 at *
  generalize w3.heap.size = H4 at *
  obtain ⟨a0, a1, a2, b0, b1, f0, f1⟩ := HX.out.b2.cells
  obtain ⟨h0, h1, g0, g1⟩ := HX.out.cells
  go_upto_region 5 with (first | (go_at_call 66; (with_reducible refine (ends_good _).mono ?_); rintro e w5 ⟨rfl, hb5⟩; replace HX := hidden (HX.out.call hb5); replace HJ := hidden (HJ.out.later hb5); clear a0 a1 a2 b0 b1 f0 f1; clear h0 h1 g0 g1; obtain ⟨a0, a1, a2, b0, b1, f0, f1⟩ := HX.out.b2.cells; obtain ⟨h0, h1, g0, g1⟩ := HX.out.cells; clear hb5) | fail)
  go_upto_region 6 with (first | (go_at_call 50; (with_reducible refine (Hc3.out _ HJ.out).mono ?_); rintro e w6 ⟨rfl, hb6⟩; replace HX := hidden (HX.out.call hb6); replace HJ := hidden (HJ.out.later hb6); clear a0 a1 a2 b0 b1 f0 f1; clear h0 h1 g0 g1; obtain ⟨a0, a1, a2, b0, b1, f0, f1⟩ := HX.out.b2.cells; obtain ⟨h0, h1, g0, g1⟩ := HX.out.cells; clear hb6) | fail)
  replace HX := hidden (HX.out.b2.new (s) (e))
  replace HJ := hidden (HJ.out.later ((Below.refl _ _).alloc (Nat.le_refl _) (.cells #[.int .i64 (s), .int .i64 (e)] 91)))
  clear a0 a1 a2 b0 b1 f0 f1 h0 h1 g0 g1
  change Code.wp _ _ _ _ (w6.alloc (.cells #[.int .i64 (s), .int .i64 (e)] 91))
  generalize w6.alloc (.cells #[.int .i64 (s), .int .i64 (e)] 91) = w7 at *
  generalize w6.heap.size = H7 at *
  obtain ⟨a0, a1, a2, b0, b1, f0, f1⟩ := HX.out.b2.cells
  obtain ⟨h0, h1, g0, g1⟩ := HX.out.cells
  have HXD := hidden (HX.out.call ((Below.refl _ _).drew))
  go_region_held3 (fun w' => w'.cell? ⟨w.heap.size, 0, none⟩ = some (.pointer (some ⟨m, 0, none⟩)) ∧ w'.cell? ⟨w.heap.size, 1, none⟩ = some (.slice (some ⟨pb, po, none⟩) 9 pc) ∧ w'.cell? ⟨w.heap.size, 2, none⟩ = some (.int .u32 j.att) ∧ w'.cell? ⟨H7, 0, none⟩ = some (.int .i64 (s)) ∧ w'.cell? ⟨H7, 1, none⟩ = some (.int .i64 (e))) (first | (refine ⟨?_, ?_, ?_, ?_, ?_⟩ <;> with_reducible assumption) | go_keep) (first | (go_at_call 69; (with_reducible refine (one_f _).mono ?_); rintro e w99 ⟨rfl, hb99⟩; have HX9 := hidden (HXD.out.call hb99); have HF := hidden (HX9.out.b2.fin (s) (e)); obtain ⟨a0, a1, a2, b0, b1, f0, f1⟩ := HX9.out.b2.cells; obtain ⟨h0, h1, g0, g1⟩ := HX9.out.cells; obtain ⟨k0, k1, k2, k3, k4⟩ := HX9.out.fink (s) (e); clear hb99) | fail)
  all_goals
    go_wp2
    obtain ⟨d0, d1, _⟩ := HF.out.1.cells
    refine bodyPost_ret (v := .tuple #[.int .u32 0, .agg #[.int .i64 (s), .int .i64 (e)]]) (by simp [results, Try.results71, go_sem, d0, d1]) rfl ⟨?_, HF.out.2⟩
    rfl
theorem oha_ft (j : Jb) (m pb po pc : Nat) (w : World) (J : JAt w j m (some ⟨pb, po, none⟩)) (a b x : Nat) (s e : Int) (hx : ¬ x = 0) (c1 : ∀ w, JAt w j m (some ⟨pb, po, none⟩) → Calls Try.prog 83 #[.agg #[.pointer (some ⟨m, 0, none⟩), .slice (some ⟨pb, po, none⟩) 9 pc, .int .u32 j.att], .int .u32 (b : Nat)] w fun r w' => r = .returned (.bool false) ∧ Below w.heap.size w w') (c3 : ∀ w, JAt w j m (some ⟨pb, po, none⟩) → Calls Try.prog 50 #[.agg #[.pointer (some ⟨m, 0, none⟩), .slice (some ⟨pb, po, none⟩) 9 pc, .int .u32 j.att], .int .u32 (a : Nat), .int .u32 (b : Nat)] w fun r w' => r = .returned (.tuple #[.int .u32 (x : Nat), .agg #[.int .i64 s, .int .i64 e]]) ∧ Below w.heap.size w w') :
    Calls Try.prog 71 #[.agg #[.pointer (some ⟨m, 0, none⟩), .slice (some ⟨pb, po, none⟩) 9 pc, .int .u32 j.att], .int .u32 (a : Nat), .int .u32 (b : Nat)] w fun r w' => r = .returned (.tuple #[.int .u32 1, .agg #[.int .i64 s, .int .i64 e]]) ∧ Below w.heap.size w w' := by
  have Hc1 := hidden c1
  have Hc3 := hidden c3
  have q : ((x : Int) == 0) = false := by rw [beq_eq_false_iff_ne]; omega
  have qn : ((x : Int) != 0) = true := by rw [bne, q]; rfl
  clear hx
  clear c1 c3
  have HX := hidden (Bx2.start w m (some ⟨pb, po, none⟩) pc j.att)
  go_enter Try.func71, Try.ntmps71
  go_upto_region 1 with fail
  generalize (w.alloc (.cells #[.pointer (some ⟨m, 0, none⟩), .slice (some ⟨pb, po, none⟩) 9 pc, .int .u32 j.att] 94)).alloc (.cells #[.int .i64 0, .int .i64 0] 91) = w1 at *
  have HJ := hidden (J.later HX.out.bel)
  obtain ⟨a0, a1, a2, b0, b1, f0, f1⟩ := HX.out.cells
  go_upto_region 5 with (first | (go_at_call 83; (with_reducible refine (Hc1.out _ HJ.out).mono ?_); rintro e w2 ⟨rfl, hb2⟩; replace HX := hidden (HX.out.call hb2); replace HJ := hidden (HJ.out.later hb2); clear a0 a1 a2 b0 b1 f0 f1; obtain ⟨a0, a1, a2, b0, b1, f0, f1⟩ := HX.out.cells; clear hb2) | fail)
  go_upto_region 6 with (first | (go_at_call 50; (with_reducible refine (Hc3.out _ HJ.out).mono ?_); rintro e w3 ⟨rfl, hb3⟩; replace HX := hidden (HX.out.call hb3); replace HJ := hidden (HJ.out.later hb3); clear a0 a1 a2 b0 b1 f0 f1; obtain ⟨a0, a1, a2, b0, b1, f0, f1⟩ := HX.out.cells; clear hb3) | fail)
  replace HX := hidden (HX.out.new (s) (e))
  replace HJ := hidden (HJ.out.later ((Below.refl _ _).alloc (Nat.le_refl _) (.cells #[.int .i64 (s), .int .i64 (e)] 91)))
  clear a0 a1 a2 b0 b1 f0 f1
  change Code.wp _ _ _ _ (w3.alloc (.cells #[.int .i64 (s), .int .i64 (e)] 91))
  generalize w3.alloc (.cells #[.int .i64 (s), .int .i64 (e)] 91) = w4 at *
  generalize w3.heap.size = H4 at *
  obtain ⟨a0, a1, a2, b0, b1, f0, f1⟩ := HX.out.b2.cells
  obtain ⟨h0, h1, g0, g1⟩ := HX.out.cells
  have HXD := hidden (HX.out.call ((Below.refl _ _).drew))
  go_region_held3 (fun w' => w'.cell? ⟨w.heap.size, 0, none⟩ = some (.pointer (some ⟨m, 0, none⟩)) ∧ w'.cell? ⟨w.heap.size, 1, none⟩ = some (.slice (some ⟨pb, po, none⟩) 9 pc) ∧ w'.cell? ⟨w.heap.size, 2, none⟩ = some (.int .u32 j.att) ∧ w'.cell? ⟨H4, 0, none⟩ = some (.int .i64 (s)) ∧ w'.cell? ⟨H4, 1, none⟩ = some (.int .i64 (e))) (first | (refine ⟨?_, ?_, ?_, ?_, ?_⟩ <;> with_reducible assumption) | go_keep) (first | (go_at_call 69; (with_reducible refine (one_t _).mono ?_); rintro e w99 ⟨rfl, hb99⟩; have HX9 := hidden (HXD.out.call hb99); have HF := hidden (HX9.out.b2.fin (s) (e)); obtain ⟨a0, a1, a2, b0, b1, f0, f1⟩ := HX9.out.b2.cells; obtain ⟨h0, h1, g0, g1⟩ := HX9.out.cells; obtain ⟨k0, k1, k2, k3, k4⟩ := HX9.out.fink (s) (e); clear hb99) | fail)
  all_goals
    go_wp2
    obtain ⟨d0, d1, _⟩ := HF.out.1.cells
    refine bodyPost_ret (v := .tuple #[.int .u32 1, .agg #[.int .i64 (s), .int .i64 (e)]]) (by simp [results, Try.results71, go_sem, d0, d1]) rfl ⟨?_, HF.out.2⟩
    rfl
theorem oha_ff (j : Jb) (m pb po pc : Nat) (w : World) (J : JAt w j m (some ⟨pb, po, none⟩)) (a b : Nat) (s e : Int) (c1 : ∀ w, JAt w j m (some ⟨pb, po, none⟩) → Calls Try.prog 83 #[.agg #[.pointer (some ⟨m, 0, none⟩), .slice (some ⟨pb, po, none⟩) 9 pc, .int .u32 j.att], .int .u32 (b : Nat)] w fun r w' => r = .returned (.bool false) ∧ Below w.heap.size w w') (c3 : ∀ w, JAt w j m (some ⟨pb, po, none⟩) → Calls Try.prog 50 #[.agg #[.pointer (some ⟨m, 0, none⟩), .slice (some ⟨pb, po, none⟩) 9 pc, .int .u32 j.att], .int .u32 (a : Nat), .int .u32 (b : Nat)] w fun r w' => r = .returned (.tuple #[.int .u32 0, .agg #[.int .i64 s, .int .i64 e]]) ∧ Below w.heap.size w w') :
    Calls Try.prog 71 #[.agg #[.pointer (some ⟨m, 0, none⟩), .slice (some ⟨pb, po, none⟩) 9 pc, .int .u32 j.att], .int .u32 (a : Nat), .int .u32 (b : Nat)] w fun r w' => r = .returned (.tuple #[.int .u32 0, .agg #[.int .i64 s, .int .i64 e]]) ∧ Below w.heap.size w w' := by
  have Hc1 := hidden c1
  have Hc3 := hidden c3
  clear c1 c3
  have HX := hidden (Bx2.start w m (some ⟨pb, po, none⟩) pc j.att)
  go_enter Try.func71, Try.ntmps71
  go_upto_region 1 with fail
  generalize (w.alloc (.cells #[.pointer (some ⟨m, 0, none⟩), .slice (some ⟨pb, po, none⟩) 9 pc, .int .u32 j.att] 94)).alloc (.cells #[.int .i64 0, .int .i64 0] 91) = w1 at *
  have HJ := hidden (J.later HX.out.bel)
  obtain ⟨a0, a1, a2, b0, b1, f0, f1⟩ := HX.out.cells
  go_upto_region 5 with (first | (go_at_call 83; (with_reducible refine (Hc1.out _ HJ.out).mono ?_); rintro e w2 ⟨rfl, hb2⟩; replace HX := hidden (HX.out.call hb2); replace HJ := hidden (HJ.out.later hb2); clear a0 a1 a2 b0 b1 f0 f1; obtain ⟨a0, a1, a2, b0, b1, f0, f1⟩ := HX.out.cells; clear hb2) | fail)
  go_upto_region 6 with (first | (go_at_call 50; (with_reducible refine (Hc3.out _ HJ.out).mono ?_); rintro e w3 ⟨rfl, hb3⟩; replace HX := hidden (HX.out.call hb3); replace HJ := hidden (HJ.out.later hb3); clear a0 a1 a2 b0 b1 f0 f1; obtain ⟨a0, a1, a2, b0, b1, f0, f1⟩ := HX.out.cells; clear hb3) | fail)
  replace HX := hidden (HX.out.new (s) (e))
  replace HJ := hidden (HJ.out.later ((Below.refl _ _).alloc (Nat.le_refl _) (.cells #[.int .i64 (s), .int .i64 (e)] 91)))
  clear a0 a1 a2 b0 b1 f0 f1
  change Code.wp _ _ _ _ (w3.alloc (.cells #[.int .i64 (s), .int .i64 (e)] 91))
  generalize w3.alloc (.cells #[.int .i64 (s), .int .i64 (e)] 91) = w4 at *
  generalize w3.heap.size = H4 at *
  obtain ⟨a0, a1, a2, b0, b1, f0, f1⟩ := HX.out.b2.cells
  obtain ⟨h0, h1, g0, g1⟩ := HX.out.cells
  have HXD := hidden (HX.out.call ((Below.refl _ _).drew))
  go_region_held3 (fun w' => w'.cell? ⟨w.heap.size, 0, none⟩ = some (.pointer (some ⟨m, 0, none⟩)) ∧ w'.cell? ⟨w.heap.size, 1, none⟩ = some (.slice (some ⟨pb, po, none⟩) 9 pc) ∧ w'.cell? ⟨w.heap.size, 2, none⟩ = some (.int .u32 j.att) ∧ w'.cell? ⟨H4, 0, none⟩ = some (.int .i64 (s)) ∧ w'.cell? ⟨H4, 1, none⟩ = some (.int .i64 (e))) (first | (refine ⟨?_, ?_, ?_, ?_, ?_⟩ <;> with_reducible assumption) | go_keep) (first | (go_at_call 69; (with_reducible refine (one_f _).mono ?_); rintro e w99 ⟨rfl, hb99⟩; have HX9 := hidden (HXD.out.call hb99); have HF := hidden (HX9.out.b2.fin (s) (e)); obtain ⟨a0, a1, a2, b0, b1, f0, f1⟩ := HX9.out.b2.cells; obtain ⟨h0, h1, g0, g1⟩ := HX9.out.cells; obtain ⟨k0, k1, k2, k3, k4⟩ := HX9.out.fink (s) (e); clear hb99) | fail)
  all_goals
    go_wp2
    obtain ⟨d0, d1, _⟩ := HF.out.1.cells
    refine bodyPost_ret (v := .tuple #[.int .u32 0, .agg #[.int .i64 (s), .int .i64 (e)]]) (by simp [results, Try.results71, go_sem, d0, d1]) rfl ⟨?_, HF.out.2⟩
    rfl
end Go.Proofs.Ytpgppdkbkkljnaa
namespace Go.Proofs.Ytpgppdkbkkljnaa
open Go.RowKit
set_option maxHeartbeats 1000000
set_option maxRecDepth 100000
set_option linter.unusedVariables false

theorem has_1a (j : Jb) (m pb po pc : Nat) (w : World) (J : JAt w j m (some ⟨pb, po, none⟩)) (a b : Nat) (i6n : Nat) (e6 : ((j.p 1 : Int) + 6) % 4294967296 = (i6n : Int)) (h6 : b = i6n) (c1 : ∀ w, JAt w j m (some ⟨pb, po, none⟩) → Calls Try.prog 48 #[.agg #[.pointer (some ⟨m, 0, none⟩), .slice (some ⟨pb, po, none⟩) 9 pc, .int .u32 j.att], .int .u32 (a : Nat)] w fun r w' => r = .returned (.int .u32 3) ∧ Below w.heap.size w w') :
    Calls Try.prog 54 #[.agg #[.pointer (some ⟨m, 0, none⟩), .slice (some ⟨pb, po, none⟩) 9 pc, .int .u32 j.att], .int .u32 (a : Nat), .int .u32 (b : Nat)] w fun r w' => r = .returned (.tuple #[.int .u32 1, .agg #[.int .i64 0, .int .i64 0]]) ∧ Below w.heap.size w w' := by
  have Hc1 := hidden c1
  have i6 : ((b : Int) == (i6n : Int)) = true := by rw [h6]; simp
  clear h6
  clear c1
  have HX := hidden (Bx2.start w m (some ⟨pb, po, none⟩) pc j.att)
  go_enter Try.func54, Try.ntmps54
  go_upto_region 1 with fail
  generalize (w.alloc (.cells #[.pointer (some ⟨m, 0, none⟩), .slice (some ⟨pb, po, none⟩) 9 pc, .int .u32 j.att] 94)).alloc (.cells #[.int .i64 0, .int .i64 0] 91) = w1 at *
  have HJ := hidden (J.later HX.out.bel)
  obtain ⟨a0, a1, a2, b0, b1, f0, f1⟩ := HX.out.cells
  have p1 := HJ.out.cell 1 (by omega)
  go_upto_region 2 with fail
  clear p1
  go_upto_region 3 with (first | (go_at_call 48; (with_reducible refine (Hc1.out _ HJ.out).mono ?_); rintro e w2 ⟨rfl, hb2⟩; replace HX := hidden (HX.out.call hb2); replace HJ := hidden (HJ.out.later hb2); clear a0 a1 a2 b0 b1 f0 f1; obtain ⟨a0, a1, a2, b0, b1, f0, f1⟩ := HX.out.cells; clear hb2) | fail)
  go_wp2_with (first | (go_at_call 69; (with_reducible refine (one_t _).mono ?_); rintro e w99 ⟨rfl, hb99⟩; have HX9 := hidden (HX.out.call hb99); have HF := hidden (HX9.out.fin (0) (0)); clear hb99; obtain ⟨a0, a1, a2, b0, b1, f0, f1⟩ := HX9.out.cells) | fail)
  all_goals
    go_wp2
    obtain ⟨d0, d1, _⟩ := HF.out.1.cells
    refine bodyPost_ret (v := .tuple #[.int .u32 1, .agg #[.int .i64 (0), .int .i64 (0)]]) (by simp [results, Try.results54, go_sem, d0, d1]) rfl ⟨?_, HF.out.2⟩
    rfl
theorem has_1b (j : Jb) (m pb po pc : Nat) (w : World) (J : JAt w j m (some ⟨pb, po, none⟩)) (a b : Nat) (i6n : Nat) (e6 : ((j.p 1 : Int) + 6) % 4294967296 = (i6n : Int)) (i7n : Nat) (e7 : ((j.p 1 : Int) + 7) % 4294967296 = (i7n : Int)) (h6 : ¬ b = i6n) (h7 : b = i7n) (c1 : ∀ w, JAt w j m (some ⟨pb, po, none⟩) → Calls Try.prog 48 #[.agg #[.pointer (some ⟨m, 0, none⟩), .slice (some ⟨pb, po, none⟩) 9 pc, .int .u32 j.att], .int .u32 (a : Nat)] w fun r w' => r = .returned (.int .u32 3) ∧ Below w.heap.size w w') :
    Calls Try.prog 54 #[.agg #[.pointer (some ⟨m, 0, none⟩), .slice (some ⟨pb, po, none⟩) 9 pc, .int .u32 j.att], .int .u32 (a : Nat), .int .u32 (b : Nat)] w fun r w' => r = .returned (.tuple #[.int .u32 1, .agg #[.int .i64 0, .int .i64 0]]) ∧ Below w.heap.size w w' := by
  have Hc1 := hidden c1
  have i6 : ((b : Int) == (i6n : Int)) = false := by rw [beq_eq_false_iff_ne]; omega
  have i7 : ((b : Int) == (i7n : Int)) = true := by rw [h7]; simp
  clear h6 h7
  clear c1
  have HX := hidden (Bx2.start w m (some ⟨pb, po, none⟩) pc j.att)
  go_enter Try.func54, Try.ntmps54
  go_upto_region 1 with fail
  generalize (w.alloc (.cells #[.pointer (some ⟨m, 0, none⟩), .slice (some ⟨pb, po, none⟩) 9 pc, .int .u32 j.att] 94)).alloc (.cells #[.int .i64 0, .int .i64 0] 91) = w1 at *
  have HJ := hidden (J.later HX.out.bel)
  obtain ⟨a0, a1, a2, b0, b1, f0, f1⟩ := HX.out.cells
  have p1 := HJ.out.cell 1 (by omega)
  go_upto_region 2 with fail
  clear p1
  go_upto_region 3 with (first | (go_at_call 48; (with_reducible refine (Hc1.out _ HJ.out).mono ?_); rintro e w2 ⟨rfl, hb2⟩; replace HX := hidden (HX.out.call hb2); replace HJ := hidden (HJ.out.later hb2); clear a0 a1 a2 b0 b1 f0 f1; obtain ⟨a0, a1, a2, b0, b1, f0, f1⟩ := HX.out.cells; clear hb2) | fail)
  go_wp2_with (first | (go_at_call 69; (with_reducible refine (one_t _).mono ?_); rintro e w99 ⟨rfl, hb99⟩; have HX9 := hidden (HX.out.call hb99); have HF := hidden (HX9.out.fin (0) (0)); clear hb99; obtain ⟨a0, a1, a2, b0, b1, f0, f1⟩ := HX9.out.cells) | fail)
  all_goals
    go_wp2
    obtain ⟨d0, d1, _⟩ := HF.out.1.cells
    refine bodyPost_ret (v := .tuple #[.int .u32 1, .agg #[.int .i64 (0), .int .i64 (0)]]) (by simp [results, Try.results54, go_sem, d0, d1]) rfl ⟨?_, HF.out.2⟩
    rfl
theorem has_1c (j : Jb) (m pb po pc : Nat) (w : World) (J : JAt w j m (some ⟨pb, po, none⟩)) (a b : Nat) (i6n : Nat) (e6 : ((j.p 1 : Int) + 6) % 4294967296 = (i6n : Int)) (i7n : Nat) (e7 : ((j.p 1 : Int) + 7) % 4294967296 = (i7n : Int)) (h6 : ¬ b = i6n) (h7 : ¬ b = i7n) (c1 : ∀ w, JAt w j m (some ⟨pb, po, none⟩) → Calls Try.prog 48 #[.agg #[.pointer (some ⟨m, 0, none⟩), .slice (some ⟨pb, po, none⟩) 9 pc, .int .u32 j.att], .int .u32 (a : Nat)] w fun r w' => r = .returned (.int .u32 3) ∧ Below w.heap.size w w') :
    Calls Try.prog 54 #[.agg #[.pointer (some ⟨m, 0, none⟩), .slice (some ⟨pb, po, none⟩) 9 pc, .int .u32 j.att], .int .u32 (a : Nat), .int .u32 (b : Nat)] w fun r w' => r = .returned (.tuple #[.int .u32 0, .agg #[.int .i64 0, .int .i64 0]]) ∧ Below w.heap.size w w' := by
  have Hc1 := hidden c1
  have i6 : ((b : Int) == (i6n : Int)) = false := by rw [beq_eq_false_iff_ne]; omega
  have i7 : ((b : Int) == (i7n : Int)) = false := by rw [beq_eq_false_iff_ne]; omega
  clear h6 h7
  clear c1
  have HX := hidden (Bx2.start w m (some ⟨pb, po, none⟩) pc j.att)
  go_enter Try.func54, Try.ntmps54
  go_upto_region 1 with fail
  generalize (w.alloc (.cells #[.pointer (some ⟨m, 0, none⟩), .slice (some ⟨pb, po, none⟩) 9 pc, .int .u32 j.att] 94)).alloc (.cells #[.int .i64 0, .int .i64 0] 91) = w1 at *
  have HJ := hidden (J.later HX.out.bel)
  obtain ⟨a0, a1, a2, b0, b1, f0, f1⟩ := HX.out.cells
  have p1 := HJ.out.cell 1 (by omega)
  go_upto_region 2 with fail
  clear p1
  go_upto_region 3 with (first | (go_at_call 48; (with_reducible refine (Hc1.out _ HJ.out).mono ?_); rintro e w2 ⟨rfl, hb2⟩; replace HX := hidden (HX.out.call hb2); replace HJ := hidden (HJ.out.later hb2); clear a0 a1 a2 b0 b1 f0 f1; obtain ⟨a0, a1, a2, b0, b1, f0, f1⟩ := HX.out.cells; clear hb2) | fail)
  go_wp2_with (first | (go_at_call 69; (with_reducible refine (one_f _).mono ?_); rintro e w99 ⟨rfl, hb99⟩; have HX9 := hidden (HX.out.call hb99); have HF := hidden (HX9.out.fin (0) (0)); clear hb99; obtain ⟨a0, a1, a2, b0, b1, f0, f1⟩ := HX9.out.cells) | fail)
  all_goals
    go_wp2
    obtain ⟨d0, d1, _⟩ := HF.out.1.cells
    refine bodyPost_ret (v := .tuple #[.int .u32 0, .agg #[.int .i64 (0), .int .i64 (0)]]) (by simp [results, Try.results54, go_sem, d0, d1]) rfl ⟨?_, HF.out.2⟩
    rfl
theorem has_2a (j : Jb) (m pb po pc : Nat) (w : World) (J : JAt w j m (some ⟨pb, po, none⟩)) (a b : Nat) (i5n : Nat) (e5 : ((j.p 1 : Int) + 5) % 4294967296 = (i5n : Int)) (h5 : b = i5n) (c1 : ∀ w, JAt w j m (some ⟨pb, po, none⟩) → Calls Try.prog 48 #[.agg #[.pointer (some ⟨m, 0, none⟩), .slice (some ⟨pb, po, none⟩) 9 pc, .int .u32 j.att], .int .u32 (a : Nat)] w fun r w' => r = .returned (.int .u32 2) ∧ Below w.heap.size w w') :
    Calls Try.prog 54 #[.agg #[.pointer (some ⟨m, 0, none⟩), .slice (some ⟨pb, po, none⟩) 9 pc, .int .u32 j.att], .int .u32 (a : Nat), .int .u32 (b : Nat)] w fun r w' => r = .returned (.tuple #[.int .u32 1, .agg #[.int .i64 0, .int .i64 0]]) ∧ Below w.heap.size w w' := by
  have Hc1 := hidden c1
  have i5 : ((b : Int) == (i5n : Int)) = true := by rw [h5]; simp
  clear h5
  clear c1
  have HX := hidden (Bx2.start w m (some ⟨pb, po, none⟩) pc j.att)
  go_enter Try.func54, Try.ntmps54
  go_upto_region 1 with fail
  generalize (w.alloc (.cells #[.pointer (some ⟨m, 0, none⟩), .slice (some ⟨pb, po, none⟩) 9 pc, .int .u32 j.att] 94)).alloc (.cells #[.int .i64 0, .int .i64 0] 91) = w1 at *
  have HJ := hidden (J.later HX.out.bel)
  obtain ⟨a0, a1, a2, b0, b1, f0, f1⟩ := HX.out.cells
  have p1 := HJ.out.cell 1 (by omega)
  go_upto_region 2 with fail
  clear p1
  go_upto_region 3 with (first | (go_at_call 48; (with_reducible refine (Hc1.out _ HJ.out).mono ?_); rintro e w2 ⟨rfl, hb2⟩; replace HX := hidden (HX.out.call hb2); replace HJ := hidden (HJ.out.later hb2); clear a0 a1 a2 b0 b1 f0 f1; obtain ⟨a0, a1, a2, b0, b1, f0, f1⟩ := HX.out.cells; clear hb2) | fail)
  go_wp2_with (first | (go_at_call 69; (with_reducible refine (one_t _).mono ?_); rintro e w99 ⟨rfl, hb99⟩; have HX9 := hidden (HX.out.call hb99); have HF := hidden (HX9.out.fin (0) (0)); clear hb99; obtain ⟨a0, a1, a2, b0, b1, f0, f1⟩ := HX9.out.cells) | fail)
  all_goals
    go_wp2
    obtain ⟨d0, d1, _⟩ := HF.out.1.cells
    refine bodyPost_ret (v := .tuple #[.int .u32 1, .agg #[.int .i64 (0), .int .i64 (0)]]) (by simp [results, Try.results54, go_sem, d0, d1]) rfl ⟨?_, HF.out.2⟩
    rfl
theorem has_2b (j : Jb) (m pb po pc : Nat) (w : World) (J : JAt w j m (some ⟨pb, po, none⟩)) (a b : Nat) (i5n : Nat) (e5 : ((j.p 1 : Int) + 5) % 4294967296 = (i5n : Int)) (h5 : ¬ b = i5n) (c1 : ∀ w, JAt w j m (some ⟨pb, po, none⟩) → Calls Try.prog 48 #[.agg #[.pointer (some ⟨m, 0, none⟩), .slice (some ⟨pb, po, none⟩) 9 pc, .int .u32 j.att], .int .u32 (a : Nat)] w fun r w' => r = .returned (.int .u32 2) ∧ Below w.heap.size w w') :
    Calls Try.prog 54 #[.agg #[.pointer (some ⟨m, 0, none⟩), .slice (some ⟨pb, po, none⟩) 9 pc, .int .u32 j.att], .int .u32 (a : Nat), .int .u32 (b : Nat)] w fun r w' => r = .returned (.tuple #[.int .u32 0, .agg #[.int .i64 0, .int .i64 0]]) ∧ Below w.heap.size w w' := by
  have Hc1 := hidden c1
  have i5 : ((b : Int) == (i5n : Int)) = false := by rw [beq_eq_false_iff_ne]; omega
  clear h5
  clear c1
  have HX := hidden (Bx2.start w m (some ⟨pb, po, none⟩) pc j.att)
  go_enter Try.func54, Try.ntmps54
  go_upto_region 1 with fail
  generalize (w.alloc (.cells #[.pointer (some ⟨m, 0, none⟩), .slice (some ⟨pb, po, none⟩) 9 pc, .int .u32 j.att] 94)).alloc (.cells #[.int .i64 0, .int .i64 0] 91) = w1 at *
  have HJ := hidden (J.later HX.out.bel)
  obtain ⟨a0, a1, a2, b0, b1, f0, f1⟩ := HX.out.cells
  have p1 := HJ.out.cell 1 (by omega)
  go_upto_region 2 with fail
  clear p1
  go_upto_region 3 with (first | (go_at_call 48; (with_reducible refine (Hc1.out _ HJ.out).mono ?_); rintro e w2 ⟨rfl, hb2⟩; replace HX := hidden (HX.out.call hb2); replace HJ := hidden (HJ.out.later hb2); clear a0 a1 a2 b0 b1 f0 f1; obtain ⟨a0, a1, a2, b0, b1, f0, f1⟩ := HX.out.cells; clear hb2) | fail)
  go_wp2_with (first | (go_at_call 69; (with_reducible refine (one_f _).mono ?_); rintro e w99 ⟨rfl, hb99⟩; have HX9 := hidden (HX.out.call hb99); have HF := hidden (HX9.out.fin (0) (0)); clear hb99; obtain ⟨a0, a1, a2, b0, b1, f0, f1⟩ := HX9.out.cells) | fail)
  all_goals
    go_wp2
    obtain ⟨d0, d1, _⟩ := HF.out.1.cells
    refine bodyPost_ret (v := .tuple #[.int .u32 0, .agg #[.int .i64 (0), .int .i64 (0)]]) (by simp [results, Try.results54, go_sem, d0, d1]) rfl ⟨?_, HF.out.2⟩
    rfl
theorem has_3 (j : Jb) (m pb po pc : Nat) (w : World) (J : JAt w j m (some ⟨pb, po, none⟩)) (a b x : Nat) (s e : Int) (c1 : ∀ w, JAt w j m (some ⟨pb, po, none⟩) → Calls Try.prog 48 #[.agg #[.pointer (some ⟨m, 0, none⟩), .slice (some ⟨pb, po, none⟩) 9 pc, .int .u32 j.att], .int .u32 (a : Nat)] w fun r w' => r = .returned (.int .u32 1) ∧ Below w.heap.size w w') (c2 : ∀ w, JAt w j m (some ⟨pb, po, none⟩) → Calls Try.prog 71 #[.agg #[.pointer (some ⟨m, 0, none⟩), .slice (some ⟨pb, po, none⟩) 9 pc, .int .u32 j.att], .int .u32 (a : Nat), .int .u32 (b : Nat)] w fun r w' => r = .returned (.tuple #[.int .u32 (x : Nat), .agg #[.int .i64 s, .int .i64 e]]) ∧ Below w.heap.size w w') :
    Calls Try.prog 54 #[.agg #[.pointer (some ⟨m, 0, none⟩), .slice (some ⟨pb, po, none⟩) 9 pc, .int .u32 j.att], .int .u32 (a : Nat), .int .u32 (b : Nat)] w fun r w' => r = .returned (.tuple #[.int .u32 (x : Nat), .agg #[.int .i64 s, .int .i64 e]]) ∧ Below w.heap.size w w' := by
  have Hc1 := hidden c1
  have Hc2 := hidden c2
  clear c1 c2
  have HX := hidden (Bx2.start w m (some ⟨pb, po, none⟩) pc j.att)
  go_enter Try.func54, Try.ntmps54
  go_upto_region 1 with fail
  generalize (w.alloc (.cells #[.pointer (some ⟨m, 0, none⟩), .slice (some ⟨pb, po, none⟩) 9 pc, .int .u32 j.att] 94)).alloc (.cells #[.int .i64 0, .int .i64 0] 91) = w1 at *
  have HJ := hidden (J.later HX.out.bel)
  obtain ⟨a0, a1, a2, b0, b1, f0, f1⟩ := HX.out.cells
  have p1 := HJ.out.cell 1 (by omega)
  go_upto_region 2 with fail
  clear p1
  go_upto_region 3 with (first | (go_at_call 48; (with_reducible refine (Hc1.out _ HJ.out).mono ?_); rintro e w2 ⟨rfl, hb2⟩; replace HX := hidden (HX.out.call hb2); replace HJ := hidden (HJ.out.later hb2); clear a0 a1 a2 b0 b1 f0 f1; obtain ⟨a0, a1, a2, b0, b1, f0, f1⟩ := HX.out.cells; clear hb2) | fail)
  go_wp2_with (first | (go_at_call 71; (with_reducible refine (Hc2.out _ HJ.out).mono ?_); rintro e w99 ⟨rfl, hb99⟩; have HX9 := hidden (HX.out.call hb99); have HF := hidden (HX9.out.fin (s) (e)); clear hb99; obtain ⟨a0, a1, a2, b0, b1, f0, f1⟩ := HX9.out.cells) | fail)
  all_goals
    go_wp2
    obtain ⟨d0, d1, _⟩ := HF.out.1.cells
    refine bodyPost_ret (v := .tuple #[.int .u32 (x : Nat), .agg #[.int .i64 (s), .int .i64 (e)]]) (by simp [results, Try.results54, go_sem, d0, d1]) rfl ⟨?_, HF.out.2⟩
    rfl
theorem has_0 (j : Jb) (m pb po pc : Nat) (w : World) (J : JAt w j m (some ⟨pb, po, none⟩)) (a b : Nat) (c1 : ∀ w, JAt w j m (some ⟨pb, po, none⟩) → Calls Try.prog 48 #[.agg #[.pointer (some ⟨m, 0, none⟩), .slice (some ⟨pb, po, none⟩) 9 pc, .int .u32 j.att], .int .u32 (a : Nat)] w fun r w' => r = .returned (.int .u32 0) ∧ Below w.heap.size w w') :
    Calls Try.prog 54 #[.agg #[.pointer (some ⟨m, 0, none⟩), .slice (some ⟨pb, po, none⟩) 9 pc, .int .u32 j.att], .int .u32 (a : Nat), .int .u32 (b : Nat)] w fun r w' => r = .returned (.tuple #[.int .u32 0, .agg #[.int .i64 0, .int .i64 0]]) ∧ Below w.heap.size w w' := by
  have Hc1 := hidden c1
  clear c1
  have HX := hidden (Bx2.start w m (some ⟨pb, po, none⟩) pc j.att)
  go_enter Try.func54, Try.ntmps54
  go_upto_region 1 with fail
  generalize (w.alloc (.cells #[.pointer (some ⟨m, 0, none⟩), .slice (some ⟨pb, po, none⟩) 9 pc, .int .u32 j.att] 94)).alloc (.cells #[.int .i64 0, .int .i64 0] 91) = w1 at *
  have HJ := hidden (J.later HX.out.bel)
  obtain ⟨a0, a1, a2, b0, b1, f0, f1⟩ := HX.out.cells
  have p1 := HJ.out.cell 1 (by omega)
  go_upto_region 2 with fail
  clear p1
  go_upto_region 3 with (first | (go_at_call 48; (with_reducible refine (Hc1.out _ HJ.out).mono ?_); rintro e w2 ⟨rfl, hb2⟩; replace HX := hidden (HX.out.call hb2); replace HJ := hidden (HJ.out.later hb2); clear a0 a1 a2 b0 b1 f0 f1; obtain ⟨a0, a1, a2, b0, b1, f0, f1⟩ := HX.out.cells; clear hb2) | fail)
  have HF := hidden (HX.out.fin (0) (0))
  all_goals
    go_wp2
    obtain ⟨d0, d1, _⟩ := HF.out.1.cells
    refine bodyPost_ret (v := .tuple #[.int .u32 0, .agg #[.int .i64 (0), .int .i64 (0)]]) (by simp [results, Try.results54, go_sem, d0, d1]) rfl ⟨?_, HF.out.2⟩
    rfl
end Go.Proofs.Ytpgppdkbkkljnaa
namespace Go.Proofs.Ytpgppdkbkkljnaa
open Go.RowKit
set_option maxHeartbeats 1000000
set_option maxRecDepth 100000
set_option linter.unusedVariables false

theorem do_1 (j : Jb) (m pb po pc : Nat) (w : World) (J : JAt w j m (some ⟨pb, po, none⟩)) (a b x : Nat) (c1 : ∀ w, JAt w j m (some ⟨pb, po, none⟩) → Calls Try.prog 48 #[.agg #[.pointer (some ⟨m, 0, none⟩), .slice (some ⟨pb, po, none⟩) 9 pc, .int .u32 j.att], .int .u32 (a : Nat)] w fun r w' => r = .returned (.int .u32 (x : Nat)) ∧ Below w.heap.size w w') :
    Calls Try.prog 34 #[.agg #[.pointer (some ⟨m, 0, none⟩), .slice (some ⟨pb, po, none⟩) 9 pc, .int .u32 j.att], .int .u32 1, .int .u32 (a : Nat), .int .u32 (b : Nat)] w fun r w' => r = .returned (.tuple #[.int .u32 (x : Nat), .agg #[.int .i64 0, .int .i64 0]]) ∧ Below w.heap.size w w' := by
  have Hc1 := hidden c1
  clear c1
  have HX := hidden (Bx2.start w m (some ⟨pb, po, none⟩) pc j.att)
  go_enter Try.func34, Try.ntmps34
  go_upto_region 1 with fail
  generalize (w.alloc (.cells #[.pointer (some ⟨m, 0, none⟩), .slice (some ⟨pb, po, none⟩) 9 pc, .int .u32 j.att] 94)).alloc (.cells #[.int .i64 0, .int .i64 0] 91) = w1 at *
  have HJ := hidden (J.later HX.out.bel)
  obtain ⟨a0, a1, a2, b0, b1, f0, f1⟩ := HX.out.cells
  go_wp2_with (first | (go_at_call 48; (with_reducible refine (Hc1.out _ HJ.out).mono ?_); rintro e w99 ⟨rfl, hb99⟩; have HX9 := hidden (HX.out.call hb99); have HF := hidden (HX9.out.fin (0) (0)); clear hb99; obtain ⟨a0, a1, a2, b0, b1, f0, f1⟩ := HX9.out.cells) | fail)
  all_goals
    go_wp2
    obtain ⟨d0, d1, _⟩ := HF.out.1.cells
    refine bodyPost_ret (v := .tuple #[.int .u32 (x : Nat), .agg #[.int .i64 (0), .int .i64 (0)]]) (by simp [results, Try.results34, go_sem, d0, d1]) rfl ⟨?_, HF.out.2⟩
    rfl
theorem do_2 (j : Jb) (m pb po pc : Nat) (w : World) (J : JAt w j m (some ⟨pb, po, none⟩)) (a b x : Nat) (s e : Int) (c1 : ∀ w, JAt w j m (some ⟨pb, po, none⟩) → Calls Try.prog 49 #[.agg #[.pointer (some ⟨m, 0, none⟩), .slice (some ⟨pb, po, none⟩) 9 pc, .int .u32 j.att], .int .u32 (a : Nat), .int .u32 (b : Nat)] w fun r w' => r = .returned (.tuple #[.int .u32 (x : Nat), .agg #[.int .i64 s, .int .i64 e]]) ∧ Below w.heap.size w w') :
    Calls Try.prog 34 #[.agg #[.pointer (some ⟨m, 0, none⟩), .slice (some ⟨pb, po, none⟩) 9 pc, .int .u32 j.att], .int .u32 2, .int .u32 (a : Nat), .int .u32 (b : Nat)] w fun r w' => r = .returned (.tuple #[.int .u32 (x : Nat), .agg #[.int .i64 s, .int .i64 e]]) ∧ Below w.heap.size w w' := by
  have Hc1 := hidden c1
  clear c1
  have HX := hidden (Bx2.start w m (some ⟨pb, po, none⟩) pc j.att)
  go_enter Try.func34, Try.ntmps34
  go_upto_region 1 with fail
  generalize (w.alloc (.cells #[.pointer (some ⟨m, 0, none⟩), .slice (some ⟨pb, po, none⟩) 9 pc, .int .u32 j.att] 94)).alloc (.cells #[.int .i64 0, .int .i64 0] 91) = w1 at *
  have HJ := hidden (J.later HX.out.bel)
  obtain ⟨a0, a1, a2, b0, b1, f0, f1⟩ := HX.out.cells
  go_wp2_with (first | (go_at_call 49; (with_reducible refine (Hc1.out _ HJ.out).mono ?_); rintro e w99 ⟨rfl, hb99⟩; have HX9 := hidden (HX.out.call hb99); have HF := hidden (HX9.out.fin (s) (e)); clear hb99; obtain ⟨a0, a1, a2, b0, b1, f0, f1⟩ := HX9.out.cells) | fail)
  all_goals
    go_wp2
    obtain ⟨d0, d1, _⟩ := HF.out.1.cells
    refine bodyPost_ret (v := .tuple #[.int .u32 (x : Nat), .agg #[.int .i64 (s), .int .i64 (e)]]) (by simp [results, Try.results34, go_sem, d0, d1]) rfl ⟨?_, HF.out.2⟩
    rfl
theorem do_3 (j : Jb) (m pb po pc : Nat) (w : World) (J : JAt w j m (some ⟨pb, po, none⟩)) (a b x : Nat) (s e : Int) (c1 : ∀ w, JAt w j m (some ⟨pb, po, none⟩) → Calls Try.prog 50 #[.agg #[.pointer (some ⟨m, 0, none⟩), .slice (some ⟨pb, po, none⟩) 9 pc, .int .u32 j.att], .int .u32 (a : Nat), .int .u32 (b : Nat)] w fun r w' => r = .returned (.tuple #[.int .u32 (x : Nat), .agg #[.int .i64 s, .int .i64 e]]) ∧ Below w.heap.size w w') :
    Calls Try.prog 34 #[.agg #[.pointer (some ⟨m, 0, none⟩), .slice (some ⟨pb, po, none⟩) 9 pc, .int .u32 j.att], .int .u32 3, .int .u32 (a : Nat), .int .u32 (b : Nat)] w fun r w' => r = .returned (.tuple #[.int .u32 (x : Nat), .agg #[.int .i64 s, .int .i64 e]]) ∧ Below w.heap.size w w' := by
  have Hc1 := hidden c1
  clear c1
  have HX := hidden (Bx2.start w m (some ⟨pb, po, none⟩) pc j.att)
  go_enter Try.func34, Try.ntmps34
  go_upto_region 1 with fail
  generalize (w.alloc (.cells #[.pointer (some ⟨m, 0, none⟩), .slice (some ⟨pb, po, none⟩) 9 pc, .int .u32 j.att] 94)).alloc (.cells #[.int .i64 0, .int .i64 0] 91) = w1 at *
  have HJ := hidden (J.later HX.out.bel)
  obtain ⟨a0, a1, a2, b0, b1, f0, f1⟩ := HX.out.cells
  go_wp2_with (first | (go_at_call 50; (with_reducible refine (Hc1.out _ HJ.out).mono ?_); rintro e w99 ⟨rfl, hb99⟩; have HX9 := hidden (HX.out.call hb99); have HF := hidden (HX9.out.fin (s) (e)); clear hb99; obtain ⟨a0, a1, a2, b0, b1, f0, f1⟩ := HX9.out.cells) | fail)
  all_goals
    go_wp2
    obtain ⟨d0, d1, _⟩ := HF.out.1.cells
    refine bodyPost_ret (v := .tuple #[.int .u32 (x : Nat), .agg #[.int .i64 (s), .int .i64 (e)]]) (by simp [results, Try.results34, go_sem, d0, d1]) rfl ⟨?_, HF.out.2⟩
    rfl
theorem do_4 (j : Jb) (m pb po pc : Nat) (w : World) (J : JAt w j m (some ⟨pb, po, none⟩)) (a b x : Nat) (s e : Int) (c1 : ∀ w, JAt w j m (some ⟨pb, po, none⟩) → Calls Try.prog 51 #[.agg #[.pointer (some ⟨m, 0, none⟩), .slice (some ⟨pb, po, none⟩) 9 pc, .int .u32 j.att], .int .u32 (a : Nat), .int .u32 (b : Nat)] w fun r w' => r = .returned (.tuple #[.int .u32 (x : Nat), .agg #[.int .i64 s, .int .i64 e]]) ∧ Below w.heap.size w w') :
    Calls Try.prog 34 #[.agg #[.pointer (some ⟨m, 0, none⟩), .slice (some ⟨pb, po, none⟩) 9 pc, .int .u32 j.att], .int .u32 4, .int .u32 (a : Nat), .int .u32 (b : Nat)] w fun r w' => r = .returned (.tuple #[.int .u32 (x : Nat), .agg #[.int .i64 s, .int .i64 e]]) ∧ Below w.heap.size w w' := by
  have Hc1 := hidden c1
  clear c1
  have HX := hidden (Bx2.start w m (some ⟨pb, po, none⟩) pc j.att)
  go_enter Try.func34, Try.ntmps34
  go_upto_region 1 with fail
  generalize (w.alloc (.cells #[.pointer (some ⟨m, 0, none⟩), .slice (some ⟨pb, po, none⟩) 9 pc, .int .u32 j.att] 94)).alloc (.cells #[.int .i64 0, .int .i64 0] 91) = w1 at *
  have HJ := hidden (J.later HX.out.bel)
  obtain ⟨a0, a1, a2, b0, b1, f0, f1⟩ := HX.out.cells
  go_wp2_with (first | (go_at_call 51; (with_reducible refine (Hc1.out _ HJ.out).mono ?_); rintro e w99 ⟨rfl, hb99⟩; have HX9 := hidden (HX.out.call hb99); have HF := hidden (HX9.out.fin (s) (e)); clear hb99; obtain ⟨a0, a1, a2, b0, b1, f0, f1⟩ := HX9.out.cells) | fail)
  all_goals
    go_wp2
    obtain ⟨d0, d1, _⟩ := HF.out.1.cells
    refine bodyPost_ret (v := .tuple #[.int .u32 (x : Nat), .agg #[.int .i64 (s), .int .i64 (e)]]) (by simp [results, Try.results34, go_sem, d0, d1]) rfl ⟨?_, HF.out.2⟩
    rfl
theorem do_5 (j : Jb) (m pb po pc : Nat) (w : World) (J : JAt w j m (some ⟨pb, po, none⟩)) (a b x : Nat) (s e : Int) (c1 : ∀ w, JAt w j m (some ⟨pb, po, none⟩) → Calls Try.prog 52 #[.agg #[.pointer (some ⟨m, 0, none⟩), .slice (some ⟨pb, po, none⟩) 9 pc, .int .u32 j.att], .int .u32 (a : Nat), .int .u32 (b : Nat)] w fun r w' => r = .returned (.tuple #[.int .u32 (x : Nat), .agg #[.int .i64 s, .int .i64 e]]) ∧ Below w.heap.size w w') :
    Calls Try.prog 34 #[.agg #[.pointer (some ⟨m, 0, none⟩), .slice (some ⟨pb, po, none⟩) 9 pc, .int .u32 j.att], .int .u32 5, .int .u32 (a : Nat), .int .u32 (b : Nat)] w fun r w' => r = .returned (.tuple #[.int .u32 (x : Nat), .agg #[.int .i64 s, .int .i64 e]]) ∧ Below w.heap.size w w' := by
  have Hc1 := hidden c1
  clear c1
  have HX := hidden (Bx2.start w m (some ⟨pb, po, none⟩) pc j.att)
  go_enter Try.func34, Try.ntmps34
  go_upto_region 1 with fail
  generalize (w.alloc (.cells #[.pointer (some ⟨m, 0, none⟩), .slice (some ⟨pb, po, none⟩) 9 pc, .int .u32 j.att] 94)).alloc (.cells #[.int .i64 0, .int .i64 0] 91) = w1 at *
  have HJ := hidden (J.later HX.out.bel)
  obtain ⟨a0, a1, a2, b0, b1, f0, f1⟩ := HX.out.cells
  go_wp2_with (first | (go_at_call 52; (with_reducible refine (Hc1.out _ HJ.out).mono ?_); rintro e w99 ⟨rfl, hb99⟩; have HX9 := hidden (HX.out.call hb99); have HF := hidden (HX9.out.fin (s) (e)); clear hb99; obtain ⟨a0, a1, a2, b0, b1, f0, f1⟩ := HX9.out.cells) | fail)
  all_goals
    go_wp2
    obtain ⟨d0, d1, _⟩ := HF.out.1.cells
    refine bodyPost_ret (v := .tuple #[.int .u32 (x : Nat), .agg #[.int .i64 (s), .int .i64 (e)]]) (by simp [results, Try.results34, go_sem, d0, d1]) rfl ⟨?_, HF.out.2⟩
    rfl
theorem do_6 (j : Jb) (m pb po pc : Nat) (w : World) (J : JAt w j m (some ⟨pb, po, none⟩)) (a b x : Nat) (s e : Int) (c1 : ∀ w, JAt w j m (some ⟨pb, po, none⟩) → Calls Try.prog 53 #[.agg #[.pointer (some ⟨m, 0, none⟩), .slice (some ⟨pb, po, none⟩) 9 pc, .int .u32 j.att], .int .u32 (a : Nat), .int .u32 (b : Nat)] w fun r w' => r = .returned (.tuple #[.int .u32 (x : Nat), .agg #[.int .i64 s, .int .i64 e]]) ∧ Below w.heap.size w w') :
    Calls Try.prog 34 #[.agg #[.pointer (some ⟨m, 0, none⟩), .slice (some ⟨pb, po, none⟩) 9 pc, .int .u32 j.att], .int .u32 6, .int .u32 (a : Nat), .int .u32 (b : Nat)] w fun r w' => r = .returned (.tuple #[.int .u32 (x : Nat), .agg #[.int .i64 s, .int .i64 e]]) ∧ Below w.heap.size w w' := by
  have Hc1 := hidden c1
  clear c1
  have HX := hidden (Bx2.start w m (some ⟨pb, po, none⟩) pc j.att)
  go_enter Try.func34, Try.ntmps34
  go_upto_region 1 with fail
  generalize (w.alloc (.cells #[.pointer (some ⟨m, 0, none⟩), .slice (some ⟨pb, po, none⟩) 9 pc, .int .u32 j.att] 94)).alloc (.cells #[.int .i64 0, .int .i64 0] 91) = w1 at *
  have HJ := hidden (J.later HX.out.bel)
  obtain ⟨a0, a1, a2, b0, b1, f0, f1⟩ := HX.out.cells
  go_wp2_with (first | (go_at_call 53; (with_reducible refine (Hc1.out _ HJ.out).mono ?_); rintro e w99 ⟨rfl, hb99⟩; have HX9 := hidden (HX.out.call hb99); have HF := hidden (HX9.out.fin (s) (e)); clear hb99; obtain ⟨a0, a1, a2, b0, b1, f0, f1⟩ := HX9.out.cells) | fail)
  all_goals
    go_wp2
    obtain ⟨d0, d1, _⟩ := HF.out.1.cells
    refine bodyPost_ret (v := .tuple #[.int .u32 (x : Nat), .agg #[.int .i64 (s), .int .i64 (e)]]) (by simp [results, Try.results34, go_sem, d0, d1]) rfl ⟨?_, HF.out.2⟩
    rfl
theorem do_7 (j : Jb) (m pb po pc : Nat) (w : World) (J : JAt w j m (some ⟨pb, po, none⟩)) (a b x : Nat) (s e : Int) (c1 : ∀ w, JAt w j m (some ⟨pb, po, none⟩) → Calls Try.prog 54 #[.agg #[.pointer (some ⟨m, 0, none⟩), .slice (some ⟨pb, po, none⟩) 9 pc, .int .u32 j.att], .int .u32 (a : Nat), .int .u32 (b : Nat)] w fun r w' => r = .returned (.tuple #[.int .u32 (x : Nat), .agg #[.int .i64 s, .int .i64 e]]) ∧ Below w.heap.size w w') :
    Calls Try.prog 34 #[.agg #[.pointer (some ⟨m, 0, none⟩), .slice (some ⟨pb, po, none⟩) 9 pc, .int .u32 j.att], .int .u32 7, .int .u32 (a : Nat), .int .u32 (b : Nat)] w fun r w' => r = .returned (.tuple #[.int .u32 (x : Nat), .agg #[.int .i64 s, .int .i64 e]]) ∧ Below w.heap.size w w' := by
  have Hc1 := hidden c1
  clear c1
  have HX := hidden (Bx2.start w m (some ⟨pb, po, none⟩) pc j.att)
  go_enter Try.func34, Try.ntmps34
  go_upto_region 1 with fail
  generalize (w.alloc (.cells #[.pointer (some ⟨m, 0, none⟩), .slice (some ⟨pb, po, none⟩) 9 pc, .int .u32 j.att] 94)).alloc (.cells #[.int .i64 0, .int .i64 0] 91) = w1 at *
  have HJ := hidden (J.later HX.out.bel)
  obtain ⟨a0, a1, a2, b0, b1, f0, f1⟩ := HX.out.cells
  go_wp2_with (first | (go_at_call 54; (with_reducible refine (Hc1.out _ HJ.out).mono ?_); rintro e w99 ⟨rfl, hb99⟩; have HX9 := hidden (HX.out.call hb99); have HF := hidden (HX9.out.fin (s) (e)); clear hb99; obtain ⟨a0, a1, a2, b0, b1, f0, f1⟩ := HX9.out.cells) | fail)
  all_goals
    go_wp2
    obtain ⟨d0, d1, _⟩ := HF.out.1.cells
    refine bodyPost_ret (v := .tuple #[.int .u32 (x : Nat), .agg #[.int .i64 (s), .int .i64 (e)]]) (by simp [results, Try.results34, go_sem, d0, d1]) rfl ⟨?_, HF.out.2⟩
    rfl
end Go.Proofs.Ytpgppdkbkkljnaa
