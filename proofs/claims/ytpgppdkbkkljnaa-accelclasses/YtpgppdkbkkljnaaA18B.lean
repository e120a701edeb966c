/- Layer 18: inClass, a leaf. Layer 18: inClass, a leaf. Layer 18: inClass, a leaf. -/
import Derived.Test.YtpgppdkbkkljnaaA18A
namespace Go.Proofs.Ytpgppdkbkkljnaa
open Go.RowKit
set_option maxHeartbeats 1000000
set_option maxRecDepth 100000
set_option linter.unusedVariables false

theorem ic_N18e (j : Jb) (m pb po pc : Nat) (w : World) (J : JAt w j m (some ⟨pb, po, none⟩)) (a AD x : Nat) (e : Int) (e1 : ((a : Int) + 13 + (j.att : Int)) % 4294967296 = (AD : Int)) (hc : ∀ w, JAt w j m (some ⟨pb, po, none⟩) → Calls Try.prog 65 #[.agg #[.pointer (some ⟨m, 0, none⟩), .slice (some ⟨pb, po, none⟩) 9 pc, .int .u32 j.att], .int .u32 (AD : Nat), .int .i64 4] w fun r w' => r = .returned (.tuple #[.int .u32 (x : Nat), .agg #[.int .i64 0, .int .i64 e]]) ∧ Below w.heap.size w w') (hx : x = j.p 2) (he : e = 0) :
    Calls Try.prog 81 #[.agg #[.pointer (some ⟨m, 0, none⟩), .slice (some ⟨pb, po, none⟩) 9 pc, .int .u32 j.att], .int .u32 (a : Nat)] w fun r w' => r = .returned (.tuple #[.bool true, .agg #[.int .i64 0, .int .i64 e]]) ∧ Below w.heap.size w w' := by
  have HC := hidden hc
  have q : ((x : Int) == ((j.p 2 : Nat) : Int)) = true := by rw [hx]; simp
  subst he
  clear hc hx
  have HX := hidden (Bx2.start w m (some ⟨pb, po, none⟩) pc j.att)
  go_enter Try.func81, Try.ntmps81
  go_upto_region 1 with fail
  generalize (w.alloc (.cells #[.pointer (some ⟨m, 0, none⟩), .slice (some ⟨pb, po, none⟩) 9 pc, .int .u32 j.att] 94)).alloc (.cells #[.int .i64 0, .int .i64 0] 91) = w1 at *
  have HJ := hidden (J.later HX.out.bel)
  obtain ⟨a0, a1, a2, b0, b1, f0, f1⟩ := HX.out.cells
  go_upto_region 2 with (first | (go_at_call 65; (with_reducible refine (HC.out _ HJ.out).mono ?_); rintro e w2 ⟨rfl, hb2⟩; replace HX := hidden (HX.out.call hb2); replace HJ := hidden (HJ.out.later hb2); clear a0 a1 a2 b0 b1 f0 f1; obtain ⟨a0, a1, a2, b0, b1, f0, f1⟩ := HX.out.cells; clear hb2) | fail)
  replace HX := hidden (HX.out.new (0) (0))
  replace HJ := hidden (HJ.out.later ((Below.refl _ _).alloc (Nat.le_refl _) (.cells #[.int .i64 (0), .int .i64 (0)] 91)))
  clear a0 a1 a2 b0 b1 f0 f1
  change Code.wp _ _ _ _ (w2.alloc (.cells #[.int .i64 (0), .int .i64 (0)] 91))
  generalize w2.alloc (.cells #[.int .i64 (0), .int .i64 (0)] 91) = w3 at *
  generalize w2.heap.size = H3 at *
  obtain ⟨a0, a1, a2, b0, b1, f0, f1⟩ := HX.out.b2.cells
  obtain ⟨h0, h1, g0, g1⟩ := HX.out.cells
  have p2 := HJ.out.cell 2 (by omega)
  have HXD := hidden (HX.out.call ((Below.refl _ _).drew))
  go_region_with (first | (go_at_call 66; (with_reducible refine (ends_good _).mono ?_); rintro e w99 ⟨rfl, hb99⟩; have HX9 := hidden (HXD.out.call hb99); have HF := hidden (HX9.out.b2.fin (0) (0)); clear hb99; obtain ⟨a0, a1, a2, b0, b1, f0, f1⟩ := HX9.out.b2.cells; obtain ⟨h0, h1, g0, g1⟩ := HX9.out.cells) | fail)
  all_goals
    go_wp2
    obtain ⟨d0, d1, _⟩ := HF.out.1.cells
    refine bodyPost_ret (v := .tuple #[.bool true, .agg #[.int .i64 (0), .int .i64 (0)]]) (by simp [results, Try.results81, go_sem, d0, d1]) rfl ⟨?_, HF.out.2⟩
    rfl
end Go.Proofs.Ytpgppdkbkkljnaa
namespace Go.Proofs.Ytpgppdkbkkljnaa
open Go.RowKit
set_option maxHeartbeats 1000000
set_option maxRecDepth 100000
set_option linter.unusedVariables false

theorem ic_N18f (j : Jb) (m pb po pc : Nat) (w : World) (J : JAt w j m (some ⟨pb, po, none⟩)) (a AD x : Nat) (e : Int) (e1 : ((a : Int) + 13 + (j.att : Int)) % 4294967296 = (AD : Int)) (hc : ∀ w, JAt w j m (some ⟨pb, po, none⟩) → Calls Try.prog 65 #[.agg #[.pointer (some ⟨m, 0, none⟩), .slice (some ⟨pb, po, none⟩) 9 pc, .int .u32 j.att], .int .u32 (AD : Nat), .int .i64 4] w fun r w' => r = .returned (.tuple #[.int .u32 (x : Nat), .agg #[.int .i64 0, .int .i64 e]]) ∧ Below w.heap.size w w') (hx : x = j.p 2) (he : ¬ e = 0) :
    Calls Try.prog 81 #[.agg #[.pointer (some ⟨m, 0, none⟩), .slice (some ⟨pb, po, none⟩) 9 pc, .int .u32 j.att], .int .u32 (a : Nat)] w fun r w' => r = .returned (.tuple #[.bool false, .agg #[.int .i64 0, .int .i64 e]]) ∧ Below w.heap.size w w' := by
  have HC := hidden hc
  have q : ((x : Int) == ((j.p 2 : Nat) : Int)) = true := by rw [hx]; simp
  have hne := he
  clear hc hx
  have HX := hidden (Bx2.start w m (some ⟨pb, po, none⟩) pc j.att)
  go_enter Try.func81, Try.ntmps81
  go_upto_region 1 with fail
  generalize (w.alloc (.cells #[.pointer (some ⟨m, 0, none⟩), .slice (some ⟨pb, po, none⟩) 9 pc, .int .u32 j.att] 94)).alloc (.cells #[.int .i64 0, .int .i64 0] 91) = w1 at *
  have HJ := hidden (J.later HX.out.bel)
  obtain ⟨a0, a1, a2, b0, b1, f0, f1⟩ := HX.out.cells
  go_upto_region 2 with (first | (go_at_call 65; (with_reducible refine (HC.out _ HJ.out).mono ?_); rintro e w2 ⟨rfl, hb2⟩; replace HX := hidden (HX.out.call hb2); replace HJ := hidden (HJ.out.later hb2); clear a0 a1 a2 b0 b1 f0 f1; obtain ⟨a0, a1, a2, b0, b1, f0, f1⟩ := HX.out.cells; clear hb2) | fail)
  replace HX := hidden (HX.out.new (0) (e))
  replace HJ := hidden (HJ.out.later ((Below.refl _ _).alloc (Nat.le_refl _) (.cells #[.int .i64 (0), .int .i64 (e)] 91)))
  clear a0 a1 a2 b0 b1 f0 f1
  change Code.wp _ _ _ _ (w2.alloc (.cells #[.int .i64 (0), .int .i64 (e)] 91))
  generalize w2.alloc (.cells #[.int .i64 (0), .int .i64 (e)] 91) = w3 at *
  generalize w2.heap.size = H3 at *
  obtain ⟨a0, a1, a2, b0, b1, f0, f1⟩ := HX.out.b2.cells
  obtain ⟨h0, h1, g0, g1⟩ := HX.out.cells
  have p2 := HJ.out.cell 2 (by omega)
  have HXD := hidden (HX.out.call ((Below.refl _ _).drew))
  go_region_with (first | (go_at_call 66; (with_reducible refine (ends_bad2 hne _).mono ?_); rintro e w99 ⟨rfl, hb99⟩; have HX9 := hidden (HXD.out.call hb99); have HF := hidden (HX9.out.b2.fin (0) (e)); clear hb99; obtain ⟨a0, a1, a2, b0, b1, f0, f1⟩ := HX9.out.b2.cells; obtain ⟨h0, h1, g0, g1⟩ := HX9.out.cells) | fail)
  all_goals
    go_wp2
    obtain ⟨d0, d1, _⟩ := HF.out.1.cells
    refine bodyPost_ret (v := .tuple #[.bool false, .agg #[.int .i64 (0), .int .i64 (e)]]) (by simp [results, Try.results81, go_sem, d0, d1]) rfl ⟨?_, HF.out.2⟩
    rfl
end Go.Proofs.Ytpgppdkbkkljnaa
namespace Go.Proofs.Ytpgppdkbkkljnaa
open Go.RowKit
set_option maxHeartbeats 1000000
set_option maxRecDepth 100000
set_option linter.unusedVariables false

theorem ic_N18g (j : Jb) (m pb po pc : Nat) (w : World) (J : JAt w j m (some ⟨pb, po, none⟩)) (a AD x : Nat) (e : Int) (e1 : ((a : Int) + 13 + (j.att : Int)) % 4294967296 = (AD : Int)) (hc : ∀ w, JAt w j m (some ⟨pb, po, none⟩) → Calls Try.prog 65 #[.agg #[.pointer (some ⟨m, 0, none⟩), .slice (some ⟨pb, po, none⟩) 9 pc, .int .u32 j.att], .int .u32 (AD : Nat), .int .i64 4] w fun r w' => r = .returned (.tuple #[.int .u32 (x : Nat), .agg #[.int .i64 0, .int .i64 e]]) ∧ Below w.heap.size w w') (hx : ¬ x = j.p 2) :
    Calls Try.prog 81 #[.agg #[.pointer (some ⟨m, 0, none⟩), .slice (some ⟨pb, po, none⟩) 9 pc, .int .u32 j.att], .int .u32 (a : Nat)] w fun r w' => r = .returned (.tuple #[.bool false, .agg #[.int .i64 0, .int .i64 e]]) ∧ Below w.heap.size w w' := by
  have HC := hidden hc
  have q : ((x : Int) == ((j.p 2 : Nat) : Int)) = false := by rw [beq_eq_false_iff_ne]; omega
  clear hc hx
  have HX := hidden (Bx2.start w m (some ⟨pb, po, none⟩) pc j.att)
  go_enter Try.func81, Try.ntmps81
  go_upto_region 1 with fail
  generalize (w.alloc (.cells #[.pointer (some ⟨m, 0, none⟩), .slice (some ⟨pb, po, none⟩) 9 pc, .int .u32 j.att] 94)).alloc (.cells #[.int .i64 0, .int .i64 0] 91) = w1 at *
  have HJ := hidden (J.later HX.out.bel)
  obtain ⟨a0, a1, a2, b0, b1, f0, f1⟩ := HX.out.cells
  go_upto_region 2 with (first | (go_at_call 65; (with_reducible refine (HC.out _ HJ.out).mono ?_); rintro e w2 ⟨rfl, hb2⟩; replace HX := hidden (HX.out.call hb2); replace HJ := hidden (HJ.out.later hb2); clear a0 a1 a2 b0 b1 f0 f1; obtain ⟨a0, a1, a2, b0, b1, f0, f1⟩ := HX.out.cells; clear hb2) | fail)
  replace HX := hidden (HX.out.new (0) (e))
  replace HJ := hidden (HJ.out.later ((Below.refl _ _).alloc (Nat.le_refl _) (.cells #[.int .i64 (0), .int .i64 (e)] 91)))
  clear a0 a1 a2 b0 b1 f0 f1
  change Code.wp _ _ _ _ (w2.alloc (.cells #[.int .i64 (0), .int .i64 (e)] 91))
  generalize w2.alloc (.cells #[.int .i64 (0), .int .i64 (e)] 91) = w3 at *
  generalize w2.heap.size = H3 at *
  obtain ⟨a0, a1, a2, b0, b1, f0, f1⟩ := HX.out.b2.cells
  obtain ⟨h0, h1, g0, g1⟩ := HX.out.cells
  have p2 := HJ.out.cell 2 (by omega)
  have HXD := hidden (HX.out.call ((Below.refl _ _).drew))
  have HF := hidden (HX.out.b2.find (0) (e))
  clear HXD
  (first | (go_region_with (fail)) | fail)
  all_goals
    go_wp2
    generalize ((w3.setCell ⟨w.heap.size + 1, 0, none⟩ (.int .i64 (0))).setCell ⟨w.heap.size + 1, 1, none⟩ (.int .i64 (e))).drew = w98 at *
    obtain ⟨d0, d1, _⟩ := HF.out.1.cells
    refine bodyPost_ret (v := .tuple #[.bool false, .agg #[.int .i64 (0), .int .i64 (e)]]) (by simp [results, Try.results81, go_sem, d0, d1]) rfl ⟨?_, HF.out.2⟩
    rfl
end Go.Proofs.Ytpgppdkbkkljnaa
