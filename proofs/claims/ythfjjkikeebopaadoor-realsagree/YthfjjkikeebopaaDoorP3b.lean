/- Contract of package soft's openBoth: what two patterns of one format say. -/
import Derived.Test.YthfjjkikeebopaaDoorP3a
import Derived.Test.YthfjjkikeebopaaDoorZ3
namespace Go.Proofs.YthfjjkikeebopaaDoor
open Go.RowKit
set_option maxHeartbeats 4000000
set_option linter.unusedVariables false

/-- eight cells: two boxes of parts -/
theorem two_put1 {X : World} {b c : Nat} {K1 E1 M1 K2 E2 M2 : Int} {n1 n2 : Bool} (hn : ¬ b = c) (h : X.cell? ⟨b, 0, none⟩ = some (.int .i64 K1) ∧ X.cell? ⟨b, 1, none⟩ = some (.bool n1) ∧ X.cell? ⟨b, 2, none⟩ = some (.int .i64 E1) ∧ X.cell? ⟨b, 3, none⟩ = some (.int .u64 M1) ∧ X.cell? ⟨c, 0, none⟩ = some (.int .i64 K2) ∧ X.cell? ⟨c, 1, none⟩ = some (.bool n2) ∧ X.cell? ⟨c, 2, none⟩ = some (.int .i64 E2) ∧ X.cell? ⟨c, 3, none⟩ = some (.int .u64 M2)) (Y : World) (hY : Y = set4 X b (.int .i64 K1) (.bool n1) (.int .i64 E1) (.int .u64 M1) ∨ Y = set4 X c (.int .i64 K2) (.bool n2) (.int .i64 E2) (.int .u64 M2)) :
    Y.cell? ⟨b, 0, none⟩ = some (.int .i64 K1) ∧ Y.cell? ⟨b, 1, none⟩ = some (.bool n1) ∧ Y.cell? ⟨b, 2, none⟩ = some (.int .i64 E1) ∧ Y.cell? ⟨b, 3, none⟩ = some (.int .u64 M1) ∧ Y.cell? ⟨c, 0, none⟩ = some (.int .i64 K2) ∧ Y.cell? ⟨c, 1, none⟩ = some (.bool n2) ∧ Y.cell? ⟨c, 2, none⟩ = some (.int .i64 E2) ∧ Y.cell? ⟨c, 3, none⟩ = some (.int .u64 M2) := by
  obtain ⟨h0, h1, h2, h3, k0, k1, k2, k3⟩ := h
  rcases hY with rfl | rfl
  · obtain ⟨i0, i1, i2, i3⟩ := set4_at X b (.int .i64 K1) (.bool n1) (.int .i64 E1) (.int .u64 M1) _ _ _ _ h0 h1 h2 h3
    exact ⟨i0, i1, i2, i3, (set4_far _ _ _ _ _ _ _ _ hn).trans k0, (set4_far _ _ _ _ _ _ _ _ hn).trans k1, (set4_far _ _ _ _ _ _ _ _ hn).trans k2, (set4_far _ _ _ _ _ _ _ _ hn).trans k3⟩
  · have hn' : ¬ c = b := fun h => hn h.symm
    obtain ⟨i0, i1, i2, i3⟩ := set4_at X c (.int .i64 K2) (.bool n2) (.int .i64 E2) (.int .u64 M2) _ _ _ _ k0 k1 k2 k3
    exact ⟨(set4_far _ _ _ _ _ _ _ _ hn').trans h0, (set4_far _ _ _ _ _ _ _ _ hn').trans h1, (set4_far _ _ _ _ _ _ _ _ hn').trans h2, (set4_far _ _ _ _ _ _ _ _ hn').trans h3, i0, i1, i2, i3⟩
theorem pboth2_any (a0 b0 a b K1 E1 M1 K2 E2 M2 : Int) (n1 n2 : Bool) (w : World)
    (hA : Hid (∀ w, Calls Tryd.prog 41 #[.agg #[.int .i64 a0, .int .i64 b0], .int .u64 a] w fun r w' => r = .returned (.tuple #[partsV K1 n1 E1 M1, .int .i64 0]) ∧ Below w.heap.size w w'))
    (hB : Hid (∀ w, Calls Tryd.prog 41 #[.agg #[.int .i64 a0, .int .i64 b0], .int .u64 b] w fun r w' => r = .returned (.tuple #[partsV K2 n2 E2 M2, .int .i64 0]) ∧ Below w.heap.size w w')) :
    Calls Tryd.prog 29 #[.agg #[.int .i64 a0, .int .i64 b0], .int .u64 a, .int .u64 b] w fun r w' => r = .returned (.tuple #[partsV K1 n1 E1 M1, partsV K2 n2 E2 M2, .int .i64 0]) ∧ Below w.heap.size w w' := by
  go_enter Tryd.func29, Tryd.ntmps29
  go_wp2_with fail
  refine (hA.out _).mono ?_
  rintro r w1 ⟨rfl, hb1⟩
  have hW : Below (w.alloc (.cells #[.int .i64 a0, .int .i64 b0] 36)).heap.size (w.alloc (.cells #[.int .i64 a0, .int .i64 b0] 36)) (((w.alloc (.cells #[.int .i64 a0, .int .i64 b0] 36)).alloc (.cells #[.int .i64 0, .bool false, .int .i64 0, .int .u64 0] 52)).alloc (.cells #[.int .i64 0, .bool false, .int .i64 0, .int .u64 0] 52)) := ((Below.refl _ _).alloc (Nat.le_refl _) _).alloc (by simp) _
  have hW0 : Below w.heap.size w (((w.alloc (.cells #[.int .i64 a0, .int .i64 b0] 36)).alloc (.cells #[.int .i64 0, .bool false, .int .i64 0, .int .u64 0] 52)).alloc (.cells #[.int .i64 0, .bool false, .int .i64 0, .int .u64 0] 52)) := (((Below.refl _ _).alloc (Nat.le_refl _) _).alloc (by simp) _).alloc (by simp; omega) _
  have d0 : w1.cell? ⟨w.heap.size, 0, none⟩ = some (.int .i64 a0) := cellLater hb1 (cellLater hW (by simp))
  have d1 : w1.cell? ⟨w.heap.size, 1, none⟩ = some (.int .i64 b0) := cellLater hb1 (cellLater hW (by simp))
  have z1 : PsAt w1 (w.heap.size + 1) 0 false 0 0 := by
    have h := ps_of hb1 (ps_alloc (.cells #[.int .i64 0, .bool false, .int .i64 0, .int .u64 0] 52) (ps_fresh (w.alloc (.cells #[.int .i64 a0, .int .i64 b0] 36)) 0 0 0 false))
    simpa using h
  have z2 : PsAt w1 (w.heap.size + 1 + 1) 0 false 0 0 := by
    have h := ps_of hb1 (ps_fresh ((w.alloc (.cells #[.int .i64 a0, .int .i64 b0] 36)).alloc (.cells #[.int .i64 0, .bool false, .int .i64 0, .int .u64 0] 52)) 0 0 0 false)
    simpa using h
  have HB1 := hidden (hW0.trans (hb1.mono hW0.size))
  have hlt : w.heap.size + 1 + 1 < w1.heap.size := World.block_lt_of_cell? _ _ z2.1
  have hlt0 : w.heap.size < w1.heap.size := by omega
  have nf0 : ¬ w.heap.size + 1 = w.heap.size := by omega
  have nf1 : ¬ w.heap.size + 1 + 1 = w.heap.size := by omega
  have nb : ¬ w.heap.size + 1 = w.heap.size + 1 + 1 := by omega
  have nb' : ¬ w.heap.size + 1 + 1 = w.heap.size + 1 := by omega
  clear hb1 hW hW0
  have Z1 := hidden z1
  have Z2 := hidden z2
  obtain ⟨u0, u1, u2, u3, v0, v1, v2, v3⟩ := z1
  obtain ⟨s0, s1, s2, s3, t0, t1, t2, t3⟩ := z2
  go_wp2_with fail
  refine (hB.out _).mono ?_
  rintro r w2 ⟨rfl, hb2⟩
  change Below (set4 w1 (w.heap.size + 1) (.int .i64 K1) (.bool n1) (.int .i64 E1) (.int .u64 M1)).heap.size (set4 w1 (w.heap.size + 1) (.int .i64 K1) (.bool n1) (.int .i64 E1) (.int .u64 M1)) w2 at hb2
  have p1 := ps_of hb2 (ps_put Z1.out K1 E1 M1 n1)
  have p2' := ps_of hb2 (ps_set4 Z2.out nb (.int .i64 K1) (.bool n1) (.int .i64 E1) (.int .u64 M1))
  have HX := set4_below HB1.out (w.heap.size + 1) (by omega) (.int .i64 K1) (.bool n1) (.int .i64 E1) (.int .u64 M1)
  have HB2 := hidden (HX.trans (hb2.mono HX.size))
  have P1 := hidden p1
  have P2 := hidden p2'
  clear hb2 HX d0 d1 u0 u1 u2 u3 v0 v1 v2 v3 s0 s1 s2 s3 t0 t1 t2 t3 Z1 Z2 HB1
  obtain ⟨u0, u1, u2, u3, v0, v1, v2, v3⟩ := p1
  obtain ⟨s0, s1, s2, s3, t0, t1, t2, t3⟩ := p2'
  go_upto_region 3 with fail
  have q1 := ps_set4 P1.out nb' (.int .i64 K2) (.bool n2) (.int .i64 E2) (.int .u64 M2)
  have q2 := ps_put P2.out K2 E2 M2 n2
  have HB3 := hidden (set4_below HB2.out (w.heap.size + 1 + 1) (by omega) (.int .i64 K2) (.bool n2) (.int .i64 E2) (.int .u64 M2))
  clear u0 u1 u2 u3 v0 v1 v2 v3 s0 s1 s2 s3 t0 t1 t2 t3 P1 P2 HB2
  change Code.wp _ _ _ _ (set4 w2 (w.heap.size + 1 + 1) (.int .i64 K2) (.bool n2) (.int .i64 E2) (.int .u64 M2))
  generalize (set4 w2 (w.heap.size + 1 + 1) (.int .i64 K2) (.bool n2) (.int .i64 E2) (.int .u64 M2)) = w5 at *
  obtain ⟨u0, u1, u2, u3, v0, v1, v2, v3⟩ := q1
  obtain ⟨s0, s1, s2, s3, t0, t1, t2, t3⟩ := q2
  have H1 := hidden (two_put1 nb ⟨u0, u1, u2, u3, s0, s1, s2, s3⟩ (set4 w5 (w.heap.size + 1) (.int .i64 K1) (.bool n1) (.int .i64 E1) (.int .u64 M1)) (.inl rfl))
  have G1 : Hid (((((w5.setCell ⟨w.heap.size + 1, 0, none⟩ (.int .i64 K1)).setCell ⟨w.heap.size + 1, 1, none⟩ (.bool n1)).setCell ⟨w.heap.size + 1, 2, none⟩ (.int .i64 E1)).setCell ⟨w.heap.size + 1, 3, none⟩ (.int .u64 M1)).drew.cell? ⟨w.heap.size + 1, 0, none⟩ = some (.int .i64 K1) ∧ ((((w5.setCell ⟨w.heap.size + 1, 0, none⟩ (.int .i64 K1)).setCell ⟨w.heap.size + 1, 1, none⟩ (.bool n1)).setCell ⟨w.heap.size + 1, 2, none⟩ (.int .i64 E1)).setCell ⟨w.heap.size + 1, 3, none⟩ (.int .u64 M1)).drew.cell? ⟨w.heap.size + 1, 1, none⟩ = some (.bool n1) ∧ ((((w5.setCell ⟨w.heap.size + 1, 0, none⟩ (.int .i64 K1)).setCell ⟨w.heap.size + 1, 1, none⟩ (.bool n1)).setCell ⟨w.heap.size + 1, 2, none⟩ (.int .i64 E1)).setCell ⟨w.heap.size + 1, 3, none⟩ (.int .u64 M1)).drew.cell? ⟨w.heap.size + 1, 2, none⟩ = some (.int .i64 E1) ∧ ((((w5.setCell ⟨w.heap.size + 1, 0, none⟩ (.int .i64 K1)).setCell ⟨w.heap.size + 1, 1, none⟩ (.bool n1)).setCell ⟨w.heap.size + 1, 2, none⟩ (.int .i64 E1)).setCell ⟨w.heap.size + 1, 3, none⟩ (.int .u64 M1)).drew.cell? ⟨w.heap.size + 1, 3, none⟩ = some (.int .u64 M1) ∧ ((((w5.setCell ⟨w.heap.size + 1, 0, none⟩ (.int .i64 K1)).setCell ⟨w.heap.size + 1, 1, none⟩ (.bool n1)).setCell ⟨w.heap.size + 1, 2, none⟩ (.int .i64 E1)).setCell ⟨w.heap.size + 1, 3, none⟩ (.int .u64 M1)).drew.cell? ⟨w.heap.size + 1 + 1, 0, none⟩ = some (.int .i64 K2) ∧ ((((w5.setCell ⟨w.heap.size + 1, 0, none⟩ (.int .i64 K1)).setCell ⟨w.heap.size + 1, 1, none⟩ (.bool n1)).setCell ⟨w.heap.size + 1, 2, none⟩ (.int .i64 E1)).setCell ⟨w.heap.size + 1, 3, none⟩ (.int .u64 M1)).drew.cell? ⟨w.heap.size + 1 + 1, 1, none⟩ = some (.bool n2) ∧ ((((w5.setCell ⟨w.heap.size + 1, 0, none⟩ (.int .i64 K1)).setCell ⟨w.heap.size + 1, 1, none⟩ (.bool n1)).setCell ⟨w.heap.size + 1, 2, none⟩ (.int .i64 E1)).setCell ⟨w.heap.size + 1, 3, none⟩ (.int .u64 M1)).drew.cell? ⟨w.heap.size + 1 + 1, 2, none⟩ = some (.int .i64 E2) ∧ ((((w5.setCell ⟨w.heap.size + 1, 0, none⟩ (.int .i64 K1)).setCell ⟨w.heap.size + 1, 1, none⟩ (.bool n1)).setCell ⟨w.heap.size + 1, 2, none⟩ (.int .i64 E1)).setCell ⟨w.heap.size + 1, 3, none⟩ (.int .u64 M1)).drew.cell? ⟨w.heap.size + 1 + 1, 3, none⟩ = some (.int .u64 M2)) := hidden (by simp only [World.cell?_drew]; exact H1.out)
  have G2 : Hid (((((((((w5.setCell ⟨w.heap.size + 1, 0, none⟩ (.int .i64 K1)).setCell ⟨w.heap.size + 1, 1, none⟩ (.bool n1)).setCell ⟨w.heap.size + 1, 2, none⟩ (.int .i64 E1)).setCell ⟨w.heap.size + 1, 3, none⟩ (.int .u64 M1)).setCell ⟨w.heap.size + 1 + 1, 0, none⟩ (.int .i64 K2)).setCell ⟨w.heap.size + 1 + 1, 1, none⟩ (.bool n2)).setCell ⟨w.heap.size + 1 + 1, 2, none⟩ (.int .i64 E2)).setCell ⟨w.heap.size + 1 + 1, 3, none⟩ (.int .u64 M2)).drew.cell? ⟨w.heap.size + 1, 0, none⟩ = some (.int .i64 K1) ∧ ((((((((w5.setCell ⟨w.heap.size + 1, 0, none⟩ (.int .i64 K1)).setCell ⟨w.heap.size + 1, 1, none⟩ (.bool n1)).setCell ⟨w.heap.size + 1, 2, none⟩ (.int .i64 E1)).setCell ⟨w.heap.size + 1, 3, none⟩ (.int .u64 M1)).setCell ⟨w.heap.size + 1 + 1, 0, none⟩ (.int .i64 K2)).setCell ⟨w.heap.size + 1 + 1, 1, none⟩ (.bool n2)).setCell ⟨w.heap.size + 1 + 1, 2, none⟩ (.int .i64 E2)).setCell ⟨w.heap.size + 1 + 1, 3, none⟩ (.int .u64 M2)).drew.cell? ⟨w.heap.size + 1, 1, none⟩ = some (.bool n1) ∧ ((((((((w5.setCell ⟨w.heap.size + 1, 0, none⟩ (.int .i64 K1)).setCell ⟨w.heap.size + 1, 1, none⟩ (.bool n1)).setCell ⟨w.heap.size + 1, 2, none⟩ (.int .i64 E1)).setCell ⟨w.heap.size + 1, 3, none⟩ (.int .u64 M1)).setCell ⟨w.heap.size + 1 + 1, 0, none⟩ (.int .i64 K2)).setCell ⟨w.heap.size + 1 + 1, 1, none⟩ (.bool n2)).setCell ⟨w.heap.size + 1 + 1, 2, none⟩ (.int .i64 E2)).setCell ⟨w.heap.size + 1 + 1, 3, none⟩ (.int .u64 M2)).drew.cell? ⟨w.heap.size + 1, 2, none⟩ = some (.int .i64 E1) ∧ ((((((((w5.setCell ⟨w.heap.size + 1, 0, none⟩ (.int .i64 K1)).setCell ⟨w.heap.size + 1, 1, none⟩ (.bool n1)).setCell ⟨w.heap.size + 1, 2, none⟩ (.int .i64 E1)).setCell ⟨w.heap.size + 1, 3, none⟩ (.int .u64 M1)).setCell ⟨w.heap.size + 1 + 1, 0, none⟩ (.int .i64 K2)).setCell ⟨w.heap.size + 1 + 1, 1, none⟩ (.bool n2)).setCell ⟨w.heap.size + 1 + 1, 2, none⟩ (.int .i64 E2)).setCell ⟨w.heap.size + 1 + 1, 3, none⟩ (.int .u64 M2)).drew.cell? ⟨w.heap.size + 1, 3, none⟩ = some (.int .u64 M1) ∧ ((((((((w5.setCell ⟨w.heap.size + 1, 0, none⟩ (.int .i64 K1)).setCell ⟨w.heap.size + 1, 1, none⟩ (.bool n1)).setCell ⟨w.heap.size + 1, 2, none⟩ (.int .i64 E1)).setCell ⟨w.heap.size + 1, 3, none⟩ (.int .u64 M1)).setCell ⟨w.heap.size + 1 + 1, 0, none⟩ (.int .i64 K2)).setCell ⟨w.heap.size + 1 + 1, 1, none⟩ (.bool n2)).setCell ⟨w.heap.size + 1 + 1, 2, none⟩ (.int .i64 E2)).setCell ⟨w.heap.size + 1 + 1, 3, none⟩ (.int .u64 M2)).drew.cell? ⟨w.heap.size + 1 + 1, 0, none⟩ = some (.int .i64 K2) ∧ ((((((((w5.setCell ⟨w.heap.size + 1, 0, none⟩ (.int .i64 K1)).setCell ⟨w.heap.size + 1, 1, none⟩ (.bool n1)).setCell ⟨w.heap.size + 1, 2, none⟩ (.int .i64 E1)).setCell ⟨w.heap.size + 1, 3, none⟩ (.int .u64 M1)).setCell ⟨w.heap.size + 1 + 1, 0, none⟩ (.int .i64 K2)).setCell ⟨w.heap.size + 1 + 1, 1, none⟩ (.bool n2)).setCell ⟨w.heap.size + 1 + 1, 2, none⟩ (.int .i64 E2)).setCell ⟨w.heap.size + 1 + 1, 3, none⟩ (.int .u64 M2)).drew.cell? ⟨w.heap.size + 1 + 1, 1, none⟩ = some (.bool n2) ∧ ((((((((w5.setCell ⟨w.heap.size + 1, 0, none⟩ (.int .i64 K1)).setCell ⟨w.heap.size + 1, 1, none⟩ (.bool n1)).setCell ⟨w.heap.size + 1, 2, none⟩ (.int .i64 E1)).setCell ⟨w.heap.size + 1, 3, none⟩ (.int .u64 M1)).setCell ⟨w.heap.size + 1 + 1, 0, none⟩ (.int .i64 K2)).setCell ⟨w.heap.size + 1 + 1, 1, none⟩ (.bool n2)).setCell ⟨w.heap.size + 1 + 1, 2, none⟩ (.int .i64 E2)).setCell ⟨w.heap.size + 1 + 1, 3, none⟩ (.int .u64 M2)).drew.cell? ⟨w.heap.size + 1 + 1, 2, none⟩ = some (.int .i64 E2) ∧ ((((((((w5.setCell ⟨w.heap.size + 1, 0, none⟩ (.int .i64 K1)).setCell ⟨w.heap.size + 1, 1, none⟩ (.bool n1)).setCell ⟨w.heap.size + 1, 2, none⟩ (.int .i64 E1)).setCell ⟨w.heap.size + 1, 3, none⟩ (.int .u64 M1)).setCell ⟨w.heap.size + 1 + 1, 0, none⟩ (.int .i64 K2)).setCell ⟨w.heap.size + 1 + 1, 1, none⟩ (.bool n2)).setCell ⟨w.heap.size + 1 + 1, 2, none⟩ (.int .i64 E2)).setCell ⟨w.heap.size + 1 + 1, 3, none⟩ (.int .u64 M2)).drew.cell? ⟨w.heap.size + 1 + 1, 3, none⟩ = some (.int .u64 M2)) := hidden (by simp only [World.cell?_drew]; exact two_put1 nb H1.out (set4 (set4 w5 (w.heap.size + 1) (.int .i64 K1) (.bool n1) (.int .i64 E1) (.int .u64 M1)) (w.heap.size + 1 + 1) (.int .i64 K2) (.bool n2) (.int .i64 E2) (.int .u64 M2)) (.inr rfl))
  clear H1
  go_region_held3 (fun w' => w'.cell? ⟨w.heap.size + 1, 0, none⟩ = some (.int .i64 K1) ∧ w'.cell? ⟨w.heap.size + 1, 1, none⟩ = some (.bool n1) ∧ w'.cell? ⟨w.heap.size + 1, 2, none⟩ = some (.int .i64 E1) ∧ w'.cell? ⟨w.heap.size + 1, 3, none⟩ = some (.int .u64 M1) ∧ w'.cell? ⟨w.heap.size + 1 + 1, 0, none⟩ = some (.int .i64 K2) ∧ w'.cell? ⟨w.heap.size + 1 + 1, 1, none⟩ = some (.bool n2) ∧ w'.cell? ⟨w.heap.size + 1 + 1, 2, none⟩ = some (.int .i64 E2) ∧ w'.cell? ⟨w.heap.size + 1 + 1, 3, none⟩ = some (.int .u64 M2)) (first | with_reducible exact G1.out | with_reducible exact G2.out | (go_keep; done)) (fail)
  all_goals
    go_wp2
    obtain ⟨i0, i1, i2, i3⟩ := set4_at w5 (w.heap.size + 1) (.int .i64 K1) (.bool n1) (.int .i64 E1) (.int .u64 M1) _ _ _ _ u0 u1 u2 u3
    obtain ⟨y0, y1, y2, y3⟩ := set4_at (set4 w5 (w.heap.size + 1) (.int .i64 K1) (.bool n1) (.int .i64 E1) (.int .u64 M1)) (w.heap.size + 1 + 1) (.int .i64 K2) (.bool n2) (.int .i64 E2) (.int .u64 M2) _ _ _ _ ((set4_far _ _ _ _ _ _ _ _ nb).trans s0) ((set4_far _ _ _ _ _ _ _ _ nb).trans s1) ((set4_far _ _ _ _ _ _ _ _ nb).trans s2) ((set4_far _ _ _ _ _ _ _ _ nb).trans s3)
    have x0 := (set4_far (set4 w5 (w.heap.size + 1) (.int .i64 K1) (.bool n1) (.int .i64 E1) (.int .u64 M1)) (w.heap.size + 1 + 1) (.int .i64 K2) (.bool n2) (.int .i64 E2) (.int .u64 M2) _ 0 nb').trans i0
    have x1 := (set4_far (set4 w5 (w.heap.size + 1) (.int .i64 K1) (.bool n1) (.int .i64 E1) (.int .u64 M1)) (w.heap.size + 1 + 1) (.int .i64 K2) (.bool n2) (.int .i64 E2) (.int .u64 M2) _ 1 nb').trans i1
    have x2 := (set4_far (set4 w5 (w.heap.size + 1) (.int .i64 K1) (.bool n1) (.int .i64 E1) (.int .u64 M1)) (w.heap.size + 1 + 1) (.int .i64 K2) (.bool n2) (.int .i64 E2) (.int .u64 M2) _ 2 nb').trans i2
    have x3 := (set4_far (set4 w5 (w.heap.size + 1) (.int .i64 K1) (.bool n1) (.int .i64 E1) (.int .u64 M1)) (w.heap.size + 1 + 1) (.int .i64 K2) (.bool n2) (.int .i64 E2) (.int .u64 M2) _ 3 nb').trans i3
    have hF := set4_below (set4_below HB3.out (w.heap.size + 1) (by omega) (.int .i64 K1) (.bool n1) (.int .i64 E1) (.int .u64 M1)) (w.heap.size + 1 + 1) (by omega) (.int .i64 K2) (.bool n2) (.int .i64 E2) (.int .u64 M2)
    change bodyPost _ _ _ _ _ (set4 (set4 w5 (w.heap.size + 1) (.int .i64 K1) (.bool n1) (.int .i64 E1) (.int .u64 M1)) (w.heap.size + 1 + 1) (.int .i64 K2) (.bool n2) (.int .i64 E2) (.int .u64 M2)).drew
    generalize (set4 (set4 w5 (w.heap.size + 1) (.int .i64 K1) (.bool n1) (.int .i64 E1) (.int .u64 M1)) (w.heap.size + 1 + 1) (.int .i64 K2) (.bool n2) (.int .i64 E2) (.int .u64 M2)) = wf at *
    clear u0 u1 u2 u3 v0 v1 v2 v3 s0 s1 s2 s3 t0 t1 t2 t3 i0 i1 i2 i3
    refine bodyPost_ret (v := .tuple #[partsV K1 n1 E1 M1, partsV K2 n2 E2 M2, .int .i64 0]) (by simp [results, Tryd.results29, go_sem, x0, x1, x2, x3, y0, y1, y2, y3]) rfl ⟨rfl, hF.drew⟩
/-- the first one may not be opened -/
theorem pboth2_no1 (a0 b0 a b : Int) (w : World)
    (hA : Hid (∀ w, Calls Tryd.prog 41 #[.agg #[.int .i64 a0, .int .i64 b0], .int .u64 a] w fun r w' => r = .returned (.tuple #[partsV 0 false 0 0, .int .i64 1]) ∧ Below w.heap.size w w')) :
    Calls Tryd.prog 29 #[.agg #[.int .i64 a0, .int .i64 b0], .int .u64 a, .int .u64 b] w fun r w' => r = .returned (.tuple #[partsV 0 false 0 0, partsV 0 false 0 0, .int .i64 1]) ∧ Below w.heap.size w w' := by
  go_enter Tryd.func29, Tryd.ntmps29
  go_wp2_with fail
  refine (hA.out _).mono ?_
  rintro r w1 ⟨rfl, hb1⟩
  have hW : Below (w.alloc (.cells #[.int .i64 a0, .int .i64 b0] 36)).heap.size (w.alloc (.cells #[.int .i64 a0, .int .i64 b0] 36)) (((w.alloc (.cells #[.int .i64 a0, .int .i64 b0] 36)).alloc (.cells #[.int .i64 0, .bool false, .int .i64 0, .int .u64 0] 52)).alloc (.cells #[.int .i64 0, .bool false, .int .i64 0, .int .u64 0] 52)) := ((Below.refl _ _).alloc (Nat.le_refl _) _).alloc (by simp) _
  have hW0 : Below w.heap.size w (((w.alloc (.cells #[.int .i64 a0, .int .i64 b0] 36)).alloc (.cells #[.int .i64 0, .bool false, .int .i64 0, .int .u64 0] 52)).alloc (.cells #[.int .i64 0, .bool false, .int .i64 0, .int .u64 0] 52)) := (((Below.refl _ _).alloc (Nat.le_refl _) _).alloc (by simp) _).alloc (by simp; omega) _
  have d0 : w1.cell? ⟨w.heap.size, 0, none⟩ = some (.int .i64 a0) := cellLater hb1 (cellLater hW (by simp))
  have d1 : w1.cell? ⟨w.heap.size, 1, none⟩ = some (.int .i64 b0) := cellLater hb1 (cellLater hW (by simp))
  have z1 : PsAt w1 (w.heap.size + 1) 0 false 0 0 := by
    have h := ps_of hb1 (ps_alloc (.cells #[.int .i64 0, .bool false, .int .i64 0, .int .u64 0] 52) (ps_fresh (w.alloc (.cells #[.int .i64 a0, .int .i64 b0] 36)) 0 0 0 false))
    simpa using h
  have z2 : PsAt w1 (w.heap.size + 1 + 1) 0 false 0 0 := by
    have h := ps_of hb1 (ps_fresh ((w.alloc (.cells #[.int .i64 a0, .int .i64 b0] 36)).alloc (.cells #[.int .i64 0, .bool false, .int .i64 0, .int .u64 0] 52)) 0 0 0 false)
    simpa using h
  have HB1 := hidden (hW0.trans (hb1.mono hW0.size))
  have hlt : w.heap.size + 1 + 1 < w1.heap.size := World.block_lt_of_cell? _ _ z2.1
  have hlt0 : w.heap.size < w1.heap.size := by omega
  have nf0 : ¬ w.heap.size + 1 = w.heap.size := by omega
  have nf1 : ¬ w.heap.size + 1 + 1 = w.heap.size := by omega
  have nb : ¬ w.heap.size + 1 = w.heap.size + 1 + 1 := by omega
  have nb' : ¬ w.heap.size + 1 + 1 = w.heap.size + 1 := by omega
  clear hb1 hW hW0
  have Z1 := hidden z1
  have Z2 := hidden z2
  obtain ⟨u0, u1, u2, u3, v0, v1, v2, v3⟩ := z1
  obtain ⟨s0, s1, s2, s3, t0, t1, t2, t3⟩ := z2
  go_wp2
  change bodyPost _ _ _ _ _ (set4 (set4 (set4 w1 (w.heap.size + 1) (.int .i64 0) (.bool false) (.int .i64 0) (.int .u64 0)) (w.heap.size + 1) (.int .i64 0) (.bool false) (.int .i64 0) (.int .u64 0)) (w.heap.size + 1 + 1) (.int .i64 0) (.bool false) (.int .i64 0) (.int .u64 0))
  have q1 := ps_set4 (ps_put (ps_put Z1.out 0 0 0 false) 0 0 0 false) nb' (.int .i64 0) (.bool false) (.int .i64 0) (.int .u64 0)
  have q2 := ps_put (ps_set4 (ps_set4 Z2.out nb (.int .i64 0) (.bool false) (.int .i64 0) (.int .u64 0)) nb (.int .i64 0) (.bool false) (.int .i64 0) (.int .u64 0)) 0 0 0 false
  have hF := set4_below (set4_below (set4_below HB1.out (w.heap.size + 1) (by omega) (.int .i64 0) (.bool false) (.int .i64 0) (.int .u64 0)) (w.heap.size + 1) (by omega) (.int .i64 0) (.bool false) (.int .i64 0) (.int .u64 0)) (w.heap.size + 1 + 1) (by omega) (.int .i64 0) (.bool false) (.int .i64 0) (.int .u64 0)
  generalize (set4 (set4 (set4 w1 (w.heap.size + 1) (.int .i64 0) (.bool false) (.int .i64 0) (.int .u64 0)) (w.heap.size + 1) (.int .i64 0) (.bool false) (.int .i64 0) (.int .u64 0)) (w.heap.size + 1 + 1) (.int .i64 0) (.bool false) (.int .i64 0) (.int .u64 0)) = wf at *
  obtain ⟨x0, x1, x2, x3, -⟩ := q1
  obtain ⟨y0, y1, y2, y3, -⟩ := q2
  refine bodyPost_ret (v := .tuple #[partsV 0 false 0 0, partsV 0 false 0 0, .int .i64 1]) (by simp [results, Tryd.results29, go_sem, x0, x1, x2, x3, y0, y1, y2, y3]) rfl ⟨rfl, hF⟩
/-- the second one may not be opened -/
theorem pboth2_no2 (a0 b0 a b K1 E1 M1 : Int) (n1 : Bool) (w : World)
    (hA : Hid (∀ w, Calls Tryd.prog 41 #[.agg #[.int .i64 a0, .int .i64 b0], .int .u64 a] w fun r w' => r = .returned (.tuple #[partsV K1 n1 E1 M1, .int .i64 0]) ∧ Below w.heap.size w w'))
    (hB : Hid (∀ w, Calls Tryd.prog 41 #[.agg #[.int .i64 a0, .int .i64 b0], .int .u64 b] w fun r w' => r = .returned (.tuple #[partsV 0 false 0 0, .int .i64 1]) ∧ Below w.heap.size w w')) :
    Calls Tryd.prog 29 #[.agg #[.int .i64 a0, .int .i64 b0], .int .u64 a, .int .u64 b] w fun r w' => r = .returned (.tuple #[partsV 0 false 0 0, partsV 0 false 0 0, .int .i64 1]) ∧ Below w.heap.size w w' := by
  go_enter Tryd.func29, Tryd.ntmps29
  go_wp2_with fail
  refine (hA.out _).mono ?_
  rintro r w1 ⟨rfl, hb1⟩
  have hW : Below (w.alloc (.cells #[.int .i64 a0, .int .i64 b0] 36)).heap.size (w.alloc (.cells #[.int .i64 a0, .int .i64 b0] 36)) (((w.alloc (.cells #[.int .i64 a0, .int .i64 b0] 36)).alloc (.cells #[.int .i64 0, .bool false, .int .i64 0, .int .u64 0] 52)).alloc (.cells #[.int .i64 0, .bool false, .int .i64 0, .int .u64 0] 52)) := ((Below.refl _ _).alloc (Nat.le_refl _) _).alloc (by simp) _
  have hW0 : Below w.heap.size w (((w.alloc (.cells #[.int .i64 a0, .int .i64 b0] 36)).alloc (.cells #[.int .i64 0, .bool false, .int .i64 0, .int .u64 0] 52)).alloc (.cells #[.int .i64 0, .bool false, .int .i64 0, .int .u64 0] 52)) := (((Below.refl _ _).alloc (Nat.le_refl _) _).alloc (by simp) _).alloc (by simp; omega) _
  have d0 : w1.cell? ⟨w.heap.size, 0, none⟩ = some (.int .i64 a0) := cellLater hb1 (cellLater hW (by simp))
  have d1 : w1.cell? ⟨w.heap.size, 1, none⟩ = some (.int .i64 b0) := cellLater hb1 (cellLater hW (by simp))
  have z1 : PsAt w1 (w.heap.size + 1) 0 false 0 0 := by
    have h := ps_of hb1 (ps_alloc (.cells #[.int .i64 0, .bool false, .int .i64 0, .int .u64 0] 52) (ps_fresh (w.alloc (.cells #[.int .i64 a0, .int .i64 b0] 36)) 0 0 0 false))
    simpa using h
  have z2 : PsAt w1 (w.heap.size + 1 + 1) 0 false 0 0 := by
    have h := ps_of hb1 (ps_fresh ((w.alloc (.cells #[.int .i64 a0, .int .i64 b0] 36)).alloc (.cells #[.int .i64 0, .bool false, .int .i64 0, .int .u64 0] 52)) 0 0 0 false)
    simpa using h
  have HB1 := hidden (hW0.trans (hb1.mono hW0.size))
  have hlt : w.heap.size + 1 + 1 < w1.heap.size := World.block_lt_of_cell? _ _ z2.1
  have hlt0 : w.heap.size < w1.heap.size := by omega
  have nf0 : ¬ w.heap.size + 1 = w.heap.size := by omega
  have nf1 : ¬ w.heap.size + 1 + 1 = w.heap.size := by omega
  have nb : ¬ w.heap.size + 1 = w.heap.size + 1 + 1 := by omega
  have nb' : ¬ w.heap.size + 1 + 1 = w.heap.size + 1 := by omega
  clear hb1 hW hW0
  have Z1 := hidden z1
  have Z2 := hidden z2
  obtain ⟨u0, u1, u2, u3, v0, v1, v2, v3⟩ := z1
  obtain ⟨s0, s1, s2, s3, t0, t1, t2, t3⟩ := z2
  go_wp2_with fail
  refine (hB.out _).mono ?_
  rintro r w2 ⟨rfl, hb2⟩
  change Below (set4 w1 (w.heap.size + 1) (.int .i64 K1) (.bool n1) (.int .i64 E1) (.int .u64 M1)).heap.size (set4 w1 (w.heap.size + 1) (.int .i64 K1) (.bool n1) (.int .i64 E1) (.int .u64 M1)) w2 at hb2
  have p1 := ps_of hb2 (ps_put Z1.out K1 E1 M1 n1)
  have p2' := ps_of hb2 (ps_set4 Z2.out nb (.int .i64 K1) (.bool n1) (.int .i64 E1) (.int .u64 M1))
  have HX := set4_below HB1.out (w.heap.size + 1) (by omega) (.int .i64 K1) (.bool n1) (.int .i64 E1) (.int .u64 M1)
  have HB2 := hidden (HX.trans (hb2.mono HX.size))
  have P1 := hidden p1
  have P2 := hidden p2'
  clear hb2 HX d0 d1 u0 u1 u2 u3 v0 v1 v2 v3 s0 s1 s2 s3 t0 t1 t2 t3 Z1 Z2 HB1
  obtain ⟨u0, u1, u2, u3, v0, v1, v2, v3⟩ := p1
  obtain ⟨s0, s1, s2, s3, t0, t1, t2, t3⟩ := p2'
  go_wp2
  change bodyPost _ _ _ _ _ (set4 (set4 (set4 w2 (w.heap.size + 1 + 1) (.int .i64 0) (.bool false) (.int .i64 0) (.int .u64 0)) (w.heap.size + 1) (.int .i64 0) (.bool false) (.int .i64 0) (.int .u64 0)) (w.heap.size + 1 + 1) (.int .i64 0) (.bool false) (.int .i64 0) (.int .u64 0))
  have q1 := ps_set4 (ps_put (ps_set4 P1.out nb' (.int .i64 0) (.bool false) (.int .i64 0) (.int .u64 0)) 0 0 0 false) nb' (.int .i64 0) (.bool false) (.int .i64 0) (.int .u64 0)
  have q2 := ps_put (ps_set4 (ps_put P2.out 0 0 0 false) nb (.int .i64 0) (.bool false) (.int .i64 0) (.int .u64 0)) 0 0 0 false
  have hF := set4_below (set4_below (set4_below HB2.out (w.heap.size + 1 + 1) (by omega) (.int .i64 0) (.bool false) (.int .i64 0) (.int .u64 0)) (w.heap.size + 1) (by omega) (.int .i64 0) (.bool false) (.int .i64 0) (.int .u64 0)) (w.heap.size + 1 + 1) (by omega) (.int .i64 0) (.bool false) (.int .i64 0) (.int .u64 0)
  generalize (set4 (set4 (set4 w2 (w.heap.size + 1 + 1) (.int .i64 0) (.bool false) (.int .i64 0) (.int .u64 0)) (w.heap.size + 1) (.int .i64 0) (.bool false) (.int .i64 0) (.int .u64 0)) (w.heap.size + 1 + 1) (.int .i64 0) (.bool false) (.int .i64 0) (.int .u64 0)) = wf at *
  clear u0 u1 u2 u3 v0 v1 v2 v3 s0 s1 s2 s3 t0 t1 t2 t3
  obtain ⟨x0, x1, x2, x3, -⟩ := q1
  obtain ⟨y0, y1, y2, y3, -⟩ := q2
  refine bodyPost_ret (v := .tuple #[partsV 0 false 0 0, partsV 0 false 0 0, .int .i64 1]) (by simp [results, Tryd.results29, go_sem, x0, x1, x2, x3, y0, y1, y2, y3]) rfl ⟨rfl, hF⟩
end Go.Proofs.YthfjjkikeebopaaDoor
