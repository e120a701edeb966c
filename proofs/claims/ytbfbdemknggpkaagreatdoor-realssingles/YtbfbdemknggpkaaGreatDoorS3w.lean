/- The document's Mod (package grottoref03): what a division leaves, and its whole quotient. -/
import Derived.Test.YtbfbdemknggpkaaGreatDoorS3e
import Derived.Test.YtbfbdemknggpkaaGreatDoorS3r
import Derived.Test.YtbfbdemknggpkaaGreatDoorS3f
namespace Go.Proofs.YtbfbdemknggpkaaGreatDoor
open Go.RowKit
set_option maxRecDepth 100000
set_option maxHeartbeats 400000
set_option linter.unusedVariables false

theorem below_join {a X w7 : World} (h2 : Below X.heap.size X w7) (h1 : Below a.heap.size a X) : Below a.heap.size a w7 := h1.trans (h2.mono h1.size)
theorem mten_later {w6 w7 : World} {A0 A1 A2 A3 A4 A5 A6 A7 A8 A9 : Addr} {a0 a1 a2 a3 a4 a5 a6 a7 a8 a9 : Value} (hb : Below w6.heap.size w6 w7) (h : w6.cell? A0 = some a0 ∧ w6.cell? A1 = some a1 ∧ w6.cell? A2 = some a2 ∧ w6.cell? A3 = some a3 ∧ w6.cell? A4 = some a4 ∧ w6.cell? A5 = some a5 ∧ w6.cell? A6 = some a6 ∧ w6.cell? A7 = some a7 ∧ w6.cell? A8 = some a8 ∧ w6.cell? A9 = some a9) :
    w7.cell? A0 = some a0 ∧ w7.cell? A1 = some a1 ∧ w7.cell? A2 = some a2 ∧ w7.cell? A3 = some a3 ∧ w7.cell? A4 = some a4 ∧ w7.cell? A5 = some a5 ∧ w7.cell? A6 = some a6 ∧ w7.cell? A7 = some a7 ∧ w7.cell? A8 = some a8 ∧ w7.cell? A9 = some a9 := by
  obtain ⟨h0, h1, h2, h3, h4, h5, h6, h7, h8, h9⟩ := h
  exact ⟨cellLater hb h0, cellLater hb h1, cellLater hb h2, cellLater hb h3, cellLater hb h4, cellLater hb h5, cellLater hb h6, cellLater hb h7, cellLater hb h8, cellLater hb h9⟩
theorem rmod_boxes (m x K1 E1 M1 K2 E2 M2 : Int) (n1 n2 : Bool) (w w1 : World) (hb : Below (w.alloc (.cells #[.int .i64 m, .int .i64 x] 37)).heap.size (w.alloc (.cells #[.int .i64 m, .int .i64 x] 37)) w1) :
    ∃ w5, w5 = (w1.alloc (.cells #[.int .i64 K1, .bool n1, .int .i64 E1, .int .u64 M1] 53)).alloc (.cells #[.int .i64 K2, .bool n2, .int .i64 E2, .int .u64 M2] 53) ∧ Below w.heap.size w w5 ∧ w5.cell? ⟨w.heap.size, 0, none⟩ = some (.int .i64 m) ∧ w5.cell? ⟨w.heap.size, 1, none⟩ = some (.int .i64 x) ∧ w5.cell? ⟨w1.heap.size, 0, none⟩ = some (.int .i64 K1) ∧ w5.cell? ⟨w1.heap.size, 1, none⟩ = some (.bool n1) ∧ w5.cell? ⟨w1.heap.size, 2, none⟩ = some (.int .i64 E1) ∧ w5.cell? ⟨w1.heap.size, 3, none⟩ = some (.int .u64 M1) ∧ w5.cell? ⟨w1.heap.size + 1, 0, none⟩ = some (.int .i64 K2) ∧ w5.cell? ⟨w1.heap.size + 1, 1, none⟩ = some (.bool n2) ∧ w5.cell? ⟨w1.heap.size + 1, 2, none⟩ = some (.int .i64 E2) ∧ w5.cell? ⟨w1.heap.size + 1, 3, none⟩ = some (.int .u64 M2) := by
  have hB := box_below _ hb
  have d0 : w1.cell? ⟨w.heap.size, 0, none⟩ = some (.int .i64 m) := cellLater hb (by simp)
  have d1 : w1.cell? ⟨w.heap.size, 1, none⟩ = some (.int .i64 x) := cellLater hb (by simp)
  have hZ : Below w1.heap.size w1 ((w1.alloc (.cells #[.int .i64 K1, .bool n1, .int .i64 E1, .int .u64 M1] 53)).alloc (.cells #[.int .i64 K2, .bool n2, .int .i64 E2, .int .u64 M2] 53)) := ((Below.refl _ _).alloc (Nat.le_refl _) _).alloc (by simp) _
  obtain ⟨p0, p1, p2, p3, -⟩ := ps_alloc (.cells #[.int .i64 K2, .bool n2, .int .i64 E2, .int .u64 M2] 53) (ps_fresh w1 K1 E1 M1 n1)
  have h := ps_fresh (w1.alloc (.cells #[.int .i64 K1, .bool n1, .int .i64 E1, .int .u64 M1] 53)) K2 E2 M2 n2
  rw [show (w1.alloc (.cells #[.int .i64 K1, .bool n1, .int .i64 E1, .int .u64 M1] 53)).heap.size = w1.heap.size + 1 by simp] at h
  obtain ⟨q0, q1, q2, q3, -⟩ := h
  exact ⟨_, rfl, hB.trans (hZ.mono hB.size), cellLater hZ d0, cellLater hZ d1, p0, p1, p2, p3, q0, q1, q2, q3⟩
/-- what the two boxes hold behind alike -/
def ModAt (w : World) (B0 B1 : Nat) (m x : Int) (n1 : Bool) (A1 A2 e : Int) (L1 L2 : Nat) (v13 v14 : Value) (wc : World) : Prop :=
  ∃ b13 b14 a1 l1 c1 d1 a2 l2 c2 d2 s1 s2, v13 = .pointer (some ⟨b13, 0, none⟩) ∧ v14 = .pointer (some ⟨b14, 0, none⟩) ∧ wc.cell? ⟨B0, 0, none⟩ = some (.int .i64 m) ∧ wc.cell? ⟨B0, 1, none⟩ = some (.int .i64 x) ∧ wc.cell? ⟨B1, 1, none⟩ = some (.bool n1) ∧
    wc.cell? ⟨b13, 0, none⟩ = some (.int .i64 s1) ∧ wc.cell? ⟨b13, 1, none⟩ = some (.slice a1 l1 c1) ∧ wc.cell? ⟨b13, 2, none⟩ = some (.int .i64 e) ∧ wc.cell? ⟨b14, 0, none⟩ = some (.int .i64 s2) ∧ wc.cell? ⟨b14, 1, none⟩ = some (.slice a2 l2 c2) ∧ wc.cell? ⟨b14, 2, none⟩ = some (.int .i64 e) ∧
    HasNat wc a1 l1 c1 d1 A1 ∧ HasNat wc a2 l2 c2 d2 A2 ∧ l1 ≤ L1 ∧ l2 ≤ L2 ∧ Below w.heap.size w wc
theorem rs_cells {X : World} {b : Nat} {S E : Int} {v : Value} (h : RsAt X b S v E) : X.cell? ⟨b, 0, none⟩ = some (.int .i64 S) ∧ X.cell? ⟨b, 1, none⟩ = some v ∧ X.cell? ⟨b, 2, none⟩ = some (.int .i64 E) := ⟨h.1, h.2.1, h.2.2.1⟩
/-- both boxes are older than the numbers -/
theorem mod_oo {w w8 : World} {B0 B1 b13 b14 : Nat} {m x A1 A2 e s1 s2 : Int} {n1 : Bool} {a1 a2 : Option Addr} {l1 c1 l2 c2 L1 L2 : Nat} {d1 d2 : List Int} (hB : Below w.heap.size w w8) (c0 : w8.cell? ⟨B0, 0, none⟩ = some (.int .i64 m)) (c1' : w8.cell? ⟨B0, 1, none⟩ = some (.int .i64 x)) (p1 : w8.cell? ⟨B1, 1, none⟩ = some (.bool n1))
    (z13 : RsAt w8 b13 0 (.slice none 0 0) 0) (z14 : RsAt w8 b14 0 (.slice none 0 0) 0) (h1 : HasNat w8 a1 l1 c1 d1 A1) (h2 : HasNat w8 a2 l2 c2 d2 A2) (hl1 : l1 ≤ L1) (hl2 : l2 ≤ L2)
    (q1 : ∀ p, a1 = some p → b13 < p.block ∧ b14 < p.block) (q2 : ∀ p, a2 = some p → b13 < p.block ∧ b14 < p.block) (ne : ¬ b13 = b14) (f1 : w.heap.size ≤ b13) (f2 : w.heap.size ≤ b14) (g1 : ¬ b13 = B0) (g2 : ¬ b13 = B1) (g3 : ¬ b14 = B0) (g4 : ¬ b14 = B1) :
    ModAt w B0 B1 m x n1 A1 A2 e L1 L2 (.pointer (some ⟨b13, 0, none⟩)) (.pointer (some ⟨b14, 0, none⟩)) (set3 (set3 w8 b13 (.int .i64 s1) (.slice a1 l1 c1) (.int .i64 e)) b14 (.int .i64 s2) (.slice a2 l2 c2) (.int .i64 e)) := by
  have r13 := rs_put z13 s1 e (.slice a1 l1 c1)
  have z14' : RsAt (set3 w8 b13 (.int .i64 s1) (.slice a1 l1 c1) (.int .i64 e)) b14 0 (.slice none 0 0) 0 := rs_set3 z14 ne _ _ _
  have r14 := rs_put z14' s2 e (.slice a2 l2 c2)
  have r13' := rs_cells (rs_set3 r13 (c := b14) (fun h => ne h.symm) (.int .i64 s2) (.slice a2 l2 c2) (.int .i64 e))
  have r14' := rs_cells r14
  refine ⟨b13, b14, a1, l1, c1, d1, a2, l2, c2, d2, s1, s2, rfl, rfl, ?_, ?_, ?_, r13'.1, r13'.2.1, r13'.2.2, r14'.1, r14'.2.1, r14'.2.2, ?_, ?_, hl1, hl2, set3_below (set3_below hB b13 f1 _ _ _) b14 f2 _ _ _⟩
  · exact (set3_far _ _ _ _ _ _ _ g3).trans ((set3_far _ _ _ _ _ _ _ g1).trans c0)
  · exact (set3_far _ _ _ _ _ _ _ g3).trans ((set3_far _ _ _ _ _ _ _ g1).trans c1')
  · exact (set3_far _ _ _ _ _ _ _ g4).trans ((set3_far _ _ _ _ _ _ _ g2).trans p1)
  · exact ⟨rd_set3 (rd_set3 h1.rd _ _ _ _ fun p hp => by have := (q1 p hp).1; omega) _ _ _ _ fun p hp => by have := (q1 p hp).2; omega, h1.ok, h1.val, h1.top⟩
  · exact ⟨rd_set3 (rd_set3 h2.rd _ _ _ _ fun p hp => by have := (q2 p hp).1; omega) _ _ _ _ fun p hp => by have := (q2 p hp).2; omega, h2.ok, h2.val, h2.top⟩
theorem len_blw {w : World} {a : Option Addr} {l c : Nat} {ds : List Int} {N : Int} (h : HasNat w a l c ds N) : l ≤ bl N / 16 + 1 := by
  rcases h.top with h0 | h0
  · omega
  · rcases Nat.eq_zero_or_pos l with h1 | h1
    · omega
    · have hl := h.rd.1
      have e := nv_split ds (l - 1) (by omega)
      have n1 := nv_nonneg _ (h.ok.take (l - 1))
      have s := nv_drop_step ds (l - 1) (by omega)
      have n2 := nv_nonneg _ (h.ok.drop (l - 1 + 1))
      have d := h.ok.at (l - 1)
      have h2 : 1 ≤ nv (ds.drop (l - 1)) := by omega
      have hp : (0 : Int) < 65536 ^ (l - 1) := Int.pow_pos (by decide)
      have h3 := Int.mul_le_mul_of_nonneg_left h2 (Int.le_of_lt hp)
      rw [pow16] at h3 e
      have h4 : p2 (16 * (l - 1)) ≤ N := by rw [← h.val]; omega
      have := lt_bl h4
      omega
theorem p2_64w : p2 64 = 18446744073709551616 := by decide +kernel
/-- a box that is new -/
theorem mod_nn {w w8 : World} {B0 B1 : Nat} {m x A1 A2 e s1 s2 : Int} {n1 : Bool} {a1 a2 : Option Addr} {l1 c1 l2 c2 L1 L2 : Nat} {d1 d2 : List Int} (hB : Below w.heap.size w w8) (c0 : w8.cell? ⟨B0, 0, none⟩ = some (.int .i64 m)) (c1' : w8.cell? ⟨B0, 1, none⟩ = some (.int .i64 x)) (p1 : w8.cell? ⟨B1, 1, none⟩ = some (.bool n1)) (h1 : HasNat w8 a1 l1 c1 d1 A1) (h2 : HasNat w8 a2 l2 c2 d2 A2) (hl1 : l1 ≤ L1) (hl2 : l2 ≤ L2) :
    ModAt w B0 B1 m x n1 A1 A2 e L1 L2 (.pointer (some ⟨w8.heap.size, 0, none⟩)) (.pointer (some ⟨w8.heap.size + 1, 0, none⟩)) ((w8.alloc (.cells #[.int .i64 s1, .slice a1 l1 c1, .int .i64 e] 61)).alloc (.cells #[.int .i64 s2, .slice a2 l2 c2, .int .i64 e] 61)) := by
  have hz : Below w8.heap.size w8 ((w8.alloc (.cells #[.int .i64 s1, .slice a1 l1 c1, .int .i64 e] 61)).alloc (.cells #[.int .i64 s2, .slice a2 l2 c2, .int .i64 e] 61)) := ((Below.refl _ _).alloc (Nat.le_refl _) _).alloc (by simp) _
  have r1 := rs_cells (rs_alloc (.cells #[.int .i64 s2, .slice a2 l2 c2, .int .i64 e] 61) (rs_fresh w8 s1 e a1 l1 c1))
  have r2 := rs_fresh (w8.alloc (.cells #[.int .i64 s1, .slice a1 l1 c1, .int .i64 e] 61)) s2 e a2 l2 c2
  rw [show (w8.alloc (.cells #[.int .i64 s1, .slice a1 l1 c1, .int .i64 e] 61)).heap.size = w8.heap.size + 1 by simp] at r2
  have r2' := rs_cells r2
  exact ⟨_, _, a1, l1, c1, d1, a2, l2, c2, d2, s1, s2, rfl, rfl, cellLater hz c0, cellLater hz c1', cellLater hz p1, r1.1, r1.2.1, r1.2.2, r2'.1, r2'.2.1, r2'.2.2, h1.later hz, h2.later hz, hl1, hl2, hB.trans (hz.mono hB.size)⟩
theorem mod_nm {w w8 : World} {B0 B1 : Nat} {m x A1 A2 e s1 s2 : Int} {n1 : Bool} {a1 a2 : Option Addr} {l1 c1 l2 c2 L1 L2 : Nat} {d1 d2 : List Int} (hB : Below w.heap.size w w8) (c0 : w8.cell? ⟨B0, 0, none⟩ = some (.int .i64 m)) (c1' : w8.cell? ⟨B0, 1, none⟩ = some (.int .i64 x)) (p1 : w8.cell? ⟨B1, 1, none⟩ = some (.bool n1)) (h1 : HasNat w8 a1 l1 c1 d1 A1) (h2 : HasNat w8 a2 l2 c2 d2 A2) (hl1 : l1 ≤ L1) (hl2 : l2 ≤ L2) :
    ModAt w B0 B1 m x n1 A1 A2 e L1 L2 (.pointer (some ⟨w8.heap.size + 1, 0, none⟩)) (.pointer (some ⟨w8.heap.size, 0, none⟩)) ((w8.alloc (.cells #[.int .i64 s2, .slice a2 l2 c2, .int .i64 e] 61)).alloc (.cells #[.int .i64 s1, .slice a1 l1 c1, .int .i64 e] 61)) := by
  have hz : Below w8.heap.size w8 ((w8.alloc (.cells #[.int .i64 s2, .slice a2 l2 c2, .int .i64 e] 61)).alloc (.cells #[.int .i64 s1, .slice a1 l1 c1, .int .i64 e] 61)) := ((Below.refl _ _).alloc (Nat.le_refl _) _).alloc (by simp) _
  have r2' := rs_cells (rs_alloc (.cells #[.int .i64 s1, .slice a1 l1 c1, .int .i64 e] 61) (rs_fresh w8 s2 e a2 l2 c2))
  have r1 := rs_fresh (w8.alloc (.cells #[.int .i64 s2, .slice a2 l2 c2, .int .i64 e] 61)) s1 e a1 l1 c1
  rw [show (w8.alloc (.cells #[.int .i64 s2, .slice a2 l2 c2, .int .i64 e] 61)).heap.size = w8.heap.size + 1 by simp] at r1
  have r1' := rs_cells r1
  exact ⟨_, _, a1, l1, c1, d1, a2, l2, c2, d2, s1, s2, rfl, rfl, cellLater hz c0, cellLater hz c1', cellLater hz p1, r1'.1, r1'.2.1, r1'.2.2, r2'.1, r2'.2.1, r2'.2.2, h1.later hz, h2.later hz, hl1, hl2, hB.trans (hz.mono hB.size)⟩
theorem mod_on {b13 : Nat} {w w8 : World} {B0 B1 : Nat} {m x A1 A2 e s1 s2 : Int} {n1 : Bool} {a1 a2 : Option Addr} {l1 c1 l2 c2 L1 L2 : Nat} {d1 d2 : List Int} (hB : Below w.heap.size w w8) (c0 : w8.cell? ⟨B0, 0, none⟩ = some (.int .i64 m)) (c1' : w8.cell? ⟨B0, 1, none⟩ = some (.int .i64 x)) (p1 : w8.cell? ⟨B1, 1, none⟩ = some (.bool n1)) (h1 : HasNat w8 a1 l1 c1 d1 A1) (h2 : HasNat w8 a2 l2 c2 d2 A2) (hl1 : l1 ≤ L1) (hl2 : l2 ≤ L2) (z13 : RsAt w8 b13 0 (.slice none 0 0) 0) (q1 : ∀ p, a1 = some p → b13 < p.block) (q2 : ∀ p, a2 = some p → b13 < p.block) (f1 : w.heap.size ≤ b13) (g1 : ¬ b13 = B0) (g2 : ¬ b13 = B1) :
    ModAt w B0 B1 m x n1 A1 A2 e L1 L2 (.pointer (some ⟨b13, 0, none⟩)) (.pointer (some ⟨w8.heap.size, 0, none⟩)) ((set3 w8 b13 (.int .i64 s1) (.slice a1 l1 c1) (.int .i64 e)).alloc (.cells #[.int .i64 s2, .slice a2 l2 c2, .int .i64 e] 61)) := by
  have r13 := rs_put z13 s1 e (.slice a1 l1 c1)
  have hsz : (set3 w8 b13 (.int .i64 s1) (.slice a1 l1 c1) (.int .i64 e)).heap.size = w8.heap.size := by simp [set3]
  have hz : Below (set3 w8 b13 (.int .i64 s1) (.slice a1 l1 c1) (.int .i64 e)).heap.size (set3 w8 b13 (.int .i64 s1) (.slice a1 l1 c1) (.int .i64 e)) ((set3 w8 b13 (.int .i64 s1) (.slice a1 l1 c1) (.int .i64 e)).alloc (.cells #[.int .i64 s2, .slice a2 l2 c2, .int .i64 e] 61)) := (Below.refl _ _).alloc (Nat.le_refl _) _
  have r1 := rs_cells (rs_of hz r13)
  have r2 := rs_fresh (set3 w8 b13 (.int .i64 s1) (.slice a1 l1 c1) (.int .i64 e)) s2 e a2 l2 c2
  rw [hsz] at r2
  have r2' := rs_cells r2
  have hB2 := set3_below hB b13 f1 (.int .i64 s1) (.slice a1 l1 c1) (.int .i64 e)
  have k1 : HasNat (set3 w8 b13 (.int .i64 s1) (.slice a1 l1 c1) (.int .i64 e)) a1 l1 c1 d1 A1 := ⟨rd_set3 h1.rd _ _ _ _ fun p hp => by have := q1 p hp; omega, h1.ok, h1.val, h1.top⟩
  have k2 : HasNat (set3 w8 b13 (.int .i64 s1) (.slice a1 l1 c1) (.int .i64 e)) a2 l2 c2 d2 A2 := ⟨rd_set3 h2.rd _ _ _ _ fun p hp => by have := q2 p hp; omega, h2.ok, h2.val, h2.top⟩
  exact ⟨_, _, a1, l1, c1, d1, a2, l2, c2, d2, s1, s2, rfl, rfl, cellLater hz ((set3_far _ _ _ _ _ _ _ g1).trans c0), cellLater hz ((set3_far _ _ _ _ _ _ _ g1).trans c1'), cellLater hz ((set3_far _ _ _ _ _ _ _ g2).trans p1), r1.1, r1.2.1, r1.2.2, r2'.1, r2'.2.1, r2'.2.2, k1.later hz, k2.later hz, hl1, hl2, hB2.trans (hz.mono hB2.size)⟩
theorem mod_no {b14 : Nat} {w w8 : World} {B0 B1 : Nat} {m x A1 A2 e s1 s2 : Int} {n1 : Bool} {a1 a2 : Option Addr} {l1 c1 l2 c2 L1 L2 : Nat} {d1 d2 : List Int} (hB : Below w.heap.size w w8) (c0 : w8.cell? ⟨B0, 0, none⟩ = some (.int .i64 m)) (c1' : w8.cell? ⟨B0, 1, none⟩ = some (.int .i64 x)) (p1 : w8.cell? ⟨B1, 1, none⟩ = some (.bool n1)) (h1 : HasNat w8 a1 l1 c1 d1 A1) (h2 : HasNat w8 a2 l2 c2 d2 A2) (hl1 : l1 ≤ L1) (hl2 : l2 ≤ L2) (z14 : RsAt w8 b14 0 (.slice none 0 0) 0) (q1 : ∀ p, a1 = some p → b14 < p.block) (q2 : ∀ p, a2 = some p → b14 < p.block) (f1 : w.heap.size ≤ b14) (g1 : ¬ b14 = B0) (g2 : ¬ b14 = B1) :
    ModAt w B0 B1 m x n1 A1 A2 e L1 L2 (.pointer (some ⟨w8.heap.size, 0, none⟩)) (.pointer (some ⟨b14, 0, none⟩)) ((set3 w8 b14 (.int .i64 s2) (.slice a2 l2 c2) (.int .i64 e)).alloc (.cells #[.int .i64 s1, .slice a1 l1 c1, .int .i64 e] 61)) := by
  have r14 := rs_put z14 s2 e (.slice a2 l2 c2)
  have hsz : (set3 w8 b14 (.int .i64 s2) (.slice a2 l2 c2) (.int .i64 e)).heap.size = w8.heap.size := by simp [set3]
  have hz : Below (set3 w8 b14 (.int .i64 s2) (.slice a2 l2 c2) (.int .i64 e)).heap.size (set3 w8 b14 (.int .i64 s2) (.slice a2 l2 c2) (.int .i64 e)) ((set3 w8 b14 (.int .i64 s2) (.slice a2 l2 c2) (.int .i64 e)).alloc (.cells #[.int .i64 s1, .slice a1 l1 c1, .int .i64 e] 61)) := (Below.refl _ _).alloc (Nat.le_refl _) _
  have r2' := rs_cells (rs_of hz r14)
  have r1 := rs_fresh (set3 w8 b14 (.int .i64 s2) (.slice a2 l2 c2) (.int .i64 e)) s1 e a1 l1 c1
  rw [hsz] at r1
  have r1' := rs_cells r1
  have hB2 := set3_below hB b14 f1 (.int .i64 s2) (.slice a2 l2 c2) (.int .i64 e)
  have k1 : HasNat (set3 w8 b14 (.int .i64 s2) (.slice a2 l2 c2) (.int .i64 e)) a1 l1 c1 d1 A1 := ⟨rd_set3 h1.rd _ _ _ _ fun p hp => by have := q1 p hp; omega, h1.ok, h1.val, h1.top⟩
  have k2 : HasNat (set3 w8 b14 (.int .i64 s2) (.slice a2 l2 c2) (.int .i64 e)) a2 l2 c2 d2 A2 := ⟨rd_set3 h2.rd _ _ _ _ fun p hp => by have := q2 p hp; omega, h2.ok, h2.val, h2.top⟩
  exact ⟨_, _, a1, l1, c1, d1, a2, l2, c2, d2, s1, s2, rfl, rfl, cellLater hz ((set3_far _ _ _ _ _ _ _ g1).trans c0), cellLater hz ((set3_far _ _ _ _ _ _ _ g1).trans c1'), cellLater hz ((set3_far _ _ _ _ _ _ _ g2).trans p1), r1'.1, r1'.2.1, r1'.2.2, r2'.1, r2'.2.1, r2'.2.2, k1.later hz, k2.later hz, hl1, hl2, hB2.trans (hz.mono hB2.size)⟩
theorem mod_oo2 {w w8 : World} {B0 B1 b13 b14 : Nat} {m x A1 A2 e s1 s2 : Int} {n1 : Bool} {a1 a2 : Option Addr} {l1 c1 l2 c2 L1 L2 : Nat} {d1 d2 : List Int} (hB : Below w.heap.size w w8) (c0 : w8.cell? ⟨B0, 0, none⟩ = some (.int .i64 m)) (c1' : w8.cell? ⟨B0, 1, none⟩ = some (.int .i64 x)) (p1 : w8.cell? ⟨B1, 1, none⟩ = some (.bool n1))
    (z13 : RsAt w8 b13 0 (.slice none 0 0) 0) (z14 : RsAt w8 b14 0 (.slice none 0 0) 0) (h1 : HasNat w8 a1 l1 c1 d1 A1) (h2 : HasNat w8 a2 l2 c2 d2 A2) (hl1 : l1 ≤ L1) (hl2 : l2 ≤ L2)
    (q1 : ∀ p, a1 = some p → b13 < p.block ∧ b14 < p.block) (q2 : ∀ p, a2 = some p → b13 < p.block ∧ b14 < p.block) (ne : ¬ b13 = b14) (f1 : w.heap.size ≤ b13) (f2 : w.heap.size ≤ b14) (g1 : ¬ b13 = B0) (g2 : ¬ b13 = B1) (g3 : ¬ b14 = B0) (g4 : ¬ b14 = B1) :
    ModAt w B0 B1 m x n1 A1 A2 e L1 L2 (.pointer (some ⟨b13, 0, none⟩)) (.pointer (some ⟨b14, 0, none⟩)) ((((((w8.setCell ⟨b13, 0, none⟩ (.int .i64 s1)).setCell ⟨b13, 1, none⟩ (.slice a1 l1 c1)).setCell ⟨b13, 2, none⟩ (.int .i64 e)).setCell ⟨b14, 0, none⟩ (.int .i64 s2)).setCell ⟨b14, 1, none⟩ (.slice a2 l2 c2)).setCell ⟨b14, 2, none⟩ (.int .i64 e)) := mod_oo hB c0 c1' p1 z13 z14 h1 h2 hl1 hl2 q1 q2 ne f1 f2 g1 g2 g3 g4
theorem mod_on2 {b13 : Nat} {w w8 : World} {B0 B1 : Nat} {m x A1 A2 e s1 s2 : Int} {n1 : Bool} {a1 a2 : Option Addr} {l1 c1 l2 c2 L1 L2 : Nat} {d1 d2 : List Int} (hB : Below w.heap.size w w8) (c0 : w8.cell? ⟨B0, 0, none⟩ = some (.int .i64 m)) (c1' : w8.cell? ⟨B0, 1, none⟩ = some (.int .i64 x)) (p1 : w8.cell? ⟨B1, 1, none⟩ = some (.bool n1)) (h1 : HasNat w8 a1 l1 c1 d1 A1) (h2 : HasNat w8 a2 l2 c2 d2 A2) (hl1 : l1 ≤ L1) (hl2 : l2 ≤ L2) (z13 : RsAt w8 b13 0 (.slice none 0 0) 0) (q1 : ∀ p, a1 = some p → b13 < p.block) (q2 : ∀ p, a2 = some p → b13 < p.block) (f1 : w.heap.size ≤ b13) (g1 : ¬ b13 = B0) (g2 : ¬ b13 = B1) :
    ModAt w B0 B1 m x n1 A1 A2 e L1 L2 (.pointer (some ⟨b13, 0, none⟩)) (.pointer (some ⟨w8.heap.size, 0, none⟩)) ((((w8.setCell ⟨b13, 0, none⟩ (.int .i64 s1)).setCell ⟨b13, 1, none⟩ (.slice a1 l1 c1)).setCell ⟨b13, 2, none⟩ (.int .i64 e)).alloc (.cells #[.int .i64 s2, .slice a2 l2 c2, .int .i64 e] 61)) := mod_on hB c0 c1' p1 h1 h2 hl1 hl2 z13 q1 q2 f1 g1 g2
theorem mod_no2 {b14 : Nat} {w w8 : World} {B0 B1 : Nat} {m x A1 A2 e s1 s2 : Int} {n1 : Bool} {a1 a2 : Option Addr} {l1 c1 l2 c2 L1 L2 : Nat} {d1 d2 : List Int} (hB : Below w.heap.size w w8) (c0 : w8.cell? ⟨B0, 0, none⟩ = some (.int .i64 m)) (c1' : w8.cell? ⟨B0, 1, none⟩ = some (.int .i64 x)) (p1 : w8.cell? ⟨B1, 1, none⟩ = some (.bool n1)) (h1 : HasNat w8 a1 l1 c1 d1 A1) (h2 : HasNat w8 a2 l2 c2 d2 A2) (hl1 : l1 ≤ L1) (hl2 : l2 ≤ L2) (z14 : RsAt w8 b14 0 (.slice none 0 0) 0) (q1 : ∀ p, a1 = some p → b14 < p.block) (q2 : ∀ p, a2 = some p → b14 < p.block) (f1 : w.heap.size ≤ b14) (g1 : ¬ b14 = B0) (g2 : ¬ b14 = B1) :
    ModAt w B0 B1 m x n1 A1 A2 e L1 L2 (.pointer (some ⟨w8.heap.size, 0, none⟩)) (.pointer (some ⟨b14, 0, none⟩)) ((((w8.setCell ⟨b14, 0, none⟩ (.int .i64 s2)).setCell ⟨b14, 1, none⟩ (.slice a2 l2 c2)).setCell ⟨b14, 2, none⟩ (.int .i64 e)).alloc (.cells #[.int .i64 s1, .slice a1 l1 c1, .int .i64 e] 61)) := mod_no hB c0 c1' p1 h1 h2 hl1 hl2 z14 q1 q2 f1 g1 g2
set_option maxHeartbeats 8000000 in
theorem rmod_num (m x : Nat) (a b K1 E1 M1 E2 M2 e : Int) (n1 n2 : Bool) (k1 k2 : Nat) (w : World) (hok : okF m x) (hK1 : (K1 == 4) = false) (hK3 : (K1 == 3) = false) (a0 : 0 ≤ M1) (a1 : M1 ≤ 18446744073709551615) (b0 : 0 < M2) (b1 : M2 ≤ 18446744073709551615) (he : min E1 E2 = e) (hk1 : E1 - e = k1) (hk2 : E2 - e = k2) (e1 : -2000 ≤ E1 ∧ E1 ≤ 2000) (e2 : -2000 ≤ E2 ∧ E2 ≤ 2000)
    (HO : Hid (∀ w, Calls Tryz.prog 33 #[.agg #[.int .i64 m, .int .i64 x], .int .u64 a, .int .u64 b] w fun r w' => r = .returned (.tuple #[partsV K1 n1 E1 M1, partsV 2 n2 E2 M2, .int .i64 0]) ∧ Below w.heap.size w w')) :
    Calls Tryz.prog 16 #[.agg #[.int .i64 m, .int .i64 x], .int .u64 a, .int .u64 b] w fun r w' => ∃ P Q R T, r = .returned (.tuple #[.int .u64 (P + sgnW n1 (m + x)), .int .u64 (T + sgnW (n1 != n2) (m + x)), .int .i64 0]) ∧ Q * (M2 * p2 k2) + R = M1 * p2 k1 ∧ 0 ≤ R ∧ R < M2 * p2 k2 ∧ 0 ≤ Q ∧ ((R = 0 ∧ P = 0) ∨ (0 < R ∧ IsNear m x R 1 e P)) ∧ ((Q = 0 ∧ T = 0) ∨ (0 < Q ∧ IsNear m x Q 1 0 T)) ∧ Below w.heap.size w w' := by
  have HX1 := hidden (fun w => exact_any K1 E1 M1 n1 w a0 a1)
  have HX2 := hidden (fun w => exact_any 2 E2 M2 n2 w (by omega) b1)
  have HAL : Hid (∀ w (x1 x2 : Option Addr) (l1 c1 l2 c2 : Nat) (d1 d2 : List Int), HasNat w x1 l1 c1 d1 M1 → HasNat w x2 l2 c2 d2 M2 → l1 ≤ 4 → l2 ≤ 4 → Calls Tryz.prog 46 #[.agg #[.int .i64 (sgnI n1), .slice x1 l1 c1, .int .i64 E1], .agg #[.int .i64 (sgnI n2), .slice x2 l2 c2, .int .i64 E2]] w fun r w' => AlikeRet w (sgnI n1) (sgnI n2) M1 M2 e k1 k2 4 4 r w') := hidden (fun w x1 x2 l1 c1 l2 c2 d1 d2 h1 h2 hl1 hl2 => by
    refine (alike_any (sgnI n1) (sgnI n2) E1 E2 M1 M2 e x1 x2 l1 c1 l2 c2 k1 k2 d1 d2 w h1 h2 (by omega) (by omega) he hk1 hk2 (by omega) (by omega) (by omega) (by omega)).mono ?_
    rintro r w' ⟨au, lu, cu, du, av, lv, cv, dv, h1, h2, h3, h4, h5, h6⟩
    exact ⟨au, lu, cu, du, av, lv, cv, dv, h1, h2, h3, by omega, by omega, h6⟩)
  go_enter Tryz.func16, Tryz.ntmps16
  go_wp2_with fail
  refine (HO.out _).mono ?_
  rintro r w1 ⟨rfl, hb1⟩
  obtain ⟨w5, hw5, hx, c0, c1, p0, p1, p2', p3, q0, q1, q2', q3⟩ := rmod_boxes m x K1 E1 M1 2 E2 M2 n1 n2 w w1 hb1
  have s01 : w.heap.size < w1.heap.size := World.block_lt_of_cell? _ _ (show w1.cell? ⟨w.heap.size, 0, none⟩ = some (.int .i64 (m : Int)) from cellLater hb1 (by simp))
  have s15 : w1.heap.size + 1 < w5.heap.size := World.block_lt_of_cell? _ _ q0
  have n5a0 : ¬ w5.heap.size = w.heap.size := (by omega)
  have n5a1 : ¬ w5.heap.size = w1.heap.size := (by omega)
  have n5a2 : ¬ w5.heap.size = w1.heap.size + 1 := (by omega)
  have n5b0 : ¬ w5.heap.size + 1 = w.heap.size := (by omega)
  have n5b1 : ¬ w5.heap.size + 1 = w1.heap.size := (by omega)
  have n5b2 : ¬ w5.heap.size + 1 = w1.heap.size + 1 := (by omega)
  have HB := hidden hx
  clear hx hb1
  go_upto_region 2 with fail
  change Code.wp _ _ _ _ ((w1.alloc (.cells #[.int .i64 K1, .bool n1, .int .i64 E1, .int .u64 M1] 53)).alloc (.cells #[.int .i64 2, .bool n2, .int .i64 E2, .int .u64 M2] 53))
  rw [← hw5]
  clear hw5
  go_upto_region 9 with fail
  go_cut [13, 14] from 64 to 71 (fun v13 v14 wc => ModAt w w.heap.size w1.heap.size m x n1 (M1 * p2 k1) (M2 * p2 k2) e (k1 / 16 + 4 + 1) (k2 / 16 + 4 + 1) v13 v14 wc)
  case first =>
    go_region_held3 (fun w' => w'.cell? ⟨w.heap.size, 0, none⟩ = some (.int .i64 m) ∧ w'.cell? ⟨w.heap.size, 1, none⟩ = some (.int .i64 x) ∧ w'.cell? ⟨w1.heap.size, 0, none⟩ = some (.int .i64 K1) ∧ w'.cell? ⟨w1.heap.size, 1, none⟩ = some (.bool n1) ∧ w'.cell? ⟨w1.heap.size, 2, none⟩ = some (.int .i64 E1) ∧ w'.cell? ⟨w1.heap.size, 3, none⟩ = some (.int .u64 M1) ∧ w'.cell? ⟨w1.heap.size + 1, 0, none⟩ = some (.int .i64 2) ∧ w'.cell? ⟨w1.heap.size + 1, 1, none⟩ = some (.bool n2) ∧ w'.cell? ⟨w1.heap.size + 1, 2, none⟩ = some (.int .i64 E2) ∧ w'.cell? ⟨w1.heap.size + 1, 3, none⟩ = some (.int .u64 M2)) (first | (refine ⟨?_, ?_, ?_, ?_, ?_, ?_, ?_, ?_, ?_, ?_⟩ <;> with_reducible assumption) | go_keep) (first | (go_at_call_of 38 (Value.int IntKind.u64 M1); refine (HX1.out _).mono ?_; rintro r w6 ⟨a6, l6, c6, d6, rfl, h6, hl6, hb6, -⟩; have hj6 := below_join (a := w5) hb6 (by (repeat (first | exact Below.refl _ _ | apply Below.drew | (refine Below.alloc ?_ (by simp; try omega) _)))); have cc := mten_later hj6 ⟨c0, c1, p0, p1, p2', p3, q0, q1, q2', q3⟩; clear c0 c1 p0 p1 p2' p3 q0 q1 q2' q3; obtain ⟨c0, c1, p0, p1, p2', p3, q0, q1, q2', q3⟩ := cc; have sj6 := hj6.size; have HB6 := hidden (HB.out.trans (hj6.mono HB.out.size)); have H6 := hidden h6; (try (have ZA5 : Hid (RsAt w6 w5.heap.size 0 (.slice none 0 0) 0) := hidden (rs_of hb6 (by (first | exact rs_fresh _ 0 0 none 0 0 | exact rs_of ((Below.refl _ _).drew) (rs_fresh _ 0 0 none 0 0) | exact rs_alloc _ (rs_fresh _ 0 0 none 0 0) | exact rs_of ((Below.refl _ _).drew) (rs_alloc _ (rs_fresh _ 0 0 none 0 0)) | exact rs_alloc _ (rs_of ((Below.refl _ _).drew) (rs_fresh _ 0 0 none 0 0))))); have ta5 : w5.heap.size < w6.heap.size := World.block_lt_of_cell? _ _ ZA5.out.1)); (try (have ZB5 : Hid (RsAt w6 (w5.heap.size + 1) 0 (.slice none 0 0) 0) := hidden (rs_of hb6 (by (first | (have h := rs_fresh (w5.alloc (.cells #[.int .i64 0, .slice none 0 0, .int .i64 0] 61)) 0 0 none 0 0; simpa using h) | (have h := rs_fresh (w5.drew.alloc (.cells #[.int .i64 0, .slice none 0 0, .int .i64 0] 61)) 0 0 none 0 0; simpa using h) | (have h := rs_fresh (w5.alloc (.cells #[.int .i64 0, .slice none 0 0, .int .i64 0] 61)).drew 0 0 none 0 0; simpa using h) | (have h := rs_of ((Below.refl _ _).drew) (rs_fresh (w5.alloc (.cells #[.int .i64 0, .slice none 0 0, .int .i64 0] 61)) 0 0 none 0 0); simpa using h)))); have tb5 : w5.heap.size + 1 < w6.heap.size := World.block_lt_of_cell? _ _ ZB5.out.1)); have n6a0 : ¬ w6.heap.size = w.heap.size := (by omega); have n6a1 : ¬ w6.heap.size = w1.heap.size := (by omega); have n6a2 : ¬ w6.heap.size = w1.heap.size + 1 := (by omega); have n6b0 : ¬ w6.heap.size + 1 = w.heap.size := (by omega); have n6b1 : ¬ w6.heap.size + 1 = w1.heap.size := (by omega); have n6b2 : ¬ w6.heap.size + 1 = w1.heap.size + 1 := (by omega); (try (have x5060 : ¬ w5.heap.size = w6.heap.size := (by omega); have y5060 : ¬ w6.heap.size = w5.heap.size := (by omega))); (try (have x5061 : ¬ w5.heap.size = w6.heap.size + 1 := (by omega); have y5061 : ¬ w6.heap.size + 1 = w5.heap.size := (by omega))); (try (have x5160 : ¬ w5.heap.size + 1 = w6.heap.size := (by omega); have y5160 : ¬ w6.heap.size = w5.heap.size + 1 := (by omega))); (try (have x5161 : ¬ w5.heap.size + 1 = w6.heap.size + 1 := (by omega); have y5161 : ¬ w6.heap.size + 1 = w5.heap.size + 1 := (by omega))); clear hb6 h6 hj6) | (go_at_call_of 38 (Value.int IntKind.u64 M2); refine (HX2.out _).mono ?_; rintro r w7 ⟨a7, l7, c7, d7, rfl, h7, hl7, hb7, -⟩; have hj7 := below_join (a := w6) hb7 (by (repeat (first | exact Below.refl _ _ | apply Below.drew | (refine Below.alloc ?_ (by simp; try omega) _)))); have cc := mten_later hj7 ⟨c0, c1, p0, p1, p2', p3, q0, q1, q2', q3⟩; clear c0 c1 p0 p1 p2' p3 q0 q1 q2' q3; obtain ⟨c0, c1, p0, p1, p2', p3, q0, q1, q2', q3⟩ := cc; have sj7 := hj7.size; have HB7 := hidden (HB6.out.trans (hj7.mono HB6.out.size)); have H7 := hidden h7; have H6 := hidden (H6.out.later hj7); (try (have ZA5 := hidden (rs_of hj7 ZA5.out))); (try (have ZB5 := hidden (rs_of hj7 ZB5.out))); (try (have ZA6 : Hid (RsAt w7 w6.heap.size 0 (.slice none 0 0) 0) := hidden (rs_of hb7 (by (first | exact rs_fresh _ 0 0 none 0 0 | exact rs_of ((Below.refl _ _).drew) (rs_fresh _ 0 0 none 0 0) | exact rs_alloc _ (rs_fresh _ 0 0 none 0 0) | exact rs_of ((Below.refl _ _).drew) (rs_alloc _ (rs_fresh _ 0 0 none 0 0)) | exact rs_alloc _ (rs_of ((Below.refl _ _).drew) (rs_fresh _ 0 0 none 0 0))))); have ta6 : w6.heap.size < w7.heap.size := World.block_lt_of_cell? _ _ ZA6.out.1)); (try (have ZB6 : Hid (RsAt w7 (w6.heap.size + 1) 0 (.slice none 0 0) 0) := hidden (rs_of hb7 (by (first | (have h := rs_fresh (w6.alloc (.cells #[.int .i64 0, .slice none 0 0, .int .i64 0] 61)) 0 0 none 0 0; simpa using h) | (have h := rs_fresh (w6.drew.alloc (.cells #[.int .i64 0, .slice none 0 0, .int .i64 0] 61)) 0 0 none 0 0; simpa using h) | (have h := rs_fresh (w6.alloc (.cells #[.int .i64 0, .slice none 0 0, .int .i64 0] 61)).drew 0 0 none 0 0; simpa using h) | (have h := rs_of ((Below.refl _ _).drew) (rs_fresh (w6.alloc (.cells #[.int .i64 0, .slice none 0 0, .int .i64 0] 61)) 0 0 none 0 0); simpa using h)))); have tb6 : w6.heap.size + 1 < w7.heap.size := World.block_lt_of_cell? _ _ ZB6.out.1)); have n7a0 : ¬ w7.heap.size = w.heap.size := (by omega); have n7a1 : ¬ w7.heap.size = w1.heap.size := (by omega); have n7a2 : ¬ w7.heap.size = w1.heap.size + 1 := (by omega); have n7b0 : ¬ w7.heap.size + 1 = w.heap.size := (by omega); have n7b1 : ¬ w7.heap.size + 1 = w1.heap.size := (by omega); have n7b2 : ¬ w7.heap.size + 1 = w1.heap.size + 1 := (by omega); (try (have x5070 : ¬ w5.heap.size = w7.heap.size := (by omega); have y5070 : ¬ w7.heap.size = w5.heap.size := (by omega))); (try (have x5071 : ¬ w5.heap.size = w7.heap.size + 1 := (by omega); have y5071 : ¬ w7.heap.size + 1 = w5.heap.size := (by omega))); (try (have x5170 : ¬ w5.heap.size + 1 = w7.heap.size := (by omega); have y5170 : ¬ w7.heap.size = w5.heap.size + 1 := (by omega))); (try (have x5171 : ¬ w5.heap.size + 1 = w7.heap.size + 1 := (by omega); have y5171 : ¬ w7.heap.size + 1 = w5.heap.size + 1 := (by omega))); (try (have x6070 : ¬ w6.heap.size = w7.heap.size := (by omega); have y6070 : ¬ w7.heap.size = w6.heap.size := (by omega))); (try (have x6071 : ¬ w6.heap.size = w7.heap.size + 1 := (by omega); have y6071 : ¬ w7.heap.size + 1 = w6.heap.size := (by omega))); (try (have x6170 : ¬ w6.heap.size + 1 = w7.heap.size := (by omega); have y6170 : ¬ w7.heap.size = w6.heap.size + 1 := (by omega))); (try (have x6171 : ¬ w6.heap.size + 1 = w7.heap.size + 1 := (by omega); have y6171 : ¬ w7.heap.size + 1 = w6.heap.size + 1 := (by omega))); clear hb7 h7 hj7) | (go_at_call 46; have hj8 : ∃ X8 : World, Below w7.heap.size w7 X8 ∧ True := ⟨w7, Below.refl _ _, trivial⟩; refine (HAL.out _ _ _ _ _ _ _ _ _ (H6.out.later (by (repeat (first | exact Below.refl _ _ | apply Below.drew | (refine Below.alloc ?_ (by simp; try omega) _))))) (H7.out.later (by (repeat (first | exact Below.refl _ _ | apply Below.drew | (refine Below.alloc ?_ (by simp; try omega) _))))) hl6 hl7).mono ?_; rintro r w8 ⟨au, lu, cu, du, av, lv, cv, dv, rfl, h8, h9, hl8, hl9, hb8, nw8, nw9⟩; clear hj8; have hj8 := below_join (a := w7) hb8 (by (repeat (first | exact Below.refl _ _ | apply Below.drew | (refine Below.alloc ?_ (by simp; try omega) _)))); have cc := mten_later hj8 ⟨c0, c1, p0, p1, p2', p3, q0, q1, q2', q3⟩; clear c0 c1 p0 p1 p2' p3 q0 q1 q2' q3; obtain ⟨c0, c1, p0, p1, p2', p3, q0, q1, q2', q3⟩ := cc; have HB8 := hidden (HB7.out.trans (hj8.mono HB7.out.size)); have H8 := hidden h8; have H9 := hidden h9; have NW8 := hidden nw8; have NW9 := hidden nw9; (try (have ZA5 := hidden (rs_of hj8 ZA5.out))); (try (have ZB5 := hidden (rs_of hj8 ZB5.out))); (try (have ZA6 := hidden (rs_of hj8 ZA6.out))); (try (have ZB6 := hidden (rs_of hj8 ZB6.out))); (try (have ZA7 : Hid (RsAt w8 w7.heap.size 0 (.slice none 0 0) 0) := hidden (rs_of hb8 (by (first | exact rs_fresh _ 0 0 none 0 0 | exact rs_of ((Below.refl _ _).drew) (rs_fresh _ 0 0 none 0 0) | exact rs_alloc _ (rs_fresh _ 0 0 none 0 0) | exact rs_of ((Below.refl _ _).drew) (rs_alloc _ (rs_fresh _ 0 0 none 0 0)) | exact rs_alloc _ (rs_of ((Below.refl _ _).drew) (rs_fresh _ 0 0 none 0 0))))); have ta7 : w7.heap.size < w8.heap.size := World.block_lt_of_cell? _ _ ZA7.out.1)); (try (have ZB7 : Hid (RsAt w8 (w7.heap.size + 1) 0 (.slice none 0 0) 0) := hidden (rs_of hb8 (by (first | (have h := rs_fresh (w7.alloc (.cells #[.int .i64 0, .slice none 0 0, .int .i64 0] 61)) 0 0 none 0 0; simpa using h) | (have h := rs_fresh (w7.drew.alloc (.cells #[.int .i64 0, .slice none 0 0, .int .i64 0] 61)) 0 0 none 0 0; simpa using h) | (have h := rs_fresh (w7.alloc (.cells #[.int .i64 0, .slice none 0 0, .int .i64 0] 61)).drew 0 0 none 0 0; simpa using h) | (have h := rs_of ((Below.refl _ _).drew) (rs_fresh (w7.alloc (.cells #[.int .i64 0, .slice none 0 0, .int .i64 0] 61)) 0 0 none 0 0); simpa using h)))); have tb7 : w7.heap.size + 1 < w8.heap.size := World.block_lt_of_cell? _ _ ZB7.out.1)); have sj8 := hj8.size; (try (obtain ⟨zA50, zA51, zA52, zA53, zA54, zA55⟩ := ZA5.out)); (try (obtain ⟨zB50, zB51, zB52, zB53, zB54, zB55⟩ := ZB5.out)); (try (obtain ⟨zA60, zA61, zA62, zA63, zA64, zA65⟩ := ZA6.out)); (try (obtain ⟨zB60, zB61, zB62, zB63, zB64, zB65⟩ := ZB6.out)); (try (obtain ⟨zA70, zA71, zA72, zA73, zA74, zA75⟩ := ZA7.out)); (try (obtain ⟨zB70, zB71, zB72, zB73, zB74, zB75⟩ := ZB7.out)); (try (have ltwA5 := World.block_lt_of_cell? _ _ zA50; dsimp only at ltwA5)); (try (have ltwB5 := World.block_lt_of_cell? _ _ zB50; dsimp only at ltwB5)); (try (have ltwA6 := World.block_lt_of_cell? _ _ zA60; dsimp only at ltwA6)); (try (have ltwB6 := World.block_lt_of_cell? _ _ zB60; dsimp only at ltwB6)); (try (have ltwA7 := World.block_lt_of_cell? _ _ zA70; dsimp only at ltwA7)); (try (have ltwB7 := World.block_lt_of_cell? _ _ zB70; dsimp only at ltwB7)); have n8a0 : ¬ w8.heap.size = w.heap.size := (by omega); have n8a1 : ¬ w8.heap.size = w1.heap.size := (by omega); have n8a2 : ¬ w8.heap.size = w1.heap.size + 1 := (by omega); have n8b0 : ¬ w8.heap.size + 1 = w.heap.size := (by omega); have n8b1 : ¬ w8.heap.size + 1 = w1.heap.size := (by omega); have n8b2 : ¬ w8.heap.size + 1 = w1.heap.size + 1 := (by omega); (try (have x5080 : ¬ w5.heap.size = w8.heap.size := (by omega); have y5080 : ¬ w8.heap.size = w5.heap.size := (by omega))); (try (have x5081 : ¬ w5.heap.size = w8.heap.size + 1 := (by omega); have y5081 : ¬ w8.heap.size + 1 = w5.heap.size := (by omega))); (try (have x5180 : ¬ w5.heap.size + 1 = w8.heap.size := (by omega); have y5180 : ¬ w8.heap.size = w5.heap.size + 1 := (by omega))); (try (have x5181 : ¬ w5.heap.size + 1 = w8.heap.size + 1 := (by omega); have y5181 : ¬ w8.heap.size + 1 = w5.heap.size + 1 := (by omega))); (try (have x6080 : ¬ w6.heap.size = w8.heap.size := (by omega); have y6080 : ¬ w8.heap.size = w6.heap.size := (by omega))); (try (have x6081 : ¬ w6.heap.size = w8.heap.size + 1 := (by omega); have y6081 : ¬ w8.heap.size + 1 = w6.heap.size := (by omega))); (try (have x6180 : ¬ w6.heap.size + 1 = w8.heap.size := (by omega); have y6180 : ¬ w8.heap.size = w6.heap.size + 1 := (by omega))); (try (have x6181 : ¬ w6.heap.size + 1 = w8.heap.size + 1 := (by omega); have y6181 : ¬ w8.heap.size + 1 = w6.heap.size + 1 := (by omega))); (try (have x7080 : ¬ w7.heap.size = w8.heap.size := (by omega); have y7080 : ¬ w8.heap.size = w7.heap.size := (by omega))); (try (have x7081 : ¬ w7.heap.size = w8.heap.size + 1 := (by omega); have y7081 : ¬ w8.heap.size + 1 = w7.heap.size := (by omega))); (try (have x7180 : ¬ w7.heap.size + 1 = w8.heap.size := (by omega); have y7180 : ¬ w8.heap.size = w7.heap.size + 1 := (by omega))); (try (have x7181 : ¬ w7.heap.size + 1 = w8.heap.size + 1 := (by omega); have y7181 : ¬ w8.heap.size + 1 = w7.heap.size + 1 := (by omega))); clear hb8 h8 h9 hj8 nw8 nw9))
    all_goals
      go_wp2_with fail
      go_meet
    all_goals first
      | (with_reducible exact mod_nn HB8.out c0 c1 p1 H8.out H9.out hl8 hl9)
      | (with_reducible exact mod_nm HB8.out c0 c1 p1 H8.out H9.out hl8 hl9)
      | ((with_reducible refine mod_on2 HB8.out c0 c1 p1 H8.out H9.out hl8 hl9 ?_ ?_ ?_ ?_ ?_ ?_); (first | exact ZA5.out | exact ZB5.out | exact ZA6.out | exact ZB6.out | exact ZA7.out | exact ZB7.out); exact (fun p hp => (by have h := NW8.out p hp; (try simp at h); omega)); exact (fun p hp => (by have h := NW9.out p hp; (try simp at h); omega)); omega; omega; omega)
      | ((with_reducible refine mod_no2 HB8.out c0 c1 p1 H8.out H9.out hl8 hl9 ?_ ?_ ?_ ?_ ?_ ?_); (first | exact ZA5.out | exact ZB5.out | exact ZA6.out | exact ZB6.out | exact ZA7.out | exact ZB7.out); exact (fun p hp => (by have h := NW8.out p hp; (try simp at h); omega)); exact (fun p hp => (by have h := NW9.out p hp; (try simp at h); omega)); omega; omega; omega)
      | ((with_reducible refine mod_oo2 HB8.out c0 c1 p1 ?_ ?_ H8.out H9.out hl8 hl9 ?_ ?_ ?_ ?_ ?_ ?_ ?_ ?_ ?_); (first | exact ZA5.out | exact ZB5.out | exact ZA6.out | exact ZB6.out | exact ZA7.out | exact ZB7.out); (first | exact ZA5.out | exact ZB5.out | exact ZA6.out | exact ZB6.out | exact ZA7.out | exact ZB7.out); exact (fun p hp => ⟨(by have h := NW8.out p hp; (try simp at h); omega), (by have h := NW8.out p hp; (try simp at h); omega)⟩); exact (fun p hp => ⟨(by have h := NW9.out p hp; (try simp at h); omega), (by have h := NW9.out p hp; (try simp at h); omega)⟩); omega; omega; omega; omega; omega; omega; omega)
  case rest =>
    obtain ⟨b13, b14, x1, l1, y1, d1, x2, l2, y2, d2, s1, s2, rfl, rfl, g0, g1, gp, z10, z11, z12, z20, z21, z22, hA, hBn, hl1, hl2, hbc⟩ := hcut
    have hkb : (k1 : Int) ≤ 4000 ∧ (k2 : Int) ≤ 4000 := by omega
    have hY : 0 < M2 * p2 k2 := Int.mul_pos b0 (p2_pos k2)
    have hX : M1 * p2 k1 < p2 4064 := by
      have h1 : M1 * p2 k1 < 18446744073709551616 * p2 k1 := Int.mul_lt_mul_of_pos_right (by omega) (p2_pos k1)
      have h2 : 18446744073709551616 * p2 k1 = p2 (64 + k1) := by rw [p2_add, p2_64w]
      have h3 := p2_mono (show 64 + k1 ≤ 4064 by omega)
      omega
    have HA := hidden hA
    have HBN := hidden hBn
    have HBC := hidden hbc
    clear hA hBn hbc
    go_wp2_with fail
    refine (quo_any _ _ _ _ _ _ _ _ (M1 * p2 k1) (M2 * p2 k2) _ HA.out HBN.out hY (by omega) (by omega)).mono ?_
    rintro r w9 ⟨aq, lq, cq, dq, ar, lr, cr, dr, Q, R, rfl, hq, hr, hqr, hrb, hlq, hlr, hb9⟩
    have hq0 := hq.nonneg
    have hr0 := hr.nonneg
    have hQX : Q ≤ M1 * p2 k1 := by
      have h1 := Int.mul_le_mul_of_nonneg_left (show (1 : Int) ≤ M2 * p2 k2 by omega) hq0
      omega
    have hlq2 : (lq : Int) ≤ 400 := by
      have h1 := len_blw hq
      have h2 := bl_le hq0 (show Q < p2 4064 by omega)
      omega
    have hlr2 : (lr : Int) ≤ 400 := by omega
    have HQ := hidden hq
    have HR := hidden hr
    have HE := hidden hqr
    have HRB := hidden hrb
    have g0 := cellLater hb9 g0
    have g1 := cellLater hb9 g1
    have gp := cellLater hb9 gp
    have z12 := cellLater hb9 z12
    have HB9 := hidden (HBC.out.trans (hb9.mono HBC.out.size))
    clear hq hr hb9 hqr hrb hX hQX
    go_upto_region 11 with fail
    go_region_held3 (fun w' => w'.cell? ⟨w.heap.size, 0, none⟩ = some (.int .i64 (m : Int)) ∧ w'.cell? ⟨w.heap.size, 1, none⟩ = some (.int .i64 (x : Int)) ∧ w'.cell? ⟨w1.heap.size, 1, none⟩ = some (.bool n1) ∧ w'.cell? ⟨b13, 2, none⟩ = some (.int .i64 e)) (go_keep) (first | (go_at_call 41; (fail_if_success (have t_ := HP1)); refine (one_has2 _).mono ?_; rintro r w10 ⟨ao, lo, co, do', rfl, ho, hlo, hb10⟩; have g0 : w10.cell? ⟨w.heap.size, 0, none⟩ = some (.int .i64 (m : Int)) := cellLater hb10 (by go_keep); have g1 : w10.cell? ⟨w.heap.size, 1, none⟩ = some (.int .i64 (x : Int)) := cellLater hb10 (by go_keep); have gp : w10.cell? ⟨w1.heap.size, 1, none⟩ = some (.bool n1) := cellLater hb10 (by go_keep); have z12 : w10.cell? ⟨b13, 2, none⟩ = some (.int .i64 e) := cellLater hb10 (by go_keep); have hj10 := below_join (a := w9) hb10 (by first | exact Below.refl _ _ | exact (Below.refl _ _).drew); have HO1 := hidden ho; have HQ1 := hidden (HQ.out.later hj10); have HR1 := hidden (HR.out.later hj10); have HB10 := hidden (HB9.out.trans (hj10.mono HB9.out.size)); clear ho hb10 hj10) | (go_at_call_of 40 (Value.slice ar lr cr); refine (near_any m x n1 _ _ _ _ _ _ _ _ R 1 e _ hok HR1.out HO1.out (by omega) (by omega) (by omega) (by omega) (by omega)).mono ?_; rintro r w11 ⟨P, rfl, hP1, hb11⟩; have g0 : w11.cell? ⟨w.heap.size, 0, none⟩ = some (.int .i64 (m : Int)) := cellLater hb11 (by go_keep); have g1 : w11.cell? ⟨w.heap.size, 1, none⟩ = some (.int .i64 (x : Int)) := cellLater hb11 (by go_keep); have gp : w11.cell? ⟨w1.heap.size, 1, none⟩ = some (.bool n1) := cellLater hb11 (by go_keep); have z12 : w11.cell? ⟨b13, 2, none⟩ = some (.int .i64 e) := cellLater hb11 (by go_keep); have HP1 := hidden hP1; have HQ2 := hidden (HQ1.out.later hb11); have HB11 := hidden (HB10.out.trans (hb11.mono HB10.out.size)); clear hP1 hb11) | (go_at_call 41; refine (one_has2 _).mono ?_; rintro r w12 ⟨ao2, lo2, co2, do2, rfl, ho2, hlo2, hb12⟩; have g0 : w12.cell? ⟨w.heap.size, 0, none⟩ = some (.int .i64 (m : Int)) := cellLater hb12 (by go_keep); have g1 : w12.cell? ⟨w.heap.size, 1, none⟩ = some (.int .i64 (x : Int)) := cellLater hb12 (by go_keep); have gp : w12.cell? ⟨w1.heap.size, 1, none⟩ = some (.bool n1) := cellLater hb12 (by go_keep); have z12 : w12.cell? ⟨b13, 2, none⟩ = some (.int .i64 e) := cellLater hb12 (by go_keep); have HO2 := hidden ho2; have HQ3 := hidden (HQ2.out.later hb12); have HB12 := hidden (HB11.out.trans (hb12.mono HB11.out.size)); clear ho2 hb12) | (go_at_call 40; refine (near_any m x (n1 != n2) _ _ _ _ _ _ _ _ Q 1 0 _ hok HQ3.out HO2.out (by omega) (by omega) (by omega) (by omega) (by omega)).mono ?_; rintro r w13 ⟨T, rfl, hP2, hb13⟩; have g0 : w13.cell? ⟨w.heap.size, 0, none⟩ = some (.int .i64 (m : Int)) := cellLater hb13 (by go_keep); have g1 : w13.cell? ⟨w.heap.size, 1, none⟩ = some (.int .i64 (x : Int)) := cellLater hb13 (by go_keep); have gp : w13.cell? ⟨w1.heap.size, 1, none⟩ = some (.bool n1) := cellLater hb13 (by go_keep); have z12 : w13.cell? ⟨b13, 2, none⟩ = some (.int .i64 e) := cellLater hb13 (by go_keep); have HP2 := hidden hP2; have HB13 := hidden (HB12.out.trans (hb13.mono HB12.out.size)); clear hP2 hb13))
    all_goals
      go_wp2
      go_ret3
      exact ⟨P, Q, R, T, rfl, HE.out, hr0, HRB.out, hq0, HP1.out, HP2.out, HB13.out⟩
end Go.Proofs.YtbfbdemknggpkaaGreatDoor
