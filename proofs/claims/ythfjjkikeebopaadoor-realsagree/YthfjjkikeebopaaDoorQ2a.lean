/- Plain arithmetic for formats (no program in it): powers of two, how many bits a number has, the bias and the least unit of a format. -/
import Derived.Test.YthfjjkikeebopaaDoorRows
import Derived.WalkKit
import Derived.ProofKit
import Derived.OpenShut
import Derived.Below
import Derived.Deep.RegionWith
import Derived.Deep.RegionHeld3
import Derived.Deep.Draws
import Derived.Laws.BitsAllLaws
namespace Go.Proofs.YthfjjkikeebopaaDoor
open Go.RowKit
set_option maxHeartbeats 1000000

theorem hidden {p : Prop} (h : p) : Hid p := h
theorem ret_bool {a b : Bool} (h : a = b) : Ending.returned (.bool a) = .returned (.bool b) := by rw [h]
theorem ret_int {k : IntKind} {a b : Int} (h : a = b) : Ending.returned (.int k a) = .returned (.int k b) := by rw [h]
theorem ret_two {k : IntKind} {a b : Int} {v : Value} (h : a = b) : Ending.returned (.tuple #[.int k a, v]) = .returned (.tuple #[.int k b, v]) := by rw [h]
theorem wrapi (x : Int) (h0 : -9223372036854775808 ≤ x) (h1 : x ≤ 9223372036854775807) : IntKind.i64.wrap x = x := by rw [IntKind.wrap_i64]; omega
theorem int_eq {k : IntKind} {a b : Int} (h : a = b) : Value.int k a = Value.int k b := by rw [h]

/-- two to the power n -/
def p2 (n : Nat) : Int := 2 ^ n
theorem p2_succ (n : Nat) : p2 (n + 1) = 2 * p2 n := by unfold p2; rw [Int.pow_succ, Int.mul_comm]
theorem p2_pos (n : Nat) : 0 < p2 n := by unfold p2; exact Int.pow_pos (by decide)
theorem p2_add (a b : Nat) : p2 (a + b) = p2 a * p2 b := by unfold p2; exact Int.pow_add 2 a b
theorem p2_mono {a b : Nat} (h : a ≤ b) : p2 a ≤ p2 b := by
  induction h with
  | refl => exact Int.le_refl _
  | step _ ih => rw [p2_succ]; have := p2_pos a; omega
theorem p2_63 : p2 63 = 9223372036854775808 := by decide +kernel
theorem p2_52 : p2 52 = 4503599627370496 := by decide +kernel
theorem p2_11 : p2 11 = 2048 := by decide +kernel
theorem p2_10 : p2 10 = 1024 := by decide +kernel
theorem p2_le63 {n : Nat} (h : n ≤ 63) : p2 n ≤ 9223372036854775808 := by rw [← p2_63]; exact p2_mono h

theorem box_below {w w1 : World} (o : Obj) (h : Below (w.alloc o).heap.size (w.alloc o) w1) : Below w.heap.size w w1 :=
  ((Below.refl w.heap.size w).alloc (Nat.le_refl _) o).trans (h.mono (by simp))
theorem box_below_d {w w1 : World} (o : Obj) (h : Below (w.alloc o).drew.heap.size (w.alloc o).drew w1) : Below w.heap.size w w1 :=
  ((Below.refl w.heap.size w).alloc (Nat.le_refl _) o).drew.trans (h.mono (by simp))
theorem cellLater {w wx : World} {a : Addr} {v : Value} (hb : Below w.heap.size w wx) (h : w.cell? a = some v) : wx.cell? a = some v := (hb.cell (World.block_lt_of_cell? _ _ h)).trans h
theorem below_drewN {B : Nat} {a w : World} (h : Below B a w) (n : Nat) : Below B a (w.drewN n) := ⟨h.os, h.tape, h.output, h.size, h.block⟩
/-- a world with two more boxes -/
def al2 (w : World) (o : Obj) : World := (w.alloc o).alloc o
theorem al2_cell (w : World) (a : Addr) (o : Obj) (h : (w.cell? a).isSome = true) : (al2 w o).cell? a = w.cell? a := by
  unfold al2
  rw [World.cell?_alloc_some _ _ _ (by rw [World.cell?_alloc_some _ _ _ h]; exact h), World.cell?_alloc_some _ _ _ h]
/-- parts of a pattern, as a value -/
abbrev partsV (k : Int) (neg : Bool) (E M : Int) : Value := .agg #[.int .i64 k, .bool neg, .int .i64 E, .int .u64 M]
theorem below_two (w : World) (a b : Obj) : Below w.heap.size w ((w.alloc a).alloc b) := ((Below.refl _ _).alloc (Nat.le_refl _) _).alloc (by simp) _
/-- may a format be? -/
def okF (m e : Int) : Prop := 2 ≤ m ∧ m ≤ 52 ∧ 2 ≤ e ∧ e ≤ 11
/-- the bias of a format, and the exponent of its least number's unit -/
def bias (e : Int) : Int := p2 (e - 1).toNat - 1
def least (m e : Int) : Int := 1 - bias e - m
theorem bias_bd (e : Int) (h0 : 2 ≤ e) (h1 : e ≤ 11) : 1 ≤ bias e ∧ bias e ≤ 1023 := by
  unfold bias
  have a : p2 1 ≤ p2 (e - 1).toNat := p2_mono (by omega)
  have b : p2 (e - 1).toNat ≤ p2 10 := p2_mono (by omega)
  have c : p2 1 = 2 := by decide
  rw [p2_10] at b
  omega
/-- b is how many bits N has -/
def IsBits (N : Int) (b : Nat) : Prop := (N = 0 ∧ b = 0) ∨ (0 < b ∧ p2 (b - 1) ≤ N ∧ N < p2 b)
theorem IsBits.uniq {N : Int} {a b : Nat} (ha : IsBits N a) (hb : IsBits N b) : a = b := by
  rcases ha with ⟨h1, h2⟩ | ⟨h1, h2, h3⟩ <;> rcases hb with ⟨k1, k2⟩ | ⟨k1, k2, k3⟩
  · omega
  · have := p2_pos (b - 1); omega
  · have := p2_pos (a - 1); omega
  · rcases Nat.lt_trichotomy a b with h | h | h
    · have := p2_mono (show a ≤ b - 1 by omega); omega
    · exact h
    · have := p2_mono (show b ≤ a - 1 by omega); omega
theorem half_step (t : Int) (j : Nat) : t / p2 j / 2 = t / p2 (j + 1) := by
  rw [p2_succ, Int.mul_comm, Int.ediv_ediv_of_nonneg (Int.le_of_lt (p2_pos j))]
theorem div_zero_lt (t : Int) (j : Nat) (h : t / p2 j = 0) : t < p2 j := by
  have h1 := Int.mul_ediv_add_emod t (p2 j)
  have h2 := Int.emod_lt_of_pos t (p2_pos j)
  rw [h, Int.mul_zero] at h1
  omega
theorem div_pos_le (t : Int) (j : Nat) (h : 0 < t / p2 j) : p2 j ≤ t := by
  rcases Int.lt_or_le t (p2 j) with h1 | h1
  · rcases Int.lt_or_le t 0 with h2 | h2
    · have := Int.ediv_neg_of_neg_of_pos h2 (p2_pos j); omega
    · rw [Int.ediv_eq_zero_of_lt h2 h1] at h; omega
  · exact h1
/-- a sign, as what it adds to a pattern -/
def sgnW (neg : Bool) (k : Nat) : Int := if neg then p2 k else 0
end Go.Proofs.YthfjjkikeebopaaDoor
