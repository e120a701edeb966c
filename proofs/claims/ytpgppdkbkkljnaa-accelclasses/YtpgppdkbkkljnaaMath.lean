/- Plain arithmetic on words (no program in it): what the operations of package word answer, and that the document's other reckonings come to the same. -/
import Derived.WalkKit
import Derived.ProofKit
import Derived.OpenShut
import Derived.Laws.BitsAllLaws
import Derived.Below
namespace Go.Proofs.Ytpgppdkbkkljnaa
open Go.RowKit (wrap32 wrap64 Hid)

def divW (a b : Int) : Int := wrap32 ((wrap32 a).tdiv (wrap32 b)) % 4294967296
def modW (a b : Int) : Int := (wrap32 a).tmod (wrap32 b) % 4294967296
def shlW (a n : Int) : Int := a * 2 ^ min n.toNat 32 % 4294967296
def shrW (a n : Int) : Int := a / 2 ^ min n.toNat 32
def sarW (a n : Int) : Int := wrap32 a / 2 ^ min n.toNat 32 % 4294967296
def extW (a n : Int) : Int := if n = 1 then ((a + 128) % 256 - 128) % 4294967296 else if n = 2 then ((a + 32768) % 65536 - 32768) % 4294967296 else a
/-- the least multiple that is not below -/
def upW (a b : Int) : Int := (a + b - 1) / b * b

theorem hidden {p : Prop} (h : p) : Hid p := h
theorem ret_bool {a b : Bool} (h : a = b) : Ending.returned (.bool a) = .returned (.bool b) := by rw [h]
theorem ret_int {k : IntKind} {a b : Int} (h : a = b) : Ending.returned (.int k a) = .returned (.int k b) := by rw [h]
theorem ret_two {k : IntKind} {a b : Int} {v : Value} (h : a = b) : Ending.returned (.tuple #[.int k a, v]) = .returned (.tuple #[.int k b, v]) := by rw [h]

theorem and32 (n : Int) : bits .and .i64 n 4294967295 = n % 4294967296 := by
  have h127 : (BitVec.ofInt 64 4294967295).toNat = 2 ^ 32 - 1 := by decide
  have key : (BitVec.ofInt 64 n &&& BitVec.ofInt 64 4294967295).toNat = (n % ((2 ^ 64 : Nat) : Int)).toNat % 2 ^ 32 := by
    rw [BitVec.toNat_and, BitVec.toNat_ofInt, h127, Nat.and_two_pow_sub_one_eq_mod]
  show IntKind.i64.wrap ((BitVec.ofInt 64 n &&& BitVec.ofInt 64 4294967295).toNat : Nat) = n % 4294967296
  rw [key, IntKind.wrap_i64]
  omega

theorem wrap32_small (n : Int) (h0 : -2147483648 ≤ n) (h1 : n ≤ 2147483647) : wrap32 n = n := by unfold wrap32; omega
theorem wrap32_range (n : Int) : -2147483648 ≤ wrap32 n ∧ wrap32 n ≤ 2147483647 := by unfold wrap32; omega
theorem wrap32_hi (n : Int) (h0 : 2147483648 ≤ n) (h1 : n ≤ 4294967295) : wrap32 n = n - 4294967296 := by unfold wrap32; omega
theorem wrap32_mod (n : Int) : wrap32 n % 4294967296 = n % 4294967296 := by unfold wrap32; omega
theorem wrap32_zero (n : Int) (h0 : 0 ≤ n) (h1 : n ≤ 4294967295) : wrap32 n = 0 ↔ n = 0 := by unfold wrap32; omega

theorem wrap_8 (a : Int) : IntKind.i8.wrap a = (a + 128) % 256 - 128 := by
  simp [IntKind.wrap, IntKind.bits, IntKind.signed]; split <;> omega
theorem wrap_16 (a : Int) : IntKind.i16.wrap a = (a + 32768) % 65536 - 32768 := by
  simp [IntKind.wrap, IntKind.bits, IntKind.signed]; split <;> omega
/-! ### shifts -/
theorem shl_step (a : Int) (k : Nat) : a * 2 ^ k % 4294967296 * 2 % 4294967296 = a * 2 ^ (k + 1) % 4294967296 := by
  rw [Int.pow_succ, ← Int.mul_assoc]
  generalize a * 2 ^ k = x
  omega
theorem shr_step (a : Int) (k : Nat) : a / 2 ^ k / 2 = a / 2 ^ (k + 1) := by
  rw [Int.pow_succ, Int.ediv_ediv_of_nonneg (Int.pow_nonneg (by decide))]
theorem shr_bd (a : Int) (k : Nat) (h0 : 0 ≤ a) (h1 : a ≤ 4294967295) : 0 ≤ a / 2 ^ k ∧ a / 2 ^ k ≤ 4294967295 := by
  have hp : (0 : Int) < 2 ^ k := Int.pow_pos (by decide)
  refine ⟨Int.ediv_nonneg h0 (Int.le_of_lt hp), ?_⟩
  exact Int.le_trans (Int.ediv_le_self _ h0) h1
theorem sar_bd (s : Int) (k : Nat) (h0 : -2147483648 ≤ s) (h1 : s ≤ 2147483647) :
    -2147483648 ≤ s / 2 ^ k ∧ s / 2 ^ k ≤ 2147483647 ∧ (0 ≤ s → 0 ≤ s / 2 ^ k) ∧ (s < 0 → s / 2 ^ k < 0) := by
  induction k with
  | zero => simp; omega
  | succ k ih =>
    rw [← shr_step]
    generalize s / 2 ^ k = q at ih
    omega
theorem sar_step (s top : Int) (k : Nat) (h0 : -2147483648 ≤ s) (h1 : s ≤ 2147483647) (ht : top = if s < 0 then 1 else 0) :
    s / 2 ^ k % 4294967296 / 2 + top * 2147483648 = s / 2 ^ (k + 1) % 4294967296 := by
  rw [← shr_step]
  have h := sar_bd s k h0 h1
  generalize s / 2 ^ k = q at h
  split at ht <;> subst ht <;> omega
theorem top_of (a : Int) (h0 : 0 ≤ a) (h1 : a ≤ 4294967295) : a / 2147483648 = if wrap32 a < 0 then 1 else 0 := by
  unfold wrap32; split <;> omega
theorem min_done (n k : Nat) (h : k ≤ 32) (h' : k ≤ n) (h2 : ¬ (k < 32 ∧ k < n)) : k = min n 32 := by omega

/-! ### bytes -/
theorem or8 (x c : Int) (c0 : 0 ≤ c) (c1 : c ≤ 255) : bits .or .u32 (x * 256 % 4294967296) c = (x * 256 + c) % 4294967296 := by
  rw [u32_or _ _ (by omega) (by omega) c0 (by omega), nat_join 8 _ _ (by omega) (by omega)]
  omega
theorem or0 (c : Int) (c0 : 0 ≤ c) (c1 : c ≤ 255) : bits .or .u32 0 c = c := by
  have := or8 0 c c0 c1
  simp at this
  rw [this]; omega

/-! ### quotients -/
theorem tdiv_signs (x y : Int) : x.tdiv y = if (x < 0) ↔ (y < 0) then (x.natAbs : Int) / (y.natAbs : Int) else -((x.natAbs : Int) / (y.natAbs : Int)) := by
  by_cases hx : x < 0 <;> by_cases hy : y < 0 <;> simp only [hx, hy, iff_true, iff_false, if_true, if_false, not_true]
  · have e : x.tdiv y = (-x).tdiv (-y) := by rw [Int.neg_tdiv, Int.tdiv_neg]; simp
    rw [e, Int.tdiv_eq_ediv_of_nonneg (by omega)]
    congr 1 <;> omega
  · have e : x.tdiv y = -((-x).tdiv y) := by rw [Int.neg_tdiv]; simp
    rw [e, Int.tdiv_eq_ediv_of_nonneg (by omega)]
    congr 2 <;> omega
  · have e : x.tdiv y = -(x.tdiv (-y)) := by rw [Int.tdiv_neg]; simp
    rw [e, Int.tdiv_eq_ediv_of_nonneg (by omega)]
    congr 2 <;> omega
  · rw [Int.tdiv_eq_ediv_of_nonneg (by omega)]
    congr 1 <;> omega
theorem tmod_signs (x y : Int) : x.tmod y = if x < 0 then -((x.natAbs : Int) % (y.natAbs : Int)) else (x.natAbs : Int) % (y.natAbs : Int) := by
  have hy : x.tmod y = x.tmod y.natAbs := by
    by_cases h : y < 0
    · have e : (y.natAbs : Int) = -y := by omega
      rw [e, Int.tmod_neg]
    · have e : (y.natAbs : Int) = y := by omega
      rw [e]
  rw [hy]
  split
  · have e : x.tmod y.natAbs = -((-x).tmod y.natAbs) := by rw [Int.neg_tmod]; simp
    rw [e, Int.tmod_eq_emod_of_nonneg (by omega)]
    congr 2; omega
  · rw [Int.tmod_eq_emod_of_nonneg (by omega)]
    congr 1; omega
theorem div_wrap (x : Int) : wrap32 x % 4294967296 = x % 4294967296 := by unfold wrap32; omega

/-! ### multiples -/
theorem up_of (a b : Int) (hb : 0 < b) : upW a b = if a % b = 0 then a else a + b - a % b := by
  unfold upW
  have h1 := Int.mul_ediv_add_emod a b
  have h2 := Int.emod_nonneg a (show b ≠ 0 by omega)
  have h3 := Int.emod_lt_of_pos a hb
  have e : a + b - 1 = (a % b + b - 1) + b * (a / b) := by omega
  rw [e, Int.add_mul_ediv_left _ _ (by omega)]
  split
  · have : (a % b + b - 1) / b = 0 := Int.ediv_eq_zero_of_lt (by omega) (by omega)
    rw [this, Int.zero_add, Int.mul_comm]; omega
  · have : (a % b + b - 1) / b = 1 := by
      have e2 : a % b + b - 1 = (a % b - 1) + b * 1 := by omega
      rw [e2, Int.add_mul_ediv_left _ _ (by omega), Int.ediv_eq_zero_of_lt (by omega) (by omega)]; rfl
    rw [this, Int.add_mul, Int.mul_comm (a / b)]; omega
theorem up_bd (a b : Int) (a0 : 0 ≤ a) (hb : 0 < b) : 0 ≤ upW a b ∧ a ≤ upW a b ∧ upW a b < a + b ∧ upW a b % b = 0 := by
  have h2 := Int.emod_nonneg a (show b ≠ 0 by omega)
  have h3 := Int.emod_lt_of_pos a hb
  have h4 : upW a b % b = 0 := by unfold upW; exact Int.mul_emod_left _ _
  rw [up_of a b hb] at h4 ⊢
  split <;> rename_i h <;> simp only [h, if_true, if_false] at h4 <;> refine ⟨?_, ?_, ?_, ?_⟩ <;> first | omega | exact h4
theorem u64_of (a : Int) (h0 : 0 ≤ a) (h1 : a ≤ 18446744073709551615) : IntKind.u64.wrap a = a := by
  rw [IntKind.wrap_u64]; omega
end Go.Proofs.Ytpgppdkbkkljnaa
