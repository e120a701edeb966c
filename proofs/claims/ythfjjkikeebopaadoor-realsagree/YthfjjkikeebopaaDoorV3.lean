/- What package soft answers, as plain functions of what patterns say (no program in it). -/
import Derived.Test.YthfjjkikeebopaaDoorM3c
import Derived.Test.YthfjjkikeebopaaDoorX3m
namespace Go.Proofs.YthfjjkikeebopaaDoor
open Go.RowKit
set_option maxHeartbeats 400000
set_option linter.unusedVariables false

def nanI (m x : Nat) : Int := (p2 x - 1) * p2 m + p2 (m - 1)
def infI (m x : Nat) (n : Bool) : Int := (p2 x - 1) * p2 m + sgnW n (m + x)
def addK (m x : Nat) (a b K1 : Int) (n1 : Bool) (E1 M1 K2 : Int) (n2 : Bool) (E2 M2 : Int) : Int :=
  if K1 = 4 ∨ K2 = 4 then nanI m x else if K1 = 3 ∧ K2 = 3 ∧ n1 ≠ n2 then nanI m x else if K1 = 3 then a else if K2 = 3 then b
  else if K1 = 1 ∧ K2 = 1 then sgnW (n1 && n2) (m + x) else if K1 = 1 then b else if K2 = 1 then a else sumI m x n1 E1 M1 n2 E2 M2
def mulK (m x : Nat) (K1 : Int) (n1 : Bool) (E1 M1 K2 : Int) (n2 : Bool) (E2 M2 : Int) : Int :=
  if K1 = 4 ∨ K2 = 4 then nanI m x else if (K1 = 3 ∨ K2 = 3) ∧ (K1 = 1 ∨ K2 = 1) then nanI m x else if K1 = 3 ∨ K2 = 3 then infI m x (n1 != n2)
  else if K1 = 1 ∨ K2 = 1 then sgnW (n1 != n2) (m + x) else packP m x (M1 * M2) (E1 + E2) false + sgnW (n1 != n2) (m + x)
def divK (m x : Nat) (K1 : Int) (n1 : Bool) (E1 M1 K2 : Int) (n2 : Bool) (E2 M2 : Int) : Int :=
  if K1 = 4 ∨ K2 = 4 then nanI m x else if K1 = 3 ∧ K2 = 3 then nanI m x else if K1 = 1 ∧ K2 = 1 then nanI m x else if K1 = 3 ∨ K2 = 1 then infI m x (n1 != n2)
  else if K1 = 1 ∨ K2 = 3 then sgnW (n1 != n2) (m + x) else divI m x E1 M1 E2 M2 + sgnW (n1 != n2) (m + x)
/-- R: the root of what the finite number is -/
def sqrtK (m x : Nat) (a K : Int) (n : Bool) (E M R : Int) : Int :=
  if K = 1 then a else if K = 4 ∨ n = true then nanI m x else if K = 3 then a else packP m x R (rootE E M) (decide (R * R ≠ rootS E M * 18446744073709551616))
def restK (m x : Nat) (a K1 : Int) (n1 : Bool) (E1 M1 K2 : Int) (n2 : Bool) (E2 M2 : Int) : Int :=
  if K1 = 4 ∨ K2 = 4 then nanI m x else if K1 = 3 ∨ K2 = 1 then nanI m x else if K1 = 1 ∨ K2 = 3 then a else if E1 < E2 then a
  else packP m x (M1 * p2 (E1 - E2).toNat % M2) E2 false + sgnW n1 (m + x)
def quoK (m x : Nat) (K1 : Int) (n1 : Bool) (E1 M1 K2 : Int) (n2 : Bool) (E2 M2 : Int) : Int :=
  if K1 = 4 ∨ K2 = 4 then nanI m x else if K1 = 3 ∨ K2 = 1 then nanI m x else if K1 = 1 ∨ K2 = 3 then sgnW (n1 != n2) (m + x) else if E1 < E2 then sgnW (n1 != n2) (m + x)
  else packP m x (wqQ M1 M2 (E1 - E2).toNat / p2 (wqS M1 M2 (E1 - E2).toNat)) (wqS M1 M2 (E1 - E2).toNat) (decide (wqQ M1 M2 (E1 - E2).toNat % p2 (wqS M1 M2 (E1 - E2).toNat) ≠ 0)) + sgnW (n1 != n2) (m + x)
def besideK (m x : Nat) (a K : Int) (n : Bool) (E M : Int) (dn : Bool) : Int :=
  if K = 4 then nanI m x else if K ≠ 2 then a else if 0 ≤ E then a
  else packP m x (M / p2 (-E).toNat + (if M % p2 (-E).toNat ≠ 0 ∧ n = dn then 1 else 0)) 0 false + sgnW n (m + x)
/-- there is a root -/
theorem root_ex (N : Nat) : ∃ R : Int, IsRoot (N : Int) R := by
  induction N with
  | zero => exact ⟨0, by decide, by decide, by decide⟩
  | succ N ih =>
    obtain ⟨R, h0, h1, h2⟩ := ih
    by_cases h : (R + 1) * (R + 1) ≤ ((N + 1 : Nat) : Int)
    · refine ⟨R + 1, by omega, h, ?_⟩
      have e : (R + 1 + 1) * (R + 1 + 1) = (R + 1) * (R + 1) + 2 * (R + 1) + 1 := by
        rw [Int.add_mul (R + 1) 1, Int.mul_add (R + 1) (R + 1) 1, Int.mul_one, Int.one_mul]; omega
      rw [e]; omega
    · exact ⟨R, h0, by omega, by omega⟩
theorem root_ex_i (N : Int) (h : 0 ≤ N) : ∃ R : Int, IsRoot N R := by
  obtain ⟨n, rfl⟩ := Int.eq_ofNat_of_zero_le h
  exact root_ex n
end Go.Proofs.YthfjjkikeebopaaDoor
