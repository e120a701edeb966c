/- What is known of a pattern by its kind. The document's Add answers what package soft's Add answers, for every two patterns of a format. -/
import Derived.Test.YtbkjbnnbfmfkhaaP3q
import Derived.Test.YtbkjbnnbfmfkhaaS3k
namespace Go.Proofs.Ytbkjbnnbfmfkhaa
open Go.RowKit
set_option maxHeartbeats 400000
set_option linter.unusedVariables false

/-- what is known of a pattern by its kind -/
structure PatK (m x : Nat) (a K : Int) (n : Bool) (E M : Int) : Prop where
  kind : K = 1 ∨ K = 2 ∨ K = 3 ∨ K = 4
  zero : K = 1 → E = 0 ∧ M = 0 ∧ a = sgnW n (m + x)
  fin : K = 2 → FinP m x E M ∧ packP m x M E false + sgnW n (m + x) = a
  inf : K = 3 → a = infI m x n
theorem patK (m x : Nat) (a : Int) (hok : okF m x) (a0 : 0 ≤ a) (ha : bl a ≤ 1 + x + m) : PatK m x a (kindI m x a) (negI m x a) (expI m x a) (manI m x a) := by
  have hx : 2 ≤ x := by have := hok.2.2.1; omega
  exact ⟨kind_all m x a, fun h => kind_zero m x a a0 ha h, fun h => ⟨fin_of m x a hx h, (kind_fin m x a a0 ha hx h).1⟩, fun h => (kind_inf m x a a0 ha h).2.2⟩
end Go.Proofs.Ytbkjbnnbfmfkhaa
namespace Go.Proofs.Ytbkjbnnbfmfkhaa
open Go.RowKit
set_option maxRecDepth 100000
set_option maxHeartbeats 1000000
set_option linter.unusedVariables false

theorem near_one (m x : Nat) (A e P : Int) (hA : 0 < A) (hx : 2 ≤ x) (h : IsNear m x A 1 e P) : P = packP m x A e false := by
  refine near_pack_gen m x A 1 e P A e false hA (by decide) hx (fun h => by cases h) h ?_ ?_ ?_
  · rw [show (e - e).toNat = 0 by omega, p2_0]; omega
  · rw [show (e - e).toNat = 0 by omega, p2_0]; omega
  · rw [show (e - e).toNat = 0 by omega, p2_0]; simp
theorem addis (m x : Nat) (S e R : Int) (hx : 2 ≤ x) (h : AddIs m x S e R) : R = packP m x (absI S) e false + sgnW (decide (S < 0)) (m + x) := by
  rcases h with ⟨rfl, rfl⟩ | ⟨hS, P, hP, rfl⟩
  · have : absI 0 = 0 := rfl
    rw [this]
    simp [packP, sgnW]
  · have hA : 0 < absI S := by unfold absI; split <;> omega
    rw [near_one m x (absI S) e P hA hx hP]
theorem sgnI_sg (n : Bool) : sgnI n = sg n := rfl
theorem addis_two (m x : Nat) (n1 n2 : Bool) (E1 M1 E2 M2 e R : Int) (k1 k2 : Nat) (hx : 2 ≤ x) (he : min E1 E2 = e) (hk1 : E1 - e = k1) (hk2 : E2 - e = k2) (h : AddIs m x (sgnI n1 * (M1 * p2 k1) + sgnI n2 * (M2 * p2 k2)) e R) : R = sumI m x n1 E1 M1 n2 E2 M2 := by
  rw [addis m x _ e R hx h]
  unfold sumI sumS
  rw [he, show (E1 - e).toNat = k1 by omega, show (E2 - e).toNat = k2 by omega]
  rfl
/-- zero and a number is the number -/
theorem sum_zero (m x : Nat) (n1 n2 : Bool) (E1 E2 M2 b : Int) (hM : 0 < M2) (hb : packP m x M2 E2 false + sgnW n2 (m + x) = b) : sumI m x n1 E1 0 n2 E2 M2 = b := by
  unfold sumI sumS
  obtain ⟨k, hk⟩ : ∃ k : Nat, E2 - min E1 E2 = k := ⟨(E2 - min E1 E2).toNat, by omega⟩
  rw [hk, Int.zero_mul, Int.mul_zero, Int.zero_add, show ((k : Int)).toNat = k by omega]
  have hX : 0 < M2 * p2 k := Int.mul_pos hM (p2_pos k)
  have hp : packP m x (M2 * p2 k) (min E1 E2) false = packP m x M2 E2 false := by
    rw [← pack_scale m x M2 E2 k (by omega)]
    congr 1
    omega
  rw [← hb, ← hp]
  generalize M2 * p2 k = X at *
  unfold absI
  cases n2
  · rw [sg_f, Int.one_mul, if_neg (by omega), decide_eq_false (by omega)]
  · rw [sg_t, if_pos (by omega), decide_eq_true (show -1 * X < 0 by omega), show -(-1 * X) = X by omega]
abbrev ROpenC (m x : Nat) (a b K1 : Int) (n1 : Bool) (E1 M1 K2 : Int) (n2 : Bool) (E2 M2 : Int) : Prop := Hid (∀ w, Calls Try.prog 39 #[.agg #[.int .i64 (m : Int), .int .i64 (x : Int)], .int .u64 a, .int .u64 b] w fun r w' => r = .returned (.tuple #[partsV K1 n1 E1 M1, partsV K2 n2 E2 M2, .int .i64 0]) ∧ Below w.heap.size w w')
theorem radd_k (m x : Nat) (a b K1 E1 M1 K2 E2 M2 : Int) (n1 n2 : Bool) (w : World) (hok : okF m x) (g1 : PatK m x a K1 n1 E1 M1) (g2 : PatK m x b K2 n2 E2 M2) (HO : ROpenC m x a b K1 n1 E1 M1 K2 n2 E2 M2) :
    Calls Try.prog 10 #[.agg #[.int .i64 (m : Int), .int .i64 (x : Int)], .int .u64 a, .int .u64 b] w fun r w' => r = .returned (.tuple #[.int .u64 (addK m x a b K1 n1 E1 M1 K2 n2 E2 M2), .int .i64 0]) ∧ Below w.heap.size w w' := by
  have hx : 2 ≤ x := by have := hok.2.2.1; omega
  have hm : m ≤ 52 := by have := hok.2.1; omega
  have hm1 : 1 ≤ m := by have := hok.1; omega
  have hx11 : x ≤ 11 := by have := hok.2.2.2; omega
  have HN : Hid (∀ w, Calls Try.prog 40 #[.agg #[.int .i64 (m : Int), .int .i64 (x : Int)]] w fun r w' => r = .returned (.int .u64 (nanI m x)) ∧ Below w.heap.size w w') := hidden fun w => nan_any m x w hm hm1 hx11
  have HI : ∀ s, Hid (∀ w, Calls Try.prog 41 #[.agg #[.int .i64 (m : Int), .int .i64 (x : Int)], .bool s] w fun r w' => r = .returned (.int .u64 (infI m x s)) ∧ Below w.heap.size w w') := fun s => hidden fun w => inf_any m x s w hm hx11
  have HZ : ∀ s, Hid (∀ w, Calls Try.prog 42 #[.agg #[.int .i64 (m : Int), .int .i64 (x : Int)], .bool s] w fun r w' => r = .returned (.int .u64 (sgnW s (m + x))) ∧ Below w.heap.size w w') := fun s => hidden fun w => by
    refine (zero_any m x s w hm hx11).mono ?_
    rintro r w' ⟨rfl, hw⟩
    subst hw
    refine ⟨rfl, ?_⟩
    repeat (first | exact Below.refl _ _ | apply Below.drew | (refine Below.alloc ?_ (by simp; try omega) _))
  rcases g1.kind with rfl | rfl | rfl | rfl <;> rcases g2.kind with rfl | rfl | rfl | rfl
  · cases n1
    · rw [show addK m x a b 1 false E1 M1 1 n2 E2 M2 = sgnW false (m + x) by simp [addK]]; exact radd_11f m x a b E1 M1 E2 M2 _ n2 w HO (HZ _)
    · rw [show addK m x a b 1 true E1 M1 1 n2 E2 M2 = sgnW n2 (m + x) by simp [addK]]; exact radd_11t m x a b E1 M1 E2 M2 _ n2 w HO (HZ _)
  · rw [show addK m x a b 1 n1 E1 M1 2 n2 E2 M2 = b by simp [addK]]; 
    obtain ⟨rfl, rfl, -⟩ := g1.zero rfl
    obtain ⟨f2, h2⟩ := g2.fin rfl
    have r2 := f2.rng hok
    obtain ⟨k1, hk1⟩ : ∃ k : Nat, 0 - min 0 E2 = k := ⟨(0 - min 0 E2).toNat, by omega⟩
    obtain ⟨k2, hk2⟩ : ∃ k : Nat, E2 - min 0 E2 = k := ⟨(E2 - min 0 E2).toNat, by omega⟩
    refine (radd_sum_12 m x a b 0 0 E2 M2 _ n1 n2 k1 k2 w hok (by omega) (by omega) (by omega) (by omega) rfl hk1 hk2 (by omega) (by omega) HO).mono ?_
    rintro r w' ⟨R, rfl, hR, hb⟩
    have e := addis_two m x n1 n2 0 0 E2 M2 _ R k1 k2 hx rfl hk1 hk2 hR
    rw [sum_zero m x n1 n2 0 E2 M2 b f2.1 h2] at e
    exact ⟨by rw [e], hb⟩
  · have hb := g2.inf rfl
    rw [show addK m x a b 1 n1 E1 M1 3 n2 E2 M2 = b by simp [addK]]; rw [hb] at HO ⊢; exact radd_13 m x a _ E1 M1 E2 M2 _ n1 n2 w HO (HI _)
  · rw [show addK m x a b 1 n1 E1 M1 4 n2 E2 M2 = nanI m x by simp [addK]]; exact radd_14 m x a b E1 M1 E2 M2 _ n1 n2 w HO HN
  · rw [show addK m x a b 2 n1 E1 M1 1 n2 E2 M2 = a by simp [addK]]; 
    obtain ⟨f1, h1⟩ := g1.fin rfl
    have r1 := f1.rng hok
    obtain ⟨rfl, rfl, -⟩ := g2.zero rfl
    obtain ⟨k1, hk1⟩ : ∃ k : Nat, E1 - min E1 0 = k := ⟨(E1 - min E1 0).toNat, by omega⟩
    obtain ⟨k2, hk2⟩ : ∃ k : Nat, 0 - min E1 0 = k := ⟨(0 - min E1 0).toNat, by omega⟩
    refine (radd_sum_21 m x a b E1 M1 0 0 _ n1 n2 k1 k2 w hok (by omega) (by omega) (by omega) (by omega) rfl hk1 hk2 (by omega) (by omega) HO).mono ?_
    rintro r w' ⟨R, rfl, hR, hb⟩
    have e := addis_two m x n1 n2 E1 M1 0 0 _ R k1 k2 hx rfl hk1 hk2 hR
    rw [sumI_comm, sum_zero m x n2 n1 0 E1 M1 a f1.1 h1] at e
    exact ⟨by rw [e], hb⟩
  · rw [show addK m x a b 2 n1 E1 M1 2 n2 E2 M2 = sumI m x n1 E1 M1 n2 E2 M2 by simp [addK]]; 
    obtain ⟨f1, h1⟩ := g1.fin rfl
    have r1 := f1.rng hok
    obtain ⟨f2, h2⟩ := g2.fin rfl
    have r2 := f2.rng hok
    obtain ⟨k1, hk1⟩ : ∃ k : Nat, E1 - min E1 E2 = k := ⟨(E1 - min E1 E2).toNat, by omega⟩
    obtain ⟨k2, hk2⟩ : ∃ k : Nat, E2 - min E1 E2 = k := ⟨(E2 - min E1 E2).toNat, by omega⟩
    refine (radd_sum_22 m x a b E1 M1 E2 M2 _ n1 n2 k1 k2 w hok (by omega) (by omega) (by omega) (by omega) rfl hk1 hk2 (by omega) (by omega) HO).mono ?_
    rintro r w' ⟨R, rfl, hR, hb⟩
    have e := addis_two m x n1 n2 E1 M1 E2 M2 _ R k1 k2 hx rfl hk1 hk2 hR
    exact ⟨by rw [e], hb⟩
  · have hb := g2.inf rfl
    rw [show addK m x a b 2 n1 E1 M1 3 n2 E2 M2 = b by simp [addK]]; rw [hb] at HO ⊢; exact radd_23 m x a _ E1 M1 E2 M2 _ n1 n2 w HO (HI _)
  · rw [show addK m x a b 2 n1 E1 M1 4 n2 E2 M2 = nanI m x by simp [addK]]; exact radd_24 m x a b E1 M1 E2 M2 _ n1 n2 w HO HN
  · have ha := g1.inf rfl
    cases n1
    · rw [show addK m x a b 3 false E1 M1 1 n2 E2 M2 = a by simp [addK]]; rw [ha] at HO ⊢; exact radd_31f m x _ b E1 M1 E2 M2 _ n2 w HO (HI _)
    · rw [show addK m x a b 3 true E1 M1 1 n2 E2 M2 = a by simp [addK]]; rw [ha] at HO ⊢; exact radd_31t m x _ b E1 M1 E2 M2 _ n2 w HO (HI _)
  · have ha := g1.inf rfl
    cases n1
    · rw [show addK m x a b 3 false E1 M1 2 n2 E2 M2 = a by simp [addK]]; rw [ha] at HO ⊢; exact radd_32f m x _ b E1 M1 E2 M2 _ n2 w HO (HI _)
    · rw [show addK m x a b 3 true E1 M1 2 n2 E2 M2 = a by simp [addK]]; rw [ha] at HO ⊢; exact radd_32t m x _ b E1 M1 E2 M2 _ n2 w HO (HI _)
  · have ha := g1.inf rfl
    cases n1 <;> cases n2
    · rw [show addK m x a b 3 false E1 M1 3 false E2 M2 = a by simp [addK]]; rw [ha] at HO ⊢; exact radd_33ff m x _ b E1 M1 E2 M2 _ w HO (HI _)
    · rw [show addK m x a b 3 false E1 M1 3 true E2 M2 = nanI m x by simp [addK]]; exact radd_33ft m x a b E1 M1 E2 M2 _ w HO HN
    · rw [show addK m x a b 3 true E1 M1 3 false E2 M2 = nanI m x by simp [addK]]; exact radd_33tf m x a b E1 M1 E2 M2 _ w HO HN
    · rw [show addK m x a b 3 true E1 M1 3 true E2 M2 = a by simp [addK]]; rw [ha] at HO ⊢; exact radd_33tt m x _ b E1 M1 E2 M2 _ w HO (HI _)
  · rw [show addK m x a b 3 n1 E1 M1 4 n2 E2 M2 = nanI m x by simp [addK]]; exact radd_34 m x a b E1 M1 E2 M2 _ n1 n2 w HO HN
  · rw [show addK m x a b 4 n1 E1 M1 1 n2 E2 M2 = nanI m x by simp [addK]]; exact radd_41 m x a b E1 M1 E2 M2 _ n1 n2 w HO HN
  · rw [show addK m x a b 4 n1 E1 M1 2 n2 E2 M2 = nanI m x by simp [addK]]; exact radd_42 m x a b E1 M1 E2 M2 _ n1 n2 w HO HN
  · rw [show addK m x a b 4 n1 E1 M1 3 n2 E2 M2 = nanI m x by simp [addK]]; exact radd_43 m x a b E1 M1 E2 M2 _ n1 n2 w HO HN
  · rw [show addK m x a b 4 n1 E1 M1 4 n2 E2 M2 = nanI m x by simp [addK]]; exact radd_44 m x a b E1 M1 E2 M2 _ n1 n2 w HO HN
end Go.Proofs.Ytbkjbnnbfmfkhaa
