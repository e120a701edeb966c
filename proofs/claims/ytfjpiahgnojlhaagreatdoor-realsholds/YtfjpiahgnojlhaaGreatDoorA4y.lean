/- A number that is near by the page is packed. The document's Add answers what package soft's Add answers, for every two patterns of a format. Plain arithmetic for comparisons (no program in it): patterns stand in the order of their numbers. The document's Cmp answers what package soft's Cmp answers, for every two patterns of a format. Two patterns, held by the program and by the document: both say the same parts, or both refuse. The document's Holds (package grottoref04), leaf by leaf. The document's small functions for layer 4 (package grottoref04): Format, Of, Int. -/
import Derived.Test.YtfjpiahgnojlhaaGreatDoorN5m
import Derived.Test.YtfjpiahgnojlhaaGreatDoorS3k
import Derived.Test.YtfjpiahgnojlhaaGreatDoorR4x
import Derived.Test.YtfjpiahgnojlhaaGreatDoorS3lm
import Derived.Test.YtfjpiahgnojlhaaGreatDoorS3x
import Derived.Test.YtfjpiahgnojlhaaGreatDoorL2d
import Derived.Test.YtfjpiahgnojlhaaGreatDoorK4
import Derived.Test.YtfjpiahgnojlhaaGreatDoorN3a
namespace Go.Proofs.YtfjpiahgnojlhaaGreatDoor
open Go.RowKit
set_option maxHeartbeats 400000
set_option linter.unusedVariables false

theorem near_one (m x : Nat) (A e P : Int) (hA : 0 < A) (hx : 2 ≤ x) (h : IsNear m x A 1 e P) : P = packP m x A e false := by
  refine near_pack_gen m x A 1 e P A e false hA (by decide) hx (fun h => by cases h) h ?_ ?_ ?_
  · rw [show (e - e).toNat = 0 by omega, show p2 0 = 1 from rfl]; omega
  · rw [show (e - e).toNat = 0 by omega, show p2 0 = 1 from rfl]; omega
  · rw [show (e - e).toNat = 0 by omega, show p2 0 = 1 from rfl]; simp
end Go.Proofs.YtfjpiahgnojlhaaGreatDoor
namespace Go.Proofs.YtfjpiahgnojlhaaGreatDoor
open Go.RowKit
set_option maxRecDepth 100000
set_option maxHeartbeats 1000000
set_option linter.unusedVariables false

theorem addis (m x : Nat) (S e R : Int) (hx : 2 ≤ x) (h : AddIs m x S e R) : R = packP m x (absI S) e false + sgnW (decide (S < 0)) (m + x) := by
  rcases h with ⟨rfl, rfl⟩ | ⟨hS, P, hP, rfl⟩
  · have : absI 0 = 0 := rfl
    rw [this]
    simp [packP, sgnW]
  · have hA : 0 < absI S := by unfold absI; split <;> omega
    rw [near_one m x (absI S) e P hA hx hP]
theorem sgnI_sg (n : Bool) : sgnI n = sg n := rfl
theorem addis_two (m x : Nat) (n1 n2 : Bool) (E1 M1 E2 M2 e R : Int) (k1 k2 : Nat) (hx : 2 ≤ x) (he : min E1 E2 = e) (hk1 : E1 - e = k1) (hk2 : E2 - e = k2) (h : AddIs m x (sgnI n1 * (M1 * p2 k1) + sgnI n2 * (M2 * p2 k2)) e R) : R = sumI m x n1 E1 M1 n2 E2 M2 := by
  rw [addis m x _ e R hx h]
  unfold sumI sumS
  rw [he, show (E1 - e).toNat = k1 by omega, show (E2 - e).toNat = k2 by omega]
  rfl
/-- zero and a number is the number -/
theorem sum_zero (m x : Nat) (n1 n2 : Bool) (E1 E2 M2 b : Int) (hM : 0 < M2) (hb : packP m x M2 E2 false + sgnW n2 (m + x) = b) : sumI m x n1 E1 0 n2 E2 M2 = b := by
  unfold sumI sumS
  obtain ⟨k, hk⟩ : ∃ k : Nat, E2 - min E1 E2 = k := ⟨(E2 - min E1 E2).toNat, by omega⟩
  rw [hk, Int.zero_mul, Int.mul_zero, Int.zero_add, show ((k : Int)).toNat = k by omega]
  have hX : 0 < M2 * p2 k := Int.mul_pos hM (p2_pos k)
  have hp : packP m x (M2 * p2 k) (min E1 E2) false = packP m x M2 E2 false := by
    rw [← pack_scale m x M2 E2 k (by omega)]
    congr 1
    omega
  rw [← hb, ← hp]
  generalize M2 * p2 k = X at *
  unfold absI
  cases n2
  · rw [sg_f, Int.one_mul, if_neg (by omega), decide_eq_false (by omega)]
  · rw [sg_t, if_pos (by omega), decide_eq_true (show -1 * X < 0 by omega), show -(-1 * X) = X by omega]
abbrev ROpenC (m x : Nat) (a b K1 : Int) (n1 : Bool) (E1 M1 K2 : Int) (n2 : Bool) (E2 M2 : Int) : Prop := Hid (∀ w, Calls Tryz.prog 24 #[.agg #[.int .i64 (m : Int), .int .i64 (x : Int)], .int .u64 a, .int .u64 b] w fun r w' => r = .returned (.tuple #[partsV K1 n1 E1 M1, partsV K2 n2 E2 M2, .int .i64 0]) ∧ Below w.heap.size w w')
theorem radd_k (m x : Nat) (a b K1 E1 M1 K2 E2 M2 : Int) (n1 n2 : Bool) (w : World) (hok : okF m x) (g1 : PatK m x a K1 n1 E1 M1) (g2 : PatK m x b K2 n2 E2 M2) (HO : ROpenC m x a b K1 n1 E1 M1 K2 n2 E2 M2) :
    Calls Tryz.prog 30 #[.agg #[.int .i64 (m : Int), .int .i64 (x : Int)], .int .u64 a, .int .u64 b] w fun r w' => r = .returned (.tuple #[.int .u64 (addK m x a b K1 n1 E1 M1 K2 n2 E2 M2), .int .i64 0]) ∧ Below w.heap.size w w' := by
  have hx : 2 ≤ x := by have := hok.2.2.1; omega
  have hm : m ≤ 52 := by have := hok.2.1; omega
  have hm1 : 1 ≤ m := by have := hok.1; omega
  have hx11 : x ≤ 11 := by have := hok.2.2.2; omega
  have HN : Hid (∀ w, Calls Tryz.prog 51 #[.agg #[.int .i64 (m : Int), .int .i64 (x : Int)]] w fun r w' => r = .returned (.int .u64 (nanI m x)) ∧ Below w.heap.size w w') := hidden fun w => nan_any m x w hm hm1 hx11
  have HI : ∀ s, Hid (∀ w, Calls Tryz.prog 52 #[.agg #[.int .i64 (m : Int), .int .i64 (x : Int)], .bool s] w fun r w' => r = .returned (.int .u64 (infI m x s)) ∧ Below w.heap.size w w') := fun s => hidden fun w => inf_any m x s w hm hx11
  have HZ : ∀ s, Hid (∀ w, Calls Tryz.prog 53 #[.agg #[.int .i64 (m : Int), .int .i64 (x : Int)], .bool s] w fun r w' => r = .returned (.int .u64 (sgnW s (m + x))) ∧ Below w.heap.size w w') := fun s => hidden fun w => by
    refine (zero_any m x s w hm hx11).mono ?_
    rintro r w' ⟨rfl, hw⟩
    subst hw
    refine ⟨rfl, ?_⟩
    repeat (first | exact Below.refl _ _ | apply Below.drew | (refine Below.alloc ?_ (by simp; try omega) _))
  rcases g1.kind with rfl | rfl | rfl | rfl <;> rcases g2.kind with rfl | rfl | rfl | rfl
  · cases n1
    · rw [show addK m x a b 1 false E1 M1 1 n2 E2 M2 = sgnW false (m + x) by simp [addK]]; exact radd_11f m x a b E1 M1 E2 M2 _ n2 w HO (HZ _)
    · rw [show addK m x a b 1 true E1 M1 1 n2 E2 M2 = sgnW n2 (m + x) by simp [addK]]; exact radd_11t m x a b E1 M1 E2 M2 _ n2 w HO (HZ _)
  · rw [show addK m x a b 1 n1 E1 M1 2 n2 E2 M2 = b by simp [addK]]; 
    obtain ⟨rfl, rfl, -⟩ := g1.zero rfl
    obtain ⟨f2, h2⟩ := g2.fin rfl
    have r2 := f2.rng hok
    obtain ⟨k1, hk1⟩ : ∃ k : Nat, 0 - min 0 E2 = k := ⟨(0 - min 0 E2).toNat, by omega⟩
    obtain ⟨k2, hk2⟩ : ∃ k : Nat, E2 - min 0 E2 = k := ⟨(E2 - min 0 E2).toNat, by omega⟩
    refine (radd_sum_12 m x a b 0 0 E2 M2 _ n1 n2 k1 k2 w hok (by omega) (by omega) (by omega) (by omega) rfl hk1 hk2 (by omega) (by omega) HO).mono ?_
    rintro r w' ⟨R, rfl, hR, hb⟩
    have e := addis_two m x n1 n2 0 0 E2 M2 _ R k1 k2 hx rfl hk1 hk2 hR
    rw [sum_zero m x n1 n2 0 E2 M2 b f2.1 h2] at e
    exact ⟨by rw [e], hb⟩
  · have hb := g2.inf rfl
    rw [show addK m x a b 1 n1 E1 M1 3 n2 E2 M2 = b by simp [addK]]; rw [hb] at HO ⊢; exact radd_13 m x a _ E1 M1 E2 M2 _ n1 n2 w HO (HI _)
  · rw [show addK m x a b 1 n1 E1 M1 4 n2 E2 M2 = nanI m x by simp [addK]]; exact radd_14 m x a b E1 M1 E2 M2 _ n1 n2 w HO HN
  · rw [show addK m x a b 2 n1 E1 M1 1 n2 E2 M2 = a by simp [addK]]; 
    obtain ⟨f1, h1⟩ := g1.fin rfl
    have r1 := f1.rng hok
    obtain ⟨rfl, rfl, -⟩ := g2.zero rfl
    obtain ⟨k1, hk1⟩ : ∃ k : Nat, E1 - min E1 0 = k := ⟨(E1 - min E1 0).toNat, by omega⟩
    obtain ⟨k2, hk2⟩ : ∃ k : Nat, 0 - min E1 0 = k := ⟨(0 - min E1 0).toNat, by omega⟩
    refine (radd_sum_21 m x a b E1 M1 0 0 _ n1 n2 k1 k2 w hok (by omega) (by omega) (by omega) (by omega) rfl hk1 hk2 (by omega) (by omega) HO).mono ?_
    rintro r w' ⟨R, rfl, hR, hb⟩
    have e := addis_two m x n1 n2 E1 M1 0 0 _ R k1 k2 hx rfl hk1 hk2 hR
    rw [sumI_comm, sum_zero m x n2 n1 0 E1 M1 a f1.1 h1] at e
    exact ⟨by rw [e], hb⟩
  · rw [show addK m x a b 2 n1 E1 M1 2 n2 E2 M2 = sumI m x n1 E1 M1 n2 E2 M2 by simp [addK]]; 
    obtain ⟨f1, h1⟩ := g1.fin rfl
    have r1 := f1.rng hok
    obtain ⟨f2, h2⟩ := g2.fin rfl
    have r2 := f2.rng hok
    obtain ⟨k1, hk1⟩ : ∃ k : Nat, E1 - min E1 E2 = k := ⟨(E1 - min E1 E2).toNat, by omega⟩
    obtain ⟨k2, hk2⟩ : ∃ k : Nat, E2 - min E1 E2 = k := ⟨(E2 - min E1 E2).toNat, by omega⟩
    refine (radd_sum_22 m x a b E1 M1 E2 M2 _ n1 n2 k1 k2 w hok (by omega) (by omega) (by omega) (by omega) rfl hk1 hk2 (by omega) (by omega) HO).mono ?_
    rintro r w' ⟨R, rfl, hR, hb⟩
    have e := addis_two m x n1 n2 E1 M1 E2 M2 _ R k1 k2 hx rfl hk1 hk2 hR
    exact ⟨by rw [e], hb⟩
  · have hb := g2.inf rfl
    rw [show addK m x a b 2 n1 E1 M1 3 n2 E2 M2 = b by simp [addK]]; rw [hb] at HO ⊢; exact radd_23 m x a _ E1 M1 E2 M2 _ n1 n2 w HO (HI _)
  · rw [show addK m x a b 2 n1 E1 M1 4 n2 E2 M2 = nanI m x by simp [addK]]; exact radd_24 m x a b E1 M1 E2 M2 _ n1 n2 w HO HN
  · have ha := g1.inf rfl
    cases n1
    · rw [show addK m x a b 3 false E1 M1 1 n2 E2 M2 = a by simp [addK]]; rw [ha] at HO ⊢; exact radd_31f m x _ b E1 M1 E2 M2 _ n2 w HO (HI _)
    · rw [show addK m x a b 3 true E1 M1 1 n2 E2 M2 = a by simp [addK]]; rw [ha] at HO ⊢; exact radd_31t m x _ b E1 M1 E2 M2 _ n2 w HO (HI _)
  · have ha := g1.inf rfl
    cases n1
    · rw [show addK m x a b 3 false E1 M1 2 n2 E2 M2 = a by simp [addK]]; rw [ha] at HO ⊢; exact radd_32f m x _ b E1 M1 E2 M2 _ n2 w HO (HI _)
    · rw [show addK m x a b 3 true E1 M1 2 n2 E2 M2 = a by simp [addK]]; rw [ha] at HO ⊢; exact radd_32t m x _ b E1 M1 E2 M2 _ n2 w HO (HI _)
  · have ha := g1.inf rfl
    cases n1 <;> cases n2
    · rw [show addK m x a b 3 false E1 M1 3 false E2 M2 = a by simp [addK]]; rw [ha] at HO ⊢; exact radd_33ff m x _ b E1 M1 E2 M2 _ w HO (HI _)
    · rw [show addK m x a b 3 false E1 M1 3 true E2 M2 = nanI m x by simp [addK]]; exact radd_33ft m x a b E1 M1 E2 M2 _ w HO HN
    · rw [show addK m x a b 3 true E1 M1 3 false E2 M2 = nanI m x by simp [addK]]; exact radd_33tf m x a b E1 M1 E2 M2 _ w HO HN
    · rw [show addK m x a b 3 true E1 M1 3 true E2 M2 = a by simp [addK]]; rw [ha] at HO ⊢; exact radd_33tt m x _ b E1 M1 E2 M2 _ w HO (HI _)
  · rw [show addK m x a b 3 n1 E1 M1 4 n2 E2 M2 = nanI m x by simp [addK]]; exact radd_34 m x a b E1 M1 E2 M2 _ n1 n2 w HO HN
  · rw [show addK m x a b 4 n1 E1 M1 1 n2 E2 M2 = nanI m x by simp [addK]]; exact radd_41 m x a b E1 M1 E2 M2 _ n1 n2 w HO HN
  · rw [show addK m x a b 4 n1 E1 M1 2 n2 E2 M2 = nanI m x by simp [addK]]; exact radd_42 m x a b E1 M1 E2 M2 _ n1 n2 w HO HN
  · rw [show addK m x a b 4 n1 E1 M1 3 n2 E2 M2 = nanI m x by simp [addK]]; exact radd_43 m x a b E1 M1 E2 M2 _ n1 n2 w HO HN
  · rw [show addK m x a b 4 n1 E1 M1 4 n2 E2 M2 = nanI m x by simp [addK]]; exact radd_44 m x a b E1 M1 E2 M2 _ n1 n2 w HO HN
end Go.Proofs.YtfjpiahgnojlhaaGreatDoor
namespace Go.Proofs.YtfjpiahgnojlhaaGreatDoor
open Go.RowKit
set_option maxHeartbeats 400000
set_option linter.unusedVariables false

theorem pack_self (m x : Nat) (E M : Int) (hx : 2 ≤ x) (h : FinP m x E M) : packP m x M E false = (E - least m x) * p2 m + M := by
  rcases Int.lt_or_le M (p2 m) with hM | hM
  · obtain ⟨h0, h1, h2, h3, h4⟩ := h
    obtain rfl : E = least m x := by omega
    rw [pack_sub m x M h0 hM hx, Int.sub_self, Int.zero_mul, Int.zero_add]
  · exact pack_norm m x E M hx h hM
theorem fin_lt (m x : Nat) (E1 M1 E2 M2 : Int) (k1 k2 : Nat) (h1 : FinP m x E1 M1) (h2 : FinP m x E2 M2) (hk1 : E1 - min E1 E2 = k1) (hk2 : E2 - min E1 E2 = k2) (hlt : E1 < E2) :
    M1 * p2 k1 < M2 * p2 k2 ∧ (E1 - least m x) * p2 m + M1 < (E2 - least m x) * p2 m + M2 := by
  obtain ⟨a0, a1, a2, a3, a4⟩ := h1
  obtain ⟨b0, b1, b2, b3, b4⟩ := h2
  have hM2 : p2 m ≤ M2 := by rcases b4 with h | h <;> omega
  obtain rfl : k1 = 0 := by omega
  have hk : 1 ≤ k2 := by omega
  have hp := p2_pos m
  have h3 : p2 m * p2 1 ≤ M2 * p2 k2 := Int.mul_le_mul hM2 (p2_mono hk) (Int.le_of_lt (p2_pos _)) (by omega)
  rw [← p2_add] at h3
  refine ⟨by rw [p2_0]; omega, ?_⟩
  have h4 : (E1 - least m x + 1) * p2 m ≤ (E2 - least m x) * p2 m := Int.mul_le_mul_of_nonneg_right (by omega) (by omega)
  rw [Int.add_mul, Int.one_mul] at h4
  rw [p2_succ] at a1
  omega
theorem fin_order (m x : Nat) (E1 M1 E2 M2 : Int) (k1 k2 : Nat) (h1 : FinP m x E1 M1) (h2 : FinP m x E2 M2) (hk1 : E1 - min E1 E2 = k1) (hk2 : E2 - min E1 E2 = k2) :
    (M1 * p2 k1 < M2 * p2 k2 ↔ (E1 - least m x) * p2 m + M1 < (E2 - least m x) * p2 m + M2) ∧ (M2 * p2 k2 < M1 * p2 k1 ↔ (E2 - least m x) * p2 m + M2 < (E1 - least m x) * p2 m + M1) := by
  rcases Int.lt_trichotomy E1 E2 with h | h | h
  · obtain ⟨a, b⟩ := fin_lt m x E1 M1 E2 M2 k1 k2 h1 h2 hk1 hk2 h
    omega
  · subst h
    obtain rfl : k1 = 0 := by omega
    obtain rfl : k2 = 0 := by omega
    rw [p2_0]
    omega
  · obtain ⟨a, b⟩ := fin_lt m x E2 M2 E1 M1 k2 k1 h2 h1 (by rw [Int.min_comm]; exact hk2) (by rw [Int.min_comm]; exact hk1) h
    omega
/-- a pattern without its sign -/
def magI (m x : Nat) (K E M : Int) : Int := if K = 1 then 0 else if K = 2 then (E - least m x) * p2 m + M else (p2 x - 1) * p2 m
theorem mag_rank (m x : Nat) (a K E M : Int) (n : Bool) (hok : okF m x) (g : PatK m x a K n E M) (h4 : K ≠ 4) : rankI (m + x) a = sg n * magI m x K E M ∧ 0 ≤ magI m x K E M ∧ magI m x K E M ≤ (p2 x - 1) * p2 m ∧ (K = 2 → 0 < magI m x K E M ∧ magI m x K E M < (p2 x - 1) * p2 m) := by
  obtain ⟨t0, t1, t2, t3⟩ := top_bd m x hok
  have hx : 2 ≤ x := by have := hok.2.2.1; omega
  have hp := p2_pos (m + x)
  have key : ∀ g : Int, 0 ≤ g → g < p2 (m + x) → rankI (m + x) (g + sgnW n (m + x)) = sg n * g := by
    intro g g0 g1
    unfold rankI sgnW sg
    cases n
    · simp only [Bool.false_eq_true, if_false]
      rw [if_neg (by omega), Int.add_zero, Int.emod_eq_of_lt g0 g1]; omega
    · simp only [if_true]
      rw [if_pos (by omega), Int.add_emod_right, Int.emod_eq_of_lt g0 g1]; omega
  rcases g.kind with rfl | rfl | rfl | rfl
  · obtain ⟨-, -, ha⟩ := g.zero rfl
    have e : magI m x 1 E M = 0 := by simp [magI]
    rw [e]
    refine ⟨?_, by omega, t0, fun h => by omega⟩
    have := key 0 (by omega) (by omega)
    rw [Int.zero_add] at this
    rw [ha]; exact this
  · obtain ⟨hf, ha⟩ := g.fin rfl
    have e : magI m x 2 E M = (E - least m x) * p2 m + M := by simp [magI]
    have hs := pack_self m x E M hx hf
    have hb := pack_bd m x M E false (Int.le_of_lt hf.1) hx
    rw [e, ← hs]
    have hpos : 0 < packP m x M E false := by
      rw [hs]
      have : 0 ≤ (E - least m x) * p2 m := Int.mul_nonneg (by have := hf.2.2.1; omega) (Int.le_of_lt (p2_pos m))
      have := hf.1
      omega
    have hlt : packP m x M E false < (p2 x - 1) * p2 m := by
      rw [hs]
      have hbt := bias_two x hx
      have h1 : (E - least m x) * p2 m ≤ (p2 x - 1 - 2) * p2 m := Int.mul_le_mul_of_nonneg_right (by have := hf.2.2.2.1; unfold least; omega) (Int.le_of_lt (p2_pos m))
      rw [Int.sub_mul (p2 x - 1) 2] at h1
      have h2 := hf.2.1
      rw [p2_succ] at h2
      omega
    refine ⟨?_, by omega, by omega, fun _ => ⟨hpos, hlt⟩⟩
    rw [← ha]; exact key _ (by omega) (by omega)
  · have ha := g.inf rfl
    have e : magI m x 3 E M = (p2 x - 1) * p2 m := by simp [magI]
    rw [e]
    refine ⟨?_, t0, Int.le_refl _, fun h => by omega⟩
    rw [ha]; exact key _ t0 t1
  · exact absurd rfl h4
/-- the sign of a number -/
def sgz (S : Int) : Int := if S < 0 then -1 else if 0 < S then 1 else 0
theorem cmp_sum (n1 n2 : Bool) (X Y A B : Int) (x0 : 0 ≤ X) (y0 : 0 ≤ Y) (a0 : 0 ≤ A) (b0 : 0 ≤ B) (h1 : X < Y ↔ A < B) (h2 : Y < X ↔ B < A) (h3 : X = 0 ↔ A = 0) (h4 : Y = 0 ↔ B = 0) :
    cmpZ (sg n1 * A) (sg n2 * B) = sgz (sg n1 * X + sg (!n2) * Y) := by
  unfold cmpZ sgz sg
  cases n1 <;> cases n2 <;> simp only [Bool.not_false, Bool.not_true, Bool.false_eq_true, if_false, if_true] <;> repeat (first | omega | split)
end Go.Proofs.YtfjpiahgnojlhaaGreatDoor
namespace Go.Proofs.YtfjpiahgnojlhaaGreatDoor
open Go.RowKit
set_option maxRecDepth 100000
set_option maxHeartbeats 1000000
set_option linter.unusedVariables false

abbrev ROpenC2 (m x : Nat) (a b K1 : Int) (n1 : Bool) (E1 M1 K2 : Int) (n2 : Bool) (E2 M2 : Int) : Prop := Hid (∀ w, Calls Tryz.prog 24 #[.agg #[.int .i64 (m : Int), .int .i64 (x : Int)], .int .u64 a, .int .u64 b] w fun r w' => r = .returned (.tuple #[partsV K1 n1 E1 M1, partsV K2 n2 E2 M2, .int .i64 0]) ∧ Below w.heap.size w w')
theorem cmpret {w : World} {S : Int} {r : Ending} {w' : World} (h : CmpRet w S r w') : r = .returned (.tuple #[.int .i64 (sgz S), .bool true, .int .i64 0]) ∧ Below w.heap.size w w' := by
  obtain ⟨c, rfl, hc, hb⟩ := h
  refine ⟨?_, hb⟩
  have : c = sgz S := by
    unfold sgz
    split
    · omega
    · split <;> omega
  rw [this]
theorem rcmp_k (m x : Nat) (a b K1 E1 M1 K2 E2 M2 : Int) (n1 n2 : Bool) (w : World) (hok : okF m x) (g1 : PatK m x a K1 n1 E1 M1) (g2 : PatK m x b K2 n2 E2 M2) (HO : ROpenC2 m x a b K1 n1 E1 M1 K2 n2 E2 M2) :
    Calls Tryz.prog 10 #[.agg #[.int .i64 (m : Int), .int .i64 (x : Int)], .int .u64 a, .int .u64 b] w fun r w' => r = .returned (.tuple #[.int .i64 (cmpR m x a b K1 K2), .bool (cmpOk K1 K2), .int .i64 0]) ∧ Below w.heap.size w w' := by
  have hx : 2 ≤ x := by have := hok.2.2.1; omega
  have hT : 0 < (p2 x - 1) * p2 m := by
    have h4 : p2 2 ≤ p2 x := p2_mono hx
    have e4 : p2 2 = 4 := rfl
    exact Int.mul_pos (by omega) (p2_pos m)
  have m1 := mag_rank m x a K1 E1 M1 n1 hok g1
  have m2 := mag_rank m x b K2 E2 M2 n2 hok g2
  rcases g1.kind with rfl | rfl | rfl | rfl <;> rcases g2.kind with rfl | rfl | rfl | rfl
  · obtain ⟨c1, d1, u1, v1⟩ := m1 (by decide)
    obtain ⟨c2, d2, u2, v2⟩ := m2 (by decide)
    rw [show cmpR m x a b 1 1 = cmpZ (rankI (m + x) a) (rankI (m + x) b) by simp [cmpR], show cmpOk 1 1 = true from rfl, c1, c2]
    clear c1 c2 d1 d2 u1 u2
    clear v1
    clear v2
    rw [show magI m x 1 E1 M1 = 0 by simp [magI]]
    rw [show magI m x 1 E2 M2 = 0 by simp [magI]]
    obtain ⟨rfl, rfl, -⟩ := g1.zero rfl
    obtain ⟨rfl, rfl, -⟩ := g2.zero rfl
    obtain ⟨k1, hk1⟩ : ∃ k : Nat, (0 : Int) - min (0 : Int) (0 : Int) = k := ⟨((0 : Int) - min (0 : Int) (0 : Int)).toNat, by omega⟩
    obtain ⟨k2, hk2⟩ : ∃ k : Nat, (0 : Int) - min (0 : Int) (0 : Int) = k := ⟨((0 : Int) - min (0 : Int) (0 : Int)).toNat, by omega⟩
    have q1 := p2_pos k1
    have q2 := p2_pos k2
    have X0 : 0 * p2 k1 = 0 := Int.zero_mul _
    have Y0 : 0 * p2 k2 = 0 := Int.zero_mul _
    rw [cmp_sum n1 n2 (0 * p2 k1) (0 * p2 k2) 0 0 (by omega) (by omega) (by omega) (by omega) (by omega) (by omega) (by omega) (by omega)]
    exact (rcmp_fin_11 m x a b (0 : Int) 0 (0 : Int) 0 _ n1 n2 k1 k2 w (by omega) (by omega) (by omega) (by omega) rfl hk1 hk2 (by omega) (by omega) HO).mono fun r w' h => cmpret h
  · obtain ⟨c1, d1, u1, v1⟩ := m1 (by decide)
    obtain ⟨c2, d2, u2, v2⟩ := m2 (by decide)
    rw [show cmpR m x a b 1 2 = cmpZ (rankI (m + x) a) (rankI (m + x) b) by simp [cmpR], show cmpOk 1 2 = true from rfl, c1, c2]
    clear c1 c2 d1 d2 u1 u2
    clear v1
    have v2 := v2 rfl
    rw [show magI m x 1 E1 M1 = 0 by simp [magI]]
    rw [show magI m x 2 E2 M2 = (E2 - least m x) * p2 m + M2 by simp [magI]] at v2 ⊢
    obtain ⟨rfl, rfl, -⟩ := g1.zero rfl
    obtain ⟨f2, -⟩ := g2.fin rfl
    have r2 := f2.rng hok
    obtain ⟨k1, hk1⟩ : ∃ k : Nat, (0 : Int) - min (0 : Int) E2 = k := ⟨((0 : Int) - min (0 : Int) E2).toNat, by omega⟩
    obtain ⟨k2, hk2⟩ : ∃ k : Nat, E2 - min (0 : Int) E2 = k := ⟨(E2 - min (0 : Int) E2).toNat, by omega⟩
    have q1 := p2_pos k1
    have q2 := p2_pos k2
    have Y0 : 0 < M2 * p2 k2 := Int.mul_pos (by omega) q2
    have X0 : 0 * p2 k1 = 0 := Int.zero_mul _
    rw [cmp_sum n1 n2 (0 * p2 k1) (M2 * p2 k2) 0 ((E2 - least m x) * p2 m + M2) (by omega) (by omega) (by omega) (by omega) (by omega) (by omega) (by omega) (by omega)]
    exact (rcmp_fin_12 m x a b (0 : Int) 0 E2 M2 _ n1 n2 k1 k2 w (by omega) (by omega) (by omega) (by omega) rfl hk1 hk2 (by omega) (by omega) HO).mono fun r w' h => cmpret h
  · obtain ⟨c1, d1, u1, v1⟩ := m1 (by decide)
    obtain ⟨c2, d2, u2, v2⟩ := m2 (by decide)
    rw [show cmpR m x a b 1 3 = cmpZ (rankI (m + x) a) (rankI (m + x) b) by simp [cmpR], show cmpOk 1 3 = true from rfl, c1, c2]
    clear c1 c2 d1 d2 u1 u2
    clear v1
    clear v2
    rw [show magI m x 1 E1 M1 = 0 by simp [magI]]
    rw [show magI m x 3 E2 M2 = (p2 x - 1) * p2 m by simp [magI]]
    generalize (p2 x - 1) * p2 m = T at *
    cases n1 <;> cases n2
    · rw [show cmpZ (sg false * 0) (sg false * T) = (-1) by rw [sg_f]; unfold cmpZ; repeat (first | omega | split)]; exact rcmp_13f m x a b E1 M1 E2 M2 false w HO
    · rw [show cmpZ (sg false * 0) (sg true * T) = 1 by rw [sg_f, sg_t]; unfold cmpZ; repeat (first | omega | split)]; exact rcmp_13t m x a b E1 M1 E2 M2 false w HO
    · rw [show cmpZ (sg true * 0) (sg false * T) = (-1) by rw [sg_f, sg_t]; unfold cmpZ; repeat (first | omega | split)]; exact rcmp_13f m x a b E1 M1 E2 M2 true w HO
    · rw [show cmpZ (sg true * 0) (sg true * T) = 1 by rw [sg_t]; unfold cmpZ; repeat (first | omega | split)]; exact rcmp_13t m x a b E1 M1 E2 M2 true w HO
  · exact rcmp_14 m x a b E1 M1 E2 M2 n1 n2 w HO
  · obtain ⟨c1, d1, u1, v1⟩ := m1 (by decide)
    obtain ⟨c2, d2, u2, v2⟩ := m2 (by decide)
    rw [show cmpR m x a b 2 1 = cmpZ (rankI (m + x) a) (rankI (m + x) b) by simp [cmpR], show cmpOk 2 1 = true from rfl, c1, c2]
    clear c1 c2 d1 d2 u1 u2
    have v1 := v1 rfl
    clear v2
    rw [show magI m x 2 E1 M1 = (E1 - least m x) * p2 m + M1 by simp [magI]] at v1 ⊢
    rw [show magI m x 1 E2 M2 = 0 by simp [magI]]
    obtain ⟨f1, -⟩ := g1.fin rfl
    have r1 := f1.rng hok
    obtain ⟨rfl, rfl, -⟩ := g2.zero rfl
    obtain ⟨k1, hk1⟩ : ∃ k : Nat, E1 - min E1 (0 : Int) = k := ⟨(E1 - min E1 (0 : Int)).toNat, by omega⟩
    obtain ⟨k2, hk2⟩ : ∃ k : Nat, (0 : Int) - min E1 (0 : Int) = k := ⟨((0 : Int) - min E1 (0 : Int)).toNat, by omega⟩
    have q1 := p2_pos k1
    have q2 := p2_pos k2
    have X0 : 0 < M1 * p2 k1 := Int.mul_pos (by omega) q1
    have Y0 : 0 * p2 k2 = 0 := Int.zero_mul _
    rw [cmp_sum n1 n2 (M1 * p2 k1) (0 * p2 k2) ((E1 - least m x) * p2 m + M1) 0 (by omega) (by omega) (by omega) (by omega) (by omega) (by omega) (by omega) (by omega)]
    exact (rcmp_fin_21 m x a b E1 M1 (0 : Int) 0 _ n1 n2 k1 k2 w (by omega) (by omega) (by omega) (by omega) rfl hk1 hk2 (by omega) (by omega) HO).mono fun r w' h => cmpret h
  · obtain ⟨c1, d1, u1, v1⟩ := m1 (by decide)
    obtain ⟨c2, d2, u2, v2⟩ := m2 (by decide)
    rw [show cmpR m x a b 2 2 = cmpZ (rankI (m + x) a) (rankI (m + x) b) by simp [cmpR], show cmpOk 2 2 = true from rfl, c1, c2]
    clear c1 c2 d1 d2 u1 u2
    have v1 := v1 rfl
    have v2 := v2 rfl
    rw [show magI m x 2 E1 M1 = (E1 - least m x) * p2 m + M1 by simp [magI]] at v1 ⊢
    rw [show magI m x 2 E2 M2 = (E2 - least m x) * p2 m + M2 by simp [magI]] at v2 ⊢
    obtain ⟨f1, -⟩ := g1.fin rfl
    have r1 := f1.rng hok
    obtain ⟨f2, -⟩ := g2.fin rfl
    have r2 := f2.rng hok
    obtain ⟨k1, hk1⟩ : ∃ k : Nat, E1 - min E1 E2 = k := ⟨(E1 - min E1 E2).toNat, by omega⟩
    obtain ⟨k2, hk2⟩ : ∃ k : Nat, E2 - min E1 E2 = k := ⟨(E2 - min E1 E2).toNat, by omega⟩
    have q1 := p2_pos k1
    have q2 := p2_pos k2
    have X0 : 0 < M1 * p2 k1 := Int.mul_pos (by omega) q1
    have Y0 : 0 < M2 * p2 k2 := Int.mul_pos (by omega) q2
    have ho := fin_order m x E1 M1 E2 M2 k1 k2 f1 f2 hk1 hk2
    rw [cmp_sum n1 n2 (M1 * p2 k1) (M2 * p2 k2) ((E1 - least m x) * p2 m + M1) ((E2 - least m x) * p2 m + M2) (by omega) (by omega) (by omega) (by omega) (by omega) (by omega) (by omega) (by omega)]
    exact (rcmp_fin_22 m x a b E1 M1 E2 M2 _ n1 n2 k1 k2 w (by omega) (by omega) (by omega) (by omega) rfl hk1 hk2 (by omega) (by omega) HO).mono fun r w' h => cmpret h
  · obtain ⟨c1, d1, u1, v1⟩ := m1 (by decide)
    obtain ⟨c2, d2, u2, v2⟩ := m2 (by decide)
    rw [show cmpR m x a b 2 3 = cmpZ (rankI (m + x) a) (rankI (m + x) b) by simp [cmpR], show cmpOk 2 3 = true from rfl, c1, c2]
    clear c1 c2 d1 d2 u1 u2
    have v1 := v1 rfl
    clear v2
    rw [show magI m x 2 E1 M1 = (E1 - least m x) * p2 m + M1 by simp [magI]] at v1 ⊢
    rw [show magI m x 3 E2 M2 = (p2 x - 1) * p2 m by simp [magI]]
    generalize (p2 x - 1) * p2 m = T at *
    generalize (E1 - least m x) * p2 m + M1 = A at *
    cases n1 <;> cases n2
    · rw [show cmpZ (sg false * A) (sg false * T) = (-1) by rw [sg_f]; unfold cmpZ; repeat (first | omega | split)]; exact rcmp_23f m x a b E1 M1 E2 M2 false w HO
    · rw [show cmpZ (sg false * A) (sg true * T) = 1 by rw [sg_f, sg_t]; unfold cmpZ; repeat (first | omega | split)]; exact rcmp_23t m x a b E1 M1 E2 M2 false w HO
    · rw [show cmpZ (sg true * A) (sg false * T) = (-1) by rw [sg_f, sg_t]; unfold cmpZ; repeat (first | omega | split)]; exact rcmp_23f m x a b E1 M1 E2 M2 true w HO
    · rw [show cmpZ (sg true * A) (sg true * T) = 1 by rw [sg_t]; unfold cmpZ; repeat (first | omega | split)]; exact rcmp_23t m x a b E1 M1 E2 M2 true w HO
  · exact rcmp_24 m x a b E1 M1 E2 M2 n1 n2 w HO
  · obtain ⟨c1, d1, u1, v1⟩ := m1 (by decide)
    obtain ⟨c2, d2, u2, v2⟩ := m2 (by decide)
    rw [show cmpR m x a b 3 1 = cmpZ (rankI (m + x) a) (rankI (m + x) b) by simp [cmpR], show cmpOk 3 1 = true from rfl, c1, c2]
    clear c1 c2 d1 d2 u1 u2
    clear v1
    clear v2
    rw [show magI m x 3 E1 M1 = (p2 x - 1) * p2 m by simp [magI]]
    rw [show magI m x 1 E2 M2 = 0 by simp [magI]]
    generalize (p2 x - 1) * p2 m = T at *
    cases n1 <;> cases n2
    · rw [show cmpZ (sg false * T) (sg false * 0) = 1 by rw [sg_f]; unfold cmpZ; repeat (first | omega | split)]; exact rcmp_31f m x a b E1 M1 E2 M2 false w HO
    · rw [show cmpZ (sg false * T) (sg true * 0) = 1 by rw [sg_f, sg_t]; unfold cmpZ; repeat (first | omega | split)]; exact rcmp_31f m x a b E1 M1 E2 M2 true w HO
    · rw [show cmpZ (sg true * T) (sg false * 0) = (-1) by rw [sg_f, sg_t]; unfold cmpZ; repeat (first | omega | split)]; exact rcmp_31t m x a b E1 M1 E2 M2 false w HO
    · rw [show cmpZ (sg true * T) (sg true * 0) = (-1) by rw [sg_t]; unfold cmpZ; repeat (first | omega | split)]; exact rcmp_31t m x a b E1 M1 E2 M2 true w HO
  · obtain ⟨c1, d1, u1, v1⟩ := m1 (by decide)
    obtain ⟨c2, d2, u2, v2⟩ := m2 (by decide)
    rw [show cmpR m x a b 3 2 = cmpZ (rankI (m + x) a) (rankI (m + x) b) by simp [cmpR], show cmpOk 3 2 = true from rfl, c1, c2]
    clear c1 c2 d1 d2 u1 u2
    clear v1
    have v2 := v2 rfl
    rw [show magI m x 3 E1 M1 = (p2 x - 1) * p2 m by simp [magI]]
    rw [show magI m x 2 E2 M2 = (E2 - least m x) * p2 m + M2 by simp [magI]] at v2 ⊢
    generalize (p2 x - 1) * p2 m = T at *
    generalize (E2 - least m x) * p2 m + M2 = B at *
    cases n1 <;> cases n2
    · rw [show cmpZ (sg false * T) (sg false * B) = 1 by rw [sg_f]; unfold cmpZ; repeat (first | omega | split)]; exact rcmp_32f m x a b E1 M1 E2 M2 false w HO
    · rw [show cmpZ (sg false * T) (sg true * B) = 1 by rw [sg_f, sg_t]; unfold cmpZ; repeat (first | omega | split)]; exact rcmp_32f m x a b E1 M1 E2 M2 true w HO
    · rw [show cmpZ (sg true * T) (sg false * B) = (-1) by rw [sg_f, sg_t]; unfold cmpZ; repeat (first | omega | split)]; exact rcmp_32t m x a b E1 M1 E2 M2 false w HO
    · rw [show cmpZ (sg true * T) (sg true * B) = (-1) by rw [sg_t]; unfold cmpZ; repeat (first | omega | split)]; exact rcmp_32t m x a b E1 M1 E2 M2 true w HO
  · obtain ⟨c1, d1, u1, v1⟩ := m1 (by decide)
    obtain ⟨c2, d2, u2, v2⟩ := m2 (by decide)
    rw [show cmpR m x a b 3 3 = cmpZ (rankI (m + x) a) (rankI (m + x) b) by simp [cmpR], show cmpOk 3 3 = true from rfl, c1, c2]
    clear c1 c2 d1 d2 u1 u2
    clear v1
    clear v2
    rw [show magI m x 3 E1 M1 = (p2 x - 1) * p2 m by simp [magI]]
    rw [show magI m x 3 E2 M2 = (p2 x - 1) * p2 m by simp [magI]]
    generalize (p2 x - 1) * p2 m = T at *
    cases n1 <;> cases n2
    · rw [show cmpZ (sg false * T) (sg false * T) = 0 by rw [sg_f]; unfold cmpZ; repeat (first | omega | split)]; exact rcmp_33ff m x a b E1 M1 E2 M2  w HO
    · rw [show cmpZ (sg false * T) (sg true * T) = 1 by rw [sg_f, sg_t]; unfold cmpZ; repeat (first | omega | split)]; exact rcmp_33ft m x a b E1 M1 E2 M2  w HO
    · rw [show cmpZ (sg true * T) (sg false * T) = (-1) by rw [sg_f, sg_t]; unfold cmpZ; repeat (first | omega | split)]; exact rcmp_33tf m x a b E1 M1 E2 M2  w HO
    · rw [show cmpZ (sg true * T) (sg true * T) = 0 by rw [sg_t]; unfold cmpZ; repeat (first | omega | split)]; exact rcmp_33tt m x a b E1 M1 E2 M2  w HO
  · exact rcmp_34 m x a b E1 M1 E2 M2 n1 n2 w HO
  · exact rcmp_41 m x a b E1 M1 E2 M2 n1 n2 w HO
  · exact rcmp_42 m x a b E1 M1 E2 M2 n1 n2 w HO
  · exact rcmp_43 m x a b E1 M1 E2 M2 n1 n2 w HO
  · exact rcmp_44 m x a b E1 M1 E2 M2 n1 n2 w HO
end Go.Proofs.YtfjpiahgnojlhaaGreatDoor
namespace Go.Proofs.YtfjpiahgnojlhaaGreatDoor
open Go.RowKit
set_option maxRecDepth 100000
set_option maxHeartbeats 400000
set_option linter.unusedVariables false

abbrev ROpen2 (m x : Nat) (a b K1 : Int) (n1 : Bool) (E1 M1 K2 : Int) (n2 : Bool) (E2 M2 : Int) : Prop := Hid (∀ w, Calls Tryz.prog 24 #[.agg #[.int .i64 (m : Int), .int .i64 (x : Int)], .int .u64 a, .int .u64 b] w fun r w' => r = .returned (.tuple #[partsV K1 n1 E1 M1, partsV K2 n2 E2 M2, .int .i64 0]) ∧ Below w.heap.size w w')
abbrev BothErr (F : Nat) (m x a b : Int) : Prop := Hid (∀ w, Calls Tryz.prog F #[.agg #[.int .i64 m, .int .i64 x], .int .u64 a, .int .u64 b] w fun r w' => r = .returned (.tuple #[partsV 0 false 0 0, partsV 0 false 0 0, .int .i64 1]) ∧ Below w.heap.size w w')
abbrev ROpenC1 (m x : Nat) (a K : Int) (n : Bool) (E M : Int) : Prop := Hid (∀ w, Calls Tryz.prog 29 #[.agg #[.int .i64 (m : Int), .int .i64 (x : Int)], .int .u64 a] w fun r w' => r = .returned (.tuple #[partsV K n E M, .int .i64 0]) ∧ Below w.heap.size w w')
abbrev OpenErr (F : Nat) (m x a : Int) : Prop := Hid (∀ w, Calls Tryz.prog F #[.agg #[.int .i64 m, .int .i64 x], .int .u64 a] w fun r w' => r = .returned (.tuple #[partsV 0 false 0 0, .int .i64 1]) ∧ Below w.heap.size w w')
theorem ropen_one (m x : Nat) (a : Int) (hok : okF m x) (a0 : 0 ≤ a) (a1 : a ≤ 18446744073709551615) (ha : bl a ≤ 1 + x + m) : ROpenC1 m x a (kindI m x a) (negI m x a) (expI m x a) (manI m x a) := hidden fun w => ropen_any m x a w hok a0 a1 ha
theorem ropen_one_big (m x : Nat) (a : Int) (hok : okF m x) (a0 : 0 ≤ a) (a1 : a ≤ 18446744073709551615) (ha : 1 + x + m < bl a) : OpenErr 29 m x a := hidden fun w => ropen_big m x a _ _ w hok a0 a1 rfl rfl (top_big m x a a0 ha)
/-- one pattern -/
theorem open_one (m x a : Int) (a0 : 0 ≤ a) (a1 : a ≤ 18446744073709551615) :
    (∃ (m' x' : Nat) (K E M : Int) (n : Bool), m = m' ∧ x = x' ∧ okF m' x' ∧ bl a ≤ 1 + x' + m' ∧ PatK m' x' a K n E M ∧ Open1C m' x' a K n E M ∧ ROpenC1 m' x' a K n E M) ∨ (OpenErr 40 m x a ∧ OpenErr 29 m x a) := by
  by_cases hok : okF m x
  · obtain ⟨m, rfl⟩ := Int.eq_ofNat_of_zero_le (show 0 ≤ m by have := hok.1; omega)
    obtain ⟨x, rfl⟩ := Int.eq_ofNat_of_zero_le (show 0 ≤ x by have := hok.2.2.1; omega)
    by_cases ha : bl a ≤ 1 + x + m
    · exact .inl ⟨m, x, _, _, _, _, rfl, rfl, hok, ha, patK m x a hok a0 ha, popen1 m x a hok a0 a1 ha, ropen_one m x a hok a0 a1 ha⟩
    · exact .inr ⟨hidden fun w => popen_big m x a w hok a0 a1 (by omega), ropen_one_big m x a hok a0 a1 (by omega)⟩
  · exact .inr ⟨hidden fun w => popen_no m x a w hok, hidden fun w => ropen_no m x a w hok⟩
/-- two patterns -/
theorem open_both (m x a b : Int) (a0 : 0 ≤ a) (a1 : a ≤ 18446744073709551615) (b0 : 0 ≤ b) (b1 : b ≤ 18446744073709551615) :
    (∃ (m' x' : Nat) (K1 E1 M1 K2 E2 M2 : Int) (n1 n2 : Bool), m = m' ∧ x = x' ∧ okF m' x' ∧ bl a ≤ 1 + x' + m' ∧ bl b ≤ 1 + x' + m' ∧ PatK m' x' a K1 n1 E1 M1 ∧ PatK m' x' b K2 n2 E2 M2 ∧ OpenC m' x' a b K1 n1 E1 M1 K2 n2 E2 M2 ∧ ROpen2 m' x' a b K1 n1 E1 M1 K2 n2 E2 M2) ∨
    (BothErr 67 m x a b ∧ BothErr 24 m x a b) := by
  by_cases hok : okF m x
  · obtain ⟨m, rfl⟩ := Int.eq_ofNat_of_zero_le (show 0 ≤ m by have := hok.1; omega)
    obtain ⟨x, rfl⟩ := Int.eq_ofNat_of_zero_le (show 0 ≤ x by have := hok.2.2.1; omega)
    by_cases ha : bl a ≤ 1 + x + m
    · by_cases hb : bl b ≤ 1 + x + m
      · exact .inl ⟨m, x, _, _, _, _, _, _, _, _, rfl, rfl, hok, ha, hb, patK m x a hok a0 ha, patK m x b hok b0 hb, popen2 m x a b hok a0 a1 ha b0 b1 hb, hidden fun w => open2_any m x a b _ _ _ _ _ _ _ _ w (ropen_one m x a hok a0 a1 ha) (ropen_one m x b hok b0 b1 hb)⟩
      · exact .inr ⟨hidden fun w => pboth2_no2 m x a b _ _ _ _ w (popen1 m x a hok a0 a1 ha) (hidden fun w => popen_big m x b w hok b0 b1 (by omega)), hidden fun w => open2_no m x a b _ _ _ 0 0 0 0 1 _ false w (.inr ⟨rfl, rfl⟩) (ropen_one m x a hok a0 a1 ha) (ropen_one_big m x b hok b0 b1 (by omega))⟩
    · refine .inr ⟨hidden fun w => pboth2_no1 m x a b w (hidden fun w => popen_big m x a w hok a0 a1 (by omega)), hidden fun w => ?_⟩
      by_cases hb : bl b ≤ 1 + x + m
      · exact open2_no m x a b 0 0 0 _ _ _ 1 0 false _ w (.inl ⟨rfl, .inl rfl⟩) (ropen_one_big m x a hok a0 a1 (by omega)) (ropen_one m x b hok b0 b1 hb)
      · exact open2_no m x a b 0 0 0 0 0 0 1 1 false false w (.inl ⟨rfl, .inr rfl⟩) (ropen_one_big m x a hok a0 a1 (by omega)) (ropen_one_big m x b hok b0 b1 (by omega))
  · exact .inr ⟨hidden fun w => pboth2_no1 m x a b w (hidden fun w => popen_no m x a w hok), hidden fun w => open2_no m x a b 0 0 0 0 0 0 1 1 false false w (.inl ⟨rfl, .inr rfl⟩) (hidden fun w => ropen_no m x a w hok) (hidden fun w => ropen_no m x b w hok)⟩
end Go.Proofs.YtfjpiahgnojlhaaGreatDoor
namespace Go.Proofs.YtfjpiahgnojlhaaGreatDoor
open Go.RowKit
set_option maxRecDepth 100000
set_option maxHeartbeats 400000
set_option linter.unusedVariables false

theorem rkind (m x a K E M g : Int) (n : Bool) (w : World)
    (HO : Hid (∀ w, Calls Tryz.prog 29 #[.agg #[.int .i64 m, .int .i64 x], .int .u64 a] w fun r w' => r = .returned (.tuple #[partsV K n E M, .int .i64 g]) ∧ Below w.heap.size w w'))
    : Calls Tryz.prog 11 #[.agg #[.int .i64 m, .int .i64 x], .int .u64 a] w fun r w' => r = .returned (.int .i64 K) ∧ Below w.heap.size w w' := by
  go_enter Tryz.func11, Tryz.ntmps11
  go_wp2_with fail
  refine (HO.out _).mono ?_
  rintro r w1 ⟨rfl, hb1⟩
  have HB1 := hidden (box_below _ hb1)
  clear hb1
  go_wp2
  go_ret
  exact ⟨rfl, HB1.out.alloc HB1.out.size _⟩
theorem rbare_f (m x a K E M g : Int) (w : World)
    (HO : Hid (∀ w, Calls Tryz.prog 29 #[.agg #[.int .i64 m, .int .i64 x], .int .u64 a] w fun r w' => r = .returned (.tuple #[partsV K false E M, .int .i64 g]) ∧ Below w.heap.size w w'))
    : Calls Tryz.prog 13 #[.agg #[.int .i64 m, .int .i64 x], .int .u64 a] w fun r w' => r = .returned (.int .u64 a) ∧ Below w.heap.size w w' := by
  go_enter Tryz.func13, Tryz.ntmps13
  go_wp2_with fail
  refine (HO.out _).mono ?_
  rintro r w1 ⟨rfl, hb1⟩
  have HB1 := hidden (box_below _ hb1)
  clear hb1
  go_wp2
  go_ret
  exact ⟨rfl, HB1.out.alloc HB1.out.size _⟩
theorem rbare_t (m x a K E M g R : Int) (w : World)
    (HO : Hid (∀ w, Calls Tryz.prog 29 #[.agg #[.int .i64 m, .int .i64 x], .int .u64 a] w fun r w' => r = .returned (.tuple #[partsV K true E M, .int .i64 g]) ∧ Below w.heap.size w w'))
    (HT : Hid (∀ w, Calls Tryz.prog 31 #[.agg #[.int .i64 m, .int .i64 x], .int .u64 a] w fun r w' => r = .returned (.int .u64 R) ∧ Below w.heap.size w w'))
    : Calls Tryz.prog 13 #[.agg #[.int .i64 m, .int .i64 x], .int .u64 a] w fun r w' => r = .returned (.int .u64 R) ∧ Below w.heap.size w w' := by
  go_enter Tryz.func13, Tryz.ntmps13
  go_wp2_with fail
  refine (HO.out _).mono ?_
  rintro r w1 ⟨rfl, hb1⟩
  have d0 : w1.cell? ⟨w.heap.size, 0, none⟩ = some (.int .i64 m) := cellLater hb1 (by simp)
  have d1 : w1.cell? ⟨w.heap.size, 1, none⟩ = some (.int .i64 x) := cellLater hb1 (by simp)
  have hZ : Below w1.heap.size w1 (w1.alloc (.cells #[.int .i64 K, .bool true, .int .i64 E, .int .u64 M] 53)) := (Below.refl _ _).alloc (Nat.le_refl _) _
  have c0 := cellLater hZ d0
  have c1 := cellLater hZ d1
  have p1 : (w1.alloc (.cells #[.int .i64 K, .bool true, .int .i64 E, .int .u64 M] 53)).cell? ⟨w1.heap.size, 1, none⟩ = some (.bool true) := by simp
  have HB := hidden ((box_below _ hb1).trans (hZ.mono (box_below _ hb1).size))
  clear hb1 hZ d0 d1
  go_upto_region 2 with fail
  generalize w1.alloc (.cells #[.int .i64 K, .bool true, .int .i64 E, .int .u64 M] 53) = w5 at *
  go_wp2_with (go_at_call 31; refine (HT.out _).mono ?_; rintro r w9 ⟨rfl, hb⟩; have HB := hidden (HB.out.trans (hb.mono HB.out.size)); clear hb)
  go_ret
  exact ⟨rfl, HB.out⟩
theorem rholds_3 (wide : Bool) (m x a b t c g : Int) (ok : Bool) (w : World)
    (HF : Hid (∀ w, Calls Tryz.prog 9 #[.bool wide] w fun r w' => r = .returned (.agg #[.int .i64 m, .int .i64 x]) ∧ Below w.heap.size w w'))
    (HC : Hid (∀ w, Calls Tryz.prog 10 #[.agg #[.int .i64 m, .int .i64 x], .int .u64 a, .int .u64 b] w fun r w' => r = .returned (.tuple #[.int .i64 c, .bool ok, .int .i64 g]) ∧ Below w.heap.size w w'))
    : Calls Tryz.prog 5 #[.bool wide, .int .i64 3, .int .u64 a, .int .u64 b, .int .u64 t] w fun r w' => r = .returned (.bool (ordB 3 c ok)) ∧ Below w.heap.size w w' := by
  cases ok
  · go_enter Tryz.func5, Tryz.ntmps5
    go_wp2_with fail
    refine (HF.out _).mono ?_
    rintro r w1 ⟨rfl, hb1⟩
    have c0 : (w1.alloc (.cells #[.int .i64 m, .int .i64 x] 31)).cell? ⟨w1.heap.size, 0, none⟩ = some (.int .i64 m) := by simp
    have c1 : (w1.alloc (.cells #[.int .i64 m, .int .i64 x] 31)).cell? ⟨w1.heap.size, 1, none⟩ = some (.int .i64 x) := by simp
    have HB := hidden (hb1.alloc hb1.size (.cells #[.int .i64 m, .int .i64 x] 31))
    clear hb1
    go_upto_region 2 with fail
    generalize w1.alloc (.cells #[.int .i64 m, .int .i64 x] 31) = w5 at *
    go_wp2_with (go_at_call 10; refine (HC.out _).mono ?_; rintro r w9 ⟨rfl, hb⟩; have c0 := cellLater hb c0; have c1 := cellLater hb c1; have HB := hidden (HB.out.trans (hb.mono HB.out.size)); clear hb)
    go_ret
    exact ⟨ret_bool (by simp [ordB]), HB.out⟩
  · go_enter Tryz.func5, Tryz.ntmps5
    go_wp2_with fail
    refine (HF.out _).mono ?_
    rintro r w1 ⟨rfl, hb1⟩
    have c0 : (w1.alloc (.cells #[.int .i64 m, .int .i64 x] 31)).cell? ⟨w1.heap.size, 0, none⟩ = some (.int .i64 m) := by simp
    have c1 : (w1.alloc (.cells #[.int .i64 m, .int .i64 x] 31)).cell? ⟨w1.heap.size, 1, none⟩ = some (.int .i64 x) := by simp
    have HB := hidden (hb1.alloc hb1.size (.cells #[.int .i64 m, .int .i64 x] 31))
    clear hb1
    go_upto_region 2 with fail
    generalize w1.alloc (.cells #[.int .i64 m, .int .i64 x] 31) = w5 at *
    go_wp2_with (go_at_call 10; refine (HC.out _).mono ?_; rintro r w9 ⟨rfl, hb⟩; have c0 := cellLater hb c0; have c1 := cellLater hb c1; have HB := hidden (HB.out.trans (hb.mono HB.out.size)); clear hb)
    go_ret
    exact ⟨ret_bool (by simp [ordB]), HB.out⟩
theorem rholds_4 (wide : Bool) (m x a b t c g : Int) (ok : Bool) (w : World)
    (HF : Hid (∀ w, Calls Tryz.prog 9 #[.bool wide] w fun r w' => r = .returned (.agg #[.int .i64 m, .int .i64 x]) ∧ Below w.heap.size w w'))
    (HC : Hid (∀ w, Calls Tryz.prog 10 #[.agg #[.int .i64 m, .int .i64 x], .int .u64 a, .int .u64 b] w fun r w' => r = .returned (.tuple #[.int .i64 c, .bool ok, .int .i64 g]) ∧ Below w.heap.size w w'))
    : Calls Tryz.prog 5 #[.bool wide, .int .i64 4, .int .u64 a, .int .u64 b, .int .u64 t] w fun r w' => r = .returned (.bool (ordB 4 c ok)) ∧ Below w.heap.size w w' := by
  cases ok
  · go_enter Tryz.func5, Tryz.ntmps5
    go_wp2_with fail
    refine (HF.out _).mono ?_
    rintro r w1 ⟨rfl, hb1⟩
    have c0 : (w1.alloc (.cells #[.int .i64 m, .int .i64 x] 31)).cell? ⟨w1.heap.size, 0, none⟩ = some (.int .i64 m) := by simp
    have c1 : (w1.alloc (.cells #[.int .i64 m, .int .i64 x] 31)).cell? ⟨w1.heap.size, 1, none⟩ = some (.int .i64 x) := by simp
    have HB := hidden (hb1.alloc hb1.size (.cells #[.int .i64 m, .int .i64 x] 31))
    clear hb1
    go_upto_region 2 with fail
    generalize w1.alloc (.cells #[.int .i64 m, .int .i64 x] 31) = w5 at *
    go_wp2_with (go_at_call 10; refine (HC.out _).mono ?_; rintro r w9 ⟨rfl, hb⟩; have c0 := cellLater hb c0; have c1 := cellLater hb c1; have HB := hidden (HB.out.trans (hb.mono HB.out.size)); clear hb)
    go_ret
    exact ⟨ret_bool (by simp [ordB]), HB.out⟩
  · go_enter Tryz.func5, Tryz.ntmps5
    go_wp2_with fail
    refine (HF.out _).mono ?_
    rintro r w1 ⟨rfl, hb1⟩
    have c0 : (w1.alloc (.cells #[.int .i64 m, .int .i64 x] 31)).cell? ⟨w1.heap.size, 0, none⟩ = some (.int .i64 m) := by simp
    have c1 : (w1.alloc (.cells #[.int .i64 m, .int .i64 x] 31)).cell? ⟨w1.heap.size, 1, none⟩ = some (.int .i64 x) := by simp
    have HB := hidden (hb1.alloc hb1.size (.cells #[.int .i64 m, .int .i64 x] 31))
    clear hb1
    go_upto_region 2 with fail
    generalize w1.alloc (.cells #[.int .i64 m, .int .i64 x] 31) = w5 at *
    go_wp2_with (go_at_call 10; refine (HC.out _).mono ?_; rintro r w9 ⟨rfl, hb⟩; have c0 := cellLater hb c0; have c1 := cellLater hb c1; have HB := hidden (HB.out.trans (hb.mono HB.out.size)); clear hb)
    go_ret
    exact ⟨ret_bool (by simp [ordB]), HB.out⟩
theorem rholds_5 (wide : Bool) (m x a b t c g : Int) (ok : Bool) (w : World)
    (HF : Hid (∀ w, Calls Tryz.prog 9 #[.bool wide] w fun r w' => r = .returned (.agg #[.int .i64 m, .int .i64 x]) ∧ Below w.heap.size w w'))
    (HC : Hid (∀ w, Calls Tryz.prog 10 #[.agg #[.int .i64 m, .int .i64 x], .int .u64 a, .int .u64 b] w fun r w' => r = .returned (.tuple #[.int .i64 c, .bool ok, .int .i64 g]) ∧ Below w.heap.size w w'))
    : Calls Tryz.prog 5 #[.bool wide, .int .i64 5, .int .u64 a, .int .u64 b, .int .u64 t] w fun r w' => r = .returned (.bool (ordB 5 c ok)) ∧ Below w.heap.size w w' := by
  cases ok
  · go_enter Tryz.func5, Tryz.ntmps5
    go_wp2_with fail
    refine (HF.out _).mono ?_
    rintro r w1 ⟨rfl, hb1⟩
    have c0 : (w1.alloc (.cells #[.int .i64 m, .int .i64 x] 31)).cell? ⟨w1.heap.size, 0, none⟩ = some (.int .i64 m) := by simp
    have c1 : (w1.alloc (.cells #[.int .i64 m, .int .i64 x] 31)).cell? ⟨w1.heap.size, 1, none⟩ = some (.int .i64 x) := by simp
    have HB := hidden (hb1.alloc hb1.size (.cells #[.int .i64 m, .int .i64 x] 31))
    clear hb1
    go_upto_region 2 with fail
    generalize w1.alloc (.cells #[.int .i64 m, .int .i64 x] 31) = w5 at *
    go_wp2_with (go_at_call 10; refine (HC.out _).mono ?_; rintro r w9 ⟨rfl, hb⟩; have c0 := cellLater hb c0; have c1 := cellLater hb c1; have HB := hidden (HB.out.trans (hb.mono HB.out.size)); clear hb)
    go_ret
    exact ⟨ret_bool (by simp [ordB]), HB.out⟩
  · go_enter Tryz.func5, Tryz.ntmps5
    go_wp2_with fail
    refine (HF.out _).mono ?_
    rintro r w1 ⟨rfl, hb1⟩
    have c0 : (w1.alloc (.cells #[.int .i64 m, .int .i64 x] 31)).cell? ⟨w1.heap.size, 0, none⟩ = some (.int .i64 m) := by simp
    have c1 : (w1.alloc (.cells #[.int .i64 m, .int .i64 x] 31)).cell? ⟨w1.heap.size, 1, none⟩ = some (.int .i64 x) := by simp
    have HB := hidden (hb1.alloc hb1.size (.cells #[.int .i64 m, .int .i64 x] 31))
    clear hb1
    go_upto_region 2 with fail
    generalize w1.alloc (.cells #[.int .i64 m, .int .i64 x] 31) = w5 at *
    go_wp2_with (go_at_call 10; refine (HC.out _).mono ?_; rintro r w9 ⟨rfl, hb⟩; have c0 := cellLater hb c0; have c1 := cellLater hb c1; have HB := hidden (HB.out.trans (hb.mono HB.out.size)); clear hb)
    go_ret
    exact ⟨ret_bool (by simp [ordB]), HB.out⟩
theorem rholds_6 (wide : Bool) (m x a b t c g : Int) (ok : Bool) (w : World)
    (HF : Hid (∀ w, Calls Tryz.prog 9 #[.bool wide] w fun r w' => r = .returned (.agg #[.int .i64 m, .int .i64 x]) ∧ Below w.heap.size w w'))
    (HC : Hid (∀ w, Calls Tryz.prog 10 #[.agg #[.int .i64 m, .int .i64 x], .int .u64 a, .int .u64 b] w fun r w' => r = .returned (.tuple #[.int .i64 c, .bool ok, .int .i64 g]) ∧ Below w.heap.size w w'))
    : Calls Tryz.prog 5 #[.bool wide, .int .i64 6, .int .u64 a, .int .u64 b, .int .u64 t] w fun r w' => r = .returned (.bool (ordB 6 c ok)) ∧ Below w.heap.size w w' := by
  cases ok
  · go_enter Tryz.func5, Tryz.ntmps5
    go_wp2_with fail
    refine (HF.out _).mono ?_
    rintro r w1 ⟨rfl, hb1⟩
    have c0 : (w1.alloc (.cells #[.int .i64 m, .int .i64 x] 31)).cell? ⟨w1.heap.size, 0, none⟩ = some (.int .i64 m) := by simp
    have c1 : (w1.alloc (.cells #[.int .i64 m, .int .i64 x] 31)).cell? ⟨w1.heap.size, 1, none⟩ = some (.int .i64 x) := by simp
    have HB := hidden (hb1.alloc hb1.size (.cells #[.int .i64 m, .int .i64 x] 31))
    clear hb1
    go_upto_region 2 with fail
    generalize w1.alloc (.cells #[.int .i64 m, .int .i64 x] 31) = w5 at *
    go_wp2_with (go_at_call 10; refine (HC.out _).mono ?_; rintro r w9 ⟨rfl, hb⟩; have c0 := cellLater hb c0; have c1 := cellLater hb c1; have HB := hidden (HB.out.trans (hb.mono HB.out.size)); clear hb)
    go_ret
    exact ⟨ret_bool (by simp [ordB]), HB.out⟩
  · go_enter Tryz.func5, Tryz.ntmps5
    go_wp2_with fail
    refine (HF.out _).mono ?_
    rintro r w1 ⟨rfl, hb1⟩
    have c0 : (w1.alloc (.cells #[.int .i64 m, .int .i64 x] 31)).cell? ⟨w1.heap.size, 0, none⟩ = some (.int .i64 m) := by simp
    have c1 : (w1.alloc (.cells #[.int .i64 m, .int .i64 x] 31)).cell? ⟨w1.heap.size, 1, none⟩ = some (.int .i64 x) := by simp
    have HB := hidden (hb1.alloc hb1.size (.cells #[.int .i64 m, .int .i64 x] 31))
    clear hb1
    go_upto_region 2 with fail
    generalize w1.alloc (.cells #[.int .i64 m, .int .i64 x] 31) = w5 at *
    go_wp2_with (go_at_call 10; refine (HC.out _).mono ?_; rintro r w9 ⟨rfl, hb⟩; have c0 := cellLater hb c0; have c1 := cellLater hb c1; have HB := hidden (HB.out.trans (hb.mono HB.out.size)); clear hb)
    go_ret
    exact ⟨ret_bool (by simp [ordB]), HB.out⟩
theorem rholds_no (wide : Bool) (m x cond a b t c g : Int) (ok : Bool) (w : World) (h : cond < 1 ∨ 8 < cond)
    (HF : Hid (∀ w, Calls Tryz.prog 9 #[.bool wide] w fun r w' => r = .returned (.agg #[.int .i64 m, .int .i64 x]) ∧ Below w.heap.size w w'))
    (HC : Hid (∀ w, Calls Tryz.prog 10 #[.agg #[.int .i64 m, .int .i64 x], .int .u64 a, .int .u64 b] w fun r w' => r = .returned (.tuple #[.int .i64 c, .bool ok, .int .i64 g]) ∧ Below w.heap.size w w'))
    : Calls Tryz.prog 5 #[.bool wide, .int .i64 cond, .int .u64 a, .int .u64 b, .int .u64 t] w fun r w' => r = .returned (.bool false) ∧ Below w.heap.size w w' := by
  have h1 : (cond == 1) = false := by simp; omega
  have h2 : (cond == 2) = false := by simp; omega
  have h3 : (cond == 3) = false := by simp; omega
  have h4 : (cond == 4) = false := by simp; omega
  have h5 : (cond == 5) = false := by simp; omega
  have h6 : (cond == 6) = false := by simp; omega
  have h7 : (cond == 7) = false := by simp; omega
  have h8 : (cond == 8) = false := by simp; omega
  clear h
  go_enter Tryz.func5, Tryz.ntmps5
  go_wp2_with fail
  refine (HF.out _).mono ?_
  rintro r w1 ⟨rfl, hb1⟩
  have c0 : (w1.alloc (.cells #[.int .i64 m, .int .i64 x] 31)).cell? ⟨w1.heap.size, 0, none⟩ = some (.int .i64 m) := by simp
  have c1 : (w1.alloc (.cells #[.int .i64 m, .int .i64 x] 31)).cell? ⟨w1.heap.size, 1, none⟩ = some (.int .i64 x) := by simp
  have HB := hidden (hb1.alloc hb1.size (.cells #[.int .i64 m, .int .i64 x] 31))
  clear hb1
  go_upto_region 2 with fail
  generalize w1.alloc (.cells #[.int .i64 m, .int .i64 x] 31) = w5 at *
  go_wp2_with (go_at_call 10; refine (HC.out _).mono ?_; rintro r w9 ⟨rfl, hb⟩; have c0 := cellLater hb c0; have c1 := cellLater hb c1; have HB := hidden (HB.out.trans (hb.mono HB.out.size)); clear hb)
  go_ret
  exact ⟨rfl, HB.out⟩
theorem rholds_7 (wide : Bool) (m x a b t c g K : Int) (ok : Bool) (w : World)
    (HF : Hid (∀ w, Calls Tryz.prog 9 #[.bool wide] w fun r w' => r = .returned (.agg #[.int .i64 m, .int .i64 x]) ∧ Below w.heap.size w w'))
    (HC : Hid (∀ w, Calls Tryz.prog 10 #[.agg #[.int .i64 m, .int .i64 x], .int .u64 a, .int .u64 b] w fun r w' => r = .returned (.tuple #[.int .i64 c, .bool ok, .int .i64 g]) ∧ Below w.heap.size w w'))
    (HK : Hid (∀ w, Calls Tryz.prog 11 #[.agg #[.int .i64 m, .int .i64 x], .int .u64 a] w fun r w' => r = .returned (.int .i64 K) ∧ Below w.heap.size w w'))
    : Calls Tryz.prog 5 #[.bool wide, .int .i64 7, .int .u64 a, .int .u64 b, .int .u64 t] w fun r w' => r = .returned (.bool (K == 4)) ∧ Below w.heap.size w w' := by
  go_enter Tryz.func5, Tryz.ntmps5
  go_wp2_with fail
  refine (HF.out _).mono ?_
  rintro r w1 ⟨rfl, hb1⟩
  have c0 : (w1.alloc (.cells #[.int .i64 m, .int .i64 x] 31)).cell? ⟨w1.heap.size, 0, none⟩ = some (.int .i64 m) := by simp
  have c1 : (w1.alloc (.cells #[.int .i64 m, .int .i64 x] 31)).cell? ⟨w1.heap.size, 1, none⟩ = some (.int .i64 x) := by simp
  have HB := hidden (hb1.alloc hb1.size (.cells #[.int .i64 m, .int .i64 x] 31))
  clear hb1
  go_upto_region 2 with fail
  generalize w1.alloc (.cells #[.int .i64 m, .int .i64 x] 31) = w5 at *
  go_wp2_with (first | (go_at_call 10; refine (HC.out _).mono ?_; rintro r w9 ⟨rfl, hb⟩; have c0 := cellLater hb c0; have c1 := cellLater hb c1; have HB := hidden (HB.out.trans (hb.mono HB.out.size)); clear hb) | (go_at_call 11; refine (HK.out _).mono ?_; rintro r w9 ⟨rfl, hb⟩; have c0 := cellLater hb c0; have c1 := cellLater hb c1; have HB := hidden (HB.out.trans (hb.mono HB.out.size)); clear hb))
  go_ret
  exact ⟨rfl, HB.out⟩
theorem rholds_8 (wide : Bool) (m x a b t c g K : Int) (ok : Bool) (w : World)
    (HF : Hid (∀ w, Calls Tryz.prog 9 #[.bool wide] w fun r w' => r = .returned (.agg #[.int .i64 m, .int .i64 x]) ∧ Below w.heap.size w w'))
    (HC : Hid (∀ w, Calls Tryz.prog 10 #[.agg #[.int .i64 m, .int .i64 x], .int .u64 a, .int .u64 b] w fun r w' => r = .returned (.tuple #[.int .i64 c, .bool ok, .int .i64 g]) ∧ Below w.heap.size w w'))
    (HK : Hid (∀ w, Calls Tryz.prog 11 #[.agg #[.int .i64 m, .int .i64 x], .int .u64 a] w fun r w' => r = .returned (.int .i64 K) ∧ Below w.heap.size w w'))
    : Calls Tryz.prog 5 #[.bool wide, .int .i64 8, .int .u64 a, .int .u64 b, .int .u64 t] w fun r w' => r = .returned (.bool (K == 3)) ∧ Below w.heap.size w w' := by
  go_enter Tryz.func5, Tryz.ntmps5
  go_wp2_with fail
  refine (HF.out _).mono ?_
  rintro r w1 ⟨rfl, hb1⟩
  have c0 : (w1.alloc (.cells #[.int .i64 m, .int .i64 x] 31)).cell? ⟨w1.heap.size, 0, none⟩ = some (.int .i64 m) := by simp
  have c1 : (w1.alloc (.cells #[.int .i64 m, .int .i64 x] 31)).cell? ⟨w1.heap.size, 1, none⟩ = some (.int .i64 x) := by simp
  have HB := hidden (hb1.alloc hb1.size (.cells #[.int .i64 m, .int .i64 x] 31))
  clear hb1
  go_upto_region 2 with fail
  generalize w1.alloc (.cells #[.int .i64 m, .int .i64 x] 31) = w5 at *
  go_wp2_with (first | (go_at_call 10; refine (HC.out _).mono ?_; rintro r w9 ⟨rfl, hb⟩; have c0 := cellLater hb c0; have c1 := cellLater hb c1; have HB := hidden (HB.out.trans (hb.mono HB.out.size)); clear hb) | (go_at_call 11; refine (HK.out _).mono ?_; rintro r w9 ⟨rfl, hb⟩; have c0 := cellLater hb c0; have c1 := cellLater hb c1; have HB := hidden (HB.out.trans (hb.mono HB.out.size)); clear hb))
  go_ret
  exact ⟨rfl, HB.out⟩
theorem rnear_nan (wide : Bool) (m x a b t c g : Int) (w : World)
    (HF : Hid (∀ w, Calls Tryz.prog 9 #[.bool wide] w fun r w' => r = .returned (.agg #[.int .i64 m, .int .i64 x]) ∧ Below w.heap.size w w'))
    (HC : Hid (∀ w, Calls Tryz.prog 10 #[.agg #[.int .i64 m, .int .i64 x], .int .u64 a, .int .u64 b] w fun r w' => r = .returned (.tuple #[.int .i64 c, .bool false, .int .i64 g]) ∧ Below w.heap.size w w'))
    : Calls Tryz.prog 5 #[.bool wide, .int .i64 1, .int .u64 a, .int .u64 b, .int .u64 t] w fun r w' => r = .returned (.bool false) ∧ Below w.heap.size w w' := by
  go_enter Tryz.func5, Tryz.ntmps5
  go_wp2_with fail
  refine (HF.out _).mono ?_
  rintro r w1 ⟨rfl, hb1⟩
  have c0 : (w1.alloc (.cells #[.int .i64 m, .int .i64 x] 31)).cell? ⟨w1.heap.size, 0, none⟩ = some (.int .i64 m) := by simp
  have c1 : (w1.alloc (.cells #[.int .i64 m, .int .i64 x] 31)).cell? ⟨w1.heap.size, 1, none⟩ = some (.int .i64 x) := by simp
  have HB := hidden (hb1.alloc hb1.size (.cells #[.int .i64 m, .int .i64 x] 31))
  clear hb1
  go_upto_region 2 with fail
  generalize w1.alloc (.cells #[.int .i64 m, .int .i64 x] 31) = w5 at *
  go_wp2_with (go_at_call 10; refine (HC.out _).mono ?_; rintro r w9 ⟨rfl, hb⟩; have c0 := cellLater hb c0; have c1 := cellLater hb c1; have HB := hidden (HB.out.trans (hb.mono HB.out.size)); clear hb)
  go_ret
  exact ⟨rfl, HB.out⟩
theorem rnear_tol (wide : Bool) (m x a b t c g : Int) (w : World)
    (HF : Hid (∀ w, Calls Tryz.prog 9 #[.bool wide] w fun r w' => r = .returned (.agg #[.int .i64 m, .int .i64 x]) ∧ Below w.heap.size w w'))
    (HC : Hid (∀ w, Calls Tryz.prog 10 #[.agg #[.int .i64 m, .int .i64 x], .int .u64 a, .int .u64 b] w fun r w' => r = .returned (.tuple #[.int .i64 c, .bool true, .int .i64 g]) ∧ Below w.heap.size w w'))
    (HT : Hid (∀ w, Calls Tryz.prog 11 #[.agg #[.int .i64 m, .int .i64 x], .int .u64 t] w fun r w' => r = .returned (.int .i64 4) ∧ Below w.heap.size w w'))
    : Calls Tryz.prog 5 #[.bool wide, .int .i64 1, .int .u64 a, .int .u64 b, .int .u64 t] w fun r w' => r = .returned (.bool false) ∧ Below w.heap.size w w' := by
  go_enter Tryz.func5, Tryz.ntmps5
  go_wp2_with fail
  refine (HF.out _).mono ?_
  rintro r w1 ⟨rfl, hb1⟩
  have c0 : (w1.alloc (.cells #[.int .i64 m, .int .i64 x] 31)).cell? ⟨w1.heap.size, 0, none⟩ = some (.int .i64 m) := by simp
  have c1 : (w1.alloc (.cells #[.int .i64 m, .int .i64 x] 31)).cell? ⟨w1.heap.size, 1, none⟩ = some (.int .i64 x) := by simp
  have HB := hidden (hb1.alloc hb1.size (.cells #[.int .i64 m, .int .i64 x] 31))
  clear hb1
  go_upto_region 2 with fail
  generalize w1.alloc (.cells #[.int .i64 m, .int .i64 x] 31) = w5 at *
  go_wp2_with (first | (go_at_call 10; refine (HC.out _).mono ?_; rintro r w9 ⟨rfl, hb⟩; have c0 := cellLater hb c0; have c1 := cellLater hb c1; have HB := hidden (HB.out.trans (hb.mono HB.out.size)); clear hb) | (go_at_call 11; refine (HT.out _).mono ?_; rintro r w9 ⟨rfl, hb⟩; have c0 := cellLater hb c0; have c1 := cellLater hb c1; have HB := hidden (HB.out.trans (hb.mono HB.out.size)); clear hb))
  go_ret
  exact ⟨rfl, HB.out⟩
theorem rnear_inf (wide : Bool) (m x a b t c g Kt : Int) (w : World) (ht : (Kt == 4) = false)
    (HF : Hid (∀ w, Calls Tryz.prog 9 #[.bool wide] w fun r w' => r = .returned (.agg #[.int .i64 m, .int .i64 x]) ∧ Below w.heap.size w w'))
    (HC : Hid (∀ w, Calls Tryz.prog 10 #[.agg #[.int .i64 m, .int .i64 x], .int .u64 a, .int .u64 b] w fun r w' => r = .returned (.tuple #[.int .i64 c, .bool true, .int .i64 g]) ∧ Below w.heap.size w w'))
    (HT : Hid (∀ w, Calls Tryz.prog 11 #[.agg #[.int .i64 m, .int .i64 x], .int .u64 t] w fun r w' => r = .returned (.int .i64 Kt) ∧ Below w.heap.size w w'))
    (HA : Hid (∀ w, Calls Tryz.prog 11 #[.agg #[.int .i64 m, .int .i64 x], .int .u64 a] w fun r w' => r = .returned (.int .i64 3) ∧ Below w.heap.size w w'))
    (HX : Hid (∀ w, Calls Tryz.prog 11 #[.agg #[.int .i64 m, .int .i64 x], .int .u64 b] w fun r w' => r = .returned (.int .i64 3) ∧ Below w.heap.size w w'))
    : Calls Tryz.prog 5 #[.bool wide, .int .i64 1, .int .u64 a, .int .u64 b, .int .u64 t] w fun r w' => r = .returned (.bool (a == b)) ∧ Below w.heap.size w w' := by
  go_enter Tryz.func5, Tryz.ntmps5
  go_wp2_with fail
  refine (HF.out _).mono ?_
  rintro r w1 ⟨rfl, hb1⟩
  have c0 : (w1.alloc (.cells #[.int .i64 m, .int .i64 x] 31)).cell? ⟨w1.heap.size, 0, none⟩ = some (.int .i64 m) := by simp
  have c1 : (w1.alloc (.cells #[.int .i64 m, .int .i64 x] 31)).cell? ⟨w1.heap.size, 1, none⟩ = some (.int .i64 x) := by simp
  have HB := hidden (hb1.alloc hb1.size (.cells #[.int .i64 m, .int .i64 x] 31))
  clear hb1
  go_upto_region 2 with fail
  generalize w1.alloc (.cells #[.int .i64 m, .int .i64 x] 31) = w5 at *
  go_wp2_with (first | (go_at_call 10; refine (HC.out _).mono ?_; rintro r w9 ⟨rfl, hb⟩; have c0 := cellLater hb c0; have c1 := cellLater hb c1; have HB := hidden (HB.out.trans (hb.mono HB.out.size)); clear hb) | (go_at_call_of 11 (Value.int IntKind.u64 t); refine (HT.out _).mono ?_; rintro r w9 ⟨rfl, hb⟩; have c0 := cellLater hb c0; have c1 := cellLater hb c1; have HB := hidden (HB.out.trans (hb.mono HB.out.size)); clear hb) | (go_at_call_of 11 (Value.int IntKind.u64 a); refine (HA.out _).mono ?_; rintro r w9 ⟨rfl, hb⟩; have c0 := cellLater hb c0; have c1 := cellLater hb c1; have HB := hidden (HB.out.trans (hb.mono HB.out.size)); clear hb) | (go_at_call_of 11 (Value.int IntKind.u64 b); refine (HX.out _).mono ?_; rintro r w9 ⟨rfl, hb⟩; have c0 := cellLater hb c0; have c1 := cellLater hb c1; have HB := hidden (HB.out.trans (hb.mono HB.out.size)); clear hb))
  go_ret
  exact ⟨rfl, HB.out⟩
theorem rnear_num (wide : Bool) (m x a b t c g Ka Kb Kt D D2 t2 c2 g2 g3 : Int) (ok2 : Bool) (w : World) (ht : (Kt == 4) = false) (hk : (Ka == 3) = false ∨ ((Ka == 3) = true ∧ (Kb == 3) = false))
    (HF : Hid (∀ w, Calls Tryz.prog 9 #[.bool wide] w fun r w' => r = .returned (.agg #[.int .i64 m, .int .i64 x]) ∧ Below w.heap.size w w'))
    (HC : Hid (∀ w, Calls Tryz.prog 10 #[.agg #[.int .i64 m, .int .i64 x], .int .u64 a, .int .u64 b] w fun r w' => r = .returned (.tuple #[.int .i64 c, .bool true, .int .i64 g]) ∧ Below w.heap.size w w'))
    (HT : Hid (∀ w, Calls Tryz.prog 11 #[.agg #[.int .i64 m, .int .i64 x], .int .u64 t] w fun r w' => r = .returned (.int .i64 Kt) ∧ Below w.heap.size w w'))
    (HA : Hid (∀ w, Calls Tryz.prog 11 #[.agg #[.int .i64 m, .int .i64 x], .int .u64 a] w fun r w' => r = .returned (.int .i64 Ka) ∧ Below w.heap.size w w'))
    (HX : Hid (∀ w, Calls Tryz.prog 11 #[.agg #[.int .i64 m, .int .i64 x], .int .u64 b] w fun r w' => r = .returned (.int .i64 Kb) ∧ Below w.heap.size w w'))
    (HS : Hid (∀ w, Calls Tryz.prog 12 #[.agg #[.int .i64 m, .int .i64 x], .int .u64 a, .int .u64 b] w fun r w' => r = .returned (.tuple #[.int .u64 D, .int .i64 g2]) ∧ Below w.heap.size w w'))
    (HD : Hid (∀ w, Calls Tryz.prog 13 #[.agg #[.int .i64 m, .int .i64 x], .int .u64 D] w fun r w' => r = .returned (.int .u64 D2) ∧ Below w.heap.size w w'))
    (HE : Hid (∀ w, Calls Tryz.prog 13 #[.agg #[.int .i64 m, .int .i64 x], .int .u64 t] w fun r w' => r = .returned (.int .u64 t2) ∧ Below w.heap.size w w'))
    (HQ : Hid (∀ w, Calls Tryz.prog 10 #[.agg #[.int .i64 m, .int .i64 x], .int .u64 D2, .int .u64 t2] w fun r w' => r = .returned (.tuple #[.int .i64 c2, .bool ok2, .int .i64 g3]) ∧ Below w.heap.size w w'))
    : Calls Tryz.prog 5 #[.bool wide, .int .i64 1, .int .u64 a, .int .u64 b, .int .u64 t] w fun r w' => r = .returned (.bool (decide (c2 ≤ 0))) ∧ Below w.heap.size w w' := by
  rcases hk with hk | ⟨hk, hk2⟩
  all_goals
    go_enter Tryz.func5, Tryz.ntmps5
    go_wp2_with fail
    refine (HF.out _).mono ?_
    rintro r w1 ⟨rfl, hb1⟩
    have c0 : (w1.alloc (.cells #[.int .i64 m, .int .i64 x] 31)).cell? ⟨w1.heap.size, 0, none⟩ = some (.int .i64 m) := by simp
    have c1 : (w1.alloc (.cells #[.int .i64 m, .int .i64 x] 31)).cell? ⟨w1.heap.size, 1, none⟩ = some (.int .i64 x) := by simp
    have HB := hidden (hb1.alloc hb1.size (.cells #[.int .i64 m, .int .i64 x] 31))
    clear hb1
    go_upto_region 2 with fail
    generalize w1.alloc (.cells #[.int .i64 m, .int .i64 x] 31) = w5 at *
    go_upto_region 10 with (first | (go_at_call 10; refine (HC.out _).mono ?_; rintro r w9 ⟨rfl, hb⟩; have c0 := cellLater hb c0; have c1 := cellLater hb c1; have HB := hidden (HB.out.trans (hb.mono HB.out.size)); clear hb) | (go_at_call_of 11 (Value.int IntKind.u64 t); refine (HT.out _).mono ?_; rintro r w9 ⟨rfl, hb⟩; have c0 := cellLater hb c0; have c1 := cellLater hb c1; have HB := hidden (HB.out.trans (hb.mono HB.out.size)); clear hb) | (go_at_call_of 11 (Value.int IntKind.u64 a); refine (HA.out _).mono ?_; rintro r w9 ⟨rfl, hb⟩; have c0 := cellLater hb c0; have c1 := cellLater hb c1; have HB := hidden (HB.out.trans (hb.mono HB.out.size)); clear hb) | (go_at_call_of 11 (Value.int IntKind.u64 b); refine (HX.out _).mono ?_; rintro r w9 ⟨rfl, hb⟩; have c0 := cellLater hb c0; have c1 := cellLater hb c1; have HB := hidden (HB.out.trans (hb.mono HB.out.size)); clear hb) | (go_at_call 12; refine (HS.out _).mono ?_; rintro r w9 ⟨rfl, hb⟩; have c0 := cellLater hb c0; have c1 := cellLater hb c1; have HB := hidden (HB.out.trans (hb.mono HB.out.size)); clear hb))
    go_region_held3 (fun w' => w'.cell? ⟨w1.heap.size, 0, none⟩ = some (.int .i64 m) ∧ w'.cell? ⟨w1.heap.size, 1, none⟩ = some (.int .i64 x)) (go_keep) (first | (go_at_call_of 13 (Value.int IntKind.u64 D); refine (HD.out _).mono ?_; rintro r w10 ⟨rfl, hb10⟩; have c0 : w10.cell? ⟨w1.heap.size, 0, none⟩ = some (.int .i64 m) := cellLater hb10 (by go_keep); have c1 : w10.cell? ⟨w1.heap.size, 1, none⟩ = some (.int .i64 x) := cellLater hb10 (by go_keep)) | (go_at_call_of 13 (Value.int IntKind.u64 t); refine (HE.out _).mono ?_; rintro r w11 ⟨rfl, hb11⟩; have c0 : w11.cell? ⟨w1.heap.size, 0, none⟩ = some (.int .i64 m) := cellLater hb11 (by go_keep); have c1 : w11.cell? ⟨w1.heap.size, 1, none⟩ = some (.int .i64 x) := cellLater hb11 (by go_keep)) | (go_at_call 10; refine (HQ.out _).mono ?_; rintro r w12 ⟨rfl, hb12⟩; have c0 : w12.cell? ⟨w1.heap.size, 0, none⟩ = some (.int .i64 m) := cellLater hb12 (by go_keep); have c1 : w12.cell? ⟨w1.heap.size, 1, none⟩ = some (.int .i64 x) := cellLater hb12 (by go_keep)))
  all_goals
    have h0 := HB.out.drew
    have h1 := h0.trans (hb10.mono h0.size)
    have h2 := h1.trans (hb11.mono h1.size)
    have h3 := h2.trans (hb12.mono h2.size)
    have HZ := hidden h3
    clear h0 h1 h2 h3 hb10 hb11 hb12
    go_wp2
    go_ret
    exact ⟨rfl, HZ.out⟩
theorem rfar (wide : Bool) (m x a b t c g : Int) (ok v : Bool) (w : World)
    (HF : Hid (∀ w, Calls Tryz.prog 9 #[.bool wide] w fun r w' => r = .returned (.agg #[.int .i64 m, .int .i64 x]) ∧ Below w.heap.size w w'))
    (HC : Hid (∀ w, Calls Tryz.prog 10 #[.agg #[.int .i64 m, .int .i64 x], .int .u64 a, .int .u64 b] w fun r w' => r = .returned (.tuple #[.int .i64 c, .bool ok, .int .i64 g]) ∧ Below w.heap.size w w'))
    (HN : Hid (∀ w, Calls Tryz.prog 5 #[.bool wide, .int .i64 1, .int .u64 a, .int .u64 b, .int .u64 t] w fun r w' => r = .returned (.bool v) ∧ Below w.heap.size w w'))
    : Calls Tryz.prog 5 #[.bool wide, .int .i64 2, .int .u64 a, .int .u64 b, .int .u64 t] w fun r w' => r = .returned (.bool (!v)) ∧ Below w.heap.size w w' := by
  go_enter Tryz.func5, Tryz.ntmps5
  go_wp2_with fail
  refine (HF.out _).mono ?_
  rintro r w1 ⟨rfl, hb1⟩
  have c0 : (w1.alloc (.cells #[.int .i64 m, .int .i64 x] 31)).cell? ⟨w1.heap.size, 0, none⟩ = some (.int .i64 m) := by simp
  have c1 : (w1.alloc (.cells #[.int .i64 m, .int .i64 x] 31)).cell? ⟨w1.heap.size, 1, none⟩ = some (.int .i64 x) := by simp
  have HB := hidden (hb1.alloc hb1.size (.cells #[.int .i64 m, .int .i64 x] 31))
  clear hb1
  go_upto_region 2 with fail
  generalize w1.alloc (.cells #[.int .i64 m, .int .i64 x] 31) = w5 at *
  go_wp2_with (first | (go_at_call 10; refine (HC.out _).mono ?_; rintro r w9 ⟨rfl, hb⟩; have c0 := cellLater hb c0; have c1 := cellLater hb c1; have HB := hidden (HB.out.trans (hb.mono HB.out.size)); clear hb) | (go_at_call 5; refine (HN.out _).mono ?_; rintro r w9 ⟨rfl, hb⟩; have c0 := cellLater hb c0; have c1 := cellLater hb c1; have HB := hidden (HB.out.trans (hb.mono HB.out.size)); clear hb))
  go_ret
  exact ⟨rfl, HB.out⟩
end Go.Proofs.YtfjpiahgnojlhaaGreatDoor
namespace Go.Proofs.YtfjpiahgnojlhaaGreatDoor
open Go.RowKit
set_option maxRecDepth 100000
set_option maxHeartbeats 400000
set_option linter.unusedVariables false

theorem has_of4 {w : World} {a : Option Addr} {l c : Nat} {ds : List Int} {N : Int} (rt : RdD w a l c ds) (kt : OkD ds) (vt : nv ds = N) (tt : l = 0 ∨ ds.getD (l - 1) 0 ≠ 0) : HasNat w a l c ds N := ⟨rt, kt, vt, tt⟩
theorem rd_one4 (w : World) : RdD (w.alloc (.cells #[.int .i64 1] 3)) (some ⟨w.heap.size, 0, none⟩) 1 1 [1] := by
  refine ⟨rfl, Nat.le_refl _, .inr ⟨w.heap.size, 0, rfl, fun i hi => ?_⟩⟩
  obtain rfl : i = 0 := by omega
  simp
def fmV (wide : Bool) : Value := .agg #[.int .i64 (if wide then 52 else 23), .int .i64 (if wide then 11 else 8)]
theorem fm_t (w : World) : Calls Tryz.prog 9 #[.bool true] w fun r w' => r = .returned (.agg #[.int .i64 52, .int .i64 11]) ∧ Below w.heap.size w w' := by
  go_enter Tryz.func9, Tryz.ntmps9
  go_wp2
  refine bodyPost_ret (v := .agg #[.int .i64 52, .int .i64 11]) (by simp [results, Tryz.results9, go_sem]) rfl ⟨rfl, ?_⟩
  exact (Below.refl _ _).alloc (Nat.le_refl _) _
theorem fm_f (w : World) : Calls Tryz.prog 9 #[.bool false] w fun r w' => r = .returned (.agg #[.int .i64 23, .int .i64 8]) ∧ Below w.heap.size w w' := by
  go_enter Tryz.func9, Tryz.ntmps9
  go_wp2
  refine bodyPost_ret (v := .agg #[.int .i64 23, .int .i64 8]) (by simp [results, Tryz.results9, go_sem]) rfl ⟨rfl, ?_⟩
  exact (Below.refl _ _).alloc (Nat.le_refl _) _
end Go.Proofs.YtfjpiahgnojlhaaGreatDoor
