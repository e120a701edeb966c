/- Layer 7, lists alone: a game in which one byte is another one is refused. -/
import Derived.Test.YtcfmmkhfhbnmbaaH7k
namespace Go.Proofs.Ytcfmmkhfhbnmbaa
open Go.RowKit
set_option maxHeartbeats 1000000
set_option maxRecDepth 100000
set_option linter.unusedVariables false

theorem getD_set (M : List Int) (j : Nat) (y : Int) (hj : j < M.length) (i : Nat) : (M.set j y).getD i 0 = if i = j then y else M.getD i 0 := by
  simp only [List.getD_eq_getElem?_getD, List.getElem?_set]
  by_cases h : i = j
  · subst h; simp [hj]
  · rw [if_neg (fun e => h e.symm), if_neg h]
def wt (j : Nat) : Int := 256 ^ (3 - j % 4)
theorem wt_cases (j : Nat) : (j % 4 = 0 ∧ wt j = 16777216) ∨ (j % 4 = 1 ∧ wt j = 65536) ∨ (j % 4 = 2 ∧ wt j = 256) ∨ (j % 4 = 3 ∧ wt j = 1) := by
  have : j % 4 = 0 ∨ j % 4 = 1 ∨ j % 4 = 2 ∨ j % 4 = 3 := by omega
  unfold wt
  rcases this with h | h | h | h <;> rw [h]
  · exact .inl ⟨rfl, rfl⟩
  · exact .inr (.inl ⟨rfl, rfl⟩)
  · exact .inr (.inr (.inl ⟨rfl, rfl⟩))
  · exact .inr (.inr (.inr ⟨rfl, rfl⟩))
theorem be_set_far (M : List Int) (j : Nat) (y : Int) (hj : j < M.length) (p : Nat) (h : j < p ∨ p + 4 ≤ j) : beV (M.set j y) p 4 = beV M p 4 := by
  rw [beV4, beV4, getD_set M j y hj, getD_set M j y hj, getD_set M j y hj, getD_set M j y hj, if_neg (by omega), if_neg (by omega), if_neg (by omega), if_neg (by omega)]
theorem be_set_in (M : List Int) (j : Nat) (y : Int) (hj : j < M.length) (p : Nat) (hp : p % 4 = 0) (h1 : p ≤ j) (h2 : j < p + 4) : beV (M.set j y) p 4 = beV M p 4 + (y - M.getD j 0) * wt j := by
  rw [beV4, beV4, getD_set M j y hj, getD_set M j y hj, getD_set M j y hj, getD_set M j y hj]
  obtain rfl | rfl | rfl | rfl : j = p ∨ j = p + 1 ∨ j = p + 2 ∨ j = p + 3 := by omega
  · rcases wt_cases j with ⟨_, e⟩ | ⟨q, _⟩ | ⟨q, _⟩ | ⟨q, _⟩
    · rw [e, if_pos rfl, if_neg (by omega), if_neg (by omega), if_neg (by omega)]; omega
    all_goals omega
  · rcases wt_cases (p + 1) with ⟨q, _⟩ | ⟨_, e⟩ | ⟨q, _⟩ | ⟨q, _⟩
    · omega
    · rw [e, if_neg (by omega), if_pos rfl, if_neg (by omega), if_neg (by omega)]; omega
    all_goals omega
  · rcases wt_cases (p + 2) with ⟨q, _⟩ | ⟨q, _⟩ | ⟨_, e⟩ | ⟨q, _⟩
    · omega
    · omega
    · rw [e, if_neg (by omega), if_neg (by omega), if_pos rfl, if_neg (by omega)]; omega
    · omega
  · rcases wt_cases (p + 3) with ⟨q, _⟩ | ⟨q, _⟩ | ⟨q, _⟩ | ⟨_, e⟩
    · omega
    · omega
    · omega
    · rw [e, if_neg (by omega), if_neg (by omega), if_neg (by omega), if_pos rfl]; omega
theorem sum_set (M : List Int) (j : Nat) (y : Int) (hj : j < M.length) (h32 : j < 32 ∨ 36 ≤ j) : ∀ k, sumTo (M.set j y) k = (sumTo M k + if j < 4 * k then (y - M.getD j 0) * wt j else 0) % 4294967296
  | 0 => by rw [if_neg (by omega)]; simp [sumTo]
  | k + 1 => by
    have ih := sum_set M j y hj h32 k
    have hb := sumTo_bd M k
    rw [sumTo_succ, sumTo_succ]
    by_cases h8 : k = 8
    · rw [if_pos h8, if_pos h8, ih]
      by_cases c : j < 4 * k
      · rw [if_pos c, if_pos (by omega)]
      · rw [if_neg c, if_neg (by omega)]
    · rw [if_neg h8, if_neg h8, ih]
      by_cases c : j < 4 * k
      · rw [if_pos c, if_pos (by omega), be_set_far M j y hj (4 * k) (by omega)]
        generalize (y - M.getD j 0) * wt j = D
        omega
      · rw [if_neg c]
        by_cases c2 : j < 4 * (k + 1)
        · rw [if_pos c2, be_set_in M j y hj (4 * k) (by omega) (by omega) (by omega)]
          generalize (y - M.getD j 0) * wt j = D
          omega
        · rw [if_neg c2, be_set_far M j y hj (4 * k) (by omega)]
          omega
theorem numR_place (v ram ext en st start tab size : Int) : (numR v ram ext en st start tab size).2 ≤ 32 := by
  unfold numR
  repeat' split
  all_goals decide
theorem turned (M : List Int) (hok : OkB M) (h : Hd) (hp : parseH M = (h, 0, 36)) (j : Nat) (hj : j < M.length) (y : Int) (y0 : 0 ≤ y) (y1 : y ≤ 255) (hy : y ≠ M.getD j 0) :
    (parseH (M.set j y)).1 = hd0 ∧ (parseH (M.set j y)).2.1 ≠ 0 ∧ (parseH (M.set j y)).2.2 ≤ 32 := by
  have hz := okb_at hok j
  have hl : (M.set j y).length = M.length := List.length_set
  have hc : ¬ 1048576 < M.length ∧ ¬ M.length < 36 ∧ (numH (readH M) M.length).1 = 0 ∧ beV M 32 4 = sumV M := by
    unfold parseH at hp
    split at hp
    · exact absurd (congrArg (fun x => x.2.1) hp) (by show ¬ (3 : Int) = 0; decide)
    · rename_i q1
      split at hp
      · exact absurd (congrArg (fun x => x.2.1) hp) (by show ¬ (63 : Int) = 0; decide)
      · split at hp
        · exact absurd (congrArg (fun x => x.2.1) hp) (by show ¬ (2 : Int) = 0; decide)
        · rename_i q3
          split at hp
          · rename_i q4
            exact absurd (congrArg (fun x => x.2.1) hp) q4
          · rename_i q4
            split at hp
            · exact absurd (congrArg (fun x => x.2.1) hp) (by show ¬ (73 : Int) = 0; decide)
            · rename_i q5
              exact ⟨q1, q3, Classical.not_not.1 q4, Classical.not_not.1 q5⟩
  obtain ⟨c1, c2, c3, c4⟩ := hc
  have hm4 : M.length % 4 = 0 := by
    have : (beV M 12 4 = (M.length : Int)) ∧ beV M 12 4 % 256 = 0 := by
      have c3' : (numR (beV M 4 4) (beV M 8 4) (beV M 12 4) (beV M 16 4) (beV M 20 4) (beV M 24 4) (beV M 28 4) M.length).1 = 0 := c3
      unfold numR at c3'
      split at c3'
      · exact absurd c3' (by decide)
      · split at c3'
        · exact absurd c3' (by decide)
        · split at c3'
          · exact absurd c3' (by decide)
          · omega
    omega
  unfold parseH
  rw [hl, if_neg c1]
  split
  · exact ⟨rfl, by show ¬ (63 : Int) = 0; decide, by show (0 : Int) ≤ 32; decide⟩
  · split
    · rename_i q
      exact ⟨rfl, q, numR_place _ _ _ _ _ _ _ _⟩
    · split
      · exact ⟨rfl, by show ¬ (73 : Int) = 0; decide, by show (32 : Int) ≤ 32; decide⟩
      · rename_i q
        exfalso
        have q' := Classical.not_not.1 q
        unfold sumV at q' c4
        rw [hl] at q'
        by_cases h32 : j < 32 ∨ 36 ≤ j
        · rw [be_set_far M j y hj 32 (by omega), sum_set M j y hj h32, if_pos (by omega), c4] at q'
          have hb := sumTo_bd M (M.length / 4)
          rcases wt_cases j with ⟨_, e⟩ | ⟨_, e⟩ | ⟨_, e⟩ | ⟨_, e⟩ <;> rw [e] at q' <;> omega
        · rw [be_set_in M j y hj 32 (by omega) (by omega) (by omega), sum_congr (M.set j y) M (M.length / 4) (fun i hi => by rw [getD_set M j y hj, if_neg (by omega)]), ← c4] at q'
          rcases wt_cases j with ⟨_, e⟩ | ⟨_, e⟩ | ⟨_, e⟩ | ⟨_, e⟩ <;> rw [e] at q' <;> omega
/-- one bit of a byte turned -/
theorem xor_bit (z : Int) (z0 : 0 ≤ z) (z1 : z ≤ 255) (p : Int) (hp : p = 1 ∨ p = 2 ∨ p = 4 ∨ p = 8 ∨ p = 16 ∨ p = 32 ∨ p = 64 ∨ p = 128) : 0 ≤ bits .xor .u8 z p ∧ bits .xor .u8 z p ≤ 255 ∧ bits .xor .u8 z p ≠ z := by
  obtain ⟨n, rfl⟩ := Int.eq_ofNat_of_zero_le z0
  have hn : n < 256 := by omega
  have key : ∀ m : Fin 256, ∀ q ∈ [(1 : Int), 2, 4, 8, 16, 32, 64, 128], 0 ≤ bits .xor .u8 (m.val : Int) q ∧ bits .xor .u8 (m.val : Int) q ≤ 255 ∧ bits .xor .u8 (m.val : Int) q ≠ (m.val : Int) := by decide +kernel
  exact key ⟨n, hn⟩ p (by simp; omega)
end Go.Proofs.Ytcfmmkhfhbnmbaa
