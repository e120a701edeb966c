/- Contract of the document's Bits (package grottoref02): how many bits a number has. -/
import Derived.Test.YtkbeceedafkhcaaN2b
namespace Go.Proofs.Ytkbeceedafkhcaa
open Go.RowKit
set_option maxHeartbeats 400000

theorem pow16 (k : Nat) : (65536 : Int) ^ k = p2 (16 * k) := by
  induction k with
  | zero => rfl
  | succ k ih =>
    rw [Int.pow_succ, ih, show 16 * (k + 1) = 16 * k + 16 by omega, p2_add]
    rfl
/-- the top digit's bits make the number's -/
theorem bits_top (ds : List Int) (hok : OkD ds) (n j : Nat) (hn : ds.length = n + 1) (h0 : 0 < j) (h1 : p2 (j - 1) ≤ ds.getD n 0) (h2 : ds.getD n 0 < p2 j) : IsBits (nv ds) (16 * n + j) := by
  have e : nv ds = nv (ds.take n) + 65536 ^ n * ds.getD n 0 := by
    have h3 := take_snoc ds n (by omega)
    rw [List.take_of_length_le (by omega)] at h3
    have h4 : nv (ds.take n ++ [ds.getD n 0]) = nv (ds.take n) + 65536 ^ n * ds.getD n 0 := by
      rw [nv_append]
      simp [nv, show (ds.take n).length = n by simp; omega]
    rw [← h4, ← h3]
  have l1 := nv_lt _ (hok.take n)
  have l2 := nv_nonneg _ (hok.take n)
  rw [show (ds.take n).length = n by simp; omega] at l1
  rw [pow16] at e l1
  refine .inr ⟨by omega, ?_, ?_⟩
  · rw [show 16 * n + j - 1 = 16 * n + (j - 1) by omega, p2_add]
    have := Int.mul_le_mul_of_nonneg_left h1 (Int.le_of_lt (p2_pos (16 * n)))
    omega
  · rw [p2_add]
    have h3 : ds.getD n 0 + 1 ≤ p2 j := by omega
    have h4 := Int.mul_le_mul_of_nonneg_left h3 (Int.le_of_lt (p2_pos (16 * n)))
    rw [Int.mul_add, Int.mul_one] at h4
    omega
theorem bits_any (a : Option Addr) (len cap : Nat) (ds : List Int) (w : World) (hr : RdD w a len cap ds) (hok : OkD ds) (hl : (len : Int) ≤ 100000) :
    Calls Try.prog 42 #[.slice a len cap] w fun r w' => (∃ b : Nat, r = .returned (.int .i64 b) ∧ IsBits (nv ds) b ∧ b ≤ 16 * len) ∧ w' = w := by
  have HR := hidden hr
  have HOK := hidden hok
  have hdl := hr.1
  go_enter Try.func42, Try.ntmps42
  go_wp2_with fail
  refine (trim_any a len cap ds _ HR.out (by omega)).mono ?_
  rintro r w1 ⟨n, rfl, ht, hw⟩
  subst hw
  have HT := hidden ht
  have hn : n ≤ len := by have := ht.1; omega
  clear ht hr hok
  by_cases hn0 : n = 0
  · subst hn0
    go_wp2
    go_ret
    refine ⟨⟨0, rfl, .inl ⟨?_, rfl⟩, by omega⟩, rfl⟩
    rw [← HT.out.2.1]; rfl
  · have hne : ((n : Int) == 0) = false := by simp; omega
    have hrt := HR.out.take hn
    rcases hrt.2.2 with ⟨_, h, _⟩ | ⟨b, off, rfl, hc⟩
    · omega
    · have hcell := hc (n - 1) (by omega)
      have hnt : ((n : Int) - 1).toNat = n - 1 := by omega
      have hlt : (n : Int) - 1 < (n : Int) := by omega
      have hge : (0 : Int) ≤ (n : Int) - 1 := by omega
      have htop : (ds.take n).getD (n - 1) 0 ≠ 0 := by
        rcases HT.out.2.2 with h | h
        · omega
        · have e : (ds.take n).getD (n - 1) 0 = ds.getD (n - 1) 0 := by simp [List.getD_eq_getElem?_getD, show n - 1 < n by omega]
          rw [e]; exact h
      have hbd := (HOK.out.take n).at (n - 1)
      have hfin : Hid (∀ j : Nat, 0 < j → p2 (j - 1) ≤ (ds.take n).getD (n - 1) 0 → (ds.take n).getD (n - 1) 0 < p2 j → IsBits (nv ds) (16 * (n - 1) + j)) := hidden fun j h0 h1 h2 => by
        rw [← HT.out.2.1]
        exact bits_top (ds.take n) (HOK.out.take n) (n - 1) j (by simp; omega) h0 h1 h2
      clear hc hrt HT
      generalize (ds.take n).getD (n - 1) 0 = T at *
      have p16 : p2 16 = 65536 := by decide
      have HP := hidden p16
      clear p16
      go_wp2
      go_loop [3, 4] (fun x t => ∃ j : Nat, j ≤ 16 ∧ x = .int .i64 (16 * ((n : Int) - 1) + j) ∧ t = .int .i64 (T / p2 j) ∧ (j = 0 ∨ 0 < T / p2 (j - 1))) (fun _ t => (intOf t).toNat)
      case atStart => exact ⟨0, by omega, by simp, by simp [p2], .inl rfl⟩
      case round =>
        obtain ⟨j, hj, rfl, rfl, hq⟩ := hrel
        have hstep := hidden (half_step T j)
        have hq0 : 0 ≤ T / p2 j := Int.ediv_nonneg hbd.1 (Int.le_of_lt (p2_pos j))
        have hq1 : T / p2 j ≤ 65535 := Int.le_trans (Int.ediv_le_self _ hbd.1) hbd.2
        by_cases hp : 0 < T / p2 j
        · have hj15 : j ≤ 15 := by
            rcases Nat.lt_or_ge j 16 with h | h
            · omega
            · obtain rfl : j = 16 := by omega
              have := div_pos_le T 16 hp
              rw [HP.out] at this
              omega
          have HQ : Hid (∃ Y, Y = T / p2 j ∧ 0 < Y) := ⟨_, rfl, hp⟩
          generalize T / p2 j = X at hq0 hq1 hp hstep ⊢
          go_wp2
          go_round
          case rel => exact ⟨j + 1, by omega, int_eq (by omega), by rw [hstep.out], .inr (by obtain ⟨Y, rfl, hY⟩ := HQ.out; simpa using hY)⟩
          case measure => simp [intOf]; omega
        · have hz : T / p2 j = 0 := by omega
          have hj0 : 0 < j := by
            rcases hq with h | h
            · subst h
              have : T / p2 0 = T := by simp [p2]
              omega
            · rcases Nat.eq_zero_or_pos j with h' | h'
              · subst h'; simp [p2] at h; have : T / p2 0 = T := by simp [p2]
                omega
              · exact h'
          have h1 : p2 (j - 1) ≤ T := by
            rcases hq with h | h
            · omega
            · exact div_pos_le T (j - 1) h
          have HF := hidden (hfin.out j hj0 h1 (div_zero_lt T j hz))
          clear hfin h1
          rw [hz]
          go_wp2
          go_ret
          exact ⟨⟨16 * (n - 1) + j, ret_int (by omega), HF.out, by omega⟩, rfl⟩
end Go.Proofs.Ytkbeceedafkhcaa
