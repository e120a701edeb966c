/- SoftTurns: sums and products go either way round; a difference is the sum with the sign turned, and turned round it is turned. -/
import Derived.Test.YtlhknchmgckgiaaL3t
import Derived.Test.YtlhknchmgckgiaaK7
import Derived.Test.YtlhknchmgckgiaaA4p
import Derived.Test.YtlhknchmgckgiaaL2d
namespace Go.Proofs.Ytlhknchmgckgiaa
open Go.RowKit
set_option maxRecDepth 100000
set_option maxHeartbeats 400000
set_option linter.unusedVariables false

theorem turn_any2 (m x : Nat) (a : Int) (w : World) (hok : okF m x) (a0 : 0 ≤ a) (a1 : a < p2 (m + x + 1)) :
    Calls Try.prog 11 #[.agg #[.int .i64 m, .int .i64 x], .int .u64 a] w fun r w' => r = .returned (.int .u64 (turnI (m + x) a)) ∧ Below w.heap.size w w' := by
  have HZ := hidden (fun w => zero_any m x true w (by have := hok.2.1; omega) (by have := hok.2.2.2; omega))
  rw [show sgnW true (m + x) = p2 (m + x) from rfl] at HZ
  have h63 := p2_le63 (show m + x ≤ 63 by have := hok.2.1; have := hok.2.2.2; omega)
  have hp := p2_pos (m + x)
  rw [p2_succ] at a1
  unfold turnI
  generalize p2 (m + x) = T at *
  by_cases h : T ≤ a
  · rw [if_pos h]
    go_enter Try.func11, Try.ntmps11
    go_wp2_with (go_at_call 14; refine (HZ.out _).mono ?_; rintro r w1 ⟨rfl, hw⟩; subst hw)
    go_ret
    refine ⟨rfl, ?_⟩
    repeat (first | exact Below.refl _ _ | apply Below.drew | (refine Below.alloc ?_ (by simp; try omega) _))
  · rw [if_neg h]
    go_enter Try.func11, Try.ntmps11
    go_wp2_with (go_at_call 14; refine (HZ.out _).mono ?_; rintro r w1 ⟨rfl, hw⟩; subst hw)
    go_ret
    refine ⟨rfl, ?_⟩
    repeat (first | exact Below.refl _ _ | apply Below.drew | (refine Below.alloc ?_ (by simp; try omega) _))
theorem zero_below (m x : Nat) (s : Bool) (hok : okF m x) : Hid (∀ w, Calls Try.prog 14 #[.agg #[.int .i64 (m : Int), .int .i64 (x : Int)], .bool s] w fun r w' => r = .returned (.int .u64 (sgnW s (m + x))) ∧ Below w.heap.size w w') := hidden fun w => by
  refine (zero_any m x s w (by have := hok.2.1; omega) (by have := hok.2.2.2; omega)).mono ?_
  rintro r w' ⟨rfl, hw⟩
  subst hw
  refine ⟨rfl, ?_⟩
  repeat (first | exact Below.refl _ _ | apply Below.drew | (refine Below.alloc ?_ (by simp; try omega) _))
theorem ropenA (m x : Nat) (a : Int) (hok : okF m x) (a0 : 0 ≤ a) (a1 : a ≤ 18446744073709551615) (ha : bl a ≤ 1 + x + m) : Hid (∀ w, Calls Try.prog 5 #[.agg #[.int .i64 (m : Int), .int .i64 (x : Int)], .int .u64 a] w fun r w' => r = .returned (.tuple #[partsV (kindI m x a) (negI m x a) (expI m x a) (manI m x a), .int .i64 0]) ∧ Below w.heap.size w w') := hidden fun w => ropen_any m x a w hok a0 a1 ha
theorem ropenB (m x : Nat) (a : Int) (hok : okF m x) (a0 : 0 ≤ a) (a1 : a ≤ 18446744073709551615) (ha : 1 + x + m < bl a) : Hid (∀ w, Calls Try.prog 5 #[.agg #[.int .i64 (m : Int), .int .i64 (x : Int)], .int .u64 a] w fun r w' => r = .returned (.tuple #[partsV 0 false 0 0, .int .i64 1]) ∧ Below w.heap.size w w') := hidden fun w => ropen_big m x a _ _ w hok a0 a1 rfl rfl (top_big m x a a0 ha)
theorem rank_zero_iff (k : Nat) (v : Int) (v0 : 0 ≤ v) (v1 : v < p2 (k + 1)) : rankI k v = 0 ↔ v % p2 k = 0 := by
  unfold rankI
  split <;> constructor <;> intro h <;> omega
theorem softTurns_walk (m0 x0 a b : Int) (w : World) (w0 : (Lit.int .i64 m0).wf = true) (y0 : (Lit.int .i64 x0).wf = true) (w1 : (Lit.int .u64 a).wf = true) (w2 : (Lit.int .u64 b).wf = true) :
    Calls Try.prog 3 #[.agg #[.int .i64 m0, .int .i64 x0], .int .u64 a, .int .u64 b] w fun r w' => r = .returned (.bool true) ∧ Below w.heap.size w w' := by
  have ba := bounds_u64 w1
  have bb := bounds_u64 w2
  clear w0 y0 w1 w2
  by_cases hok : okF m0 x0
  · obtain ⟨m, rfl⟩ := Int.eq_ofNat_of_zero_le (show 0 ≤ m0 by have := hok.1; omega)
    obtain ⟨x, rfl⟩ := Int.eq_ofNat_of_zero_le (show 0 ≤ x0 by have := hok.2.2.1; omega)
    by_cases ha : bl a ≤ 1 + x + m
    · by_cases hb : bl b ≤ 1 + x + m
      · have hx : 2 ≤ x := by have := hok.2.2.1; omega
        have hm1 : 1 ≤ m := by have := hok.1; omega
        have hm : m ≤ 52 := by have := hok.2.1; omega
        have hx11 : x ≤ 11 := by have := hok.2.2.2; omega
        have hp := p2_mono (show m + x + 1 ≤ 64 by omega)
        rw [p2_64] at hp
        have a1 := pat_lt m x a ba.1 ha
        have b1 := pat_lt m x b bb.1 hb
        have g1 := patK m x a hok ba.1 ha
        have g2 := patK m x b hok bb.1 hb
        obtain ⟨tb0, tb1⟩ := turn_bd (m + x) b bb.1 b1
        obtain ⟨ta0, ta1⟩ := turn_bd (m + x) a ba.1 a1
        have htb := bl_of_lt m x _ tb0 tb1
        have hta := bl_of_lt m x _ ta0 ta1
        have g3 := patK m x _ hok tb0 htb
        have g4 := patK m x _ hok ta0 hta
        have f1 := fun h => (g1.fin h).1
        have f2 := fun h => (g2.fin h).1
        have f3 := fun h => (g3.fin h).1
        have f4 := fun h => (g4.fin h).1
        have OAB := popen2 m x a b hok ba.1 ba.2 ha bb.1 bb.2 hb
        have OBA := popen2 m x b a hok bb.1 bb.2 hb ba.1 ba.2 ha
        have H1 : Hid (∀ w, Calls Try.prog 6 #[.agg #[.int .i64 (m : Int), .int .i64 (x : Int)], .int .u64 a, .int .u64 b] w fun r w' => r = .returned (.tuple #[.int .u64 (addK m x a b (kindI m x a) (negI m x a) (expI m x a) (manI m x a) (kindI m x b) (negI m x b) (expI m x b) (manI m x b)), .int .i64 0]) ∧ Below w.heap.size w w') := hidden fun w => padd_k m x a b _ _ _ _ _ _ _ _ w hok g1.kind g2.kind f1 f2 OAB
        have H2 : Hid (∀ w, Calls Try.prog 6 #[.agg #[.int .i64 (m : Int), .int .i64 (x : Int)], .int .u64 b, .int .u64 a] w fun r w' => r = .returned (.tuple #[.int .u64 (addK m x a b (kindI m x a) (negI m x a) (expI m x a) (manI m x a) (kindI m x b) (negI m x b) (expI m x b) (manI m x b)), .int .i64 0]) ∧ Below w.heap.size w w') := hidden fun w => by
          rw [addK_comm m x a b _ _ _ _ _ _ _ _ g1 g2]
          exact padd_k m x b a _ _ _ _ _ _ _ _ w hok g2.kind g1.kind f2 f1 OBA
        have H3 : Hid (∀ w, Calls Try.prog 7 #[.agg #[.int .i64 (m : Int), .int .i64 (x : Int)], .int .u64 a, .int .u64 b] w fun r w' => r = .returned (.tuple #[.int .u64 (mulK m x (kindI m x a) (negI m x a) (expI m x a) (manI m x a) (kindI m x b) (negI m x b) (expI m x b) (manI m x b)), .int .i64 0]) ∧ Below w.heap.size w w') := hidden fun w => pmul_k m x a b _ _ _ _ _ _ _ _ w hok g1.kind g2.kind f1 f2 OAB
        have H4 : Hid (∀ w, Calls Try.prog 7 #[.agg #[.int .i64 (m : Int), .int .i64 (x : Int)], .int .u64 b, .int .u64 a] w fun r w' => r = .returned (.tuple #[.int .u64 (mulK m x (kindI m x a) (negI m x a) (expI m x a) (manI m x a) (kindI m x b) (negI m x b) (expI m x b) (manI m x b)), .int .i64 0]) ∧ Below w.heap.size w w') := hidden fun w => by
          rw [mulK_comm m x]
          exact pmul_k m x b a _ _ _ _ _ _ _ _ w hok g2.kind g1.kind f2 f1 OBA
        have H5 : Hid (∀ w, Calls Try.prog 10 #[.agg #[.int .i64 (m : Int), .int .i64 (x : Int)], .int .u64 a, .int .u64 (turnI (m + x) b)] w fun r w' => r = .returned (.tuple #[.int .u64 (addK m x a b (kindI m x a) (negI m x a) (expI m x a) (manI m x a) (kindI m x b) (negI m x b) (expI m x b) (manI m x b)), .int .i64 0]) ∧ Below w.heap.size w w') := hidden fun w => by
          have h := psub_k m x a (turnI (m + x) b) (kindI m x a) (expI m x a) (manI m x a) (kindI m x b) (expI m x b) (manI m x b) (negI m x a) (negI m x b) w hok tb0 tb1 g1.kind g2.kind f1 f2 (by rw [turn_turn (m + x) b bb.1 b1]; exact OAB)
          rw [turn_turn (m + x) b bb.1 b1] at h
          exact h
        have H6 : Hid (∀ w, Calls Try.prog 10 #[.agg #[.int .i64 (m : Int), .int .i64 (x : Int)], .int .u64 a, .int .u64 b] w fun r w' => r = .returned (.tuple #[.int .u64 (subD m x a b), .int .i64 0]) ∧ Below w.heap.size w w') := hidden fun w => by
          have h := psub_k m x a b _ _ _ _ _ _ _ _ w hok bb.1 b1 g1.kind g3.kind f1 f3 (popen2 m x a _ hok ba.1 ba.2 ha tb0 (by omega) htb)
          rw [sub_eq m x a b bb.1 b1] at h
          exact h
        have H7 : Hid (∀ w, Calls Try.prog 10 #[.agg #[.int .i64 (m : Int), .int .i64 (x : Int)], .int .u64 b, .int .u64 a] w fun r w' => r = .returned (.tuple #[.int .u64 (subD m x b a), .int .i64 0]) ∧ Below w.heap.size w w') := hidden fun w => by
          have h := psub_k m x b a _ _ _ _ _ _ _ _ w hok ba.1 a1 g2.kind g4.kind f2 f4 (popen2 m x b _ hok bb.1 bb.2 hb ta0 (by omega) hta)
          rw [sub_eq m x b a ba.1 a1] at h
          exact h
        have HN : Hid (∀ w, Calls Try.prog 12 #[.agg #[.int .i64 (m : Int), .int .i64 (x : Int)]] w fun r w' => r = .returned (.int .u64 (nanI m x)) ∧ Below w.heap.size w w') := hidden fun w => nan_any m x w hm hm1 hx11
        have HZ : Hid (∀ w, Calls Try.prog 14 #[.agg #[.int .i64 (m : Int), .int .i64 (x : Int)], .bool false] w fun r w' => r = .returned (.int .u64 0) ∧ Below w.heap.size w w') := zero_below m x false hok
        have hD : 0 ≤ subD m x a b ∧ subD m x a b < p2 (m + x + 1) := add_bd m x a (turnI (m + x) b) _ _ _ _ _ _ _ _ hm1 hx ba.1 a1 tb0 tb1
        have k0 : kindI m x 0 = 1 := by
          have h := (open_zero m x false hx).1
          exact h
        have hP := p2_pos (m + x + 1)
        have HC := hidden fun w => pcmp_k m x (subD m x a b) 0 _ _ _ _ _ _ _ _ w hok hD.1 hD.2 (Int.le_refl _) hP (popen2 m x (subD m x a b) 0 hok hD.1 (by omega) (bl_of_lt m x _ hD.1 hD.2) (by omega) (by omega) (bl_of_lt m x 0 (by omega) hP))
        have HT : Hid (∀ w, Calls Try.prog 11 #[.agg #[.int .i64 (m : Int), .int .i64 (x : Int)], .int .u64 b] w fun r w' => r = .returned (.int .u64 (turnI (m + x) b)) ∧ Below w.heap.size w w') := hidden fun w => turn_any2 m x b w hok bb.1 b1
        have HU : Hid (∀ w, Calls Try.prog 11 #[.agg #[.int .i64 (m : Int), .int .i64 (x : Int)], .int .u64 (subD m x a b)] w fun r w' => r = .returned (.int .u64 (turnI (m + x) (subD m x a b))) ∧ Below w.heap.size w w') := hidden fun w => turn_any2 m x _ w hok hD.1 hD.2
        have HA := ropenA m x a hok ba.1 ba.2 ha
        have HX := ropenA m x b hok bb.1 bb.2 hb
        rw [k0] at HC
        by_cases h4 : kindI m x a = 4 ∨ kindI m x b = 4
        · have nx : addK m x a b (kindI m x a) (negI m x a) (expI m x a) (manI m x a) (kindI m x b) (negI m x b) (expI m x b) (manI m x b) = nanI m x := by unfold addK; rw [if_pos h4]
          have nz : mulK m x (kindI m x a) (negI m x a) (expI m x a) (manI m x a) (kindI m x b) (negI m x b) (expI m x b) (manI m x b) = nanI m x := by unfold mulK; rw [if_pos h4]
          have nd : subD m x a b = nanI m x := by unfold subD addK; rw [if_pos h4]
          have ne : subD m x b a = nanI m x := by unfold subD addK; rw [if_pos h4.symm]
          refine turns_nan m x a b _ _ _ _ _ _ _ _ _ _ _ _ _ _ _ _ _ _ w ⟨?_, nx, nx, nd, ne, nz⟩ HA HX H1 H2 H3 H4 HT H5 H6 H7 HN HZ HC HU
          by_cases h1 : kindI m x a = 4
          · exact .inl (by simpa using h1)
          · exact .inr ⟨by simpa using h1, by simpa using h4.resolve_left h1⟩
        · have h1 : kindI m x a ≠ 4 := fun h => h4 (.inl h)
          have h2 : kindI m x b ≠ 4 := fun h => h4 (.inr h)
          have q1 : (kindI m x a == 4) = false := by simpa using h1
          have q2 : (kindI m x b == 4) = false := by simpa using h2
          have r0 : rankI (m + x) 0 = 0 := by
            have h := (rank_zero_iff (m + x) 0 (by omega) hP).2 (Int.zero_emod _)
            exact h
          have hcz : kindI m x (subD m x a b) ≠ 4 → (cmpOk (kindI m x (subD m x a b)) 1 = true ∧ (cmpR m x (subD m x a b) 0 (kindI m x (subD m x a b)) 1 = 0 ↔ subD m x a b % p2 (m + x) = 0)) := fun hk => by
            refine ⟨by simp [cmpOk, hk], ?_⟩
            unfold cmpR
            rw [if_neg (by intro h; rcases h with h | h; exact hk h; exact absurd h (by decide)), r0, ← rank_zero_iff (m + x) _ hD.1 hD.2]
            unfold cmpZ
            split
            · constructor <;> intro h <;> omega
            · split
              · constructor <;> intro h <;> omega
              · constructor <;> intro h <;> omega
          rcases sub_cases m x a b hok ba.1 a1 bb.1 b1 h1 h2 with ⟨e1, e2⟩ | ⟨hk, hz, ho, e1, e2⟩ | ⟨hk, ho, e2⟩
          · have ko : cmpOk (kindI m x (subD m x a b)) 1 = false := by rw [e1, show kindI m x (nanI m x) = 4 from (nan_kind m x hok).2.2.1]; simp [cmpOk]
            exact turns_inf m x a b _ _ _ _ _ _ _ _ _ _ _ _ _ _ _ _ _ _ w ⟨q1, q2, rfl, ko, by rw [e1, e2]⟩ HA HX H1 H2 H3 H4 HT H5 H6 H7 HN HZ HC HU
          · obtain ⟨ko, kc⟩ := hcz hk
            refine turns_same m x a b _ _ _ _ _ _ _ _ _ _ _ _ _ _ _ _ _ _ w ⟨q1, q2, rfl, ko, kc.2 hz, e1, e2, ?_⟩ HA HX H1 H2 H3 H4 HT H5 H6 H7 HN HZ HC HU
            by_cases j1 : kindI m x a = 1
            · by_cases j2 : kindI m x b = 1
              · right; right
                refine ⟨by simpa using j1, by simpa using j2, ?_⟩
                rcases ho with h | h | h
                · exact absurd j1 h
                · exact absurd j2 h
                · simpa using h
              · right; left
                exact ⟨by simpa using j1, by simpa using j2⟩
            · left
              simpa using j1
          · obtain ⟨ko, kc⟩ := hcz hk
            refine turns_turn m x a b _ _ _ _ _ _ _ _ _ _ _ _ _ _ _ _ _ _ w ⟨q1, q2, rfl, ko, e2, ?_⟩ HA HX H1 H2 H3 H4 HT H5 H6 H7 HN HZ HC HU
            rcases ho with h | ⟨h, j1, j2, h3⟩
            · left
              have : ¬ cmpR m x (subD m x a b) 0 (kindI m x (subD m x a b)) 1 = 0 := fun h' => h (kc.1 h')
              simpa using this
            · right
              exact ⟨kc.2 h, by simpa using j1, by simpa using j2, by simpa using h3⟩
      · have BO : ∀ w, Calls Try.prog 22 #[.agg #[.int .i64 (m : Int), .int .i64 (x : Int)], .int .u64 a, .int .u64 b] w _ := fun w => pboth2_no2 m x a b _ _ _ _ w (popen1 m x a hok ba.1 ba.2 ha) (hidden fun w => popen_big m x b w hok bb.1 bb.2 (by omega))
        have BP : ∀ w, Calls Try.prog 22 #[.agg #[.int .i64 (m : Int), .int .i64 (x : Int)], .int .u64 b, .int .u64 a] w _ := fun w => pboth2_no1 m x b a w (hidden fun w => popen_big m x b w hok bb.1 bb.2 (by omega))
        exact turns_bad m x a b _ _ _ 0 0 0 0 1 1 0 0 _ false w ⟨.inr ⟨rfl, rfl⟩, rfl, rfl, rfl⟩ (ropenA m x a hok ba.1 ba.2 ha) (ropenB m x b hok bb.1 bb.2 (by omega)) (hidden fun w => padd_err m x a b w (hidden BO)) (hidden fun w => padd_err m x b a w (hidden BP)) (hidden fun w => pmul_err m x a b w (hidden BO)) (hidden fun w => pmul_err m x b a w (hidden BP))
    · have BO : ∀ w, Calls Try.prog 22 #[.agg #[.int .i64 (m : Int), .int .i64 (x : Int)], .int .u64 a, .int .u64 b] w _ := fun w => pboth2_no1 m x a b w (hidden fun w => popen_big m x a w hok ba.1 ba.2 (by omega))
      have BP : Hid (∀ w, Calls Try.prog 22 #[.agg #[.int .i64 (m : Int), .int .i64 (x : Int)], .int .u64 b, .int .u64 a] w fun r w' => r = .returned (.tuple #[partsV 0 false 0 0, partsV 0 false 0 0, .int .i64 1]) ∧ Below w.heap.size w w') := hidden fun w => by
        by_cases hb : bl b ≤ 1 + x + m
        · exact pboth2_no2 m x b a _ _ _ _ w (popen1 m x b hok bb.1 bb.2 hb) (hidden fun w => popen_big m x a w hok ba.1 ba.2 (by omega))
        · exact pboth2_no1 m x b a w (hidden fun w => popen_big m x b w hok bb.1 bb.2 (by omega))
      by_cases hb : bl b ≤ 1 + x + m
      · exact turns_bad m x a b 0 0 0 _ _ _ 1 0 1 0 0 false _ w ⟨.inl rfl, rfl, rfl, rfl⟩ (ropenB m x a hok ba.1 ba.2 (by omega)) (ropenA m x b hok bb.1 bb.2 hb) (hidden fun w => padd_err m x a b w (hidden BO)) (hidden fun w => padd_err m x b a w BP) (hidden fun w => pmul_err m x a b w (hidden BO)) (hidden fun w => pmul_err m x b a w BP)
      · exact turns_bad m x a b 0 0 0 0 0 0 1 1 1 0 0 false false w ⟨.inl rfl, rfl, rfl, rfl⟩ (ropenB m x a hok ba.1 ba.2 (by omega)) (ropenB m x b hok bb.1 bb.2 (by omega)) (hidden fun w => padd_err m x a b w (hidden BO)) (hidden fun w => padd_err m x b a w BP) (hidden fun w => pmul_err m x a b w (hidden BO)) (hidden fun w => pmul_err m x b a w BP)
  · have BO : ∀ (a b : Int) w, Calls Try.prog 22 #[.agg #[.int .i64 m0, .int .i64 x0], .int .u64 a, .int .u64 b] w _ := fun a b w => pboth2_no1 m0 x0 a b w (hidden fun w => popen_no m0 x0 a w hok)
    exact turns_bad m0 x0 a b 0 0 0 0 0 0 1 1 1 0 0 false false w ⟨.inl rfl, rfl, rfl, rfl⟩ (hidden fun w => ropen_no m0 x0 a w hok) (hidden fun w => ropen_no m0 x0 b w hok) (hidden fun w => padd_err m0 x0 a b w (hidden (BO a b))) (hidden fun w => padd_err m0 x0 b a w (hidden (BO b a))) (hidden fun w => pmul_err m0 x0 a b w (hidden (BO a b))) (hidden fun w => pmul_err m0 x0 b a w (hidden (BO b a)))
end Go.Proofs.Ytlhknchmgckgiaa
