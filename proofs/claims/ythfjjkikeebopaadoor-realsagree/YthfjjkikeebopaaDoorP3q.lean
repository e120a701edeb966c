/- Contracts of package soft's Sqrt, Ceil, Floor for every pattern of a format, and what two patterns say, for every two. -/
import Derived.Test.YthfjjkikeebopaaDoorP3p
namespace Go.Proofs.YthfjjkikeebopaaDoor
open Go.RowKit
set_option maxRecDepth 100000
set_option maxHeartbeats 1000000
set_option linter.unusedVariables false

abbrev Open1C (m x : Nat) (a K : Int) (n : Bool) (E M : Int) : Prop := Hid (∀ w, Calls Tryd.prog 41 #[fmtV m x, .int .u64 a] w fun r w' => r = .returned (.tuple #[partsV K n E M, .int .i64 0]) ∧ Below w.heap.size w w')
theorem psqrt_k (m x : Nat) (a K E M R : Int) (n : Bool) (w : World) (hok : okF m x) (h1 : K = 1 ∨ K = 2 ∨ K = 3 ∨ K = 4) (f1 : K = 2 → FinP m x E M) (hR : K = 2 → IsRoot (rootS E M * 18446744073709551616) R) (HO : Open1C m x a K n E M) :
    Calls Tryd.prog 22 #[fmtV m x, .int .u64 a] w fun r w' => r = .returned (.tuple #[.int .u64 (sqrtK m x a K n E M R), .int .i64 0]) ∧ Below w.heap.size w w' := by
  have HN : Hid (∀ w, Calls Tryd.prog 31 #[fmtV m x] w fun r w' => r = .returned (.int .u64 (nanI m x)) ∧ Below w.heap.size w w') := hidden fun w => pnan_any m x w hok
  rcases h1 with rfl | rfl | rfl | rfl
  · rw [show sqrtK m x a 1 n E M R = a by simp [sqrtK]]
    exact psqrt_zero m x a 1 E M n w HO rfl
  · cases n
    · obtain ⟨r1, r2, r3, r4⟩ := (f1 rfl).rng hok
      obtain ⟨c1, c2, c3, c4⟩ := upE_ok E M r3 (by omega)
      have hm52 := hok.2.1
      have hE : -4096 ≤ rootE E M ∧ rootE E M ≤ 4096 := by unfold rootE; omega
      rw [show sqrtK m x a 2 false E M R = packP m x R (rootE E M) (decide (R * R ≠ rootS E M * 18446744073709551616)) + sgnW false (m + x) by simp [sqrtK, sgnW]]
      refine psqrt_fin m x a 2 E M _ (rootS E M * 18446744073709551616) (rootE E M) w HO (hidden fun w => proot 2 E M false w r3 (by omega) (by omega)) ?_ rfl rfl rfl
      intro Q hQ
      obtain rfl := hQ.uniq (hR rfl)
      obtain ⟨q0, q1, q2⟩ := hQ
      have hS : rootS E M = M * p2 (upE E M) := rfl
      rw [← hS] at c3 c4
      have hq64 : Q < 18446744073709551616 := sq_lt (by omega) (by omega)
      have hq63 : 9223372036854775808 < Q + 1 := sq_lt (by omega) (by omega)
      have hb : bl Q = 64 := bl_of (.inr ⟨by omega, by rw [show 64 - 1 = 63 from rfl, p2_63]; omega, by rw [p2_64]; omega⟩)
      exact hidden fun w => ppack_any m x false (decide (Q * Q ≠ rootS E M * 18446744073709551616)) Q 0 Q (rootE E M) w hok hE.1 hE.2 (by omega) (by omega) (by omega) (by omega) (by omega) (fun _ => by omega)
    · rw [show sqrtK m x a 2 true E M R = nanI m x by simp [sqrtK]]
      exact psqrt_neg m x a 2 E M _ w HO HN rfl rfl
  · cases n
    · rw [show sqrtK m x a 3 false E M R = a by simp [sqrtK]]
      exact psqrt_inf m x a 3 E M w HO rfl rfl rfl
    · rw [show sqrtK m x a 3 true E M R = nanI m x by simp [sqrtK]]
      exact psqrt_neg m x a 3 E M _ w HO HN rfl rfl
  · rw [show sqrtK m x a 4 n E M R = nanI m x by simp [sqrtK]]
    exact psqrt_nan m x a 4 E M _ n w HO HN rfl rfl
theorem pwb_k (m x : Nat) (a K E M : Int) (n dn : Bool) (w : World) (hok : okF m x) (h1 : K = 1 ∨ K = 2 ∨ K = 3 ∨ K = 4) (f1 : K = 2 → FinP m x E M) (HO : Open1C m x a K n E M) :
    Calls Tryd.prog 43 #[fmtV m x, .int .u64 a, .bool dn] w fun r w' => r = .returned (.tuple #[.int .u64 (besideK m x a K n E M dn), .int .i64 0]) ∧ Below w.heap.size w w' := by
  have HN : Hid (∀ w, Calls Tryd.prog 31 #[fmtV m x] w fun r w' => r = .returned (.int .u64 (nanI m x)) ∧ Below w.heap.size w w') := hidden fun w => pnan_any m x w hok
  rcases h1 with rfl | rfl | rfl | rfl
  · rw [show besideK m x a 1 n E M dn = a by simp [besideK]]
    exact pwb_inf m x a 1 E M n dn w HO rfl rfl
  · by_cases he : 0 ≤ E
    · rw [show besideK m x a 2 n E M dn = a by simp [besideK, he]]
      exact pwb_big m x a 2 E M n dn w HO rfl rfl he
    · obtain ⟨r1, r2, r3, r4⟩ := (f1 rfl).rng hok
      obtain ⟨k, hk⟩ : ∃ k : Nat, -E = k := ⟨(-E).toNat, by omega⟩
      have hkn : (-E).toNat = k := by omega
      have hw : IntKind.i64.wrap (-E) = k := by rw [wrapi _ (by omega) (by omega)]; exact hk
      have hp := p2_pos k
      have q0 : 0 ≤ M / p2 k := Int.ediv_nonneg (by omega) (by omega)
      have q1 : M / p2 k ≤ M := Int.ediv_le_self _ (by omega)
      have HS := pshift M k w (by omega) (by omega) (by omega)
      have HP : ∀ N : Int, 0 ≤ N → N ≤ 9007199254740993 → PackC m x n 0 N 0 false (packP m x N 0 false + sgnW n (m + x)) := fun N h0 h1 => hidden fun w => ppack_any m x n false N 0 N 0 w hok (by omega) (by omega) (by omega) (by omega) (by omega) (by omega) (by omega) (fun h => by cases h)
      have hSh : ∀ c, decide (M % p2 k ≠ 0) = c → Hid (∀ w, Calls Tryd.prog 62 #[.int .u64 M, .int .i64 k] w fun r w' => r = .returned (.tuple #[.int .u64 (M / p2 k), .bool c]) ∧ Below w.heap.size w w') := fun c hc => hidden fun w => by
        have := pshift M k w (by omega) (by omega) (by omega)
        rw [hc] at this
        exact this
      have hwq : IntKind.u64.wrap (M / p2 k + 1) = M / p2 k + 1 := by rw [IntKind.wrap_u64]; omega
      have hbe : besideK m x a 2 n E M dn = packP m x (M / p2 k + (if M % p2 k ≠ 0 ∧ n = dn then 1 else 0)) 0 false + sgnW n (m + x) := by
        unfold besideK
        rw [if_neg (by decide), if_neg (by decide), if_neg he, hkn]
      rw [hbe]
      by_cases hm : M % p2 k = 0
      · have hc : decide (M % p2 k ≠ 0) = false := decide_eq_false (fun h => h hm)
        rw [if_neg (fun h => h.1 hm), Int.add_zero]
        have S := hSh _ hc
        have P := HP (M / p2 k) q0 (by omega)
        cases n <;> cases dn
        · exact pwb_ff_ff m x a 2 E M _ (M / p2 k) 0 k w HO S P rfl rfl (by omega) hw
        · exact pwb_ff_ft m x a 2 E M _ (M / p2 k) 0 k w HO S P rfl rfl (by omega) hw
        · exact pwb_ff_tf m x a 2 E M _ (M / p2 k) 0 k w HO S P rfl rfl (by omega) hw
        · exact pwb_ff_tt m x a 2 E M _ (M / p2 k) 0 k w HO S P rfl rfl (by omega) hw
      · have hc : decide (M % p2 k ≠ 0) = true := decide_eq_true hm
        have S := hSh _ hc
        by_cases hd : n = dn
        · rw [if_pos ⟨hm, hd⟩]
          subst hd
          have P := HP (M / p2 k + 1) (by omega) (by omega)
          cases n
          · exact pwb_tt_ff m x a 2 E M _ (M / p2 k) (M / p2 k + 1) k w HO S P rfl rfl (by omega) hw hwq
          · exact pwb_tt_tt m x a 2 E M _ (M / p2 k) (M / p2 k + 1) k w HO S P rfl rfl (by omega) hw hwq
        · rw [if_neg (fun h => hd h.2), Int.add_zero]
          have P := HP (M / p2 k) q0 (by omega)
          cases n <;> cases dn
          · exact absurd rfl hd
          · exact pwb_tf_ft m x a 2 E M _ (M / p2 k) 0 k w HO S P rfl rfl (by omega) hw
          · exact pwb_tf_tf m x a 2 E M _ (M / p2 k) 0 k w HO S P rfl rfl (by omega) hw
          · exact absurd rfl hd
  · rw [show besideK m x a 3 n E M dn = a by simp [besideK]]
    exact pwb_inf m x a 3 E M n dn w HO rfl rfl
  · rw [show besideK m x a 4 n E M dn = nanI m x by simp [besideK]]
    exact pwb_nan m x a 4 E M _ n dn w HO HN rfl
/-- what one pattern says, what two say -/
theorem popen1 (m x : Nat) (a : Int) (hok : okF m x) (a0 : 0 ≤ a) (a1 : a ≤ 18446744073709551615) (ha : bl a ≤ 1 + x + m) : Open1C m x a (kindI m x a) (negI m x a) (expI m x a) (manI m x a) := hidden fun w => popen_any m x a w hok a0 a1 (by omega)
theorem popen2 (m x : Nat) (a b : Int) (hok : okF m x) (a0 : 0 ≤ a) (a1 : a ≤ 18446744073709551615) (ha : bl a ≤ 1 + x + m) (b0 : 0 ≤ b) (b1 : b ≤ 18446744073709551615) (hb : bl b ≤ 1 + x + m) :
    OpenC m x a b (kindI m x a) (negI m x a) (expI m x a) (manI m x a) (kindI m x b) (negI m x b) (expI m x b) (manI m x b) := hidden fun w =>
  pboth2_any m x a b _ _ _ _ _ _ _ _ w (popen1 m x a hok a0 a1 ha) (popen1 m x b hok b0 b1 hb)
end Go.Proofs.YthfjjkikeebopaaDoor
