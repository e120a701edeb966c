/- Layer 14, the document: the measured part of a pair. -/
import Derived.Test.YtilfgbcbodjegaaR14e
import Derived.Test.YtilfgbcbodjegaaP14i
namespace Go.Proofs.Ytilfgbcbodjegaa
open Go.RowKit
set_option maxHeartbeats 1000000
set_option maxRecDepth 100000
set_option linter.unusedVariables false

set_option maxHeartbeats 4000000 in
theorem dpart_any {B m : Nat} {v : Value} {s : Ps} {w : World} (h : QAt B w m v s) (hn : s.L.length ≤ 1000) (d : Wd) (hp : PairW d) (hz : ofW s.L 0 = wd0) (hkey : d.key = 0 ∨ (ofW s.L d.key).k ≠ 0) (n : Int) (n0 : 0 ≤ n) (n1 : n ≤ 1000) :
    Calls Try.prog 92 #[.pointer (some ⟨m, 0, none⟩), wdA d, .int .i64 n] w fun e w' => e = .returned (.int .i64 (msdV s.L d n)) ∧ Hid (Below w.heap.size w w') := by
  have HO : Hid (∀ w1, Below w.heap.size w w1 → Calls Try.prog 32 #[.pointer (some ⟨m, 0, none⟩), .int .i64 d.key] w1 fun e w' => e = .returned (wdA (ofW s.L d.key)) ∧ Hid (Below w.heap.size w w')) := hidden (fun w1 hb => (dof_any (h.later hb) hn _).mono (fun e w' hh => ⟨hh.1, hidden (hb.trans (hh.2.out.mono hb.size))⟩))
  obtain ⟨s0, s1⟩ : 0 ≤ d.s ∧ d.s ≤ 4294967295 := ⟨hp.s0, hp.s1⟩
  have hBA : Hid (∀ u, Below w.heap.size w (w.alloc u)) := hidden (fun u => (Below.refl _ _).alloc (Nat.le_refl _) _)
  obtain ⟨R, hR⟩ : ∃ R, msdV s.L d n = R := ⟨_, rfl⟩
  rw [hR]
  have HR := hidden hR
  unfold msdV rawV at HR
  have hz0 : d.key = 0 → (ofW s.L d.key).k = 0 := fun e => by rw [e, hz]; rfl
  generalize ofW s.L d.key = D at *
  unfold wdA at HO ⊢
  clear h hp hz hR
  by_cases h32 : 32 ≤ d.m
  · rw [if_pos h32] at HR
    obtain ⟨NS, hNS⟩ : ∃ NS, n * d.s = NS := ⟨_, rfl⟩
    have hns0 : 0 ≤ NS := by rw [← hNS]; exact Int.mul_nonneg n0 s0
    have hns1 : NS ≤ 4294967295000 := by
      rw [← hNS]
      exact Int.le_trans (Int.mul_le_mul_of_nonneg_right n1 s0) (by omega)
    rw [hNS] at HR
    obtain ⟨Q, hQ⟩ : ∃ Q, NS / 100 = Q := ⟨_, rfl⟩
    have hq0 : 0 ≤ Q := by omega
    have hq1 : Q ≤ 42949672950 := by omega
    rw [hQ] at HR
    clear HO hkey hz0
    by_cases hle : Q > n
    · have HRn : Hid (R = n) := hidden (by have := HR.out; split at this <;> omega)
      go_enter Try.func92, Try.ntmps92
      go_wp2
      go_ret
      exact ⟨by rw [HRn.out]; rfl, hidden (hBA.out _)⟩
    · have HRn : Hid (R = Q) := hidden (by have := HR.out; split at this <;> omega)
      go_enter Try.func92, Try.ntmps92
      go_wp2
      go_ret
      exact ⟨by rw [HRn.out]; rfl, hidden (hBA.out _)⟩
  · rw [if_neg h32] at HR
    by_cases hk : d.key = 0
    · rw [if_pos (show D.k = 0 ∨ D.k = 1 from .inl (hz0 hk))] at HR
      have HR0 : Hid (R = 0) := hidden (by have := HR.out; split at this <;> omega)
      have q0 : (d.key == 0) = true := by simp [hk]
      rw [hk]
      clear HO hkey hz0 hk q0
      have l1 : ¬ (0 : Int) > n := by omega
      go_enter Try.func92, Try.ntmps92
      go_wp2
      go_ret
      exact ⟨by rw [HR0.out]; rfl, hidden (hBA.out _)⟩
    · have q0 : (d.key == 0) = false := by simp [hk]
      have hk1 : D.k ≠ 0 := hkey.resolve_left hk
      have hf := wfld1 D.n D.k D.p D.a D.b D.m D.s D.key
      by_cases h1 : D.k = 1
      · rw [if_pos (show D.k = 0 ∨ D.k = 1 from .inr h1)] at HR
        have HR0 : Hid (R = 0) := hidden (by have := HR.out; split at this <;> omega)
        have q1 : (D.k == 1) = true := by simp [h1]
        have l1 : ¬ (0 : Int) > n := by omega
        clear hkey hz0 hk hk1 h1
        go_enter Try.func92, Try.ntmps92
        go_wp2_with (first | (go_at_call 32; refine (HO.out _ (hBA.out _)).mono ?_; rintro e w1 ⟨rfl, HB1⟩) | fail)
        go_ret
        exact ⟨by rw [HR0.out]; rfl, HB1⟩
      · rw [if_neg (show ¬ (D.k = 0 ∨ D.k = 1) by omega)] at HR
        have q1 : (D.k == 1) = false := by simp [h1]
        have HC : Hid (∀ w1, Below w.heap.size w w1 → True) := hidden (fun _ _ => trivial)
        clear hkey hz0 hk hk1 h1
        by_cases hle : d.s > n
        · have HRn : Hid (R = n) := hidden (by have := HR.out; split at this <;> omega)
          go_enter Try.func92, Try.ntmps92
          go_wp2_with (first | (go_at_call 32; refine (HO.out _ (hBA.out _)).mono ?_; rintro e w1 ⟨rfl, HB1⟩) | fail)
          go_ret
          exact ⟨by rw [HRn.out]; rfl, HB1⟩
        · have HRn : Hid (R = d.s) := hidden (by have := HR.out; split at this <;> omega)
          go_enter Try.func92, Try.ntmps92
          go_wp2_with (first | (go_at_call 32; refine (HO.out _ (hBA.out _)).mono ?_; rintro e w1 ⟨rfl, HB1⟩) | fail)
          go_ret
          exact ⟨by rw [HRn.out]; rfl, HB1⟩
end Go.Proofs.Ytilfgbcbodjegaa
