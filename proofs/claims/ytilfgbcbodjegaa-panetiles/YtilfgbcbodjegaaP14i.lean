/- Layer 14, the program: how much a pair's measured child has. -/
import Derived.Test.YtilfgbcbodjegaaP14e
namespace Go.Proofs.Ytilfgbcbodjegaa
open Go.RowKit
set_option maxHeartbeats 1000000
set_option maxRecDepth 100000
set_option linter.unusedVariables false

/-- what the measured child has, ahead of the bound -/
def rawV (L : List Wd) (d : Wd) (n : Int) : Int := if 32 ≤ d.m then n * d.s / 100 else if (ofW L d.key).k = 0 ∨ (ofW L d.key).k = 1 then 0 else d.s
def msdV (L : List Wd) (d : Wd) (n : Int) : Int := if rawV L d n ≤ n then rawV L d n else n
theorem msd_bd (L : List Wd) (d : Wd) (n : Int) (h0 : 0 ≤ n) (hs : 0 ≤ d.s) : 0 ≤ msdV L d n ∧ msdV L d n ≤ n := by
  have hr : 0 ≤ rawV L d n := by
    unfold rawV
    split
    · exact Int.ediv_nonneg (Int.mul_nonneg h0 hs) (by omega)
    · split <;> omega
  unfold msdV
  split <;> omega
/-- a pair, as its window says it -/
structure PairW (d : Wd) : Prop where
  mt : mtdB d.m = true
  s0 : 0 ≤ d.s
  s1 : d.s ≤ 4294967295
theorem and32 {m : Int} (h : mtdB m = true) : bits .and .i64 m 32 = if 32 ≤ m then 32 else 0 := by
  rcases mtd_cases h with rfl | rfl | rfl | rfl | rfl | rfl | rfl | rfl <;> decide
set_option maxHeartbeats 4000000 in
theorem measured_any {B m : Nat} {v : Value} {s : Ps} {w : World} (h : PAt B w m v s) (ho : OkP s) (i : Nat) (hi : i < s.L.length) (g c : Nat) (hv : v = .slice (some ⟨g, 0, none⟩) s.L.length c) (hp : PairW s.L[i]) (n : Int) (n0 : 0 ≤ n) (n1 : n ≤ 1000) :
    Calls Try.prog 93 #[.pointer (some ⟨m, 0, none⟩), .pointer (some ⟨g, i * 8, none⟩), .int .i64 n] w fun e w' => e = .returned (.int .i64 (msdV s.L s.L[i] n)) ∧ Below w.heap.size w w' := by
  have hr : w.ownsRow B 79 8 (.slice (some ⟨g, 0, none⟩) s.L.length c) s.L.length (wdsV s.L) := by rw [← hv]; exact h.row
  obtain ⟨c0, c1, c2, c3, c4, c5, c6, c7⟩ := wrow_cells hr i hi
  have HK := hidden (kind_any h ho s.L[i].key)
  have hb32 := and32 hp.mt
  obtain ⟨s0, s1⟩ : 0 ≤ s.L[i].s ∧ s.L[i].s ≤ 4294967295 := ⟨hp.s0, hp.s1⟩
  obtain ⟨R, hR⟩ : ∃ R, msdV s.L s.L[i] n = R := ⟨_, rfl⟩
  rw [hR]
  have HR := hidden hR
  unfold msdV rawV at HR
  generalize s.L[i].m = M at *
  generalize s.L[i].s = S at *
  generalize s.L[i].key = KY at *
  generalize (ofW s.L KY).k = KD at *
  clear h hr hp hv hR c0 c1 c2 c3 c4
  by_cases h32 : 32 ≤ M
  · rw [if_pos h32] at hb32 HR
    obtain ⟨NS, hNS⟩ : ∃ NS, n * S = NS := ⟨_, rfl⟩
    have hns0 : 0 ≤ NS := by rw [← hNS]; exact Int.mul_nonneg n0 s0
    have hns1 : NS ≤ 4294967295000 := by
      rw [← hNS]
      exact Int.le_trans (Int.mul_le_mul_of_nonneg_right n1 s0) (by omega)
    rw [hNS] at HR
    obtain ⟨Q, hQ⟩ : ∃ Q, NS / 100 = Q := ⟨_, rfl⟩
    have hq0 : 0 ≤ Q := by omega
    have hq1 : Q ≤ 42949672950 := by omega
    rw [hQ] at HR
    by_cases hle : Q < n
    · rw [if_pos (by omega)] at HR
      have e1 : min Q n = Q := by omega
      go_enter Try.func93, Try.ntmps93
      go_wp2
      go_ret
      exact ⟨by rw [← HR.out]; rfl, Below.refl _ _⟩
    · have e1 : min Q n = n := by omega
      have hlt : n ≤ Q := by omega
      have HRn : Hid (R = n) := hidden (by have := HR.out; split at this <;> omega)
      go_enter Try.func93, Try.ntmps93
      go_wp2
      go_ret
      exact ⟨by rw [HRn.out]; rfl, Below.refl _ _⟩
  · rw [if_neg h32] at hb32 HR
    by_cases hk0 : KD = 0 ∨ KD = 1
    · rw [if_pos hk0] at HR
      have HR0 : Hid (R = 0) := hidden (by have := HR.out; split at this <;> omega)
      rcases hk0 with rfl | rfl
      all_goals
        by_cases hn : (0 : Int) < n
        · have e1 : min (0 : Int) n = 0 := by omega
          go_enter Try.func93, Try.ntmps93
          go_wp2_with (first | (go_at_call 15; refine HK.out.mono ?_; rintro e w1 ⟨rfl, hb1⟩; have HB1 := hidden hb1; clear hb1) | fail)
          go_ret
          exact ⟨by rw [HR0.out]; rfl, HB1.out⟩
        · obtain rfl : n = 0 := by omega
          go_enter Try.func93, Try.ntmps93
          go_wp2_with (first | (go_at_call 15; refine HK.out.mono ?_; rintro e w1 ⟨rfl, hb1⟩; have HB1 := hidden hb1; clear hb1) | fail)
          go_ret
          exact ⟨by rw [HR0.out]; rfl, HB1.out⟩
    · rw [if_neg hk0] at HR
      have k0 : (KD == 0) = false := by simp; omega
      have k1 : (KD == 1) = false := by simp; omega
      clear hk0
      by_cases hle : S < n
      · rw [if_pos (by omega)] at HR
        have e1 : min S n = S := by omega
        go_enter Try.func93, Try.ntmps93
        go_wp2_with (first | (go_at_call 15; refine HK.out.mono ?_; rintro e w1 ⟨rfl, hb1⟩; have HB1 := hidden hb1; clear hb1) | fail)
        go_ret
        exact ⟨by rw [← HR.out]; rfl, HB1.out⟩
      · have e1 : min S n = n := by omega
        have hlt : n ≤ S := by omega
        have HRn : Hid (R = n) := hidden (by have := HR.out; split at this <;> omega)
        go_enter Try.func93, Try.ntmps93
        go_wp2_with (first | (go_at_call 15; refine HK.out.mono ?_; rintro e w1 ⟨rfl, hb1⟩; have HB1 := hidden hb1; clear hb1) | fail)
        go_ret
        exact ⟨by rw [HRn.out]; rfl, HB1.out⟩
/-- how many the first child has -/
def fstV (L : List Wd) (d : Wd) (n : Int) : Int := if d.m % 2 = 0 then msdV L d n else n - msdV L d n
theorem fst_bd (L : List Wd) (d : Wd) (n : Int) (h0 : 0 ≤ n) (hs : 0 ≤ d.s) : 0 ≤ fstV L d n ∧ fstV L d n ≤ n := by
  have := msd_bd L d n h0 hs
  unfold fstV
  split <;> omega
theorem firstPart_any {B m : Nat} {v : Value} {s : Ps} {w : World} (h : PAt B w m v s) (ho : OkP s) (i : Nat) (hi : i < s.L.length) (g c : Nat) (hv : v = .slice (some ⟨g, 0, none⟩) s.L.length c) (hp : PairW s.L[i]) (n : Int) (n0 : 0 ≤ n) (n1 : n ≤ 1000) :
    Calls Try.prog 78 #[.pointer (some ⟨m, 0, none⟩), .pointer (some ⟨g, i * 8, none⟩), .int .i64 n] w fun e w' => e = .returned (.int .i64 (fstV s.L s.L[i] n)) ∧ Below w.heap.size w w' := by
  have HM := hidden (measured_any h ho i hi g c hv hp n n0 n1)
  have HC : Hid (∀ w1, Below w.heap.size w w1 → w1.cell? ⟨g, i * 8 + 5, none⟩ = some (.int .i64 s.L[i].m)) := hidden (fun w1 hb => by
    have q := (h.later hb).row
    rw [hv] at q
    exact (wrow_cells q i hi).2.2.2.2.2.1)
  have HMC := hidden fun wx => measuredChild_any s.L[i].m wx hp.mt
  obtain ⟨b0, b1⟩ := msd_bd s.L s.L[i] n n0 hp.s0
  unfold fstV
  generalize msdV s.L s.L[i] n = R at *
  generalize hMe : s.L[i].m = M at *
  obtain ⟨P, hP⟩ : ∃ P, M % 2 = P := ⟨_, rfl⟩
  rw [hP] at HMC
  rw [hP]
  have hP2 : P = 0 ∨ P = 1 := by omega
  clear h hp hv hMe hP
  rcases hP2 with rfl | rfl
  · rw [if_pos rfl]
    go_enter Try.func78, Try.ntmps78
    go_wp2_with (first | (go_at_call 93; refine HM.out.mono ?_; rintro e w1 ⟨rfl, hb1⟩; have HB1 := hidden hb1; have z1 := HC.out _ hb1; clear hb1) | (go_at_call 63; refine (HMC.out _).mono ?_; rintro e w2 ⟨rfl, e2⟩; rw [e2]; clear e2) | fail)
    go_ret
    exact ⟨rfl, HB1.out⟩
  · rw [if_neg (by omega)]
    go_enter Try.func78, Try.ntmps78
    go_wp2_with (first | (go_at_call 93; refine HM.out.mono ?_; rintro e w1 ⟨rfl, hb1⟩; have HB1 := hidden hb1; have z1 := HC.out _ hb1; clear hb1) | (go_at_call 63; refine (HMC.out _).mono ?_; rintro e w2 ⟨rfl, e2⟩; rw [e2]; clear e2) | fail)
    go_ret
    exact ⟨rfl, HB1.out⟩
end Go.Proofs.Ytilfgbcbodjegaa
