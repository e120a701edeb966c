/- Contracts of the document's Sum and at (package grottoref07). -/
import Derived.Test.YtpgppdkbkkljnaaH7r
import Derived.Deep.QuietTactic
import Derived.BigQuiet
namespace Go.Proofs.Ytpgppdkbkkljnaa
open Go.RowKit
set_option maxHeartbeats 1000000
set_option maxRecDepth 100000
set_option linter.unusedVariables false

theorem int_eq {k : IntKind} {a b : Int} (h : a = b) : Value.int k a = .int k b := by rw [h]
theorem p3 : (256 : Int) ^ (3 - 0) = 16777216 := by decide
theorem p2 : (256 : Int) ^ (3 - 1) = 65536 := by decide
theorem p1 : (256 : Int) ^ (3 - 2) = 256 := by decide
theorem p0 (x : Int) : x * (256 : Int) ^ (3 - 3) = x := by simp
theorem rsum_some (g o L cap : Nat) (zs : List Int) (w : World) (h : Bs w g o L zs) (hb : OkB zs) (hm : L ≤ 9223372036854775807) :
    Calls Try.prog 38 #[.slice (some ⟨g, o, none⟩) L cap] w fun e w' => e = .returned (.int .u32 (sumV zs)) ∧ w' = w := by
  have hlen := h.1
  have g1 : (L : Int) ≤ 9223372036854775807 := by omega
  have hfin : Hid (sumV zs = bsum zs (L - L % 4)) := hidden (by unfold sumV; rw [hlen, show L - L % 4 = 4 * (L / 4) by omega, bsum_sum])
  have HS := hidden (bsum_succ zs)
  have HBD := hidden (bsum_bd zs)
  have HC := hidden h.2
  have HZ := hidden fun i => okb_at hb i
  have hl0 : (0 : Int) ≤ (L : Int) := by omega
  have hM : L - L % 4 ≤ L := by omega
  clear h hlen hb
  go_enter Try.func38, Try.ntmps38
  go_wp2
  go_loop [3, 4] (fun s p => ∃ k : Nat, k ≤ L - L % 4 ∧ s = .int .u32 (bsum zs k) ∧ p = .int .i64 (k : Int)) (fun _ p => L - (intOf p).toNat)
  case atStart => exact ⟨0, by omega, rfl, rfl⟩
  case round =>
    obtain ⟨k, hk, rfl, rfl⟩ := hrel
    have hbd := HBD.out k
    by_cases hr : k < L - L % 4
    · have hr' : (k : Int) < (L : Int) - (L : Int) % 4 := by omega
      have hkL : (k : Int) < (L : Int) := by omega
      have hkn : (0 : Int) ≤ (k : Int) := by omega
      have hcell := HC.out k (by omega)
      have hz := HZ.out k
      have hst := hidden (HS.out k)
      generalize zs.getD k 0 = Z at *
      generalize bsum zs k = S at *
      by_cases hs : k < 32 ∨ 36 ≤ k
      · rw [if_pos hs] at hst
        have hr4 : k % 4 = 0 ∨ k % 4 = 1 ∨ k % 4 = 2 ∨ k % 4 = 3 := by omega
        rcases hs with hs | hs
        · have hs' : (k : Int) < 32 := by omega
          rcases hr4 with hq | hq | hq | hq
          all_goals
            rw [hq] at hst
            first | rw [p3] at hst | rw [p2] at hst | rw [p1] at hst | rw [p0] at hst
            have hq' : (k : Int) % 4 = ((k % 4 : Nat) : Int) := by omega
            rw [hq] at hq'
            clear hq
            go_wp2
            try go_round
            all_goals first | exact ⟨⟨k + 1, by omega, int_eq hst.out.symm, by go_num⟩, by simp [intOf]; omega⟩ | exact ⟨k + 1, by omega, int_eq hst.out.symm, by go_num⟩ | (simp [intOf]; omega)
        · have hs' : (36 : Int) ≤ (k : Int) := by omega
          have hs2 : (32 : Int) ≤ (k : Int) := by omega
          rcases hr4 with hq | hq | hq | hq
          all_goals
            rw [hq] at hst
            first | rw [p3] at hst | rw [p2] at hst | rw [p1] at hst | rw [p0] at hst
            have hq' : (k : Int) % 4 = ((k % 4 : Nat) : Int) := by omega
            rw [hq] at hq'
            clear hq
            go_wp2
            try go_round
            all_goals first | exact ⟨⟨k + 1, by omega, int_eq hst.out.symm, by go_num⟩, by simp [intOf]; omega⟩ | exact ⟨k + 1, by omega, int_eq hst.out.symm, by go_num⟩ | (simp [intOf]; omega)
      · rw [if_neg hs] at hst
        have hs' : (32 : Int) ≤ (k : Int) := by omega
        have hs2 : (k : Int) < 36 := by omega
        go_wp2
        try go_round
        all_goals first | exact ⟨⟨k + 1, by omega, int_eq hst.out.symm, by go_num⟩, by simp [intOf]; omega⟩ | exact ⟨k + 1, by omega, int_eq hst.out.symm, by go_num⟩ | (simp [intOf]; omega)
    · have hke : k = L - L % 4 := by omega
      have hr' : (L : Int) - (L : Int) % 4 ≤ (k : Int) := by omega
      have HKE := hidden hke
      clear hke
      go_wp2
      go_ret
      refine ⟨?_, rfl⟩
      rw [hfin.out, ← HKE.out]
      rfl
theorem rsum_any (a : Option Addr) (L cap : Nat) (zs : List Int) (w : World) (h : Reads w a L cap zs) (hb : OkB zs) (hm : L ≤ 9223372036854775807) :
    Calls Try.prog 38 #[.slice a L cap] w fun e w' => e = .returned (.int .u32 (sumV zs)) ∧ w' = w := by
  by_cases h0 : L = 0
  · subst h0
    obtain rfl := List.eq_nil_of_length_eq_zero h.1
    clear h
    go_enter Try.func38, Try.ntmps38
    go_wp2
    go_rounds 1
    go_ret
    exact ⟨rfl, rfl⟩
  · obtain ⟨g, o, rfl, hB⟩ := h.bs (by omega)
    exact rsum_some g o L cap zs w hB hb hm
theorem rat_any (g o L cap p : Nat) (zs : List Int) (w : World) (h : Bs w g o L zs) (hb : OkB zs) (hp : p + 4 ≤ L) (hcap : L ≤ cap) (hm : L ≤ 1000012) :
    Calls Try.prog 55 #[.slice (some ⟨g, o, none⟩) L cap, .int .i64 (p : Int)] w fun e w' => e = .returned (.int .i64 (beV zs p 4)) ∧ w' = w := by
  have HB : Hid (Calls Try.prog 72 #[.slice (some ⟨g, o, none⟩) L cap, .int .i64 (p : Int), .int .i64 4] w fun e w' => e = .returned (.tuple #[.int .u32 (beV zs p 4), .int .i64 0]) ∧ w' = w) := hidden ((rbe_any g o L cap zs p 4 w (Or.inr (Or.inr rfl)) (by omega) (by omega) (by omega) hcap h.2 hb).mono (by
    rintro e w' ⟨h1, -, h3⟩
    have := h1 (by omega)
    rw [Int.toNat_natCast] at this
    exact ⟨this, h3⟩))
  have hv := beV_bd zs p hb
  generalize beV zs p 4 = V at *
  clear h
  go_enter Try.func55, Try.ntmps55
  go_wp2_with (go_at_call 72; refine HB.out.mono ?_; rintro e w9 ⟨rfl, hw⟩; obtain rfl := hw.symm)
  go_ret
  exact ⟨rfl, rfl⟩
end Go.Proofs.Ytpgppdkbkkljnaa
