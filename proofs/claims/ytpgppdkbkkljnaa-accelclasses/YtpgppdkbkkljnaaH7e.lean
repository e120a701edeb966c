/- Contracts of package header's Sum, checkBytes and readNumbers for any bytes. -/
import Derived.Test.YtpgppdkbkkljnaaH7c
import Derived.Deep.QuietTactic
import Derived.BigQuiet
namespace Go.Proofs.Ytpgppdkbkkljnaa
open Go.RowKit
set_option maxHeartbeats 1000000
set_option maxRecDepth 100000
set_option linter.unusedVariables false

theorem hsum_some (g o L cap : Nat) (zs : List Int) (w : World) (h : Bs w g o L zs) (hb : OkB zs) (hcap : L ≤ cap) (hm : L ≤ 9223372036854775807) :
    Calls Try.prog 59 #[.slice (some ⟨g, o, none⟩) L cap] w fun e w' => e = .returned (.int .u32 (sumV zs)) ∧ w' = w := by
  have hlen := h.1
  have HN : Hid (∀ p : Nat, p + 4 ≤ L → Calls Try.prog 73 #[.slice (some ⟨g, o, none⟩) L cap, .int .i64 (p : Int)] w fun e w' => e = .returned (.int .u32 (beV zs p 4)) ∧ w' = w) := hidden fun p hp => hnum_any g o L cap p zs w h hb hp hcap (by omega)
  have g1 : (L : Int) ≤ 9223372036854775807 := by omega
  have hfin : Hid (sumV zs = sumTo zs (L / 4)) := hidden (by unfold sumV; rw [hlen])
  have HS := hidden (sumTo_succ zs)
  have HBD := hidden (sumTo_bd zs)
  have HBV := hidden fun p => beV_bd zs p hb
  clear h hlen hb
  go_enter Try.func59, Try.ntmps59
  go_wp2
  go_loop [3, 4] (fun s p => ∃ k : Nat, 4 * k ≤ L ∧ s = .int .u32 (sumTo zs k) ∧ p = .int .i64 (4 * (k : Int))) (fun _ p => L + 1 - (intOf p).toNat)
  case atStart => exact ⟨0, by omega, rfl, rfl⟩
  case round =>
    obtain ⟨k, hk, rfl, rfl⟩ := hrel
    have hbd := HBD.out k
    by_cases hr : 4 * k + 4 ≤ L
    · have hr' : (4 : Int) ≤ (L : Int) - 4 * (k : Int) := by omega
      by_cases h8 : k = 8
      · subst h8
        have hst : Hid (sumTo zs (8 + 1) = sumTo zs 8) := hidden (by rw [HS.out, if_pos rfl])
        go_wp2
        go_round
        case rel => exact ⟨8 + 1, by omega, by rw [hst.out], rfl⟩
        case measure => simp [intOf]; omega
      · have h8' : ((4 : Int) * (k : Int) != 32) = true := by simp; omega
        have hst : Hid (sumTo zs (k + 1) = (sumTo zs k + beV zs (4 * k) 4) % 4294967296) := hidden (by rw [HS.out, if_neg h8])
        have HC := hidden (HN.out (4 * k) (by omega))
        rw [show ((4 * k : Nat) : Int) = 4 * (k : Int) by omega] at HC
        have hv := HBV.out (4 * k)
        generalize sumTo zs k = S at *
        generalize beV zs (4 * k) 4 = V at *
        go_wp2_with (go_at_call 73; refine HC.out.mono ?_; rintro e w9 ⟨rfl, hw⟩; obtain rfl := hw.symm)
        go_round
        case rel => exact ⟨k + 1, by omega, by rw [hst.out], by go_num⟩
        case measure => simp [intOf]; omega
    · have hr' : (L : Int) - 4 * (k : Int) < 4 := by omega
      have hk2 : k = L / 4 := by omega
      go_wp2
      go_ret
      refine ⟨?_, rfl⟩
      rw [hfin.out, ← hk2]
      rfl
theorem hsum_any (a : Option Addr) (L cap : Nat) (zs : List Int) (w : World) (h : Reads w a L cap zs) (hb : OkB zs) (hm : L ≤ 9223372036854775807) :
    Calls Try.prog 59 #[.slice a L cap] w fun e w' => e = .returned (.int .u32 (sumV zs)) ∧ w' = w := by
  by_cases h0 : L = 0
  · subst h0
    obtain rfl := List.eq_nil_of_length_eq_zero h.1
    clear h
    go_enter Try.func59, Try.ntmps59
    go_wp2
    go_rounds 1
    go_ret
    exact ⟨rfl, rfl⟩
  · obtain ⟨g, o, rfl, hB⟩ := h.bs (by omega)
    exact hsum_some g o L cap zs w hB hb h.2.1 hm
end Go.Proofs.Ytpgppdkbkkljnaa
