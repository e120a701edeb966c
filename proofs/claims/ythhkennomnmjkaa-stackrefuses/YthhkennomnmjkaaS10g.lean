/- Contracts of package stack's inner methods: is a stub on top, the top values, the locals, and push. -/
import Derived.Test.YthhkennomnmjkaaS10f
namespace Go.Proofs.Ythhkennomnmjkaa
open Go.RowKit
set_option maxHeartbeats 1000000
set_option maxRecDepth 100000
set_option linter.unusedVariables false

theorem kstub_nil (w : World) : Calls Try.prog 47 #[.pointer none] w fun e w' => e = .returned (.int .i64 8) ∧ w' = w := by
  go_enter Try.func47, Try.ntmps47
  go_wp2
  go_ret
  exact ⟨rfl, rfl⟩
theorem kstub_any (m : Nat) (a : Option Addr) (c : Nat) (s : Ks) (w : World) (h : KC w m a c s) (ok : OkK s) :
    Calls Try.prog 47 #[.pointer (some ⟨m, 0, none⟩)] w fun e w' => e = .returned (.int .i64 (stubE s)) ∧ Dr w w' := by
  have hkc := h
  obtain ⟨c0, c1, c2, c3, _⟩ := h
  have hsz := ok.sz
  have hmo := ok.most
  unfold stubE
  cases hon : s.on with
  | false =>
    rw [if_neg (by simp)]
    rw [hon] at c3
    by_cases hz : s.bs = []
    · rw [if_pos hz]
      have hl : s.bs.length = 0 := by rw [hz]; rfl
      rw [hl] at c1
      clear hkc c0 c2 ok hz hl
      go_enter Try.func47, Try.ntmps47
      go_wp2
      go_quiet (fail)
      all_goals (try go_wp2)
      go_ret
      exact ⟨rfl, (Dr.refl _).more _⟩
    · rw [if_neg hz]
      have hl : s.bs.length ≠ 0 := fun e => hz (List.eq_nil_of_length_eq_zero e)
      clear hkc c0 c2 ok hz
      generalize s.bs.length = L at *
      have q : ((L : Int) == 0) = false := by simpa using hl
      have q2 : ¬ (L : Int) = 0 := by omega
      go_enter Try.func47, Try.ntmps47
      go_wp2
      go_quiet (fail)
      all_goals (try go_wp2)
      go_ret
      exact ⟨rfl, (Dr.refl _).more _⟩
  | true =>
    rw [if_pos rfl]
    obtain ⟨b1, b2, b3, b4, b5, b6⟩ := ok.bd hon
    have HC := hidden (kcount_any m a c s w hkc ok hon)
    rw [hon] at c3
    by_cases h1 : cnt s < 4
    · rw [if_pos h1]
      clear hkc c0 c1 c2 ok
      generalize cnt s = C at *
      have d : (C : Int) < 4 := by omega
      go_enter Try.func47, Try.ntmps47
      go_wp2_with (go_at_call 55; refine HC.out.mono ?_; rintro e w1 ⟨rfl, hd⟩)
      go_ret
      exact ⟨rfl, hd⟩
    · rw [if_neg h1]
      have HL : Hid (∀ w1, Dr w w1 → ∀ n, Calls Try.prog 83 #[.slice a s.bs.length c] (w1.drewN n) fun e w' => e = .returned (.int .u32 (nu s.bs (s.bs.length - 4))) ∧ w' = w1.drewN n) := fun w1 hd n => klast_any a _ c s.bs _ (hkc.later (hd.more n).below).rd ok.okb (by omega) (by omega)
      have hlt := nu_lt ok.okb (s.bs.length - 4)
      have HD : Hid (∀ w1, Dr w w1 → w1.cell? ⟨m, 1, none⟩ = some (.slice a s.bs.length c) ∧ w1.cell? ⟨m, 2, none⟩ = some (.int .i64 s.fr) ∧ w1.cell? ⟨m, 3, none⟩ = some (.bool true)) := fun w1 hd => ⟨cellLater hd.below c1, cellLater hd.below c2, cellLater hd.below c3⟩
      clear hkc c0 ok
      generalize nu s.bs (s.bs.length - 4) = X at *
      generalize s.bs.length = L at *
      generalize cnt s = C at *
      generalize s.fr = f at *
      have d : ¬ (C : Int) < 4 := by omega
      have hw : IntKind.i64.wrap (X : Int) = (X : Int) := by rw [IntKind.wrap_i64]; omega
      have q : ((L : Int) == 0) = false := by simp; omega
      have q2 : ¬ (L : Int) = 0 := by omega
      clear b1 b2 b3 b4 b5 b6 h1 hsz hmo hlt
      by_cases h2 : X = f
      · rw [if_pos h2]
        subst h2
        go_enter Try.func47, Try.ntmps47
        go_wp2_with (go_at_call 55; refine HC.out.mono ?_; rintro e w1 ⟨rfl, hd⟩; obtain ⟨k1, k2, k3⟩ := HD.out _ hd; have HL1 := hidden (HL.out _ hd))
        go_quiet (first | (go_at_call 83; exact Calls.quiet_of_same (HL1.out _)))
        all_goals (try go_wp2)
        go_ret
        exact ⟨rfl, hd.more _⟩
      · rw [if_neg h2]
        have q3 : ((X : Int) == (f : Int)) = false := by simp; omega
        have q4 : ¬ (X : Int) = (f : Int) := by omega
        go_enter Try.func47, Try.ntmps47
        go_wp2_with (go_at_call 55; refine HC.out.mono ?_; rintro e w1 ⟨rfl, hd⟩; obtain ⟨k1, k2, k3⟩ := HD.out _ hd; have HL1 := hidden (HL.out _ hd))
        go_quiet (first | (go_at_call 83; exact Calls.quiet_of_same (HL1.out _)))
        all_goals (try go_wp2)
        go_ret
        exact ⟨rfl, hd.more _⟩
theorem ktop_any (m g c n : Nat) (s : Ks) (w : World) (h : KC w m (some ⟨g, 0, none⟩) c s) (ok : OkK s) (hn : 4 * n ≤ s.bs.length) :
    Calls Try.prog 52 #[.pointer (some ⟨m, 0, none⟩), .int .i64 n] w fun e w' => (∃ p, e = .returned (.slice (some ⟨g, p, none⟩) (4 * n) (c - (s.bs.length - 4 * n))) ∧ (0 < n → p = s.bs.length - 4 * n)) ∧ Dr w w' := by
  obtain ⟨c0, c1, c2, c3, rd⟩ := h
  have hsz := ok.sz
  have hmo := ok.most
  have hc := rd.2.1
  clear ok rd c0 c2 c3
  generalize s.bs.length = L at *
  have hw1 : IntKind.i64.wrap (4 * (n : Int)) = 4 * (n : Int) := by rw [IntKind.wrap_i64]; omega
  have hw2 : IntKind.i64.wrap ((L : Int) - 4 * (n : Int)) = (L : Int) - 4 * (n : Int) := by rw [IntKind.wrap_i64]; omega
  obtain ⟨A, hA⟩ : ∃ A : Nat, A = L - 4 * n := ⟨_, rfl⟩
  have hA2 : (L : Int) - 4 * (n : Int) = (A : Int) := by omega
  rw [hA2] at hw2
  have e1 : L - A = 4 * n := by omega
  rw [← hA, ← e1]
  have HA := hidden hA
  have HE := hidden e1
  have hAL : A ≤ L := by omega
  clear hA e1 hn
  obtain ⟨p, hp, hpn⟩ : ∃ p, (if c = A then some (⟨g, 0, none⟩ : Addr) else some ⟨g, A, none⟩) = some ⟨g, p, none⟩ ∧ (0 < n → p = A) := by
    by_cases e : c = A
    · exact ⟨0, if_pos e, fun h => by have := HA.out; omega⟩
    · exact ⟨A, if_neg e, fun _ => rfl⟩
  have HPN := hidden hpn
  clear hpn
  go_enter Try.func52, Try.ntmps52
  go_wp2
  go_quiet (fail)
  all_goals (try go_wp2)
  go_ret
  exact ⟨⟨p, rfl, HPN.out⟩, (Dr.refl _).more _⟩
end Go.Proofs.Ythhkennomnmjkaa
