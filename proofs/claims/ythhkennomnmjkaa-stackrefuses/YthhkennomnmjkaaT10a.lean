/- The document's formats and locals: contracts of grottoref10's up, Format, Slots and Locals. -/
import Derived.Test.YthhkennomnmjkaaS10q
namespace Go.Proofs.Ythhkennomnmjkaa
open Go.RowKit
set_option maxHeartbeats 1000000
set_option maxRecDepth 100000
set_option linter.unusedVariables false

theorem upN_iff (x k n : Nat) (h : n = 1 ∨ n = 2 ∨ n = 4) (h1 : x ≤ k) (h2 : k ≤ upN x n) : k % n = 0 ↔ k = upN x n := by
  rcases h with rfl | rfl | rfl
  · rw [upN_one] at *; omega
  · rw [upN_two] at *; omega
  · rw [upN_four] at *; omega
theorem dup_any (x n : Nat) (w : World) (h : n = 1 ∨ n = 2 ∨ n = 4) (hx : x ≤ 4294967296000) :
    Calls Try.prog 86 #[.int .i64 x, .int .i64 n] w fun e w' => e = .returned (.int .i64 (upN x n)) ∧ w' = w := by
  have hu := upN_bd x n h
  have hn0 : ¬ (n : Int) = 0 := by omega
  have hn1 : ((n : Int) == 0) = false := by simpa using hn0
  have HI := hidden fun k => upN_iff x k n h
  have hxU : x ≤ upN x n := hu.1
  have hUx : upN x n ≤ x + 3 := hu.2.1
  clear hu
  generalize upN x n = U at *
  go_enter Try.func86, Try.ntmps86
  go_wp2
  go_loopw [0] (fun i wr => ∃ k : Nat, x ≤ k ∧ k ≤ U ∧ i = .int .i64 k ∧ wr = w) (fun i _ => U - (intOf i).toNat)
  case atStart => exact ⟨x, by omega, hxU, rfl, rfl⟩
  case round =>
    obtain ⟨k, h1, h2, rfl, rfl⟩ := hrel
    have hi := HI.out k h1 h2
    have hm : (k : Int).tmod (n : Int) = ((k % n : Nat) : Int) := by rw [Int.tmod_eq_emod_of_nonneg (by omega)]; omega
    have hml : k % n < n := Nat.mod_lt _ (by omega)
    have hw : IntKind.i64.wrap ((k % n : Nat) : Int) = ((k % n : Nat) : Int) := by rw [IntKind.wrap_i64]; omega
    by_cases e : k = U
    · have e0 : k % n = 0 := hi.2 e
      rw [e0] at hm hw
      subst e
      clear hi e0
      go_wp2
      go_ret
      exact ⟨rfl, rfl⟩
    · have e0 : ¬ k % n = 0 := fun h => e (hi.1 h)
      generalize k % n = M at *
      have q1 : ¬ (M : Int) = 0 := by omega
      have q2 : ((M : Int) == 0) = false := by simpa using e0
      have hw1 : IntKind.i64.wrap ((k : Int) + 1) = (k : Int) + 1 := by rw [IntKind.wrap_i64]; omega
      clear hi
      go_wp2
      go_roundw
      case rel => exact ⟨k + 1, by omega, by omega, int_eq (by omega), trivial⟩
      case measure => simp [intOf]; omega
theorem dup4_any (x : Nat) (w : World) (hx : x ≤ 4294967296000) :
    Calls Try.prog 86 #[.int .i64 x, .int .i64 4] w fun e w' => e = .returned (.int .i64 (upN x 4)) ∧ w' = w := dup_any x 4 w (by simp) hx
theorem dfmt_any (a : Option Addr) (n c : Nat) (zs : List Int) (w : World) (h : Reads w a n c zs) (hb : OkB zs) (hn : n ≤ 2000000) :
    Calls Try.prog 85 #[.slice a n c] w fun e w' => e = .returned (.int .i64 (fmtL zs)) ∧ Dr w w' := by
  have hz := hidden h.1
  have HR := hidden h
  have HO := hidden hb
  clear h hb
  go_enter Try.func85, Try.ntmps85
  go_wp2
  go_loopw [3] (fun i w' => ∃ k : Nat, 2 * k ≤ n + 1 ∧ i = .int .i64 k ∧ Hid (fmtL zs = fmtF zs (2 * k)) ∧ Hid (Dr w w')) (fun i _ => n + 2 - (intOf i).toNat)
  case atStart => exact ⟨0, by omega, rfl, (fmtF_zero zs).symm, Dr.refl _⟩
  case round =>
    obtain ⟨k, hk, rfl, HF, HB⟩ := hrel
    have hw0 : IntKind.i64.wrap (2 * (k : Int)) = 2 * (k : Int) := by rw [IntKind.wrap_i64]; omega
    have hw : IntKind.i64.wrap (2 * (k : Int) + 1) = 2 * (k : Int) + 1 := by rw [IntKind.wrap_i64]; omega
    by_cases hlt : 2 * k + 1 < n
    · obtain ⟨g, o, rfl, hB⟩ := (HR.out.later HB.out.below).bs (by omega)
      have hl' : 2 * k + 1 < zs.length := by rw [hz.out]; exact hlt
      have c0 := hB.2 (2 * k) (by omega)
      have c1 := hB.2 (2 * k + 1) (by omega)
      have b0 := okb_at HO.out (2 * k)
      have b1 := okb_at HO.out (2 * k + 1)
      have fe := hidden (fmtF_end zs (2 * k) hl')
      have fb := hidden (fmtF_bad zs (2 * k) hl')
      have fn := hidden (fmtF_next zs (2 * k) hl')
      generalize zs.getD (2 * k) 0 = x at *
      generalize zs.getD (2 * k + 1) 0 = y at *
      clear hB hl'
      have d1 : 2 * (k : Int) + 1 < (n : Int) := by omega
      have hw2 : IntKind.i64.wrap (2 * (k : Int) + 2) = 2 * (k : Int) + 2 := by rw [IntKind.wrap_i64]; omega
      have hw3 : IntKind.i64.wrap ((k : Int) + 1) = (k : Int) + 1 := by rw [IntKind.wrap_i64]; omega
      have t0 : (2 * (k : Int)).toNat = 2 * k := by omega
      have t1 : (2 * (k : Int) + 1).toNat = 2 * k + 1 := by omega
      have c0' : wr.cell? ⟨g, o + (2 * (k : Int)).toNat, none⟩ = some (.int .u8 x) := by rw [t0]; exact c0
      have c1' : wr.cell? ⟨g, o + (2 * (k : Int) + 1).toNat, none⟩ = some (.int .u8 y) := by rw [t1]; exact c1
      by_cases e0 : x = 0 ∧ y = 0
      · obtain ⟨rfl, rfl⟩ := e0
        have hF := HF.out.trans (fe.out rfl rfl)
        have e2 : ((fmtL zs : Nat) : Int) = 2 * (k : Int) + 2 := by omega
        have E2 := hidden e2
        clear hF e2
        go_wp2
        go_quiet (fail)
        all_goals (try go_wp2)
        go_ret
        exact ⟨ret_int (by rw [E2.out]), HB.out.more _⟩
      · by_cases e1 : (x = 1 ∨ x = 2 ∨ x = 4) ∧ ¬ y = 0
        · have hF := hidden (HF.out.trans (fn.out e1))
          have q1 : (x == 0) = false := by simp; omega
          have q2 : (y == 0) = false := by simpa using e1.2
          obtain ⟨e1, e1y⟩ := e1
          rcases e1 with rfl | rfl | rfl
          all_goals (
            go_wp2
            go_quiet (fail)
            all_goals (try go_wp2)
            go_roundw
            case rel => exact ⟨k + 1, by omega, int_eq (by omega), by rw [show 2 * (k + 1) = 2 * k + 2 by omega]; exact hF, HB.out.more _⟩
            case measure => simp [intOf]; omega)
        · have hF := hidden (HF.out.trans (fb.out e0 e1))
          by_cases e2 : x = 1 ∨ x = 2 ∨ x = 4
          · obtain rfl : y = 0 := Classical.byContradiction fun h => e1 ⟨e2, h⟩
            rcases e2 with rfl | rfl | rfl
            all_goals (
              go_wp2
              go_quiet (fail)
              all_goals (try go_wp2)
              go_ret
              exact ⟨ret_int (by rw [hF.out]; rfl), HB.out.more _⟩)
          · have q1 : (x == 1) = false := by simp; omega
            have q2 : (x == 2) = false := by simp; omega
            have q3 : (x == 4) = false := by simp; omega
            by_cases q4 : x = 0
            · subst q4
              have q5 : (y == 0) = false := by simp; omega
              go_wp2
              go_quiet (fail)
              all_goals (try go_wp2)
              go_ret
              exact ⟨ret_int (by rw [hF.out]; rfl), HB.out.more _⟩
            · have q5 : (x == 0) = false := by simpa using q4
              go_wp2
              go_quiet (fail)
              all_goals (try go_wp2)
              go_ret
              exact ⟨ret_int (by rw [hF.out]; rfl), HB.out.more _⟩
    · have hF := hidden (HF.out.trans (fmtF_none zs (2 * k) (by rw [hz.out]; exact hlt)))
      have d1 : ¬ 2 * (k : Int) + 1 < (n : Int) := by omega
      go_wp2
      go_ret
      exact ⟨ret_int (by rw [hF.out]; rfl), HB.out⟩
end Go.Proofs.Ythhkennomnmjkaa
