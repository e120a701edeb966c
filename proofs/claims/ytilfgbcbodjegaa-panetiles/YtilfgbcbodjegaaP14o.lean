/- Layer 14, the program: what is below a window. -/
import Derived.Test.YtilfgbcbodjegaaP14e
namespace Go.Proofs.Ytilfgbcbodjegaa
open Go.RowKit
set_option maxHeartbeats 1000000
set_option maxRecDepth 100000
set_option linter.unusedVariables false

/-- is it top, or does one come to top going up k times at the most? -/
def upB (L : List Wd) : Nat → Int → Int → Bool
  | 0, _, _ => false
  | k + 1, x, top => if x = 0 then false else if x = top then true else upB L k (ofW L x).p top
/-- one comes to the top's end, going up k times at the most -/
def Ends (L : List Wd) : Nat → Int → Prop
  | 0, x => x = 0
  | k + 1, x => x = 0 ∨ Ends L k (ofW L x).p
theorem upB_zero (L : List Wd) (k : Nat) (top : Int) : upB L k 0 top = false := by
  cases k with
  | zero => rfl
  | succ k => unfold upB; rw [if_pos rfl]
/-- how often one goes up -/
def depF (L : List Wd) : Nat → Int → Nat
  | 0, _ => 0
  | k + 1, x => if x = 0 then 0 else 1 + depF L k (ofW L x).p
theorem dep_stable (L : List Wd) : ∀ (j K : Nat) (z : Int), Ends L j z → j ≤ K → depF L K z = depF L j z
  | 0, K, z, h, _ => by
    have h0 : z = 0 := h
    subst h0
    cases K with
    | zero => rfl
    | succ K => unfold depF; rw [if_pos rfl]
  | j + 1, K, z, h, hK => by
    obtain ⟨K, rfl⟩ : ∃ K', K = K' + 1 := ⟨K - 1, by omega⟩
    unfold depF
    by_cases h0 : z = 0
    · rw [if_pos h0, if_pos h0]
    · rw [if_neg h0, if_neg h0, dep_stable L j K _ (h.resolve_left h0) (by omega)]
theorem dep_less (L : List Wd) (j K : Nat) (z : Int) (h : Ends L (j + 1) z) (h0 : z ≠ 0) (hK : j + 1 ≤ K) : depF L K (ofW L z).p < depF L K z := by
  have hp : Ends L j (ofW L z).p := h.resolve_left h0
  rw [dep_stable L (j + 1) K z h hK, dep_stable L j K _ hp (by omega)]
  show _ < if z = 0 then 0 else 1 + depF L j (ofW L z).p
  rw [if_neg h0]
  omega
set_option maxHeartbeats 4000000 in
theorem isBelow_any {B m : Nat} {v : Value} {s : Ps} {w : World} (h : PAt B w m v s) (ho : OkP s) (x top : Int) (k : Nat) (he : Ends s.L k (ofW s.L x).p) :
    Calls Try.prog 64 #[.pointer (some ⟨m, 0, none⟩), .int .i64 x, .int .i64 top] w fun e w' => e = .returned (.bool (upB s.L (k + 1) (ofW s.L x).p top)) ∧ Below w.heap.size w w' := by
  have HP : Hid (∀ y w1, Below w.heap.size w w1 → Calls Try.prog 21 #[.pointer (some ⟨m, 0, none⟩), .int .i64 y] w1 fun e w' => e = .returned (.int .i64 (ofW s.L y).p) ∧ Hid (Below w.heap.size w w')) := hidden (fun y w1 hb => (parent_any (h.later hb) ho y).mono (fun e w' hh => ⟨hh.1, hidden (hb.trans (hh.2.mono hb.size))⟩))
  obtain ⟨D, hD⟩ : ∃ D, upB s.L (k + 1) (ofW s.L x).p top = D := ⟨_, rfl⟩
  rw [hD]
  have HPX := hidden (HP.out x w (Below.refl _ _))
  obtain ⟨y, hy⟩ : ∃ y, (ofW s.L x).p = y := ⟨_, rfl⟩
  rw [hy] at HPX he hD
  have HD := hidden hD
  have HE := hidden he
  clear h hy he hD
  generalize hL : s.L = L at *
  go_enter Try.func64, Try.ntmps64
  go_upto_region 2 with (first | (go_at_call 21; refine HPX.out.mono ?_; rintro e w1 ⟨rfl, HB1⟩) | fail)
  go_loopw [7] (fun a w' => ∃ (z : Int) (j : Nat), a = .int .i64 z ∧ Hid (Ends L j z) ∧ Hid (upB L (j + 1) z top = D) ∧ Hid (Below w.heap.size w w') ∧ Hid (j ≤ k)) (fun a _ => depF L k (intOf a))
  case atStart => exact ⟨y, k, rfl, HE, HD, HB1, hidden (Nat.le_refl _)⟩
  case round =>
    obtain ⟨z, j, rfl, HEz, HDz, HB, HJ⟩ := hrel
    by_cases h0 : z = 0
    · subst h0
      have HF : Hid (D = false) := hidden (by rw [← HDz.out]; exact upB_zero _ _ _)
      go_wp2
      go_ret
      exact ⟨by rw [HF.out]; rfl, HB.out⟩
    · have q0 : (z == 0) = false := by simp [h0]
      by_cases ht : z = top
      · have q1 : (z == top) = true := by simp [ht]
        have HF : Hid (D = true) := hidden (by rw [← HDz.out]; unfold upB; rw [if_neg h0, if_pos ht])
        clear ht
        go_wp2
        go_ret
        exact ⟨by rw [HF.out]; rfl, HB.out⟩
      · have q1 : (z == top) = false := by simp [ht]
        obtain ⟨j, rfl⟩ : ∃ j', j = j' + 1 := ⟨j - 1, by
          cases j with
          | zero => exact absurd HEz.out h0
          | succ j => rfl⟩
        have HE2 : Hid (Ends L j (ofW L z).p) := hidden (HEz.out.resolve_left h0)
        have HD2 : Hid (upB L (j + 1) (ofW L z).p top = D) := hidden (by
          have q := HDz.out
          rw [← q]
          conv => rhs; unfold upB
          rw [if_neg h0, if_neg ht])
        have HM := hidden (dep_less L j k z HEz.out h0 HJ.out)
        have HPZ := hidden (HP.out z wr HB.out)
        generalize (ofW L z).p = PZ at *
        clear ht h0
        go_wp2_with (first | (go_at_call 21; refine HPZ.out.mono ?_; rintro e w2 ⟨rfl, HB2⟩) | fail)
        go_roundw
        case rel => exact ⟨PZ, j, rfl, HE2, HD2, HB2, hidden (by have := HJ.out; omega)⟩
        case measure => simpa [intOf] using HM.out
end Go.Proofs.Ytilfgbcbodjegaa
