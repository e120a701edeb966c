/- Layer 14, the document: what cannot be opened. -/
import Derived.Test.YtilfgbcbodjegaaR14c
namespace Go.Proofs.Ytilfgbcbodjegaa
open Go.RowKit
set_option maxHeartbeats 1000000
set_option maxRecDepth 100000
set_option linter.unusedVariables false

/-- why a window cannot be opened so, in the document -/
def mayD (s : Ps) (split method kind : Int) : Int :=
  if ¬ (kind = 1 ∨ kind = 2 ∨ kind = 3) then 1 else if split = 0 then (if s.L.length = 0 then 0 else 6) else if hasB s.L split = false then 5 else if mtdB method = false then 1 else if 62 < s.L.length then 4 else 0
theorem mayD_mayE (s : Ps) (split method kind : Int) (h : s.root = 0 ↔ s.L.length = 0) : mayD s split method kind = mayE s split method kind := by
  unfold mayD mayE
  simp only [h]
theorem ixW_has {L : List Wd} {x : Int} (h : hasB L x = true) : ∃ i : Nat, i < L.length ∧ ixW L x = i := by
  rcases ixW_of L x with ⟨i, hi, h1, _⟩ | ⟨_, _, h3⟩
  · exact ⟨i, hi, h1⟩
  · obtain ⟨d, hd, e⟩ := hasB_iff.1 h
    exact absurd e (h3 d hd)
theorem ixW_none {L : List Wd} {x : Int} (h : hasB L x = false) : ixW L x = -1 := by
  rcases ixW_of L x with ⟨i, hi, _, _, h3⟩ | ⟨h1, _⟩
  · exact absurd h3 (hasB_no.1 h _ (List.getElem_mem hi))
  · exact h1
set_option maxHeartbeats 4000000 in
theorem dopen_bad {B m : Nat} {v : Value} {s : Ps} {w : World} (h : QAt B w m v s) (hn : s.L.length ≤ 1000) (split method size kind : Int) (hE : mayD s split method kind ≠ 0) :
    Calls Try.prog 57 #[.pointer (some ⟨m, 0, none⟩), .int .i64 split, .int .i64 method, .int .u32 size, .int .i64 kind] w fun e w' => e = .returned (.tuple #[.int .i64 0, .int .i64 (mayD s split method kind)]) ∧ w' = w := by
  have HA := hidden (dat_any h hn split)
  obtain ⟨d0, d1, d2, d3, d5⟩ := h.cells
  obtain ⟨va, vc, hv⟩ := own_slice h.row
  subst hv
  have HM := hidden fun wx => dmethod_any method wx
  obtain ⟨E, hEE⟩ : ∃ E, mayD s split method kind = E := ⟨_, rfl⟩
  rw [hEE] at hE ⊢
  unfold mayD at hEE
  by_cases hk : kind = 1 ∨ kind = 2 ∨ kind = 3
  · rw [if_neg (fun q => q hk)] at hEE
    have k1 : ¬ kind < 1 := by omega
    have k2 : ¬ kind > 3 := by omega
    by_cases hs : split = 0
    · rw [if_pos hs] at hEE
      subst hs
      by_cases hl : s.L.length = 0
      · rw [if_pos hl] at hEE
        exact absurd hEE.symm hE
      · rw [if_neg hl] at hEE
        subst hEE
        have l1 : (s.L.length : Int) > 0 := by omega
        clear h hE HA HM
        go_enter Try.func57, Try.ntmps57
        go_wp2
        go_ret2
        exact ⟨rfl, rfl⟩
    · rw [if_neg hs] at hEE
      have q0 : (split == 0) = false := by simp [hs]
      have q1 : (split != 0) = true := by simp [hs]
      by_cases hh : hasB s.L split = false
      · rw [if_pos hh] at hEE
        subst hEE
        rw [ixW_none hh] at HA
        clear h hE HM hh hs
        go_enter Try.func57, Try.ntmps57
        go_wp2_with (first | (go_at_call 53; refine HA.out.mono ?_; rintro e w1 ⟨rfl, e1⟩; rw [e1]; clear e1 w1) | fail)
        go_ret2
        exact ⟨rfl, rfl⟩
      · rw [if_neg hh] at hEE
        obtain ⟨i, hi, hix⟩ := ixW_has (show hasB s.L split = true by simpa using hh)
        rw [hix] at HA
        have l2 : ¬ (i : Int) < 0 := by omega
        by_cases hmt : mtdB method = false
        · rw [if_pos hmt] at hEE
          subst hEE
          rw [hmt] at HM
          clear h hE hh hs hix hmt
          go_enter Try.func57, Try.ntmps57
          go_wp2_with (first | (go_at_call 53; refine HA.out.mono ?_; rintro e w1 ⟨rfl, e1⟩; rw [e1]; clear e1 w1) | (go_at_call 75; refine (HM.out _).mono ?_; rintro e w2 ⟨rfl, e2⟩; rw [e2]; clear e2 w2) | fail)
          go_ret2
          exact ⟨rfl, rfl⟩
        · rw [if_neg hmt] at hEE
          rw [show mtdB method = true by simpa using hmt] at HM
          by_cases hl : 62 < s.L.length
          · rw [if_pos hl] at hEE
            subst hEE
            have l1 : (s.L.length : Int) > 62 := by omega
            clear h hE hh hs hix hmt
            go_enter Try.func57, Try.ntmps57
            go_wp2_with (first | (go_at_call 53; refine HA.out.mono ?_; rintro e w1 ⟨rfl, e1⟩; rw [e1]; clear e1 w1) | (go_at_call 75; refine (HM.out _).mono ?_; rintro e w2 ⟨rfl, e2⟩; rw [e2]; clear e2 w2) | fail)
            go_ret2
            exact ⟨rfl, rfl⟩
          · rw [if_neg hl] at hEE
            exact absurd hEE.symm hE
  · rw [if_pos hk] at hEE
    subst hEE
    by_cases k1 : kind < 1
    · clear h hE hk HA HM
      go_enter Try.func57, Try.ntmps57
      go_wp2
      go_ret2
      exact ⟨rfl, rfl⟩
    · have k2 : kind > 3 := by omega
      clear h hE hk HA HM
      go_enter Try.func57, Try.ntmps57
      go_wp2
      go_ret2
      exact ⟨rfl, rfl⟩
end Go.Proofs.Ytilfgbcbodjegaa
