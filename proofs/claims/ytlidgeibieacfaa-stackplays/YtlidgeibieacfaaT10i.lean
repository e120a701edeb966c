/- The document's Enter, whatever its stack; grottolaw10's begin behind no acts. -/
import Derived.Test.YtlidgeibieacfaaT10h
namespace Go.Proofs.Ytlidgeibieacfaa
open Go.RowKit
set_option maxHeartbeats 1000000
set_option maxRecDepth 100000
set_option linter.unusedVariables false

theorem dEnter_any (B m : Nat) (v : Value) (s : Ks) (fa : Option Addr) (n fc : Nat) (zs : List Int) (w : World) (h : DAt B w m v s) (hB : B ≤ w.heap.size) (ok : OkK s) (hr : Reads w fa n fc zs) (hz : OkB zs) (hn : n ≤ 100000) (hnt : ∀ x, fa = some x → ¬ TK m v x.block) :
    Calls Try.prog 31 #[.pointer (some ⟨m, 0, none⟩), .slice fa n fc] w fun e w' => e = .returned (.int .i64 (enterE s zs)) ∧ LeftD B w w' m v (enterS s zs) := by
  unfold enterS enterE
  by_cases h1 : (locR zs).2.2 ≠ 0 ∨ s.on = true ∧ stubE s ≠ 0
  · rw [if_pos h1, if_neg (by omega)]
    by_cases h0 : (locR zs).2.2 = 0
    · obtain ⟨h2, h3⟩ := h1.resolve_left (fun e => e h0)
      exact dEnter_stub B m v s fa n fc zs w h ok hr hz hn h0 h2 h3
    · exact dEnter_bad B m v s fa n fc zs w h hr hz hn h0
  · rw [if_neg h1]
    have h0 : (locR zs).2.2 = 0 := Classical.byContradiction fun e => h1 (.inl e)
    have hs : s.on = true → stubE s = 0 := fun hon => Classical.byContradiction fun e => h1 (.inr ⟨hon, e⟩)
    by_cases h2 : roomE s (posF zs + szF zs) ≠ 0
    · rw [if_pos h2, if_neg (by omega)]
      refine dEnter_over B m v s fa n fc zs w h ok hr hz hn h0 hs (fun h3 => h2 ?_)
      unfold roomE; rw [if_neg (by omega)]
    · rw [if_neg h2, if_pos rfl]
      have h3 : s.bs.length + (posF zs + szF zs) ≤ s.size := by
        unfold roomE at h2
        split at h2
        · simp at h2
        · omega
      obtain ⟨_, e2, e3⟩ := loc_zero h0
      have hl := hr.1
      have := fmtL_two e2
      cases fa with
      | none =>
        rcases hr.2.2 with ⟨_, h4, _⟩ | ⟨x, h4, _⟩
        · omega
        · cases h4
      | some fx => exact dEnter_good B m v s fx n fc zs w h hB ok hr hz hn (hnt fx rfl) h0 hs h3
/-- the law's format, and its stack -/
def fmt0 : List Int := [4, 1, 1, 2, 0, 0]
def begS : Ks := enterS ⟨2048, [], 0, false⟩ fmt0
theorem okb_0 : OkB fmt0 := by
  intro c hc
  simp [fmt0] at hc
  omega
theorem begS_ok : OkK begS := ok_enter (ok_new 2048 (by omega)) okb_0
theorem beg_E : enterE ⟨2048, [], 0, false⟩ fmt0 = 0 := by kernel_rfl
end Go.Proofs.Ytlidgeibieacfaa
