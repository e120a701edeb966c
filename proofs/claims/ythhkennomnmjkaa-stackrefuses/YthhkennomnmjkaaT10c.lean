/- Contract of grottoref10's Locals; the walk of StackFormats. -/
import Derived.Test.YthhkennomnmjkaaT10b
import Derived.Test.YthhkennomnmjkaaS10r
namespace Go.Proofs.Ythhkennomnmjkaa
open Go.RowKit
set_option maxHeartbeats 1000000
set_option maxRecDepth 100000
set_option linter.unusedVariables false

theorem posF_up (zs : List Int) : posF zs = 8 + upN zs.length 4 := by
  unfold posF
  rw [upN_four, upN_four]
  omega
theorem dloc_any (a : Option Addr) (n c : Nat) (zs : List Int) (w : World) (h : Reads w a n c zs) (hb : OkB zs) (hn : n ≤ 100000) :
    Calls Try.prog 56 #[.slice a n c] w fun e w' => e = .returned (.tuple #[.int .i64 (locR zs).1, .int .i64 (locR zs).2.1, .int .i64 (locR zs).2.2]) ∧ Below w.heap.size w w' := by
  have hl := h.1
  have HF := hidden (dfmt_any a n c zs w h hb (by omega))
  unfold locR
  by_cases hz : n = 0
  · subst hz
    obtain rfl : zs = [] := List.eq_nil_of_length_eq_zero hl
    rw [if_pos (.inl rfl)]
    clear h hb HF
    go_enter Try.func56, Try.ntmps56
    go_wp2
    go_ret3
    exact ⟨rfl, Below.refl _ _⟩
  · have q0 : ((n : Int) == 0) = false := by simpa using hz
    have q1 : ¬ (n : Int) = 0 := by omega
    by_cases h1 : fmtL zs = zs.length
    · have h0 : fmtL zs ≠ 0 := by omega
      rw [if_neg (fun h => h.elim h0 (fun h2 => h2 h1))]
      have HS : Hid (∀ wx, Below w.heap.size w wx → Calls Try.prog 65 #[.slice a n c] wx fun e w' => ∃ a' l' c', e = .returned (.tuple #[.slice a' l' c', .int .i64 (szF zs)]) ∧ Below w.heap.size w w') := fun wx hbx => (dslots_any a n c zs wx (h.later hbx) hb hn h0 h1).mono (fun e w' hh => by
        obtain ⟨a', c', he, _, hb2⟩ := hh
        exact ⟨a', _, c', he, hbx.trans (hb2.mono hbx.size)⟩)
      have HU := hidden fun wx => dup4_any n wx (by omega)
      have hub := (upN_bd n 4 (by simp)).2.1
      have hw : IntKind.i64.wrap (8 + (upN n 4 : Int)) = 8 + (upN n 4 : Int) := by rw [IntKind.wrap_i64]; omega
      have HPO : Hid ((posF zs : Int) = 8 + (upN n 4 : Int)) := by
        rw [posF_up, hl]; show _ = _; omega
      rw [h1, hl] at HF
      clear h hb h0 h1 hub
      rw [HPO.out]
      generalize upN n 4 = U at *
      generalize szF zs = S at *
      go_enter Try.func56, Try.ntmps56
      go_wp2_with (first | (go_at_call 85; refine HF.out.mono ?_; rintro e w1 ⟨rfl, hd⟩) | (go_at_call 65; refine (HS.out _ hd.below).mono ?_; rintro e w2 ⟨a2, l2, c2, rfl, hb2⟩) | (go_at_call 86; refine (HU.out _).mono ?_; rintro e w3 ⟨rfl, rfl⟩))
      go_ret3
      exact ⟨rfl, hb2⟩
    · rw [if_pos (.inr h1)]
      rw [hl] at h1
      clear h hb
      generalize fmtL zs = F at *
      have q : ((F : Int) == (n : Int)) = false := by simp; omega
      have q2 : ¬ (F : Int) = (n : Int) := by omega
      go_enter Try.func56, Try.ntmps56
      go_wp2_with (first | (go_at_call 85; refine HF.out.mono ?_; rintro e w1 ⟨rfl, hd⟩))
      go_ret3
      exact ⟨rfl, hd.below⟩
end Go.Proofs.Ythhkennomnmjkaa
