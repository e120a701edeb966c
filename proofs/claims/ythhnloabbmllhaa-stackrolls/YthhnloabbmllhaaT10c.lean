/- Contract of grottoref10's Locals; the walk of StackFormats. -/
import Derived.Test.YthhnloabbmllhaaT10b
import Derived.Test.YthhnloabbmllhaaS10r
namespace Go.Proofs.Ythhnloabbmllhaa
open Go.RowKit
set_option maxHeartbeats 1000000
set_option maxRecDepth 100000
set_option linter.unusedVariables false

theorem posF_up (zs : List Int) : posF zs = 8 + upN zs.length 4 := by
  unfold posF
  rw [upN_four, upN_four]
  omega
theorem dloc_any (a : Option Addr) (n c : Nat) (zs : List Int) (w : World) (h : Reads w a n c zs) (hb : OkB zs) (hn : n ≤ 100000) :
    Calls Try.prog 9 #[.slice a n c] w fun e w' => e = .returned (.tuple #[.int .i64 (locR zs).1, .int .i64 (locR zs).2.1, .int .i64 (locR zs).2.2]) ∧ Below w.heap.size w w' := by
  have hl := h.1
  have HF := hidden (dfmt_any a n c zs w h hb (by omega))
  unfold locR
  by_cases hz : n = 0
  · subst hz
    obtain rfl : zs = [] := List.eq_nil_of_length_eq_zero hl
    rw [if_pos (.inl rfl)]
    clear h hb HF
    go_enter Try.func9, Try.ntmps9
    go_wp2
    go_ret3
    exact ⟨rfl, Below.refl _ _⟩
  · have q0 : ((n : Int) == 0) = false := by simpa using hz
    have q1 : ¬ (n : Int) = 0 := by omega
    by_cases h1 : fmtL zs = zs.length
    · have h0 : fmtL zs ≠ 0 := by omega
      rw [if_neg (fun h => h.elim h0 (fun h2 => h2 h1))]
      have HS : Hid (∀ wx, Below w.heap.size w wx → Calls Try.prog 41 #[.slice a n c] wx fun e w' => ∃ a' l' c', e = .returned (.tuple #[.slice a' l' c', .int .i64 (szF zs)]) ∧ Below w.heap.size w w') := fun wx hbx => (dslots_any a n c zs wx (h.later hbx) hb hn h0 h1).mono (fun e w' hh => by
        obtain ⟨a', c', he, _, hb2⟩ := hh
        exact ⟨a', _, c', he, hbx.trans (hb2.mono hbx.size)⟩)
      have HU := hidden fun wx => dup4_any n wx (by omega)
      have hub := (upN_bd n 4 (by simp)).2.1
      have hw : IntKind.i64.wrap (8 + (upN n 4 : Int)) = 8 + (upN n 4 : Int) := by rw [IntKind.wrap_i64]; omega
      have HPO : Hid ((posF zs : Int) = 8 + (upN n 4 : Int)) := by
        rw [posF_up, hl]; show _ = _; omega
      rw [h1, hl] at HF
      clear h hb h0 h1 hub
      rw [HPO.out]
      generalize upN n 4 = U at *
      generalize szF zs = S at *
      go_enter Try.func9, Try.ntmps9
      go_wp2_with (first | (go_at_call 40; refine HF.out.mono ?_; rintro e w1 ⟨rfl, hd⟩) | (go_at_call 41; refine (HS.out _ hd.below).mono ?_; rintro e w2 ⟨a2, l2, c2, rfl, hb2⟩) | (go_at_call 42; refine (HU.out _).mono ?_; rintro e w3 ⟨rfl, rfl⟩))
      go_ret3
      exact ⟨rfl, hb2⟩
    · rw [if_pos (.inr h1)]
      rw [hl] at h1
      clear h hb
      generalize fmtL zs = F at *
      have q : ((F : Int) == (n : Int)) = false := by simp; omega
      have q2 : ¬ (F : Int) = (n : Int) := by omega
      go_enter Try.func9, Try.ntmps9
      go_wp2_with (first | (go_at_call 40; refine HF.out.mono ?_; rintro e w1 ⟨rfl, hd⟩))
      go_ret3
      exact ⟨rfl, hd.below⟩
theorem stackFormats_walk (a : Option Addr) (len cap : Nat) (zs : List Int) (w : World) (hb : IsRow .u8 w a len cap zs) :
    Calls Try.prog 3 #[.slice a len cap] w fun e w' => e = .returned (.bool true) ∧ Below w.heap.size w w' := by
  obtain ⟨hr, ho, hlen⟩ := reads_of_row hb
  have HLV : Hid (∀ w1, Below w.heap.size w w1 → Calls Try.prog 7 #[] w1 fun e w' => e = .returned (.bool true) ∧ Below w.heap.size w w') := fun w1 hb => (live_any w1).mono (fun e w' hh => ⟨hh.1, hb.trans (hh.2.mono hb.size)⟩)
  have hb0 := Below.refl w.heap.size w
  by_cases hl : len ≤ 8192
  · have HP := hidden (kloc_any a len cap _ w hr ho (by omega))
    have HD : Hid (∀ w1, Below w.heap.size w w1 → Calls Try.prog 9 #[.slice a len cap] w1 fun e w' => e = .returned (.tuple #[.int .i64 (locR (zs.take len)).1, .int .i64 (locR (zs.take len)).2.1, .int .i64 (locR (zs.take len)).2.2]) ∧ Below w.heap.size w w') := fun w1 hb1 => (dloc_any a len cap _ w1 (hr.later hb1) ho (by omega)).mono (fun e w' hh => ⟨hh.1, hb1.trans (hh.2.mono hb1.size)⟩)
    have d : ¬ (len : Int) > 8192 := by omega
    clear hb hr ho
    generalize (locR (zs.take len)).1 = P at *
    generalize (locR (zs.take len)).2.1 = S at *
    generalize (locR (zs.take len)).2.2 = E at *
    go_enter Try.func3, Try.ntmps3
    go_wp2_with (first | (go_at_call 8; refine HP.out.mono ?_; rintro e w1 ⟨rfl, hb1⟩) | (go_at_call 9; refine (HD.out _ hb1).mono ?_; rintro e w2 ⟨rfl, hb2⟩) | (go_at_call 10; refine (num10 _ _).mono ?_; rintro e w3 ⟨rfl, rfl⟩) | (go_at_call 7; refine (HLV.out _ hb2).mono ?_; rintro e wl ⟨rfl, hbl⟩))
    go_ret
    exact ⟨rfl, hbl⟩
  · clear hb hr ho
    have d : (len : Int) > 8192 := by omega
    go_enter Try.func3, Try.ntmps3
    go_wp2_with (first | (go_at_call 7; refine (HLV.out _ hb0).mono ?_; rintro e wl ⟨rfl, hbl⟩))
    go_ret
    exact ⟨rfl, hbl⟩
end Go.Proofs.Ythhnloabbmllhaa
