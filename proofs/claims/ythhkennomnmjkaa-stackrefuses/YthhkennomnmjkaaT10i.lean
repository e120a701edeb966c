/- The document's Enter, whatever its stack; grottolaw10's begin behind no acts. -/
import Derived.Test.YthhkennomnmjkaaT10h
namespace Go.Proofs.Ythhkennomnmjkaa
open Go.RowKit
set_option maxHeartbeats 1000000
set_option maxRecDepth 100000
set_option linter.unusedVariables false

theorem dEnter_any (B m : Nat) (v : Value) (s : Ks) (fa : Option Addr) (n fc : Nat) (zs : List Int) (w : World) (h : DAt B w m v s) (hB : B ≤ w.heap.size) (ok : OkK s) (hr : Reads w fa n fc zs) (hz : OkB zs) (hn : n ≤ 100000) (hnt : ∀ x, fa = some x → ¬ TK m v x.block) :
    Calls Try.prog 23 #[.pointer (some ⟨m, 0, none⟩), .slice fa n fc] w fun e w' => e = .returned (.int .i64 (enterE s zs)) ∧ LeftD B w w' m v (enterS s zs) := by
  unfold enterS enterE
  by_cases h1 : (locR zs).2.2 ≠ 0 ∨ s.on = true ∧ stubE s ≠ 0
  · rw [if_pos h1, if_neg (by omega)]
    by_cases h0 : (locR zs).2.2 = 0
    · obtain ⟨h2, h3⟩ := h1.resolve_left (fun e => e h0)
      exact dEnter_stub B m v s fa n fc zs w h ok hr hz hn h0 h2 h3
    · exact dEnter_bad B m v s fa n fc zs w h hr hz hn h0
  · rw [if_neg h1]
    have h0 : (locR zs).2.2 = 0 := Classical.byContradiction fun e => h1 (.inl e)
    have hs : s.on = true → stubE s = 0 := fun hon => Classical.byContradiction fun e => h1 (.inr ⟨hon, e⟩)
    by_cases h2 : roomE s (posF zs + szF zs) ≠ 0
    · rw [if_pos h2, if_neg (by omega)]
      refine dEnter_over B m v s fa n fc zs w h ok hr hz hn h0 hs (fun h3 => h2 ?_)
      unfold roomE; rw [if_neg (by omega)]
    · rw [if_neg h2, if_pos rfl]
      have h3 : s.bs.length + (posF zs + szF zs) ≤ s.size := by
        unfold roomE at h2
        split at h2
        · simp at h2
        · omega
      obtain ⟨_, e2, e3⟩ := loc_zero h0
      have hl := hr.1
      have := fmtL_two e2
      cases fa with
      | none =>
        rcases hr.2.2 with ⟨_, h4, _⟩ | ⟨x, h4, _⟩
        · omega
        · cases h4
      | some fx => exact dEnter_good B m v s fx n fc zs w h hB ok hr hz hn (hnt fx rfl) h0 hs h3
/-- the law's format, and its stack -/
def fmt0 : List Int := [4, 1, 1, 2, 0, 0]
def begS : Ks := enterS ⟨2048, [], 0, false⟩ fmt0
theorem okb_0 : OkB fmt0 := by
  intro c hc
  simp [fmt0] at hc
  omega
theorem begS_ok : OkK begS := ok_enter (ok_new 2048 (by omega)) okb_0
theorem beg_E : enterE ⟨2048, [], 0, false⟩ fmt0 = 0 := by kernel_rfl
theorem format_any (w : World) : Calls Try.prog 22 #[] w fun e w' => e = .returned (.slice (some ⟨w.heap.size, 0, none⟩) 6 6) ∧ w' = w.alloc (.cells #[.int .u8 4, .int .u8 1, .int .u8 1, .int .u8 2, .int .u8 0, .int .u8 0] 5) := by
  go_enter Try.func22, Try.ntmps22
  go_wp2
  go_ret
  exact ⟨rfl, rfl⟩
theorem begin_nil (w : World) : Calls Try.prog 6 #[.slice none 0 0] w fun e w' => ∃ m, e = .returned (.pointer (some ⟨m, 0, none⟩)) ∧ RunK w.heap.size m w w' begS := by
  have HNW := hidden (RunK.new w.heap.size 2048 w w (by omega) (by omega) (Below.refl _ _) (Nat.le_refl _))
  have HEN : Hid (∀ w1, RunK w.heap.size w.heap.size w w1 ⟨2048, [], 0, false⟩ → Calls Try.prog 15 #[.pointer (some ⟨w.heap.size, 0, none⟩), .slice (some ⟨w1.heap.size, 0, none⟩) 6 6] (w1.alloc (.cells #[.int .u8 4, .int .u8 1, .int .u8 1, .int .u8 2, .int .u8 0, .int .u8 0] 5)) fun e w' => e = .returned (.int .i64 0) ∧ Hid (RunK w.heap.size w.heap.size w w' begS)) := fun w1 r => by
    have := RunK.enterNew r (ok_new 2048 (by omega)) fmt0 okb_0 (by decide)
    rw [beg_E] at this
    exact this
  have HDE : Hid (∀ w1, RunK w.heap.size w.heap.size w w1 begS → Calls Try.prog 23 #[.pointer (some ⟨w1.heap.size, 0, none⟩), .slice (some ⟨w1.heap.size + 1, 0, none⟩) 6 6] ((w1.alloc (.cells #[.slice none 0 0, .int .i64 2048, .int .i64 0, .bool false] 37)).alloc (.cells #[.int .u8 4, .int .u8 1, .int .u8 1, .int .u8 2, .int .u8 0, .int .u8 0] 5)) fun e w' => (∃ x : Int, e = .returned (.int .i64 x)) ∧ Hid (RunK w.heap.size w.heap.size w w' begS)) := fun w1 r => by
    have hb1 : Below w1.heap.size w1 (w1.alloc (.cells #[.slice none 0 0, .int .i64 2048, .int .i64 0, .bool false] 37)) := (Below.refl _ _).alloc (Nat.le_refl _) _
    have hd : DAt w1.heap.size (w1.alloc (.cells #[.slice none 0 0, .int .i64 2048, .int .i64 0, .bool false] 37)) w1.heap.size (.slice none 0 0) ⟨2048, [], 0, false⟩ := ⟨Nat.le_refl _, heap_alloc_new _ _, World.ownsRow_nil _ _ _ _⟩
    generalize hw2 : w1.alloc (.cells #[.slice none 0 0, .int .i64 2048, .int .i64 0, .bool false] 37) = w2 at *
    have hsz2 : w2.heap.size = w1.heap.size + 1 := by rw [← hw2]; simp
    have hb2 : Below w2.heap.size w2 (w2.alloc (.cells (bytesV fmt0).toArray 5)) := (Below.refl _ _).alloc (Nat.le_refl _) _
    have ho := owns_new w2 0 fmt0 (Nat.zero_le _) (by unfold maxLen; decide)
    have hb12 := hb1.trans (hb2.mono hb1.size)
    have := dEnter_any w1.heap.size w1.heap.size _ _ (some ⟨w2.heap.size, 0, none⟩) 6 6 fmt0 _ (hd.later hb2) hb12.size (ok_new 2048 (by omega)) (own_reads ho) okb_0 (by omega) (fun x e hk => by
      cases e
      have := (hd.low _ hk).2
      simp at this)
    rw [hsz2] at this
    refine this.mono ?_
    rintro e w' ⟨rfl, v', g1, g2⟩
    refine ⟨⟨_, rfl⟩, r.later (hb12.trans (g2.below hb12.size (fun k e => ((hd.later hb2).low k e).1)))⟩
  go_enter Try.func6, Try.ntmps6
  go_wp2_with (first | (go_at_call 13; refine HNW.out.mono ?_; rintro e w1 ⟨rfl, r1⟩; have R1 := hidden r1; clear r1) | (go_at_call 14; refine (num10 _ _).mono ?_; rintro e wn ⟨rfl, rfl⟩) | (go_at_call 22; refine (format_any _).mono ?_; rintro e wf ⟨rfl, rfl⟩) | (go_at_call 15; refine (HEN.out _ R1.out).mono ?_; rintro e w2 ⟨rfl, r2⟩) | (go_at_call 23; refine (HDE.out _ r2.out).mono ?_; rintro e w3 ⟨⟨x, rfl⟩, r3⟩))
  go_loopw [6] (fun i wr => i = .int .i64 0 ∧ Hid (RunK w.heap.size w.heap.size w wr begS)) (fun _ _ => 0)
  case atStart => exact ⟨rfl, r3⟩
  case round =>
    obtain ⟨rfl, RR⟩ := hrel
    go_wp2
    go_ret
    exact ⟨_, rfl, RR.out⟩
end Go.Proofs.Ythhkennomnmjkaa
