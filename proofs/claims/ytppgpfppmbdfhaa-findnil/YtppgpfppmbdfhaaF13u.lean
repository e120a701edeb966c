/- Layer 13: the walk of FindNil. -/
import Derived.Test.YtppgpfppmbdfhaaF13D
namespace Go.Proofs.Ytppgpfppmbdfhaa
open Go.RowKit
set_option maxHeartbeats 1000000
set_option maxRecDepth 100000
set_option linter.unusedVariables false

theorem findNil_walk (s : Sr) (w : World) (ok : s.ok) : Calls Try.prog 7 #[.agg #[.int .u32 s.key, .int .u32 s.ks, .int .u32 s.start, .int .u32 s.size, .int .u32 s.cnt, .int .u32 s.off, .int .u32 s.nxt, .int .u32 s.opt]] w fun e w' => e = .returned (.bool true) ∧ Below w.heap.size w w' := by
  have HX := hidden (SBox.new w s)
  have hb1 : Below w.heap.size w (w.alloc (.cells #[.int .u32 s.key, .int .u32 s.ks, .int .u32 s.start, .int .u32 s.size, .int .u32 s.cnt, .int .u32 s.off, .int .u32 s.nxt, .int .u32 s.opt] 32)) := (Below.refl _ _).alloc (Nat.le_refl _) _
  have HB := hidden hb1
  clear hb1
  go_enter Try.func7, Try.ntmps7
  go_upto_region 1 with fail
  generalize w.alloc (.cells #[.int .u32 s.key, .int .u32 s.ks, .int .u32 s.start, .int .u32 s.size, .int .u32 s.cnt, .int .u32 s.off, .int .u32 s.nxt, .int .u32 s.opt] 32) = w1 at *
  obtain ⟨c0, c1, c2, c3, c4, c5, c6, c7⟩ := HX.out.cells
  go_upto_region 2 with (go_at_call 17; refine (key_nil s _).mono ?_; rintro e w2 ⟨rfl, hb2⟩)
  replace HX := hidden (HX.out.later hb2)
  replace HB := hidden (HB.out.trans (hb2.mono HB.out.size))
  clear c0 c1 c2 c3 c4 c5 c6 c7 hb2
  obtain ⟨c0, c1, c2, c3, c4, c5, c6, c7⟩ := HX.out.cells
  go_upto_region 3 with (go_at_call 12; refine (lin_nil s _).mono ?_; rintro e w3 ⟨rfl, hb3⟩)
  replace HX := hidden (HX.out.later hb3)
  replace HB := hidden (HB.out.trans (hb3.mono HB.out.size))
  clear c0 c1 c2 c3 c4 c5 c6 c7 hb3
  obtain ⟨c0, c1, c2, c3, c4, c5, c6, c7⟩ := HX.out.cells
  go_upto_region 4 with (go_at_call 14; refine (bin_nil s _).mono ?_; rintro e w4 ⟨rfl, hb4⟩)
  replace HX := hidden (HX.out.later hb4)
  replace HB := hidden (HB.out.trans (hb4.mono HB.out.size))
  clear c0 c1 c2 c3 c4 c5 c6 c7 hb4
  obtain ⟨c0, c1, c2, c3, c4, c5, c6, c7⟩ := HX.out.cells
  go_upto_region 5 with (go_at_call 16; refine (chn_nil s ok _).mono ?_; rintro e w5 ⟨rfl, hb5⟩)
  replace HB := hidden (HB.out.trans (hb5.mono HB.out.size))
  clear c0 c1 c2 c3 c4 c5 c6 c7 hb5 HX
  have HLV := hidden (live_any w5)
  go_wp2_with (first | (go_at_call 13; refine (num13 _ _).mono ?_; rintro e w12 ⟨rfl, e9⟩; rw [e9]; clear e9) | (go_at_call 9; refine HLV.out.mono ?_; rintro e w13 ⟨rfl, hb13⟩) | fail)
  go_ret
  exact ⟨rfl, HB.out.trans (hb13.mono HB.out.size)⟩
end Go.Proofs.Ytppgpfppmbdfhaa
