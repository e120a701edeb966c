/- Layer 13: the walk of FindChains. -/
import Derived.Test.YtejkaambbaejaaaG13l
import Derived.Test.YtejkaambbaejaaaG13f
import Derived.Deep.RegionHeld3
namespace Go.Proofs.Ytejkaambbaejaaa
open Go.RowKit
set_option maxHeartbeats 1000000
set_option maxRecDepth 100000
set_option linter.unusedVariables false

set_option maxHeartbeats 4000000 in
theorem findChains_walk (a : Option Addr) (len cap : Nat) (zs : List Int) (s : Sr) (w : World) (h : IsRow .u8 w a len cap zs) (ok : s.ok) :
    Calls Try.prog 6 #[.slice a len cap, .agg #[.int .u32 s.key, .int .u32 s.ks, .int .u32 s.start, .int .u32 s.size, .int .u32 s.cnt, .int .u32 s.off, .int .u32 s.nxt, .int .u32 s.opt]] w fun e w' => e = .returned (.bool true) ∧ Below w.heap.size w w' := by
  obtain ⟨hr, hob, hlm⟩ := reads_of_row h
  have HX := hidden (SBox.new w s)
  have hb1 : Below w.heap.size w (w.alloc (.cells #[.int .u32 s.key, .int .u32 s.ks, .int .u32 s.start, .int .u32 s.size, .int .u32 s.cnt, .int .u32 s.off, .int .u32 s.nxt, .int .u32 s.opt] 25)) := (Below.refl _ _).alloc (Nat.le_refl _) _
  have HB := hidden hb1
  have HLD := hidden (laid_any a len cap (zs.take len) _ (hr.later hb1) hob)
  have HOB := hidden hob
  have HLV1 := hidden (live_any)
  clear hb1 hr h hob
  by_cases hl : len ≤ 8192
  · have g1 : ¬ ((len : Int) > 8192) := by omega
    go_enter Try.func6, Try.ntmps6
    go_upto_region 1 with fail
    generalize w.alloc (.cells #[.int .u32 s.key, .int .u32 s.ks, .int .u32 s.start, .int .u32 s.size, .int .u32 s.cnt, .int .u32 s.off, .int .u32 s.nxt, .int .u32 s.opt] 25) = w1 at *
    go_upto_region 4 with (go_at_call 9; refine HLD.out.mono ?_; rintro e w2 ⟨m, d, g, rfl, hL2, hb2⟩)
    have HBO := hidden (hL2.both (lay_len3 _) (lay_ok _ HOB.out _))
    have HX2 := hidden (HX.out.later hb2)
    have HB2 := hidden (HB.out.trans (hb2.mono HB.out.size))
    clear hL2 hb2 HLD HX HB
    obtain ⟨V, hV⟩ : ∃ V, chnV (layB (zs.take len)) s = V := ⟨_, rfl⟩
    have hl1 := chn_any m _ s ok w2 HBO.out.mrd
    rw [hV] at hl1
    have HL1 := hidden hl1
    have HV := hidden hV
    clear hl1 hV
    obtain ⟨c0, c1, c2, c3, c4, c5, c6, c7⟩ := HX2.out.cells
    go_upto_region 7 with (go_at_call 20; refine HL1.out.mono ?_; rintro e w3 ⟨rfl, hb3⟩)
    have HX3 := hidden (HX2.out.later hb3)
    have HN3 := hidden hb3
    clear c0 c1 c2 c3 c4 c5 c6 c7 HX2 hb3
    obtain ⟨c0, c1, c2, c3, c4, c5, c6, c7⟩ := HX3.out.cells
    have hl2 := dchn_any d _ s ok w3 (HBO.out.drd.later HN3.out)
    rw [HV.out] at hl2
    have HL2 := hidden hl2
    clear hl2
    go_upto_region 8 with (go_at_call 21; refine HL2.out.mono ?_; rintro e w4 ⟨rfl, hb4⟩)
    have HN4 := hidden (HN3.out.trans (hb4.mono HN3.out.size))
    have HB4 := hidden (HB2.out.trans (HN4.out.mono HB2.out.size))
    clear c0 c1 c2 c3 c4 c5 c6 c7 HX3 hb4
    obtain ⟨gw, cw, HWB⟩ := HBO.out.wb
    have HW := hidden HWB
    have HBY := hidden HBO.out.by_
    have x0 := (HWB w4 HN4.out).1
    rw [lay_len3] at x0 HW HBY
    clear HWB
    have HD4 : Hid (Below w2.heap.size w2 w4.drew) := hidden HN4.out.drew
    have HS4 := hidden HN4.out.size
    have HBF : Hid (∀ wx, Below w2.heap.size w2 wx → Below w.heap.size w wx) := hidden (fun wx hx => HB2.out.trans (hx.mono HB2.out.size))
    have hn4 := HN4.out
    clear HL1 HL2 HN3
    go_region_held3 (fun w' => Below w2.heap.size w2 w' ∧ w'.cell? ⟨d, 0, none⟩ = some (.slice (some ⟨gw, 0, none⟩) 4096 cw)) (first | assumption | exact ⟨(by repeat (first | exact Below.refl _ _ | assumption | exact And.left (by assumption) | apply Below.drew | (refine Below.alloc ?_ (by first | omega | (simp; omega) | simp) _))), by assumption⟩ | go_keep) (first | (go_at_call 14; refine (num13 _ _).mono ?_; rintro e w5 ⟨rfl, e9⟩; rw [e9]; clear e9) | (go_at_call 15; refine (HBY.out _ (by repeat (first | exact Below.refl _ _ | assumption | exact And.left (by assumption) | apply Below.drew | (refine Below.alloc ?_ (by first | omega | (simp; omega) | simp) _)))).mono ?_; rintro e w6 ⟨g6, c6, rfl, hr6, hb6⟩; have hn6 : Below w2.heap.size w2 w6 := Below.trans (by repeat (first | exact Below.refl _ _ | assumption | exact And.left (by assumption) | apply Below.drew | (refine Below.alloc ?_ (by first | omega | (simp; omega) | simp) _))) (hb6.mono (Below.size (by repeat (first | exact Below.refl _ _ | assumption | exact And.left (by assumption) | apply Below.drew | (refine Below.alloc ?_ (by first | omega | (simp; omega) | simp) _))))); have x6 := (HW.out w6 hn6).1; have HR6 := hidden hr6; clear hr6; skip) | (go_at_call 13; refine (same_eq _ _ _ _ _ _ (layB (zs.take len)) _ (lay_ok _ HOB.out _) HR6.out (HW.out _ hn6).2).mono ?_; rintro e w7 ⟨rfl, e9⟩; rw [e9]; clear e9) | (go_at_call 8; refine (HLV1.out _).mono ?_; rintro e w8 ⟨rfl, hb8⟩; have hn8 : Below w2.heap.size w2 w8 := hn6.trans (hb8.mono hn6.size); have x8 := (HW.out w8 hn8).1; skip) | fail)
    all_goals (try go_wp2)
    go_ret
    exact ⟨rfl, HBF.out _ hn8⟩
  · have g1 : (len : Int) > 8192 := by omega
    go_enter Try.func6, Try.ntmps6
    go_upto_region 1 with fail
    generalize w.alloc (.cells #[.int .u32 s.key, .int .u32 s.ks, .int .u32 s.start, .int .u32 s.size, .int .u32 s.cnt, .int .u32 s.off, .int .u32 s.nxt, .int .u32 s.opt] 25) = w1 at *
    go_wp2_with (go_at_call 8; refine (live_any _).mono ?_; rintro e w13 ⟨rfl, hb13⟩)
    go_ret
    exact ⟨rfl, HB.out.trans (hb13.mono HB.out.size)⟩
end Go.Proofs.Ytejkaambbaejaaa
