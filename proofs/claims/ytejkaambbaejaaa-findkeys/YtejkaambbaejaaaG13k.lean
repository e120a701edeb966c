/- Layer 13: the walk of FindKeys. -/
import Derived.Test.YtejkaambbaejaaaG13l
import Derived.Test.YtejkaambbaejaaaG13d
import Derived.Deep.RegionHeld3
namespace Go.Proofs.Ytejkaambbaejaaa
open Go.RowKit
set_option maxHeartbeats 1000000
set_option maxRecDepth 100000
set_option linter.unusedVariables false

theorem spoil_fm (g l c B : Nat) (xs : List Int) (w : World) (h : w.ownsRow B 5 1 (.slice (some ⟨g, 0, none⟩) l c) l (bytesV xs)) (hl : l ≤ 9223372036854775807) :
    Calls Try.prog 12 #[.slice (some ⟨g, 0, none⟩) l c] w fun e w' => e = .returned (.tuple #[]) ∧ Fm w w' (fun k => k = g) (fun k => k = g) := by
  have HF : Hid (∀ i, w.frozen? ⟨g, i, none⟩ = false) := hidden fun i => h.frozenAt i
  have HC : Hid (∀ i, i < l → ∃ u, w.cell? ⟨g, i, none⟩ = some u) := hidden fun i hi => ⟨_, by have := owned_cells h i hi; rwa [Nat.zero_add] at this⟩
  have hl2 : (l : Int) ≤ 9223372036854775807 := by omega
  clear h
  go_enter Try.func12, Try.ntmps12
  go_wp2
  go_loopw [2] (fun i w' => ∃ k : Nat, k ≤ l ∧ i = .int .i64 k ∧ Hid (∀ i, w'.frozen? ⟨g, i, none⟩ = false) ∧ Hid (∀ i, i < l → ∃ u, w'.cell? ⟨g, i, none⟩ = some u) ∧ Hid (Fm w w' (fun k => k = g) (fun k => k = g))) (fun i _ => l - (intOf i).toNat)
  case atStart => exact ⟨0, by omega, rfl, HF, HC, Fm.same (Below.refl _ _)⟩
  case round =>
    obtain ⟨k, hk, rfl, hF, hC, HB⟩ := hrel
    by_cases hlt : k < l
    · have hlt2 : (k : Int) < (l : Int) := by omega
      have hk0 : (0 : Int) ≤ (k : Int) := by omega
      obtain ⟨u, hu⟩ := hC.out k hlt
      have hf := hF.out k
      go_wp2
      go_roundw
      case rel =>
        refine ⟨k + 1, by omega, by go_num, hidden (fun i => ?_), hidden (fun i hi => ?_), HB.out.set g k _ rfl⟩
        · rw [World.frozen?_setCell]; exact hF.out i
        · by_cases e : i = k
          · subst e
            exact ⟨_, World.cell?_setCell_same _ _ _ hu⟩
          · obtain ⟨u', hu'⟩ := hC.out i hi
            exact ⟨u', by rw [World.cell?_setCell_other _ _ _ _ (fun q => e (congrArg Addr.off q).symm)]; exact hu'⟩
      case measure => simp [intOf]; omega
    · obtain rfl : k = l := by omega
      have hlt2 : ¬ (k : Int) < (k : Int) := by omega
      go_wp2
      refine bodyPost_end (v := .tuple #[]) (by simp [results, Try.results12, go_sem]) rfl ⟨rfl, HB.out⟩
theorem spoil_nil (w : World) : Calls Try.prog 12 #[.slice none 0 0] w fun e w' => e = .returned (.tuple #[]) ∧ w' = w := by
  go_enter Try.func12, Try.ntmps12
  go_wp2
  go_loopw [2] (fun i w' => i = .int .i64 0 ∧ w' = w) (fun _ _ => 0)
  case atStart => exact ⟨rfl, rfl⟩
  case round =>
    obtain ⟨rfl, rfl⟩ := hrel
    go_wp2
    refine bodyPost_end (v := .tuple #[]) (by simp [results, Try.results12, go_sem]) rfl ⟨rfl, rfl⟩
theorem keys_bad (a : Option Addr) (len cap : Nat) (zs : List Int) (s : Sr) (w : World) (hr : Reads w a len cap (zs.take len)) (hob : OkB (zs.take len)) (ok : s.ok) (hl : len ≤ 8192) (hE : keyE s 4096 ≠ 0) :
    Calls Try.prog 3 #[.slice a len cap, .agg #[.int .u32 s.key, .int .u32 s.ks, .int .u32 s.start, .int .u32 s.size, .int .u32 s.cnt, .int .u32 s.off, .int .u32 s.nxt, .int .u32 s.opt]] w fun e w' => e = .returned (.bool true) ∧ Below w.heap.size w w' := by
  have HX := hidden (SBox.new w s)
  have hb1 : Below w.heap.size w (w.alloc (.cells #[.int .u32 s.key, .int .u32 s.ks, .int .u32 s.start, .int .u32 s.size, .int .u32 s.cnt, .int .u32 s.off, .int .u32 s.nxt, .int .u32 s.opt] 25)) := (Below.refl _ _).alloc (Nat.le_refl _) _
  have HB := hidden hb1
  have HLD := hidden (laid_any a len cap (zs.take len) _ (hr.later hb1) hob)
  have HOB := hidden hob
  have HLV1 := hidden (live_any)
  have g1 : ¬ ((len : Int) > 8192) := by omega
  have HEE := hidden hE
  clear hb1 hr hob hE
  go_enter Try.func3, Try.ntmps3
  go_upto_region 1 with fail
  have HW1 : Hid (w.heap.size < (w.alloc (.cells #[.int .u32 s.key, .int .u32 s.ks, .int .u32 s.start, .int .u32 s.size, .int .u32 s.cnt, .int .u32 s.off, .int .u32 s.nxt, .int .u32 s.opt] 25)).heap.size) := hidden HX.out.lt
  generalize w.alloc (.cells #[.int .u32 s.key, .int .u32 s.ks, .int .u32 s.start, .int .u32 s.size, .int .u32 s.cnt, .int .u32 s.off, .int .u32 s.nxt, .int .u32 s.opt] 25) = w1 at *
  go_upto_region 4 with (go_at_call 9; refine HLD.out.mono ?_; rintro e w2 ⟨m, d, g, rfl, hL2, hb2⟩)
  have HBO := hidden (hL2.both (lay_len3 _) (lay_ok _ HOB.out _))
  have HX2 := hidden (HX.out.later hb2)
  have HB2 := hidden (HB.out.trans (hb2.mono HB.out.size))
  replace HW1 : Hid (w.heap.size < w2.heap.size) := hidden (Nat.lt_of_lt_of_le HW1.out hb2.size)
  clear hL2 hb2 HLD HX HB
  have HK1 : Hid (∀ wx, Below w2.heap.size w2 wx → Calls Try.prog 10 #[.pointer (some ⟨m, 0, none⟩), .agg #[.int .u32 s.key, .int .u32 s.ks, .int .u32 s.start, .int .u32 s.size, .int .u32 s.cnt, .int .u32 s.off, .int .u32 s.nxt, .int .u32 s.opt]] wx fun e w' => e = .returned (.tuple #[.slice none 0 0, .int .i64 (keyE s 4096)]) ∧ Below wx.heap.size wx w') := hidden (fun wx hx => (key_any m _ s ok wx (HBO.out.mrd.later hx)).mono (fun e w' h => by
    obtain ⟨h1, h2 | ⟨h2, _⟩⟩ := h
    · rw [lay_len3] at h2; exact ⟨h2.2, h1⟩
    · rw [lay_len3] at h2; exact absurd h2 HEE.out))
  have HK2 : Hid (∀ wx, Below w2.heap.size w2 wx → Calls Try.prog 11 #[.pointer (some ⟨d, 0, none⟩), .agg #[.int .u32 s.key, .int .u32 s.ks, .int .u32 s.start, .int .u32 s.size, .int .u32 s.cnt, .int .u32 s.off, .int .u32 s.nxt, .int .u32 s.opt]] wx fun e w' => e = .returned (.tuple #[.slice none 0 0, .int .i64 (keyE s 4096)]) ∧ Below wx.heap.size wx w') := hidden (fun wx hx => (dkey_any d _ s ok wx (HBO.out.drd.later hx)).mono (fun e w' h => by
    obtain ⟨h1, h2 | ⟨h2, _⟩⟩ := h
    · rw [lay_len3] at h2; exact ⟨h2.2, h1⟩
    · rw [lay_len3] at h2; exact absurd h2 HEE.out))
  generalize keyE s 4096 = E at *
  obtain ⟨c0, c1, c2, c3, c4, c5, c6, c7⟩ := HX2.out.cells
  go_upto_region 7 with (go_at_call 10; refine (HK1.out _ (Below.refl _ _)).mono ?_; rintro e w3 ⟨rfl, hb3⟩)
  have HX3 := hidden (HX2.out.later hb3)
  have HN3 := hidden hb3
  clear c0 c1 c2 c3 c4 c5 c6 c7 HX2 hb3
  obtain ⟨c0, c1, c2, c3, c4, c5, c6, c7⟩ := HX3.out.cells
  go_upto_region 8 with (go_at_call 11; refine (HK2.out _ HN3.out).mono ?_; rintro e w4 ⟨rfl, hb4⟩)
  have HX4 := hidden (HX3.out.later hb4)
  have HN4 := hidden (HN3.out.trans (hb4.mono HN3.out.size))
  clear c0 c1 c2 c3 c4 c5 c6 c7 HX3 hb4
  obtain ⟨c0, c1, c2, c3, c4, c5, c6, c7⟩ := HX4.out.cells
  go_upto_region 10 with (first | (go_at_call 12; refine (spoil_nil _).mono ?_; rintro e w5 ⟨rfl, e9⟩; rw [e9]; clear e9) | (go_at_call 10; refine (HK1.out _ HN4.out).mono ?_; rintro e w6 ⟨rfl, hb6⟩) | fail)
  have HN6 := hidden (HN4.out.trans (hb6.mono HN4.out.size))
  clear c0 c1 c2 c3 c4 c5 c6 c7 HX4 hb6
  obtain ⟨gw, cw, HWB⟩ := HBO.out.wb
  have HW := hidden HWB
  have HBY := hidden HBO.out.by_
  have x0 := (HWB w6 HN6.out).1
  rw [lay_len3] at x0 HW HBY
  clear HWB
  have HBF : Hid (∀ wx, Below w2.heap.size w2 wx → Below w.heap.size w wx) := hidden (fun wx hx => HB2.out.trans (hx.mono HB2.out.size))
  have hn6 := HN6.out
  have HNN := hidden (fun wx => same_eq none none 0 0 0 0 [] wx (fun c hc => by cases hc) ⟨rfl, Nat.le_refl _, .inl ⟨rfl, rfl, rfl⟩⟩ ⟨rfl, Nat.le_refl _, .inl ⟨rfl, rfl, rfl⟩⟩)
  clear HK1 HK2 HN3 HN4
  go_region_held3 (fun w' => Below w2.heap.size w2 w' ∧ w'.cell? ⟨d, 0, none⟩ = some (.slice (some ⟨gw, 0, none⟩) 4096 cw)) (first | assumption | exact ⟨(by repeat (first | exact Below.refl _ _ | assumption | exact And.left (by assumption) | apply Below.drew | (refine Below.alloc ?_ (by first | omega | (simp; omega) | simp) _))), by assumption⟩ | go_keep) (first | (go_at_call 14; refine (num13 _ _).mono ?_; rintro e w8 ⟨rfl, e9⟩; rw [e9]; clear e9) | (go_at_call 15; refine (HBY.out _ (by repeat (first | exact Below.refl _ _ | assumption | exact And.left (by assumption) | apply Below.drew | (refine Below.alloc ?_ (by first | omega | (simp; omega) | simp) _)))).mono ?_; rintro e w9 ⟨g9, c9, rfl, hr9, hb9⟩; have hn9 : Below w2.heap.size w2 w9 := Below.trans (by repeat (first | exact Below.refl _ _ | assumption | exact And.left (by assumption) | apply Below.drew | (refine Below.alloc ?_ (by first | omega | (simp; omega) | simp) _))) (hb9.mono (Below.size (by repeat (first | exact Below.refl _ _ | assumption | exact And.left (by assumption) | apply Below.drew | (refine Below.alloc ?_ (by first | omega | (simp; omega) | simp) _))))); have x9 := (HW.out w9 hn9).1; have HR9 := hidden hr9; clear hr9; skip) | (go_at_call_of 13 (Value.slice none 0 0); refine (HNN.out _).mono ?_; rintro e w7 ⟨rfl, e9⟩; rw [e9]; clear e9) | (go_at_call_of 13 (Value.slice (some ⟨gw, 0, none⟩) 4096 cw); refine (same_eq _ _ _ _ _ _ (layB (zs.take len)) _ (lay_ok _ HOB.out _) HR9.out (HW.out _ hn9).2).mono ?_; rintro e w10 ⟨rfl, e9⟩; rw [e9]; clear e9) | (go_at_call 8; refine (HLV1.out _).mono ?_; rintro e w11 ⟨rfl, hb11⟩; have hn11 : Below w2.heap.size w2 w11 := hn9.trans (hb11.mono hn9.size); have x11 := (HW.out w11 hn11).1; skip) | fail)
  all_goals (try go_wp2)
  go_ret
  exact ⟨rfl, HBF.out _ hn11⟩
theorem keys_good (a : Option Addr) (len cap : Nat) (zs : List Int) (s : Sr) (w : World) (hr : Reads w a len cap (zs.take len)) (hob : OkB (zs.take len)) (ok : s.ok) (hl : len ≤ 8192) (hE : keyE s 4096 = 0) :
    Calls Try.prog 3 #[.slice a len cap, .agg #[.int .u32 s.key, .int .u32 s.ks, .int .u32 s.start, .int .u32 s.size, .int .u32 s.cnt, .int .u32 s.off, .int .u32 s.nxt, .int .u32 s.opt]] w fun e w' => e = .returned (.bool true) ∧ Below w.heap.size w w' := by
  have HX := hidden (SBox.new w s)
  have hb1 : Below w.heap.size w (w.alloc (.cells #[.int .u32 s.key, .int .u32 s.ks, .int .u32 s.start, .int .u32 s.size, .int .u32 s.cnt, .int .u32 s.off, .int .u32 s.nxt, .int .u32 s.opt] 25)) := (Below.refl _ _).alloc (Nat.le_refl _) _
  have HB := hidden hb1
  have HLD := hidden (laid_any a len cap (zs.take len) _ (hr.later hb1) hob)
  have HOB := hidden hob
  have HLV1 := hidden (live_any)
  have g1 : ¬ ((len : Int) > 8192) := by omega
  have HEE := hidden hE
  clear hb1 hr hob hE
  go_enter Try.func3, Try.ntmps3
  go_upto_region 1 with fail
  have HW1 : Hid (w.heap.size < (w.alloc (.cells #[.int .u32 s.key, .int .u32 s.ks, .int .u32 s.start, .int .u32 s.size, .int .u32 s.cnt, .int .u32 s.off, .int .u32 s.nxt, .int .u32 s.opt] 25)).heap.size) := hidden HX.out.lt
  generalize w.alloc (.cells #[.int .u32 s.key, .int .u32 s.ks, .int .u32 s.start, .int .u32 s.size, .int .u32 s.cnt, .int .u32 s.off, .int .u32 s.nxt, .int .u32 s.opt] 25) = w1 at *
  go_upto_region 4 with (go_at_call 9; refine HLD.out.mono ?_; rintro e w2 ⟨m, d, g, rfl, hL2, hb2⟩)
  have HBO := hidden (hL2.both (lay_len3 _) (lay_ok _ HOB.out _))
  have HX2 := hidden (HX.out.later hb2)
  have HB2 := hidden (HB.out.trans (hb2.mono HB.out.size))
  replace HW1 : Hid (w.heap.size < w2.heap.size) := hidden (Nat.lt_of_lt_of_le HW1.out hb2.size)
  clear hL2 hb2 HLD HX HB
  have HK1 : Hid (∀ wx, Below w2.heap.size w2 wx → Calls Try.prog 10 #[.pointer (some ⟨m, 0, none⟩), .agg #[.int .u32 s.key, .int .u32 s.ks, .int .u32 s.start, .int .u32 s.size, .int .u32 s.cnt, .int .u32 s.off, .int .u32 s.nxt, .int .u32 s.opt]] wx fun e w' => Below wx.heap.size wx w' ∧ ∃ g c, e = .returned (.tuple #[.slice (some ⟨g, 0, none⟩) s.ks c, .int .i64 0]) ∧ w'.ownsRow wx.heap.size 5 1 (.slice (some ⟨g, 0, none⟩) s.ks c) s.ks (bytesV (keyL s (layB (zs.take len)))) ∧ s.ks ≤ 256) := hidden (fun wx hx => (key_any m _ s ok wx (HBO.out.mrd.later hx)).mono (fun e w' h => by
    obtain ⟨h1, ⟨h2, _⟩ | ⟨_, h4, _, _, g, c, h5, h6⟩⟩ := h
    · rw [lay_len3] at h2; exact absurd HEE.out h2
    · exact ⟨h1, g, c, h5, h6, h4⟩))
  have HK2 : Hid (∀ wx, Below w2.heap.size w2 wx → Calls Try.prog 11 #[.pointer (some ⟨d, 0, none⟩), .agg #[.int .u32 s.key, .int .u32 s.ks, .int .u32 s.start, .int .u32 s.size, .int .u32 s.cnt, .int .u32 s.off, .int .u32 s.nxt, .int .u32 s.opt]] wx fun e w' => Below wx.heap.size wx w' ∧ ∃ v, e = .returned (.tuple #[v, .int .i64 0]) ∧ w'.ownsRow wx.heap.size 5 1 v s.ks (bytesV (keyL s (layB (zs.take len)))) ∧ OkB (keyL s (layB (zs.take len)))) := hidden (fun wx hx => (dkey_any d _ s ok wx (HBO.out.drd.later hx)).mono (fun e w' h => by
    obtain ⟨h1, ⟨h2, _⟩ | ⟨_, _, _, h4, v, h5, h6⟩⟩ := h
    · rw [lay_len3] at h2; exact absurd HEE.out h2
    · exact ⟨h1, v, h5, h6, h4⟩))
  generalize keyL s (layB (zs.take len)) = key at *
  obtain ⟨c0, c1, c2, c3, c4, c5, c6, c7⟩ := HX2.out.cells
  go_upto_region 7 with (go_at_call 10; refine (HK1.out _ (Below.refl _ _)).mono ?_; rintro e w3 ⟨hb3, gx, cx, rfl, hox, hks⟩)
  have HX3 := hidden (HX2.out.later hb3)
  have HN3 := hidden hb3
  have HOX := hidden hox
  clear c0 c1 c2 c3 c4 c5 c6 c7 HX2 hb3 hox
  obtain ⟨c0, c1, c2, c3, c4, c5, c6, c7⟩ := HX3.out.cells
  go_upto_region 8 with (go_at_call 11; refine (HK2.out _ HN3.out).mono ?_; rintro e w4 ⟨hb4, v, rfl, hoy, hokk⟩)
  have HX4 := hidden (HX3.out.later hb4)
  have HN4 := hidden (HN3.out.trans (hb4.mono HN3.out.size))
  have HOX4 := hidden (own_later HOX.out hb4)
  have HOY := hidden hoy
  have HOKK := hidden hokk
  have HGX := hidden HOX.out.lt
  clear c0 c1 c2 c3 c4 c5 c6 c7 HX3 hb4 hoy hokk
  have HSP := hidden (spoil_fm gx s.ks cx _ key w4 HOX4.out (by omega))
  go_upto_region 9 with (go_at_call 12; refine HSP.out.mono ?_; rintro e w5 ⟨rfl, hf5⟩)
  have hgx := HGX.out gx rfl
  have HN5 : Hid (Below w2.heap.size w2 w5) := hidden (HN4.out.trans (hf5.below HN4.out.size (fun k e => by subst e; exact hgx.1)))
  have HOY5 : Hid (w5.ownsRow w3.heap.size 5 1 v s.ks (bytesV key)) := hidden (own8_fm hf5 HOY.out (fun k e1 e2 => by have := (HOY.out.lt k e1).1; omega))
  have HX5 : Hid (SBox w5 w.heap.size s) := hidden ((hf5.block _ HX4.out.lt (fun e => by have h1 := HB2.out.size; have h2 := hgx.1; have h3 := HW1.out; omega)).trans HX4.out)
  clear hf5 HX4 HOX HOX4 HSP
  obtain ⟨c0, c1, c2, c3, c4, c5, c6, c7⟩ := HX5.out.cells
  go_upto_region 10 with (go_at_call 10; refine (HK1.out _ HN5.out).mono ?_; rintro e w6 ⟨hb6, gz, cz, rfl, hoz, hks2⟩)
  have HN6 := hidden (HN5.out.trans (hb6.mono HN5.out.size))
  obtain ⟨ay, cy, rfl, hry⟩ := own_reads_v HOY5.out
  have HRY := hidden (fun wx (hx : Below w6.heap.size w6 wx) => (hry.later hb6).later hx)
  have HRZ := hidden (fun wx (hx : Below w6.heap.size w6 wx) => (own_reads hoz).later hx)
  clear c0 c1 c2 c3 c4 c5 c6 c7 HX5 hb6 hoz hry hks2
  obtain ⟨gw, cw, HWB⟩ := HBO.out.wb
  have HW := hidden HWB
  have HBY := hidden HBO.out.by_
  have x0 := (HWB w6 HN6.out).1
  rw [lay_len3] at x0 HW HBY
  clear HWB
  have HBF : Hid (∀ wx, Below w2.heap.size w2 wx → Below w.heap.size w wx) := hidden (fun wx hx => HB2.out.trans (hx.mono HB2.out.size))
  have hn6 := HN6.out
  have HNN := hidden (fun wx (hx : Below w6.heap.size w6 wx) => same_eq _ _ _ _ _ _ key wx HOKK.out (HRZ.out wx hx) (HRY.out wx hx))
  clear HK1 HK2 HN3 HN4
  go_region_held3 (fun w' => Below w2.heap.size w2 w' ∧ w'.cell? ⟨d, 0, none⟩ = some (.slice (some ⟨gw, 0, none⟩) 4096 cw)) (first | assumption | exact ⟨(by repeat (first | exact Below.refl _ _ | assumption | exact And.left (by assumption) | apply Below.drew | (refine Below.alloc ?_ (by first | omega | (simp; omega) | simp) _))), by assumption⟩ | go_keep) (first | (go_at_call 14; refine (num13 _ _).mono ?_; rintro e w8 ⟨rfl, e9⟩; rw [e9]; clear e9) | (go_at_call 15; refine (HBY.out _ (by repeat (first | exact Below.refl _ _ | assumption | exact And.left (by assumption) | apply Below.drew | (refine Below.alloc ?_ (by first | omega | (simp; omega) | simp) _)))).mono ?_; rintro e w9 ⟨g9, c9, rfl, hr9, hb9⟩; have hn9 : Below w2.heap.size w2 w9 := Below.trans (by repeat (first | exact Below.refl _ _ | assumption | exact And.left (by assumption) | apply Below.drew | (refine Below.alloc ?_ (by first | omega | (simp; omega) | simp) _))) (hb9.mono (Below.size (by repeat (first | exact Below.refl _ _ | assumption | exact And.left (by assumption) | apply Below.drew | (refine Below.alloc ?_ (by first | omega | (simp; omega) | simp) _))))); have x9 := (HW.out w9 hn9).1; have HR9 := hidden hr9; clear hr9; skip) | (go_at_call_of 13 (Value.slice (some ⟨gz, 0, none⟩) s.ks cz); refine (HNN.out _ (by first | exact (Below.refl _ _).drew | exact Below.refl _ _)).mono ?_; rintro e w7 ⟨rfl, e9⟩; rw [e9]; clear e9) | (go_at_call_of 13 (Value.slice (some ⟨gw, 0, none⟩) 4096 cw); refine (same_eq _ _ _ _ _ _ (layB (zs.take len)) _ (lay_ok _ HOB.out _) HR9.out (HW.out _ hn9).2).mono ?_; rintro e w10 ⟨rfl, e9⟩; rw [e9]; clear e9) | (go_at_call 8; refine (HLV1.out _).mono ?_; rintro e w11 ⟨rfl, hb11⟩; have hn11 : Below w2.heap.size w2 w11 := hn9.trans (hb11.mono hn9.size); have x11 := (HW.out w11 hn11).1; skip) | fail)
  all_goals (try go_wp2)
  go_ret
  exact ⟨rfl, HBF.out _ hn11⟩
theorem findKeys_walk (a : Option Addr) (len cap : Nat) (zs : List Int) (s : Sr) (w : World) (h : IsRow .u8 w a len cap zs) (ok : s.ok) :
    Calls Try.prog 3 #[.slice a len cap, .agg #[.int .u32 s.key, .int .u32 s.ks, .int .u32 s.start, .int .u32 s.size, .int .u32 s.cnt, .int .u32 s.off, .int .u32 s.nxt, .int .u32 s.opt]] w fun e w' => e = .returned (.bool true) ∧ Below w.heap.size w w' := by
  obtain ⟨hr, hob, hlm⟩ := reads_of_row h
  by_cases hl : len ≤ 8192
  · by_cases hE : keyE s 4096 = 0
    · exact keys_good a len cap zs s w hr hob ok hl hE
    · exact keys_bad a len cap zs s w hr hob ok hl hE
  · have g1 : (len : Int) > 8192 := by omega
    have hb1 : Below w.heap.size w (w.alloc (.cells #[.int .u32 s.key, .int .u32 s.ks, .int .u32 s.start, .int .u32 s.size, .int .u32 s.cnt, .int .u32 s.off, .int .u32 s.nxt, .int .u32 s.opt] 25)) := (Below.refl _ _).alloc (Nat.le_refl _) _
    have HB := hidden hb1
    clear hb1 h hr hob
    go_enter Try.func3, Try.ntmps3
    go_upto_region 1 with fail
    generalize w.alloc (.cells #[.int .u32 s.key, .int .u32 s.ks, .int .u32 s.start, .int .u32 s.size, .int .u32 s.cnt, .int .u32 s.off, .int .u32 s.nxt, .int .u32 s.opt] 25) = w1 at *
    go_wp2_with (go_at_call 8; refine (live_any _).mono ?_; rintro e w13 ⟨rfl, hb13⟩)
    go_ret
    exact ⟨rfl, HB.out.trans (hb13.mono HB.out.size)⟩
end Go.Proofs.Ytejkaambbaejaaa
