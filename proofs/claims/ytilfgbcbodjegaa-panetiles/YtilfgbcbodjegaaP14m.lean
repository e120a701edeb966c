/- Layer 14, the program: where a window lies, out of its pair's place. -/
import Derived.Test.YtilfgbcbodjegaaP14l
namespace Go.Proofs.Ytilfgbcbodjegaa
open Go.RowKit
set_option maxHeartbeats 1000000
set_option maxRecDepth 100000
set_option linter.unusedVariables false

/-- a new block of four noughts, and all that was as it was -/
structure KpB (w wx : World) (G : Nat) : Prop where
  bel : Below w.heap.size w wx
  box : wx.heap[G]? = some (.cells (r4V ⟨0, 0, 0, 0⟩) 36 (0, 0))
theorem KpB.later {w wx wy : World} {G : Nat} (h : KpB w wx G) (hb : Below wx.heap.size wx wy) : KpB w wy G := ⟨h.bel.trans (hb.mono h.bel.size), by rw [hb.block G (Array.getElem?_eq_some_iff.1 h.box).1]; exact h.box⟩
theorem KpB.drew {w wx : World} {G : Nat} (h : KpB w wx G) : KpB w wx.drew G := h.later (Below.refl _ _).drew
theorem KpB.cells {w wx : World} {G : Nat} (h : KpB w wx G) : wx.cell? ⟨G, 0, none⟩ = some (.int .i64 0) ∧ wx.cell? ⟨G, 1, none⟩ = some (.int .i64 0) ∧ wx.cell? ⟨G, 2, none⟩ = some (.int .i64 0) ∧ wx.cell? ⟨G, 3, none⟩ = some (.int .i64 0) ∧ wx.frozen? ⟨G, 0, none⟩ = false ∧ wx.frozen? ⟨G, 1, none⟩ = false ∧ wx.frozen? ⟨G, 2, none⟩ = false ∧ wx.frozen? ⟨G, 3, none⟩ = false := by
  obtain ⟨a0, a1, a2, a3, af⟩ := r4_cells h.box
  exact ⟨a0, a1, a2, a3, af 0, af 1, af 2, af 3⟩
set_option maxHeartbeats 8000000 in
/-- a window's place, out of its pair's -/
theorem place_kid {B m : Nat} {v : Value} {s : Ps} {w : World} (h : PAt B w m v s) (ho : OkP s) (i : Nat) (hi : i < s.L.length) (g c : Nat) (hv : v = .slice (some ⟨g, 0, none⟩) s.L.length c) (j : Nat) (hj : j < s.L.length) (hp0 : s.L[i].p ≠ 0) (hpj : s.L[j].n = s.L[i].p) (hpw : PairW s.L[j]) (hk : s.L[j].a = s.L[i].n ∨ s.L[j].b = s.L[i].n) (r : R4) (hr : R4Ok r)
    (hpl : ∀ w1, Below w.heap.size w w1 → Calls Try.prog 37 #[.pointer (some ⟨m, 0, none⟩), .pointer (some ⟨g, j * 8, none⟩)] w1 fun e w' => e = .returned (r4A r) ∧ Below w1.heap.size w1 w')
    (f : Int) (hf : f = fstV s.L s.L[j] (lenR s.L[j] r)) (rr : R4) (hrr : rr = if s.L[j].a = s.L[i].n then fstR s.L[j] r f else sndR s.L[j] r f) :
    Calls Try.prog 37 #[.pointer (some ⟨m, 0, none⟩), .pointer (some ⟨g, i * 8, none⟩)] w fun e w' => e = .returned (r4A rr) ∧ Below w.heap.size w w' := by
  have hb : Below w.heap.size w (w.alloc (.cells #[.int .i64 0, .int .i64 0, .int .i64 0, .int .i64 0] 36)) := (Below.refl _ _).alloc (Nat.le_refl _) _
  have hrow : ∀ w1, Below w.heap.size w w1 → w1.ownsRow B 79 8 (.slice (some ⟨g, 0, none⟩) s.L.length c) s.L.length (wdsV s.L) := fun w1 hb1 => by rw [← hv]; exact (h.later hb1).row
  obtain ⟨X, hX⟩ : ∃ X, s.L[i].n = X := ⟨_, rfl⟩
  obtain ⟨P, hP⟩ : ∃ P, s.L[i].p = P := ⟨_, rfl⟩
  rw [hX] at hk hrr
  rw [hP] at hp0 hpj
  have HC : Hid (∀ w1, Below w.heap.size w w1 → w1.cell? ⟨g, i * 8, none⟩ = some (.int .i64 X) ∧ w1.cell? ⟨g, i * 8 + 2, none⟩ = some (.int .i64 P)) := hidden (fun w1 hb1 => by
    have cc := wrow_cells (hrow w1 hb1) i hi
    rw [hX, hP] at cc
    exact ⟨cc.1, cc.2.2.1⟩)
  have HAT : Hid (∀ w1, Below w.heap.size w w1 → Calls Try.prog 36 #[.pointer (some ⟨m, 0, none⟩), .int .i64 P] w1 fun e w' => e = .returned (.pointer (some ⟨g, j * 8, none⟩)) ∧ Below w1.heap.size w1 w') := hidden (fun w1 hb1 => at_some (h.later hb1) ho.so (by have := ho.few; omega) j hj g c hv P hpj)
  have HPL := hidden hpl
  have HPT : Hid (∀ w1, Below w.heap.size w w1 → Calls Try.prog 61 #[.pointer (some ⟨m, 0, none⟩), .pointer (some ⟨g, j * 8, none⟩), .agg #[.int .i64 r.x, .int .i64 r.y, .int .i64 r.w, .int .i64 r.h]] w1 fun e w' => e = .returned (.agg #[.int .i64 (fstR s.L[j] r f).x, .int .i64 (fstR s.L[j] r f).y, .int .i64 (fstR s.L[j] r f).w, .int .i64 (fstR s.L[j] r f).h, .int .i64 (sndR s.L[j] r f).x, .int .i64 (sndR s.L[j] r f).y, .int .i64 (sndR s.L[j] r f).w, .int .i64 (sndR s.L[j] r f).h]) ∧ Below w1.heap.size w1 w') := hidden (fun w1 hb1 => parted_any (h.later hb1) ho j hj g c hv hpw r hr f hf)
  obtain ⟨KA, hKA⟩ : ∃ KA, s.L[j].a = KA := ⟨_, rfl⟩
  obtain ⟨KB, hKB⟩ : ∃ KB, s.L[j].b = KB := ⟨_, rfl⟩
  rw [hKA, hKB] at hk
  rw [hKA] at hrr
  have HIX : Hid (∀ w1, Below w.heap.size w w1 → Calls Try.prog 62 #[.slice (some ⟨g, j * 8 + 3, none⟩) 2 2, .int .i64 X] w1 fun e w' => e = .returned (.int .i64 (if KA = X then 0 else 1)) ∧ w' = w1) := hidden (fun w1 hb1 => by
    have cc := wrow_cells (hrow w1 hb1) j hj
    rw [hKA, hKB] at cc
    have := Try.slices_Index_int g (j * 8 + 3) 2 2 [KA, KB] X w1 (by simp) (by omega) (fun k hk => by
      rcases (show k = 0 ∨ k = 1 by simp at hk; omega) with rfl | rfl
      · exact cc.2.2.2.1
      · exact cc.2.2.2.2.1)
    rw [idx2 KA KB X hk] at this
    exact this)
  generalize fstR s.L[j] r f = FR at *
  generalize sndR s.L[j] r f = SR at *
  have HRR := hidden hrr
  have HH : Hid ((w.alloc (.cells #[.int .i64 0, .int .i64 0, .int .i64 0, .int .i64 0] 36)).heap[w.heap.size]? = some (.cells (r4V ⟨0, 0, 0, 0⟩) 36 (0, 0))) := hidden (heap_alloc_new w _)
  have HB := hidden hb
  obtain ⟨hc1, hc2⟩ := HC.out _ hb
  have q0 : (P == 0) = false := by simp [hp0]
  have hml := h.lt
  have hgl : g < w.heap.size := by
    obtain ⟨g', c', hv', _, hgw, _⟩ := wrow_pos h.row (by omega)
    rw [hv] at hv'
    simp only [Value.slice.injEq, Option.some.injEq, Addr.mk.injEq, and_true] at hv'
    rw [hv'.1]
    exact hgw
  unfold r4A at HPL ⊢
  have i0 : ∀ w : World, (Instr.index 102 (.agg #[.int .i64 FR.x, .int .i64 FR.y, .int .i64 FR.w, .int .i64 FR.h, .int .i64 SR.x, .int .i64 SR.y, .int .i64 SR.w, .int .i64 SR.h]) (.int .i64 0)).run Try.prog w = .ok (.agg #[.int .i64 FR.x, .int .i64 FR.y, .int .i64 FR.w, .int .i64 FR.h]) w := fun _ => rfl
  have i1 : ∀ w : World, (Instr.index 102 (.agg #[.int .i64 FR.x, .int .i64 FR.y, .int .i64 FR.w, .int .i64 FR.h, .int .i64 SR.x, .int .i64 SR.y, .int .i64 SR.w, .int .i64 SR.h]) (.int .i64 1)).run Try.prog w = .ok (.agg #[.int .i64 SR.x, .int .i64 SR.y, .int .i64 SR.w, .int .i64 SR.h]) w := fun _ => rfl
  clear h ho hv hp0 hpj hpw hr hf hrr hX hP hKA hKB hb hpl hrow
  by_cases hKX : KA = X
  · rw [if_pos hKX] at HIX HRR
    rw [HRR.out]
    clear hKX hk HRR
    go_enter Try.func37, Try.ntmps37
    go_upto_region 3 with fail
    generalize w.alloc (.cells #[.int .i64 0, .int .i64 0, .int .i64 0, .int .i64 0] 36) = W at *
    go_upto_region 4 with (first | (go_at_call 36; refine (HAT.out _ HB.out).mono ?_; rintro e w3 ⟨rfl, hb3⟩; have HB3 := hidden hb3; clear hb3) | fail)
    have HK3 : Hid (KpB w w3 w.heap.size) := hidden ((KpB.mk HB.out HH.out).later HB3.out)
    have HP2 : Hid (∀ wx, KpB w wx w.heap.size → Calls Try.prog 37 #[.pointer (some ⟨m, 0, none⟩), .pointer (some ⟨g, j * 8, none⟩)] wx fun e w' => e = .returned (.agg #[.int .i64 r.x, .int .i64 r.y, .int .i64 r.w, .int .i64 r.h]) ∧ Hid (KpB w w' w.heap.size)) := hidden (fun wx hx => (HPL.out wx hx.bel).mono (fun e w' hh => ⟨hh.1, hidden (hx.later hh.2)⟩))
    have HQ2 : Hid (∀ wx, KpB w wx w.heap.size → Calls Try.prog 61 #[.pointer (some ⟨m, 0, none⟩), .pointer (some ⟨g, j * 8, none⟩), .agg #[.int .i64 r.x, .int .i64 r.y, .int .i64 r.w, .int .i64 r.h]] wx fun e w' => e = .returned (.agg #[.int .i64 FR.x, .int .i64 FR.y, .int .i64 FR.w, .int .i64 FR.h, .int .i64 SR.x, .int .i64 SR.y, .int .i64 SR.w, .int .i64 SR.h]) ∧ Hid (KpB w w' w.heap.size)) := hidden (fun wx hx => (HPT.out wx hx.bel).mono (fun e w' hh => ⟨hh.1, hidden (hx.later hh.2)⟩))
    have HI2 := hidden (fun wx (hx : KpB w wx w.heap.size) => HIX.out wx hx.bel)
    have HCX : Hid (∀ wx, KpB w wx w.heap.size → wx.cell? ⟨g, i * 8, none⟩ = some (.int .i64 X)) := hidden (fun wx hx => (HC.out wx hx.bel).1)
    obtain ⟨G, hG⟩ : ∃ G, w.heap.size = G := ⟨_, rfl⟩
    have HG : Hid (w.heap.size ≤ G) := hidden (by omega)
    have hgG : g ≠ G := by omega
    have hGg : G ≠ g := by omega
    rw [hG] at HK3 HP2 HQ2 HI2 HCX
    rw [hG]
    have hcX := HCX.out _ HK3.out
    clear hG HH HB HB3 HC HAT HPL HPT HIX hc1 hc2 hml hgl hi hj
    go_region_held3 (fun w' => w'.cell? ⟨g, i * 8, none⟩ = some (.int .i64 X)) (first | assumption | go_keep) (first
      | (go_at_call 37; refine (HP2.out _ (by first | exact HK3.out | exact HK3.out.drew)).mono ?_; rintro e w5 ⟨rfl, HK5⟩; have hc5 := HCX.out _ HK5.out)
      | (go_at_call 61; refine (HQ2.out _ (by first | exact HK5.out | exact HK5.out.drew)).mono ?_; rintro e w6 ⟨rfl, HK6⟩; have hc6 := HCX.out _ HK6.out; obtain ⟨y0, y1, y2, y3, x0, x1, x2, x3⟩ := HK6.out.cells)
      | (go_at_call 62; refine (HI2.out _ (by first | exact HK6.out | exact HK6.out.drew | exact HK5.out | exact HK5.out.drew | exact HK3.out | exact HK3.out.drew)).mono ?_; rintro e w7 ⟨rfl, e7⟩; rw [e7]; clear e7)
      | fail)
    all_goals (try go_wp2)
    all_goals exact bodyPost_ret (v := .agg #[.int .i64 FR.x, .int .i64 FR.y, .int .i64 FR.w, .int .i64 FR.h]) (by simp [results, Try.results37, go_sem, y0, y1, y2, y3]) rfl ⟨rfl, (by first | exact (below_set (below_set (below_set (below_set HK6.out.bel G 0 _ HG.out) G 1 _ HG.out) G 2 _ HG.out) G 3 _ HG.out).drew | exact below_set (below_set (below_set (below_set HK6.out.bel G 0 _ HG.out) G 1 _ HG.out) G 2 _ HG.out) G 3 _ HG.out | exact below_set (below_set (below_set (below_set HK6.out.bel.drew G 0 _ HG.out) G 1 _ HG.out) G 2 _ HG.out) G 3 _ HG.out)⟩
  · rw [if_neg hKX] at HIX HRR
    rw [HRR.out]
    clear hKX hk HRR
    go_enter Try.func37, Try.ntmps37
    go_upto_region 3 with fail
    generalize w.alloc (.cells #[.int .i64 0, .int .i64 0, .int .i64 0, .int .i64 0] 36) = W at *
    go_upto_region 4 with (first | (go_at_call 36; refine (HAT.out _ HB.out).mono ?_; rintro e w3 ⟨rfl, hb3⟩; have HB3 := hidden hb3; clear hb3) | fail)
    have HK3 : Hid (KpB w w3 w.heap.size) := hidden ((KpB.mk HB.out HH.out).later HB3.out)
    have HP2 : Hid (∀ wx, KpB w wx w.heap.size → Calls Try.prog 37 #[.pointer (some ⟨m, 0, none⟩), .pointer (some ⟨g, j * 8, none⟩)] wx fun e w' => e = .returned (.agg #[.int .i64 r.x, .int .i64 r.y, .int .i64 r.w, .int .i64 r.h]) ∧ Hid (KpB w w' w.heap.size)) := hidden (fun wx hx => (HPL.out wx hx.bel).mono (fun e w' hh => ⟨hh.1, hidden (hx.later hh.2)⟩))
    have HQ2 : Hid (∀ wx, KpB w wx w.heap.size → Calls Try.prog 61 #[.pointer (some ⟨m, 0, none⟩), .pointer (some ⟨g, j * 8, none⟩), .agg #[.int .i64 r.x, .int .i64 r.y, .int .i64 r.w, .int .i64 r.h]] wx fun e w' => e = .returned (.agg #[.int .i64 FR.x, .int .i64 FR.y, .int .i64 FR.w, .int .i64 FR.h, .int .i64 SR.x, .int .i64 SR.y, .int .i64 SR.w, .int .i64 SR.h]) ∧ Hid (KpB w w' w.heap.size)) := hidden (fun wx hx => (HPT.out wx hx.bel).mono (fun e w' hh => ⟨hh.1, hidden (hx.later hh.2)⟩))
    have HI2 := hidden (fun wx (hx : KpB w wx w.heap.size) => HIX.out wx hx.bel)
    have HCX : Hid (∀ wx, KpB w wx w.heap.size → wx.cell? ⟨g, i * 8, none⟩ = some (.int .i64 X)) := hidden (fun wx hx => (HC.out wx hx.bel).1)
    obtain ⟨G, hG⟩ : ∃ G, w.heap.size = G := ⟨_, rfl⟩
    have HG : Hid (w.heap.size ≤ G) := hidden (by omega)
    have hgG : g ≠ G := by omega
    have hGg : G ≠ g := by omega
    rw [hG] at HK3 HP2 HQ2 HI2 HCX
    rw [hG]
    have hcX := HCX.out _ HK3.out
    clear hG HH HB HB3 HC HAT HPL HPT HIX hc1 hc2 hml hgl hi hj
    go_region_held3 (fun w' => w'.cell? ⟨g, i * 8, none⟩ = some (.int .i64 X)) (first | assumption | go_keep) (first
      | (go_at_call 37; refine (HP2.out _ (by first | exact HK3.out | exact HK3.out.drew)).mono ?_; rintro e w5 ⟨rfl, HK5⟩; have hc5 := HCX.out _ HK5.out)
      | (go_at_call 61; refine (HQ2.out _ (by first | exact HK5.out | exact HK5.out.drew)).mono ?_; rintro e w6 ⟨rfl, HK6⟩; have hc6 := HCX.out _ HK6.out; obtain ⟨y0, y1, y2, y3, x0, x1, x2, x3⟩ := HK6.out.cells)
      | (go_at_call 62; refine (HI2.out _ (by first | exact HK6.out | exact HK6.out.drew | exact HK5.out | exact HK5.out.drew | exact HK3.out | exact HK3.out.drew)).mono ?_; rintro e w7 ⟨rfl, e7⟩; rw [e7]; clear e7)
      | fail)
    all_goals (try go_wp2)
    all_goals exact bodyPost_ret (v := .agg #[.int .i64 SR.x, .int .i64 SR.y, .int .i64 SR.w, .int .i64 SR.h]) (by simp [results, Try.results37, go_sem, y0, y1, y2, y3]) rfl ⟨rfl, (by first | exact (below_set (below_set (below_set (below_set HK6.out.bel G 0 _ HG.out) G 1 _ HG.out) G 2 _ HG.out) G 3 _ HG.out).drew | exact below_set (below_set (below_set (below_set HK6.out.bel G 0 _ HG.out) G 1 _ HG.out) G 2 _ HG.out) G 3 _ HG.out | exact below_set (below_set (below_set (below_set HK6.out.bel.drew G 0 _ HG.out) G 1 _ HG.out) G 2 _ HG.out) G 3 _ HG.out)⟩
end Go.Proofs.Ytilfgbcbodjegaa
