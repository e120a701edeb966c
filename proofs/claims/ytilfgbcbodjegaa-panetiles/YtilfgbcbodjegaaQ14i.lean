/- Layer 14, the law: an act in both trees. -/
import Derived.Test.YtilfgbcbodjegaaQ14h
namespace Go.Proofs.Ytilfgbcbodjegaa
open Go.RowKit
set_option maxHeartbeats 1000000
set_option maxRecDepth 100000
set_option linter.unusedVariables false

def winN (s : Ps) (a : Ac) : Int := if a.near = true then nearW s.L a.a else a.a
def keyN (s : Ps) (a : Ac) : Int := if a.near = true ∧ a.c ≠ 0 then nearW s.L a.c else a.c
/-- behind an act -/
def stepS (s : Ps) (a : Ac) : Ps := if a.k = 4 then clN s (winN s a) else if a.k = 5 ∨ a.k = 6 then arN s (winN s a) a.b a.s (keyN s a) else if a.k = 7 then rsN s a.a a.b else opN s (winN s a) a.b a.s a.c
theorem wf_i64 {n : Int} (h : (Lit.int .i64 n).wf = true) : -9223372036854775808 ≤ n ∧ n ≤ 9223372036854775807 := by
  simp [Lit.wf, IntKind.min, IntKind.max, IntKind.signed, IntKind.bits] at h
  omega
theorem wf_u32 {n : Int} (h : (Lit.int .u32 n).wf = true) : 0 ≤ n ∧ n ≤ 4294967295 := by
  simp [Lit.wf, IntKind.min, IntKind.max, IntKind.signed, IntKind.bits] at h
  omega
theorem iv_step {s : Ps} (ho : Iv s) (hl : s.last ≤ 80000) (a : Ac) (ok : a.ok) : Iv (stepS s a) ∧ (stepS s a).last ≤ s.last + 2 := by
  have hs := wf_u32 ok.2.2.2.2
  unfold stepS
  split
  · exact iv_clN ho _
  · split
    · exact iv_arN ho _ _ _ _ hs
    · split
      · exact iv_rsN ho _ _
      · exact iv_opN ho hl _ _ _ _ hs
theorem Tw.near {B m d : Nat} {w0 w : World} {s t : Ps} {gs : List Nat} (r : Tw B m d w0 w s t gs) (ho : Iv t) (n : Int) (h0 : -9223372036854775808 ≤ n ∧ n ≤ 9223372036854775807) :
    Calls Try.prog 18 #[.pointer (some ⟨d, 0, none⟩), .int .i64 n] w fun e w' => e = .returned (.int .i64 (nearW t.L n)) ∧ w' = w := by
  obtain ⟨v, u, h1, h2, _⟩ := r
  exact near_any h2 (by have := ho.f63; omega) n h0
theorem Tw.rowL {B m d B2 n c : Nat} {a : Option Addr} {w0 w : World} {s t : Ps} {gs : List Nat} {xs : List Value} (r : Tw B m d w0 w s t gs) (h : w.ownsRow B2 3 1 (.slice a n c) n xs) : ∃ gs', (∀ g ∈ gs, g ∈ gs') ∧ (∀ g, (Value.slice a n c).ownBlock = some g → g ∈ gs') ∧ Tw B m d w0 w s t gs' := by
  rcases h.2 with ⟨h1, _⟩ | ⟨g, cap, cur, h1, _⟩
  · exact ⟨gs, fun g hg => hg, (fun g e => by rw [h1] at e; cases e), r⟩
  · simp only [Value.slice.injEq] at h1
    obtain ⟨rfl, _, _⟩ := h1
    refine ⟨g :: gs, fun k hk => List.mem_cons_of_mem _ hk, fun k e => ?_, r.row h⟩
    have : g = k := Option.some.inj e
    rw [this]
    exact List.mem_cons_self
theorem arrE_bd (s : Ps) (x mt key : Int) : 0 ≤ arrE s x mt key ∧ arrE s x mt key ≤ 100 := by
  unfold arrE prE
  repeat' split
  all_goals omega
theorem mayE_bd (s : Ps) (x mt key : Int) : 0 ≤ mayE s x mt key ∧ mayE s x mt key ≤ 100 := by
  unfold mayE
  repeat' split
  all_goals omega
theorem AcAt.six {w : World} {b : Nat} {x : Ac} (h : AcAt w b x) : w.cell? ⟨b, 0, none⟩ = some (.int .i64 x.k) ∧ w.cell? ⟨b, 1, none⟩ = some (.int .i64 x.a) ∧ w.cell? ⟨b, 2, none⟩ = some (.int .i64 x.b) ∧ w.cell? ⟨b, 3, none⟩ = some (.int .i64 x.c) ∧ w.cell? ⟨b, 4, none⟩ = some (.int .u32 x.s) ∧ w.cell? ⟨b, 5, none⟩ = some (.bool x.near) := by
  obtain ⟨a1, a2, a3, a4, a0, a5⟩ := h.cells
  exact ⟨a0, a1, a2, a3, a4, a5⟩
set_option maxHeartbeats 8000000 in
theorem does_cl0 {B m d : Nat} {w0 w : World} {s : Ps} {gs : List Nat} (r : Tw B m d w0 w s s gs) (ho : Iv s) (hl : s.last ≤ 80000) (a : Ac) (ok : a.ok) (hk : a.k = 4) (hn : a.near = false) :
    Calls Try.prog 35 #[.pointer (some ⟨m, 0, none⟩), .pointer (some ⟨d, 0, none⟩), .agg #[.int .i64 a.k, .int .i64 a.a, .int .i64 a.b, .int .i64 a.c, .int .u32 a.s, .bool a.near]] w fun e w' => e = .returned (.bool true) ∧ Hid (Tw B m d w0 w' (clN s (winN s a)) (clN s (winN s a)) gs ∧ Kept w w' gs) := by
  obtain ⟨ok0, ok1, ok2, ok3, ok4⟩ := ok
  have ba := wf_i64 ok1
  have bb := wf_i64 ok2
  have bc := wf_i64 ok3
  have hb0 : Below w.heap.size w (w.alloc (.cells #[.int .i64 a.k, .int .i64 a.a, .int .i64 a.b, .int .i64 a.c, .int .u32 a.s, .bool a.near] 26)) := (Below.refl _ _).alloc (Nat.le_refl _) _
  have HR0 : Hid (Tw B m d w0 (w.alloc (.cells #[.int .i64 a.k, .int .i64 a.a, .int .i64 a.b, .int .i64 a.c, .int .u32 a.s, .bool a.near] 26)) s s (w.heap.size :: gs)) := hidden (r.fresh hb0 w.heap.size (Nat.le_refl _) (by simp))
  have HA0 : Hid (AcAt (w.alloc (.cells #[.int .i64 a.k, .int .i64 a.a, .int .i64 a.b, .int .i64 a.c, .int .u32 a.s, .bool a.near] 26)) w.heap.size a) := hidden (heap_alloc_new w _)
  have HK0 : Hid (Kept w (w.alloc (.cells #[.int .i64 a.k, .int .i64 a.a, .int .i64 a.b, .int .i64 a.c, .int .u32 a.s, .bool a.near] 26)) gs) := hidden (fun g hg => by
    obtain ⟨v, u, h1, h2, h4, h5, h6, hg2⟩ := r
    exact hb0.block g (hg2 g hg).1)
  have HFIN : Hid (∀ w', Tw B m d w0 w' (clN s (winN s a)) (clN s (winN s a)) (w.heap.size :: gs) → Kept (w.alloc (.cells #[.int .i64 a.k, .int .i64 a.a, .int .i64 a.b, .int .i64 a.c, .int .u32 a.s, .bool a.near] 26)) w' (w.heap.size :: gs) → Tw B m d w0 w' (clN s (winN s a)) (clN s (winN s a)) gs ∧ Kept w w' gs) := hidden (fun w' h1 h2 => ⟨h1.less (fun g hg => List.mem_cons_of_mem _ hg), fun g hg => (h2 g (List.mem_cons_of_mem _ hg)).trans (HK0.out g hg)⟩)
  have HAC : Hid (∀ w', Kept (w.alloc (.cells #[.int .i64 a.k, .int .i64 a.a, .int .i64 a.b, .int .i64 a.c, .int .u32 a.s, .bool a.near] 26)) w' (w.heap.size :: gs) → AcAt w' w.heap.size a) := hidden (fun w' hk => by
    have h := HA0.out
    unfold AcAt at h ⊢
    rw [hk w.heap.size List.mem_cons_self]
    exact h)
  obtain ⟨c0, c1, c2, c3, c4, c5⟩ := HA0.out.six
  have HI := hidden ho
  have HL := hidden hl
  have hwin : winN s a = a.a := by unfold winN; rw [hn]; rfl
  rw [hwin] at HFIN ⊢
  clear hwin
  generalize hWW : w.alloc (.cells #[.int .i64 a.k, .int .i64 a.a, .int .i64 a.b, .int .i64 a.c, .int .u32 a.s, .bool a.near] 26) = W at *
  rw [hn] at c5
  have HNE := hidden hn
  clear hn
  rw [hk] at c0
  have HKE := hidden hk
  clear hk
  clear HA0 HK0 r ok0 ok1 ok2 ok3 ok4
  go_enter Try.func35, Try.ntmps35
  go_upto_region 1 with fail
  try rw [hWW]
  go_quiet (fail)
  have HB2 : Hid (Below W.heap.size W (W.drewN nq)) := hidden (below_drewN (Below.refl _ _) _)
  generalize W.drewN nq = W2 at *
  have HR2 := hidden (HR0.out.later HB2.out).1
  have HK2 := hidden (HR0.out.later HB2.out).2
  obtain ⟨c0, c1, c2, c3, c4, c5⟩ := (HAC.out _ HK2.out).six
  rw [HKE.out] at c0
  rw [HNE.out] at c5
  have HKC := hidden (HR2.out.kClose ho a.a)
  have HDC : Hid (∀ w3 gs3, Tw B m d w0 w3 (clN s a.a) s gs3 → _) := hidden (fun w3 gs3 h3 => Tw.dClose h3 HI.out a.a)
  have hcl := clZ_len ho a.a
  have hce : 0 ≤ clE s a.a ∧ clE s a.a ≤ 100 := by unfold clE; split <;> omega
  have HNU := hidden (fun wx => num_any (clE s a.a) wx hce.1 hce.2)
  have HZL : Hid ((clZ s a.a).length ≤ 1000) := hidden (by omega)
  generalize clE s a.a = E at *
  generalize clZ s a.a = ZS at *
  clear HR0 HR2 ho hl
  go_upto_region 7 with (first | (go_at_call 23; refine HKC.out.mono ?_; rintro e1 w3 ⟨a3, d3, rfl, HC3⟩) | fail)
  obtain ⟨r3, t3, k3⟩ := HC3.out
  obtain ⟨gs3, s1, s2, t3'⟩ := t3.rowL r3
  have HD3 := hidden (HDC.out _ _ t3')
  have HR3 := hidden r3
  have HKK3 := hidden k3
  have HS1 := hidden s1
  have HS2 := hidden s2
  clear HDC HKC r3 t3 k3 t3' s1 s2 HC3 c0 c1 c2 c3 c4 c5
  go_upto_region 8 with (first | (go_at_call 54; refine HD3.out.mono ?_; rintro e1 w4 ⟨a4, d4, rfl, HC4⟩) | fail)
  have HSM := hidden (same_eq (own_kept HR3.out HC4.out.2.2 HS2.out) HC4.out.1 HZL.out)
  have HT4 := hidden (HC4.out.2.1.less HS1.out)
  have HK4 : Hid (Kept W w4 (w.heap.size :: gs)) := hidden (fun g hg => ((HC4.out.2.2 g (HS1.out g hg)).trans (HKK3.out g hg)).trans (HK2.out g hg))
  clear HD3 HR3 HKK3 HS1 HS2 HC4
  go_wp2_with (first | (go_at_call 24; refine HSM.out.mono ?_; rintro e1 w5 ⟨rfl, HB5⟩) | (go_at_call 20; refine (HNU.out _).mono ?_; rintro e1 w6 ⟨rfl, e2⟩; rw [e2]; clear e2) | fail)
  go_ret
  obtain ⟨t5, k5⟩ := HT4.out.later HB5.out
  exact ⟨by first | rfl | simp, hidden (HFIN.out _ t5 (fun g hg => (k5 g hg).trans (HK4.out g hg)))⟩
set_option maxHeartbeats 8000000 in
theorem does_cl1 {B m d : Nat} {w0 w : World} {s : Ps} {gs : List Nat} (r : Tw B m d w0 w s s gs) (ho : Iv s) (hl : s.last ≤ 80000) (a : Ac) (ok : a.ok) (hk : a.k = 4) (hn : a.near = true) :
    Calls Try.prog 35 #[.pointer (some ⟨m, 0, none⟩), .pointer (some ⟨d, 0, none⟩), .agg #[.int .i64 a.k, .int .i64 a.a, .int .i64 a.b, .int .i64 a.c, .int .u32 a.s, .bool a.near]] w fun e w' => e = .returned (.bool true) ∧ Hid (Tw B m d w0 w' (clN s (winN s a)) (clN s (winN s a)) gs ∧ Kept w w' gs) := by
  obtain ⟨ok0, ok1, ok2, ok3, ok4⟩ := ok
  have ba := wf_i64 ok1
  have bb := wf_i64 ok2
  have bc := wf_i64 ok3
  have hb0 : Below w.heap.size w (w.alloc (.cells #[.int .i64 a.k, .int .i64 a.a, .int .i64 a.b, .int .i64 a.c, .int .u32 a.s, .bool a.near] 26)) := (Below.refl _ _).alloc (Nat.le_refl _) _
  have HR0 : Hid (Tw B m d w0 (w.alloc (.cells #[.int .i64 a.k, .int .i64 a.a, .int .i64 a.b, .int .i64 a.c, .int .u32 a.s, .bool a.near] 26)) s s (w.heap.size :: gs)) := hidden (r.fresh hb0 w.heap.size (Nat.le_refl _) (by simp))
  have HA0 : Hid (AcAt (w.alloc (.cells #[.int .i64 a.k, .int .i64 a.a, .int .i64 a.b, .int .i64 a.c, .int .u32 a.s, .bool a.near] 26)) w.heap.size a) := hidden (heap_alloc_new w _)
  have HK0 : Hid (Kept w (w.alloc (.cells #[.int .i64 a.k, .int .i64 a.a, .int .i64 a.b, .int .i64 a.c, .int .u32 a.s, .bool a.near] 26)) gs) := hidden (fun g hg => by
    obtain ⟨v, u, h1, h2, h4, h5, h6, hg2⟩ := r
    exact hb0.block g (hg2 g hg).1)
  have HFIN : Hid (∀ w', Tw B m d w0 w' (clN s (winN s a)) (clN s (winN s a)) (w.heap.size :: gs) → Kept (w.alloc (.cells #[.int .i64 a.k, .int .i64 a.a, .int .i64 a.b, .int .i64 a.c, .int .u32 a.s, .bool a.near] 26)) w' (w.heap.size :: gs) → Tw B m d w0 w' (clN s (winN s a)) (clN s (winN s a)) gs ∧ Kept w w' gs) := hidden (fun w' h1 h2 => ⟨h1.less (fun g hg => List.mem_cons_of_mem _ hg), fun g hg => (h2 g (List.mem_cons_of_mem _ hg)).trans (HK0.out g hg)⟩)
  have HAC : Hid (∀ w', Kept (w.alloc (.cells #[.int .i64 a.k, .int .i64 a.a, .int .i64 a.b, .int .i64 a.c, .int .u32 a.s, .bool a.near] 26)) w' (w.heap.size :: gs) → AcAt w' w.heap.size a) := hidden (fun w' hk => by
    have h := HA0.out
    unfold AcAt at h ⊢
    rw [hk w.heap.size List.mem_cons_self]
    exact h)
  obtain ⟨c0, c1, c2, c3, c4, c5⟩ := HA0.out.six
  have HI := hidden ho
  have HL := hidden hl
  have hwin : winN s a = nearW s.L a.a := by unfold winN; rw [hn]; rfl
  rw [hwin] at HFIN ⊢
  clear hwin
  generalize hWW : w.alloc (.cells #[.int .i64 a.k, .int .i64 a.a, .int .i64 a.b, .int .i64 a.c, .int .u32 a.s, .bool a.near] 26) = W at *
  rw [hn] at c5
  have HNE := hidden hn
  clear hn
  rw [hk] at c0
  have HKE := hidden hk
  clear hk
  have HN := hidden (fun wx (hx : Below W.heap.size W wx) => ((HR0.out.later hx).1.near ho a.a ba))
  generalize nearW s.L a.a = win at *
  clear HA0 HK0 r ok0 ok1 ok2 ok3 ok4
  go_enter Try.func35, Try.ntmps35
  go_upto_region 1 with fail
  try rw [hWW]
  go_quiet (fail)
  have HB2 : Hid (Below W.heap.size W (W.drewN nq)) := hidden (below_drewN (Below.refl _ _) _)
  generalize W.drewN nq = W2 at *
  have HR2 := hidden (HR0.out.later HB2.out).1
  have HK2 := hidden (HR0.out.later HB2.out).2
  obtain ⟨c0, c1, c2, c3, c4, c5⟩ := (HAC.out _ HK2.out).six
  rw [HKE.out] at c0
  rw [HNE.out] at c5
  have HKC := hidden (HR2.out.kClose ho win)
  have HDC : Hid (∀ w3 gs3, Tw B m d w0 w3 (clN s win) s gs3 → _) := hidden (fun w3 gs3 h3 => Tw.dClose h3 HI.out win)
  have hcl := clZ_len ho win
  have hce : 0 ≤ clE s win ∧ clE s win ≤ 100 := by unfold clE; split <;> omega
  have HNU := hidden (fun wx => num_any (clE s win) wx hce.1 hce.2)
  have HZL : Hid ((clZ s win).length ≤ 1000) := hidden (by omega)
  generalize clE s win = E at *
  generalize clZ s win = ZS at *
  clear HR0 HR2 ho hl
  go_upto_region 7 with (first | (go_at_call 18; refine (HN.out _ HB2.out).mono ?_; rintro e1 wn ⟨rfl, e2⟩; rw [e2]; clear e2) | (go_at_call 23; refine HKC.out.mono ?_; rintro e1 w3 ⟨a3, d3, rfl, HC3⟩) | fail)
  obtain ⟨r3, t3, k3⟩ := HC3.out
  obtain ⟨gs3, s1, s2, t3'⟩ := t3.rowL r3
  have HD3 := hidden (HDC.out _ _ t3')
  have HR3 := hidden r3
  have HKK3 := hidden k3
  have HS1 := hidden s1
  have HS2 := hidden s2
  clear HDC HKC r3 t3 k3 t3' s1 s2 HC3 c0 c1 c2 c3 c4 c5
  go_upto_region 8 with (first | (go_at_call 54; refine HD3.out.mono ?_; rintro e1 w4 ⟨a4, d4, rfl, HC4⟩) | fail)
  have HSM := hidden (same_eq (own_kept HR3.out HC4.out.2.2 HS2.out) HC4.out.1 HZL.out)
  have HT4 := hidden (HC4.out.2.1.less HS1.out)
  have HK4 : Hid (Kept W w4 (w.heap.size :: gs)) := hidden (fun g hg => ((HC4.out.2.2 g (HS1.out g hg)).trans (HKK3.out g hg)).trans (HK2.out g hg))
  clear HD3 HR3 HKK3 HS1 HS2 HC4
  go_wp2_with (first | (go_at_call 24; refine HSM.out.mono ?_; rintro e1 w5 ⟨rfl, HB5⟩) | (go_at_call 20; refine (HNU.out _).mono ?_; rintro e1 w6 ⟨rfl, e2⟩; rw [e2]; clear e2) | fail)
  go_ret
  obtain ⟨t5, k5⟩ := HT4.out.later HB5.out
  exact ⟨by first | rfl | simp, hidden (HFIN.out _ t5 (fun g hg => (k5 g hg).trans (HK4.out g hg)))⟩
set_option maxHeartbeats 8000000 in
theorem does_ar0 {B m d : Nat} {w0 w : World} {s : Ps} {gs : List Nat} (r : Tw B m d w0 w s s gs) (ho : Iv s) (hl : s.last ≤ 80000) (a : Ac) (ok : a.ok) (hk : a.k = 5 ∨ a.k = 6) (hn : a.near = false) :
    Calls Try.prog 35 #[.pointer (some ⟨m, 0, none⟩), .pointer (some ⟨d, 0, none⟩), .agg #[.int .i64 a.k, .int .i64 a.a, .int .i64 a.b, .int .i64 a.c, .int .u32 a.s, .bool a.near]] w fun e w' => e = .returned (.bool true) ∧ Hid (Tw B m d w0 w' (arN s (winN s a) a.b a.s (keyN s a)) (arN s (winN s a) a.b a.s (keyN s a)) gs ∧ Kept w w' gs) := by
  obtain ⟨ok0, ok1, ok2, ok3, ok4⟩ := ok
  have ba := wf_i64 ok1
  have bb := wf_i64 ok2
  have bc := wf_i64 ok3
  have hb0 : Below w.heap.size w (w.alloc (.cells #[.int .i64 a.k, .int .i64 a.a, .int .i64 a.b, .int .i64 a.c, .int .u32 a.s, .bool a.near] 26)) := (Below.refl _ _).alloc (Nat.le_refl _) _
  have HR0 : Hid (Tw B m d w0 (w.alloc (.cells #[.int .i64 a.k, .int .i64 a.a, .int .i64 a.b, .int .i64 a.c, .int .u32 a.s, .bool a.near] 26)) s s (w.heap.size :: gs)) := hidden (r.fresh hb0 w.heap.size (Nat.le_refl _) (by simp))
  have HA0 : Hid (AcAt (w.alloc (.cells #[.int .i64 a.k, .int .i64 a.a, .int .i64 a.b, .int .i64 a.c, .int .u32 a.s, .bool a.near] 26)) w.heap.size a) := hidden (heap_alloc_new w _)
  have HK0 : Hid (Kept w (w.alloc (.cells #[.int .i64 a.k, .int .i64 a.a, .int .i64 a.b, .int .i64 a.c, .int .u32 a.s, .bool a.near] 26)) gs) := hidden (fun g hg => by
    obtain ⟨v, u, h1, h2, h4, h5, h6, hg2⟩ := r
    exact hb0.block g (hg2 g hg).1)
  have HFIN : Hid (∀ w', Tw B m d w0 w' (arN s (winN s a) a.b a.s (keyN s a)) (arN s (winN s a) a.b a.s (keyN s a)) (w.heap.size :: gs) → Kept (w.alloc (.cells #[.int .i64 a.k, .int .i64 a.a, .int .i64 a.b, .int .i64 a.c, .int .u32 a.s, .bool a.near] 26)) w' (w.heap.size :: gs) → Tw B m d w0 w' (arN s (winN s a) a.b a.s (keyN s a)) (arN s (winN s a) a.b a.s (keyN s a)) gs ∧ Kept w w' gs) := hidden (fun w' h1 h2 => ⟨h1.less (fun g hg => List.mem_cons_of_mem _ hg), fun g hg => (h2 g (List.mem_cons_of_mem _ hg)).trans (HK0.out g hg)⟩)
  have HAC : Hid (∀ w', Kept (w.alloc (.cells #[.int .i64 a.k, .int .i64 a.a, .int .i64 a.b, .int .i64 a.c, .int .u32 a.s, .bool a.near] 26)) w' (w.heap.size :: gs) → AcAt w' w.heap.size a) := hidden (fun w' hk => by
    have h := HA0.out
    unfold AcAt at h ⊢
    rw [hk w.heap.size List.mem_cons_self]
    exact h)
  obtain ⟨c0, c1, c2, c3, c4, c5⟩ := HA0.out.six
  have HI := hidden ho
  have HL := hidden hl
  have hwin : winN s a = a.a := by unfold winN; rw [hn]; rfl
  rw [hwin] at HFIN ⊢
  clear hwin
  have hkey : keyN s a = a.c := by unfold keyN; rw [hn]; simp
  rw [hkey] at HFIN ⊢
  generalize hWW : w.alloc (.cells #[.int .i64 a.k, .int .i64 a.a, .int .i64 a.b, .int .i64 a.c, .int .u32 a.s, .bool a.near] 26) = W at *
  rw [hn] at c5
  have HNE := hidden hn
  clear hn
  clear HA0 HK0 r ok0 ok1 ok2 ok3 ok4
  rcases hk with hk | hk
  all_goals
    rw [hk] at c0
    have HKE := hidden hk
    clear hk
    go_enter Try.func35, Try.ntmps35
    go_upto_region 1 with fail
    try rw [hWW]
    go_quiet (fail)
    have HB2 : Hid (Below W.heap.size W (W.drewN nq)) := hidden (below_drewN (Below.refl _ _) _)
    generalize W.drewN nq = W2 at *
    have HR2 := hidden (HR0.out.later HB2.out).1
    have HK2 := hidden (HR0.out.later HB2.out).2
    obtain ⟨c0, c1, c2, c3, c4, c5⟩ := (HAC.out _ HK2.out).six
    rw [HKE.out] at c0
    rw [HNE.out] at c5
    have HKC : Hid (∀ wx, Below W2.heap.size W2 wx → Calls Try.prog 29 #[.pointer (some ⟨m, 0, none⟩), .int .i64 a.a, .int .i64 a.b, .int .u32 a.s, .int .i64 a.c] wx fun e w' => e = .returned (.int .i64 (arrE s a.a a.b a.c)) ∧ Hid (Tw B m d w0 w' (arN s a.a a.b a.s a.c) s (w.heap.size :: gs) ∧ Kept W w' (w.heap.size :: gs))) := hidden (fun wx hx => by
      obtain ⟨t1, k1⟩ := HR2.out.later hx
      exact (t1.kArr HI.out a.a a.b a.s a.c bb.1 bb.2).mono (fun e w' hh => ⟨hh.1, hidden ⟨hh.2.out.1, fun g hg => ((hh.2.out.2 g hg).trans (k1 g hg)).trans (HK2.out g hg)⟩⟩))
    have HDC : Hid (∀ wx, Tw B m d w0 wx (arN s a.a a.b a.s a.c) s (w.heap.size :: gs) ∧ Kept W wx (w.heap.size :: gs) → Calls Try.prog 55 #[.pointer (some ⟨d, 0, none⟩), .int .i64 a.a, .int .i64 a.b, .int .u32 a.s, .int .i64 a.c] wx fun e w' => e = .returned (.int .i64 (arrE s a.a a.b a.c)) ∧ Hid ((Tw B m d w0 w' (arN s a.a a.b a.s a.c) (arN s a.a a.b a.s a.c) gs ∧ Kept w w' gs) ∧ Kept W w' (w.heap.size :: gs))) := hidden (fun wx hx => (hx.1.dArr HI.out a.a a.b a.s a.c).mono (fun e w' hh => ⟨hh.1, hidden ⟨HFIN.out _ hh.2.out.1 (fun g hg => (hh.2.out.2 g hg).trans (hx.2 g hg)), fun g hg => (hh.2.out.2 g hg).trans (hx.2 g hg)⟩⟩))
    have HLT : Hid (∀ wx, Tw B m d w0 wx (arN s a.a a.b a.s a.c) s (w.heap.size :: gs) ∧ Kept W wx (w.heap.size :: gs) → Tw B m d w0 wx.drew (arN s a.a a.b a.s a.c) s (w.heap.size :: gs) ∧ Kept W wx.drew (w.heap.size :: gs)) := hidden (fun wx hx => by
      obtain ⟨t1, k1⟩ := hx.1.later (Below.refl _ _).drew
      exact ⟨t1, fun g hg => (k1 g hg).trans (hx.2 g hg)⟩)
    have HLF : Hid (∀ wx, (Tw B m d w0 wx (arN s a.a a.b a.s a.c) (arN s a.a a.b a.s a.c) gs ∧ Kept w wx gs) ∧ Kept W wx (w.heap.size :: gs) → Tw B m d w0 wx.drew (arN s a.a a.b a.s a.c) (arN s a.a a.b a.s a.c) gs ∧ Kept w wx.drew gs) := hidden (fun wx hx => by
      obtain ⟨t1, k1⟩ := hx.1.1.later (Below.refl _ _).drew
      exact ⟨t1, fun g hg => (k1 g hg).trans (hx.1.2 g hg)⟩)
    have hce := arrE_bd s a.a a.b a.c
    have HNU := hidden (fun wx => num_any (arrE s a.a a.b a.c) wx hce.1 hce.2)
    have HCA : Hid (∀ wx, Kept W wx (w.heap.size :: gs) → wx.cell? ⟨w.heap.size, 2, none⟩ = some (.int .i64 a.b) ∧ wx.cell? ⟨w.heap.size, 4, none⟩ = some (.int .u32 a.s)) := hidden (fun wx hx => ⟨(HAC.out wx hx).six.2.2.1, (HAC.out wx hx).six.2.2.2.2.1⟩)
    clear HR0 HR2 HFIN ho hl hce HAC
    generalize arrE s a.a a.b a.c = E at *
    generalize w.heap.size = AB at *
    go_upto_region 13 with fail
    go_region_held3 (fun w' => w'.cell? ⟨AB, 2, none⟩ = some (.int .i64 a.b) ∧ w'.cell? ⟨AB, 4, none⟩ = some (.int .u32 a.s)) (first | assumption | exact ⟨by assumption, by assumption⟩ | go_keep) (first
      | (go_at_call 29; refine (HKC.out _ (by first | exact (Below.refl _ _).drew | exact Below.refl _ _)).mono ?_; rintro e1 w5 ⟨rfl, HT5⟩; obtain ⟨f1, f2⟩ := HCA.out _ HT5.out.2)
      | (go_at_call 20; refine (HNU.out _).mono ?_; rintro e1 w6 ⟨rfl, e2⟩; rw [e2]; clear e2)
      | (go_at_call 55; refine (HDC.out _ (by first | exact HT5.out | exact HLT.out _ HT5.out)).mono ?_; rintro e1 w7 ⟨rfl, HT7⟩; obtain ⟨f1, f2⟩ := HCA.out _ HT7.out.2)
      | fail)
    all_goals (try go_wp2)
    all_goals go_ret
    all_goals first | exact ⟨by first | rfl | simp, hidden HT7.out.1⟩ | exact ⟨by first | rfl | simp, hidden (HLF.out _ HT7.out)⟩
set_option maxHeartbeats 8000000 in
theorem does_ar1 {B m d : Nat} {w0 w : World} {s : Ps} {gs : List Nat} (r : Tw B m d w0 w s s gs) (ho : Iv s) (hl : s.last ≤ 80000) (a : Ac) (ok : a.ok) (hk : a.k = 5 ∨ a.k = 6) (hn : a.near = true) :
    Calls Try.prog 35 #[.pointer (some ⟨m, 0, none⟩), .pointer (some ⟨d, 0, none⟩), .agg #[.int .i64 a.k, .int .i64 a.a, .int .i64 a.b, .int .i64 a.c, .int .u32 a.s, .bool a.near]] w fun e w' => e = .returned (.bool true) ∧ Hid (Tw B m d w0 w' (arN s (winN s a) a.b a.s (keyN s a)) (arN s (winN s a) a.b a.s (keyN s a)) gs ∧ Kept w w' gs) := by
  obtain ⟨ok0, ok1, ok2, ok3, ok4⟩ := ok
  have ba := wf_i64 ok1
  have bb := wf_i64 ok2
  have bc := wf_i64 ok3
  have hb0 : Below w.heap.size w (w.alloc (.cells #[.int .i64 a.k, .int .i64 a.a, .int .i64 a.b, .int .i64 a.c, .int .u32 a.s, .bool a.near] 26)) := (Below.refl _ _).alloc (Nat.le_refl _) _
  have HR0 : Hid (Tw B m d w0 (w.alloc (.cells #[.int .i64 a.k, .int .i64 a.a, .int .i64 a.b, .int .i64 a.c, .int .u32 a.s, .bool a.near] 26)) s s (w.heap.size :: gs)) := hidden (r.fresh hb0 w.heap.size (Nat.le_refl _) (by simp))
  have HA0 : Hid (AcAt (w.alloc (.cells #[.int .i64 a.k, .int .i64 a.a, .int .i64 a.b, .int .i64 a.c, .int .u32 a.s, .bool a.near] 26)) w.heap.size a) := hidden (heap_alloc_new w _)
  have HK0 : Hid (Kept w (w.alloc (.cells #[.int .i64 a.k, .int .i64 a.a, .int .i64 a.b, .int .i64 a.c, .int .u32 a.s, .bool a.near] 26)) gs) := hidden (fun g hg => by
    obtain ⟨v, u, h1, h2, h4, h5, h6, hg2⟩ := r
    exact hb0.block g (hg2 g hg).1)
  have HFIN : Hid (∀ w', Tw B m d w0 w' (arN s (winN s a) a.b a.s (keyN s a)) (arN s (winN s a) a.b a.s (keyN s a)) (w.heap.size :: gs) → Kept (w.alloc (.cells #[.int .i64 a.k, .int .i64 a.a, .int .i64 a.b, .int .i64 a.c, .int .u32 a.s, .bool a.near] 26)) w' (w.heap.size :: gs) → Tw B m d w0 w' (arN s (winN s a) a.b a.s (keyN s a)) (arN s (winN s a) a.b a.s (keyN s a)) gs ∧ Kept w w' gs) := hidden (fun w' h1 h2 => ⟨h1.less (fun g hg => List.mem_cons_of_mem _ hg), fun g hg => (h2 g (List.mem_cons_of_mem _ hg)).trans (HK0.out g hg)⟩)
  have HAC : Hid (∀ w', Kept (w.alloc (.cells #[.int .i64 a.k, .int .i64 a.a, .int .i64 a.b, .int .i64 a.c, .int .u32 a.s, .bool a.near] 26)) w' (w.heap.size :: gs) → AcAt w' w.heap.size a) := hidden (fun w' hk => by
    have h := HA0.out
    unfold AcAt at h ⊢
    rw [hk w.heap.size List.mem_cons_self]
    exact h)
  obtain ⟨c0, c1, c2, c3, c4, c5⟩ := HA0.out.six
  have HI := hidden ho
  have HL := hidden hl
  have hwin : winN s a = nearW s.L a.a := by unfold winN; rw [hn]; rfl
  rw [hwin] at HFIN ⊢
  clear hwin
  have hkey : keyN s a = if a.c ≠ 0 then nearW s.L a.c else a.c := by unfold keyN; rw [hn]; simp
  rw [hkey] at HFIN ⊢
  generalize hWW : w.alloc (.cells #[.int .i64 a.k, .int .i64 a.a, .int .i64 a.b, .int .i64 a.c, .int .u32 a.s, .bool a.near] 26) = W at *
  rw [hn] at c5
  have HNE := hidden hn
  clear hn
  have HN := hidden (fun wx (hx : Below W.heap.size W wx) => ((HR0.out.later hx).1.near ho a.a ba))
  generalize nearW s.L a.a = win at *
  have HN2 := hidden (fun wx (hx : Below W.heap.size W wx) => ((HR0.out.later hx).1.near ho a.c bc))
  clear HA0 HK0 r ok0 ok1 ok2 ok3 ok4
  rcases hk with hk | hk
  all_goals
    rw [hk] at c0
    have HKE := hidden hk
    clear hk
    obtain ⟨KY, hKY⟩ : ∃ KY, (if a.c ≠ 0 then nearW s.L a.c else a.c) = KY := ⟨_, rfl⟩
    rw [hKY] at HFIN ⊢
    have HKY := hidden hKY
    clear hKY
    go_enter Try.func35, Try.ntmps35
    go_upto_region 1 with fail
    try rw [hWW]
    go_quiet (fail)
    have HB2 : Hid (Below W.heap.size W (W.drewN nq)) := hidden (below_drewN (Below.refl _ _) _)
    generalize W.drewN nq = W2 at *
    have HR2 := hidden (HR0.out.later HB2.out).1
    have HK2 := hidden (HR0.out.later HB2.out).2
    obtain ⟨c0, c1, c2, c3, c4, c5⟩ := (HAC.out _ HK2.out).six
    rw [HKE.out] at c0
    rw [HNE.out] at c5
    have HKC : Hid (∀ wx, Below W2.heap.size W2 wx → Calls Try.prog 29 #[.pointer (some ⟨m, 0, none⟩), .int .i64 win, .int .i64 a.b, .int .u32 a.s, .int .i64 KY] wx fun e w' => e = .returned (.int .i64 (arrE s win a.b KY)) ∧ Hid (Tw B m d w0 w' (arN s win a.b a.s KY) s (w.heap.size :: gs) ∧ Kept W w' (w.heap.size :: gs))) := hidden (fun wx hx => by
      obtain ⟨t1, k1⟩ := HR2.out.later hx
      exact (t1.kArr HI.out win a.b a.s KY bb.1 bb.2).mono (fun e w' hh => ⟨hh.1, hidden ⟨hh.2.out.1, fun g hg => ((hh.2.out.2 g hg).trans (k1 g hg)).trans (HK2.out g hg)⟩⟩))
    have HDC : Hid (∀ wx, Tw B m d w0 wx (arN s win a.b a.s KY) s (w.heap.size :: gs) ∧ Kept W wx (w.heap.size :: gs) → Calls Try.prog 55 #[.pointer (some ⟨d, 0, none⟩), .int .i64 win, .int .i64 a.b, .int .u32 a.s, .int .i64 KY] wx fun e w' => e = .returned (.int .i64 (arrE s win a.b KY)) ∧ Hid ((Tw B m d w0 w' (arN s win a.b a.s KY) (arN s win a.b a.s KY) gs ∧ Kept w w' gs) ∧ Kept W w' (w.heap.size :: gs))) := hidden (fun wx hx => (hx.1.dArr HI.out win a.b a.s KY).mono (fun e w' hh => ⟨hh.1, hidden ⟨HFIN.out _ hh.2.out.1 (fun g hg => (hh.2.out.2 g hg).trans (hx.2 g hg)), fun g hg => (hh.2.out.2 g hg).trans (hx.2 g hg)⟩⟩))
    have HLT : Hid (∀ wx, Tw B m d w0 wx (arN s win a.b a.s KY) s (w.heap.size :: gs) ∧ Kept W wx (w.heap.size :: gs) → Tw B m d w0 wx.drew (arN s win a.b a.s KY) s (w.heap.size :: gs) ∧ Kept W wx.drew (w.heap.size :: gs)) := hidden (fun wx hx => by
      obtain ⟨t1, k1⟩ := hx.1.later (Below.refl _ _).drew
      exact ⟨t1, fun g hg => (k1 g hg).trans (hx.2 g hg)⟩)
    have HLF : Hid (∀ wx, (Tw B m d w0 wx (arN s win a.b a.s KY) (arN s win a.b a.s KY) gs ∧ Kept w wx gs) ∧ Kept W wx (w.heap.size :: gs) → Tw B m d w0 wx.drew (arN s win a.b a.s KY) (arN s win a.b a.s KY) gs ∧ Kept w wx.drew gs) := hidden (fun wx hx => by
      obtain ⟨t1, k1⟩ := hx.1.1.later (Below.refl _ _).drew
      exact ⟨t1, fun g hg => (k1 g hg).trans (hx.1.2 g hg)⟩)
    have hce := arrE_bd s win a.b KY
    have HNU := hidden (fun wx => num_any (arrE s win a.b KY) wx hce.1 hce.2)
    have HCA : Hid (∀ wx, Kept W wx (w.heap.size :: gs) → wx.cell? ⟨w.heap.size, 2, none⟩ = some (.int .i64 a.b) ∧ wx.cell? ⟨w.heap.size, 4, none⟩ = some (.int .u32 a.s)) := hidden (fun wx hx => ⟨(HAC.out wx hx).six.2.2.1, (HAC.out wx hx).six.2.2.2.2.1⟩)
    have hKY := HKY.out
    clear HKY
    by_cases c0' : a.c = 0
    · rw [if_neg (fun q => q c0')] at hKY
      have kq : (a.c != 0) = false := by simp [c0']
      clear c0'
      subst hKY
      clear HN2
      clear HR0 HR2 HFIN ho hl hce HAC
      generalize arrE s win a.b a.c = E at *
      generalize w.heap.size = AB at *
      go_upto_region 13 with (first | (go_at_call 18; refine (HN.out _ HB2.out).mono ?_; rintro e1 wn ⟨rfl, e2⟩; rw [e2]; clear e2) | fail)
      go_region_held3 (fun w' => w'.cell? ⟨AB, 2, none⟩ = some (.int .i64 a.b) ∧ w'.cell? ⟨AB, 4, none⟩ = some (.int .u32 a.s)) (first | assumption | exact ⟨by assumption, by assumption⟩ | go_keep) (first
        | (go_at_call 29; refine (HKC.out _ (by first | exact (Below.refl _ _).drew | exact Below.refl _ _)).mono ?_; rintro e1 w5 ⟨rfl, HT5⟩; obtain ⟨f1, f2⟩ := HCA.out _ HT5.out.2)
        | (go_at_call 20; refine (HNU.out _).mono ?_; rintro e1 w6 ⟨rfl, e2⟩; rw [e2]; clear e2)
        | (go_at_call 55; refine (HDC.out _ (by first | exact HT5.out | exact HLT.out _ HT5.out)).mono ?_; rintro e1 w7 ⟨rfl, HT7⟩; obtain ⟨f1, f2⟩ := HCA.out _ HT7.out.2)
        | fail)
      all_goals (try go_wp2)
      all_goals go_ret
      all_goals first | exact ⟨by first | rfl | simp, hidden HT7.out.1⟩ | exact ⟨by first | rfl | simp, hidden (HLF.out _ HT7.out)⟩
    · rw [if_pos c0'] at hKY
      have kq : (a.c != 0) = true := by rw [bne_iff_ne]; exact c0'
      rw [hKY] at HN2
      clear hKY c0'
      clear HR0 HR2 HFIN ho hl hce HAC
      generalize arrE s win a.b KY = E at *
      generalize w.heap.size = AB at *
      go_upto_region 13 with (first | (go_at_call 18; (with_reducible refine (HN.out _ HB2.out).mono ?_); rintro e1 wn ⟨rfl, e2⟩; rw [e2]; clear e2) | (go_at_call 18; (with_reducible refine (HN2.out _ HB2.out).mono ?_); rintro e1 wn ⟨rfl, e2⟩; rw [e2]; clear e2) | fail)
      go_region_held3 (fun w' => w'.cell? ⟨AB, 2, none⟩ = some (.int .i64 a.b) ∧ w'.cell? ⟨AB, 4, none⟩ = some (.int .u32 a.s)) (first | assumption | exact ⟨by assumption, by assumption⟩ | go_keep) (first
        | (go_at_call 29; refine (HKC.out _ (by first | exact (Below.refl _ _).drew | exact Below.refl _ _)).mono ?_; rintro e1 w5 ⟨rfl, HT5⟩; obtain ⟨f1, f2⟩ := HCA.out _ HT5.out.2)
        | (go_at_call 20; refine (HNU.out _).mono ?_; rintro e1 w6 ⟨rfl, e2⟩; rw [e2]; clear e2)
        | (go_at_call 55; refine (HDC.out _ (by first | exact HT5.out | exact HLT.out _ HT5.out)).mono ?_; rintro e1 w7 ⟨rfl, HT7⟩; obtain ⟨f1, f2⟩ := HCA.out _ HT7.out.2)
        | fail)
      all_goals (try go_wp2)
      all_goals go_ret
      all_goals first | exact ⟨by first | rfl | simp, hidden HT7.out.1⟩ | exact ⟨by first | rfl | simp, hidden (HLF.out _ HT7.out)⟩
set_option maxHeartbeats 8000000 in
theorem does_rs0 {B m d : Nat} {w0 w : World} {s : Ps} {gs : List Nat} (r : Tw B m d w0 w s s gs) (ho : Iv s) (hl : s.last ≤ 80000) (a : Ac) (ok : a.ok) (hk : a.k = 7) (hn : a.near = false) :
    Calls Try.prog 35 #[.pointer (some ⟨m, 0, none⟩), .pointer (some ⟨d, 0, none⟩), .agg #[.int .i64 a.k, .int .i64 a.a, .int .i64 a.b, .int .i64 a.c, .int .u32 a.s, .bool a.near]] w fun e w' => e = .returned (.bool true) ∧ Hid (Tw B m d w0 w' (rsN s a.a a.b) (rsN s a.a a.b) gs ∧ Kept w w' gs) := by
  obtain ⟨ok0, ok1, ok2, ok3, ok4⟩ := ok
  have ba := wf_i64 ok1
  have bb := wf_i64 ok2
  have bc := wf_i64 ok3
  have hb0 : Below w.heap.size w (w.alloc (.cells #[.int .i64 a.k, .int .i64 a.a, .int .i64 a.b, .int .i64 a.c, .int .u32 a.s, .bool a.near] 26)) := (Below.refl _ _).alloc (Nat.le_refl _) _
  have HR0 : Hid (Tw B m d w0 (w.alloc (.cells #[.int .i64 a.k, .int .i64 a.a, .int .i64 a.b, .int .i64 a.c, .int .u32 a.s, .bool a.near] 26)) s s (w.heap.size :: gs)) := hidden (r.fresh hb0 w.heap.size (Nat.le_refl _) (by simp))
  have HA0 : Hid (AcAt (w.alloc (.cells #[.int .i64 a.k, .int .i64 a.a, .int .i64 a.b, .int .i64 a.c, .int .u32 a.s, .bool a.near] 26)) w.heap.size a) := hidden (heap_alloc_new w _)
  have HK0 : Hid (Kept w (w.alloc (.cells #[.int .i64 a.k, .int .i64 a.a, .int .i64 a.b, .int .i64 a.c, .int .u32 a.s, .bool a.near] 26)) gs) := hidden (fun g hg => by
    obtain ⟨v, u, h1, h2, h4, h5, h6, hg2⟩ := r
    exact hb0.block g (hg2 g hg).1)
  have HFIN : Hid (∀ w', Tw B m d w0 w' (rsN s a.a a.b) (rsN s a.a a.b) (w.heap.size :: gs) → Kept (w.alloc (.cells #[.int .i64 a.k, .int .i64 a.a, .int .i64 a.b, .int .i64 a.c, .int .u32 a.s, .bool a.near] 26)) w' (w.heap.size :: gs) → Tw B m d w0 w' (rsN s a.a a.b) (rsN s a.a a.b) gs ∧ Kept w w' gs) := hidden (fun w' h1 h2 => ⟨h1.less (fun g hg => List.mem_cons_of_mem _ hg), fun g hg => (h2 g (List.mem_cons_of_mem _ hg)).trans (HK0.out g hg)⟩)
  have HAC : Hid (∀ w', Kept (w.alloc (.cells #[.int .i64 a.k, .int .i64 a.a, .int .i64 a.b, .int .i64 a.c, .int .u32 a.s, .bool a.near] 26)) w' (w.heap.size :: gs) → AcAt w' w.heap.size a) := hidden (fun w' hk => by
    have h := HA0.out
    unfold AcAt at h ⊢
    rw [hk w.heap.size List.mem_cons_self]
    exact h)
  obtain ⟨c0, c1, c2, c3, c4, c5⟩ := HA0.out.six
  have HI := hidden ho
  have HL := hidden hl
  generalize hWW : w.alloc (.cells #[.int .i64 a.k, .int .i64 a.a, .int .i64 a.b, .int .i64 a.c, .int .u32 a.s, .bool a.near] 26) = W at *
  rw [hn] at c5
  have HNE := hidden hn
  clear hn
  rw [hk] at c0
  have HKE := hidden hk
  clear hk
  clear HA0 HK0 r ok0 ok1 ok2 ok3 ok4
  go_enter Try.func35, Try.ntmps35
  go_upto_region 1 with fail
  try rw [hWW]
  go_quiet (fail)
  have HB2 : Hid (Below W.heap.size W (W.drewN nq)) := hidden (below_drewN (Below.refl _ _) _)
  generalize W.drewN nq = W2 at *
  have HR2 := hidden (HR0.out.later HB2.out).1
  have HK2 := hidden (HR0.out.later HB2.out).2
  obtain ⟨c0, c1, c2, c3, c4, c5⟩ := (HAC.out _ HK2.out).six
  rw [HKE.out] at c0
  rw [HNE.out] at c5
  have HKC : Hid (∀ wx, Below W2.heap.size W2 wx → Calls Try.prog 31 #[.pointer (some ⟨m, 0, none⟩), .int .i64 a.a, .int .i64 a.b] wx fun e w' => e = .returned (.int .i64 (rsE a.a a.b)) ∧ Hid (Tw B m d w0 w' (rsN s a.a a.b) s (w.heap.size :: gs) ∧ Kept W w' (w.heap.size :: gs))) := hidden (fun wx hx => by
    obtain ⟨t1, k1⟩ := HR2.out.later hx
    exact (t1.kRes a.a a.b).mono (fun e w' hh => ⟨hh.1, hidden ⟨hh.2.out.1, fun g hg => ((hh.2.out.2 g hg).trans (k1 g hg)).trans (HK2.out g hg)⟩⟩))
  have HDC : Hid (∀ wx, Tw B m d w0 wx (rsN s a.a a.b) s (w.heap.size :: gs) ∧ Kept W wx (w.heap.size :: gs) → Calls Try.prog 56 #[.pointer (some ⟨d, 0, none⟩), .int .i64 a.a, .int .i64 a.b] wx fun e w' => e = .returned (.int .i64 (rsE a.a a.b)) ∧ Hid ((Tw B m d w0 w' (rsN s a.a a.b) (rsN s a.a a.b) gs ∧ Kept w w' gs) ∧ Kept W w' (w.heap.size :: gs))) := hidden (fun wx hx => (hx.1.dRes a.a a.b).mono (fun e w' hh => ⟨hh.1, hidden ⟨HFIN.out _ hh.2.out.1 (fun g hg => (hh.2.out.2 g hg).trans (hx.2 g hg)), fun g hg => (hh.2.out.2 g hg).trans (hx.2 g hg)⟩⟩))
  have HLT : Hid (∀ wx, Tw B m d w0 wx (rsN s a.a a.b) s (w.heap.size :: gs) ∧ Kept W wx (w.heap.size :: gs) → Tw B m d w0 wx.drew (rsN s a.a a.b) s (w.heap.size :: gs) ∧ Kept W wx.drew (w.heap.size :: gs)) := hidden (fun wx hx => by
    obtain ⟨t1, k1⟩ := hx.1.later (Below.refl _ _).drew
    exact ⟨t1, fun g hg => (k1 g hg).trans (hx.2 g hg)⟩)
  have HLF : Hid (∀ wx, (Tw B m d w0 wx (rsN s a.a a.b) (rsN s a.a a.b) gs ∧ Kept w wx gs) ∧ Kept W wx (w.heap.size :: gs) → Tw B m d w0 wx.drew (rsN s a.a a.b) (rsN s a.a a.b) gs ∧ Kept w wx.drew gs) := hidden (fun wx hx => by
    obtain ⟨t1, k1⟩ := hx.1.1.later (Below.refl _ _).drew
    exact ⟨t1, fun g hg => (k1 g hg).trans (hx.1.2 g hg)⟩)
  have hce : 0 ≤ rsE a.a a.b ∧ rsE a.a a.b ≤ 100 := by unfold rsE; split <;> omega
  have HNU := hidden (fun wx => num_any (rsE a.a a.b) wx hce.1 hce.2)
  have HCA : Hid (∀ wx, Kept W wx (w.heap.size :: gs) → wx.cell? ⟨w.heap.size, 1, none⟩ = some (.int .i64 a.a) ∧ wx.cell? ⟨w.heap.size, 2, none⟩ = some (.int .i64 a.b)) := hidden (fun wx hx => ⟨(HAC.out wx hx).six.2.1, (HAC.out wx hx).six.2.2.1⟩)
  clear HR0 HR2 HFIN ho hl hce HAC
  generalize rsE a.a a.b = E at *
  generalize w.heap.size = AB at *
  go_upto_region 15 with (first | fail)
  go_region_held3 (fun w' => w'.cell? ⟨AB, 1, none⟩ = some (.int .i64 a.a) ∧ w'.cell? ⟨AB, 2, none⟩ = some (.int .i64 a.b)) (first | assumption | exact ⟨by assumption, by assumption⟩ | go_keep) (first
    | (go_at_call 31; refine (HKC.out _ (by first | exact (Below.refl _ _).drew | exact Below.refl _ _)).mono ?_; rintro e1 w5 ⟨rfl, HT5⟩; obtain ⟨f1, f2⟩ := HCA.out _ HT5.out.2)
    | (go_at_call 20; refine (HNU.out _).mono ?_; rintro e1 w6 ⟨rfl, e2⟩; rw [e2]; clear e2)
    | (go_at_call 56; refine (HDC.out _ (by first | exact HT5.out | exact HLT.out _ HT5.out)).mono ?_; rintro e1 w7 ⟨rfl, HT7⟩; obtain ⟨f1, f2⟩ := HCA.out _ HT7.out.2)
    | fail)
  all_goals (try go_wp2)
  all_goals go_ret
  all_goals first | exact ⟨by first | rfl | simp, hidden HT7.out.1⟩ | exact ⟨by first | rfl | simp, hidden (HLF.out _ HT7.out)⟩
set_option maxHeartbeats 8000000 in
theorem does_rs1 {B m d : Nat} {w0 w : World} {s : Ps} {gs : List Nat} (r : Tw B m d w0 w s s gs) (ho : Iv s) (hl : s.last ≤ 80000) (a : Ac) (ok : a.ok) (hk : a.k = 7) (hn : a.near = true) :
    Calls Try.prog 35 #[.pointer (some ⟨m, 0, none⟩), .pointer (some ⟨d, 0, none⟩), .agg #[.int .i64 a.k, .int .i64 a.a, .int .i64 a.b, .int .i64 a.c, .int .u32 a.s, .bool a.near]] w fun e w' => e = .returned (.bool true) ∧ Hid (Tw B m d w0 w' (rsN s a.a a.b) (rsN s a.a a.b) gs ∧ Kept w w' gs) := by
  obtain ⟨ok0, ok1, ok2, ok3, ok4⟩ := ok
  have ba := wf_i64 ok1
  have bb := wf_i64 ok2
  have bc := wf_i64 ok3
  have hb0 : Below w.heap.size w (w.alloc (.cells #[.int .i64 a.k, .int .i64 a.a, .int .i64 a.b, .int .i64 a.c, .int .u32 a.s, .bool a.near] 26)) := (Below.refl _ _).alloc (Nat.le_refl _) _
  have HR0 : Hid (Tw B m d w0 (w.alloc (.cells #[.int .i64 a.k, .int .i64 a.a, .int .i64 a.b, .int .i64 a.c, .int .u32 a.s, .bool a.near] 26)) s s (w.heap.size :: gs)) := hidden (r.fresh hb0 w.heap.size (Nat.le_refl _) (by simp))
  have HA0 : Hid (AcAt (w.alloc (.cells #[.int .i64 a.k, .int .i64 a.a, .int .i64 a.b, .int .i64 a.c, .int .u32 a.s, .bool a.near] 26)) w.heap.size a) := hidden (heap_alloc_new w _)
  have HK0 : Hid (Kept w (w.alloc (.cells #[.int .i64 a.k, .int .i64 a.a, .int .i64 a.b, .int .i64 a.c, .int .u32 a.s, .bool a.near] 26)) gs) := hidden (fun g hg => by
    obtain ⟨v, u, h1, h2, h4, h5, h6, hg2⟩ := r
    exact hb0.block g (hg2 g hg).1)
  have HFIN : Hid (∀ w', Tw B m d w0 w' (rsN s a.a a.b) (rsN s a.a a.b) (w.heap.size :: gs) → Kept (w.alloc (.cells #[.int .i64 a.k, .int .i64 a.a, .int .i64 a.b, .int .i64 a.c, .int .u32 a.s, .bool a.near] 26)) w' (w.heap.size :: gs) → Tw B m d w0 w' (rsN s a.a a.b) (rsN s a.a a.b) gs ∧ Kept w w' gs) := hidden (fun w' h1 h2 => ⟨h1.less (fun g hg => List.mem_cons_of_mem _ hg), fun g hg => (h2 g (List.mem_cons_of_mem _ hg)).trans (HK0.out g hg)⟩)
  have HAC : Hid (∀ w', Kept (w.alloc (.cells #[.int .i64 a.k, .int .i64 a.a, .int .i64 a.b, .int .i64 a.c, .int .u32 a.s, .bool a.near] 26)) w' (w.heap.size :: gs) → AcAt w' w.heap.size a) := hidden (fun w' hk => by
    have h := HA0.out
    unfold AcAt at h ⊢
    rw [hk w.heap.size List.mem_cons_self]
    exact h)
  obtain ⟨c0, c1, c2, c3, c4, c5⟩ := HA0.out.six
  have HI := hidden ho
  have HL := hidden hl
  generalize hWW : w.alloc (.cells #[.int .i64 a.k, .int .i64 a.a, .int .i64 a.b, .int .i64 a.c, .int .u32 a.s, .bool a.near] 26) = W at *
  rw [hn] at c5
  have HNE := hidden hn
  clear hn
  rw [hk] at c0
  have HKE := hidden hk
  clear hk
  have HN := hidden (fun wx (hx : Below W.heap.size W wx) => ((HR0.out.later hx).1.near ho a.a ba))
  generalize nearW s.L a.a = win at *
  clear HA0 HK0 r ok0 ok1 ok2 ok3 ok4
  go_enter Try.func35, Try.ntmps35
  go_upto_region 1 with fail
  try rw [hWW]
  go_quiet (fail)
  have HB2 : Hid (Below W.heap.size W (W.drewN nq)) := hidden (below_drewN (Below.refl _ _) _)
  generalize W.drewN nq = W2 at *
  have HR2 := hidden (HR0.out.later HB2.out).1
  have HK2 := hidden (HR0.out.later HB2.out).2
  obtain ⟨c0, c1, c2, c3, c4, c5⟩ := (HAC.out _ HK2.out).six
  rw [HKE.out] at c0
  rw [HNE.out] at c5
  have HKC : Hid (∀ wx, Below W2.heap.size W2 wx → Calls Try.prog 31 #[.pointer (some ⟨m, 0, none⟩), .int .i64 a.a, .int .i64 a.b] wx fun e w' => e = .returned (.int .i64 (rsE a.a a.b)) ∧ Hid (Tw B m d w0 w' (rsN s a.a a.b) s (w.heap.size :: gs) ∧ Kept W w' (w.heap.size :: gs))) := hidden (fun wx hx => by
    obtain ⟨t1, k1⟩ := HR2.out.later hx
    exact (t1.kRes a.a a.b).mono (fun e w' hh => ⟨hh.1, hidden ⟨hh.2.out.1, fun g hg => ((hh.2.out.2 g hg).trans (k1 g hg)).trans (HK2.out g hg)⟩⟩))
  have HDC : Hid (∀ wx, Tw B m d w0 wx (rsN s a.a a.b) s (w.heap.size :: gs) ∧ Kept W wx (w.heap.size :: gs) → Calls Try.prog 56 #[.pointer (some ⟨d, 0, none⟩), .int .i64 a.a, .int .i64 a.b] wx fun e w' => e = .returned (.int .i64 (rsE a.a a.b)) ∧ Hid ((Tw B m d w0 w' (rsN s a.a a.b) (rsN s a.a a.b) gs ∧ Kept w w' gs) ∧ Kept W w' (w.heap.size :: gs))) := hidden (fun wx hx => (hx.1.dRes a.a a.b).mono (fun e w' hh => ⟨hh.1, hidden ⟨HFIN.out _ hh.2.out.1 (fun g hg => (hh.2.out.2 g hg).trans (hx.2 g hg)), fun g hg => (hh.2.out.2 g hg).trans (hx.2 g hg)⟩⟩))
  have HLT : Hid (∀ wx, Tw B m d w0 wx (rsN s a.a a.b) s (w.heap.size :: gs) ∧ Kept W wx (w.heap.size :: gs) → Tw B m d w0 wx.drew (rsN s a.a a.b) s (w.heap.size :: gs) ∧ Kept W wx.drew (w.heap.size :: gs)) := hidden (fun wx hx => by
    obtain ⟨t1, k1⟩ := hx.1.later (Below.refl _ _).drew
    exact ⟨t1, fun g hg => (k1 g hg).trans (hx.2 g hg)⟩)
  have HLF : Hid (∀ wx, (Tw B m d w0 wx (rsN s a.a a.b) (rsN s a.a a.b) gs ∧ Kept w wx gs) ∧ Kept W wx (w.heap.size :: gs) → Tw B m d w0 wx.drew (rsN s a.a a.b) (rsN s a.a a.b) gs ∧ Kept w wx.drew gs) := hidden (fun wx hx => by
    obtain ⟨t1, k1⟩ := hx.1.1.later (Below.refl _ _).drew
    exact ⟨t1, fun g hg => (k1 g hg).trans (hx.1.2 g hg)⟩)
  have hce : 0 ≤ rsE a.a a.b ∧ rsE a.a a.b ≤ 100 := by unfold rsE; split <;> omega
  have HNU := hidden (fun wx => num_any (rsE a.a a.b) wx hce.1 hce.2)
  have HCA : Hid (∀ wx, Kept W wx (w.heap.size :: gs) → wx.cell? ⟨w.heap.size, 1, none⟩ = some (.int .i64 a.a) ∧ wx.cell? ⟨w.heap.size, 2, none⟩ = some (.int .i64 a.b)) := hidden (fun wx hx => ⟨(HAC.out wx hx).six.2.1, (HAC.out wx hx).six.2.2.1⟩)
  clear HR0 HR2 HFIN ho hl hce HAC
  generalize rsE a.a a.b = E at *
  generalize w.heap.size = AB at *
  go_upto_region 15 with (first | (go_at_call 18; refine (HN.out _ HB2.out).mono ?_; rintro e1 wn ⟨rfl, e2⟩; rw [e2]; clear e2) | fail)
  go_region_held3 (fun w' => w'.cell? ⟨AB, 1, none⟩ = some (.int .i64 a.a) ∧ w'.cell? ⟨AB, 2, none⟩ = some (.int .i64 a.b)) (first | assumption | exact ⟨by assumption, by assumption⟩ | go_keep) (first
    | (go_at_call 31; refine (HKC.out _ (by first | exact (Below.refl _ _).drew | exact Below.refl _ _)).mono ?_; rintro e1 w5 ⟨rfl, HT5⟩; obtain ⟨f1, f2⟩ := HCA.out _ HT5.out.2)
    | (go_at_call 20; refine (HNU.out _).mono ?_; rintro e1 w6 ⟨rfl, e2⟩; rw [e2]; clear e2)
    | (go_at_call 56; refine (HDC.out _ (by first | exact HT5.out | exact HLT.out _ HT5.out)).mono ?_; rintro e1 w7 ⟨rfl, HT7⟩; obtain ⟨f1, f2⟩ := HCA.out _ HT7.out.2)
    | fail)
  all_goals (try go_wp2)
  all_goals go_ret
  all_goals first | exact ⟨by first | rfl | simp, hidden HT7.out.1⟩ | exact ⟨by first | rfl | simp, hidden (HLF.out _ HT7.out)⟩
set_option maxHeartbeats 8000000 in
theorem does_op0 {B m d : Nat} {w0 w : World} {s : Ps} {gs : List Nat} (r : Tw B m d w0 w s s gs) (ho : Iv s) (hl : s.last ≤ 80000) (a : Ac) (ok : a.ok) (hk : a.k ≠ 4 ∧ a.k ≠ 5 ∧ a.k ≠ 6 ∧ a.k ≠ 7) (hn : a.near = false) :
    Calls Try.prog 35 #[.pointer (some ⟨m, 0, none⟩), .pointer (some ⟨d, 0, none⟩), .agg #[.int .i64 a.k, .int .i64 a.a, .int .i64 a.b, .int .i64 a.c, .int .u32 a.s, .bool a.near]] w fun e w' => e = .returned (.bool true) ∧ Hid (Tw B m d w0 w' (opN s (winN s a) a.b a.s a.c) (opN s (winN s a) a.b a.s a.c) gs ∧ Kept w w' gs) := by
  obtain ⟨ok0, ok1, ok2, ok3, ok4⟩ := ok
  have ba := wf_i64 ok1
  have bb := wf_i64 ok2
  have bc := wf_i64 ok3
  have hb0 : Below w.heap.size w (w.alloc (.cells #[.int .i64 a.k, .int .i64 a.a, .int .i64 a.b, .int .i64 a.c, .int .u32 a.s, .bool a.near] 26)) := (Below.refl _ _).alloc (Nat.le_refl _) _
  have HR0 : Hid (Tw B m d w0 (w.alloc (.cells #[.int .i64 a.k, .int .i64 a.a, .int .i64 a.b, .int .i64 a.c, .int .u32 a.s, .bool a.near] 26)) s s (w.heap.size :: gs)) := hidden (r.fresh hb0 w.heap.size (Nat.le_refl _) (by simp))
  have HA0 : Hid (AcAt (w.alloc (.cells #[.int .i64 a.k, .int .i64 a.a, .int .i64 a.b, .int .i64 a.c, .int .u32 a.s, .bool a.near] 26)) w.heap.size a) := hidden (heap_alloc_new w _)
  have HK0 : Hid (Kept w (w.alloc (.cells #[.int .i64 a.k, .int .i64 a.a, .int .i64 a.b, .int .i64 a.c, .int .u32 a.s, .bool a.near] 26)) gs) := hidden (fun g hg => by
    obtain ⟨v, u, h1, h2, h4, h5, h6, hg2⟩ := r
    exact hb0.block g (hg2 g hg).1)
  have HFIN : Hid (∀ w', Tw B m d w0 w' (opN s (winN s a) a.b a.s a.c) (opN s (winN s a) a.b a.s a.c) (w.heap.size :: gs) → Kept (w.alloc (.cells #[.int .i64 a.k, .int .i64 a.a, .int .i64 a.b, .int .i64 a.c, .int .u32 a.s, .bool a.near] 26)) w' (w.heap.size :: gs) → Tw B m d w0 w' (opN s (winN s a) a.b a.s a.c) (opN s (winN s a) a.b a.s a.c) gs ∧ Kept w w' gs) := hidden (fun w' h1 h2 => ⟨h1.less (fun g hg => List.mem_cons_of_mem _ hg), fun g hg => (h2 g (List.mem_cons_of_mem _ hg)).trans (HK0.out g hg)⟩)
  have HAC : Hid (∀ w', Kept (w.alloc (.cells #[.int .i64 a.k, .int .i64 a.a, .int .i64 a.b, .int .i64 a.c, .int .u32 a.s, .bool a.near] 26)) w' (w.heap.size :: gs) → AcAt w' w.heap.size a) := hidden (fun w' hk => by
    have h := HA0.out
    unfold AcAt at h ⊢
    rw [hk w.heap.size List.mem_cons_self]
    exact h)
  obtain ⟨c0, c1, c2, c3, c4, c5⟩ := HA0.out.six
  have HI := hidden ho
  have HL := hidden hl
  have hwin : winN s a = a.a := by unfold winN; rw [hn]; rfl
  rw [hwin] at HFIN ⊢
  clear hwin
  generalize hWW : w.alloc (.cells #[.int .i64 a.k, .int .i64 a.a, .int .i64 a.b, .int .i64 a.c, .int .u32 a.s, .bool a.near] 26) = W at *
  rw [hn] at c5
  have HNE := hidden hn
  clear hn
  have n4 : (a.k == 4) = false := by simp [hk.1]
  have n5 : (a.k == 5) = false := by simp [hk.2.1]
  have n6 : (a.k == 6) = false := by simp [hk.2.2.1]
  have n7 : (a.k == 7) = false := by simp [hk.2.2.2]
  clear hk
  clear HA0 HK0 r ok0 ok1 ok2 ok3 ok4
  go_enter Try.func35, Try.ntmps35
  go_upto_region 1 with fail
  try rw [hWW]
  go_quiet (fail)
  have HB2 : Hid (Below W.heap.size W (W.drewN nq)) := hidden (below_drewN (Below.refl _ _) _)
  generalize W.drewN nq = W2 at *
  have HR2 := hidden (HR0.out.later HB2.out).1
  have HK2 := hidden (HR0.out.later HB2.out).2
  obtain ⟨c0, c1, c2, c3, c4, c5⟩ := (HAC.out _ HK2.out).six
  rw [HNE.out] at c5
  have HKC := hidden (HR2.out.kOpen ho hl a.a a.b a.s a.c bb.1 bb.2)
  have HDC : Hid (∀ w3, Tw B m d w0 w3 (opN s a.a a.b a.s a.c) s (w.heap.size :: gs) → _) := hidden (fun w3 h3 => Tw.dOpen h3 HI.out HL.out a.a a.b a.s a.c)
  have hce := mayE_bd s a.a a.b a.c
  have HNU := hidden (fun wx => num_any (mayE s a.a a.b a.c) wx hce.1 hce.2)
  clear HR0 HR2 ho hl
  generalize mayE s a.a a.b a.c = E at *
  generalize opX s a.a a.b a.c = X at *
  go_upto_region 17 with (first | (go_at_call 19; refine HKC.out.mono ?_; rintro e1 w3 ⟨rfl, HC3⟩) | fail)
  have HD3 := hidden (HDC.out _ HC3.out.1)
  have HK3 : Hid (Kept W w3 (w.heap.size :: gs)) := hidden (fun g hg => (HC3.out.2 g hg).trans (HK2.out g hg))
  obtain ⟨c0, c1, c2, c3, c4, c5⟩ := (HAC.out _ HK3.out).six
  clear HDC HKC HC3 HAC
  go_wp2_with (first | (go_at_call 57; refine HD3.out.mono ?_; rintro e1 w4 ⟨rfl, HC4⟩) | (go_at_call 20; refine (HNU.out _).mono ?_; rintro e1 w6 ⟨rfl, e2⟩; rw [e2]; clear e2) | fail)
  go_ret
  exact ⟨by first | rfl | simp, hidden (HFIN.out _ HC4.out.1 (fun g hg => (HC4.out.2 g hg).trans (HK3.out g hg)))⟩
set_option maxHeartbeats 8000000 in
theorem does_op1 {B m d : Nat} {w0 w : World} {s : Ps} {gs : List Nat} (r : Tw B m d w0 w s s gs) (ho : Iv s) (hl : s.last ≤ 80000) (a : Ac) (ok : a.ok) (hk : a.k ≠ 4 ∧ a.k ≠ 5 ∧ a.k ≠ 6 ∧ a.k ≠ 7) (hn : a.near = true) :
    Calls Try.prog 35 #[.pointer (some ⟨m, 0, none⟩), .pointer (some ⟨d, 0, none⟩), .agg #[.int .i64 a.k, .int .i64 a.a, .int .i64 a.b, .int .i64 a.c, .int .u32 a.s, .bool a.near]] w fun e w' => e = .returned (.bool true) ∧ Hid (Tw B m d w0 w' (opN s (winN s a) a.b a.s a.c) (opN s (winN s a) a.b a.s a.c) gs ∧ Kept w w' gs) := by
  obtain ⟨ok0, ok1, ok2, ok3, ok4⟩ := ok
  have ba := wf_i64 ok1
  have bb := wf_i64 ok2
  have bc := wf_i64 ok3
  have hb0 : Below w.heap.size w (w.alloc (.cells #[.int .i64 a.k, .int .i64 a.a, .int .i64 a.b, .int .i64 a.c, .int .u32 a.s, .bool a.near] 26)) := (Below.refl _ _).alloc (Nat.le_refl _) _
  have HR0 : Hid (Tw B m d w0 (w.alloc (.cells #[.int .i64 a.k, .int .i64 a.a, .int .i64 a.b, .int .i64 a.c, .int .u32 a.s, .bool a.near] 26)) s s (w.heap.size :: gs)) := hidden (r.fresh hb0 w.heap.size (Nat.le_refl _) (by simp))
  have HA0 : Hid (AcAt (w.alloc (.cells #[.int .i64 a.k, .int .i64 a.a, .int .i64 a.b, .int .i64 a.c, .int .u32 a.s, .bool a.near] 26)) w.heap.size a) := hidden (heap_alloc_new w _)
  have HK0 : Hid (Kept w (w.alloc (.cells #[.int .i64 a.k, .int .i64 a.a, .int .i64 a.b, .int .i64 a.c, .int .u32 a.s, .bool a.near] 26)) gs) := hidden (fun g hg => by
    obtain ⟨v, u, h1, h2, h4, h5, h6, hg2⟩ := r
    exact hb0.block g (hg2 g hg).1)
  have HFIN : Hid (∀ w', Tw B m d w0 w' (opN s (winN s a) a.b a.s a.c) (opN s (winN s a) a.b a.s a.c) (w.heap.size :: gs) → Kept (w.alloc (.cells #[.int .i64 a.k, .int .i64 a.a, .int .i64 a.b, .int .i64 a.c, .int .u32 a.s, .bool a.near] 26)) w' (w.heap.size :: gs) → Tw B m d w0 w' (opN s (winN s a) a.b a.s a.c) (opN s (winN s a) a.b a.s a.c) gs ∧ Kept w w' gs) := hidden (fun w' h1 h2 => ⟨h1.less (fun g hg => List.mem_cons_of_mem _ hg), fun g hg => (h2 g (List.mem_cons_of_mem _ hg)).trans (HK0.out g hg)⟩)
  have HAC : Hid (∀ w', Kept (w.alloc (.cells #[.int .i64 a.k, .int .i64 a.a, .int .i64 a.b, .int .i64 a.c, .int .u32 a.s, .bool a.near] 26)) w' (w.heap.size :: gs) → AcAt w' w.heap.size a) := hidden (fun w' hk => by
    have h := HA0.out
    unfold AcAt at h ⊢
    rw [hk w.heap.size List.mem_cons_self]
    exact h)
  obtain ⟨c0, c1, c2, c3, c4, c5⟩ := HA0.out.six
  have HI := hidden ho
  have HL := hidden hl
  have hwin : winN s a = nearW s.L a.a := by unfold winN; rw [hn]; rfl
  rw [hwin] at HFIN ⊢
  clear hwin
  generalize hWW : w.alloc (.cells #[.int .i64 a.k, .int .i64 a.a, .int .i64 a.b, .int .i64 a.c, .int .u32 a.s, .bool a.near] 26) = W at *
  rw [hn] at c5
  have HNE := hidden hn
  clear hn
  have n4 : (a.k == 4) = false := by simp [hk.1]
  have n5 : (a.k == 5) = false := by simp [hk.2.1]
  have n6 : (a.k == 6) = false := by simp [hk.2.2.1]
  have n7 : (a.k == 7) = false := by simp [hk.2.2.2]
  clear hk
  have HN := hidden (fun wx (hx : Below W.heap.size W wx) => ((HR0.out.later hx).1.near ho a.a ba))
  generalize nearW s.L a.a = win at *
  clear HA0 HK0 r ok0 ok1 ok2 ok3 ok4
  go_enter Try.func35, Try.ntmps35
  go_upto_region 1 with fail
  try rw [hWW]
  go_quiet (fail)
  have HB2 : Hid (Below W.heap.size W (W.drewN nq)) := hidden (below_drewN (Below.refl _ _) _)
  generalize W.drewN nq = W2 at *
  have HR2 := hidden (HR0.out.later HB2.out).1
  have HK2 := hidden (HR0.out.later HB2.out).2
  obtain ⟨c0, c1, c2, c3, c4, c5⟩ := (HAC.out _ HK2.out).six
  rw [HNE.out] at c5
  have HKC := hidden (HR2.out.kOpen ho hl win a.b a.s a.c bb.1 bb.2)
  have HDC : Hid (∀ w3, Tw B m d w0 w3 (opN s win a.b a.s a.c) s (w.heap.size :: gs) → _) := hidden (fun w3 h3 => Tw.dOpen h3 HI.out HL.out win a.b a.s a.c)
  have hce := mayE_bd s win a.b a.c
  have HNU := hidden (fun wx => num_any (mayE s win a.b a.c) wx hce.1 hce.2)
  clear HR0 HR2 ho hl
  generalize mayE s win a.b a.c = E at *
  generalize opX s win a.b a.c = X at *
  go_upto_region 17 with (first | (go_at_call 18; refine (HN.out _ HB2.out).mono ?_; rintro e1 wn ⟨rfl, e2⟩; rw [e2]; clear e2) | (go_at_call 19; refine HKC.out.mono ?_; rintro e1 w3 ⟨rfl, HC3⟩) | fail)
  have HD3 := hidden (HDC.out _ HC3.out.1)
  have HK3 : Hid (Kept W w3 (w.heap.size :: gs)) := hidden (fun g hg => (HC3.out.2 g hg).trans (HK2.out g hg))
  obtain ⟨c0, c1, c2, c3, c4, c5⟩ := (HAC.out _ HK3.out).six
  clear HDC HKC HC3 HAC
  go_wp2_with (first | (go_at_call 57; refine HD3.out.mono ?_; rintro e1 w4 ⟨rfl, HC4⟩) | (go_at_call 20; refine (HNU.out _).mono ?_; rintro e1 w6 ⟨rfl, e2⟩; rw [e2]; clear e2) | fail)
  go_ret
  exact ⟨by first | rfl | simp, hidden (HFIN.out _ HC4.out.1 (fun g hg => (HC4.out.2 g hg).trans (HK3.out g hg)))⟩
theorem does_any {B m d : Nat} {w0 w : World} {s : Ps} {gs : List Nat} (r : Tw B m d w0 w s s gs) (ho : Iv s) (hl : s.last ≤ 80000) (a : Ac) (ok : a.ok) :
    Calls Try.prog 35 #[.pointer (some ⟨m, 0, none⟩), .pointer (some ⟨d, 0, none⟩), .agg #[.int .i64 a.k, .int .i64 a.a, .int .i64 a.b, .int .i64 a.c, .int .u32 a.s, .bool a.near]] w fun e w' => e = .returned (.bool true) ∧ Hid (Tw B m d w0 w' (stepS s a) (stepS s a) gs ∧ Kept w w' gs) := by
  unfold stepS
  by_cases hn : a.near = true
  · by_cases h4 : a.k = 4
    · rw [if_pos h4]; exact does_cl1 r ho hl a ok h4 hn
    · rw [if_neg h4]
      by_cases h5 : a.k = 5 ∨ a.k = 6
      · rw [if_pos h5]; exact does_ar1 r ho hl a ok h5 hn
      · rw [if_neg h5]
        by_cases h7 : a.k = 7
        · rw [if_pos h7]; exact does_rs1 r ho hl a ok h7 hn
        · rw [if_neg h7]; exact does_op1 r ho hl a ok ⟨h4, fun e => h5 (.inl e), fun e => h5 (.inr e), h7⟩ hn
  · by_cases h4 : a.k = 4
    · rw [if_pos h4]; exact does_cl0 r ho hl a ok h4 (by simpa using hn)
    · rw [if_neg h4]
      by_cases h5 : a.k = 5 ∨ a.k = 6
      · rw [if_pos h5]; exact does_ar0 r ho hl a ok h5 (by simpa using hn)
      · rw [if_neg h5]
        by_cases h7 : a.k = 7
        · rw [if_pos h7]; exact does_rs0 r ho hl a ok h7 (by simpa using hn)
        · rw [if_neg h7]; exact does_op0 r ho hl a ok ⟨h4, fun e => h5 (.inl e), fun e => h5 (.inr e), h7⟩ (by simpa using hn)
end Go.Proofs.Ytilfgbcbodjegaa
