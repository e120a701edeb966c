/- Layer 14, the document: where a window lies that has a parent. -/
import Derived.Test.YtilfgbcbodjegaaR14i
namespace Go.Proofs.Ytilfgbcbodjegaa
open Go.RowKit
set_option maxHeartbeats 1000000
set_option maxRecDepth 100000
set_option linter.unusedVariables false

/-- the boxes of a call of Rect: its answer, the pair, where the pair lies -/
structure RkB (w wx : World) (G Q Z : Nat) (d : Wd) (r : R4) : Prop where
  bel : Below G w wx
  g : wx.heap[G]? = some (.cells (r4V ⟨0, 0, 0, 0⟩) 36 (0, 0))
  q : wx.heap[Q]? = some (.cells (wdV d).toArray 66 (0, 0))
  z : wx.heap[Z]? = some (.cells (r4V r) 36 (0, 0))
theorem RkB.later {w wx wy : World} {G Q Z : Nat} {d : Wd} {r : R4} (h : RkB w wx G Q Z d r) (hg : G ≤ wx.heap.size) (hb : Below wx.heap.size wx wy) : RkB w wy G Q Z d r :=
  ⟨h.bel.trans (hb.mono hg), by rw [hb.block G (Array.getElem?_eq_some_iff.1 h.g).1]; exact h.g, by rw [hb.block Q (Array.getElem?_eq_some_iff.1 h.q).1]; exact h.q, by rw [hb.block Z (Array.getElem?_eq_some_iff.1 h.z).1]; exact h.z⟩
theorem RkB.cells {w wx : World} {G Q Z : Nat} {d : Wd} {r : R4} (h : RkB w wx G Q Z d r) : (wx.cell? ⟨G, 0, none⟩ = some (.int .i64 0) ∧ wx.cell? ⟨G, 1, none⟩ = some (.int .i64 0) ∧ wx.cell? ⟨G, 2, none⟩ = some (.int .i64 0) ∧ wx.cell? ⟨G, 3, none⟩ = some (.int .i64 0) ∧ wx.frozen? ⟨G, 0, none⟩ = false ∧ wx.frozen? ⟨G, 1, none⟩ = false ∧ wx.frozen? ⟨G, 2, none⟩ = false ∧ wx.frozen? ⟨G, 3, none⟩ = false) ∧ (wx.cell? ⟨Q, 0, none⟩ = some (.int .i64 d.n) ∧ wx.cell? ⟨Q, 1, none⟩ = some (.int .i64 d.k) ∧ wx.cell? ⟨Q, 2, none⟩ = some (.int .i64 d.p) ∧ wx.cell? ⟨Q, 3, none⟩ = some (.int .i64 d.a) ∧ wx.cell? ⟨Q, 4, none⟩ = some (.int .i64 d.b) ∧ wx.cell? ⟨Q, 5, none⟩ = some (.int .i64 d.m) ∧ wx.cell? ⟨Q, 6, none⟩ = some (.int .u32 d.s) ∧ wx.cell? ⟨Q, 7, none⟩ = some (.int .i64 d.key)) ∧ (wx.cell? ⟨Z, 0, none⟩ = some (.int .i64 r.x) ∧ wx.cell? ⟨Z, 1, none⟩ = some (.int .i64 r.y) ∧ wx.cell? ⟨Z, 2, none⟩ = some (.int .i64 r.w) ∧ wx.cell? ⟨Z, 3, none⟩ = some (.int .i64 r.h)) := by
  have hg := h.g
  have hq := h.q
  have hz := h.z
  refine ⟨⟨by simp [World.cell?, hg, r4V], by simp [World.cell?, hg, r4V], by simp [World.cell?, hg, r4V], by simp [World.cell?, hg, r4V], by simp [World.frozen?, hg], by simp [World.frozen?, hg], by simp [World.frozen?, hg], by simp [World.frozen?, hg]⟩, ⟨by simp [World.cell?, hq, wdV], by simp [World.cell?, hq, wdV], by simp [World.cell?, hq, wdV], by simp [World.cell?, hq, wdV], by simp [World.cell?, hq, wdV], by simp [World.cell?, hq, wdV], by simp [World.cell?, hq, wdV], by simp [World.cell?, hq, wdV]⟩, by simp [World.cell?, hz, r4V], by simp [World.cell?, hz, r4V], by simp [World.cell?, hz, r4V], by simp [World.cell?, hz, r4V]⟩
set_option maxHeartbeats 4000000 in
theorem rk_100 {m : Nat} {w : World} (hml : m < w.heap.size) (x p : Int) (i : Nat) (d dx : Wd) (r : R4) (M : Int) (hdn : d.n = p) (h0 : p ≠ 0) (hpx : dx.p = p)
    (HA : Hid (∀ w1, Below w.heap.size w w1 → Calls Try.prog 53 #[.pointer (some ⟨m, 0, none⟩), .int .i64 x] w1 fun e w' => e = .returned (.int .i64 i) ∧ w' = w1))
    (HO1 : Hid (∀ w1, Below w.heap.size w w1 → Calls Try.prog 32 #[.pointer (some ⟨m, 0, none⟩), .int .i64 x] w1 fun e w' => e = .returned (wdA dx) ∧ Hid (Below w1.heap.size w1 w')))
    (HO2 : Hid (∀ w1, Below w.heap.size w w1 → Calls Try.prog 32 #[.pointer (some ⟨m, 0, none⟩), .int .i64 p] w1 fun e w' => e = .returned (wdA d) ∧ Hid (Below w1.heap.size w1 w')))
    (HRC : Hid (∀ w1, Below w.heap.size w w1 → Calls Try.prog 71 #[.pointer (some ⟨m, 0, none⟩), .int .i64 p] w1 fun e w' => e = .returned (.tuple #[r4A r, .bool true]) ∧ Hid (Below w1.heap.size w1 w')))
    (HCL : Hid (∀ w1, Calls Try.prog 76 #[.int .i64 d.m] w1 fun e w' => e = .returned (.bool true) ∧ w' = w1))
    (HPT : Hid (∀ w1, Below w.heap.size w w1 → Calls Try.prog 92 #[.pointer (some ⟨m, 0, none⟩), wdA d, .int .i64 r.w] w1 fun e w' => e = .returned (.int .i64 M) ∧ Hid (Below w1.heap.size w1 w')))
    (ht : d.m.tmod 2 = 0) (hb : (x == d.b) = false) (hr : R4Ok r) (m0 : 0 ≤ M) (m1 : M ≤ r.w) :
    Calls Try.prog 71 #[.pointer (some ⟨m, 0, none⟩), .int .i64 x] w fun e w' => e = .returned (.tuple #[.agg #[.int .i64 r.x, .int .i64 r.y, .int .i64 M, .int .i64 r.h], .bool true]) ∧ Hid (Below w.heap.size w w') := by
  obtain ⟨x0, y0, w0, h00, xw, yh⟩ := hr
  have HK : Hid (KpB w (w.alloc (.cells #[.int .i64 0, .int .i64 0, .int .i64 0, .int .i64 0] 36)) w.heap.size) := hidden ⟨(Below.refl _ _).alloc (Nat.le_refl _) _, heap_alloc_new w _⟩
  have l9 : ¬ (i : Int) < 0 := by omega
  have q0 : (d.n == 0) = false := by rw [hdn]; simp [h0]
  have tw : IntKind.i64.wrap 0 = 0 := by rw [IntKind.wrap_i64]; omega
  have v3 : IntKind.i64.wrap (r.x + 0) = r.x := by rw [IntKind.wrap_i64]; omega
  have v4 : IntKind.i64.wrap r.x = r.x := by rw [IntKind.wrap_i64]; omega
  subst hdn
  unfold wdA at HO1 HO2 HPT
  unfold r4A at HRC
  rw [hpx] at HO1
  clear hpx
  have hf := wfld2 dx.n dx.k d.n dx.a dx.b dx.m dx.s dx.key
  go_enter Try.func71, Try.ntmps71
  go_upto_region 1 with fail
  generalize w.alloc (.cells #[.int .i64 0, .int .i64 0, .int .i64 0, .int .i64 0] 36) = W at *
  go_upto_region 4 with (first | (go_at_call 53; refine (HA.out _ HK.out.bel).mono ?_; rintro e w2 ⟨rfl, e2⟩; rw [e2]; clear e2) | (go_at_call 32; (with_reducible refine (HO1.out _ HK.out.bel).mono ?_); rintro e w3 ⟨rfl, HB3⟩; have HK3 := hidden (HK.out.later HB3.out)) | (go_at_call 32; (with_reducible refine (HO2.out _ HK3.out.bel).mono ?_); rintro e w4 ⟨rfl, HB4⟩; have HK4 := hidden (HK3.out.later HB4.out)) | fail)
  have HK5 : Hid (KpB w (w4.alloc (.cells #[.int .i64 d.n, .int .i64 d.k, .int .i64 d.p, .int .i64 d.a, .int .i64 d.b, .int .i64 d.m, .int .u32 d.s, .int .i64 d.key] 66)) w.heap.size) := hidden (HK4.out.later ((Below.refl _ _).alloc (Nat.le_refl _) _))
  have HQ5 : Hid ((w4.alloc (.cells #[.int .i64 d.n, .int .i64 d.k, .int .i64 d.p, .int .i64 d.a, .int .i64 d.b, .int .i64 d.m, .int .u32 d.s, .int .i64 d.key] 66)).heap[w4.heap.size]? = some (.cells (wdV d).toArray 66 (0, 0))) := hidden (heap_alloc_new w4 _)
  generalize w4.alloc (.cells #[.int .i64 d.n, .int .i64 d.k, .int .i64 d.p, .int .i64 d.a, .int .i64 d.b, .int .i64 d.m, .int .u32 d.s, .int .i64 d.key] 66) = W5 at *
  generalize w4.heap.size = Q at *
  have k0 : W5.cell? ⟨Q, 0, none⟩ = some (.int .i64 d.n) := by
    have hq := HQ5.out
    simp [World.cell?, hq, wdV]
  clear HK HK3 HK4 HB3 HB4 HA HO1 HO2
  go_upto_region 7 with (first | (go_at_call 71; refine (HRC.out _ HK5.out.bel).mono ?_; rintro e w6 ⟨rfl, HB6⟩; have HK6 := hidden (HK5.out.later HB6.out)) | fail)
  have HR7 : Hid (RkB w (w6.alloc (.cells #[.int .i64 r.x, .int .i64 r.y, .int .i64 r.w, .int .i64 r.h] 36)) w.heap.size Q w6.heap.size d r) := hidden (by
    have hb := (Below.refl w6.heap.size w6).alloc (Nat.le_refl _) (.cells #[.int .i64 r.x, .int .i64 r.y, .int .i64 r.w, .int .i64 r.h] 36)
    have k7 := HK6.out.later hb
    refine ⟨k7.bel, k7.box, ?_, heap_alloc_new w6 _⟩
    have hq := HQ5.out
    have hq6 : w6.heap[Q]? = _ := (HB6.out.block Q (Array.getElem?_eq_some_iff.1 hq).1).trans hq
    rw [hb.block Q (Array.getElem?_eq_some_iff.1 hq6).1]
    exact hq6)
  have hz7 : w.heap.size ≤ (w6.alloc (.cells #[.int .i64 r.x, .int .i64 r.y, .int .i64 r.w, .int .i64 r.h] 36)).heap.size := HR7.out.bel.size
  generalize w6.alloc (.cells #[.int .i64 r.x, .int .i64 r.y, .int .i64 r.w, .int .i64 r.h] 36) = W7 at *
  generalize w6.heap.size = Z at *
  obtain ⟨⟨a0, a1, a2, a3, b0, b1, b2, b3⟩, ⟨c0, c1, c2, c3, c4, c5, c6, c7⟩, z0, z1, z2, z3⟩ := HR7.out.cells
  have HPT7 := hidden (HPT.out W7 HR7.out.bel)
  have HL7 : Hid (∀ w', Below W7.heap.size W7 w' → RkB w w' w.heap.size Q Z d r) := hidden (fun w' hb => HR7.out.later hz7 hb)
  clear HK5 HK6 HQ5 HB6 HRC HPT HR7 k0
  go_upto_region 11 with (first | (go_at_call 76; refine (HCL.out _).mono ?_; rintro e w8 ⟨rfl, e8⟩; rw [e8]; clear e8) | (go_at_call 92; refine HPT7.out.mono ?_; rintro e w9 ⟨rfl, HB9⟩) | fail)
  have HR9 := hidden (HL7.out _ HB9.out)
  clear a0 a1 a2 a3 b0 b1 b2 b3 c0 c1 c2 c3 c4 c5 c6 c7 z0 z1 z2 z3 HPT7 HL7 HB9
  obtain ⟨⟨a0, a1, a2, a3, b0, b1, b2, b3⟩, ⟨c0, c1, c2, c3, c4, c5, c6, c7⟩, z0, z1, z2, z3⟩ := HR9.out.cells
  have HBW := hidden HR9.out.bel
  clear HR9 hz7
  obtain ⟨G, hG⟩ : ∃ G, w.heap.size = G := ⟨_, rfl⟩
  have HG : Hid (w.heap.size ≤ G) := hidden (by omega)
  rw [hG] at a0 a1 a2 a3 b0 b1 b2 b3
  rw [hG]
  clear hG hml
  go_wp2_with (first | (go_at_call 76; refine (HCL.out _).mono ?_; rintro e w8 ⟨rfl, e8⟩; rw [e8]; clear e8) | fail)
  refine bodyPost_ret (v := .tuple #[.agg #[.int .i64 r.x, .int .i64 r.y, .int .i64 M, .int .i64 r.h], .bool true]) (by simp [results, Try.results71, go_sem, a0, a1, a2, a3]) rfl ⟨rfl, hidden ?_⟩
  exact below_set (below_set (below_set (below_set HBW.out G 0 _ HG.out) G 1 _ HG.out) G 2 _ HG.out) G 3 _ HG.out
set_option maxHeartbeats 4000000 in
theorem rk_101 {m : Nat} {w : World} (hml : m < w.heap.size) (x p : Int) (i : Nat) (d dx : Wd) (r : R4) (M : Int) (hdn : d.n = p) (h0 : p ≠ 0) (hpx : dx.p = p)
    (HA : Hid (∀ w1, Below w.heap.size w w1 → Calls Try.prog 53 #[.pointer (some ⟨m, 0, none⟩), .int .i64 x] w1 fun e w' => e = .returned (.int .i64 i) ∧ w' = w1))
    (HO1 : Hid (∀ w1, Below w.heap.size w w1 → Calls Try.prog 32 #[.pointer (some ⟨m, 0, none⟩), .int .i64 x] w1 fun e w' => e = .returned (wdA dx) ∧ Hid (Below w1.heap.size w1 w')))
    (HO2 : Hid (∀ w1, Below w.heap.size w w1 → Calls Try.prog 32 #[.pointer (some ⟨m, 0, none⟩), .int .i64 p] w1 fun e w' => e = .returned (wdA d) ∧ Hid (Below w1.heap.size w1 w')))
    (HRC : Hid (∀ w1, Below w.heap.size w w1 → Calls Try.prog 71 #[.pointer (some ⟨m, 0, none⟩), .int .i64 p] w1 fun e w' => e = .returned (.tuple #[r4A r, .bool true]) ∧ Hid (Below w1.heap.size w1 w')))
    (HCL : Hid (∀ w1, Calls Try.prog 76 #[.int .i64 d.m] w1 fun e w' => e = .returned (.bool true) ∧ w' = w1))
    (HPT : Hid (∀ w1, Below w.heap.size w w1 → Calls Try.prog 92 #[.pointer (some ⟨m, 0, none⟩), wdA d, .int .i64 r.w] w1 fun e w' => e = .returned (.int .i64 M) ∧ Hid (Below w1.heap.size w1 w')))
    (ht : d.m.tmod 2 = 0) (hb : (x == d.b) = true) (hr : R4Ok r) (m0 : 0 ≤ M) (m1 : M ≤ r.w) :
    Calls Try.prog 71 #[.pointer (some ⟨m, 0, none⟩), .int .i64 x] w fun e w' => e = .returned (.tuple #[.agg #[.int .i64 (r.x + M), .int .i64 r.y, .int .i64 (r.w - M), .int .i64 r.h], .bool true]) ∧ Hid (Below w.heap.size w w') := by
  obtain ⟨x0, y0, w0, h00, xw, yh⟩ := hr
  have HK : Hid (KpB w (w.alloc (.cells #[.int .i64 0, .int .i64 0, .int .i64 0, .int .i64 0] 36)) w.heap.size) := hidden ⟨(Below.refl _ _).alloc (Nat.le_refl _) _, heap_alloc_new w _⟩
  have l9 : ¬ (i : Int) < 0 := by omega
  have q0 : (d.n == 0) = false := by rw [hdn]; simp [h0]
  have tw : IntKind.i64.wrap 0 = 0 := by rw [IntKind.wrap_i64]; omega
  have v2 : IntKind.i64.wrap (r.w - M) = r.w - M := by rw [IntKind.wrap_i64]; omega
  have v3 : IntKind.i64.wrap (r.x + M) = r.x + M := by rw [IntKind.wrap_i64]; omega
  subst hdn
  unfold wdA at HO1 HO2 HPT
  unfold r4A at HRC
  rw [hpx] at HO1
  clear hpx
  have hf := wfld2 dx.n dx.k d.n dx.a dx.b dx.m dx.s dx.key
  go_enter Try.func71, Try.ntmps71
  go_upto_region 1 with fail
  generalize w.alloc (.cells #[.int .i64 0, .int .i64 0, .int .i64 0, .int .i64 0] 36) = W at *
  go_upto_region 4 with (first | (go_at_call 53; refine (HA.out _ HK.out.bel).mono ?_; rintro e w2 ⟨rfl, e2⟩; rw [e2]; clear e2) | (go_at_call 32; (with_reducible refine (HO1.out _ HK.out.bel).mono ?_); rintro e w3 ⟨rfl, HB3⟩; have HK3 := hidden (HK.out.later HB3.out)) | (go_at_call 32; (with_reducible refine (HO2.out _ HK3.out.bel).mono ?_); rintro e w4 ⟨rfl, HB4⟩; have HK4 := hidden (HK3.out.later HB4.out)) | fail)
  have HK5 : Hid (KpB w (w4.alloc (.cells #[.int .i64 d.n, .int .i64 d.k, .int .i64 d.p, .int .i64 d.a, .int .i64 d.b, .int .i64 d.m, .int .u32 d.s, .int .i64 d.key] 66)) w.heap.size) := hidden (HK4.out.later ((Below.refl _ _).alloc (Nat.le_refl _) _))
  have HQ5 : Hid ((w4.alloc (.cells #[.int .i64 d.n, .int .i64 d.k, .int .i64 d.p, .int .i64 d.a, .int .i64 d.b, .int .i64 d.m, .int .u32 d.s, .int .i64 d.key] 66)).heap[w4.heap.size]? = some (.cells (wdV d).toArray 66 (0, 0))) := hidden (heap_alloc_new w4 _)
  generalize w4.alloc (.cells #[.int .i64 d.n, .int .i64 d.k, .int .i64 d.p, .int .i64 d.a, .int .i64 d.b, .int .i64 d.m, .int .u32 d.s, .int .i64 d.key] 66) = W5 at *
  generalize w4.heap.size = Q at *
  have k0 : W5.cell? ⟨Q, 0, none⟩ = some (.int .i64 d.n) := by
    have hq := HQ5.out
    simp [World.cell?, hq, wdV]
  clear HK HK3 HK4 HB3 HB4 HA HO1 HO2
  go_upto_region 7 with (first | (go_at_call 71; refine (HRC.out _ HK5.out.bel).mono ?_; rintro e w6 ⟨rfl, HB6⟩; have HK6 := hidden (HK5.out.later HB6.out)) | fail)
  have HR7 : Hid (RkB w (w6.alloc (.cells #[.int .i64 r.x, .int .i64 r.y, .int .i64 r.w, .int .i64 r.h] 36)) w.heap.size Q w6.heap.size d r) := hidden (by
    have hb := (Below.refl w6.heap.size w6).alloc (Nat.le_refl _) (.cells #[.int .i64 r.x, .int .i64 r.y, .int .i64 r.w, .int .i64 r.h] 36)
    have k7 := HK6.out.later hb
    refine ⟨k7.bel, k7.box, ?_, heap_alloc_new w6 _⟩
    have hq := HQ5.out
    have hq6 : w6.heap[Q]? = _ := (HB6.out.block Q (Array.getElem?_eq_some_iff.1 hq).1).trans hq
    rw [hb.block Q (Array.getElem?_eq_some_iff.1 hq6).1]
    exact hq6)
  have hz7 : w.heap.size ≤ (w6.alloc (.cells #[.int .i64 r.x, .int .i64 r.y, .int .i64 r.w, .int .i64 r.h] 36)).heap.size := HR7.out.bel.size
  generalize w6.alloc (.cells #[.int .i64 r.x, .int .i64 r.y, .int .i64 r.w, .int .i64 r.h] 36) = W7 at *
  generalize w6.heap.size = Z at *
  obtain ⟨⟨a0, a1, a2, a3, b0, b1, b2, b3⟩, ⟨c0, c1, c2, c3, c4, c5, c6, c7⟩, z0, z1, z2, z3⟩ := HR7.out.cells
  have HPT7 := hidden (HPT.out W7 HR7.out.bel)
  have HL7 : Hid (∀ w', Below W7.heap.size W7 w' → RkB w w' w.heap.size Q Z d r) := hidden (fun w' hb => HR7.out.later hz7 hb)
  clear HK5 HK6 HQ5 HB6 HRC HPT HR7 k0
  go_upto_region 11 with (first | (go_at_call 76; refine (HCL.out _).mono ?_; rintro e w8 ⟨rfl, e8⟩; rw [e8]; clear e8) | (go_at_call 92; refine HPT7.out.mono ?_; rintro e w9 ⟨rfl, HB9⟩) | fail)
  have HR9 := hidden (HL7.out _ HB9.out)
  clear a0 a1 a2 a3 b0 b1 b2 b3 c0 c1 c2 c3 c4 c5 c6 c7 z0 z1 z2 z3 HPT7 HL7 HB9
  obtain ⟨⟨a0, a1, a2, a3, b0, b1, b2, b3⟩, ⟨c0, c1, c2, c3, c4, c5, c6, c7⟩, z0, z1, z2, z3⟩ := HR9.out.cells
  have HBW := hidden HR9.out.bel
  clear HR9 hz7
  obtain ⟨G, hG⟩ : ∃ G, w.heap.size = G := ⟨_, rfl⟩
  have HG : Hid (w.heap.size ≤ G) := hidden (by omega)
  rw [hG] at a0 a1 a2 a3 b0 b1 b2 b3
  rw [hG]
  clear hG hml
  go_wp2_with (first | (go_at_call 76; refine (HCL.out _).mono ?_; rintro e w8 ⟨rfl, e8⟩; rw [e8]; clear e8) | fail)
  refine bodyPost_ret (v := .tuple #[.agg #[.int .i64 (r.x + M), .int .i64 r.y, .int .i64 (r.w - M), .int .i64 r.h], .bool true]) (by simp [results, Try.results71, go_sem, a0, a1, a2, a3]) rfl ⟨rfl, hidden ?_⟩
  exact below_set (below_set (below_set (below_set HBW.out G 0 _ HG.out) G 1 _ HG.out) G 2 _ HG.out) G 3 _ HG.out
set_option maxHeartbeats 4000000 in
theorem rk_110 {m : Nat} {w : World} (hml : m < w.heap.size) (x p : Int) (i : Nat) (d dx : Wd) (r : R4) (M : Int) (hdn : d.n = p) (h0 : p ≠ 0) (hpx : dx.p = p)
    (HA : Hid (∀ w1, Below w.heap.size w w1 → Calls Try.prog 53 #[.pointer (some ⟨m, 0, none⟩), .int .i64 x] w1 fun e w' => e = .returned (.int .i64 i) ∧ w' = w1))
    (HO1 : Hid (∀ w1, Below w.heap.size w w1 → Calls Try.prog 32 #[.pointer (some ⟨m, 0, none⟩), .int .i64 x] w1 fun e w' => e = .returned (wdA dx) ∧ Hid (Below w1.heap.size w1 w')))
    (HO2 : Hid (∀ w1, Below w.heap.size w w1 → Calls Try.prog 32 #[.pointer (some ⟨m, 0, none⟩), .int .i64 p] w1 fun e w' => e = .returned (wdA d) ∧ Hid (Below w1.heap.size w1 w')))
    (HRC : Hid (∀ w1, Below w.heap.size w w1 → Calls Try.prog 71 #[.pointer (some ⟨m, 0, none⟩), .int .i64 p] w1 fun e w' => e = .returned (.tuple #[r4A r, .bool true]) ∧ Hid (Below w1.heap.size w1 w')))
    (HCL : Hid (∀ w1, Calls Try.prog 76 #[.int .i64 d.m] w1 fun e w' => e = .returned (.bool true) ∧ w' = w1))
    (HPT : Hid (∀ w1, Below w.heap.size w w1 → Calls Try.prog 92 #[.pointer (some ⟨m, 0, none⟩), wdA d, .int .i64 r.w] w1 fun e w' => e = .returned (.int .i64 M) ∧ Hid (Below w1.heap.size w1 w')))
    (ht : d.m.tmod 2 = 1) (hb : (x == d.b) = false) (hr : R4Ok r) (m0 : 0 ≤ M) (m1 : M ≤ r.w) :
    Calls Try.prog 71 #[.pointer (some ⟨m, 0, none⟩), .int .i64 x] w fun e w' => e = .returned (.tuple #[.agg #[.int .i64 r.x, .int .i64 r.y, .int .i64 (r.w - M), .int .i64 r.h], .bool true]) ∧ Hid (Below w.heap.size w w') := by
  obtain ⟨x0, y0, w0, h00, xw, yh⟩ := hr
  have HK : Hid (KpB w (w.alloc (.cells #[.int .i64 0, .int .i64 0, .int .i64 0, .int .i64 0] 36)) w.heap.size) := hidden ⟨(Below.refl _ _).alloc (Nat.le_refl _) _, heap_alloc_new w _⟩
  have l9 : ¬ (i : Int) < 0 := by omega
  have q0 : (d.n == 0) = false := by rw [hdn]; simp [h0]
  have tw : IntKind.i64.wrap 1 = 1 := by rw [IntKind.wrap_i64]; omega
  have v1 : IntKind.i64.wrap (r.w - M) = r.w - M := by rw [IntKind.wrap_i64]; omega
  have v3 : IntKind.i64.wrap (r.x + 0) = r.x := by rw [IntKind.wrap_i64]; omega
  have v4 : IntKind.i64.wrap r.x = r.x := by rw [IntKind.wrap_i64]; omega
  subst hdn
  unfold wdA at HO1 HO2 HPT
  unfold r4A at HRC
  rw [hpx] at HO1
  clear hpx
  have hf := wfld2 dx.n dx.k d.n dx.a dx.b dx.m dx.s dx.key
  go_enter Try.func71, Try.ntmps71
  go_upto_region 1 with fail
  generalize w.alloc (.cells #[.int .i64 0, .int .i64 0, .int .i64 0, .int .i64 0] 36) = W at *
  go_upto_region 4 with (first | (go_at_call 53; refine (HA.out _ HK.out.bel).mono ?_; rintro e w2 ⟨rfl, e2⟩; rw [e2]; clear e2) | (go_at_call 32; (with_reducible refine (HO1.out _ HK.out.bel).mono ?_); rintro e w3 ⟨rfl, HB3⟩; have HK3 := hidden (HK.out.later HB3.out)) | (go_at_call 32; (with_reducible refine (HO2.out _ HK3.out.bel).mono ?_); rintro e w4 ⟨rfl, HB4⟩; have HK4 := hidden (HK3.out.later HB4.out)) | fail)
  have HK5 : Hid (KpB w (w4.alloc (.cells #[.int .i64 d.n, .int .i64 d.k, .int .i64 d.p, .int .i64 d.a, .int .i64 d.b, .int .i64 d.m, .int .u32 d.s, .int .i64 d.key] 66)) w.heap.size) := hidden (HK4.out.later ((Below.refl _ _).alloc (Nat.le_refl _) _))
  have HQ5 : Hid ((w4.alloc (.cells #[.int .i64 d.n, .int .i64 d.k, .int .i64 d.p, .int .i64 d.a, .int .i64 d.b, .int .i64 d.m, .int .u32 d.s, .int .i64 d.key] 66)).heap[w4.heap.size]? = some (.cells (wdV d).toArray 66 (0, 0))) := hidden (heap_alloc_new w4 _)
  generalize w4.alloc (.cells #[.int .i64 d.n, .int .i64 d.k, .int .i64 d.p, .int .i64 d.a, .int .i64 d.b, .int .i64 d.m, .int .u32 d.s, .int .i64 d.key] 66) = W5 at *
  generalize w4.heap.size = Q at *
  have k0 : W5.cell? ⟨Q, 0, none⟩ = some (.int .i64 d.n) := by
    have hq := HQ5.out
    simp [World.cell?, hq, wdV]
  clear HK HK3 HK4 HB3 HB4 HA HO1 HO2
  go_upto_region 7 with (first | (go_at_call 71; refine (HRC.out _ HK5.out.bel).mono ?_; rintro e w6 ⟨rfl, HB6⟩; have HK6 := hidden (HK5.out.later HB6.out)) | fail)
  have HR7 : Hid (RkB w (w6.alloc (.cells #[.int .i64 r.x, .int .i64 r.y, .int .i64 r.w, .int .i64 r.h] 36)) w.heap.size Q w6.heap.size d r) := hidden (by
    have hb := (Below.refl w6.heap.size w6).alloc (Nat.le_refl _) (.cells #[.int .i64 r.x, .int .i64 r.y, .int .i64 r.w, .int .i64 r.h] 36)
    have k7 := HK6.out.later hb
    refine ⟨k7.bel, k7.box, ?_, heap_alloc_new w6 _⟩
    have hq := HQ5.out
    have hq6 : w6.heap[Q]? = _ := (HB6.out.block Q (Array.getElem?_eq_some_iff.1 hq).1).trans hq
    rw [hb.block Q (Array.getElem?_eq_some_iff.1 hq6).1]
    exact hq6)
  have hz7 : w.heap.size ≤ (w6.alloc (.cells #[.int .i64 r.x, .int .i64 r.y, .int .i64 r.w, .int .i64 r.h] 36)).heap.size := HR7.out.bel.size
  generalize w6.alloc (.cells #[.int .i64 r.x, .int .i64 r.y, .int .i64 r.w, .int .i64 r.h] 36) = W7 at *
  generalize w6.heap.size = Z at *
  obtain ⟨⟨a0, a1, a2, a3, b0, b1, b2, b3⟩, ⟨c0, c1, c2, c3, c4, c5, c6, c7⟩, z0, z1, z2, z3⟩ := HR7.out.cells
  have HPT7 := hidden (HPT.out W7 HR7.out.bel)
  have HL7 : Hid (∀ w', Below W7.heap.size W7 w' → RkB w w' w.heap.size Q Z d r) := hidden (fun w' hb => HR7.out.later hz7 hb)
  clear HK5 HK6 HQ5 HB6 HRC HPT HR7 k0
  go_upto_region 11 with (first | (go_at_call 76; refine (HCL.out _).mono ?_; rintro e w8 ⟨rfl, e8⟩; rw [e8]; clear e8) | (go_at_call 92; refine HPT7.out.mono ?_; rintro e w9 ⟨rfl, HB9⟩) | fail)
  have HR9 := hidden (HL7.out _ HB9.out)
  clear a0 a1 a2 a3 b0 b1 b2 b3 c0 c1 c2 c3 c4 c5 c6 c7 z0 z1 z2 z3 HPT7 HL7 HB9
  obtain ⟨⟨a0, a1, a2, a3, b0, b1, b2, b3⟩, ⟨c0, c1, c2, c3, c4, c5, c6, c7⟩, z0, z1, z2, z3⟩ := HR9.out.cells
  have HBW := hidden HR9.out.bel
  clear HR9 hz7
  obtain ⟨G, hG⟩ : ∃ G, w.heap.size = G := ⟨_, rfl⟩
  have HG : Hid (w.heap.size ≤ G) := hidden (by omega)
  rw [hG] at a0 a1 a2 a3 b0 b1 b2 b3
  rw [hG]
  clear hG hml
  go_wp2_with (first | (go_at_call 76; refine (HCL.out _).mono ?_; rintro e w8 ⟨rfl, e8⟩; rw [e8]; clear e8) | fail)
  refine bodyPost_ret (v := .tuple #[.agg #[.int .i64 r.x, .int .i64 r.y, .int .i64 (r.w - M), .int .i64 r.h], .bool true]) (by simp [results, Try.results71, go_sem, a0, a1, a2, a3]) rfl ⟨rfl, hidden ?_⟩
  exact below_set (below_set (below_set (below_set HBW.out G 0 _ HG.out) G 1 _ HG.out) G 2 _ HG.out) G 3 _ HG.out
set_option maxHeartbeats 4000000 in
theorem rk_111 {m : Nat} {w : World} (hml : m < w.heap.size) (x p : Int) (i : Nat) (d dx : Wd) (r : R4) (M : Int) (hdn : d.n = p) (h0 : p ≠ 0) (hpx : dx.p = p)
    (HA : Hid (∀ w1, Below w.heap.size w w1 → Calls Try.prog 53 #[.pointer (some ⟨m, 0, none⟩), .int .i64 x] w1 fun e w' => e = .returned (.int .i64 i) ∧ w' = w1))
    (HO1 : Hid (∀ w1, Below w.heap.size w w1 → Calls Try.prog 32 #[.pointer (some ⟨m, 0, none⟩), .int .i64 x] w1 fun e w' => e = .returned (wdA dx) ∧ Hid (Below w1.heap.size w1 w')))
    (HO2 : Hid (∀ w1, Below w.heap.size w w1 → Calls Try.prog 32 #[.pointer (some ⟨m, 0, none⟩), .int .i64 p] w1 fun e w' => e = .returned (wdA d) ∧ Hid (Below w1.heap.size w1 w')))
    (HRC : Hid (∀ w1, Below w.heap.size w w1 → Calls Try.prog 71 #[.pointer (some ⟨m, 0, none⟩), .int .i64 p] w1 fun e w' => e = .returned (.tuple #[r4A r, .bool true]) ∧ Hid (Below w1.heap.size w1 w')))
    (HCL : Hid (∀ w1, Calls Try.prog 76 #[.int .i64 d.m] w1 fun e w' => e = .returned (.bool true) ∧ w' = w1))
    (HPT : Hid (∀ w1, Below w.heap.size w w1 → Calls Try.prog 92 #[.pointer (some ⟨m, 0, none⟩), wdA d, .int .i64 r.w] w1 fun e w' => e = .returned (.int .i64 M) ∧ Hid (Below w1.heap.size w1 w')))
    (ht : d.m.tmod 2 = 1) (hb : (x == d.b) = true) (hr : R4Ok r) (m0 : 0 ≤ M) (m1 : M ≤ r.w) :
    Calls Try.prog 71 #[.pointer (some ⟨m, 0, none⟩), .int .i64 x] w fun e w' => e = .returned (.tuple #[.agg #[.int .i64 (r.x + (r.w - M)), .int .i64 r.y, .int .i64 (r.w - (r.w - M)), .int .i64 r.h], .bool true]) ∧ Hid (Below w.heap.size w w') := by
  obtain ⟨x0, y0, w0, h00, xw, yh⟩ := hr
  have HK : Hid (KpB w (w.alloc (.cells #[.int .i64 0, .int .i64 0, .int .i64 0, .int .i64 0] 36)) w.heap.size) := hidden ⟨(Below.refl _ _).alloc (Nat.le_refl _) _, heap_alloc_new w _⟩
  have l9 : ¬ (i : Int) < 0 := by omega
  have q0 : (d.n == 0) = false := by rw [hdn]; simp [h0]
  have tw : IntKind.i64.wrap 1 = 1 := by rw [IntKind.wrap_i64]; omega
  have v1 : IntKind.i64.wrap (r.w - M) = r.w - M := by rw [IntKind.wrap_i64]; omega
  have v2 : IntKind.i64.wrap (r.w - (r.w - M)) = r.w - (r.w - M) := by rw [IntKind.wrap_i64]; omega
  have v3 : IntKind.i64.wrap (r.x + (r.w - M)) = r.x + (r.w - M) := by rw [IntKind.wrap_i64]; omega
  subst hdn
  unfold wdA at HO1 HO2 HPT
  unfold r4A at HRC
  rw [hpx] at HO1
  clear hpx
  have hf := wfld2 dx.n dx.k d.n dx.a dx.b dx.m dx.s dx.key
  go_enter Try.func71, Try.ntmps71
  go_upto_region 1 with fail
  generalize w.alloc (.cells #[.int .i64 0, .int .i64 0, .int .i64 0, .int .i64 0] 36) = W at *
  go_upto_region 4 with (first | (go_at_call 53; refine (HA.out _ HK.out.bel).mono ?_; rintro e w2 ⟨rfl, e2⟩; rw [e2]; clear e2) | (go_at_call 32; (with_reducible refine (HO1.out _ HK.out.bel).mono ?_); rintro e w3 ⟨rfl, HB3⟩; have HK3 := hidden (HK.out.later HB3.out)) | (go_at_call 32; (with_reducible refine (HO2.out _ HK3.out.bel).mono ?_); rintro e w4 ⟨rfl, HB4⟩; have HK4 := hidden (HK3.out.later HB4.out)) | fail)
  have HK5 : Hid (KpB w (w4.alloc (.cells #[.int .i64 d.n, .int .i64 d.k, .int .i64 d.p, .int .i64 d.a, .int .i64 d.b, .int .i64 d.m, .int .u32 d.s, .int .i64 d.key] 66)) w.heap.size) := hidden (HK4.out.later ((Below.refl _ _).alloc (Nat.le_refl _) _))
  have HQ5 : Hid ((w4.alloc (.cells #[.int .i64 d.n, .int .i64 d.k, .int .i64 d.p, .int .i64 d.a, .int .i64 d.b, .int .i64 d.m, .int .u32 d.s, .int .i64 d.key] 66)).heap[w4.heap.size]? = some (.cells (wdV d).toArray 66 (0, 0))) := hidden (heap_alloc_new w4 _)
  generalize w4.alloc (.cells #[.int .i64 d.n, .int .i64 d.k, .int .i64 d.p, .int .i64 d.a, .int .i64 d.b, .int .i64 d.m, .int .u32 d.s, .int .i64 d.key] 66) = W5 at *
  generalize w4.heap.size = Q at *
  have k0 : W5.cell? ⟨Q, 0, none⟩ = some (.int .i64 d.n) := by
    have hq := HQ5.out
    simp [World.cell?, hq, wdV]
  clear HK HK3 HK4 HB3 HB4 HA HO1 HO2
  go_upto_region 7 with (first | (go_at_call 71; refine (HRC.out _ HK5.out.bel).mono ?_; rintro e w6 ⟨rfl, HB6⟩; have HK6 := hidden (HK5.out.later HB6.out)) | fail)
  have HR7 : Hid (RkB w (w6.alloc (.cells #[.int .i64 r.x, .int .i64 r.y, .int .i64 r.w, .int .i64 r.h] 36)) w.heap.size Q w6.heap.size d r) := hidden (by
    have hb := (Below.refl w6.heap.size w6).alloc (Nat.le_refl _) (.cells #[.int .i64 r.x, .int .i64 r.y, .int .i64 r.w, .int .i64 r.h] 36)
    have k7 := HK6.out.later hb
    refine ⟨k7.bel, k7.box, ?_, heap_alloc_new w6 _⟩
    have hq := HQ5.out
    have hq6 : w6.heap[Q]? = _ := (HB6.out.block Q (Array.getElem?_eq_some_iff.1 hq).1).trans hq
    rw [hb.block Q (Array.getElem?_eq_some_iff.1 hq6).1]
    exact hq6)
  have hz7 : w.heap.size ≤ (w6.alloc (.cells #[.int .i64 r.x, .int .i64 r.y, .int .i64 r.w, .int .i64 r.h] 36)).heap.size := HR7.out.bel.size
  generalize w6.alloc (.cells #[.int .i64 r.x, .int .i64 r.y, .int .i64 r.w, .int .i64 r.h] 36) = W7 at *
  generalize w6.heap.size = Z at *
  obtain ⟨⟨a0, a1, a2, a3, b0, b1, b2, b3⟩, ⟨c0, c1, c2, c3, c4, c5, c6, c7⟩, z0, z1, z2, z3⟩ := HR7.out.cells
  have HPT7 := hidden (HPT.out W7 HR7.out.bel)
  have HL7 : Hid (∀ w', Below W7.heap.size W7 w' → RkB w w' w.heap.size Q Z d r) := hidden (fun w' hb => HR7.out.later hz7 hb)
  clear HK5 HK6 HQ5 HB6 HRC HPT HR7 k0
  go_upto_region 11 with (first | (go_at_call 76; refine (HCL.out _).mono ?_; rintro e w8 ⟨rfl, e8⟩; rw [e8]; clear e8) | (go_at_call 92; refine HPT7.out.mono ?_; rintro e w9 ⟨rfl, HB9⟩) | fail)
  have HR9 := hidden (HL7.out _ HB9.out)
  clear a0 a1 a2 a3 b0 b1 b2 b3 c0 c1 c2 c3 c4 c5 c6 c7 z0 z1 z2 z3 HPT7 HL7 HB9
  obtain ⟨⟨a0, a1, a2, a3, b0, b1, b2, b3⟩, ⟨c0, c1, c2, c3, c4, c5, c6, c7⟩, z0, z1, z2, z3⟩ := HR9.out.cells
  have HBW := hidden HR9.out.bel
  clear HR9 hz7
  obtain ⟨G, hG⟩ : ∃ G, w.heap.size = G := ⟨_, rfl⟩
  have HG : Hid (w.heap.size ≤ G) := hidden (by omega)
  rw [hG] at a0 a1 a2 a3 b0 b1 b2 b3
  rw [hG]
  clear hG hml
  go_wp2_with (first | (go_at_call 76; refine (HCL.out _).mono ?_; rintro e w8 ⟨rfl, e8⟩; rw [e8]; clear e8) | fail)
  refine bodyPost_ret (v := .tuple #[.agg #[.int .i64 (r.x + (r.w - M)), .int .i64 r.y, .int .i64 (r.w - (r.w - M)), .int .i64 r.h], .bool true]) (by simp [results, Try.results71, go_sem, a0, a1, a2, a3]) rfl ⟨rfl, hidden ?_⟩
  exact below_set (below_set (below_set (below_set HBW.out G 0 _ HG.out) G 1 _ HG.out) G 2 _ HG.out) G 3 _ HG.out
set_option maxHeartbeats 4000000 in
theorem rk_000 {m : Nat} {w : World} (hml : m < w.heap.size) (x p : Int) (i : Nat) (d dx : Wd) (r : R4) (M : Int) (hdn : d.n = p) (h0 : p ≠ 0) (hpx : dx.p = p)
    (HA : Hid (∀ w1, Below w.heap.size w w1 → Calls Try.prog 53 #[.pointer (some ⟨m, 0, none⟩), .int .i64 x] w1 fun e w' => e = .returned (.int .i64 i) ∧ w' = w1))
    (HO1 : Hid (∀ w1, Below w.heap.size w w1 → Calls Try.prog 32 #[.pointer (some ⟨m, 0, none⟩), .int .i64 x] w1 fun e w' => e = .returned (wdA dx) ∧ Hid (Below w1.heap.size w1 w')))
    (HO2 : Hid (∀ w1, Below w.heap.size w w1 → Calls Try.prog 32 #[.pointer (some ⟨m, 0, none⟩), .int .i64 p] w1 fun e w' => e = .returned (wdA d) ∧ Hid (Below w1.heap.size w1 w')))
    (HRC : Hid (∀ w1, Below w.heap.size w w1 → Calls Try.prog 71 #[.pointer (some ⟨m, 0, none⟩), .int .i64 p] w1 fun e w' => e = .returned (.tuple #[r4A r, .bool true]) ∧ Hid (Below w1.heap.size w1 w')))
    (HCL : Hid (∀ w1, Calls Try.prog 76 #[.int .i64 d.m] w1 fun e w' => e = .returned (.bool false) ∧ w' = w1))
    (HPT : Hid (∀ w1, Below w.heap.size w w1 → Calls Try.prog 92 #[.pointer (some ⟨m, 0, none⟩), wdA d, .int .i64 r.h] w1 fun e w' => e = .returned (.int .i64 M) ∧ Hid (Below w1.heap.size w1 w')))
    (ht : d.m.tmod 2 = 0) (hb : (x == d.b) = false) (hr : R4Ok r) (m0 : 0 ≤ M) (m1 : M ≤ r.h) :
    Calls Try.prog 71 #[.pointer (some ⟨m, 0, none⟩), .int .i64 x] w fun e w' => e = .returned (.tuple #[.agg #[.int .i64 r.x, .int .i64 r.y, .int .i64 r.w, .int .i64 M], .bool true]) ∧ Hid (Below w.heap.size w w') := by
  obtain ⟨x0, y0, w0, h00, xw, yh⟩ := hr
  have HK : Hid (KpB w (w.alloc (.cells #[.int .i64 0, .int .i64 0, .int .i64 0, .int .i64 0] 36)) w.heap.size) := hidden ⟨(Below.refl _ _).alloc (Nat.le_refl _) _, heap_alloc_new w _⟩
  have l9 : ¬ (i : Int) < 0 := by omega
  have q0 : (d.n == 0) = false := by rw [hdn]; simp [h0]
  have tw : IntKind.i64.wrap 0 = 0 := by rw [IntKind.wrap_i64]; omega
  have v3 : IntKind.i64.wrap (r.y + 0) = r.y := by rw [IntKind.wrap_i64]; omega
  have v4 : IntKind.i64.wrap r.y = r.y := by rw [IntKind.wrap_i64]; omega
  subst hdn
  unfold wdA at HO1 HO2 HPT
  unfold r4A at HRC
  rw [hpx] at HO1
  clear hpx
  have hf := wfld2 dx.n dx.k d.n dx.a dx.b dx.m dx.s dx.key
  go_enter Try.func71, Try.ntmps71
  go_upto_region 1 with fail
  generalize w.alloc (.cells #[.int .i64 0, .int .i64 0, .int .i64 0, .int .i64 0] 36) = W at *
  go_upto_region 4 with (first | (go_at_call 53; refine (HA.out _ HK.out.bel).mono ?_; rintro e w2 ⟨rfl, e2⟩; rw [e2]; clear e2) | (go_at_call 32; (with_reducible refine (HO1.out _ HK.out.bel).mono ?_); rintro e w3 ⟨rfl, HB3⟩; have HK3 := hidden (HK.out.later HB3.out)) | (go_at_call 32; (with_reducible refine (HO2.out _ HK3.out.bel).mono ?_); rintro e w4 ⟨rfl, HB4⟩; have HK4 := hidden (HK3.out.later HB4.out)) | fail)
  have HK5 : Hid (KpB w (w4.alloc (.cells #[.int .i64 d.n, .int .i64 d.k, .int .i64 d.p, .int .i64 d.a, .int .i64 d.b, .int .i64 d.m, .int .u32 d.s, .int .i64 d.key] 66)) w.heap.size) := hidden (HK4.out.later ((Below.refl _ _).alloc (Nat.le_refl _) _))
  have HQ5 : Hid ((w4.alloc (.cells #[.int .i64 d.n, .int .i64 d.k, .int .i64 d.p, .int .i64 d.a, .int .i64 d.b, .int .i64 d.m, .int .u32 d.s, .int .i64 d.key] 66)).heap[w4.heap.size]? = some (.cells (wdV d).toArray 66 (0, 0))) := hidden (heap_alloc_new w4 _)
  generalize w4.alloc (.cells #[.int .i64 d.n, .int .i64 d.k, .int .i64 d.p, .int .i64 d.a, .int .i64 d.b, .int .i64 d.m, .int .u32 d.s, .int .i64 d.key] 66) = W5 at *
  generalize w4.heap.size = Q at *
  have k0 : W5.cell? ⟨Q, 0, none⟩ = some (.int .i64 d.n) := by
    have hq := HQ5.out
    simp [World.cell?, hq, wdV]
  clear HK HK3 HK4 HB3 HB4 HA HO1 HO2
  go_upto_region 7 with (first | (go_at_call 71; refine (HRC.out _ HK5.out.bel).mono ?_; rintro e w6 ⟨rfl, HB6⟩; have HK6 := hidden (HK5.out.later HB6.out)) | fail)
  have HR7 : Hid (RkB w (w6.alloc (.cells #[.int .i64 r.x, .int .i64 r.y, .int .i64 r.w, .int .i64 r.h] 36)) w.heap.size Q w6.heap.size d r) := hidden (by
    have hb := (Below.refl w6.heap.size w6).alloc (Nat.le_refl _) (.cells #[.int .i64 r.x, .int .i64 r.y, .int .i64 r.w, .int .i64 r.h] 36)
    have k7 := HK6.out.later hb
    refine ⟨k7.bel, k7.box, ?_, heap_alloc_new w6 _⟩
    have hq := HQ5.out
    have hq6 : w6.heap[Q]? = _ := (HB6.out.block Q (Array.getElem?_eq_some_iff.1 hq).1).trans hq
    rw [hb.block Q (Array.getElem?_eq_some_iff.1 hq6).1]
    exact hq6)
  have hz7 : w.heap.size ≤ (w6.alloc (.cells #[.int .i64 r.x, .int .i64 r.y, .int .i64 r.w, .int .i64 r.h] 36)).heap.size := HR7.out.bel.size
  generalize w6.alloc (.cells #[.int .i64 r.x, .int .i64 r.y, .int .i64 r.w, .int .i64 r.h] 36) = W7 at *
  generalize w6.heap.size = Z at *
  obtain ⟨⟨a0, a1, a2, a3, b0, b1, b2, b3⟩, ⟨c0, c1, c2, c3, c4, c5, c6, c7⟩, z0, z1, z2, z3⟩ := HR7.out.cells
  have HPT7 := hidden (HPT.out W7 HR7.out.bel)
  have HL7 : Hid (∀ w', Below W7.heap.size W7 w' → RkB w w' w.heap.size Q Z d r) := hidden (fun w' hb => HR7.out.later hz7 hb)
  clear HK5 HK6 HQ5 HB6 HRC HPT HR7 k0
  go_upto_region 11 with (first | (go_at_call 76; refine (HCL.out _).mono ?_; rintro e w8 ⟨rfl, e8⟩; rw [e8]; clear e8) | (go_at_call 92; refine HPT7.out.mono ?_; rintro e w9 ⟨rfl, HB9⟩) | fail)
  have HR9 := hidden (HL7.out _ HB9.out)
  clear a0 a1 a2 a3 b0 b1 b2 b3 c0 c1 c2 c3 c4 c5 c6 c7 z0 z1 z2 z3 HPT7 HL7 HB9
  obtain ⟨⟨a0, a1, a2, a3, b0, b1, b2, b3⟩, ⟨c0, c1, c2, c3, c4, c5, c6, c7⟩, z0, z1, z2, z3⟩ := HR9.out.cells
  have HBW := hidden HR9.out.bel
  clear HR9 hz7
  obtain ⟨G, hG⟩ : ∃ G, w.heap.size = G := ⟨_, rfl⟩
  have HG : Hid (w.heap.size ≤ G) := hidden (by omega)
  rw [hG] at a0 a1 a2 a3 b0 b1 b2 b3
  rw [hG]
  clear hG hml
  go_wp2_with (first | (go_at_call 76; refine (HCL.out _).mono ?_; rintro e w8 ⟨rfl, e8⟩; rw [e8]; clear e8) | fail)
  refine bodyPost_ret (v := .tuple #[.agg #[.int .i64 r.x, .int .i64 r.y, .int .i64 r.w, .int .i64 M], .bool true]) (by simp [results, Try.results71, go_sem, a0, a1, a2, a3]) rfl ⟨rfl, hidden ?_⟩
  exact below_set (below_set (below_set (below_set HBW.out G 0 _ HG.out) G 1 _ HG.out) G 2 _ HG.out) G 3 _ HG.out
set_option maxHeartbeats 4000000 in
theorem rk_001 {m : Nat} {w : World} (hml : m < w.heap.size) (x p : Int) (i : Nat) (d dx : Wd) (r : R4) (M : Int) (hdn : d.n = p) (h0 : p ≠ 0) (hpx : dx.p = p)
    (HA : Hid (∀ w1, Below w.heap.size w w1 → Calls Try.prog 53 #[.pointer (some ⟨m, 0, none⟩), .int .i64 x] w1 fun e w' => e = .returned (.int .i64 i) ∧ w' = w1))
    (HO1 : Hid (∀ w1, Below w.heap.size w w1 → Calls Try.prog 32 #[.pointer (some ⟨m, 0, none⟩), .int .i64 x] w1 fun e w' => e = .returned (wdA dx) ∧ Hid (Below w1.heap.size w1 w')))
    (HO2 : Hid (∀ w1, Below w.heap.size w w1 → Calls Try.prog 32 #[.pointer (some ⟨m, 0, none⟩), .int .i64 p] w1 fun e w' => e = .returned (wdA d) ∧ Hid (Below w1.heap.size w1 w')))
    (HRC : Hid (∀ w1, Below w.heap.size w w1 → Calls Try.prog 71 #[.pointer (some ⟨m, 0, none⟩), .int .i64 p] w1 fun e w' => e = .returned (.tuple #[r4A r, .bool true]) ∧ Hid (Below w1.heap.size w1 w')))
    (HCL : Hid (∀ w1, Calls Try.prog 76 #[.int .i64 d.m] w1 fun e w' => e = .returned (.bool false) ∧ w' = w1))
    (HPT : Hid (∀ w1, Below w.heap.size w w1 → Calls Try.prog 92 #[.pointer (some ⟨m, 0, none⟩), wdA d, .int .i64 r.h] w1 fun e w' => e = .returned (.int .i64 M) ∧ Hid (Below w1.heap.size w1 w')))
    (ht : d.m.tmod 2 = 0) (hb : (x == d.b) = true) (hr : R4Ok r) (m0 : 0 ≤ M) (m1 : M ≤ r.h) :
    Calls Try.prog 71 #[.pointer (some ⟨m, 0, none⟩), .int .i64 x] w fun e w' => e = .returned (.tuple #[.agg #[.int .i64 r.x, .int .i64 (r.y + M), .int .i64 r.w, .int .i64 (r.h - M)], .bool true]) ∧ Hid (Below w.heap.size w w') := by
  obtain ⟨x0, y0, w0, h00, xw, yh⟩ := hr
  have HK : Hid (KpB w (w.alloc (.cells #[.int .i64 0, .int .i64 0, .int .i64 0, .int .i64 0] 36)) w.heap.size) := hidden ⟨(Below.refl _ _).alloc (Nat.le_refl _) _, heap_alloc_new w _⟩
  have l9 : ¬ (i : Int) < 0 := by omega
  have q0 : (d.n == 0) = false := by rw [hdn]; simp [h0]
  have tw : IntKind.i64.wrap 0 = 0 := by rw [IntKind.wrap_i64]; omega
  have v2 : IntKind.i64.wrap (r.h - M) = r.h - M := by rw [IntKind.wrap_i64]; omega
  have v3 : IntKind.i64.wrap (r.y + M) = r.y + M := by rw [IntKind.wrap_i64]; omega
  subst hdn
  unfold wdA at HO1 HO2 HPT
  unfold r4A at HRC
  rw [hpx] at HO1
  clear hpx
  have hf := wfld2 dx.n dx.k d.n dx.a dx.b dx.m dx.s dx.key
  go_enter Try.func71, Try.ntmps71
  go_upto_region 1 with fail
  generalize w.alloc (.cells #[.int .i64 0, .int .i64 0, .int .i64 0, .int .i64 0] 36) = W at *
  go_upto_region 4 with (first | (go_at_call 53; refine (HA.out _ HK.out.bel).mono ?_; rintro e w2 ⟨rfl, e2⟩; rw [e2]; clear e2) | (go_at_call 32; (with_reducible refine (HO1.out _ HK.out.bel).mono ?_); rintro e w3 ⟨rfl, HB3⟩; have HK3 := hidden (HK.out.later HB3.out)) | (go_at_call 32; (with_reducible refine (HO2.out _ HK3.out.bel).mono ?_); rintro e w4 ⟨rfl, HB4⟩; have HK4 := hidden (HK3.out.later HB4.out)) | fail)
  have HK5 : Hid (KpB w (w4.alloc (.cells #[.int .i64 d.n, .int .i64 d.k, .int .i64 d.p, .int .i64 d.a, .int .i64 d.b, .int .i64 d.m, .int .u32 d.s, .int .i64 d.key] 66)) w.heap.size) := hidden (HK4.out.later ((Below.refl _ _).alloc (Nat.le_refl _) _))
  have HQ5 : Hid ((w4.alloc (.cells #[.int .i64 d.n, .int .i64 d.k, .int .i64 d.p, .int .i64 d.a, .int .i64 d.b, .int .i64 d.m, .int .u32 d.s, .int .i64 d.key] 66)).heap[w4.heap.size]? = some (.cells (wdV d).toArray 66 (0, 0))) := hidden (heap_alloc_new w4 _)
  generalize w4.alloc (.cells #[.int .i64 d.n, .int .i64 d.k, .int .i64 d.p, .int .i64 d.a, .int .i64 d.b, .int .i64 d.m, .int .u32 d.s, .int .i64 d.key] 66) = W5 at *
  generalize w4.heap.size = Q at *
  have k0 : W5.cell? ⟨Q, 0, none⟩ = some (.int .i64 d.n) := by
    have hq := HQ5.out
    simp [World.cell?, hq, wdV]
  clear HK HK3 HK4 HB3 HB4 HA HO1 HO2
  go_upto_region 7 with (first | (go_at_call 71; refine (HRC.out _ HK5.out.bel).mono ?_; rintro e w6 ⟨rfl, HB6⟩; have HK6 := hidden (HK5.out.later HB6.out)) | fail)
  have HR7 : Hid (RkB w (w6.alloc (.cells #[.int .i64 r.x, .int .i64 r.y, .int .i64 r.w, .int .i64 r.h] 36)) w.heap.size Q w6.heap.size d r) := hidden (by
    have hb := (Below.refl w6.heap.size w6).alloc (Nat.le_refl _) (.cells #[.int .i64 r.x, .int .i64 r.y, .int .i64 r.w, .int .i64 r.h] 36)
    have k7 := HK6.out.later hb
    refine ⟨k7.bel, k7.box, ?_, heap_alloc_new w6 _⟩
    have hq := HQ5.out
    have hq6 : w6.heap[Q]? = _ := (HB6.out.block Q (Array.getElem?_eq_some_iff.1 hq).1).trans hq
    rw [hb.block Q (Array.getElem?_eq_some_iff.1 hq6).1]
    exact hq6)
  have hz7 : w.heap.size ≤ (w6.alloc (.cells #[.int .i64 r.x, .int .i64 r.y, .int .i64 r.w, .int .i64 r.h] 36)).heap.size := HR7.out.bel.size
  generalize w6.alloc (.cells #[.int .i64 r.x, .int .i64 r.y, .int .i64 r.w, .int .i64 r.h] 36) = W7 at *
  generalize w6.heap.size = Z at *
  obtain ⟨⟨a0, a1, a2, a3, b0, b1, b2, b3⟩, ⟨c0, c1, c2, c3, c4, c5, c6, c7⟩, z0, z1, z2, z3⟩ := HR7.out.cells
  have HPT7 := hidden (HPT.out W7 HR7.out.bel)
  have HL7 : Hid (∀ w', Below W7.heap.size W7 w' → RkB w w' w.heap.size Q Z d r) := hidden (fun w' hb => HR7.out.later hz7 hb)
  clear HK5 HK6 HQ5 HB6 HRC HPT HR7 k0
  go_upto_region 11 with (first | (go_at_call 76; refine (HCL.out _).mono ?_; rintro e w8 ⟨rfl, e8⟩; rw [e8]; clear e8) | (go_at_call 92; refine HPT7.out.mono ?_; rintro e w9 ⟨rfl, HB9⟩) | fail)
  have HR9 := hidden (HL7.out _ HB9.out)
  clear a0 a1 a2 a3 b0 b1 b2 b3 c0 c1 c2 c3 c4 c5 c6 c7 z0 z1 z2 z3 HPT7 HL7 HB9
  obtain ⟨⟨a0, a1, a2, a3, b0, b1, b2, b3⟩, ⟨c0, c1, c2, c3, c4, c5, c6, c7⟩, z0, z1, z2, z3⟩ := HR9.out.cells
  have HBW := hidden HR9.out.bel
  clear HR9 hz7
  obtain ⟨G, hG⟩ : ∃ G, w.heap.size = G := ⟨_, rfl⟩
  have HG : Hid (w.heap.size ≤ G) := hidden (by omega)
  rw [hG] at a0 a1 a2 a3 b0 b1 b2 b3
  rw [hG]
  clear hG hml
  go_wp2_with (first | (go_at_call 76; refine (HCL.out _).mono ?_; rintro e w8 ⟨rfl, e8⟩; rw [e8]; clear e8) | fail)
  refine bodyPost_ret (v := .tuple #[.agg #[.int .i64 r.x, .int .i64 (r.y + M), .int .i64 r.w, .int .i64 (r.h - M)], .bool true]) (by simp [results, Try.results71, go_sem, a0, a1, a2, a3]) rfl ⟨rfl, hidden ?_⟩
  exact below_set (below_set (below_set (below_set HBW.out G 0 _ HG.out) G 1 _ HG.out) G 2 _ HG.out) G 3 _ HG.out
set_option maxHeartbeats 4000000 in
theorem rk_010 {m : Nat} {w : World} (hml : m < w.heap.size) (x p : Int) (i : Nat) (d dx : Wd) (r : R4) (M : Int) (hdn : d.n = p) (h0 : p ≠ 0) (hpx : dx.p = p)
    (HA : Hid (∀ w1, Below w.heap.size w w1 → Calls Try.prog 53 #[.pointer (some ⟨m, 0, none⟩), .int .i64 x] w1 fun e w' => e = .returned (.int .i64 i) ∧ w' = w1))
    (HO1 : Hid (∀ w1, Below w.heap.size w w1 → Calls Try.prog 32 #[.pointer (some ⟨m, 0, none⟩), .int .i64 x] w1 fun e w' => e = .returned (wdA dx) ∧ Hid (Below w1.heap.size w1 w')))
    (HO2 : Hid (∀ w1, Below w.heap.size w w1 → Calls Try.prog 32 #[.pointer (some ⟨m, 0, none⟩), .int .i64 p] w1 fun e w' => e = .returned (wdA d) ∧ Hid (Below w1.heap.size w1 w')))
    (HRC : Hid (∀ w1, Below w.heap.size w w1 → Calls Try.prog 71 #[.pointer (some ⟨m, 0, none⟩), .int .i64 p] w1 fun e w' => e = .returned (.tuple #[r4A r, .bool true]) ∧ Hid (Below w1.heap.size w1 w')))
    (HCL : Hid (∀ w1, Calls Try.prog 76 #[.int .i64 d.m] w1 fun e w' => e = .returned (.bool false) ∧ w' = w1))
    (HPT : Hid (∀ w1, Below w.heap.size w w1 → Calls Try.prog 92 #[.pointer (some ⟨m, 0, none⟩), wdA d, .int .i64 r.h] w1 fun e w' => e = .returned (.int .i64 M) ∧ Hid (Below w1.heap.size w1 w')))
    (ht : d.m.tmod 2 = 1) (hb : (x == d.b) = false) (hr : R4Ok r) (m0 : 0 ≤ M) (m1 : M ≤ r.h) :
    Calls Try.prog 71 #[.pointer (some ⟨m, 0, none⟩), .int .i64 x] w fun e w' => e = .returned (.tuple #[.agg #[.int .i64 r.x, .int .i64 r.y, .int .i64 r.w, .int .i64 (r.h - M)], .bool true]) ∧ Hid (Below w.heap.size w w') := by
  obtain ⟨x0, y0, w0, h00, xw, yh⟩ := hr
  have HK : Hid (KpB w (w.alloc (.cells #[.int .i64 0, .int .i64 0, .int .i64 0, .int .i64 0] 36)) w.heap.size) := hidden ⟨(Below.refl _ _).alloc (Nat.le_refl _) _, heap_alloc_new w _⟩
  have l9 : ¬ (i : Int) < 0 := by omega
  have q0 : (d.n == 0) = false := by rw [hdn]; simp [h0]
  have tw : IntKind.i64.wrap 1 = 1 := by rw [IntKind.wrap_i64]; omega
  have v1 : IntKind.i64.wrap (r.h - M) = r.h - M := by rw [IntKind.wrap_i64]; omega
  have v3 : IntKind.i64.wrap (r.y + 0) = r.y := by rw [IntKind.wrap_i64]; omega
  have v4 : IntKind.i64.wrap r.y = r.y := by rw [IntKind.wrap_i64]; omega
  subst hdn
  unfold wdA at HO1 HO2 HPT
  unfold r4A at HRC
  rw [hpx] at HO1
  clear hpx
  have hf := wfld2 dx.n dx.k d.n dx.a dx.b dx.m dx.s dx.key
  go_enter Try.func71, Try.ntmps71
  go_upto_region 1 with fail
  generalize w.alloc (.cells #[.int .i64 0, .int .i64 0, .int .i64 0, .int .i64 0] 36) = W at *
  go_upto_region 4 with (first | (go_at_call 53; refine (HA.out _ HK.out.bel).mono ?_; rintro e w2 ⟨rfl, e2⟩; rw [e2]; clear e2) | (go_at_call 32; (with_reducible refine (HO1.out _ HK.out.bel).mono ?_); rintro e w3 ⟨rfl, HB3⟩; have HK3 := hidden (HK.out.later HB3.out)) | (go_at_call 32; (with_reducible refine (HO2.out _ HK3.out.bel).mono ?_); rintro e w4 ⟨rfl, HB4⟩; have HK4 := hidden (HK3.out.later HB4.out)) | fail)
  have HK5 : Hid (KpB w (w4.alloc (.cells #[.int .i64 d.n, .int .i64 d.k, .int .i64 d.p, .int .i64 d.a, .int .i64 d.b, .int .i64 d.m, .int .u32 d.s, .int .i64 d.key] 66)) w.heap.size) := hidden (HK4.out.later ((Below.refl _ _).alloc (Nat.le_refl _) _))
  have HQ5 : Hid ((w4.alloc (.cells #[.int .i64 d.n, .int .i64 d.k, .int .i64 d.p, .int .i64 d.a, .int .i64 d.b, .int .i64 d.m, .int .u32 d.s, .int .i64 d.key] 66)).heap[w4.heap.size]? = some (.cells (wdV d).toArray 66 (0, 0))) := hidden (heap_alloc_new w4 _)
  generalize w4.alloc (.cells #[.int .i64 d.n, .int .i64 d.k, .int .i64 d.p, .int .i64 d.a, .int .i64 d.b, .int .i64 d.m, .int .u32 d.s, .int .i64 d.key] 66) = W5 at *
  generalize w4.heap.size = Q at *
  have k0 : W5.cell? ⟨Q, 0, none⟩ = some (.int .i64 d.n) := by
    have hq := HQ5.out
    simp [World.cell?, hq, wdV]
  clear HK HK3 HK4 HB3 HB4 HA HO1 HO2
  go_upto_region 7 with (first | (go_at_call 71; refine (HRC.out _ HK5.out.bel).mono ?_; rintro e w6 ⟨rfl, HB6⟩; have HK6 := hidden (HK5.out.later HB6.out)) | fail)
  have HR7 : Hid (RkB w (w6.alloc (.cells #[.int .i64 r.x, .int .i64 r.y, .int .i64 r.w, .int .i64 r.h] 36)) w.heap.size Q w6.heap.size d r) := hidden (by
    have hb := (Below.refl w6.heap.size w6).alloc (Nat.le_refl _) (.cells #[.int .i64 r.x, .int .i64 r.y, .int .i64 r.w, .int .i64 r.h] 36)
    have k7 := HK6.out.later hb
    refine ⟨k7.bel, k7.box, ?_, heap_alloc_new w6 _⟩
    have hq := HQ5.out
    have hq6 : w6.heap[Q]? = _ := (HB6.out.block Q (Array.getElem?_eq_some_iff.1 hq).1).trans hq
    rw [hb.block Q (Array.getElem?_eq_some_iff.1 hq6).1]
    exact hq6)
  have hz7 : w.heap.size ≤ (w6.alloc (.cells #[.int .i64 r.x, .int .i64 r.y, .int .i64 r.w, .int .i64 r.h] 36)).heap.size := HR7.out.bel.size
  generalize w6.alloc (.cells #[.int .i64 r.x, .int .i64 r.y, .int .i64 r.w, .int .i64 r.h] 36) = W7 at *
  generalize w6.heap.size = Z at *
  obtain ⟨⟨a0, a1, a2, a3, b0, b1, b2, b3⟩, ⟨c0, c1, c2, c3, c4, c5, c6, c7⟩, z0, z1, z2, z3⟩ := HR7.out.cells
  have HPT7 := hidden (HPT.out W7 HR7.out.bel)
  have HL7 : Hid (∀ w', Below W7.heap.size W7 w' → RkB w w' w.heap.size Q Z d r) := hidden (fun w' hb => HR7.out.later hz7 hb)
  clear HK5 HK6 HQ5 HB6 HRC HPT HR7 k0
  go_upto_region 11 with (first | (go_at_call 76; refine (HCL.out _).mono ?_; rintro e w8 ⟨rfl, e8⟩; rw [e8]; clear e8) | (go_at_call 92; refine HPT7.out.mono ?_; rintro e w9 ⟨rfl, HB9⟩) | fail)
  have HR9 := hidden (HL7.out _ HB9.out)
  clear a0 a1 a2 a3 b0 b1 b2 b3 c0 c1 c2 c3 c4 c5 c6 c7 z0 z1 z2 z3 HPT7 HL7 HB9
  obtain ⟨⟨a0, a1, a2, a3, b0, b1, b2, b3⟩, ⟨c0, c1, c2, c3, c4, c5, c6, c7⟩, z0, z1, z2, z3⟩ := HR9.out.cells
  have HBW := hidden HR9.out.bel
  clear HR9 hz7
  obtain ⟨G, hG⟩ : ∃ G, w.heap.size = G := ⟨_, rfl⟩
  have HG : Hid (w.heap.size ≤ G) := hidden (by omega)
  rw [hG] at a0 a1 a2 a3 b0 b1 b2 b3
  rw [hG]
  clear hG hml
  go_wp2_with (first | (go_at_call 76; refine (HCL.out _).mono ?_; rintro e w8 ⟨rfl, e8⟩; rw [e8]; clear e8) | fail)
  refine bodyPost_ret (v := .tuple #[.agg #[.int .i64 r.x, .int .i64 r.y, .int .i64 r.w, .int .i64 (r.h - M)], .bool true]) (by simp [results, Try.results71, go_sem, a0, a1, a2, a3]) rfl ⟨rfl, hidden ?_⟩
  exact below_set (below_set (below_set (below_set HBW.out G 0 _ HG.out) G 1 _ HG.out) G 2 _ HG.out) G 3 _ HG.out
set_option maxHeartbeats 4000000 in
theorem rk_011 {m : Nat} {w : World} (hml : m < w.heap.size) (x p : Int) (i : Nat) (d dx : Wd) (r : R4) (M : Int) (hdn : d.n = p) (h0 : p ≠ 0) (hpx : dx.p = p)
    (HA : Hid (∀ w1, Below w.heap.size w w1 → Calls Try.prog 53 #[.pointer (some ⟨m, 0, none⟩), .int .i64 x] w1 fun e w' => e = .returned (.int .i64 i) ∧ w' = w1))
    (HO1 : Hid (∀ w1, Below w.heap.size w w1 → Calls Try.prog 32 #[.pointer (some ⟨m, 0, none⟩), .int .i64 x] w1 fun e w' => e = .returned (wdA dx) ∧ Hid (Below w1.heap.size w1 w')))
    (HO2 : Hid (∀ w1, Below w.heap.size w w1 → Calls Try.prog 32 #[.pointer (some ⟨m, 0, none⟩), .int .i64 p] w1 fun e w' => e = .returned (wdA d) ∧ Hid (Below w1.heap.size w1 w')))
    (HRC : Hid (∀ w1, Below w.heap.size w w1 → Calls Try.prog 71 #[.pointer (some ⟨m, 0, none⟩), .int .i64 p] w1 fun e w' => e = .returned (.tuple #[r4A r, .bool true]) ∧ Hid (Below w1.heap.size w1 w')))
    (HCL : Hid (∀ w1, Calls Try.prog 76 #[.int .i64 d.m] w1 fun e w' => e = .returned (.bool false) ∧ w' = w1))
    (HPT : Hid (∀ w1, Below w.heap.size w w1 → Calls Try.prog 92 #[.pointer (some ⟨m, 0, none⟩), wdA d, .int .i64 r.h] w1 fun e w' => e = .returned (.int .i64 M) ∧ Hid (Below w1.heap.size w1 w')))
    (ht : d.m.tmod 2 = 1) (hb : (x == d.b) = true) (hr : R4Ok r) (m0 : 0 ≤ M) (m1 : M ≤ r.h) :
    Calls Try.prog 71 #[.pointer (some ⟨m, 0, none⟩), .int .i64 x] w fun e w' => e = .returned (.tuple #[.agg #[.int .i64 r.x, .int .i64 (r.y + (r.h - M)), .int .i64 r.w, .int .i64 (r.h - (r.h - M))], .bool true]) ∧ Hid (Below w.heap.size w w') := by
  obtain ⟨x0, y0, w0, h00, xw, yh⟩ := hr
  have HK : Hid (KpB w (w.alloc (.cells #[.int .i64 0, .int .i64 0, .int .i64 0, .int .i64 0] 36)) w.heap.size) := hidden ⟨(Below.refl _ _).alloc (Nat.le_refl _) _, heap_alloc_new w _⟩
  have l9 : ¬ (i : Int) < 0 := by omega
  have q0 : (d.n == 0) = false := by rw [hdn]; simp [h0]
  have tw : IntKind.i64.wrap 1 = 1 := by rw [IntKind.wrap_i64]; omega
  have v1 : IntKind.i64.wrap (r.h - M) = r.h - M := by rw [IntKind.wrap_i64]; omega
  have v2 : IntKind.i64.wrap (r.h - (r.h - M)) = r.h - (r.h - M) := by rw [IntKind.wrap_i64]; omega
  have v3 : IntKind.i64.wrap (r.y + (r.h - M)) = r.y + (r.h - M) := by rw [IntKind.wrap_i64]; omega
  subst hdn
  unfold wdA at HO1 HO2 HPT
  unfold r4A at HRC
  rw [hpx] at HO1
  clear hpx
  have hf := wfld2 dx.n dx.k d.n dx.a dx.b dx.m dx.s dx.key
  go_enter Try.func71, Try.ntmps71
  go_upto_region 1 with fail
  generalize w.alloc (.cells #[.int .i64 0, .int .i64 0, .int .i64 0, .int .i64 0] 36) = W at *
  go_upto_region 4 with (first | (go_at_call 53; refine (HA.out _ HK.out.bel).mono ?_; rintro e w2 ⟨rfl, e2⟩; rw [e2]; clear e2) | (go_at_call 32; (with_reducible refine (HO1.out _ HK.out.bel).mono ?_); rintro e w3 ⟨rfl, HB3⟩; have HK3 := hidden (HK.out.later HB3.out)) | (go_at_call 32; (with_reducible refine (HO2.out _ HK3.out.bel).mono ?_); rintro e w4 ⟨rfl, HB4⟩; have HK4 := hidden (HK3.out.later HB4.out)) | fail)
  have HK5 : Hid (KpB w (w4.alloc (.cells #[.int .i64 d.n, .int .i64 d.k, .int .i64 d.p, .int .i64 d.a, .int .i64 d.b, .int .i64 d.m, .int .u32 d.s, .int .i64 d.key] 66)) w.heap.size) := hidden (HK4.out.later ((Below.refl _ _).alloc (Nat.le_refl _) _))
  have HQ5 : Hid ((w4.alloc (.cells #[.int .i64 d.n, .int .i64 d.k, .int .i64 d.p, .int .i64 d.a, .int .i64 d.b, .int .i64 d.m, .int .u32 d.s, .int .i64 d.key] 66)).heap[w4.heap.size]? = some (.cells (wdV d).toArray 66 (0, 0))) := hidden (heap_alloc_new w4 _)
  generalize w4.alloc (.cells #[.int .i64 d.n, .int .i64 d.k, .int .i64 d.p, .int .i64 d.a, .int .i64 d.b, .int .i64 d.m, .int .u32 d.s, .int .i64 d.key] 66) = W5 at *
  generalize w4.heap.size = Q at *
  have k0 : W5.cell? ⟨Q, 0, none⟩ = some (.int .i64 d.n) := by
    have hq := HQ5.out
    simp [World.cell?, hq, wdV]
  clear HK HK3 HK4 HB3 HB4 HA HO1 HO2
  go_upto_region 7 with (first | (go_at_call 71; refine (HRC.out _ HK5.out.bel).mono ?_; rintro e w6 ⟨rfl, HB6⟩; have HK6 := hidden (HK5.out.later HB6.out)) | fail)
  have HR7 : Hid (RkB w (w6.alloc (.cells #[.int .i64 r.x, .int .i64 r.y, .int .i64 r.w, .int .i64 r.h] 36)) w.heap.size Q w6.heap.size d r) := hidden (by
    have hb := (Below.refl w6.heap.size w6).alloc (Nat.le_refl _) (.cells #[.int .i64 r.x, .int .i64 r.y, .int .i64 r.w, .int .i64 r.h] 36)
    have k7 := HK6.out.later hb
    refine ⟨k7.bel, k7.box, ?_, heap_alloc_new w6 _⟩
    have hq := HQ5.out
    have hq6 : w6.heap[Q]? = _ := (HB6.out.block Q (Array.getElem?_eq_some_iff.1 hq).1).trans hq
    rw [hb.block Q (Array.getElem?_eq_some_iff.1 hq6).1]
    exact hq6)
  have hz7 : w.heap.size ≤ (w6.alloc (.cells #[.int .i64 r.x, .int .i64 r.y, .int .i64 r.w, .int .i64 r.h] 36)).heap.size := HR7.out.bel.size
  generalize w6.alloc (.cells #[.int .i64 r.x, .int .i64 r.y, .int .i64 r.w, .int .i64 r.h] 36) = W7 at *
  generalize w6.heap.size = Z at *
  obtain ⟨⟨a0, a1, a2, a3, b0, b1, b2, b3⟩, ⟨c0, c1, c2, c3, c4, c5, c6, c7⟩, z0, z1, z2, z3⟩ := HR7.out.cells
  have HPT7 := hidden (HPT.out W7 HR7.out.bel)
  have HL7 : Hid (∀ w', Below W7.heap.size W7 w' → RkB w w' w.heap.size Q Z d r) := hidden (fun w' hb => HR7.out.later hz7 hb)
  clear HK5 HK6 HQ5 HB6 HRC HPT HR7 k0
  go_upto_region 11 with (first | (go_at_call 76; refine (HCL.out _).mono ?_; rintro e w8 ⟨rfl, e8⟩; rw [e8]; clear e8) | (go_at_call 92; refine HPT7.out.mono ?_; rintro e w9 ⟨rfl, HB9⟩) | fail)
  have HR9 := hidden (HL7.out _ HB9.out)
  clear a0 a1 a2 a3 b0 b1 b2 b3 c0 c1 c2 c3 c4 c5 c6 c7 z0 z1 z2 z3 HPT7 HL7 HB9
  obtain ⟨⟨a0, a1, a2, a3, b0, b1, b2, b3⟩, ⟨c0, c1, c2, c3, c4, c5, c6, c7⟩, z0, z1, z2, z3⟩ := HR9.out.cells
  have HBW := hidden HR9.out.bel
  clear HR9 hz7
  obtain ⟨G, hG⟩ : ∃ G, w.heap.size = G := ⟨_, rfl⟩
  have HG : Hid (w.heap.size ≤ G) := hidden (by omega)
  rw [hG] at a0 a1 a2 a3 b0 b1 b2 b3
  rw [hG]
  clear hG hml
  go_wp2_with (first | (go_at_call 76; refine (HCL.out _).mono ?_; rintro e w8 ⟨rfl, e8⟩; rw [e8]; clear e8) | fail)
  refine bodyPost_ret (v := .tuple #[.agg #[.int .i64 r.x, .int .i64 (r.y + (r.h - M)), .int .i64 r.w, .int .i64 (r.h - (r.h - M))], .bool true]) (by simp [results, Try.results71, go_sem, a0, a1, a2, a3]) rfl ⟨rfl, hidden ?_⟩
  exact below_set (below_set (below_set (below_set HBW.out G 0 _ HG.out) G 1 _ HG.out) G 2 _ HG.out) G 3 _ HG.out
end Go.Proofs.Ytilfgbcbodjegaa
