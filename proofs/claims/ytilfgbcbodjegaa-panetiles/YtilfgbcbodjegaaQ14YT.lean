/- Layer 14, the law: both tell the same of a window. Layer 14, the law: both tell the same of all. Layer 14, the law: acts that came in; begin. Layer 14: an argument that is a slice of acts, opened. Layer 14: the walk of PanePlays. Layer 14: a screen that is made another one; the walk of PaneResizes. Layer 14: the walk of PaneResizes. Layer 14, the law: both tell the same of all, where the document's last number is another. Layer 14, pure lists: a window that was opened is closed again. Layer 14: what the walk of PaneCloses wants: rows that a literal makes, Kind over both trees, the document's last number set, a first window closed again. Layer 14: an Open that is not refused, closed again. Layer 14: what a Close leaves, as the law of those gone asks it. Layer 14: the walk of PaneGone. Layer 14, the document: Copy. Layer 14: the children's rectangles; what an arrangement leaves. Layer 14: where the windows lie behind an Open beside one. Layer 14: a row of rectangles. Layer 14: the windows that are no pairs tile the screen. Layer 14: does a place lie in a rectangle? Layer 14: the walk of PaneTiles. Layer 14: PaneTiles. -/
import Derived.Test.YtilfgbcbodjegaaQ14i
import Derived.Deep.Slices
import Derived.Deep.SlicePairs
import Derived.ChangeSlices
import Derived.SizedLaws
import Derived.Lib.SmallJoins
import Derived.Test.YtilfgbcbodjegaaI14d
import Derived.BigRegion
namespace Go.Proofs.Ytilfgbcbodjegaa
open Go.RowKit
set_option maxHeartbeats 1000000
set_option maxRecDepth 100000
set_option linter.unusedVariables false

theorem bx_later {w wx wy : World} {X : Nat} {o : Obj} (h : Below w.heap.size w wx ∧ wx.heap[X]? = some o) (hb : Below wx.heap.size wx wy) : Below w.heap.size w wy ∧ wy.heap[X]? = some o :=
  ⟨h.1.trans (hb.mono h.1.size), by rw [hb.block X (Array.getElem?_eq_some_iff.1 h.2).1]; exact h.2⟩
/-- the boxes of a call of alike: the window, where it lies, twice -/
structure AkB (w wx : World) (X R S : Nat) (d : Wd) (r : R4) : Prop where
  bel : Below w.heap.size w wx
  bx : wx.heap[X]? = some (.cells (wdV d).toArray 66 (0, 0))
  br : wx.heap[R]? = some (.cells (r4V r) 36 (0, 0))
  bs : wx.heap[S]? = some (.cells (r4V r) 36 (0, 0))
theorem AkB.later {w wx wy : World} {X R S : Nat} {d : Wd} {r : R4} (h : AkB w wx X R S d r) (hb : Below wx.heap.size wx wy) : AkB w wy X R S d r :=
  ⟨h.bel.trans (hb.mono h.bel.size), by rw [hb.block X (Array.getElem?_eq_some_iff.1 h.bx).1]; exact h.bx, by rw [hb.block R (Array.getElem?_eq_some_iff.1 h.br).1]; exact h.br, by rw [hb.block S (Array.getElem?_eq_some_iff.1 h.bs).1]; exact h.bs⟩
theorem AkB.cells {w wx : World} {X R S : Nat} {d : Wd} {r : R4} (h : AkB w wx X R S d r) : wx.cell? ⟨X, 1, none⟩ = some (.int .i64 d.k) ∧ wx.cell? ⟨X, 2, none⟩ = some (.int .i64 d.p) ∧ wx.cell? ⟨X, 3, none⟩ = some (.int .i64 d.a) ∧ wx.cell? ⟨X, 4, none⟩ = some (.int .i64 d.b) ∧ wx.cell? ⟨R, 0, none⟩ = some (.int .i64 r.x) ∧ wx.cell? ⟨R, 1, none⟩ = some (.int .i64 r.y) ∧ wx.cell? ⟨R, 2, none⟩ = some (.int .i64 r.w) ∧ wx.cell? ⟨R, 3, none⟩ = some (.int .i64 r.h) ∧ wx.cell? ⟨S, 0, none⟩ = some (.int .i64 r.x) ∧ wx.cell? ⟨S, 1, none⟩ = some (.int .i64 r.y) ∧ wx.cell? ⟨S, 2, none⟩ = some (.int .i64 r.w) ∧ wx.cell? ⟨S, 3, none⟩ = some (.int .i64 r.h) := by
  have hx := h.bx
  have hr := h.br
  have hs := h.bs
  refine ⟨?_, ?_, ?_, ?_, ?_, ?_, ?_, ?_, ?_, ?_, ?_, ?_⟩ <;> simp [World.cell?, hx, hr, hs, wdV, r4V]
theorem AkB.cells2 {w wx : World} {X R S : Nat} {d : Wd} {r : R4} (h : AkB w wx X R S d r) : wx.cell? ⟨X, 5, none⟩ = some (.int .i64 d.m) ∧ wx.cell? ⟨X, 6, none⟩ = some (.int .u32 d.s) ∧ wx.cell? ⟨X, 7, none⟩ = some (.int .i64 d.key) := by
  have hx := h.bx
  refine ⟨?_, ?_, ?_⟩ <;> simp [World.cell?, hx, wdV]
set_option maxHeartbeats 16000000 in
theorem alike_of {m dd : Nat} {w : World} (x : Int) (d : Wd) (r : R4) (ok : Bool) (E SB : Int) (hE : 0 ≤ E ∧ E ≤ 100)
    (HOF : Hid (∀ w1, Below w.heap.size w w1 → Calls Try.prog 32 #[.pointer (some ⟨dd, 0, none⟩), .int .i64 x] w1 fun e w' => e = .returned (wdA d) ∧ Hid (Below w1.heap.size w1 w')))
    (HKD : Hid (∀ w1, Below w.heap.size w w1 → Calls Try.prog 17 #[.pointer (some ⟨m, 0, none⟩), .int .i64 x] w1 fun e w' => e = .returned (.tuple #[.int .i64 d.a, .int .i64 d.b]) ∧ Hid (Below w1.heap.size w1 w')))
    (HAR : Hid (∀ w1, Below w.heap.size w w1 → Calls Try.prog 28 #[.pointer (some ⟨m, 0, none⟩), .int .i64 x] w1 fun e w' => e = .returned (.tuple #[.int .i64 d.m, .int .u32 d.s, .int .i64 d.key, .int .i64 E]) ∧ Hid (Below w1.heap.size w1 w')))
    (HRC : Hid (∀ w1, Below w.heap.size w w1 → Calls Try.prog 14 #[.pointer (some ⟨m, 0, none⟩), .int .i64 x] w1 fun e w' => e = .returned (.tuple #[r4A r, .bool ok]) ∧ Hid (Below w1.heap.size w1 w')))
    (HDR : Hid (∀ w1, Below w.heap.size w w1 → Calls Try.prog 71 #[.pointer (some ⟨dd, 0, none⟩), .int .i64 x] w1 fun e w' => e = .returned (.tuple #[r4A r, .bool ok]) ∧ Hid (Below w1.heap.size w1 w')))
    (HKI : Hid (∀ w1, Below w.heap.size w w1 → Calls Try.prog 15 #[.pointer (some ⟨m, 0, none⟩), .int .i64 x] w1 fun e w' => e = .returned (.int .i64 d.k) ∧ Hid (Below w1.heap.size w1 w')))
    (HPA : Hid (∀ w1, Below w.heap.size w w1 → Calls Try.prog 21 #[.pointer (some ⟨m, 0, none⟩), .int .i64 x] w1 fun e w' => e = .returned (.int .i64 d.p) ∧ Hid (Below w1.heap.size w1 w')))
    (HDP : Hid (∀ w1, Below w.heap.size w w1 → Calls Try.prog 72 #[.pointer (some ⟨dd, 0, none⟩), .int .i64 x] w1 fun e w' => e = .returned (.int .i64 E) ∧ Hid (Below w1.heap.size w1 w')))
    (HSI : Hid (∀ w1, Below w.heap.size w w1 → Calls Try.prog 26 #[.pointer (some ⟨m, 0, none⟩), .int .i64 x] w1 fun e w' => e = .returned (.int .i64 SB) ∧ Hid (Below w1.heap.size w1 w')))
    (HDS : Hid (∀ w1, Below w.heap.size w w1 → Calls Try.prog 73 #[.pointer (some ⟨dd, 0, none⟩), .int .i64 x] w1 fun e w' => e = .returned (.int .i64 SB) ∧ Hid (Below w1.heap.size w1 w')))
    (hc : (d.k ≠ 0 ∧ d.p ≠ 0) ∨ (d.k = 0 ∧ d.p = 0 ∧ SB = 0) ∨ (d.k ≠ 0 ∧ d.p = 0 ∧ SB = 0)) :
    Calls Try.prog 47 #[.pointer (some ⟨m, 0, none⟩), .pointer (some ⟨dd, 0, none⟩), .int .i64 x] w fun e w' => e = .returned (.bool true) ∧ Hid (Below w.heap.size w w') := by
  have HC := hidden hc
  have HNU := hidden (fun wx => num_any E wx hE.1 hE.2)
  unfold wdA at HOF
  unfold r4A at HRC HDR
  clear hc hE
  go_enter Try.func47, Try.ntmps47
  go_upto_region 2 with (first | (go_at_call 32; refine (HOF.out _ (Below.refl _ _)).mono ?_; rintro e w1 ⟨rfl, HB1⟩) | fail)
  have HX1 : Hid (Below w.heap.size w (w1.alloc (.cells #[.int .i64 d.n, .int .i64 d.k, .int .i64 d.p, .int .i64 d.a, .int .i64 d.b, .int .i64 d.m, .int .u32 d.s, .int .i64 d.key] 66)) ∧ (w1.alloc (.cells #[.int .i64 d.n, .int .i64 d.k, .int .i64 d.p, .int .i64 d.a, .int .i64 d.b, .int .i64 d.m, .int .u32 d.s, .int .i64 d.key] 66)).heap[w1.heap.size]? = some (.cells (wdV d).toArray 66 (0, 0))) := hidden ⟨HB1.out.alloc HB1.out.size _, heap_alloc_new w1 _⟩
  generalize w1.alloc (.cells #[.int .i64 d.n, .int .i64 d.k, .int .i64 d.p, .int .i64 d.a, .int .i64 d.b, .int .i64 d.m, .int .u32 d.s, .int .i64 d.key] 66) = W1 at *
  generalize w1.heap.size = X at *
  clear HB1 HOF
  go_upto_region 5 with (first
    | (go_at_call 17; refine (HKD.out _ HX1.out.1).mono ?_; rintro e w2 ⟨rfl, HB2⟩; have HX2 := hidden (bx_later HX1.out HB2.out))
    | (go_at_call 28; refine (HAR.out _ HX2.out.1).mono ?_; rintro e w3 ⟨rfl, HB3⟩; have HX3 := hidden (bx_later HX2.out HB3.out))
    | (go_at_call 14; refine (HRC.out _ HX3.out.1).mono ?_; rintro e w4 ⟨rfl, HB4⟩; have HX4 := hidden (bx_later HX3.out HB4.out))
    | fail)
  have HX5 : Hid ((Below w.heap.size w (w4.alloc (.cells #[.int .i64 r.x, .int .i64 r.y, .int .i64 r.w, .int .i64 r.h] 36)) ∧ (w4.alloc (.cells #[.int .i64 r.x, .int .i64 r.y, .int .i64 r.w, .int .i64 r.h] 36)).heap[X]? = some (.cells (wdV d).toArray 66 (0, 0))) ∧ (w4.alloc (.cells #[.int .i64 r.x, .int .i64 r.y, .int .i64 r.w, .int .i64 r.h] 36)).heap[w4.heap.size]? = some (.cells (r4V r) 36 (0, 0))) := hidden ⟨bx_later HX4.out ((Below.refl _ _).alloc (Nat.le_refl _) _), heap_alloc_new w4 _⟩
  generalize w4.alloc (.cells #[.int .i64 r.x, .int .i64 r.y, .int .i64 r.w, .int .i64 r.h] 36) = W5 at *
  generalize w4.heap.size = R at *
  clear HX1 HX2 HX3 HX4 HB2 HB3 HB4 HKD HAR HRC
  go_upto_region 6 with (first
    | (go_at_call 71; refine (HDR.out _ HX5.out.1.1).mono ?_; rintro e w6 ⟨rfl, HB6⟩; have HX6 := hidden (And.intro (bx_later HX5.out.1 HB6.out) (bx_later ⟨HX5.out.1.1, HX5.out.2⟩ HB6.out).2))
    | fail)
  have HA7 : Hid (AkB w (w6.alloc (.cells #[.int .i64 r.x, .int .i64 r.y, .int .i64 r.w, .int .i64 r.h] 36)) X R w6.heap.size d r) := hidden (by
    have hb := (Below.refl w6.heap.size w6).alloc (Nat.le_refl _) (.cells #[.int .i64 r.x, .int .i64 r.y, .int .i64 r.w, .int .i64 r.h] 36)
    have q1 := bx_later HX6.out.1 hb
    have q2 := bx_later ⟨HX6.out.1.1, HX6.out.2⟩ hb
    exact ⟨q1.1, q1.2, q2.2, heap_alloc_new w6 _⟩)
  generalize w6.alloc (.cells #[.int .i64 r.x, .int .i64 r.y, .int .i64 r.w, .int .i64 r.h] 36) = W7 at *
  generalize w6.heap.size = S at *
  clear HX5 HX6 HB6 HDR
  obtain ⟨c1, c2, c3, c4, r0, r1, r2, r3, s0, s1, s2, s3⟩ := HA7.out.cells
  have HKI2 : Hid (∀ wx, AkB w wx X R S d r → Calls Try.prog 15 #[.pointer (some ⟨m, 0, none⟩), .int .i64 x] wx fun e w' => e = .returned (.int .i64 d.k) ∧ Hid (AkB w w' X R S d r)) := hidden (fun wx hx => (HKI.out wx hx.bel).mono (fun e w' hh => ⟨hh.1, hidden (hx.later hh.2.out)⟩))
  have HPA2 : Hid (∀ wx, AkB w wx X R S d r → Calls Try.prog 21 #[.pointer (some ⟨m, 0, none⟩), .int .i64 x] wx fun e w' => e = .returned (.int .i64 d.p) ∧ Hid (AkB w w' X R S d r)) := hidden (fun wx hx => (HPA.out wx hx.bel).mono (fun e w' hh => ⟨hh.1, hidden (hx.later hh.2.out)⟩))
  have HDP2 : Hid (∀ wx, AkB w wx X R S d r → Calls Try.prog 72 #[.pointer (some ⟨dd, 0, none⟩), .int .i64 x] wx fun e w' => e = .returned (.int .i64 E) ∧ Hid (AkB w w' X R S d r)) := hidden (fun wx hx => (HDP.out wx hx.bel).mono (fun e w' hh => ⟨hh.1, hidden (hx.later hh.2.out)⟩))
  have HDRW : Hid (∀ wx, AkB w wx X R S d r → AkB w wx.drew X R S d r) := hidden (fun wx hx => hx.later (Below.refl _ _).drew)
  have HSI2 : Hid (∀ wx, AkB w wx X R S d r → Calls Try.prog 26 #[.pointer (some ⟨m, 0, none⟩), .int .i64 x] wx fun e w' => e = .returned (.int .i64 SB) ∧ Hid (AkB w w' X R S d r)) := hidden (fun wx hx => (HSI.out wx hx.bel).mono (fun e w' hh => ⟨hh.1, hidden (hx.later hh.2.out)⟩))
  have HDS2 : Hid (∀ wx, AkB w wx X R S d r → Calls Try.prog 73 #[.pointer (some ⟨dd, 0, none⟩), .int .i64 x] wx fun e w' => e = .returned (.int .i64 SB) ∧ Hid (AkB w w' X R S d r)) := hidden (fun wx hx => (HDS.out wx hx.bel).mono (fun e w' hh => ⟨hh.1, hidden (hx.later hh.2.out)⟩))
  clear HKI HPA HDP HSI HDS
  obtain ⟨dn, dk, dp, da, db, dm, ds, dkey⟩ := d
  obtain ⟨rx, ry, rw_, rh⟩ := r
  simp only at *
  cases ok
  all_goals
    go_region_held3 (fun w' => w'.cell? ⟨X, 1, none⟩ = some (.int .i64 dk) ∧ w'.cell? ⟨X, 2, none⟩ = some (.int .i64 dp) ∧ w'.cell? ⟨X, 3, none⟩ = some (.int .i64 da) ∧ w'.cell? ⟨X, 4, none⟩ = some (.int .i64 db) ∧ w'.cell? ⟨R, 0, none⟩ = some (.int .i64 rx) ∧ w'.cell? ⟨R, 1, none⟩ = some (.int .i64 ry) ∧ w'.cell? ⟨R, 2, none⟩ = some (.int .i64 rw_) ∧ w'.cell? ⟨R, 3, none⟩ = some (.int .i64 rh) ∧ w'.cell? ⟨S, 0, none⟩ = some (.int .i64 rx) ∧ w'.cell? ⟨S, 1, none⟩ = some (.int .i64 ry) ∧ w'.cell? ⟨S, 2, none⟩ = some (.int .i64 rw_) ∧ w'.cell? ⟨S, 3, none⟩ = some (.int .i64 rh)) (first | assumption | exact ⟨by assumption, by assumption, by assumption, by assumption, by assumption, by assumption, by assumption, by assumption, by assumption, by assumption, by assumption, by assumption⟩ | go_keep) (first
      | (go_at_call 15; refine (HKI2.out _ (by first | exact HDRW.out _ HA7.out | exact HA7.out)).mono ?_; rintro e w8 ⟨rfl, HA8⟩; obtain ⟨f1, f2, f3, f4, g0, g1, g2, g3, h0, h1, h2, h3⟩ := HA8.out.cells)
      | (go_at_call 21; refine (HPA2.out _ (by first | exact HA8.out | exact HDRW.out _ HA8.out)).mono ?_; rintro e w9 ⟨rfl, HA9⟩; obtain ⟨f1, f2, f3, f4, g0, g1, g2, g3, h0, h1, h2, h3⟩ := HA9.out.cells)
      | (go_at_call 20; refine (HNU.out _).mono ?_; rintro e w6 ⟨rfl, e2⟩; rw [e2]; clear e2)
      | (go_at_call 72; refine (HDP2.out _ (by first | exact HA9.out | exact HDRW.out _ HA9.out)).mono ?_; rintro e w10 ⟨rfl, HA10⟩; obtain ⟨f1, f2, f3, f4, g0, g1, g2, g3, h0, h1, h2, h3⟩ := HA10.out.cells)
      | fail)
  all_goals
    clear HKI2 HPA2 HDP2
    rcases HC.out with ⟨k0, p0⟩ | ⟨k0, p0, k1⟩ | ⟨k0, p0, k1⟩
    · have kq : (dk != 0) = true := by simpa using k0
      have kq2 : (dk == 0) = false := by simpa using k0
      have pq : (dp != 0) = true := by simpa using p0
      have pq2 : (dp == 0) = false := by simpa using p0
      clear k0 p0
      go_upto_region 10 with (first | (go_at_call 26; refine (HSI2.out _ (by first | exact HA10.out | exact HDRW.out _ HA10.out)).mono ?_; rintro e w11 ⟨rfl, HA11⟩; obtain ⟨f1, f2, f3, f4, g0, g1, g2, g3, h0, h1, h2, h3⟩ := HA11.out.cells) | (go_at_call 73; refine (HDS2.out _ HA11.out).mono ?_; rintro e w12 ⟨rfl, HA12⟩; obtain ⟨f1, f2, f3, f4, g0, g1, g2, g3, h0, h1, h2, h3⟩ := HA12.out.cells) | fail)
      obtain ⟨e5, e6, e7⟩ := HA12.out.cells2
      go_wp2
      go_ret
      exact ⟨by first | rfl | simp, hidden HA12.out.bel⟩
    · have kq : (dk != 0) = false := by simp [k0]
      have kq2 : (dk == 0) = true := by simp [k0]
      have pq : (dp != 0) = false := by simp [p0]
      have pq2 : (dp == 0) = true := by simp [p0]
      clear k0 p0
      subst k1
      go_upto_region 10 with (first | (go_at_call 26; refine (HSI2.out _ (by first | exact HA10.out | exact HDRW.out _ HA10.out)).mono ?_; rintro e w11 ⟨rfl, HA11⟩; obtain ⟨f1, f2, f3, f4, g0, g1, g2, g3, h0, h1, h2, h3⟩ := HA11.out.cells) | fail)
      obtain ⟨e5, e6, e7⟩ := HA11.out.cells2
      go_wp2
      go_ret
      exact ⟨by first | rfl | simp, hidden HA11.out.bel⟩
    · have kq : (dk != 0) = true := by simpa using k0
      have kq2 : (dk == 0) = false := by simpa using k0
      have pq : (dp != 0) = false := by simp [p0]
      have pq2 : (dp == 0) = true := by simp [p0]
      clear k0 p0
      subst k1
      go_upto_region 10 with (first | (go_at_call 26; refine (HSI2.out _ (by first | exact HA10.out | exact HDRW.out _ HA10.out)).mono ?_; rintro e w11 ⟨rfl, HA11⟩; obtain ⟨f1, f2, f3, f4, g0, g1, g2, g3, h0, h1, h2, h3⟩ := HA11.out.cells) | fail)
      obtain ⟨e5, e6, e7⟩ := HA11.out.cells2
      go_wp2
      go_ret
      exact ⟨by first | rfl | simp, hidden HA11.out.bel⟩
end Go.Proofs.Ytilfgbcbodjegaa
namespace Go.Proofs.Ytilfgbcbodjegaa
open Go.RowKit
set_option maxHeartbeats 1000000
set_option maxRecDepth 100000
set_option linter.unusedVariables false

theorem rootF_eq {L : List Wd} {n : Int} (h : ∀ d ∈ L, d.p = 0 → d.n = n) (he : ∃ d ∈ L, d.p = 0) : rootF L = n := by
  induction L with
  | nil => obtain ⟨d, hd, _⟩ := he; simp at hd
  | cons e l ih =>
    unfold rootF
    by_cases h0 : e.p = 0
    · rw [if_pos h0]; exact h e List.mem_cons_self h0
    · rw [if_neg h0]
      obtain ⟨d, hd, hp⟩ := he
      rcases List.mem_cons.1 hd with rfl | hd
      · exact absurd hp h0
      · exact ih (fun d hd => h d (List.mem_cons_of_mem _ hd)) ⟨d, hd, hp⟩
theorem Iv.rootF {s : Ps} (ho : Iv s) : rootF s.L = s.root := by
  by_cases h0 : s.root = 0
  · have hl := ho.rt0.1 h0
    rw [h0]
    exact rootF_no s.L (fun j hj => by omega)
  · have hr := ho.rh h0
    refine rootF_eq (fun d hd hp => ?_) ⟨ofW s.L s.root, (of_mem hr).1, (ho.rt _ hr).2 rfl⟩
    have := ho.rt d.n (has_mem hd)
    rw [of_self ho.so hd] at this
    exact this.1 hp
theorem Iv.sib0 {s : Ps} (ho : Iv s) (x : Int) (hp : (ofW s.L x).p = 0) : sibW s.L x = 0 := by
  unfold sibW
  rw [hp, ho.of_zero]
  show (if (0 : Int) = x then (0 : Int) else 0) = 0
  split <;> rfl
theorem alike_any {B m dd : Nat} {v u : Value} {s : Ps} {w : World} (h : PAt B w m v s) (q : QAt B w dd u s) (ho : Iv s) (x : Int) :
    Calls Try.prog 47 #[.pointer (some ⟨m, 0, none⟩), .pointer (some ⟨dd, 0, none⟩), .int .i64 x] w fun e w' => e = .returned (.bool true) ∧ Hid (Below w.heap.size w w') := by
  have hok : OkP s := ho.toOkL.toOkP
  have hn : s.L.length ≤ 1000 := by have := ho.f63; omega
  by_cases hx : hasW s.L x
  · have hb := hasB_iff.2 hx
    have hk := ho.kd x hx
    have hE : prE s x = if (ofW s.L x).k = 4 then 0 else 1 := by unfold prE; rw [hb]; rfl
    refine alike_of x (ofW s.L x) (rctF s 64 x) true (prE s x) (sibW s.L x) (by rw [hE]; split <;> omega)
      (hidden (fun w1 hb => dof_any (q.later hb) hn x))
      (hidden (fun w1 hb => (kids_any (h.later hb) hok x).mono (fun e w' hh => ⟨hh.1, hidden hh.2⟩)))
      (hidden (fun w1 hb => ?_))
      (hidden (fun w1 hb => (rect_any (h.later hb) hok ho.scr 64 x hx (ho.upk64 x hx)).mono (fun e w' hh => ⟨hh.1, hidden hh.2⟩)))
      (hidden (fun w1 hb => drect_any ho 64 x hx (ho.upk64 x hx) w1 (q.later hb)))
      (hidden (fun w1 hb => (kind_any (h.later hb) hok x).mono (fun e w' hh => ⟨hh.1, hidden hh.2⟩)))
      (hidden (fun w1 hb => (parent_any (h.later hb) hok x).mono (fun e w' hh => ⟨hh.1, hidden hh.2⟩)))
      (hidden (fun w1 hb => dpair_any (q.later hb) hn x))
      (hidden (fun w1 hb => (sibling_any (h.later hb) hok x).mono (fun e w' hh => ⟨hh.1, hidden hh.2⟩)))
      (hidden (fun w1 hb => dsib_any (q.later hb) hn x)) ?_
    · by_cases h4 : (ofW s.L x).k = 4
      · rw [if_pos h4] at hE
        rw [hE]
        exact arrangement_good (h.later hb) hok x hE
      · rw [if_neg h4] at hE
        obtain ⟨_, _, e1, e2, e3⟩ := ho.np x hx h4
        rw [hE, e1, e2, e3]
        exact arrangement_bad (h.later hb) hok x 1 hE (by omega)
    · by_cases hp : (ofW s.L x).p = 0
      · exact .inr (.inr ⟨by omega, hp, ho.sib0 x hp⟩)
      · exact .inl ⟨by omega, hp⟩
  · have hb : hasB s.L x = false := by
      cases e : hasB s.L x with
      | false => rfl
      | true => exact absurd (hasB_iff.1 e) hx
    have hno : ∀ d ∈ s.L, d.n ≠ x := fun d hd e => hx ⟨d, hd, e⟩
    have h0 := of_no hx
    have hE : prE s x = 5 := by unfold prE; rw [hb]; rfl
    have hp : (ofW s.L x).p = 0 := by rw [h0]; rfl
    have hsb := ho.sib0 x hp
    refine alike_of x wd0 ⟨0, 0, 0, 0⟩ false 5 0 (by omega)
      (hidden (fun w1 hb => by have := dof_any (q.later hb) hn x; rw [h0] at this; exact this))
      (hidden (fun w1 hb => by have z := kids_any (h.later hb) hok x; rw [h0] at z; exact z.mono (fun e w' hh => ⟨hh.1, hidden hh.2⟩)))
      (hidden (fun w1 hb => arrangement_bad (h.later hb) hok x 5 hE (by omega)))
      (hidden (fun w1 hb => (rect_none (h.later hb) hok x hno).mono (fun e w' hh => ⟨hh.1, hidden hh.2⟩)))
      (hidden (fun w1 h1 => drect_none (q.later h1) hn x hb))
      (hidden (fun w1 hb => by have z := kind_any (h.later hb) hok x; rw [h0] at z; exact z.mono (fun e w' hh => ⟨hh.1, hidden hh.2⟩)))
      (hidden (fun w1 hb => by have z := parent_any (h.later hb) hok x; rw [h0] at z; exact z.mono (fun e w' hh => ⟨hh.1, hidden hh.2⟩)))
      (hidden (fun w1 h1 => by have := dpair_any (q.later h1) hn x; rw [if_pos hb] at this; exact this))
      (hidden (fun w1 hb => by have z := sibling_any (h.later hb) hok x; rw [hsb] at z; exact z.mono (fun e w' hh => ⟨hh.1, hidden hh.2⟩)))
      (hidden (fun w1 hb => by have := dsib_any (q.later hb) hn x; rw [hsb] at this; exact this))
      (.inr (.inl ⟨rfl, rfl, rfl⟩))
set_option maxHeartbeats 8000000 in
theorem all_any {B m dd : Nat} {v u : Value} {s : Ps} {w : World} (h : PAt B w m v s) (q : QAt B w dd u s) (ho : Iv s) (hl : -1 ≤ s.last ∧ s.last ≤ 90000) :
    Calls Try.prog 25 #[.pointer (some ⟨m, 0, none⟩), .pointer (some ⟨dd, 0, none⟩)] w fun e w' => e = .returned (.bool true) ∧ Hid (Below w.heap.size w w') := by
  have hf := ho.f63
  have HNB := hidden (numbers_any q (by omega))
  have HWN : Hid (∀ w1, Below w.heap.size w w1 → Calls Try.prog 13 #[.pointer (some ⟨m, 0, none⟩)] w1 (WnR w1 s.L)) := hidden (fun w1 hb => windows_any (h.later hb) (by omega))
  have HRT : Hid (∀ w1, Below w.heap.size w w1 → Calls Try.prog 27 #[.pointer (some ⟨m, 0, none⟩)] w1 fun e w' => e = .returned (.int .i64 s.root) ∧ w' = w1) := hidden (fun w1 hb => root_any (h.later hb))
  have HDT : Hid (∀ w1, Below w.heap.size w w1 → Calls Try.prog 46 #[.pointer (some ⟨dd, 0, none⟩)] w1 fun e w' => e = .returned (.int .i64 s.root) ∧ w' = w1) := hidden (fun w1 hb => by
    have := droot_any (q.later hb) (by omega)
    rw [ho.rootF] at this
    exact this)
  have HAL : Hid (∀ w1, Below w.heap.size w w1 → ∀ x, Calls Try.prog 47 #[.pointer (some ⟨m, 0, none⟩), .pointer (some ⟨dd, 0, none⟩), .int .i64 x] w1 fun e w' => e = .returned (.bool true) ∧ Hid (Below w.heap.size w w' ∧ Below w1.heap.size w1 w')) := hidden (fun w1 hb x => (alike_any (h.later hb) (q.later hb) ho x).mono (fun e w' hh => ⟨hh.1, hidden ⟨hb.trans (hh.2.out.mono hb.size), hh.2.out⟩⟩))
  have HLC : Hid (∀ w1, Below w.heap.size w w1 → w1.cell? ⟨dd, 3, none⟩ = some (.int .i64 s.last)) := hidden (fun w1 hb => (q.later hb).cells.2.2.2.1)
  have hw1 : IntKind.i64.wrap (s.last + 1) = s.last + 1 := by rw [IntKind.wrap_i64]; omega
  have HLEN : Hid ((nsL s.L).length = s.L.length) := hidden (by simp [nsL])
  clear h q ho hl
  generalize s.last = LA at *
  generalize s.root = RT at *
  go_enter Try.func25, Try.ntmps25
  go_upto_region 2 with (first | (go_at_call 45; refine HNB.out.mono ?_; rintro e w1 ⟨a1, n1, c1, rfl, hn1, o1, b1⟩; have HN1 := hidden hn1; have HO1 := hidden o1; have HB1 := hidden b1; clear o1 b1 hn1) | fail)
  go_upto_region 5 with (first
    | (go_at_call 13; refine (HWN.out _ HB1.out).mono ?_; rintro e w2 ⟨a2, n2, c2, rfl, hn2, o2, b2⟩; obtain rfl : n2 = n1 := hn2.trans HN1.out.symm; have HSM := hidden (same_eq o2 (own_later HO1.out b2) (by omega)); have HO2 := hidden (own_later HO1.out b2); have HB2 := hidden (HB1.out.trans (b2.mono HB1.out.size)); clear o2 b2 hn2)
    | (go_at_call 24; refine HSM.out.mono ?_; rintro e w3 ⟨rfl, HQ3⟩; have HO3 := hidden (own_later HO2.out HQ3.out); have HB3 := hidden (HB2.out.trans (HQ3.out.mono HB2.out.size)))
    | (go_at_call 27; refine (HRT.out _ HB3.out).mono ?_; rintro e w4 ⟨rfl, e4⟩; rw [e4]; clear e4)
    | (go_at_call 46; refine (HDT.out _ HB3.out).mono ?_; rintro e w4 ⟨rfl, e4⟩; rw [e4]; clear e4)
    | fail)
  have hnk : n2 ≤ 64 := by have := HN1.out; omega
  clear HNB HWN HRT HDT HSM HO1 HO2 HB1 HB2 HQ3
  go_loopw [6] (fun i w' => ∃ k : Nat, k ≤ n2 ∧ i = .int .i64 k ∧ Hid (Below w.heap.size w w' ∧ w'.ownsRow w.heap.size 3 1 (.slice a1 n2 c1) n2 (intsV (nsL s.L)))) (fun i _ => n2 - (intOf i).toNat)
  case atStart => exact ⟨0, by omega, rfl, hidden ⟨HB3.out, HO3.out⟩⟩
  case round =>
    obtain ⟨k, hk, rfl, HR⟩ := hrel
    by_cases hlt : k < n2
    · have l1 : (k : Int) < n2 := by omega
      have l0 : (0 : Int) ≤ k := by omega
      obtain ⟨g, c, hsl, hcell, _⟩ := irow_cell HR.out.2 k (by have := HLEN.out; have := HN1.out; omega)
      simp only [Value.slice.injEq] at hsl
      obtain ⟨rfl, _, rfl⟩ := hsl
      generalize (nsL s.L)[k] = z at *
      have HAK := hidden (HAL.out _ HR.out.1 z)
      clear HO3 HB3 HAL HLC
      go_wp2_with (first | (go_at_call 47; refine HAK.out.mono ?_; rintro e w5 ⟨rfl, HB5⟩) | fail)
      go_roundw
      case rel => exact ⟨k + 1, by omega, by first | rfl | go_num, hidden ⟨HB5.out.1, own_later HR.out.2 HB5.out.2⟩⟩
      case measure => simp [intOf]; omega
    · obtain rfl : k = n2 := by omega
      clear HO3 HB3
      go_wp2_with (first | (go_at_call 47; refine (HAL.out _ (by first | exact HB5.out.1 | exact HR.out.1) _).mono ?_; rintro e w5 ⟨rfl, HB5⟩; have l3 := HLC.out _ HB5.out.1) | fail)
      go_ret
      exact ⟨by first | rfl | simp, hidden HB5.out.1⟩
end Go.Proofs.Ytilfgbcbodjegaa
namespace Go.Proofs.Ytilfgbcbodjegaa
open Go.RowKit
set_option maxHeartbeats 1000000
set_option maxRecDepth 100000
set_option linter.unusedVariables false

/-- acts that came in -/
structure IsActs (w : World) (a : Option Addr) (len cap : Nat) (ss : List Ac) : Prop where
  ln : ss.length = len
  ok : ∀ x ∈ ss, x.ok
  cells : ∀ i (hi : i < ss.length), ∃ b o, a = some ⟨b, o, none⟩ ∧ w.cell? ⟨b, o + i * 6, none⟩ = some (.int .i64 ss[i].k) ∧ w.cell? ⟨b, o + i * 6 + 1, none⟩ = some (.int .i64 ss[i].a) ∧ w.cell? ⟨b, o + i * 6 + 2, none⟩ = some (.int .i64 ss[i].b) ∧ w.cell? ⟨b, o + i * 6 + 3, none⟩ = some (.int .i64 ss[i].c) ∧ w.cell? ⟨b, o + i * 6 + 4, none⟩ = some (.int .u32 ss[i].s) ∧ w.cell? ⟨b, o + i * 6 + 5, none⟩ = some (.bool ss[i].near)
theorem cell_lt14 {w : World} {b i : Nat} {u : Value} (h : w.cell? ⟨b, i, none⟩ = some u) : b < w.heap.size := by
  unfold World.cell? at h
  simp only at h
  cases hq : w.heap[b]? with
  | none => rw [hq] at h; simp at h
  | some o => exact (Array.getElem?_eq_some_iff.1 hq).1
theorem IsActs.later {w w' : World} {a : Option Addr} {len cap : Nat} {ss : List Ac} (h : IsActs w a len cap ss) (hb : Below w.heap.size w w') : IsActs w' a len cap ss :=
  ⟨h.ln, h.ok, fun i hi => by
    obtain ⟨b, o, e, c0, c1, c2, c3, c4, c5⟩ := h.cells i hi
    have hbl := hb.block b (cell_lt14 c0)
    exact ⟨b, o, e, (World.cell?_of_block hbl).trans c0, (World.cell?_of_block hbl).trans c1, (World.cell?_of_block hbl).trans c2, (World.cell?_of_block hbl).trans c3, (World.cell?_of_block hbl).trans c4, (World.cell?_of_block hbl).trans c5⟩⟩
/-- behind acts -/
def runS (s : Ps) (ss : List Ac) : Ps := ss.foldl stepS s
theorem runS_snoc (s : Ps) (ss : List Ac) (j : Nat) (hj : j < ss.length) : runS s (ss.take (j + 1)) = stepS (runS s (ss.take j)) ss[j] := by
  unfold runS
  rw [List.take_add_one, List.getElem?_eq_getElem hj, List.foldl_append]
  rfl
theorem iv_run {x y : Int} (hs : scrB x y = true) {ss : List Ac} (hok : ∀ a ∈ ss, a.ok) (hn : ss.length ≤ 80) : ∀ k, k ≤ ss.length → Iv (runS ⟨x, y, 0, 0, []⟩ (ss.take k)) ∧ (runS ⟨x, y, 0, 0, []⟩ (ss.take k)).last ≤ 2 * k := by
  intro k
  induction k with
  | zero => intro _; rw [List.take_zero]; exact ⟨iv_new x y hs, by show (0 : Int) ≤ _; omega⟩
  | succ k ih =>
    intro hk
    obtain ⟨h1, h2⟩ := ih (by omega)
    rw [runS_snoc _ _ k (by omega)]
    obtain ⟨h3, h4⟩ := iv_step h1 (by omega) ss[k] (hok _ (List.getElem_mem _))
    exact ⟨h3, by omega⟩
theorem tw_new {s : Ps} {w w1 w2 : World} (h1 : PAt w.heap.size w1 w.heap.size (.slice none 0 0) s) (b1 : Below w.heap.size w w1) (h2 : QAt w1.heap.size w2 w1.heap.size (.slice none 0 0) s) (b2 : Below w1.heap.size w1 w2) : Tw w.heap.size w.heap.size w1.heap.size w w2 s s [] := by
  have hlt := h1.lt
  refine ⟨_, _, h1.later b2, ⟨b1.size, h2.box, own_base h2.row b1.size⟩, ?_, b1.trans (b2.mono b1.size), Nat.le_trans b1.size b2.size, fun g hg => by cases hg⟩
  rintro k (rfl | e) (e' | e')
  · omega
  · cases e'
  · cases e
  · cases e
set_option maxHeartbeats 8000000 in
theorem begin_any (x y : Int) (hs : scrB x y = true) {w : World} {a : Option Addr} {len cap : Nat} {ss : List Ac} (ha : IsActs w a len cap ss) (hlen : len ≤ 80) :
    Calls Try.prog 12 #[.int .i64 x, .int .i64 y, .slice a len cap] w fun e w' => ∃ m d, e = .returned (.tuple #[.pointer (some ⟨m, 0, none⟩), .pointer (some ⟨d, 0, none⟩)]) ∧ Hid (Tw w.heap.size m d w w' (runS ⟨x, y, 0, 0, []⟩ ss) (runS ⟨x, y, 0, 0, []⟩ ss) []) := by
  have hln := ha.ln
  have HA := hidden ha
  have HNW := hidden (new_good x y w hs)
  have HDN := hidden (fun w1 => dnew_good x y w1 hs)
  have HNU := hidden (fun wx => num_any 0 wx (by omega) (by omega))
  have HIV := hidden (fun k hk => iv_run hs ha.ok (by omega) k hk)
  have HFIN : Hid (runS ⟨x, y, 0, 0, []⟩ (ss.take len) = runS ⟨x, y, 0, 0, []⟩ ss) := hidden (by rw [← hln, List.take_length])
  have HLN := hidden hln
  clear ha hs hln
  generalize hS0 : (⟨x, y, 0, 0, []⟩ : Ps) = S0 at *
  clear hS0
  generalize hBB : w.heap.size = BB at *
  have HBB := hidden hBB
  clear hBB
  go_enter Try.func12, Try.ntmps12
  go_upto_region 3 with (first
    | (go_at_call 33; refine HNW.out.mono ?_; rintro e w1 ⟨rfl, p1, b1⟩; have HP1 := hidden p1; have HB1 := hidden b1; clear p1 b1)
    | (go_at_call 34; refine (HDN.out _).mono ?_; rintro e w2 ⟨rfl, HQ2⟩)
    | fail)
  have HT2 : Hid (Tw BB BB w1.heap.size w w2 S0 S0 []) := hidden (by
    have h1 := HP1.out
    have h2 := HB1.out
    have e := HBB.out
    subst e
    exact tw_new h1 h2 HQ2.out.1 HQ2.out.2)
  clear HNW HDN HP1 HB1 HQ2
  generalize w1.heap.size = D at *
  go_upto_region 6 with (first
    | (go_at_call 20; refine (HNU.out _).mono ?_; rintro e w6 ⟨rfl, e2⟩; rw [e2]; clear e2)
    | fail)
  clear HNU
  go_loopw [12] (fun i w' => ∃ k : Nat, k ≤ len ∧ i = .int .i64 k ∧ Hid (Tw BB BB D w w' (runS S0 (ss.take k)) (runS S0 (ss.take k)) [])) (fun i _ => len - (intOf i).toNat)
  case atStart => exact ⟨0, by omega, rfl, hidden (by rw [List.take_zero]; exact HT2.out)⟩
  case round =>
    obtain ⟨k, hk, rfl, HT⟩ := hrel
    by_cases hlt : k < len
    · have l1 : (k : Int) < len := by omega
      have l0 : (0 : Int) ≤ k := by omega
      have hks : k < ss.length := by have := HLN.out; omega
      have HBE : Hid (Below w.heap.size w wr) := hidden (by obtain ⟨_, _, _, _, _, h5, _⟩ := HT.out; rw [HBB.out]; exact h5)
      obtain ⟨xb, xo, ea, c0, c1, c2, c3, c4, c5⟩ := (HA.out.later HBE.out).cells k hks
      have hxk := HA.out.ok _ (List.getElem_mem hks)
      obtain ⟨i1, i2⟩ := HIV.out k (by omega)
      have HDO := hidden (does_any HT.out i1 (by omega) ss[k] hxk)
      rw [← runS_snoc S0 ss k hks] at HDO
      clear hxk i1 i2 HT2 HA HIV HFIN HBE
      generalize ss[k] = z at *
      subst ea
      go_wp2_with (first | (go_at_call 35; refine HDO.out.mono ?_; rintro e w5 ⟨rfl, HT5⟩) | fail)
      go_roundw
      case rel => exact ⟨k + 1, by omega, by first | rfl | go_num, hidden HT5.out.1⟩
      case measure => simp [intOf]; omega
    · obtain rfl : k = len := by omega
      rw [HFIN.out] at HT
      clear HA HIV HT2 HFIN
      go_wp2
      go_ret2
      exact ⟨BB, D, rfl, HT⟩
end Go.Proofs.Ytilfgbcbodjegaa
namespace Go.Proofs.Ytilfgbcbodjegaa
open Go.RowKit Go.ChangeShapes Go.WideShapes
set_option maxHeartbeats 1000000
set_option maxRecDepth 100000
set_option linter.unusedVariables false

theorem open_acts {H : Type} {enc : TypeId × Value → H} {W : World} {fuel : Nat} {a : Option Addr} {len cap : Nat} {x : DataW H × List MemPlace} (h : DataW.trod enc Try.prog W 0 (fun _ => true) true fuel 22 [.slice a len cap] = some x) :
    ∃ ss, IsActs W a len cap ss := by
  rcases Go.Deep.open_slice Try.underlying22 h with ⟨hcs, _⟩ | ⟨y, l, c, m, n, D, Pl, hcs, _, hl, hm, hmm, hx, hc⟩
  · simp only [List.cons.injEq, and_true, Value.slice.injEq] at hcs
    obtain ⟨rfl, rfl, rfl⟩ := hcs
    exact ⟨[], rfl, (fun b hb => by cases hb), fun i hi => by simp at hi⟩
  · simp only [List.cons.injEq, and_true, Value.slice.injEq] at hcs
    obtain ⟨rfl, rfl, rfl⟩ := hcs
    simp only [if_true] at hmm
    subst hmm
    haveI : Inhabited Ac := ⟨⟨0, 0, 0, 0, 0, false⟩⟩
    obtain ⟨q, hq⟩ := Go.Deep.choose_lt (α := Ac) (n := len) (p := fun i r => W.cell? (y.add (i * 6)) = some (.int .i64 r.k) ∧ W.cell? (y.add (i * 6 + 1)) = some (.int .i64 r.a) ∧ W.cell? (y.add (i * 6 + 2)) = some (.int .i64 r.b) ∧ W.cell? (y.add (i * 6 + 3)) = some (.int .i64 r.c) ∧ W.cell? (y.add (i * 6 + 4)) = some (.int .u32 r.s) ∧ W.cell? (y.add (i * 6 + 5)) = some (.bool r.near) ∧ r.ok) (fun i hi => by
      obtain ⟨cs', h1, h2⟩ := hc i (by omega)
      rw [show Try.prog.cellsOf 26 = 6 by kernel_rfl] at h1
      obtain ⟨_, hlen6, hcell⟩ := World.cells?_some h1
      obtain ⟨v0, v1, v2, v3, v4, v5, rfl⟩ := list6s hlen6
      have f0 := hcell 0 (by omega)
      have f1 := hcell 1 (by omega)
      have f2 := hcell 2 (by omega)
      have f3 := hcell 3 (by omega)
      have f4 := hcell 4 (by omega)
      have f5 := hcell 5 (by omega)
      rw [Go.Deep.add_add] at f0 f1 f2 f3 f4 f5
      obtain ⟨xs, n', _, hx', _, hlen', hfld⟩ := DataW.trod_struct Try.underlying26 h2
      obtain ⟨y0, y1, y2, y3, y4, y5, rfl⟩ := list6s (l := xs) hlen'
      have e1 : Try.prog.cellsOf 24 = 1 := by kernel_rfl
      have e2 : Try.prog.cellsOf 3 = 1 := by kernel_rfl
      have e3 : Try.prog.cellsOf 4 = 1 := by kernel_rfl
      have t0 := hfld 0 _ rfl
      have t1 := hfld 1 _ rfl
      have t2 := hfld 2 _ rfl
      have t3 := hfld 3 _ rfl
      have t4 := hfld 4 _ rfl
      have t5 := hfld 5 _ rfl
      simp [e1, e2, e3] at t0 t1 t2 t3 t4 t5
      obtain ⟨x0, q0, rfl, w0⟩ := DataW.trod_int Try.underlying3 t0
      obtain ⟨x1, q1, rfl, w1⟩ := DataW.trod_int Try.underlying3 t1
      obtain ⟨x2, q2, rfl, w2⟩ := DataW.trod_int Try.underlying3 t2
      obtain ⟨x3, q3, rfl, w3⟩ := DataW.trod_int Try.underlying3 t3
      obtain ⟨x4, q4, rfl, w4⟩ := DataW.trod_int Try.underlying24 t4
      obtain ⟨x5, q5, rfl⟩ := DataW.trod_bool Try.underlying4 t5
      simp at q0 q1 q2 q3 q4 q5
      subst q0 q1 q2 q3 q4 q5
      exact ⟨⟨x0, x1, x2, x3, x4, x5⟩, by simpa using f0, by simpa using f1, by simpa using f2, by simpa using f3, by simpa using f4, by simpa using f5, w0, w1, w2, w3, w4⟩)
    refine ⟨(List.range len).map q, by simp, fun b hb => ?_, fun i hi => ?_⟩
    · obtain ⟨i, hi, rfl⟩ := List.mem_map.1 hb
      exact (hq i (List.mem_range.1 hi)).2.2.2.2.2.2
    · have hi2 : i < len := by simpa using hi
      obtain ⟨b, off, spot⟩ := y
      obtain ⟨g0, g1, g2, g3, g4, g5, _⟩ := hq i hi2
      have hc0 := (hq 0 (by omega)).1
      have hspot : spot = none := by simpa [Addr.add] using World.cell?_spot hc0
      subst hspot
      rw [Addr.add_lit] at g0 g1 g2 g3 g4 g5
      simp only [List.getElem_map, List.getElem_range]
      exact ⟨b, off, rfl, g0, by rw [Nat.add_assoc]; exact g1, by rw [Nat.add_assoc]; exact g2, by rw [Nat.add_assoc]; exact g3, by rw [Nat.add_assoc]; exact g4, by rw [Nat.add_assoc]; exact g5⟩
end Go.Proofs.Ytilfgbcbodjegaa
namespace Go.Proofs.Ytilfgbcbodjegaa
open Go.RowKit
set_option maxHeartbeats 1000000
set_option maxRecDepth 100000
set_option linter.unusedVariables false

theorem irow_frozen {B n g c : Nat} {w : World} {zs : List Int} (h : w.ownsRow B 3 1 (.slice (some ⟨g, 0, none⟩) n c) n (intsV zs)) (j : Nat) : w.frozen? ⟨g, j, none⟩ = false := by
  rcases h.2 with ⟨h1, _⟩ | ⟨g', cap, cur, h1, h2, h3, h4, h5, h6, h7⟩
  · cases h1
  · simp only [Value.slice.injEq, Option.some.injEq, Addr.mk.injEq, and_true] at h1
    obtain ⟨rfl, _, rfl⟩ := h1
    simp [World.frozen?, h3]
theorem irow_put {B n g c : Nat} {w : World} {zs : List Int} (h : w.ownsRow B 3 1 (.slice (some ⟨g, 0, none⟩) n c) n (intsV zs)) (j : Nat) (z : Int) :
    (w.setCell ⟨g, j, none⟩ (.int .i64 z)).ownsRow B 3 1 (.slice (some ⟨g, 0, none⟩) n c) n (intsV (zs.set j z)) := by
  refine ⟨by have := h.1; simpa [intsV] using this, ?_⟩
  rcases h.2 with ⟨h1, _⟩ | ⟨g', cap, cur, h1, h2, h3, h4, h5, h6, h7⟩
  · cases h1
  · simp only [Value.slice.injEq, Option.some.injEq, Addr.mk.injEq, and_true] at h1
    obtain ⟨rfl, _, rfl⟩ := h1
    refine .inr ⟨g, c, cur.setIfInBounds j (.int .i64 z), rfl, h2, bkset h3 _ _, h4, h5, by simpa using h6, ?_⟩
    rw [Array.toList_setIfInBounds, List.take_set, h7]
    simp [intsV, List.map_set]
theorem tw_all {B m d : Nat} {w0 w : World} {s : Ps} {gs : List Nat} (r : Tw B m d w0 w s s gs) (ho : Iv s) (hl : -1 ≤ s.last ∧ s.last ≤ 90000) :
    Calls Try.prog 25 #[.pointer (some ⟨m, 0, none⟩), .pointer (some ⟨d, 0, none⟩)] w fun e w' => e = .returned (.bool true) ∧ Hid (Tw B m d w0 w' s s gs) := by
  have hr := r
  obtain ⟨v, u, h1, h2, _⟩ := hr
  exact (all_any h1 h2 ho hl).mono (fun e w' hh => ⟨hh.1, hidden (r.later hh.2.out).1⟩)
theorem tw_windows {B m d : Nat} {w0 w : World} {s t : Ps} {gs : List Nat} (r : Tw B m d w0 w s t gs) (ho : Iv s) :
    Calls Try.prog 13 #[.pointer (some ⟨m, 0, none⟩)] w fun e w' => ∃ a n c, e = .returned (.slice a n c) ∧ n ≤ 64 ∧ ∃ zs, Hid (w'.ownsRow w.heap.size 3 1 (.slice a n c) n (intsV zs) ∧ Below w.heap.size w w') := by
  obtain ⟨v, u, h1, h2, _⟩ := r
  have := ho.f63
  exact (windows_any h1 (by omega)).mono (fun e w' hh => by
    obtain ⟨a, n, c, e1, e2, e3, e4⟩ := hh
    exact ⟨a, n, c, e1, by omega, _, hidden ⟨e3, e4⟩⟩)
theorem Tw.bel {B m d : Nat} {w0 w : World} {s t : Ps} {gs : List Nat} (r : Tw B m d w0 w s t gs) : Below B w0 w := by
  obtain ⟨_, _, _, _, _, h5, _⟩ := r
  exact h5
end Go.Proofs.Ytilfgbcbodjegaa
namespace Go.Proofs.Ytilfgbcbodjegaa
open Go.RowKit
set_option maxHeartbeats 1000000
set_option maxRecDepth 100000
set_option linter.unusedVariables false

theorem wf_u8 {n : Int} (h : (Lit.int .u8 n).wf = true) : 0 ≤ n ∧ n ≤ 255 := by
  simp [Lit.wf, IntKind.min, IntKind.max, IntKind.signed, IntKind.bits] at h
  omega
theorem screen_any (a b : Int) (ha : 0 ≤ a ∧ a ≤ 255) (hb : 0 ≤ b ∧ b ≤ 255) (w : World) : Calls Try.prog 11 #[.int .u8 a, .int .u8 b] w fun e w' => e = .returned (.tuple #[.int .i64 (a % 60), .int .i64 (b % 40)]) ∧ w' = w := by
  have e1 : IntKind.i64.wrap a = a := by rw [IntKind.wrap_i64]; omega
  have e2 : IntKind.i64.wrap b = b := by rw [IntKind.wrap_i64]; omega
  have t1 : a.tmod 60 = a % 60 := Int.tmod_eq_emod_of_nonneg ha.1
  have t2 : b.tmod 40 = b % 40 := Int.tmod_eq_emod_of_nonneg hb.1
  have e3 : IntKind.i64.wrap (a % 60) = a % 60 := by rw [IntKind.wrap_i64]; omega
  have e4 : IntKind.i64.wrap (b % 40) = b % 40 := by rw [IntKind.wrap_i64]; omega
  go_enter Try.func11, Try.ntmps11
  go_wp2
  go_ret2
  try exact ⟨by first | rfl | simp, rfl⟩
theorem scr_ok (a b : Int) (ha : 0 ≤ a ∧ a ≤ 255) (hb : 0 ≤ b ∧ b ≤ 255) : scrB (a % 60) (b % 40) = true := by
  unfold scrB
  simp
  omega
theorem scr_u8 (a b : Int) (ha : 0 ≤ a ∧ a ≤ 255) (hb : 0 ≤ b ∧ b ≤ 255) : scrB a b = true := by
  unfold scrB
  simp
  omega
/-- on a screen of nought each window is nought -/
theorem rct_zero {s : Ps} (h0 : s.w = 0) (h1 : s.h = 0) : ∀ (k : Nat) (x : Int), Upk s k x → rctF s k x = ⟨0, 0, 0, 0⟩ := by
  have hz : (⟨0, 0, s.w, s.h⟩ : R4) = ⟨0, 0, 0, 0⟩ := by rw [h0, h1]
  intro k
  induction k with
  | zero => intro x _; exact hz
  | succ k ih =>
    intro x hu
    unfold rctF
    split
    · exact hz
    · rename_i hp
      rcases hu with hu | ⟨_, hw, _, hu⟩
      · exact absurd hu hp
      · rw [ih _ hu]
        have hl : lenR (ofW s.L (ofW s.L x).p) ⟨0, 0, 0, 0⟩ = 0 := by unfold lenR; split <;> rfl
        rw [hl]
        have hb := fst_bd s.L (ofW s.L (ofW s.L x).p) 0 (Int.le_refl _) hw.s0
        have hf : fstV s.L (ofW s.L (ofW s.L x).p) 0 = 0 := by omega
        rw [hf]
        unfold fstR sndR
        split <;> split <;> rfl
def rszS (s : Ps) (x y : Int) : Ps := { s with w := x, h := y }
theorem tw_res {B m d : Nat} {w0 w : World} {s t : Ps} {gs : List Nat} (r : Tw B m d w0 w s t gs) (x y : Int) (hs : scrB x y = true) :
    Calls Try.prog 31 #[.pointer (some ⟨m, 0, none⟩), .int .i64 x, .int .i64 y] w fun e w' => e = .returned (.int .i64 0) ∧ Hid (Tw B m d w0 w' (rszS s x y) t gs) := by
  have := r.kRes x y
  unfold rsE rsN at this
  rw [if_pos hs, if_pos hs] at this
  exact this.mono (fun e w' hh => ⟨hh.1, hidden hh.2.out.1⟩)
theorem tw_root {B m d : Nat} {w0 w : World} {s t : Ps} {gs : List Nat} (r : Tw B m d w0 w s t gs) :
    Calls Try.prog 27 #[.pointer (some ⟨m, 0, none⟩)] w fun e w' => e = .returned (.int .i64 s.root) ∧ w' = w := by
  obtain ⟨v, u, h1, _⟩ := r
  exact root_any h1
theorem tw_rect_root {B m d : Nat} {w0 w : World} {s t : Ps} {gs : List Nat} (r : Tw B m d w0 w s t gs) (ho : Iv s) (h0 : s.root ≠ 0) :
    Calls Try.prog 14 #[.pointer (some ⟨m, 0, none⟩), .int .i64 s.root] w fun e w' => e = .returned (.tuple #[.agg #[.int .i64 0, .int .i64 0, .int .i64 s.w, .int .i64 s.h], .bool true]) ∧ Hid (Tw B m d w0 w' s t gs) := by
  have hr := ho.rh h0
  have hp := (ho.rt _ hr).2 rfl
  have q := r
  obtain ⟨v, u, h1, _⟩ := q
  have := rect_any h1 ho.toOkL.toOkP ho.scr 64 _ hr (ho.upk64 _ hr)
  rw [show rctF s 64 s.root = ⟨0, 0, s.w, s.h⟩ by unfold rctF; rw [if_pos hp]] at this
  exact this.mono (fun e w' hh => ⟨hh.1, hidden (r.later hh.2).1⟩)
theorem tw_rect_none {B m d : Nat} {w0 w : World} {s t : Ps} {gs : List Nat} (r : Tw B m d w0 w s t gs) (ho : Iv s) (x : Int) (hx : ¬ hasW s.L x) :
    Calls Try.prog 14 #[.pointer (some ⟨m, 0, none⟩), .int .i64 x] w fun e w' => e = .returned (.tuple #[.agg #[.int .i64 0, .int .i64 0, .int .i64 0, .int .i64 0], .bool false]) ∧ Hid (Tw B m d w0 w' s t gs) := by
  have q := r
  obtain ⟨v, u, h1, _⟩ := q
  exact (rect_none h1 ho.toOkL.toOkP x (fun d hd e => hx ⟨d, hd, e⟩)).mono (fun e w' hh => ⟨hh.1, hidden (r.later hh.2).1⟩)
theorem tw_rect0 {B m d : Nat} {w0 w : World} {s t : Ps} {gs : List Nat} (r : Tw B m d w0 w s t gs) (ho : Iv s) (h0 : s.w = 0) (h1 : s.h = 0) (x : Int) :
    Calls Try.prog 14 #[.pointer (some ⟨m, 0, none⟩), .int .i64 x] w fun e w' => ∃ ok, e = .returned (.tuple #[.agg #[.int .i64 0, .int .i64 0, .int .i64 0, .int .i64 0], .bool ok]) ∧ Hid (Below w.heap.size w w') := by
  obtain ⟨v, u, q1, _⟩ := r
  by_cases hx : hasW s.L x
  · have := rect_any q1 ho.toOkL.toOkP ho.scr 64 x hx (ho.upk64 x hx)
    rw [rct_zero h0 h1 64 x (ho.upk64 x hx)] at this
    exact this.mono (fun e w' hh => ⟨true, hh.1, hidden hh.2⟩)
  · exact (rect_none q1 ho.toOkL.toOkP x (fun d hd e => hx ⟨d, hd, e⟩)).mono (fun e w' hh => ⟨false, hh.1, hidden hh.2⟩)
theorem iv_rsz {s : Ps} (h : Iv s) (x y : Int) (hs : scrB x y = true) : Iv (rszS s x y) := iv_resize h x y hs
theorem rsz_back (s : Ps) (a b c d : Int) : rszS (rszS (rszS s a b) c d) s.w s.h = s := by cases s; rfl
theorem tw_doc {B m d : Nat} {w0 w : World} {s t : Ps} {gs : List Nat} (r : Tw B m d w0 w s t gs) : ∃ va vc, w.cell? ⟨d, 0, none⟩ = some (.int .i64 t.w) ∧ w.cell? ⟨d, 1, none⟩ = some (.int .i64 t.h) ∧ w.cell? ⟨d, 2, none⟩ = some (.slice va t.L.length vc) := by
  obtain ⟨v, u, h1, h2, _⟩ := r
  obtain ⟨va, vc, hv⟩ := own_slice h2.row
  have := h2.cells
  rw [hv] at this
  exact ⟨va, vc, this.1, this.2.1, this.2.2.1⟩
end Go.Proofs.Ytilfgbcbodjegaa
namespace Go.Proofs.Ytilfgbcbodjegaa
open Go.RowKit
set_option maxHeartbeats 1000000
set_option maxRecDepth 100000
set_option linter.unusedVariables false

end Go.Proofs.Ytilfgbcbodjegaa
namespace Go.Proofs.Ytilfgbcbodjegaa
open Go.RowKit
set_option maxHeartbeats 1000000
set_option maxRecDepth 100000
set_option linter.unusedVariables false

theorem alike_any2 {B m dd : Nat} {v u : Value} {s : Ps} {w : World} (h : PAt B w m v s) (l : Int) (q : QAt B w dd u { s with last := l }) (ho : Iv s) (ho2 : Iv { s with last := l }) (x : Int) :
    Calls Try.prog 47 #[.pointer (some ⟨m, 0, none⟩), .pointer (some ⟨dd, 0, none⟩), .int .i64 x] w fun e w' => e = .returned (.bool true) ∧ Hid (Below w.heap.size w w') := by
  have hok : OkP s := ho.toOkL.toOkP
  have hn : s.L.length ≤ 1000 := by have := ho.f63; omega
  by_cases hx : hasW s.L x
  · have hb := hasB_iff.2 hx
    have hk := ho.kd x hx
    have hE : prE s x = if (ofW s.L x).k = 4 then 0 else 1 := by unfold prE; rw [hb]; rfl
    refine alike_of x (ofW s.L x) (rctF s 64 x) true (prE s x) (sibW s.L x) (by rw [hE]; split <;> omega)
      (hidden (fun w1 hb => dof_any (q.later hb) hn x))
      (hidden (fun w1 hb => (kids_any (h.later hb) hok x).mono (fun e w' hh => ⟨hh.1, hidden hh.2⟩)))
      (hidden (fun w1 hb => ?_))
      (hidden (fun w1 hb => (rect_any (h.later hb) hok ho.scr 64 x hx (ho.upk64 x hx)).mono (fun e w' hh => ⟨hh.1, hidden hh.2⟩)))
      (hidden (fun w1 hb => drect_any ho2 64 x hx (ho2.upk64 x hx) w1 (q.later hb)))
      (hidden (fun w1 hb => (kind_any (h.later hb) hok x).mono (fun e w' hh => ⟨hh.1, hidden hh.2⟩)))
      (hidden (fun w1 hb => (parent_any (h.later hb) hok x).mono (fun e w' hh => ⟨hh.1, hidden hh.2⟩)))
      (hidden (fun w1 hb => dpair_any (q.later hb) hn x))
      (hidden (fun w1 hb => (sibling_any (h.later hb) hok x).mono (fun e w' hh => ⟨hh.1, hidden hh.2⟩)))
      (hidden (fun w1 hb => dsib_any (q.later hb) hn x)) ?_
    · by_cases h4 : (ofW s.L x).k = 4
      · rw [if_pos h4] at hE
        rw [hE]
        exact arrangement_good (h.later hb) hok x hE
      · rw [if_neg h4] at hE
        obtain ⟨_, _, e1, e2, e3⟩ := ho.np x hx h4
        rw [hE, e1, e2, e3]
        exact arrangement_bad (h.later hb) hok x 1 hE (by omega)
    · by_cases hp : (ofW s.L x).p = 0
      · exact .inr (.inr ⟨by omega, hp, ho.sib0 x hp⟩)
      · exact .inl ⟨by omega, hp⟩
  · have hb : hasB s.L x = false := by
      cases e : hasB s.L x with
      | false => rfl
      | true => exact absurd (hasB_iff.1 e) hx
    have hno : ∀ d ∈ s.L, d.n ≠ x := fun d hd e => hx ⟨d, hd, e⟩
    have h0 := of_no hx
    have hE : prE s x = 5 := by unfold prE; rw [hb]; rfl
    have hp : (ofW s.L x).p = 0 := by rw [h0]; rfl
    have hsb := ho.sib0 x hp
    refine alike_of x wd0 ⟨0, 0, 0, 0⟩ false 5 0 (by omega)
      (hidden (fun w1 hb => by have := dof_any (q.later hb) hn x; rw [h0] at this; exact this))
      (hidden (fun w1 hb => by have z := kids_any (h.later hb) hok x; rw [h0] at z; exact z.mono (fun e w' hh => ⟨hh.1, hidden hh.2⟩)))
      (hidden (fun w1 hb => arrangement_bad (h.later hb) hok x 5 hE (by omega)))
      (hidden (fun w1 hb => (rect_none (h.later hb) hok x hno).mono (fun e w' hh => ⟨hh.1, hidden hh.2⟩)))
      (hidden (fun w1 h1 => drect_none (q.later h1) hn x hb))
      (hidden (fun w1 hb => by have z := kind_any (h.later hb) hok x; rw [h0] at z; exact z.mono (fun e w' hh => ⟨hh.1, hidden hh.2⟩)))
      (hidden (fun w1 hb => by have z := parent_any (h.later hb) hok x; rw [h0] at z; exact z.mono (fun e w' hh => ⟨hh.1, hidden hh.2⟩)))
      (hidden (fun w1 h1 => by have := dpair_any (q.later h1) hn x; rw [if_pos hb] at this; exact this))
      (hidden (fun w1 hb => by have z := sibling_any (h.later hb) hok x; rw [hsb] at z; exact z.mono (fun e w' hh => ⟨hh.1, hidden hh.2⟩)))
      (hidden (fun w1 hb => by have := dsib_any (q.later hb) hn x; rw [hsb] at this; exact this))
      (.inr (.inl ⟨rfl, rfl, rfl⟩))
set_option maxHeartbeats 8000000 in
theorem all_any2 {B m dd : Nat} {v u : Value} {s : Ps} {w : World} (h : PAt B w m v s) (l : Int) (q : QAt B w dd u { s with last := l }) (ho : Iv s) (ho2 : Iv { s with last := l }) (hl : -1 ≤ l ∧ l ≤ 90000) :
    Calls Try.prog 25 #[.pointer (some ⟨m, 0, none⟩), .pointer (some ⟨dd, 0, none⟩)] w fun e w' => e = .returned (.bool true) ∧ Hid (Below w.heap.size w w') := by
  have hf := ho.f63
  have HNB := hidden (numbers_any q (by show s.L.length ≤ 200; omega))
  have HWN : Hid (∀ w1, Below w.heap.size w w1 → Calls Try.prog 13 #[.pointer (some ⟨m, 0, none⟩)] w1 (WnR w1 s.L)) := hidden (fun w1 hb => windows_any (h.later hb) (by omega))
  have HRT : Hid (∀ w1, Below w.heap.size w w1 → Calls Try.prog 27 #[.pointer (some ⟨m, 0, none⟩)] w1 fun e w' => e = .returned (.int .i64 s.root) ∧ w' = w1) := hidden (fun w1 hb => root_any (h.later hb))
  have HDT : Hid (∀ w1, Below w.heap.size w w1 → Calls Try.prog 46 #[.pointer (some ⟨dd, 0, none⟩)] w1 fun e w' => e = .returned (.int .i64 s.root) ∧ w' = w1) := hidden (fun w1 hb => by
    have := droot_any (q.later hb) (by show s.L.length ≤ 1000; omega)
    rw [show rootF ({ s with last := l } : Ps).L = s.root from ho.rootF] at this
    exact this)
  have HAL : Hid (∀ w1, Below w.heap.size w w1 → ∀ x, Calls Try.prog 47 #[.pointer (some ⟨m, 0, none⟩), .pointer (some ⟨dd, 0, none⟩), .int .i64 x] w1 fun e w' => e = .returned (.bool true) ∧ Hid (Below w.heap.size w w' ∧ Below w1.heap.size w1 w')) := hidden (fun w1 hb x => (alike_any2 (h.later hb) l (q.later hb) ho ho2 x).mono (fun e w' hh => ⟨hh.1, hidden ⟨hb.trans (hh.2.out.mono hb.size), hh.2.out⟩⟩))
  have HLC : Hid (∀ w1, Below w.heap.size w w1 → w1.cell? ⟨dd, 3, none⟩ = some (.int .i64 l)) := hidden (fun w1 hb => (q.later hb).cells.2.2.2.1)
  have hw1 : IntKind.i64.wrap (l + 1) = l + 1 := by rw [IntKind.wrap_i64]; omega
  have HLEN : Hid ((nsL s.L).length = s.L.length) := hidden (by simp [nsL])
  clear h q ho ho2 hl
  generalize l = LA at *
  generalize s.root = RT at *
  go_enter Try.func25, Try.ntmps25
  go_upto_region 2 with (first | (go_at_call 45; refine HNB.out.mono ?_; rintro e w1 ⟨a1, n1, c1, rfl, hn1, o1, b1⟩; have HN1 := hidden hn1; have HO1 := hidden o1; have HB1 := hidden b1; clear o1 b1 hn1) | fail)
  go_upto_region 5 with (first
    | (go_at_call 13; refine (HWN.out _ HB1.out).mono ?_; rintro e w2 ⟨a2, n2, c2, rfl, hn2, o2, b2⟩; obtain rfl : n2 = n1 := hn2.trans HN1.out.symm; have HSM := hidden (same_eq o2 (own_later HO1.out b2) (by omega)); have HO2 := hidden (own_later HO1.out b2); have HB2 := hidden (HB1.out.trans (b2.mono HB1.out.size)); clear o2 b2 hn2)
    | (go_at_call 24; refine HSM.out.mono ?_; rintro e w3 ⟨rfl, HQ3⟩; have HO3 := hidden (own_later HO2.out HQ3.out); have HB3 := hidden (HB2.out.trans (HQ3.out.mono HB2.out.size)))
    | (go_at_call 27; refine (HRT.out _ HB3.out).mono ?_; rintro e w4 ⟨rfl, e4⟩; rw [e4]; clear e4)
    | (go_at_call 46; refine (HDT.out _ HB3.out).mono ?_; rintro e w4 ⟨rfl, e4⟩; rw [e4]; clear e4)
    | fail)
  have hnk : n2 ≤ 64 := by have := HN1.out; omega
  clear HNB HWN HRT HDT HSM HO1 HO2 HB1 HB2 HQ3
  go_loopw [6] (fun i w' => ∃ k : Nat, k ≤ n2 ∧ i = .int .i64 k ∧ Hid (Below w.heap.size w w' ∧ w'.ownsRow w.heap.size 3 1 (.slice a1 n2 c1) n2 (intsV (nsL s.L)))) (fun i _ => n2 - (intOf i).toNat)
  case atStart => exact ⟨0, by omega, rfl, hidden ⟨HB3.out, HO3.out⟩⟩
  case round =>
    obtain ⟨k, hk, rfl, HR⟩ := hrel
    by_cases hlt : k < n2
    · have l1 : (k : Int) < n2 := by omega
      have l0 : (0 : Int) ≤ k := by omega
      obtain ⟨g, c, hsl, hcell, _⟩ := irow_cell HR.out.2 k (by have := HLEN.out; have := HN1.out; omega)
      simp only [Value.slice.injEq] at hsl
      obtain ⟨rfl, _, rfl⟩ := hsl
      generalize (nsL s.L)[k] = z at *
      have HAK := hidden (HAL.out _ HR.out.1 z)
      clear HO3 HB3 HAL HLC
      go_wp2_with (first | (go_at_call 47; refine HAK.out.mono ?_; rintro e w5 ⟨rfl, HB5⟩) | fail)
      go_roundw
      case rel => exact ⟨k + 1, by omega, by first | rfl | go_num, hidden ⟨HB5.out.1, own_later HR.out.2 HB5.out.2⟩⟩
      case measure => simp [intOf]; omega
    · obtain rfl : k = n2 := by omega
      clear HO3 HB3
      go_wp2_with (first | (go_at_call 47; refine (HAL.out _ (by first | exact HB5.out.1 | exact HR.out.1) _).mono ?_; rintro e w5 ⟨rfl, HB5⟩; have l3 := HLC.out _ HB5.out.1) | fail)
      go_ret
      exact ⟨by first | rfl | simp, hidden HB5.out.1⟩
end Go.Proofs.Ytilfgbcbodjegaa
namespace Go.Proofs.Ytilfgbcbodjegaa
open Go.RowKit
set_option maxHeartbeats 1000000
set_option maxRecDepth 100000
set_option linter.unusedVariables false

theorem Iv.leaf_bel {s : Ps} (h : Iv s) {x : Int} (hx : hasW s.L x) (hk : (ofW s.L x).k ≠ 4) : ∀ y, y ≠ x → belB s x y = false := by
  obtain ⟨r, hr⟩ := h.rk
  have key : ∀ (n : Nat) (y : Int), r y < n → y ≠ x → belB s x y = false := by
    intro n
    induction n with
    | zero => intro y hy; omega
    | succ n ih =>
      intro y hy hne
      rw [h.bel_step]
      split
      · rfl
      · by_cases hw : hasW s.L y
        · by_cases hp : (ofW s.L y).p = 0
          · rw [hp, h.bel_step, if_pos rfl]
          · have h4 := (h.par y hw hp).2.1
            refine ih _ (by have := hr y hw hp; omega) (fun e => ?_)
            rw [e] at h4
            exact hk h4
        · rw [of_no hw]
          show belB s x 0 = false
          rw [h.bel_step, if_pos rfl]
  intro y hne
  exact key (r y + 1) y (by omega) hne
theorem back_one {s : Ps} (h : Iv s) {split : Int} (hx : hasW s.L split) {d : Wd} (hd : d ∈ s.L) :
    turnF (ofW s.L split).p (s.last + 2) split (opnF split (s.last + 2) (ofW s.L split).p d) = d := by
  have hpos := h.pos d hd
  have hself := of_self h.so hd
  have htop := h.top d hd
  have hp0 := h.l0
  have hkid : d.a ≠ s.last + 2 ∧ d.b ≠ s.last + 2 := by
    have hw := has_mem hd
    by_cases h4 : d.k = 4
    · have := h.kid d.n hw (by rw [hself]; exact h4)
      rw [hself] at this
      have t1 := h.top' this.1
      have t2 := h.top' this.2.1
      exact ⟨by omega, by omega⟩
    · have := h.np d.n hw (by rw [hself]; exact h4)
      rw [hself] at this
      exact ⟨by omega, by omega⟩
  by_cases e : d.n = split
  · have hne : d.n ≠ (ofW s.L split).p := by
      by_cases h0 : (ofW s.L split).p = 0
      · omega
      · have := rank_up h split hx h0
        omega
    have hpp : (ofW s.L split).p = d.p := by rw [← e, hself]
    unfold opnF
    rw [if_pos e]
    unfold turnF parF
    simp only [e, if_true]
    rw [if_neg (fun q => hne (e.trans q.1)), if_neg (fun q => hne (e.trans q.1))]
    rw [hpp, ← e]
  · by_cases e2 : (ofW s.L split).p ≠ 0 ∧ d.n = (ofW s.L split).p
    · have hk := h.par split hx e2.1
      rw [← e2.2, hself] at hk
      have hkk := h.kid d.n (has_mem hd) (by rw [hself]; exact hk.2.1)
      rw [hself] at hkk
      unfold opnF
      rw [if_neg e, if_pos e2]
      unfold kidF
      by_cases ea : d.a = split
      · rw [if_pos ea]
        unfold turnF
        simp only [← e2.2, true_and, if_true, not_true, false_and, if_false]
        rw [if_neg e, ← ea]
      · have eb : d.b = split := hk.2.2.resolve_left ea
        rw [if_neg ea, if_pos eb]
        unfold turnF
        simp only [← e2.2, true_and]
        rw [if_neg e, if_neg hkid.1, if_pos ⟨hkid.1, trivial⟩, ← eb]
    · have hne : ¬ d.n = (ofW s.L split).p := fun q => e2 ⟨by omega, q⟩
      unfold opnF
      rw [if_neg e, if_neg e2]
      unfold turnF
      rw [if_neg e, if_neg (fun q => hne q.1), if_neg (fun q => hne q.1)]
/-- a window that was opened, closed again: all is as it was but the last number -/
theorem cls_opn {s : Ps} (h : Iv s) {split m sz k : Int} (hx : hasW s.L split) (hk : k ≠ 4) (hv : Iv (opnS s split m sz k)) : clsS (opnS s split m sz k) (s.last + 1) = { s with last := s.last + 2 } ∧ numsF (gnB (opnS s split m sz k) (s.last + 1)) (opnS s split m sz k).L = [s.last + 1, s.last + 2] := by
  have v := opn_v h split m sz k hx
  have hl0 := h.l0
  have hw1 : hasW (opnS s split m sz k).L (s.last + 1) := (v.has _).2 (.inr (.inl rfl))
  have f1 : ofW (opnS s split m sz k).L (s.last + 1) = opnW s k := v.new
  have f2 : ofW (opnS s split m sz k).L (s.last + 2) = opnP s split m sz := v.pair
  have hp1 : (ofW (opnS s split m sz k).L (s.last + 1)).p = s.last + 2 := by rw [f1]; rfl
  have hlf := hv.leaf_bel hw1 (by rw [f1]; exact hk)
  have hst := h.top' hx
  have gn : ∀ y, y ≤ s.last → gnB (opnS s split m sz k) (s.last + 1) y = false := fun y hy => by
    unfold gnB
    rw [hlf y (by omega), hp1]
    simp
    omega
  have g1 : gnB (opnS s split m sz k) (s.last + 1) (s.last + 1) = true := by
    unfold gnB
    rw [hv.bel_self hw1]; rfl
  have g2 : gnB (opnS s split m sz k) (s.last + 1) (s.last + 2) = true := by
    unfold gnB
    rw [hp1]
    simp
    right; omega
  have hsib : sibW (opnS s split m sz k).L (s.last + 1) = split := by
    unfold sibW
    rw [hp1, f2]
    unfold opnP
    simp only
    by_cases hm : m % 2 = 0
    · rw [if_pos hm, if_pos hm, if_pos rfl]
    · rw [if_neg hm, if_neg hm, if_neg (by omega)]
  have hT : clsT (opnS s split m sz k) (s.last + 1) = s.L ++ [turnF (ofW s.L split).p (s.last + 2) split (opnW s k), turnF (ofW s.L split).p (s.last + 2) split (opnP s split m sz)] := by
    unfold clsT
    rw [if_neg (by rw [hp1]; omega), hp1, hsib, f2]
    show (opnL s split m sz k).map (turnF (ofW s.L split).p (s.last + 2) split) = _
    unfold opnL
    rw [List.map_append, List.map_map]
    congr 1
    conv => rhs; rw [← List.map_id s.L]
    exact List.map_congr_left (fun d hd => back_one h hx hd)
  refine ⟨?_, ?_⟩
  · unfold clsS clsL
    rw [hT, if_neg (by rw [hp1]; omega), hp1, f2, hsib]
    have hF : ((s.L ++ [turnF (ofW s.L split).p (s.last + 2) split (opnW s k), turnF (ofW s.L split).p (s.last + 2) split (opnP s split m sz)]).filter (fun d => !gnB (opnS s split m sz k) (s.last + 1) d.n)).map (keyG (gnB (opnS s split m sz k) (s.last + 1))) = s.L := by
      rw [List.filter_append]
      have a1 : s.L.filter (fun d => !gnB (opnS s split m sz k) (s.last + 1) d.n) = s.L := List.filter_eq_self.2 (fun d hd => by rw [gn d.n (h.top d hd)]; rfl)
      have a2 : [turnF (ofW s.L split).p (s.last + 2) split (opnW s k), turnF (ofW s.L split).p (s.last + 2) split (opnP s split m sz)].filter (fun d => !gnB (opnS s split m sz k) (s.last + 1) d.n) = [] := by
        rw [List.filter_eq_nil_iff]
        intro d hd
        rcases List.mem_cons.1 hd with rfl | hd
        · rw [turnF_n]; show ¬ (!gnB _ _ (s.last + 1)) = true; rw [g1]; simp
        · rcases List.mem_cons.1 hd with rfl | hd
          · rw [turnF_n]; show ¬ (!gnB _ _ (s.last + 2)) = true; rw [g2]; simp
          · cases hd
      rw [a1, a2, List.append_nil]
      conv => rhs; rw [← List.map_id s.L]
      refine List.map_congr_left (fun d hd => ?_)
      unfold keyG
      have hself := of_self h.so hd
      have : d.key ≤ s.last := by
        rcases h.ky d.n (has_mem hd) with q | q
        · rw [hself] at q; omega
        · rw [hself] at q; exact h.top' q
      rw [gn _ this]
      rfl
    rw [hF]
    have hroot : (if (opnP s split m sz).p = 0 then split else (opnS s split m sz k).root) = s.root := by
      show (if (ofW s.L split).p = 0 then split else if (ofW s.L split).p = 0 then s.last + 2 else s.root) = s.root
      by_cases q : (ofW s.L split).p = 0
      · rw [if_pos q]; exact (h.rt split hx).1 q
      · rw [if_neg q, if_neg q]
    rw [hroot]
    rfl
  · refine rise_same _ _ (numsF_rise hv.so _) (by simp) (fun y => ?_)
    rw [numsF_mem, show (opnS s split m sz k).L = opnL s split m sz k from rfl, v.has]
    simp only [List.mem_cons, List.not_mem_nil, or_false]
    constructor
    · rintro ⟨q | q, hg⟩
      · rw [gn y (h.top' q)] at hg; cases hg
      · exact q
    · rintro (rfl | rfl)
      · exact ⟨.inr (.inl rfl), g1⟩
      · exact ⟨.inr (.inr rfl), g2⟩
end Go.Proofs.Ytilfgbcbodjegaa
namespace Go.Proofs.Ytilfgbcbodjegaa
open Go.RowKit
set_option maxHeartbeats 1000000
set_option maxRecDepth 100000
set_option linter.unusedVariables false

theorem own_lit2 (w : World) (a b : Int) : (w.alloc (.cells #[.int .i64 a, .int .i64 b] 3)).ownsRow w.heap.size 3 1 (.slice (some ⟨w.heap.size, 0, none⟩) 2 2) 2 (intsV [a, b]) := by
  refine ⟨rfl, .inr ⟨w.heap.size, 2, #[.int .i64 a, .int .i64 b], rfl, Nat.le_refl _, heap_alloc_new w _, Nat.le_refl _, by unfold maxLen; omega, rfl, rfl⟩⟩
theorem own_lit1 (w : World) (a : Int) : (w.alloc (.cells #[.int .i64 a] 3)).ownsRow w.heap.size 3 1 (.slice (some ⟨w.heap.size, 0, none⟩) 1 1) 1 (intsV [a]) := by
  refine ⟨rfl, .inr ⟨w.heap.size, 1, #[.int .i64 a], rfl, Nat.le_refl _, heap_alloc_new w _, Nat.le_refl _, by unfold maxLen; omega, rfl, rfl⟩⟩
theorem tw_kind {B m d : Nat} {w0 w : World} {s t : Ps} {gs : List Nat} (r : Tw B m d w0 w s t gs) (ho : Iv s) (x : Int) :
    Calls Try.prog 15 #[.pointer (some ⟨m, 0, none⟩), .int .i64 x] w fun e w' => e = .returned (.int .i64 (ofW s.L x).k) ∧ Hid (Tw B m d w0 w' s t gs ∧ Kept w w' gs) := by
  have q := r
  obtain ⟨v, u, h1, _⟩ := q
  exact (kind_any h1 ho.toOkL.toOkP x).mono (fun e w' hh => ⟨hh.1, hidden (r.later hh.2)⟩)
theorem tw_last {B m d : Nat} {w0 w : World} {s t : Ps} {gs : List Nat} (r : Tw B m d w0 w s t gs) (l : Int) : Tw B m d w0 (w.setCell ⟨d, 3, none⟩ (.int .i64 l)) s { t with last := l } gs := by
  obtain ⟨v, u, h1, h2, h4, h5, h6, hg⟩ := r
  exact (Tw.nextQ h1 h2 h4 h5 h6 hg (h2.set3 l).1 (h2.set3 l).2).1
theorem tw_all2 {B m d : Nat} {w0 w : World} {s : Ps} {gs : List Nat} (l : Int) (r : Tw B m d w0 w s { s with last := l } gs) (ho : Iv s) (ho2 : Iv { s with last := l }) (hl : -1 ≤ l ∧ l ≤ 90000) :
    Calls Try.prog 25 #[.pointer (some ⟨m, 0, none⟩), .pointer (some ⟨d, 0, none⟩)] w fun e w' => e = .returned (.bool true) ∧ Hid (Tw B m d w0 w' s { s with last := l } gs) := by
  have hr := r
  obtain ⟨v, u, h1, h2, _⟩ := hr
  exact (all_any2 h1 l h2 ho ho2 hl).mono (fun e w' hh => ⟨hh.1, hidden (r.later hh.2.out).1⟩)
theorem iv_last {s : Ps} (h : Iv s) (l : Int) (h0 : s.last ≤ l) (h1 : l ≤ 100000) : Iv { s with last := l } := by
  have hl := h.l0
  exact ⟨⟨⟨h.so, h.few, h.pos⟩, by show (0 : Int) ≤ l; omega, h1, fun d hd => by have := h.top d hd; show d.n ≤ l; omega⟩, h.f63, h.scr, h.kd, h.np, h.pw, h.ky, h.par, h.kid, h.rt0, h.rt, h.rh, h.rk⟩
/-- the first window, closed again -/
theorem cls_first {s : Ps} (h : Iv s) (hL : s.L.length = 0) (mt sz k : Int) (hv : Iv (openS s 0 mt sz k)) : clsS (openS s 0 mt sz k) (s.last + 1) = { s with last := s.last + 1 } ∧ numsF (gnB (openS s 0 mt sz k) (s.last + 1)) (openS s 0 mt sz k).L = [s.last + 1] := by
  have hl0 := h.l0
  have hnil : s.L = [] := List.eq_nil_of_length_eq_zero hL
  have hr0 := h.rt0.2 hL
  have hO : openS s 0 mt sz k = { s with root := s.last + 1, last := s.last + 1, L := [⟨s.last + 1, k, 0, 0, 0, 0, 0, 0⟩] } := by
    unfold openS addS
    rw [if_pos rfl, hnil]; rfl
  have hw : hasW (openS s 0 mt sz k).L (s.last + 1) := by rw [hO]; exact ⟨_, List.mem_cons_self, rfl⟩
  have hp : (ofW (openS s 0 mt sz k).L (s.last + 1)).p = 0 := (hv.rt _ hw).2 (by rw [hO])
  have hs := iv_cls_root hv hw hp
  have hg := hv.gn_all hw hp
  refine ⟨?_, ?_⟩
  · have hL2 := hs.2
    have hr : (clsS (openS s 0 mt sz k) (s.last + 1)).root = 0 := by unfold clsS; rw [if_pos hp]
    have e1 : (clsS (openS s 0 mt sz k) (s.last + 1)).w = s.w := by rw [hO]; rfl
    have e2 : (clsS (openS s 0 mt sz k) (s.last + 1)).h = s.h := by rw [hO]; rfl
    have e3 : (clsS (openS s 0 mt sz k) (s.last + 1)).last = s.last + 1 := by rw [hO]; rfl
    generalize clsS (openS s 0 mt sz k) (s.last + 1) = S at *
    obtain ⟨sw, sh, sr, sl, sL⟩ := S
    obtain ⟨tw, th, tr, tl, tL⟩ := s
    simp only at hL2 hr e1 e2 e3 hnil hr0
    subst hL2 hr e1 e2 e3 hnil hr0
    rfl
  · refine rise_same _ _ (numsF_rise hv.so _) (by simp) (fun y => ?_)
    rw [numsF_mem]
    constructor
    · rintro ⟨q, _⟩
      rw [hO] at q
      obtain ⟨d, hd, e⟩ := q
      rcases List.mem_cons.1 hd with rfl | hd
      · rw [← e]; exact List.mem_cons_self
      · cases hd
    · intro q
      rcases List.mem_cons.1 q with rfl | q
      · exact ⟨hw, hg _ hw⟩
      · cases q
end Go.Proofs.Ytilfgbcbodjegaa
namespace Go.Proofs.Ytilfgbcbodjegaa
open Go.RowKit
set_option maxHeartbeats 1000000
set_option maxRecDepth 100000
set_option linter.unusedVariables false

theorem opn_case {s : Ps} (ho : Iv s) (hl : s.last ≤ 80000) (sp mt sz k : Int) (hs : 0 ≤ sz ∧ sz ≤ 4294967295) (hE : mayE s sp mt k = 0) :
    opX s sp mt k = s.last + 1 ∧ Iv (opN s sp mt sz k) ∧ (ofW (opN s sp mt sz k).L (s.last + 1)).k = k ∧ clE (opN s sp mt sz k) (s.last + 1) = 0 ∧ ∃ lw, s.last ≤ lw ∧ lw ≤ s.last + 2 ∧ clN (opN s sp mt sz k) (s.last + 1) = { s with last := lw } ∧ clZ (opN s sp mt sz k) (s.last + 1) = (if sp = 0 then [s.last + 1] else [s.last + 1, s.last + 2]) := by
  have hv := (iv_opN ho hl sp mt sz k hs).1
  obtain ⟨hk, h2, h3⟩ := may_root ho hE
  have hX : opX s sp mt k = s.last + 1 := by unfold opX; rw [if_neg (fun q => q hE)]
  by_cases h0 : sp = 0
  · have hN : opN s sp mt sz k = openS s 0 mt sz k := by unfold opN; rw [if_neg (fun q => q hE), if_pos h0]
    rw [hN] at hv ⊢
    have hL := h2 h0
    have hnil : s.L = [] := List.eq_nil_of_length_eq_zero hL
    have hO : (openS s 0 mt sz k).L = [⟨s.last + 1, k, 0, 0, 0, 0, 0, 0⟩] := by
      unfold openS addS
      rw [if_pos rfl, hnil]; rfl
    have hw : hasW (openS s 0 mt sz k).L (s.last + 1) := by rw [hO]; exact ⟨_, List.mem_cons_self, rfl⟩
    have hb := hasB_iff.2 hw
    obtain ⟨c1, c2⟩ := cls_first ho hL mt sz k hv
    refine ⟨hX, hv, ?_, by unfold clE; rw [if_pos hb], s.last + 1, by omega, by omega, by unfold clN; rw [if_pos hb]; exact c1, by unfold clZ; rw [if_pos hb, if_pos h0]; exact c2⟩
    obtain ⟨m1, m2⟩ := of_mem hw
    rw [hO] at m1 ⊢
    rcases List.mem_cons.1 m1 with e | e
    · rw [e]
    · cases e
  · have hN : opN s sp mt sz k = opnS s sp mt sz k := by unfold opN; rw [if_neg (fun q => q hE), if_neg h0]
    rw [hN] at hv ⊢
    obtain ⟨q1, q2, q3⟩ := h3 h0
    have v := opn_v ho sp mt sz k q1
    have hw : hasW (opnS s sp mt sz k).L (s.last + 1) := (v.has _).2 (.inr (.inl rfl))
    have hb := hasB_iff.2 hw
    obtain ⟨c1, c2⟩ := cls_opn ho q1 (by omega) hv
    have f1 : ofW (opnS s sp mt sz k).L (s.last + 1) = opnW s k := v.new
    exact ⟨hX, hv, by rw [f1]; rfl, by unfold clE; rw [if_pos hb], s.last + 2, by omega, by omega, by unfold clN; rw [if_pos hb]; exact c1, by unfold clZ; rw [if_pos hb, if_neg h0]; exact c2⟩
end Go.Proofs.Ytilfgbcbodjegaa
namespace Go.Proofs.Ytilfgbcbodjegaa
open Go.RowKit
set_option maxHeartbeats 1000000
set_option maxRecDepth 100000
set_option linter.unusedVariables false

theorem turnF_k (a b c : Int) (d : Wd) : (turnF a b c d).k = d.k := rfl
/-- gone windows have no kind, the others keep theirs -/
theorem cls_kind {s : Ps} (h : Iv s) (x : Int) {y : Int} (hy : hasW s.L y) : (gnB s x y = true → (ofW (clsS s x).L y).k = 0) ∧ (gnB s x y = false → ((ofW (clsS s x).L y).k == 0) = false) := by
  have hv := cls_v h x
  constructor
  · intro hg
    have hn : ¬ hasW (clsL s x) y := fun q => by
      have := (hv.has y).1 q
      rw [hg] at this
      exact absurd this.2 (by simp)
    show (ofW (clsL s x) y).k = 0
    rw [of_no hn]
    rfl
  · intro hg
    show ((ofW (clsL s x) y).k == 0) = false
    rw [beq_eq_false_iff_ne, hv.old y hy hg, (keyG_rest _ _).1]
    have := (h.kd y hy).1
    split
    · omega
    · rw [turnF_k]; omega
theorem cls_len {s : Ps} (h : Iv s) (x : Int) : (clsS s x).L.length + (numsF (gnB s x) s.L).length = s.L.length := by
  show (clsL s x).length + _ = _
  unfold clsL numsF
  rw [List.length_map, List.length_map]
  have e : (clsT s x).length = s.L.length := by unfold clsT; split <;> simp
  have hf : ((clsT s x).filter (fun d => !gnB s x d.n)).length = (s.L.filter (fun d => !gnB s x d.n)).length := by
    unfold clsT
    split
    · rfl
    · rw [List.filter_map, List.length_map]
      congr 1
  rw [hf]
  generalize gnB s x = g
  generalize s.L = L
  induction L with
  | nil => rfl
  | cons d L ih =>
    rw [List.filter_cons, List.filter_cons]
    cases hg : g d.n
    · simp only [Bool.not_false, if_true, List.length_cons, Bool.false_eq_true, if_false]
      omega
    · simp only [Bool.not_true, if_true, List.length_cons, Bool.false_eq_true, if_false]
      omega
/-- the windows' numbers, those gone among them, one by one -/
theorem gone_at {L : List Wd} (hs : Sorted L) (p : Int → Bool) (i : Nat) (hi : i < L.length) :
    (p L[i].n = true → (numsF p (L.take i)).length < (numsF p L).length ∧ (numsF p L).getD (numsF p (L.take i)).length 0 = L[i].n ∧ (numsF p (L.take (i + 1))).length = (numsF p (L.take i)).length + 1) ∧
    (p L[i].n = false → (numsF p (L.take (i + 1))).length = (numsF p (L.take i)).length ∧ ∀ h : (numsF p (L.take i)).length < (numsF p L).length, (numsF p L).getD (numsF p (L.take i)).length 0 ≠ L[i].n) := by
  have hsn := numsF_snoc p L i hi
  have hsplit : numsF p L = numsF p (L.take i) ++ numsF p (L.drop i) := by
    unfold numsF
    rw [← List.map_append, ← List.filter_append, List.take_append_drop]
  have hd : L.drop i = L[i] :: L.drop (i + 1) := by rw [← List.getElem_cons_drop hi]
  constructor
  · intro hp
    rw [if_pos hp] at hsn
    have hc : numsF p (L.drop i) = L[i].n :: numsF p (L.drop (i + 1)) := by
      rw [hd]
      unfold numsF
      rw [List.filter_cons, if_pos hp]
      rfl
    rw [hsn, hsplit, hc]
    simp
  · intro hp
    rw [if_neg (by rw [hp]; decide)] at hsn
    refine ⟨by rw [hsn], fun hlt e => ?_⟩
    have hc : numsF p (L.drop i) = numsF p (L.drop (i + 1)) := by
      rw [hd]
      unfold numsF
      rw [List.filter_cons, if_neg (by rw [hp]; decide)]
    rw [hsplit, hc] at e hlt
    have h0 : 0 < (numsF p (L.drop (i + 1))).length := by
      rw [List.length_append] at hlt
      omega
    have e2 : (numsF p (L.take i) ++ numsF p (L.drop (i + 1))).getD (numsF p (L.take i)).length 0 = (numsF p (L.drop (i + 1)))[0] := by
      simp [List.getD_eq_getElem?_getD, h0]
    rw [e2] at e
    have hm : L[i].n ∈ numsF p (L.drop (i + 1)) := by rw [← e]; exact List.getElem_mem _
    obtain ⟨d, hd2, he⟩ := List.mem_map.1 hm
    obtain ⟨j, hj, rfl⟩ := List.getElem_of_mem (List.mem_filter.1 hd2).1
    rw [List.getElem_drop] at he
    have hpw := sorted_pw.1 hs
    have := List.pairwise_iff_getElem.1 hpw i (i + 1 + j) hi (by simp at hj; omega) (by omega)
    omega
end Go.Proofs.Ytilfgbcbodjegaa
namespace Go.Proofs.Ytilfgbcbodjegaa
open Go.RowKit
set_option maxHeartbeats 1000000
set_option maxRecDepth 100000
set_option linter.unusedVariables false

theorem near_has {s : Ps} (n : Int) (h : nearW s.L n ≠ 0) : hasW s.L (nearW s.L n) := by
  unfold nearW at h ⊢
  by_cases h0 : s.L.length = 0
  · rw [if_pos h0] at h; exact absurd rfl h
  · rw [if_neg h0]
    have hk : (n % (s.L.length : Int)).toNat < s.L.length := by
      have h1 := Int.emod_nonneg n (show (s.L.length : Int) ≠ 0 by omega)
      have h2 := Int.emod_lt_of_pos n (show (0 : Int) < s.L.length by omega)
      omega
    have e : s.L.getD (n % (s.L.length : Int)).toNat wd0 = s.L[(n % (s.L.length : Int)).toNat] := by simp [List.getD_eq_getElem?_getD, hk]
    rw [e]
    exact has_mem (List.getElem_mem hk)
theorem tw_wins {B m d : Nat} {w0 w : World} {s t : Ps} {gs : List Nat} (r : Tw B m d w0 w s t gs) (ho : Iv s) :
    Calls Try.prog 13 #[.pointer (some ⟨m, 0, none⟩)] w fun e w' => ∃ a c, e = .returned (.slice a s.L.length c) ∧ Hid (w'.ownsRow w.heap.size 3 1 (.slice a s.L.length c) s.L.length (intsV (nsL s.L)) ∧ Below w.heap.size w w') := by
  obtain ⟨v, u, h1, h2, _⟩ := r
  have := ho.f63
  refine (windows_any h1 (by omega)).mono ?_
  rintro e w' ⟨a, n, c, rfl, rfl, h3, h4⟩
  exact ⟨a, c, rfl, hidden ⟨h3, h4⟩⟩
theorem tw_below {B m d : Nat} {w0 w : World} {s t : Ps} {gs : List Nat} (r : Tw B m d w0 w s t gs) (ho : Iv t) (y x : Int) :
    Calls Try.prog 22 #[.pointer (some ⟨d, 0, none⟩), .int .i64 y, .int .i64 x] w fun e w' => e = .returned (.bool (belB t x y)) ∧ Hid (Below w.heap.size w w') := by
  obtain ⟨v, u, h1, h2, _⟩ := r
  exact dbelow_any h2 (by have := ho.f63; omega) y x
theorem tw_of {B m d : Nat} {w0 w : World} {s t : Ps} {gs : List Nat} (r : Tw B m d w0 w s t gs) (ho : Iv t) (x : Int) :
    Calls Try.prog 32 #[.pointer (some ⟨d, 0, none⟩), .int .i64 x] w fun e w' => e = .returned (wdA (ofW t.L x)) ∧ Hid (Below w.heap.size w w') := by
  obtain ⟨v, u, h1, h2, _⟩ := r
  exact dof_any h2 (by have := ho.f63; omega) x
theorem tw_knd {B m d : Nat} {w0 w : World} {s t : Ps} {gs : List Nat} (r : Tw B m d w0 w s t gs) (ho : Iv s) (x : Int) :
    Calls Try.prog 15 #[.pointer (some ⟨m, 0, none⟩), .int .i64 x] w fun e w' => e = .returned (.int .i64 (ofW s.L x).k) ∧ Hid (Below w.heap.size w w') := by
  obtain ⟨v, u, h1, h2, _⟩ := r
  exact (kind_any h1 ho.toOkL.toOkP x).mono (fun e w' hh => ⟨hh.1, hidden hh.2⟩)
theorem tw_arrt {B m d : Nat} {w0 w : World} {s t : Ps} {gs : List Nat} (r : Tw B m d w0 w s t gs) (ho : Iv s) (x : Int) :
    (prE s x ≠ 0 → Calls Try.prog 28 #[.pointer (some ⟨m, 0, none⟩), .int .i64 x] w fun e w' => e = .returned (.tuple #[.int .i64 0, .int .u32 0, .int .i64 0, .int .i64 (prE s x)]) ∧ Hid (Below w.heap.size w w')) ∧
    (prE s x = 0 → Calls Try.prog 28 #[.pointer (some ⟨m, 0, none⟩), .int .i64 x] w fun e w' => e = .returned (.tuple #[.int .i64 (ofW s.L x).m, .int .u32 (ofW s.L x).s, .int .i64 (ofW s.L x).key, .int .i64 0]) ∧ Hid (Below w.heap.size w w')) := by
  obtain ⟨v, u, h1, h2, _⟩ := r
  exact ⟨fun h => arrangement_bad h1 ho.toOkL.toOkP x _ rfl h, fun h => arrangement_good h1 ho.toOkL.toOkP x h⟩
end Go.Proofs.Ytilfgbcbodjegaa
namespace Go.Proofs.Ytilfgbcbodjegaa
open Go.RowKit
set_option maxHeartbeats 1000000
set_option maxRecDepth 100000
set_option linter.unusedVariables false

theorem step_cpD {w : World} {ops : Array Oper} {o : Oper} {a : Act} {K : Act → World → Prop} {Q : Exit → Act → World → Prop} {E : Prop} (hgd : o.guard = none) (s x : Operand)
    (ho : o.op = .call { callee := .builtin .append, args := #[s, x], argTypes := #[44, 44] })
    (B B2 g n vc : Nat) (va : Option Addr) (L : List Wd) (hs : a.eval s = .slice (some ⟨g, 0, none⟩) 0 0) (hx : a.eval x = .slice va n vc) (hown : w.ownsRow B 66 8 (.slice (some ⟨g, 0, none⟩) 0 0) 0 [])
    (hsrc : w.ownsRow B2 66 8 (.slice va n vc) n (wdsV L)) (hn : n ≤ 1000) (hB : B ≤ w.heap.size)
    (h : ∀ a' c' w', w'.ownsRow B 66 8 (.slice a' n c') n (wdsV L) → Hid (Below B w w') → K (a.put o.dst (.slice a' n c')) w') :
    if Region.wanted o (yielded ops a.tmps) = true then Oper.wp Try.prog o a w K Q else E := by
  have hw : Region.wanted o (yielded ops a.tmps) = true := by simp [Region.wanted, hgd]
  rw [if_pos hw]
  obtain ⟨i0, hi, hz0, hz1, hz2⟩ := dwd_parts
  have hgB : B ≤ g := (hown.lt g rfl).1
  obtain ⟨v', w', hr, h2, h3⟩ : ∃ v' w', (Builtin.append_ #[44, 44] o.type #[.slice (some ⟨g, 0, none⟩) 0 0, .slice va n vc]).run Try.prog w = .ok v' w' ∧ w'.ownsRow B 66 8 v' n (wdsV L) ∧ w.grownBy w' (some g) := by
    rcases hsrc.2 with ⟨q1, q2⟩ | ⟨g', cap, cur, q1, _⟩
    · cases q1
      have hL : wdsV L = [] := List.eq_nil_of_length_eq_zero (by have := hsrc.1; omega)
      rw [hL]
      exact ⟨_, w, run_append_owned_none (P := Try.prog) (w := w) B 44 o.type 66 i0 8 Try.underlying44 hi _ 0 _ hown, hown, ⟨rfl, rfl, rfl, Nat.le_refl _, fun _ _ _ => rfl⟩⟩
    · simp only [Value.slice.injEq] at q1
      obtain ⟨rfl, _, rfl⟩ := q1
      obtain ⟨v', w', hr, h2, h3, _⟩ := run_append_own (P := Try.prog) w B 44 o.type 66 i0 _ 8 64 Try.underlying44 hi hz0 hz1 hz2 rfl (by decide) (.slice (some ⟨g, 0, none⟩) 0 0) 0 [] hown ⟨g', 0, none⟩ n vc (wdsV L) hsrc.1 (hsrc.cells (g := g') rfl) (wdsV_one L) (by unfold maxLen; omega) (by omega) hB
      rw [Nat.zero_add, List.nil_append] at h2
      exact ⟨v', w', hr, h2, h3⟩
  obtain ⟨a', c', rfl⟩ := own_slice h2
  have hK := h a' c' w' h2 (hidden ((Below.refl _ _).grown h3 hB (fun k e => by cases e; exact hgB)))
  unfold Oper.wp
  simp [execOp, ho, resolve, invoke, builtin, hs, hx, hr, Result.andThen]
  exact hK
theorem own_heapeq {w w' : World} {B E sz n : Nat} {v : Value} {xs : List Value} (h : w.ownsRow B E sz v n xs) (e : w'.heap = w.heap) : w'.ownsRow B E sz v n xs := by
  refine ⟨h.1, ?_⟩
  rcases h.2 with h1 | ⟨g, cap, cur, h1, h2, h3, h4⟩
  · exact .inl h1
  · exact .inr ⟨g, cap, cur, h1, h2, by rw [e]; exact h3, h4⟩
theorem made_w (w : World) : (w.alloc (.cells #[] 66)).ownsRow w.heap.size 66 8 (.slice (some ⟨w.heap.size, 0, none⟩) 0 0) 0 [] :=
  World.ownsRow_made (base := w.heap.size) (e := 66) (size := 8) w #[] 0 (Nat.le_refl _) (Nat.zero_le _) (by simp)
/-- four cells of a block -/
abbrev Q4 (d : Nat) (a b c e : Value) (w : World) : Prop := w.cell? ⟨d, 0, none⟩ = some a ∧ w.cell? ⟨d, 1, none⟩ = some b ∧ w.cell? ⟨d, 2, none⟩ = some c ∧ w.cell? ⟨d, 3, none⟩ = some e
theorem q4_alloc {d : Nat} {a b c e : Value} {w : World} (h : Q4 d a b c e w) (o : Obj) : Q4 d a b c e (w.alloc o) := by
  have hb : Below w.heap.size w (w.alloc o) := (Below.refl _ _).alloc (Nat.le_refl _) _
  have hd : d < w.heap.size := World.block_lt_of_cell? _ _ h.1
  exact ⟨(hb.cell (p := ⟨d, 0, none⟩) hd).trans h.1, (hb.cell (p := ⟨d, 1, none⟩) hd).trans h.2.1, (hb.cell (p := ⟨d, 2, none⟩) hd).trans h.2.2.1, (hb.cell (p := ⟨d, 3, none⟩) hd).trans h.2.2.2⟩
theorem q4_drew {d : Nat} {a b c e : Value} {w : World} (h : Q4 d a b c e w) : Q4 d a b c e w.drew := h
set_option maxHeartbeats 8000000 in
theorem tw_copy {B m d : Nat} {w0 w : World} {s : Ps} {gs : List Nat} (r : Tw B m d w0 w s s gs) (ho : Iv s) :
    Calls Try.prog 30 #[.pointer (some ⟨d, 0, none⟩)] w fun e w' => ∃ d2, e = .returned (.pointer (some ⟨d2, 0, none⟩)) ∧ Hid (Tw B m d2 w0 w' s s []) := by
  obtain ⟨v, u, h1, h2, h4, h5, h6, hg⟩ := r
  obtain ⟨va, vc, rfl⟩ := own_slice h2.row
  obtain ⟨d0, d1, d2, d3, d5⟩ := h2.cells
  have hdl := h2.lt
  have hfew : s.L.length ≤ 64 := ho.f63
  have HM : Hid (∀ wx : World, wx.heap = (w.alloc (.cells #[] 66)).heap → wx.ownsRow w.heap.size 66 8 (.slice (some ⟨w.heap.size, 0, none⟩) 0 0) 0 []) := hidden (fun wx e => own_heapeq (made_w w) e)
  have HB0 := hidden (show Below w.heap.size w (w.alloc (.cells #[] 66)) from (Below.refl _ _).alloc (Nat.le_refl _) _)
  have HR : Hid (∀ wx, Below w.heap.size w wx → wx.ownsRow B 66 8 (.slice va s.L.length vc) s.L.length (wdsV s.L)) := hidden (fun wx hb => own_later h2.row hb)
  have HFI : Hid (∀ w2 a' c', w2.ownsRow w.heap.size 66 8 (.slice a' s.L.length c') s.L.length (wdsV s.L) → Below w.heap.size w w2 → Tw B m w2.heap.size w0 (w2.alloc (.cells #[.int .i64 s.w, .int .i64 s.h, .slice a' s.L.length c', .int .i64 s.last] 46)) s s []) := hidden (fun w2 a' c' hr hb => by
    have hb2 : Below w2.heap.size w2 (w2.alloc (.cells #[.int .i64 s.w, .int .i64 s.h, .slice a' s.L.length c', .int .i64 s.last] 46)) := (Below.refl _ _).alloc (Nat.le_refl _) _
    have hb3 := hb.trans (hb2.mono hb.size)
    refine ⟨v, .slice a' s.L.length c', h1.later hb3, ⟨Nat.le_trans h6 hb.size, heap_alloc_new w2 _, own_base (own_later hr hb2) h6⟩, fun k hk e => ?_, h5.trans (hb3.mono h6), Nat.le_trans h6 hb3.size, fun g hm => by cases hm⟩
    have hlow := (h1.low k hk).2
    rcases e with e | e
    · have := hb.size; omega
    · have := (hr.lt k e).1; omega)
  clear h1 h2 h4 h5 h6 hg d5 ho
  generalize hn : s.L.length = n at *
  clear hn
  go_enter Try.func30, Try.ntmps30
  go_upto_region 1 with fail
  go_region_held3 (fun w' => w'.cell? ⟨d, 0, none⟩ = some (.int .i64 s.w) ∧ w'.cell? ⟨d, 1, none⟩ = some (.int .i64 s.h) ∧ w'.cell? ⟨d, 2, none⟩ = some (.slice va n vc) ∧ w'.cell? ⟨d, 3, none⟩ = some (.int .i64 s.last)) (first
      | (with_reducible exact q4_drew ⟨d0, d1, d2, d3⟩)
      | (with_reducible exact q4_drew (q4_alloc ⟨d0, d1, d2, d3⟩ _))
      | (with_reducible exact q4_alloc (q4_drew ⟨d0, d1, d2, d3⟩) _)
      | (with_reducible exact ⟨i0, i1, i2, i3⟩)
      | (with_reducible exact q4_alloc ⟨i0, i1, i2, i3⟩ _)) (first | (refine step_cpD (by rfl) _ _ (by rfl) w.heap.size B w.heap.size n vc va s.L (by rfl) (by rfl) (HM.out _ (by rfl)) (HR.out _ (by repeat (first | exact Below.refl _ _ | apply Below.drew | (refine Below.alloc ?_ (by first | omega | (simp; omega) | simp) _)))) (by omega) (by first | omega | (simp; omega) | simp) ?_; intro a2 c2 w2 hr2 hb2; have HT2 := hidden (HFI.out w2 a2 c2 hr2 (Below.trans (by repeat (first | exact Below.refl _ _ | apply Below.drew | (refine Below.alloc ?_ (by first | omega | (simp; omega) | simp) _))) hb2.out)); have BB2 : Below w.heap.size w w2 := Below.trans (by repeat (first | exact Below.refl _ _ | apply Below.drew | (refine Below.alloc ?_ (by first | omega | (simp; omega) | simp) _))) hb2.out; have i0 := (BB2.cell (p := ⟨d, 0, none⟩) hdl).trans d0; have i1 := (BB2.cell (p := ⟨d, 1, none⟩) hdl).trans d1; have i2 := (BB2.cell (p := ⟨d, 2, none⟩) hdl).trans d2; have i3 := (BB2.cell (p := ⟨d, 3, none⟩) hdl).trans d3; clear BB2) | fail)
  all_goals (clear d0 d1 d2 d3 i0 i1 i2 i3)
  all_goals go_wp2
  all_goals go_ret
  all_goals exact ⟨_, rfl, HT2⟩
end Go.Proofs.Ytilfgbcbodjegaa
namespace Go.Proofs.Ytilfgbcbodjegaa
open Go.RowKit
set_option maxHeartbeats 1000000
set_option maxRecDepth 100000
set_option linter.unusedVariables false

/-- the children of a pair lie side by side -/
theorem rect_kids {s : Ps} (h : Iv s) {x : Int} (hx : hasW s.L x) (h4 : (ofW s.L x).k = 4) :
    ((ofW s.L x).m % 4 < 2 → (rctF s 64 (ofW s.L x).b).x = (rctF s 64 (ofW s.L x).a).x + (rctF s 64 (ofW s.L x).a).w ∧ (rctF s 64 (ofW s.L x).b).y = (rctF s 64 (ofW s.L x).a).y) ∧
    (¬ (ofW s.L x).m % 4 < 2 → (rctF s 64 (ofW s.L x).b).y = (rctF s 64 (ofW s.L x).a).y + (rctF s 64 (ofW s.L x).a).h ∧ (rctF s 64 (ofW s.L x).b).x = (rctF s 64 (ofW s.L x).a).x) := by
  obtain ⟨ka, kb, kne, pa, pb⟩ := h.kid x hx h4
  have hx0 : x ≠ 0 := by have := h.pos' hx; omega
  have ea : rctF s 64 (ofW s.L x).a = fstR (ofW s.L x) (rctF s 63 x) (fstV s.L (ofW s.L x) (lenR (ofW s.L x) (rctF s 63 x))) := by
    show (if (ofW s.L (ofW s.L x).a).p = 0 then _ else _) = _
    rw [pa, if_neg hx0, if_pos rfl]
  have eb : rctF s 64 (ofW s.L x).b = sndR (ofW s.L x) (rctF s 63 x) (fstV s.L (ofW s.L x) (lenR (ofW s.L x) (rctF s 63 x))) := by
    show (if (ofW s.L (ofW s.L x).b).p = 0 then _ else _) = _
    rw [pb, if_neg hx0, if_neg kne]
  rw [ea, eb]
  generalize rctF s 63 x = R
  generalize fstV s.L (ofW s.L x) (lenR (ofW s.L x) R) = f
  unfold fstR sndR
  constructor
  · intro q
    rw [if_pos q, if_pos q]
    exact ⟨rfl, rfl⟩
  · intro q
    rw [if_neg q, if_neg q]
    exact ⟨rfl, rfl⟩
theorem tmod_dir {m : Int} (h : mtdB m = true) : Int.tmod m 16 = m % 4 := by
  rcases mtd_cases h with rfl | rfl | rfl | rfl | rfl | rfl | rfl | rfl <;> decide
theorem tw_kids {B m d : Nat} {w0 w : World} {s t : Ps} {gs : List Nat} (r : Tw B m d w0 w s t gs) (ho : Iv s) (x : Int) :
    Calls Try.prog 17 #[.pointer (some ⟨m, 0, none⟩), .int .i64 x] w fun e w' => e = .returned (.tuple #[.int .i64 (ofW s.L x).a, .int .i64 (ofW s.L x).b]) ∧ Hid (Tw B m d w0 w' s t gs) := by
  have q := r
  obtain ⟨v, u, h1, h2, _⟩ := q
  exact (kids_any h1 ho.toOkL.toOkP x).mono (fun e w' hh => ⟨hh.1, hidden (r.later hh.2).1⟩)
theorem tw_rct {B m d : Nat} {w0 w : World} {s t : Ps} {gs : List Nat} (r : Tw B m d w0 w s t gs) (ho : Iv s) (x : Int) (hx : hasW s.L x) :
    Calls Try.prog 14 #[.pointer (some ⟨m, 0, none⟩), .int .i64 x] w fun e w' => e = .returned (.tuple #[.agg #[.int .i64 (rctF s 64 x).x, .int .i64 (rctF s 64 x).y, .int .i64 (rctF s 64 x).w, .int .i64 (rctF s 64 x).h], .bool true]) ∧ Hid (Tw B m d w0 w' s t gs ∧ Below w.heap.size w w') := by
  have q := r
  obtain ⟨v, u, h1, h2, _⟩ := q
  exact (rect_any h1 ho.toOkL.toOkP ho.scr 64 x hx (ho.upk64 x hx)).mono (fun e w' hh => ⟨hh.1, hidden ⟨(r.later hh.2).1, hh.2⟩⟩)
theorem tw_arrg {B m d : Nat} {w0 w : World} {s t : Ps} {gs : List Nat} (r : Tw B m d w0 w s t gs) (ho : Iv s) (x : Int) :
    (prE s x ≠ 0 → Calls Try.prog 28 #[.pointer (some ⟨m, 0, none⟩), .int .i64 x] w fun e w' => e = .returned (.tuple #[.int .i64 0, .int .u32 0, .int .i64 0, .int .i64 (prE s x)]) ∧ Hid (Tw B m d w0 w' s t gs)) ∧
    (prE s x = 0 → Calls Try.prog 28 #[.pointer (some ⟨m, 0, none⟩), .int .i64 x] w fun e w' => e = .returned (.tuple #[.int .i64 (ofW s.L x).m, .int .u32 (ofW s.L x).s, .int .i64 (ofW s.L x).key, .int .i64 0]) ∧ Hid (Tw B m d w0 w' s t gs)) := by
  obtain ⟨q1, q2⟩ := tw_arrt r ho x
  exact ⟨fun h => (q1 h).mono (fun e w' hh => ⟨hh.1, hidden (r.later hh.2.out).1⟩), fun h => (q2 h).mono (fun e w' hh => ⟨hh.1, hidden (r.later hh.2.out).1⟩)⟩
/-- what an arrangement leaves -/
theorem arr_left {s : Ps} (h : Iv s) {x mt sz key : Int} (hE : arrE s x mt key = 0) (hs : 0 ≤ sz ∧ sz ≤ 4294967295) (hk : key ≠ 0) :
    Iv (arrS s x mt sz key) ∧ hasW (arrS s x mt sz key).L x ∧ (ofW (arrS s x mt sz key).L x).k = 4 ∧ (ofW (arrS s x mt sz key).L x).m = mt ∧ (ofW (arrS s x mt sz key).L x).s = sz ∧ (ofW (arrS s x mt sz key).L x).key = key ∧ (ofW (arrS s x mt sz key).L x).a = (ofW s.L x).a ∧ (ofW (arrS s x mt sz key).L x).b = (ofW s.L x).b ∧ prE (arrS s x mt sz key) x = 0 ∧ mtdB mt = true ∧ mtdB (ofW s.L x).m = true ∧ (mt % 4 < 2 ↔ (ofW s.L x).m % 4 < 2) := by
  obtain ⟨hx, h4, hm, hky, hp⟩ := arr_ok h hE
  have hiv := iv_arr h x mt sz key hx h4 hm hs hky
  have hx1 : hasW (arrS s x mt sz key).L x := by
    show hasW (updW s.L x (arrF mt sz key)) x
    exact (upd_has x x (arrF mt sz key) (arrF_n mt sz key)).2 hx
  have ho : ofW (arrS s x mt sz key).L x = arrF mt sz key (ofW s.L x) := by
    show ofW (updW s.L x (arrF mt sz key)) x = _
    rw [upd_of x x (arrF mt sz key) (arrF_n mt sz key) hx, if_pos rfl]
  have hd : mt % 4 < 2 ↔ (ofW s.L x).m % 4 < 2 := by
    unfold arrE at hE
    rw [if_neg (by rw [hp]; simp), if_neg (by rw [hm]; simp)] at hE
    by_cases q : decide (mt % 4 < 2) ≠ decide ((ofW s.L x).m % 4 < 2)
    · rw [if_pos q] at hE; omega
    · have := Decidable.not_not.1 q
      simpa using this
  refine ⟨hiv, hx1, by rw [ho]; exact h4, by rw [ho]; rfl, by rw [ho]; rfl, by rw [ho]; show (if key = 0 then _ else key) = key; rw [if_neg hk], by rw [ho]; rfl, by rw [ho]; rfl, ?_, hm, (h.pw x hx h4).mt, hd⟩
  unfold prE
  rw [if_neg (by rw [hasB_iff.2 hx1]; simp), if_pos (by rw [ho]; exact h4)]
/-- a rectangle in a block of its own -/
theorem rc_box (w : World) (a b c d : Int) : Q4 w.heap.size (.int .i64 a) (.int .i64 b) (.int .i64 c) (.int .i64 d) (w.alloc (.cells #[.int .i64 a, .int .i64 b, .int .i64 c, .int .i64 d] 36)) := by
  have hh := heap_alloc_new w (.cells #[.int .i64 a, .int .i64 b, .int .i64 c, .int .i64 d] 36)
  refine ⟨?_, ?_, ?_, ?_⟩ <;> simp only [World.cell?, hh] <;> rfl
theorem q4_later {d : Nat} {a b c e : Value} {w w' : World} (h : Q4 d a b c e w) (hb : Below w.heap.size w w') : Q4 d a b c e w' := by
  have hd : d < w.heap.size := World.block_lt_of_cell? _ _ h.1
  exact ⟨(hb.cell (p := ⟨d, 0, none⟩) hd).trans h.1, (hb.cell (p := ⟨d, 1, none⟩) hd).trans h.2.1, (hb.cell (p := ⟨d, 2, none⟩) hd).trans h.2.2.1, (hb.cell (p := ⟨d, 3, none⟩) hd).trans h.2.2.2⟩
end Go.Proofs.Ytilfgbcbodjegaa
namespace Go.Proofs.Ytilfgbcbodjegaa
open Go.RowKit
set_option maxHeartbeats 1000000
set_option maxRecDepth 100000
set_option linter.unusedVariables false

theorem rct_stable (s : Ps) : ∀ (j k : Nat) (x : Int), Upk s j x → j ≤ k → rctF s k x = rctF s j x := by
  intro j
  induction j with
  | zero =>
    intro k x hu _
    cases k with
    | zero => rfl
    | succ k =>
      have hu' : (ofW s.L x).p = 0 := hu
      show (if (ofW s.L x).p = 0 then _ else _) = _
      rw [if_pos hu']; rfl
  | succ j ih =>
    intro k x hu hk
    cases k with
    | zero => omega
    | succ k =>
      rcases hu with hu | ⟨_, _, _, hu⟩
      · show (if (ofW s.L x).p = 0 then _ else _) = (if (ofW s.L x).p = 0 then _ else _)
        rw [if_pos hu, if_pos hu]
      · have := ih k _ hu (by omega)
        show (if (ofW s.L x).p = 0 then _ else _) = (if (ofW s.L x).p = 0 then _ else _)
        rw [this]
/-- a window with a parent is one of its parent's parts -/
theorem rct_step {s : Ps} (h : Iv s) {x q : Int} (hx : hasW s.L x) (hq : (ofW s.L x).p = q) (h0 : q ≠ 0) :
    rctF s 64 x = if (ofW s.L q).a = x then fstR (ofW s.L q) (rctF s 64 q) (fstV s.L (ofW s.L q) (lenR (ofW s.L q) (rctF s 64 q))) else sndR (ofW s.L q) (rctF s 64 q) (fstV s.L (ofW s.L q) (lenR (ofW s.L q) (rctF s 64 q))) := by
  subst hq
  have hu : Upk s 63 (ofW s.L x).p := by
    rcases h.upk64 x hx with hu | ⟨_, _, _, hu⟩
    · exact absurd hu h0
    · exact hu
  have := rct_stable s 63 64 _ hu (by omega)
  rw [this]
  show (if (ofW s.L x).p = 0 then _ else _) = _
  rw [if_neg h0]
theorem rct_top {s : Ps} {x : Int} (h0 : (ofW s.L x).p = 0) : rctF s 64 x = ⟨0, 0, s.w, s.h⟩ := by
  show (if (ofW s.L x).p = 0 then _ else _) = _
  rw [if_pos h0]
/-- a pair's first part behind an Open -/
theorem opn_fst {s : Ps} (h : Iv s) {split m sz k : Int} (v : OpV s split m sz k (opnL s split m sz k)) {P : Int} (hP : hasW s.L P) (hs : P ≠ split) (n : Int) :
    fstV (opnL s split m sz k) (ofW (opnL s split m sz k) P) n = fstV s.L (ofW s.L P) n ∧ (ofW (opnL s split m sz k) P).m = (ofW s.L P).m := by
  rw [v.old P hP]
  obtain ⟨e1, e2, e3, e4, e5⟩ := opnF_rest split (s.last + 2) (ofW s.L split).p (ofW s.L P)
  have hk : (ofW (opnL s split m sz k) (ofW s.L P).key).k = (ofW s.L (ofW s.L P).key).k := by
    rcases h.ky P hP with q | q
    · rw [q, h.of_zero]
      have : ¬ hasW (opnL s split m sz k) 0 := by
        rw [v.has]
        rintro (z | z | z)
        · have := h.pos' z; omega
        · have := h.l0; omega
        · have := h.l0; omega
      rw [of_no this]
    · rw [v.old _ q]
      exact (opnF_rest _ _ _ _).1
  refine ⟨?_, e2⟩
  unfold fstV msdV rawV
  rw [e2, e3, e4, hk]
theorem fstR_m {d d' : Wd} (e : d.m = d'.m) (r : R4) (f : Int) : fstR d r f = fstR d' r f ∧ sndR d r f = sndR d' r f ∧ lenR d r = lenR d' r := by
  unfold fstR sndR lenR
  rw [e]
  exact ⟨rfl, rfl, rfl⟩
theorem opnF_a {split LP q x : Int} {d : Wd} (hd : d.n ≠ split) (hx : x ≠ split) (hL : x ≠ LP) : (opnF split LP q d).a = x ↔ d.a = x := by
  unfold opnF kidF
  rw [if_neg hd]
  by_cases c : q ≠ 0 ∧ d.n = q
  · rw [if_pos c]
    by_cases c1 : d.a = split
    · rw [if_pos c1]
      exact ⟨fun e => absurd e.symm hL, fun e => absurd (e.symm.trans c1) hx⟩
    · rw [if_neg c1]
      by_cases c2 : d.b = split
      · rw [if_pos c2]
      · rw [if_neg c2]
  · rw [if_neg c]
/-- what is not below the one that is split stays where it is -/
theorem opn_stay {s : Ps} (h : Iv s) {split m sz k : Int} (hx : hasW s.L split) (hv : Iv (opnS s split m sz k)) :
    ∀ (n : Nat) (x : Int), Upk s n x → hasW s.L x → belB s split x = false → rctF (opnS s split m sz k) n x = rctF s n x := by
  have v := opn_v h split m sz k hx
  intro n
  induction n with
  | zero => intro x _ _ _; rfl
  | succ n ih =>
    intro x hu hw hb
    have hxs : x ≠ split := fun e => by rw [e, h.bel_self hx] at hb; cases hb
    have hx0 : x ≠ 0 := by have := h.pos' hw; omega
    have hxL : x ≠ s.last + 2 := by have := h.top' hw; omega
    have hn : (ofW s.L x).n = x := (of_mem hw).2
    have hp : (ofW (opnS s split m sz k).L x).p = (ofW s.L x).p := by
      show (ofW (opnL s split m sz k) x).p = _
      rw [v.old x hw, (opnF_rest _ _ _ _).2.2.2.2, hn, if_neg hxs]
    have hb' := hb
    rw [h.bel_step, if_neg hx0, if_neg hxs] at hb'
    show (if (ofW (opnS s split m sz k).L x).p = 0 then _ else _) = (if (ofW s.L x).p = 0 then _ else _)
    rw [hp]
    rcases hu with hu | ⟨hwp, _, _, hu⟩
    · rw [if_pos hu, if_pos hu]; rfl
    · by_cases p0 : (ofW s.L x).p = 0
      · rw [if_pos p0, if_pos p0]; rfl
      · rw [if_neg p0, if_neg p0, ih _ hu hwp hb']
        have hps : (ofW s.L x).p ≠ split := fun e => by rw [e, h.bel_self hx] at hb'; cases hb'
        generalize (ofW s.L x).p = P at *
        have hnP : (ofW s.L P).n = P := (of_mem hwp).2
        have ha : (ofW (opnS s split m sz k).L P).a = x ↔ (ofW s.L P).a = x := by
          show (ofW (opnL s split m sz k) P).a = x ↔ _
          rw [v.old P hwp]
          exact opnF_a (by rw [hnP]; exact hps) hxs hxL
        have hf := fun n' => (opn_fst h v hwp hps n').1
        have hm := (opn_fst h v hwp hps 0).2
        have eL : (opnS s split m sz k).L = opnL s split m sz k := rfl
        rw [eL] at ha ⊢
        rw [hf, (fstR_m hm _ _).1, (fstR_m hm _ _).2.1, (fstR_m hm _ 0).2.2]
        by_cases c : (ofW s.L P).a = x
        · rw [if_pos (ha.2 c), if_pos c]
        · rw [if_neg (fun e => c (ha.1 e)), if_neg c]
/-- the pair lies where the one that was split lay -/
theorem opn_pair {s : Ps} (h : Iv s) {split m sz k : Int} (hx : hasW s.L split) (hv : Iv (opnS s split m sz k)) :
    rctF (opnS s split m sz k) 64 (s.last + 2) = rctF s 64 split := by
  have v := opn_v h split m sz k hx
  have hw : hasW (opnS s split m sz k).L (s.last + 2) := (v.has _).2 (.inr (.inr rfl))
  have ep : (ofW (opnS s split m sz k).L (s.last + 2)).p = (ofW s.L split).p := by
    show (ofW (opnL s split m sz k) (s.last + 2)).p = _
    rw [v.pair]; rfl
  by_cases q0 : (ofW s.L split).p = 0
  · rw [rct_top (ep.trans q0), rct_top q0]; rfl
  · obtain ⟨hP, _, hab⟩ := h.par split hx q0
    have hb := h.bel_no_par hx q0
    rw [rct_step hv hw ep q0, rct_step h hx rfl q0, opn_stay h hx hv 64 _ (h.upk64 _ hP) hP hb]
    have hps := (rank_up h split hx q0).symm
    have ea : (ofW (opnS s split m sz k).L (ofW s.L split).p).a = s.last + 2 ↔ (ofW s.L (ofW s.L split).p).a = split := by
      show (ofW (opnL s split m sz k) (ofW s.L split).p).a = s.last + 2 ↔ _
      rw [v.old _ hP]
      unfold opnF kidF
      rw [if_neg (by rw [(of_mem hP).2]; exact hps), if_pos ⟨q0, (of_mem hP).2⟩]
      by_cases c : (ofW s.L (ofW s.L split).p).a = split
      · rw [if_pos c]; exact ⟨fun _ => c, fun _ => rfl⟩
      · rw [if_neg c]
        have hA : (ofW s.L (ofW s.L split).p).a ≠ s.last + 2 := by
          have h4 := (h.par split hx q0).2.1
          have := h.top' (h.kid _ hP h4).1
          omega
        split
        · exact ⟨fun e => absurd e hA, fun e => absurd e c⟩
        · exact ⟨fun e => absurd e hA, fun e => absurd e c⟩
    have hf := fun n' => (opn_fst h v hP hps n').1
    have hm := (opn_fst h v hP hps 0).2
    generalize (ofW s.L split).p = P at *
    have eL : (opnS s split m sz k).L = opnL s split m sz k := rfl
    rw [eL] at ea ⊢
    rw [hf, (fstR_m hm _ _).1, (fstR_m hm _ _).2.1, (fstR_m hm _ 0).2.2]
    by_cases c : (ofW s.L P).a = split
    · rw [if_pos (ea.2 c), if_pos c]
    · rw [if_neg (fun e => c (ea.1 e)), if_neg c]
/-- of two numbers the smaller -/
def mnI (a b : Int) : Int := if a ≤ b then a else b
/-- the two parts behind the Open of a grid with a fixed size -/
theorem opn_parts {s : Ps} (h : Iv s) {split t sz : Int} (hx : hasW s.L split) (ht : 0 ≤ t ∧ t < 4) (hv : Iv (opnS s split (t + 16) sz 3)) :
    let r := rctF (opnS s split (t + 16) sz 3) 64 (s.last + 1)
    let o := rctF (opnS s split (t + 16) sz 3) 64 split
    let old := rctF s 64 split
    (t < 2 → r.w = mnI sz old.w ∧ o.w = old.w - mnI sz old.w ∧ r.h = old.h ∧ o.h = old.h) ∧ (¬ t < 2 → r.h = mnI sz old.h ∧ o.h = old.h - mnI sz old.h ∧ r.w = old.w ∧ o.w = old.w) := by
  have v := opn_v h split (t + 16) sz 3 hx
  have l0 := h.l0
  have hP := opn_pair h hx hv
  have hw1 : hasW (opnS s split (t + 16) sz 3).L (s.last + 1) := (v.has _).2 (.inr (.inl rfl))
  have hw2 : hasW (opnS s split (t + 16) sz 3).L split := (v.has _).2 (.inl hx)
  have p1 : (ofW (opnS s split (t + 16) sz 3).L (s.last + 1)).p = s.last + 2 := by
    show (ofW (opnL s split (t + 16) sz 3) (s.last + 1)).p = _
    rw [v.new]; rfl
  have p2 : (ofW (opnS s split (t + 16) sz 3).L split).p = s.last + 2 := by
    show (ofW (opnL s split (t + 16) sz 3) split).p = _
    rw [v.old split hx, (opnF_rest _ _ _ _).2.2.2.2, (of_mem hx).2, if_pos rfl]
  have hne : s.last + 1 ≠ split := by have := h.top' hx; omega
  have hz : s.last + 2 ≠ 0 := by omega
  have ed : ofW (opnS s split (t + 16) sz 3).L (s.last + 2) = opnP s split (t + 16) sz := v.pair
  have ek : (ofW (opnS s split (t + 16) sz 3).L (s.last + 1)).k = 3 := by
    show (ofW (opnL s split (t + 16) sz 3) (s.last + 1)).k = _
    rw [v.new]; rfl
  have em : ∀ n, msdV (opnS s split (t + 16) sz 3).L (opnP s split (t + 16) sz) n = mnI sz n := by
    intro n
    have : rawV (opnS s split (t + 16) sz 3).L (opnP s split (t + 16) sz) n = sz := by
      unfold rawV
      show (if 32 ≤ t + 16 then _ else if (ofW (opnS s split (t + 16) sz 3).L (s.last + 1)).k = 0 ∨ (ofW (opnS s split (t + 16) sz 3).L (s.last + 1)).k = 1 then 0 else sz) = sz
      rw [if_neg (by omega), ek, if_neg (by omega)]
    unfold msdV mnI
    rw [this]
  have e1 := rct_step hv hw1 p1 hz
  have e2 := rct_step hv hw2 p2 hz
  rw [ed, hP] at e1 e2
  intro r o old
  have er : r = _ := e1
  have eo : o = _ := e2
  have eold : old = rctF s 64 split := rfl
  rw [er, eo]
  rw [← eold]
  clear e1 e2 er eo ek hP hv v hw1 hw2 p1 p2 hz
  generalize old = R
  have ea : (opnP s split (t + 16) sz).a = if (t + 16) % 2 = 0 then s.last + 1 else split := rfl
  have emm : (opnP s split (t + 16) sz).m = t + 16 := rfl
  rw [ea]
  unfold fstV fstR sndR lenR
  rw [emm]
  by_cases c : (t + 16) % 2 = 0
  · rw [if_pos c, if_pos rfl, if_neg hne]
    constructor
    · intro q
      have q' : (t + 16) % 4 < 2 := by omega
      simp only [if_pos q', if_pos c, em]
      exact ⟨trivial, trivial, trivial, trivial⟩
    · intro q
      have q' : ¬ (t + 16) % 4 < 2 := by omega
      simp only [if_neg q', if_pos c, em]
      exact ⟨trivial, trivial, trivial, trivial⟩
  · rw [if_neg c, if_neg (fun e => hne e.symm), if_pos rfl]
    constructor
    · intro q
      have q' : (t + 16) % 4 < 2 := by omega
      simp only [if_pos q', if_neg c, em]
      exact ⟨by omega, trivial, trivial, trivial⟩
    · intro q
      have q' : ¬ (t + 16) % 4 < 2 := by omega
      simp only [if_neg q', if_neg c, em]
      exact ⟨by omega, trivial, trivial, trivial⟩
end Go.Proofs.Ytilfgbcbodjegaa
namespace Go.Proofs.Ytilfgbcbodjegaa
open Go.RowKit
set_option maxHeartbeats 1000000
set_option maxRecDepth 100000
set_option linter.unusedVariables false

def rcV (r : R4) : List Value := [.int .i64 r.x, .int .i64 r.y, .int .i64 r.w, .int .i64 r.h]
def rcsV (L : List R4) : List Value := L.flatMap rcV
theorem rcsV_cons (d : R4) (L : List R4) : rcsV (d :: L) = rcV d ++ rcsV L := rfl
theorem rcsV_app (K L : List R4) : rcsV (K ++ L) = rcsV K ++ rcsV L := by simp [rcsV]
theorem rcsV_len (L : List R4) : (rcsV L).length = L.length * 4 := by
  induction L with
  | nil => rfl
  | cons d L ih => rw [rcsV_cons, List.length_append, ih, List.length_cons]; simp [rcV]; omega
theorem rcsV_one (L : List R4) : ∀ u ∈ rcsV L, u.oneCell' = true := by
  intro u hu
  obtain ⟨b, _, hb⟩ := List.mem_flatMap.1 hu
  simp [rcV] at hb
  rcases hb with rfl | rfl | rfl | rfl <;> rfl
theorem rcsV_at (L : List R4) : ∀ (i : Nat) (h : i < L.length) (j : Nat), j < 4 → (rcsV L)[i * 4 + j]? = (rcV L[i])[j]? := by
  induction L with
  | nil => intro i h; simp at h
  | cons d L ih =>
    intro i h j hj
    have h4 : (rcV d).length = 4 := rfl
    cases i with
    | zero =>
      rw [rcsV_cons, List.getElem?_append_left (by rw [h4]; omega)]
      simp
    | succ i =>
      rw [rcsV_cons, List.getElem?_append_right (by rw [h4]; omega), h4, show (i + 1) * 4 + j - 4 = i * 4 + j by omega]
      exact ih i (by simpa using h) j hj
theorem info_rc : (Try.prog.info? 36).map (fun i => (i.zero, i.size, i.bytes)) = some (some (.agg #[.int .i64 0, .int .i64 0, .int .i64 0, .int .i64 0]), 4, 32) := by kernel_rfl
theorem rc_parts : ∃ i, Try.prog.info? 36 = some i ∧ i.zero = some (.agg #[.int .i64 0, .int .i64 0, .int .i64 0, .int .i64 0]) ∧ i.size = 4 ∧ i.bytes = 32 := by
  have h := info_rc
  cases hq : Try.prog.info? 36 with
  | none => rw [hq] at h; simp at h
  | some i => rw [hq] at h; simp at h; exact ⟨i, rfl, h.1, h.2.1, h.2.2⟩
theorem wpList_snocR {w : World} {ops : Array Oper} {rest : List Oper} {o : Oper} {a : Act} {Q : Exit → Act → World → Prop} (hgd : o.guard = none) (s x : Operand)
    (ho : o.op = .call { callee := .builtin .append, args := #[s, x], argTypes := #[47, 47] })
    (B : Nat) (v : Value) (n : Nat) (L : List R4) (hn : n = L.length) (r : R4) (ad : Addr) (c : Nat) (hs : a.eval s = v) (hx : a.eval x = .slice (some ad) 1 c) (hown : w.ownsRow B 36 4 v n (rcsV L)) (hnews : ∀ j u, (rcV r)[j]? = some u → w.cell? (ad.add j) = some u) (h63 : n ≤ 1000) (hB : B ≤ w.heap.size)
    (h : ∀ a' c' w', Hid (w'.ownsRow B 36 4 (.slice a' (n + 1) c') (n + 1) (rcsV (L ++ [r]))) → Hid (Below B w w') → wpList Try.prog ops Q rest (a.put o.dst (.slice a' (n + 1) c')) w') : wpList Try.prog ops Q (o :: rest) a w := by
  obtain ⟨i0, hi, hz0, hz1, hz2⟩ := rc_parts
  refine wpList_append_at hgd s x 47 ho B 36 i0 _ 4 32 Try.underlying47 hi hz0 hz1 hz2 rfl (by decide) v n (rcsV L) hs hown ad 1 c (rcsV [r]) hx (by simp [rcsV, rcV]) (fun j u hj => hnews j u (by simpa [rcsV] using hj)) (rcsV_one [r]) (by unfold maxLen; omega) (by omega) hB (by omega) ?_
  intro v' w' h1 h2 h3
  rw [← rcsV_app] at h1
  obtain ⟨a', c', rfl⟩ := own_slice h1
  exact h a' c' w' (hidden h1) (hidden ((fm_grown h2 h3.out).below hB (fun k e => (hown.lt k e).1)))
/-- the cells of an owned row of rectangles -/
theorem rcrow_cells {B E : Nat} {w : World} {g c n : Nat} {L : List R4} (h : w.ownsRow B E 4 (.slice (some ⟨g, 0, none⟩) n c) n (rcsV L)) (i : Nat) (hi : i < L.length) :
    w.cell? ⟨g, i * 4, none⟩ = some (.int .i64 L[i].x) ∧ w.cell? ⟨g, i * 4 + 1, none⟩ = some (.int .i64 L[i].y) ∧ w.cell? ⟨g, i * 4 + 2, none⟩ = some (.int .i64 L[i].w) ∧ w.cell? ⟨g, i * 4 + 3, none⟩ = some (.int .i64 L[i].h) := by
  have hc := h.cells (g := g) rfl
  have hk : ∀ j, j < 4 → ∀ u, (rcV L[i])[j]? = some u → w.cell? ⟨g, i * 4 + j, none⟩ = some u := fun j hj u hu => by
    have := hc (i * 4 + j) u (by rw [rcsV_at L i hi j hj]; exact hu)
    rwa [Addr.add_lit, Nat.zero_add] at this
  exact ⟨hk 0 (by omega) _ rfl, hk 1 (by omega) _ rfl, hk 2 (by omega) _ rfl, hk 3 (by omega) _ rfl⟩
theorem rc_news (w : World) (r : R4) : ∀ j u, (rcV r)[j]? = some u → (w.alloc (.cells #[.int .i64 r.x, .int .i64 r.y, .int .i64 r.w, .int .i64 r.h] 36)).cell? ((⟨w.heap.size, 0, none⟩ : Addr).add j) = some u := by
  intro j u hj
  obtain ⟨q0, q1, q2, q3⟩ := rc_box w r.x r.y r.w r.h
  have hl := (List.getElem?_eq_some_iff.1 hj).1
  simp [rcV] at hl
  rw [Addr.add_lit, Nat.zero_add]
  rcases (by omega : j = 0 ∨ j = 1 ∨ j = 2 ∨ j = 3) with rfl | rfl | rfl | rfl
  all_goals
    simp [rcV] at hj
    subst hj
    assumption
theorem rc_nil (B E : Nat) (w : World) : w.ownsRow B E 4 (.slice none 0 0) 0 (rcsV []) := ⟨rfl, .inl ⟨rfl, rfl⟩⟩
theorem rcrow_some {B E n : Nat} {w : World} {v : Value} {xs : List Value} (h : w.ownsRow B E 4 v n xs) (h0 : 0 < n) : ∃ g c, v = .slice (some ⟨g, 0, none⟩) n c ∧ B ≤ g ∧ g < w.heap.size := by
  rcases h.2 with ⟨h1, h2⟩ | ⟨g, cap, cur, h1, h2, h3, h4, h5, _⟩
  · omega
  · exact ⟨g, cap, h1, h2, (Array.getElem?_eq_some_iff.1 h3).1⟩
theorem q4_kept {d : Nat} {a b c e : Value} {w w' : World} {gs : List Nat} (h : Q4 d a b c e w) (k : Kept w w' gs) (hm : d ∈ gs) : Q4 d a b c e w' := by
  have hc : ∀ j, w'.cell? ⟨d, j, none⟩ = w.cell? ⟨d, j, none⟩ := fun j => by simp only [World.cell?, k d hm]
  exact ⟨(hc 0).trans h.1, (hc 1).trans h.2.1, (hc 2).trans h.2.2.1, (hc 3).trans h.2.2.2⟩
/-- a world that has all that an earlier one had -/
structure BX (w0 : World) where
  w : World
  h : Below w0.heap.size w0 w
theorem wp_region_X {P : Program} {id : Nat} {Q : Exit → Act → World → Prop} {a : Act} {w : World} {l : List Oper} (C : World → Prop) (hm : P.follows .mixedOrders = true) (hB : Region.lexB .any l.toArray = true) (hC : C { w with drawn := w.drawn + 1 })
    (h : wpQuiet P l.toArray C (fun a' => ∀ w', C w' → Q .normal a' w') l a) : (Code.region id l.toArray true).wp P Q a w :=
  wp_region_quiet (C := C) hm hB hC (by simpa using h)
end Go.Proofs.Ytilfgbcbodjegaa
namespace Go.Proofs.Ytilfgbcbodjegaa
open Go.RowKit
set_option maxHeartbeats 1000000
set_option maxRecDepth 100000
set_option linter.unusedVariables false

/-- does a place lie in a rectangle? -/
def insB (r : R4) (x y : Int) : Bool := decide (r.x ≤ x ∧ x < r.x + r.w ∧ r.y ≤ y ∧ y < r.y + r.h)
def insN (r : R4) (x y : Int) : Nat := if insB r x y = true then 1 else 0
theorem ins_pair {s : Ps} (h : Iv s) {p : Int} (hp : hasW s.L p) (h4 : (ofW s.L p).k = 4) (x y : Int) :
    insB (rctF s 64 p) x y = (insB (rctF s 64 (ofW s.L p).a) x y || insB (rctF s 64 (ofW s.L p).b) x y) ∧ insN (rctF s 64 (ofW s.L p).a) x y + insN (rctF s 64 (ofW s.L p).b) x y = insN (rctF s 64 p) x y := by
  obtain ⟨ka, kb, kne, pa, pb⟩ := h.kid p hp h4
  have p0 : p ≠ 0 := by have := h.pos' hp; omega
  have hr := rct_ok h.scr 64 p (h.upk64 p hp)
  have hw := h.pw p hp h4
  have ea := rct_step h ka pa p0
  have eb := rct_step h kb pb p0
  rw [if_pos rfl] at ea
  rw [if_neg kne] at eb
  rw [ea, eb]
  have hl : 0 ≤ lenR (ofW s.L p) (rctF s 64 p) := by
    obtain ⟨x0, y0, w0, h0, xw, yh⟩ := hr
    unfold lenR
    split <;> omega
  have hb := fst_bd s.L (ofW s.L p) (lenR (ofW s.L p) (rctF s 64 p)) hl hw.s0
  generalize fstV s.L (ofW s.L p) (lenR (ofW s.L p) (rctF s 64 p)) = f at *
  generalize rctF s 64 p = R at *
  obtain ⟨RX, RY, RW, RH⟩ := R
  unfold lenR at hb
  unfold fstR sndR insN insB
  by_cases q : (ofW s.L p).m % 4 < 2
  · rw [if_pos q] at hb
    rw [if_pos q, if_pos q]
    simp only at *
    by_cases c1 : RX ≤ x ∧ x < RX + RW ∧ RY ≤ y ∧ y < RY + RH
    · by_cases c2 : x < RX + f
      · have d1 : RX ≤ x ∧ x < RX + f ∧ RY ≤ y ∧ y < RY + RH := by omega
        have d2 : ¬ (RX + f ≤ x ∧ x < RX + f + (RW - f) ∧ RY ≤ y ∧ y < RY + RH) := by omega
        rw [decide_eq_true c1, decide_eq_true d1, decide_eq_false d2]
        simp
      · have d1 : ¬ (RX ≤ x ∧ x < RX + f ∧ RY ≤ y ∧ y < RY + RH) := by omega
        have d2 : RX + f ≤ x ∧ x < RX + f + (RW - f) ∧ RY ≤ y ∧ y < RY + RH := by omega
        rw [decide_eq_true c1, decide_eq_false d1, decide_eq_true d2]
        simp
    · have d1 : ¬ (RX ≤ x ∧ x < RX + f ∧ RY ≤ y ∧ y < RY + RH) := by omega
      have d2 : ¬ (RX + f ≤ x ∧ x < RX + f + (RW - f) ∧ RY ≤ y ∧ y < RY + RH) := by omega
      rw [decide_eq_false c1, decide_eq_false d1, decide_eq_false d2]
      simp
  · rw [if_neg q] at hb
    rw [if_neg q, if_neg q]
    simp only at *
    by_cases c1 : RX ≤ x ∧ x < RX + RW ∧ RY ≤ y ∧ y < RY + RH
    · by_cases c2 : y < RY + f
      · have d1 : RX ≤ x ∧ x < RX + RW ∧ RY ≤ y ∧ y < RY + f := by omega
        have d2 : ¬ (RX ≤ x ∧ x < RX + RW ∧ RY + f ≤ y ∧ y < RY + f + (RH - f)) := by omega
        rw [decide_eq_true c1, decide_eq_true d1, decide_eq_false d2]
        simp
      · have d1 : ¬ (RX ≤ x ∧ x < RX + RW ∧ RY ≤ y ∧ y < RY + f) := by omega
        have d2 : RX ≤ x ∧ x < RX + RW ∧ RY + f ≤ y ∧ y < RY + f + (RH - f) := by omega
        rw [decide_eq_true c1, decide_eq_false d1, decide_eq_true d2]
        simp
    · have d1 : ¬ (RX ≤ x ∧ x < RX + RW ∧ RY ≤ y ∧ y < RY + f) := by omega
      have d2 : ¬ (RX ≤ x ∧ x < RX + RW ∧ RY + f ≤ y ∧ y < RY + f + (RH - f)) := by omega
      rw [decide_eq_false c1, decide_eq_false d1, decide_eq_false d2]
      simp
/-- the sum of a number over windows -/
def sumW (c : Int → Nat) (L : List Wd) : Nat := (L.map (fun d => c d.n)).foldr (· + ·) 0
theorem sumW_cons (c : Int → Nat) (d : Wd) (L : List Wd) : sumW c (d :: L) = c d.n + sumW c L := rfl
def sumI (c : Int → Nat) (L : List Int) : Nat := (L.map c).foldr (· + ·) 0
theorem sumI_app (c : Int → Nat) (K L : List Int) : sumI c (K ++ L) = sumI c K + sumI c L := by
  induction K with
  | nil => simp [sumI]
  | cons d K ih => simp only [sumI, List.cons_append, List.map_cons, List.foldr_cons] at *; omega
theorem sumI_perm (c : Int → Nat) {K L : List Int} (h : K.Perm L) : sumI c K = sumI c L := by
  induction h with
  | nil => rfl
  | cons x _ ih => simp only [sumI, List.map_cons, List.foldr_cons] at *; omega
  | swap x y l => simp only [sumI, List.map_cons, List.foldr_cons]; omega
  | trans _ _ h1 h2 => exact h1.trans h2
theorem sum_split (c : Int → Nat) (p : Wd → Bool) (L : List Wd) : sumW c (L.filter p) + sumW c (L.filter (fun d => !p d)) = sumW c L := by
  induction L with
  | nil => rfl
  | cons d L ih =>
    rw [List.filter_cons, List.filter_cons, sumW_cons]
    cases hg : p d
    · simp only [Bool.not_false, if_true, Bool.false_eq_true, if_false, sumW_cons]
      omega
    · simp only [Bool.not_true, if_true, Bool.false_eq_true, if_false, sumW_cons]
      omega
theorem sum_flat (c : Int → Nat) (L : List Wd) (h : ∀ d ∈ L, c d.a + c d.b = c d.n) : sumI c (L.flatMap (fun d => [d.a, d.b])) = sumW c L := by
  induction L with
  | nil => rfl
  | cons d L ih =>
    have h1 := h d (by simp)
    have h2 := ih (fun e he => h e (by simp [he]))
    rw [List.flatMap_cons, sumI_app, h2, sumW_cons]
    show c d.a + (c d.b + 0) + _ = _
    omega
theorem sum_map (c : Int → Nat) (L : List Wd) : sumI c (L.map (·.n)) = sumW c L := by
  induction L with
  | nil => rfl
  | cons d L ih => rw [List.map_cons, sumW_cons, ← ih]; rfl
/-- the children of the pairs are those that have a parent -/
theorem Iv.kidsP {s : Ps} (h : Iv s) : ((s.L.filter (fun d => decide (d.k = 4))).flatMap (fun d => [d.a, d.b])).Perm ((s.L.filter (fun d => !decide (d.p = 0))).map (·.n)) := by
  have hK : ((s.L.filter (fun d => decide (d.k = 4))).flatMap (fun d => [d.a, d.b])).Nodup := by
    unfold List.Nodup
    rw [List.pairwise_flatMap]
    refine ⟨fun d hd => ?_, ?_⟩
    · obtain ⟨hm, hk⟩ := List.mem_filter.1 hd
      have e := of_self h.so hm
      have := (h.kid d.n (has_mem hm) (by rw [e]; simpa using hk)).2.2.1
      rw [e] at this
      simpa using this
    · have hpw := (sorted_pw.1 (sorted_filter h.so (fun d => decide (d.k = 4))))
      refine hpw.imp_of_mem (fun {d d'} hd hd' hlt x hx y hy => ?_)
      obtain ⟨hm, hk⟩ := List.mem_filter.1 hd
      obtain ⟨hm', hk'⟩ := List.mem_filter.1 hd'
      have e := of_self h.so hm
      have e' := of_self h.so hm'
      obtain ⟨_, _, _, pa, pb⟩ := h.kid d.n (has_mem hm) (by rw [e]; simpa using hk)
      obtain ⟨_, _, _, pa', pb'⟩ := h.kid d'.n (has_mem hm') (by rw [e']; simpa using hk')
      rw [e] at pa pb
      rw [e'] at pa' pb'
      have hx2 : (ofW s.L x).p = d.n := by
        simp at hx
        rcases hx with rfl | rfl
        · exact pa
        · exact pb
      have hy2 : (ofW s.L y).p = d'.n := by
        simp at hy
        rcases hy with rfl | rfl
        · exact pa'
        · exact pb'
      intro q
      rw [q, hy2] at hx2
      omega
  have hM : (((s.L.filter (fun d => !decide (d.p = 0))).map (·.n))).Nodup := by
    have hpw := sorted_pw.1 (sorted_filter h.so (fun d => !decide (d.p = 0)))
    unfold List.Nodup
    rw [List.pairwise_map]
    exact hpw.imp (fun {a b} q => by omega)
  have hmem : ∀ y, y ∈ ((s.L.filter (fun d => decide (d.k = 4))).flatMap (fun d => [d.a, d.b])) ↔ y ∈ ((s.L.filter (fun d => !decide (d.p = 0))).map (·.n)) := fun y => by
    constructor
    · intro hy
      obtain ⟨d, hd, hyd⟩ := List.mem_flatMap.1 hy
      obtain ⟨hm, hk⟩ := List.mem_filter.1 hd
      have e := of_self h.so hm
      obtain ⟨ka, kb, _, pa, pb⟩ := h.kid d.n (has_mem hm) (by rw [e]; simpa using hk)
      rw [e] at ka kb pa pb
      have hpos := h.pos d hm
      have key : hasW s.L y ∧ (ofW s.L y).p = d.n := by
        simp at hyd
        rcases hyd with rfl | rfl
        · exact ⟨ka, pa⟩
        · exact ⟨kb, pb⟩
      obtain ⟨m1, m2⟩ := of_mem key.1
      exact List.mem_map.2 ⟨ofW s.L y, List.mem_filter.2 ⟨m1, by simp [key.2]; omega⟩, m2⟩
    · intro hy
      obtain ⟨d, hd, rfl⟩ := List.mem_map.1 hy
      obtain ⟨hm, hp⟩ := List.mem_filter.1 hd
      have e := of_self h.so hm
      obtain ⟨hph, hpk, hpab⟩ := h.par d.n (has_mem hm) (by rw [e]; simpa using hp)
      rw [e] at hph hpk hpab
      obtain ⟨m1, m2⟩ := of_mem hph
      refine List.mem_flatMap.2 ⟨ofW s.L d.p, List.mem_filter.2 ⟨m1, by simpa using hpk⟩, ?_⟩
      simp
      rcases hpab with q | q
      · exact .inl q.symm
      · exact .inr q.symm
  have heq := rise_same _ _ (sort_rise hK) (sort_rise hM) (fun y => by rw [sort_mem, sort_mem]; exact hmem y)
  have p1 : ∀ zs : List Int, (sortI zs).Perm zs := fun zs => List.mergeSort_perm zs _
  have q1 := (p1 ((s.L.filter (fun d => decide (d.k = 4))).flatMap (fun d => [d.a, d.b]))).symm
  rw [heq] at q1
  exact q1.trans (p1 _)
/-- each place of the screen lies in just one window that is no pair -/
theorem Iv.tiles {s : Ps} (h : Iv s) (h0 : s.L.length ≠ 0) (x y : Int) (hx : 0 ≤ x ∧ x < s.w) (hy : 0 ≤ y ∧ y < s.h) :
    sumW (fun n => insN (rctF s 64 n) x y) (s.L.filter (fun d => !decide (d.k = 4))) = 1 := by
  have hroot : s.root ≠ 0 := fun e => h0 (h.rt0.1 e)
  have hrh := h.rh hroot
  have h1 := sum_split (fun n => insN (rctF s 64 n) x y) (fun d => decide (d.k = 4)) s.L
  have h2 := sum_split (fun n => insN (rctF s 64 n) x y) (fun d => decide (d.p = 0)) s.L
  have h3 := sum_flat (fun n => insN (rctF s 64 n) x y) (s.L.filter (fun d => decide (d.k = 4))) (fun d hd => by
    obtain ⟨hm, hk⟩ := List.mem_filter.1 hd
    have e := of_self h.so hm
    have := (ins_pair h (has_mem hm) (by rw [e]; simpa using hk) x y).2
    rwa [e] at this)
  have h4 := sum_map (fun n => insN (rctF s 64 n) x y) (s.L.filter (fun d => !decide (d.p = 0)))
  have h5 := sumI_perm (fun n => insN (rctF s 64 n) x y) h.kidsP
  have hp0 := (h.rt _ hrh).2 rfl
  have hone : ∃ d, s.L.filter (fun d => decide (d.p = 0)) = [d] ∧ d.n = s.root := by
    obtain ⟨m1, m2⟩ := of_mem hrh
    have hin : ofW s.L s.root ∈ s.L.filter (fun d => decide (d.p = 0)) := List.mem_filter.2 ⟨m1, by simpa using hp0⟩
    have hpw := sorted_pw.1 (sorted_filter h.so (fun d => decide (d.p = 0)))
    have hall : ∀ d ∈ s.L.filter (fun d => decide (d.p = 0)), d.n = s.root := fun d hd => by
      obtain ⟨hm, hp⟩ := List.mem_filter.1 hd
      have e := of_self h.so hm
      exact (h.rt d.n (has_mem hm)).1 (by rw [e]; simpa using hp)
    generalize s.L.filter (fun d => decide (d.p = 0)) = R at *
    match R, hin, hpw, hall with
    | [], hin, _, _ => cases hin
    | [d], _, _, hall => exact ⟨d, rfl, hall d (by simp)⟩
    | d :: d' :: R, _, hpw, hall =>
      have h1 := (List.pairwise_cons.1 hpw).1 d' (by simp)
      have h2 := hall d (by simp)
      have h3 := hall d' (by simp)
      omega
  obtain ⟨d, hd, hdn⟩ := hone
  rw [hd] at h2
  have hr1 : sumW (fun n => insN (rctF s 64 n) x y) [d] = 1 := by
    show insN (rctF s 64 d.n) x y + 0 = 1
    rw [hdn, rct_top hp0]
    unfold insN insB
    rw [if_pos (by simp; omega)]
  omega
def tilN (s : Ps) (x y : Int) (L : List Wd) : Nat := sumW (fun n => insN (rctF s 64 n) x y) (L.filter (fun d => !decide (d.k = 4)))
theorem tilN_snoc (s : Ps) (x y : Int) (L : List Wd) (j : Nat) (hj : j < L.length) : tilN s x y (L.take (j + 1)) = if L[j].k = 4 then tilN s x y (L.take j) else tilN s x y (L.take j) + insN (rctF s 64 L[j].n) x y := by
  have e : L.take (j + 1) = L.take j ++ [L[j]] := by rw [List.take_add_one, List.getElem?_eq_getElem hj]; rfl
  have happ : ∀ (c : Int → Nat) (A B : List Wd), sumW c (A ++ B) = sumW c A + sumW c B := by
    intro c A B
    induction A with
    | nil => simp [sumW]
    | cons d A ih => rw [List.cons_append, sumW_cons, sumW_cons, ih]; omega
  unfold tilN
  rw [e, List.filter_append, happ]
  by_cases q : L[j].k = 4
  · rw [if_pos q]; simp [q, sumW]
  · rw [if_neg q]; simp [q, sumW]
/-- a screen keeps its size, but where it is resized -/
theorem step_wh (s : Ps) (a : Ac) (h : a.k ≠ 7) : (stepS s a).w = s.w ∧ (stepS s a).h = s.h := by
  have hop : ∀ sp mt sz k, (openS s sp mt sz k).w = s.w ∧ (openS s sp mt sz k).h = s.h := by
    intro sp mt sz k
    unfold openS
    split
    · exact ⟨rfl, rfl⟩
    · have hj : ∀ (t : Ps) (p a b : Int), (joinS t p a b).w = t.w ∧ (joinS t p a b).h = t.h := by
        intro t p a b
        unfold joinS
        split <;> exact ⟨rfl, rfl⟩
      have hp : ∀ (t : Ps) (o n : Int), (putS t o n).w = t.w ∧ (putS t o n).h = t.h := by
        intro t o n
        unfold putS
        split <;> exact ⟨rfl, rfl⟩
      rw [(hj _ _ _ _).1, (hj _ _ _ _).2, (hp _ _ _).1, (hp _ _ _).2]
      exact ⟨rfl, rfl⟩
  unfold stepS
  split
  · unfold clN
    split <;> exact ⟨rfl, rfl⟩
  · split
    · unfold arN
      split <;> exact ⟨rfl, rfl⟩
    · unfold opN
      split
      · exact ⟨rfl, rfl⟩
      · split
        · exact hop _ _ _ _
        · exact ⟨rfl, rfl⟩
theorem run_wh (s : Ps) : ∀ ss : List Ac, (∀ a ∈ ss, a.k ≠ 7) → (runS s ss).w = s.w ∧ (runS s ss).h = s.h := by
  intro ss
  induction ss generalizing s with
  | nil => intro _; exact ⟨rfl, rfl⟩
  | cons a ss ih =>
    intro h
    have h1 := step_wh s a (h a (by simp))
    have h2 := ih (stepS s a) (fun b hb => h b (by simp [hb]))
    exact ⟨h2.1.trans h1.1, h2.2.trans h1.2⟩
end Go.Proofs.Ytilfgbcbodjegaa
namespace Go.Proofs.Ytilfgbcbodjegaa
open Go.RowKit
set_option maxHeartbeats 1000000
set_option maxRecDepth 100000
set_option linter.unusedVariables false

set_option maxHeartbeats 4000000 in
theorem inside_any (r : R4) (x y : Int) (hr : R4Ok r) (w : World) :
    Calls Try.prog 16 #[.agg #[.int .i64 r.x, .int .i64 r.y, .int .i64 r.w, .int .i64 r.h], .int .i64 x, .int .i64 y] w fun e w' => e = .returned (.bool (insB r x y)) ∧ Hid (Below w.heap.size w w') := by
  obtain ⟨RX, RY, RW, RH⟩ := r
  obtain ⟨x0, y0, w0, h0, xw, yh⟩ := hr
  simp only at *
  have e1 : IntKind.i64.wrap (RX + RW) = RX + RW := by rw [IntKind.wrap_i64]; omega
  have e2 : IntKind.i64.wrap (RY + RH) = RY + RH := by rw [IntKind.wrap_i64]; omega
  have hB : Hid (Below w.heap.size w (w.alloc (.cells #[.int .i64 RX, .int .i64 RY, .int .i64 RW, .int .i64 RH] 36))) := hidden ((Below.refl _ _).alloc (Nat.le_refl _) _)
  unfold insB
  clear x0 y0 w0 h0 xw yh
  by_cases c1 : x ≥ RX
  · by_cases c2 : x < RX + RW
    · by_cases c3 : y ≥ RY
      · by_cases c4 : y < RY + RH
        · rw [show decide (RX ≤ x ∧ x < RX + RW ∧ RY ≤ y ∧ y < RY + RH) = true from decide_eq_true ⟨c1, c2, c3, c4⟩]
          go_enter Try.func16, Try.ntmps16
          go_wp2
          go_ret
          exact ⟨by first | rfl | simp, hB⟩
        · rw [show decide (RX ≤ x ∧ x < RX + RW ∧ RY ≤ y ∧ y < RY + RH) = false from decide_eq_false (fun h => c4 h.2.2.2)]
          go_enter Try.func16, Try.ntmps16
          go_wp2
          go_ret
          exact ⟨by first | rfl | simp, hB⟩
      · rw [show decide (RX ≤ x ∧ x < RX + RW ∧ RY ≤ y ∧ y < RY + RH) = false from decide_eq_false (fun h => c3 h.2.2.1)]
        go_enter Try.func16, Try.ntmps16
        go_wp2
        go_ret
        exact ⟨by first | rfl | simp, hB⟩
    · rw [show decide (RX ≤ x ∧ x < RX + RW ∧ RY ≤ y ∧ y < RY + RH) = false from decide_eq_false (fun h => c2 h.2.1)]
      go_enter Try.func16, Try.ntmps16
      go_wp2
      go_ret
      exact ⟨by first | rfl | simp, hB⟩
  · rw [show decide (RX ≤ x ∧ x < RX + RW ∧ RY ≤ y ∧ y < RY + RH) = false from decide_eq_false (fun h => c1 h.1)]
    go_enter Try.func16, Try.ntmps16
    go_wp2
    go_ret
    exact ⟨by first | rfl | simp, hB⟩
end Go.Proofs.Ytilfgbcbodjegaa
namespace Go.Proofs.Ytilfgbcbodjegaa
open Go.RowKit
set_option maxHeartbeats 1000000
set_option maxRecDepth 100000
set_option linter.unusedVariables false

set_option maxHeartbeats 16000000 in
theorem paneTiles_main (a b : Int) (ha : 0 ≤ a ∧ a ≤ 255) (hb : 0 ≤ b ∧ b ≤ 255) {w : World} {ad : Option Addr} {len cap : Nat} {ss : List Ac} (hA : IsActs w ad len cap ss) (hlen : len ≤ 80)
    (HLV : Hid (∀ w1, Below w.heap.size w w1 → Calls Try.prog 10 #[] w1 fun e w' => e = .returned (.bool true) ∧ Hid (Below w.heap.size w w'))) :
    Calls Try.prog 3 #[.int .u8 a, .int .u8 b, .slice ad len cap] w fun e w' => e = .returned (.bool true) ∧ Hid (Below w.heap.size w w') := by
  have HSC := hidden (screen_any a b ha hb w)
  have HBG := hidden (begin_any (a % 60) (b % 40) (scr_ok a b ha hb) hA hlen)
  have hiv := iv_run (scr_ok a b ha hb) hA.ok (by have := hA.ln; omega) ss.length (Nat.le_refl _)
  have hsl := hA.ln
  rw [List.take_length] at hiv
  have hwh := run_wh ⟨a % 60, b % 40, 0, 0, []⟩ ss
  generalize runS ⟨a % 60, b % 40, 0, 0, []⟩ ss = s at *
  have ho := hiv.1
  have l80 : ¬ ((len : Int) > 80) := by omega
  obtain ⟨X, hX⟩ : ∃ X : Nat, a % 60 = X := Int.eq_ofNat_of_zero_le (by omega)
  obtain ⟨Y, hY⟩ : ∃ Y : Nat, b % 40 = Y := Int.eq_ofNat_of_zero_le (by omega)
  have hX60 : X < 60 := by omega
  have hY40 : Y < 40 := by omega
  rw [hX, hY] at HSC HBG
  rw [hX, hY] at hwh
  have HWH : Hid ((∀ j (hj : j < ss.length), ss[j].k ≠ 7) → s.w = X ∧ s.h = Y) := hidden (fun h => hwh (fun c hc => by
    obtain ⟨j, hj, rfl⟩ := List.getElem_of_mem hc
    exact h j hj))
  have HAC : Hid (∀ i (hi : i < ss.length), ∃ b o, ad = some ⟨b, o, none⟩ ∧ w.cell? ⟨b, o + i * 6, none⟩ = some (.int .i64 ss[i].k)) := hidden (fun i hi => by
    obtain ⟨b, o, h1, h2, _⟩ := hA.cells i hi
    exact ⟨b, o, h1, h2⟩)
  have HWD : Hid (∀ m dd wx, Tw w.heap.size m dd w wx s s [] → Calls Try.prog 13 #[.pointer (some ⟨m, 0, none⟩)] wx fun e w' => ∃ a c, e = .returned (.slice a s.L.length c) ∧ Hid (w'.ownsRow wx.heap.size 3 1 (.slice a s.L.length c) s.L.length (intsV (nsL s.L)) ∧ Below wx.heap.size wx w')) := hidden (fun m dd wx hx => tw_wins hx ho)
  have HKI : Hid (∀ m dd gs W1 wx y, Tw w.heap.size m dd w W1 s s gs → Hid (Below W1.heap.size W1 wx) → Calls Try.prog 15 #[.pointer (some ⟨m, 0, none⟩), .int .i64 y] wx fun e w' => e = .returned (.int .i64 (ofW s.L y).k) ∧ Hid (Below wx.heap.size wx w')) := hidden (fun m dd gs W1 wx y h1 h2 => (tw_knd (h1.later h2.out).1 ho y).mono (fun e w' hh => ⟨hh.1, hidden hh.2.out⟩))
  have HKS : Hid (∀ m dd gs W1 wx y, Tw w.heap.size m dd w W1 s s gs → Hid (Below W1.heap.size W1 wx) → Calls Try.prog 17 #[.pointer (some ⟨m, 0, none⟩), .int .i64 y] wx fun e w' => e = .returned (.tuple #[.int .i64 (ofW s.L y).a, .int .i64 (ofW s.L y).b]) ∧ Hid (Below wx.heap.size wx w')) := hidden (fun m dd gs W1 wx y h1 h2 => by
    obtain ⟨v, u, q1, _⟩ := (h1.later h2.out).1
    exact (kids_any q1 ho.toOkL.toOkP y).mono (fun e w' hh => ⟨hh.1, hidden hh.2⟩))
  have HRS : Hid (∀ m dd gs W1 wx y, Tw w.heap.size m dd w W1 s s gs → hasW s.L y → Hid (Below W1.heap.size W1 wx) → Calls Try.prog 14 #[.pointer (some ⟨m, 0, none⟩), .int .i64 y] wx fun e w' => e = .returned (.tuple #[.agg #[.int .i64 (rctF s 64 y).x, .int .i64 (rctF s 64 y).y, .int .i64 (rctF s 64 y).w, .int .i64 (rctF s 64 y).h], .bool true]) ∧ Hid (Below wx.heap.size wx w')) := hidden (fun m dd gs W1 wx y h1 hy h2 => (tw_rct (h1.later h2.out).1 ho y hy).mono (fun e w' hh => ⟨hh.1, hidden hh.2.out.2⟩))
  have HIN : Hid (∀ y, hasW s.L y → ∀ (px py : Int) wx, Calls Try.prog 16 #[.agg #[.int .i64 (rctF s 64 y).x, .int .i64 (rctF s 64 y).y, .int .i64 (rctF s 64 y).w, .int .i64 (rctF s 64 y).h], .int .i64 px, .int .i64 py] wx fun e w' => e = .returned (.bool (insB (rctF s 64 y) px py)) ∧ Hid (Below wx.heap.size wx w')) := hidden (fun y hy px py wx => inside_any _ px py (rct_ok ho.scr 64 y (ho.upk64 y hy)) wx)
  have HPI : Hid (∀ y, hasW s.L y → (ofW s.L y).k = 4 → hasW s.L (ofW s.L y).a ∧ hasW s.L (ofW s.L y).b ∧ ∀ px py, insB (rctF s 64 y) px py = (insB (rctF s 64 (ofW s.L y).a) px py || insB (rctF s 64 (ofW s.L y).b) px py)) := hidden (fun y hy h4 => ⟨(ho.kid y hy h4).1, (ho.kid y hy h4).2.1, fun px py => (ins_pair ho hy h4 px py).1⟩)
  have HHL : Hid (∀ k (hk : k < s.L.length), hasW s.L s.L[k].n) := hidden (fun k hk => has_mem (List.getElem_mem hk))
  have HTS : Hid (∀ px py k (hk : k < s.L.length), tilN s px py (s.L.take (k + 1)) = if (ofW s.L s.L[k].n).k = 4 then tilN s px py (s.L.take k) else tilN s px py (s.L.take k) + insN (rctF s 64 s.L[k].n) px py) := hidden (fun px py k hk => by
    rw [of_self ho.so (List.getElem_mem hk)]
    exact tilN_snoc s px py s.L k hk)
  have HTL : Hid (s.L.length ≠ 0 → ∀ (px py : Int), 0 ≤ px ∧ px < s.w → 0 ≤ py ∧ py < s.h → tilN s px py s.L = 1) := hidden (fun h0 px py h1 h2 => ho.tiles h0 px py h1 h2)
  have HNS : Hid (∀ k (hk : k < s.L.length), ∃ hk2 : k < (nsL s.L).length, (nsL s.L)[k] = s.L[k].n) := hidden (fun k hk => ⟨by simp [nsL, hk], by simp [nsL]⟩)
  have hN64 := ho.f63
  obtain ⟨N, hN⟩ : ∃ N, s.L.length = N := ⟨_, rfl⟩
  have HNN := hidden hN
  have HSL := hidden hsl
  rw [hN] at HWD hN64
  clear hN hiv ho hA hsl ha hb hwh hX hY
  go_enter Try.func3, Try.ntmps3
  go_upto_region 4 with fail
  go_loopw [7] (fun i w' => ∃ j : Nat, j ≤ len ∧ i = .int .i64 j ∧ w' = w ∧ Hid (∀ c (hc : c < ss.length), c < j → ss[c].k ≠ 7)) (fun i _ => len - (intOf i).toNat)
  case atStart => exact ⟨0, by omega, rfl, rfl, hidden (fun c hc h => by omega)⟩
  case round =>
    obtain ⟨j, hj, rfl, hwq, HJ⟩ := hrel
    have hwq2 := hwq.symm
    clear hwq
    subst hwq2
    by_cases hlt : j < len
    · have m1 : (j : Int) < len := by omega
      have m0 : (0 : Int) ≤ j := by omega
      have hj2 : j < ss.length := by rw [HSL.out]; exact hlt
      obtain ⟨bA, oA, rfl, c0⟩ := HAC.out j hj2
      by_cases h7 : ss[j].k = 7
      · rw [h7] at c0
        clear h7 HAC HJ HWH HSL HNN
        go_wp2_with (first
          | (go_at_call 10; refine (HLV.out _ (Below.refl _ _)).mono ?_; rintro e w10 ⟨rfl, HB10⟩)
          | fail)
        go_ret
        exact ⟨by first | rfl | simp, HB10⟩
      · have HJ2 : Hid (∀ c (hc : c < ss.length), c < j + 1 → ss[c].k ≠ 7) := hidden (fun c hc h => by
          by_cases e : c = j
          · subst e; exact h7
          · exact HJ.out c hc (by omega))
        have k7 : (ss[j].k == 7) = false := by rw [beq_eq_false_iff_ne]; exact h7
        generalize ss[j].k = kk at *
        clear h7
        go_wp2
        go_roundw
        case rel => exact ⟨j + 1, by omega, by first | rfl | go_num, by first | rfl | trivial, HJ2⟩
        case measure => simp [intOf]; omega
    · obtain rfl : j = len := by omega
      have hws := HWH.out (fun c hc => HJ.out c hc (by rw [← HSL.out]; exact hc))
      have HTL2 : Hid (N ≠ 0 → ∀ (px py : Nat), px < X → py < Y → tilN s px py s.L = 1) := hidden (fun h0 px py h1 h2 => HTL.out (by rw [HNN.out]; exact h0) px py (by rw [hws.1]; omega) (by rw [hws.2]; omega))
      clear HJ HWH hws HTL HAC HSL hlt
      go_upto_region 12 with (first
        | (go_at_call 11; refine HSC.out.mono ?_; rintro e w1 ⟨rfl, e9⟩; rw [e9]; clear e9)
        | (go_at_call 12; refine HBG.out.mono ?_; rintro e w2 ⟨m, dd, rfl, HT2⟩)
        | fail)
      clear HSC HBG
      go_upto_region 13 with (first
        | (go_at_call 13; refine (HWD.out _ _ _ HT2.out).mono ?_; rintro e w4 ⟨a4, c4, rfl, HW4⟩)
        | fail)
      have HT4 := hidden (HT2.out.later HW4.out.2).1
      have HCB : Hid (∀ k (hk : k < s.L.length), ∃ g, a4 = some ⟨g, 0, none⟩ ∧ ∀ wx, Hid (Below w4.heap.size w4 wx) → wx.cell? ⟨g, k, none⟩ = some (.int .i64 s.L[k].n)) := hidden (fun k hk => by
        obtain ⟨k2, e2⟩ := HNS.out k hk
        obtain ⟨g, c, hs, _, _⟩ := irow_cell HW4.out.1 k k2
        simp only [Value.slice.injEq] at hs
        refine ⟨g, hs.1, fun wx hb => ?_⟩
        obtain ⟨g', c', hs', hc', _⟩ := irow_cell (own_later HW4.out.1 hb.out) k k2
        simp only [Value.slice.injEq] at hs'
        have : g' = g := by have := hs.1.symm.trans hs'.1; simp at this; omega
        rw [this] at hc'
        rw [hc', e2])
      have HLG : Hid (∀ wx, Hid (Below w4.heap.size w4 wx) → Below w.heap.size w wx) := hidden (fun wx h2 => HT4.out.bel.trans (h2.out.mono HT4.out.bel.size))
      have HKI4 := hidden (fun wx y h => HKI.out m dd _ w4 wx y HT4.out h)
      have HKS4 := hidden (fun wx y h => HKS.out m dd _ w4 wx y HT4.out h)
      have HRS4 := hidden (fun wx y hy h => HRS.out m dd _ w4 wx y HT4.out hy h)
      clear HW4 HT2 HT4 HWD HNS HKI HKS HRS
      go_upto_region 14 with fail
      go_loopw [13] (fun i w' => ∃ y : Nat, y ≤ Y ∧ i = .int .i64 y ∧ Hid (Below w4.heap.size w4 w')) (fun i _ => Y - (intOf i).toNat)
      case atStart => exact ⟨0, by omega, rfl, hidden (Below.refl _ _)⟩
      case round =>
        obtain ⟨y, hy, rfl, HBy⟩ := hrel
        generalize hwq : wr = wq at *
        clear hwq
        by_cases hlty : y < Y
        · have my1 : (y : Int) < Y := by omega
          have my0 : (0 : Int) ≤ y := by omega
          go_upto_region 17 with fail
          go_loopw [14] (fun i w' => ∃ x : Nat, x ≤ X ∧ i = .int .i64 x ∧ Hid (Below w4.heap.size w4 w')) (fun i _ => X - (intOf i).toNat)
          case atStart => exact ⟨0, by omega, rfl, HBy⟩
          case round =>
            obtain ⟨x, hx, rfl, HBx⟩ := hrel
            generalize hwq2 : wr = wq2 at *
            clear hwq2
            by_cases hltx : x < X
            · have mx1 : (x : Int) < X := by omega
              have mx0 : (0 : Int) ≤ x := by omega
              have HT1 := hidden (fun h0 => HTL2.out h0 x y hltx hlty)
              have HTSx := hidden (fun k hk => HTS.out x y k hk)
              go_upto_region 21 with fail
              go_loopw [15, 16] (fun n i w' => ∃ (k q : Nat), k ≤ N ∧ i = .int .i64 k ∧ n = .int .i64 q ∧ Hid (tilN s x y (s.L.take k) = q) ∧ q ≤ k ∧ Hid (Below w4.heap.size w4 w')) (fun _ i _ => N - (intOf i).toNat)
              case atStart => exact ⟨0, 0, by omega, rfl, rfl, hidden (by simp [tilN, sumW]), by omega, HBx⟩
              case round =>
                obtain ⟨k, q, hk, rfl, rfl, HQ, hqk, HB⟩ := hrel
                by_cases hlt : k < N
                · have m1 : (k : Int) < N := by omega
                  have m0 : (0 : Int) ≤ k := by omega
                  have hk2 : k < s.L.length := by rw [HNN.out]; exact hlt
                  obtain ⟨gB, rfl, hcb⟩ := HCB.out k hk2
                  have HCY := hidden hcb
                  have c0 := hcb _ HB
                  have hHk := HHL.out k hk2
                  have HTk := HTSx.out k hk2
                  rw [HQ.out] at HTk
                  have HRk := hidden (fun wx h => HRS4.out wx s.L[k].n hHk h)
                  have HKk := hidden (fun wx h => HKI4.out wx s.L[k].n h)
                  have HIk := hidden (fun wx => HIN.out s.L[k].n hHk x y wx)
                  generalize s.L[k].n = YK at *
                  clear hcb HCB HTSx HTS HT1 HTL2 HQ HBx HBy HLV HLG hk2 hlt
                  by_cases h4 : (ofW s.L YK).k = 4
                  · rw [h4] at HKk HTk
                    rw [if_pos rfl] at HTk
                    have HTN := hidden HTk
                    obtain ⟨ka, kb, hor⟩ := HPI.out YK hHk h4
                    have hor2 := hor x y
                    have HKSk := hidden (fun wx h => HKS4.out wx YK h)
                    have HRA := hidden (fun wx h => HRS4.out wx (ofW s.L YK).a ka h)
                    have HRB := hidden (fun wx h => HRS4.out wx (ofW s.L YK).b kb h)
                    have HIA := hidden (fun wx => HIN.out (ofW s.L YK).a ka x y wx)
                    have HIB := hidden (fun wx => HIN.out (ofW s.L YK).b kb x y wx)
                    clear hor h4 hHk HKI4 HKS4 HRS4 HIN HPI HHL HNN ka kb HTk
                    generalize (ofW s.L YK).a = KA at *
                    generalize (ofW s.L YK).b = KB at *
                    rw [hor2] at HIk
                    clear hor2
                    generalize insB (rctF s 64 KA) x y = DA at *
                    generalize insB (rctF s 64 KB) x y = DB at *
                    generalize rctF s 64 YK = R at *
                    generalize rctF s 64 KA = RA at *
                    generalize rctF s 64 KB = RB at *
                    obtain ⟨RX, RY, RW, RH⟩ := R
                    obtain ⟨AX, AY, AW, AH⟩ := RA
                    obtain ⟨BX', BY, BW', BH⟩ := RB
                    simp only at *
                    go_upto_region 24 with (first
                      | (go_at_call 14; refine (HRk.out _ HB).mono ?_; rintro e w6 ⟨rfl, HB6⟩)
                      | fail)
                    have hb6 := HB.out.trans (HB6.out.mono HB.out.size)
                    have hb9 : Below w6.heap.size w6 (w6.alloc (.cells #[.int .i64 RX, .int .i64 RY, .int .i64 RW, .int .i64 RH] 36)) := (Below.refl _ _).alloc (Nat.le_refl _) _
                    have Q7 := hidden (rc_box w6 RX RY RW RH)
                    have HB7 := hidden (hb6.trans (hb9.mono hb6.size))
                    clear hb6 hb9 HB6 HRk c0
                    generalize w6.alloc (.cells #[.int .i64 RX, .int .i64 RY, .int .i64 RW, .int .i64 RH] 36) = w7 at *
                    generalize w6.heap.size = G1 at *
                    clear w6
                    have c0 := HCY.out _ HB7
                    go_upto_region 29 with (first
                      | (go_at_call 15; refine (HKk.out _ HB7).mono ?_; rintro e w8 ⟨rfl, HB8⟩)
                      | fail)
                    have HB8b := hidden (HB7.out.trans (HB8.out.mono HB7.out.size))
                    have Q8 := hidden (q4_later Q7.out HB8.out)
                    clear c0 HKk HB7 HB8 Q7
                    have c0 := HCY.out _ HB8b
                    go_upto_region 30 with (first
                      | (go_at_call 17; refine (HKSk.out _ HB8b).mono ?_; rintro e w9 ⟨rfl, HB9⟩)
                      | fail)
                    have HB9b := hidden (HB8b.out.trans (HB9.out.mono HB8b.out.size))
                    have Q9 := hidden (q4_later Q8.out HB9.out)
                    clear c0 HKSk HB8b HB9 Q8 HCY
                    go_upto_region 31 with (first
                      | (go_at_call 14; refine (HRA.out _ HB9b).mono ?_; rintro e w10 ⟨rfl, HB10⟩)
                      | fail)
                    have hb10 := HB9b.out.trans (HB10.out.mono HB9b.out.size)
                    have hb9 : Below w10.heap.size w10 (w10.alloc (.cells #[.int .i64 AX, .int .i64 AY, .int .i64 AW, .int .i64 AH] 36)) := (Below.refl _ _).alloc (Nat.le_refl _) _
                    have Q11a := hidden (rc_box w10 AX AY AW AH)
                    have Q11 := hidden (q4_later (q4_later Q9.out HB10.out) hb9)
                    have HB11 := hidden (hb10.trans (hb9.mono hb10.size))
                    clear hb10 hb9 HB10 HRA Q9 HB9b
                    generalize w10.alloc (.cells #[.int .i64 AX, .int .i64 AY, .int .i64 AW, .int .i64 AH] 36) = w11 at *
                    generalize w10.heap.size = G2 at *
                    clear w10
                    go_upto_region 32 with (first
                      | (go_at_call 14; refine (HRB.out _ HB11).mono ?_; rintro e w12 ⟨rfl, HB12⟩)
                      | fail)
                    have hb12 := HB11.out.trans (HB12.out.mono HB11.out.size)
                    have hb9 : Below w12.heap.size w12 (w12.alloc (.cells #[.int .i64 BX', .int .i64 BY, .int .i64 BW', .int .i64 BH] 36)) := (Below.refl _ _).alloc (Nat.le_refl _) _
                    have Q13b := hidden (rc_box w12 BX' BY BW' BH)
                    have Q13a := hidden (q4_later (q4_later Q11a.out HB12.out) hb9)
                    have Q13 := hidden (q4_later (q4_later Q11.out HB12.out) hb9)
                    have HB13 := hidden (hb12.trans (hb9.mono hb12.size))
                    clear hb12 hb9 HB12 HRB Q11 Q11a HB11
                    generalize w12.alloc (.cells #[.int .i64 BX', .int .i64 BY, .int .i64 BW', .int .i64 BH] 36) = w13 at *
                    generalize w12.heap.size = G3 at *
                    clear w12
                    have HI1 := hidden (fun z : BX w13 => (HIk.out z.w).mono (fun e w' hh => And.intro hh.1 (show ∃ z' : BX w13, w' = z'.w from ⟨⟨w', z.h.trans (hh.2.out.mono z.h.size)⟩, rfl⟩)))
                    have HI2 := hidden (fun z : BX w13 => (HIA.out z.w).mono (fun e w' hh => And.intro hh.1 (show ∃ z' : BX w13, w' = z'.w from ⟨⟨w', z.h.trans (hh.2.out.mono z.h.size)⟩, rfl⟩)))
                    have HI3 := hidden (fun z : BX w13 => (HIB.out z.w).mono (fun e w' hh => And.intro hh.1 (show ∃ z' : BX w13, w' = z'.w from ⟨⟨w', z.h.trans (hh.2.out.mono z.h.size)⟩, rfl⟩)))
                    clear HIk HIA HIB
                    have ho0 : ∀ z : BX w13, z.w.cell? ⟨G1, 0, none⟩ = some (.int .i64 RX) := fun z => (q4_later Q13.out z.h).1
                    have ho1 : ∀ z : BX w13, z.w.cell? ⟨G1, 1, none⟩ = some (.int .i64 RY) := fun z => (q4_later Q13.out z.h).2.1
                    have ho2 : ∀ z : BX w13, z.w.cell? ⟨G1, 2, none⟩ = some (.int .i64 RW) := fun z => (q4_later Q13.out z.h).2.2.1
                    have ho3 : ∀ z : BX w13, z.w.cell? ⟨G1, 3, none⟩ = some (.int .i64 RH) := fun z => (q4_later Q13.out z.h).2.2.2
                    have ha0 : ∀ z : BX w13, z.w.cell? ⟨G2, 0, none⟩ = some (.int .i64 AX) := fun z => (q4_later Q13a.out z.h).1
                    have ha1 : ∀ z : BX w13, z.w.cell? ⟨G2, 1, none⟩ = some (.int .i64 AY) := fun z => (q4_later Q13a.out z.h).2.1
                    have ha2 : ∀ z : BX w13, z.w.cell? ⟨G2, 2, none⟩ = some (.int .i64 AW) := fun z => (q4_later Q13a.out z.h).2.2.1
                    have ha3 : ∀ z : BX w13, z.w.cell? ⟨G2, 3, none⟩ = some (.int .i64 AH) := fun z => (q4_later Q13a.out z.h).2.2.2
                    have hc0 : ∀ z : BX w13, z.w.cell? ⟨G3, 0, none⟩ = some (.int .i64 BX') := fun z => (q4_later Q13b.out z.h).1
                    have hc1 : ∀ z : BX w13, z.w.cell? ⟨G3, 1, none⟩ = some (.int .i64 BY) := fun z => (q4_later Q13b.out z.h).2.1
                    have hc2 : ∀ z : BX w13, z.w.cell? ⟨G3, 2, none⟩ = some (.int .i64 BW') := fun z => (q4_later Q13b.out z.h).2.2.1
                    have hc3 : ∀ z : BX w13, z.w.cell? ⟨G3, 3, none⟩ = some (.int .i64 BH) := fun z => (q4_later Q13b.out z.h).2.2.2
                    clear Q13 Q13a Q13b
                    haveI : Nonempty (BX w13) := ⟨⟨w13, Below.refl _ _⟩⟩
                    cases DA <;> cases DB
                    all_goals
                      simp only [Bool.or_false, Bool.or_true] at HI1
                      refine wp_region_X (fun w' => ∃ z : BX w13, w' = z.w) (by kernel_rfl) (by kernel_rfl) ⟨⟨_, (Below.refl _ _).drew⟩, rfl⟩ ?_
                      repeat (go_big_quiet_step ((first
                        | (go_at_call_of 16 (Value.agg #[.int .i64 RX, .int .i64 RY, .int .i64 RW, .int .i64 RH]); exact HI1.out _)
                        | (go_at_call_of 16 (Value.agg #[.int .i64 AX, .int .i64 AY, .int .i64 AW, .int .i64 AH]); exact HI2.out _)
                        | (go_at_call_of 16 (Value.agg #[.int .i64 BX', .int .i64 BY, .int .i64 BW', .int .i64 BH]); exact HI3.out _))))
                      refine wpQuiet_nil ?_
                      intro w14 hw14
                      obtain ⟨z14, hz14⟩ := hw14
                      have HB14 : Hid (Below w4.heap.size w4 w14) := hidden (by rw [hz14]; exact HB13.out.trans (z14.h.mono HB13.out.size))
                      clear hz14 z14 ho0 ho1 ho2 ho3 ha0 ha1 ha2 ha3 hc0 hc1 hc2 hc3 HI1 HI2 HI3
                      go_wp2
                      go_roundw
                      case rel => exact ⟨k + 1, q, by omega, by first | rfl | go_num, by first | rfl | go_num, HTN, by omega, HB14⟩
                      case measure => simp [intOf]; omega
                  · have kne : ((ofW s.L YK).k != 4) = true := by rw [bne_iff_ne]; exact h4
                    rw [if_neg h4] at HTk
                    unfold insN at HTk
                    have HTN := hidden HTk
                    clear h4 hHk HKI4 HKS4 HRS4 HIN HPI HHL HNN HTk
                    generalize (ofW s.L YK).k = KK at *
                    obtain ⟨D, hD⟩ : ∃ D, insB (rctF s 64 YK) x y = D := ⟨_, rfl⟩
                    rw [hD] at HIk HTN
                    clear hD
                    generalize rctF s 64 YK = R at *
                    obtain ⟨RX, RY, RW, RH⟩ := R
                    simp only at *
                    go_upto_region 24 with (first
                      | (go_at_call 14; refine (HRk.out _ HB).mono ?_; rintro e w6 ⟨rfl, HB6⟩)
                      | fail)
                    have hb6 := HB.out.trans (HB6.out.mono HB.out.size)
                    have hb9 : Below w6.heap.size w6 (w6.alloc (.cells #[.int .i64 RX, .int .i64 RY, .int .i64 RW, .int .i64 RH] 36)) := (Below.refl _ _).alloc (Nat.le_refl _) _
                    have Q7 := hidden (rc_box w6 RX RY RW RH)
                    have HB7 := hidden (hb6.trans (hb9.mono hb6.size))
                    clear hb6 hb9 HB6 HRk c0
                    generalize w6.alloc (.cells #[.int .i64 RX, .int .i64 RY, .int .i64 RW, .int .i64 RH] 36) = w7 at *
                    generalize w6.heap.size = G1 at *
                    clear w6
                    have c0 := HCY.out _ HB7
                    go_upto_region 27 with (first
                      | (go_at_call 15; refine (HKk.out _ HB7).mono ?_; rintro e w8 ⟨rfl, HB8⟩)
                      | fail)
                    have HB8b := hidden (HB7.out.trans (HB8.out.mono HB7.out.size))
                    obtain ⟨q0, q1, q2, q3⟩ := q4_later Q7.out HB8.out
                    clear c0 HKk HB7 HB8 Q7 HCY kne
                    cases D
                    · go_wp2_with (first
                        | (go_at_call 16; refine (HIk.out _).mono ?_; rintro e w9 ⟨rfl, HB9⟩)
                        | fail)
                      go_roundw
                      case rel => exact ⟨k + 1, q, by omega, by first | rfl | go_num, by first | rfl | go_num, HTN, by omega, hidden (HB8b.out.trans (HB9.out.mono HB8b.out.size))⟩
                      case measure => simp [intOf]; omega
                    · go_wp2_with (first
                        | (go_at_call 16; refine (HIk.out _).mono ?_; rintro e w9 ⟨rfl, HB9⟩)
                        | fail)
                      go_roundw
                      case rel => exact ⟨k + 1, q + 1, by omega, by first | rfl | go_num, by first | rfl | go_num, HTN, by omega, hidden (HB8b.out.trans (HB9.out.mono HB8b.out.size))⟩
                      case measure => simp [intOf]; omega
                · obtain rfl : k = N := by omega
                  have hqe : tilN s x y s.L = q := by rw [← HQ.out, List.take_of_length_le (by rw [HNN.out]; omega)]
                  by_cases hk0 : k = 0
                  · have hq0 : q = 0 := by omega
                    subst hk0
                    subst hq0
                    clear hqe HQ HT1 HTSx HCB
                    go_wp2
                    go_roundw
                    case rel => exact ⟨x + 1, by omega, by first | rfl | go_num, HB⟩
                    case measure => simp [intOf]; omega
                  · have hq1 : q = 1 := by rw [← hqe]; exact HT1.out hk0
                    subst hq1
                    clear hqe HQ HT1 HTSx HCB
                    go_wp2
                    go_roundw
                    case rel => exact ⟨x + 1, by omega, by first | rfl | go_num, HB⟩
                    case measure => simp [intOf]; omega
            · obtain rfl : x = X := by omega
              go_wp2
              go_roundw
              case rel => exact ⟨y + 1, by omega, by first | rfl | go_num, HBx⟩
              case measure => simp [intOf]; omega
        · obtain rfl : y = Y := by omega
          go_wp2_with (first
            | (go_at_call 10; refine (HLV.out _ (HLG.out _ HBy)).mono ?_; rintro e w10 ⟨rfl, HB10⟩)
            | fail)
          go_ret
          exact ⟨by first | rfl | simp, HB10⟩
end Go.Proofs.Ytilfgbcbodjegaa
namespace Go.Proofs.Ytilfgbcbodjegaa
open Go.RowKit
set_option maxHeartbeats 1000000
set_option maxRecDepth 100000
set_option linter.unusedVariables false

set_option maxHeartbeats 4000000 in
theorem paneTiles_walk (a b : Int) (ad : Option Addr) (len cap : Nat) (ss : List Ac) (w : World) (wa : (Lit.int .u8 a).wf = true) (wb : (Lit.int .u8 b).wf = true) (hA : IsActs w ad len cap ss) :
    Calls Try.prog 3 #[.int .u8 a, .int .u8 b, .slice ad len cap] w fun e w' => e = .returned (.bool true) ∧ Below w.heap.size w w' := by
  have HLV : Hid (∀ w1, Below w.heap.size w w1 → Calls Try.prog 10 #[] w1 fun e w' => e = .returned (.bool true) ∧ Hid (Below w.heap.size w w')) := hidden (fun w1 hb => (live_any w1).mono (fun e w' hh => ⟨hh.1, hidden (hb.trans (hh.2.mono hb.size))⟩))
  by_cases hl : len ≤ 80
  · exact (paneTiles_main a b (wf_u8 wa) (wf_u8 wb) hA hl HLV).mono (fun e w' hh => ⟨hh.1, hh.2.out⟩)
  · have l80 : (len : Int) > 80 := by omega
    clear hA hl wa wb
    go_enter Try.func3, Try.ntmps3
    go_wp2_with (first | (go_at_call 10; refine (HLV.out _ (Below.refl _ _)).mono ?_; rintro e w9 ⟨rfl, HB9⟩) | fail)
    go_ret
    exact ⟨by first | rfl | simp, HB9.out⟩
end Go.Proofs.Ytilfgbcbodjegaa
