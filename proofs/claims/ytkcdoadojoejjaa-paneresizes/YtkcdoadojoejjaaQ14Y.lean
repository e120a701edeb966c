/- Layer 14, the law: both tell the same of a window. Layer 14, the law: both tell the same of all. Layer 14, the law: acts that came in; begin. Layer 14: an argument that is a slice of acts, opened. Layer 14: the walk of PanePlays. Layer 14: a screen that is made another one; the walk of PaneResizes. Layer 14: the walk of PaneResizes. -/
import Derived.Test.YtkcdoadojoejjaaQ14i
import Derived.Deep.Slices
import Derived.Deep.SlicePairs
import Derived.ChangeSlices
import Derived.SizedLaws
import Derived.Lib.SmallJoins
namespace Go.Proofs.Ytkcdoadojoejjaa
open Go.RowKit
set_option maxHeartbeats 1000000
set_option maxRecDepth 100000
set_option linter.unusedVariables false

theorem bx_later {w wx wy : World} {X : Nat} {o : Obj} (h : Below w.heap.size w wx ∧ wx.heap[X]? = some o) (hb : Below wx.heap.size wx wy) : Below w.heap.size w wy ∧ wy.heap[X]? = some o :=
  ⟨h.1.trans (hb.mono h.1.size), by rw [hb.block X (Array.getElem?_eq_some_iff.1 h.2).1]; exact h.2⟩
/-- the boxes of a call of alike: the window, where it lies, twice -/
structure AkB (w wx : World) (X R S : Nat) (d : Wd) (r : R4) : Prop where
  bel : Below w.heap.size w wx
  bx : wx.heap[X]? = some (.cells (wdV d).toArray 67 (0, 0))
  br : wx.heap[R]? = some (.cells (r4V r) 49 (0, 0))
  bs : wx.heap[S]? = some (.cells (r4V r) 49 (0, 0))
theorem AkB.later {w wx wy : World} {X R S : Nat} {d : Wd} {r : R4} (h : AkB w wx X R S d r) (hb : Below wx.heap.size wx wy) : AkB w wy X R S d r :=
  ⟨h.bel.trans (hb.mono h.bel.size), by rw [hb.block X (Array.getElem?_eq_some_iff.1 h.bx).1]; exact h.bx, by rw [hb.block R (Array.getElem?_eq_some_iff.1 h.br).1]; exact h.br, by rw [hb.block S (Array.getElem?_eq_some_iff.1 h.bs).1]; exact h.bs⟩
theorem AkB.cells {w wx : World} {X R S : Nat} {d : Wd} {r : R4} (h : AkB w wx X R S d r) : wx.cell? ⟨X, 1, none⟩ = some (.int .i64 d.k) ∧ wx.cell? ⟨X, 2, none⟩ = some (.int .i64 d.p) ∧ wx.cell? ⟨X, 3, none⟩ = some (.int .i64 d.a) ∧ wx.cell? ⟨X, 4, none⟩ = some (.int .i64 d.b) ∧ wx.cell? ⟨R, 0, none⟩ = some (.int .i64 r.x) ∧ wx.cell? ⟨R, 1, none⟩ = some (.int .i64 r.y) ∧ wx.cell? ⟨R, 2, none⟩ = some (.int .i64 r.w) ∧ wx.cell? ⟨R, 3, none⟩ = some (.int .i64 r.h) ∧ wx.cell? ⟨S, 0, none⟩ = some (.int .i64 r.x) ∧ wx.cell? ⟨S, 1, none⟩ = some (.int .i64 r.y) ∧ wx.cell? ⟨S, 2, none⟩ = some (.int .i64 r.w) ∧ wx.cell? ⟨S, 3, none⟩ = some (.int .i64 r.h) := by
  have hx := h.bx
  have hr := h.br
  have hs := h.bs
  refine ⟨?_, ?_, ?_, ?_, ?_, ?_, ?_, ?_, ?_, ?_, ?_, ?_⟩ <;> simp [World.cell?, hx, hr, hs, wdV, r4V]
theorem AkB.cells2 {w wx : World} {X R S : Nat} {d : Wd} {r : R4} (h : AkB w wx X R S d r) : wx.cell? ⟨X, 5, none⟩ = some (.int .i64 d.m) ∧ wx.cell? ⟨X, 6, none⟩ = some (.int .u32 d.s) ∧ wx.cell? ⟨X, 7, none⟩ = some (.int .i64 d.key) := by
  have hx := h.bx
  refine ⟨?_, ?_, ?_⟩ <;> simp [World.cell?, hx, wdV]
set_option maxHeartbeats 16000000 in
theorem alike_of {m dd : Nat} {w : World} (x : Int) (d : Wd) (r : R4) (ok : Bool) (E SB : Int) (hE : 0 ≤ E ∧ E ≤ 100)
    (HOF : Hid (∀ w1, Below w.heap.size w w1 → Calls Try.prog 29 #[.pointer (some ⟨dd, 0, none⟩), .int .i64 x] w1 fun e w' => e = .returned (wdA d) ∧ Hid (Below w1.heap.size w1 w')))
    (HKD : Hid (∀ w1, Below w.heap.size w w1 → Calls Try.prog 26 #[.pointer (some ⟨m, 0, none⟩), .int .i64 x] w1 fun e w' => e = .returned (.tuple #[.int .i64 d.a, .int .i64 d.b]) ∧ Hid (Below w1.heap.size w1 w')))
    (HAR : Hid (∀ w1, Below w.heap.size w w1 → Calls Try.prog 27 #[.pointer (some ⟨m, 0, none⟩), .int .i64 x] w1 fun e w' => e = .returned (.tuple #[.int .i64 d.m, .int .u32 d.s, .int .i64 d.key, .int .i64 E]) ∧ Hid (Below w1.heap.size w1 w')))
    (HRC : Hid (∀ w1, Below w.heap.size w w1 → Calls Try.prog 19 #[.pointer (some ⟨m, 0, none⟩), .int .i64 x] w1 fun e w' => e = .returned (.tuple #[r4A r, .bool ok]) ∧ Hid (Below w1.heap.size w1 w')))
    (HDR : Hid (∀ w1, Below w.heap.size w w1 → Calls Try.prog 61 #[.pointer (some ⟨dd, 0, none⟩), .int .i64 x] w1 fun e w' => e = .returned (.tuple #[r4A r, .bool ok]) ∧ Hid (Below w1.heap.size w1 w')))
    (HKI : Hid (∀ w1, Below w.heap.size w w1 → Calls Try.prog 30 #[.pointer (some ⟨m, 0, none⟩), .int .i64 x] w1 fun e w' => e = .returned (.int .i64 d.k) ∧ Hid (Below w1.heap.size w1 w')))
    (HPA : Hid (∀ w1, Below w.heap.size w w1 → Calls Try.prog 43 #[.pointer (some ⟨m, 0, none⟩), .int .i64 x] w1 fun e w' => e = .returned (.int .i64 d.p) ∧ Hid (Below w1.heap.size w1 w')))
    (HDP : Hid (∀ w1, Below w.heap.size w w1 → Calls Try.prog 58 #[.pointer (some ⟨dd, 0, none⟩), .int .i64 x] w1 fun e w' => e = .returned (.int .i64 E) ∧ Hid (Below w1.heap.size w1 w')))
    (HSI : Hid (∀ w1, Below w.heap.size w w1 → Calls Try.prog 45 #[.pointer (some ⟨m, 0, none⟩), .int .i64 x] w1 fun e w' => e = .returned (.int .i64 SB) ∧ Hid (Below w1.heap.size w1 w')))
    (HDS : Hid (∀ w1, Below w.heap.size w w1 → Calls Try.prog 57 #[.pointer (some ⟨dd, 0, none⟩), .int .i64 x] w1 fun e w' => e = .returned (.int .i64 SB) ∧ Hid (Below w1.heap.size w1 w')))
    (hc : (d.k ≠ 0 ∧ d.p ≠ 0) ∨ (d.k = 0 ∧ d.p = 0 ∧ SB = 0) ∨ (d.k ≠ 0 ∧ d.p = 0 ∧ SB = 0)) :
    Calls Try.prog 39 #[.pointer (some ⟨m, 0, none⟩), .pointer (some ⟨dd, 0, none⟩), .int .i64 x] w fun e w' => e = .returned (.bool true) ∧ Hid (Below w.heap.size w w') := by
  have HC := hidden hc
  have HNU := hidden (fun wx => num_any E wx hE.1 hE.2)
  unfold wdA at HOF
  unfold r4A at HRC HDR
  clear hc hE
  go_enter Try.func39, Try.ntmps39
  go_upto_region 2 with (first | (go_at_call 29; refine (HOF.out _ (Below.refl _ _)).mono ?_; rintro e w1 ⟨rfl, HB1⟩) | fail)
  have HX1 : Hid (Below w.heap.size w (w1.alloc (.cells #[.int .i64 d.n, .int .i64 d.k, .int .i64 d.p, .int .i64 d.a, .int .i64 d.b, .int .i64 d.m, .int .u32 d.s, .int .i64 d.key] 67)) ∧ (w1.alloc (.cells #[.int .i64 d.n, .int .i64 d.k, .int .i64 d.p, .int .i64 d.a, .int .i64 d.b, .int .i64 d.m, .int .u32 d.s, .int .i64 d.key] 67)).heap[w1.heap.size]? = some (.cells (wdV d).toArray 67 (0, 0))) := hidden ⟨HB1.out.alloc HB1.out.size _, heap_alloc_new w1 _⟩
  generalize w1.alloc (.cells #[.int .i64 d.n, .int .i64 d.k, .int .i64 d.p, .int .i64 d.a, .int .i64 d.b, .int .i64 d.m, .int .u32 d.s, .int .i64 d.key] 67) = W1 at *
  generalize w1.heap.size = X at *
  clear HB1 HOF
  go_upto_region 5 with (first
    | (go_at_call 26; refine (HKD.out _ HX1.out.1).mono ?_; rintro e w2 ⟨rfl, HB2⟩; have HX2 := hidden (bx_later HX1.out HB2.out))
    | (go_at_call 27; refine (HAR.out _ HX2.out.1).mono ?_; rintro e w3 ⟨rfl, HB3⟩; have HX3 := hidden (bx_later HX2.out HB3.out))
    | (go_at_call 19; refine (HRC.out _ HX3.out.1).mono ?_; rintro e w4 ⟨rfl, HB4⟩; have HX4 := hidden (bx_later HX3.out HB4.out))
    | fail)
  have HX5 : Hid ((Below w.heap.size w (w4.alloc (.cells #[.int .i64 r.x, .int .i64 r.y, .int .i64 r.w, .int .i64 r.h] 49)) ∧ (w4.alloc (.cells #[.int .i64 r.x, .int .i64 r.y, .int .i64 r.w, .int .i64 r.h] 49)).heap[X]? = some (.cells (wdV d).toArray 67 (0, 0))) ∧ (w4.alloc (.cells #[.int .i64 r.x, .int .i64 r.y, .int .i64 r.w, .int .i64 r.h] 49)).heap[w4.heap.size]? = some (.cells (r4V r) 49 (0, 0))) := hidden ⟨bx_later HX4.out ((Below.refl _ _).alloc (Nat.le_refl _) _), heap_alloc_new w4 _⟩
  generalize w4.alloc (.cells #[.int .i64 r.x, .int .i64 r.y, .int .i64 r.w, .int .i64 r.h] 49) = W5 at *
  generalize w4.heap.size = R at *
  clear HX1 HX2 HX3 HX4 HB2 HB3 HB4 HKD HAR HRC
  go_upto_region 6 with (first
    | (go_at_call 61; refine (HDR.out _ HX5.out.1.1).mono ?_; rintro e w6 ⟨rfl, HB6⟩; have HX6 := hidden (And.intro (bx_later HX5.out.1 HB6.out) (bx_later ⟨HX5.out.1.1, HX5.out.2⟩ HB6.out).2))
    | fail)
  have HA7 : Hid (AkB w (w6.alloc (.cells #[.int .i64 r.x, .int .i64 r.y, .int .i64 r.w, .int .i64 r.h] 49)) X R w6.heap.size d r) := hidden (by
    have hb := (Below.refl w6.heap.size w6).alloc (Nat.le_refl _) (.cells #[.int .i64 r.x, .int .i64 r.y, .int .i64 r.w, .int .i64 r.h] 49)
    have q1 := bx_later HX6.out.1 hb
    have q2 := bx_later ⟨HX6.out.1.1, HX6.out.2⟩ hb
    exact ⟨q1.1, q1.2, q2.2, heap_alloc_new w6 _⟩)
  generalize w6.alloc (.cells #[.int .i64 r.x, .int .i64 r.y, .int .i64 r.w, .int .i64 r.h] 49) = W7 at *
  generalize w6.heap.size = S at *
  clear HX5 HX6 HB6 HDR
  obtain ⟨c1, c2, c3, c4, r0, r1, r2, r3, s0, s1, s2, s3⟩ := HA7.out.cells
  have HKI2 : Hid (∀ wx, AkB w wx X R S d r → Calls Try.prog 30 #[.pointer (some ⟨m, 0, none⟩), .int .i64 x] wx fun e w' => e = .returned (.int .i64 d.k) ∧ Hid (AkB w w' X R S d r)) := hidden (fun wx hx => (HKI.out wx hx.bel).mono (fun e w' hh => ⟨hh.1, hidden (hx.later hh.2.out)⟩))
  have HPA2 : Hid (∀ wx, AkB w wx X R S d r → Calls Try.prog 43 #[.pointer (some ⟨m, 0, none⟩), .int .i64 x] wx fun e w' => e = .returned (.int .i64 d.p) ∧ Hid (AkB w w' X R S d r)) := hidden (fun wx hx => (HPA.out wx hx.bel).mono (fun e w' hh => ⟨hh.1, hidden (hx.later hh.2.out)⟩))
  have HDP2 : Hid (∀ wx, AkB w wx X R S d r → Calls Try.prog 58 #[.pointer (some ⟨dd, 0, none⟩), .int .i64 x] wx fun e w' => e = .returned (.int .i64 E) ∧ Hid (AkB w w' X R S d r)) := hidden (fun wx hx => (HDP.out wx hx.bel).mono (fun e w' hh => ⟨hh.1, hidden (hx.later hh.2.out)⟩))
  have HDRW : Hid (∀ wx, AkB w wx X R S d r → AkB w wx.drew X R S d r) := hidden (fun wx hx => hx.later (Below.refl _ _).drew)
  have HSI2 : Hid (∀ wx, AkB w wx X R S d r → Calls Try.prog 45 #[.pointer (some ⟨m, 0, none⟩), .int .i64 x] wx fun e w' => e = .returned (.int .i64 SB) ∧ Hid (AkB w w' X R S d r)) := hidden (fun wx hx => (HSI.out wx hx.bel).mono (fun e w' hh => ⟨hh.1, hidden (hx.later hh.2.out)⟩))
  have HDS2 : Hid (∀ wx, AkB w wx X R S d r → Calls Try.prog 57 #[.pointer (some ⟨dd, 0, none⟩), .int .i64 x] wx fun e w' => e = .returned (.int .i64 SB) ∧ Hid (AkB w w' X R S d r)) := hidden (fun wx hx => (HDS.out wx hx.bel).mono (fun e w' hh => ⟨hh.1, hidden (hx.later hh.2.out)⟩))
  clear HKI HPA HDP HSI HDS
  obtain ⟨dn, dk, dp, da, db, dm, ds, dkey⟩ := d
  obtain ⟨rx, ry, rw_, rh⟩ := r
  simp only at *
  cases ok
  all_goals
    go_region_held3 (fun w' => w'.cell? ⟨X, 1, none⟩ = some (.int .i64 dk) ∧ w'.cell? ⟨X, 2, none⟩ = some (.int .i64 dp) ∧ w'.cell? ⟨X, 3, none⟩ = some (.int .i64 da) ∧ w'.cell? ⟨X, 4, none⟩ = some (.int .i64 db) ∧ w'.cell? ⟨R, 0, none⟩ = some (.int .i64 rx) ∧ w'.cell? ⟨R, 1, none⟩ = some (.int .i64 ry) ∧ w'.cell? ⟨R, 2, none⟩ = some (.int .i64 rw_) ∧ w'.cell? ⟨R, 3, none⟩ = some (.int .i64 rh) ∧ w'.cell? ⟨S, 0, none⟩ = some (.int .i64 rx) ∧ w'.cell? ⟨S, 1, none⟩ = some (.int .i64 ry) ∧ w'.cell? ⟨S, 2, none⟩ = some (.int .i64 rw_) ∧ w'.cell? ⟨S, 3, none⟩ = some (.int .i64 rh)) (first | assumption | exact ⟨by assumption, by assumption, by assumption, by assumption, by assumption, by assumption, by assumption, by assumption, by assumption, by assumption, by assumption, by assumption⟩ | go_keep) (first
      | (go_at_call 30; refine (HKI2.out _ (by first | exact HDRW.out _ HA7.out | exact HA7.out)).mono ?_; rintro e w8 ⟨rfl, HA8⟩; obtain ⟨f1, f2, f3, f4, g0, g1, g2, g3, h0, h1, h2, h3⟩ := HA8.out.cells)
      | (go_at_call 43; refine (HPA2.out _ (by first | exact HA8.out | exact HDRW.out _ HA8.out)).mono ?_; rintro e w9 ⟨rfl, HA9⟩; obtain ⟨f1, f2, f3, f4, g0, g1, g2, g3, h0, h1, h2, h3⟩ := HA9.out.cells)
      | (go_at_call 12; refine (HNU.out _).mono ?_; rintro e w6 ⟨rfl, e2⟩; rw [e2]; clear e2)
      | (go_at_call 58; refine (HDP2.out _ (by first | exact HA9.out | exact HDRW.out _ HA9.out)).mono ?_; rintro e w10 ⟨rfl, HA10⟩; obtain ⟨f1, f2, f3, f4, g0, g1, g2, g3, h0, h1, h2, h3⟩ := HA10.out.cells)
      | fail)
  all_goals
    clear HKI2 HPA2 HDP2
    rcases HC.out with ⟨k0, p0⟩ | ⟨k0, p0, k1⟩ | ⟨k0, p0, k1⟩
    · have kq : (dk != 0) = true := by simpa using k0
      have kq2 : (dk == 0) = false := by simpa using k0
      have pq : (dp != 0) = true := by simpa using p0
      have pq2 : (dp == 0) = false := by simpa using p0
      clear k0 p0
      go_upto_region 10 with (first | (go_at_call 45; refine (HSI2.out _ (by first | exact HA10.out | exact HDRW.out _ HA10.out)).mono ?_; rintro e w11 ⟨rfl, HA11⟩; obtain ⟨f1, f2, f3, f4, g0, g1, g2, g3, h0, h1, h2, h3⟩ := HA11.out.cells) | (go_at_call 57; refine (HDS2.out _ HA11.out).mono ?_; rintro e w12 ⟨rfl, HA12⟩; obtain ⟨f1, f2, f3, f4, g0, g1, g2, g3, h0, h1, h2, h3⟩ := HA12.out.cells) | fail)
      obtain ⟨e5, e6, e7⟩ := HA12.out.cells2
      go_wp2
      go_ret
      exact ⟨by first | rfl | simp, hidden HA12.out.bel⟩
    · have kq : (dk != 0) = false := by simp [k0]
      have kq2 : (dk == 0) = true := by simp [k0]
      have pq : (dp != 0) = false := by simp [p0]
      have pq2 : (dp == 0) = true := by simp [p0]
      clear k0 p0
      subst k1
      go_upto_region 10 with (first | (go_at_call 45; refine (HSI2.out _ (by first | exact HA10.out | exact HDRW.out _ HA10.out)).mono ?_; rintro e w11 ⟨rfl, HA11⟩; obtain ⟨f1, f2, f3, f4, g0, g1, g2, g3, h0, h1, h2, h3⟩ := HA11.out.cells) | fail)
      obtain ⟨e5, e6, e7⟩ := HA11.out.cells2
      go_wp2
      go_ret
      exact ⟨by first | rfl | simp, hidden HA11.out.bel⟩
    · have kq : (dk != 0) = true := by simpa using k0
      have kq2 : (dk == 0) = false := by simpa using k0
      have pq : (dp != 0) = false := by simp [p0]
      have pq2 : (dp == 0) = true := by simp [p0]
      clear k0 p0
      subst k1
      go_upto_region 10 with (first | (go_at_call 45; refine (HSI2.out _ (by first | exact HA10.out | exact HDRW.out _ HA10.out)).mono ?_; rintro e w11 ⟨rfl, HA11⟩; obtain ⟨f1, f2, f3, f4, g0, g1, g2, g3, h0, h1, h2, h3⟩ := HA11.out.cells) | fail)
      obtain ⟨e5, e6, e7⟩ := HA11.out.cells2
      go_wp2
      go_ret
      exact ⟨by first | rfl | simp, hidden HA11.out.bel⟩
end Go.Proofs.Ytkcdoadojoejjaa
namespace Go.Proofs.Ytkcdoadojoejjaa
open Go.RowKit
set_option maxHeartbeats 1000000
set_option maxRecDepth 100000
set_option linter.unusedVariables false

theorem rootF_eq {L : List Wd} {n : Int} (h : ∀ d ∈ L, d.p = 0 → d.n = n) (he : ∃ d ∈ L, d.p = 0) : rootF L = n := by
  induction L with
  | nil => obtain ⟨d, hd, _⟩ := he; simp at hd
  | cons e l ih =>
    unfold rootF
    by_cases h0 : e.p = 0
    · rw [if_pos h0]; exact h e List.mem_cons_self h0
    · rw [if_neg h0]
      obtain ⟨d, hd, hp⟩ := he
      rcases List.mem_cons.1 hd with rfl | hd
      · exact absurd hp h0
      · exact ih (fun d hd => h d (List.mem_cons_of_mem _ hd)) ⟨d, hd, hp⟩
theorem Iv.rootF {s : Ps} (ho : Iv s) : rootF s.L = s.root := by
  by_cases h0 : s.root = 0
  · have hl := ho.rt0.1 h0
    rw [h0]
    exact rootF_no s.L (fun j hj => by omega)
  · have hr := ho.rh h0
    refine rootF_eq (fun d hd hp => ?_) ⟨ofW s.L s.root, (of_mem hr).1, (ho.rt _ hr).2 rfl⟩
    have := ho.rt d.n (has_mem hd)
    rw [of_self ho.so hd] at this
    exact this.1 hp
theorem Iv.sib0 {s : Ps} (ho : Iv s) (x : Int) (hp : (ofW s.L x).p = 0) : sibW s.L x = 0 := by
  unfold sibW
  rw [hp, ho.of_zero]
  show (if (0 : Int) = x then (0 : Int) else 0) = 0
  split <;> rfl
theorem alike_any {B m dd : Nat} {v u : Value} {s : Ps} {w : World} (h : PAt B w m v s) (q : QAt B w dd u s) (ho : Iv s) (x : Int) :
    Calls Try.prog 39 #[.pointer (some ⟨m, 0, none⟩), .pointer (some ⟨dd, 0, none⟩), .int .i64 x] w fun e w' => e = .returned (.bool true) ∧ Hid (Below w.heap.size w w') := by
  have hok : OkP s := ho.toOkL.toOkP
  have hn : s.L.length ≤ 1000 := by have := ho.f63; omega
  by_cases hx : hasW s.L x
  · have hb := hasB_iff.2 hx
    have hk := ho.kd x hx
    have hE : prE s x = if (ofW s.L x).k = 4 then 0 else 1 := by unfold prE; rw [hb]; rfl
    refine alike_of x (ofW s.L x) (rctF s 64 x) true (prE s x) (sibW s.L x) (by rw [hE]; split <;> omega)
      (hidden (fun w1 hb => dof_any (q.later hb) hn x))
      (hidden (fun w1 hb => (kids_any (h.later hb) hok x).mono (fun e w' hh => ⟨hh.1, hidden hh.2⟩)))
      (hidden (fun w1 hb => ?_))
      (hidden (fun w1 hb => (rect_any (h.later hb) hok ho.scr 64 x hx (ho.upk64 x hx)).mono (fun e w' hh => ⟨hh.1, hidden hh.2⟩)))
      (hidden (fun w1 hb => drect_any ho 64 x hx (ho.upk64 x hx) w1 (q.later hb)))
      (hidden (fun w1 hb => (kind_any (h.later hb) hok x).mono (fun e w' hh => ⟨hh.1, hidden hh.2⟩)))
      (hidden (fun w1 hb => (parent_any (h.later hb) hok x).mono (fun e w' hh => ⟨hh.1, hidden hh.2⟩)))
      (hidden (fun w1 hb => dpair_any (q.later hb) hn x))
      (hidden (fun w1 hb => (sibling_any (h.later hb) hok x).mono (fun e w' hh => ⟨hh.1, hidden hh.2⟩)))
      (hidden (fun w1 hb => dsib_any (q.later hb) hn x)) ?_
    · by_cases h4 : (ofW s.L x).k = 4
      · rw [if_pos h4] at hE
        rw [hE]
        exact arrangement_good (h.later hb) hok x hE
      · rw [if_neg h4] at hE
        obtain ⟨_, _, e1, e2, e3⟩ := ho.np x hx h4
        rw [hE, e1, e2, e3]
        exact arrangement_bad (h.later hb) hok x 1 hE (by omega)
    · by_cases hp : (ofW s.L x).p = 0
      · exact .inr (.inr ⟨by omega, hp, ho.sib0 x hp⟩)
      · exact .inl ⟨by omega, hp⟩
  · have hb : hasB s.L x = false := by
      cases e : hasB s.L x with
      | false => rfl
      | true => exact absurd (hasB_iff.1 e) hx
    have hno : ∀ d ∈ s.L, d.n ≠ x := fun d hd e => hx ⟨d, hd, e⟩
    have h0 := of_no hx
    have hE : prE s x = 5 := by unfold prE; rw [hb]; rfl
    have hp : (ofW s.L x).p = 0 := by rw [h0]; rfl
    have hsb := ho.sib0 x hp
    refine alike_of x wd0 ⟨0, 0, 0, 0⟩ false 5 0 (by omega)
      (hidden (fun w1 hb => by have := dof_any (q.later hb) hn x; rw [h0] at this; exact this))
      (hidden (fun w1 hb => by have z := kids_any (h.later hb) hok x; rw [h0] at z; exact z.mono (fun e w' hh => ⟨hh.1, hidden hh.2⟩)))
      (hidden (fun w1 hb => arrangement_bad (h.later hb) hok x 5 hE (by omega)))
      (hidden (fun w1 hb => (rect_none (h.later hb) hok x hno).mono (fun e w' hh => ⟨hh.1, hidden hh.2⟩)))
      (hidden (fun w1 h1 => drect_none (q.later h1) hn x hb))
      (hidden (fun w1 hb => by have z := kind_any (h.later hb) hok x; rw [h0] at z; exact z.mono (fun e w' hh => ⟨hh.1, hidden hh.2⟩)))
      (hidden (fun w1 hb => by have z := parent_any (h.later hb) hok x; rw [h0] at z; exact z.mono (fun e w' hh => ⟨hh.1, hidden hh.2⟩)))
      (hidden (fun w1 h1 => by have := dpair_any (q.later h1) hn x; rw [if_pos hb] at this; exact this))
      (hidden (fun w1 hb => by have z := sibling_any (h.later hb) hok x; rw [hsb] at z; exact z.mono (fun e w' hh => ⟨hh.1, hidden hh.2⟩)))
      (hidden (fun w1 hb => by have := dsib_any (q.later hb) hn x; rw [hsb] at this; exact this))
      (.inr (.inl ⟨rfl, rfl, rfl⟩))
set_option maxHeartbeats 8000000 in
theorem all_any {B m dd : Nat} {v u : Value} {s : Ps} {w : World} (h : PAt B w m v s) (q : QAt B w dd u s) (ho : Iv s) (hl : -1 ≤ s.last ∧ s.last ≤ 90000) :
    Calls Try.prog 14 #[.pointer (some ⟨m, 0, none⟩), .pointer (some ⟨dd, 0, none⟩)] w fun e w' => e = .returned (.bool true) ∧ Hid (Below w.heap.size w w') := by
  have hf := ho.f63
  have HNB := hidden (numbers_any q (by omega))
  have HWN : Hid (∀ w1, Below w.heap.size w w1 → Calls Try.prog 15 #[.pointer (some ⟨m, 0, none⟩)] w1 (WnR w1 s.L)) := hidden (fun w1 hb => windows_any (h.later hb) (by omega))
  have HRT : Hid (∀ w1, Below w.heap.size w w1 → Calls Try.prog 20 #[.pointer (some ⟨m, 0, none⟩)] w1 fun e w' => e = .returned (.int .i64 s.root) ∧ w' = w1) := hidden (fun w1 hb => root_any (h.later hb))
  have HDT : Hid (∀ w1, Below w.heap.size w w1 → Calls Try.prog 38 #[.pointer (some ⟨dd, 0, none⟩)] w1 fun e w' => e = .returned (.int .i64 s.root) ∧ w' = w1) := hidden (fun w1 hb => by
    have := droot_any (q.later hb) (by omega)
    rw [ho.rootF] at this
    exact this)
  have HAL : Hid (∀ w1, Below w.heap.size w w1 → ∀ x, Calls Try.prog 39 #[.pointer (some ⟨m, 0, none⟩), .pointer (some ⟨dd, 0, none⟩), .int .i64 x] w1 fun e w' => e = .returned (.bool true) ∧ Hid (Below w.heap.size w w' ∧ Below w1.heap.size w1 w')) := hidden (fun w1 hb x => (alike_any (h.later hb) (q.later hb) ho x).mono (fun e w' hh => ⟨hh.1, hidden ⟨hb.trans (hh.2.out.mono hb.size), hh.2.out⟩⟩))
  have HLC : Hid (∀ w1, Below w.heap.size w w1 → w1.cell? ⟨dd, 3, none⟩ = some (.int .i64 s.last)) := hidden (fun w1 hb => (q.later hb).cells.2.2.2.1)
  have hw1 : IntKind.i64.wrap (s.last + 1) = s.last + 1 := by rw [IntKind.wrap_i64]; omega
  have HLEN : Hid ((nsL s.L).length = s.L.length) := hidden (by simp [nsL])
  clear h q ho hl
  generalize s.last = LA at *
  generalize s.root = RT at *
  go_enter Try.func14, Try.ntmps14
  go_upto_region 2 with (first | (go_at_call 37; refine HNB.out.mono ?_; rintro e w1 ⟨a1, n1, c1, rfl, hn1, o1, b1⟩; have HN1 := hidden hn1; have HO1 := hidden o1; have HB1 := hidden b1; clear o1 b1 hn1) | fail)
  go_upto_region 5 with (first
    | (go_at_call 15; refine (HWN.out _ HB1.out).mono ?_; rintro e w2 ⟨a2, n2, c2, rfl, hn2, o2, b2⟩; obtain rfl : n2 = n1 := hn2.trans HN1.out.symm; have HSM := hidden (same_eq o2 (own_later HO1.out b2) (by omega)); have HO2 := hidden (own_later HO1.out b2); have HB2 := hidden (HB1.out.trans (b2.mono HB1.out.size)); clear o2 b2 hn2)
    | (go_at_call 31; refine HSM.out.mono ?_; rintro e w3 ⟨rfl, HQ3⟩; have HO3 := hidden (own_later HO2.out HQ3.out); have HB3 := hidden (HB2.out.trans (HQ3.out.mono HB2.out.size)))
    | (go_at_call 20; refine (HRT.out _ HB3.out).mono ?_; rintro e w4 ⟨rfl, e4⟩; rw [e4]; clear e4)
    | (go_at_call 38; refine (HDT.out _ HB3.out).mono ?_; rintro e w4 ⟨rfl, e4⟩; rw [e4]; clear e4)
    | fail)
  have hnk : n2 ≤ 64 := by have := HN1.out; omega
  clear HNB HWN HRT HDT HSM HO1 HO2 HB1 HB2 HQ3
  go_loopw [6] (fun i w' => ∃ k : Nat, k ≤ n2 ∧ i = .int .i64 k ∧ Hid (Below w.heap.size w w' ∧ w'.ownsRow w.heap.size 3 1 (.slice a1 n2 c1) n2 (intsV (nsL s.L)))) (fun i _ => n2 - (intOf i).toNat)
  case atStart => exact ⟨0, by omega, rfl, hidden ⟨HB3.out, HO3.out⟩⟩
  case round =>
    obtain ⟨k, hk, rfl, HR⟩ := hrel
    by_cases hlt : k < n2
    · have l1 : (k : Int) < n2 := by omega
      have l0 : (0 : Int) ≤ k := by omega
      obtain ⟨g, c, hsl, hcell, _⟩ := irow_cell HR.out.2 k (by have := HLEN.out; have := HN1.out; omega)
      simp only [Value.slice.injEq] at hsl
      obtain ⟨rfl, _, rfl⟩ := hsl
      generalize (nsL s.L)[k] = z at *
      have HAK := hidden (HAL.out _ HR.out.1 z)
      clear HO3 HB3 HAL HLC
      go_wp2_with (first | (go_at_call 39; refine HAK.out.mono ?_; rintro e w5 ⟨rfl, HB5⟩) | fail)
      go_roundw
      case rel => exact ⟨k + 1, by omega, by first | rfl | go_num, hidden ⟨HB5.out.1, own_later HR.out.2 HB5.out.2⟩⟩
      case measure => simp [intOf]; omega
    · obtain rfl : k = n2 := by omega
      clear HO3 HB3
      go_wp2_with (first | (go_at_call 39; refine (HAL.out _ (by first | exact HB5.out.1 | exact HR.out.1) _).mono ?_; rintro e w5 ⟨rfl, HB5⟩; have l3 := HLC.out _ HB5.out.1) | fail)
      go_ret
      exact ⟨by first | rfl | simp, hidden HB5.out.1⟩
end Go.Proofs.Ytkcdoadojoejjaa
namespace Go.Proofs.Ytkcdoadojoejjaa
open Go.RowKit
set_option maxHeartbeats 1000000
set_option maxRecDepth 100000
set_option linter.unusedVariables false

/-- acts that came in -/
structure IsActs (w : World) (a : Option Addr) (len cap : Nat) (ss : List Ac) : Prop where
  ln : ss.length = len
  ok : ∀ x ∈ ss, x.ok
  cells : ∀ i (hi : i < ss.length), ∃ b o, a = some ⟨b, o, none⟩ ∧ w.cell? ⟨b, o + i * 6, none⟩ = some (.int .i64 ss[i].k) ∧ w.cell? ⟨b, o + i * 6 + 1, none⟩ = some (.int .i64 ss[i].a) ∧ w.cell? ⟨b, o + i * 6 + 2, none⟩ = some (.int .i64 ss[i].b) ∧ w.cell? ⟨b, o + i * 6 + 3, none⟩ = some (.int .i64 ss[i].c) ∧ w.cell? ⟨b, o + i * 6 + 4, none⟩ = some (.int .u32 ss[i].s) ∧ w.cell? ⟨b, o + i * 6 + 5, none⟩ = some (.bool ss[i].near)
theorem cell_lt14 {w : World} {b i : Nat} {u : Value} (h : w.cell? ⟨b, i, none⟩ = some u) : b < w.heap.size := by
  unfold World.cell? at h
  simp only at h
  cases hq : w.heap[b]? with
  | none => rw [hq] at h; simp at h
  | some o => exact (Array.getElem?_eq_some_iff.1 hq).1
theorem IsActs.later {w w' : World} {a : Option Addr} {len cap : Nat} {ss : List Ac} (h : IsActs w a len cap ss) (hb : Below w.heap.size w w') : IsActs w' a len cap ss :=
  ⟨h.ln, h.ok, fun i hi => by
    obtain ⟨b, o, e, c0, c1, c2, c3, c4, c5⟩ := h.cells i hi
    have hbl := hb.block b (cell_lt14 c0)
    exact ⟨b, o, e, (World.cell?_of_block hbl).trans c0, (World.cell?_of_block hbl).trans c1, (World.cell?_of_block hbl).trans c2, (World.cell?_of_block hbl).trans c3, (World.cell?_of_block hbl).trans c4, (World.cell?_of_block hbl).trans c5⟩⟩
/-- behind acts -/
def runS (s : Ps) (ss : List Ac) : Ps := ss.foldl stepS s
theorem runS_snoc (s : Ps) (ss : List Ac) (j : Nat) (hj : j < ss.length) : runS s (ss.take (j + 1)) = stepS (runS s (ss.take j)) ss[j] := by
  unfold runS
  rw [List.take_add_one, List.getElem?_eq_getElem hj, List.foldl_append]
  rfl
theorem iv_run {x y : Int} (hs : scrB x y = true) {ss : List Ac} (hok : ∀ a ∈ ss, a.ok) (hn : ss.length ≤ 80) : ∀ k, k ≤ ss.length → Iv (runS ⟨x, y, 0, 0, []⟩ (ss.take k)) ∧ (runS ⟨x, y, 0, 0, []⟩ (ss.take k)).last ≤ 2 * k := by
  intro k
  induction k with
  | zero => intro _; rw [List.take_zero]; exact ⟨iv_new x y hs, by show (0 : Int) ≤ _; omega⟩
  | succ k ih =>
    intro hk
    obtain ⟨h1, h2⟩ := ih (by omega)
    rw [runS_snoc _ _ k (by omega)]
    obtain ⟨h3, h4⟩ := iv_step h1 (by omega) ss[k] (hok _ (List.getElem_mem _))
    exact ⟨h3, by omega⟩
theorem tw_new {s : Ps} {w w1 w2 : World} (h1 : PAt w.heap.size w1 w.heap.size (.slice none 0 0) s) (b1 : Below w.heap.size w w1) (h2 : QAt w1.heap.size w2 w1.heap.size (.slice none 0 0) s) (b2 : Below w1.heap.size w1 w2) : Tw w.heap.size w.heap.size w1.heap.size w w2 s s [] := by
  have hlt := h1.lt
  refine ⟨_, _, h1.later b2, ⟨b1.size, h2.box, own_base h2.row b1.size⟩, ?_, b1.trans (b2.mono b1.size), Nat.le_trans b1.size b2.size, fun g hg => by cases hg⟩
  rintro k (rfl | e) (e' | e')
  · omega
  · cases e'
  · cases e
  · cases e
set_option maxHeartbeats 8000000 in
theorem begin_any (x y : Int) (hs : scrB x y = true) {w : World} {a : Option Addr} {len cap : Nat} {ss : List Ac} (ha : IsActs w a len cap ss) (hlen : len ≤ 80) :
    Calls Try.prog 17 #[.int .i64 x, .int .i64 y, .slice a len cap] w fun e w' => ∃ m d, e = .returned (.tuple #[.pointer (some ⟨m, 0, none⟩), .pointer (some ⟨d, 0, none⟩)]) ∧ Hid (Tw w.heap.size m d w w' (runS ⟨x, y, 0, 0, []⟩ ss) (runS ⟨x, y, 0, 0, []⟩ ss) []) := by
  have hln := ha.ln
  have HA := hidden ha
  have HNW := hidden (new_good x y w hs)
  have HDN := hidden (fun w1 => dnew_good x y w1 hs)
  have HNU := hidden (fun wx => num_any 0 wx (by omega) (by omega))
  have HIV := hidden (fun k hk => iv_run hs ha.ok (by omega) k hk)
  have HFIN : Hid (runS ⟨x, y, 0, 0, []⟩ (ss.take len) = runS ⟨x, y, 0, 0, []⟩ ss) := hidden (by rw [← hln, List.take_length])
  have HLN := hidden hln
  clear ha hs hln
  generalize hS0 : (⟨x, y, 0, 0, []⟩ : Ps) = S0 at *
  clear hS0
  generalize hBB : w.heap.size = BB at *
  have HBB := hidden hBB
  clear hBB
  go_enter Try.func17, Try.ntmps17
  go_upto_region 3 with (first
    | (go_at_call 10; refine HNW.out.mono ?_; rintro e w1 ⟨rfl, p1, b1⟩; have HP1 := hidden p1; have HB1 := hidden b1; clear p1 b1)
    | (go_at_call 11; refine (HDN.out _).mono ?_; rintro e w2 ⟨rfl, HQ2⟩)
    | fail)
  have HT2 : Hid (Tw BB BB w1.heap.size w w2 S0 S0 []) := hidden (by
    have h1 := HP1.out
    have h2 := HB1.out
    have e := HBB.out
    subst e
    exact tw_new h1 h2 HQ2.out.1 HQ2.out.2)
  clear HNW HDN HP1 HB1 HQ2
  generalize w1.heap.size = D at *
  go_upto_region 6 with (first
    | (go_at_call 12; refine (HNU.out _).mono ?_; rintro e w6 ⟨rfl, e2⟩; rw [e2]; clear e2)
    | fail)
  clear HNU
  go_loopw [12] (fun i w' => ∃ k : Nat, k ≤ len ∧ i = .int .i64 k ∧ Hid (Tw BB BB D w w' (runS S0 (ss.take k)) (runS S0 (ss.take k)) [])) (fun i _ => len - (intOf i).toNat)
  case atStart => exact ⟨0, by omega, rfl, hidden (by rw [List.take_zero]; exact HT2.out)⟩
  case round =>
    obtain ⟨k, hk, rfl, HT⟩ := hrel
    by_cases hlt : k < len
    · have l1 : (k : Int) < len := by omega
      have l0 : (0 : Int) ≤ k := by omega
      have hks : k < ss.length := by have := HLN.out; omega
      have HBE : Hid (Below w.heap.size w wr) := hidden (by obtain ⟨_, _, _, _, _, h5, _⟩ := HT.out; rw [HBB.out]; exact h5)
      obtain ⟨xb, xo, ea, c0, c1, c2, c3, c4, c5⟩ := (HA.out.later HBE.out).cells k hks
      have hxk := HA.out.ok _ (List.getElem_mem hks)
      obtain ⟨i1, i2⟩ := HIV.out k (by omega)
      have HDO := hidden (does_any HT.out i1 (by omega) ss[k] hxk)
      rw [← runS_snoc S0 ss k hks] at HDO
      clear hxk i1 i2 HT2 HA HIV HFIN HBE
      generalize ss[k] = z at *
      subst ea
      go_wp2_with (first | (go_at_call 13; refine HDO.out.mono ?_; rintro e w5 ⟨rfl, HT5⟩) | fail)
      go_roundw
      case rel => exact ⟨k + 1, by omega, by first | rfl | go_num, hidden HT5.out.1⟩
      case measure => simp [intOf]; omega
    · obtain rfl : k = len := by omega
      rw [HFIN.out] at HT
      clear HA HIV HT2 HFIN
      go_wp2
      go_ret2
      exact ⟨BB, D, rfl, HT⟩
end Go.Proofs.Ytkcdoadojoejjaa
namespace Go.Proofs.Ytkcdoadojoejjaa
open Go.RowKit Go.ChangeShapes Go.WideShapes
set_option maxHeartbeats 1000000
set_option maxRecDepth 100000
set_option linter.unusedVariables false

theorem open_acts {H : Type} {enc : TypeId × Value → H} {W : World} {fuel : Nat} {a : Option Addr} {len cap : Nat} {x : DataW H × List MemPlace} (h : DataW.trod enc Try.prog W 0 (fun _ => true) true fuel 22 [.slice a len cap] = some x) :
    ∃ ss, IsActs W a len cap ss := by
  rcases Go.Deep.open_slice Try.underlying22 h with ⟨hcs, _⟩ | ⟨y, l, c, m, n, D, Pl, hcs, _, hl, hm, hmm, hx, hc⟩
  · simp only [List.cons.injEq, and_true, Value.slice.injEq] at hcs
    obtain ⟨rfl, rfl, rfl⟩ := hcs
    exact ⟨[], rfl, (fun b hb => by cases hb), fun i hi => by simp at hi⟩
  · simp only [List.cons.injEq, and_true, Value.slice.injEq] at hcs
    obtain ⟨rfl, rfl, rfl⟩ := hcs
    simp only [if_true] at hmm
    subst hmm
    haveI : Inhabited Ac := ⟨⟨0, 0, 0, 0, 0, false⟩⟩
    obtain ⟨q, hq⟩ := Go.Deep.choose_lt (α := Ac) (n := len) (p := fun i r => W.cell? (y.add (i * 6)) = some (.int .i64 r.k) ∧ W.cell? (y.add (i * 6 + 1)) = some (.int .i64 r.a) ∧ W.cell? (y.add (i * 6 + 2)) = some (.int .i64 r.b) ∧ W.cell? (y.add (i * 6 + 3)) = some (.int .i64 r.c) ∧ W.cell? (y.add (i * 6 + 4)) = some (.int .u32 r.s) ∧ W.cell? (y.add (i * 6 + 5)) = some (.bool r.near) ∧ r.ok) (fun i hi => by
      obtain ⟨cs', h1, h2⟩ := hc i (by omega)
      rw [show Try.prog.cellsOf 35 = 6 by kernel_rfl] at h1
      obtain ⟨_, hlen6, hcell⟩ := World.cells?_some h1
      obtain ⟨v0, v1, v2, v3, v4, v5, rfl⟩ := list6s hlen6
      have f0 := hcell 0 (by omega)
      have f1 := hcell 1 (by omega)
      have f2 := hcell 2 (by omega)
      have f3 := hcell 3 (by omega)
      have f4 := hcell 4 (by omega)
      have f5 := hcell 5 (by omega)
      rw [Go.Deep.add_add] at f0 f1 f2 f3 f4 f5
      obtain ⟨xs, n', _, hx', _, hlen', hfld⟩ := DataW.trod_struct Try.underlying35 h2
      obtain ⟨y0, y1, y2, y3, y4, y5, rfl⟩ := list6s (l := xs) hlen'
      have e1 : Try.prog.cellsOf 33 = 1 := by kernel_rfl
      have e2 : Try.prog.cellsOf 3 = 1 := by kernel_rfl
      have e3 : Try.prog.cellsOf 4 = 1 := by kernel_rfl
      have t0 := hfld 0 _ rfl
      have t1 := hfld 1 _ rfl
      have t2 := hfld 2 _ rfl
      have t3 := hfld 3 _ rfl
      have t4 := hfld 4 _ rfl
      have t5 := hfld 5 _ rfl
      simp [e1, e2, e3] at t0 t1 t2 t3 t4 t5
      obtain ⟨x0, q0, rfl, w0⟩ := DataW.trod_int Try.underlying3 t0
      obtain ⟨x1, q1, rfl, w1⟩ := DataW.trod_int Try.underlying3 t1
      obtain ⟨x2, q2, rfl, w2⟩ := DataW.trod_int Try.underlying3 t2
      obtain ⟨x3, q3, rfl, w3⟩ := DataW.trod_int Try.underlying3 t3
      obtain ⟨x4, q4, rfl, w4⟩ := DataW.trod_int Try.underlying33 t4
      obtain ⟨x5, q5, rfl⟩ := DataW.trod_bool Try.underlying4 t5
      simp at q0 q1 q2 q3 q4 q5
      subst q0 q1 q2 q3 q4 q5
      exact ⟨⟨x0, x1, x2, x3, x4, x5⟩, by simpa using f0, by simpa using f1, by simpa using f2, by simpa using f3, by simpa using f4, by simpa using f5, w0, w1, w2, w3, w4⟩)
    refine ⟨(List.range len).map q, by simp, fun b hb => ?_, fun i hi => ?_⟩
    · obtain ⟨i, hi, rfl⟩ := List.mem_map.1 hb
      exact (hq i (List.mem_range.1 hi)).2.2.2.2.2.2
    · have hi2 : i < len := by simpa using hi
      obtain ⟨b, off, spot⟩ := y
      obtain ⟨g0, g1, g2, g3, g4, g5, _⟩ := hq i hi2
      have hc0 := (hq 0 (by omega)).1
      have hspot : spot = none := by simpa [Addr.add] using World.cell?_spot hc0
      subst hspot
      rw [Addr.add_lit] at g0 g1 g2 g3 g4 g5
      simp only [List.getElem_map, List.getElem_range]
      exact ⟨b, off, rfl, g0, by rw [Nat.add_assoc]; exact g1, by rw [Nat.add_assoc]; exact g2, by rw [Nat.add_assoc]; exact g3, by rw [Nat.add_assoc]; exact g4, by rw [Nat.add_assoc]; exact g5⟩
end Go.Proofs.Ytkcdoadojoejjaa
namespace Go.Proofs.Ytkcdoadojoejjaa
open Go.RowKit
set_option maxHeartbeats 1000000
set_option maxRecDepth 100000
set_option linter.unusedVariables false

theorem irow_frozen {B n g c : Nat} {w : World} {zs : List Int} (h : w.ownsRow B 3 1 (.slice (some ⟨g, 0, none⟩) n c) n (intsV zs)) (j : Nat) : w.frozen? ⟨g, j, none⟩ = false := by
  rcases h.2 with ⟨h1, _⟩ | ⟨g', cap, cur, h1, h2, h3, h4, h5, h6, h7⟩
  · cases h1
  · simp only [Value.slice.injEq, Option.some.injEq, Addr.mk.injEq, and_true] at h1
    obtain ⟨rfl, _, rfl⟩ := h1
    simp [World.frozen?, h3]
theorem irow_put {B n g c : Nat} {w : World} {zs : List Int} (h : w.ownsRow B 3 1 (.slice (some ⟨g, 0, none⟩) n c) n (intsV zs)) (j : Nat) (z : Int) :
    (w.setCell ⟨g, j, none⟩ (.int .i64 z)).ownsRow B 3 1 (.slice (some ⟨g, 0, none⟩) n c) n (intsV (zs.set j z)) := by
  refine ⟨by have := h.1; simpa [intsV] using this, ?_⟩
  rcases h.2 with ⟨h1, _⟩ | ⟨g', cap, cur, h1, h2, h3, h4, h5, h6, h7⟩
  · cases h1
  · simp only [Value.slice.injEq, Option.some.injEq, Addr.mk.injEq, and_true] at h1
    obtain ⟨rfl, _, rfl⟩ := h1
    refine .inr ⟨g, c, cur.setIfInBounds j (.int .i64 z), rfl, h2, bkset h3 _ _, h4, h5, by simpa using h6, ?_⟩
    rw [Array.toList_setIfInBounds, List.take_set, h7]
    simp [intsV, List.map_set]
theorem tw_all {B m d : Nat} {w0 w : World} {s : Ps} {gs : List Nat} (r : Tw B m d w0 w s s gs) (ho : Iv s) (hl : -1 ≤ s.last ∧ s.last ≤ 90000) :
    Calls Try.prog 14 #[.pointer (some ⟨m, 0, none⟩), .pointer (some ⟨d, 0, none⟩)] w fun e w' => e = .returned (.bool true) ∧ Hid (Tw B m d w0 w' s s gs) := by
  have hr := r
  obtain ⟨v, u, h1, h2, _⟩ := hr
  exact (all_any h1 h2 ho hl).mono (fun e w' hh => ⟨hh.1, hidden (r.later hh.2.out).1⟩)
theorem tw_windows {B m d : Nat} {w0 w : World} {s t : Ps} {gs : List Nat} (r : Tw B m d w0 w s t gs) (ho : Iv s) :
    Calls Try.prog 15 #[.pointer (some ⟨m, 0, none⟩)] w fun e w' => ∃ a n c, e = .returned (.slice a n c) ∧ n ≤ 64 ∧ ∃ zs, Hid (w'.ownsRow w.heap.size 3 1 (.slice a n c) n (intsV zs) ∧ Below w.heap.size w w') := by
  obtain ⟨v, u, h1, h2, _⟩ := r
  have := ho.f63
  exact (windows_any h1 (by omega)).mono (fun e w' hh => by
    obtain ⟨a, n, c, e1, e2, e3, e4⟩ := hh
    exact ⟨a, n, c, e1, by omega, _, hidden ⟨e3, e4⟩⟩)
theorem Tw.bel {B m d : Nat} {w0 w : World} {s t : Ps} {gs : List Nat} (r : Tw B m d w0 w s t gs) : Below B w0 w := by
  obtain ⟨_, _, _, _, _, h5, _⟩ := r
  exact h5
set_option maxHeartbeats 8000000 in
theorem panePlays_main (x y : Int) (hs : scrB x y = true) {w : World} {a : Option Addr} {len cap : Nat} {ss : List Ac} (ha : IsActs w a len cap ss) (hlen : len ≤ 80)
    (HLV : Hid (∀ w1, Below w.heap.size w w1 → Calls Try.prog 9 #[] w1 fun e w' => e = .returned (.bool true) ∧ Hid (Below w.heap.size w w'))) :
    Calls Try.prog 3 #[.int .i64 x, .int .i64 y, .slice a len cap] w fun e w' => e = .returned (.bool true) ∧ Hid (Below w.heap.size w w') := by
  have hln := ha.ln
  have HA := hidden ha
  have HNW := hidden (new_good x y w hs)
  have HDN := hidden (fun w1 => dnew_good x y w1 hs)
  have HNU := hidden (fun wx => num_any 0 wx (by omega) (by omega))
  have HIV := hidden (fun k hk => iv_run hs ha.ok (by omega) k hk)
  have HLN := hidden hln
  have l80 : ¬ ((len : Int) > 80) := by omega
  have HLA : Hid (∀ k, k ≤ ss.length → 0 ≤ (runS ⟨x, y, 0, 0, []⟩ (ss.take k)).last) := hidden (fun k hk => (iv_run hs ha.ok (by omega) k hk).1.l0)
  clear ha hs hln
  generalize hS0 : (⟨x, y, 0, 0, []⟩ : Ps) = S0 at *
  clear hS0
  generalize hBB : w.heap.size = BB at *
  have HBB := hidden hBB
  clear hBB
  go_enter Try.func3, Try.ntmps3
  go_upto_region 5 with (first
    | (go_at_call 10; refine HNW.out.mono ?_; rintro e w1 ⟨rfl, p1, b1⟩; have HP1 := hidden p1; have HB1 := hidden b1; clear p1 b1)
    | (go_at_call 11; refine (HDN.out _).mono ?_; rintro e w2 ⟨rfl, HQ2⟩)
    | fail)
  have HT2 : Hid (Tw BB BB w1.heap.size w w2 S0 S0 []) := hidden (by
    have h1 := HP1.out
    have h2 := HB1.out
    have e := HBB.out
    subst e
    exact tw_new h1 h2 HQ2.out.1 HQ2.out.2)
  clear HNW HDN HP1 HB1 HQ2
  generalize w1.heap.size = D at *
  go_upto_region 10 with (first
    | (go_at_call 12; refine (HNU.out _).mono ?_; rintro e w6 ⟨rfl, e2⟩; rw [e2]; clear e2)
    | fail)
  clear HNU l80
  go_loopw [11, 12, 13] (fun i v q w' => ∃ k : Nat, k ≤ len ∧ i = .int .i64 k ∧ Hid (Tw BB BB D w w' (runS S0 (ss.take k)) (runS S0 (ss.take k)) [])) (fun i _ _ _ => len - (intOf i).toNat)
  case atStart => exact ⟨0, by omega, rfl, hidden (by rw [List.take_zero]; exact HT2.out)⟩
  case round =>
    obtain ⟨k, hk, rfl, HT⟩ := hrel
    by_cases hlt : k < len
    · have l1 : (k : Int) < len := by omega
      have l0 : (0 : Int) ≤ k := by omega
      have hks : k < ss.length := by have := HLN.out; omega
      have HBE : Hid (Below w.heap.size w wr) := hidden (by rw [HBB.out]; exact HT.out.bel)
      obtain ⟨xb, xo, ea, c0, c1, c2, c3, c4, c5⟩ := (HA.out.later HBE.out).cells k hks
      have hxk := HA.out.ok _ (List.getElem_mem hks)
      obtain ⟨i1, i2⟩ := HIV.out k (by omega)
      have HDO := hidden (does_any HT.out i1 (by omega) ss[k] hxk)
      rw [← runS_snoc S0 ss k hks] at HDO
      obtain ⟨j1, j2⟩ := HIV.out (k + 1) (by omega)
      have j3 := HLA.out (k + 1) (by omega)
      have HJ1 := hidden j1
      have HAL := hidden (fun wx (hx : Tw BB BB D w wx (runS S0 (ss.take (k + 1))) (runS S0 (ss.take (k + 1))) []) => tw_all hx HJ1.out (by omega))
      have HWD := hidden (fun wx (hx : Tw BB BB D w wx (runS S0 (ss.take (k + 1))) (runS S0 (ss.take (k + 1))) []) => tw_windows hx HJ1.out)
      clear hxk i1 i2 j1 j2 j3 HT2 HA HIV HBE HLA HT HLV
      generalize ss[k] = z at *
      subst ea
      go_upto_region 16 with (first
        | (go_at_call 13; refine HDO.out.mono ?_; rintro e w5 ⟨rfl, HT5⟩)
        | (go_at_call 14; refine (HAL.out _ HT5.out.1).mono ?_; rintro e w7 ⟨rfl, HT7⟩)
        | (go_at_call 15; refine (HWD.out _ HT7.out).mono ?_; rintro e w8 ⟨va, vn, vc, rfl, hvn, zs, HW8⟩)
        | fail)
      clear HDO HAL HWD HT5 c0 c1 c2 c3 c4 c5
      go_loopw [13] (fun q w' => ∃ (j : Nat) (ys : List Int), j ≤ vn ∧ q = .int .i64 j ∧ Hid (w'.ownsRow w7.heap.size 3 1 (.slice va vn vc) vn (intsV ys) ∧ Below w7.heap.size w7 w')) (fun q _ => vn - (intOf q).toNat)
      case atStart => exact ⟨0, zs, by omega, rfl, HW8⟩
      case round =>
        obtain ⟨j, ys, hj, rfl, HR⟩ := hrel
        by_cases hjl : j < vn
        · have m1 : (j : Int) < vn := by omega
          have m0 : (0 : Int) ≤ j := by omega
          have hyl : ys.length = vn := by have := HR.out.1.1; simpa [intsV] using this
          obtain ⟨g, c, hsl, hcell, _⟩ := irow_cell HR.out.1 j (by omega)
          simp only [Value.slice.injEq] at hsl
          obtain ⟨rfl, _, rfl⟩ := hsl
          have hfz := irow_frozen HR.out.1 j
          have HGE := hidden (HR.out.1.lt g rfl).1
          clear HW8
          generalize ys[j] = yz at *
          go_wp2
          go_roundw
          case rel => exact ⟨j + 1, ys.set j (-7), by omega, by first | rfl | go_num, hidden ⟨irow_put HR.out.1 j (-7), below_set HR.out.2 g j _ HGE.out⟩⟩
          case measure => simp [intOf]; omega
        · obtain rfl : j = vn := by omega
          clear HW8
          go_wp2
          go_roundw
          case rel => exact ⟨k + 1, by omega, by first | rfl | go_num, hidden (HT7.out.later HR.out.2).1⟩
          case measure => simp [intOf]; omega
    · obtain rfl : k = len := by omega
      obtain ⟨i1, i2⟩ := HIV.out k (by have := HLN.out; omega)
      have j3 := HLA.out k (by have := HLN.out; omega)
      have HAL := hidden (tw_all HT.out i1 (by omega))
      clear HA HIV HT2 i1 i2 j3 HLA
      go_wp2_with (first
        | (go_at_call 14; refine HAL.out.mono ?_; rintro e w7 ⟨rfl, HT7⟩)
        | (go_at_call 9; refine (HLV.out _ HT7.out.bel).mono ?_; rintro e w9 ⟨rfl, HB9⟩)
        | fail)
      go_ret
      exact ⟨by first | rfl | simp, HB9⟩
set_option maxHeartbeats 4000000 in
theorem panePlays_walk (x y : Int) (a : Option Addr) (len cap : Nat) (ss : List Ac) (w : World) (wx : (Lit.int .i64 x).wf = true) (wy : (Lit.int .i64 y).wf = true) (ha : IsActs w a len cap ss) :
    Calls Try.prog 3 #[.int .i64 x, .int .i64 y, .slice a len cap] w fun e w' => e = .returned (.bool true) ∧ Below w.heap.size w w' := by
  have HLV : Hid (∀ w1, Below w.heap.size w w1 → Calls Try.prog 9 #[] w1 fun e w' => e = .returned (.bool true) ∧ Hid (Below w.heap.size w w')) := hidden (fun w1 hb => (live_any w1).mono (fun e w' hh => ⟨hh.1, hidden (hb.trans (hh.2.mono hb.size))⟩))
  by_cases hl : len ≤ 80
  · by_cases hs : scrB x y = true
    · exact (panePlays_main x y hs ha hl HLV).mono (fun e w' hh => ⟨hh.1, hh.2.out⟩)
    · have hs' : scrB x y = false := by simpa using hs
      have HN := hidden (fun w1 => new_bad x y w1 hs')
      have HD := hidden (fun w1 => dnew_bad x y w1 hs')
      have HU := hidden (fun w1 => num_any 1 w1 (by omega) (by omega))
      have l80 : ¬ ((len : Int) > 80) := by omega
      clear ha hs hs' hl
      go_enter Try.func3, Try.ntmps3
      go_wp2_with (first
        | (go_at_call 10; refine (HN.out _).mono ?_; rintro e w1 ⟨rfl, e1⟩; rw [e1]; clear e1)
        | (go_at_call 11; refine (HD.out _).mono ?_; rintro e w1 ⟨rfl, e1⟩; rw [e1]; clear e1)
        | (go_at_call 12; refine (HU.out _).mono ?_; rintro e w1 ⟨rfl, e1⟩; rw [e1]; clear e1)
        | (go_at_call 9; refine (HLV.out _ (Below.refl _ _)).mono ?_; rintro e w9 ⟨rfl, HB9⟩)
        | fail)
      go_ret
      exact ⟨by first | rfl | simp, HB9.out⟩
  · have l80 : (len : Int) > 80 := by omega
    clear ha hl
    go_enter Try.func3, Try.ntmps3
    go_wp2_with (first | (go_at_call 9; refine (HLV.out _ (Below.refl _ _)).mono ?_; rintro e w9 ⟨rfl, HB9⟩) | fail)
    go_ret
    exact ⟨by first | rfl | simp, HB9.out⟩
end Go.Proofs.Ytkcdoadojoejjaa
namespace Go.Proofs.Ytkcdoadojoejjaa
open Go.RowKit
set_option maxHeartbeats 1000000
set_option maxRecDepth 100000
set_option linter.unusedVariables false

theorem wf_u8 {n : Int} (h : (Lit.int .u8 n).wf = true) : 0 ≤ n ∧ n ≤ 255 := by
  simp [Lit.wf, IntKind.min, IntKind.max, IntKind.signed, IntKind.bits] at h
  omega
theorem screen_any (a b : Int) (ha : 0 ≤ a ∧ a ≤ 255) (hb : 0 ≤ b ∧ b ≤ 255) (w : World) : Calls Try.prog 16 #[.int .u8 a, .int .u8 b] w fun e w' => e = .returned (.tuple #[.int .i64 (a % 60), .int .i64 (b % 40)]) ∧ w' = w := by
  have e1 : IntKind.i64.wrap a = a := by rw [IntKind.wrap_i64]; omega
  have e2 : IntKind.i64.wrap b = b := by rw [IntKind.wrap_i64]; omega
  have t1 : a.tmod 60 = a % 60 := Int.tmod_eq_emod_of_nonneg ha.1
  have t2 : b.tmod 40 = b % 40 := Int.tmod_eq_emod_of_nonneg hb.1
  have e3 : IntKind.i64.wrap (a % 60) = a % 60 := by rw [IntKind.wrap_i64]; omega
  have e4 : IntKind.i64.wrap (b % 40) = b % 40 := by rw [IntKind.wrap_i64]; omega
  go_enter Try.func16, Try.ntmps16
  go_wp2
  go_ret2
  try exact ⟨by first | rfl | simp, rfl⟩
theorem scr_ok (a b : Int) (ha : 0 ≤ a ∧ a ≤ 255) (hb : 0 ≤ b ∧ b ≤ 255) : scrB (a % 60) (b % 40) = true := by
  unfold scrB
  simp
  omega
theorem scr_u8 (a b : Int) (ha : 0 ≤ a ∧ a ≤ 255) (hb : 0 ≤ b ∧ b ≤ 255) : scrB a b = true := by
  unfold scrB
  simp
  omega
/-- on a screen of nought each window is nought -/
theorem rct_zero {s : Ps} (h0 : s.w = 0) (h1 : s.h = 0) : ∀ (k : Nat) (x : Int), Upk s k x → rctF s k x = ⟨0, 0, 0, 0⟩ := by
  have hz : (⟨0, 0, s.w, s.h⟩ : R4) = ⟨0, 0, 0, 0⟩ := by rw [h0, h1]
  intro k
  induction k with
  | zero => intro x _; exact hz
  | succ k ih =>
    intro x hu
    unfold rctF
    split
    · exact hz
    · rename_i hp
      rcases hu with hu | ⟨_, hw, _, hu⟩
      · exact absurd hu hp
      · rw [ih _ hu]
        have hl : lenR (ofW s.L (ofW s.L x).p) ⟨0, 0, 0, 0⟩ = 0 := by unfold lenR; split <;> rfl
        rw [hl]
        have hb := fst_bd s.L (ofW s.L (ofW s.L x).p) 0 (Int.le_refl _) hw.s0
        have hf : fstV s.L (ofW s.L (ofW s.L x).p) 0 = 0 := by omega
        rw [hf]
        unfold fstR sndR
        split <;> split <;> rfl
def rszS (s : Ps) (x y : Int) : Ps := { s with w := x, h := y }
theorem tw_res {B m d : Nat} {w0 w : World} {s t : Ps} {gs : List Nat} (r : Tw B m d w0 w s t gs) (x y : Int) (hs : scrB x y = true) :
    Calls Try.prog 18 #[.pointer (some ⟨m, 0, none⟩), .int .i64 x, .int .i64 y] w fun e w' => e = .returned (.int .i64 0) ∧ Hid (Tw B m d w0 w' (rszS s x y) t gs) := by
  have := r.kRes x y
  unfold rsE rsN at this
  rw [if_pos hs, if_pos hs] at this
  exact this.mono (fun e w' hh => ⟨hh.1, hidden hh.2.out.1⟩)
theorem tw_root {B m d : Nat} {w0 w : World} {s t : Ps} {gs : List Nat} (r : Tw B m d w0 w s t gs) :
    Calls Try.prog 20 #[.pointer (some ⟨m, 0, none⟩)] w fun e w' => e = .returned (.int .i64 s.root) ∧ w' = w := by
  obtain ⟨v, u, h1, _⟩ := r
  exact root_any h1
theorem tw_rect_root {B m d : Nat} {w0 w : World} {s t : Ps} {gs : List Nat} (r : Tw B m d w0 w s t gs) (ho : Iv s) (h0 : s.root ≠ 0) :
    Calls Try.prog 19 #[.pointer (some ⟨m, 0, none⟩), .int .i64 s.root] w fun e w' => e = .returned (.tuple #[.agg #[.int .i64 0, .int .i64 0, .int .i64 s.w, .int .i64 s.h], .bool true]) ∧ Hid (Tw B m d w0 w' s t gs) := by
  have hr := ho.rh h0
  have hp := (ho.rt _ hr).2 rfl
  have q := r
  obtain ⟨v, u, h1, _⟩ := q
  have := rect_any h1 ho.toOkL.toOkP ho.scr 64 _ hr (ho.upk64 _ hr)
  rw [show rctF s 64 s.root = ⟨0, 0, s.w, s.h⟩ by unfold rctF; rw [if_pos hp]] at this
  exact this.mono (fun e w' hh => ⟨hh.1, hidden (r.later hh.2).1⟩)
theorem tw_rect_none {B m d : Nat} {w0 w : World} {s t : Ps} {gs : List Nat} (r : Tw B m d w0 w s t gs) (ho : Iv s) (x : Int) (hx : ¬ hasW s.L x) :
    Calls Try.prog 19 #[.pointer (some ⟨m, 0, none⟩), .int .i64 x] w fun e w' => e = .returned (.tuple #[.agg #[.int .i64 0, .int .i64 0, .int .i64 0, .int .i64 0], .bool false]) ∧ Hid (Tw B m d w0 w' s t gs) := by
  have q := r
  obtain ⟨v, u, h1, _⟩ := q
  exact (rect_none h1 ho.toOkL.toOkP x (fun d hd e => hx ⟨d, hd, e⟩)).mono (fun e w' hh => ⟨hh.1, hidden (r.later hh.2).1⟩)
theorem tw_rect0 {B m d : Nat} {w0 w : World} {s t : Ps} {gs : List Nat} (r : Tw B m d w0 w s t gs) (ho : Iv s) (h0 : s.w = 0) (h1 : s.h = 0) (x : Int) :
    Calls Try.prog 19 #[.pointer (some ⟨m, 0, none⟩), .int .i64 x] w fun e w' => ∃ ok, e = .returned (.tuple #[.agg #[.int .i64 0, .int .i64 0, .int .i64 0, .int .i64 0], .bool ok]) ∧ Hid (Below w.heap.size w w') := by
  obtain ⟨v, u, q1, _⟩ := r
  by_cases hx : hasW s.L x
  · have := rect_any q1 ho.toOkL.toOkP ho.scr 64 x hx (ho.upk64 x hx)
    rw [rct_zero h0 h1 64 x (ho.upk64 x hx)] at this
    exact this.mono (fun e w' hh => ⟨true, hh.1, hidden hh.2⟩)
  · exact (rect_none q1 ho.toOkL.toOkP x (fun d hd e => hx ⟨d, hd, e⟩)).mono (fun e w' hh => ⟨false, hh.1, hidden hh.2⟩)
theorem iv_rsz {s : Ps} (h : Iv s) (x y : Int) (hs : scrB x y = true) : Iv (rszS s x y) := iv_resize h x y hs
theorem rsz_back (s : Ps) (a b c d : Int) : rszS (rszS (rszS s a b) c d) s.w s.h = s := by cases s; rfl
theorem tw_doc {B m d : Nat} {w0 w : World} {s t : Ps} {gs : List Nat} (r : Tw B m d w0 w s t gs) : ∃ va vc, w.cell? ⟨d, 0, none⟩ = some (.int .i64 t.w) ∧ w.cell? ⟨d, 1, none⟩ = some (.int .i64 t.h) ∧ w.cell? ⟨d, 2, none⟩ = some (.slice va t.L.length vc) := by
  obtain ⟨v, u, h1, h2, _⟩ := r
  obtain ⟨va, vc, hv⟩ := own_slice h2.row
  have := h2.cells
  rw [hv] at this
  exact ⟨va, vc, this.1, this.2.1, this.2.2.1⟩
end Go.Proofs.Ytkcdoadojoejjaa
namespace Go.Proofs.Ytkcdoadojoejjaa
open Go.RowKit
set_option maxHeartbeats 1000000
set_option maxRecDepth 100000
set_option linter.unusedVariables false

set_option maxHeartbeats 8000000 in
theorem paneResizes_main (a b c d : Int) (ha : 0 ≤ a ∧ a ≤ 255) (hb : 0 ≤ b ∧ b ≤ 255) (hc : 0 ≤ c ∧ c ≤ 255) (hd : 0 ≤ d ∧ d ≤ 255) {w : World} {ad : Option Addr} {len cap : Nat} {ss : List Ac} (hA : IsActs w ad len cap ss) (hlen : len ≤ 80)
    (HLV : Hid (∀ w1, Below w.heap.size w w1 → Calls Try.prog 9 #[] w1 fun e w' => e = .returned (.bool true) ∧ Hid (Below w.heap.size w w'))) :
    Calls Try.prog 4 #[.int .u8 a, .int .u8 b, .slice ad len cap, .int .u8 c, .int .u8 d] w fun e w' => e = .returned (.bool true) ∧ Hid (Below w.heap.size w w') := by
  have hln := hA.ln
  have HSC := hidden (screen_any a b ha hb w)
  have HBG := hidden (begin_any (a % 60) (b % 40) (scr_ok a b ha hb) hA hlen)
  have HNU := hidden (fun wx => num_any 0 wx (by omega) (by omega))
  have hiv := iv_run (scr_ok a b ha hb) hA.ok (by omega) ss.length (Nat.le_refl _)
  rw [List.take_length] at hiv
  generalize runS ⟨a % 60, b % 40, 0, 0, []⟩ ss = s at *
  have ho := hiv.1
  have hl0 := ho.l0
  have hl1 : s.last ≤ 90000 := by have := hiv.2; omega
  have l80 : ¬ ((len : Int) > 80) := by omega
  have e1 : IntKind.i64.wrap c = c := by rw [IntKind.wrap_i64]; omega
  have e2 : IntKind.i64.wrap d = d := by rw [IntKind.wrap_i64]; omega
  have s1 := scr_u8 c d hc hd
  have s0 : scrB 0 0 = true := rfl
  have o1 := iv_rsz ho c d s1
  have o2 := iv_rsz o1 0 0 s0
  generalize hX : a % 60 = X at *
  generalize hY : b % 40 = Y at *
  clear hX hY
  have HR1 : Hid (∀ m dd wx, Tw w.heap.size m dd w wx s s [] → Calls Try.prog 18 #[.pointer (some ⟨m, 0, none⟩), .int .i64 c, .int .i64 d] wx fun e w' => e = .returned (.int .i64 0) ∧ Hid (Tw w.heap.size m dd w w' (rszS s c d) s [])) := hidden (fun m dd wx hx => tw_res hx c d s1)
  have HRO : Hid (∀ m dd wx, Tw w.heap.size m dd w wx (rszS s c d) s [] → Calls Try.prog 20 #[.pointer (some ⟨m, 0, none⟩)] wx fun e w' => e = .returned (.int .i64 s.root) ∧ w' = wx) := hidden (fun m dd wx hx => by have := tw_root hx; exact this)
  obtain ⟨RW, RH, ok, hok, HRC⟩ : ∃ (RW RH : Int) (ok : Bool), ((ok = true ∧ RW = c ∧ RH = d ∧ 0 < s.L.length) ∨ (ok = false ∧ s.L.length = 0)) ∧ Hid (∀ m dd wx, Tw w.heap.size m dd w wx (rszS s c d) s [] → Calls Try.prog 19 #[.pointer (some ⟨m, 0, none⟩), .int .i64 s.root] wx fun e w' => e = .returned (.tuple #[.agg #[.int .i64 0, .int .i64 0, .int .i64 RW, .int .i64 RH], .bool ok]) ∧ Hid (Tw w.heap.size m dd w w' (rszS s c d) s [])) := by
    by_cases hz : s.root = 0
    · have hno : ¬ hasW (rszS s c d).L s.root := fun h => by have := o1.pos' h; omega
      exact ⟨0, 0, false, .inr ⟨rfl, ho.rt0.1 hz⟩, hidden (fun m dd wx hx => tw_rect_none hx o1 s.root hno)⟩
    · exact ⟨c, d, true, .inl ⟨rfl, rfl, rfl, Nat.pos_of_ne_zero (fun e => hz (ho.rt0.2 e))⟩, hidden (fun m dd wx hx => tw_rect_root hx o1 hz)⟩
  obtain ⟨N, hN⟩ : ∃ N, s.L.length = N := ⟨_, rfl⟩
  have HLE : Hid (∀ m dd wx, Tw w.heap.size m dd w wx (rszS s c d) s [] → ∃ va vc, wx.cell? ⟨dd, 2, none⟩ = some (.slice va N vc)) := hidden (fun m dd wx hx => by
    obtain ⟨va, vc, _, _, h⟩ := tw_doc hx
    rw [hN] at h
    exact ⟨va, vc, h⟩)
  have HR2 : Hid (∀ m dd wx, Tw w.heap.size m dd w wx (rszS s c d) s [] → Calls Try.prog 18 #[.pointer (some ⟨m, 0, none⟩), .int .i64 0, .int .i64 0] wx fun e w' => e = .returned (.int .i64 0) ∧ Hid (Tw w.heap.size m dd w w' (rszS (rszS s c d) 0 0) s [])) := hidden (fun m dd wx hx => tw_res hx 0 0 s0)
  have HWD : Hid (∀ m dd wx, Tw w.heap.size m dd w wx (rszS (rszS s c d) 0 0) s [] → Calls Try.prog 15 #[.pointer (some ⟨m, 0, none⟩)] wx fun e w' => ∃ a n c, e = .returned (.slice a n c) ∧ n ≤ 64 ∧ ∃ zs, Hid (w'.ownsRow wx.heap.size 3 1 (.slice a n c) n (intsV zs) ∧ Below wx.heap.size wx w')) := hidden (fun m dd wx hx => tw_windows hx o2)
  have HR0 : Hid (∀ m dd wx x, Tw w.heap.size m dd w wx (rszS (rszS s c d) 0 0) s [] → Calls Try.prog 19 #[.pointer (some ⟨m, 0, none⟩), .int .i64 x] wx fun e w' => ∃ ok, e = .returned (.tuple #[.agg #[.int .i64 0, .int .i64 0, .int .i64 0, .int .i64 0], .bool ok]) ∧ Hid (Below wx.heap.size wx w')) := hidden (fun m dd wx x hx => tw_rect0 hx o2 rfl rfl x)
  have HR3 : Hid (∀ m dd wx, Tw w.heap.size m dd w wx (rszS (rszS s c d) 0 0) s [] → Calls Try.prog 18 #[.pointer (some ⟨m, 0, none⟩), .int .i64 s.w, .int .i64 s.h] wx fun e w' => e = .returned (.int .i64 0) ∧ Hid (Tw w.heap.size m dd w w' s s [])) := hidden (fun m dd wx hx => by
    have := tw_res hx s.w s.h ho.scr
    rw [rsz_back] at this
    exact this)
  have HAL : Hid (∀ m dd wx, Tw w.heap.size m dd w wx s s [] → Calls Try.prog 14 #[.pointer (some ⟨m, 0, none⟩), .pointer (some ⟨dd, 0, none⟩)] wx fun e w' => e = .returned (.bool true) ∧ Hid (Tw w.heap.size m dd w w' s s [])) := hidden (fun m dd wx hx => tw_all hx ho ⟨by omega, hl1⟩)
  have HDC : Hid (∀ m dd wx, Tw w.heap.size m dd w wx s s [] → wx.cell? ⟨dd, 0, none⟩ = some (.int .i64 s.w) ∧ wx.cell? ⟨dd, 1, none⟩ = some (.int .i64 s.h)) := hidden (fun m dd wx hx => by
    obtain ⟨va, vc, h0, h1, h⟩ := tw_doc hx
    exact ⟨h0, h1⟩)
  rw [hN] at hok
  have HOK := hidden hok
  clear hiv ho hl0 hl1 o1 o2 s1 s0 hA hln ha hb hc hd hlen hok hN
  go_enter Try.func4, Try.ntmps4
  go_upto_region 7 with (first
    | (go_at_call 16; refine HSC.out.mono ?_; rintro e w1 ⟨rfl, e9⟩; rw [e9]; clear e9)
    | (go_at_call 17; refine HBG.out.mono ?_; rintro e w2 ⟨m, dd, rfl, HT2⟩; obtain ⟨y0, y1⟩ := HDC.out _ _ _ HT2.out)
    | fail)
  go_quiet (fail)
  have HT3 := hidden (HT2.out.later (below_drewN (Below.refl _ _) nq)).1
  generalize w2.drewN nq = W3 at *
  clear HSC HBG HDC y0 y1 HT2
  go_upto_region 10 with (first
    | (go_at_call 18; refine (HR1.out _ _ _ HT3.out).mono ?_; rintro e w4 ⟨rfl, HT4⟩)
    | (go_at_call 12; refine (HNU.out _).mono ?_; rintro e w6 ⟨rfl, e9⟩; rw [e9]; clear e9)
    | fail)
  go_upto_region 11 with (first
    | (go_at_call 20; refine (HRO.out _ _ _ HT4.out).mono ?_; rintro e w5 ⟨rfl, e9⟩; rw [e9]; clear e9)
    | (go_at_call 19; refine (HRC.out _ _ _ HT4.out).mono ?_; rintro e w5 ⟨rfl, HT5⟩)
    | fail)
  have HT6 := hidden (HT5.out.later ((Below.refl w5.heap.size w5).alloc (Nat.le_refl _) (.cells #[.int .i64 0, .int .i64 0, .int .i64 RW, .int .i64 RH] 49))).1
  have HBX : Hid ((w5.alloc (.cells #[.int .i64 0, .int .i64 0, .int .i64 RW, .int .i64 RH] 49)).heap[w5.heap.size]? = some (.cells #[.int .i64 0, .int .i64 0, .int .i64 RW, .int .i64 RH] 49 (0, 0))) := hidden (heap_alloc_new w5 _)
  generalize w5.alloc (.cells #[.int .i64 0, .int .i64 0, .int .i64 RW, .int .i64 RH] 49) = W6 at *
  generalize w5.heap.size = Q at *
  have hq := HBX.out
  have q0 : W6.cell? ⟨Q, 0, none⟩ = some (.int .i64 0) := by simp [World.cell?, hq]
  have q1 : W6.cell? ⟨Q, 1, none⟩ = some (.int .i64 0) := by simp [World.cell?, hq]
  have q2 : W6.cell? ⟨Q, 2, none⟩ = some (.int .i64 RW) := by simp [World.cell?, hq]
  have q3 : W6.cell? ⟨Q, 3, none⟩ = some (.int .i64 RH) := by simp [World.cell?, hq]
  obtain ⟨ua, uc, z2⟩ := HLE.out _ _ _ HT6.out
  clear hq HBX HT3 HT4 HT5 HR1 HRO HRC HLE
  rcases HOK.out with ⟨k1, k2, k3, k4⟩ | ⟨k1, k4⟩
  · subst k1 k2 k3
    have g1 : (N : Int) > 0 := by omega
    go_upto_region 13 with fail
    clear HOK k4 g1 q0 q1 q2 q3 z2
    go_upto_region 15 with (first
      | (go_at_call 18; refine (HR2.out _ _ _ HT6.out).mono ?_; rintro e w7 ⟨rfl, HT7⟩)
      | (go_at_call 12; refine (HNU.out _).mono ?_; rintro e w6 ⟨rfl, e9⟩; rw [e9]; clear e9)
      | fail)
    go_upto_region 17 with (first
      | (go_at_call 15; refine (HWD.out _ _ _ HT7.out).mono ?_; rintro e w8 ⟨va, vn, vc, rfl, hvn, zs, HW8⟩)
      | fail)
    go_loopw [18, 19, 20] (fun q p1 p2 w' => ∃ j : Nat, j ≤ vn ∧ q = .int .i64 j ∧ Hid (w'.ownsRow w7.heap.size 3 1 (.slice va vn vc) vn (intsV zs) ∧ Below w7.heap.size w7 w')) (fun q _ _ _ => vn - (intOf q).toNat)
    case atStart => exact ⟨0, by omega, rfl, HW8⟩
    case round =>
      obtain ⟨j, hj, rfl, HR⟩ := hrel
      by_cases hjl : j < vn
      · have m1 : (j : Int) < vn := by omega
        have m0 : (0 : Int) ≤ j := by omega
        have hyl : zs.length = vn := by have := HR.out.1.1; simpa [intsV] using this
        obtain ⟨g, cc, hsl, hcell, _⟩ := irow_cell HR.out.1 j (by omega)
        have HRJ := hidden (HR0.out _ _ _ zs[j] (HT7.out.later HR.out.2).1)
        simp only [Value.slice.injEq] at hsl
        obtain ⟨rfl, _, rfl⟩ := hsl
        clear HW8
        generalize zs[j] = yz at *
        clear hyl
        go_wp2_with (first | (go_at_call 19; refine HRJ.out.mono ?_; rintro e w9 ⟨ok9, rfl, HB9⟩) | fail)
        go_roundw
        case rel => exact ⟨j + 1, by omega, by first | rfl | go_num, hidden (by
          have hb := HB9.out.alloc HB9.out.size (.cells #[.int .i64 0, .int .i64 0, .int .i64 0, .int .i64 0] 49)
          exact ⟨own_later HR.out.1 hb, HR.out.2.trans (hb.mono HR.out.2.size)⟩)⟩
        case measure => simp [intOf]; omega
      · obtain rfl : j = vn := by omega
        have HT8 := hidden (HT7.out.later HR.out.2).1
        clear HW8 HR
        go_wp2_with (first
          | (go_at_call 18; refine (HR3.out _ _ _ HT8.out).mono ?_; rintro e w9 ⟨rfl, HT9⟩)
          | (go_at_call 12; refine (HNU.out _).mono ?_; rintro e w6 ⟨rfl, e9⟩; rw [e9]; clear e9)
          | (go_at_call 14; refine (HAL.out _ _ _ HT9.out).mono ?_; rintro e w10 ⟨rfl, HT10⟩)
          | (go_at_call 9; refine (HLV.out _ HT10.out.bel).mono ?_; rintro e w11 ⟨rfl, HB11⟩)
          | fail)
        go_ret
        exact ⟨by first | rfl | simp, HB11⟩
  · subst k1
    subst k4
    go_upto_region 13 with fail
    clear HOK q0 q1 q2 q3 z2
    go_upto_region 15 with (first
      | (go_at_call 18; refine (HR2.out _ _ _ HT6.out).mono ?_; rintro e w7 ⟨rfl, HT7⟩)
      | (go_at_call 12; refine (HNU.out _).mono ?_; rintro e w6 ⟨rfl, e9⟩; rw [e9]; clear e9)
      | fail)
    go_upto_region 17 with (first
      | (go_at_call 15; refine (HWD.out _ _ _ HT7.out).mono ?_; rintro e w8 ⟨va, vn, vc, rfl, hvn, zs, HW8⟩)
      | fail)
    go_loopw [18, 19, 20] (fun q p1 p2 w' => ∃ j : Nat, j ≤ vn ∧ q = .int .i64 j ∧ Hid (w'.ownsRow w7.heap.size 3 1 (.slice va vn vc) vn (intsV zs) ∧ Below w7.heap.size w7 w')) (fun q _ _ _ => vn - (intOf q).toNat)
    case atStart => exact ⟨0, by omega, rfl, HW8⟩
    case round =>
      obtain ⟨j, hj, rfl, HR⟩ := hrel
      by_cases hjl : j < vn
      · have m1 : (j : Int) < vn := by omega
        have m0 : (0 : Int) ≤ j := by omega
        have hyl : zs.length = vn := by have := HR.out.1.1; simpa [intsV] using this
        obtain ⟨g, cc, hsl, hcell, _⟩ := irow_cell HR.out.1 j (by omega)
        have HRJ := hidden (HR0.out _ _ _ zs[j] (HT7.out.later HR.out.2).1)
        simp only [Value.slice.injEq] at hsl
        obtain ⟨rfl, _, rfl⟩ := hsl
        clear HW8
        generalize zs[j] = yz at *
        clear hyl
        go_wp2_with (first | (go_at_call 19; refine HRJ.out.mono ?_; rintro e w9 ⟨ok9, rfl, HB9⟩) | fail)
        go_roundw
        case rel => exact ⟨j + 1, by omega, by first | rfl | go_num, hidden (by
          have hb := HB9.out.alloc HB9.out.size (.cells #[.int .i64 0, .int .i64 0, .int .i64 0, .int .i64 0] 49)
          exact ⟨own_later HR.out.1 hb, HR.out.2.trans (hb.mono HR.out.2.size)⟩)⟩
        case measure => simp [intOf]; omega
      · obtain rfl : j = vn := by omega
        have HT8 := hidden (HT7.out.later HR.out.2).1
        clear HW8 HR
        go_wp2_with (first
          | (go_at_call 18; refine (HR3.out _ _ _ HT8.out).mono ?_; rintro e w9 ⟨rfl, HT9⟩)
          | (go_at_call 12; refine (HNU.out _).mono ?_; rintro e w6 ⟨rfl, e9⟩; rw [e9]; clear e9)
          | (go_at_call 14; refine (HAL.out _ _ _ HT9.out).mono ?_; rintro e w10 ⟨rfl, HT10⟩)
          | (go_at_call 9; refine (HLV.out _ HT10.out.bel).mono ?_; rintro e w11 ⟨rfl, HB11⟩)
          | fail)
        go_ret
        exact ⟨by first | rfl | simp, HB11⟩
set_option maxHeartbeats 4000000 in
theorem paneResizes_walk (a b : Int) (ad : Option Addr) (len cap : Nat) (ss : List Ac) (c d : Int) (w : World) (wa : (Lit.int .u8 a).wf = true) (wb : (Lit.int .u8 b).wf = true) (hA : IsActs w ad len cap ss) (wc : (Lit.int .u8 c).wf = true) (wd : (Lit.int .u8 d).wf = true) :
    Calls Try.prog 4 #[.int .u8 a, .int .u8 b, .slice ad len cap, .int .u8 c, .int .u8 d] w fun e w' => e = .returned (.bool true) ∧ Below w.heap.size w w' := by
  have HLV : Hid (∀ w1, Below w.heap.size w w1 → Calls Try.prog 9 #[] w1 fun e w' => e = .returned (.bool true) ∧ Hid (Below w.heap.size w w')) := hidden (fun w1 hb => (live_any w1).mono (fun e w' hh => ⟨hh.1, hidden (hb.trans (hh.2.mono hb.size))⟩))
  by_cases hl : len ≤ 80
  · exact (paneResizes_main a b c d (wf_u8 wa) (wf_u8 wb) (wf_u8 wc) (wf_u8 wd) hA hl HLV).mono (fun e w' hh => ⟨hh.1, hh.2.out⟩)
  · have l80 : (len : Int) > 80 := by omega
    clear hA hl wa wb wc wd
    go_enter Try.func4, Try.ntmps4
    go_wp2_with (first | (go_at_call 9; refine (HLV.out _ (Below.refl _ _)).mono ?_; rintro e w9 ⟨rfl, HB9⟩) | fail)
    go_ret
    exact ⟨by first | rfl | simp, HB9.out⟩
end Go.Proofs.Ytkcdoadojoejjaa
