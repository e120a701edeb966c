/- Layer 14, the program: the page's example holds. -/
import Derived.Test.YtilfgbcbodjegaaQ14b
namespace Go.Proofs.Ytilfgbcbodjegaa
open Go.RowKit
set_option maxHeartbeats 1000000
set_option maxRecDepth 100000
set_option linter.unusedVariables false

/-- a rectangle in a block of its own -/
def RcAt (w : World) (R : Nat) (a b c d : Int) : Prop := w.heap[R]? = some (.cells #[.int .i64 a, .int .i64 b, .int .i64 c, .int .i64 d] 36 (0, 0))
theorem RcAt.cells {w : World} {R : Nat} {a b c d : Int} (h : RcAt w R a b c d) : w.cell? ⟨R, 0, none⟩ = some (.int .i64 a) ∧ w.cell? ⟨R, 1, none⟩ = some (.int .i64 b) ∧ w.cell? ⟨R, 2, none⟩ = some (.int .i64 c) ∧ w.cell? ⟨R, 3, none⟩ = some (.int .i64 d) := by
  unfold RcAt at h
  exact ⟨by simp [World.cell?, h], by simp [World.cell?, h], by simp [World.cell?, h], by simp [World.cell?, h]⟩
theorem RcAt.later {w w' : World} {R : Nat} {a b c d : Int} (h : RcAt w R a b c d) (hb : Below w.heap.size w w') : RcAt w' R a b c d := by
  unfold RcAt at h ⊢
  rw [hb.block R (Array.getElem?_eq_some_iff.1 h).1]; exact h
theorem lv_close2 {B R : Nat} {w w1 : World} {a b c d : Int} (h : LvAt B w w1 e3) (hr0 : RcAt w1 R a b c d) : Calls Try.prog 23 #[.pointer (some ⟨B, 0, none⟩), .int .i64 2] w1 fun e w' => ∃ gg cc, e = .returned (.tuple #[.slice (some ⟨gg, 0, none⟩) 2 cc, .int .i64 0]) ∧ Hid (w'.ownsRow 0 3 1 (.slice (some ⟨gg, 0, none⟩) 2 cc) 2 (intsV [2, 3])) ∧ Hid (LvAt B w w' e4) ∧ Hid (RcAt w' R a b c d) := by
  obtain ⟨hb, v, hp⟩ := h
  refine (close_kid hp ok3.toOkP (Nat.le_of_lt hp.lt) 2 (by simp [hasW, e3]) 3 ends3 (by decide) (by rw [sib2]; simp [hasW, e3]) (fun q => absurd rfl q)).mono ?_
  rintro e w' ⟨gg, cc, rfl, H⟩
  obtain ⟨hr, v', h2, f⟩ := H.out
  rw [gone2] at hr h2
  have ep : (ofW e3.L 2).p = 3 := rfl
  rw [ep] at hr h2
  have es : sortI ([2] ++ [3]) = [2, 3] := sort23
  rw [es] at hr h2
  rw [sib2, close2] at h2
  have hR : RcAt w' R a b c d := by
    unfold RcAt at hr0 ⊢
    rw [f.block R (Array.getElem?_eq_some_iff.1 hr0).1 ?_]
    · exact hr0
    · rintro (rfl | e)
      · have := hp.box
        rw [hr0] at this
        simp at this
      · exact own_neE hp.row hr0 (by decide) e
  refine ⟨gg, cc, by rw [gone2]; rfl, hidden (own_base hr (Nat.zero_le _)), hidden (LvAt.fm hb hp h2 f), hidden hR⟩
def Lv4 (B R gg cc R2 : Nat) (w w' : World) : Prop := Below B w w' ∧ w'.ownsRow 0 3 1 (.slice (some ⟨gg, 0, none⟩) 2 cc) 2 (intsV [2, 3]) ∧ RcAt w' R 60 3 20 21 ∧ RcAt w' R2 0 0 60 24
set_option maxHeartbeats 4000000 in
theorem live_any (w : World) : Calls Try.prog 10 #[] w fun e w' => e = .returned (.bool true) ∧ Below w.heap.size w w' := by
  have HN := hidden (lv_new w)
  have H1 : Hid (∀ w1, LvAt w.heap.size w w1 e0 → _) := hidden (fun w1 h => lv_open1 (B := w.heap.size) (w := w) (w1 := w1) h)
  have H2 : Hid (∀ w1, LvAt w.heap.size w w1 e1 → _) := hidden (fun w1 h => lv_open2 (B := w.heap.size) (w := w) (w1 := w1) h)
  have H3 : Hid (∀ w1, LvAt w.heap.size w w1 e2 → _) := hidden (fun w1 h => lv_open3 (B := w.heap.size) (w := w) (w1 := w1) h)
  have H4 : Hid (∀ w1, LvAt w.heap.size w w1 e3 → _) := hidden (fun w1 h => lv_rect4 (B := w.heap.size) (w := w) (w1 := w1) h)
  have H5 : Hid (∀ w1 R a b c d, LvAt w.heap.size w w1 e3 → RcAt w1 R a b c d → _) := hidden (fun w1 R a b c d h h2 => lv_close2 (B := w.heap.size) (w := w) (w1 := w1) (R := R) (a := a) (b := b) (c := c) (d := d) h h2)
  have H6 : Hid (∀ w1, LvAt w.heap.size w w1 e4 → _) := hidden (fun w1 h => lv_rect1 (B := w.heap.size) (w := w) (w1 := w1) h)
  have HU := hidden (fun w1 => num_any 0 w1 (by omega) (by omega))
  obtain ⟨B, hB⟩ : ∃ B, w.heap.size = B := ⟨_, rfl⟩
  rw [hB] at HN H1 H2 H3 H4 H5 H6 ⊢
  have HBW := hidden (Nat.le_of_eq hB.symm)
  clear hB
  go_enter Try.func10, Try.ntmps10
  go_upto_region 2 with (first | (go_at_call 33; refine HN.out.mono ?_; rintro e w1 ⟨rfl, HL1⟩) | fail)
  clear HN
  go_upto_region 4 with (first | (go_at_call 20; refine (HU.out _).mono ?_; rintro e w2 ⟨rfl, e2⟩; rw [e2]; clear e2) | fail)
  go_upto_region 5 with (first | (go_at_call 19; refine (H1.out _ HL1.out).mono ?_; rintro e w2 ⟨rfl, HL2⟩) | fail)
  clear H1 HL1
  go_upto_region 6 with (first | (go_at_call 19; refine (H2.out _ HL2.out).mono ?_; rintro e w3 ⟨rfl, HL3⟩) | fail)
  clear H2 HL2
  go_upto_region 7 with (first | (go_at_call 19; refine (H3.out _ HL3.out).mono ?_; rintro e w4 ⟨rfl, HL4⟩) | fail)
  clear H3 HL3
  go_upto_region 8 with (first | (go_at_call 14; refine (H4.out _ HL4.out).mono ?_; rintro e w5 ⟨rfl, HL5⟩) | fail)
  clear H4 HL4
  have HR1 : Hid (RcAt (w5.alloc (.cells #[.int .i64 60, .int .i64 3, .int .i64 20, .int .i64 21] 36)) w5.heap.size 60 3 20 21) := hidden (heap_alloc_new w5 _)
  have HL6 : Hid (LvAt B w (w5.alloc (.cells #[.int .i64 60, .int .i64 3, .int .i64 20, .int .i64 21] 36)) e3) := hidden (HL5.out.later ((Below.refl _ _).alloc (Nat.le_refl _) _))
  clear HL5
  generalize w5.alloc (.cells #[.int .i64 60, .int .i64 3, .int .i64 20, .int .i64 21] 36) = w6 at *
  generalize w5.heap.size = R at *
  go_upto_region 9 with (first | (go_at_call 23; refine (H5.out _ R 60 3 20 21 HL6.out HR1.out).mono ?_; rintro e w7 ⟨gg, cc, rfl, HG7, HL7, HR7⟩) | fail)
  clear H5 HL6 HR1
  go_upto_region 10 with (first | (go_at_call 14; refine (H6.out _ HL7.out).mono ?_; rintro e w8 ⟨rfl, HB8, HL8⟩) | fail)
  have H4 : Hid (Lv4 B R gg cc w8.heap.size w (w8.alloc (.cells #[.int .i64 0, .int .i64 0, .int .i64 60, .int .i64 24] 36))) := hidden (by
    have ha : Below w8.heap.size w8 (w8.alloc (.cells #[.int .i64 0, .int .i64 0, .int .i64 60, .int .i64 24] 36)) := (Below.refl _ _).alloc (Nat.le_refl _) _
    exact ⟨(HL8.out.later ha).1, own_later (own_later HG7.out HB8.out) ha, (HR7.out.later HB8.out).later ha, heap_alloc_new w8 _⟩)
  clear H6 HL7 HL8 HB8 HR7 HG7
  generalize w8.alloc (.cells #[.int .i64 0, .int .i64 0, .int .i64 60, .int .i64 24] 36) = w9 at *
  generalize w8.heap.size = R2 at *
  obtain ⟨r0, r1, r2, r3⟩ := H4.out.2.2.1.cells
  obtain ⟨s0, s1, s2, s3⟩ := H4.out.2.2.2.cells
  have q1 : ∀ (w : World), (binOp .eql 36 (.agg #[.int .i64 60, .int .i64 3, .int .i64 20, .int .i64 21]) (.agg #[.int .i64 60, .int .i64 3, .int .i64 20, .int .i64 21])).run Try.prog w = .ok (.bool true) w := fun w => by kernel_rfl
  have q2 : ∀ (w : World), (binOp .eql 36 (.agg #[.int .i64 0, .int .i64 0, .int .i64 60, .int .i64 24]) (.agg #[.int .i64 0, .int .i64 0, .int .i64 60, .int .i64 24])).run Try.prog w = .ok (.bool true) w := fun w => by kernel_rfl
  have HS : Hid (Calls Try.prog 24 #[.slice (some ⟨gg, 0, none⟩) 2 cc, .slice (some ⟨w9.heap.size, 0, none⟩) 2 2] (w9.alloc (.cells #[.int .i64 2, .int .i64 3] 3)) fun e w' => e = .returned (.bool true) ∧ Hid (Below B w w')) := hidden (by
    have ha : Below w9.heap.size w9 (w9.alloc (.cells #[.int .i64 2, .int .i64 3] 3)) := (Below.refl _ _).alloc (Nat.le_refl _) _
    have ho := own_later H4.out.2.1 ha
    have hc := ho.cells (g := gg) rfl
    have hn := heap_alloc_new w9 (.cells #[.int .i64 2, .int .i64 3] 3)
    refine (same_two gg cc w9.heap.size 2 _ (hc 0 _ rfl) (hc 1 _ rfl) (by unfold World.cell?; rw [hn]; rfl) (by unfold World.cell?; rw [hn]; rfl)).mono ?_
    rintro e w' ⟨rfl, hb⟩
    have hBs : B ≤ w9.heap.size := Nat.le_trans HBW.out H4.out.1.size
    exact ⟨rfl, hidden ((H4.out.1.trans (ha.mono hBs)).trans (hb.mono (Nat.le_trans hBs ha.size)))⟩)
  go_wp2_with (first | (go_at_call 20; refine (HU.out _).mono ?_; rintro e w2 ⟨rfl, e2⟩; rw [e2]; clear e2) | (go_at_call 24; refine HS.out.mono ?_; rintro e w3 ⟨rfl, HB3⟩) | fail)
  go_ret
  exact ⟨rfl, HB3.out⟩
end Go.Proofs.Ytilfgbcbodjegaa
