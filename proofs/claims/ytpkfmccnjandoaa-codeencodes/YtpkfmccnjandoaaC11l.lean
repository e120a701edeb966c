/- Contracts of package code's Jump, and of live. -/
import Derived.Test.YtpkfmccnjandoaaC11k
namespace Go.Proofs.Ytpkfmccnjandoaa
open Go.RowKit
set_option maxHeartbeats 1000000
set_option maxRecDepth 100000
set_option linter.unusedVariables false

theorem num11 (n : Int) (w : World) : Calls Try.prog 14 #[.int .i64 n] w fun e w' => e = .returned (.int .i64 n) ∧ w' = w := by
  go_enter Try.func14, Try.ntmps14
  go_wp2
  go_ret
  exact ⟨rfl, rfl⟩
theorem jump_back (next x : Int) (w : World) (h : x < 2) : Calls Try.prog 23 #[.int .u32 next, .int .u32 x] w fun e w' => e = .returned (.tuple #[.int .u32 0, .bool true, .int .u32 x]) ∧ w' = w := by
  go_enter Try.func23, Try.ntmps23
  go_wp2
  go_ret3
  exact ⟨rfl, rfl⟩
theorem jump_to (next x : Int) (w : World) (h : ¬ x < 2) : Calls Try.prog 23 #[.int .u32 next, .int .u32 x] w fun e w' => e = .returned (.tuple #[.int .u32 ((next + x - 2) % 4294967296), .bool false, .int .u32 0]) ∧ w' = w := by
  have hw : IntKind.u32.wrap (IntKind.u32.wrap (next + x) - 2) = (next + x - 2) % 4294967296 := by rw [IntKind.wrap_u32, IntKind.wrap_u32]; omega
  have HW := hidden hw
  clear hw
  go_enter Try.func23, Try.ntmps23
  go_wp2
  go_ret3
  refine ⟨?_, rfl⟩
  first | rfl | (congr 3; omega) | (simp; omega)
theorem reads_lit (w : World) (zs : List Int) (h : zs.length ≤ 1000) (hb : OkB zs) : Reads (w.alloc (.cells (bytesV zs).toArray 5)) (some ⟨w.heap.size, 0, none⟩) zs.length zs.length zs := by
  refine ⟨rfl, Nat.le_refl _, .inr ⟨_, rfl, fun i hi => ?_⟩⟩
  rw [plain_add, Nat.zero_add]
  exact cell_of_row _ _ i _ _ (0, 0) (heap_alloc_new _ _) |>.trans (by rw [List.getElem?_toArray]; exact bytesV_at zs i hi)
theorem dec_lit (zs : List Int) (h : zs.length ≤ 1000) (hb : OkB zs) (w : World) : Calls Try.prog 11 #[.slice (some ⟨w.heap.size, 0, none⟩) zs.length zs.length, .int .i64 0] (w.alloc (.cells (bytesV zs).toArray 5)) fun e w' => DRet w w' (decR zs 0) e := by
  refine (decode_any _ _ _ 0 zs _ (reads_lit w zs h hb) hb (by omega) (by omega)).mono ?_
  rintro e w' ⟨a, c, h1, h2, h3⟩
  exact ⟨a, c, h1, h2, ((Below.refl _ _).alloc (Nat.le_refl _) _).trans (h3.mono (by rw [World.size_alloc]; omega))⟩
theorem okb_lit {zs : List Int} (h : zs.all (fun c => decide (0 ≤ c ∧ c ≤ 255)) = true) : OkB zs := fun c hc => of_decide_eq_true (List.all_eq_true.1 h c hc)
theorem live_d1 : decR [16, 129, 8, 5] 0 = (0, 16, [(1, 5), (8, 0), (8, 0)], 4) := by kernel_rfl
theorem live_d2 : decR [64, 18, 0] 0 = (111, 0, [], 0) := by kernel_rfl
theorem live_d3 : decR [15] 0 = (110, 0, [], 0) := by kernel_rfl
theorem live_h : hdR [193, 4, 2, 0, 0] 0 = (193, [4, 2, 0, 0], 5, 0) := by kernel_rfl
theorem live_n : (rwV (opR 569)).2.1 = [106, 100, 105, 115, 105, 110, 102] := by kernel_rfl
/-- the instruction of the first example, as it lies -/
def LvF (w : World) (B g o c : Nat) : Prop := w.heap[B]? = some (.cells #[.int .u32 16, .slice (some ⟨g, o, none⟩) 3 c] 28 (0, 0)) ∧ w.cell? ⟨g, o, none⟩ = some (.int .i64 1) ∧ w.cell? ⟨g, o + 1, none⟩ = some (.int .u32 5)
theorem LvF.later {w w' : World} {B g o c : Nat} (h : LvF w B g o c) (hb : Below w.heap.size w w') : LvF w' B g o c := ⟨(hb.block B (Array.getElem?_eq_some_iff.1 h.1).1).trans h.1, cellLater hb h.2.1, cellLater hb h.2.2⟩
theorem live_s : (⟨(strB [4, 2, 0, 0]).toArray⟩ : ByteArray) = ⟨#[4, 2, 0, 0]⟩ := by kernel_rfl
theorem live_any (w : World) : Calls Try.prog 9 #[] w fun e w' => e = .returned (.bool true) ∧ Below w.heap.size w w' := by
  have HD1 : Hid (∀ (wx : World) (b : Nat), b = wx.heap.size → Calls Try.prog 11 #[.slice (some ⟨b, 0, none⟩) 4 4, .int .i64 0] (wx.alloc (.cells #[.int .u8 16, .int .u8 129, .int .u8 8, .int .u8 5] 5)) fun e w' => ∃ g o c, e = .returned (.tuple #[.agg #[.int .u32 16, .slice (some ⟨g, o, none⟩) 3 c], .int .i64 4, .int .i64 0]) ∧ (w'.cell? ⟨g, o, none⟩ = some (.int .i64 1) ∧ w'.cell? ⟨g, o + 1, none⟩ = some (.int .u32 5)) ∧ Below wx.heap.size wx w') := fun wx b hb => by
    subst hb
    refine (dec_lit [16, 129, 8, 5] (by decide) (okb_lit rfl) wx).mono ?_
    rintro e w' hh
    rw [live_d1] at hh
    obtain ⟨a, c, h1, ⟨_, _, h2⟩, h3⟩ := hh
    obtain ⟨g, o, rfl, hc⟩ := h2 (by decide)
    exact ⟨g, o, c, h1, (by have := hc 0 (by decide); rw [Nat.zero_mul, Nat.add_zero] at this; exact this), h3⟩
  have HD2 : Hid (∀ (wx : World) (b : Nat), b = wx.heap.size → Calls Try.prog 11 #[.slice (some ⟨b, 0, none⟩) 3 3, .int .i64 0] (wx.alloc (.cells #[.int .u8 64, .int .u8 18, .int .u8 0] 5)) fun e w' => ∃ a c, e = .returned (.tuple #[.agg #[.int .u32 0, .slice a 0 c], .int .i64 0, .int .i64 111]) ∧ Below wx.heap.size wx w') := fun wx b hb => by
    subst hb
    refine (dec_lit [64, 18, 0] (by decide) (okb_lit rfl) wx).mono ?_
    rintro e w' hh
    rw [live_d2] at hh
    obtain ⟨a, c, h1, _, h3⟩ := hh
    exact ⟨a, c, h1, h3⟩
  have HD3 : Hid (∀ (wx : World) (b : Nat), b = wx.heap.size → Calls Try.prog 11 #[.slice (some ⟨b, 0, none⟩) 1 1, .int .i64 0] (wx.alloc (.cells #[.int .u8 15] 5)) fun e w' => ∃ a c, e = .returned (.tuple #[.agg #[.int .u32 0, .slice a 0 c], .int .i64 0, .int .i64 110]) ∧ Below wx.heap.size wx w') := fun wx b hb => by
    subst hb
    refine (dec_lit [15] (by decide) (okb_lit rfl) wx).mono ?_
    rintro e w' hh
    rw [live_d3] at hh
    obtain ⟨a, c, h1, _, h3⟩ := hh
    exact ⟨a, c, h1, h3⟩
  have HH : Hid (∀ (wx : World) (b : Nat), b = wx.heap.size → Calls Try.prog 20 #[.slice (some ⟨b, 0, none⟩) 5 5, .int .i64 0] (wx.alloc (.cells #[.int .u8 193, .int .u8 4, .int .u8 2, .int .u8 0, .int .u8 0] 5)) fun e w' => ∃ a c, e = .returned (.tuple #[.int .i64 193, .slice a 4 c, .int .i64 5, .int .i64 0]) ∧ Reads w' a 4 c [4, 2, 0, 0] ∧ Below wx.heap.size wx w') := fun wx b hb => by
    subst hb
    refine (head_any (some ⟨wx.heap.size, 0, none⟩) 5 5 0 [193, 4, 2, 0, 0] _ (reads_lit wx [193, 4, 2, 0, 0] (by decide) (okb_lit rfl)) (okb_lit rfl) (by omega) (by omega)).mono ?_
    rintro e w' ⟨a, c, h1, h2, h3⟩
    rw [live_h] at h1 h2
    refine ⟨a, c, h1, ?_, ((Below.refl _ _).alloc (Nat.le_refl _) _).trans (h3.mono (by rw [World.size_alloc]; omega))⟩
    obtain ⟨g, cp, hv, _, _⟩ := owned_shape h2 (by decide)
    cases hv
    exact own_reads h2
  have HNm := hidden fun wx => kname_any 569 wx
  rw [live_n] at HNm
  have HJ1 := hidden fun wx => jump_to 100 12 wx (by decide)
  have HJ2 := hidden fun wx => jump_back 100 1 wx (by decide)
  rw [show ((100 : Int) + 12 - 2) % 4294967296 = 110 by decide] at HJ1
  go_enter Try.func9, Try.ntmps9
  go_wp2_with (first
    | (go_at_call 11; (with_reducible refine (HD1.out _ _ (by first | rfl | exact (World.size_alloc _ _).symm)).mono ?_); rintro e w1 ⟨g, o, c, rfl, hc1, hb1⟩; have HL1 : Hid (LvF (w1.alloc (.cells #[.int .u32 16, .slice (some ⟨g, o, none⟩) 3 c] 28)) w1.heap.size g o c) := ⟨heap_alloc_new _ _, cellLater ((Below.refl _ _).alloc (Nat.le_refl _) _) hc1.1, cellLater ((Below.refl _ _).alloc (Nat.le_refl _) _) hc1.2⟩; have HB1 := hidden (hb1.alloc hb1.size (.cells #[.int .u32 16, .slice (some ⟨g, o, none⟩) 3 c] 28)); clear hc1 hb1)
    | (go_at_call 11; (with_reducible refine (HD2.out _ _ (by first | rfl | exact (World.size_alloc _ _).symm)).mono ?_); rintro e w2 ⟨a2, c2, rfl, hb2⟩; have HL2 := hidden (HL1.out.later (hb2.alloc hb2.size (.cells #[.int .u32 0, .slice a2 0 c2] 28))); have HB2 := hidden (HB1.out.trans ((hb2.alloc hb2.size (.cells #[.int .u32 0, .slice a2 0 c2] 28)).mono HB1.out.size)); clear hb2)
    | (go_at_call 11; (with_reducible refine (HD3.out _ _ (by first | rfl | exact (World.size_alloc _ _).symm)).mono ?_); rintro e w3 ⟨a3, c3, rfl, hb3⟩; have HL3 := hidden (HL2.out.later (hb3.alloc hb3.size (.cells #[.int .u32 0, .slice a3 0 c3] 28))); have HB3 := hidden (HB2.out.trans ((hb3.alloc hb3.size (.cells #[.int .u32 0, .slice a3 0 c3] 28)).mono HB2.out.size)); clear hb3)
    | (go_at_call 20; (with_reducible refine (HH.out _ _ (by first | rfl | exact (World.size_alloc _ _).symm)).mono ?_); rintro e w4 ⟨a4, c4, rfl, hr4, hb4⟩; have HL4 := hidden (HL3.out.later hb4); have HB4 := hidden (HB3.out.trans (hb4.mono HB3.out.size)); have hcv := conv_reads w4 a4 4 c4 [4, 2, 0, 0] (okb_lit rfl) hr4; rw [live_s] at hcv; obtain ⟨lb, lc0, lc1⟩ := HL4.out; obtain ⟨li0, li1, _, _⟩ := ib_box (op := 16) lb; clear hr4 hb4 lb)
    | (go_at_call 23; (with_reducible refine (HJ1.out _).mono ?_); rintro e w5 ⟨rfl, rfl⟩)
    | (go_at_call 23; (with_reducible refine (HJ2.out _).mono ?_); rintro e w5 ⟨rfl, rfl⟩)
    | (go_at_call 14; refine (num11 _ _).mono ?_; rintro e w6 ⟨rfl, rfl⟩)
    | (go_at_call 24; refine (HNm.out _).mono ?_; rintro e w7 ⟨rfl, hb7⟩; have HB7 := hidden (HB4.out.trans (hb7.mono HB4.out.size)); clear hb7))
  go_ret
  exact ⟨rfl, HB7.out⟩
end Go.Proofs.Ytpkfmccnjandoaa
