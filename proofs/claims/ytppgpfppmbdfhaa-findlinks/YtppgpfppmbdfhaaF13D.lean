/- Layer 13: live: the page's examples. An argument that is a search by value, opened and shut. -/
import Derived.Test.YtppgpfppmbdfhaaF13C
import Derived.Test.YtppgpfppmbdfhaaF13A
import Derived.Lib.SmallJoins
import Derived.ChangeSame
namespace Go.Proofs.Ytppgpfppmbdfhaa
open Go.RowKit
set_option maxHeartbeats 1000000
set_option maxRecDepth 100000
set_option linter.unusedVariables false

def liveL : List Int := zer8 44 ++ [0, 5, 0, 7, 0, 0, 0, 9]
theorem live1 : linV (layB liveL) ⟨7, 2, 300, 2, 4, 0, 0, 0⟩ = (302, 0) := by kernel_rfl
theorem live2 : binV (layB liveL) ⟨7, 2, 300, 2, 2, 0, 0, 4⟩ = (1, 0) := by kernel_rfl
theorem live3 : linV (layB liveL) ⟨9, 2, 300, 2, 4, 0, 0, 2⟩ = (0, 0) := by kernel_rfl
theorem live4 : chnV (layB liveL) ⟨7, 1, 300, 0, 0, 3, 0, 0⟩ = (300, 0) := by kernel_rfl
theorem live5 : keyE ⟨7, 1, 300, 0, 0, 3, 0, 0⟩ (layB liveL).length = 0 := by kernel_rfl
theorem live6 : keyL ⟨7, 1, 300, 0, 0, 3, 0, 0⟩ (layB liveL) = [7] := by kernel_rfl
theorem liveL_ok : OkB liveL := by
  intro c hc
  unfold liveL at hc
  rcases List.mem_append.1 hc with h | h
  · exact zer8_okb _ c h
  · simp at h; omega
/-- a search's cells -/
def IBox (w : World) (b : Nat) (k ks st sz ct off nx op : Int) : Prop := w.heap[b]? = some (.cells #[.int .u32 k, .int .u32 ks, .int .u32 st, .int .u32 sz, .int .u32 ct, .int .u32 off, .int .u32 nx, .int .u32 op] 32 (0, 0))
theorem IBox.lt {w : World} {b : Nat} {k ks st sz ct off nx op : Int} (h : IBox w b k ks st sz ct off nx op) : b < w.heap.size := (Array.getElem?_eq_some_iff.1 h).1
theorem IBox.later {w w' : World} {b : Nat} {k ks st sz ct off nx op : Int} (h : IBox w b k ks st sz ct off nx op) (hb : Below w.heap.size w w') : IBox w' b k ks st sz ct off nx op := (hb.block b h.lt).trans h
theorem IBox.cells {w : World} {b : Nat} {k ks st sz ct off nx op : Int} (h : IBox w b k ks st sz ct off nx op) : w.cell? ⟨b, 0, none⟩ = some (.int .u32 k) ∧ w.cell? ⟨b, 1, none⟩ = some (.int .u32 ks) ∧ w.cell? ⟨b, 2, none⟩ = some (.int .u32 st) ∧ w.cell? ⟨b, 3, none⟩ = some (.int .u32 sz) ∧ w.cell? ⟨b, 4, none⟩ = some (.int .u32 ct) ∧ w.cell? ⟨b, 5, none⟩ = some (.int .u32 off) ∧ w.cell? ⟨b, 6, none⟩ = some (.int .u32 nx) ∧ w.cell? ⟨b, 7, none⟩ = some (.int .u32 op) ∧ (∀ j, w.frozen? ⟨b, j, none⟩ = false) := by
  unfold IBox at h
  refine ⟨?_, ?_, ?_, ?_, ?_, ?_, ?_, ?_, fun j => by simp [World.frozen?, h]⟩ <;> simp [World.cell?, h]
theorem live_any (w : World) : Calls Try.prog 9 #[] w fun e w' => e = .returned (.bool true) ∧ Below w.heap.size w w' := by
  have hmk : ∀ w, (Instr.makeSlice 29 (.int .i64 44) (.int .i64 44)).run Try.prog w = .ok (.slice (some ⟨w.heap.size, 0, none⟩) 44 44) (w.alloc (.cells (bytesV (zer8 44)).toArray 5)) := fun w => mk8 .i64 44 (by omega) w
  have hbA : Below w.heap.size w ((w.alloc (.cells (bytesV (zer8 44)).toArray 5)).alloc (.cells #[.int .u8 0, .int .u8 5, .int .u8 0, .int .u8 7, .int .u8 0, .int .u8 0, .int .u8 0, .int .u8 9] 5)) := ((Below.refl _ _).alloc (Nat.le_refl _) _).alloc (by simp) _
  have HO : Hid (((w.alloc (.cells (bytesV (zer8 44)).toArray 5)).alloc (.cells #[.int .u8 0, .int .u8 5, .int .u8 0, .int .u8 7, .int .u8 0, .int .u8 0, .int .u8 0, .int .u8 9] 5)).ownsRow w.heap.size 5 1 (.slice (some ⟨w.heap.size, 0, none⟩) 44 44) 44 (bytesV (zer8 44))) := hidden ((zer_own w w.heap.size 44 (Nat.le_refl _) (by omega)).alloc _)
  have HRD : Hid (Reads ((w.alloc (.cells (bytesV (zer8 44)).toArray 5)).alloc (.cells #[.int .u8 0, .int .u8 5, .int .u8 0, .int .u8 7, .int .u8 0, .int .u8 0, .int .u8 0, .int .u8 9] 5)) (some ⟨w.heap.size + 1, 0, none⟩) 8 8 [0, 5, 0, 7, 0, 0, 0, 9]) := hidden (by
    have h1 := owns_new (w.alloc (.cells (bytesV (zer8 44)).toArray 5)) 0 [0, 5, 0, 7, 0, 0, 0, 9] (Nat.zero_le _) (by decide)
    have h2 := own_reads h1
    have h3 : (w.alloc (.cells (bytesV (zer8 44)).toArray 5)).heap.size = w.heap.size + 1 := by simp
    rw [h3] at h2
    exact h2)
  generalize hz : (bytesV (zer8 44)).toArray = Z at *
  clear hz
  go_enter Try.func9, Try.ntmps9
  go_upto_region 2 with (at_builtin; refine wpList_appR (by rfl) (.tmp 15) (.tmp 16) (by rfl) w.heap.size w.heap.size 44 44 8 8 (some ⟨w.heap.size + 1, 0, none⟩) (zer8 44) [0, 5, 0, 7, 0, 0, 0, 9] (by rfl) (by rfl) HO.out HRD.out (by omega) hbA.size ?_; intro g1 c1 w1 ho1 hf1; refine Hid.out ?_)
  have HB1 : Hid (Below w.heap.size w w1) := hidden (hbA.trans (hf1.out.below hbA.size (fun k e => by simp only [Value.ownBlock, Option.some.injEq] at e; omega)))
  have HLD := hidden (laid_any _ _ _ _ w1 (own_reads (show w1.ownsRow w.heap.size 5 1 (.slice (some ⟨g1, 0, none⟩) 52 c1) 52 (bytesV liveL) from ho1)) liveL_ok)
  clear ho1 hf1 HO HRD hbA hmk
  refine hidden ?_
  go_upto_region 4 with (go_at_call 10; refine HLD.out.mono ?_; rintro e w2 ⟨m, d, g, rfl, hL2, hb2⟩)
  have HM := hidden (hL2.mrd (by rw [show (layB liveL).length = 4096 from lay_len _ _ (by decide)]; decide) (lay_ok _ liveL_ok _))
  have HB2 := hidden (HB1.out.trans (hb2.mono HB1.out.size))
  clear hL2 hb2 HLD HB1
  have HL1 : Hid (∀ w, MRd w m (layB liveL) → Calls Try.prog 12 #[.pointer (some ⟨m, 0, none⟩), .agg #[.int .u32 7, .int .u32 2, .int .u32 300, .int .u32 2, .int .u32 4, .int .u32 0, .int .u32 0, .int .u32 0]] w fun e w' => e = .returned (.tuple #[.int .u32 302, .int .i64 0]) ∧ Below w.heap.size w w') := hidden (fun w M => by
    have h := lin_any m _ ⟨7, 2, 300, 2, 4, 0, 0, 0⟩ ⟨by decide, by decide, by decide, by decide, by decide, by decide, by decide, by decide⟩ w M
    rw [live1] at h
    exact h)
  have HL2 : Hid (∀ w, MRd w m (layB liveL) → Calls Try.prog 14 #[.pointer (some ⟨m, 0, none⟩), .agg #[.int .u32 7, .int .u32 2, .int .u32 300, .int .u32 2, .int .u32 2, .int .u32 0, .int .u32 0, .int .u32 4]] w fun e w' => e = .returned (.tuple #[.int .u32 1, .int .i64 0]) ∧ Below w.heap.size w w') := hidden (fun w M => by
    have h := bin_any m _ ⟨7, 2, 300, 2, 2, 0, 0, 4⟩ ⟨by decide, by decide, by decide, by decide, by decide, by decide, by decide, by decide⟩ w M
    rw [live2] at h
    exact h)
  have HL3 : Hid (∀ w, MRd w m (layB liveL) → Calls Try.prog 12 #[.pointer (some ⟨m, 0, none⟩), .agg #[.int .u32 9, .int .u32 2, .int .u32 300, .int .u32 2, .int .u32 4, .int .u32 0, .int .u32 0, .int .u32 2]] w fun e w' => e = .returned (.tuple #[.int .u32 0, .int .i64 0]) ∧ Below w.heap.size w w') := hidden (fun w M => by
    have h := lin_any m _ ⟨9, 2, 300, 2, 4, 0, 0, 2⟩ ⟨by decide, by decide, by decide, by decide, by decide, by decide, by decide, by decide⟩ w M
    rw [live3] at h
    exact h)
  have HL4 : Hid (∀ w, MRd w m (layB liveL) → Calls Try.prog 16 #[.pointer (some ⟨m, 0, none⟩), .agg #[.int .u32 7, .int .u32 1, .int .u32 300, .int .u32 0, .int .u32 0, .int .u32 3, .int .u32 0, .int .u32 0]] w fun e w' => e = .returned (.tuple #[.int .u32 300, .int .i64 0]) ∧ Below w.heap.size w w') := hidden (fun w M => by
    have h := chn_any m _ ⟨7, 1, 300, 0, 0, 3, 0, 0⟩ ⟨by decide, by decide, by decide, by decide, by decide, by decide, by decide, by decide⟩ w M
    rw [live4] at h
    exact h)
  have HL5 : Hid (∀ w, MRd w m (layB liveL) → Calls Try.prog 17 #[.pointer (some ⟨m, 0, none⟩), .agg #[.int .u32 7, .int .u32 1, .int .u32 300, .int .u32 0, .int .u32 0, .int .u32 3, .int .u32 0, .int .u32 0]] w fun e w' => Below w.heap.size w w' ∧ ∃ g c, e = .returned (.tuple #[.slice (some ⟨g, 0, none⟩) 1 c, .int .i64 0]) ∧ Hid (Reads w' (some ⟨g, 0, none⟩) 1 c [7])) := hidden (fun w M => by
    have h := key_any m _ ⟨7, 1, 300, 0, 0, 3, 0, 0⟩ ⟨by decide, by decide, by decide, by decide, by decide, by decide, by decide, by decide⟩ w M
    refine h.mono ?_
    rintro e w' ⟨hb, hcase⟩
    rcases hcase with ⟨h1, _⟩ | ⟨h1, _, _, _, g, c, h2, h3⟩
    · exact absurd live5 h1
    · rw [live6] at h3
      exact ⟨hb, g, c, h2, hidden (own_reads h3)⟩)
  go_upto_region 5 with fail
  have HX : Hid (IBox (w2.alloc (.cells #[.int .u32 7, .int .u32 2, .int .u32 300, .int .u32 2, .int .u32 4, .int .u32 0, .int .u32 0, .int .u32 0] 32)) w2.heap.size 7 2 300 2 4 0 0 0) := hidden (heap_alloc_new _ _)
  have HB3 : Hid (Below w2.heap.size w2 (w2.alloc (.cells #[.int .u32 7, .int .u32 2, .int .u32 300, .int .u32 2, .int .u32 4, .int .u32 0, .int .u32 0, .int .u32 0] 32))) := hidden ((Below.refl _ _).alloc (Nat.le_refl _) _)
  have hSS : w2.heap.size ≤ w2.heap.size := Nat.le_refl _
  generalize w2.alloc (.cells #[.int .u32 7, .int .u32 2, .int .u32 300, .int .u32 2, .int .u32 4, .int .u32 0, .int .u32 0, .int .u32 0] 32) = w3 at *
  generalize hS : w2.heap.size = S at *
  have HS := hidden hS
  clear hS
  obtain ⟨x0, x1, x2, x3, x4, x5, x6, x7, xf⟩ := HX.out.cells
  go_upto_region 6 with (go_at_call 12; refine (HL1.out _ (HM.out.later (by rw [HS.out]; exact HB3.out))).mono ?_; rintro e w4 ⟨rfl, hb4⟩)
  replace HX := hidden (HX.out.later hb4)
  replace HB3 := hidden (HB3.out.trans (hb4.mono (by have h := HB3.out.size; rwa [HS.out] at h)))
  clear x0 x1 x2 x3 x4 x5 x6 x7 xf hb4
  obtain ⟨x0, x1, x2, x3, x4, x5, x6, x7, xf⟩ := HX.out.cells
  have xf7 := xf 7
  have xf4 := xf 4
  go_upto_region 7 with fail
  have HX5 : Hid (IBox ((w4.setCell ⟨S, 7, none⟩ (.int .u32 4)).setCell ⟨S, 4, none⟩ (.int .u32 2)) S 7 2 300 2 2 0 0 4) := hidden (by have := HX.out; unfold IBox at *; simp [World.setCell, Array.getElem?_modify, this])
  replace HB3 : Hid (Below S w2 ((w4.setCell ⟨S, 7, none⟩ (.int .u32 4)).setCell ⟨S, 4, none⟩ (.int .u32 2))) := hidden ((HB3.out.setCell (p := ⟨S, 7, none⟩) (Nat.le_refl _) _).setCell (p := ⟨S, 4, none⟩) (Nat.le_refl _) _)
  clear x0 x1 x2 x3 x4 x5 x6 x7 xf xf7 xf4 HX
  generalize (w4.setCell ⟨S, 7, none⟩ (.int .u32 4)).setCell ⟨S, 4, none⟩ (.int .u32 2) = w5 at *
  obtain ⟨x0, x1, x2, x3, x4, x5, x6, x7, xf⟩ := HX5.out.cells
  go_upto_region 8 with (go_at_call 14; refine (HL2.out _ (HM.out.later (by rw [HS.out]; exact HB3.out))).mono ?_; rintro e w6 ⟨rfl, hb6⟩)
  replace HX5 := hidden (HX5.out.later hb6)
  replace HB3 := hidden (HB3.out.trans (hb6.mono (by have h := HB3.out.size; rwa [HS.out] at h)))
  clear x0 x1 x2 x3 x4 x5 x6 x7 xf hb6
  obtain ⟨x0, x1, x2, x3, x4, x5, x6, x7, xf⟩ := HX5.out.cells
  have xf0 := xf 0
  have xf7 := xf 7
  have xf4 := xf 4
  go_upto_region 9 with fail
  have HX7 : Hid (IBox (((w6.setCell ⟨S, 0, none⟩ (.int .u32 9)).setCell ⟨S, 7, none⟩ (.int .u32 2)).setCell ⟨S, 4, none⟩ (.int .u32 4)) S 9 2 300 2 4 0 0 2) := hidden (by have := HX5.out; unfold IBox at *; simp [World.setCell, Array.getElem?_modify, this])
  replace HB3 : Hid (Below S w2 (((w6.setCell ⟨S, 0, none⟩ (.int .u32 9)).setCell ⟨S, 7, none⟩ (.int .u32 2)).setCell ⟨S, 4, none⟩ (.int .u32 4))) := hidden (((HB3.out.setCell (p := ⟨S, 0, none⟩) (Nat.le_refl _) _).setCell (p := ⟨S, 7, none⟩) (Nat.le_refl _) _).setCell (p := ⟨S, 4, none⟩) (Nat.le_refl _) _)
  clear x0 x1 x2 x3 x4 x5 x6 x7 xf xf7 xf4 xf0 HX5
  generalize ((w6.setCell ⟨S, 0, none⟩ (.int .u32 9)).setCell ⟨S, 7, none⟩ (.int .u32 2)).setCell ⟨S, 4, none⟩ (.int .u32 4) = w7 at *
  obtain ⟨x0, x1, x2, x3, x4, x5, x6, x7, xf⟩ := HX7.out.cells
  go_upto_region 10 with (go_at_call 12; refine (HL3.out _ (HM.out.later (by rw [HS.out]; exact HB3.out))).mono ?_; rintro e w8 ⟨rfl, hb8⟩)
  replace HX7 := hidden (HX7.out.later hb8)
  replace HB3 := hidden (HB3.out.trans (hb8.mono (by have h := HB3.out.size; rwa [HS.out] at h)))
  clear x0 x1 x2 x3 x4 x5 x6 x7 xf hb8
  obtain ⟨x0, x1, x2, x3, x4, x5, x6, x7, xf⟩ := HX7.out.cells
  have xf0 := xf 0
  have xf1 := xf 1
  have xf2 := xf 2
  have xf3 := xf 3
  have xf4 := xf 4
  have xf5 := xf 5
  have xf6 := xf 6
  have xf7 := xf 7
  go_upto_region 11 with fail
  have HX9 : Hid (IBox ((((((((w8.setCell ⟨S, 0, none⟩ (.int .u32 7)).setCell ⟨S, 1, none⟩ (.int .u32 1)).setCell ⟨S, 2, none⟩ (.int .u32 300)).setCell ⟨S, 3, none⟩ (.int .u32 0)).setCell ⟨S, 4, none⟩ (.int .u32 0)).setCell ⟨S, 5, none⟩ (.int .u32 3)).setCell ⟨S, 6, none⟩ (.int .u32 0)).setCell ⟨S, 7, none⟩ (.int .u32 0)) S 7 1 300 0 0 3 0 0) := hidden (by have := HX7.out; unfold IBox at *; simp [World.setCell, Array.getElem?_modify, this])
  replace HB3 : Hid (Below S w2 ((((((((w8.setCell ⟨S, 0, none⟩ (.int .u32 7)).setCell ⟨S, 1, none⟩ (.int .u32 1)).setCell ⟨S, 2, none⟩ (.int .u32 300)).setCell ⟨S, 3, none⟩ (.int .u32 0)).setCell ⟨S, 4, none⟩ (.int .u32 0)).setCell ⟨S, 5, none⟩ (.int .u32 3)).setCell ⟨S, 6, none⟩ (.int .u32 0)).setCell ⟨S, 7, none⟩ (.int .u32 0))) := hidden ((((((((HB3.out.setCell (p := ⟨S, 0, none⟩) (Nat.le_refl _) _).setCell (p := ⟨S, 1, none⟩) (Nat.le_refl _) _).setCell (p := ⟨S, 2, none⟩) (Nat.le_refl _) _).setCell (p := ⟨S, 3, none⟩) (Nat.le_refl _) _).setCell (p := ⟨S, 4, none⟩) (Nat.le_refl _) _).setCell (p := ⟨S, 5, none⟩) (Nat.le_refl _) _).setCell (p := ⟨S, 6, none⟩) (Nat.le_refl _) _).setCell (p := ⟨S, 7, none⟩) (Nat.le_refl _) _)
  clear x0 x1 x2 x3 x4 x5 x6 x7 xf xf7 xf6 xf5 xf4 xf3 xf2 xf1 xf0 HX7
  generalize ((((((((w8.setCell ⟨S, 0, none⟩ (.int .u32 7)).setCell ⟨S, 1, none⟩ (.int .u32 1)).setCell ⟨S, 2, none⟩ (.int .u32 300)).setCell ⟨S, 3, none⟩ (.int .u32 0)).setCell ⟨S, 4, none⟩ (.int .u32 0)).setCell ⟨S, 5, none⟩ (.int .u32 3)).setCell ⟨S, 6, none⟩ (.int .u32 0)).setCell ⟨S, 7, none⟩ (.int .u32 0)) = w9 at *
  obtain ⟨x0, x1, x2, x3, x4, x5, x6, x7, xf⟩ := HX9.out.cells
  go_upto_region 12 with (go_at_call 16; refine (HL4.out _ (HM.out.later (by rw [HS.out]; exact HB3.out))).mono ?_; rintro e w10 ⟨rfl, hb10⟩)
  replace HX9 := hidden (HX9.out.later hb10)
  replace HB3 := hidden (HB3.out.trans (hb10.mono (by have h := HB3.out.size; rwa [HS.out] at h)))
  clear x0 x1 x2 x3 x4 x5 x6 x7 xf hb10
  obtain ⟨x0, x1, x2, x3, x4, x5, x6, x7, xf⟩ := HX9.out.cells
  go_upto_region 13 with (go_at_call 17; refine (HL5.out _ (HM.out.later (by rw [HS.out]; exact HB3.out))).mono ?_; rintro e w11 ⟨hb11, gk, ck, rfl, HRK⟩)
  replace HB3 := hidden (HB3.out.trans (hb11.mono (by have h := HB3.out.size; rwa [HS.out] at h)))
  clear x0 x1 x2 x3 x4 x5 x6 x7 xf hb11
  have hcv : (convert 29 9 (.slice (some ⟨gk, 0, none⟩) 1 ck)).run Try.prog w11 = .ok (.string ⟨#[7]⟩) w11 := by
    have h := conv_reads w11 _ 1 ck [7] (by intro c hc; simp at hc; omega) HRK.out
    rw [h]
    rfl
  have HFIN : Hid (Below w.heap.size w w11) := hidden (HB2.out.trans (HB3.out.mono (by have h := HB2.out.size; rwa [HS.out] at h)))
  go_wp2_with (go_at_call 13; refine (num13 _ _).mono ?_; rintro e w12 ⟨rfl, e9⟩; rw [e9]; clear e9)
  go_ret
  exact ⟨rfl, HFIN.out⟩
end Go.Proofs.Ytppgpfppmbdfhaa
namespace Go.Proofs.Ytppgpfppmbdfhaa
open Go.RowKit Go.ChangeShapes Go.WideShapes
set_option maxHeartbeats 1000000
set_option maxRecDepth 100000
set_option linter.unusedVariables false

theorem list8s {α : Type} {l : List α} (h : l.length = 8) : ∃ c0 c1 c2 c3 c4 c5 c6 c7, l = [c0, c1, c2, c3, c4, c5, c6, c7] := by
  match l, h with
  | [c0, c1, c2, c3, c4, c5, c6, c7], _ => exact ⟨c0, c1, c2, c3, c4, c5, c6, c7, rfl⟩
theorem open_srch {H : Type} {enc : TypeId × Value → H} {W : World} {r : Reach} {b0 : Nat} {sp : Nat → Bool} {v : Value} {d : DataW H} {p : List MemPlace}
    (hv : Value.okWide Try.prog W r b0 32 v) (h : DataW.Trod enc Try.prog W 0 sp true 32 v d p) :
    ∃ x0 x1 x2 x3 x4 x5 x6 x7 : Int, v = .agg #[.int .u32 x0, .int .u32 x1, .int .u32 x2, .int .u32 x3, .int .u32 x4, .int .u32 x5, .int .u32 x6, .int .u32 x7] ∧
      d = .agg [.lit (.int .u32 x0), .lit (.int .u32 x1), .lit (.int .u32 x2), .lit (.int .u32 x3), .lit (.int .u32 x4), .lit (.int .u32 x5), .lit (.int .u32 x6), .lit (.int .u32 x7)] ∧ p = [] ∧
      (Lit.int .u32 x0).wf = true ∧ (Lit.int .u32 x1).wf = true ∧ (Lit.int .u32 x2).wf = true ∧ (Lit.int .u32 x3).wf = true ∧ (Lit.int .u32 x4).wf = true ∧ (Lit.int .u32 x5).wf = true ∧ (Lit.int .u32 x6).wf = true ∧ (Lit.int .u32 x7).wf = true := by
  obtain ⟨cs, rfl, hsz⟩ := okWide_struct Try.underlying32 hv
  have hsz8 : cs.toList.length = 8 := by
    have : Try.prog.cellsOf 32 = 8 := by kernel_rfl
    rw [this] at hsz
    simpa using hsz
  obtain ⟨c0, c1, c2, c3, c4, c5, c6, c7, hcs⟩ := list8s hsz8
  obtain ⟨fuel, hf⟩ := h
  obtain ⟨xs, n, _, hx, _, hlen, hfld⟩ := DataW.trod_struct Try.underlying32 hf
  obtain ⟨y0, y1, y2, y3, y4, y5, y6, y7, rfl⟩ := list8s (l := xs) hlen
  have e1 : Try.prog.cellsOf 23 = 1 := by kernel_rfl
  have hcl : (Value.agg cs).cells.toList = [c0, c1, c2, c3, c4, c5, c6, c7] := by simpa [Value.cells] using hcs
  rw [hcl] at hfld
  have t0 := hfld 0 _ rfl
  have t1 := hfld 1 _ rfl
  have t2 := hfld 2 _ rfl
  have t3 := hfld 3 _ rfl
  have t4 := hfld 4 _ rfl
  have t5 := hfld 5 _ rfl
  have t6 := hfld 6 _ rfl
  have t7 := hfld 7 _ rfl
  simp [e1] at t0 t1 t2 t3 t4 t5 t6 t7
  obtain ⟨x0, q0, rfl, w0⟩ := DataW.trod_int Try.underlying23 t0
  obtain ⟨x1, q1, rfl, w1⟩ := DataW.trod_int Try.underlying23 t1
  obtain ⟨x2, q2, rfl, w2⟩ := DataW.trod_int Try.underlying23 t2
  obtain ⟨x3, q3, rfl, w3⟩ := DataW.trod_int Try.underlying23 t3
  obtain ⟨x4, q4, rfl, w4⟩ := DataW.trod_int Try.underlying23 t4
  obtain ⟨x5, q5, rfl, w5⟩ := DataW.trod_int Try.underlying23 t5
  obtain ⟨x6, q6, rfl, w6⟩ := DataW.trod_int Try.underlying23 t6
  obtain ⟨x7, q7, rfl, w7⟩ := DataW.trod_int Try.underlying23 t7
  simp at q0 q1 q2 q3 q4 q5 q6 q7
  subst q0 q1 q2 q3 q4 q5 q6 q7
  refine ⟨x0, x1, x2, x3, x4, x5, x6, x7, ?_, ?_, ?_, w0, w1, w2, w3, w4, w5, w6, w7⟩
  · have : cs = #[.int .u32 x0, .int .u32 x1, .int .u32 x2, .int .u32 x3, .int .u32 x4, .int .u32 x5, .int .u32 x6, .int .u32 x7] := by
      obtain ⟨l⟩ := cs
      simp at hcs
      simp [hcs]
    rw [this]
  · simpa using congrArg Prod.fst hx
  · simpa using congrArg Prod.snd hx
theorem shut_srch {H : Type} {enc : TypeId × Value → H} {W : World} {sp : Nat → Bool} (x0 x1 x2 x3 x4 x5 x6 x7 : Int)
    (w0 : (Lit.int .u32 x0).wf = true) (w1 : (Lit.int .u32 x1).wf = true) (w2 : (Lit.int .u32 x2).wf = true) (w3 : (Lit.int .u32 x3).wf = true) (w4 : (Lit.int .u32 x4).wf = true) (w5 : (Lit.int .u32 x5).wf = true) (w6 : (Lit.int .u32 x6).wf = true) (w7 : (Lit.int .u32 x7).wf = true) :
    DataW.Trod enc Try.prog W 0 sp true 32 (.agg #[.int .u32 x0, .int .u32 x1, .int .u32 x2, .int .u32 x3, .int .u32 x4, .int .u32 x5, .int .u32 x6, .int .u32 x7])
      (.agg [.lit (.int .u32 x0), .lit (.int .u32 x1), .lit (.int .u32 x2), .lit (.int .u32 x3), .lit (.int .u32 x4), .lit (.int .u32 x5), .lit (.int .u32 x6), .lit (.int .u32 x7)]) [] := by
  have e1 : Try.prog.cellsOf 23 = 1 := by kernel_rfl
  have e8 : Try.prog.cellsOf 32 = 8 := by kernel_rfl
  refine ⟨1 + 1, ?_⟩
  have hm := fun (x : Int) (hw : (Lit.int .u32 x).wf = true) => trod_int_mk (enc := enc) (P := Try.prog) (w := W) (base := 0) (spare := sp) (held := true) (n := x) 0 Try.underlying23 hw
  have := trod_struct_mk (enc := enc) (P := Try.prog) (w := W) (base := 0) (spare := sp) (held := true) (n := 1) (cs := [.int .u32 x0, .int .u32 x1, .int .u32 x2, .int .u32 x3, .int .u32 x4, .int .u32 x5, .int .u32 x6, .int .u32 x7])
    (xs := [(.lit (.int .u32 x0), []), (.lit (.int .u32 x1), []), (.lit (.int .u32 x2), []), (.lit (.int .u32 x3), []), (.lit (.int .u32 x4), []), (.lit (.int .u32 x5), []), (.lit (.int .u32 x6), []), (.lit (.int .u32 x7), [])]) Try.underlying32 (by rw [e8]; rfl)
    (by simp [e1, hm x0 w0, hm x1 w1, hm x2 w2, hm x3 w3, hm x4 w4, hm x5 w5, hm x6 w6, hm x7 w7])
  simpa [Value.cells] using this
theorem srch_of {x0 x1 x2 x3 x4 x5 x6 x7 : Int} (w0 : (Lit.int .u32 x0).wf = true) (w1 : (Lit.int .u32 x1).wf = true) (w2 : (Lit.int .u32 x2).wf = true) (w3 : (Lit.int .u32 x3).wf = true) (w4 : (Lit.int .u32 x4).wf = true) (w5 : (Lit.int .u32 x5).wf = true) (w6 : (Lit.int .u32 x6).wf = true) (w7 : (Lit.int .u32 x7).wf = true) : ∃ s : Sr, s.ok ∧ x0 = (s.key : Int) ∧ x1 = (s.ks : Int) ∧ x2 = (s.start : Int) ∧ x3 = (s.size : Int) ∧ x4 = (s.cnt : Int) ∧ x5 = (s.off : Int) ∧ x6 = (s.nxt : Int) ∧ x7 = (s.opt : Int) := by
  have b0 := bounds_u32 w0
  have b1 := bounds_u32 w1
  have b2 := bounds_u32 w2
  have b3 := bounds_u32 w3
  have b4 := bounds_u32 w4
  have b5 := bounds_u32 w5
  have b6 := bounds_u32 w6
  have b7 := bounds_u32 w7
  exact ⟨⟨x0.toNat, x1.toNat, x2.toNat, x3.toNat, x4.toNat, x5.toNat, x6.toNat, x7.toNat⟩, ⟨by simp only; omega, by simp only; omega, by simp only; omega, by simp only; omega, by simp only; omega, by simp only; omega, by simp only; omega, by simp only; omega⟩, by simp only; omega, by simp only; omega, by simp only; omega, by simp only; omega, by simp only; omega, by simp only; omega, by simp only; omega, by simp only; omega⟩
end Go.Proofs.Ytppgpfppmbdfhaa
