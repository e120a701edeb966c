/- Layer 17: the page's example. -/
import Derived.Test.YtnjeobijbbjlaaaZ17n
namespace Go.Proofs.Ytnjeobijbbjlaaa
open Go.RowKit
set_option maxHeartbeats 1000000
set_option maxRecDepth 100000
set_option linter.unusedVariables false

theorem own_rd {B : Nat} {w : World} {n c : Nat} {ao : Option Addr} {zs : List Int} (h : w.ownsRow B 5 1 (.slice ao n c) n (bytesV zs)) : Reads w ao n c zs := own_read8 (v := .slice none 0 0) h
theorem ex_row : rowL [1, 2, 3, 4, 5] [1, 2, 9, 4, 5] = [0, 0, 10, 0, 0] := by decide
theorem ex_sq : sqT (rowL [1, 2, 3, 4, 5] [1, 2, 9, 4, 5]) 0 = [0, 1, 10] := by
  rw [ex_row]
  simp [sqT, runL_few]
theorem ex_e5 : stE (5 : Nat) [0, 1, 10] = 0 := by
  unfold stE
  rw [if_neg (by omega), unE_run]
  simp [unE]
theorem ex_e2 : stE (2 : Nat) [0, 1, 10] = 3 := by
  unfold stE
  rw [if_neg (by omega), unE_run]
  simp [unE]
theorem ex_l5 : stL [1, 2, 3, 4, 5] (5 : Nat) [0, 1, 10] = [1, 2, 9, 4, 5] := by
  unfold stL
  rw [if_pos ex_e5, unL_run]
  simp only [unL]
  decide
theorem UR.bel {B m : Nat} {v : Value} {most : Int} {w w' : World} {L L' : List Sv} (h : UR B m v most w L w') (hU : UAt B w m v most L') (hB : B ≤ w.heap.size) : Below B w w' := by
  obtain ⟨v', h1, h2⟩ := h
  refine h2.below hB (fun k e => ?_)
  rcases e with e | e
  · rw [e]; exact hU.base
  · exact (hU.row.lt k e).1
theorem num_i (E : Int) (w : World) (h0 : 0 ≤ E) (h1 : E ≤ 1000) : Calls Try.prog 15 #[.int .i64 E] w fun e w' => e = .returned (.int .i64 E) ∧ w' = w := by
  have hw : IntKind.i64.wrap E = E := by rw [IntKind.wrap_i64]; omega
  go_enter Try.func15, Try.ntmps15
  go_wp2
  go_ret
  exact ⟨by first | rfl | simp [hw], rfl⟩
set_option maxHeartbeats 8000000 in
theorem live_any (w : World) : Calls Try.prog 7 #[] w fun e w' => e = .returned (.bool true) ∧ Below w.heap.size w w' := by
  have hb1 : Below w.heap.size w (w.alloc (.cells #[.int .u8 1, .int .u8 2, .int .u8 3, .int .u8 4, .int .u8 5] 5)) := (Below.refl _ _).alloc (Nat.le_refl _) _
  have o1 : (w.alloc (.cells #[.int .u8 1, .int .u8 2, .int .u8 3, .int .u8 4, .int .u8 5] 5)).ownsRow w.heap.size 5 1 (.slice (some ⟨w.heap.size, 0, none⟩) 5 5) 5 (bytesV [1, 2, 3, 4, 5]) := owns_new w w.heap.size [1, 2, 3, 4, 5] (Nat.le_refl _) (by unfold maxLen; simp)
  have O1 := hidden o1
  have B1 := hidden hb1
  have hs1 : (w.alloc (.cells #[.int .u8 1, .int .u8 2, .int .u8 3, .int .u8 4, .int .u8 5] 5)).heap.size = w.heap.size + 1 := by simp
  clear o1 hb1
  go_enter Try.func7, Try.ntmps7
  go_upto_region 2 with fail
  generalize w.alloc (.cells #[.int .u8 1, .int .u8 2, .int .u8 3, .int .u8 4, .int .u8 5] 5) = w1 at *
  have hb2 : Below w1.heap.size w1 (w1.alloc (.cells #[.int .u8 1, .int .u8 2, .int .u8 9, .int .u8 4, .int .u8 5] 5)) := (Below.refl _ _).alloc (Nat.le_refl _) _
  have o2 : (w1.alloc (.cells #[.int .u8 1, .int .u8 2, .int .u8 9, .int .u8 4, .int .u8 5] 5)).ownsRow w1.heap.size 5 1 (.slice (some ⟨w1.heap.size, 0, none⟩) 5 5) 5 (bytesV [1, 2, 9, 4, 5]) := owns_new w1 w1.heap.size [1, 2, 9, 4, 5] (Nat.le_refl _) (by unfold maxLen; simp)
  have O12 := hidden (own_later O1.out hb2)
  have HSQ := hidden (squeeze_any _ _ 5 5 5 5 [1, 2, 3, 4, 5] [1, 2, 9, 4, 5] _ (own_rd O12.out) (own_rd o2) (by omega) (by omega))
  rw [ex_sq] at HSQ
  have B2 := hidden (B1.out.trans (hb2.mono B1.out.size))
  clear O1 o2 hb2 hs1
  go_upto_region 3 with (first
    | (go_at_call 9; refine HSQ.out.mono ?_; rintro e w3 ⟨a3, n3, c3, rfl, O3, B3⟩)
    | fail)
  obtain rfl : n3 = 3 := (row_len O3.out).symm
  have O13 := hidden (own_later O12.out B3.out)
  have B03 := hidden (B2.out.trans (B3.out.mono B2.out.size))
  have hokb : OkB [0, 1, 10] := by intro c hc; simp at hc; omega
  have HST := hidden (stretch_good _ _ 5 5 3 c3 5 [1, 2, 3, 4, 5] [0, 1, 10] _ (own_rd O13.out) (own_rd O3.out) hokb (by omega) (by omega) (by omega))
  rw [ex_e5, ex_l5] at HST
  clear HSQ O12 B2 B3
  go_upto_region 4 with (first
    | (go_at_call 13; refine HST.out.mono ?_; rintro e w4 ⟨a4, n4, c4, rfl, O4, B4⟩)
    | fail)
  obtain rfl : n4 = 5 := (row_len O4.out).symm
  have O14 := hidden (own_later O13.out B4.out)
  have O34 := hidden (own_later O3.out B4.out)
  have B04 := hidden (B03.out.trans (B4.out.mono B03.out.size))
  have HS2 := hidden (stretch_good _ _ 5 5 3 c3 2 [1, 2, 3, 4, 5] [0, 1, 10] _ (own_rd O14.out) (own_rd O34.out) hokb (by omega) (by omega) (by omega))
  rw [ex_e2] at HS2
  clear HST O13 O3 B03 B4
  go_upto_region 5 with (first
    | (go_at_call 13; refine HS2.out.mono ?_; rintro e w5 ⟨a5, n5, c5, rfl, O5, B5⟩)
    | fail)
  have O35 := hidden (own_later O34.out B5.out)
  have O45 := hidden (own_later O4.out B5.out)
  have B05 := hidden (B04.out.trans (B5.out.mono B04.out.size))
  have HNW := hidden (new_good 1 w5 (by omega) (by omega))
  clear HS2 O14 O34 O4 O5 B04 B5
  go_upto_region 8 with (first
    | (go_at_call 16; refine HNW.out.mono ?_; rintro e w6 ⟨rfl, U6, B6⟩)
    | fail)
  have H35 := hidden (fun wx (h : Below w5.heap.size w5 wx) => own_later O35.out h)
  have H45 := hidden (fun wx (h : Below w5.heap.size w5 wx) => own_later O45.out h)
  have H05 : Hid (∀ wx, Below w5.heap.size w5 wx → Below w.heap.size w wx) := hidden (fun wx h => B05.out.trans (h.mono B05.out.size))
  have hml := U6.out.lt
  have HPS := hidden (upush_nil U6.out B6.out.size (by simp) 5)
  have h56 := B6.out.size
  have HM5 : Hid (∀ wx, Below w5.heap.size w5 wx → w5.heap.size ≤ wx.heap.size) := hidden (fun wx h => h.size)
  generalize w5.heap.size = M5 at *
  clear HNW O35 O45 B05
  go_upto_region 9 with (first
    | (go_at_call 17; refine HPS.out.mono ?_; rintro e w7 ⟨rfl, R7⟩)
    | fail)
  have hp : pushL 1 [] (svN 5) = [] ++ [svN 5] := by unfold pushL; simp
  rw [hp] at R7
  have B67 := hidden (R7.out.bel U6.out h56)
  have B57 := hidden (B6.out.trans B67.out)
  have h57 := Nat.le_trans h56 B67.out.size
  obtain ⟨v7, U7, F7⟩ := R7.out
  have HPO := hidden (upop_some (M := []) (x := svN 5) U7 (by simp))
  simp only [svN] at HPO
  have HB8 : Hid (∀ w8, UR M5 M5 v7 1 w7 [] w8 → Below M5 w5 w8) := hidden (fun w8 h => B57.out.trans (h.bel U7 h57))
  clear HPS hp R7 F7 U6 U7 B6 B67 B57
  go_upto_region 10 with (first
    | (go_at_call 19; refine HPO.out.mono ?_; rintro e w8 ⟨rfl, R8⟩)
    | fail)
  have hb9 : Below w8.heap.size w8 (w8.alloc (.cells #[.slice none 0 0, .int .u32 5, .slice none 0 0, .slice none 0 0] 38)) := (Below.refl _ _).alloc (Nat.le_refl _) _
  have b58 := HB8.out w8 R8.out
  have b59 : Below M5 w5 (w8.alloc (.cells #[.slice none 0 0, .int .u32 5, .slice none 0 0, .slice none 0 0] 38)) := b58.alloc (HM5.out _ b58) _
  have B09 := hidden (H05.out _ b59)
  obtain ⟨_, c1, _, _⟩ := st_box w8 (svN 5)
  simp only [svN] at c1
  have x1 := conv_reads _ a3 3 c3 [0, 1, 10] hokb (own_rd (H35.out _ b59))
  have x2 := conv_reads _ a4 5 c4 [1, 2, 9, 4, 5] (by intro c hc; simp at hc; omega) (own_rd (H45.out _ b59))
  have e1 : (⟨(strB [0, 1, 10]).toArray⟩ : ByteArray) = ⟨#[0, 1, 10]⟩ := rfl
  have e2 : (⟨(strB [1, 2, 9, 4, 5]).toArray⟩ : ByteArray) = ⟨#[1, 2, 9, 4, 5]⟩ := rfl
  rw [e1] at x1
  rw [e2] at x2
  have HN0 := hidden (fun wx => num_i 0 wx (by omega) (by omega))
  have HN3 := hidden (fun wx => num_i 3 wx (by omega) (by omega))
  clear b58 b59 hb9 H05 H35 H45 HB8 HPO R8 e1 e2 hokb
  go_wp2_with (first
    | (go_at_call_of 15 (Value.int IntKind.i64 0); refine (HN0.out _).mono ?_; rintro e w6 ⟨rfl, e9⟩; rw [e9]; clear e9)
    | (go_at_call_of 15 (Value.int IntKind.i64 3); refine (HN3.out _).mono ?_; rintro e w6 ⟨rfl, e9⟩; rw [e9]; clear e9)
    | fail)
  go_ret
  exact ⟨by first | rfl | simp, B09.out⟩
end Go.Proofs.Ytnjeobijbbjlaaa
