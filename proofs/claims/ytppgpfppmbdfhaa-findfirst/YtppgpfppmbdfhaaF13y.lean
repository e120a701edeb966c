/- Layer 13: the walk of FindFirst. -/
import Derived.Test.YtppgpfppmbdfhaaF13E
namespace Go.Proofs.Ytppgpfppmbdfhaa
open Go.RowKit
set_option maxHeartbeats 1000000
set_option maxRecDepth 100000
set_option linter.unusedVariables false

set_option maxHeartbeats 8000000 in
theorem first_false (a : Option Addr) (len cap : Nat) (xs : List Nat) (key : Nat) (w : World) (h : VRow w a len xs) (hk : key < 4294967296) (hl : len ≤ 900) :
    Calls Try.prog 3 #[.slice a len cap, .int .u32 key, .bool false] w fun e w' => e = .returned (.bool true) ∧ Below w.heap.size w w' := by
  have hln := h.ln
  have g1 : ¬ ((len : Int) > 900) := by omega
  have HV := hidden h
  have HW := hidden (words_any a len cap xs w h (by omega))
  have HAG := hidden (atF_ge false key xs 0)
  clear h
  go_enter Try.func3, Try.ntmps3
  go_upto_region 4 with (first | (go_at_call 11; refine HW.out.mono ?_; rintro e w0 ⟨a0, c0, rfl, hr0, hb0⟩; have HLD := hidden (laid_any a0 (4 * len) c0 _ w0 hr0 (puts_ok _)); have HB0 := hidden hb0; clear hr0 hb0; skip) | (go_at_call 10; refine HLD.out.mono ?_; rintro e w1 ⟨m, d, g, rfl, hL1, hb1⟩; skip) | fail)
  have HM1 := hidden (hL1.mrd (by rw [lay_len2]; omega) (lay_ok _ (puts_ok _) _))
  have HB1 := hidden (HB0.out.trans (hb1.mono HB0.out.size))
  clear hL1 hb1 HLD HW HB0
  have e1 : IntKind.u32.wrap (len : Int) = len := by rw [IntKind.wrap_u32]; omega
  go_upto_region 7 with fail
  have HX : Hid (IBox (w1.alloc (.cells #[.int .u32 (key : Int), .int .u32 4, .int .u32 256, .int .u32 4, .int .u32 (len : Int), .int .u32 0, .int .u32 0, .int .u32 0] 32)) w1.heap.size (key : Int) 4 256 4 (len : Int) 0 0 0) := hidden (heap_alloc_new _ _)
  have hbS : Hid (Below w1.heap.size w1 (w1.alloc (.cells #[.int .u32 (key : Int), .int .u32 4, .int .u32 256, .int .u32 4, .int .u32 (len : Int), .int .u32 0, .int .u32 0, .int .u32 0] 32))) := hidden ((Below.refl _ _).alloc (Nat.le_refl _) _)
  have HB2 := hidden (HB1.out.alloc HB1.out.size (.cells #[.int .u32 (key : Int), .int .u32 4, .int .u32 256, .int .u32 4, .int .u32 (len : Int), .int .u32 0, .int .u32 0, .int .u32 0] 32))
  generalize w1.alloc (.cells #[.int .u32 (key : Int), .int .u32 4, .int .u32 256, .int .u32 4, .int .u32 (len : Int), .int .u32 0, .int .u32 0, .int .u32 0] 32) = w2 at *
  have HSS := hidden HB1.out.size
  have HMS := hidden (fun wx (hx : Below w1.heap.size w1 wx) => HM1.out.later hx)
  generalize hS : w1.heap.size = S at *
  have HS := hidden (Nat.le_of_eq hS)
  clear hS
  obtain ⟨x0, x1, x2, x3, x4, x5, x6, x7, xf⟩ := HX.out.cells
  have xf7 := xf 7
  go_upto_region 9 with fail
  have HX2 := HX
  have HM2 := hidden (HMS.out _ hbS.out)
  have HN2 := hbS
  clear x0 x1 x2 x3 x4 x5 x6 x7 xf xf7 HX
  generalize w2 = w3 at *
  have HL1 : Hid (∀ w, MRd w m (layB (putsL (intsL xs))) → Calls Try.prog 12 #[.pointer (some ⟨m, 0, none⟩), .agg #[.int .u32 (key : Int), .int .u32 4, .int .u32 256, .int .u32 4, .int .u32 (len : Int), .int .u32 0, .int .u32 0, .int .u32 0]] w fun e w' => e = .returned (.tuple #[.int .u32 (if atF false key xs 0 < 0 then 0 else 256 + 4 * (atF false key xs 0).toNat : Nat), .int .i64 0]) ∧ Below w.heap.size w w') := hidden (fun w M => lin_w m _ key len 0 hk (by omega) (by omega) _ ((linV_words2 xs key 0 len false HV.out.bd hk (by omega) rfl rfl hln).trans (tell0 key len 0 rfl _)) w M 4 256 0 0 rfl rfl rfl rfl)
  have HL2 : Hid (∀ w, MRd w m (layB (putsL (intsL xs))) → Calls Try.prog 12 #[.pointer (some ⟨m, 0, none⟩), .agg #[.int .u32 (key : Int), .int .u32 4, .int .u32 256, .int .u32 4, .int .u32 (len : Int), .int .u32 0, .int .u32 0, .int .u32 4]] w fun e w' => e = .returned (.tuple #[.int .u32 (if atF false key xs 0 < 0 then 4294967295 else (atF false key xs 0).toNat : Nat), .int .i64 0]) ∧ Below w.heap.size w w') := hidden (fun w M => lin_w m _ key len 4 hk (by omega) (by omega) _ ((linV_words2 xs key 4 len false HV.out.bd hk (by omega) rfl rfl hln).trans (tell4 key len 4 rfl _)) w M 4 256 0 4 rfl rfl rfl rfl)
  have e2 : IntKind.i64.wrap ((len : Int) - 1) = (len : Int) - 1 := by rw [IntKind.wrap_i64]; omega
  go_upto_region 11 with fail
  go_loopw [10, 11] (fun at_ i w' => w' = w3 ∧ ∃ k : Nat, k ≤ len ∧ i = .int .i64 ((k : Int) - 1) ∧ ∃ AT : Int, at_ = .int .i64 AT ∧ Hid (AT = atF false key (xs.drop k) k)) (fun _ i _ => (intOf i + 1).toNat)
  case atStart => exact ⟨rfl, len, by omega, rfl, -1, rfl, hidden (by rw [List.drop_of_length_le (by omega)]; rfl)⟩
  case round =>
    obtain ⟨rfl, k, hkl, rfl, AT, rfl, hAT⟩ := hrel
    by_cases hlt : 0 < k
    · obtain ⟨j, rfl⟩ : ∃ j, k = j + 1 := ⟨k - 1, by omega⟩
      have l0 : (((j + 1 : Nat) : Int) - 1) = (j : Int) := by omega
      rw [l0]
      have l1 : (j : Int) < len := by omega
      have l2 : (0 : Int) ≤ j := by omega
      have e3 : ((j : Int)).toNat = j := by omega
      have e4 : IntKind.i64.wrap ((j : Int) - 1) = (j : Int) - 1 := by rw [IntKind.wrap_i64]; omega
      obtain ⟨b, o, ha, hc⟩ := (HV.out.later HB2.out).cells j (by omega)
      subst ha
      have hd : xs.drop j = xs.getD j 0 :: xs.drop (j + 1) := by
        rw [List.drop_eq_getElem_cons (by omega), List.getD_eq_getElem?_getD, List.getElem?_eq_getElem (by omega)]; rfl
      have HST : Hid (atF false key (xs.drop j) j = if xs.getD j 0 = key then (j : Int) else if false = true ∧ xs.getD j 0 = 0 then -1 else AT) := hidden (by rw [hd, hAT.out]; rfl)
      generalize xs.getD j 0 = X at *
      clear hd hAT
      by_cases h1 : X = key
      · subst h1
        have HE : Hid ((j : Int) = atF false X (xs.drop j) j) := hidden (by rw [HST.out, if_pos rfl])
        clear HST
        go_wp2
        go_roundw
        case rel => exact ⟨by trivial, j, by omega, rfl, _, rfl, HE⟩
        case measure => simp [intOf]; try omega
      · have hxk : ((X : Int) == (key : Int)) = false := by simp; omega
        have HE : Hid (AT = atF false key (xs.drop j) j) := hidden (by rw [HST.out, if_neg h1, if_neg (by simp)])
        clear h1 HST
        go_wp2
        go_roundw
        case rel => exact ⟨by trivial, j, by omega, rfl, _, rfl, HE⟩
        case measure => simp [intOf]; try omega
    · obtain rfl : k = 0 := by omega
      have hat : AT = atF false key xs 0 := by have := hAT.out; rwa [List.drop_zero] at this
      rw [← hat] at HL1 HL2 HAG
      clear hAT hat
      by_cases h0 : AT < 0
      · rw [if_pos h0] at HL1 HL2
        have hneg : AT = -1 := by rcases HAG.out with h | h; exact h; omega
        subst hneg
        clear h0 HAG
        obtain ⟨x0, x1, x2, x3, x4, x5, x6, x7, xf⟩ := HX2.out.cells
        go_upto_region 18 with (go_at_call 12; refine (HL1.out _ HM2.out).mono ?_; rintro e w4 ⟨rfl, hb4⟩)
        have HX4 := hidden (HX2.out.later hb4)
        have HB4 := hidden (HB2.out.trans (hb4.mono HB2.out.size))
        have HN4 : Hid (Below S w1 w4) := hidden (HN2.out.trans (hb4.mono (by have h1 := HN2.out.size; have h2 := HS.out; have h3 := HX2.out.lt; omega)))
        clear x0 x1 x2 x3 x4 x5 x6 x7 xf hb4
        obtain ⟨x0, x1, x2, x3, x4, x5, x6, x7, xf⟩ := HX4.out.cells
        have xf7 := xf 7
        go_upto_region 19 with fail
        have HX5 : Hid (IBox (w4.setCell ⟨S, 7, none⟩ (.int .u32 4)) S (key : Int) 4 256 4 (len : Int) 0 0 4) := hidden (by have := HX4.out; unfold IBox at *; simp [World.setCell, Array.getElem?_modify, this])
        have HM5 : Hid (MRd (w4.setCell ⟨S, 7, none⟩ (.int .u32 4)) m (layB (putsL (intsL xs)))) := hidden (HMS.out _ (HN4.out.setCell (p := ⟨S, 7, none⟩) (Nat.le_refl _) _))
        have HB5 : Hid (Below w.heap.size w (w4.setCell ⟨S, 7, none⟩ (.int .u32 4))) := hidden (HB4.out.setCell (p := ⟨S, 7, none⟩) (by have := HSS.out; omega) _)
        clear x0 x1 x2 x3 x4 x5 x6 x7 xf xf7 HX4 HB4 HN4
        generalize w4.setCell ⟨S, 7, none⟩ (.int .u32 4) = w5 at *
        obtain ⟨x0, x1, x2, x3, x4, x5, x6, x7, xf⟩ := HX5.out.cells
        go_upto_region 20 with (go_at_call 12; refine (HL2.out _ HM5.out).mono ?_; rintro e w6 ⟨rfl, hb6⟩)
        have HB6 := hidden (HB5.out.trans (hb6.mono HB5.out.size))
        clear x0 x1 x2 x3 x4 x5 x6 x7 xf hb6
        have HLV := hidden (live_any w6)
        go_wp2_with (first | (go_at_call 13; refine (num13 _ _).mono ?_; rintro e w12 ⟨rfl, e9⟩; rw [e9]; clear e9) | (go_at_call 9; refine HLV.out.mono ?_; rintro e w13 ⟨rfl, hb13⟩) | fail)
        go_ret
        exact ⟨rfl, HB6.out.trans (hb13.mono HB6.out.size)⟩
      · obtain ⟨J, rfl⟩ : ∃ J : Nat, AT = J := ⟨AT.toNat, by omega⟩
        rw [if_neg h0] at HL1 HL2
        rw [Int.toNat_natCast, show ((256 + 4 * J : Nat) : Int) = 256 + 4 * (J : Int) by omega] at HL1
        rw [Int.toNat_natCast] at HL2
        have hJ : J < 900 := by rcases HAG.out with h | h <;> omega
        have m1 : IntKind.i64.wrap (4 * (J : Int)) = 4 * (J : Int) := by rw [IntKind.wrap_i64]; omega
        have m2 : IntKind.i64.wrap (256 + 4 * (J : Int)) = 256 + 4 * (J : Int) := by rw [IntKind.wrap_i64]; omega
        have m3 : IntKind.u32.wrap (256 + 4 * (J : Int)) = 256 + 4 * (J : Int) := by rw [IntKind.wrap_u32]; omega
        have m4 : IntKind.u32.wrap (J : Int) = J := by rw [IntKind.wrap_u32]; omega
        clear HAG
        obtain ⟨x0, x1, x2, x3, x4, x5, x6, x7, xf⟩ := HX2.out.cells
        go_upto_region 18 with (go_at_call 12; refine (HL1.out _ HM2.out).mono ?_; rintro e w4 ⟨rfl, hb4⟩)
        have HX4 := hidden (HX2.out.later hb4)
        have HB4 := hidden (HB2.out.trans (hb4.mono HB2.out.size))
        have HN4 : Hid (Below S w1 w4) := hidden (HN2.out.trans (hb4.mono (by have h1 := HN2.out.size; have h2 := HS.out; have h3 := HX2.out.lt; omega)))
        clear x0 x1 x2 x3 x4 x5 x6 x7 xf hb4
        obtain ⟨x0, x1, x2, x3, x4, x5, x6, x7, xf⟩ := HX4.out.cells
        have xf7 := xf 7
        go_upto_region 19 with fail
        have HX5 : Hid (IBox (w4.setCell ⟨S, 7, none⟩ (.int .u32 4)) S (key : Int) 4 256 4 (len : Int) 0 0 4) := hidden (by have := HX4.out; unfold IBox at *; simp [World.setCell, Array.getElem?_modify, this])
        have HM5 : Hid (MRd (w4.setCell ⟨S, 7, none⟩ (.int .u32 4)) m (layB (putsL (intsL xs)))) := hidden (HMS.out _ (HN4.out.setCell (p := ⟨S, 7, none⟩) (Nat.le_refl _) _))
        have HB5 : Hid (Below w.heap.size w (w4.setCell ⟨S, 7, none⟩ (.int .u32 4))) := hidden (HB4.out.setCell (p := ⟨S, 7, none⟩) (by have := HSS.out; omega) _)
        clear x0 x1 x2 x3 x4 x5 x6 x7 xf xf7 HX4 HB4 HN4
        generalize w4.setCell ⟨S, 7, none⟩ (.int .u32 4) = w5 at *
        obtain ⟨x0, x1, x2, x3, x4, x5, x6, x7, xf⟩ := HX5.out.cells
        go_upto_region 20 with (go_at_call 12; refine (HL2.out _ HM5.out).mono ?_; rintro e w6 ⟨rfl, hb6⟩)
        have HB6 := hidden (HB5.out.trans (hb6.mono HB5.out.size))
        clear x0 x1 x2 x3 x4 x5 x6 x7 xf hb6
        have HLV := hidden (live_any w6)
        go_wp2_with (first | (go_at_call 13; refine (num13 _ _).mono ?_; rintro e w12 ⟨rfl, e9⟩; rw [e9]; clear e9) | (go_at_call 9; refine HLV.out.mono ?_; rintro e w13 ⟨rfl, hb13⟩) | fail)
        go_ret
        exact ⟨rfl, HB6.out.trans (hb13.mono HB6.out.size)⟩
set_option maxHeartbeats 8000000 in
theorem first_true (a : Option Addr) (len cap : Nat) (xs : List Nat) (key : Nat) (w : World) (h : VRow w a len xs) (hk : key < 4294967296) (hl : len ≤ 900) :
    Calls Try.prog 3 #[.slice a len cap, .int .u32 key, .bool true] w fun e w' => e = .returned (.bool true) ∧ Below w.heap.size w w' := by
  have hln := h.ln
  have g1 : ¬ ((len : Int) > 900) := by omega
  have HV := hidden h
  have HW := hidden (words_any a len cap xs w h (by omega))
  have HAG := hidden (atF_ge true key xs 0)
  clear h
  go_enter Try.func3, Try.ntmps3
  go_upto_region 4 with (first | (go_at_call 11; refine HW.out.mono ?_; rintro e w0 ⟨a0, c0, rfl, hr0, hb0⟩; have HLD := hidden (laid_any a0 (4 * len) c0 _ w0 hr0 (puts_ok _)); have HB0 := hidden hb0; clear hr0 hb0; skip) | (go_at_call 10; refine HLD.out.mono ?_; rintro e w1 ⟨m, d, g, rfl, hL1, hb1⟩; skip) | fail)
  have HM1 := hidden (hL1.mrd (by rw [lay_len2]; omega) (lay_ok _ (puts_ok _) _))
  have HB1 := hidden (HB0.out.trans (hb1.mono HB0.out.size))
  clear hL1 hb1 HLD HW HB0
  have e1 : IntKind.u32.wrap (len : Int) = len := by rw [IntKind.wrap_u32]; omega
  go_upto_region 7 with fail
  have HX : Hid (IBox (w1.alloc (.cells #[.int .u32 (key : Int), .int .u32 4, .int .u32 256, .int .u32 4, .int .u32 (len : Int), .int .u32 0, .int .u32 0, .int .u32 0] 32)) w1.heap.size (key : Int) 4 256 4 (len : Int) 0 0 0) := hidden (heap_alloc_new _ _)
  have hbS : Hid (Below w1.heap.size w1 (w1.alloc (.cells #[.int .u32 (key : Int), .int .u32 4, .int .u32 256, .int .u32 4, .int .u32 (len : Int), .int .u32 0, .int .u32 0, .int .u32 0] 32))) := hidden ((Below.refl _ _).alloc (Nat.le_refl _) _)
  have HB2 := hidden (HB1.out.alloc HB1.out.size (.cells #[.int .u32 (key : Int), .int .u32 4, .int .u32 256, .int .u32 4, .int .u32 (len : Int), .int .u32 0, .int .u32 0, .int .u32 0] 32))
  generalize w1.alloc (.cells #[.int .u32 (key : Int), .int .u32 4, .int .u32 256, .int .u32 4, .int .u32 (len : Int), .int .u32 0, .int .u32 0, .int .u32 0] 32) = w2 at *
  have HSS := hidden HB1.out.size
  have HMS := hidden (fun wx (hx : Below w1.heap.size w1 wx) => HM1.out.later hx)
  generalize hS : w1.heap.size = S at *
  have HS := hidden (Nat.le_of_eq hS)
  clear hS
  obtain ⟨x0, x1, x2, x3, x4, x5, x6, x7, xf⟩ := HX.out.cells
  have xf7 := xf 7
  go_upto_region 9 with fail
  have HX2 : Hid (IBox (w2.setCell ⟨S, 7, none⟩ (.int .u32 2)) S (key : Int) 4 256 4 (len : Int) 0 0 2) := hidden (by have := HX.out; unfold IBox at *; simp [World.setCell, Array.getElem?_modify, this])
  replace HB2 : Hid (Below w.heap.size w (w2.setCell ⟨S, 7, none⟩ (.int .u32 2))) := hidden (HB2.out.setCell (p := ⟨S, 7, none⟩) (by have := HSS.out; omega) _)
  have HM2 : Hid (MRd (w2.setCell ⟨S, 7, none⟩ (.int .u32 2)) m (layB (putsL (intsL xs)))) := hidden (HMS.out _ (hbS.out.setCell (p := ⟨S, 7, none⟩) (Nat.le_refl _) _))
  have HN2 : Hid (Below S w1 (w2.setCell ⟨S, 7, none⟩ (.int .u32 2))) := hidden (hbS.out.setCell (p := ⟨S, 7, none⟩) (Nat.le_refl _) _)
  clear x0 x1 x2 x3 x4 x5 x6 x7 xf xf7 HX hbS
  generalize w2.setCell ⟨S, 7, none⟩ (.int .u32 2) = w3 at *
  have HL1 : Hid (∀ w, MRd w m (layB (putsL (intsL xs))) → Calls Try.prog 12 #[.pointer (some ⟨m, 0, none⟩), .agg #[.int .u32 (key : Int), .int .u32 4, .int .u32 256, .int .u32 4, .int .u32 (len : Int), .int .u32 0, .int .u32 0, .int .u32 2]] w fun e w' => e = .returned (.tuple #[.int .u32 (if atF true key xs 0 < 0 then 0 else 256 + 4 * (atF true key xs 0).toNat : Nat), .int .i64 0]) ∧ Below w.heap.size w w') := hidden (fun w M => lin_w m _ key len 2 hk (by omega) (by omega) _ ((linV_words2 xs key 2 len true HV.out.bd hk (by omega) rfl rfl hln).trans (tell0 key len 2 rfl _)) w M 4 256 0 2 rfl rfl rfl rfl)
  have HL2 : Hid (∀ w, MRd w m (layB (putsL (intsL xs))) → Calls Try.prog 12 #[.pointer (some ⟨m, 0, none⟩), .agg #[.int .u32 (key : Int), .int .u32 4, .int .u32 256, .int .u32 4, .int .u32 (len : Int), .int .u32 0, .int .u32 0, .int .u32 6]] w fun e w' => e = .returned (.tuple #[.int .u32 (if atF true key xs 0 < 0 then 4294967295 else (atF true key xs 0).toNat : Nat), .int .i64 0]) ∧ Below w.heap.size w w') := hidden (fun w M => lin_w m _ key len 6 hk (by omega) (by omega) _ ((linV_words2 xs key 6 len true HV.out.bd hk (by omega) rfl rfl hln).trans (tell4 key len 6 rfl _)) w M 4 256 0 6 rfl rfl rfl rfl)
  have e2 : IntKind.i64.wrap ((len : Int) - 1) = (len : Int) - 1 := by rw [IntKind.wrap_i64]; omega
  go_upto_region 11 with fail
  go_loopw [10, 11] (fun at_ i w' => w' = w3 ∧ ∃ k : Nat, k ≤ len ∧ i = .int .i64 ((k : Int) - 1) ∧ ∃ AT : Int, at_ = .int .i64 AT ∧ Hid (AT = atF true key (xs.drop k) k)) (fun _ i _ => (intOf i + 1).toNat)
  case atStart => exact ⟨rfl, len, by omega, rfl, -1, rfl, hidden (by rw [List.drop_of_length_le (by omega)]; rfl)⟩
  case round =>
    obtain ⟨rfl, k, hkl, rfl, AT, rfl, hAT⟩ := hrel
    by_cases hlt : 0 < k
    · obtain ⟨j, rfl⟩ : ∃ j, k = j + 1 := ⟨k - 1, by omega⟩
      have l0 : (((j + 1 : Nat) : Int) - 1) = (j : Int) := by omega
      rw [l0]
      have l1 : (j : Int) < len := by omega
      have l2 : (0 : Int) ≤ j := by omega
      have e3 : ((j : Int)).toNat = j := by omega
      have e4 : IntKind.i64.wrap ((j : Int) - 1) = (j : Int) - 1 := by rw [IntKind.wrap_i64]; omega
      obtain ⟨b, o, ha, hc⟩ := (HV.out.later HB2.out).cells j (by omega)
      subst ha
      have hd : xs.drop j = xs.getD j 0 :: xs.drop (j + 1) := by
        rw [List.drop_eq_getElem_cons (by omega), List.getD_eq_getElem?_getD, List.getElem?_eq_getElem (by omega)]; rfl
      have HST : Hid (atF true key (xs.drop j) j = if xs.getD j 0 = key then (j : Int) else if true = true ∧ xs.getD j 0 = 0 then -1 else AT) := hidden (by rw [hd, hAT.out]; rfl)
      generalize xs.getD j 0 = X at *
      clear hd hAT
      by_cases h1 : X = key
      · subst h1
        have HE : Hid ((j : Int) = atF true X (xs.drop j) j) := hidden (by rw [HST.out, if_pos rfl])
        clear HST
        by_cases hX0 : X = 0
        · have hx0 : ((X : Int) == 0) = true := by simp [hX0]
          clear hX0
          go_wp2
          go_roundw
          case rel => exact ⟨by trivial, j, by omega, rfl, _, rfl, HE⟩
          case measure => simp [intOf]; try omega
        · have hx0 : ((X : Int) == 0) = false := by simp; omega
          clear hX0
          go_wp2
          go_roundw
          case rel => exact ⟨by trivial, j, by omega, rfl, _, rfl, HE⟩
          case measure => simp [intOf]; try omega
      · have hxk : ((X : Int) == (key : Int)) = false := by simp; omega
        by_cases hX0 : X = 0
        · have hx0 : ((X : Int) == 0) = true := by simp [hX0]
          have HE : Hid ((-1 : Int) = atF true key (xs.drop j) j) := hidden (by rw [HST.out, if_neg h1, if_pos ⟨rfl, hX0⟩])
          clear hX0 h1 HST
          go_wp2
          go_roundw
          case rel => exact ⟨by trivial, j, by omega, rfl, _, rfl, HE⟩
          case measure => simp [intOf]; try omega
        · have hx0 : ((X : Int) == 0) = false := by simp; omega
          have HE : Hid (AT = atF true key (xs.drop j) j) := hidden (by rw [HST.out, if_neg h1, if_neg (fun e => hX0 e.2)])
          clear hX0 h1 HST
          go_wp2
          go_roundw
          case rel => exact ⟨by trivial, j, by omega, rfl, _, rfl, HE⟩
          case measure => simp [intOf]; try omega
    · obtain rfl : k = 0 := by omega
      have hat : AT = atF true key xs 0 := by have := hAT.out; rwa [List.drop_zero] at this
      rw [← hat] at HL1 HL2 HAG
      clear hAT hat
      by_cases h0 : AT < 0
      · rw [if_pos h0] at HL1 HL2
        have hneg : AT = -1 := by rcases HAG.out with h | h; exact h; omega
        subst hneg
        clear h0 HAG
        obtain ⟨x0, x1, x2, x3, x4, x5, x6, x7, xf⟩ := HX2.out.cells
        go_upto_region 18 with (go_at_call 12; refine (HL1.out _ HM2.out).mono ?_; rintro e w4 ⟨rfl, hb4⟩)
        have HX4 := hidden (HX2.out.later hb4)
        have HB4 := hidden (HB2.out.trans (hb4.mono HB2.out.size))
        have HN4 : Hid (Below S w1 w4) := hidden (HN2.out.trans (hb4.mono (by have h1 := HN2.out.size; have h2 := HS.out; have h3 := HX2.out.lt; omega)))
        clear x0 x1 x2 x3 x4 x5 x6 x7 xf hb4
        obtain ⟨x0, x1, x2, x3, x4, x5, x6, x7, xf⟩ := HX4.out.cells
        have xf7 := xf 7
        go_upto_region 19 with fail
        have HX5 : Hid (IBox (w4.setCell ⟨S, 7, none⟩ (.int .u32 6)) S (key : Int) 4 256 4 (len : Int) 0 0 6) := hidden (by have := HX4.out; unfold IBox at *; simp [World.setCell, Array.getElem?_modify, this])
        have HM5 : Hid (MRd (w4.setCell ⟨S, 7, none⟩ (.int .u32 6)) m (layB (putsL (intsL xs)))) := hidden (HMS.out _ (HN4.out.setCell (p := ⟨S, 7, none⟩) (Nat.le_refl _) _))
        have HB5 : Hid (Below w.heap.size w (w4.setCell ⟨S, 7, none⟩ (.int .u32 6))) := hidden (HB4.out.setCell (p := ⟨S, 7, none⟩) (by have := HSS.out; omega) _)
        clear x0 x1 x2 x3 x4 x5 x6 x7 xf xf7 HX4 HB4 HN4
        generalize w4.setCell ⟨S, 7, none⟩ (.int .u32 6) = w5 at *
        obtain ⟨x0, x1, x2, x3, x4, x5, x6, x7, xf⟩ := HX5.out.cells
        go_upto_region 20 with (go_at_call 12; refine (HL2.out _ HM5.out).mono ?_; rintro e w6 ⟨rfl, hb6⟩)
        have HB6 := hidden (HB5.out.trans (hb6.mono HB5.out.size))
        clear x0 x1 x2 x3 x4 x5 x6 x7 xf hb6
        have HLV := hidden (live_any w6)
        go_wp2_with (first | (go_at_call 13; refine (num13 _ _).mono ?_; rintro e w12 ⟨rfl, e9⟩; rw [e9]; clear e9) | (go_at_call 9; refine HLV.out.mono ?_; rintro e w13 ⟨rfl, hb13⟩) | fail)
        go_ret
        exact ⟨rfl, HB6.out.trans (hb13.mono HB6.out.size)⟩
      · obtain ⟨J, rfl⟩ : ∃ J : Nat, AT = J := ⟨AT.toNat, by omega⟩
        rw [if_neg h0] at HL1 HL2
        rw [Int.toNat_natCast, show ((256 + 4 * J : Nat) : Int) = 256 + 4 * (J : Int) by omega] at HL1
        rw [Int.toNat_natCast] at HL2
        have hJ : J < 900 := by rcases HAG.out with h | h <;> omega
        have m1 : IntKind.i64.wrap (4 * (J : Int)) = 4 * (J : Int) := by rw [IntKind.wrap_i64]; omega
        have m2 : IntKind.i64.wrap (256 + 4 * (J : Int)) = 256 + 4 * (J : Int) := by rw [IntKind.wrap_i64]; omega
        have m3 : IntKind.u32.wrap (256 + 4 * (J : Int)) = 256 + 4 * (J : Int) := by rw [IntKind.wrap_u32]; omega
        have m4 : IntKind.u32.wrap (J : Int) = J := by rw [IntKind.wrap_u32]; omega
        clear HAG
        obtain ⟨x0, x1, x2, x3, x4, x5, x6, x7, xf⟩ := HX2.out.cells
        go_upto_region 18 with (go_at_call 12; refine (HL1.out _ HM2.out).mono ?_; rintro e w4 ⟨rfl, hb4⟩)
        have HX4 := hidden (HX2.out.later hb4)
        have HB4 := hidden (HB2.out.trans (hb4.mono HB2.out.size))
        have HN4 : Hid (Below S w1 w4) := hidden (HN2.out.trans (hb4.mono (by have h1 := HN2.out.size; have h2 := HS.out; have h3 := HX2.out.lt; omega)))
        clear x0 x1 x2 x3 x4 x5 x6 x7 xf hb4
        obtain ⟨x0, x1, x2, x3, x4, x5, x6, x7, xf⟩ := HX4.out.cells
        have xf7 := xf 7
        go_upto_region 19 with fail
        have HX5 : Hid (IBox (w4.setCell ⟨S, 7, none⟩ (.int .u32 6)) S (key : Int) 4 256 4 (len : Int) 0 0 6) := hidden (by have := HX4.out; unfold IBox at *; simp [World.setCell, Array.getElem?_modify, this])
        have HM5 : Hid (MRd (w4.setCell ⟨S, 7, none⟩ (.int .u32 6)) m (layB (putsL (intsL xs)))) := hidden (HMS.out _ (HN4.out.setCell (p := ⟨S, 7, none⟩) (Nat.le_refl _) _))
        have HB5 : Hid (Below w.heap.size w (w4.setCell ⟨S, 7, none⟩ (.int .u32 6))) := hidden (HB4.out.setCell (p := ⟨S, 7, none⟩) (by have := HSS.out; omega) _)
        clear x0 x1 x2 x3 x4 x5 x6 x7 xf xf7 HX4 HB4 HN4
        generalize w4.setCell ⟨S, 7, none⟩ (.int .u32 6) = w5 at *
        obtain ⟨x0, x1, x2, x3, x4, x5, x6, x7, xf⟩ := HX5.out.cells
        go_upto_region 20 with (go_at_call 12; refine (HL2.out _ HM5.out).mono ?_; rintro e w6 ⟨rfl, hb6⟩)
        have HB6 := hidden (HB5.out.trans (hb6.mono HB5.out.size))
        clear x0 x1 x2 x3 x4 x5 x6 x7 xf hb6
        have HLV := hidden (live_any w6)
        go_wp2_with (first | (go_at_call 13; refine (num13 _ _).mono ?_; rintro e w12 ⟨rfl, e9⟩; rw [e9]; clear e9) | (go_at_call 9; refine HLV.out.mono ?_; rintro e w13 ⟨rfl, hb13⟩) | fail)
        go_ret
        exact ⟨rfl, HB6.out.trans (hb13.mono HB6.out.size)⟩
theorem findFirst_walk (a : Option Addr) (len cap : Nat) (zs : List Int) (key : Int) (zero : Bool) (w : World) (h : IsRow .u32 w a len cap zs) (hk : (Lit.int .u32 key).wf = true) :
    Calls Try.prog 3 #[.slice a len cap, .int .u32 key, .bool zero] w fun e w' => e = .returned (.bool true) ∧ Below w.heap.size w w' := by
  obtain ⟨xs, hv, hlc, hlm⟩ := vrow_of h
  have hb := bounds_u32 hk
  obtain ⟨K, rfl⟩ : ∃ K : Nat, key = K := ⟨key.toNat, by omega⟩
  by_cases hl : len ≤ 900
  · cases zero
    · exact first_false a len cap xs K w hv (by omega) hl
    · exact first_true a len cap xs K w hv (by omega) hl
  · have g1 : (len : Int) > 900 := by omega
    clear h hv hk
    go_enter Try.func3, Try.ntmps3
    go_wp2_with (go_at_call 9; refine (live_any _).mono ?_; rintro e w13 ⟨rfl, hb13⟩)
    go_ret
    exact ⟨rfl, hb13⟩
end Go.Proofs.Ytppgpfppmbdfhaa
