/- Layer 13: the walk of FindRings. -/
import Derived.Test.YtppgpfppmbdfhaaF13F
namespace Go.Proofs.Ytppgpfppmbdfhaa
open Go.RowKit
set_option maxHeartbeats 1000000
set_option maxRecDepth 100000
set_option linter.unusedVariables false

/-- what the last call of FindRings answers -/
theorem rings_tail (m : Nat) (xs : List Nat) (bk key : Nat) (b : Bool) (hx : ∀ x ∈ xs, x < 4294967296) (h0 : 0 < xs.length) (hn : xs.length ≤ 100) (hk : key < 4294967296) (hb : b = decide (key ∈ xs)) : ∃ X E : Int, (b = true → E = 0 ∧ 256 ≤ X) ∧ (b = false → E = 131 ∧ X = 0) ∧ ∀ w, MRd w m (layB (putsL (intsL (rgL xs bk xs.length)))) → Calls Try.prog 16 #[.pointer (some ⟨m, 0, none⟩), .agg #[.int .u32 (key : Int), .int .u32 4, .int .u32 256, .int .u32 0, .int .u32 0, .int .u32 0, .int .u32 4, .int .u32 0]] w fun e w' => e = .returned (.tuple #[.int .u32 X, .int .i64 E]) ∧ Below w.heap.size w w' := by
  by_cases h : key ∈ xs
  · obtain ⟨t, ht, hc⟩ := ring_yes xs bk key hx hn hk h
    refine ⟨((256 + 8 * t : Nat) : Int), 0, fun _ => ⟨rfl, by omega⟩, fun e => by rw [hb] at e; simp [h] at e, fun w M => ?_⟩
    exact chn_c m _ key 256 hk (by omega) _ hc w M 4 256 0 rfl rfl rfl
  · refine ⟨0, 131, fun e => by rw [hb] at e; simp [h] at e, fun _ => ⟨rfl, rfl⟩, fun w M => ?_⟩
    exact chn_c m _ key 256 hk (by omega) _ (ring_no xs bk key hx h0 hn hk h) w M 4 256 0 rfl rfl rfl
set_option maxHeartbeats 4000000 in
theorem rings_main (a : Option Addr) (len cap : Nat) (xs : List Nat) (key bk : Nat) (w : World) (h : VRow w a len xs) (hk : key < 4294967296) (hbk : bk < 65536) (h0 : 0 < len) (hl : len ≤ 100) :
    Calls Try.prog 6 #[.slice a len cap, .int .u32 key, .int .u16 bk] w fun e w' => e = .returned (.bool true) ∧ Below w.heap.size w w' := by
  have hln := h.ln
  have g0 : ((len : Int) == 0) = false := by simp; omega
  have g1 : ¬ ((len : Int) > 100) := by omega
  have HV := hidden h
  have e5 : IntKind.i64.wrap ((len : Int) - 1) = (len : Int) - 1 := by rw [IntKind.wrap_i64]; omega
  have e6 : IntKind.i64.wrap (bk : Int) = bk := by rw [IntKind.wrap_i64]; omega
  have e7 : ((bk : Int)).tmod len = ((bk % len : Nat) : Int) := by rw [Int.tmod_eq_emod_of_nonneg (by omega), ← Int.natCast_emod]
  have hml : bk % len < len := Nat.mod_lt _ (by omega)
  have e8 : IntKind.i64.wrap ((bk % len : Nat) : Int) = ((bk % len : Nat) : Int) := by rw [IntKind.wrap_i64]; omega
  have e9 : IntKind.i64.wrap (8 * ((bk % len : Nat) : Int)) = 8 * ((bk % len : Nat) : Int) := by rw [IntKind.wrap_i64]; omega
  have e10 : IntKind.i64.wrap (256 + 8 * ((bk % len : Nat) : Int)) = 256 + 8 * ((bk % len : Nat) : Int) := by rw [IntKind.wrap_i64]; omega
  obtain ⟨Y1, hY1⟩ : ∃ Y1 : Nat, Y1 = 256 + 8 * (bk % len) := ⟨_, rfl⟩
  have e11 : IntKind.u32.wrap (256 + 8 * ((bk % len : Nat) : Int)) = (Y1 : Int) := by rw [IntKind.wrap_u32]; omega
  have hYB1 : Y1 < 4294967296 := by omega
  generalize hMO : bk % len = MO at *
  have HMO := hidden hMO
  have HY1 := hidden hY1
  clear hMO hY1
  have hl0 : ¬ ((len : Int) = 0) := by omega
  clear h
  go_enter Try.func6, Try.ntmps6
  go_upto_region 6 with fail
  go_loopw [7, 8, 9] (fun v b i w' => ∃ (k : Nat) (ao : Option Addr) (c : Nat) (bb : Bool), k ≤ len ∧ i = .int .i64 k ∧ v = .slice ao (2 * k) c ∧ b = .bool bb ∧ Hid (bb = decide (key ∈ xs.take k)) ∧ Hid (w'.ownsRow w.heap.size 23 1 (.slice ao (2 * k) c) (2 * k) (u32V (rgL xs bk k))) ∧ Hid (Below w.heap.size w w')) (fun _ _ i _ => len - (intOf i).toNat)
  case atStart => exact ⟨0, none, 0, false, by omega, rfl, rfl, rfl, hidden (by simp), hidden (World.ownsRow_nil _ _ _ _), hidden (Below.refl _ _)⟩
  case round =>
    obtain ⟨k, ao, c, bb, hkl, rfl, rfl, rfl, hbb, hO, hB⟩ := hrel
    by_cases hlt : k < len
    · have l1 : (k : Int) < len := by omega
      have l2 : (0 : Int) ≤ k := by omega
      have l3 : ((k : Int)).toNat = k := by omega
      have w1 : IntKind.i64.wrap ((k : Int) + 1) = (k : Int) + 1 := by rw [IntKind.wrap_i64]; omega
      have w2 : IntKind.i64.wrap (8 * ((k : Int) + 1)) = 8 * ((k : Int) + 1) := by rw [IntKind.wrap_i64]; omega
      have w3 : IntKind.i64.wrap (256 + 8 * ((k : Int) + 1)) = 256 + 8 * ((k : Int) + 1) := by rw [IntKind.wrap_i64]; omega
      obtain ⟨Y2, hY2⟩ : ∃ Y2 : Nat, Y2 = 256 + 8 * (k + 1) := ⟨_, rfl⟩
      have w4 : IntKind.u32.wrap (256 + 8 * ((k : Int) + 1)) = (Y2 : Int) := by rw [IntKind.wrap_u32]; omega
      have hYB2 : Y2 < 4294967296 := by omega
      have HY2 := hidden hY2
      clear hY2
      obtain ⟨b, o, ha, hc⟩ := (HV.out.later hB.out).cells k hlt
      subst ha
      have HXB := hidden (show xs.getD k 0 < 4294967296 from HV.out.bd _ (by rw [List.getD_eq_getElem?_getD, List.getElem?_eq_getElem (by omega)]; simp))
      have HXE : Hid (xs.take (k + 1) = xs.take k ++ [xs.getD k 0]) := hidden (by rw [List.take_add_one, List.getElem?_eq_getElem (by omega), List.getD_eq_getElem?_getD, List.getElem?_eq_getElem (by omega)]; rfl)
      have HRG : Hid (rgL xs bk (k + 1) = rgL xs bk k ++ [xs.getD k 0, 256 + 8 * nxR len bk k]) := hidden (by rw [rgL, hln])
      generalize hXD : xs.getD k 0 = X at *
      have HXD := hidden hXD
      clear hXD
      have hsz := hB.out.size
      have HOB : Hid ((bb || decide (X = key)) = decide (key ∈ xs.take (k + 1))) := hidden (by
        rw [hbb.out, HXE.out]
        by_cases h1 : key ∈ xs.take k
        · simp [h1]
        · by_cases h2 : X = key
          · simp [h2]
          · have h3 : ¬ key = X := fun e => h2 e.symm
            simp [h1, h2, h3])
      by_cases hlast : k + 1 = len
      · have q1 : ((k : Int) == (len : Int) - 1) = true := by simp; omega
        have HNX : Hid (256 + 8 * nxR len bk k = Y1) := hidden (by unfold nxR; rw [if_pos hlast, HMO.out, HY1.out])
        obtain ⟨Y, hYY⟩ : ∃ Y, Y = Y1 := ⟨_, rfl⟩
        subst hYY
        have HYB := hidden hYB1
        clear hlast
        have HVN := hidden (vrow_two wr X Y HXB.out HYB.out)
        have HBA : Hid (Below w.heap.size w (wr.alloc (.cells #[.int .u32 (X : Int), .int .u32 (Y : Int)] 23))) := hidden (hB.out.alloc hsz _)
        have HOA := hidden (hO.out.alloc (.cells #[.int .u32 (X : Int), .int .u32 (Y : Int)] 23))
        go_upto_region 12 with (at_builtin; refine wpList_app32 (by rfl) (.tmp 48) (.tmp 54) (by rfl) w.heap.size (2 * k) c 2 2 ao (some ⟨wr.heap.size, 0, none⟩) (rgL xs bk k) [X, Y] (by rfl) (by rfl) HOA.out HVN.out (fun h => by omega) (by omega) HBA.out.size ?_; intro a6 c6 w6 ho6 hf6; refine Hid.out ?_)
        have HB6 : Hid (Below w.heap.size w w6) := hidden (HBA.out.trans (hf6.out.below HBA.out.size (fun k e => (HOA.out.lt k e).1)))
        rw [show [X, Y] = [X, 256 + 8 * nxR len bk k] by rw [HNX.out], ← HRG.out] at ho6
        have HO6 := hidden (show w6.ownsRow w.heap.size 23 1 (.slice a6 (2 * (k + 1)) c6) (2 * (k + 1)) (u32V (rgL xs bk (k + 1))) from ho6)
        obtain ⟨b2, o2, ha2, hc2⟩ := (HV.out.later HB6.out).cells k hlt
        cases ha2
        rw [HXD.out] at hc2
        clear ho6 hf6 HOA HBA HVN hc
        refine hidden ?_
        cases bb
        · by_cases hxk : X = key
          · have q2 : ((X : Int) == (key : Int)) = true := by simp [hxk]
            have HOB2 : Hid (true = decide (key ∈ xs.take (k + 1))) := hidden (by rw [← HOB.out]; simp [hxk])
            clear hxk
            go_wp2
            go_roundw
            case rel => exact ⟨k + 1, a6, c6, true, by omega, by go_num, rfl, rfl, HOB2, HO6, HB6⟩
            case measure => simp [intOf]; omega
          · have q2 : ((X : Int) == (key : Int)) = false := by simp; omega
            have HOB2 : Hid (false = decide (key ∈ xs.take (k + 1))) := hidden (by rw [← HOB.out]; simp [hxk])
            clear hxk
            go_wp2
            go_roundw
            case rel => exact ⟨k + 1, a6, c6, false, by omega, by go_num, rfl, rfl, HOB2, HO6, HB6⟩
            case measure => simp [intOf]; omega
        · have HOB2 : Hid (true = decide (key ∈ xs.take (k + 1))) := hidden (by rw [← HOB.out]; simp)
          go_wp2
          go_roundw
          case rel => exact ⟨k + 1, a6, c6, true, by omega, by go_num, rfl, rfl, HOB2, HO6, HB6⟩
          case measure => simp [intOf]; omega
      · have q1 : ((k : Int) == (len : Int) - 1) = false := by simp; omega
        have HNX : Hid (256 + 8 * nxR len bk k = Y2) := hidden (by unfold nxR; rw [if_neg hlast, HY2.out])
        obtain ⟨Y, hYY⟩ : ∃ Y, Y = Y2 := ⟨_, rfl⟩
        subst hYY
        have HYB := hidden hYB2
        clear hlast
        have HVN := hidden (vrow_two wr X Y HXB.out HYB.out)
        have HBA : Hid (Below w.heap.size w (wr.alloc (.cells #[.int .u32 (X : Int), .int .u32 (Y : Int)] 23))) := hidden (hB.out.alloc hsz _)
        have HOA := hidden (hO.out.alloc (.cells #[.int .u32 (X : Int), .int .u32 (Y : Int)] 23))
        go_upto_region 12 with (at_builtin; refine wpList_app32 (by rfl) (.tmp 48) (.tmp 54) (by rfl) w.heap.size (2 * k) c 2 2 ao (some ⟨wr.heap.size, 0, none⟩) (rgL xs bk k) [X, Y] (by rfl) (by rfl) HOA.out HVN.out (fun h => by omega) (by omega) HBA.out.size ?_; intro a6 c6 w6 ho6 hf6; refine Hid.out ?_)
        have HB6 : Hid (Below w.heap.size w w6) := hidden (HBA.out.trans (hf6.out.below HBA.out.size (fun k e => (HOA.out.lt k e).1)))
        rw [show [X, Y] = [X, 256 + 8 * nxR len bk k] by rw [HNX.out], ← HRG.out] at ho6
        have HO6 := hidden (show w6.ownsRow w.heap.size 23 1 (.slice a6 (2 * (k + 1)) c6) (2 * (k + 1)) (u32V (rgL xs bk (k + 1))) from ho6)
        obtain ⟨b2, o2, ha2, hc2⟩ := (HV.out.later HB6.out).cells k hlt
        cases ha2
        rw [HXD.out] at hc2
        clear ho6 hf6 HOA HBA HVN hc
        refine hidden ?_
        cases bb
        · by_cases hxk : X = key
          · have q2 : ((X : Int) == (key : Int)) = true := by simp [hxk]
            have HOB2 : Hid (true = decide (key ∈ xs.take (k + 1))) := hidden (by rw [← HOB.out]; simp [hxk])
            clear hxk
            go_wp2
            go_roundw
            case rel => exact ⟨k + 1, a6, c6, true, by omega, by go_num, rfl, rfl, HOB2, HO6, HB6⟩
            case measure => simp [intOf]; omega
          · have q2 : ((X : Int) == (key : Int)) = false := by simp; omega
            have HOB2 : Hid (false = decide (key ∈ xs.take (k + 1))) := hidden (by rw [← HOB.out]; simp [hxk])
            clear hxk
            go_wp2
            go_roundw
            case rel => exact ⟨k + 1, a6, c6, false, by omega, by go_num, rfl, rfl, HOB2, HO6, HB6⟩
            case measure => simp [intOf]; omega
        · have HOB2 : Hid (true = decide (key ∈ xs.take (k + 1))) := hidden (by rw [← HOB.out]; simp)
          go_wp2
          go_roundw
          case rel => exact ⟨k + 1, a6, c6, true, by omega, by go_num, rfl, rfl, HOB2, HO6, HB6⟩
          case measure => simp [intOf]; omega
    · obtain rfl : k = len := by omega
      have l1 : ¬ ((k : Int) < k) := by omega
      have hb1 : bb = decide (key ∈ xs) := by have := hbb.out; rwa [List.take_of_length_le (by omega)] at this
      have hfu : rgL xs bk k = rgL xs bk xs.length := by rw [hln]
      have hvr := own32_v hO.out (by rw [hfu]; exact rgL_bd xs bk HV.out.bd (by omega) _ (by omega))
      rw [hfu] at hvr
      have HW := hidden (words_any ao (2 * k) c _ wr hvr (by omega))
      have HTL := hidden (fun m => rings_tail m xs bk key bb HV.out.bd (by omega) (by omega) hk hb1)
      clear hvr hbb hO hb1
      go_upto_region 14 with (first | (go_at_call 11; refine HW.out.mono ?_; rintro e w1 ⟨a1, c1, rfl, hr1, hb1⟩; have HLD := hidden (laid_any a1 _ c1 _ w1 hr1 (puts_ok _)); have HB1 := hidden (hB.out.trans (hb1.mono hB.out.size)); clear hr1 hb1; skip) | (go_at_call 10; refine HLD.out.mono ?_; rintro e w2 ⟨m, d, g, rfl, hL2, hb2⟩; skip) | fail)
      have HM := hidden (hL2.mrd (by rw [lay_len2]; omega) (lay_ok _ (puts_ok _) _))
      have HB2 := hidden (HB1.out.trans (hb2.mono HB1.out.size))
      obtain ⟨X, E, hX1, hX0, hcall⟩ := HTL.out m
      have HC := hidden (hcall w2 HM.out)
      clear hL2 hb2 hcall HTL HLD
      cases bb
      · obtain ⟨rfl, rfl⟩ := hX0 rfl
        clear hX1 hX0
        go_upto_region 17 with (go_at_call 16; refine HC.out.mono ?_; rintro e w3 ⟨rfl, hb3⟩; have HB3 := hidden (HB2.out.trans (hb3.mono HB2.out.size)); clear hb3; skip)
        have HLV := hidden (live_any w3)
        go_wp2_with (first | (go_at_call 13; refine (num13 _ _).mono ?_; rintro e w12 ⟨rfl, e9⟩; rw [e9]; clear e9) | (go_at_call 9; refine HLV.out.mono ?_; rintro e w13 ⟨rfl, hb13⟩) | fail)
        go_ret
        exact ⟨rfl, HB3.out.trans (hb13.mono HB3.out.size)⟩
      · obtain ⟨rfl, hXl⟩ := hX1 rfl
        clear hX1 hX0
        go_upto_region 17 with (go_at_call 16; refine HC.out.mono ?_; rintro e w3 ⟨rfl, hb3⟩; have HB3 := hidden (HB2.out.trans (hb3.mono HB2.out.size)); clear hb3; skip)
        have HLV := hidden (live_any w3)
        go_wp2_with (first | (go_at_call 13; refine (num13 _ _).mono ?_; rintro e w12 ⟨rfl, e9⟩; rw [e9]; clear e9) | (go_at_call 9; refine HLV.out.mono ?_; rintro e w13 ⟨rfl, hb13⟩) | fail)
        go_ret
        exact ⟨rfl, HB3.out.trans (hb13.mono HB3.out.size)⟩
theorem findRings_walk (a : Option Addr) (len cap : Nat) (zs : List Int) (key bk : Int) (w : World) (h : IsRow .u32 w a len cap zs) (hk : (Lit.int .u32 key).wf = true) (hb : (Lit.int .u16 bk).wf = true) :
    Calls Try.prog 6 #[.slice a len cap, .int .u32 key, .int .u16 bk] w fun e w' => e = .returned (.bool true) ∧ Below w.heap.size w w' := by
  obtain ⟨xs, hv, hlc, hlm⟩ := vrow_of h
  have hb1 := bounds_u32 hk
  have hb2 : 0 ≤ bk ∧ bk ≤ 65535 := by
    have := hb
    simp [Lit.wf, IntKind.min, IntKind.max, IntKind.signed, IntKind.bits] at this
    omega
  obtain ⟨K, rfl⟩ : ∃ K : Nat, key = K := ⟨key.toNat, by omega⟩
  obtain ⟨Q, rfl⟩ : ∃ Q : Nat, bk = Q := ⟨bk.toNat, by omega⟩
  by_cases hl0 : len = 0
  · have g1 : ((len : Int) == 0) = true := by simp [hl0]
    clear h hv hk hb hl0
    go_enter Try.func6, Try.ntmps6
    go_wp2_with (go_at_call 9; refine (live_any _).mono ?_; rintro e w13 ⟨rfl, hb13⟩)
    go_ret
    exact ⟨rfl, hb13⟩
  · by_cases hl : len ≤ 100
    · exact rings_main a len cap xs K Q w hv (by omega) (by omega) (by omega) hl
    · have g0 : ((len : Int) == 0) = false := by simp; omega
      have g1 : (len : Int) > 100 := by omega
      clear h hv hk hb hl0
      go_enter Try.func6, Try.ntmps6
      go_wp2_with (go_at_call 9; refine (live_any _).mono ?_; rintro e w13 ⟨rfl, hb13⟩)
      go_ret
      exact ⟨rfl, hb13⟩
end Go.Proofs.Ytppgpfppmbdfhaa
