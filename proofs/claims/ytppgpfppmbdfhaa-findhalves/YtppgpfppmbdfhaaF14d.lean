/- Layer 13: the walk of FindHalves. -/
import Derived.Test.YtppgpfppmbdfhaaF14c
namespace Go.Proofs.Ytppgpfppmbdfhaa
open Go.RowKit
set_option maxHeartbeats 1000000
set_option maxRecDepth 100000
set_option linter.unusedVariables false

/-- what both answer -/
def ansHA (ys : List Nat) (n K : Nat) : Nat := if atF false K (kyR ys n) 0 < 0 then 0 else 256 + 4 * (atF false K (kyR ys n) 0).toNat
set_option maxHeartbeats 8000000 in
theorem halves_false (a : Option Addr) (len cap : Nat) (ys : List Nat) (key : Nat) (w : World) (h : HRow w a len ys) (hk : key < 4294967296) (hl : len ≤ 900) :
    Calls Try.prog 4 #[.slice a len cap, .int .u32 key, .bool false] w fun e w' => e = .returned (.bool true) ∧ Below w.heap.size w w' := by
  have hln := h.ln
  have g1 : ¬ ((len : Int) > 900) := by omega
  have HV := hidden h
  have HSL := hidden (sumK_le ys h.bd)
  clear h
  go_enter Try.func4, Try.ntmps4
  go_upto_region 6 with fail
  go_loopw [7, 8, 9] (fun v x i w' => ∃ (k : Nat) (ao : Option Addr) (c X : Nat), k ≤ len ∧ i = .int .i64 k ∧ v = .slice ao k c ∧ x = .int .u32 X ∧ Hid (X = sumK ys k) ∧ Hid (w'.ownsRow w.heap.size 23 1 (.slice ao k c) k (u32V (kyR ys k))) ∧ Hid (Below w.heap.size w w')) (fun _ _ i _ => len - (intOf i).toNat)
  case atStart => exact ⟨0, none, 0, 0, by omega, rfl, rfl, rfl, hidden rfl, hidden (World.ownsRow_nil _ _ _ _), hidden (Below.refl _ _)⟩
  case round =>
    obtain ⟨k, ao, c, X, hkl, rfl, rfl, rfl, hX, hO, hB⟩ := hrel
    by_cases hlt : k < len
    · have l1 : (k : Int) < len := by omega
      have l2 : (0 : Int) ≤ k := by omega
      have l3 : ((k : Int)).toNat = k := by omega
      obtain ⟨b, o, ha, hc⟩ := (HV.out.later hB.out).cells k hlt
      subst ha
      have hXl := HSL.out (k + 1) (by omega)
      rw [sumK, ← hX.out] at hXl
      obtain ⟨Y, hY⟩ : ∃ Y : Nat, Y = X + 1 + ys.getD k 0 := ⟨_, rfl⟩
      have HKR : Hid (kyR ys (k + 1) = kyR ys k ++ [Y]) := hidden (by rw [kyR, sumK, ← hX.out, hY])
      have HYS : Hid (Y = sumK ys (k + 1)) := hidden (by rw [sumK, ← hX.out, hY])
      generalize ys.getD k 0 = Z at *
      have w1 : IntKind.u32.wrap ((X : Int) + 1) = (X : Int) + 1 := by rw [IntKind.wrap_u32]; omega
      have w2 : IntKind.u32.wrap (Z : Int) = Z := by rw [IntKind.wrap_u32]; omega
      have w3 : IntKind.u32.wrap ((X : Int) + 1 + (Z : Int)) = (Y : Int) := by rw [IntKind.wrap_u32]; omega
      have hYl : Y < 4294967296 := by omega
      have hsz := hB.out.size
      clear hY hX hXl
      go_upto_region 7 with (at_builtin; refine wpList_snoc32 (by rfl) (.tmp 36) (.tmp 38) (by rfl) w.heap.size k c Y ao (kyR ys k) (by rfl) (by rfl) hO.out hYl hsz (by omega) ?_; intro a6 c6 w6 ho6 hb6; refine Hid.out ?_)
      rw [← HKR.out] at ho6
      have HO6 := hidden ho6
      have HB6 := hidden (hB.out.trans hb6)
      clear ho6 hb6
      refine hidden ?_
      go_wp2
      go_roundw
      case rel => exact ⟨k + 1, a6, c6, Y, by omega, by go_num, rfl, rfl, HYS, HO6, HB6⟩
      case measure => simp [intOf]; omega
    · obtain rfl : k = len := by omega
      have l1 : ¬ ((k : Int) < k) := by omega
      have HRI := hidden (kyR_rises ys k)
      have HBD := hidden (kyR_bd ys HV.out.bd (by omega) k (by omega))
      have HKL := hidden (kyR_len ys k)
      have hvr := own32_v hO.out HBD.out
      have HVK := hidden hvr
      have HW := hidden (words_any ao k c _ wr hvr (by omega))
      clear hvr hX hO
      obtain ⟨len, hlen⟩ : ∃ len, len = k := ⟨_, rfl⟩
      subst hlen
      go_upto_region 11 with (first | (go_at_call 11; refine HW.out.mono ?_; rintro e w1 ⟨a1, c1, rfl, hr1, hb1⟩; have HLD := hidden (laid_any a1 _ c1 _ w1 hr1 (puts_ok _)); have HB1 := hidden hb1; clear hr1 hb1; skip) | (go_at_call 10; refine HLD.out.mono ?_; rintro e w2 ⟨m, d, g, rfl, hL2, hb2⟩; skip) | fail)
      have HM := hidden (hL2.mrd (by rw [lay_len2]; omega) (lay_ok _ (puts_ok _) _))
      have HBR := hidden (HB1.out.trans (hb2.mono HB1.out.size))
      have HB2 := hidden (hB.out.trans (HBR.out.mono hB.out.size))
      have HVK2 := hidden (HVK.out.later HBR.out)
      clear hL2 hb2 HLD HW HB1 HVK
      have e1 : IntKind.u32.wrap (len : Int) = len := by rw [IntKind.wrap_u32]; omega
      go_upto_region 14 with fail
      have HX : Hid (IBox (w2.alloc (.cells #[.int .u32 0, .int .u32 4, .int .u32 256, .int .u32 4, .int .u32 (len : Int), .int .u32 0, .int .u32 0, .int .u32 0] 32)) w2.heap.size 0 4 256 4 (len : Int) 0 0 0) := hidden (heap_alloc_new _ _)
      have hbS : Hid (Below w2.heap.size w2 (w2.alloc (.cells #[.int .u32 0, .int .u32 4, .int .u32 256, .int .u32 4, .int .u32 (len : Int), .int .u32 0, .int .u32 0, .int .u32 0] 32))) := hidden ((Below.refl _ _).alloc (Nat.le_refl _) _)
      generalize w2.alloc (.cells #[.int .u32 0, .int .u32 4, .int .u32 256, .int .u32 4, .int .u32 (len : Int), .int .u32 0, .int .u32 0, .int .u32 0] 32) = w3 at *
      have HSS := hidden HB2.out.size
      have HMS := hidden (fun wx (hx : Below w2.heap.size w2 wx) => HM.out.later hx)
      have HVS := hidden (fun wx (hx : Below w2.heap.size w2 wx) => HVK2.out.later hx)
      generalize hS : w2.heap.size = S at *
      have HS := hidden hS
      clear hS
      obtain ⟨x0, x1, x2, x3, x4, x5, x6, x7, xf⟩ := HX.out.cells
      have xf7 := xf 7
      go_upto_region 16 with fail
      have HX2 := HX
      have HN2 := hbS
      clear x0 x1 x2 x3 x4 x5 x6 x7 xf xf7 HX hbS
      generalize w3 = w4 at *
      have HL1 : Hid (∀ (K : Nat), K < 4294967296 → ∀ w, MRd w m (layB (putsL (intsL (kyR ys len)))) → Calls Try.prog 12 #[.pointer (some ⟨m, 0, none⟩), .agg #[.int .u32 (K : Int), .int .u32 4, .int .u32 256, .int .u32 4, .int .u32 (len : Int), .int .u32 0, .int .u32 0, .int .u32 0]] w fun e w' => e = .returned (.tuple #[.int .u32 (ansHA ys len K : Nat), .int .i64 0]) ∧ Below w.heap.size w w') := hidden (fun K hK w M => lin_w m _ K len 0 hK (by omega) (by omega) _ ((linV_words2 (kyR ys len) K 0 len false HBD.out hK (by rw [HKL.out]; omega) rfl rfl HKL.out).trans (tell0 K len 0 rfl _)) w M 4 256 0 0 rfl rfl rfl rfl)
      have HL2 : Hid (∀ (K : Nat), K < 4294967296 → ∀ w, MRd w m (layB (putsL (intsL (kyR ys len)))) → Calls Try.prog 14 #[.pointer (some ⟨m, 0, none⟩), .agg #[.int .u32 (K : Int), .int .u32 4, .int .u32 256, .int .u32 4, .int .u32 (len : Int), .int .u32 0, .int .u32 0, .int .u32 0]] w fun e w' => e = .returned (.tuple #[.int .u32 (ansHA ys len K : Nat), .int .i64 0]) ∧ Below w.heap.size w w') := hidden (fun K hK w M => bin_w m _ K len 0 hK (by omega) (by omega) _ ((binV_words2 (kyR ys len) K 0 len HBD.out hK (by rw [HKL.out]; omega) HRI.out rfl HKL.out).trans (tell0 K len 0 rfl _)) w M 4 256 0 0 rfl rfl rfl rfl)
      go_upto_region 17 with fail
      go_loopw [13] (fun i w' => ∃ (k : Nat) (kk : Int), k ≤ len + 1 ∧ i = .int .i64 ((k : Int) - 1) ∧ (1 ≤ k → k - 1 ≤ len) ∧ Hid (IBox w' S kk 4 256 4 (len : Int) 0 0 0) ∧ Hid (Below S w2 w')) (fun i _ => (len + 1 - intOf i).toNat)
      case atStart => exact ⟨0, 0, by omega, rfl, by omega, HX2, HN2⟩
      case round =>
        clear HX2 HN2
        obtain ⟨k, kk, hkl, rfl, _, hX, hN⟩ := hrel
        obtain ⟨x0, x1, x2, x3, x4, x5, x6, x7, xf⟩ := hX.out.cells
        have xf0 := xf 0
        by_cases hend : k = len + 1
        · have l1 : ¬ (((k : Int) - 1) < len) := by omega
          have HBF : Hid (Below w.heap.size w wr) := hidden (HB2.out.trans (hN.out.mono HSS.out))
          have HLV := hidden (live_any wr)
          clear x0 x1 x2 x3 x4 x5 x6 x7 xf xf0
          go_wp2_with (go_at_call 9; refine HLV.out.mono ?_; rintro e w13 ⟨rfl, hb13⟩)
          go_ret
          exact ⟨rfl, HBF.out.trans (hb13.mono HBF.out.size)⟩
        · have l1 : ((k : Int) - 1) < len := by omega
          go_upto_region 20 with fail
          have HXa : Hid (IBox (wr.setCell ⟨S, 0, none⟩ (.int .u32 (key : Int))) S (key : Int) 4 256 4 (len : Int) 0 0 0) := hidden (by have := hX.out; unfold IBox at *; simp [World.setCell, Array.getElem?_modify, this])
          have HNa : Hid (Below S w2 (wr.setCell ⟨S, 0, none⟩ (.int .u32 (key : Int)))) := hidden (hN.out.setCell (p := ⟨S, 0, none⟩) (Nat.le_refl _) _)
          clear x0 x1 x2 x3 x4 x5 x6 x7 xf xf0 hX hN
          generalize wr.setCell ⟨S, 0, none⟩ (.int .u32 (key : Int)) = wa at *
          by_cases hk0 : k = 0
          · subst hk0
            have l0 : (((0 : Nat) : Int) - 1) = -1 := rfl
            rw [l0]
            have HXb := HXa
            have HNb := HNa
            generalize wa = wb at *
            obtain ⟨V, hVV⟩ : ∃ V, ansHA ys len key = V := ⟨_, rfl⟩
            have hl1 := HL1.out key hk _ (HMS.out _ HNb.out)
            rw [hVV] at hl1
            have HLa := hidden hl1
            have HV2 := hidden hVV
            clear hl1 hVV
            obtain ⟨x0, x1, x2, x3, x4, x5, x6, x7, xf⟩ := HXb.out.cells
            go_upto_region 23 with (go_at_call 12; refine HLa.out.mono ?_; rintro e w5 ⟨rfl, hb5⟩)
            have HXc := hidden (HXb.out.later hb5)
            have HNc : Hid (Below S w2 w5) := hidden (HNb.out.trans (hb5.mono (Nat.le_of_lt HXb.out.lt)))
            clear x0 x1 x2 x3 x4 x5 x6 x7 xf hb5 HLa
            obtain ⟨x0, x1, x2, x3, x4, x5, x6, x7, xf⟩ := HXc.out.cells
            have hl2 := HL2.out key hk _ (HMS.out _ HNc.out)
            rw [HV2.out] at hl2
            have HLb := hidden hl2
            clear hl2
            go_upto_region 24 with (go_at_call 14; refine HLb.out.mono ?_; rintro e w6 ⟨rfl, hb6⟩)
            have HXd := hidden (HXc.out.later hb6)
            have HNd : Hid (Below S w2 w6) := hidden (HNc.out.trans (hb6.mono (Nat.le_of_lt HXc.out.lt)))
            clear x0 x1 x2 x3 x4 x5 x6 x7 xf hb6 HLb
            go_wp2_with (go_at_call 13; refine (num13 _ _).mono ?_; rintro e w12 ⟨rfl, e9⟩; rw [e9]; clear e9)
            go_roundw
            case rel => exact ⟨1, _, by omega, by first | rfl | go_num | (congr 1; omega), by omega, HXd, HNd⟩
            case measure => simp [intOf]; try omega
          · obtain ⟨j, rfl⟩ : ∃ j, k = j + 1 := ⟨k - 1, by omega⟩
            have l0 : (((j + 1 : Nat) : Int) - 1) = (j : Int) := by omega
            rw [l0]
            rw [l0] at l1
            have l2 : (0 : Int) ≤ j := by omega
            have l3 : ((j : Int)).toNat = j := by omega
            have l4 : (0 : Int) ≤ (j : Int) := by omega
            obtain ⟨b2, o2, ha2, hc2⟩ := (HVS.out _ HNa.out).cells j (by omega)
            have HAT := hidden (at_of HRI.out j (by rw [HKL.out]; omega))
            have hKb : (kyR ys len).getD j 0 < 4294967296 := HBD.out _ (by rw [List.getD_eq_getElem?_getD, List.getElem?_eq_getElem (by rw [HKL.out]; omega)]; simp)
            generalize (kyR ys len).getD j 0 = K at *
            subst ha2
            obtain ⟨x0, x1, x2, x3, x4, x5, x6, x7, xf⟩ := HXa.out.cells
            have xf0 := xf 0
            go_upto_region 22 with fail
            have HXb : Hid (IBox (wa.setCell ⟨S, 0, none⟩ (.int .u32 (K : Int))) S (K : Int) 4 256 4 (len : Int) 0 0 0) := hidden (by have := HXa.out; unfold IBox at *; simp [World.setCell, Array.getElem?_modify, this])
            have HNb : Hid (Below S w2 (wa.setCell ⟨S, 0, none⟩ (.int .u32 (K : Int)))) := hidden (HNa.out.setCell (p := ⟨S, 0, none⟩) (Nat.le_refl _) _)
            clear x0 x1 x2 x3 x4 x5 x6 x7 xf xf0 HXa HNa hc2
            generalize wa.setCell ⟨S, 0, none⟩ (.int .u32 (K : Int)) = wb at *
            obtain ⟨V, hVV⟩ : ∃ V, ansHA ys len K = V := ⟨_, rfl⟩
            have hl1 := HL1.out K hKb _ (HMS.out _ HNb.out)
            rw [hVV] at hl1
            have HLa := hidden hl1
            have HV2 := hidden hVV
            clear hl1 hVV
            obtain ⟨x0, x1, x2, x3, x4, x5, x6, x7, xf⟩ := HXb.out.cells
            go_upto_region 23 with (go_at_call 12; refine HLa.out.mono ?_; rintro e w5 ⟨rfl, hb5⟩)
            have HXc := hidden (HXb.out.later hb5)
            have HNc : Hid (Below S w2 w5) := hidden (HNb.out.trans (hb5.mono (Nat.le_of_lt HXb.out.lt)))
            clear x0 x1 x2 x3 x4 x5 x6 x7 xf hb5 HLa
            obtain ⟨x0, x1, x2, x3, x4, x5, x6, x7, xf⟩ := HXc.out.cells
            have hl2 := HL2.out K hKb _ (HMS.out _ HNc.out)
            rw [HV2.out] at hl2
            have HLb := hidden hl2
            clear hl2
            go_upto_region 24 with (go_at_call 14; refine HLb.out.mono ?_; rintro e w6 ⟨rfl, hb6⟩)
            have HXd := hidden (HXc.out.later hb6)
            have HNd : Hid (Below S w2 w6) := hidden (HNc.out.trans (hb6.mono (Nat.le_of_lt HXc.out.lt)))
            clear x0 x1 x2 x3 x4 x5 x6 x7 xf hb6 HLb
            go_wp2_with (go_at_call 13; refine (num13 _ _).mono ?_; rintro e w12 ⟨rfl, e9⟩; rw [e9]; clear e9)
            go_roundw
            case rel => exact ⟨j + 2, _, by omega, by first | rfl | go_num | (congr 1; omega), by omega, HXd, HNd⟩
            case measure => simp [intOf]; try omega
/-- what both answer -/
def ansHI (ys : List Nat) (n K : Nat) : Nat := if atF false K (kyR ys n) 0 < 0 then 4294967295 else (atF false K (kyR ys n) 0).toNat
set_option maxHeartbeats 8000000 in
theorem halves_true (a : Option Addr) (len cap : Nat) (ys : List Nat) (key : Nat) (w : World) (h : HRow w a len ys) (hk : key < 4294967296) (hl : len ≤ 900) :
    Calls Try.prog 4 #[.slice a len cap, .int .u32 key, .bool true] w fun e w' => e = .returned (.bool true) ∧ Below w.heap.size w w' := by
  have hln := h.ln
  have g1 : ¬ ((len : Int) > 900) := by omega
  have HV := hidden h
  have HSL := hidden (sumK_le ys h.bd)
  clear h
  go_enter Try.func4, Try.ntmps4
  go_upto_region 6 with fail
  go_loopw [7, 8, 9] (fun v x i w' => ∃ (k : Nat) (ao : Option Addr) (c X : Nat), k ≤ len ∧ i = .int .i64 k ∧ v = .slice ao k c ∧ x = .int .u32 X ∧ Hid (X = sumK ys k) ∧ Hid (w'.ownsRow w.heap.size 23 1 (.slice ao k c) k (u32V (kyR ys k))) ∧ Hid (Below w.heap.size w w')) (fun _ _ i _ => len - (intOf i).toNat)
  case atStart => exact ⟨0, none, 0, 0, by omega, rfl, rfl, rfl, hidden rfl, hidden (World.ownsRow_nil _ _ _ _), hidden (Below.refl _ _)⟩
  case round =>
    obtain ⟨k, ao, c, X, hkl, rfl, rfl, rfl, hX, hO, hB⟩ := hrel
    by_cases hlt : k < len
    · have l1 : (k : Int) < len := by omega
      have l2 : (0 : Int) ≤ k := by omega
      have l3 : ((k : Int)).toNat = k := by omega
      obtain ⟨b, o, ha, hc⟩ := (HV.out.later hB.out).cells k hlt
      subst ha
      have hXl := HSL.out (k + 1) (by omega)
      rw [sumK, ← hX.out] at hXl
      obtain ⟨Y, hY⟩ : ∃ Y : Nat, Y = X + 1 + ys.getD k 0 := ⟨_, rfl⟩
      have HKR : Hid (kyR ys (k + 1) = kyR ys k ++ [Y]) := hidden (by rw [kyR, sumK, ← hX.out, hY])
      have HYS : Hid (Y = sumK ys (k + 1)) := hidden (by rw [sumK, ← hX.out, hY])
      generalize ys.getD k 0 = Z at *
      have w1 : IntKind.u32.wrap ((X : Int) + 1) = (X : Int) + 1 := by rw [IntKind.wrap_u32]; omega
      have w2 : IntKind.u32.wrap (Z : Int) = Z := by rw [IntKind.wrap_u32]; omega
      have w3 : IntKind.u32.wrap ((X : Int) + 1 + (Z : Int)) = (Y : Int) := by rw [IntKind.wrap_u32]; omega
      have hYl : Y < 4294967296 := by omega
      have hsz := hB.out.size
      clear hY hX hXl
      go_upto_region 7 with (at_builtin; refine wpList_snoc32 (by rfl) (.tmp 36) (.tmp 38) (by rfl) w.heap.size k c Y ao (kyR ys k) (by rfl) (by rfl) hO.out hYl hsz (by omega) ?_; intro a6 c6 w6 ho6 hb6; refine Hid.out ?_)
      rw [← HKR.out] at ho6
      have HO6 := hidden ho6
      have HB6 := hidden (hB.out.trans hb6)
      clear ho6 hb6
      refine hidden ?_
      go_wp2
      go_roundw
      case rel => exact ⟨k + 1, a6, c6, Y, by omega, by go_num, rfl, rfl, HYS, HO6, HB6⟩
      case measure => simp [intOf]; omega
    · obtain rfl : k = len := by omega
      have l1 : ¬ ((k : Int) < k) := by omega
      have HRI := hidden (kyR_rises ys k)
      have HBD := hidden (kyR_bd ys HV.out.bd (by omega) k (by omega))
      have HKL := hidden (kyR_len ys k)
      have hvr := own32_v hO.out HBD.out
      have HVK := hidden hvr
      have HW := hidden (words_any ao k c _ wr hvr (by omega))
      clear hvr hX hO
      obtain ⟨len, hlen⟩ : ∃ len, len = k := ⟨_, rfl⟩
      subst hlen
      go_upto_region 11 with (first | (go_at_call 11; refine HW.out.mono ?_; rintro e w1 ⟨a1, c1, rfl, hr1, hb1⟩; have HLD := hidden (laid_any a1 _ c1 _ w1 hr1 (puts_ok _)); have HB1 := hidden hb1; clear hr1 hb1; skip) | (go_at_call 10; refine HLD.out.mono ?_; rintro e w2 ⟨m, d, g, rfl, hL2, hb2⟩; skip) | fail)
      have HM := hidden (hL2.mrd (by rw [lay_len2]; omega) (lay_ok _ (puts_ok _) _))
      have HBR := hidden (HB1.out.trans (hb2.mono HB1.out.size))
      have HB2 := hidden (hB.out.trans (HBR.out.mono hB.out.size))
      have HVK2 := hidden (HVK.out.later HBR.out)
      clear hL2 hb2 HLD HW HB1 HVK
      have e1 : IntKind.u32.wrap (len : Int) = len := by rw [IntKind.wrap_u32]; omega
      go_upto_region 14 with fail
      have HX : Hid (IBox (w2.alloc (.cells #[.int .u32 0, .int .u32 4, .int .u32 256, .int .u32 4, .int .u32 (len : Int), .int .u32 0, .int .u32 0, .int .u32 0] 32)) w2.heap.size 0 4 256 4 (len : Int) 0 0 0) := hidden (heap_alloc_new _ _)
      have hbS : Hid (Below w2.heap.size w2 (w2.alloc (.cells #[.int .u32 0, .int .u32 4, .int .u32 256, .int .u32 4, .int .u32 (len : Int), .int .u32 0, .int .u32 0, .int .u32 0] 32))) := hidden ((Below.refl _ _).alloc (Nat.le_refl _) _)
      generalize w2.alloc (.cells #[.int .u32 0, .int .u32 4, .int .u32 256, .int .u32 4, .int .u32 (len : Int), .int .u32 0, .int .u32 0, .int .u32 0] 32) = w3 at *
      have HSS := hidden HB2.out.size
      have HMS := hidden (fun wx (hx : Below w2.heap.size w2 wx) => HM.out.later hx)
      have HVS := hidden (fun wx (hx : Below w2.heap.size w2 wx) => HVK2.out.later hx)
      generalize hS : w2.heap.size = S at *
      have HS := hidden hS
      clear hS
      obtain ⟨x0, x1, x2, x3, x4, x5, x6, x7, xf⟩ := HX.out.cells
      have xf7 := xf 7
      go_upto_region 16 with fail
      have HX2 : Hid (IBox (w3.setCell ⟨S, 7, none⟩ (.int .u32 4)) S 0 4 256 4 (len : Int) 0 0 4) := hidden (by have := HX.out; unfold IBox at *; simp [World.setCell, Array.getElem?_modify, this])
      have HN2 : Hid (Below S w2 (w3.setCell ⟨S, 7, none⟩ (.int .u32 4))) := hidden (hbS.out.setCell (p := ⟨S, 7, none⟩) (Nat.le_refl _) _)
      clear x0 x1 x2 x3 x4 x5 x6 x7 xf xf7 HX hbS
      generalize w3.setCell ⟨S, 7, none⟩ (.int .u32 4) = w4 at *
      have HL1 : Hid (∀ (K : Nat), K < 4294967296 → ∀ w, MRd w m (layB (putsL (intsL (kyR ys len)))) → Calls Try.prog 12 #[.pointer (some ⟨m, 0, none⟩), .agg #[.int .u32 (K : Int), .int .u32 4, .int .u32 256, .int .u32 4, .int .u32 (len : Int), .int .u32 0, .int .u32 0, .int .u32 4]] w fun e w' => e = .returned (.tuple #[.int .u32 (ansHI ys len K : Nat), .int .i64 0]) ∧ Below w.heap.size w w') := hidden (fun K hK w M => lin_w m _ K len 4 hK (by omega) (by omega) _ ((linV_words2 (kyR ys len) K 4 len false HBD.out hK (by rw [HKL.out]; omega) rfl rfl HKL.out).trans (tell4 K len 4 rfl _)) w M 4 256 0 4 rfl rfl rfl rfl)
      have HL2 : Hid (∀ (K : Nat), K < 4294967296 → ∀ w, MRd w m (layB (putsL (intsL (kyR ys len)))) → Calls Try.prog 14 #[.pointer (some ⟨m, 0, none⟩), .agg #[.int .u32 (K : Int), .int .u32 4, .int .u32 256, .int .u32 4, .int .u32 (len : Int), .int .u32 0, .int .u32 0, .int .u32 4]] w fun e w' => e = .returned (.tuple #[.int .u32 (ansHI ys len K : Nat), .int .i64 0]) ∧ Below w.heap.size w w') := hidden (fun K hK w M => bin_w m _ K len 4 hK (by omega) (by omega) _ ((binV_words2 (kyR ys len) K 4 len HBD.out hK (by rw [HKL.out]; omega) HRI.out rfl HKL.out).trans (tell4 K len 4 rfl _)) w M 4 256 0 4 rfl rfl rfl rfl)
      go_upto_region 17 with fail
      go_loopw [13] (fun i w' => ∃ (k : Nat) (kk : Int), k ≤ len + 1 ∧ i = .int .i64 ((k : Int) - 1) ∧ (1 ≤ k → k - 1 ≤ len) ∧ Hid (IBox w' S kk 4 256 4 (len : Int) 0 0 4) ∧ Hid (Below S w2 w')) (fun i _ => (len + 1 - intOf i).toNat)
      case atStart => exact ⟨0, 0, by omega, rfl, by omega, HX2, HN2⟩
      case round =>
        clear HX2 HN2
        obtain ⟨k, kk, hkl, rfl, _, hX, hN⟩ := hrel
        obtain ⟨x0, x1, x2, x3, x4, x5, x6, x7, xf⟩ := hX.out.cells
        have xf0 := xf 0
        by_cases hend : k = len + 1
        · have l1 : ¬ (((k : Int) - 1) < len) := by omega
          have HBF : Hid (Below w.heap.size w wr) := hidden (HB2.out.trans (hN.out.mono HSS.out))
          have HLV := hidden (live_any wr)
          clear x0 x1 x2 x3 x4 x5 x6 x7 xf xf0
          go_wp2_with (go_at_call 9; refine HLV.out.mono ?_; rintro e w13 ⟨rfl, hb13⟩)
          go_ret
          exact ⟨rfl, HBF.out.trans (hb13.mono HBF.out.size)⟩
        · have l1 : ((k : Int) - 1) < len := by omega
          go_upto_region 20 with fail
          have HXa : Hid (IBox (wr.setCell ⟨S, 0, none⟩ (.int .u32 (key : Int))) S (key : Int) 4 256 4 (len : Int) 0 0 4) := hidden (by have := hX.out; unfold IBox at *; simp [World.setCell, Array.getElem?_modify, this])
          have HNa : Hid (Below S w2 (wr.setCell ⟨S, 0, none⟩ (.int .u32 (key : Int)))) := hidden (hN.out.setCell (p := ⟨S, 0, none⟩) (Nat.le_refl _) _)
          clear x0 x1 x2 x3 x4 x5 x6 x7 xf xf0 hX hN
          generalize wr.setCell ⟨S, 0, none⟩ (.int .u32 (key : Int)) = wa at *
          by_cases hk0 : k = 0
          · subst hk0
            have l0 : (((0 : Nat) : Int) - 1) = -1 := rfl
            rw [l0]
            have HXb := HXa
            have HNb := HNa
            generalize wa = wb at *
            obtain ⟨V, hVV⟩ : ∃ V, ansHI ys len key = V := ⟨_, rfl⟩
            have hl1 := HL1.out key hk _ (HMS.out _ HNb.out)
            rw [hVV] at hl1
            have HLa := hidden hl1
            have HV2 := hidden hVV
            clear hl1 hVV
            obtain ⟨x0, x1, x2, x3, x4, x5, x6, x7, xf⟩ := HXb.out.cells
            go_upto_region 23 with (go_at_call 12; refine HLa.out.mono ?_; rintro e w5 ⟨rfl, hb5⟩)
            have HXc := hidden (HXb.out.later hb5)
            have HNc : Hid (Below S w2 w5) := hidden (HNb.out.trans (hb5.mono (Nat.le_of_lt HXb.out.lt)))
            clear x0 x1 x2 x3 x4 x5 x6 x7 xf hb5 HLa
            obtain ⟨x0, x1, x2, x3, x4, x5, x6, x7, xf⟩ := HXc.out.cells
            have hl2 := HL2.out key hk _ (HMS.out _ HNc.out)
            rw [HV2.out] at hl2
            have HLb := hidden hl2
            clear hl2
            go_upto_region 24 with (go_at_call 14; refine HLb.out.mono ?_; rintro e w6 ⟨rfl, hb6⟩)
            have HXd := hidden (HXc.out.later hb6)
            have HNd : Hid (Below S w2 w6) := hidden (HNc.out.trans (hb6.mono (Nat.le_of_lt HXc.out.lt)))
            clear x0 x1 x2 x3 x4 x5 x6 x7 xf hb6 HLb
            go_wp2_with (go_at_call 13; refine (num13 _ _).mono ?_; rintro e w12 ⟨rfl, e9⟩; rw [e9]; clear e9)
            go_roundw
            case rel => exact ⟨1, _, by omega, by first | rfl | go_num | (congr 1; omega), by omega, HXd, HNd⟩
            case measure => simp [intOf]; try omega
          · obtain ⟨j, rfl⟩ : ∃ j, k = j + 1 := ⟨k - 1, by omega⟩
            have l0 : (((j + 1 : Nat) : Int) - 1) = (j : Int) := by omega
            rw [l0]
            rw [l0] at l1
            have l2 : (0 : Int) ≤ j := by omega
            have l3 : ((j : Int)).toNat = j := by omega
            have l4 : (0 : Int) ≤ (j : Int) := by omega
            obtain ⟨b2, o2, ha2, hc2⟩ := (HVS.out _ HNa.out).cells j (by omega)
            have HAT := hidden (at_of HRI.out j (by rw [HKL.out]; omega))
            have hKb : (kyR ys len).getD j 0 < 4294967296 := HBD.out _ (by rw [List.getD_eq_getElem?_getD, List.getElem?_eq_getElem (by rw [HKL.out]; omega)]; simp)
            generalize (kyR ys len).getD j 0 = K at *
            subst ha2
            obtain ⟨x0, x1, x2, x3, x4, x5, x6, x7, xf⟩ := HXa.out.cells
            have xf0 := xf 0
            go_upto_region 22 with fail
            have HXb : Hid (IBox (wa.setCell ⟨S, 0, none⟩ (.int .u32 (K : Int))) S (K : Int) 4 256 4 (len : Int) 0 0 4) := hidden (by have := HXa.out; unfold IBox at *; simp [World.setCell, Array.getElem?_modify, this])
            have HNb : Hid (Below S w2 (wa.setCell ⟨S, 0, none⟩ (.int .u32 (K : Int)))) := hidden (HNa.out.setCell (p := ⟨S, 0, none⟩) (Nat.le_refl _) _)
            clear x0 x1 x2 x3 x4 x5 x6 x7 xf xf0 HXa HNa hc2
            generalize wa.setCell ⟨S, 0, none⟩ (.int .u32 (K : Int)) = wb at *
            obtain ⟨V, hVV⟩ : ∃ V, ansHI ys len K = V := ⟨_, rfl⟩
            have hl1 := HL1.out K hKb _ (HMS.out _ HNb.out)
            rw [hVV] at hl1
            have HLa := hidden hl1
            have HV2 := hidden hVV
            have hVj : V = j := by rw [← hVV]; unfold ansHI; rw [HAT.out, if_neg (by omega), Int.toNat_natCast]
            subst hVj
            have q9 : IntKind.u32.wrap (V : Int) = V := by rw [IntKind.wrap_u32]; omega
            clear hl1 hVV
            obtain ⟨x0, x1, x2, x3, x4, x5, x6, x7, xf⟩ := HXb.out.cells
            go_upto_region 23 with (go_at_call 12; refine HLa.out.mono ?_; rintro e w5 ⟨rfl, hb5⟩)
            have HXc := hidden (HXb.out.later hb5)
            have HNc : Hid (Below S w2 w5) := hidden (HNb.out.trans (hb5.mono (Nat.le_of_lt HXb.out.lt)))
            clear x0 x1 x2 x3 x4 x5 x6 x7 xf hb5 HLa
            obtain ⟨x0, x1, x2, x3, x4, x5, x6, x7, xf⟩ := HXc.out.cells
            have hl2 := HL2.out K hKb _ (HMS.out _ HNc.out)
            rw [HV2.out] at hl2
            have HLb := hidden hl2
            clear hl2
            go_upto_region 24 with (go_at_call 14; refine HLb.out.mono ?_; rintro e w6 ⟨rfl, hb6⟩)
            have HXd := hidden (HXc.out.later hb6)
            have HNd : Hid (Below S w2 w6) := hidden (HNc.out.trans (hb6.mono (Nat.le_of_lt HXc.out.lt)))
            clear x0 x1 x2 x3 x4 x5 x6 x7 xf hb6 HLb
            go_wp2_with (go_at_call 13; refine (num13 _ _).mono ?_; rintro e w12 ⟨rfl, e9⟩; rw [e9]; clear e9)
            go_roundw
            case rel => exact ⟨V + 2, _, by omega, by first | rfl | go_num | (congr 1; omega), by omega, HXd, HNd⟩
            case measure => simp [intOf]; try omega
theorem findHalves_walk (a : Option Addr) (len cap : Nat) (zs : List Int) (key : Int) (index : Bool) (w : World) (h : IsRow .u16 w a len cap zs) (hk : (Lit.int .u32 key).wf = true) :
    Calls Try.prog 4 #[.slice a len cap, .int .u32 key, .bool index] w fun e w' => e = .returned (.bool true) ∧ Below w.heap.size w w' := by
  obtain ⟨xs, hv, hlc, hlm⟩ := hrow_of h
  have hb := bounds_u32 hk
  obtain ⟨K, rfl⟩ : ∃ K : Nat, key = K := ⟨key.toNat, by omega⟩
  by_cases hl : len ≤ 900
  · cases index
    · exact halves_false a len cap xs K w hv (by omega) hl
    · exact halves_true a len cap xs K w hv (by omega) hl
  · have g1 : (len : Int) > 900 := by omega
    clear h hv hk
    go_enter Try.func4, Try.ntmps4
    go_wp2_with (go_at_call 9; refine (live_any _).mono ?_; rintro e w13 ⟨rfl, hb13⟩)
    go_ret
    exact ⟨rfl, hb13⟩
end Go.Proofs.Ytppgpfppmbdfhaa
