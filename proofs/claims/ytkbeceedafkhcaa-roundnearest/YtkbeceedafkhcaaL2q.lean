/- The walk of RoundNearest: no pattern of a small format is nearer to a number than the one that is told; of two that are as near it is the even one. -/
import Derived.Test.YtkbeceedafkhcaaN4a
import Derived.Deep.QuietTactic
import Derived.BigQuiet
import Derived.Deep.Cut
import Derived.Deep.CutRange
namespace Go.Proofs.Ytkbeceedafkhcaa
open Go.RowKit
set_option maxHeartbeats 4000000
set_option linter.unusedVariables false

theorem near_out (a0 b0 a1 a2 : Int) (w : World) (h : ¬ tinyF a0 b0 ∨ a2 < -12 ∨ 4 < a2) :
    Calls Try.prog 6 #[.agg #[.int .i64 a0, .int .i64 b0], .int .u16 a1, .int .i64 a2] w fun r w' => r = .returned (.bool true) ∧ Below w.heap.size w w' := by
  have HL := hidden live_any
  by_cases ht : tinyF a0 b0
  · have HT := hidden (fun w => tiny_yes a0 b0 w ht)
    have hc : a2 < -12 ∨ (-12 ≤ a2 ∧ 4 < a2) := by
      rcases h with h | h | h
      · exact absurd ht h
      · exact .inl h
      · exact .inr ⟨by omega, h⟩
    clear h ht
    rcases hc with h | ⟨h, h2⟩
    all_goals
      go_enter Try.func6, Try.ntmps6
      go_wp2_with fail
      refine (HT.out _).mono ?_
      rintro r w1 ⟨rfl, hb1⟩
      have HB := hidden (box_below _ hb1)
      clear hb1
      go_wp2_with (go_at_call 20; refine (HL.out _).mono ?_; rintro r w2 ⟨rfl, hb2⟩)
      go_ret
      exact ⟨rfl, HB.out.trans (hb2.mono HB.out.size)⟩
  · have HT := hidden (fun w => tiny_no a0 b0 w ht)
    clear h ht
    go_enter Try.func6, Try.ntmps6
    go_wp2_with fail
    refine (HT.out _).mono ?_
    rintro r w1 ⟨rfl, hb1⟩
    have HB := hidden (box_below _ hb1)
    clear hb1
    go_wp2_with (go_at_call 20; refine (HL.out _).mono ?_; rintro r w2 ⟨rfl, hb2⟩)
    go_ret
    exact ⟨rfl, HB.out.trans (hb2.mono HB.out.size)⟩
/-- the law's claim for every other pattern -/
def DistI (m s : Nat) (T W X : Int) : Int := if X = T ∧ valI m s T < W then 0 else farI m s W X
theorem near_claim (m x s : Nat) (N e : Int) (h : tinyF m x) (hs : (s : Int) = 24 + least m x) (hs1 : 1 ≤ s) (hN : 0 ≤ N) (he : -24 ≤ e) (y : Int) (y0 : 0 ≤ y) (y1 : y ≤ (p2 x - 1) * p2 m) (hne : y ≠ packP m x N e false) :
    DistI m s ((p2 x - 1) * p2 m) (N * p2 (24 + e).toNat) (packP m x N e false) < farI m s (N * p2 (24 + e).toNat) y ∨ (DistI m s ((p2 x - 1) * p2 m) (N * p2 (24 + e).toNat) (packP m x N e false) = farI m s (N * p2 (24 + e).toNat) y ∧ packP m x N e false % 2 = 0) := by
  obtain ⟨h1, h2, h3, h4⟩ := h
  have hsc := pack_scale m x N e (24 + e).toNat hN
  rw [show e - ((24 + e).toNat : Int) = -24 by omega] at hsc
  have hpk := p2_pos (24 + e).toNat
  have hW0 : 0 ≤ N * p2 (24 + e).toNat := Int.mul_nonneg hN (by omega)
  rw [← hsc] at hne ⊢
  have hbd := pack_bd m x (N * p2 (24 + e).toNat) (-24) false hW0 (by omega)
  generalize N * p2 (24 + e).toNat = W at *
  unfold DistI
  by_cases hc : packP m x W (-24) false = (p2 x - 1) * p2 m ∧ valI m s ((p2 x - 1) * p2 m) < W
  · rw [if_pos hc]
    have h5 := val_lt m s y ((p2 x - 1) * p2 m) y0 (by rw [hc.1] at hne; omega)
    left
    unfold farI
    omega
  · rw [if_neg hc]
    rcases Int.lt_or_le 0 W with hW | hW
    · by_cases ht : bias x < -24 + bl W - 1
      · obtain ⟨k1, k2⟩ := nearest_inf m x s W hW (by omega) hs ht
        rw [k1] at hne hc ⊢
        have h5 := val_lt m s y ((p2 x - 1) * p2 m) y0 (by omega)
        left
        unfold farI
        omega
      · exact nearest_fin m x s W hW (by omega) hs hs1 ht _ y rfl y0 hne
    · have hWz : W = 0 := by omega
      subst hWz
      have hX : packP m x 0 (-24) false = 0 := by unfold packP; simp
      rw [hX] at hne ⊢
      have h5 := val_lt m s 0 y (Int.le_refl 0) (by omega)
      have h6 : valI m s 0 = 0 := by unfold valI; simp
      left
      unfold farI
      omega
theorem near_in (m x : Nat) (a1 a2 : Int) (w : World) (h : tinyF m x) (c0 : 0 ≤ a1) (c1 : a1 ≤ 65535) (e0 : -12 ≤ a2) (e1 : a2 ≤ 4) :
    Calls Try.prog 6 #[.agg #[.int .i64 m, .int .i64 x], .int .u16 a1, .int .i64 a2] w fun r w' => r = .returned (.bool true) ∧ Below w.heap.size w w' := by
  have HL := hidden live_any
  have HT := hidden (fun w => tiny_yes m x w h)
  have HM := hidden (fun w => num_any 0 w (by decide) (by decide))
  have hok : okF m x := by obtain ⟨h1, h2, h3, h4⟩ := h; exact ⟨h1, by omega, h3, by omega⟩
  have h' := h
  obtain ⟨h1, h2, h3, h4⟩ := h'
  have hb7 : 1 ≤ bias x ∧ bias x ≤ 7 := by
    have := bias_bd x h3 (by omega)
    have h5 : p2 ((x : Int) - 1).toNat ≤ p2 3 := p2_mono (by omega)
    have h6 : p2 3 = 8 := rfl
    unfold bias at *
    omega
  obtain ⟨s, hs⟩ := Int.eq_ofNat_of_zero_le (show 0 ≤ 24 + least m x by unfold least; omega)
  have hs1 : 1 ≤ s := by unfold least at hs; omega
  have hp16 : p2 m ≤ 16 := by rw [show (16 : Int) = p2 4 by rfl]; exact p2_mono (by omega)
  have hx16 : p2 x ≤ 16 ∧ 4 ≤ p2 x := ⟨by rw [show (16 : Int) = p2 4 by rfl]; exact p2_mono (by omega), by rw [show (4 : Int) = p2 2 by rfl]; exact p2_mono (by omega)⟩
  have hpm := p2_pos m
  have hT0 : 0 ≤ (p2 x - 1) * p2 m := Int.mul_nonneg (by omega) (by omega)
  have hT1 : (p2 x - 1) * p2 m ≤ 240 := by
    have h5 : (p2 x - 1) * p2 m ≤ 15 * p2 m := Int.mul_le_mul_of_nonneg_right (by omega) (by omega)
    omega
  have hpk : p2 (24 + a2).toNat ≤ 268435456 := by rw [show (268435456 : Int) = p2 28 by decide +kernel]; exact p2_mono (by omega)
  have hpk0 := p2_pos (24 + a2).toNat
  have hW0 : 0 ≤ a1 * p2 (24 + a2).toNat := Int.mul_nonneg c0 (by omega)
  have hW1 : a1 * p2 (24 + a2).toNat ≤ 17592186044416 := by
    have h5 : a1 * p2 (24 + a2).toNat ≤ 65535 * p2 (24 + a2).toNat := Int.mul_le_mul_of_nonneg_right c1 (by omega)
    omega
  have HVal := hidden (fun y w y0 y1 => value_any m x s y w h hs.symm y0 y1)
  have HCl := hidden (near_claim m x s a1 a2 h hs.symm hs1 c0 (by omega))
  have HVb : Hid (∀ y, 0 ≤ y → y ≤ (p2 x - 1) * p2 m → 0 ≤ valI m s y ∧ valI m s y ≤ 4294967296) := hidden (fun y y0 y1 => by
    have k1 := val_le m s 0 y (Int.le_refl 0) y0
    have k2 := val_le m s y _ y0 y1
    have k3 : valI m s 0 = 0 := by unfold valI; simp
    rw [val_top m x s (by omega) hs.symm] at k2
    have k4 : p2 (25 + bias x).toNat ≤ 4294967296 := by rw [show (4294967296 : Int) = p2 32 by decide +kernel]; exact p2_mono (by omega)
    omega)
  have hbd := pack_bd m x a1 a2 false c0 (by omega)
  have HP := hidden (fun w => ppack_any m x false false a1 0 a1 a2 w hok (by omega) (by omega) (by omega) (by decide) (by decide) c0 (by omega) (fun h => by cases h))
  rw [show sgnW false (m + x) = 0 from rfl, Int.add_zero] at HP
  have HTop : Hid (wrap64 (wrap64 (wrap64 (2 ^ x) - 1) * 2 ^ m) = (p2 x - 1) * p2 m) := hidden (by
    show wrap64 (wrap64 (wrap64 (p2 x) - 1) * p2 m) = _
    rw [show wrap64 (p2 x) = p2 x by unfold wrap64; omega, show wrap64 (p2 x - 1) = p2 x - 1 by unfold wrap64; omega]
    unfold wrap64; omega)
  have HWv : Hid (wrap64 (a1 * 2 ^ (24 + a2).toNat) = a1 * p2 (24 + a2).toNat) := hidden (by
    show wrap64 (a1 * p2 (24 + a2).toNat) = _
    unfold wrap64; omega)
  have hVX := HVb.out _ hbd.1 hbd.2
  generalize packP m x a1 a2 false = X at *
  generalize a1 * p2 (24 + a2).toNat = W at *
  clear hb7 hs hs1 hok
  go_enter Try.func6, Try.ntmps6
  go_wp2_with fail
  refine (HT.out _).mono ?_
  rintro r w1 ⟨rfl, hb1⟩
  have d0 : w1.cell? ⟨w.heap.size, 0, none⟩ = some (.int .i64 m) := cellLater hb1 (by simp)
  have d1 : w1.cell? ⟨w.heap.size, 1, none⟩ = some (.int .i64 x) := cellLater hb1 (by simp)
  have HB := hidden (box_below _ hb1)
  clear hb1
  go_wp2_with fail
  refine (HP.out _).mono ?_
  rintro r w2 ⟨rfl, hb2⟩
  replace d0 := cellLater hb2 d0
  replace d1 := cellLater hb2 d1
  replace HB := hidden (HB.out.trans (hb2.mono HB.out.size))
  clear hb2
  go_wp2_with fail
  go_quiet (fail)
  have hb3 := below_drewN (Below.refl w2.heap.size w2) nq
  replace d0 := cellLater hb3 d0
  replace d1 := cellLater hb3 d1
  replace HB := hidden (HB.out.trans (hb3.mono HB.out.size))
  clear hb3
  generalize w2.drewN nq = w3 at *
  simp only [HTop.out]
  clear HTop
  generalize (p2 x - 1) * p2 m = T at *
  obtain ⟨hX0, hX1⟩ := hbd
  go_wp2_with (go_at_call 11; refine (HM.out _).mono ?_; rintro r w7 ⟨rfl, hw⟩; obtain rfl := hw.symm)
  simp only [HWv.out]
  refine (HVal.out X _ hX0 hX1).mono ?_
  rintro r w4 ⟨rfl, hb4⟩
  replace d0 := cellLater hb4 d0
  replace d1 := cellLater hb4 d1
  replace HB := hidden (HB.out.trans (hb4.mono HB.out.size))
  clear hb4
  have hVT := HVb.out T hT0 (Int.le_refl _)
  by_cases hXT : X = T
  · subst hXT
    by_cases hWV : valI m s X < W
    · have HDX : Hid (DistI m s X W X = 0) := hidden (by unfold DistI; rw [if_pos ⟨rfl, hWV⟩])
      generalize hvx : valI m s X = VX at *
      have HVX := hidden hvx
      clear hvx
      go_wp2_with fail
      refine (HVal.out X _ hX0 (Int.le_refl _)).mono ?_
      rintro r w5 ⟨rfl, hb5⟩
      rw [HVX.out]
      replace d0 := cellLater hb5 d0
      replace d1 := cellLater hb5 d1
      replace HB := hidden (HB.out.trans (hb5.mono HB.out.size))
      clear hb5
      go_wp2_with fail
      go_loopw [12, 13] (fun y c wr => ∃ k : Nat, (k : Int) ≤ X + 1 ∧ y = .int .i64 k ∧ wr.cell? ⟨w.heap.size, 0, none⟩ = some (.int .i64 m) ∧ wr.cell? ⟨w.heap.size, 1, none⟩ = some (.int .i64 x) ∧ Below w.heap.size w wr) (fun y _ _ => (X + 1 - intOf y).toNat)
      case atStart => exact ⟨0, by omega, rfl, d0, d1, HB.out⟩
      case round =>
        obtain ⟨k, hk, rfl, g0, g1, hbr⟩ := hrel
        have HBr := hidden hbr
        clear hbr
        by_cases hkT : (k : Int) ≤ X
        · go_wp2_with fail
          refine (HVal.out (k : Int) _ (by omega) hkT).mono ?_
          rintro r w6 ⟨rfl, hb6⟩
          have f0 := cellLater hb6 g0
          have f1 := cellLater hb6 g1
          have HB6 := hidden (HBr.out.trans (hb6.mono HBr.out.size))
          clear hb6 g0 g1
          have hVk := HVb.out (k : Int) (by omega) hkT
          by_cases hkX : (k : Int) = X
          · have hb : ((k : Int) != X) = false := by simp [hkX]
            have HkX := hidden hkX
            clear hkX
            generalize valI m s (k : Int) = Vk at *
            go_wp2
            go_roundw
            case rel => exact ⟨k + 1, by omega, by go_num, f0, f1, HB6.out⟩
            case measure => simp [intOf]; omega
          · have hb : ((k : Int) != X) = true := by simp [hkX]
            have hcl := HCl.out (k : Int) (by omega) hkT hkX
            rw [HDX.out] at hcl
            unfold farI at hcl
            generalize valI m s (k : Int) = Vk at *
            rcases hcl with hcl | ⟨hcl, hev⟩
            · have hne : (max (W - Vk) (-(W - Vk)) == (0 : Int)) = false := by simp; omega
              clear hkX
              go_wp2
              go_roundw
              case rel => exact ⟨k + 1, by omega, by go_num, f0, f1, HB6.out⟩
              case measure => simp [intOf]; omega
            · have hne : (max (W - Vk) (-(W - Vk)) == (0 : Int)) = true := by simp; omega
              have hle : ¬ max (W - Vk) (-(W - Vk)) < (0 : Int) := by omega
              have hev' : (X % 2 == 1) = false := by simp; omega
              have HEV := hidden hev
              have HCL := hidden hcl
              clear hkX hev hcl
              go_wp2
              go_roundw
              case rel => exact ⟨k + 1, by omega, by go_num, f0, f1, HB6.out⟩
              case measure => simp [intOf]; omega
        · go_wp2_with (go_at_call 20; refine (HL.out _).mono ?_; rintro r w9 ⟨rfl, hb9⟩)
          go_ret
          exact ⟨rfl, HBr.out.trans (hb9.mono HBr.out.size)⟩
    · have HDX : Hid (DistI m s X W X = max (W - valI m s X) (-(W - valI m s X))) := hidden (by unfold DistI; rw [if_neg (fun h => hWV h.2)]; rfl)
      generalize hvx : valI m s X = VX at *
      have HVX := hidden hvx
      clear hvx
      obtain ⟨DD, HDD⟩ : ∃ DD, Hid (max (W - VX) (-(W - VX)) = DD) := ⟨_, hidden rfl⟩
      rw [HDD.out] at HDX
      have hDD : 0 ≤ DD ∧ DD ≤ 17600000000000 := by have := HDD.out; omega
      go_wp2_with fail
      refine (HVal.out X _ hX0 (Int.le_refl _)).mono ?_
      rintro r w5 ⟨rfl, hb5⟩
      rw [HVX.out]
      replace d0 := cellLater hb5 d0
      replace d1 := cellLater hb5 d1
      replace HB := hidden (HB.out.trans (hb5.mono HB.out.size))
      clear hb5
      go_wp2_with fail
      simp only [HDD.out]
      go_loopw [12, 13] (fun y c wr => ∃ k : Nat, (k : Int) ≤ X + 1 ∧ y = .int .i64 k ∧ wr.cell? ⟨w.heap.size, 0, none⟩ = some (.int .i64 m) ∧ wr.cell? ⟨w.heap.size, 1, none⟩ = some (.int .i64 x) ∧ Below w.heap.size w wr) (fun y _ _ => (X + 1 - intOf y).toNat)
      case atStart => exact ⟨0, by omega, rfl, d0, d1, HB.out⟩
      case round =>
        obtain ⟨k, hk, rfl, g0, g1, hbr⟩ := hrel
        have HBr := hidden hbr
        clear hbr
        by_cases hkT : (k : Int) ≤ X
        · go_wp2_with fail
          refine (HVal.out (k : Int) _ (by omega) hkT).mono ?_
          rintro r w6 ⟨rfl, hb6⟩
          have f0 := cellLater hb6 g0
          have f1 := cellLater hb6 g1
          have HB6 := hidden (HBr.out.trans (hb6.mono HBr.out.size))
          clear hb6 g0 g1
          have hVk := HVb.out (k : Int) (by omega) hkT
          by_cases hkX : (k : Int) = X
          · have hb : ((k : Int) != X) = false := by simp [hkX]
            have HkX := hidden hkX
            clear hkX
            generalize valI m s (k : Int) = Vk at *
            go_wp2
            go_roundw
            case rel => exact ⟨k + 1, by omega, by go_num, f0, f1, HB6.out⟩
            case measure => simp [intOf]; omega
          · have hb : ((k : Int) != X) = true := by simp [hkX]
            have hcl := HCl.out (k : Int) (by omega) hkT hkX
            rw [HDX.out] at hcl
            unfold farI at hcl
            generalize valI m s (k : Int) = Vk at *
            rcases hcl with hcl | ⟨hcl, hev⟩
            · have hne : (max (W - Vk) (-(W - Vk)) == DD) = false := by simp; omega
              clear hkX
              go_wp2
              go_roundw
              case rel => exact ⟨k + 1, by omega, by go_num, f0, f1, HB6.out⟩
              case measure => simp [intOf]; omega
            · have hne : (max (W - Vk) (-(W - Vk)) == DD) = true := by simp; omega
              have hle : ¬ max (W - Vk) (-(W - Vk)) < DD := by omega
              have hev' : (X % 2 == 1) = false := by simp; omega
              have HEV := hidden hev
              have HCL := hidden hcl
              clear hkX hev hcl
              go_wp2
              go_roundw
              case rel => exact ⟨k + 1, by omega, by go_num, f0, f1, HB6.out⟩
              case measure => simp [intOf]; omega
        · go_wp2_with (go_at_call 20; refine (HL.out _).mono ?_; rintro r w9 ⟨rfl, hb9⟩)
          go_ret
          exact ⟨rfl, HBr.out.trans (hb9.mono HBr.out.size)⟩
  · have HDX : Hid (DistI m s T W X = max (W - valI m s X) (-(W - valI m s X))) := hidden (by unfold DistI; rw [if_neg (fun h => hXT h.1)]; rfl)
    have hXb : (X == T) = false := by simp [hXT]
    generalize valI m s X = VX at *
    clear hXT hVT
    obtain ⟨DD, HDD⟩ : ∃ DD, Hid (max (W - VX) (-(W - VX)) = DD) := ⟨_, hidden rfl⟩
    rw [HDD.out] at HDX
    have hDD : 0 ≤ DD ∧ DD ≤ 17600000000000 := by have := HDD.out; omega
    go_wp2_with fail
    simp only [HDD.out]
    go_loopw [12, 13] (fun y c wr => ∃ k : Nat, (k : Int) ≤ T + 1 ∧ y = .int .i64 k ∧ wr.cell? ⟨w.heap.size, 0, none⟩ = some (.int .i64 m) ∧ wr.cell? ⟨w.heap.size, 1, none⟩ = some (.int .i64 x) ∧ Below w.heap.size w wr) (fun y _ _ => (T + 1 - intOf y).toNat)
    case atStart => exact ⟨0, by omega, rfl, d0, d1, HB.out⟩
    case round =>
      obtain ⟨k, hk, rfl, g0, g1, hbr⟩ := hrel
      have HBr := hidden hbr
      clear hbr
      by_cases hkT : (k : Int) ≤ T
      · go_wp2_with fail
        refine (HVal.out (k : Int) _ (by omega) hkT).mono ?_
        rintro r w6 ⟨rfl, hb6⟩
        have f0 := cellLater hb6 g0
        have f1 := cellLater hb6 g1
        have HB6 := hidden (HBr.out.trans (hb6.mono HBr.out.size))
        clear hb6 g0 g1
        have hVk := HVb.out (k : Int) (by omega) hkT
        by_cases hkX : (k : Int) = X
        · have hb : ((k : Int) != X) = false := by simp [hkX]
          have HkX := hidden hkX
          clear hkX
          generalize valI m s (k : Int) = Vk at *
          go_wp2
          go_roundw
          case rel => exact ⟨k + 1, by omega, by go_num, f0, f1, HB6.out⟩
          case measure => simp [intOf]; omega
        · have hb : ((k : Int) != X) = true := by simp [hkX]
          have hcl := HCl.out (k : Int) (by omega) hkT hkX
          rw [HDX.out] at hcl
          unfold farI at hcl
          generalize valI m s (k : Int) = Vk at *
          rcases hcl with hcl | ⟨hcl, hev⟩
          · have hne : (max (W - Vk) (-(W - Vk)) == DD) = false := by simp; omega
            clear hkX
            go_wp2
            go_roundw
            case rel => exact ⟨k + 1, by omega, by go_num, f0, f1, HB6.out⟩
            case measure => simp [intOf]; omega
          · have hne : (max (W - Vk) (-(W - Vk)) == DD) = true := by simp; omega
            have hle : ¬ max (W - Vk) (-(W - Vk)) < DD := by omega
            have hev' : (X % 2 == 1) = false := by simp; omega
            have HEV := hidden hev
            have HCL := hidden hcl
            clear hkX hev hcl
            go_wp2
            go_roundw
            case rel => exact ⟨k + 1, by omega, by go_num, f0, f1, HB6.out⟩
            case measure => simp [intOf]; omega
      · go_wp2_with (go_at_call 20; refine (HL.out _).mono ?_; rintro r w9 ⟨rfl, hb9⟩)
        go_ret
        exact ⟨rfl, HBr.out.trans (hb9.mono HBr.out.size)⟩
theorem roundNearest_walk (a0 b0 a1 a2 : Int) (w : World) (w0 : (Lit.int .i64 a0).wf = true) (x0 : (Lit.int .i64 b0).wf = true) (w1 : (Lit.int .u16 a1).wf = true) (w2 : (Lit.int .i64 a2).wf = true) :
    Calls Try.prog 6 #[.agg #[.int .i64 a0, .int .i64 b0], .int .u16 a1, .int .i64 a2] w fun r w' => r = .returned (.bool true) ∧ Below w.heap.size w w' := by
  have c1 := bounds_u16 w1
  by_cases h : ¬ tinyF a0 b0 ∨ a2 < -12 ∨ 4 < a2
  · exact near_out a0 b0 a1 a2 w h
  · have ht : tinyF a0 b0 := Classical.byContradiction fun h2 => h (.inl h2)
    have he : -12 ≤ a2 ∧ a2 ≤ 4 := by
      constructor
      · rcases Int.lt_or_le a2 (-12) with h2 | h2
        · exact absurd (.inr (.inl h2)) h
        · exact h2
      · rcases Int.lt_or_le 4 a2 with h2 | h2
        · exact absurd (.inr (.inr h2)) h
        · exact h2
    obtain ⟨m, rfl⟩ := Int.eq_ofNat_of_zero_le (show 0 ≤ a0 by have := ht.1; omega)
    obtain ⟨x, rfl⟩ := Int.eq_ofNat_of_zero_le (show 0 ≤ b0 by have := ht.2.2.1; omega)
    exact near_in m x a1 a2 w ht c1.1 c1.2 he.1 he.2
end Go.Proofs.Ytkbeceedafkhcaa
