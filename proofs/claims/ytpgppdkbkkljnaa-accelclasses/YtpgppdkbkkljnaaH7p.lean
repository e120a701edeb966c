/- Contract of the document's Parse (package grottoref07) for any bytes. -/
import Derived.Test.YtpgppdkbkkljnaaH7f
import Derived.Test.YtpgppdkbkkljnaaH7b
import Derived.Test.YtpgppdkbkkljnaaH7s
namespace Go.Proofs.Ytpgppdkbkkljnaa
open Go.RowKit
set_option maxHeartbeats 2000000
set_option maxRecDepth 100000
set_option linter.unusedVariables false

theorem take_snoc_eq (zs : List Int) (k : Nat) (c : Int) (hk : k < 4) (hl : k < zs.length) (h : zs.take k = glul.take k) (h1 : zs.getD k 0 = c) (h2 : glul.getD k 0 = c) : zs.take (k + 1) = glul.take (k + 1) := by
  have e1 : zs[k]? = some c := by
    rw [List.getD_eq_getElem?_getD, List.getElem?_eq_getElem hl] at h1
    rw [List.getElem?_eq_getElem hl]; simpa using h1
  have e2 : glul[k]? = some c := by
    have hg : k < glul.length := by simpa [glul] using hk
    rw [List.getD_eq_getElem?_getD, List.getElem?_eq_getElem hg] at h2
    rw [List.getElem?_eq_getElem hg]; simpa using h2
  rw [List.take_add_one, List.take_add_one, h, e1, e2]
theorem magic_yes (zs : List Int) (k : Nat) (hk : k = 4 ∨ k = zs.length) (hk4 : k ≤ 4) (hl : k ≤ zs.length) (h : zs.take k = glul.take k) : zs.take 4 = glul.take zs.length := by
  rcases hk with rfl | rfl
  · rw [h, glul_min zs.length, Nat.min_eq_right hl]
  · rw [← h, List.take_of_length_le hk4, List.take_of_length_le (Nat.le_refl _)]
theorem magic_no (zs : List Int) (k : Nat) (hk : k < 4) (hl : k < zs.length) (h1 : zs.getD k 0 ≠ glul.getD k 0) : zs.take 4 ≠ glul.take zs.length := by
  intro e
  apply h1
  have := congrArg (fun l => l.getD k 0) e
  simpa [List.getD_eq_getElem?_getD, List.getElem?_take, hk, hl] using this
theorem rparse_some (g o L cap : Nat) (zs : List Int) (w : World) (h : Bs w g o L zs) (hb : OkB zs) (hcap : L ≤ cap) (hL1 : 1 ≤ L) (hm : L ≤ 1000000) (v4 v8 v12 v16 v20 v24 v28 v32 SV : Int)
    (e4 : beV zs 4 4 = v4) (e8 : beV zs 8 4 = v8) (e12 : beV zs 12 4 = v12) (e16 : beV zs 16 4 = v16) (e20 : beV zs 20 4 = v20) (e24 : beV zs 24 4 = v24) (e28 : beV zs 28 4 = v28) (e32 : beV zs 32 4 = v32) (eS : sumV zs = SV) (R : Hd × Int × Int) (hR : R = parseH zs) :
    Calls Try.prog 39 #[.slice (some ⟨g, o, none⟩) L cap] w fun e w' => e = .returned (.tuple #[hdV R.1, .int .i64 R.2.1, .int .i64 R.2.2]) ∧ Below w.heap.size w w' := by
  have hlen := h.1
  have HR : Hid (R = if zs.take 4 ≠ glul.take zs.length then (hd0, 63, 0) else if L < 36 then (hd0, 2, (L : Int)) else if (numR v4 v8 v12 v16 v20 v24 v28 L).1 ≠ 0 then (hd0, (numR v4 v8 v12 v16 v20 v24 v28 L).1, (numR v4 v8 v12 v16 v20 v24 v28 L).2) else if v32 ≠ SV then (hd0, 73, 32) else (⟨v4, v8, v12, v16, v20, v24, v28, v32⟩, 0, 36)) := hidden (by
    rw [hR]
    unfold parseH
    rw [if_neg (by omega), hlen]
    subst e4 e8 e12 e16 e20 e24 e28 e32 eS
    rfl)
  have HAT : Hid (∀ (wx : World) (p : Nat) (q : Int), Bs wx g o L zs → q = p → p + 4 ≤ L → Calls Try.prog 55 #[.slice (some ⟨g, o, none⟩) L cap, .int .i64 q] wx fun e w' => e = .returned (.int .i64 (beV zs p 4)) ∧ w' = wx) := hidden fun wx p q hbx hq hp => by subst hq; exact rat_any g o L cap p zs wx hbx hb hp hcap (by omega)
  have HSM : Hid (∀ wx, Bs wx g o L zs → Calls Try.prog 38 #[.slice (some ⟨g, o, none⟩) L cap] wx fun e w' => e = .returned (.int .u32 SV) ∧ w' = wx) := hidden fun wx hbx => by rw [← eS]; exact rsum_some g o L cap zs wx hbx hb (by omega)
  have HBV : Hid ((0 ≤ v4 ∧ v4 ≤ 4294967295) ∧ (0 ≤ v8 ∧ v8 ≤ 4294967295) ∧ (0 ≤ v12 ∧ v12 ≤ 4294967295) ∧ (0 ≤ v16 ∧ v16 ≤ 4294967295) ∧ (0 ≤ v20 ∧ v20 ≤ 4294967295) ∧ (0 ≤ v24 ∧ v24 ≤ 4294967295) ∧ (0 ≤ v28 ∧ v28 ≤ 4294967295) ∧ (0 ≤ v32 ∧ v32 ≤ 4294967295)) := hidden (by rw [← e4, ← e8, ← e12, ← e16, ← e20, ← e24, ← e28, ← e32]; exact ⟨beV_bd zs 4 hb, beV_bd zs 8 hb, beV_bd zs 12 hb, beV_bd zs 16 hb, beV_bd zs 20 hb, beV_bd zs 24 hb, beV_bd zs 28 hb, beV_bd zs 32 hb⟩)
  have HSV : Hid (0 ≤ SV ∧ SV ≤ 4294967295) := hidden (by rw [← eS]; exact sumTo_bd zs _)
  have HEQ : Hid (beV zs 4 4 = v4 ∧ beV zs 8 4 = v8 ∧ beV zs 12 4 = v12 ∧ beV zs 16 4 = v16 ∧ beV zs 20 4 = v20 ∧ beV zs 24 4 = v24 ∧ beV zs 28 4 = v28 ∧ beV zs 32 4 = v32) := hidden ⟨e4, e8, e12, e16, e20, e24, e28, e32⟩
  have HW := hidden h
  have HZ := hidden hlen
  have gL : (L : Int) ≤ 1000000 := by omega
  have gL1 : (1 : Int) ≤ (L : Int) := by omega
  clear e4 e8 e12 e16 e20 e24 e28 e32 eS hR h hlen hb
  have hb1 : Below w.heap.size w ((w.alloc (.cells #[.int .u32 0, .int .u32 0, .int .u32 0, .int .u32 0, .int .u32 0, .int .u32 0, .int .u32 0, .int .u32 0] 70)).alloc (.cells #[.int .u32 0, .int .u32 0, .int .u32 0, .int .u32 0, .int .u32 0, .int .u32 0, .int .u32 0, .int .u32 0] 70)) := ((Below.refl _ _).alloc (Nat.le_refl _) _).alloc (by simp) _
  have H2 := hidden (hd_of ((Below.refl _ _).alloc (Nat.le_refl _) (.cells #[.int .u32 0, .int .u32 0, .int .u32 0, .int .u32 0, .int .u32 0, .int .u32 0, .int .u32 0, .int .u32 0] 70)) (hd_zero w))
  have H5 := hidden (hd_zero (w.alloc (.cells #[.int .u32 0, .int .u32 0, .int .u32 0, .int .u32 0, .int .u32 0, .int .u32 0, .int .u32 0, .int .u32 0] 70)))
  rw [show (w.alloc (.cells #[.int .u32 0, .int .u32 0, .int .u32 0, .int .u32 0, .int .u32 0, .int .u32 0, .int .u32 0, .int .u32 0] 70)).heap.size = w.heap.size + 1 by simp] at H5
  go_enter Try.func39, Try.ntmps39
  go_upto_region 4 with fail
  change Code.wp _ _ _ _ ((w.alloc (.cells #[.int .u32 0, .int .u32 0, .int .u32 0, .int .u32 0, .int .u32 0, .int .u32 0, .int .u32 0, .int .u32 0] 70)).alloc (.cells #[.int .u32 0, .int .u32 0, .int .u32 0, .int .u32 0, .int .u32 0, .int .u32 0, .int .u32 0, .int .u32 0] 70))
  have HS := hidden (HW.out.later hb1)
  have HB := hidden hb1
  clear hb1 HW
  generalize (w.alloc (.cells #[.int .u32 0, .int .u32 0, .int .u32 0, .int .u32 0, .int .u32 0, .int .u32 0, .int .u32 0, .int .u32 0] 70)).alloc (.cells #[.int .u32 0, .int .u32 0, .int .u32 0, .int .u32 0, .int .u32 0, .int .u32 0, .int .u32 0, .int .u32 0] 70) = w2 at *
  generalize hB : w.heap.size = B2 at *
  go_wp2
  go_loopw [6] (fun i w' => ∃ k : Nat, k ≤ 4 ∧ k ≤ L ∧ i = .int .i64 k ∧ Hid (zs.take k = glul.take k) ∧ Below w2.heap.size w2 w') (fun i _ => 4 - (intOf i).toNat)
  case atStart => exact ⟨0, by omega, by omega, rfl, hidden rfl, Below.refl _ _⟩
  case round =>
    obtain ⟨k, hk4, hkL, rfl, hpre, hbl⟩ := hrel
    replace H2 := hidden (hd_of hbl H2.out)
    replace H5 := hidden (hd_of hbl H5.out)
    replace HS := hidden (HS.out.later hbl)
    have HBL := hidden hbl
    replace HB := hidden (HB.out.trans (hbl.mono (by have := HB.out.size; omega)))
    clear hbl
    by_cases hc4 : k < 4
    · have c1 : (k : Int) < 4 := by omega
      by_cases hcL : k < L
      · have c2 : (k : Int) < (L : Int) := by omega
        have hcell := HS.out.2 k hcL
        have hk0 : (0 : Int) ≤ (k : Int) := by omega
        by_cases hz : zs.getD k 0 = glul.getD k 0
        · have HN1 := hidden (take_snoc_eq zs k _ hc4 (by rw [HZ.out]; exact hcL) hpre.out hz rfl)
          rw [hz] at hcell
          clear hz
          obtain rfl | rfl | rfl | rfl : k = 0 ∨ k = 1 ∨ k = 2 ∨ k = 3 := by omega
          all_goals
            simp only [glul, List.getD_cons_zero, List.getD_cons_succ, Nat.add_zero] at hcell
            go_upto_region 7 with fail
            go_quiet (fail)
            go_wp2
            exact ⟨⟨_, by omega, by omega, by go_num, HN1, below_drewN HBL.out _⟩, by simp [intOf]⟩
        · have HNo := hidden (magic_no zs k hc4 (by rw [HZ.out]; exact hcL) hz)
          have hz' : (zs.getD k 0 != glul.getD k 0) = true := by simpa using hz
          clear hz
          generalize zs.getD k 0 = Z at *
          obtain rfl | rfl | rfl | rfl : k = 0 ∨ k = 1 ∨ k = 2 ∨ k = 3 := by omega
          all_goals
            try simp only [Nat.add_zero] at hcell
            first | (replace hz' : (Z != (((⟨#[71, 108, 117, 108]⟩ : ByteArray)[0]'(by decide)).toNat : Int)) = true := hz') | (replace hz' : (Z != (((⟨#[71, 108, 117, 108]⟩ : ByteArray)[1]'(by decide)).toNat : Int)) = true := hz') | (replace hz' : (Z != (((⟨#[71, 108, 117, 108]⟩ : ByteArray)[2]'(by decide)).toNat : Int)) = true := hz') | (replace hz' : (Z != (((⟨#[71, 108, 117, 108]⟩ : ByteArray)[3]'(by decide)).toNat : Int)) = true := hz')
            try (have hz3 : (Z != (((⟨#[71, 108, 117, 108]⟩ : ByteArray)[3]'(by decide)).toNat : Int)) = true := hz')
            go_upto_region 7 with fail
            go_quiet (fail)
            replace H2 := hidden (hd_of (below_drewN (Below.refl _ _) nq) H2.out)
            replace H5 := hidden (hd_of (below_drewN (Below.refl _ _) nq) H5.out)
            replace HB := hidden (below_drewN HB.out nq)
            clear hcell HS HBL
            generalize wr.drewN nq = w6 at *
            have Y2 := H2.out
            have Y5 := H5.out
            unfold HdAt hd0 at Y2 Y5
            dsimp only at Y2 Y5
            obtain ⟨k0, k1, k2, k3, k4, k5, k6, k7, f0, f1, f2, f3, f4, f5, f6, f7⟩ := Y2
            obtain ⟨l0, l1, l2, l3, l4, l5, l6, l7, -⟩ := Y5
            have hs2 : B2 < w6.heap.size := World.block_lt_of_cell? _ _ k0
            go_wp2
            change bodyPost _ _ _ _ _ (set8 w6 B2 hd0)
            have hbl := set8_below _ _ B2 hd0 HB.out (Nat.le_refl _)
            have YZ := set8_at w6 B2 _ hd0 H2.out
            generalize set8 w6 B2 hd0 = w8 at *
            unfold HdAt at YZ
            obtain ⟨r0, r1, r2, r3, r4, r5, r6, r7, -⟩ := YZ
            unfold hd0 at *
            refine bodyPost_ret (v := .tuple #[.agg #[.int .u32 0, .int .u32 0, .int .u32 0, .int .u32 0, .int .u32 0, .int .u32 0, .int .u32 0, .int .u32 0], .int .i64 63, .int .i64 0]) (by simp [results, Try.results39, go_sem, r0, r1, r2, r3, r4, r5, r6, r7]) rfl ⟨?_, (by first | exact hbl | (rw [hB]; exact hbl))⟩
            rw [HR.out, if_pos HNo.out]; try rfl
      · have c2 : (L : Int) ≤ (k : Int) := by omega
        have HMt := hidden (magic_yes zs k (by right; rw [HZ.out]; omega) hk4 (by rw [HZ.out]; exact hkL) hpre.out)
        have h36 : L < 36 := by omega
        have c3 : (L : Int) < 36 := by omega
        have Y2 := H2.out
        have Y5 := H5.out
        unfold HdAt hd0 at Y2 Y5
        dsimp only at Y2 Y5
        obtain ⟨k0, k1, k2, k3, k4, k5, k6, k7, f0, f1, f2, f3, f4, f5, f6, f7⟩ := Y2
        obtain ⟨l0, l1, l2, l3, l4, l5, l6, l7, -⟩ := Y5
        have hs2 : B2 < wr.heap.size := World.block_lt_of_cell? _ _ k0
        go_wp2
        change bodyPost _ _ _ _ _ (set8 wr B2 hd0)
        have hbl := set8_below _ _ B2 hd0 HB.out (Nat.le_refl _)
        have YZ := set8_at wr B2 _ hd0 H2.out
        generalize set8 wr B2 hd0 = w8 at *
        unfold HdAt at YZ
        obtain ⟨r0, r1, r2, r3, r4, r5, r6, r7, -⟩ := YZ
        unfold hd0 at *
        refine bodyPost_ret (v := .tuple #[.agg #[.int .u32 0, .int .u32 0, .int .u32 0, .int .u32 0, .int .u32 0, .int .u32 0, .int .u32 0, .int .u32 0], .int .i64 2, .int .i64 (L : Int)]) (by simp [results, Try.results39, go_sem, r0, r1, r2, r3, r4, r5, r6, r7]) rfl ⟨?_, (by first | exact hbl | (rw [hB]; exact hbl))⟩
        rw [HR.out, if_neg (not_not_intro HMt.out), if_pos h36]; try rfl
    · obtain rfl : k = 4 := by omega
      have HMt := hidden (magic_yes zs 4 (by left; rfl) hk4 (by rw [HZ.out]; exact hkL) hpre.out)
      have c2 : (4 : Int) ≤ (L : Int) := by omega
      clear hpre HBL
      by_cases h36 : L < 36
      · have c3 : (L : Int) < 36 := by omega
        have Y2 := H2.out
        have Y5 := H5.out
        unfold HdAt hd0 at Y2 Y5
        dsimp only at Y2 Y5
        obtain ⟨k0, k1, k2, k3, k4, k5, k6, k7, f0, f1, f2, f3, f4, f5, f6, f7⟩ := Y2
        obtain ⟨l0, l1, l2, l3, l4, l5, l6, l7, -⟩ := Y5
        have hs2 : B2 < wr.heap.size := World.block_lt_of_cell? _ _ k0
        go_wp2
        change bodyPost _ _ _ _ _ (set8 wr B2 hd0)
        have hbl := set8_below _ _ B2 hd0 HB.out (Nat.le_refl _)
        have YZ := set8_at wr B2 _ hd0 H2.out
        generalize set8 wr B2 hd0 = w8 at *
        unfold HdAt at YZ
        obtain ⟨r0, r1, r2, r3, r4, r5, r6, r7, -⟩ := YZ
        unfold hd0 at *
        refine bodyPost_ret (v := .tuple #[.agg #[.int .u32 0, .int .u32 0, .int .u32 0, .int .u32 0, .int .u32 0, .int .u32 0, .int .u32 0, .int .u32 0], .int .i64 2, .int .i64 (L : Int)]) (by simp [results, Try.results39, go_sem, r0, r1, r2, r3, r4, r5, r6, r7]) rfl ⟨?_, (by first | exact hbl | (rw [hB]; exact hbl))⟩
        rw [HR.out, if_neg (not_not_intro HMt.out), if_pos h36]; try rfl
      · have c3 : (36 : Int) ≤ (L : Int) := by omega
        obtain ⟨x4, x8, x12, x16, x20, x24, x28, x32⟩ := HEQ.out
        have A4 := hidden (HAT.out wr 4 4 HS.out rfl (by omega))
        rw [x4] at A4
        have A8 := hidden (HAT.out wr 8 8 HS.out rfl (by omega))
        rw [x8] at A8
        have A12 := hidden (HAT.out wr 12 12 HS.out rfl (by omega))
        rw [x12] at A12
        have A16 := hidden (HAT.out wr 16 16 HS.out rfl (by omega))
        rw [x16] at A16
        have A20 := hidden (HAT.out wr 20 20 HS.out rfl (by omega))
        rw [x20] at A20
        have A24 := hidden (HAT.out wr 24 24 HS.out rfl (by omega))
        rw [x24] at A24
        have A28 := hidden (HAT.out wr 28 28 HS.out rfl (by omega))
        rw [x28] at A28
        have A32 := hidden (HAT.out wr 32 32 HS.out rfl (by omega))
        rw [x32] at A32
        have HSn := hidden (HSM.out wr HS.out)
        clear x4 x8 x12 x16 x20 x24 x28 x32 HEQ HAT HSM HZ HS
        go_upto_region 13 with (first | (go_at_call 55; (with_reducible refine A4.out.mono ?_); rintro e w9 ⟨rfl, hw⟩; obtain rfl := hw.symm) | (go_at_call 55; (with_reducible refine A8.out.mono ?_); rintro e w9 ⟨rfl, hw⟩; obtain rfl := hw.symm) | (go_at_call 55; (with_reducible refine A12.out.mono ?_); rintro e w9 ⟨rfl, hw⟩; obtain rfl := hw.symm) | (go_at_call 55; (with_reducible refine A16.out.mono ?_); rintro e w9 ⟨rfl, hw⟩; obtain rfl := hw.symm) | (go_at_call 55; (with_reducible refine A20.out.mono ?_); rintro e w9 ⟨rfl, hw⟩; obtain rfl := hw.symm) | (go_at_call 55; (with_reducible refine A24.out.mono ?_); rintro e w9 ⟨rfl, hw⟩; obtain rfl := hw.symm) | (go_at_call 55; (with_reducible refine A28.out.mono ?_); rintro e w9 ⟨rfl, hw⟩; obtain rfl := hw.symm) | (go_at_call 55; (with_reducible refine A32.out.mono ?_); rintro e w9 ⟨rfl, hw⟩; obtain rfl := hw.symm) | fail)
        clear A4 A8 A12 A16 A20 A24 A28 A32
        by_cases d0 : v4 < 131072
        · have ER : Hid (numR v4 v8 v12 v16 v20 v24 v28 L = (70, 4)) := hidden (by unfold numR; rw [if_pos (show v4 < 131072 ∨ 197119 < v4 from .inl d0)])
          clear HSn
          go_upto_region 14 with fail
          have Y2 := H2.out
          have Y5 := H5.out
          unfold HdAt hd0 at Y2 Y5
          dsimp only at Y2 Y5
          obtain ⟨k0, k1, k2, k3, k4, k5, k6, k7, f0, f1, f2, f3, f4, f5, f6, f7⟩ := Y2
          obtain ⟨l0, l1, l2, l3, l4, l5, l6, l7, -⟩ := Y5
          have hs2 : B2 < wr.heap.size := World.block_lt_of_cell? _ _ k0
          go_wp2
          change bodyPost _ _ _ _ _ (set8 wr B2 hd0)
          have hbl := set8_below _ _ B2 hd0 HB.out (Nat.le_refl _)
          have YZ := set8_at wr B2 _ hd0 H2.out
          generalize set8 wr B2 hd0 = w8 at *
          unfold HdAt at YZ
          obtain ⟨r0, r1, r2, r3, r4, r5, r6, r7, -⟩ := YZ
          unfold hd0 at *
          refine bodyPost_ret (v := .tuple #[.agg #[.int .u32 0, .int .u32 0, .int .u32 0, .int .u32 0, .int .u32 0, .int .u32 0, .int .u32 0, .int .u32 0], .int .i64 70, .int .i64 4]) (by simp [results, Try.results39, go_sem, r0, r1, r2, r3, r4, r5, r6, r7]) rfl ⟨?_, (by first | exact hbl | (rw [hB]; exact hbl))⟩
          rw [HR.out, if_neg (not_not_intro HMt.out), if_neg h36, ER.out, if_pos (show ¬ (70 : Int) = 0 by decide)]; try rfl
        have u0 : 131072 ≤ v4 := by omega
        by_cases d1 : 197119 < v4
        · have ER : Hid (numR v4 v8 v12 v16 v20 v24 v28 L = (70, 4)) := hidden (by unfold numR; rw [if_pos (show v4 < 131072 ∨ 197119 < v4 from .inr d1)])
          clear HSn
          go_upto_region 14 with fail
          have Y2 := H2.out
          have Y5 := H5.out
          unfold HdAt hd0 at Y2 Y5
          dsimp only at Y2 Y5
          obtain ⟨k0, k1, k2, k3, k4, k5, k6, k7, f0, f1, f2, f3, f4, f5, f6, f7⟩ := Y2
          obtain ⟨l0, l1, l2, l3, l4, l5, l6, l7, -⟩ := Y5
          have hs2 : B2 < wr.heap.size := World.block_lt_of_cell? _ _ k0
          go_wp2
          change bodyPost _ _ _ _ _ (set8 wr B2 hd0)
          have hbl := set8_below _ _ B2 hd0 HB.out (Nat.le_refl _)
          have YZ := set8_at wr B2 _ hd0 H2.out
          generalize set8 wr B2 hd0 = w8 at *
          unfold HdAt at YZ
          obtain ⟨r0, r1, r2, r3, r4, r5, r6, r7, -⟩ := YZ
          unfold hd0 at *
          refine bodyPost_ret (v := .tuple #[.agg #[.int .u32 0, .int .u32 0, .int .u32 0, .int .u32 0, .int .u32 0, .int .u32 0, .int .u32 0, .int .u32 0], .int .i64 70, .int .i64 4]) (by simp [results, Try.results39, go_sem, r0, r1, r2, r3, r4, r5, r6, r7]) rfl ⟨?_, (by first | exact hbl | (rw [hB]; exact hbl))⟩
          rw [HR.out, if_neg (not_not_intro HMt.out), if_neg h36, ER.out, if_pos (show ¬ (70 : Int) = 0 by decide)]; try rfl
        have u1 : v4 ≤ 197119 := by omega
        have DD1 : Hid (¬ (v4 < 131072 ∨ 197119 < v4)) := hidden (by omega)
        go_upto_region 15 with fail
        clear u0 d0 u1 d1
        by_cases d2 : v8 < 256
        · have ER : Hid (numR v4 v8 v12 v16 v20 v24 v28 L = (71, 8)) := hidden (by unfold numR; rw [if_neg DD1.out, if_pos (show v8 < 256 ∨ v8 % 256 ≠ 0 from .inl d2)])
          clear HSn
          go_upto_region 16 with fail
          have Y2 := H2.out
          have Y5 := H5.out
          unfold HdAt hd0 at Y2 Y5
          dsimp only at Y2 Y5
          obtain ⟨k0, k1, k2, k3, k4, k5, k6, k7, f0, f1, f2, f3, f4, f5, f6, f7⟩ := Y2
          obtain ⟨l0, l1, l2, l3, l4, l5, l6, l7, -⟩ := Y5
          have hs2 : B2 < wr.heap.size := World.block_lt_of_cell? _ _ k0
          go_wp2
          change bodyPost _ _ _ _ _ (set8 wr B2 hd0)
          have hbl := set8_below _ _ B2 hd0 HB.out (Nat.le_refl _)
          have YZ := set8_at wr B2 _ hd0 H2.out
          generalize set8 wr B2 hd0 = w8 at *
          unfold HdAt at YZ
          obtain ⟨r0, r1, r2, r3, r4, r5, r6, r7, -⟩ := YZ
          unfold hd0 at *
          refine bodyPost_ret (v := .tuple #[.agg #[.int .u32 0, .int .u32 0, .int .u32 0, .int .u32 0, .int .u32 0, .int .u32 0, .int .u32 0, .int .u32 0], .int .i64 71, .int .i64 8]) (by simp [results, Try.results39, go_sem, r0, r1, r2, r3, r4, r5, r6, r7]) rfl ⟨?_, (by first | exact hbl | (rw [hB]; exact hbl))⟩
          rw [HR.out, if_neg (not_not_intro HMt.out), if_neg h36, ER.out, if_pos (show ¬ (71 : Int) = 0 by decide)]; try rfl
        have u2 : 256 ≤ v8 := by omega
        by_cases d3 : v8 % 256 ≠ 0
        · have ER : Hid (numR v4 v8 v12 v16 v20 v24 v28 L = (71, 8)) := hidden (by unfold numR; rw [if_neg DD1.out, if_pos (show v8 < 256 ∨ v8 % 256 ≠ 0 from .inr d3)])
          have u3 : (v8 % 256 != 0) = true := by simpa using d3
          have t3 : (v8.tmod 256 != 0) = true := by rw [Int.tmod_eq_emod_of_nonneg HBV.out.2.1.1]; exact u3
          clear HSn
          go_upto_region 16 with fail
          have Y2 := H2.out
          have Y5 := H5.out
          unfold HdAt hd0 at Y2 Y5
          dsimp only at Y2 Y5
          obtain ⟨k0, k1, k2, k3, k4, k5, k6, k7, f0, f1, f2, f3, f4, f5, f6, f7⟩ := Y2
          obtain ⟨l0, l1, l2, l3, l4, l5, l6, l7, -⟩ := Y5
          have hs2 : B2 < wr.heap.size := World.block_lt_of_cell? _ _ k0
          go_wp2
          change bodyPost _ _ _ _ _ (set8 wr B2 hd0)
          have hbl := set8_below _ _ B2 hd0 HB.out (Nat.le_refl _)
          have YZ := set8_at wr B2 _ hd0 H2.out
          generalize set8 wr B2 hd0 = w8 at *
          unfold HdAt at YZ
          obtain ⟨r0, r1, r2, r3, r4, r5, r6, r7, -⟩ := YZ
          unfold hd0 at *
          refine bodyPost_ret (v := .tuple #[.agg #[.int .u32 0, .int .u32 0, .int .u32 0, .int .u32 0, .int .u32 0, .int .u32 0, .int .u32 0, .int .u32 0], .int .i64 71, .int .i64 8]) (by simp [results, Try.results39, go_sem, r0, r1, r2, r3, r4, r5, r6, r7]) rfl ⟨?_, (by first | exact hbl | (rw [hB]; exact hbl))⟩
          rw [HR.out, if_neg (not_not_intro HMt.out), if_neg h36, ER.out, if_pos (show ¬ (71 : Int) = 0 by decide)]; try rfl
        have u3 : (v8 % 256 != 0) = false := by simpa using d3
        have t3 : (v8.tmod 256 != 0) = false := by rw [Int.tmod_eq_emod_of_nonneg HBV.out.2.1.1]; exact u3
        have DD2 : Hid (¬ (v8 < 256 ∨ v8 % 256 ≠ 0)) := hidden (by omega)
        go_upto_region 17 with fail
        clear u2 d2 u3 t3 d3
        by_cases d4 : v12 < v8
        · have ER : Hid (numR v4 v8 v12 v16 v20 v24 v28 L = (71, 12)) := hidden (by unfold numR; rw [if_neg DD1.out, if_neg DD2.out, if_pos (show v12 < v8 ∨ v12 ≠ L ∨ v12 % 256 ≠ 0 from .inl d4)])
          clear HSn
          go_upto_region 18 with fail
          have Y2 := H2.out
          have Y5 := H5.out
          unfold HdAt hd0 at Y2 Y5
          dsimp only at Y2 Y5
          obtain ⟨k0, k1, k2, k3, k4, k5, k6, k7, f0, f1, f2, f3, f4, f5, f6, f7⟩ := Y2
          obtain ⟨l0, l1, l2, l3, l4, l5, l6, l7, -⟩ := Y5
          have hs2 : B2 < wr.heap.size := World.block_lt_of_cell? _ _ k0
          go_wp2
          change bodyPost _ _ _ _ _ (set8 wr B2 hd0)
          have hbl := set8_below _ _ B2 hd0 HB.out (Nat.le_refl _)
          have YZ := set8_at wr B2 _ hd0 H2.out
          generalize set8 wr B2 hd0 = w8 at *
          unfold HdAt at YZ
          obtain ⟨r0, r1, r2, r3, r4, r5, r6, r7, -⟩ := YZ
          unfold hd0 at *
          refine bodyPost_ret (v := .tuple #[.agg #[.int .u32 0, .int .u32 0, .int .u32 0, .int .u32 0, .int .u32 0, .int .u32 0, .int .u32 0, .int .u32 0], .int .i64 71, .int .i64 12]) (by simp [results, Try.results39, go_sem, r0, r1, r2, r3, r4, r5, r6, r7]) rfl ⟨?_, (by first | exact hbl | (rw [hB]; exact hbl))⟩
          rw [HR.out, if_neg (not_not_intro HMt.out), if_neg h36, ER.out, if_pos (show ¬ (71 : Int) = 0 by decide)]; try rfl
        have u4 : v8 ≤ v12 := by omega
        by_cases d5 : v12 ≠ L
        · have ER : Hid (numR v4 v8 v12 v16 v20 v24 v28 L = (71, 12)) := hidden (by unfold numR; rw [if_neg DD1.out, if_neg DD2.out, if_pos (show v12 < v8 ∨ v12 ≠ L ∨ v12 % 256 ≠ 0 from .inr (.inl d5))])
          have u5 : (v12 != (L : Int)) = true := by simpa using d5
          clear HSn
          go_upto_region 18 with fail
          have Y2 := H2.out
          have Y5 := H5.out
          unfold HdAt hd0 at Y2 Y5
          dsimp only at Y2 Y5
          obtain ⟨k0, k1, k2, k3, k4, k5, k6, k7, f0, f1, f2, f3, f4, f5, f6, f7⟩ := Y2
          obtain ⟨l0, l1, l2, l3, l4, l5, l6, l7, -⟩ := Y5
          have hs2 : B2 < wr.heap.size := World.block_lt_of_cell? _ _ k0
          go_wp2
          change bodyPost _ _ _ _ _ (set8 wr B2 hd0)
          have hbl := set8_below _ _ B2 hd0 HB.out (Nat.le_refl _)
          have YZ := set8_at wr B2 _ hd0 H2.out
          generalize set8 wr B2 hd0 = w8 at *
          unfold HdAt at YZ
          obtain ⟨r0, r1, r2, r3, r4, r5, r6, r7, -⟩ := YZ
          unfold hd0 at *
          refine bodyPost_ret (v := .tuple #[.agg #[.int .u32 0, .int .u32 0, .int .u32 0, .int .u32 0, .int .u32 0, .int .u32 0, .int .u32 0, .int .u32 0], .int .i64 71, .int .i64 12]) (by simp [results, Try.results39, go_sem, r0, r1, r2, r3, r4, r5, r6, r7]) rfl ⟨?_, (by first | exact hbl | (rw [hB]; exact hbl))⟩
          rw [HR.out, if_neg (not_not_intro HMt.out), if_neg h36, ER.out, if_pos (show ¬ (71 : Int) = 0 by decide)]; try rfl
        have u5 : (v12 != (L : Int)) = false := by simpa using d5
        by_cases d6 : v12 % 256 ≠ 0
        · have ER : Hid (numR v4 v8 v12 v16 v20 v24 v28 L = (71, 12)) := hidden (by unfold numR; rw [if_neg DD1.out, if_neg DD2.out, if_pos (show v12 < v8 ∨ v12 ≠ L ∨ v12 % 256 ≠ 0 from .inr (.inr d6))])
          have u6 : (v12 % 256 != 0) = true := by simpa using d6
          have t6 : (v12.tmod 256 != 0) = true := by rw [Int.tmod_eq_emod_of_nonneg HBV.out.2.2.1.1]; exact u6
          clear HSn
          go_upto_region 18 with fail
          have Y2 := H2.out
          have Y5 := H5.out
          unfold HdAt hd0 at Y2 Y5
          dsimp only at Y2 Y5
          obtain ⟨k0, k1, k2, k3, k4, k5, k6, k7, f0, f1, f2, f3, f4, f5, f6, f7⟩ := Y2
          obtain ⟨l0, l1, l2, l3, l4, l5, l6, l7, -⟩ := Y5
          have hs2 : B2 < wr.heap.size := World.block_lt_of_cell? _ _ k0
          go_wp2
          change bodyPost _ _ _ _ _ (set8 wr B2 hd0)
          have hbl := set8_below _ _ B2 hd0 HB.out (Nat.le_refl _)
          have YZ := set8_at wr B2 _ hd0 H2.out
          generalize set8 wr B2 hd0 = w8 at *
          unfold HdAt at YZ
          obtain ⟨r0, r1, r2, r3, r4, r5, r6, r7, -⟩ := YZ
          unfold hd0 at *
          refine bodyPost_ret (v := .tuple #[.agg #[.int .u32 0, .int .u32 0, .int .u32 0, .int .u32 0, .int .u32 0, .int .u32 0, .int .u32 0, .int .u32 0], .int .i64 71, .int .i64 12]) (by simp [results, Try.results39, go_sem, r0, r1, r2, r3, r4, r5, r6, r7]) rfl ⟨?_, (by first | exact hbl | (rw [hB]; exact hbl))⟩
          rw [HR.out, if_neg (not_not_intro HMt.out), if_neg h36, ER.out, if_pos (show ¬ (71 : Int) = 0 by decide)]; try rfl
        have u6 : (v12 % 256 != 0) = false := by simpa using d6
        have t6 : (v12.tmod 256 != 0) = false := by rw [Int.tmod_eq_emod_of_nonneg HBV.out.2.2.1.1]; exact u6
        have DD3 : Hid (¬ (v12 < v8 ∨ v12 ≠ L ∨ v12 % 256 ≠ 0)) := hidden (by omega)
        go_upto_region 19 with fail
        clear u4 d4 u5 d5 u6 t6 d6
        by_cases d7 : v16 < v12
        · have ER : Hid (numR v4 v8 v12 v16 v20 v24 v28 L = (71, 16)) := hidden (by unfold numR; rw [if_neg DD1.out, if_neg DD2.out, if_neg DD3.out, if_pos (show v16 < v12 ∨ 1048576 < v16 ∨ v16 % 256 ≠ 0 from .inl d7)])
          clear HSn
          go_upto_region 20 with fail
          have Y2 := H2.out
          have Y5 := H5.out
          unfold HdAt hd0 at Y2 Y5
          dsimp only at Y2 Y5
          obtain ⟨k0, k1, k2, k3, k4, k5, k6, k7, f0, f1, f2, f3, f4, f5, f6, f7⟩ := Y2
          obtain ⟨l0, l1, l2, l3, l4, l5, l6, l7, -⟩ := Y5
          have hs2 : B2 < wr.heap.size := World.block_lt_of_cell? _ _ k0
          go_wp2
          change bodyPost _ _ _ _ _ (set8 wr B2 hd0)
          have hbl := set8_below _ _ B2 hd0 HB.out (Nat.le_refl _)
          have YZ := set8_at wr B2 _ hd0 H2.out
          generalize set8 wr B2 hd0 = w8 at *
          unfold HdAt at YZ
          obtain ⟨r0, r1, r2, r3, r4, r5, r6, r7, -⟩ := YZ
          unfold hd0 at *
          refine bodyPost_ret (v := .tuple #[.agg #[.int .u32 0, .int .u32 0, .int .u32 0, .int .u32 0, .int .u32 0, .int .u32 0, .int .u32 0, .int .u32 0], .int .i64 71, .int .i64 16]) (by simp [results, Try.results39, go_sem, r0, r1, r2, r3, r4, r5, r6, r7]) rfl ⟨?_, (by first | exact hbl | (rw [hB]; exact hbl))⟩
          rw [HR.out, if_neg (not_not_intro HMt.out), if_neg h36, ER.out, if_pos (show ¬ (71 : Int) = 0 by decide)]; try rfl
        have u7 : v12 ≤ v16 := by omega
        by_cases d8 : 1048576 < v16
        · have ER : Hid (numR v4 v8 v12 v16 v20 v24 v28 L = (71, 16)) := hidden (by unfold numR; rw [if_neg DD1.out, if_neg DD2.out, if_neg DD3.out, if_pos (show v16 < v12 ∨ 1048576 < v16 ∨ v16 % 256 ≠ 0 from .inr (.inl d8))])
          clear HSn
          go_upto_region 20 with fail
          have Y2 := H2.out
          have Y5 := H5.out
          unfold HdAt hd0 at Y2 Y5
          dsimp only at Y2 Y5
          obtain ⟨k0, k1, k2, k3, k4, k5, k6, k7, f0, f1, f2, f3, f4, f5, f6, f7⟩ := Y2
          obtain ⟨l0, l1, l2, l3, l4, l5, l6, l7, -⟩ := Y5
          have hs2 : B2 < wr.heap.size := World.block_lt_of_cell? _ _ k0
          go_wp2
          change bodyPost _ _ _ _ _ (set8 wr B2 hd0)
          have hbl := set8_below _ _ B2 hd0 HB.out (Nat.le_refl _)
          have YZ := set8_at wr B2 _ hd0 H2.out
          generalize set8 wr B2 hd0 = w8 at *
          unfold HdAt at YZ
          obtain ⟨r0, r1, r2, r3, r4, r5, r6, r7, -⟩ := YZ
          unfold hd0 at *
          refine bodyPost_ret (v := .tuple #[.agg #[.int .u32 0, .int .u32 0, .int .u32 0, .int .u32 0, .int .u32 0, .int .u32 0, .int .u32 0, .int .u32 0], .int .i64 71, .int .i64 16]) (by simp [results, Try.results39, go_sem, r0, r1, r2, r3, r4, r5, r6, r7]) rfl ⟨?_, (by first | exact hbl | (rw [hB]; exact hbl))⟩
          rw [HR.out, if_neg (not_not_intro HMt.out), if_neg h36, ER.out, if_pos (show ¬ (71 : Int) = 0 by decide)]; try rfl
        have u8 : v16 ≤ 1048576 := by omega
        by_cases d9 : v16 % 256 ≠ 0
        · have ER : Hid (numR v4 v8 v12 v16 v20 v24 v28 L = (71, 16)) := hidden (by unfold numR; rw [if_neg DD1.out, if_neg DD2.out, if_neg DD3.out, if_pos (show v16 < v12 ∨ 1048576 < v16 ∨ v16 % 256 ≠ 0 from .inr (.inr d9))])
          have u9 : (v16 % 256 != 0) = true := by simpa using d9
          have t9 : (v16.tmod 256 != 0) = true := by rw [Int.tmod_eq_emod_of_nonneg HBV.out.2.2.2.1.1]; exact u9
          clear HSn
          go_upto_region 20 with fail
          have Y2 := H2.out
          have Y5 := H5.out
          unfold HdAt hd0 at Y2 Y5
          dsimp only at Y2 Y5
          obtain ⟨k0, k1, k2, k3, k4, k5, k6, k7, f0, f1, f2, f3, f4, f5, f6, f7⟩ := Y2
          obtain ⟨l0, l1, l2, l3, l4, l5, l6, l7, -⟩ := Y5
          have hs2 : B2 < wr.heap.size := World.block_lt_of_cell? _ _ k0
          go_wp2
          change bodyPost _ _ _ _ _ (set8 wr B2 hd0)
          have hbl := set8_below _ _ B2 hd0 HB.out (Nat.le_refl _)
          have YZ := set8_at wr B2 _ hd0 H2.out
          generalize set8 wr B2 hd0 = w8 at *
          unfold HdAt at YZ
          obtain ⟨r0, r1, r2, r3, r4, r5, r6, r7, -⟩ := YZ
          unfold hd0 at *
          refine bodyPost_ret (v := .tuple #[.agg #[.int .u32 0, .int .u32 0, .int .u32 0, .int .u32 0, .int .u32 0, .int .u32 0, .int .u32 0, .int .u32 0], .int .i64 71, .int .i64 16]) (by simp [results, Try.results39, go_sem, r0, r1, r2, r3, r4, r5, r6, r7]) rfl ⟨?_, (by first | exact hbl | (rw [hB]; exact hbl))⟩
          rw [HR.out, if_neg (not_not_intro HMt.out), if_neg h36, ER.out, if_pos (show ¬ (71 : Int) = 0 by decide)]; try rfl
        have u9 : (v16 % 256 != 0) = false := by simpa using d9
        have t9 : (v16.tmod 256 != 0) = false := by rw [Int.tmod_eq_emod_of_nonneg HBV.out.2.2.2.1.1]; exact u9
        have DD4 : Hid (¬ (v16 < v12 ∨ 1048576 < v16 ∨ v16 % 256 ≠ 0)) := hidden (by omega)
        go_upto_region 21 with fail
        clear u7 d7 u8 d8 u9 t9 d9
        by_cases d10 : v20 = 0
        · have ER : Hid (numR v4 v8 v12 v16 v20 v24 v28 L = (72, 20)) := hidden (by unfold numR; rw [if_neg DD1.out, if_neg DD2.out, if_neg DD3.out, if_neg DD4.out, if_pos (show v20 = 0 ∨ 65536 < v20 ∨ v20 % 256 ≠ 0 from .inl d10)])
          have u10 : (v20 == 0) = true := by simpa using d10
          clear HSn
          go_upto_region 22 with fail
          have Y2 := H2.out
          have Y5 := H5.out
          unfold HdAt hd0 at Y2 Y5
          dsimp only at Y2 Y5
          obtain ⟨k0, k1, k2, k3, k4, k5, k6, k7, f0, f1, f2, f3, f4, f5, f6, f7⟩ := Y2
          obtain ⟨l0, l1, l2, l3, l4, l5, l6, l7, -⟩ := Y5
          have hs2 : B2 < wr.heap.size := World.block_lt_of_cell? _ _ k0
          go_wp2
          change bodyPost _ _ _ _ _ (set8 wr B2 hd0)
          have hbl := set8_below _ _ B2 hd0 HB.out (Nat.le_refl _)
          have YZ := set8_at wr B2 _ hd0 H2.out
          generalize set8 wr B2 hd0 = w8 at *
          unfold HdAt at YZ
          obtain ⟨r0, r1, r2, r3, r4, r5, r6, r7, -⟩ := YZ
          unfold hd0 at *
          refine bodyPost_ret (v := .tuple #[.agg #[.int .u32 0, .int .u32 0, .int .u32 0, .int .u32 0, .int .u32 0, .int .u32 0, .int .u32 0, .int .u32 0], .int .i64 72, .int .i64 20]) (by simp [results, Try.results39, go_sem, r0, r1, r2, r3, r4, r5, r6, r7]) rfl ⟨?_, (by first | exact hbl | (rw [hB]; exact hbl))⟩
          rw [HR.out, if_neg (not_not_intro HMt.out), if_neg h36, ER.out, if_pos (show ¬ (72 : Int) = 0 by decide)]; try rfl
        have u10 : (v20 == 0) = false := by simpa using d10
        by_cases d11 : 65536 < v20
        · have ER : Hid (numR v4 v8 v12 v16 v20 v24 v28 L = (72, 20)) := hidden (by unfold numR; rw [if_neg DD1.out, if_neg DD2.out, if_neg DD3.out, if_neg DD4.out, if_pos (show v20 = 0 ∨ 65536 < v20 ∨ v20 % 256 ≠ 0 from .inr (.inl d11))])
          clear HSn
          go_upto_region 22 with fail
          have Y2 := H2.out
          have Y5 := H5.out
          unfold HdAt hd0 at Y2 Y5
          dsimp only at Y2 Y5
          obtain ⟨k0, k1, k2, k3, k4, k5, k6, k7, f0, f1, f2, f3, f4, f5, f6, f7⟩ := Y2
          obtain ⟨l0, l1, l2, l3, l4, l5, l6, l7, -⟩ := Y5
          have hs2 : B2 < wr.heap.size := World.block_lt_of_cell? _ _ k0
          go_wp2
          change bodyPost _ _ _ _ _ (set8 wr B2 hd0)
          have hbl := set8_below _ _ B2 hd0 HB.out (Nat.le_refl _)
          have YZ := set8_at wr B2 _ hd0 H2.out
          generalize set8 wr B2 hd0 = w8 at *
          unfold HdAt at YZ
          obtain ⟨r0, r1, r2, r3, r4, r5, r6, r7, -⟩ := YZ
          unfold hd0 at *
          refine bodyPost_ret (v := .tuple #[.agg #[.int .u32 0, .int .u32 0, .int .u32 0, .int .u32 0, .int .u32 0, .int .u32 0, .int .u32 0, .int .u32 0], .int .i64 72, .int .i64 20]) (by simp [results, Try.results39, go_sem, r0, r1, r2, r3, r4, r5, r6, r7]) rfl ⟨?_, (by first | exact hbl | (rw [hB]; exact hbl))⟩
          rw [HR.out, if_neg (not_not_intro HMt.out), if_neg h36, ER.out, if_pos (show ¬ (72 : Int) = 0 by decide)]; try rfl
        have u11 : v20 ≤ 65536 := by omega
        by_cases d12 : v20 % 256 ≠ 0
        · have ER : Hid (numR v4 v8 v12 v16 v20 v24 v28 L = (72, 20)) := hidden (by unfold numR; rw [if_neg DD1.out, if_neg DD2.out, if_neg DD3.out, if_neg DD4.out, if_pos (show v20 = 0 ∨ 65536 < v20 ∨ v20 % 256 ≠ 0 from .inr (.inr d12))])
          have u12 : (v20 % 256 != 0) = true := by simpa using d12
          have t12 : (v20.tmod 256 != 0) = true := by rw [Int.tmod_eq_emod_of_nonneg HBV.out.2.2.2.2.1.1]; exact u12
          clear HSn
          go_upto_region 22 with fail
          have Y2 := H2.out
          have Y5 := H5.out
          unfold HdAt hd0 at Y2 Y5
          dsimp only at Y2 Y5
          obtain ⟨k0, k1, k2, k3, k4, k5, k6, k7, f0, f1, f2, f3, f4, f5, f6, f7⟩ := Y2
          obtain ⟨l0, l1, l2, l3, l4, l5, l6, l7, -⟩ := Y5
          have hs2 : B2 < wr.heap.size := World.block_lt_of_cell? _ _ k0
          go_wp2
          change bodyPost _ _ _ _ _ (set8 wr B2 hd0)
          have hbl := set8_below _ _ B2 hd0 HB.out (Nat.le_refl _)
          have YZ := set8_at wr B2 _ hd0 H2.out
          generalize set8 wr B2 hd0 = w8 at *
          unfold HdAt at YZ
          obtain ⟨r0, r1, r2, r3, r4, r5, r6, r7, -⟩ := YZ
          unfold hd0 at *
          refine bodyPost_ret (v := .tuple #[.agg #[.int .u32 0, .int .u32 0, .int .u32 0, .int .u32 0, .int .u32 0, .int .u32 0, .int .u32 0, .int .u32 0], .int .i64 72, .int .i64 20]) (by simp [results, Try.results39, go_sem, r0, r1, r2, r3, r4, r5, r6, r7]) rfl ⟨?_, (by first | exact hbl | (rw [hB]; exact hbl))⟩
          rw [HR.out, if_neg (not_not_intro HMt.out), if_neg h36, ER.out, if_pos (show ¬ (72 : Int) = 0 by decide)]; try rfl
        have u12 : (v20 % 256 != 0) = false := by simpa using d12
        have t12 : (v20.tmod 256 != 0) = false := by rw [Int.tmod_eq_emod_of_nonneg HBV.out.2.2.2.2.1.1]; exact u12
        have DD5 : Hid (¬ (v20 = 0 ∨ 65536 < v20 ∨ v20 % 256 ≠ 0)) := hidden (by omega)
        go_upto_region 23 with fail
        clear u10 d10 u11 d11 u12 t12 d12
        by_cases d13 : v24 < 36
        · have ER : Hid (numR v4 v8 v12 v16 v20 v24 v28 L = (71, 24)) := hidden (by unfold numR; rw [if_neg DD1.out, if_neg DD2.out, if_neg DD3.out, if_neg DD4.out, if_neg DD5.out, if_pos (show v24 < 36 ∨ v16 ≤ v24 from .inl d13)])
          clear HSn
          go_upto_region 24 with fail
          have Y2 := H2.out
          have Y5 := H5.out
          unfold HdAt hd0 at Y2 Y5
          dsimp only at Y2 Y5
          obtain ⟨k0, k1, k2, k3, k4, k5, k6, k7, f0, f1, f2, f3, f4, f5, f6, f7⟩ := Y2
          obtain ⟨l0, l1, l2, l3, l4, l5, l6, l7, -⟩ := Y5
          have hs2 : B2 < wr.heap.size := World.block_lt_of_cell? _ _ k0
          go_wp2
          change bodyPost _ _ _ _ _ (set8 wr B2 hd0)
          have hbl := set8_below _ _ B2 hd0 HB.out (Nat.le_refl _)
          have YZ := set8_at wr B2 _ hd0 H2.out
          generalize set8 wr B2 hd0 = w8 at *
          unfold HdAt at YZ
          obtain ⟨r0, r1, r2, r3, r4, r5, r6, r7, -⟩ := YZ
          unfold hd0 at *
          refine bodyPost_ret (v := .tuple #[.agg #[.int .u32 0, .int .u32 0, .int .u32 0, .int .u32 0, .int .u32 0, .int .u32 0, .int .u32 0, .int .u32 0], .int .i64 71, .int .i64 24]) (by simp [results, Try.results39, go_sem, r0, r1, r2, r3, r4, r5, r6, r7]) rfl ⟨?_, (by first | exact hbl | (rw [hB]; exact hbl))⟩
          rw [HR.out, if_neg (not_not_intro HMt.out), if_neg h36, ER.out, if_pos (show ¬ (71 : Int) = 0 by decide)]; try rfl
        have u13 : 36 ≤ v24 := by omega
        by_cases d14 : v16 ≤ v24
        · have ER : Hid (numR v4 v8 v12 v16 v20 v24 v28 L = (71, 24)) := hidden (by unfold numR; rw [if_neg DD1.out, if_neg DD2.out, if_neg DD3.out, if_neg DD4.out, if_neg DD5.out, if_pos (show v24 < 36 ∨ v16 ≤ v24 from .inr d14)])
          clear HSn
          go_upto_region 24 with fail
          have Y2 := H2.out
          have Y5 := H5.out
          unfold HdAt hd0 at Y2 Y5
          dsimp only at Y2 Y5
          obtain ⟨k0, k1, k2, k3, k4, k5, k6, k7, f0, f1, f2, f3, f4, f5, f6, f7⟩ := Y2
          obtain ⟨l0, l1, l2, l3, l4, l5, l6, l7, -⟩ := Y5
          have hs2 : B2 < wr.heap.size := World.block_lt_of_cell? _ _ k0
          go_wp2
          change bodyPost _ _ _ _ _ (set8 wr B2 hd0)
          have hbl := set8_below _ _ B2 hd0 HB.out (Nat.le_refl _)
          have YZ := set8_at wr B2 _ hd0 H2.out
          generalize set8 wr B2 hd0 = w8 at *
          unfold HdAt at YZ
          obtain ⟨r0, r1, r2, r3, r4, r5, r6, r7, -⟩ := YZ
          unfold hd0 at *
          refine bodyPost_ret (v := .tuple #[.agg #[.int .u32 0, .int .u32 0, .int .u32 0, .int .u32 0, .int .u32 0, .int .u32 0, .int .u32 0, .int .u32 0], .int .i64 71, .int .i64 24]) (by simp [results, Try.results39, go_sem, r0, r1, r2, r3, r4, r5, r6, r7]) rfl ⟨?_, (by first | exact hbl | (rw [hB]; exact hbl))⟩
          rw [HR.out, if_neg (not_not_intro HMt.out), if_neg h36, ER.out, if_pos (show ¬ (71 : Int) = 0 by decide)]; try rfl
        have u14 : v24 < v16 := by omega
        have DD6 : Hid (¬ (v24 < 36 ∨ v16 ≤ v24)) := hidden (by omega)
        go_upto_region 25 with fail
        clear u13 d13 u14 d14
        by_cases d15 : v16 ≤ v28
        · have ER : Hid (numR v4 v8 v12 v16 v20 v24 v28 L = (71, 28)) := hidden (by unfold numR; rw [if_neg DD1.out, if_neg DD2.out, if_neg DD3.out, if_neg DD4.out, if_neg DD5.out, if_neg DD6.out, if_pos (show v16 ≤ v28 from d15)])
          clear HSn
          go_upto_region 26 with fail
          have Y2 := H2.out
          have Y5 := H5.out
          unfold HdAt hd0 at Y2 Y5
          dsimp only at Y2 Y5
          obtain ⟨k0, k1, k2, k3, k4, k5, k6, k7, f0, f1, f2, f3, f4, f5, f6, f7⟩ := Y2
          obtain ⟨l0, l1, l2, l3, l4, l5, l6, l7, -⟩ := Y5
          have hs2 : B2 < wr.heap.size := World.block_lt_of_cell? _ _ k0
          go_wp2
          change bodyPost _ _ _ _ _ (set8 wr B2 hd0)
          have hbl := set8_below _ _ B2 hd0 HB.out (Nat.le_refl _)
          have YZ := set8_at wr B2 _ hd0 H2.out
          generalize set8 wr B2 hd0 = w8 at *
          unfold HdAt at YZ
          obtain ⟨r0, r1, r2, r3, r4, r5, r6, r7, -⟩ := YZ
          unfold hd0 at *
          refine bodyPost_ret (v := .tuple #[.agg #[.int .u32 0, .int .u32 0, .int .u32 0, .int .u32 0, .int .u32 0, .int .u32 0, .int .u32 0, .int .u32 0], .int .i64 71, .int .i64 28]) (by simp [results, Try.results39, go_sem, r0, r1, r2, r3, r4, r5, r6, r7]) rfl ⟨?_, (by first | exact hbl | (rw [hB]; exact hbl))⟩
          rw [HR.out, if_neg (not_not_intro HMt.out), if_neg h36, ER.out, if_pos (show ¬ (71 : Int) = 0 by decide)]; try rfl
        have u15 : v28 < v16 := by omega
        have DD7 : Hid (¬ (v16 ≤ v28)) := hidden (by omega)
        go_upto_region 27 with fail
        clear u15 d15
        have eR : Hid (numR v4 v8 v12 v16 v20 v24 v28 L = (0, 0)) := hidden (by unfold numR; rw [if_neg DD1.out, if_neg DD2.out, if_neg DD3.out, if_neg DD4.out, if_neg DD5.out, if_neg DD6.out, if_neg DD7.out])
        obtain ⟨⟨a4, b4⟩, ⟨a8, b8⟩, ⟨a12, b12⟩, ⟨a16, b16⟩, ⟨a20, b20⟩, ⟨a24, b24⟩, ⟨a28, b28⟩, ⟨a32, b32⟩⟩ := HBV.out
        obtain ⟨aS, bS⟩ := HSV.out
        have q4 : v4 % 4294967296 = v4 := by omega
        have q8 : v8 % 4294967296 = v8 := by omega
        have q12 : v12 % 4294967296 = v12 := by omega
        have q16 : v16 % 4294967296 = v16 := by omega
        have q20 : v20 % 4294967296 = v20 := by omega
        have q24 : v24 % 4294967296 = v24 := by omega
        have q28 : v28 % 4294967296 = v28 := by omega
        have q32 : v32 % 4294967296 = v32 := by omega
        by_cases dS : v32 = SV
        · have uS : (v32 != SV) = false := by simpa using dS
          have DS := hidden dS
          clear dS
          go_upto_region 29 with (first | (go_at_call 38; refine HSn.out.mono ?_; rintro e w9 ⟨rfl, hw⟩; obtain rfl := hw.symm) | fail)
          have Y2 := H2.out
          have Y5 := H5.out
          unfold HdAt hd0 at Y2 Y5
          dsimp only at Y2 Y5
          obtain ⟨k0, k1, k2, k3, k4, k5, k6, k7, f0, f1, f2, f3, f4, f5, f6, f7⟩ := Y2
          obtain ⟨l0, l1, l2, l3, l4, l5, l6, l7, -⟩ := Y5
          have hs2 : B2 < wr.heap.size := World.block_lt_of_cell? _ _ k0
          go_wp2
          change bodyPost _ _ _ _ _ (set8 wr B2 ⟨v4, v8, v12, v16, v20, v24, v28, v32⟩)
          have hbl := set8_below _ _ B2 ⟨v4, v8, v12, v16, v20, v24, v28, v32⟩ HB.out (Nat.le_refl _)
          have YZ := set8_at wr B2 _ ⟨v4, v8, v12, v16, v20, v24, v28, v32⟩ H2.out
          generalize set8 wr B2 ⟨v4, v8, v12, v16, v20, v24, v28, v32⟩ = w8 at *
          unfold HdAt at YZ
          obtain ⟨r0, r1, r2, r3, r4, r5, r6, r7, -⟩ := YZ
          refine bodyPost_ret (v := .tuple #[.agg #[.int .u32 v4, .int .u32 v8, .int .u32 v12, .int .u32 v16, .int .u32 v20, .int .u32 v24, .int .u32 v28, .int .u32 v32], .int .i64 0, .int .i64 36]) (by simp [results, Try.results39, go_sem, r0, r1, r2, r3, r4, r5, r6, r7]) rfl ⟨?_, (by first | exact hbl | (rw [hB]; exact hbl))⟩
          rw [HR.out, if_neg (not_not_intro HMt.out), if_neg h36, eR.out, if_neg (not_not_intro rfl), if_neg (not_not_intro DS.out)]; try rfl
        · have uS : (v32 != SV) = true := by simpa using dS
          have DS := hidden dS
          clear dS
          go_upto_region 28 with (first | (go_at_call 38; refine HSn.out.mono ?_; rintro e w9 ⟨rfl, hw⟩; obtain rfl := hw.symm) | fail)
          have Y2 := H2.out
          have Y5 := H5.out
          unfold HdAt hd0 at Y2 Y5
          dsimp only at Y2 Y5
          obtain ⟨k0, k1, k2, k3, k4, k5, k6, k7, f0, f1, f2, f3, f4, f5, f6, f7⟩ := Y2
          obtain ⟨l0, l1, l2, l3, l4, l5, l6, l7, -⟩ := Y5
          have hs2 : B2 < wr.heap.size := World.block_lt_of_cell? _ _ k0
          go_wp2
          change bodyPost _ _ _ _ _ (set8 wr B2 hd0)
          have hbl := set8_below _ _ B2 hd0 HB.out (Nat.le_refl _)
          have YZ := set8_at wr B2 _ hd0 H2.out
          generalize set8 wr B2 hd0 = w8 at *
          unfold HdAt at YZ
          obtain ⟨r0, r1, r2, r3, r4, r5, r6, r7, -⟩ := YZ
          unfold hd0 at *
          refine bodyPost_ret (v := .tuple #[.agg #[.int .u32 0, .int .u32 0, .int .u32 0, .int .u32 0, .int .u32 0, .int .u32 0, .int .u32 0, .int .u32 0], .int .i64 73, .int .i64 32]) (by simp [results, Try.results39, go_sem, r0, r1, r2, r3, r4, r5, r6, r7]) rfl ⟨?_, (by first | exact hbl | (rw [hB]; exact hbl))⟩
          rw [HR.out, if_neg (not_not_intro HMt.out), if_neg h36, eR.out, if_neg (not_not_intro rfl), if_pos DS.out]; try rfl
end Go.Proofs.Ytpgppdkbkkljnaa
