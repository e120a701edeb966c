/- Layer 18: AccelRegions. -/
import Derived.Test.YtpgppdkbkkljnaaN19h0
namespace Go.Proofs.Ytpgppdkbkkljnaa
open Go.RowKit
set_option maxHeartbeats 1000000
set_option maxRecDepth 100000
set_option linter.unusedVariables false

set_option maxHeartbeats 4000000 in
theorem accelRegions_walk (a0 a1 a2 : Int) (w : World) (w0 : (Lit.int .u8 a0).wf = true) (w1 : (Lit.int .u16 a1).wf = true) (w2 : (Lit.int .u8 a2).wf = true) :
    Calls Try.prog 4 #[.int .u8 a0, .int .u16 a1, .int .u8 a2] w fun e w' => e = .returned (.bool true) ∧ Below w.heap.size w w' := by
  have b0 : 0 ≤ a0 ∧ a0 ≤ 255 := by simp [Lit.wf, IntKind.min, IntKind.max, IntKind.signed, IntKind.bits] at w0; omega
  have b1 : 0 ≤ a1 ∧ a1 ≤ 65535 := by simp [Lit.wf, IntKind.min, IntKind.max, IntKind.signed, IntKind.bits] at w1; omega
  have b2 : 0 ≤ a2 ∧ a2 ≤ 255 := by simp [Lit.wf, IntKind.min, IntKind.max, IntKind.signed, IntKind.bits] at w2; omega
  clear w0 w1 w2
  obtain ⟨at_, rfl⟩ : ∃ k : Nat, a1 = k := ⟨a1.toNat, by omega⟩
  obtain ⟨n, rfl⟩ : ∃ k : Nat, a2 = k := ⟨a2.toNat, by omega⟩
  obtain ⟨X, hX⟩ : ∃ X, a0 = X := ⟨_, rfl⟩
  subst hX
  have hx0 := b0.1
  have hx1 := b0.2
  obtain ⟨A, hA⟩ : ∃ A, at_ % 3000 = A := ⟨_, rfl⟩
  have eA : (at_ : Int) % 4294967296 % 3000 = (A : Int) := by omega
  have ha2 : A < 4294967296 := by omega
  have hA3 : A < 3000 := by omega
  obtain ⟨C, hC⟩ : ∃ C, A + n * 16777216 = C := ⟨_, rfl⟩
  have hc2 : C < 4294967296 := by omega
  have hz9 : ∀ z ∈ z9, z < 4294967296 := by decide
  have hbl : (layB []).length = 2048 := lay_len [] 1792 (by decide)
  have hbk : OkB (layB []) := lay_ok [] (by intro c hc; cases hc) 1792
  have HLD := hidden (laid18 none 0 0 [] w ⟨rfl, Nat.le_refl _, .inl ⟨rfl, rfl, rfl⟩⟩ (by intro c hc; cases hc))
  unfold LRet at HLD
  generalize layB [] = BB at *
  have HOK := hidden (wr1_ok hbk A a0 hx0 hx1)
  have HLN : Hid ((wr1 BB A a0).length = 2048) := hidden (by rw [wr1_len]; exact hbl)
  have HR2 : Hid (n ≠ 0 → regJ ⟨wr1 BB A a0, 256, z9, 7⟩ C = 0) := hidden (fun h => by
    unfold regJ
    rw [if_pos]
    right
    show (wr1 BB A a0).length ≤ C
    rw [HLN.out]; omega)
  have HRG : Hid (∀ zs : List Int, zs.length = 2048 → OkB zs → regJ ⟨zs, 256, z9, 7⟩ A = if A < 36 ∨ 2048 ≤ A then 0 else if 224 ≤ rdN zs A 1 then 3 else if 192 ≤ rdN zs A 1 then 2 else if 112 ≤ rdN zs A 1 ∧ rdN zs A 1 < 128 ∧ 256 ≤ A then 1 else 0) := hidden (fun zs hl ho => by unfold regJ; rw [hl])
  have eC : (A : Int) + (n : Int) % 4294967296 * 16777216 % 4294967296 = (C : Int) := by omega
  clear b1 b2 b0 hC hA
  go_enter Try.func4, Try.ntmps4
  go_upto_region 4 with (go_at_call 15; (with_reducible refine (HLD.out).mono ?_); rintro e w1 ⟨m, d, g, rfl, hL, hb1⟩; have HL := hidden hL; have HB1 := hidden hb1; clear hL hb1)
  go_upto_region 5 with (go_at_call 16; refine (params18 none 0 0 [] _ ⟨rfl, (fun x hx => by cases hx), fun i hi => absurd hi (Nat.not_lt_zero i)⟩ (by decide)).mono ?_; rintro e w2 ⟨p, rfl, hp1, hP, hb2⟩; have HLP := hidden (HL.out.withP hb2 hp1 hP); have HB2 := hidden (HB1.out.trans (hb2.mono HB1.out.size)); clear hp1 hP hb2 HB1 HL)
  rw [par9_nil] at HLP
  go_upto_region 7 with (go_at_call 17; refine (HLP.out.write A a0 ha2 (by rw [hbl]; decide) hx0 hx1).mono ?_; rintro e w3 ⟨⟨v3, rfl⟩, hL, hb3⟩; have HL3 := hidden hL; have HB3 := hidden (HB2.out.trans hb3); clear hL hb3 HLP HB2)
  have HM := hidden (HL3.out.memr HOK.out (by rw [HLN.out]; decide))
  have HPR := hidden HL3.out.2.2
  have HRD : Hid (Calls Try.prog 18 #[.pointer (some ⟨m, 0, none⟩), .int .u32 A, .int .i64 1] w3 fun e w' => e = .returned (.tuple #[.int .u32 (rdA (wr1 BB A a0) A 1).x, .int .i64 (rdA (wr1 BB A a0) A 1).e]) ∧ w' = w3) := hidden (HM.out.read A 1 (.inl rfl) ha2)
  clear HL3
  generalize hZZ : wr1 BB A a0 = ZS at *
  clear hZZ
  have hRG := HRG.out ZS HLN.out HOK.out
  clear HRG
  by_cases h48 : 2048 ≤ A
  · have hR : regJ ⟨ZS, 256, z9, 7⟩ A = 0 := by rw [hRG, if_pos (.inr h48)]
    have er : rdA ZS A 1 = ⟨0, 0, 90⟩ := by unfold rdA; rw [if_neg (by rw [HLN.out]; omega)]
    rw [er] at HRD
    clear hRG er
    go_upto_region 9 with (go_at_call 18; (with_reducible refine (HRD.out).mono ?_); rintro e w4 ⟨rfl, e9⟩; rw [e9]; clear e9)
    go_upto_region 20 with (go_at_call 19; refine (num18 _ _).mono ?_; rintro e w5 ⟨rfl, e9⟩; rw [e9]; clear e9)
    have hb : Below w3.heap.size w3 (w3.alloc (.cells #[.int .u32 (A : Int)] 26)) := (Below.refl _ _).alloc (Nat.le_refl _) _
    have HD : Hid (Calls Try.prog 20 #[.pointer (some ⟨m, 0, none⟩), .slice (some ⟨p, 0, none⟩) 9 9, .int .u32 1, .slice (some ⟨w3.heap.size, 0, none⟩) 1 1] (w3.alloc (.cells #[.int .u32 (A : Int)] 26)) (DRet18 (doA ZS 256 z9 1 [A]) (w3.alloc (.cells #[.int .u32 (A : Int)] 26)))) := hidden (do_good m ZS 256 (some ⟨p, 0, none⟩) 9 z9 1 (some ⟨w3.heap.size, 0, none⟩) 1 1 [A] _ (HM.out.later hb) ((HPR.out.later hb).row hz9 9 (by decide)) (vrow1 w3 A ha2) (by decide) (by decide))
    rw [doA_reg, hR] at HD
    have HBX := hidden hb
    clear hb
    go_upto_region 21 with (go_at_call 20; (with_reducible refine (HD.out).mono ?_); rintro e w5 ⟨rfl, hb8⟩; have HBY := hidden (HBX.out.trans (hb8.mono HBX.out.size)); replace HM := hidden (HM.out.later HBY.out); replace HPR := hidden (HPR.out.later HBY.out); have HB5 := hidden (HB3.out.trans (HBY.out.mono HB3.out.size)); clear hb8 HBX HBY HD HB3)
    have hb : Below w5.heap.size w5 (w5.alloc (.cells #[.int .u32 (C : Int)] 26)) := (Below.refl _ _).alloc (Nat.le_refl _) _
    have HD : Hid (Calls Try.prog 20 #[.pointer (some ⟨m, 0, none⟩), .slice (some ⟨p, 0, none⟩) 9 9, .int .u32 1, .slice (some ⟨w5.heap.size, 0, none⟩) 1 1] (w5.alloc (.cells #[.int .u32 (C : Int)] 26)) (DRet18 (doA ZS 256 z9 1 [C]) (w5.alloc (.cells #[.int .u32 (C : Int)] 26)))) := hidden (do_good m ZS 256 (some ⟨p, 0, none⟩) 9 z9 1 (some ⟨w5.heap.size, 0, none⟩) 1 1 [C] _ (HM.out.later hb) ((HPR.out.later hb).row hz9 9 (by decide)) (vrow1 w5 C hc2) (by decide) (by decide))
    rw [doA_reg] at HD
    have HBX := hidden hb
    clear hb
    go_upto_region 22 with (go_at_call 20; (with_reducible refine (HD.out).mono ?_); rintro e w6 ⟨rfl, hb8⟩; have HBY := hidden (HBX.out.trans (hb8.mono HBX.out.size)); have HB6 := hidden (HB5.out.trans (HBY.out.mono HB5.out.size)); clear hb8 HBX HBY HD HB5)
    clear HM HPR
    have hR2 := HR2.out
    by_cases hn0 : n = 0
    · have qn : ((n : Int) == 0) = true := by rw [hn0]; rfl
      clear HR2 hR2 hR hn0
      go_wp2_with (first | (go_at_call 19; refine (num18 _ _).mono ?_; rintro e w7 ⟨rfl, e9⟩; rw [e9]; clear e9) | (go_at_call 9; refine (live18 _).mono ?_; rintro e w7 ⟨rfl, hb7⟩; have HB7 := hidden (HB6.out.trans (hb7.mono HB6.out.size)); clear hb7) | fail)
      go_ret
      exact ⟨rfl, HB7.out⟩
    · have qn : ((n : Int) == 0) = false := by rw [beq_eq_false_iff_ne]; omega
      rw [hR2 hn0]
      clear HR2 hR2 hR hn0
      go_wp2_with (first | (go_at_call 19; refine (num18 _ _).mono ?_; rintro e w7 ⟨rfl, e9⟩; rw [e9]; clear e9) | (go_at_call 9; refine (live18 _).mono ?_; rintro e w7 ⟨rfl, hb7⟩; have HB7 := hidden (HB6.out.trans (hb7.mono HB6.out.size)); clear hb7) | fail)
      go_ret
      exact ⟨rfl, HB7.out⟩
  have er : rdA ZS A 1 = ⟨rdN ZS A 1, 0, 0⟩ := by unfold rdA; rw [if_pos (by rw [HLN.out]; omega)]
  have hX2 := (rdN_cast HOK.out A 1 (.inl rfl)).2.2.1 rfl
  rw [er] at HRD
  clear er
  generalize rdN ZS A 1 = X at *
  by_cases h36 : A < 36
  · have hR : regJ ⟨ZS, 256, z9, 7⟩ A = 0 := by rw [hRG, if_pos (.inl h36)]
    have l36 : ¬ (36 : Int) ≤ (A : Int) := by omega
    clear hRG
    go_upto_region 9 with (go_at_call 18; (with_reducible refine (HRD.out).mono ?_); rintro e w4 ⟨rfl, e9⟩; rw [e9]; clear e9)
    go_upto_region 20 with (go_at_call 19; refine (num18 _ _).mono ?_; rintro e w5 ⟨rfl, e9⟩; rw [e9]; clear e9)
    have hb : Below w3.heap.size w3 (w3.alloc (.cells #[.int .u32 (A : Int)] 26)) := (Below.refl _ _).alloc (Nat.le_refl _) _
    have HD : Hid (Calls Try.prog 20 #[.pointer (some ⟨m, 0, none⟩), .slice (some ⟨p, 0, none⟩) 9 9, .int .u32 1, .slice (some ⟨w3.heap.size, 0, none⟩) 1 1] (w3.alloc (.cells #[.int .u32 (A : Int)] 26)) (DRet18 (doA ZS 256 z9 1 [A]) (w3.alloc (.cells #[.int .u32 (A : Int)] 26)))) := hidden (do_good m ZS 256 (some ⟨p, 0, none⟩) 9 z9 1 (some ⟨w3.heap.size, 0, none⟩) 1 1 [A] _ (HM.out.later hb) ((HPR.out.later hb).row hz9 9 (by decide)) (vrow1 w3 A ha2) (by decide) (by decide))
    rw [doA_reg, hR] at HD
    have HBX := hidden hb
    clear hb
    go_upto_region 21 with (go_at_call 20; (with_reducible refine (HD.out).mono ?_); rintro e w5 ⟨rfl, hb8⟩; have HBY := hidden (HBX.out.trans (hb8.mono HBX.out.size)); replace HM := hidden (HM.out.later HBY.out); replace HPR := hidden (HPR.out.later HBY.out); have HB5 := hidden (HB3.out.trans (HBY.out.mono HB3.out.size)); clear hb8 HBX HBY HD HB3)
    have hb : Below w5.heap.size w5 (w5.alloc (.cells #[.int .u32 (C : Int)] 26)) := (Below.refl _ _).alloc (Nat.le_refl _) _
    have HD : Hid (Calls Try.prog 20 #[.pointer (some ⟨m, 0, none⟩), .slice (some ⟨p, 0, none⟩) 9 9, .int .u32 1, .slice (some ⟨w5.heap.size, 0, none⟩) 1 1] (w5.alloc (.cells #[.int .u32 (C : Int)] 26)) (DRet18 (doA ZS 256 z9 1 [C]) (w5.alloc (.cells #[.int .u32 (C : Int)] 26)))) := hidden (do_good m ZS 256 (some ⟨p, 0, none⟩) 9 z9 1 (some ⟨w5.heap.size, 0, none⟩) 1 1 [C] _ (HM.out.later hb) ((HPR.out.later hb).row hz9 9 (by decide)) (vrow1 w5 C hc2) (by decide) (by decide))
    rw [doA_reg] at HD
    have HBX := hidden hb
    clear hb
    go_upto_region 22 with (go_at_call 20; (with_reducible refine (HD.out).mono ?_); rintro e w6 ⟨rfl, hb8⟩; have HBY := hidden (HBX.out.trans (hb8.mono HBX.out.size)); have HB6 := hidden (HB5.out.trans (HBY.out.mono HB5.out.size)); clear hb8 HBX HBY HD HB5)
    clear HM HPR
    have hR2 := HR2.out
    by_cases hn0 : n = 0
    · have qn : ((n : Int) == 0) = true := by rw [hn0]; rfl
      clear HR2 hR2 hR hn0
      go_wp2_with (first | (go_at_call 19; refine (num18 _ _).mono ?_; rintro e w7 ⟨rfl, e9⟩; rw [e9]; clear e9) | (go_at_call 9; refine (live18 _).mono ?_; rintro e w7 ⟨rfl, hb7⟩; have HB7 := hidden (HB6.out.trans (hb7.mono HB6.out.size)); clear hb7) | fail)
      go_ret
      exact ⟨rfl, HB7.out⟩
    · have qn : ((n : Int) == 0) = false := by rw [beq_eq_false_iff_ne]; omega
      rw [hR2 hn0]
      clear HR2 hR2 hR hn0
      go_wp2_with (first | (go_at_call 19; refine (num18 _ _).mono ?_; rintro e w7 ⟨rfl, e9⟩; rw [e9]; clear e9) | (go_at_call 9; refine (live18 _).mono ?_; rintro e w7 ⟨rfl, hb7⟩; have HB7 := hidden (HB6.out.trans (hb7.mono HB6.out.size)); clear hb7) | fail)
      go_ret
      exact ⟨rfl, HB7.out⟩
  have l36 : (36 : Int) ≤ (A : Int) := by omega
  rw [if_neg (by omega)] at hRG
  by_cases k7 : X / 16 = 7
  · have q7 : (X : Int) / 16 = 7 := by omega
    by_cases k256 : 256 ≤ A
    · have hR : regJ ⟨ZS, 256, z9, 7⟩ A = 1 := by rw [hRG, if_neg (by omega), if_neg (by omega), if_pos (by omega)]
      have l256 : (256 : Int) ≤ (A : Int) := by omega
      clear hRG
      go_upto_region 9 with (go_at_call 18; (with_reducible refine (HRD.out).mono ?_); rintro e w4 ⟨rfl, e9⟩; rw [e9]; clear e9)
      go_upto_region 20 with (go_at_call 19; refine (num18 _ _).mono ?_; rintro e w5 ⟨rfl, e9⟩; rw [e9]; clear e9)
      have hb : Below w3.heap.size w3 (w3.alloc (.cells #[.int .u32 (A : Int)] 26)) := (Below.refl _ _).alloc (Nat.le_refl _) _
      have HD : Hid (Calls Try.prog 20 #[.pointer (some ⟨m, 0, none⟩), .slice (some ⟨p, 0, none⟩) 9 9, .int .u32 1, .slice (some ⟨w3.heap.size, 0, none⟩) 1 1] (w3.alloc (.cells #[.int .u32 (A : Int)] 26)) (DRet18 (doA ZS 256 z9 1 [A]) (w3.alloc (.cells #[.int .u32 (A : Int)] 26)))) := hidden (do_good m ZS 256 (some ⟨p, 0, none⟩) 9 z9 1 (some ⟨w3.heap.size, 0, none⟩) 1 1 [A] _ (HM.out.later hb) ((HPR.out.later hb).row hz9 9 (by decide)) (vrow1 w3 A ha2) (by decide) (by decide))
      rw [doA_reg, hR] at HD
      have HBX := hidden hb
      clear hb
      go_upto_region 21 with (go_at_call 20; (with_reducible refine (HD.out).mono ?_); rintro e w5 ⟨rfl, hb8⟩; have HBY := hidden (HBX.out.trans (hb8.mono HBX.out.size)); replace HM := hidden (HM.out.later HBY.out); replace HPR := hidden (HPR.out.later HBY.out); have HB5 := hidden (HB3.out.trans (HBY.out.mono HB3.out.size)); clear hb8 HBX HBY HD HB3)
      have hb : Below w5.heap.size w5 (w5.alloc (.cells #[.int .u32 (C : Int)] 26)) := (Below.refl _ _).alloc (Nat.le_refl _) _
      have HD : Hid (Calls Try.prog 20 #[.pointer (some ⟨m, 0, none⟩), .slice (some ⟨p, 0, none⟩) 9 9, .int .u32 1, .slice (some ⟨w5.heap.size, 0, none⟩) 1 1] (w5.alloc (.cells #[.int .u32 (C : Int)] 26)) (DRet18 (doA ZS 256 z9 1 [C]) (w5.alloc (.cells #[.int .u32 (C : Int)] 26)))) := hidden (do_good m ZS 256 (some ⟨p, 0, none⟩) 9 z9 1 (some ⟨w5.heap.size, 0, none⟩) 1 1 [C] _ (HM.out.later hb) ((HPR.out.later hb).row hz9 9 (by decide)) (vrow1 w5 C hc2) (by decide) (by decide))
      rw [doA_reg] at HD
      have HBX := hidden hb
      clear hb
      go_upto_region 22 with (go_at_call 20; (with_reducible refine (HD.out).mono ?_); rintro e w6 ⟨rfl, hb8⟩; have HBY := hidden (HBX.out.trans (hb8.mono HBX.out.size)); have HB6 := hidden (HB5.out.trans (HBY.out.mono HB5.out.size)); clear hb8 HBX HBY HD HB5)
      clear HM HPR
      have hR2 := HR2.out
      by_cases hn0 : n = 0
      · have qn : ((n : Int) == 0) = true := by rw [hn0]; rfl
        clear HR2 hR2 hR hn0
        go_wp2_with (first | (go_at_call 19; refine (num18 _ _).mono ?_; rintro e w7 ⟨rfl, e9⟩; rw [e9]; clear e9) | (go_at_call 9; refine (live18 _).mono ?_; rintro e w7 ⟨rfl, hb7⟩; have HB7 := hidden (HB6.out.trans (hb7.mono HB6.out.size)); clear hb7) | fail)
        go_ret
        exact ⟨rfl, HB7.out⟩
      · have qn : ((n : Int) == 0) = false := by rw [beq_eq_false_iff_ne]; omega
        rw [hR2 hn0]
        clear HR2 hR2 hR hn0
        go_wp2_with (first | (go_at_call 19; refine (num18 _ _).mono ?_; rintro e w7 ⟨rfl, e9⟩; rw [e9]; clear e9) | (go_at_call 9; refine (live18 _).mono ?_; rintro e w7 ⟨rfl, hb7⟩; have HB7 := hidden (HB6.out.trans (hb7.mono HB6.out.size)); clear hb7) | fail)
        go_ret
        exact ⟨rfl, HB7.out⟩
    · have hR : regJ ⟨ZS, 256, z9, 7⟩ A = 0 := by rw [hRG, if_neg (by omega), if_neg (by omega), if_neg (by omega)]
      have l256 : ¬ (256 : Int) ≤ (A : Int) := by omega
      clear hRG
      go_upto_region 9 with (go_at_call 18; (with_reducible refine (HRD.out).mono ?_); rintro e w4 ⟨rfl, e9⟩; rw [e9]; clear e9)
      go_upto_region 20 with (go_at_call 19; refine (num18 _ _).mono ?_; rintro e w5 ⟨rfl, e9⟩; rw [e9]; clear e9)
      have hb : Below w3.heap.size w3 (w3.alloc (.cells #[.int .u32 (A : Int)] 26)) := (Below.refl _ _).alloc (Nat.le_refl _) _
      have HD : Hid (Calls Try.prog 20 #[.pointer (some ⟨m, 0, none⟩), .slice (some ⟨p, 0, none⟩) 9 9, .int .u32 1, .slice (some ⟨w3.heap.size, 0, none⟩) 1 1] (w3.alloc (.cells #[.int .u32 (A : Int)] 26)) (DRet18 (doA ZS 256 z9 1 [A]) (w3.alloc (.cells #[.int .u32 (A : Int)] 26)))) := hidden (do_good m ZS 256 (some ⟨p, 0, none⟩) 9 z9 1 (some ⟨w3.heap.size, 0, none⟩) 1 1 [A] _ (HM.out.later hb) ((HPR.out.later hb).row hz9 9 (by decide)) (vrow1 w3 A ha2) (by decide) (by decide))
      rw [doA_reg, hR] at HD
      have HBX := hidden hb
      clear hb
      go_upto_region 21 with (go_at_call 20; (with_reducible refine (HD.out).mono ?_); rintro e w5 ⟨rfl, hb8⟩; have HBY := hidden (HBX.out.trans (hb8.mono HBX.out.size)); replace HM := hidden (HM.out.later HBY.out); replace HPR := hidden (HPR.out.later HBY.out); have HB5 := hidden (HB3.out.trans (HBY.out.mono HB3.out.size)); clear hb8 HBX HBY HD HB3)
      have hb : Below w5.heap.size w5 (w5.alloc (.cells #[.int .u32 (C : Int)] 26)) := (Below.refl _ _).alloc (Nat.le_refl _) _
      have HD : Hid (Calls Try.prog 20 #[.pointer (some ⟨m, 0, none⟩), .slice (some ⟨p, 0, none⟩) 9 9, .int .u32 1, .slice (some ⟨w5.heap.size, 0, none⟩) 1 1] (w5.alloc (.cells #[.int .u32 (C : Int)] 26)) (DRet18 (doA ZS 256 z9 1 [C]) (w5.alloc (.cells #[.int .u32 (C : Int)] 26)))) := hidden (do_good m ZS 256 (some ⟨p, 0, none⟩) 9 z9 1 (some ⟨w5.heap.size, 0, none⟩) 1 1 [C] _ (HM.out.later hb) ((HPR.out.later hb).row hz9 9 (by decide)) (vrow1 w5 C hc2) (by decide) (by decide))
      rw [doA_reg] at HD
      have HBX := hidden hb
      clear hb
      go_upto_region 22 with (go_at_call 20; (with_reducible refine (HD.out).mono ?_); rintro e w6 ⟨rfl, hb8⟩; have HBY := hidden (HBX.out.trans (hb8.mono HBX.out.size)); have HB6 := hidden (HB5.out.trans (HBY.out.mono HB5.out.size)); clear hb8 HBX HBY HD HB5)
      clear HM HPR
      have hR2 := HR2.out
      by_cases hn0 : n = 0
      · have qn : ((n : Int) == 0) = true := by rw [hn0]; rfl
        clear HR2 hR2 hR hn0
        go_wp2_with (first | (go_at_call 19; refine (num18 _ _).mono ?_; rintro e w7 ⟨rfl, e9⟩; rw [e9]; clear e9) | (go_at_call 9; refine (live18 _).mono ?_; rintro e w7 ⟨rfl, hb7⟩; have HB7 := hidden (HB6.out.trans (hb7.mono HB6.out.size)); clear hb7) | fail)
        go_ret
        exact ⟨rfl, HB7.out⟩
      · have qn : ((n : Int) == 0) = false := by rw [beq_eq_false_iff_ne]; omega
        rw [hR2 hn0]
        clear HR2 hR2 hR hn0
        go_wp2_with (first | (go_at_call 19; refine (num18 _ _).mono ?_; rintro e w7 ⟨rfl, e9⟩; rw [e9]; clear e9) | (go_at_call 9; refine (live18 _).mono ?_; rintro e w7 ⟨rfl, hb7⟩; have HB7 := hidden (HB6.out.trans (hb7.mono HB6.out.size)); clear hb7) | fail)
        go_ret
        exact ⟨rfl, HB7.out⟩
  by_cases k12 : X / 16 = 12
  · have q12 : (X : Int) / 16 = 12 := by omega
    have hR : regJ ⟨ZS, 256, z9, 7⟩ A = 2 := by rw [hRG, if_neg (by omega), if_pos (by omega)]
    clear hRG
    go_upto_region 9 with (go_at_call 18; (with_reducible refine (HRD.out).mono ?_); rintro e w4 ⟨rfl, e9⟩; rw [e9]; clear e9)
    go_upto_region 20 with (go_at_call 19; refine (num18 _ _).mono ?_; rintro e w5 ⟨rfl, e9⟩; rw [e9]; clear e9)
    have hb : Below w3.heap.size w3 (w3.alloc (.cells #[.int .u32 (A : Int)] 26)) := (Below.refl _ _).alloc (Nat.le_refl _) _
    have HD : Hid (Calls Try.prog 20 #[.pointer (some ⟨m, 0, none⟩), .slice (some ⟨p, 0, none⟩) 9 9, .int .u32 1, .slice (some ⟨w3.heap.size, 0, none⟩) 1 1] (w3.alloc (.cells #[.int .u32 (A : Int)] 26)) (DRet18 (doA ZS 256 z9 1 [A]) (w3.alloc (.cells #[.int .u32 (A : Int)] 26)))) := hidden (do_good m ZS 256 (some ⟨p, 0, none⟩) 9 z9 1 (some ⟨w3.heap.size, 0, none⟩) 1 1 [A] _ (HM.out.later hb) ((HPR.out.later hb).row hz9 9 (by decide)) (vrow1 w3 A ha2) (by decide) (by decide))
    rw [doA_reg, hR] at HD
    have HBX := hidden hb
    clear hb
    go_upto_region 21 with (go_at_call 20; (with_reducible refine (HD.out).mono ?_); rintro e w5 ⟨rfl, hb8⟩; have HBY := hidden (HBX.out.trans (hb8.mono HBX.out.size)); replace HM := hidden (HM.out.later HBY.out); replace HPR := hidden (HPR.out.later HBY.out); have HB5 := hidden (HB3.out.trans (HBY.out.mono HB3.out.size)); clear hb8 HBX HBY HD HB3)
    have hb : Below w5.heap.size w5 (w5.alloc (.cells #[.int .u32 (C : Int)] 26)) := (Below.refl _ _).alloc (Nat.le_refl _) _
    have HD : Hid (Calls Try.prog 20 #[.pointer (some ⟨m, 0, none⟩), .slice (some ⟨p, 0, none⟩) 9 9, .int .u32 1, .slice (some ⟨w5.heap.size, 0, none⟩) 1 1] (w5.alloc (.cells #[.int .u32 (C : Int)] 26)) (DRet18 (doA ZS 256 z9 1 [C]) (w5.alloc (.cells #[.int .u32 (C : Int)] 26)))) := hidden (do_good m ZS 256 (some ⟨p, 0, none⟩) 9 z9 1 (some ⟨w5.heap.size, 0, none⟩) 1 1 [C] _ (HM.out.later hb) ((HPR.out.later hb).row hz9 9 (by decide)) (vrow1 w5 C hc2) (by decide) (by decide))
    rw [doA_reg] at HD
    have HBX := hidden hb
    clear hb
    go_upto_region 22 with (go_at_call 20; (with_reducible refine (HD.out).mono ?_); rintro e w6 ⟨rfl, hb8⟩; have HBY := hidden (HBX.out.trans (hb8.mono HBX.out.size)); have HB6 := hidden (HB5.out.trans (HBY.out.mono HB5.out.size)); clear hb8 HBX HBY HD HB5)
    clear HM HPR
    have hR2 := HR2.out
    by_cases hn0 : n = 0
    · have qn : ((n : Int) == 0) = true := by rw [hn0]; rfl
      clear HR2 hR2 hR hn0
      go_wp2_with (first | (go_at_call 19; refine (num18 _ _).mono ?_; rintro e w7 ⟨rfl, e9⟩; rw [e9]; clear e9) | (go_at_call 9; refine (live18 _).mono ?_; rintro e w7 ⟨rfl, hb7⟩; have HB7 := hidden (HB6.out.trans (hb7.mono HB6.out.size)); clear hb7) | fail)
      go_ret
      exact ⟨rfl, HB7.out⟩
    · have qn : ((n : Int) == 0) = false := by rw [beq_eq_false_iff_ne]; omega
      rw [hR2 hn0]
      clear HR2 hR2 hR hn0
      go_wp2_with (first | (go_at_call 19; refine (num18 _ _).mono ?_; rintro e w7 ⟨rfl, e9⟩; rw [e9]; clear e9) | (go_at_call 9; refine (live18 _).mono ?_; rintro e w7 ⟨rfl, hb7⟩; have HB7 := hidden (HB6.out.trans (hb7.mono HB6.out.size)); clear hb7) | fail)
      go_ret
      exact ⟨rfl, HB7.out⟩
  by_cases k13 : X / 16 = 13
  · have q13 : (X : Int) / 16 = 13 := by omega
    have hR : regJ ⟨ZS, 256, z9, 7⟩ A = 2 := by rw [hRG, if_neg (by omega), if_pos (by omega)]
    clear hRG
    go_upto_region 9 with (go_at_call 18; (with_reducible refine (HRD.out).mono ?_); rintro e w4 ⟨rfl, e9⟩; rw [e9]; clear e9)
    go_upto_region 20 with (go_at_call 19; refine (num18 _ _).mono ?_; rintro e w5 ⟨rfl, e9⟩; rw [e9]; clear e9)
    have hb : Below w3.heap.size w3 (w3.alloc (.cells #[.int .u32 (A : Int)] 26)) := (Below.refl _ _).alloc (Nat.le_refl _) _
    have HD : Hid (Calls Try.prog 20 #[.pointer (some ⟨m, 0, none⟩), .slice (some ⟨p, 0, none⟩) 9 9, .int .u32 1, .slice (some ⟨w3.heap.size, 0, none⟩) 1 1] (w3.alloc (.cells #[.int .u32 (A : Int)] 26)) (DRet18 (doA ZS 256 z9 1 [A]) (w3.alloc (.cells #[.int .u32 (A : Int)] 26)))) := hidden (do_good m ZS 256 (some ⟨p, 0, none⟩) 9 z9 1 (some ⟨w3.heap.size, 0, none⟩) 1 1 [A] _ (HM.out.later hb) ((HPR.out.later hb).row hz9 9 (by decide)) (vrow1 w3 A ha2) (by decide) (by decide))
    rw [doA_reg, hR] at HD
    have HBX := hidden hb
    clear hb
    go_upto_region 21 with (go_at_call 20; (with_reducible refine (HD.out).mono ?_); rintro e w5 ⟨rfl, hb8⟩; have HBY := hidden (HBX.out.trans (hb8.mono HBX.out.size)); replace HM := hidden (HM.out.later HBY.out); replace HPR := hidden (HPR.out.later HBY.out); have HB5 := hidden (HB3.out.trans (HBY.out.mono HB3.out.size)); clear hb8 HBX HBY HD HB3)
    have hb : Below w5.heap.size w5 (w5.alloc (.cells #[.int .u32 (C : Int)] 26)) := (Below.refl _ _).alloc (Nat.le_refl _) _
    have HD : Hid (Calls Try.prog 20 #[.pointer (some ⟨m, 0, none⟩), .slice (some ⟨p, 0, none⟩) 9 9, .int .u32 1, .slice (some ⟨w5.heap.size, 0, none⟩) 1 1] (w5.alloc (.cells #[.int .u32 (C : Int)] 26)) (DRet18 (doA ZS 256 z9 1 [C]) (w5.alloc (.cells #[.int .u32 (C : Int)] 26)))) := hidden (do_good m ZS 256 (some ⟨p, 0, none⟩) 9 z9 1 (some ⟨w5.heap.size, 0, none⟩) 1 1 [C] _ (HM.out.later hb) ((HPR.out.later hb).row hz9 9 (by decide)) (vrow1 w5 C hc2) (by decide) (by decide))
    rw [doA_reg] at HD
    have HBX := hidden hb
    clear hb
    go_upto_region 22 with (go_at_call 20; (with_reducible refine (HD.out).mono ?_); rintro e w6 ⟨rfl, hb8⟩; have HBY := hidden (HBX.out.trans (hb8.mono HBX.out.size)); have HB6 := hidden (HB5.out.trans (HBY.out.mono HB5.out.size)); clear hb8 HBX HBY HD HB5)
    clear HM HPR
    have hR2 := HR2.out
    by_cases hn0 : n = 0
    · have qn : ((n : Int) == 0) = true := by rw [hn0]; rfl
      clear HR2 hR2 hR hn0
      go_wp2_with (first | (go_at_call 19; refine (num18 _ _).mono ?_; rintro e w7 ⟨rfl, e9⟩; rw [e9]; clear e9) | (go_at_call 9; refine (live18 _).mono ?_; rintro e w7 ⟨rfl, hb7⟩; have HB7 := hidden (HB6.out.trans (hb7.mono HB6.out.size)); clear hb7) | fail)
      go_ret
      exact ⟨rfl, HB7.out⟩
    · have qn : ((n : Int) == 0) = false := by rw [beq_eq_false_iff_ne]; omega
      rw [hR2 hn0]
      clear HR2 hR2 hR hn0
      go_wp2_with (first | (go_at_call 19; refine (num18 _ _).mono ?_; rintro e w7 ⟨rfl, e9⟩; rw [e9]; clear e9) | (go_at_call 9; refine (live18 _).mono ?_; rintro e w7 ⟨rfl, hb7⟩; have HB7 := hidden (HB6.out.trans (hb7.mono HB6.out.size)); clear hb7) | fail)
      go_ret
      exact ⟨rfl, HB7.out⟩
  by_cases k14 : X / 16 = 14
  · have q14 : (X : Int) / 16 = 14 := by omega
    have hR : regJ ⟨ZS, 256, z9, 7⟩ A = 3 := by rw [hRG, if_pos (by omega)]
    clear hRG
    go_upto_region 9 with (go_at_call 18; (with_reducible refine (HRD.out).mono ?_); rintro e w4 ⟨rfl, e9⟩; rw [e9]; clear e9)
    go_upto_region 20 with (go_at_call 19; refine (num18 _ _).mono ?_; rintro e w5 ⟨rfl, e9⟩; rw [e9]; clear e9)
    have hb : Below w3.heap.size w3 (w3.alloc (.cells #[.int .u32 (A : Int)] 26)) := (Below.refl _ _).alloc (Nat.le_refl _) _
    have HD : Hid (Calls Try.prog 20 #[.pointer (some ⟨m, 0, none⟩), .slice (some ⟨p, 0, none⟩) 9 9, .int .u32 1, .slice (some ⟨w3.heap.size, 0, none⟩) 1 1] (w3.alloc (.cells #[.int .u32 (A : Int)] 26)) (DRet18 (doA ZS 256 z9 1 [A]) (w3.alloc (.cells #[.int .u32 (A : Int)] 26)))) := hidden (do_good m ZS 256 (some ⟨p, 0, none⟩) 9 z9 1 (some ⟨w3.heap.size, 0, none⟩) 1 1 [A] _ (HM.out.later hb) ((HPR.out.later hb).row hz9 9 (by decide)) (vrow1 w3 A ha2) (by decide) (by decide))
    rw [doA_reg, hR] at HD
    have HBX := hidden hb
    clear hb
    go_upto_region 21 with (go_at_call 20; (with_reducible refine (HD.out).mono ?_); rintro e w5 ⟨rfl, hb8⟩; have HBY := hidden (HBX.out.trans (hb8.mono HBX.out.size)); replace HM := hidden (HM.out.later HBY.out); replace HPR := hidden (HPR.out.later HBY.out); have HB5 := hidden (HB3.out.trans (HBY.out.mono HB3.out.size)); clear hb8 HBX HBY HD HB3)
    have hb : Below w5.heap.size w5 (w5.alloc (.cells #[.int .u32 (C : Int)] 26)) := (Below.refl _ _).alloc (Nat.le_refl _) _
    have HD : Hid (Calls Try.prog 20 #[.pointer (some ⟨m, 0, none⟩), .slice (some ⟨p, 0, none⟩) 9 9, .int .u32 1, .slice (some ⟨w5.heap.size, 0, none⟩) 1 1] (w5.alloc (.cells #[.int .u32 (C : Int)] 26)) (DRet18 (doA ZS 256 z9 1 [C]) (w5.alloc (.cells #[.int .u32 (C : Int)] 26)))) := hidden (do_good m ZS 256 (some ⟨p, 0, none⟩) 9 z9 1 (some ⟨w5.heap.size, 0, none⟩) 1 1 [C] _ (HM.out.later hb) ((HPR.out.later hb).row hz9 9 (by decide)) (vrow1 w5 C hc2) (by decide) (by decide))
    rw [doA_reg] at HD
    have HBX := hidden hb
    clear hb
    go_upto_region 22 with (go_at_call 20; (with_reducible refine (HD.out).mono ?_); rintro e w6 ⟨rfl, hb8⟩; have HBY := hidden (HBX.out.trans (hb8.mono HBX.out.size)); have HB6 := hidden (HB5.out.trans (HBY.out.mono HB5.out.size)); clear hb8 HBX HBY HD HB5)
    clear HM HPR
    have hR2 := HR2.out
    by_cases hn0 : n = 0
    · have qn : ((n : Int) == 0) = true := by rw [hn0]; rfl
      clear HR2 hR2 hR hn0
      go_wp2_with (first | (go_at_call 19; refine (num18 _ _).mono ?_; rintro e w7 ⟨rfl, e9⟩; rw [e9]; clear e9) | (go_at_call 9; refine (live18 _).mono ?_; rintro e w7 ⟨rfl, hb7⟩; have HB7 := hidden (HB6.out.trans (hb7.mono HB6.out.size)); clear hb7) | fail)
      go_ret
      exact ⟨rfl, HB7.out⟩
    · have qn : ((n : Int) == 0) = false := by rw [beq_eq_false_iff_ne]; omega
      rw [hR2 hn0]
      clear HR2 hR2 hR hn0
      go_wp2_with (first | (go_at_call 19; refine (num18 _ _).mono ?_; rintro e w7 ⟨rfl, e9⟩; rw [e9]; clear e9) | (go_at_call 9; refine (live18 _).mono ?_; rintro e w7 ⟨rfl, hb7⟩; have HB7 := hidden (HB6.out.trans (hb7.mono HB6.out.size)); clear hb7) | fail)
      go_ret
      exact ⟨rfl, HB7.out⟩
  by_cases k15 : X / 16 = 15
  · have q15 : (X : Int) / 16 = 15 := by omega
    have hR : regJ ⟨ZS, 256, z9, 7⟩ A = 3 := by rw [hRG, if_pos (by omega)]
    clear hRG
    go_upto_region 9 with (go_at_call 18; (with_reducible refine (HRD.out).mono ?_); rintro e w4 ⟨rfl, e9⟩; rw [e9]; clear e9)
    go_upto_region 20 with (go_at_call 19; refine (num18 _ _).mono ?_; rintro e w5 ⟨rfl, e9⟩; rw [e9]; clear e9)
    have hb : Below w3.heap.size w3 (w3.alloc (.cells #[.int .u32 (A : Int)] 26)) := (Below.refl _ _).alloc (Nat.le_refl _) _
    have HD : Hid (Calls Try.prog 20 #[.pointer (some ⟨m, 0, none⟩), .slice (some ⟨p, 0, none⟩) 9 9, .int .u32 1, .slice (some ⟨w3.heap.size, 0, none⟩) 1 1] (w3.alloc (.cells #[.int .u32 (A : Int)] 26)) (DRet18 (doA ZS 256 z9 1 [A]) (w3.alloc (.cells #[.int .u32 (A : Int)] 26)))) := hidden (do_good m ZS 256 (some ⟨p, 0, none⟩) 9 z9 1 (some ⟨w3.heap.size, 0, none⟩) 1 1 [A] _ (HM.out.later hb) ((HPR.out.later hb).row hz9 9 (by decide)) (vrow1 w3 A ha2) (by decide) (by decide))
    rw [doA_reg, hR] at HD
    have HBX := hidden hb
    clear hb
    go_upto_region 21 with (go_at_call 20; (with_reducible refine (HD.out).mono ?_); rintro e w5 ⟨rfl, hb8⟩; have HBY := hidden (HBX.out.trans (hb8.mono HBX.out.size)); replace HM := hidden (HM.out.later HBY.out); replace HPR := hidden (HPR.out.later HBY.out); have HB5 := hidden (HB3.out.trans (HBY.out.mono HB3.out.size)); clear hb8 HBX HBY HD HB3)
    have hb : Below w5.heap.size w5 (w5.alloc (.cells #[.int .u32 (C : Int)] 26)) := (Below.refl _ _).alloc (Nat.le_refl _) _
    have HD : Hid (Calls Try.prog 20 #[.pointer (some ⟨m, 0, none⟩), .slice (some ⟨p, 0, none⟩) 9 9, .int .u32 1, .slice (some ⟨w5.heap.size, 0, none⟩) 1 1] (w5.alloc (.cells #[.int .u32 (C : Int)] 26)) (DRet18 (doA ZS 256 z9 1 [C]) (w5.alloc (.cells #[.int .u32 (C : Int)] 26)))) := hidden (do_good m ZS 256 (some ⟨p, 0, none⟩) 9 z9 1 (some ⟨w5.heap.size, 0, none⟩) 1 1 [C] _ (HM.out.later hb) ((HPR.out.later hb).row hz9 9 (by decide)) (vrow1 w5 C hc2) (by decide) (by decide))
    rw [doA_reg] at HD
    have HBX := hidden hb
    clear hb
    go_upto_region 22 with (go_at_call 20; (with_reducible refine (HD.out).mono ?_); rintro e w6 ⟨rfl, hb8⟩; have HBY := hidden (HBX.out.trans (hb8.mono HBX.out.size)); have HB6 := hidden (HB5.out.trans (HBY.out.mono HB5.out.size)); clear hb8 HBX HBY HD HB5)
    clear HM HPR
    have hR2 := HR2.out
    by_cases hn0 : n = 0
    · have qn : ((n : Int) == 0) = true := by rw [hn0]; rfl
      clear HR2 hR2 hR hn0
      go_wp2_with (first | (go_at_call 19; refine (num18 _ _).mono ?_; rintro e w7 ⟨rfl, e9⟩; rw [e9]; clear e9) | (go_at_call 9; refine (live18 _).mono ?_; rintro e w7 ⟨rfl, hb7⟩; have HB7 := hidden (HB6.out.trans (hb7.mono HB6.out.size)); clear hb7) | fail)
      go_ret
      exact ⟨rfl, HB7.out⟩
    · have qn : ((n : Int) == 0) = false := by rw [beq_eq_false_iff_ne]; omega
      rw [hR2 hn0]
      clear HR2 hR2 hR hn0
      go_wp2_with (first | (go_at_call 19; refine (num18 _ _).mono ?_; rintro e w7 ⟨rfl, e9⟩; rw [e9]; clear e9) | (go_at_call 9; refine (live18 _).mono ?_; rintro e w7 ⟨rfl, hb7⟩; have HB7 := hidden (HB6.out.trans (hb7.mono HB6.out.size)); clear hb7) | fail)
      go_ret
      exact ⟨rfl, HB7.out⟩
  obtain ⟨Q, hQ⟩ : ∃ Q, X / 16 = Q := ⟨_, rfl⟩
  have qq : (X : Int) / 16 = (Q : Int) := by omega
  have n7 : ((Q : Int) == 7) = false := by rw [beq_eq_false_iff_ne]; omega
  have n12 : ((Q : Int) == 12) = false := by rw [beq_eq_false_iff_ne]; omega
  have n13 : ((Q : Int) == 13) = false := by rw [beq_eq_false_iff_ne]; omega
  have n14 : ((Q : Int) == 14) = false := by rw [beq_eq_false_iff_ne]; omega
  have n15 : ((Q : Int) == 15) = false := by rw [beq_eq_false_iff_ne]; omega
  have hR : regJ ⟨ZS, 256, z9, 7⟩ A = 0 := by rw [hRG, if_neg (by omega), if_neg (by omega), if_neg (by omega)]
  clear hRG k7 k12 k13 k14 k15 hQ
  go_upto_region 9 with (go_at_call 18; (with_reducible refine (HRD.out).mono ?_); rintro e w4 ⟨rfl, e9⟩; rw [e9]; clear e9)
  go_upto_region 20 with (go_at_call 19; refine (num18 _ _).mono ?_; rintro e w5 ⟨rfl, e9⟩; rw [e9]; clear e9)
  have hb : Below w3.heap.size w3 (w3.alloc (.cells #[.int .u32 (A : Int)] 26)) := (Below.refl _ _).alloc (Nat.le_refl _) _
  have HD : Hid (Calls Try.prog 20 #[.pointer (some ⟨m, 0, none⟩), .slice (some ⟨p, 0, none⟩) 9 9, .int .u32 1, .slice (some ⟨w3.heap.size, 0, none⟩) 1 1] (w3.alloc (.cells #[.int .u32 (A : Int)] 26)) (DRet18 (doA ZS 256 z9 1 [A]) (w3.alloc (.cells #[.int .u32 (A : Int)] 26)))) := hidden (do_good m ZS 256 (some ⟨p, 0, none⟩) 9 z9 1 (some ⟨w3.heap.size, 0, none⟩) 1 1 [A] _ (HM.out.later hb) ((HPR.out.later hb).row hz9 9 (by decide)) (vrow1 w3 A ha2) (by decide) (by decide))
  rw [doA_reg, hR] at HD
  have HBX := hidden hb
  clear hb
  go_upto_region 21 with (go_at_call 20; (with_reducible refine (HD.out).mono ?_); rintro e w5 ⟨rfl, hb8⟩; have HBY := hidden (HBX.out.trans (hb8.mono HBX.out.size)); replace HM := hidden (HM.out.later HBY.out); replace HPR := hidden (HPR.out.later HBY.out); have HB5 := hidden (HB3.out.trans (HBY.out.mono HB3.out.size)); clear hb8 HBX HBY HD HB3)
  have hb : Below w5.heap.size w5 (w5.alloc (.cells #[.int .u32 (C : Int)] 26)) := (Below.refl _ _).alloc (Nat.le_refl _) _
  have HD : Hid (Calls Try.prog 20 #[.pointer (some ⟨m, 0, none⟩), .slice (some ⟨p, 0, none⟩) 9 9, .int .u32 1, .slice (some ⟨w5.heap.size, 0, none⟩) 1 1] (w5.alloc (.cells #[.int .u32 (C : Int)] 26)) (DRet18 (doA ZS 256 z9 1 [C]) (w5.alloc (.cells #[.int .u32 (C : Int)] 26)))) := hidden (do_good m ZS 256 (some ⟨p, 0, none⟩) 9 z9 1 (some ⟨w5.heap.size, 0, none⟩) 1 1 [C] _ (HM.out.later hb) ((HPR.out.later hb).row hz9 9 (by decide)) (vrow1 w5 C hc2) (by decide) (by decide))
  rw [doA_reg] at HD
  have HBX := hidden hb
  clear hb
  go_upto_region 22 with (go_at_call 20; (with_reducible refine (HD.out).mono ?_); rintro e w6 ⟨rfl, hb8⟩; have HBY := hidden (HBX.out.trans (hb8.mono HBX.out.size)); have HB6 := hidden (HB5.out.trans (HBY.out.mono HB5.out.size)); clear hb8 HBX HBY HD HB5)
  clear HM HPR
  have hR2 := HR2.out
  by_cases hn0 : n = 0
  · have qn : ((n : Int) == 0) = true := by rw [hn0]; rfl
    clear HR2 hR2 hR hn0
    go_wp2_with (first | (go_at_call 19; refine (num18 _ _).mono ?_; rintro e w7 ⟨rfl, e9⟩; rw [e9]; clear e9) | (go_at_call 9; refine (live18 _).mono ?_; rintro e w7 ⟨rfl, hb7⟩; have HB7 := hidden (HB6.out.trans (hb7.mono HB6.out.size)); clear hb7) | fail)
    go_ret
    exact ⟨rfl, HB7.out⟩
  · have qn : ((n : Int) == 0) = false := by rw [beq_eq_false_iff_ne]; omega
    rw [hR2 hn0]
    clear HR2 hR2 hR hn0
    go_wp2_with (first | (go_at_call 19; refine (num18 _ _).mono ?_; rintro e w7 ⟨rfl, e9⟩; rw [e9]; clear e9) | (go_at_call 9; refine (live18 _).mono ?_; rintro e w7 ⟨rfl, hb7⟩; have HB7 := hidden (HB6.out.trans (hb7.mono HB6.out.size)); clear hb7) | fail)
    go_ret
    exact ⟨rfl, HB7.out⟩
end Go.Proofs.Ytpgppdkbkkljnaa
