/- Layer 15: the walk of ShelfWide. -/
import Derived.Test.YtmohnopegacahaaV15k
namespace Go.Proofs.Ytmohnopegacahaa
open Go.RowKit
set_option maxHeartbeats 1000000
set_option maxRecDepth 100000
set_option linter.unusedVariables false

set_option maxHeartbeats 8000000 in
theorem wide_main (a : Option Addr) (len cap : Nat) (zs : List Int) (w : World) (h : BRow w a len zs) (hr : Reads w a len cap zs) (hl : len ≤ 4096) :
    Calls Try.prog 4 #[.slice a len cap] w fun e w' => e = .returned (.bool true) ∧ Below w.heap.size w w' := by
  have hln := h.ln
  have HV := hidden h
  have g1 : ¬ ((len : Int) > 4096) := by omega
  have HNW := hidden (lv_new0 w 4096 (by decide))
  have HPU : Hid (∀ w1, Lv w.heap.size w w1 (fun s => s = newS 4096) → Calls Try.prog 17 #[.pointer (some ⟨w.heap.size, 0, none⟩), .string ⟨#[102]⟩, .slice a len cap] w1 fun e w' => e = .returned (.int .i64 0) ∧ Hid (Lv w.heap.size w w' (W0 zs))) := hidden (fun w1 hL => w_put hL a len cap zs (hr.later (by exact hL.1)) hl h.bd (fun h0 y e => by
    obtain ⟨b, o, e2, hc⟩ := h.cells 0 h0
    rw [e] at e2
    injection e2 with e2
    subst e2
    exact cell_lt hc))
  clear h hr
  generalize hBB : w.heap.size = BB at *
  have HBB := hidden hBB
  clear hBB
  have hq4 : IntKind.i64.wrap ((len : Int).tdiv 4) = ((len / 4 : Nat) : Int) := by
    rw [show (len : Int).tdiv 4 = ((len / 4 : Nat) : Int) by rw [Int.tdiv_eq_ediv_of_nonneg (by omega)]; rfl, IntKind.wrap_i64]; omega
  have hq5 : (len : Int).tdiv 4 = ((len / 4 : Nat) : Int) := by rw [Int.tdiv_eq_ediv_of_nonneg (by omega)]; rfl
  have HT2 : Hid (∀ w1, Lv BB w w1 (WP zs 0 0) → Calls Try.prog 15 #[.pointer (some ⟨BB, 0, none⟩), .int .i64 2] w1 fun e w' => e = .returned (.tuple #[.int .i64 0, .int .i64 (len / 4 : Nat), .int .i64 0]) ∧ Hid (Lv BB w w' (WP zs 0 0))) := hidden (fun w1 hL => by have := w_tell2 hL; rw [hln] at this; exact this)
  have HT1 : Hid (∀ w1, Lv BB w w1 (WP zs 0 0) → Calls Try.prog 15 #[.pointer (some ⟨BB, 0, none⟩), .int .i64 1] w1 fun e w' => e = .returned (.tuple #[.int .i64 0, .int .i64 len, .int .i64 0]) ∧ Hid (Lv BB w w' (WP zs 0 0))) := hidden (fun w1 hL => by have := w_tell1 hL; rw [hln] at this; exact this)
  obtain ⟨L4, hL4⟩ : ∃ L4, len / 4 = L4 := ⟨_, rfl⟩
  rw [hL4] at hq4 hq5 HT2
  have HL4 := hidden hL4
  have hL4b : (L4 : Int) ≤ 1024 := by omega
  have hL4c : wrap64 (L4 : Int) = L4 := by unfold wrap64; omega
  clear hL4
  go_enter Try.func4, Try.ntmps4
  go_upto_region 13 with (first | (go_at_call 9; refine HNW.out.mono ?_; rintro e w2 ⟨rfl, H2⟩) | (go_at_call 17; refine (HPU.out _ H2.out).mono ?_; rintro e w3 ⟨rfl, H3⟩) | (go_at_call 12; (with_reducible refine (w_open1 H3.out).mono ?_); rintro e w4 ⟨rfl, H4⟩) | (go_at_call 12; (with_reducible refine (w_open2 H4.out).mono ?_); rintro e w5 ⟨rfl, H5⟩) | (go_at_call 15; (with_reducible refine (HT1.out _ H5.out).mono ?_); rintro e w6 ⟨rfl, H6⟩) | (go_at_call 15; (with_reducible refine (HT2.out _ H6.out).mono ?_); rintro e w7 ⟨rfl, H7⟩) | (go_at_call 10; refine (num15 _ _ (by omega) (by omega)).mono ?_; rintro e w12 ⟨rfl, e9⟩; rw [e9]; clear e9) | fail)
  clear HNW HPU HT1 HT2 H2 H3 H4 H5 H6 hq4 hq5
  go_loopw [15] (fun i w' => ∃ I : Nat, i = .int .i64 I ∧ I ≤ len ∧ Hid (Lv BB w w' (WP zs I (I / 4)))) (fun i _ => len - (intOf i).toNat)
  case atStart => exact ⟨0, rfl, by omega, H7⟩
  case round =>
    clear H7
    obtain ⟨I, rfl, hI, HLV⟩ := hrel
    by_cases hlt : I < len
    · have l1 : (I : Int) < len := by omega
      have l0 : (0 : Int) ≤ (I : Int) := by omega
      have HRD := hidden (w_read1 HLV.out (by omega))
      obtain ⟨C, hC⟩ : ∃ C, zs.getD I 0 = C := ⟨_, rfl⟩
      rw [hC] at HRD
      have HCC := hidden hC
      have HCB : Hid (0 ≤ C ∧ C ≤ 255) := hidden (by
        rw [← hC]
        have := HV.out.bd (zs.getD I 0) (by rw [List.getD_eq_getElem?_getD, List.getElem?_eq_getElem (by omega)]; exact List.getElem_mem _)
        exact this)
      clear hC HLV
      have m1 : IntKind.u32.wrap C = C := by have := HCB.out; rw [IntKind.wrap_u32]; omega
      go_upto_region 16 with (first | (go_at_call 16; refine HRD.out.mono ?_; rintro e w5 ⟨rfl, H5⟩) | fail)
      clear HRD
      have HBE : Hid (Below w.heap.size w w5) := hidden (by rw [HBB.out]; exact H5.out.1)
      have HV5 := hidden (HV.out.later HBE.out)
      obtain ⟨b, o, ea, ec⟩ := HV5.out.cells I hlt
      rw [HCC.out] at ec
      subst ea
      have r4 : IntKind.i64.wrap ((I : Int).tmod 4) = ((I % 4 : Nat) : Int) := by
        rw [show (I : Int).tmod 4 = ((I % 4 : Nat) : Int) by rw [Int.tmod_eq_emod_of_nonneg (by omega)]; rfl, IntKind.wrap_i64]; omega
      have r5 : (I : Int).tmod 4 = ((I % 4 : Nat) : Int) := by rw [Int.tmod_eq_emod_of_nonneg (by omega)]; rfl
      obtain ⟨R4, hR4⟩ : ∃ R4, I % 4 = R4 := ⟨_, rfl⟩
      rw [hR4] at r4 r5
      have HR4 := hidden hR4
      clear hR4
      have e1 : IntKind.i64.wrap ((I : Int) + 1) = ((I + 1 : Nat) : Int) := by rw [IntKind.wrap_i64]; omega
      by_cases h3 : R4 = 3
      · have h3i : ((R4 : Int) == 3) = true := by rw [h3]; rfl
        have H3R := hidden h3
        clear h3
        have hI4 : I = 4 * (I / 4) + 3 := by have := HR4.out; have := H3R.out; omega
        obtain ⟨A3, hA3⟩ : ∃ A3, I - 3 = A3 := ⟨_, rfl⟩
        obtain ⟨A2, hA2⟩ : ∃ A2, I - 2 = A2 := ⟨_, rfl⟩
        obtain ⟨A1, hA1⟩ : ∃ A1, I - 1 = A1 := ⟨_, rfl⟩
        have s3 : IntKind.i64.wrap ((I : Int) - 3) = (A3 : Int) := by rw [IntKind.wrap_i64]; omega
        have s2 : IntKind.i64.wrap ((I : Int) - 2) = (A2 : Int) := by rw [IntKind.wrap_i64]; omega
        have s1 : IntKind.i64.wrap ((I : Int) - 1) = (A1 : Int) := by rw [IntKind.wrap_i64]; omega
        have HR2 := hidden (w_read2 H5.out (show I / 4 < zs.length / 4 by rw [hln]; omega))
        have hbe : beV zs (I / 4 * 4) 4 = zs.getD A3 0 * 16777216 + zs.getD A2 0 * 65536 + zs.getD A1 0 * 256 + C := by
          rw [beV4, show I / 4 * 4 = A3 by omega, show A3 + 1 = A2 by omega, show A3 + 2 = A1 by omega, show A3 + 3 = I by omega, HCC.out]
          omega
        rw [hbe] at HR2
        have HCE : Hid (∀ w6, Below w.heap.size w w6 → w6.cell? ⟨b, o + A3, none⟩ = some (.int .u8 (zs.getD A3 0)) ∧ w6.cell? ⟨b, o + A2, none⟩ = some (.int .u8 (zs.getD A2 0)) ∧ w6.cell? ⟨b, o + A1, none⟩ = some (.int .u8 (zs.getD A1 0))) := hidden (fun w6 hb => by
          have hv := HV.out.later hb
          have key : ∀ k, k < len → w6.cell? ⟨b, o + k, none⟩ = some (.int .u8 (zs.getD k 0)) := fun k hk => by
            obtain ⟨b3, o3, ea3, ec3⟩ := hv.cells k hk
            injection ea3 with ea3
            injection ea3 with eb3 eo3
            subst eb3 eo3
            exact ec3
          exact ⟨key A3 (by omega), key A2 (by omega), key A1 (by omega)⟩)
        have hzb : ∀ k, k < len → 0 ≤ zs.getD k 0 ∧ zs.getD k 0 ≤ 255 := fun k hk => HV.out.bd _ (by rw [List.getD_eq_getElem?_getD, List.getElem?_eq_getElem (by omega)]; exact List.getElem_mem _)
        have z3 := hzb A3 (by omega)
        have z2 := hzb A2 (by omega)
        have z1 := hzb A1 (by omega)
        have q3 : (A3 : Int) < (len : Int) := by omega
        have q2 : (A2 : Int) < (len : Int) := by omega
        have q1 : (A1 : Int) < (len : Int) := by omega
        have q0 : (0 : Int) ≤ (A3 : Int) ∧ (0 : Int) ≤ (A2 : Int) ∧ (0 : Int) ≤ (A1 : Int) := by omega
        obtain ⟨q00, q01, q02⟩ := q0
        clear hzb hbe
        generalize zs.getD A3 0 = X3 at *
        generalize zs.getD A2 0 = X2 at *
        generalize zs.getD A1 0 = X1 at *
        have HNX : Hid (∀ w6, Lv BB w w6 (WP zs (I + 1) (I / 4 + 1)) → Lv BB w w6 (WP zs (I + 1) ((I + 1) / 4))) := hidden (fun w6 hL => by rw [show (I + 1) / 4 = I / 4 + 1 by omega]; exact hL)
        have u3 : IntKind.u32.wrap X3 = X3 := by rw [IntKind.wrap_u32]; omega
        have u2_ : IntKind.u32.wrap X2 = X2 := by rw [IntKind.wrap_u32]; omega
        have u1 : IntKind.u32.wrap X1 = X1 := by rw [IntKind.wrap_u32]; omega
        have hxb := HCB.out
        clear hI4 hA3 hA2 hA1 HV HV5 HBE HCC HCB HR4 H3R
        go_upto_region 20 with (first | (go_at_call 16; refine HR2.out.mono ?_; rintro e w6 ⟨rfl, H6⟩) | fail)
        obtain ⟨c3, c2, c1⟩ := HCE.out w6 (by rw [HBB.out]; exact H6.out.1)
        clear HCE HR2 H5
        have HN7 : Hid (∀ k, Lv BB w (w6.drewN k) (WP zs (I + 1) ((I + 1) / 4))) := hidden (fun k => HNX.out _ (H6.out.later (show Below w6.heap.size w6 (w6.drewN k) from ⟨rfl, rfl, rfl, Nat.le_refl _, fun _ _ => rfl⟩)))
        go_quiet (fail)
        all_goals (try go_wp2)
        go_roundw
        case rel => exact ⟨I + 1, by first | rfl | go_num, by omega, hidden (HN7.out _)⟩
        case measure => simp [intOf]; omega
      · have h3i : ((R4 : Int) == 3) = false := by rw [beq_eq_false_iff_ne]; omega
        have HN : Hid (Lv BB w w5 (WP zs (I + 1) ((I + 1) / 4))) := hidden (by
          have h4 := HR4.out
          rw [show (I + 1) / 4 = I / 4 by omega]
          exact H5.out)
        clear H5 HV HV5 HBE HCC HCB HR4 h3
        go_wp2
        go_roundw
        case rel => exact ⟨I + 1, by first | rfl | go_num, by omega, HN⟩
        case measure => simp [intOf]; omega
    · obtain rfl : I = len := by omega
      have l1 : ¬ ((I : Int) < (I : Int)) := by omega
      have HE1 := hidden (w_end1 HLV.out (by omega))
      have HE2 : Hid (∀ w1, Lv BB w w1 (WP zs I (I / 4)) → _) := hidden (fun w1 hL => w_end2 hL (by rw [hln]; exact Nat.le_refl _))
      have HLIV : Hid (∀ w5, Below BB w w5 → Calls Try.prog 11 #[] w5 fun e w' => e = .returned (.bool true) ∧ Hid (Below BB w w')) := hidden (fun w5 hb => (live_any w5).mono (fun e w' hh => ⟨hh.1, hidden (hb.trans (hh.2.mono (by have := hb.size; have := HBB.out; omega)))⟩))
      clear HLV HV
      go_wp2_with (first | (go_at_call 16; (with_reducible refine HE1.out.mono ?_); rintro e w2 ⟨rfl, H2⟩) | (go_at_call 16; (with_reducible refine (HE2.out _ H2.out).mono ?_); rintro e w3 ⟨rfl, H3⟩) | (go_at_call 12; refine (w_there H3.out).mono ?_; rintro e w4 ⟨rfl, H4⟩) | (go_at_call 18; refine (w_del H4.out).mono ?_; rintro e w5 ⟨rfl, H5⟩) | (go_at_call 10; refine (num15 _ _ (by omega) (by omega)).mono ?_; rintro e w12 ⟨rfl, e9⟩; rw [e9]; clear e9) | (go_at_call 11; refine (HLIV.out _ H5.out).mono ?_; rintro e w6 ⟨rfl, H6⟩) | fail)
      go_ret
      exact ⟨rfl, by first | exact H6.out | (rw [HBB.out]; exact H6.out)⟩
theorem shelfWide_walk (a : Option Addr) (len cap : Nat) (zs : List Int) (w : World) (h : IsRow .u8 w a len cap zs) :
    Calls Try.prog 4 #[.slice a len cap] w fun e w' => e = .returned (.bool true) ∧ Below w.heap.size w w' := by
  obtain ⟨xs, hv, hr, hlc⟩ := brow_of h
  by_cases hl : len ≤ 4096
  · exact wide_main a len cap xs w hv hr hl
  · have g1 : (len : Int) > 4096 := by omega
    clear h hv hr hl
    go_enter Try.func4, Try.ntmps4
    go_wp2_with (go_at_call 11; refine (live_any _).mono ?_; rintro e w13 ⟨rfl, hb13⟩)
    go_ret
    exact ⟨rfl, hb13⟩
end Go.Proofs.Ytmohnopegacahaa
