/- Layer 15: the walk of ShelfLines. -/
import Derived.Test.YtmohnopegacahaaV15c
namespace Go.Proofs.Ytmohnopegacahaa
open Go.RowKit
set_option maxHeartbeats 1000000
set_option maxRecDepth 100000
set_option linter.unusedVariables false

set_option maxHeartbeats 8000000 in
theorem lines_main (a : Option Addr) (len cap : Nat) (xs : List Nat) (most : Nat) (w : World) (h : VRow w a len xs) (hl : len ≤ 4096) (hlc : len ≤ cap) (hm : most ≤ 255) :
    Calls Try.prog 7 #[.slice a len cap, .int .u8 most] w fun e w' => e = .returned (.bool true) ∧ Below w.heap.size w w' := by
  have hln := h.ln
  have HV := hidden h
  have g1 : ¬ ((len : Int) > 4096) := by omega
  have HNW := hidden (lv_new0 w 0 (by decide))
  have HBU : Hid (∀ w1, Lv w.heap.size w w1 (fun s => s = newS 0) → Calls Try.prog 21 #[.pointer (some ⟨w.heap.size, 0, none⟩), .slice a len cap, .int .i64 2, .bool true] w1 fun e w' => e = .returned (.tuple #[.int .i64 1, .int .i64 0]) ∧ Hid (Lv w.heap.size w w' (BP 2 true (intsL xs) 0 0 0))) := hidden (fun w1 hL => by
    have := lv_buf hL a xs len cap (h.later (by exact hL.1)) (by omega) 2 true (by simp)
    rw [asL_wide] at this
    exact this)
  have HLI : Hid (∀ w1 pl rd M, Lv w.heap.size w w1 (BP 2 true (intsL xs) pl rd 0) → _) := hidden (fun w1 pl rd (M : Int) hL => lv_line hL h.bd (by decide) M)
  clear h
  generalize hBB : w.heap.size = BB at *
  have HBB := hidden hBB
  clear hBB
  go_enter Try.func7, Try.ntmps7
  go_upto_region 11 with (first | (go_at_call 9; refine HNW.out.mono ?_; rintro e w2 ⟨rfl, H2⟩) | (go_at_call 21; refine (HBU.out _ H2.out).mono ?_; rintro e w3 ⟨rfl, H3⟩) | (go_at_call 10; refine (num15 _ _ (by omega) (by omega)).mono ?_; rintro e w12 ⟨rfl, e9⟩; rw [e9]; clear e9) | fail)
  clear HNW HBU H2
  have m1 : IntKind.i64.wrap (most : Int) = most := by rw [IntKind.wrap_i64]; omega
  go_loopw [9, 10] (fun at_ i w' => ∃ A I : Nat, at_ = .int .i64 A ∧ i = .int .i64 I ∧ I ≤ len + 1 ∧ A ≤ len ∧ Hid (most = 0 ∨ min I len ≤ A) ∧ ∃ rd, Hid (Lv BB w w' (BP 2 true (intsL xs) A rd 0))) (fun _ i _ => len + 1 - (intOf i).toNat)
  case atStart => exact ⟨0, 0, rfl, rfl, by omega, by omega, hidden (by omega), 0, H3⟩
  case round =>
    clear H3
    obtain ⟨A, I, rfl, rfl, hI, hA, HP, rd, HLV⟩ := hrel
    by_cases hlt : I ≤ len
    · have l1 : (I : Int) ≤ len := by omega
      have HL := hidden (HLI.out wr A rd (most : Int) HLV.out)
      clear HLI HLV
      go_upto_region 14 with (first | (go_at_call 23; refine HL.out.mono ?_; rintro e w4 ⟨n, xa, xc, rfl, H4⟩) | fail)
      clear HL
      have HN : Hid (n ≤ most ∧ n ≤ len - A ∧ (∀ k, k + 1 < n → (xs.drop A).getD k 0 ≠ 10) ∧ (n < len - A → n < most → 0 < n ∧ (xs.drop A).getD (n - 1) 0 = 10) ∧ (0 < most → 0 < len - A → 0 < n)) := hidden (by
        obtain ⟨q1, q2, _, _⟩ := H4.out
        obtain ⟨i1, i2, i3, i4, i5, i6⟩ := lineL_spec (intsL (xs.drop A)) (most : Int).toNat
        rw [q1] at i2 i3 i4 i5 i6
        rw [ints_len, List.length_drop, hln] at i3 i5 i6
        rw [Int.toNat_natCast] at i2 i5 i6
        refine ⟨i2, i3, fun k hk e => i4 k hk (by rw [ints_getD, e]; rfl), fun a1 a2 => ?_, i6⟩
        obtain ⟨j1, j2⟩ := i5 a1 a2
        rw [ints_getD] at j2
        exact ⟨j1, by omega⟩)
      have HX := hidden H4.out.2.2.1
      have HLV4 := hidden H4.out.2.2.2
      clear H4
      have hn1 := HN.out.1
      have hn2 := HN.out.2.1
      obtain ⟨LA, hLA⟩ : ∃ LA, len - A = LA := ⟨_, rfl⟩
      obtain ⟨A2, hA2⟩ : ∃ A2, A + n = A2 := ⟨_, rfl⟩
      have d1 : ¬ most < n := by omega
      have d1i : ¬ (most : Int) < (n : Int) := by omega
      have d2 : IntKind.i64.wrap ((len : Int) - (A : Int)) = (LA : Int) := by rw [IntKind.wrap_i64]; omega
      have d3 : ¬ LA < n := by omega
      have d3i : ¬ (LA : Int) < (n : Int) := by omega
      have d4 : IntKind.i64.wrap ((A : Int) + (n : Int)) = (A2 : Int) := by rw [IntKind.wrap_i64]; omega
      have d5 : (A : Int) ≤ (A2 : Int) := by omega
      have d6 : (A2 : Int) ≤ (cap : Int) := by omega
      have d7 : (0 : Int) ≤ (A : Int) := by omega
      have d8 : A2 - A = n := by omega
      have HA2 := hidden hA2
      have HLA := hidden hLA
      have HBE : Hid (Below w.heap.size w w4) := hidden (by rw [HBB.out]; exact HLV4.out.1)
      have HVX := hidden (HV.out.later HBE.out)
      have HSM : Hid (∀ P c, (P = if cap = A then a else a.map (fun x => x.add A)) → Calls Try.prog 22 #[.slice xa n xc, .slice P n c] w4 fun e w' => e = .returned (.bool true) ∧ Hid (Dr w4 w')) := hidden (fun P c hP => by
        have hv : VRow w4 P n ((xs.drop A).take n) := by
          by_cases h0 : n = 0
          · subst h0; rw [List.take_zero]; exact vrow_zero _ _
          · obtain ⟨b, o, ha, _⟩ := HVX.out.cells 0 (by omega)
            subst ha
            rw [if_neg (by omega)] at hP
            rw [hP, Option.map_some, Addr.add_lit]
            exact vrow_sub (p := A) (k := n) HVX.out (by omega)
        have := same_any xa P n n xc c _ _ w4 HX.out hv (by omega)
        rw [decide_eq_true rfl] at this
        exact this.mono (fun e w' hh => ⟨hh.1, hidden hh.2⟩))
      have HNE : Hid (∀ k, k + 1 < n → ∃ b o X, xa = some ⟨b, o, none⟩ ∧ (∀ w5, Dr w4 w5 → w5.cell? ⟨b, o + k, none⟩ = some (.int .u32 X)) ∧ (X == 10) = false) := hidden (fun k hk => by
        obtain ⟨b, o, e, hc⟩ := HX.out.cells k (by omega)
        refine ⟨b, o, _, e, fun w5 hd => by obtain ⟨q, rfl⟩ := hd; exact hc, ?_⟩
        have h1 := HN.out.2.2.1 k hk
        have e2 : ((xs.drop A).take n).getD k 0 = (xs.drop A).getD k 0 := by simp only [List.getD_eq_getElem?_getD, List.getElem?_take, if_pos (show k < n by omega)]
        rw [e2]
        rw [beq_eq_false_iff_ne]
        omega)
      have HLA1 : Hid (A2 < len → n < most → 0 < n ∧ ∃ b o, xa = some ⟨b, o, none⟩ ∧ (∀ w5, Dr w4 w5 → w5.cell? ⟨b, o + (n - 1), none⟩ = some (.int .u32 10))) := hidden (fun a1 a2 => by
        obtain ⟨j1, j2⟩ := HN.out.2.2.2.1 (by omega) a2
        obtain ⟨b, o, e, hc⟩ := HX.out.cells (n - 1) (by omega)
        refine ⟨j1, b, o, e, fun w5 hd => ?_⟩
        obtain ⟨q, rfl⟩ := hd
        have e2 : ((xs.drop A).take n).getD (n - 1) 0 = (xs.drop A).getD (n - 1) 0 := by simp only [List.getD_eq_getElem?_getD, List.getElem?_take, if_pos (show n - 1 < n by omega)]
        rw [e2, j2] at hc
        exact hc)
      have HPN : Hid (A2 ≤ len ∧ (most = 0 ∨ min (I + 1) len ≤ A2)) := hidden (by
        have h1 := HP.out
        have h2 := HN.out.2.2.2.2
        refine ⟨by omega, ?_⟩
        by_cases h0 : most = 0
        · exact .inl h0
        · refine .inr ?_
          by_cases h3 : A < len
          · have := h2 (by omega) (by omega)
            omega
          · omega)
      have HLVE : Hid (∀ w5, Dr w4 w5 → Lv BB w w5 (BP 2 true (intsL xs) A2 (upI rd n) 0)) := hidden (fun w5 hd => by rw [← HA2.out]; exact HLV4.out.later hd.below)
      clear HX HLV4 HN HP HVX HV HBE hLA hA2 hn1 hn2
      clear HA2 HLA
      rcases (show A = cap ∨ ¬ cap = A by omega) with hcA | hcA
      · subst hcA
        go_upto_region 17 with (first | (go_at_call 10; refine (num15 _ _ (by omega) (by omega)).mono ?_; rintro e w12 ⟨rfl, e9⟩; rw [e9]; clear e9) | (go_at_call 22; refine (HSM.out _ _ (by cases a <;> simp)).mono ?_; rintro e w5 ⟨rfl, H5⟩) | fail)
        clear HSM
        all_goals (
          have e1 : IntKind.i64.wrap ((I : Int) + 1) = ((I + 1 : Nat) : Int) := by rw [IntKind.wrap_i64]; omega
          have HLV5 := hidden (HLVE.out w5 H5.out)
          have HNE5 : Hid (∀ k, k + 1 < n → ∃ b o X, xa = some ⟨b, o, none⟩ ∧ w5.cell? ⟨b, o + k, none⟩ = some (.int .u32 X) ∧ (X == 10) = false) := hidden (fun k hk => by
            obtain ⟨b, o, X, q1, q2, q3⟩ := HNE.out k hk
            exact ⟨b, o, X, q1, q2 w5 H5.out, q3⟩)
          have HLA5 : Hid (A2 < len → n < most → 0 < n ∧ ∃ b o, xa = some ⟨b, o, none⟩ ∧ w5.cell? ⟨b, o + (n - 1), none⟩ = some (.int .u32 10)) := hidden (fun b1 b2 => by
            obtain ⟨j1, b, o, q1, q2⟩ := HLA1.out b1 b2
            exact ⟨j1, b, o, q1, q2 w5 H5.out⟩)
          clear HLVE HNE HLA1 H5
          go_loopw [13] (fun k w' => w' = w5 ∧ ∃ K : Nat, k = .int .i64 K ∧ K ≤ n) (fun k _ => n - (intOf k).toNat)
          case atStart => exact ⟨rfl, 0, rfl, Nat.zero_le _⟩
          case round =>
            obtain ⟨rfl, K, rfl, hK⟩ := hrel
            have e2 : IntKind.i64.wrap ((K : Int) + 1) = ((K + 1 : Nat) : Int) := by rw [IntKind.wrap_i64]; omega
            by_cases hk : K + 1 < n
            · have k1 : ((K + 1 : Nat) : Int) < (n : Int) := by omega
              have k2 : (0 : Int) ≤ (K : Int) := by omega
              have k3 : (K : Int) < (n : Int) := by omega
              have k4 : K < n := by omega
              obtain ⟨b, o, X, rfl, hc, hX⟩ := HNE5.out K hk
              clear HNE5 HLA5 HLV5
              go_wp2
              all_goals (
                go_roundw
                case rel => exact ⟨by first | rfl | trivial, K + 1, by first | rfl | go_num, by omega⟩
                case measure => simp [intOf]; omega)
            · have k1 : ¬ ((K + 1 : Nat) : Int) < (n : Int) := by omega
              have k2 : ¬ (K + 1 < n) := hk
              clear HNE5
              by_cases c1 : A2 < len
              · by_cases c2 : n < most
                · obtain ⟨c3, b, o, rfl, hc⟩ := HLA5.out c1 c2
                  clear HLA5
                  have c1i : (A2 : Int) < (len : Int) := by omega
                  have c2i : (n : Int) < (most : Int) := by omega
                  have c3i : ((n : Int) == 0) = false := by rw [beq_eq_false_iff_ne]; omega
                  obtain ⟨N1, hN1⟩ : ∃ N1, n - 1 = N1 := ⟨_, rfl⟩
                  have c4 : IntKind.i64.wrap ((n : Int) - 1) = (N1 : Int) := by rw [IntKind.wrap_i64]; omega
                  have c5 : (0 : Int) ≤ (N1 : Int) := by omega
                  have c6 : (N1 : Int) < (n : Int) := by omega
                  have c7 : N1 < n := by omega
                  rw [hN1] at hc
                  clear hN1
                  go_wp2
                  all_goals (
                    go_roundw
                    case rel => exact ⟨A2, I + 1, rfl, by first | rfl | go_num, by omega, HPN.out.1, hidden HPN.out.2, _, HLV5⟩
                    case measure => simp [intOf]; omega)
                · have c1i : (A2 : Int) < (len : Int) := by omega
                  have c2i : ¬ (n : Int) < (most : Int) := by omega
                  clear HLA5
                  go_wp2
                  all_goals (
                    go_roundw
                    case rel => exact ⟨A2, I + 1, rfl, by first | rfl | go_num, by omega, HPN.out.1, hidden HPN.out.2, _, HLV5⟩
                    case measure => simp [intOf]; omega)
              · have c1i : ¬ (A2 : Int) < (len : Int) := by omega
                clear HLA5
                go_wp2
                all_goals (
                  go_roundw
                  case rel => exact ⟨A2, I + 1, rfl, by first | rfl | go_num, by omega, HPN.out.1, hidden HPN.out.2, _, HLV5⟩
                  case measure => simp [intOf]; omega))
      · go_upto_region 17 with (first | (go_at_call 10; refine (num15 _ _ (by omega) (by omega)).mono ?_; rintro e w12 ⟨rfl, e9⟩; rw [e9]; clear e9) | (go_at_call 22; refine (HSM.out _ _ (by cases a <;> simp [hcA])).mono ?_; rintro e w5 ⟨rfl, H5⟩) | fail)
        clear HSM
        all_goals (
          have e1 : IntKind.i64.wrap ((I : Int) + 1) = ((I + 1 : Nat) : Int) := by rw [IntKind.wrap_i64]; omega
          have HLV5 := hidden (HLVE.out w5 H5.out)
          have HNE5 : Hid (∀ k, k + 1 < n → ∃ b o X, xa = some ⟨b, o, none⟩ ∧ w5.cell? ⟨b, o + k, none⟩ = some (.int .u32 X) ∧ (X == 10) = false) := hidden (fun k hk => by
            obtain ⟨b, o, X, q1, q2, q3⟩ := HNE.out k hk
            exact ⟨b, o, X, q1, q2 w5 H5.out, q3⟩)
          have HLA5 : Hid (A2 < len → n < most → 0 < n ∧ ∃ b o, xa = some ⟨b, o, none⟩ ∧ w5.cell? ⟨b, o + (n - 1), none⟩ = some (.int .u32 10)) := hidden (fun b1 b2 => by
            obtain ⟨j1, b, o, q1, q2⟩ := HLA1.out b1 b2
            exact ⟨j1, b, o, q1, q2 w5 H5.out⟩)
          clear HLVE HNE HLA1 H5
          go_loopw [13] (fun k w' => w' = w5 ∧ ∃ K : Nat, k = .int .i64 K ∧ K ≤ n) (fun k _ => n - (intOf k).toNat)
          case atStart => exact ⟨rfl, 0, rfl, Nat.zero_le _⟩
          case round =>
            obtain ⟨rfl, K, rfl, hK⟩ := hrel
            have e2 : IntKind.i64.wrap ((K : Int) + 1) = ((K + 1 : Nat) : Int) := by rw [IntKind.wrap_i64]; omega
            by_cases hk : K + 1 < n
            · have k1 : ((K + 1 : Nat) : Int) < (n : Int) := by omega
              have k2 : (0 : Int) ≤ (K : Int) := by omega
              have k3 : (K : Int) < (n : Int) := by omega
              have k4 : K < n := by omega
              obtain ⟨b, o, X, rfl, hc, hX⟩ := HNE5.out K hk
              clear HNE5 HLA5 HLV5
              go_wp2
              all_goals (
                go_roundw
                case rel => exact ⟨by first | rfl | trivial, K + 1, by first | rfl | go_num, by omega⟩
                case measure => simp [intOf]; omega)
            · have k1 : ¬ ((K + 1 : Nat) : Int) < (n : Int) := by omega
              have k2 : ¬ (K + 1 < n) := hk
              clear HNE5
              by_cases c1 : A2 < len
              · by_cases c2 : n < most
                · obtain ⟨c3, b, o, rfl, hc⟩ := HLA5.out c1 c2
                  clear HLA5
                  have c1i : (A2 : Int) < (len : Int) := by omega
                  have c2i : (n : Int) < (most : Int) := by omega
                  have c3i : ((n : Int) == 0) = false := by rw [beq_eq_false_iff_ne]; omega
                  obtain ⟨N1, hN1⟩ : ∃ N1, n - 1 = N1 := ⟨_, rfl⟩
                  have c4 : IntKind.i64.wrap ((n : Int) - 1) = (N1 : Int) := by rw [IntKind.wrap_i64]; omega
                  have c5 : (0 : Int) ≤ (N1 : Int) := by omega
                  have c6 : (N1 : Int) < (n : Int) := by omega
                  have c7 : N1 < n := by omega
                  rw [hN1] at hc
                  clear hN1
                  go_wp2
                  all_goals (
                    go_roundw
                    case rel => exact ⟨A2, I + 1, rfl, by first | rfl | go_num, by omega, HPN.out.1, hidden HPN.out.2, _, HLV5⟩
                    case measure => simp [intOf]; omega)
                · have c1i : (A2 : Int) < (len : Int) := by omega
                  have c2i : ¬ (n : Int) < (most : Int) := by omega
                  clear HLA5
                  go_wp2
                  all_goals (
                    go_roundw
                    case rel => exact ⟨A2, I + 1, rfl, by first | rfl | go_num, by omega, HPN.out.1, hidden HPN.out.2, _, HLV5⟩
                    case measure => simp [intOf]; omega)
              · have c1i : ¬ (A2 : Int) < (len : Int) := by omega
                clear HLA5
                go_wp2
                all_goals (
                  go_roundw
                  case rel => exact ⟨A2, I + 1, rfl, by first | rfl | go_num, by omega, HPN.out.1, hidden HPN.out.2, _, HLV5⟩
                  case measure => simp [intOf]; omega))
    · obtain rfl : I = len + 1 := by omega
      have l1 : ¬ (((len + 1 : Nat) : Int) ≤ (len : Int)) := by omega
      have HL := hidden (HLI.out wr A rd (-1) HLV.out)
      have HF : Hid (most = 0 ∨ A = len) := hidden (by have := HP.out; omega)
      have HLIV : Hid (∀ w5, Below BB w w5 → Calls Try.prog 11 #[] w5 fun e w' => e = .returned (.bool true) ∧ Hid (Below BB w w')) := hidden (fun w5 hb => (live_any w5).mono (fun e w' hh => ⟨hh.1, hidden (hb.trans (hh.2.mono (by have := hb.size; have := HBB.out; omega)))⟩))
      clear HLI HLV HP HV
      go_upto_region 25 with (first | (go_at_call 23; refine HL.out.mono ?_; rintro e w4 ⟨n, xa, xc, rfl, H4⟩) | fail)
      obtain rfl : n = 0 := by
        have := H4.out.1
        rw [show (-1 : Int).toNat = 0 from rfl, lineL_none] at this
        exact this.symm
      have HLV2 := hidden (HLIV.out w4 H4.out.2.2.2.1)
      clear HL H4 HLIV
      by_cases hal : A = len
      · subst hal
        go_wp2_with (first | (go_at_call 10; refine (num15 _ _ (by omega) (by omega)).mono ?_; rintro e w12 ⟨rfl, e9⟩; rw [e9]; clear e9) | (go_at_call 11; refine HLV2.out.mono ?_; rintro e w5 ⟨rfl, H5⟩) | fail)
        go_ret
        exact ⟨rfl, by first | exact H5.out | (rw [HBB.out]; exact H5.out)⟩
      · have c1 : ((A : Int) == (len : Int)) = false := by rw [beq_eq_false_iff_ne]; omega
        obtain rfl : most = 0 := by have := HF.out; omega
        go_wp2_with (first | (go_at_call 10; refine (num15 _ _ (by omega) (by omega)).mono ?_; rintro e w12 ⟨rfl, e9⟩; rw [e9]; clear e9) | (go_at_call 11; refine HLV2.out.mono ?_; rintro e w5 ⟨rfl, H5⟩) | fail)
        go_ret
        exact ⟨rfl, by first | exact H5.out | (rw [HBB.out]; exact H5.out)⟩
theorem shelfLines_walk (a : Option Addr) (len cap : Nat) (zs : List Int) (most : Int) (w : World) (h : IsRow .u32 w a len cap zs) (hm : (Lit.int .u8 most).wf = true) :
    Calls Try.prog 7 #[.slice a len cap, .int .u8 most] w fun e w' => e = .returned (.bool true) ∧ Below w.heap.size w w' := by
  obtain ⟨xs, hv, hlc, hlm⟩ := vrow_of h
  have hb1 := bounds_u8 hm
  obtain ⟨M, rfl⟩ := Int.eq_ofNat_of_zero_le hb1.1
  by_cases hl : len ≤ 4096
  · exact lines_main a len cap xs M w hv hl hlc (by omega)
  · have g1 : (len : Int) > 4096 := by omega
    clear h hv hm hl
    go_enter Try.func7, Try.ntmps7
    go_wp2_with (go_at_call 11; refine (live_any _).mono ?_; rintro e w13 ⟨rfl, hb13⟩)
    go_ret
    exact ⟨rfl, hb13⟩
end Go.Proofs.Ytmohnopegacahaa
