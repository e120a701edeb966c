/- Layer 15: the walk of ShelfBuffers. -/
import Derived.Test.YtmohnopegacahaaV15e
namespace Go.Proofs.Ytmohnopegacahaa
open Go.RowKit
set_option maxHeartbeats 1000000
set_option maxRecDepth 100000
set_option linter.unusedVariables false

theorem asL_nat (xs : List Nat) (wide : Bool) (h : ∀ x ∈ xs, x < 4294967296) : ∃ N : List Nat, asL xs wide = intsL N ∧ N.length = xs.length ∧ (∀ x ∈ N, x < 4294967296) ∧ ∀ j, j < xs.length → ((N.getD j 0 : Nat) : Int) = asW ((xs.getD j 0 : Nat) : Int) wide := by
  refine ⟨xs.map (fun x : Nat => (asW (x : Int) wide).toNat), ?_, by simp, fun x hx => ?_, fun j hj => ?_⟩
  · unfold asL intsL
    rw [List.map_map]
    refine List.map_congr_left (fun x hx => ?_)
    have := asW_bd (x : Int) wide (by have := h x hx; omega)
    simp only [Function.comp]
    omega
  · obtain ⟨y, hy, rfl⟩ := List.mem_map.1 hx
    have := asW_bd (y : Int) wide (by have := h y hy; omega)
    omega
  · have hm : xs.getD j 0 ∈ xs := by rw [List.getD_eq_getElem?_getD, List.getElem?_eq_getElem hj]; exact List.getElem_mem hj
    have := asW_bd ((xs.getD j 0 : Nat) : Int) wide (by have := h _ hm; omega)
    have e : (xs.map (fun x : Nat => (asW (x : Int) wide).toNat)).getD j 0 = (asW ((xs.getD j 0 : Nat) : Int) wide).toNat := by
      simp [List.getD_eq_getElem?_getD, hj]
    rw [e]
    omega
theorem wnt_at (xs ys : List Nat) (j : Nat) (hj : j < xs.length) : (wnt xs ys).getD j 0 = if j < ys.length then ys.getD j 0 else xs.getD j 0 := by
  unfold wnt
  simp only [List.getD_eq_getElem?_getD]
  by_cases h : j < ys.length
  · rw [if_pos h, List.getElem?_append_left (by rw [List.length_take]; omega), List.getElem?_take_of_lt hj]
  · rw [if_neg h, List.getElem?_append_right (by rw [List.length_take]; omega), List.getElem?_drop, List.length_take]
    congr 2
    omega
theorem wnt_bd (xs ys : List Nat) (h1 : ∀ x ∈ xs, x < 4294967296) (h2 : ∀ x ∈ ys, x < 4294967296) : ∀ x ∈ wnt xs ys, x < 4294967296 := by
  intro x hx
  rcases List.mem_append.1 hx with q | q
  · exact h2 x (List.mem_of_mem_take q)
  · exact h1 x (List.mem_of_mem_drop q)
theorem ints_snoc (N : List Nat) (j : Nat) (hj : j < N.length) : intsL (N.take (j + 1)) = intsL (N.take j) ++ [((N.getD j 0 : Nat) : Int)] := by
  rw [List.take_add_one, List.getElem?_eq_getElem hj, List.getD_eq_getElem?_getD, List.getElem?_eq_getElem hj]
  show intsL (N.take j ++ [N[j]]) = _
  unfold intsL
  rw [List.map_append]
  rfl
set_option maxHeartbeats 8000000 in
theorem buffers_main (a1 : Option Addr) (len1 cap1 : Nat) (xs : List Nat) (a2 : Option Addr) (len2 cap2 : Nat) (ys : List Nat) (wide : Bool) (w : World) (h1 : VRow w a1 len1 xs) (h2 : VRow w a2 len2 ys) (hl1 : len1 ≤ 4096) (hl2 : len2 ≤ 4096) :
    Calls Try.prog 6 #[.slice a1 len1 cap1, .slice a2 len2 cap2, .bool wide] w fun e w' => e = .returned (.bool true) ∧ Below w.heap.size w w' := by
  have hln1 := h1.ln
  have hln2 := h2.ln
  have HV1 := hidden h1
  have HV2 := hidden h2
  have g1 : ¬ ((len1 : Int) > 4096) := by omega
  have g2 : ¬ ((len2 : Int) > 4096) := by omega
  obtain ⟨NW, hN1, hN2, hN3, hN4⟩ := asL_nat (wnt xs ys) wide (wnt_bd xs ys h1.bd h2.bd)
  rw [wnt_len] at hN2 hN4
  obtain ⟨PL, hPL⟩ : ∃ PL, min len2 len1 = PL := ⟨_, rfl⟩
  have HNW := hidden (lv_new0 w 0 (by decide))
  have HBU : Hid (∀ w1, Lv w.heap.size w w1 (fun s => s = newS 0) → Calls Try.prog 21 #[.pointer (some ⟨w.heap.size, 0, none⟩), .slice a1 len1 cap1, .int .i64 3, .bool wide] w1 fun e w' => e = .returned (.tuple #[.int .i64 1, .int .i64 0]) ∧ Hid (Lv w.heap.size w w' (BP 3 wide (asL xs wide) 0 0 0))) := hidden (fun w1 hL => lv_buf hL a1 xs len1 cap1 (h1.later (by exact hL.1)) (by omega) 3 wide (by simp))
  have HWR : Hid (∀ w1, Lv w.heap.size w w1 (BP 3 wide (asL xs wide) 0 0 0) → Calls Try.prog 14 #[.pointer (some ⟨w.heap.size, 0, none⟩), .int .i64 1, .slice a2 len2 cap2] w1 fun e w' => e = .returned (.int .i64 0) ∧ Hid (Lv w.heap.size w w' (BP 3 wide (intsL NW) PL 0 len2))) := hidden (fun w1 hL => by
    have := lv_wrbuf hL (by decide) a2 len2 cap2 ys (h2.later (by exact hL.1)) (by omega) (by omega) (fun h0 y e => by
      obtain ⟨b, o, e2, hc⟩ := h2.cells 0 h0
      rw [e] at e2
      injection e2 with e2
      subst e2
      unfold World.cell? at hc
      simp only at hc
      cases hq : w.heap[b]? with
      | none => rw [hq] at hc; simp at hc
      | some ob => exact (Array.getElem?_eq_some_iff.1 hq).1)
    rw [hN1, hln1, hPL] at this
    exact this)
  have HTE : Hid (∀ w1, Lv w.heap.size w w1 (BP 3 wide (intsL NW) PL 0 len2) → Calls Try.prog 15 #[.pointer (some ⟨w.heap.size, 0, none⟩), .int .i64 1] w1 fun e w' => e = .returned (.tuple #[.int .i64 PL, .int .i64 len1, .int .i64 0]) ∧ Hid (Lv w.heap.size w w' (BP 3 wide (intsL NW) PL 0 len2))) := hidden (fun w1 hL => by
    have := lv_tellbuf hL
    rw [ints_len, hN2, hln1] at this
    exact this)
  have hmin : min (len1 : Int) (len2 : Int) = (PL : Int) := by omega
  have HWB : Hid (w.heap.size = w.heap.size) := hidden rfl
  have HNA : Hid (∀ j, j < len1 → ((NW.getD j 0 : Nat) : Int) = asW (if j < len2 then ((ys.getD j 0 : Nat) : Int) else ((xs.getD j 0 : Nat) : Int)) wide) := hidden (fun j hj => by
    rw [hN4 j (by omega), wnt_at _ _ _ (by omega), hln2]
    split <;> rfl)
  have HNL : Hid (NW.length = len1) := hidden (by omega)
  have HNB := hidden hN3
  have HPL := hidden hPL
  clear h1 h2 hN1 hN2 hN3 hN4 hPL hln1 hln2
  generalize hBB : w.heap.size = BB at *
  have HBB := hidden hBB
  clear hBB HWB
  go_enter Try.func6, Try.ntmps6
  go_upto_region 12 with (first | (go_at_call 9; refine HNW.out.mono ?_; rintro e w2 ⟨rfl, H2⟩) | (go_at_call 21; refine (HBU.out _ H2.out).mono ?_; rintro e w3 ⟨rfl, H3⟩) | (go_at_call 14; refine (HWR.out _ H3.out).mono ?_; rintro e w4 ⟨rfl, H4⟩) | (go_at_call 15; refine (HTE.out _ H4.out).mono ?_; rintro e w5 ⟨rfl, H5⟩) | (go_at_call 10; refine (num15 _ _ (by omega) (by omega)).mono ?_; rintro e w12 ⟨rfl, e9⟩; rw [e9]; clear e9) | fail)
  clear HNW HBU HWR HTE H2 H3 H4
  have HS0 := hidden (H5.out.row)
  go_loopw [14, 15] (fun q i w' => ∃ j : Nat, j ≤ len1 ∧ i = .int .i64 j ∧ ∃ va vc, q = .slice va j vc ∧ Hid (LvR BB w w' (BP 3 wide (intsL NW) PL 0 len2) (.slice va j vc) j (intsL (NW.take j)))) (fun _ i _ => len1 - (intOf i).toNat)
  case atStart => exact ⟨0, by omega, rfl, none, 0, rfl, HS0⟩
  case round =>
    clear HS0 H5
    obtain ⟨j, hj, rfl, va, vc, rfl, HL⟩ := hrel
    by_cases hlt : j < len1
    · have l1 : (j : Int) < len1 := by omega
      have l0 : (0 : Int) ≤ j := by omega
      have HBE : Hid (Below w.heap.size w wr) := hidden (by rw [HBB.out]; exact HL.out.1)
      obtain ⟨ab, ao, ea, ec⟩ := (HV1.out.later HBE.out).cells j hlt
      subst ea
      have HVJ0 := hidden (HNA.out j hlt)
      have HOW : Hid (wr.ownsRow BB 32 1 (.slice va j vc) j (w32V (intsL (NW.take j)))) := hidden (by obtain ⟨_, _, s, _, _, _, ho, _⟩ := HL.out; exact ho)
      have HSZ : Hid (BB ≤ wr.heap.size) := hidden (by have := HBE.out.size; have := HBB.out; omega)
      have HST : Hid (∀ V, V = ((NW.getD j 0 : Nat) : Int) → ∀ a7 c7 w7, w7.ownsRow BB 32 1 (.slice a7 (j + 1) c7) (j + 1) (w32V (intsL (NW.take j) ++ [V])) → Fm wr w7 (fun k => (Value.slice va j vc).ownBlock = some k) (fun k => (Value.slice a7 (j + 1) c7).ownBlock = some k) → LvR BB w w7 (BP 3 wide (intsL NW) PL 0 len2) (.slice a7 (j + 1) c7) (j + 1) (intsL (NW.take (j + 1)))) := hidden (fun V hV a7 c7 w7 ho f => by
        subst hV
        have := HL.out.snoc _ a7 c7 ho f
        rw [← ints_snoc NW j (by rw [HNL.out]; exact hlt)] at this
        exact this)
      by_cases h2 : j < len2
      · have l2 : (j : Int) < len2 := by omega
        obtain ⟨bb, bo, eb, ed⟩ := (HV2.out.later HBE.out).cells j h2
        subst eb
        have HVJ : Hid (((NW.getD j 0 : Nat) : Int) = asW ((ys.getD j 0 : Nat) : Int) wide) := hidden (by rw [HVJ0.out, if_pos h2])
        generalize xs.getD j 0 = Y at *
        generalize ys.getD j 0 = X at *
        clear HVJ0 HNA HL HV1 HV2 HBE
        cases wide with
        | true =>
          have HVV : Hid ((X : Int) = ((NW.getD j 0 : Nat) : Int)) := hidden (by rw [HVJ.out]; rfl)
          clear HVJ
          go_wp2_with (first | (at_builtin; refine wpList_snocW (wr := wr) rfl _ _ rfl BB j (.slice va j vc) (intsL (NW.take j)) _ rfl rfl HOW.out HSZ.out (by omega) ?_; intro a7 c7 w7 ho7 f7; have H7 := hidden (HST.out _ HVV.out a7 c7 w7 ho7 f7.out); clear ho7 f7) | fail)
          go_roundw
          case rel => exact ⟨j + 1, by omega, by first | rfl | go_num, a7, c7, rfl, H7⟩
          case measure => simp [intOf]; omega
        | false =>
          by_cases hx : (255 : Int) < (X : Int)
          · have HVV : Hid ((63 : Int) = ((NW.getD j 0 : Nat) : Int)) := hidden (by rw [HVJ.out]; unfold asW; rw [if_pos ⟨rfl, hx⟩])
            have hx2 : 255 < X := by omega
            clear HVJ
            go_wp2_with (first | (at_builtin; refine wpList_snocW (wr := wr) rfl _ _ rfl BB j (.slice va j vc) (intsL (NW.take j)) _ rfl rfl HOW.out HSZ.out (by omega) ?_; intro a7 c7 w7 ho7 f7; have H7 := hidden (HST.out _ HVV.out a7 c7 w7 ho7 f7.out); clear ho7 f7) | fail)
            go_roundw
            case rel => exact ⟨j + 1, by omega, by first | rfl | go_num, a7, c7, rfl, H7⟩
            case measure => simp [intOf]; omega
          · have HVV : Hid ((X : Int) = ((NW.getD j 0 : Nat) : Int)) := hidden (by rw [HVJ.out]; unfold asW; rw [if_neg (by rintro ⟨_, q⟩; exact hx q)])
            have hx2 : ¬ 255 < X := by omega
            clear HVJ
            go_wp2_with (first | (at_builtin; refine wpList_snocW (wr := wr) rfl _ _ rfl BB j (.slice va j vc) (intsL (NW.take j)) _ rfl rfl HOW.out HSZ.out (by omega) ?_; intro a7 c7 w7 ho7 f7; have H7 := hidden (HST.out _ HVV.out a7 c7 w7 ho7 f7.out); clear ho7 f7) | fail)
            go_roundw
            case rel => exact ⟨j + 1, by omega, by first | rfl | go_num, a7, c7, rfl, H7⟩
            case measure => simp [intOf]; omega
      · have l2 : ¬ (j : Int) < len2 := by omega
        have HVJ : Hid (((NW.getD j 0 : Nat) : Int) = asW ((xs.getD j 0 : Nat) : Int) wide) := hidden (by rw [HVJ0.out, if_neg h2])
        generalize xs.getD j 0 = X at *
        clear HVJ0 HNA HL HV1 HV2 HBE
        cases wide with
        | true =>
          have HVV : Hid ((X : Int) = ((NW.getD j 0 : Nat) : Int)) := hidden (by rw [HVJ.out]; rfl)
          clear HVJ
          go_wp2_with (first | (at_builtin; refine wpList_snocW (wr := wr) rfl _ _ rfl BB j (.slice va j vc) (intsL (NW.take j)) _ rfl rfl HOW.out HSZ.out (by omega) ?_; intro a7 c7 w7 ho7 f7; have H7 := hidden (HST.out _ HVV.out a7 c7 w7 ho7 f7.out); clear ho7 f7) | fail)
          go_roundw
          case rel => exact ⟨j + 1, by omega, by first | rfl | go_num, a7, c7, rfl, H7⟩
          case measure => simp [intOf]; omega
        | false =>
          by_cases hx : (255 : Int) < (X : Int)
          · have HVV : Hid ((63 : Int) = ((NW.getD j 0 : Nat) : Int)) := hidden (by rw [HVJ.out]; unfold asW; rw [if_pos ⟨rfl, hx⟩])
            have hx2 : 255 < X := by omega
            clear HVJ
            go_wp2_with (first | (at_builtin; refine wpList_snocW (wr := wr) rfl _ _ rfl BB j (.slice va j vc) (intsL (NW.take j)) _ rfl rfl HOW.out HSZ.out (by omega) ?_; intro a7 c7 w7 ho7 f7; have H7 := hidden (HST.out _ HVV.out a7 c7 w7 ho7 f7.out); clear ho7 f7) | fail)
            go_roundw
            case rel => exact ⟨j + 1, by omega, by first | rfl | go_num, a7, c7, rfl, H7⟩
            case measure => simp [intOf]; omega
          · have HVV : Hid ((X : Int) = ((NW.getD j 0 : Nat) : Int)) := hidden (by rw [HVJ.out]; unfold asW; rw [if_neg (by rintro ⟨_, q⟩; exact hx q)])
            have hx2 : ¬ 255 < X := by omega
            clear HVJ
            go_wp2_with (first | (at_builtin; refine wpList_snocW (wr := wr) rfl _ _ rfl BB j (.slice va j vc) (intsL (NW.take j)) _ rfl rfl HOW.out HSZ.out (by omega) ?_; intro a7 c7 w7 ho7 f7; have H7 := hidden (HST.out _ HVV.out a7 c7 w7 ho7 f7.out); clear ho7 f7) | fail)
            go_roundw
            case rel => exact ⟨j + 1, by omega, by first | rfl | go_num, a7, c7, rfl, H7⟩
            case measure => simp [intOf]; omega
    · obtain rfl : j = len1 := by omega
      have l1 : ¬ ((j : Int) < (j : Int)) := by omega
      have HLF : Hid (LvR BB w wr (BP 3 wide (intsL NW) PL 0 len2) (.slice va j vc) j (intsL NW)) := hidden (by have := HL.out; rw [List.take_of_length_le (by rw [HNL.out]; exact Nat.le_refl _)] at this; exact this)
      clear HL HV1 HV2 HNA
      have hmm : IntKind.i64.wrap (len2 : Int) = len2 := by rw [IntKind.wrap_i64]; omega
      have HLIV : Hid (∀ w5, Below BB w w5 → Calls Try.prog 11 #[] w5 fun e w' => e = .returned (.bool true) ∧ Hid (Below BB w w')) := hidden (fun w5 hb => (live_any w5).mono (fun e w' hh => ⟨hh.1, hidden (hb.trans (hh.2.mono (by have := hb.size; have := HBB.out; omega)))⟩))
      by_cases h2 : len2 < j
      · have hp : PL = len2 := by have := HPL.out; omega
        subst hp
        have l2 : (PL : Int) < (j : Int) := by omega
        have l3 : (0 : Int) ≤ (PL : Int) := by omega
        have HRD := hidden (lvr_read HLF.out (by decide) (by rw [ints_len, HNL.out]; exact h2))
        rw [ints_getD] at HRD
        obtain ⟨C, hC⟩ : ∃ C, NW.getD PL 0 = C := ⟨_, rfl⟩
        rw [hC] at HRD
        have HCE := hidden hC
        clear hC
        clear HLF HPL
        go_upto_region 21 with (first | (go_at_call 16; refine HRD.out.mono ?_; rintro e w6 ⟨rfl, H6⟩) | fail)
        obtain ⟨ab, ao, ea, ec⟩ : ∃ b o, va = some ⟨b, o, none⟩ ∧ w6.cell? ⟨b, o + PL, none⟩ = some (.int .u32 (C : Nat)) := by
          rw [← HCE.out]
          obtain ⟨_, _, s, _, _, _, ho, _⟩ := H6.out
          exact (vrow_own ho HNB.out).cells PL h2
        subst ea
        have HCL := hidden (lvr_close H6.out)
        rw [ints_len, HNL.out, show up32 0 = 1 from rfl] at HCL
        clear HRD H6 HCE
        go_upto_region 24 with (first | (go_at_call 13; refine HCL.out.mono ?_; rintro e w7 ⟨oa, oc, rfl, H7⟩) | fail)
        have HCC := hidden (lvr_closed 1 H7.out.1)
        clear HCL ec
        go_upto_region 25 with (first | (go_at_call 13; refine HCC.out.mono ?_; rintro e w8 ⟨rfl, H8⟩) | fail)
        have HSM : Hid (Calls Try.prog 22 #[.slice oa j oc, .slice (some ⟨ab, ao, none⟩) j vc] w8 fun e w' => e = .returned (.bool true) ∧ Hid (Below BB w w')) := hidden (by
          obtain ⟨hb, _, s, _, _, _, ho, _⟩ := H7.out.1
          have e1 := (vrow_own H7.out.2 HNB.out).later H8.out
          have e2 := (vrow_own ho HNB.out).later H8.out
          refine (same_any _ _ _ _ oc vc NW NW w8 e1 e2 (by omega)).mono (fun e w' hh => ⟨by rw [hh.1, decide_eq_true rfl], hidden ?_⟩)
          have hs := hb.size
          have hs2 := HBB.out
          exact (hb.trans (H8.out.mono (by omega))).trans (hh.2.below.mono (by have := H8.out.size; omega)))
        clear H7 H8 HCC HNB HNL
        go_wp2_with (first | (go_at_call 10; refine (num15 _ _ (by omega) (by omega)).mono ?_; rintro e w12 ⟨rfl, e9⟩; rw [e9]; clear e9) | (go_at_call 22; refine HSM.out.mono ?_; rintro e w9 ⟨rfl, H9⟩) | (go_at_call 11; refine (HLIV.out _ H9.out).mono ?_; rintro e w10 ⟨rfl, H10⟩) | fail)
        go_ret
        exact ⟨rfl, by first | exact H10.out | (rw [HBB.out]; exact H10.out)⟩
      · have hp : PL = j := by have := HPL.out; omega
        subst hp
        have l2 : ¬ (len2 : Int) < (PL : Int) := by omega
        have HRD := hidden (lvr_end HLF.out (by decide) (by rw [ints_len, HNL.out]; exact Nat.le_refl _))
        clear HLF HPL
        go_upto_region 21 with (first | (go_at_call 16; refine HRD.out.mono ?_; rintro e w6 ⟨rfl, H6⟩) | fail)
        have HCL := hidden (lvr_close H6.out)
        rw [ints_len, HNL.out] at HCL
        clear HRD H6
        go_upto_region 24 with (first | (go_at_call 13; refine HCL.out.mono ?_; rintro e w7 ⟨oa, oc, rfl, H7⟩) | fail)
        have HCC := hidden (lvr_closed 1 H7.out.1)
        clear HCL
        go_upto_region 25 with (first | (go_at_call 13; refine HCC.out.mono ?_; rintro e w8 ⟨rfl, H8⟩) | fail)
        have HSM : Hid (Calls Try.prog 22 #[.slice oa PL oc, .slice va PL vc] w8 fun e w' => e = .returned (.bool true) ∧ Hid (Below BB w w')) := hidden (by
          obtain ⟨hb, _, s, _, _, _, ho, _⟩ := H7.out.1
          have e1 := (vrow_own H7.out.2 HNB.out).later H8.out
          have e2 := (vrow_own ho HNB.out).later H8.out
          refine (same_any _ _ _ _ oc vc NW NW w8 e1 e2 (by omega)).mono (fun e w' hh => ⟨by rw [hh.1, decide_eq_true rfl], hidden ?_⟩)
          have hs := hb.size
          have hs2 := HBB.out
          exact (hb.trans (H8.out.mono (by omega))).trans (hh.2.below.mono (by have := H8.out.size; omega)))
        clear H7 H8 HCC HNB HNL
        go_wp2_with (first | (go_at_call 10; refine (num15 _ _ (by omega) (by omega)).mono ?_; rintro e w12 ⟨rfl, e9⟩; rw [e9]; clear e9) | (go_at_call 22; refine HSM.out.mono ?_; rintro e w9 ⟨rfl, H9⟩) | (go_at_call 11; refine (HLIV.out _ H9.out).mono ?_; rintro e w10 ⟨rfl, H10⟩) | fail)
        go_ret
        exact ⟨rfl, by first | exact H10.out | (rw [HBB.out]; exact H10.out)⟩
theorem shelfBuffers_walk (a1 : Option Addr) (len1 cap1 : Nat) (zs : List Int) (a2 : Option Addr) (len2 cap2 : Nat) (us : List Int) (wide : Bool) (w : World) (h1 : IsRow .u32 w a1 len1 cap1 zs) (h2 : IsRow .u32 w a2 len2 cap2 us) :
    Calls Try.prog 6 #[.slice a1 len1 cap1, .slice a2 len2 cap2, .bool wide] w fun e w' => e = .returned (.bool true) ∧ Below w.heap.size w w' := by
  obtain ⟨xs, hv, hlc, hlm⟩ := vrow_of h1
  obtain ⟨ys, hv2, hlc2, hlm2⟩ := vrow_of h2
  by_cases hl : len1 ≤ 4096
  · by_cases hl2 : len2 ≤ 4096
    · exact buffers_main a1 len1 cap1 xs a2 len2 cap2 ys wide w hv hv2 hl hl2
    · have g0 : ¬ (len1 : Int) > 4096 := by omega
      have g1 : (len2 : Int) > 4096 := by omega
      clear h1 h2 hv hv2 hl hl2
      go_enter Try.func6, Try.ntmps6
      go_wp2_with (go_at_call 11; refine (live_any _).mono ?_; rintro e w13 ⟨rfl, hb13⟩)
      go_ret
      exact ⟨rfl, hb13⟩
  · have g1 : (len1 : Int) > 4096 := by omega
    clear h1 h2 hv hv2 hl
    go_enter Try.func6, Try.ntmps6
    go_wp2_with (go_at_call 11; refine (live_any _).mono ?_; rintro e w13 ⟨rfl, hb13⟩)
    go_ret
    exact ⟨rfl, hb13⟩
end Go.Proofs.Ytmohnopegacahaa
