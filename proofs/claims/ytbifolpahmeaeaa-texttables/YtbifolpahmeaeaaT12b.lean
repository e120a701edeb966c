/- Layer 12, the document: a node laid behind what there is. -/
import Derived.Test.YtbifolpahmeaeaaT12a
import Derived.Test.YtbifolpahmeaeaaR12k
namespace Go.Proofs.Ytbifolpahmeaeaa
open Go.RowKit
set_option maxHeartbeats 1000000
set_option maxRecDepth 100000
set_option linter.unusedVariables false

/-- a row of bytes that grew -/
def GRow (w0 : World) (N : Nat) (Z : List Int) (e : Ending) (w' : World) : Prop := ∃ g c, e = .returned (.slice (some ⟨g, 0, none⟩) N c) ∧ w'.ownsRow w0.heap.size 5 1 (.slice (some ⟨g, 0, none⟩) N c) N (bytesV Z) ∧ Below w0.heap.size w0 w'
set_option maxHeartbeats 16000000 in
theorem rlay_any (w0 : World) : ∀ (f T : Nat) (a : Option Addr) (n c : Nat) (l : List Nat) (g N cc : Nat) (zs : List Int) (w : World), n ≤ f → n ≤ c → c ≤ 9223372036854775807 → VRow w a n l → n ≤ 1000 → T < 4294967296 → N + szL f l ≤ 1000000 → w.ownsRow w0.heap.size 5 1 (.slice (some ⟨g, 0, none⟩) N cc) N (bytesV zs) → Below w0.heap.size w0 w → VRow w0 a n l →
    Calls Try.prog 24 #[.slice (some ⟨g, 0, none⟩) N cc, .int .u32 T, .slice a n c] w (GRow w0 (N + szL f l) (zs ++ ndL f ((T + N) % 4294967296) l))
  | f, T, a, n, c, l, g, N, cc, zs, w, hf, hcp, hcm, h, hn, hT, hN, ho, hb, hv0 => by
    have hln := h.ln
    by_cases h0 : n = 0
    · subst h0
      have e1 : szL f l = 1 := by cases f with
        | zero => rfl
        | succ f => unfold szL; rw [if_pos hln]
      have e2 : ndL f ((T + N) % 4294967296) l = [1] := by cases f with
        | zero => rfl
        | succ f => unfold ndL; rw [if_pos hln]
      rw [e1] at hN
      rw [e1, e2]
      have HO := hidden (ho.alloc (.cells #[.int .u8 1] 5))
      have HR : Hid (Reads (w.alloc (.cells #[.int .u8 1] 5)) (some ⟨w.heap.size, 0, none⟩) 1 1 [1]) := hidden (own_reads (owns_new w w.heap.size [1] (Nat.le_refl _) (by decide)))
      have HB := hidden (hb.alloc hb.size (.cells #[.int .u8 1] 5))
      generalize hPQ : GRow w0 (N + 1) (zs ++ [1]) = PQ
      have HFIN : Hid (∀ g' c' w', w'.ownsRow w0.heap.size 5 1 (.slice (some ⟨g', 0, none⟩) (N + 1) c') (N + 1) (bytesV (zs ++ [1])) → Below w0.heap.size w0 w' → PQ (.returned (.slice (some ⟨g', 0, none⟩) (N + 1) c')) w') := hidden (fun g' c' w' h1 h2 => by rw [← hPQ]; exact ⟨g', c', rfl, h1, h2⟩)
      clear h hln e1 e2 ho hb hv0 hPQ
      go_enter Try.func24, Try.ntmps24
      go_wp2_with (first | (at_builtin; refine wpList_appN (w0 := w0) rfl (.tmp 13) (.tmp 14) rfl g N cc 1 1 (some ⟨w.heap.size, 0, none⟩) zs [1] rfl rfl HO.out HR.out (by omega) HB.out (N + 1) rfl _ rfl ?_; intro g1 c1 w1 HO1 HB1) | fail)
      exact HFIN.out _ _ _ HO1.out HB1.out
    · obtain ⟨f, rfl⟩ : ∃ f', f = f' + 1 := ⟨f - 1, by omega⟩
      obtain ⟨b, o, ha, hc⟩ := h.cells 0 (by omega)
      by_cases h1 : n = 1
      · subst h1
        have e1 : szL (f + 1) l = if l.getD 0 0 < 256 then 2 else 5 := by unfold szL; rw [if_neg (by omega), if_pos hln]
        have e2 : ndL (f + 1) ((T + N) % 4294967296) l = if l.getD 0 0 < 256 then [2, ((l.getD 0 0 : Nat) : Int)] else [4] ++ putL ((l.getD 0 0 : Nat) : Int) 4 := by unfold ndL; rw [if_neg (by omega), if_pos hln]
        have hXb : l.getD 0 0 < 4294967296 := h.bd _ (by rw [List.getD_eq_getElem?_getD, List.getElem?_eq_getElem (by omega)]; simp)
        rw [e1] at hN
        rw [e1, e2]
        subst ha
        have hc' : w.cell? ⟨b, o, none⟩ = some (.int .u32 (l.getD 0 0 : Nat)) := hc
        have HV := hidden hv0
        clear h hln e1 e2 hc hv0
        generalize l.getD 0 0 = X at *
        by_cases hX : X < 256
        · rw [if_pos hX] at hN
          rw [if_pos hX, if_pos hX]
          have gx : (X : Int) < 256 := by omega
          have g2 : IntKind.u8.wrap (X : Int) = X := by rw [IntKind.wrap_u8]; omega
          have HO := hidden (ho.alloc (.cells #[.int .u8 2, .int .u8 (X : Int)] 5))
          have HR : Hid (Reads (w.alloc (.cells #[.int .u8 2, .int .u8 (X : Int)] 5)) (some ⟨w.heap.size, 0, none⟩) 2 2 [2, (X : Int)]) := hidden (own_reads (owns_new w w.heap.size [2, (X : Int)] (Nat.le_refl _) (by show 2 ≤ maxLen; decide)))
          have HB := hidden (hb.alloc hb.size (.cells #[.int .u8 2, .int .u8 (X : Int)] 5))
          generalize hPQ : GRow w0 (N + 2) (zs ++ [2, (X : Int)]) = PQ
          have HFIN : Hid (∀ g' c' w', w'.ownsRow w0.heap.size 5 1 (.slice (some ⟨g', 0, none⟩) (N + 2) c') (N + 2) (bytesV (zs ++ [2, (X : Int)])) → Below w0.heap.size w0 w' → PQ (.returned (.slice (some ⟨g', 0, none⟩) (N + 2) c')) w') := hidden (fun g' c' w' h1 h2 => by rw [← hPQ]; exact ⟨g', c', rfl, h1, h2⟩)
          clear ho hb hPQ
          go_enter Try.func24, Try.ntmps24
          go_wp2_with (first | (at_builtin; refine wpList_appN (w0 := w0) rfl (.tmp 25) (.tmp 30) rfl g N cc 2 2 (some ⟨w.heap.size, 0, none⟩) zs [2, (X : Int)] rfl rfl HO.out HR.out (by omega) HB.out (N + 2) rfl _ rfl ?_; intro g1 c1 w1 HO1 HB1) | fail)
          exact HFIN.out _ _ _ HO1.out HB1.out
        · rw [if_neg hX] at hN
          rw [if_neg hX, if_neg hX]
          have gx : ¬ (X : Int) < 256 := by omega
          have HO := hidden (ho.alloc (.cells #[.int .u8 4] 5))
          have HR : Hid (Reads (w.alloc (.cells #[.int .u8 4] 5)) (some ⟨w.heap.size, 0, none⟩) 1 1 [4]) := hidden (own_reads (owns_new w w.heap.size [4] (Nat.le_refl _) (by decide)))
          have HB := hidden (hb.alloc hb.size (.cells #[.int .u8 4] 5))
          have HXC : Hid (∀ w1, Below w0.heap.size w0 w1 → w1.cell? ⟨b, o, none⟩ = some (.int .u32 (X : Nat))) := hidden (fun w1 hb1 => by
            obtain ⟨b', o', e', q⟩ := (HV.out.later hb1).cells 0 (by omega)
            obtain ⟨b2, o2, e2, q2⟩ := (HV.out.later hb).cells 0 (by omega)
            cases e'
            cases e2
            have q2' : w.cell? ⟨b, o, none⟩ = some (.int .u32 (l.getD 0 0 : Nat)) := q2
            rw [hc'] at q2'
            rw [Option.some.injEq, Value.int.injEq] at q2'
            rw [q2'.2]
            exact q)
          generalize hPQ : GRow w0 (N + 5) (zs ++ ([4] ++ putL (X : Int) 4)) = PQ
          have HFIN : Hid (∀ g' c' w', w'.ownsRow w0.heap.size 5 1 (.slice (some ⟨g', 0, none⟩) (N + 1 + 4) c') (N + 1 + 4) (bytesV (zs ++ [4] ++ putL (X : Int) 4)) → Below w0.heap.size w0 w' → PQ (.returned (.slice (some ⟨g', 0, none⟩) (N + 1 + 4) c')) w') := hidden (fun g' c' w' h1 h2 => by rw [← hPQ]; rw [List.append_assoc] at h1; exact ⟨g', c', rfl, h1, h2⟩)
          obtain ⟨N1, hN1⟩ : ∃ N1, N + 1 = N1 := ⟨_, rfl⟩
          obtain ⟨N2, hN2⟩ : ∃ N2, N1 + 4 = N2 := ⟨_, rfl⟩
          rw [hN1, hN2] at HFIN
          have HN1 := hidden hN1
          have HN2 := hidden hN2
          have hN1b : N1 ≤ 1000000 := by omega
          clear ho hb hPQ hN1 hN2
          go_enter Try.func24, Try.ntmps24
          go_upto_region 7 with (first | (at_builtin; refine wpList_appN (w0 := w0) rfl (.tmp 35) (.tmp 36) rfl g N cc 1 1 (some ⟨w.heap.size, 0, none⟩) zs [4] rfl rfl HO.out HR.out (by omega) HB.out N1 HN1.out _ rfl ?_; intro g1 c1 w1 HO1 HB1) | fail)
          have hc1 := HXC.out _ HB1.out
          have HPT := hidden (rput_4 (X : Int) w1 (by omega) (by omega))
          go_wp2_with (first
            | (go_at_call 23; refine HPT.out.mono ?_; rintro e w9 ⟨pv, rfl, hop, hb9⟩; obtain ⟨gp, cp, rfl, hcp, hgp⟩ := owned_shape hop (by omega); have HN9 := hidden (own_reads hop); have HO9 := hidden (own_later HO1.out hb9); have HB9 := hidden (HB1.out.trans (hb9.mono HB1.out.size)); clear hop hb9)
            | (at_builtin; refine wpList_appN (w0 := w0) rfl (.tmp 38) (.tmp 42) rfl g1 N1 c1 4 cp (some ⟨gp, 0, none⟩) (zs ++ [4]) (putL (X : Int) 4) rfl rfl HO9.out HN9.out (by omega) HB9.out N2 HN2.out _ rfl ?_; intro g2 c2 w2 HO2 HB2)
            | fail)
          exact HFIN.out _ _ _ HO2.out HB2.out
      · obtain ⟨M2, hM2⟩ : ∃ M2 : Nat, M2 = n / 2 := ⟨_, rfl⟩
        have hlt : (l.take M2).length = M2 := by rw [List.length_take]; omega
        have hld : (l.drop M2).length = n - M2 := by rw [List.length_drop]; omega
        obtain ⟨AT, hAT⟩ : ∃ AT, AT = (T + N) % 4294967296 := ⟨_, rfl⟩
        obtain ⟨LA, hLA⟩ : ∃ LA, LA = (AT + 9) % 4294967296 := ⟨_, rfl⟩
        obtain ⟨zL, hzL⟩ : ∃ zL, zL = ndL f LA (l.take M2) := ⟨_, rfl⟩
        obtain ⟨S1, hS1⟩ : ∃ S1, S1 = szL f (l.take M2) := ⟨_, rfl⟩
        obtain ⟨S2, hS2⟩ : ∃ S2, S2 = szL f (l.drop M2) := ⟨_, rfl⟩
        have hzl : zL.length = S1 := by rw [hzL, hS1, ndL_sz]
        obtain ⟨RA, hRA⟩ : ∃ RA, RA = (LA + S1) % 4294967296 := ⟨_, rfl⟩
        obtain ⟨zR, hzR⟩ : ∃ zR, zR = ndL f RA (l.drop M2) := ⟨_, rfl⟩
        have e1 : ndL (f + 1) AT l = [0] ++ (putL LA 4 ++ (putL RA 4 ++ (zL ++ zR))) := by
          conv => lhs; unfold ndL
          rw [if_neg (by omega), if_neg (by omega), hln, ← hM2, ← hLA, ← hzL, hzl, ← hRA, ← hzR]
        have e2 : szL (f + 1) l = 9 + S1 + S2 := by
          conv => lhs; unfold szL
          rw [if_neg (by omega), if_neg (by omega), hln, ← hM2, ← hS1, ← hS2]
        rw [e2] at hN
        rw [← hAT, e1, e2]
        subst ha
        obtain ⟨N1, hN1⟩ : ∃ N1, N + 1 = N1 := ⟨_, rfl⟩
        obtain ⟨N2, hN2⟩ : ∃ N2, N1 + 4 = N2 := ⟨_, rfl⟩
        obtain ⟨N3, hN3⟩ : ∃ N3, N2 + 4 = N3 := ⟨_, rfl⟩
        obtain ⟨N4, hN4⟩ : ∃ N4, N3 + S1 = N4 := ⟨_, rfl⟩
        have HSZ := hidden (rsize_any f _ M2 c _ w (by omega) (by omega) hcm (h.tk M2 (by omega)) (by omega))
        have HL : Hid (∀ (g3 c3 : Nat) (w3 : World), w3.ownsRow w0.heap.size 5 1 (.slice (some ⟨g3, 0, none⟩) N3 c3) N3 (bytesV (zs ++ [0] ++ putL LA 4 ++ putL RA 4)) → Below w0.heap.size w0 w3 → Calls Try.prog 24 #[.slice (some ⟨g3, 0, none⟩) N3 c3, .int .u32 T, .slice (some ⟨b, o, none⟩) M2 c] w3 (GRow w0 N4 (zs ++ [0] ++ putL LA 4 ++ putL RA 4 ++ zL))) := hidden (fun g3 c3 w3 h3 hb3 => by
          have := rlay_any w0 f T (some ⟨b, o, none⟩) M2 c (l.take M2) g3 N3 c3 _ w3 (by omega) (by omega) hcm ((hv0.tk M2 (by omega)).later hb3) (by omega) hT (by rw [← hS1]; omega) h3 hb3 (hv0.tk M2 (by omega))
          rw [← hS1, hN4, show (T + N3) % 4294967296 = LA by omega, ← hzL] at this
          exact this)
        have HR : Hid (∀ (g4 c4 : Nat) (w4 : World), w4.ownsRow w0.heap.size 5 1 (.slice (some ⟨g4, 0, none⟩) N4 c4) N4 (bytesV (zs ++ [0] ++ putL LA 4 ++ putL RA 4 ++ zL)) → Below w0.heap.size w0 w4 → Calls Try.prog 24 #[.slice (some ⟨g4, 0, none⟩) N4 c4, .int .u32 T, .slice (some ⟨b, o + M2, none⟩) (n - M2) (c - M2)] w4 fun e w' => ∃ v, e = .returned v ∧ Hid (GRow w0 (N + (9 + S1 + S2)) (zs ++ ([0] ++ (putL LA 4 ++ (putL RA 4 ++ (zL ++ zR))))) (.returned v) w')) := hidden (fun g4 c4 w4 h4 hb4 => by
          have := rlay_any w0 f T (some ⟨b, o + M2, none⟩) (n - M2) (c - M2) (l.drop M2) g4 N4 c4 _ w4 (by omega) (by omega) (by omega) ((hv0.sub b o M2 rfl (by omega)).later hb4) (by omega) hT (by rw [← hS2]; omega) h4 hb4 (hv0.sub b o M2 rfl (by omega))
          rw [← hS2, show N4 + S2 = N + (9 + S1 + S2) by omega, show (T + N4) % 4294967296 = RA by omega, ← hzR] at this
          refine this.mono ?_
          rintro e w' ⟨g5, c5, rfl, h5, hb5⟩
          refine ⟨_, rfl, hidden ⟨g5, c5, rfl, ?_, hb5⟩⟩
          simpa only [List.append_assoc] using h5)
        rw [← hS1] at HSZ
        generalize GRow w0 (N + (9 + S1 + S2)) (zs ++ ([0] ++ (putL LA 4 ++ (putL RA 4 ++ (zL ++ zR))))) = PQ at *
        generalize ndN f (l.take M2) = ND at *
        have hq : (n : Int).tdiv 2 = (M2 : Int) := by rw [Int.tdiv_eq_ediv_of_nonneg (by omega)]; omega
        have q1 : ((n : Int) == 0) = false := by simp; omega
        have q2 : ((n : Int) == 1) = false := by simp; omega
        have q3 : M2 ≤ n := by omega
        have q4 : M2 ≤ c := by omega
        have q5 : ¬ c = M2 := by omega
        have u1 : IntKind.u32.wrap (N : Int) = (N : Int) := by rw [IntKind.wrap_u32]; omega
        have u2 : IntKind.u32.wrap ((T : Int) + (N : Int)) = (AT : Int) := by rw [IntKind.wrap_u32]; omega
        have u3 : IntKind.u32.wrap ((AT : Int) + 9) = (LA : Int) := by rw [IntKind.wrap_u32]; omega
        have u4 : IntKind.u32.wrap (S1 : Int) = (S1 : Int) := by rw [IntKind.wrap_u32]; omega
        have u5 : IntKind.u32.wrap ((LA : Int) + (S1 : Int)) = (RA : Int) := by rw [IntKind.wrap_u32]; omega
        have HP1 := hidden fun wx => rput_4 (LA : Int) wx (by omega) (by omega)
        have HP2 := hidden fun wx => rput_4 (RA : Int) wx (by omega) (by omega)
        have HO := hidden (ho.alloc (.cells #[.int .u8 0] 5))
        have HRD : Hid (Reads (w.alloc (.cells #[.int .u8 0] 5)) (some ⟨w.heap.size, 0, none⟩) 1 1 [0]) := hidden (own_reads (owns_new w w.heap.size [0] (Nat.le_refl _) (by decide)))
        have HB := hidden (hb.alloc hb.size (.cells #[.int .u8 0] 5))
        have HN1 := hidden hN1
        have HN2 := hidden hN2
        have HN3 := hidden hN3
        have b1 : N1 ≤ 1000000 := by omega
        have b2 : N2 ≤ 1000000 := by omega
        clear h hln hM2 hlt hld e1 e2 h0 h1 hc hzL hzR hLA hRA hAT hS1 hS2 hzl ho hb hv0 hN1 hN2 hN3 hN4
        go_enter Try.func24, Try.ntmps24
        go_upto_region 10 with (first | (go_at_call 22; refine HSZ.out.mono ?_; rintro r w1 ⟨rfl, rfl⟩) | fail)
        go_upto_region 11 with (first | (at_builtin; refine wpList_appN (w0 := w0) rfl (.tmp 58) (.tmp 59) rfl g N cc 1 1 (some ⟨_, 0, none⟩) zs [0] rfl rfl HO.out HRD.out (by omega) HB.out N1 HN1.out _ rfl ?_; intro g1 c1 w2 HO1 HB1) | fail)
        clear HO HRD HB
        go_upto_region 12 with (first
            | (go_at_call 23; refine (HP1.out _).mono ?_; rintro e w9 ⟨pv, rfl, hop, hb9⟩; obtain ⟨gp, cp, rfl, hcp, hgp⟩ := owned_shape hop (by omega); have HN9 := hidden (own_reads hop); have HO9 := hidden (own_later HO1.out hb9); have HB9 := hidden (HB1.out.trans (hb9.mono HB1.out.size)); clear hop hb9)
            | (at_builtin; refine wpList_appN (w0 := w0) rfl (.tmp 61) (.tmp 64) rfl g1 N1 c1 4 cp (some ⟨gp, 0, none⟩) (zs ++ [0]) (putL (LA : Int) 4) rfl rfl HO9.out HN9.out (by omega) HB9.out N2 HN2.out _ rfl ?_; intro g2 c2 w3 HO2 HB2)
            | fail)
        clear HO1 HB1 HN9 HO9 HB9
        go_upto_region 13 with (first
            | (go_at_call 23; refine (HP2.out _).mono ?_; rintro e w8 ⟨pv, rfl, hop, hb9⟩; obtain ⟨gq, cq, rfl, hcq, hgq⟩ := owned_shape hop (by omega); have HN8 := hidden (own_reads hop); have HO8 := hidden (own_later HO2.out hb9); have HB8 := hidden (HB2.out.trans (hb9.mono HB2.out.size)); clear hop hb9)
            | (at_builtin; refine wpList_appN (w0 := w0) rfl (.tmp 66) (.tmp 72) rfl g2 N2 c2 4 cq (some ⟨gq, 0, none⟩) (zs ++ [0] ++ putL (LA : Int) 4) (putL (RA : Int) 4) rfl rfl HO8.out HN8.out (by omega) HB8.out N3 HN3.out _ rfl ?_; intro g3 c3 w4 HO3 HB3)
            | fail)
        clear HO2 HB2 HN8 HO8 HB8
        go_upto_region 14 with (first | (go_at_call 24; refine (HL.out _ _ _ HO3.out HB3.out).mono ?_; rintro e w5 ⟨g5, c5, rfl, ho5, hb5⟩; have HO5 := hidden ho5; have HB5 := hidden hb5; clear ho5 hb5) | fail)
        go_wp2_with (first | (go_at_call 24; refine (HR.out _ _ _ HO5.out HB5.out).mono ?_; rintro e w6 ⟨v6, rfl, HQ⟩) | fail)
        exact HQ.out
end Go.Proofs.Ytbifolpahmeaeaa
