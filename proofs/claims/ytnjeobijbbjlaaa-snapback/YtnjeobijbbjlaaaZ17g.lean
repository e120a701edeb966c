/- Layer 17, the document: Squeeze. -/
import Derived.Test.YtnjeobijbbjlaaaZ17f
namespace Go.Proofs.Ytnjeobijbbjlaaa
open Go.RowKit
set_option maxHeartbeats 1000000
set_option maxRecDepth 100000
set_option linter.unusedVariables false

theorem td_getD (RW : List Int) (N i j : Nat) (d : Int) (h : i + j < N) (hN : N ≤ RW.length) : ((RW.take N).drop i).getD j d = RW.getD (i + j) 0 := by
  have h2 : i + j < RW.length := by omega
  simp [List.getD_eq_getElem?_getD, List.getElem?_drop, h, h2]
theorem sq_one (RW : List Int) (N i : Nat) (hi : i < N) (hN : N ≤ RW.length) (h : RW.getD i 0 ≠ 0) : sqT ((RW.take N).drop i) 0 = RW.getD i 0 :: sqT ((RW.take N).drop (i + 1)) 0 := by
  have hl : i < (RW.take N).length := by simp; omega
  have e : (RW.take N).drop i = RW.getD i 0 :: (RW.take N).drop (i + 1) := by
    rw [← List.getElem_cons_drop hl]
    have h2 : i < RW.length := by omega
    simp [List.getD_eq_getElem?_getD, h2]
  rw [e, sqT, if_neg h, runL_zero]
  rfl
theorem sq_step (RW : List Int) (N i q : Nat) (hN : N ≤ RW.length) (h0 : 0 < q) (h1 : q ≤ 256) (hz : ∀ j, j < q → RW.getD (i + j) 0 = 0) (hiq : i + q < N) (hend : q = 256 ∨ RW.getD (i + q) 0 ≠ 0) (hlast : RW.getD (N - 1) 0 ≠ 0) :
    sqT ((RW.take N).drop i) 0 = 0 :: ((q - 1 : Nat) : Int) :: sqT ((RW.take N).drop (i + q)) 0 := by
  have hd : ((RW.take N).drop i).drop q = (RW.take N).drop (i + q) := by rw [List.drop_drop]
  rw [sqT_part ((RW.take N).drop i) q h0 h1 (fun j hj => by rw [td_getD RW N i j 1 (by omega) hN]; exact hz j hj) (by simp; omega) (by rw [td_getD RW N i q 0 hiq hN]; exact hend) ?_, hd]
  refine ⟨RW.getD (N - 1) 0, ?_, hlast⟩
  have h3 : (RW.take N).getD (N - 1) 0 = RW.getD (N - 1) 0 := by
    have := td_getD RW N 0 (N - 1) 0 (by omega) hN
    simpa using this
  rw [hd, ← h3]
  have hl : N - 1 < (RW.take N).length := by simp; omega
  have e : (RW.take N).getD (N - 1) 0 = (RW.take N)[N - 1] := by rw [List.getD_eq_getElem?_getD, List.getElem?_eq_getElem hl]; rfl
  rw [e]
  have e2 : (RW.take N)[N - 1] = ((RW.take N).drop (i + q))[N - 1 - (i + q)]'(by simp; omega) := by
    rw [List.getElem_drop]
    congr 1
    omega
  rw [e2]
  exact List.getElem_mem _
set_option maxHeartbeats 16000000 in
theorem dsqueeze_any (a b : Option Addr) (la ca lb cb : Nat) (ws ns : List Int) (w : World) (ha : Reads w a la ca ws) (hb : Reads w b lb cb ns) (hla : la ≤ 2000000) (hlb : lb ≤ 2000000) :
    Calls Try.prog 11 #[.slice a la ca, .slice b lb cb] w (RowR w (sqT (rowL ws ns) 0)) := by
  have HRW := hidden (drow_any a b la ca lb cb ws ns w ha hb (by omega) (by omega))
  have hlen : (rowL ws ns).length = lb := by rw [rowL_len]; exact hb.1
  clear ha hb
  generalize rowL ws ns = RW at *
  go_enter Try.func11, Try.ntmps11
  go_upto_region 2 with (first
    | (go_at_call 25; refine HRW.out.mono ?_; rintro e w1 ⟨a1, n1, c1, rfl, HO1, HB1⟩)
    | fail)
  obtain rfl : n1 = lb := by rw [← hlen]; exact (row_len HO1.out).symm
  have HC : Hid (0 < n1 → ∃ g, a1 = some ⟨g, 0, none⟩ ∧ ∀ w3, Below w1.heap.size w1 w3 → ∀ j, j < n1 → w3.cell? ⟨g, j, none⟩ = some (.int .u8 (RW.getD j 0))) := hidden (row_cell HO1.out)
  have HLN := hidden hlen
  clear HRW HO1 hlen
  go_upto_region 3 with fail
  go_loopw [6] (fun i w' => ∃ k : Nat, k ≤ n1 ∧ i = .int .i64 k ∧ Hid (∀ c ∈ RW.drop k, c = 0) ∧ Hid (Below w1.heap.size w1 w')) (fun i _ => (intOf i).toNat)
  case atStart => exact ⟨n1, by omega, rfl, hidden (by rw [List.drop_of_length_le (by rw [HLN.out]; omega)]; simp), hidden (Below.refl _ _)⟩
  case round =>
    obtain ⟨k, hk, rfl, HZ, HB⟩ := hrel
    by_cases hk0 : k = 0
    · subst hk0
      have HS0 : Hid (sqT RW 0 = []) := hidden (sqT_zeros RW 0 (by simpa using HZ.out))
      clear HC HZ
      go_upto_region 7 with fail
      go_loopw [7, 8] (fun v i w' => v = .slice none 0 0 ∧ i = .int .i64 0 ∧ Hid (Below w1.heap.size w1 w')) (fun _ i _ => 0)
      case atStart => exact ⟨rfl, rfl, HB⟩
      case round =>
        obtain ⟨rfl, rfl, HB2⟩ := hrel
        go_wp2
        go_ret
        exact ⟨_, _, _, rfl, by rw [HS0.out]; exact hidden (World.ownsRow_nil _ _ _ _), hidden (HB1.out.trans (HB2.out.mono HB1.out.size))⟩
    · have kg : (k : Int) > 0 := by omega
      have l1 : (k : Int) - 1 < n1 := by omega
      have l0 : (0 : Int) ≤ (k : Int) - 1 := by omega
      obtain ⟨g, rfl, hg⟩ := HC.out (by omega)
      have c1 := hg _ HB.out (k - 1) (by omega)
      have hnt : ((k : Int) - 1).toNat = k - 1 := by omega
      by_cases hz : RW.getD (k - 1) 0 = 0
      · rw [hz] at c1
        have HZ2 : Hid (∀ c ∈ RW.drop (k - 1), c = 0) := hidden (by
          have hl : k - 1 < RW.length := by rw [HLN.out]; omega
          rw [← List.getElem_cons_drop hl, show k - 1 + 1 = k by omega]
          intro c hc
          rcases List.mem_cons.1 hc with rfl | hc
          · simpa [List.getD_eq_getElem?_getD, hl] using hz
          · exact HZ.out c hc)
        clear hg hz HZ HC
        go_wp2
        go_roundw
        case rel => exact ⟨k - 1, by omega, by first | rfl | go_num, HZ2, HB⟩
        case measure => simp [intOf]; omega
      · have hze : (RW.getD (k - 1) 0 == 0) = false := by rw [beq_eq_false_iff_ne]; exact hz
        have HLAST := hidden hz
        have HE0 : Hid (sqT (RW.take k) 0 = sqT RW 0) := hidden (sqT_cut RW k 0 HZ.out)
        have HC2 : Hid (∀ w3, Below w1.heap.size w1 w3 → ∀ j, j < n1 → w3.cell? ⟨g, j, none⟩ = some (.int .u8 (RW.getD j 0))) := hidden hg
        generalize RW.getD (k - 1) 0 = CL at c1 hze
        clear hz HZ hg HC
        go_upto_region 7 with fail
        clear c1 hze hnt l1 l0
        have HB11 := hidden (HB1.out.trans (HB.out.mono HB1.out.size))
        generalize hwq : wr = wq at *
        clear hwq
        go_loopw [7, 8] (fun v i w' => ∃ (q m : Nat) (ys : List Int), q ≤ k ∧ i = .int .i64 q ∧ m ≤ 2 * q ∧ Hid (w'.ownsRow wq.heap.size 5 1 v m (bytesV ys)) ∧ Hid (ys ++ sqT ((RW.take k).drop q) 0 = sqT RW 0) ∧ Hid (Below wq.heap.size wq w')) (fun _ i _ => k - (intOf i).toNat)
        case atStart => exact ⟨0, 0, [], by omega, rfl, by omega, hidden (World.ownsRow_nil _ _ _ _), hidden (by rw [List.drop_zero]; exact HE0.out), hidden (Below.refl _ _)⟩
        case round =>
          obtain ⟨q, m, ys, hq, rfl, hm, HO, HE, HB2⟩ := hrel
          have HCq : Hid (∀ j, j < n1 → wr.cell? ⟨g, j, none⟩ = some (.int .u8 (RW.getD j 0))) := hidden (fun j hj => HC2.out _ (HB.out.trans (HB2.out.mono HB.out.size)) j hj)
          by_cases hlt : q < k
          · have m1 : (q : Int) < k := by omega
            have m2 : (q : Int) < n1 := by omega
            have m0 : (0 : Int) ≤ q := by omega
            have c1 := HCq.out q (by omega)
            by_cases hc : RW.getD q 0 = 0
            · rw [hc] at c1
              have HQ0 : Hid (RW.getD q 0 = 0) := hidden hc
              clear hc
              go_upto_region 12 with fail
              clear c1
              go_loopw [9] (fun i w' => ∃ r : Nat, r ≤ 256 ∧ i = .int .i64 r ∧ Hid (∀ j, j < r → RW.getD (q + j) 0 = 0) ∧ w' = wr) (fun i _ => 256 - (intOf i).toNat)
              case atStart => exact ⟨0, by omega, rfl, hidden (fun j hj => by omega), rfl⟩
              case round =>
                obtain ⟨r, hr, rfl, HR, rfl⟩ := hrel
                have HRK : Hid (q + r < k) := hidden (by
                  by_cases h : q + r < k
                  · exact h
                  · have := HR.out (k - 1 - q) (by omega)
                    rw [show q + (k - 1 - q) = k - 1 by omega] at this
                    exact absurd this HLAST.out)
                have hqr := HRK.out
                have c2 := HCq.out (q + r) (by omega)
                have m3 : ((q : Int) + r) < n1 := by omega
                have m4 : (0 : Int) ≤ (q : Int) + r := by omega
                have m5 : ((q : Int) + r).toNat = q + r := by omega
                by_cases hgo : r < 256 ∧ RW.getD (q + r) 0 = 0
                · have r1 : (r : Int) < 256 := by omega
                  have HR2 : Hid (∀ j, j < r + 1 → RW.getD (q + j) 0 = 0) := hidden (fun j hj => by
                    by_cases h : j < r
                    · exact HR.out j h
                    · obtain rfl : j = r := by omega
                      exact hgo.2)
                  rw [hgo.2] at c2
                  clear HO HE HC2 HCq HE0 hgo HR
                  go_wp2
                  go_roundw
                  case rel => exact ⟨r + 1, by omega, by first | rfl | go_num, HR2, by first | trivial | rfl⟩
                  case measure => simp [intOf]; omega
                · have HX : Hid (r = 256 ∨ RW.getD (q + r) 0 ≠ 0) := hidden (by
                    by_cases h : r = 256
                    · exact .inl h
                    · exact .inr (fun e => hgo ⟨by omega, e⟩))
                  have hr0 : 0 < r := by
                    by_cases h : 0 < r
                    · exact h
                    · obtain rfl : r = 0 := by omega
                      exact absurd ⟨by omega, by simpa using HQ0.out⟩ hgo
                  have HE2 : Hid ((ys ++ [0, ((r - 1 : Nat) : Int)]) ++ sqT ((RW.take k).drop (q + r)) 0 = sqT RW 0) := hidden (by
                    rw [← HE.out, sq_step RW k q r (by rw [HLN.out]; exact hk) hr0 hr HR.out hqr HX.out HLAST.out]
                    simp)
                  have hw : IntKind.u8.wrap ((r : Int) - 1) = ((r - 1 : Nat) : Int) := by rw [IntKind.wrap_u8]; omega
                  have hb1 : Below wr.heap.size wr (wr.alloc (.cells #[.int .u8 0, .int .u8 ((r - 1 : Nat) : Int)] 5)) := (Below.refl _ _).alloc (Nat.le_refl _) _
                  have HO1 := hidden (own_later HO.out hb1)
                  have HN := hidden (new_cell wr [0, ((r - 1 : Nat) : Int)] (by unfold maxLen; simp))
                  have HBs := hidden (HB2.out.trans (hb1.mono HB2.out.size))
                  by_cases h6 : r = 256
                  all_goals
                    first
                    | (have hne : (RW.getD (q + r) 0 == 0) = false := (by rw [beq_eq_false_iff_ne]; exact HX.out.resolve_left h6)
                       have r1 : (r : Int) < 256 := (by omega))
                    | (have r1 : ¬ ((r : Int) < 256) := (by omega))
                    generalize RW.getD (q + r) 0 = CQ at *
                    clear HO HE HC2 HCq HE0 hgo HR HX hb1 h6
                    go_upto_region 14 with fail
                    go_wp2_with (first
                      | (at_builtin; refine wpList_snoc8 rfl _ _ rfl wq.heap.size _ m 2 2 ys [0, ((r - 1 : Nat) : Int)] ⟨wr.heap.size, 0, none⟩ rfl rfl HO1.out rfl (by omega) HN.out (by omega) HBs.out.size ?_; intro a2 c2 w2 HO2 HB2)
                      | fail)
                    go_roundw
                    case rel => exact ⟨q + r, m + 2, _, by omega, by first | rfl | go_num, by omega, HO2, HE2, hidden (HBs.out.trans HB2.out)⟩
                    case measure => simp [intOf]; omega
            · have hce : (RW.getD q 0 != 0) = true := by rw [bne_iff_ne]; exact hc
              have HE2 : Hid ((ys ++ [RW.getD q 0]) ++ sqT ((RW.take k).drop (q + 1)) 0 = sqT RW 0) := hidden (by rw [← HE.out, sq_one RW k q hlt (by rw [HLN.out]; exact hk) hc]; simp)
              generalize RW.getD q 0 = C at *
              have hb1 : Below wr.heap.size wr (wr.alloc (.cells #[.int .u8 C] 5)) := (Below.refl _ _).alloc (Nat.le_refl _) _
              have HO1 := hidden (own_later HO.out hb1)
              have HN := hidden (new_cell wr [C] (by unfold maxLen; simp))
              have HBs := hidden (HB2.out.trans (hb1.mono HB2.out.size))
              clear hb1 HO HE hc HCq HC2
              go_wp2_with (first
                | (at_builtin; refine wpList_snoc8 rfl _ _ rfl wq.heap.size _ m 1 1 ys [C] ⟨wr.heap.size, 0, none⟩ rfl rfl HO1.out rfl (by omega) HN.out (by omega) HBs.out.size ?_; intro a2 c2 w2 HO2 HB2)
                | fail)
              go_roundw
              case rel => exact ⟨q + 1, m + 1, _, by omega, by first | rfl | go_num, by omega, HO2, HE2, hidden (HBs.out.trans HB2.out)⟩
              case measure => simp [intOf]; omega
          · obtain rfl : q = k := by omega
            have hd0 : (RW.take q).drop q = [] := by rw [List.drop_eq_nil_iff]; simp; omega
            rw [hd0, sqT, List.append_nil] at HE
            obtain ⟨a', c', rfl⟩ := own_slice8 HO.out
            have HF := hidden (HB11.out.trans (HB2.out.mono HB11.out.size))
            have HF2 := hidden (own_base HO.out HB11.out.size)
            clear hd0 HO HC2 HCq
            go_wp2
            go_ret
            exact ⟨_, _, _, rfl, by rw [← HE.out]; exact HF2, HF⟩
end Go.Proofs.Ytnjeobijbbjlaaa
