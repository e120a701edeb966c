/- Layer 12, the document: a packed text. -/
import Derived.Test.YtbifolpahmeaeaaT12d
import Derived.Test.YtbifolpahmeaeaaT12e
namespace Go.Proofs.Ytbifolpahmeaeaa
open Go.RowKit
set_option maxHeartbeats 1000000
set_option maxRecDepth 100000
set_option linter.unusedVariables false

def bitI (bs : List Nat) : List Int := bs.map (fun b : Nat => (b : Int))
theorem bitI_len (bs : List Nat) : (bitI bs).length = bs.length := by simp [bitI]
theorem bitI_app (xs ys : List Nat) : bitI (xs ++ ys) = bitI xs ++ bitI ys := by simp [bitI]
theorem bitI_getD (bs : List Nat) (i : Nat) : (bitI bs).getD i 0 = ((bs.getD i 0 : Nat) : Int) := by
  unfold bitI
  rw [List.getD_eq_getElem?_getD, List.getD_eq_getElem?_getD, List.getElem?_map]
  cases bs[i]? <;> rfl
/-- bytes out of a row of bits: the second half of Pack -/
def OutR (w : World) (S : List Int) (e : Ending) (w' : World) : Prop := ∃ g c, e = .returned (.tuple #[.slice (some ⟨g, 0, none⟩) (1 + S.length) c, .int .i64 0]) ∧ w.heap.size ≤ g ∧ Reads w' (some ⟨g, 0, none⟩) (1 + S.length) c ([225] ++ S) ∧ Below w.heap.size w w'
set_option maxHeartbeats 16000000 in
theorem rpack_any (a1 a2 : Option Addr) (n ln c1 c2 : Nat) (A l : List Nat) (w : World) (h1 : VRow w a1 n A) (h2 : VRow w a2 ln l) (hn : n ≤ 300) (hl : ln ≤ 300) (hc : n ≤ c1) (hcm : c1 ≤ 9223372036854775807) :
    Calls Try.prog 10 #[.slice a1 n c1, .slice a2 ln c2] w (PkRet w A l) := by
  have hAl := h1.ln
  have hll := h2.ln
  have HAB : Hid (Calls Try.prog 21 #[.slice a1 n c1] w fun e w' => e = .returned (.int .i64 (plE A : Nat)) ∧ Hid (Below w.heap.size w w')) := hidden ((ralph_any a1 n c1 A w h1 (by omega)).mono (fun e w' hh => ⟨hh.1, hidden hh.2.below⟩))
  by_cases hE : ¬ plE A = 0
  · have HE : Hid (pkE A l = plE A) := hidden (by unfold pkE; rw [if_pos hE])
    have HFIN : Hid (∀ w', Below w.heap.size w w' → PkRet w A l (.returned (.tuple #[.slice none 0 0, .int .i64 (plE A : Nat)])) w') := hidden (fun w' hb => ⟨hb, .inl ⟨by rw [HE.out]; exact hE, by rw [HE.out]⟩⟩)
    generalize hPQ : PkRet w A l = PQ at *
    clear hPQ h1 h2 HE
    have g3 : ¬ ((plE A : Nat) : Int) = 0 := by omega
    generalize plE A = EE at *
    go_enter Try.func10, Try.ntmps10
    go_wp2_with (first | (go_at_call 21; refine HAB.out.mono ?_; rintro r w1 ⟨rfl, HB1⟩))
    exact HFIN.out _ HB1.out
  · replace hE : plE A = 0 := Decidable.not_not.1 hE
    rw [hE] at HAB
    have HF5 : Hid (∀ c, c ∈ l → ¬ c ∈ A → ∀ w', Below w.heap.size w w' → PkRet w A l (.returned (.tuple #[.slice none 0 0, .int .i64 5])) w') := hidden (fun c hc hno w' hb => by
      have : pkE A l = 5 := by unfold pkE; rw [if_neg (by omega), if_neg (fun q => hno (q c hc))]
      exact ⟨hb, .inl ⟨by rw [this]; omega, by rw [this]; rfl⟩⟩)
    have HF0 : Hid ((∀ c ∈ l, c ∈ A) → ∀ (g cc : Nat) (w' : World), w'.ownsRow w.heap.size 5 1 (.slice (some ⟨g, 0, none⟩) (1 + (stepS (pkS A l l.length) 0).1.length) cc) (1 + (stepS (pkS A l l.length) 0).1.length) (bytesV ([225] ++ (stepS (pkS A l l.length) 0).1)) → Below w.heap.size w w' → PkRet w A l (.returned (.tuple #[.slice (some ⟨g, 0, none⟩) (1 + (stepS (pkS A l l.length) 0).1.length) cc, .int .i64 0])) w') := hidden (fun hall g cc w' ho hb => by
      have : pkE A l = 0 := by unfold pkE; rw [if_neg (by omega), if_pos hall]
      exact ⟨hb, .inr ⟨this, g, cc, rfl, (ho.lt g rfl).1, own_reads ho⟩⟩)
    have hfl : (l.flatMap (chB A) ++ [0]).length ≤ 100000 := by
      have q1 := flat_len A l
      have q2 : l.length * (A.length + 1) ≤ 300 * 301 := Nat.mul_le_mul (by omega) (by omega)
      simp only [List.length_append, List.length_cons, List.length_nil]
      omega
    have HFL : Hid (∀ k, (((l.take k).flatMap (chB A)).length ≤ 100000)) := hidden (fun k => by
      have q1 := flat_len A (l.take k)
      have q3 : (l.take k).length ≤ 300 := by rw [List.length_take]; omega
      have q2 : (l.take k).length * (A.length + 1) ≤ 300 * 301 := Nat.mul_le_mul q3 (by omega)
      omega)
    have HSL : Hid ((stepS (pkS A l l.length) 0).1.length = ((l.flatMap (chB A) ++ [0]).length + 7) / 8) := hidden (pk_row A l).ln
    have HBY : Hid (∀ j, j < (stepS (pkS A l l.length) 0).1.length → (stepS (pkS A l l.length) 0).1.getD j 0 = (bitS (l.flatMap (chB A) ++ [0]) j 8 : Nat)) := hidden (pk_byte A l)
    have HB1 := hidden (pk_bits A l)
    generalize (stepS (pkS A l l.length) 0).1 = S at *
    have HWY : Hid (∀ (X : Nat), X < 4294967296 → X ∈ A → ∀ w1, Below w.heap.size w w1 → Calls Try.prog 27 #[.slice (some ⟨w1.heap.size, 0, none⟩) 1 1, .slice a1 n c1, .int .u32 X] (w1.alloc (.cells #[.int .u8 1] 5)) fun r w' => ∃ ad m cc, r = .returned (.tuple #[.slice (some ad) m cc, .bool true]) ∧ Hid (Reads w' (some ad) m cc (bitI (chB A X))) ∧ 0 < m ∧ m ≤ 400 ∧ Hid (Below w1.heap.size w1 w')) := hidden (fun X hX hin w1 hb => by
      have hba : Below w1.heap.size w1 (w1.alloc (.cells #[.int .u8 1] 5)) := (Below.refl _ _).alloc (Nat.le_refl _) _
      refine (rway_any A.length (some ⟨w1.heap.size, 0, none⟩) 1 1 [1] a1 n c1 A X _ (by omega) hc hcm ((h1.later hb).later hba) (by omega) (rd_heap (heap_alloc_new w1 _)) (by omega) hX).mono ?_
      rintro r w' ⟨sa, m, cc, rfl, hfd, hb8⟩
      obtain ⟨r1, r2⟩ := hfd hin
      have e : [1] ++ (way A.length (A.idxOf X) A.length).map (fun b : Nat => (b : Int)) = bitI (chB A X) := by simp [bitI, chB]
      rw [e] at r1
      have hm : m = (way A.length (A.idxOf X) A.length).length + 1 := by
        have := r1.1
        rw [bitI_len] at this
        rw [← this]
        simp [chB]
      obtain ⟨ad, rfl⟩ : ∃ x, sa = some x := by
        rcases r1.2.2 with ⟨_, q, _⟩ | ⟨x, q, _⟩
        · omega
        · exact ⟨x, q⟩
      rw [show decide (X ∈ A) = true by simpa using hin]
      exact ⟨ad, m, cc, rfl, hidden r1, by omega, by simp at r2; omega, hidden (hba.trans (hb8.mono hba.size))⟩)
    have HWN : Hid (∀ (X : Nat), X < 4294967296 → ¬ X ∈ A → ∀ w1, Below w.heap.size w w1 → Calls Try.prog 27 #[.slice (some ⟨w1.heap.size, 0, none⟩) 1 1, .slice a1 n c1, .int .u32 X] (w1.alloc (.cells #[.int .u8 1] 5)) fun r w' => ∃ sa m cc, r = .returned (.tuple #[.slice sa m cc, .bool false]) ∧ Hid (Below w1.heap.size w1 w')) := hidden (fun X hX hin w1 hb => by
      have hba : Below w1.heap.size w1 (w1.alloc (.cells #[.int .u8 1] 5)) := (Below.refl _ _).alloc (Nat.le_refl _) _
      refine (rway_any A.length (some ⟨w1.heap.size, 0, none⟩) 1 1 [1] a1 n c1 A X _ (by omega) hc hcm ((h1.later hb).later hba) (by omega) (rd_heap (heap_alloc_new w1 _)) (by omega) hX).mono ?_
      rintro r w' ⟨sa, m, cc, rfl, hfd, hb8⟩
      rw [show decide (X ∈ A) = false by simpa using hin]
      exact ⟨sa, m, cc, rfl, hidden (hba.trans (hb8.mono hba.size))⟩)
    generalize hPQ : PkRet w A l = PQ at *
    have HV2 := hidden h2
    have HLL := hidden hll
    clear hPQ h1 h2 hE hAl hll
    go_enter Try.func10, Try.ntmps10
    go_upto_region 6 with (first | (go_at_call 21; refine HAB.out.mono ?_; rintro r w1 ⟨rfl, HBx⟩) | fail)
    clear HAB
    go_loopw [7, 8] (fun v i w' => ∃ (k BN : Nat), k ≤ ln ∧ BN ≤ 100000 ∧ i = .int .i64 k ∧ Hid (w'.ownsRow w.heap.size 5 1 v BN (bytesV (bitI ((l.take k).flatMap (chB A))))) ∧ Hid (∀ c ∈ l.take k, c ∈ A) ∧ Hid (Below w.heap.size w w')) (fun _ i _ => ln - (intOf i).toNat)
    case atStart => exact ⟨0, 0, by omega, by omega, rfl, hidden ⟨by simp [bitI, bytesV], .inl ⟨rfl, rfl⟩⟩, hidden (fun c hc => by simp at hc), HBx⟩
    case round =>
      obtain ⟨k, BN, hk, hBN, rfl, HO, HIN, HB⟩ := hrel
      clear HBx
      by_cases hlt : k < ln
      · have d1 : (k : Int) < (ln : Int) := by omega
        have d0 : (0 : Int) ≤ (k : Int) := by omega
        obtain ⟨b, o, rfl, e1⟩ := HV2.out.cells k hlt
        have hkm : k < l.length := by rw [HLL.out]; exact hlt
        have hXm : l.getD k 0 ∈ l := by rw [List.getD_eq_getElem?_getD, List.getElem?_eq_getElem hkm]; simp
        have hXb := HV2.out.bd _ hXm
        have f1 := cellLater (HB.out.alloc HB.out.size (.cells #[.int .u8 1] 5)) e1
        have HTK : Hid (l.take (k + 1) = l.take k ++ [l.getD k 0]) := hidden (by
          rw [List.take_add_one, List.getElem?_eq_getElem hkm, List.getD_eq_getElem?_getD, List.getElem?_eq_getElem hkm]; rfl)
        have HXM := hidden hXm
        clear e1 hXm
        by_cases hin : l.getD k 0 ∈ A
        · have HW := hidden (HWY.out (l.getD k 0) hXb hin wr HB.out)
          have HI1 : Hid (∀ c ∈ l.take (k + 1), c ∈ A) := hidden (fun c hc => by
            rw [HTK.out] at hc
            rcases List.mem_append.1 hc with q | q
            · exact HIN.out c q
            · simp at q; subst q; exact hin)
          have HFT : Hid ((l.take (k + 1)).flatMap (chB A) = (l.take k).flatMap (chB A) ++ chB A (l.getD k 0)) := hidden (by rw [HTK.out]; simp)
          have HFB := hidden (HFL.out (k + 1))
          generalize l.getD k 0 = X at *
          clear hin hkm
          go_upto_region 9 with (first | (go_at_call 27; refine HW.out.mono ?_; rintro r w2 ⟨ad, m, cc, rfl, HR2, hm0, hm4, hb2⟩; have HO2 := hidden (own_later HO.out hb2.out); have HB2 := hidden (HB.out.trans (hb2.out.mono HB.out.size)); clear hb2) | fail)
          clear HW HO HB f1
          obtain ⟨N2, hN2⟩ : ∃ N2, BN + m = N2 := ⟨_, rfl⟩
          have HN2 := hidden hN2
          clear hN2
          go_wp2_with (first | (at_builtin; refine wpList_appV (w0 := w) rfl (.tmp 39) (.tmp 40) rfl _ BN m cc ad (bitI ((l.take k).flatMap (chB A))) (bitI (chB A X)) rfl rfl HO2.out HR2.out hm0 (by omega) HB2.out N2 HN2.out _ rfl ?_; intro g3 c3 w3 HO3 HB3) | fail)
          have HN3 : Hid (N2 ≤ 100000) := hidden (by
            have q := HO3.out.1
            rw [Nat.mul_one, ← bitI_app, ← HFT.out] at q
            have := HFB.out
            simp only [bytesV, List.length_map, bitI_len] at q
            omega)
          rw [← bitI_app, ← HFT.out] at HO3
          go_roundw
          case rel => exact ⟨k + 1, N2, by omega, HN3.out, by go_num, HO3, HI1, HB3⟩
          case measure => simp [intOf]; omega
        · have HW := hidden (HWN.out (l.getD k 0) hXb hin wr HB.out)
          have HF := hidden (HF5.out _ HXM.out hin)
          generalize l.getD k 0 = X at *
          clear hin hkm
          go_wp2_with (first | (go_at_call 27; refine HW.out.mono ?_; rintro r w2 ⟨sa, m, cc, rfl, hb2⟩; have HB2 := hidden (HB.out.trans (hb2.out.mono HB.out.size)); clear hb2) | fail)
          exact HF.out _ HB2.out
      · obtain rfl : k = ln := by omega
        have d1 : ¬ (k : Int) < (k : Int) := by omega
        have HTK : Hid (l.take k = l) := hidden (List.take_of_length_le (by rw [HLL.out]; exact Nat.le_refl _))
        rw [HTK.out] at HO HIN
        have HF := hidden (HF0.out HIN.out)
        clear HIN HF0 HF5 HWY HWN hk hlt HFL HV2
        have HOa := hidden (HO.out.alloc (.cells #[.int .u8 0] 5))
        have HR1 : Hid (Reads (wr.alloc (.cells #[.int .u8 0] 5)) (some ⟨wr.heap.size, 0, none⟩) 1 1 [0]) := hidden (rd_heap (heap_alloc_new wr _))
        have HBa := hidden (HB.out.alloc HB.out.size (.cells #[.int .u8 0] 5))
        obtain ⟨L, hL⟩ : ∃ L, BN + 1 = L := ⟨_, rfl⟩
        have HL := hidden hL
        have hL1 : 1 ≤ L := by omega
        have hL2 : L ≤ 100001 := by omega
        clear hL
        go_upto_region 13 with (first | (at_builtin; refine wpList_appV (w0 := w) rfl (.tmp 42) (.tmp 43) rfl _ BN 1 1 ⟨wr.heap.size, 0, none⟩ (bitI (l.flatMap (chB A))) [0] rfl rfl HOa.out HR1.out (by omega) (by omega) HBa.out L HL.out _ rfl ?_; intro g3 c3 w3 HO3 HB3) | fail)
        clear HO HB HOa HR1 HBa
        have HEB : Hid (bitI (l.flatMap (chB A)) ++ [0] = bitI (l.flatMap (chB A) ++ [0])) := hidden (by rw [bitI_app]; rfl)
        rw [HEB.out] at HO3
        generalize l.flatMap (chB A) ++ [0] = bs at *
        have HBL : Hid (bs.length = L) := hidden (by
          have q := HO3.out.1
          rw [Nat.mul_one] at q
          simp only [bytesV, List.length_map, bitI_len] at q
          exact q)
        clear HEB
        have HO4 : Hid ((w3.alloc (.cells #[.int .u8 225] 5)).ownsRow w3.heap.size 5 1 (.slice (some ⟨w3.heap.size, 0, none⟩) 1 1) 1 (bytesV ([225] ++ S.take 0))) := hidden (by
          have q := owns_new w3 w3.heap.size [225] (Nat.le_refl _) (by decide)
          rw [List.take_zero]
          exact q)
        have HB4 : Hid (Below w3.heap.size w3 (w3.alloc (.cells #[.int .u8 225] 5))) := hidden ((Below.refl _ _).alloc (Nat.le_refl _) _)
        have HC3 : Hid (∀ w', Below w3.heap.size w3 w' → ∀ K, K < L → w'.cell? ⟨g3, K, none⟩ = some (.int .u8 (bs.getD K 0 : Nat))) := hidden (fun w' hb K hK => by
          have q := (own_reads HO3.out).later hb
          rcases q.2.2 with ⟨e, _⟩ | ⟨x, e, hcell⟩
          · cases e
          · cases e
            have := hcell K hK
            rw [plain_add, Nat.zero_add, bitI_getD] at this
            exact this)
        have HB3' := HB3
        clear HO3 HB3
        go_upto_region 15 with fail
        generalize w3.alloc (.cells #[.int .u8 225] 5) = w4 at *
        go_loopw [11, 12] (fun v i w' => ∃ (j J8 J1 g c : Nat), j ≤ S.length ∧ Hid (J8 = 8 * j) ∧ Hid (1 + j = J1) ∧ J8 ≤ 200000 ∧ i = .int .i64 J8 ∧ v = .slice (some ⟨g, 0, none⟩) J1 c ∧ Hid (w'.ownsRow w3.heap.size 5 1 (.slice (some ⟨g, 0, none⟩) J1 c) J1 (bytesV ([225] ++ S.take j))) ∧ Hid (Below w3.heap.size w3 w')) (fun _ i _ => (L + 8 - (intOf i).toNat))
        case atStart => exact ⟨0, 0, 1, _, 1, by omega, hidden rfl, hidden rfl, by omega, rfl, rfl, HO4, HB4⟩
        case round =>
          clear HO4 HB4
          obtain ⟨j, J8, J1, g, cc, hj, HJ8, HJ1, hJb, rfl, rfl, HO, HB⟩ := hrel
          by_cases hlt : j < S.length
          · have HSJ := hidden (HBY.out j hlt)
            have d1 : (J8 : Int) < (L : Int) := by have := HSL.out; have := HJ8.out; have := HBL.out; omega
            have HTK : Hid (S.take (j + 1) = S.take j ++ [S.getD j 0]) := hidden (by
              rw [List.take_add_one, List.getElem?_eq_getElem hlt, List.getD_eq_getElem?_getD, List.getElem?_eq_getElem hlt]; rfl)
            go_upto_region 19 with fail
            generalize wr = wq at *
            go_loopw [13, 14, 15] (fun x p k w' => ∃ (t K X P : Nat), t ≤ 8 ∧ Hid (K = J8 + t) ∧ K ≤ L ∧ Hid (X = bitS bs j t) ∧ Hid (P = 2 ^ t) ∧ X ≤ 255 ∧ P ≤ 256 ∧ K ≤ J8 + 8 ∧ x = .int .i64 X ∧ p = .int .i64 P ∧ k = .int .i64 K ∧ w' = wq) (fun _ _ k _ => (J8 + 8 - (intOf k).toNat))
            case atStart => exact ⟨0, J8, 0, 1, by omega, hidden (by omega), by omega, hidden rfl, hidden rfl, by omega, by omega, by omega, rfl, rfl, rfl, rfl⟩
            case round =>
              obtain ⟨t, K, X, P, ht, HK, hKL, HX, HP, hX, hP, hK8, rfl, rfl, rfl, ew⟩ := hrel
              rw [ew]
              clear ew
              by_cases hc : K < J8 + 8 ∧ K < L
              · obtain ⟨h8, hL⟩ := hc
                have e1 : (K : Int) < (J8 : Int) + 8 := by omega
                have e2 : (K : Int) < (L : Int) := by omega
                have e3 : (0 : Int) ≤ (K : Int) := by omega
                have f1 := HC3.out _ HB.out K hL
                obtain ⟨bb, hbb⟩ : ∃ bb, bs.getD K 0 = bb := ⟨_, rfl⟩
                have hb1 : bb ≤ 1 := by
                  rw [← hbb, List.getD_eq_getElem?_getD, List.getElem?_eq_getElem (by rw [HBL.out]; exact hL)]
                  exact HB1.out _ (List.getElem_mem _)
                rw [hbb] at f1
                obtain ⟨PB, hPB⟩ : ∃ PB, P * bb = PB := ⟨_, rfl⟩
                have hPB2 : PB ≤ 256 := by
                  have : P * bb ≤ 256 * 1 := Nat.mul_le_mul hP hb1
                  omega
                have HX2 : Hid (X + PB = bitS bs j (t + 1) ∧ 2 * P = 2 ^ (t + 1) ∧ X + PB ≤ 255 ∧ 2 * P ≤ 256) := hidden (by
                  have q1 := HK.out
                  have q2 := HJ8.out
                  have q3 := HP.out
                  have q4 := HX.out
                  have q5 : bitS bs j (t + 1) = bitS bs j t + 2 ^ t * bs.getD (8 * j + t) 0 := rfl
                  have q6 : bs.getD (8 * j + t) 0 = bb := by rw [← hbb]; congr 1; omega
                  have q7 : 2 ^ (t + 1) = 2 * 2 ^ t := by rw [Nat.pow_succ]; omega
                  have q8 := bitS_le bs HB1.out j (t + 1)
                  have q9 : (2 : Nat) ^ (t + 1) ≤ 2 ^ 8 := Nat.pow_le_pow_right (by omega) (by omega)
                  rw [q6, ← q3, hPB, ← q4] at q5
                  rw [← q3] at q7
                  refine ⟨q5.symm, q7.symm, by omega, by omega⟩)
                have m1 : (P : Int) * (bb : Int) = (PB : Int) := by rw [← hPB]; simp
                clear hbb hPB
                go_wp2
                go_roundw
                case rel => exact ⟨t + 1, K + 1, X + PB, 2 * P, by have := HK.out; omega, hidden (by have := HK.out; omega), by omega, hidden HX2.out.1, hidden HX2.out.2.1, HX2.out.2.2.1, HX2.out.2.2.2, by omega, by go_num, by go_num, by go_num, by first | rfl | trivial⟩
                case measure => simp [intOf]; omega
              · have HXE : Hid ((X : Int) = S.getD j 0) := hidden (by
                  rw [HSJ.out, HX.out]
                  have q1 := HK.out
                  have q2 := HJ8.out
                  have q3 := HBL.out
                  by_cases e : t = 8
                  · rw [e]
                  · have h2 := bitS_stop bs j (8 - t) t (by omega)
                    rw [show t + (8 - t) = 8 by omega] at h2
                    rw [h2])
                have hw8 : IntKind.u8.wrap (X : Int) = (X : Int) := by rw [IntKind.wrap_u8]; omega
                obtain ⟨J2, hJ2⟩ : ∃ J2, J1 + 1 = J2 := ⟨_, rfl⟩
                have HJ2 := hidden hJ2
                have hJ1b : J1 ≤ 200001 := by have := HJ1.out; have := HJ8.out; omega
                have HOa := hidden (HO.out.alloc (.cells #[.int .u8 (X : Int)] 5))
                have HR1 : Hid (Reads (wq.alloc (.cells #[.int .u8 (X : Int)] 5)) (some ⟨wq.heap.size, 0, none⟩) 1 1 [(X : Int)]) := hidden (rd_heap (heap_alloc_new wq _))
                have HBa := hidden (HB.out.alloc HB.out.size (.cells #[.int .u8 (X : Int)] 5))
                have HAP : Hid (bytesV ([225] ++ S.take j ++ [(X : Int)]) = bytesV ([225] ++ S.take (j + 1))) := hidden (by rw [HTK.out, HXE.out, List.append_assoc])
                have HEX : Hid (K < J8 + 8 → ¬ K < L) := hidden (fun q r => hc ⟨q, r⟩)
                clear hJ2 hc HO HB HX HP HSJ HXE
                by_cases h8 : K < J8 + 8
                · have e1 : (K : Int) < (J8 : Int) + 8 := by omega
                  have e2 : ¬ (K : Int) < (L : Int) := by have := HEX.out h8; omega
                  go_wp2_with (first | (at_builtin; refine wpList_appN (w0 := w3) rfl (.tmp 76) (.tmp 79) rfl g J1 cc 1 1 (some ⟨wq.heap.size, 0, none⟩) ([225] ++ S.take j) [(X : Int)] rfl rfl HOa.out HR1.out (by omega) HBa.out J2 HJ2.out _ rfl ?_; intro g5 c5 w5 HO5 HB5) | fail)
                  rw [HAP.out] at HO5
                  go_roundw
                  case rel => exact ⟨j + 1, J8 + 8, J2, g5, c5, by omega, hidden (by have := HJ8.out; omega), hidden (by have := HJ1.out; have := HJ2.out; omega), by have := HJ8.out; have := HSL.out; have := HBL.out; omega, by go_num, rfl, HO5, HB5⟩
                  case measure => simp [intOf]; omega
                · have e1 : ¬ (K : Int) < (J8 : Int) + 8 := by omega
                  go_wp2_with (first | (at_builtin; refine wpList_appN (w0 := w3) rfl (.tmp 76) (.tmp 79) rfl g J1 cc 1 1 (some ⟨wq.heap.size, 0, none⟩) ([225] ++ S.take j) [(X : Int)] rfl rfl HOa.out HR1.out (by omega) HBa.out J2 HJ2.out _ rfl ?_; intro g5 c5 w5 HO5 HB5) | fail)
                  rw [HAP.out] at HO5
                  go_roundw
                  case rel => exact ⟨j + 1, J8 + 8, J2, g5, c5, by omega, hidden (by have := HJ8.out; omega), hidden (by have := HJ1.out; have := HJ2.out; omega), by have := HJ8.out; have := HSL.out; have := HBL.out; omega, by go_num, rfl, HO5, HB5⟩
                  case measure => simp [intOf]; omega
          · have HJE : Hid (j = S.length) := hidden (by omega)
            have d1 : ¬ (J8 : Int) < (L : Int) := by have := HSL.out; have := HJ8.out; have := HBL.out; have := HJE.out; omega
            have HQ : Hid (PQ (.returned (.tuple #[.slice (some ⟨g, 0, none⟩) J1 cc, .int .i64 0])) wr) := hidden (by
              have q := HO.out
              rw [← HJ1.out, HJE.out, List.take_length] at q
              rw [← HJ1.out, HJE.out]
              exact HF.out g cc wr (own_base q HB3'.out.size) (HB3'.out.trans (HB.out.mono HB3'.out.size)))
            clear HO HB hlt HJE
            go_wp2
            exact HQ.out
end Go.Proofs.Ytbifolpahmeaeaa
