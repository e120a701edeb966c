/- The document's Encode: the operands laid one by one. -/
import Derived.Test.YtpkfmccnjandoaaB11q
namespace Go.Proofs.Ytpkfmccnjandoaa
open Go.RowKit
set_option maxHeartbeats 4000000
set_option maxRecDepth 100000
set_option linter.unusedVariables false

theorem denc_go1 (op : Int) (LS : List UInt8) (a : Option Addr) (c : Nat) (l : List Od) (w : World) (h : Ops w a LS.length c l) (hn : LS.length ≤ 8) (hob : 0 ≤ op ∧ op ≤ 16383) (h1 : op < 128) (hvs : ∀ i, i < LS.length → 0 ≤ (l.getD i (0, 0)).2 ∧ (l.getD i (0, 0)).2 ≤ 4294967295) (hlet : ∀ i, i < LS.length → ((LS.getD i 0).toNat : Int) = 76 ∨ ((LS.getD i 0).toNat : Int) = 83) (hE : encOk op l = okAll LS l)
    (hsg : ∀ wx, Calls Try.prog 30 #[.int .u32 op] wx fun e w' => e = .returned (.tuple #[strV LS, .bool true]) ∧ w' = wx) :
    Calls Try.prog 17 #[.agg #[.int .u32 op, .slice a LS.length c]] w fun e w' => ERet w w' op l e := by
  have hl : l.length = LS.length := h.1
  have hcn : LS.length ≤ c := h.2.1
  have HSg := hidden hsg
  have hiA : IB (w.alloc (.cells #[.int .u32 op, .slice a LS.length c] 28)) w.heap.size op a LS.length c := heap_alloc_new _ _
  obtain ⟨k0, k1, _, _⟩ := ib_box hiA
  have hsz : (⟨LS.toArray⟩ : ByteArray).size = LS.length := by simp [ByteArray.size]
  have q : ((LS.length : Int) != (LS.length : Int)) = false := by simp
  obtain ⟨MK, hMK⟩ : ∃ MK, (LS.length + 1) / 2 = MK := ⟨_, rfl⟩
  have hs1 : IntKind.i64.wrap ((LS.length : Int) + 1) = (LS.length : Int) + 1 := by rw [IntKind.wrap_i64]; omega
  have hs2 : ((LS.length : Int) + 1).tdiv 2 = (MK : Int) := by rw [Int.tdiv_eq_ediv_of_nonneg (by omega)]; omega
  have hs3 : IntKind.i64.wrap (MK : Int) = (MK : Int) := by rw [IntKind.wrap_i64]; omega
  have hMK4 : MK ≤ 4 := by omega
  have hwo : IntKind.u8.wrap op = op := by rw [IntKind.wrap_u8]; omega
  have HMk := hidden fun wx => mk8 .i64 MK (by omega) wx
  have HOB6 : Hid (bytesV [op] = bytesV (opB op)) := by
    show _ = _
    unfold opB
    rw [if_pos h1]
    rw [show putL op 1 = [op % 256] from rfl, show op % 256 = op by omega]
  have HK2 := hidden (show ∀ i, i < LS.length → i / 2 < MK by omega)
  have HZ := hidden (prow_zero l)
  have HEnd := hidden (prow_end l)
  have HPl := hidden (prow_len l)
  rw [hl, hMK] at HZ HPl
  rw [hl] at HEnd
  have HOp := hidden h
  have HVs := hidden hvs
  have HLet := hidden hlet
  have HE := hidden hE
  have HL := hidden hl
  have hbI : Below w.heap.size w (w.alloc (.cells #[.int .u32 op, .slice a LS.length c] 28)) := (Below.refl _ _).alloc (Nat.le_refl _) _
  have HBI := hidden hbI
  have HIA := hidden hiA
  have HN1 := hidden (new_cell_at (w.alloc (.cells #[.int .u32 op, .slice a LS.length c] 28)) [op] (by unfold maxLen; simp) (w.heap.size + 1) (World.size_alloc _ _).symm)
  have HO0 : Hid (World.ownsRow ((w.alloc (.cells #[.int .u32 op, .slice a LS.length c] 28)).alloc (.cells #[.int .u8 op] 5)) (w.heap.size + 1) 5 1 (.slice none 0 0) 0 []) := World.ownsRow_nil _ _ _ _
  have HB1 : Hid (Below (w.heap.size + 1) (w.alloc (.cells #[.int .u32 op, .slice a LS.length c] 28)) ((w.alloc (.cells #[.int .u32 op, .slice a LS.length c] 28)).alloc (.cells #[.int .u8 op] 5))) := (Below.refl _ _).alloc (by rw [World.size_alloc]; exact Nat.le_refl _) _
  have HS1 : Hid (w.heap.size + 1 ≤ ((w.alloc (.cells #[.int .u32 op, .slice a LS.length c] 28)).alloc (.cells #[.int .u8 op] 5)).heap.size) := by
    show _ ≤ _
    rw [World.size_alloc, World.size_alloc]; omega
  obtain ⟨i0, hi, hz0, hz1, hz2⟩ := info_parts info8
  clear h hvs hlet hE hl hiA hbI hMK hsg
  have hmk := HMk.out
  go_enter Try.func17, Try.ntmps17
  go_wp2_with (first | (go_at_call 30; refine (HSg.out _).mono ?_; rintro e w1 ⟨rfl, rfl⟩) | (at_builtin; refine wpList_append_own _ rfl _ _ 22 rfl (w.heap.size + 1) 5 i0 (.int .u8 0) 1 1 Try.underlying22 hi hz0 hz1 hz2 rfl (by decide) _ _ _ rfl HO0.out ⟨w.heap.size + 1, 0, none⟩ 1 1 (bytesV [op]) rfl rfl HN1.out (bytesV_one _) (by unfold maxLen; omega) (by omega) HS1.out ?_; intro v2 w2 hown2 hgrow2 hiff2; clear hiff2; obtain ⟨g6, c6, rfl, hc6, hg6⟩ := owned_shape hown2 (by omega); have hbw := HB1.out.grown hgrow2 HS1.out (fun j hj => by cases hj); have HO2 := hidden hown2; have HB2 := hidden hbw; clear hown2 hgrow2 hbw; refine Hid.out ?_))
  refine hidden ?_
  go_wp2
  have hsI : (w.alloc (.cells #[.int .u32 op, .slice a LS.length c] 28)).heap.size = w.heap.size + 1 := World.size_alloc _ _
  have hGM : w.heap.size + 1 ≤ w2.heap.size := by have := HB2.out.size; omega
  have hgl : g6 < w2.heap.size := (HO2.out.lt g6 rfl).2
  have HO3 : Hid ((w2.alloc (.cells (bytesV (zer8 MK)).toArray 5)).ownsRow (w.heap.size + 1) 5 1 (.slice (some ⟨g6, 0, none⟩) 1 c6) 1 (bytesV (opB op))) := by
    rw [← HOB6.out]
    exact HO2.out.alloc _
  have HI2 : Hid (IB w2 w.heap.size op a LS.length c) := (HB2.out.block w.heap.size (by omega)).trans HIA.out
  have HI3 : Hid (IB (w2.alloc (.cells (bytesV (zer8 MK)).toArray 5)) w.heap.size op a LS.length c) := HI2.out.later ((Below.refl _ _).alloc (Nat.le_refl _) _)
  have HBW3 : Hid (Below w.heap.size w (w2.alloc (.cells (bytesV (zer8 MK)).toArray 5))) := (HBI.out.trans (HB2.out.mono (by omega))).alloc (by omega) _
  have HR3 : Hid (ByRow (w2.alloc (.cells (bytesV (zer8 MK)).toArray 5)) w2.heap.size (prow l 0)) := by
    rw [HZ.out]; exact heap_alloc_new _ _
  have HS3 : Hid (w2.heap.size + 1 ≤ (w2.alloc (.cells (bytesV (zer8 MK)).toArray 5)).heap.size) := by
    show _ ≤ _
    rw [World.size_alloc]; exact Nat.le_refl _
  clear HO2 HI2 HIA HB2 HBI HZ HOB6 HN1 HO0 HB1 HS1 HSg HMk hmk hsI k0 k1 q
  generalize w2.alloc (.cells (bytesV (zer8 MK)).toArray 5) = w3 at *
  generalize w2.heap.size = GM at *
  go_loopw [7, 9] (fun v i wr => ∃ (k n2 : Nat) (ad : Option Addr) (cd : Nat), k ≤ LS.length ∧ i = .int .i64 k ∧ v = .slice ad n2 cd ∧ n2 ≤ 4 * k ∧ Hid (∀ j, j < k → okOd (LS.getD j 0) (l.getD j (0, 0)) = true) ∧ Hid (ByRow wr GM (prow l k)) ∧ Hid (wr.ownsRow (GM + 1) 5 1 (.slice ad n2 cd) n2 (bytesV ((l.take k).flatMap valB))) ∧ Hid (Below GM w3 wr)) (fun _ i _ => LS.length - (intOf i).toNat)
  case atStart => exact ⟨0, 0, none, 0, by omega, rfl, rfl, by omega, fun j hj => by omega, HR3, World.ownsRow_nil _ _ _ _, Below.refl _ _⟩
  case round =>
    clear HR3
    obtain ⟨k, n2, ad, cd, hkl, rfl, rfl, hn2, HJ, HR, HO, HB⟩ := hrel
    have HBW : Hid (Below w.heap.size w wr) := HBW3.out.trans (HB.out.mono (by omega))
    have HI : Hid (IB wr w.heap.size op a LS.length c) := (HB.out.block w.heap.size (by omega)).trans HI3.out
    obtain ⟨k0, k1, _, _⟩ := ib_box HI.out
    by_cases hlt : k < LS.length
    · obtain ⟨g, o, rfl, hc⟩ := HOp.out.cells (by omega)
      have cm := cellLater HBW.out (hc k hlt).1
      have cv := cellLater HBW.out (hc k hlt).2
      have hvb := HVs.out k hlt
      have hk2 := HK2.out k hlt
      obtain ⟨cb, fb⟩ := HR.out.at_ (k / 2) (by rw [HPl.out]; exact hk2)
      rw [prow_at l k (k / 2) (by have := HPl.out k; rw [prow_len] at this; omega)] at cb
      have HSet : Hid (∀ wx : World, ByRow wx GM (prow l k) → ByRow (wx.setCell ⟨GM, k / 2, none⟩ (.int .u8 (pmd l (k + 1) (k / 2)))) GM (prow l (k + 1))) := fun wx hx => by
        have := hx.set (k / 2) (pmd l (k + 1) (k / 2))
        rw [prow_set l k (by rw [HL.out]; exact hlt)] at this
        exact this
      have d1 : (k : Int) < (LS.length : Int) := by omega
      have t1 : (k : Int).tdiv 2 = ((k / 2 : Nat) : Int) := by rw [Int.tdiv_eq_ediv_of_nonneg (by omega)]; omega
      have t2 : (k : Int).tmod 2 = ((k % 2 : Nat) : Int) := by rw [Int.tmod_eq_emod_of_nonneg (by omega)]; omega
      have hw1 : IntKind.i64.wrap ((k / 2 : Nat) : Int) = ((k / 2 : Nat) : Int) := by rw [IntKind.wrap_i64]; omega
      have hw2 : IntKind.i64.wrap ((k % 2 : Nat) : Int) = ((k % 2 : Nat) : Int) := by rw [IntKind.wrap_i64]; omega
      have hw3 : IntKind.i64.wrap ((k : Int) + 1) = (k : Int) + 1 := by rw [IntKind.wrap_i64]; omega
      have HEv := hidden (pmd_even l k)
      have HOdp := hidden (pmd_odd l k)
      have hix := idx_str LS k hlt
      have HTk := hidden (take_snoc l k (by rw [HL.out]; exact hlt))
      have HMP : Hid (k % 2 = 1 → 0 ≤ (l.getD (k - 1) (0, 0)).1 ∧ (l.getD (k - 1) (0, 0)).1 ≤ 15) := fun h => by
        have h1 := HJ.out (k - 1) (by omega)
        unfold okOd mayB at h1
        simp only [Bool.and_eq_true] at h1
        exact okM_bd h1.1.1
      have HPd : Hid (l.getD k (0, 0) = ((l.getD k (0, 0)).1, (l.getD k (0, 0)).2)) := rfl
      generalize (l.getD (k - 1) (0, 0)).1 = MP at *
      obtain ⟨M, hM⟩ : ∃ M, (l.getD k (0, 0)).1 = M := ⟨_, rfl⟩
      obtain ⟨V, hV⟩ : ∃ V, (l.getD k (0, 0)).2 = V := ⟨_, rfl⟩
      rw [hM] at cm HEv HOdp HPd
      rw [hV] at cv hvb HPd
      clear hM hV hc
      rw [HPd.out] at HTk
      have HMy := hidden fun wx => dmay_any ((LS.getD k 0).toNat : Int) M wx (HLet.out k hlt)
      have HOk : Hid (okOd (LS.getD k 0) (l.getD k (0, 0)) = (mayB ((LS.getD k 0).toNat : Int) M && (toldV M (valB (M, V)) == V))) := by rw [HPd.out]; rfl
      generalize ((LS.getD k 0).toNat : Int) = LC at *
      go_wp2
      have hwl : GM < wr.heap.size := HR.out.lt
      have hbq : Below wr.heap.size wr (wr.alloc (.cells #[.int .i64 M, .int .u32 V] 54)) := (Below.refl _ _).alloc (Nat.le_refl _) _
      have HRq := hidden (HR.out.later hbq)
      have HBq : Hid (Below GM w3 (wr.alloc (.cells #[.int .i64 M, .int .u32 V] 54))) := HB.out.trans (hbq.mono (by omega))
      have HOq := hidden (HO.out.alloc (.cells #[.int .i64 M, .int .u32 V] 54))
      have cbq := cellLater hbq cb
      have fbq := (HRq.out.at_ (k / 2) (by rw [HPl.out]; exact hk2)).2
      have caq : (wr.alloc (.cells #[.int .i64 M, .int .u32 V] 54)).cell? ⟨wr.heap.size, 0, none⟩ = some (.int .i64 M) := cell_of_row _ _ 0 _ _ (0, 0) (heap_alloc_new _ _)
      have cwq : (wr.alloc (.cells #[.int .i64 M, .int .u32 V] 54)).cell? ⟨wr.heap.size, 1, none⟩ = some (.int .u32 V) := cell_of_row _ _ 1 _ _ (0, 0) (heap_alloc_new _ _)
      have HABq : Hid (wr.heap.size < (wr.alloc (.cells #[.int .i64 M, .int .u32 V] 54)).heap.size) := by
        show _ < _
        rw [World.size_alloc]; omega
      clear HR HB HO HBW HI hbq cb fb cm cv k0 k1
      generalize wr.alloc (.cells #[.int .i64 M, .int .u32 V] 54) = wq at *
      generalize wr.heap.size = AB at *
      cases hmay : mayB LC M
      · rw [hmay] at HMy HOk
        have HNo := hidden (okAll_no (ls := LS) (by rw [HL.out]; exact hlt) (by rw [HOk.out]; rfl))
        clear hmay
        go_quiet (first | (go_at_call 31; exact Calls.quiet_of_same (HMy.out _)))
        all_goals (try go_wp2)
        refine bodyPost_ret (v := .tuple #[.slice none 0 0, .int .i64 1]) (by simp [results, Try.results17, go_sem]) rfl ⟨HBW3.out.trans ((below_dr HBq.out ⟨_, rfl⟩).mono (by omega)), fun _ => rfl, fun h => ?_⟩
        rw [HE.out, HNo.out] at h; cases h
      · rw [hmay] at HMy HOk
        rw [Bool.true_and] at HOk
        have hok : okM M = true := by
          unfold mayB at hmay
          simp only [Bool.and_eq_true] at hmay
          exact hmay.1
        clear hmay
        have hmb := okM_bd hok
        have hwc := widN_cases M
        have HSz := hidden fun wx => dsize_any M wx
        rw [show sizI M = (widN M : Int) by unfold sizI; rw [hok]; exact widI_nat M] at HSz
        go_quiet (first | (go_at_call 31; exact Calls.quiet_of_same (HMy.out _)))
        have HRd : Hid (ByRow (wq.drewN nq) GM (prow l k)) := HRq.out
        have HBd : Hid (Below GM w3 (wq.drewN nq)) := below_dr HBq.out ⟨_, rfl⟩
        have HOd : Hid ((wq.drewN nq).ownsRow (GM + 1) 5 1 (.slice ad n2 cd) n2 (bytesV ((l.take k).flatMap valB))) := HOq.out
        have cbd := cellLater (Dr.below ⟨nq, rfl⟩) cbq
        have fbd := (HRd.out.at_ (k / 2) (by rw [HPl.out]; exact hk2)).2
        have cad := cellLater (Dr.below ⟨nq, rfl⟩) caq
        have cwd := cellLater (Dr.below ⟨nq, rfl⟩) cwq
        have HABd : Hid (AB < (wq.drewN nq).heap.size) := HABq
        clear HRq HBq HOq cbq fbq caq cwq HABq HMy
        generalize wq.drewN nq = wd at *
        generalize k / 2 = K2 at *
        by_cases hz : widN M = 0
        · obtain ⟨hvn, htv⟩ := told_0 M V hz
          rw [htv] at HOk
          rw [hz] at HSz
          replace HSz : Hid (∀ wx, Calls Try.prog 32 #[.int .i64 M] wx fun e w' => e = .returned (.int .i64 0) ∧ w' = wx) := HSz
          have HPt := hidden fun wx => rput_bad V 0 wx rfl rfl rfl
          clear htv hwc
          clear nq
          go_wp2
          go_quiet (first | (go_at_call 32; exact Calls.quiet_of_same (HSz.out _)) | (go_at_call 19; exact Calls.quiet_of_same (HPt.out _)))
          have HR5 : Hid (ByRow (wd.drewN nq) GM (prow l k)) := HRd.out
          have HB5 : Hid (Below GM w3 (wd.drewN nq)) := below_dr HBd.out ⟨_, rfl⟩
          have HO5 : Hid ((wd.drewN nq).ownsRow (GM + 1) 5 1 (.slice ad n2 cd) n2 (bytesV ((l.take k).flatMap valB))) := HOd.out
          have cb5 := cellLater (Dr.below ⟨nq, rfl⟩) cbd
          have fb5 := (HR5.out.at_ K2 (by rw [HPl.out]; exact hk2)).2
          have ca5 := cellLater (Dr.below ⟨nq, rfl⟩) cad
          have cw5 := cellLater (Dr.below ⟨nq, rfl⟩) cwd
          have HAB5 : Hid (AB < (wd.drewN nq).heap.size) := HABd
          clear HRd HBd HOd cbd fbd cad cwd HABd HSz HPt
          generalize wd.drewN nq = w5 at *
          by_cases hm4 : M < 4
          · have HExt := hidden fun wx => extR_any 0 0 wx (by decide) (by decide)
            rw [show extW 0 0 = 0 from rfl] at HExt
            by_cases hv : 0 = V
            · subst hv
              have HFl : Hid ((l.take k ++ [(M, 0)]).flatMap valB = (l.take k).flatMap valB) := by
                show _ = _
                rw [List.flatMap_append]
                simp [List.flatMap_cons, hvn]
              have HOkk : Hid (okOd (LS.getD k 0) (l.getD k (0, 0)) = true) := by
                refine HOk.out.trans ?_
                rfl
              have HJ1 : Hid (∀ j, j < k + 1 → okOd (LS.getD j 0) (l.getD j (0, 0)) = true) := fun j hj => by
                by_cases e : j < k
                · exact HJ.out j e
                · obtain rfl : j = k := by omega
                  exact HOkk.out
              rcases (show k % 2 = 0 ∨ k % 2 = 1 by omega) with hpar | hpar
              · obtain ⟨e1, e2⟩ := HEv.out hpar
                rw [e2] at HSet
                rw [hpar] at t2 hw2
                have hwm : IntKind.u8.wrap M = M := by rw [IntKind.wrap_u8]; omega
                clear e1 e2 HEv HOdp hpar HMP
                have HR6 := hidden (HSet.out _ HR5.out)
                have HB6 : Hid (Below GM w3 (w5.setCell ⟨GM, K2, none⟩ (.int .u8 M))) := HB5.out.setCell (p := ⟨GM, K2, none⟩) (Nat.le_refl _) _
                have HO6 : Hid ((w5.setCell ⟨GM, K2, none⟩ (.int .u8 M)).ownsRow (GM + 1) 5 1 (.slice ad n2 cd) n2 (bytesV ((l.take k).flatMap valB))) := own_other8 HO5.out (fun b (hb : GM + 1 ≤ b) => heap_setCell_other _ _ _ _ (show b ≠ GM by omega))
                have HS6 : Hid (GM + 1 ≤ (w5.setCell ⟨GM, K2, none⟩ (.int .u8 M)).heap.size) := by
                  show _ ≤ _
                  rw [World.size_setCell]; have := HR5.out.lt; omega
                go_wp2_with (first | (go_at_call 33; refine (HExt.out _).mono ?_; rintro e w4 ⟨rfl, hw⟩; obtain rfl := hw.symm; clear hw) | (at_builtin; refine wpList_append_own_none rfl _ _ 22 rfl (GM + 1) 5 i0 1 Try.underlying22 hi _ _ _ rfl HO6.out rfl ?_))
                go_roundw
                case rel => exact ⟨k + 1, n2, ad, cd, by omega, int_eq (by omega), rfl, by omega, HJ1, HR6, by rw [HTk.out, HFl.out]; exact HO6, HB6⟩
                case measure => simp [intOf]; omega
              · obtain ⟨e1, e2⟩ := HOdp.out hpar
                rw [e2] at HSet
                rw [e1] at cb5
                rw [hpar] at t2 hw2
                obtain ⟨hp0, hp1⟩ := HMP.out hpar
                have hx1 : IntKind.i64.wrap (16 * M) = 16 * M := by rw [IntKind.wrap_i64]; omega
                have hx2 : IntKind.u8.wrap (16 * M) = 16 * M := by rw [IntKind.wrap_u8]; omega
                have hx3 : IntKind.u8.wrap (MP + 16 * M) = MP + 16 * M := by rw [IntKind.wrap_u8]; omega
                have hne : ¬ AB = GM := by omega
                have hne2 : ¬ GM = AB := by omega
                have hq1 : (K2 : Int) < (MK : Int) := by omega
                clear e1 e2 HEv HOdp hpar HMP
                have HR6 := hidden (HSet.out _ HR5.out)
                have HB6 : Hid (Below GM w3 (w5.setCell ⟨GM, K2, none⟩ (.int .u8 (MP + 16 * M)))) := HB5.out.setCell (p := ⟨GM, K2, none⟩) (Nat.le_refl _) _
                have HO6 : Hid ((w5.setCell ⟨GM, K2, none⟩ (.int .u8 (MP + 16 * M))).ownsRow (GM + 1) 5 1 (.slice ad n2 cd) n2 (bytesV ((l.take k).flatMap valB))) := own_other8 HO5.out (fun b (hb : GM + 1 ≤ b) => heap_setCell_other _ _ _ _ (show b ≠ GM by omega))
                have HS6 : Hid (GM + 1 ≤ (w5.setCell ⟨GM, K2, none⟩ (.int .u8 (MP + 16 * M))).heap.size) := by
                  show _ ≤ _
                  rw [World.size_setCell]; have := HR5.out.lt; omega
                go_wp2_with (first | (go_at_call 33; refine (HExt.out _).mono ?_; rintro e w4 ⟨rfl, hw⟩; obtain rfl := hw.symm; clear hw))
                go_region
                have HR6d : Hid (ByRow (w5.setCell ⟨GM, K2, none⟩ (.int .u8 (MP + 16 * M))).drew GM (prow l (k + 1))) := HR6.out
                have HB6d : Hid (Below GM w3 (w5.setCell ⟨GM, K2, none⟩ (.int .u8 (MP + 16 * M))).drew) := HB6.out.drew
                have HO6d : Hid (World.ownsRow (w5.setCell ⟨GM, K2, none⟩ (.int .u8 (MP + 16 * M))).drew (GM + 1) 5 1 (.slice ad n2 cd) n2 (bytesV ((l.take k).flatMap valB))) := HO6.out
                have HS6d : Hid (GM + 1 ≤ ((w5.setCell ⟨GM, K2, none⟩ (.int .u8 (MP + 16 * M))).drew).heap.size) := HS6.out
                clear HR6 HB6 HO6 HS6
                generalize (w5.setCell ⟨GM, K2, none⟩ (.int .u8 (MP + 16 * M))).drew = w6 at *
                go_wp2_with (first | (at_builtin; refine wpList_append_own_none rfl _ _ 22 rfl (GM + 1) 5 i0 1 Try.underlying22 hi _ _ _ rfl HO6d.out rfl ?_))
                go_roundw
                case rel => exact ⟨k + 1, n2, ad, cd, by omega, int_eq (by omega), rfl, by omega, HJ1, HR6d, by rw [HTk.out, HFl.out]; exact HO6d, HB6d⟩
                case measure => simp [intOf]; omega
            · have HNo := hidden (okAll_no (ls := LS) (by rw [HL.out]; exact hlt) (HOk.out.trans (by simpa using hv)))
              have hvq : ((0 : Int) != V) = true := by simpa using hv
              go_wp2_with (first | (go_at_call 33; refine (HExt.out _).mono ?_; rintro e w4 ⟨rfl, hw⟩; obtain rfl := hw.symm; clear hw))
              refine bodyPost_ret (v := .tuple #[.slice none 0 0, .int .i64 1]) (by simp [results, Try.results17, go_sem]) rfl ⟨HBW3.out.trans (HB5.out.mono (by omega)), fun _ => rfl, fun h => ?_⟩
              rw [HE.out, HNo.out] at h; cases h
          · by_cases hv : 0 = V
            · subst hv
              have HFl : Hid ((l.take k ++ [(M, 0)]).flatMap valB = (l.take k).flatMap valB) := by
                show _ = _
                rw [List.flatMap_append]
                simp [List.flatMap_cons, hvn]
              have HOkk : Hid (okOd (LS.getD k 0) (l.getD k (0, 0)) = true) := by
                refine HOk.out.trans ?_
                rfl
              have HJ1 : Hid (∀ j, j < k + 1 → okOd (LS.getD j 0) (l.getD j (0, 0)) = true) := fun j hj => by
                by_cases e : j < k
                · exact HJ.out j e
                · obtain rfl : j = k := by omega
                  exact HOkk.out
              rcases (show k % 2 = 0 ∨ k % 2 = 1 by omega) with hpar | hpar
              · obtain ⟨e1, e2⟩ := HEv.out hpar
                rw [e2] at HSet
                rw [hpar] at t2 hw2
                have hwm : IntKind.u8.wrap M = M := by rw [IntKind.wrap_u8]; omega
                clear e1 e2 HEv HOdp hpar HMP
                have HR6 := hidden (HSet.out _ HR5.out)
                have HB6 : Hid (Below GM w3 (w5.setCell ⟨GM, K2, none⟩ (.int .u8 M))) := HB5.out.setCell (p := ⟨GM, K2, none⟩) (Nat.le_refl _) _
                have HO6 : Hid ((w5.setCell ⟨GM, K2, none⟩ (.int .u8 M)).ownsRow (GM + 1) 5 1 (.slice ad n2 cd) n2 (bytesV ((l.take k).flatMap valB))) := own_other8 HO5.out (fun b (hb : GM + 1 ≤ b) => heap_setCell_other _ _ _ _ (show b ≠ GM by omega))
                have HS6 : Hid (GM + 1 ≤ (w5.setCell ⟨GM, K2, none⟩ (.int .u8 M)).heap.size) := by
                  show _ ≤ _
                  rw [World.size_setCell]; have := HR5.out.lt; omega
                go_wp2_with (first | (at_builtin; refine wpList_append_own_none rfl _ _ 22 rfl (GM + 1) 5 i0 1 Try.underlying22 hi _ _ _ rfl HO6.out rfl ?_))
                go_roundw
                case rel => exact ⟨k + 1, n2, ad, cd, by omega, int_eq (by omega), rfl, by omega, HJ1, HR6, by rw [HTk.out, HFl.out]; exact HO6, HB6⟩
                case measure => simp [intOf]; omega
              · obtain ⟨e1, e2⟩ := HOdp.out hpar
                rw [e2] at HSet
                rw [e1] at cb5
                rw [hpar] at t2 hw2
                obtain ⟨hp0, hp1⟩ := HMP.out hpar
                have hx1 : IntKind.i64.wrap (16 * M) = 16 * M := by rw [IntKind.wrap_i64]; omega
                have hx2 : IntKind.u8.wrap (16 * M) = 16 * M := by rw [IntKind.wrap_u8]; omega
                have hx3 : IntKind.u8.wrap (MP + 16 * M) = MP + 16 * M := by rw [IntKind.wrap_u8]; omega
                have hne : ¬ AB = GM := by omega
                have hne2 : ¬ GM = AB := by omega
                have hq1 : (K2 : Int) < (MK : Int) := by omega
                clear e1 e2 HEv HOdp hpar HMP
                have HR6 := hidden (HSet.out _ HR5.out)
                have HB6 : Hid (Below GM w3 (w5.setCell ⟨GM, K2, none⟩ (.int .u8 (MP + 16 * M)))) := HB5.out.setCell (p := ⟨GM, K2, none⟩) (Nat.le_refl _) _
                have HO6 : Hid ((w5.setCell ⟨GM, K2, none⟩ (.int .u8 (MP + 16 * M))).ownsRow (GM + 1) 5 1 (.slice ad n2 cd) n2 (bytesV ((l.take k).flatMap valB))) := own_other8 HO5.out (fun b (hb : GM + 1 ≤ b) => heap_setCell_other _ _ _ _ (show b ≠ GM by omega))
                have HS6 : Hid (GM + 1 ≤ (w5.setCell ⟨GM, K2, none⟩ (.int .u8 (MP + 16 * M))).heap.size) := by
                  show _ ≤ _
                  rw [World.size_setCell]; have := HR5.out.lt; omega
                go_wp2
                go_region
                have HR6d : Hid (ByRow (w5.setCell ⟨GM, K2, none⟩ (.int .u8 (MP + 16 * M))).drew GM (prow l (k + 1))) := HR6.out
                have HB6d : Hid (Below GM w3 (w5.setCell ⟨GM, K2, none⟩ (.int .u8 (MP + 16 * M))).drew) := HB6.out.drew
                have HO6d : Hid (World.ownsRow (w5.setCell ⟨GM, K2, none⟩ (.int .u8 (MP + 16 * M))).drew (GM + 1) 5 1 (.slice ad n2 cd) n2 (bytesV ((l.take k).flatMap valB))) := HO6.out
                have HS6d : Hid (GM + 1 ≤ ((w5.setCell ⟨GM, K2, none⟩ (.int .u8 (MP + 16 * M))).drew).heap.size) := HS6.out
                clear HR6 HB6 HO6 HS6
                generalize (w5.setCell ⟨GM, K2, none⟩ (.int .u8 (MP + 16 * M))).drew = w6 at *
                go_wp2_with (first | (at_builtin; refine wpList_append_own_none rfl _ _ 22 rfl (GM + 1) 5 i0 1 Try.underlying22 hi _ _ _ rfl HO6d.out rfl ?_))
                go_roundw
                case rel => exact ⟨k + 1, n2, ad, cd, by omega, int_eq (by omega), rfl, by omega, HJ1, HR6d, by rw [HTk.out, HFl.out]; exact HO6d, HB6d⟩
                case measure => simp [intOf]; omega
            · have HNo := hidden (okAll_no (ls := LS) (by rw [HL.out]; exact hlt) (HOk.out.trans (by simpa using hv)))
              have hvq : ((0 : Int) != V) = true := by simpa using hv
              go_wp2
              refine bodyPost_ret (v := .tuple #[.slice none 0 0, .int .i64 1]) (by simp [results, Try.results17, go_sem]) rfl ⟨HBW3.out.trans (HB5.out.mono (by omega)), fun _ => rfl, fun h => ?_⟩
              rw [HE.out, HNo.out] at h; cases h
        · have hbv : 0 ≤ beV (valB (M, V)) 0 (widN M) ∧ beV (valB (M, V)) 0 (widN M) ≤ 4294967295 := by
            have h := rb_beV (valB (M, V)) 0 (widN M : Int) (by unfold IsW; omega)
            have h2 := rb_bd (valB (M, V)) 0 (widN M) (valB_ok _) (by omega)
            rw [Int.toNat_natCast] at h
            rw [← h]; exact ⟨h2.1, h2.2.1⟩
          have HPt : Hid (∀ wx, Below wd.heap.size wd wx → Calls Try.prog 19 #[.int .u32 V, .int .i64 (widN M)] wx fun e w' => ∃ gp cp, e = .returned (.slice (some ⟨gp, 0, none⟩) (widN M) cp) ∧ widN M ≤ cp ∧ GM < gp ∧ w'.ownsRow (GM + 1) 5 1 (.slice (some ⟨gp, 0, none⟩) (widN M) cp) (widN M) (bytesV (valB (M, V))) ∧ (w'.cell? ⟨AB, 0, none⟩ = some (.int .i64 M) ∧ w'.cell? ⟨AB, 1, none⟩ = some (.int .u32 V)) ∧ Below wd.heap.size wd w') := fun wx hx => (dput_any M V wx (by omega) hvb.1 hvb.2).mono (fun e w' hh => by
            obtain ⟨gp, cp, h1, h2, h3, h4, h5⟩ := hh
            have hx2 := hx.trans (h5.mono hx.size)
            have h6 := HABd.out
            have h7 := hx.size
            exact ⟨gp, cp, h1, h2, by omega, own_base h4 (by omega), ⟨cellLater hx2 cad, cellLater hx2 cwd⟩, hx2⟩)
          go_wp2
          go_region_held3 (fun w' => w'.cell? ⟨AB, 0, none⟩ = some (.int .i64 M) ∧ w'.cell? ⟨AB, 1, none⟩ = some (.int .u32 V)) (first | assumption | exact ⟨by assumption, by assumption⟩ | fail) (first | (go_at_call 32; refine (HSz.out _).mono ?_; rintro e w4 ⟨rfl, e4⟩; rw [e4]; clear e4) | (go_at_call 19; refine (HPt.out _ (by first | exact (Below.refl _ _).drew | exact Below.refl _ _)).mono ?_; rintro e w5 ⟨gp, cp, rfl, hcp, hg5, ho5, hc5, hb5⟩; have HP5 := hidden ho5; have HBB5 := hidden hb5; clear ho5 hb5) | fail)
          have HR5 := hidden (HRd.out.later HBB5.out)
          have HB5 : Hid (Below GM w3 w5) := HBd.out.trans (HBB5.out.mono (by have := HABd.out; omega))
          have HO5 := hidden (own_later HOd.out HBB5.out)
          have cb5 := cellLater HBB5.out cbd
          have fb5 := (HR5.out.at_ K2 (by rw [HPl.out]; exact hk2)).2
          obtain ⟨ca5, cw5⟩ := hc5
          have HBe := hidden (dbe_any gp 0 (widN M) cp 0 (widN M) (valB (M, V)) w5 ⟨valB_len _, fun i hi => owned_cells HP5.out i hi⟩ (valB_ok _) hcp (by omega) (by omega) (by omega))
          replace HBe : Hid (Calls Try.prog 29 #[.slice (some ⟨gp, 0, none⟩) (widN M) cp, .int .i64 0, .int .i64 (widN M)] w5 fun e w' => e = .returned (.tuple #[.int .u32 (beV (valB (M, V)) 0 (widN M)), .int .i64 0]) ∧ w' = w5) := HBe
          have hwp0 : (0 : Int) < (widN M : Int) := by omega
          clear HRd HBd HOd cbd fbd cad cwd HABd HSz HPt HBB5
          by_cases hm4 : M < 4
          · have HTv : Hid (toldV M (valB (M, V)) = extW (beV (valB (M, V)) 0 (widN M)) (widN M)) := by
              show _ = _
              unfold toldV
              rw [isC_lt hok hz, show decide (M < 4) = true by simp; omega, if_pos rfl, told_be M V hz, valB_len]
            rw [HTv.out] at HOk
            have HExt := hidden fun wx => extR_any (beV (valB (M, V)) 0 (widN M)) (widN M) wx hbv.1 hbv.2
            by_cases hv : extW (beV (valB (M, V)) 0 (widN M)) (widN M) = V
            · have hvq : (extW (beV (valB (M, V)) 0 (widN M)) (widN M) != V) = false := by simpa using hv
              have HFl : Hid ((l.take k ++ [(M, V)]).flatMap valB = (l.take k).flatMap valB ++ valB (M, V)) := by
                show _ = _
                rw [List.flatMap_append]
                simp [List.flatMap_cons]
              have HOkk : Hid (okOd (LS.getD k 0) (l.getD k (0, 0)) = true) := by
                refine HOk.out.trans ?_
                simpa using hv
              have HJ1 : Hid (∀ j, j < k + 1 → okOd (LS.getD j 0) (l.getD j (0, 0)) = true) := fun j hj => by
                by_cases e : j < k
                · exact HJ.out j e
                · obtain rfl : j = k := by omega
                  exact HOkk.out
              rcases (show k % 2 = 0 ∨ k % 2 = 1 by omega) with hpar | hpar
              · obtain ⟨e1, e2⟩ := HEv.out hpar
                rw [e2] at HSet
                rw [hpar] at t2 hw2
                have hwm : IntKind.u8.wrap M = M := by rw [IntKind.wrap_u8]; omega
                clear e1 e2 HEv HOdp hpar HMP
                have HR6 := hidden (HSet.out _ HR5.out)
                have HB6 : Hid (Below GM w3 (w5.setCell ⟨GM, K2, none⟩ (.int .u8 M))) := HB5.out.setCell (p := ⟨GM, K2, none⟩) (Nat.le_refl _) _
                have HO6 : Hid ((w5.setCell ⟨GM, K2, none⟩ (.int .u8 M)).ownsRow (GM + 1) 5 1 (.slice ad n2 cd) n2 (bytesV ((l.take k).flatMap valB))) := own_other8 HO5.out (fun b (hb : GM + 1 ≤ b) => heap_setCell_other _ _ _ _ (show b ≠ GM by omega))
                have HS6 : Hid (GM + 1 ≤ (w5.setCell ⟨GM, K2, none⟩ (.int .u8 M)).heap.size) := by
                  show _ ≤ _
                  rw [World.size_setCell]; have := HR5.out.lt; omega
                have HN6 : Hid (∀ j u, (bytesV (valB (M, V)))[j]? = some u → (w5.setCell ⟨GM, K2, none⟩ (.int .u8 M)).cell? ((⟨gp, 0, none⟩ : Addr).add j) = some u) := (own_other8 HP5.out (fun b (hb : GM + 1 ≤ b) => heap_setCell_other _ _ _ _ (show b ≠ GM by omega))).cells rfl
                go_wp2_with (first | (go_at_call 29; refine HBe.out.mono ?_; rintro e w4 ⟨rfl, hw⟩; obtain rfl := hw.symm; clear hw) | (go_at_call 33; refine (HExt.out _).mono ?_; rintro e w4 ⟨rfl, hw⟩; obtain rfl := hw.symm; clear hw) | (at_builtin; refine wpList_append_own _ rfl _ _ 22 rfl (GM + 1) 5 i0 (.int .u8 0) 1 1 Try.underlying22 hi hz0 hz1 hz2 rfl (by decide) _ _ _ rfl HO6.out ⟨gp, 0, none⟩ (widN M) cp (bytesV (valB (M, V))) rfl (by simp [bytesV, valB_len]) HN6.out (bytesV_one _) (by unfold maxLen; omega) (by omega) HS6.out ?_; intro v7 w7 ho7 hg7 hi7; clear hi7; obtain ⟨ad7, cd7, rfl⟩ := own_shape8 ho7; have HO7 := hidden ho7; have HG7 := hidden hg7; clear ho7 hg7; refine Hid.out ?_))
                have HL6 := hidden (World.ownsRow.lt HO6.out)
                have HB7 : Hid (Below GM w3 w7) := HB6.out.grown HG7.out (by have := HS6.out; omega) (fun j hj => by have := (HL6.out j hj).1; omega)
                have HR7 : Hid (ByRow w7 GM (prow l (k + 1))) := (HG7.out.block GM (by have := HS6.out; omega) (fun e => by have := (HL6.out GM e.symm).1; omega)).trans HR6.out
                refine hidden ?_
                go_wp2
                go_roundw
                case rel => exact ⟨k + 1, n2 + widN M, ad7, cd7, by omega, int_eq (by omega), rfl, by omega, HJ1, HR7, by rw [HTk.out, HFl.out, ← bytesV_append]; exact HO7, HB7⟩
                case measure => simp [intOf]; omega
              · obtain ⟨e1, e2⟩ := HOdp.out hpar
                rw [e2] at HSet
                rw [e1] at cb5
                rw [hpar] at t2 hw2
                obtain ⟨hp0, hp1⟩ := HMP.out hpar
                have hx1 : IntKind.i64.wrap (16 * M) = 16 * M := by rw [IntKind.wrap_i64]; omega
                have hx2 : IntKind.u8.wrap (16 * M) = 16 * M := by rw [IntKind.wrap_u8]; omega
                have hx3 : IntKind.u8.wrap (MP + 16 * M) = MP + 16 * M := by rw [IntKind.wrap_u8]; omega
                have hne : ¬ AB = GM := by omega
                have hne2 : ¬ GM = AB := by omega
                have hq1 : (K2 : Int) < (MK : Int) := by omega
                clear e1 e2 HEv HOdp hpar HMP
                have HR6 := hidden (HSet.out _ HR5.out)
                have HB6 : Hid (Below GM w3 (w5.setCell ⟨GM, K2, none⟩ (.int .u8 (MP + 16 * M)))) := HB5.out.setCell (p := ⟨GM, K2, none⟩) (Nat.le_refl _) _
                have HO6 : Hid ((w5.setCell ⟨GM, K2, none⟩ (.int .u8 (MP + 16 * M))).ownsRow (GM + 1) 5 1 (.slice ad n2 cd) n2 (bytesV ((l.take k).flatMap valB))) := own_other8 HO5.out (fun b (hb : GM + 1 ≤ b) => heap_setCell_other _ _ _ _ (show b ≠ GM by omega))
                have HS6 : Hid (GM + 1 ≤ (w5.setCell ⟨GM, K2, none⟩ (.int .u8 (MP + 16 * M))).heap.size) := by
                  show _ ≤ _
                  rw [World.size_setCell]; have := HR5.out.lt; omega
                have HN6 : Hid (∀ j u, (bytesV (valB (M, V)))[j]? = some u → (w5.setCell ⟨GM, K2, none⟩ (.int .u8 (MP + 16 * M))).cell? ((⟨gp, 0, none⟩ : Addr).add j) = some u) := (own_other8 HP5.out (fun b (hb : GM + 1 ≤ b) => heap_setCell_other _ _ _ _ (show b ≠ GM by omega))).cells rfl
                go_wp2_with (first | (go_at_call 29; refine HBe.out.mono ?_; rintro e w4 ⟨rfl, hw⟩; obtain rfl := hw.symm; clear hw) | (go_at_call 33; refine (HExt.out _).mono ?_; rintro e w4 ⟨rfl, hw⟩; obtain rfl := hw.symm; clear hw))
                go_region
                have HR6d : Hid (ByRow (w5.setCell ⟨GM, K2, none⟩ (.int .u8 (MP + 16 * M))).drew GM (prow l (k + 1))) := HR6.out
                have HB6d : Hid (Below GM w3 (w5.setCell ⟨GM, K2, none⟩ (.int .u8 (MP + 16 * M))).drew) := HB6.out.drew
                have HO6d : Hid (World.ownsRow (w5.setCell ⟨GM, K2, none⟩ (.int .u8 (MP + 16 * M))).drew (GM + 1) 5 1 (.slice ad n2 cd) n2 (bytesV ((l.take k).flatMap valB))) := HO6.out
                have HS6d : Hid (GM + 1 ≤ ((w5.setCell ⟨GM, K2, none⟩ (.int .u8 (MP + 16 * M))).drew).heap.size) := HS6.out
                have HN6d : Hid (∀ j u, (bytesV (valB (M, V)))[j]? = some u → ((w5.setCell ⟨GM, K2, none⟩ (.int .u8 (MP + 16 * M))).drew).cell? ((⟨gp, 0, none⟩ : Addr).add j) = some u) := HN6.out
                clear HR6 HB6 HO6 HS6 HN6
                generalize (w5.setCell ⟨GM, K2, none⟩ (.int .u8 (MP + 16 * M))).drew = w6 at *
                go_wp2_with (first | (at_builtin; refine wpList_append_own _ rfl _ _ 22 rfl (GM + 1) 5 i0 (.int .u8 0) 1 1 Try.underlying22 hi hz0 hz1 hz2 rfl (by decide) _ _ _ rfl HO6d.out ⟨gp, 0, none⟩ (widN M) cp (bytesV (valB (M, V))) rfl (by simp [bytesV, valB_len]) HN6d.out (bytesV_one _) (by unfold maxLen; omega) (by omega) HS6d.out ?_; intro v7 w7 ho7 hg7 hi7; clear hi7; obtain ⟨ad7, cd7, rfl⟩ := own_shape8 ho7; have HO7 := hidden ho7; have HG7 := hidden hg7; clear ho7 hg7; refine Hid.out ?_))
                have HL6 := hidden (World.ownsRow.lt HO6d.out)
                have HB7 : Hid (Below GM w3 w7) := HB6d.out.grown HG7.out (by have := HS6d.out; omega) (fun j hj => by have := (HL6.out j hj).1; omega)
                have HR7 : Hid (ByRow w7 GM (prow l (k + 1))) := (HG7.out.block GM (by have := HS6d.out; omega) (fun e => by have := (HL6.out GM e.symm).1; omega)).trans HR6d.out
                refine hidden ?_
                go_wp2
                go_roundw
                case rel => exact ⟨k + 1, n2 + widN M, ad7, cd7, by omega, int_eq (by omega), rfl, by omega, HJ1, HR7, by rw [HTk.out, HFl.out, ← bytesV_append]; exact HO7, HB7⟩
                case measure => simp [intOf]; omega
            · have HNo := hidden (okAll_no (ls := LS) (by rw [HL.out]; exact hlt) (HOk.out.trans (by simpa using hv)))
              have hvq : (extW (beV (valB (M, V)) 0 (widN M)) (widN M) != V) = true := by simpa using hv
              go_wp2_with (first | (go_at_call 29; refine HBe.out.mono ?_; rintro e w4 ⟨rfl, hw⟩; obtain rfl := hw.symm; clear hw) | (go_at_call 33; refine (HExt.out _).mono ?_; rintro e w4 ⟨rfl, hw⟩; obtain rfl := hw.symm; clear hw))
              refine bodyPost_ret (v := .tuple #[.slice none 0 0, .int .i64 1]) (by simp [results, Try.results17, go_sem]) rfl ⟨HBW3.out.trans (HB5.out.mono (by omega)), fun _ => rfl, fun h => ?_⟩
              rw [HE.out, HNo.out] at h; cases h
          · have HTv : Hid (toldV M (valB (M, V)) = beV (valB (M, V)) 0 (widN M)) := by
              show _ = _
              unfold toldV
              rw [isC_lt hok hz, show decide (M < 4) = false by simp; omega, told_be M V hz]
              rfl
            rw [HTv.out] at HOk
            by_cases hv : beV (valB (M, V)) 0 (widN M) = V
            · have hvq : (beV (valB (M, V)) 0 (widN M) != V) = false := by simpa using hv
              have HFl : Hid ((l.take k ++ [(M, V)]).flatMap valB = (l.take k).flatMap valB ++ valB (M, V)) := by
                show _ = _
                rw [List.flatMap_append]
                simp [List.flatMap_cons]
              have HOkk : Hid (okOd (LS.getD k 0) (l.getD k (0, 0)) = true) := by
                refine HOk.out.trans ?_
                simpa using hv
              have HJ1 : Hid (∀ j, j < k + 1 → okOd (LS.getD j 0) (l.getD j (0, 0)) = true) := fun j hj => by
                by_cases e : j < k
                · exact HJ.out j e
                · obtain rfl : j = k := by omega
                  exact HOkk.out
              rcases (show k % 2 = 0 ∨ k % 2 = 1 by omega) with hpar | hpar
              · obtain ⟨e1, e2⟩ := HEv.out hpar
                rw [e2] at HSet
                rw [hpar] at t2 hw2
                have hwm : IntKind.u8.wrap M = M := by rw [IntKind.wrap_u8]; omega
                clear e1 e2 HEv HOdp hpar HMP
                have HR6 := hidden (HSet.out _ HR5.out)
                have HB6 : Hid (Below GM w3 (w5.setCell ⟨GM, K2, none⟩ (.int .u8 M))) := HB5.out.setCell (p := ⟨GM, K2, none⟩) (Nat.le_refl _) _
                have HO6 : Hid ((w5.setCell ⟨GM, K2, none⟩ (.int .u8 M)).ownsRow (GM + 1) 5 1 (.slice ad n2 cd) n2 (bytesV ((l.take k).flatMap valB))) := own_other8 HO5.out (fun b (hb : GM + 1 ≤ b) => heap_setCell_other _ _ _ _ (show b ≠ GM by omega))
                have HS6 : Hid (GM + 1 ≤ (w5.setCell ⟨GM, K2, none⟩ (.int .u8 M)).heap.size) := by
                  show _ ≤ _
                  rw [World.size_setCell]; have := HR5.out.lt; omega
                have HN6 : Hid (∀ j u, (bytesV (valB (M, V)))[j]? = some u → (w5.setCell ⟨GM, K2, none⟩ (.int .u8 M)).cell? ((⟨gp, 0, none⟩ : Addr).add j) = some u) := (own_other8 HP5.out (fun b (hb : GM + 1 ≤ b) => heap_setCell_other _ _ _ _ (show b ≠ GM by omega))).cells rfl
                go_wp2_with (first | (go_at_call 29; refine HBe.out.mono ?_; rintro e w4 ⟨rfl, hw⟩; obtain rfl := hw.symm; clear hw) | (at_builtin; refine wpList_append_own _ rfl _ _ 22 rfl (GM + 1) 5 i0 (.int .u8 0) 1 1 Try.underlying22 hi hz0 hz1 hz2 rfl (by decide) _ _ _ rfl HO6.out ⟨gp, 0, none⟩ (widN M) cp (bytesV (valB (M, V))) rfl (by simp [bytesV, valB_len]) HN6.out (bytesV_one _) (by unfold maxLen; omega) (by omega) HS6.out ?_; intro v7 w7 ho7 hg7 hi7; clear hi7; obtain ⟨ad7, cd7, rfl⟩ := own_shape8 ho7; have HO7 := hidden ho7; have HG7 := hidden hg7; clear ho7 hg7; refine Hid.out ?_))
                have HL6 := hidden (World.ownsRow.lt HO6.out)
                have HB7 : Hid (Below GM w3 w7) := HB6.out.grown HG7.out (by have := HS6.out; omega) (fun j hj => by have := (HL6.out j hj).1; omega)
                have HR7 : Hid (ByRow w7 GM (prow l (k + 1))) := (HG7.out.block GM (by have := HS6.out; omega) (fun e => by have := (HL6.out GM e.symm).1; omega)).trans HR6.out
                refine hidden ?_
                go_wp2
                go_roundw
                case rel => exact ⟨k + 1, n2 + widN M, ad7, cd7, by omega, int_eq (by omega), rfl, by omega, HJ1, HR7, by rw [HTk.out, HFl.out, ← bytesV_append]; exact HO7, HB7⟩
                case measure => simp [intOf]; omega
              · obtain ⟨e1, e2⟩ := HOdp.out hpar
                rw [e2] at HSet
                rw [e1] at cb5
                rw [hpar] at t2 hw2
                obtain ⟨hp0, hp1⟩ := HMP.out hpar
                have hx1 : IntKind.i64.wrap (16 * M) = 16 * M := by rw [IntKind.wrap_i64]; omega
                have hx2 : IntKind.u8.wrap (16 * M) = 16 * M := by rw [IntKind.wrap_u8]; omega
                have hx3 : IntKind.u8.wrap (MP + 16 * M) = MP + 16 * M := by rw [IntKind.wrap_u8]; omega
                have hne : ¬ AB = GM := by omega
                have hne2 : ¬ GM = AB := by omega
                have hq1 : (K2 : Int) < (MK : Int) := by omega
                clear e1 e2 HEv HOdp hpar HMP
                have HR6 := hidden (HSet.out _ HR5.out)
                have HB6 : Hid (Below GM w3 (w5.setCell ⟨GM, K2, none⟩ (.int .u8 (MP + 16 * M)))) := HB5.out.setCell (p := ⟨GM, K2, none⟩) (Nat.le_refl _) _
                have HO6 : Hid ((w5.setCell ⟨GM, K2, none⟩ (.int .u8 (MP + 16 * M))).ownsRow (GM + 1) 5 1 (.slice ad n2 cd) n2 (bytesV ((l.take k).flatMap valB))) := own_other8 HO5.out (fun b (hb : GM + 1 ≤ b) => heap_setCell_other _ _ _ _ (show b ≠ GM by omega))
                have HS6 : Hid (GM + 1 ≤ (w5.setCell ⟨GM, K2, none⟩ (.int .u8 (MP + 16 * M))).heap.size) := by
                  show _ ≤ _
                  rw [World.size_setCell]; have := HR5.out.lt; omega
                have HN6 : Hid (∀ j u, (bytesV (valB (M, V)))[j]? = some u → (w5.setCell ⟨GM, K2, none⟩ (.int .u8 (MP + 16 * M))).cell? ((⟨gp, 0, none⟩ : Addr).add j) = some u) := (own_other8 HP5.out (fun b (hb : GM + 1 ≤ b) => heap_setCell_other _ _ _ _ (show b ≠ GM by omega))).cells rfl
                go_wp2_with (first | (go_at_call 29; refine HBe.out.mono ?_; rintro e w4 ⟨rfl, hw⟩; obtain rfl := hw.symm; clear hw))
                go_region
                have HR6d : Hid (ByRow (w5.setCell ⟨GM, K2, none⟩ (.int .u8 (MP + 16 * M))).drew GM (prow l (k + 1))) := HR6.out
                have HB6d : Hid (Below GM w3 (w5.setCell ⟨GM, K2, none⟩ (.int .u8 (MP + 16 * M))).drew) := HB6.out.drew
                have HO6d : Hid (World.ownsRow (w5.setCell ⟨GM, K2, none⟩ (.int .u8 (MP + 16 * M))).drew (GM + 1) 5 1 (.slice ad n2 cd) n2 (bytesV ((l.take k).flatMap valB))) := HO6.out
                have HS6d : Hid (GM + 1 ≤ ((w5.setCell ⟨GM, K2, none⟩ (.int .u8 (MP + 16 * M))).drew).heap.size) := HS6.out
                have HN6d : Hid (∀ j u, (bytesV (valB (M, V)))[j]? = some u → ((w5.setCell ⟨GM, K2, none⟩ (.int .u8 (MP + 16 * M))).drew).cell? ((⟨gp, 0, none⟩ : Addr).add j) = some u) := HN6.out
                clear HR6 HB6 HO6 HS6 HN6
                generalize (w5.setCell ⟨GM, K2, none⟩ (.int .u8 (MP + 16 * M))).drew = w6 at *
                go_wp2_with (first | (at_builtin; refine wpList_append_own _ rfl _ _ 22 rfl (GM + 1) 5 i0 (.int .u8 0) 1 1 Try.underlying22 hi hz0 hz1 hz2 rfl (by decide) _ _ _ rfl HO6d.out ⟨gp, 0, none⟩ (widN M) cp (bytesV (valB (M, V))) rfl (by simp [bytesV, valB_len]) HN6d.out (bytesV_one _) (by unfold maxLen; omega) (by omega) HS6d.out ?_; intro v7 w7 ho7 hg7 hi7; clear hi7; obtain ⟨ad7, cd7, rfl⟩ := own_shape8 ho7; have HO7 := hidden ho7; have HG7 := hidden hg7; clear ho7 hg7; refine Hid.out ?_))
                have HL6 := hidden (World.ownsRow.lt HO6d.out)
                have HB7 : Hid (Below GM w3 w7) := HB6d.out.grown HG7.out (by have := HS6d.out; omega) (fun j hj => by have := (HL6.out j hj).1; omega)
                have HR7 : Hid (ByRow w7 GM (prow l (k + 1))) := (HG7.out.block GM (by have := HS6d.out; omega) (fun e => by have := (HL6.out GM e.symm).1; omega)).trans HR6d.out
                refine hidden ?_
                go_wp2
                go_roundw
                case rel => exact ⟨k + 1, n2 + widN M, ad7, cd7, by omega, int_eq (by omega), rfl, by omega, HJ1, HR7, by rw [HTk.out, HFl.out, ← bytesV_append]; exact HO7, HB7⟩
                case measure => simp [intOf]; omega
            · have HNo := hidden (okAll_no (ls := LS) (by rw [HL.out]; exact hlt) (HOk.out.trans (by simpa using hv)))
              have hvq : (beV (valB (M, V)) 0 (widN M) != V) = true := by simpa using hv
              go_wp2_with (first | (go_at_call 29; refine HBe.out.mono ?_; rintro e w4 ⟨rfl, hw⟩; obtain rfl := hw.symm; clear hw))
              refine bodyPost_ret (v := .tuple #[.slice none 0 0, .int .i64 1]) (by simp [results, Try.results17, go_sem]) rfl ⟨HBW3.out.trans (HB5.out.mono (by omega)), fun _ => rfl, fun h => ?_⟩
              rw [HE.out, HNo.out] at h; cases h
    · obtain rfl : k = LS.length := by omega
      have HYes : Hid (encOk op l = true) := by
        show _ = _
        rw [HE.out]
        exact okAll_yes (by have := HL.out; rw [this]; exact HJ.out)
      have d1 : ¬ (LS.length : Int) < (LS.length : Int) := by omega
      have HO6 : Hid (wr.ownsRow (w.heap.size + 1) 5 1 (.slice (some ⟨g6, 0, none⟩) 1 c6) 1 (bytesV (opB op))) := own_kept6 HO3.out HB.out hgl
      rw [HEnd.out] at HR
      have HMl : Hid ((mdB l).length = MK) := by
        show _ = _
        have := HPl.out LS.length
        rw [HEnd.out] at this; exact this
      have HRm : Hid (Reads wr (some ⟨GM, 0, none⟩) MK MK (mdB l)) := own_any (HR.out.own (Nat.le_refl GM) (by rw [HMl.out]; omega) MK HMl.out) HMl.out
      have hD : (l.take LS.length) = l := List.take_of_length_le (by rw [HL.out]; exact Nat.le_refl _)
      rw [hD] at HO
      have HDl : Hid ((l.flatMap valB).length = n2) := by
        show _ = _
        have := HO.out.1
        simpa [bytesV] using this
      have hws : w.heap.size + 1 ≤ wr.heap.size := by have := HR.out.lt; omega
      have HRead : Hid (∀ w7 : World, (∀ b, b < wr.heap.size → ¬ b = g6 → w7.heap[b]? = wr.heap[b]?) → Reads w7 ad n2 cd (l.flatMap valB)) := fun w7 h7 => own_any (own_lt8 HO.out (fun b hb hb2 => h7 b hb (by omega))) HDl.out
      have hF1 : 1 + MK + n2 ≤ 4294967296 := by omega
      have HEl : Hid ((encL op l).length = 1 + MK + n2) := by
        show (opB op ++ mdB l ++ l.flatMap valB).length = _
        have h6 := HO6.out.1
        rw [List.length_append, List.length_append, HMl.out, HDl.out]
        simp only [bytesV, List.length_map] at h6
        omega
      go_wp2_with (first | (at_builtin; refine wpList_appR rfl _ _ rfl (w.heap.size + 1) g7 (1 + MK) c7 n2 cd ad (opB op ++ mdB l) (l.flatMap valB) rfl rfl HO7.out HD7.out hF1 (Nat.le_trans hws HF7.out.size) ?_; intro g8 c8 w8 ho8 f8; have HO8 := hidden ho8; have HF8 := f8; clear ho8 f8) | (at_builtin; refine wpList_appR rfl _ _ rfl (w.heap.size + 1) g6 1 c6 MK MK (some ⟨GM, 0, none⟩) (opB op) (mdB l) rfl rfl HO6.out HRm.out (by omega) hws ?_; intro g7 c7 w7 ho7 f7; have HO7 := hidden ho7; have HF7 := f7; have HD7 := hidden (HRead.out w7 (fun b hb hne => f7.out.block b hb (fun e => by simp only [Value.ownBlock, Option.some.injEq] at e; exact hne e.symm))); clear ho7 f7))
      have hb8 : Below w.heap.size w w8 := (HBW.out.trans (HF7.out.below (by omega) (fun j hj => by simp only [Value.ownBlock, Option.some.injEq] at hj; omega))).trans (HF8.out.below (Nat.le_trans (by omega) HF7.out.size) (fun j hj => by have := (HO7.out.lt g7 rfl).1; simp only [Value.ownBlock, Option.some.injEq] at hj; omega))
      refine bodyPost_ret (v := .tuple #[.slice (some ⟨g8, 0, none⟩) (1 + MK + n2) c8, .int .i64 0]) (by simp [results, Try.results17, go_sem]) rfl ⟨hb8, (fun h => by rw [HYes.out] at h; cases h), fun _ => ⟨some ⟨g8, 0, none⟩, c8, ?_, ?_⟩⟩
      · rw [HEl.out]
      · rw [HEl.out]
        exact own_base HO8.out (by omega)
end Go.Proofs.Ytpkfmccnjandoaa
