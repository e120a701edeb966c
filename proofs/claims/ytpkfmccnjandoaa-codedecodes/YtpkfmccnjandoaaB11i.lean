/- The document's Decode: an instruction is told, or a mode or an operand is wrong. -/
import Derived.Test.YtpkfmccnjandoaaB11g
namespace Go.Proofs.Ytpkfmccnjandoaa
open Go.RowKit
set_option maxHeartbeats 4000000
set_option maxRecDepth 100000
set_option linter.unusedVariables false

theorem ddec_go2 (g o n c p : Nat) (X BV : Int) (zs : List Int) (ls : List UInt8) (MK : Nat) (RES : Int × Int × List Od × Int) (w : World) (hn : n ≤ 1000000) (hcap : n ≤ c) (hp : p + 2 + MK ≤ n) (hX : 0 ≤ X ∧ X ≤ 255) (hF1 : ¬ X < 128) (hF : X < 192) (hBV : 0 ≤ (BV - 32768) ∧ (BV - 32768) ≤ 4294967295) (hB : Bs w g o n zs) (hob : OkB zs) (hX2 : zs.getD p 0 = X)
    (hbe : ∀ wx, Below w.heap.size w wx → Calls Try.prog 29 #[.slice (some ⟨g, o, none⟩) n c, .int .i64 p, .int .i64 (2 : Nat)] wx fun e w' => e = .returned (.tuple #[.int .u32 BV, .int .i64 0]) ∧ w' = wx)
    (hsg : ∀ wx, Calls Try.prog 30 #[.int .u32 (BV - 32768)] wx fun e w' => e = .returned (.tuple #[strV ls, .bool true]) ∧ w' = wx)
    (hMK : (ls.length + 1) / 2 = MK) (hS : ls.length ≤ 8) (hlet : ∀ i, i < ls.length → ((ls.getD i 0).toNat : Int) = 76 ∨ ((ls.getD i 0).toNat : Int) = 83)
    (hr0 : allMay ls (nibL zs (p + 2) ls.length) = false → RES = (111, 0, [], 0))
    (hr1 : allMay ls (nibL zs (p + 2) ls.length) = true → argsO zs (nibL zs (p + 2) ls.length) (p + 2 + MK) = none → RES = (90, 0, [], 0))
    (hr2 : ∀ l q, allMay ls (nibL zs (p + 2) ls.length) = true → argsO zs (nibL zs (p + 2) ls.length) (p + 2 + MK) = some (l, q) → RES = (0, (BV - 32768), l, (q : Int) - p)) :
    Calls Try.prog 12 #[.slice (some ⟨g, o, none⟩) n c, .int .i64 p] w fun e w' => DRet w w' RES e := by
  have hl : zs.length = n := hB.1
  obtain ⟨i0, i1, hb⟩ := d2_facts w
  obtain ⟨c0, c1, f0, f1⟩ := ib_box i0
  obtain ⟨c2, c3, f2, f3⟩ := ib_box i1
  have cx := (hB.2 p (by omega))
  rw [hX2] at cx
  have cx2 := cellLater hb cx
  have HBE := hidden (hbe _ hb)
  have HSG := hidden hsg
  have hb3 : Below (d2W w).heap.size (d2W w) ((d2W w).alloc (.cells #[.int .u32 (BV - 32768), .slice none 0 0] 28)) := (Below.refl _ _).alloc (Nat.le_refl _) _
  have hsz2 : (d2W w).heap.size = w.heap.size + 1 + 1 := by rw [World.size_alloc, World.size_alloc]
  have HB3 : Hid (Below w.heap.size w ((d2W w).alloc (.cells #[.int .u32 (BV - 32768), .slice none 0 0] 28))) := hb.trans (hb3.mono hb.size)
  have HI0 : Hid (IB ((d2W w).alloc (.cells #[.int .u32 (BV - 32768), .slice none 0 0] 28)) w.heap.size 0 none 0 0) := i0.later hb3
  have HI7 : Hid (IB ((d2W w).alloc (.cells #[.int .u32 (BV - 32768), .slice none 0 0] 28)) (w.heap.size + 1) 0 none 0 0) := i1.later hb3
  have HI14 : Hid (IB ((d2W w).alloc (.cells #[.int .u32 (BV - 32768), .slice none 0 0] 28)) (w.heap.size + 1 + 1) (BV - 32768) none 0 0) := by
    have := heap_alloc_new (d2W w) (.cells #[.int .u32 (BV - 32768), .slice none 0 0] 28)
    rw [hsz2] at this
    exact this
  have HS3 : Hid (w.heap.size + 1 + 1 + 1 ≤ ((d2W w).alloc (.cells #[.int .u32 (BV - 32768), .slice none 0 0] 28)).heap.size) := by
    show _ ≤ _
    rw [World.size_alloc, hsz2]; omega
  have HT := hidden fun (k : Int) wx => there_any (some ⟨g, o, none⟩) n c (p : Int) k wx (by omega) (by omega)
  have hsz : (⟨ls.toArray⟩ : ByteArray).size = ls.length := by simp [ByteArray.size]
  have e : thereB n (p : Int) 1 = true := by unfold thereB; simp; omega
  have e2 : thereB n (p : Int) 2 = true := by unfold thereB; simp; omega
  have hpn : p < n := by omega
  have HBs := hidden hB
  have HOB := hidden hob
  have HR0 := hidden hr0
  have HR1 := hidden hr1
  have HR2 := hidden hr2
  have HLet := hidden hlet
  have HInf := hidden infoOd_parts
  have HMK2 := hidden (show ∀ i, i < ls.length → i / 2 < MK by omega)
  have h0 : ¬ (p : Int) < 0 := by omega
  have hs1 : IntKind.i64.wrap ((ls.length : Int) + 1) = (ls.length : Int) + 1 := by rw [IntKind.wrap_i64]; omega
  have hs2 : ((ls.length : Int) + 1).tdiv 2 = (MK : Int) := by rw [Int.tdiv_eq_ediv_of_nonneg (by omega)]; omega
  have hs3 : IntKind.i64.wrap (MK : Int) = (MK : Int) := by rw [IntKind.wrap_i64]; omega
  have hw0 : IntKind.u32.wrap (BV - 32768) = (BV - 32768) := by rw [IntKind.wrap_u32]; omega
  have hw1 : IntKind.i64.wrap (2 + (MK : Int)) = 2 + (MK : Int) := by rw [IntKind.wrap_i64]; omega
  have hwp : IntKind.i64.wrap ((p : Int) + 2) = (p : Int) + 2 := by rw [IntKind.wrap_i64]; omega
  have e3 : thereB n (p : Int) (2 + (MK : Int)) = true := by unfold thereB; simp; omega
  have hMK4 : MK ≤ 4 := by omega
  clear i0 i1 hb hb3 hsz2 cx hbe hsg hB hob hr0 hr1 hr2 hlet hMK
  go_enter Try.func12, Try.ntmps12
  go_wp2_with (first | (go_at_call 28; refine (HT.out _ _).mono ?_; rintro e w1 ⟨rfl, rfl⟩) | (go_at_call 29; refine HBE.out.mono ?_; rintro e w1 ⟨rfl, rfl⟩) | (go_at_call 30; refine (HSG.out _).mono ?_; rintro e w1 ⟨rfl, rfl⟩))
  clear c0 c1 f0 f1 c2 c3 f2 f3 cx2 e e2 e3 HBE HSG hs1 hs2 hw0
  generalize (d2W w).alloc (.cells #[.int .u32 (BV - 32768), .slice none 0 0] 28) = w3 at *
  generalize BV - 32768 = OP at *
  go_loopw [15] (fun i wr => ∃ (k : Nat) (a : Option Addr) (cp : Nat), k ≤ ls.length ∧ i = .int .i64 k ∧ Hid (∀ j, j < k → mayB ((ls.getD j 0).toNat : Int) (nib zs (p + 2) j) = true) ∧ Hid (IB wr (w.heap.size + 1 + 1) OP a k cp) ∧ Hid (ORow wr (w.heap.size + 1 + 1 + 1) a k cp (zOps (nibL zs (p + 2) k))) ∧ Hid (IB wr w.heap.size 0 none 0 0) ∧ Hid (IB wr (w.heap.size + 1) 0 none 0 0) ∧ Hid (Below w.heap.size w wr) ∧ Hid (w.heap.size + 1 + 1 + 1 ≤ wr.heap.size)) (fun i _ => ls.length - (intOf i).toNat)
  case atStart => exact ⟨0, none, 0, by omega, rfl, fun j hj => by omega, HI14, World.ownsRow_nil _ _ _ _, HI0, HI7, HB3, HS3⟩
  case round =>
    clear HI14 HI0 HI7 HB3 HS3
    obtain ⟨k, a, cp, hkl, rfl, HJ, HI, HO, HI0, HI7, HB, HS⟩ := hrel
    by_cases hlt : k < ls.length
    · have hk2 := HMK2.out k hlt
      have cb := cellLater HB.out (HBs.out.2 (p + 2 + k / 2) (by omega))
      have bx := okb_at HOB.out (p + 2 + k / 2)
      obtain ⟨c0, c1, f0, f1⟩ := ib_box HI0.out
      obtain ⟨c2, c3, f2, f3⟩ := ib_box HI7.out
      obtain ⟨c4, c5, f4, f5⟩ := ib_box HI.out
      have d1 : (k : Int) < (ls.length : Int) := by omega
      have t1 : (k : Int).tdiv 2 = ((k / 2 : Nat) : Int) := by rw [Int.tdiv_eq_ediv_of_nonneg (by omega)]; omega
      have t2 : (k : Int).tmod 2 = ((k % 2 : Nat) : Int) := by rw [Int.tmod_eq_emod_of_nonneg (by omega)]; omega
      have hw3 : IntKind.i64.wrap ((k : Int) + 1) = (k : Int) + 1 := by rw [IntKind.wrap_i64]; omega
      have hwk : IntKind.i64.wrap ((k / 2 : Nat) : Int) = ((k / 2 : Nat) : Int) := by rw [IntKind.wrap_i64]; omega
      have hwk2 : IntKind.i64.wrap ((k % 2 : Nat) : Int) = ((k % 2 : Nat) : Int) := by rw [IntKind.wrap_i64]; omega
      have hwa : IntKind.i64.wrap ((p : Int) + 2 + ((k / 2 : Nat) : Int)) = (p : Int) + 2 + ((k / 2 : Nat) : Int) := by rw [IntKind.wrap_i64]; omega
      have ta : ((p : Int) + 2 + ((k / 2 : Nat) : Int)).toNat = p + 2 + k / 2 := by omega
      have la : (0 : Int) ≤ (p : Int) + 2 + ((k / 2 : Nat) : Int) := by omega
      have lb : (p : Int) + 2 + ((k / 2 : Nat) : Int) < (n : Int) := by omega
      have hix := idx_str ls k hlt
      have HNBe : Hid (nib zs (p + 2) k = nib zs (p + 2) k) := rfl
      have HNb := hidden (show nib zs (p + 2) k = if k % 2 = 0 then zs.getD (p + 2 + k / 2) 0 % 16 else zs.getD (p + 2 + k / 2) 0 / 16 from rfl)
      have hwx : IntKind.i64.wrap (zs.getD (p + 2 + k / 2) 0) = zs.getD (p + 2 + k / 2) 0 := by rw [IntKind.wrap_i64]; omega
      generalize zs.getD (p + 2 + k / 2) 0 = Y at *
      generalize k / 2 = K2 at *
      obtain ⟨NB, hNB⟩ : ∃ NB, nib zs (p + 2) k = NB := ⟨_, rfl⟩
      replace HNBe : Hid (nib zs (p + 2) k = NB) := hNB
      rw [hNB] at HNb
      clear hNB
      have HMy := hidden fun wx => dmay_any ((ls.getD k 0).toNat : Int) NB wx (HLet.out k hlt)
      generalize hLC : ((ls.getD k 0).toNat : Int) = LC at *
      have HLC := hidden hLC
      clear hLC
      rcases (show k % 2 = 0 ∨ k % 2 = 1 by omega) with hpar | hpar
      · rw [hpar] at t2 hwk2
        rw [if_pos hpar] at HNb
        clear hpar
        have u4 : Y.tmod 16 = NB := by rw [HNb.out]; exact Int.tmod_eq_emod_of_nonneg (by omega)
        have u5 : IntKind.i64.wrap NB = NB := by rw [IntKind.wrap_i64, HNb.out]; omega
        cases hmay : mayB LC NB
        · rw [hmay] at HMy
          have HMf := hidden (HR0.out (may_no (zs := zs) (q := p + 2) hlt (by rw [HNBe.out, HLC.out]; exact hmay)))
          clear hmay
          go_wp2_with (first | (go_at_call 31; refine (HMy.out _).mono ?_; rintro e w4 ⟨rfl, hw⟩; obtain rfl := hw.symm; clear hw))
          obtain ⟨k0, k1, _, _⟩ := ib_box (ib_set HI0.out 0 none 0 0)
          refine bodyPost_ret (v := .tuple #[.agg #[.int .u32 0, .slice none 0 0], .int .i64 0, .int .i64 111]) (by simp [results, Try.results12, go_sem, k0, k1]) rfl ?_
          rw [HMf.out]
          refine dret_err 111 ?_
          have hb := HB.out
          go_grown
        · rw [hmay] at HMy
          have HJ1 : Hid (∀ j, j < k + 1 → mayB ((ls.getD j 0).toNat : Int) (nib zs (p + 2) j) = true) := fun j hj => by
            by_cases e : j < k
            · exact HJ.out j e
            · obtain rfl : j = k := by omega
              rw [HNBe.out, HLC.out]; exact hmay
          clear hmay
          have HO1 := hidden (HO.out.alloc (.cells #[.int .i64 NB, .int .u32 0] 54))
          have HN1 := hidden (new_od wr NB)
          have HL := hidden HO.out.lt
          have HB1 : Hid (Below (w.heap.size + 1 + 1 + 1) wr (wr.alloc (.cells #[.int .i64 NB, .int .u32 0] 54))) := (Below.refl _ _).alloc HS.out _
          have HS1 : Hid (w.heap.size + 1 + 1 + 1 ≤ (wr.alloc (.cells #[.int .i64 NB, .int .u32 0] 54)).heap.size) := Nat.le_trans HS.out HB1.out.size
          obtain ⟨i0, hi, hz0, hz1, hz2⟩ := HInf.out
          go_wp2_with (first | (go_at_call 31; refine (HMy.out _).mono ?_; rintro e w4 ⟨rfl, hw⟩; obtain rfl := hw.symm; clear hw) | (at_builtin; refine wpList_append_own _ rfl (.tmp 115) (.tmp 118) 26 rfl (w.heap.size + 1 + 1 + 1) 54 i0 (.agg #[.int .i64 0, .int .u32 0]) 2 16 Try.underlying26 hi hz0 hz1 hz2 rfl (by decide) _ _ _ rfl HO1.out ⟨wr.heap.size, 0, none⟩ 1 1 (odC (NB, 0)) rfl rfl HN1.out (od_one _) (by unfold maxLen; omega) (by omega) HS1.out ?_; intro v2 w2 hown2 hgrow2 hiff2; clear hiff2; obtain ⟨a2, cp2, rfl⟩ := orow_shape hown2; have hbw := HB1.out.grown hgrow2 HS1.out (fun j hj => (HL.out j hj).1); have HO2 := hidden hown2; have HB2 := hidden hbw; have HI2 := hidden (HI.out.under hbw (by omega)); obtain ⟨c6, c7, f6, f7⟩ := ib_box HI2.out; clear hown2 hgrow2 hbw; refine Hid.out ?_))
          refine hidden ?_
          go_wp2
          have HI3 := hidden (ib_set1 HI2.out a2 (k + 1) cp2)
          have HO3 : Hid (ORow (w2.setCell ⟨w.heap.size + 1 + 1, 1, none⟩ (.slice a2 (k + 1) cp2)) (w.heap.size + 1 + 1 + 1) a2 (k + 1) cp2 (zOps (nibL zs (p + 2) (k + 1)))) := by
            refine orow_other (w := w2) ?_ (fun b (hb : w.heap.size + 1 + 1 + 1 ≤ b) => heap_setCell_other _ _ _ _ (show b ≠ w.heap.size + 1 + 1 by omega))
            show World.ownsRow _ _ _ _ _ _ _
            rw [zOps_succ, HNBe.out]
            exact HO2.out
          have HB3 : Hid (Below w.heap.size w (w2.setCell ⟨w.heap.size + 1 + 1, 1, none⟩ (.slice a2 (k + 1) cp2))) := by
            have hb : Below w.heap.size w w2 := HB.out.trans (HB2.out.mono (by omega))
            show Below _ _ _
            go_grown
          have HI03 : Hid (IB (w2.setCell ⟨w.heap.size + 1 + 1, 1, none⟩ (.slice a2 (k + 1) cp2)) w.heap.size 0 none 0 0) := (heap_setCell_other _ _ _ _ (show w.heap.size ≠ w.heap.size + 1 + 1 by omega)).trans (HI0.out.under HB2.out (by omega))
          have HI73 : Hid (IB (w2.setCell ⟨w.heap.size + 1 + 1, 1, none⟩ (.slice a2 (k + 1) cp2)) (w.heap.size + 1) 0 none 0 0) := (heap_setCell_other _ _ _ _ (show w.heap.size + 1 ≠ w.heap.size + 1 + 1 by omega)).trans (HI7.out.under HB2.out (by omega))
          have HS3 : Hid (w.heap.size + 1 + 1 + 1 ≤ (w2.setCell ⟨w.heap.size + 1 + 1, 1, none⟩ (.slice a2 (k + 1) cp2)).heap.size) := by
            show _ ≤ _
            rw [World.size_setCell]
            exact Nat.le_trans HS.out HB2.out.size
          go_roundw
          case rel => exact ⟨k + 1, a2, cp2, by omega, int_eq (by omega), HJ1, HI3, HO3, HI03, HI73, HB3, HS3⟩
          case measure => simp [intOf]; omega
      · rw [hpar] at t2 hwk2
        rw [if_neg (by omega)] at HNb
        clear hpar
        obtain ⟨D, hD⟩ : ∃ D, Y.tdiv 16 = D := ⟨_, rfl⟩
        have hD2 : D = Y / 16 := by rw [← hD]; exact Int.tdiv_eq_ediv_of_nonneg (by omega)
        have u3 : IntKind.i64.wrap D = D := by rw [IntKind.wrap_i64]; omega
        have u4 : D.tmod 16 = NB := by rw [HNb.out, Int.tmod_eq_emod_of_nonneg (by omega)]; omega
        have u5 : IntKind.i64.wrap NB = NB := by rw [IntKind.wrap_i64, HNb.out]; omega
        clear hD2
        cases hmay : mayB LC NB
        · rw [hmay] at HMy
          have HMf := hidden (HR0.out (may_no (zs := zs) (q := p + 2) hlt (by rw [HNBe.out, HLC.out]; exact hmay)))
          clear hmay
          go_wp2_with (first | (go_at_call 31; refine (HMy.out _).mono ?_; rintro e w4 ⟨rfl, hw⟩; obtain rfl := hw.symm; clear hw))
          obtain ⟨k0, k1, _, _⟩ := ib_box (ib_set HI0.out 0 none 0 0)
          refine bodyPost_ret (v := .tuple #[.agg #[.int .u32 0, .slice none 0 0], .int .i64 0, .int .i64 111]) (by simp [results, Try.results12, go_sem, k0, k1]) rfl ?_
          rw [HMf.out]
          refine dret_err 111 ?_
          have hb := HB.out
          go_grown
        · rw [hmay] at HMy
          have HJ1 : Hid (∀ j, j < k + 1 → mayB ((ls.getD j 0).toNat : Int) (nib zs (p + 2) j) = true) := fun j hj => by
            by_cases e : j < k
            · exact HJ.out j e
            · obtain rfl : j = k := by omega
              rw [HNBe.out, HLC.out]; exact hmay
          clear hmay
          have HO1 := hidden (HO.out.alloc (.cells #[.int .i64 NB, .int .u32 0] 54))
          have HN1 := hidden (new_od wr NB)
          have HL := hidden HO.out.lt
          have HB1 : Hid (Below (w.heap.size + 1 + 1 + 1) wr (wr.alloc (.cells #[.int .i64 NB, .int .u32 0] 54))) := (Below.refl _ _).alloc HS.out _
          have HS1 : Hid (w.heap.size + 1 + 1 + 1 ≤ (wr.alloc (.cells #[.int .i64 NB, .int .u32 0] 54)).heap.size) := Nat.le_trans HS.out HB1.out.size
          obtain ⟨i0, hi, hz0, hz1, hz2⟩ := HInf.out
          go_wp2_with (first | (go_at_call 31; refine (HMy.out _).mono ?_; rintro e w4 ⟨rfl, hw⟩; obtain rfl := hw.symm; clear hw) | (at_builtin; refine wpList_append_own _ rfl (.tmp 115) (.tmp 118) 26 rfl (w.heap.size + 1 + 1 + 1) 54 i0 (.agg #[.int .i64 0, .int .u32 0]) 2 16 Try.underlying26 hi hz0 hz1 hz2 rfl (by decide) _ _ _ rfl HO1.out ⟨wr.heap.size, 0, none⟩ 1 1 (odC (NB, 0)) rfl rfl HN1.out (od_one _) (by unfold maxLen; omega) (by omega) HS1.out ?_; intro v2 w2 hown2 hgrow2 hiff2; clear hiff2; obtain ⟨a2, cp2, rfl⟩ := orow_shape hown2; have hbw := HB1.out.grown hgrow2 HS1.out (fun j hj => (HL.out j hj).1); have HO2 := hidden hown2; have HB2 := hidden hbw; have HI2 := hidden (HI.out.under hbw (by omega)); obtain ⟨c6, c7, f6, f7⟩ := ib_box HI2.out; clear hown2 hgrow2 hbw; refine Hid.out ?_))
          refine hidden ?_
          go_wp2
          have HI3 := hidden (ib_set1 HI2.out a2 (k + 1) cp2)
          have HO3 : Hid (ORow (w2.setCell ⟨w.heap.size + 1 + 1, 1, none⟩ (.slice a2 (k + 1) cp2)) (w.heap.size + 1 + 1 + 1) a2 (k + 1) cp2 (zOps (nibL zs (p + 2) (k + 1)))) := by
            refine orow_other (w := w2) ?_ (fun b (hb : w.heap.size + 1 + 1 + 1 ≤ b) => heap_setCell_other _ _ _ _ (show b ≠ w.heap.size + 1 + 1 by omega))
            show World.ownsRow _ _ _ _ _ _ _
            rw [zOps_succ, HNBe.out]
            exact HO2.out
          have HB3 : Hid (Below w.heap.size w (w2.setCell ⟨w.heap.size + 1 + 1, 1, none⟩ (.slice a2 (k + 1) cp2))) := by
            have hb : Below w.heap.size w w2 := HB.out.trans (HB2.out.mono (by omega))
            show Below _ _ _
            go_grown
          have HI03 : Hid (IB (w2.setCell ⟨w.heap.size + 1 + 1, 1, none⟩ (.slice a2 (k + 1) cp2)) w.heap.size 0 none 0 0) := (heap_setCell_other _ _ _ _ (show w.heap.size ≠ w.heap.size + 1 + 1 by omega)).trans (HI0.out.under HB2.out (by omega))
          have HI73 : Hid (IB (w2.setCell ⟨w.heap.size + 1 + 1, 1, none⟩ (.slice a2 (k + 1) cp2)) (w.heap.size + 1) 0 none 0 0) := (heap_setCell_other _ _ _ _ (show w.heap.size + 1 ≠ w.heap.size + 1 + 1 by omega)).trans (HI7.out.under HB2.out (by omega))
          have HS3 : Hid (w.heap.size + 1 + 1 + 1 ≤ (w2.setCell ⟨w.heap.size + 1 + 1, 1, none⟩ (.slice a2 (k + 1) cp2)).heap.size) := by
            show _ ≤ _
            rw [World.size_setCell]
            exact Nat.le_trans HS.out HB2.out.size
          go_roundw
          case rel => exact ⟨k + 1, a2, cp2, by omega, int_eq (by omega), HJ1, HI3, HO3, HI03, HI73, HB3, HS3⟩
          case measure => simp [intOf]; omega
    · obtain rfl : k = ls.length := by omega
      have d1 : ¬ (ls.length : Int) < (ls.length : Int) := by omega
      have HMt := hidden (may_yes HJ.out)
      replace HR1 := hidden (HR1.out HMt.out)
      replace HR2 := hidden (fun l q => HR2.out l q HMt.out)
      have HOk : Hid (∀ j, j < ls.length → okM ((nibL zs (p + 2) ls.length).getD j 0) = true ∧ 0 ≤ (nibL zs (p + 2) ls.length).getD j 0) := fun j hj => by
        have h1 := HJ.out j hj
        rw [nibL_at _ _ _ _ hj]
        unfold mayB at h1
        simp only [Bool.and_eq_true] at h1
        exact ⟨h1.1, (nib_bd zs HOB.out _ _).1⟩
      clear HR0 HMt HJ HMK2 HLet HInf
      have hml : (nibL zs (p + 2) ls.length).length = ls.length := by simp [nibL]
      go_wp2
      generalize nibL zs (p + 2) ls.length = ms at *
      go_loopw [8, 17] (fun x i wr => ∃ (k d : Nat) (acc : List Od), k ≤ ls.length ∧ x = .int .i64 d ∧ i = .int .i64 k ∧ p + d ≤ n ∧ acc.length = k ∧ Hid (argsO zs ms (p + 2 + MK) = (argsO zs (ms.drop k) (p + d)).map fun r => (acc ++ r.1, r.2)) ∧ Hid (IB wr (w.heap.size + 1 + 1) OP a ls.length cp) ∧ Hid (ORow wr (w.heap.size + 1 + 1 + 1) a ls.length cp (acc ++ zOps (ms.drop k))) ∧ Hid (IB wr w.heap.size 0 none 0 0) ∧ Hid (IB wr (w.heap.size + 1) 0 none 0 0) ∧ Hid (Below w.heap.size w wr) ∧ Hid (w.heap.size + 1 + 1 + 1 ≤ wr.heap.size)) (fun _ i _ => ls.length - (intOf i).toNat)
      case atStart =>
        refine ⟨0, 2 + MK, [], by omega, int_eq (by omega), rfl, by omega, rfl, ?_, HI, by rw [List.drop_zero]; exact HO, HI0, HI7, HB, HS⟩
        rw [List.drop_zero, ← Nat.add_assoc]
        show argsO zs ms _ = _
        cases argsO zs ms (p + 2 + MK) <;> simp
      case round =>
        clear HI HO HI0 HI7 HB HS
        obtain ⟨k, d, acc, hkl, rfl, rfl, hdn, hacc, HAR, HI, HO, HI0, HI7, HB, HS⟩ := hrel
        have HACC := hidden hacc
        clear hacc
        obtain ⟨c0, c1, f0, f1⟩ := ib_box HI0.out
        obtain ⟨c2, c3, f2, f3⟩ := ib_box HI7.out
        obtain ⟨c4, c5, f4, f5⟩ := ib_box HI.out
        by_cases hlt : k < ls.length
        · have HDr : Hid (ms.drop k = ms.getD k 0 :: ms.drop (k + 1)) := by
            show _ = _
            rw [List.drop_eq_getElem_cons (by omega), List.getD_eq_getElem?_getD, List.getElem?_eq_getElem (by omega)]; rfl
          obtain ⟨hok, hm0⟩ := HOk.out k hlt
          rw [HDr.out] at HAR HO
          generalize ms.getD k 0 = M at *
          have HGd : Hid ((acc ++ zOps (M :: ms.drop (k + 1))).getD k (0, 0) = (M, 0)) := by
            have hacc := HACC.out
            show _ = _
            rw [List.getD_eq_getElem?_getD, List.getElem?_append_right (by omega), show k - acc.length = 0 by omega]; rfl
          obtain ⟨G, hG, hGB, hGs, ⟨cm, fm⟩, ⟨cv, fv⟩, hcp⟩ := orow_at HO.out k hlt
          subst hG
          rw [HGd.out] at cm cv
          have hwc := widN_cases M
          have HSz := hidden fun wx => dsize_any M wx
          rw [show sizI M = (widN M : Int) by unfold sizI; rw [hok]; exact widI_nat M] at HSz
          have d1 : (k : Int) < (ls.length : Int) := by omega
          have hw3 : IntKind.i64.wrap ((k : Int) + 1) = (k : Int) + 1 := by rw [IntKind.wrap_i64]; omega
          by_cases hz : widN M = 0
          · have HA2 : Hid (argsO zs ms (p + 2 + MK) = (argsO zs (ms.drop (k + 1)) (p + d)).map fun r => ((acc ++ [(M, 0)]) ++ r.1, r.2)) := by
              refine HAR.out.trans ?_
              rw [argsO_cons, hz, if_neg (by omega), Nat.add_zero, show toldV M (seg zs (p + d) 0) = 0 by simp [toldV, seg, beN, extW]]
              cases argsO zs (ms.drop (k + 1)) (p + d) <;> simp
            have HO2 : Hid (ORow wr (w.heap.size + 1 + 1 + 1) (some ⟨G, 0, none⟩) ls.length cp ((acc ++ [(M, 0)]) ++ zOps (ms.drop (k + 1)))) := by
              rw [List.append_assoc]; exact HO
            rw [hz] at HSz
            clear hz HAR hok hwc
            go_wp2_with (first | (go_at_call 32; refine (HSz.out _).mono ?_; rintro e w4 ⟨rfl, hw⟩; obtain rfl := hw.symm; clear hw))
            go_roundw
            case rel => exact ⟨k + 1, d, acc ++ [(M, 0)], by omega, rfl, int_eq (by omega), hdn, by rw [List.length_append, HACC.out]; rfl, HA2, HI, HO2, HI0, HI7, HB, HS⟩
            case measure => simp [intOf]; omega
          · have hzq : ((widN M : Int) == 0) = false := by simp; omega
            have hwd : IntKind.i64.wrap ((d : Int) + (widN M : Int)) = (d : Int) + (widN M : Int) := by rw [IntKind.wrap_i64]; omega
            by_cases hs : n < p + d + widN M
            · have e3 : thereB n (p : Int) ((d : Int) + (widN M : Int)) = false := by unfold thereB; simp; omega
              have HAN : Hid (argsO zs ms (p + 2 + MK) = none) := by
                refine HAR.out.trans ?_
                rw [argsO_cons, hl, if_pos hs]; rfl
              · clear HAR hok
                generalize widN M = WN at *
                go_wp2_with (first | (go_at_call 32; refine (HSz.out _).mono ?_; rintro e w4 ⟨rfl, hw⟩; obtain rfl := hw.symm; clear hw) | (go_at_call 28; refine (HT.out _ _).mono ?_; rintro e w4 ⟨rfl, hw⟩; obtain rfl := hw.symm; clear hw))
                obtain ⟨k0, k1, _, _⟩ := ib_box (ib_set HI0.out 0 none 0 0)
                refine bodyPost_ret (v := .tuple #[.agg #[.int .u32 0, .slice none 0 0], .int .i64 0, .int .i64 90]) (by simp [results, Try.results12, go_sem, k0, k1]) rfl ?_
                rw [HR1.out HAN.out]
                refine dret_err 90 ?_
                have hb := HB.out
                go_grown
            · have e3 : thereB n (p : Int) ((d : Int) + (widN M : Int)) = true := by unfold thereB; simp; omega
              have hwq : IntKind.i64.wrap ((p : Int) + (d : Int)) = (p : Int) + (d : Int) := by rw [IntKind.wrap_i64]; omega
              have HBr : Hid (Bs wr g o n zs) := HBs.out.later HB.out
              have HBe := hidden (dbe_any g o n c (p + d) (widN M) zs wr HBr.out HOB.out hcap hn (by omega) (by omega))
              rw [show ((p + d : Nat) : Int) = (p : Int) + (d : Int) by omega] at HBe
              have hbv : 0 ≤ beV zs (p + d) (widN M) ∧ beV zs (p + d) (widN M) ≤ 4294967295 := by
                have h := rb_beV zs (p + d) (widN M : Int) (by unfold IsW; omega)
                have h2 := rb_bd zs (p + d) (widN M) HOB.out (by omega)
                rw [Int.toNat_natCast] at h
                rw [← h]; exact ⟨h2.1, h2.2.1⟩
              have HA2 : Hid (argsO zs ms (p + 2 + MK) = (argsO zs (ms.drop (k + 1)) (p + (d + widN M))).map fun r => ((acc ++ [(M, toldV M (seg zs (p + d) (widN M)))]) ++ r.1, r.2)) := by
                refine HAR.out.trans ?_
                rw [argsO_cons, hl, if_neg hs, Nat.add_assoc p d]
                cases argsO zs (ms.drop (k + 1)) (p + (d + widN M)) <;> simp
              have HOs : Hid (∀ v, ORow (wr.setCell ⟨G, k * 2 + 1, none⟩ (.int .u32 v)) (w.heap.size + 1 + 1 + 1) (some ⟨G, 0, none⟩) ls.length cp ((acc ++ [(M, v)]) ++ zOps (ms.drop (k + 1)))) := fun v => by
                have h := orow_put HO.out k hlt v
                have hacc := HACC.out
                rw [HGd.out, List.set_append_right _ _ (by omega), show k - acc.length = 0 by omega] at h
                rw [List.append_assoc]
                exact h
              clear HAR hok
              by_cases hm4' : M < 4
              · have hm4 : M < 4 := by omega
                have hic : isC M = true := by
                  unfold isC
                  rcases (show M = 0 ∨ M = 1 ∨ M = 2 ∨ M = 3 by omega) with rfl | rfl | rfl | rfl
                  · exact absurd rfl hz
                  · rfl
                  · rfl
                  · rfl
                have HV : Hid (toldV M (seg zs (p + d) (widN M)) = extW (beV zs (p + d) (widN M)) (widN M)) := by
                  show _ = _
                  unfold toldV
                  rw [hic, if_pos rfl, beV_seg zs (p + d) (widN M) (by omega) (by omega), seg_len zs (p + d) (widN M) (by omega)]
                have HExt := hidden fun wx => extR_any (beV zs (p + d) (widN M)) (widN M) wx hbv.1 hbv.2
                rw [HV.out] at HA2
                generalize extW (beV zs (p + d) (widN M)) (widN M) = V at *
                generalize beV zs (p + d) (widN M) = BB at *
                generalize widN M = WN at *
                clear HV hic hbv
                go_wp2_with (first | (go_at_call 32; refine (HSz.out _).mono ?_; rintro e w4 ⟨rfl, hw⟩; obtain rfl := hw.symm; clear hw) | (go_at_call 28; refine (HT.out _ _).mono ?_; rintro e w4 ⟨rfl, hw⟩; obtain rfl := hw.symm; clear hw) | (go_at_call 29; refine HBe.out.mono ?_; rintro e w4 ⟨rfl, hw⟩; obtain rfl := hw.symm; clear hw) | (go_at_call 33; refine (HExt.out _).mono ?_; rintro e w4 ⟨rfl, hw⟩; obtain rfl := hw.symm; clear hw))
                have HO6 := hidden (HOs.out V)
                have HI6 : Hid (IB (wr.setCell ⟨G, k * 2 + 1, none⟩ (.int .u32 V)) (w.heap.size + 1 + 1) OP (some ⟨G, 0, none⟩) ls.length cp) := (heap_setCell_other _ _ _ _ (show w.heap.size + 1 + 1 ≠ G by omega)).trans HI.out
                have HI06 : Hid (IB (wr.setCell ⟨G, k * 2 + 1, none⟩ (.int .u32 V)) w.heap.size 0 none 0 0) := (heap_setCell_other _ _ _ _ (show w.heap.size ≠ G by omega)).trans HI0.out
                have HI76 : Hid (IB (wr.setCell ⟨G, k * 2 + 1, none⟩ (.int .u32 V)) (w.heap.size + 1) 0 none 0 0) := (heap_setCell_other _ _ _ _ (show w.heap.size + 1 ≠ G by omega)).trans HI7.out
                have HB6 : Hid (Below w.heap.size w (wr.setCell ⟨G, k * 2 + 1, none⟩ (.int .u32 V))) := by
                  have hb := HB.out
                  have hG0 : w.heap.size ≤ G := by omega
                  show Below _ _ _
                  go_grown
                have HS6 : Hid (w.heap.size + 1 + 1 + 1 ≤ (wr.setCell ⟨G, k * 2 + 1, none⟩ (.int .u32 V)).heap.size) := by
                  show _ ≤ _
                  rw [World.size_setCell]; exact HS.out
                go_roundw
                case rel => exact ⟨k + 1, d + WN, acc ++ [(M, V)], by omega, int_eq (by omega), int_eq (by omega), by omega, by rw [List.length_append, HACC.out]; rfl, HA2, HI6, HO6, HI06, HI76, HB6, HS6⟩
                case measure => simp [intOf]; omega
              · have hm4 : ¬ M < 4 := by omega
                have hic : isC M = false := by
                  unfold isC
                  rw [show (M == 1) = false by simp; omega, show (M == 2) = false by simp; omega, show (M == 3) = false by simp; omega]
                  rfl
                have HV : Hid (toldV M (seg zs (p + d) (widN M)) = beV zs (p + d) (widN M)) := by
                  show _ = _
                  unfold toldV
                  rw [hic, beV_seg zs (p + d) (widN M) (by omega) (by omega)]
                  rfl
                rw [HV.out] at HA2
                generalize beV zs (p + d) (widN M) = V at *
                generalize widN M = WN at *
                clear HV hic hbv
                go_wp2_with (first | (go_at_call 32; refine (HSz.out _).mono ?_; rintro e w4 ⟨rfl, hw⟩; obtain rfl := hw.symm; clear hw) | (go_at_call 28; refine (HT.out _ _).mono ?_; rintro e w4 ⟨rfl, hw⟩; obtain rfl := hw.symm; clear hw) | (go_at_call 29; refine HBe.out.mono ?_; rintro e w4 ⟨rfl, hw⟩; obtain rfl := hw.symm; clear hw))
                have HO6 := hidden (HOs.out V)
                have HI6 : Hid (IB (wr.setCell ⟨G, k * 2 + 1, none⟩ (.int .u32 V)) (w.heap.size + 1 + 1) OP (some ⟨G, 0, none⟩) ls.length cp) := (heap_setCell_other _ _ _ _ (show w.heap.size + 1 + 1 ≠ G by omega)).trans HI.out
                have HI06 : Hid (IB (wr.setCell ⟨G, k * 2 + 1, none⟩ (.int .u32 V)) w.heap.size 0 none 0 0) := (heap_setCell_other _ _ _ _ (show w.heap.size ≠ G by omega)).trans HI0.out
                have HI76 : Hid (IB (wr.setCell ⟨G, k * 2 + 1, none⟩ (.int .u32 V)) (w.heap.size + 1) 0 none 0 0) := (heap_setCell_other _ _ _ _ (show w.heap.size + 1 ≠ G by omega)).trans HI7.out
                have HB6 : Hid (Below w.heap.size w (wr.setCell ⟨G, k * 2 + 1, none⟩ (.int .u32 V))) := by
                  have hb := HB.out
                  have hG0 : w.heap.size ≤ G := by omega
                  show Below _ _ _
                  go_grown
                have HS6 : Hid (w.heap.size + 1 + 1 + 1 ≤ (wr.setCell ⟨G, k * 2 + 1, none⟩ (.int .u32 V)).heap.size) := by
                  show _ ≤ _
                  rw [World.size_setCell]; exact HS.out
                go_roundw
                case rel => exact ⟨k + 1, d + WN, acc ++ [(M, V)], by omega, int_eq (by omega), int_eq (by omega), by omega, by rw [List.length_append, HACC.out]; rfl, HA2, HI6, HO6, HI06, HI76, HB6, HS6⟩
                case measure => simp [intOf]; omega
        · obtain rfl : k = ls.length := by omega
          have HAE : Hid (argsO zs ms (p + 2 + MK) = some (acc, p + d)) := by
            refine HAR.out.trans ?_
            rw [List.drop_eq_nil_of_le (by omega)]
            simp [argsO]
          have HO2 : Hid (ORow wr (w.heap.size + 1 + 1 + 1) a ls.length cp acc) := by
            have h := HO.out
            rw [List.drop_eq_nil_of_le (by omega)] at h
            show ORow _ _ _ _ _ _
            simpa [zOps] using h
          have d2 : ¬ (ls.length : Int) < (ls.length : Int) := by omega
          go_wp2
          obtain ⟨k0, k1, _, _⟩ := ib_box (ib_set HI0.out OP a ls.length cp)
          refine bodyPost_ret (v := .tuple #[.agg #[.int .u32 OP, .slice a ls.length cp], .int .i64 d, .int .i64 0]) (by simp [results, Try.results12, go_sem, k0, k1]) rfl ?_
          rw [HR2.out _ _ HAE.out]
          refine ⟨a, cp, ?_, ?_, ?_⟩
          · show _ = Ending.returned (.tuple #[.agg #[.int .u32 OP, .slice a acc.length cp], .int .i64 (((p + d : Nat) : Int) - p), .int .i64 0])
            rw [HACC.out, show ((p + d : Nat) : Int) - p = d by omega]
          · show Ops _ a acc.length cp acc
            rw [HACC.out]
            exact orow_ops (orow_other HO2.out (fun b (hb : w.heap.size + 1 + 1 + 1 ≤ b) => (heap_setCell_other _ _ _ _ (show b ≠ w.heap.size by omega)).trans (heap_setCell_other _ _ _ _ (show b ≠ w.heap.size by omega))))
          · have hb := HB.out
            go_grown
end Go.Proofs.Ytpkfmccnjandoaa
