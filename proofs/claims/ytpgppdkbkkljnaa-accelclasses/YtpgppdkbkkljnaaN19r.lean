/- Layer 18: AccelClasses. -/
import Derived.Test.YtpgppdkbkkljnaaN19q
namespace Go.Proofs.Ytpgppdkbkkljnaa
open Go.RowKit
set_option maxHeartbeats 4000000
set_option maxRecDepth 100000
set_option linter.unusedVariables false
theorem classes_0 (a : Option Addr) (len cap : Nat) (n : Nat) (w : World) (h : 60 < len) : Calls Try.prog 6 #[.slice a len cap, .int .u8 (n : Int)] w fun e w' => e = .returned (.bool true) ∧ Below w.heap.size w w' := by
  have l1 : (len : Int) > 60 := by omega
  go_enter Try.func6, Try.ntmps6
  go_wp2_with (go_at_call 9; refine (live18 _).mono ?_; rintro e w7 ⟨rfl, hb7⟩; have HB7 := hidden hb7; clear hb7)
  go_ret
  exact ⟨rfl, HB7.out⟩
theorem classes_1 (a : Option Addr) (len cap : Nat) (zs : List Int) (n : Nat) (w : World) (h : Reads w a len cap zs) (ho : OkB zs) (hl : len ≤ 60) (hn : n < 256) : Calls Try.prog 6 #[.slice a len cap, .int .u8 (n : Int)] w fun e w' => e = .returned (.bool true) ∧ Below w.heap.size w w' := by
  have l1 : ¬ (len : Int) > 60 := by omega
  have HR := hidden h
  have HOK := hidden ho
  clear h ho
  have hmk : ∀ w, (Instr.makeSlice 50 (.int .i64 1792) (.int .i64 1792)).run Try.prog w = .ok (.slice (some ⟨w.heap.size, 0, none⟩) 1792 1792) (w.alloc (.cells (bytesV (zer8 1792)).toArray 5)) := fun w => mk8 .i64 1792 (by omega) w
  have HB0 : Hid (Below w.heap.size w (w.alloc (.cells (bytesV (zer8 1792)).toArray 5))) := hidden ((Below.refl _ _).alloc (Nat.le_refl _) _)
  have HO0 : Hid ((w.alloc (.cells (bytesV (zer8 1792)).toArray 5)).ownsRow w.heap.size 5 1 (.slice (some ⟨w.heap.size, 0, none⟩) 1792 1792) 1792 (bytesV (cl1 0))) := hidden (zer_own w w.heap.size 1792 (Nat.le_refl _) (by omega))
  generalize hz : (bytesV (zer8 1792)).toArray = Z at *
  clear hz
  go_enter Try.func6, Try.ntmps6
  go_upto_region 4 with fail
  generalize w.alloc (.cells Z 5) = wA at *
  clear hmk
  generalize hS : w.heap.size = S at *
  have HS := hidden hS
  clear hS
  go_upto_region 5 with fail
  go_loopw [6] (fun i w' => ∃ k : Nat, k ≤ 8 ∧ i = .int .i64 k ∧ Hid (w'.ownsRow S 5 1 (.slice (some ⟨S, 0, none⟩) 1792 1792) 1792 (bytesV (cl1 k))) ∧ Hid (Below S w w')) (fun i _ => 8 - (intOf i).toNat)
  case atStart => exact ⟨0, by omega, rfl, HO0, HB0⟩
  case round =>
    clear HO0 HB0
    obtain ⟨k, hk, rfl, HO, HB⟩ := hrel
    generalize hwq : wr = wq at *
    clear hwq
    by_cases h1 : k < 8
    · have l2 : (k : Int) < 8 := by omega
      have hold := (own_bs HO.out).2 (256 + 64 * k) (by omega)
      rw [Nat.zero_add] at hold
      have hfz := own8_fz HO.out (256 + 64 * k)
      have HO1 := hidden (own8_put HO.out (256 + 64 * k) (by omega) 112)
      have HB1 := hidden (HB.out.setCell (p := ⟨S, 256 + 64 * k, none⟩) (Nat.le_refl _) (.int .u8 112))
      have el : ((cl1 k).set (256 + 64 * k) 112).length = 1792 := by rw [List.length_set, cl1_len k (by omega)]
      generalize (cl1 k).getD (256 + 64 * k) 0 = V0 at *
      have hwm : IntKind.i64.wrap (64 * (k : Int)) = 64 * (k : Int) := by rw [IntKind.wrap_i64]; omega
      have ea : 512 + 64 * (k : Int) - 256 = ((256 + 64 * k : Nat) : Int) := by omega
      have ep : 512 + 64 * (k : Int) + 20 = ((512 + 64 * k + 20 : Nat) : Int) := by omega
      have e5 : 512 + 64 * k + 20 - 256 + 4 ≤ 1792 := by omega
      have e6 : 256 ≤ 512 + 64 * k + 20 := by omega
      have HE : Hid (splice ((cl1 k).set (256 + 64 * k) 112) (512 + 64 * k + 20 - 256) (putL ((2000 : Nat) : Int) ((4 : Nat) : Int)) = cl1 (k + 1)) := hidden rfl
      generalize 512 + 64 * k + 20 = P at *
      generalize 256 + 64 * k = AA at *
      generalize (cl1 k).set AA 112 = C1 at *
      have hA1 : (0 : Int) ≤ (AA : Int) := by omega
      have hA2 : (AA : Int) < 1792 := by omega
      have hA3 : ((AA : Int)).toNat = AA := by omega
      go_upto_region 8 with fail
      clear hold hfz
      generalize wq.setCell ⟨S, AA, none⟩ (.int .u8 112) = w1 at *
      have HBs := hidden (le_of HS.out HB1.out)
      go_wp2_with (go_at_call 22; refine (put18 S S 1792 1792 P 4 2000 C1 _ HO1.out (.inr rfl) e6 e5 (by decide) (by decide)).mono ?_; rintro e w2 ⟨rfl, ho, hf⟩; have HO2 : Hid (w2.ownsRow S 5 1 (.slice (some ⟨S, 0, none⟩) 1792 1792) 1792 (bytesV (cl1 (k + 1)))) := hidden (by { rw [← HE.out]; exact ho }); have HB2 := hidden (HB1.out.trans (hf.below HBs.out (fun k e => by rw [e]; exact Nat.le_refl _))); clear ho hf)
      go_roundw
      case rel => exact ⟨k + 1, by omega, by go_num, HO2, HB2⟩
      case measure => simp [intOf]; omega
    · have l2 : ¬ (k : Int) < 8 := by omega
      have hk8 : k = 8 := by omega
      subst hk8
      have hold := (own_bs HO.out).2 768 (by decide)
      rw [Nat.zero_add] at hold
      have hfz := own8_fz HO.out 768
      have HO1 : Hid ((wq.setCell ⟨S, 768, none⟩ (.int .u8 112)).ownsRow S 5 1 (.slice (some ⟨S, 0, none⟩) 1792 1792) 1792 (bytesV cl2)) := hidden (own8_put HO.out 768 (by decide) 112)
      have HB1 := hidden (HB.out.setCell (p := ⟨S, 768, none⟩) (Nat.le_refl _) (.int .u8 112))
      generalize (cl1 8).getD 768 0 = V0 at *
      clear HO HB
      go_upto_region 10 with fail
      clear hold hfz
      generalize wq.setCell ⟨S, 768, none⟩ (.int .u8 112) = w2 at *
      go_upto_region 11 with (go_at_call 22; refine (put18 S S 1792 1792 1040 4 1100 cl2 _ HO1.out (.inr rfl) (by decide) (by decide) (by decide) (by decide)).mono ?_; rintro e w3 ⟨rfl, ho, hf⟩; have HO3 : Hid (w3.ownsRow S 5 1 (.slice (some ⟨S, 0, none⟩) 1792 1792) 1792 (bytesV cl3)) := hidden ho; have HB3 := hidden (HB1.out.trans (hf.below (le_of HS.out HB1.out) (fun k e => by rw [e]; exact Nat.le_refl _))); clear ho hf HO1 HB1)
      go_upto_region 12 with (go_at_call 22; refine (put18 S S 1792 1792 1100 4 1 cl3 _ HO3.out (.inr rfl) (by decide) (by decide) (by decide) (by decide)).mono ?_; rintro e w4 ⟨rfl, ho, hf⟩; have HO4 : Hid (w4.ownsRow S 5 1 (.slice (some ⟨S, 0, none⟩) 1792 1792) 1792 (bytesV cl4)) := hidden ho; have HB4 := hidden (HB3.out.trans (hf.below (le_of HS.out HB3.out) (fun k e => by rw [e]; exact Nat.le_refl _))); clear ho hf HO3 HB3)
      go_upto_region 13 with (go_at_call 22; refine (put18 S S 1792 1792 1104 2 2 cl4 _ HO4.out (.inl rfl) (by decide) (by decide) (by decide) (by decide)).mono ?_; rintro e w5 ⟨rfl, ho, hf⟩; have HO5 : Hid (w5.ownsRow S 5 1 (.slice (some ⟨S, 0, none⟩) 1792 1792) 1792 (bytesV cl5)) := hidden ho; have HB5 := hidden (HB4.out.trans (hf.below (le_of HS.out HB4.out) (fun k e => by rw [e]; exact Nat.le_refl _))); clear ho hf HO4 HB4)
      have eL : (len : Int) % 4294967296 = (len : Int) := by omega
      go_upto_region 14 with (go_at_call 22; refine (put18 S S 1792 1792 1106 2 len cl5 _ HO5.out (.inl rfl) (by decide) (by decide) (by decide) (by omega)).mono ?_; rintro e w6 ⟨rfl, ho, hf⟩; have HO6 : Hid (w6.ownsRow S 5 1 (.slice (some ⟨S, 0, none⟩) 1792 1792) 1792 (bytesV (cl6 len))) := hidden ho; have HB6 := hidden (HB5.out.trans (hf.below (le_of HS.out HB5.out) (fun k e => by rw [e]; exact Nat.le_refl _))); clear ho hf HO5 HB5)
      go_upto_region 15 with (go_at_call 22; refine (put18 S S 1792 1792 1108 4 1200 (cl6 len) _ HO6.out (.inr rfl) (by decide) (by decide) (by decide) (by decide)).mono ?_; rintro e w7 ⟨rfl, ho, hf⟩; have HO7 : Hid (w7.ownsRow S 5 1 (.slice (some ⟨S, 0, none⟩) 1792 1792) 1792 (bytesV (cl7 len))) := hidden ho; have HB7 := hidden (HB6.out.trans (hf.below (le_of HS.out HB6.out) (fun k e => by rw [e]; exact Nat.le_refl _))); clear ho hf HO6 HB6)
      obtain ⟨K, hK⟩ : ∃ K, n % 8 = K := ⟨_, rfl⟩
      have hK8 : K < 8 := by omega
      have eK : (n : Int) % 8 = (K : Int) := by omega
      obtain ⟨q, hq⟩ : ∃ q : Nat → Nat, q = fun i => (zs.getD i 0).toNat % 8 := ⟨_, rfl⟩
      have HQ := hidden hq
      clear hq
      go_upto_region 18 with fail
      rw [eK]
      go_loopw [7, 9] (fun s7 i w' => ∃ k : Nat, k ≤ len ∧ i = .int .i64 k ∧ s7 = .bool (amL q K k) ∧ Hid (w'.ownsRow S 5 1 (.slice (some ⟨S, 0, none⟩) 1792 1792) 1792 (bytesV (cl8 q len k))) ∧ Hid (Below S w w')) (fun _ i _ => len - (intOf i).toNat)
      case atStart => exact ⟨0, by omega, rfl, rfl, HO7, HB7⟩
      case round =>
        clear HO7 HB7
        obtain ⟨k, hk, rfl, rfl, HO, HB⟩ := hrel
        generalize hwx : wr = wx at *
        clear hwx
        by_cases h1 : k < len
        · have l3 : (k : Int) < (len : Int) := by omega
          have l4 : (0 : Int) ≤ (k : Int) := by omega
          have e3 : ((k : Int)).toNat = k := by omega
          obtain ⟨g0, o0, ha, hbs0⟩ := HR.out.bs (by omega)
          subst ha
          have hc0 := (hbs0.later (HS.out ▸ HB.out)).2 k h1
          have hv := getD_ok HOK.out k
          have HQk := hidden (show q k = (zs.getD k 0).toNat % 8 by rw [HQ.out])
          have HAm := hidden (amL_succ q K k)
          generalize zs.getD k 0 = V at *
          obtain ⟨v, rfl⟩ : ∃ v : Nat, V = v := ⟨V.toNat, by omega⟩
          generalize amL q K k = b0 at *
          have eq8 : (v : Int) % 8 = ((q k : Nat) : Int) := by have := HQk.out; omega
          have hg0 : g0 < S := by
            have h3 : g0 < w.heap.size := World.block_lt_of_cell? _ _ (hbs0.2 k h1)
            have h2 := HS.out
            omega
          have eP : 1200 + 4 * (k : Int) = ((1200 + 4 * k : Nat) : Int) := by omega
          have eX : 512 + 64 * ((q k : Nat) : Int) = ((512 + 64 * q k : Nat) : Int) := by omega
          have hq8 : q k < 8 := by have := HQk.out; omega
          have HE : Hid (splice (cl8 q len k) (1200 + 4 * k - 256) (putL ((512 + 64 * q k : Nat) : Int) ((4 : Nat) : Int)) = cl8 q len (k + 1)) := hidden rfl
          have e5 : 1200 + 4 * k - 256 + 4 ≤ 1792 := by omega
          have e6 : 256 ≤ 1200 + 4 * k := by omega
          have e7 : 512 + 64 * q k < 4294967296 := by omega
          have HBs := hidden (le_of HS.out HB.out)
          generalize 1200 + 4 * k = P at *
          generalize 512 + 64 * q k = X at *
          go_upto_region 21 with (go_at_call 22; refine (put18 S S 1792 1792 P 4 X _ _ HO.out (.inr rfl) e6 e5 (by decide) e7).mono ?_; rintro e w8 ⟨rfl, ho, hf⟩; have HO8 : Hid (w8.ownsRow S 5 1 (.slice (some ⟨S, 0, none⟩) 1792 1792) 1792 (bytesV (cl8 q len (k + 1)))) := hidden (by { rw [← HE.out]; exact ho }); have hd0 := (World.cell?_of_block (hf.block g0 (World.block_lt_of_cell? _ _ hc0) (by omega))).trans hc0; have HB8 := hidden (HB.out.trans (hf.below HBs.out (fun k e => by rw [e]; exact Nat.le_refl _))); clear ho hf)
          clear hc0
          generalize hQQ : q k = Q at *
          have HQQ := hidden hQQ
          clear hQQ
          cases b0 with
          | true =>
            go_wp2
            go_roundw
            case rel => exact ⟨k + 1, by omega, by go_num, by rw [HAm.out]; rfl, HO8, HB8⟩
            case measure => simp [intOf]; omega
          | false =>
            by_cases hQK : Q = K
            · have qe : ((Q : Int) == (K : Int)) = true := by rw [hQK]; simp
              go_wp2
              go_roundw
              case rel => exact ⟨k + 1, by omega, by go_num, by rw [HAm.out, decide_eq_true hQK]; rfl, HO8, HB8⟩
              case measure => simp [intOf]; omega
            · have qe : ((Q : Int) == (K : Int)) = false := by rw [beq_eq_false_iff_ne]; omega
              go_wp2
              go_roundw
              case rel => exact ⟨k + 1, by omega, by go_num, by rw [HAm.out, decide_eq_false hQK]; rfl, HO8, HB8⟩
              case measure => simp [intOf]; omega
        · have l3 : ¬ (k : Int) < (len : Int) := by omega
          have hkl : k = len := by omega
          subst hkl
          have HCF := hidden (cls_is q k hl (fun i _ => by rw [HQ.out]; exact Nat.mod_lt _ (by decide)))
          have HRD := hidden (own_reads HO.out)
          have hok := cl8_ok q k k
          have HLD := hidden (laid18 _ _ _ _ wx HRD.out hok)
          unfold LRet at HLD
          have HLL : Hid ((layB (cl8 q k k)).length = 2048) := hidden (lay_len _ _ (by decide))
          have HLO : Hid (OkB (layB (cl8 q k k))) := hidden (lay_ok _ hok _)
          have hF := cls_five HCF.out K hK8
          clear HCF hok HO HRD
          generalize layB (cl8 q k k) = BB at *
          obtain ⟨f1, f2, f3, f4, f5⟩ := hF
          obtain ⟨xb, hxb, hxt, hxf⟩ : ∃ xb : Nat, one18 (amL q K k) = ⟨xb, 0, 0⟩ ∧ (amL q K k = true → xb = 1) ∧ (amL q K k = false → xb = 0) := ⟨_, rfl, (fun e => by rw [e]; rfl), (fun e => by rw [e]; rfl)⟩
          rw [hxb] at f1
          have F1 := hidden f1
          have F2 : Hid (doA BB 256 psC 5 [512 + 64 * K, 2000] = ⟨1, 0, 0⟩) := hidden f2
          have F3 : Hid (doA BB 256 psC 5 [1024, 2004] = ⟨1, 0, 0⟩) := hidden f3
          have F4 : Hid (doA BB 256 psC 5 [512 + 64 * K, 2004] = ⟨0, 0, 0⟩) := hidden f4
          have F5 := hidden f5
          have HXT := hidden hxt
          have HXF := hidden hxf
          clear hxb hxt hxf
          clear f1 f2 f3 f4 f5
          go_upto_region 23 with (go_at_call 15; refine HLD.out.mono ?_; rintro e w8 ⟨m, d, g, rfl, hL, hb1⟩; have HM := hidden (hL.memr HLO.out (by rw [HLL.out]; decide)); have HB8 := hidden (HB.out.trans (hb1.mono (le_of HS.out HB.out))); clear hL hb1 HB)
          clear HLD
          have hb : Below w8.heap.size w8 (w8.alloc (.cells (wdV psC).toArray 26)) := (Below.refl _ _).alloc (Nat.le_refl _) _
          have hP0 : PRow (w8.alloc (.cells (wdV psC).toArray 26)) w8.heap.size psC := PRow.new w8 _
          have hlv : ∀ z ∈ psC, z < 4294967296 := by decide
          have HPA := hidden (params18 (some ⟨w8.heap.size, 0, none⟩) 9 9 psC _ (hP0.row hlv 9 (by decide)) (by decide))
          have HM9 := hidden (HM.out.later hb)
          have HB9 := hidden (HB8.out.trans (hb.mono (le_of HS.out HB8.out)))
          clear hP0 hb HM HB8
          go_upto_region 26 with (go_at_call 16; refine HPA.out.mono ?_; rintro e w9 ⟨p, rfl, hp1, hP, hb2⟩; have HP : Hid (PRow w9 p psC) := hidden hP; have HMA := hidden (HM9.out.later hb2); have HBA := hidden (HB9.out.trans (hb2.mono (le_of HS.out HB9.out))); clear hp1 hP hb2 HB9 HM9)
          clear HPA
          have eC : 512 + 64 * (K : Int) = ((512 + 64 * K : Nat) : Int) := by omega
          have hC : 512 + 64 * K < 4294967296 := by omega
          generalize 512 + 64 * K = C at *
          have hCm : (C : Int) % 4294967296 = (C : Int) := by omega
          go_upto_region 27 with fail
          have hb : Below w9.heap.size w9 (w9.alloc (.cells #[.int .u32 1024, .int .u32 (C : Int)] 26)) := (Below.refl _ _).alloc (Nat.le_refl _) _
          have HD := hidden (do_good m BB 256 (some ⟨p, 0, none⟩) 9 psC 5 (some ⟨w9.heap.size, 0, none⟩) 2 2 [1024, C] _ (HMA.out.later hb) ((HP.out.later hb).row hlv 9 (by decide)) (vrow2 w9 1024 C (by decide) hC) (by decide) (by decide))
          rw [F1.out] at HD
          have HBX := hidden hb
          clear hb
          go_upto_region 28 with (go_at_call 20; refine HD.out.mono ?_; rintro e wa ⟨rfl, hb8⟩; have HBY := hidden (HBX.out.trans (hb8.mono HBX.out.size)); replace HMA := hidden (HMA.out.later HBY.out); replace HP := hidden (HP.out.later HBY.out); replace HBA := hidden (HBA.out.trans (HBY.out.mono (le_of HS.out HBA.out))); clear hb8 HBX HBY HD)
          have hb : Below wa.heap.size wa (wa.alloc (.cells #[.int .u32 (C : Int), .int .u32 2000] 26)) := (Below.refl _ _).alloc (Nat.le_refl _) _
          have HD := hidden (do_good m BB 256 (some ⟨p, 0, none⟩) 9 psC 5 (some ⟨wa.heap.size, 0, none⟩) 2 2 [C, 2000] _ (HMA.out.later hb) ((HP.out.later hb).row hlv 9 (by decide)) (vrow2 wa C 2000 hC (by decide)) (by decide) (by decide))
          rw [F2.out] at HD
          have HBX := hidden hb
          clear hb
          go_upto_region 29 with (go_at_call 20; refine HD.out.mono ?_; rintro e wb ⟨rfl, hb8⟩; have HBY := hidden (HBX.out.trans (hb8.mono HBX.out.size)); replace HMA := hidden (HMA.out.later HBY.out); replace HP := hidden (HP.out.later HBY.out); replace HBA := hidden (HBA.out.trans (HBY.out.mono (le_of HS.out HBA.out))); clear hb8 HBX HBY HD)
          have hb : Below wb.heap.size wb (wb.alloc (.cells #[.int .u32 1024, .int .u32 2004] 26)) := (Below.refl _ _).alloc (Nat.le_refl _) _
          have HD := hidden (do_good m BB 256 (some ⟨p, 0, none⟩) 9 psC 5 (some ⟨wb.heap.size, 0, none⟩) 2 2 [1024, 2004] _ (HMA.out.later hb) ((HP.out.later hb).row hlv 9 (by decide)) (vrow2 wb 1024 2004 (by decide) (by decide)) (by decide) (by decide))
          rw [F3.out] at HD
          have HBX := hidden hb
          clear hb
          go_upto_region 30 with (go_at_call 20; refine HD.out.mono ?_; rintro e wc ⟨rfl, hb8⟩; have HBY := hidden (HBX.out.trans (hb8.mono HBX.out.size)); replace HMA := hidden (HMA.out.later HBY.out); replace HP := hidden (HP.out.later HBY.out); replace HBA := hidden (HBA.out.trans (HBY.out.mono (le_of HS.out HBA.out))); clear hb8 HBX HBY HD)
          have hb : Below wc.heap.size wc (wc.alloc (.cells #[.int .u32 (C : Int), .int .u32 2004] 26)) := (Below.refl _ _).alloc (Nat.le_refl _) _
          have HD := hidden (do_good m BB 256 (some ⟨p, 0, none⟩) 9 psC 5 (some ⟨wc.heap.size, 0, none⟩) 2 2 [C, 2004] _ (HMA.out.later hb) ((HP.out.later hb).row hlv 9 (by decide)) (vrow2 wc C 2004 hC (by decide)) (by decide) (by decide))
          rw [F4.out] at HD
          have HBX := hidden hb
          clear hb
          go_upto_region 31 with (go_at_call 20; refine HD.out.mono ?_; rintro e wd ⟨rfl, hb8⟩; have HBY := hidden (HBX.out.trans (hb8.mono HBX.out.size)); replace HMA := hidden (HMA.out.later HBY.out); replace HP := hidden (HP.out.later HBY.out); replace HBA := hidden (HBA.out.trans (HBY.out.mono (le_of HS.out HBA.out))); clear hb8 HBX HBY HD)
          have hb : Below wd.heap.size wd (wd.alloc (.cells #[.int .u32 1024, .int .u32 1024] 26)) := (Below.refl _ _).alloc (Nat.le_refl _) _
          have HD := hidden (do_good m BB 256 (some ⟨p, 0, none⟩) 9 psC 5 (some ⟨wd.heap.size, 0, none⟩) 2 2 [1024, 1024] _ (HMA.out.later hb) ((HP.out.later hb).row hlv 9 (by decide)) (vrow2 wd 1024 1024 (by decide) (by decide)) (by decide) (by decide))
          rw [F5.out] at HD
          have HBX := hidden hb
          clear hb
          go_upto_region 32 with (go_at_call 20; refine HD.out.mono ?_; rintro e we ⟨rfl, hb8⟩; have HBY := hidden (HBX.out.trans (hb8.mono HBX.out.size)); replace HMA := hidden (HMA.out.later HBY.out); replace HP := hidden (HP.out.later HBY.out); replace HBA := hidden (HBA.out.trans (HBY.out.mono (le_of HS.out HBA.out))); clear hb8 HBX HBY HD)
          generalize amL q K k = b0 at *
          cases b0 with
          | true =>
            have hx1 := HXT.out rfl
            subst hx1
            go_wp2_with (first
              | (go_at_call 19; refine (num18 _ _).mono ?_; rintro e w20 ⟨rfl, e9⟩; rw [e9]; clear e9)
              | (go_at_call 9; refine (live18 _).mono ?_; rintro e w21 ⟨rfl, hb7⟩; have HBZ := hidden (HBA.out.trans (hb7.mono (le_of HS.out HBA.out))); clear hb7)
              | fail)
            go_ret
            exact ⟨rfl, by rw [HS.out]; exact HBZ.out⟩
          | false =>
            have hx1 := HXF.out rfl
            subst hx1
            go_wp2_with (first
              | (go_at_call 19; refine (num18 _ _).mono ?_; rintro e w20 ⟨rfl, e9⟩; rw [e9]; clear e9)
              | (go_at_call 9; refine (live18 _).mono ?_; rintro e w21 ⟨rfl, hb7⟩; have HBZ := hidden (HBA.out.trans (hb7.mono (le_of HS.out HBA.out))); clear hb7)
              | fail)
            go_ret
            exact ⟨rfl, by rw [HS.out]; exact HBZ.out⟩
theorem accelClasses_walk (a : Option Addr) (len cap : Nat) (zs : List Int) (n : Int) (w : World) (h : IsRow .u8 w a len cap zs) (wn : (Lit.int .u8 n).wf = true) : Calls Try.prog 6 #[.slice a len cap, .int .u8 n] w fun e w' => e = .returned (.bool true) ∧ Below w.heap.size w w' := by
  obtain ⟨r1, r2, r3⟩ := reads_of_row h
  have b0 : 0 ≤ n ∧ n ≤ 255 := by simp [Lit.wf, IntKind.min, IntKind.max, IntKind.signed, IntKind.bits] at wn; omega
  obtain ⟨k, rfl⟩ : ∃ k : Nat, n = k := ⟨n.toNat, by omega⟩
  by_cases c1 : 60 < len
  · exact classes_0 _ _ _ _ _ c1
  · exact classes_1 _ _ _ _ _ _ r1 r2 (by omega) (by omega)
end Go.Proofs.Ytpgppdkbkkljnaa
