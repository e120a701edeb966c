/- The walk of StackCalls: behind a stub and a frame, whatever is done there, a return leads back to the same stack. -/
import Derived.Test.YtgmiemekcloknaaX10f
namespace Go.Proofs.Ytgmiemekcloknaa
open Go.RowKit
set_option maxHeartbeats 1000000
set_option maxRecDepth 100000
set_option linter.unusedVariables false

theorem stackCalls_walk (ao : Option Addr) (len cap : Nat) (rs : List Ac) (a b c : Int) (va : Option Addr) (vlen vcap : Nat) (vzs : List Int) (w : World) (hA : IsActs w ao len cap rs) (ha : (Lit.int .u32 a).wf = true) (hb : (Lit.int .u32 b).wf = true) (hc : (Lit.int .u32 c).wf = true) (hV : IsRow .u32 w va vlen vcap vzs) :
    Calls Try.prog 5 #[.slice ao len cap, .int .u32 a, .int .u32 b, .int .u32 c, .slice va vlen vcap] w fun e w' => e = .returned (.bool true) ∧ Below w.heap.size w w' := by
  have HLV : Hid (∀ w1, Below w.heap.size w w1 → Calls Try.prog 9 #[] w1 fun e w' => e = .returned (.bool true) ∧ Below w.heap.size w w') := fun w1 hb => (live_any w1).mono (fun e w' hh => ⟨hh.1, hb.trans (hh.2.mono hb.size)⟩)
  have HH := hidden (huge_any ao len cap rs w hA)
  have ha2 := bounds_u32 ha
  have hb2 := bounds_u32 hb
  have hc2 := bounds_u32 hc
  obtain ⟨x, rfl⟩ := Int.eq_ofNat_of_zero_le ha2.1
  obtain ⟨y, rfl⟩ := Int.eq_ofNat_of_zero_le hb2.1
  obtain ⟨z, rfl⟩ := Int.eq_ofNat_of_zero_le hc2.1
  have hx : x < 4294967296 := by omega
  have hy : y < 4294967296 := by omega
  have hz : z < 4294967296 := by omega
  clear ha hb hc ha2 hb2 hc2
  obtain ⟨xs, hv, hvc, hvl⟩ := vrow_of hV
  cases hu : hugeB rs with
  | true =>
    rw [hu] at HH
    clear hA hu hV hv
    go_enter Try.func5, Try.ntmps5
    go_wp2_with (first | (go_at_call 21; refine HH.out.mono ?_; rintro e wh ⟨rfl, hbh⟩) | (go_at_call 9; refine (HLV.out _ hbh).mono ?_; rintro e wl ⟨rfl, hbl⟩))
    go_ret
    exact ⟨rfl, hbl⟩
  | false =>
  rw [hu] at HH
  by_cases hbig : 8192 < vlen
  · have d1 : (8192 : Int) < (vlen : Int) := by omega
    clear hA hV hv hu
    go_enter Try.func5, Try.ntmps5
    go_wp2_with (first | (go_at_call 21; refine HH.out.mono ?_; rintro e wh ⟨rfl, hbh⟩) | (go_at_call 9; refine (HLV.out _ hbh).mono ?_; rintro e wl ⟨rfl, hbl⟩))
    go_ret
    exact ⟨rfl, hbl⟩
  have d1 : ¬ (8192 : Int) < (vlen : Int) := by omega
  have hvl2 : vlen ≤ 8192 := by omega
  have hln := hv.ln
  have HBG := hidden (fun wh (hb : Below w.heap.size w wh) => begin_at ao len cap rs w wh hA hu hb)
  obtain ⟨bq, oq, hva⟩ : ∃ b o, 0 < vlen → va = some ⟨b, o, none⟩ := by
    by_cases h0 : 0 < vlen
    · obtain ⟨b, o, e, _⟩ := hv.cells 0 h0
      exact ⟨b, o, fun _ => e⟩
    · exact ⟨0, 0, fun h => absurd h h0⟩
  have HVR : Hid (∀ wx, Below w.heap.size w wx → ∀ i, i < vlen → wx.cell? ⟨bq, oq + i, none⟩ = some (.int .u32 (xs.getD i 0 : Nat)) ∧ xs.getD i 0 < 4294967296) := fun wx hb i hi => by
    obtain ⟨b', o', e, hc⟩ := hv.cells i hi
    have e2 := hva (by omega)
    rw [e] at e2
    cases e2
    refine ⟨cellLater hb hc, hv.bd _ ?_⟩
    rw [List.getD_eq_getElem?_getD, List.getElem?_eq_getElem (by rw [hln]; exact hi)]
    simp
  have HVW := hidden hv
  clear hA hV hv hu hbig
  go_enter Try.func5, Try.ntmps5
  go_wp2_with (first | (go_at_call 21; refine HH.out.mono ?_; rintro e wh ⟨rfl, hbh⟩) | (go_at_call 22; refine (HBG.out _ hbh).mono ?_; rintro e wb ⟨m, rfl, s, RG, HO⟩) | (go_at_call 18; refine (RG.out.bytes HO.out.1).mono ?_; rintro e wc ⟨a', c', gs0, rfl, hrow, rg2, _, _⟩; have HRW0 := hidden hrow; have RG0 := hidden rg2; clear hrow rg2))
  have hBW := RG0.out.base
  have RG2 := hidden (RG0.out.lows (blkOf vlen va) (blk_low (vrow_block HVW.out)))
  have HRW := hidden (HRW0.out.wide (gs' := blkOf vlen va ++ gs0) (fun g hg => List.mem_append_right _ hg))
  have HWI : Hid (WordsIn wc va vlen xs (blkOf vlen va ++ gs0)) := ⟨HVW.out.later hBW, fun h0 x e => List.mem_append_left _ (blk_mem h0 e)⟩
  clear RG RG0 HRW0 HVW hBW HBG HH
  generalize blkOf vlen va ++ gs0 = gs at *
  have HF0 := hidden (RG2.out.kFrame HO.out.1)
  have HST := hidden (RG2.out.kStub HO.out.1 x y z hx hy hz)
  have HFR := hidden (fun wx (r : RunG w.heap.size m w wx s gs) => r.kFrame HO.out.1)
  have HBY := hidden (fun wx (r : RunG w.heap.size m w wx s gs) => r.bytes HO.out.1)
  have HOB := hidden HO.out.1.okb
  have HSA := hidden (fun a1 c1 a2 c2 wx (r1 : Reads wx a1 s.bs.length c1 s.bs) (r2 : Reads wx a2 s.bs.length c2 s.bs) => same_eq a1 a2 _ c1 _ c2 _ wx HOB.out r1 r2)
  have hL : s.bs.length ≤ 2048 := by have := HO.out.1.sz; have := HO.out.2; omega
  by_cases he : stubUE s = 0
  · have hon : s.on = true := (lack_zero (roomFor_zero he).1).1
    rw [hon] at HF0 HFR
    rw [he] at HST
    have HUN := hidden (fun wx (r : RunG w.heap.size m w wx (stubS s x y z) gs) => by
      have b := stub_back HO.out.1 x y z hx hy hz he
      have := r.kUnstub (ok_stub HO.out.1 x y z)
      rw [b.1, b.2.1, b.2.2.1, b.2.2.2.1, b.2.2.2.2.1] at this
      exact this)
    have HUO := hidden (fun (ok : OkK ⟨2048, (stubS s x y z).bs, 0, false⟩) wx (r : RunG w.heap.size m w wx ⟨2048, (stubS s x y z).bs, 0, false⟩ gs) => by
      have b := off_back HO.out.1 HO.out.2 x y z hx hy hz he
      have := r.kUnstub ok
      rw [b.1, b.2.1, b.2.2.1, b.2.2.2.1, b.2.2.2.2] at this
      exact this)
    have hs1 : (stubS s x y z).size = 2048 := (size_stub s x y z).trans HO.out.2
    have HO1 := hidden (ok_stub HO.out.1 x y z)
    have HO2 := hidden (ok_enter HO1.out okb_0)
    have HES : Hid (enterE (stubS s x y z) fmt0 = 0 → enterS (stubS s x y z) fmt0 = calS 2048 (stubS s x y z).bs) := fun h => by
      unfold enterS
      rw [if_pos h, hs1, new0_eq]
      rfl
    have HEN : Hid (∀ w1, RunG w.heap.size m w w1 (stubS s x y z) gs → Calls Try.prog 28 #[.pointer (some ⟨m, 0, none⟩), .slice (some ⟨w1.heap.size, 0, none⟩) 6 6] (w1.alloc (.cells #[.int .u8 4, .int .u8 1, .int .u8 1, .int .u8 2, .int .u8 0, .int .u8 0] 5)) fun e w' => e = .returned (.int .i64 (enterE (stubS s x y z) fmt0)) ∧ Hid (RunG w.heap.size m w w' (enterS (stubS s x y z) fmt0) gs) ∧ Hid (Kept w1 w' gs)) := fun w1 r => by
      have hbf : Below w1.heap.size w1 (w1.alloc (.cells (bytesV fmt0).toArray 5)) := (Below.refl _ _).alloc (Nat.le_refl _) _
      have ho := owns_new w1 0 fmt0 (Nat.zero_le _) (by unfold maxLen; decide)
      have r2 := r.fresh hbf w1.heap.size (Nat.le_refl _) (by simp)
      have := r2.kEnter HO1.out (some ⟨w1.heap.size, 0, none⟩) 6 6 fmt0 ⟨own_reads ho, fun _ x e => by cases e; exact List.mem_cons_self⟩ okb_0 (by omega)
      refine this.mono ?_
      rintro e w' ⟨rfl, r3, k3⟩
      exact ⟨rfl, r3.less (fun g hg => List.mem_cons_of_mem _ hg), (r.later hbf).2.trans (fun g hg => k3 g (List.mem_cons_of_mem _ hg))⟩
    have HNS : Hid (enterE (stubS s x y z) fmt0 ≠ 0 → enterS (stubS s x y z) fmt0 = stubS s x y z) := fun h => by unfold enterS; rw [if_neg h]
    clear hs1 he HO
    generalize stubS s x y z = s1 at *
    generalize s.bs = zs at *
    generalize s.fr = g at *
    generalize zs.length = LZ at *
    by_cases hen : enterE s1 fmt0 = 0
    · have es := HES.out hen
      rw [es] at HO2
      rw [hen, es] at HEN
      clear HES HNS es hen HUN
      generalize s1.bs = zs1 at *
      obtain ⟨i1, i2, i3⟩ := calI_first HO2.out
      have HI1 := hidden i1
      have HL1 : Hid (∀ wx, RunG w.heap.size m w wx (calS 2048 zs1) gs → Calls Try.prog 30 #[.pointer (some ⟨m, 0, none⟩), .int .u32 0, .int .i64 4] wx fun e w' => e = .returned (.tuple #[.int .u32 0, .int .i64 0]) ∧ RunG w.heap.size m w w' (calS 2048 zs1) gs ∧ Kept wx w' gs) := (fun wx r => by
        have := r.kLocal HO2.out 0 4 (by omega)
        rw [i2, i1.loc 0 4 (by omega) (by omega)] at this
        exact this)
      have HL2 : Hid (∀ wx, RunG w.heap.size m w wx (calS 2048 zs1) gs → Calls Try.prog 30 #[.pointer (some ⟨m, 0, none⟩), .int .u32 4, .int .i64 2] wx fun e w' => e = .returned (.tuple #[.int .u32 0, .int .i64 0]) ∧ RunG w.heap.size m w w' (calS 2048 zs1) gs ∧ Kept wx w' gs) := (fun wx r => by
        have := r.kLocal HO2.out 4 2 (by omega)
        rw [i3, i1.loc 4 2 (by omega) (by omega)] at this
        exact this)
      obtain ⟨i4, i5⟩ := calI_args i1 xs
      have HI3 := hidden i4
      have HAR := hidden (fun wx (r : RunG w.heap.size m w wx (calS 2048 zs1) gs) (hv : WordsIn wx va vlen xs gs) => by
        have := r.kArgs HO2.out va vlen vcap xs hv hvc
        rw [i5] at this
        exact this)
      have HL3 : Hid (1 < xs.length → ∀ wx, RunG w.heap.size m w wx (argsS (calS 2048 zs1) xs) gs → Calls Try.prog 30 #[.pointer (some ⟨m, 0, none⟩), .int .u32 4, .int .i64 1] wx fun e w' => e = .returned (.tuple #[.int .u32 ((xs.getD 1 0 % 256 : Nat) : Int), .int .i64 0]) ∧ RunG w.heap.size m w w' (argsS (calS 2048 zs1) xs) gs ∧ Kept wx w' gs) := (fun h wx r => by
        have := r.kLocal HI3.out.ok 4 1 (by omega)
        rw [(calI_second HO2.out xs h).1, (calI_second HO2.out xs h).2] at this
        exact this)
      have HUX := hidden (HUO.out (by have := ok_leave i4.ok; rw [(calI_leave i4).2] at this; exact this))
      clear i1 i2 i3 i4 i5 HUO HI1 HO2 HO1
      generalize argsS (calS 2048 zs1) xs = t3 at *
      generalize calS 2048 zs1 = t2 at *
      refine HF0.out.mono ?_
      rintro e wf ⟨rfl, ef⟩
      rw [ef]
      clear ef HF0
      have hwz : IntKind.i64.wrap 0 = 0 := by rw [IntKind.wrap_i64]; rfl
      by_cases h1v : 1 < vlen
      · have g1 : (1 : Int) < (vlen : Int) := by omega
        have HL4 := hidden (HL3.out (by omega))
        have HY := hidden (fun wx hb => (HVR.out wx hb 1 h1v).1)
        have hx1 : xs.getD 1 0 < 4294967296 := (HVR.out wc RG2.out.base 1 h1v).2
        have ee := hva (by omega)
        subst ee
        generalize xs.getD 1 0 = x1 at *
        have hm1 : (x1 : Int).tmod 256 = ((x1 % 256 : Nat) : Int) := by rw [Int.tmod_eq_emod_of_nonneg (by omega)]; omega
        have hm2 : IntKind.u32.wrap ((x1 % 256 : Nat) : Int) = ((x1 % 256 : Nat) : Int) := by rw [IntKind.wrap_u32]; omega
        clear HL3
        generalize x1 % 256 = XM at *
        go_wp2_with (first | (go_at_call 27; refine HST.out.mono ?_; rintro e w1 ⟨rfl, r1, k1⟩; have R1 := hidden r1; have K1 := hidden k1; clear r1 k1) | (go_at_call 11; refine (num10 _ _).mono ?_; rintro e w9 ⟨rfl, e9⟩; rw [e9]; clear e9) | (go_at_call 29; refine (format_any _).mono ?_; rintro e wf2 ⟨rfl, ef⟩; rw [ef]; clear ef) | (go_at_call 28; refine (HEN.out _ R1.out).mono ?_; rintro e w3 ⟨rfl, R3, K3⟩) | (go_at_call 30; (with_reducible refine (HL1.out _ R3.out).mono ?_); rintro e wL ⟨rfl, ra, ka⟩; have Ra := hidden ra; have Ka := hidden ka; clear ra ka HL1) | (go_at_call 30; (with_reducible refine (HL2.out _ Ra.out).mono ?_); rintro e wM ⟨rfl, rb, kb⟩; have Rb := hidden rb; have Kb := hidden kb; clear rb kb HL2) | (go_at_call 30; (with_reducible refine (HL4.out _ R5.out).mono ?_); rintro e wO ⟨rfl, r6, k6⟩; have y1 := HY.out wO r6.base; have R6 := hidden r6; have HRW6 := hidden (HRW5.out.kept k6); clear r6 k6) | (go_at_call 31; refine (HAR.out _ Rb.out ((((HWI.out.kept K1.out).kept K3.out).kept Ka.out).kept Kb.out)).mono ?_; rintro e wN ⟨rfl, r5, k5⟩; have R5 := hidden r5; have HRW5 := hidden (((((HRW.out.kept K1.out).kept K3.out).kept Ka.out).kept Kb.out).kept k5); clear r5 k5))
        go_loopw [21] (fun i wr => ∃ (k : Nat) (t : Ks), k ≤ vlen ∧ i = .int .i64 k ∧ Hid (RunG w.heap.size m w wr t gs) ∧ Hid (CalI zs1 t) ∧ Hid (RowIn wr a' LZ c' zs gs)) (fun i _ => vlen - (intOf i).toNat)
        case atStart => exact ⟨0, t3, by omega, rfl, R6, HI3, HRW6⟩
        case round =>
          clear R6 HI3 HRW6 R5 HRW5
          obtain ⟨k, t, hk, rfl, RG, HI, HRW⟩ := hrel
          by_cases hlt : k < vlen
          · have q1 : (k : Int) < (vlen : Int) := by omega
            obtain ⟨v1, v2⟩ := HVR.out wr RG.out.base k hlt
            have ee := hva (by omega)
            first | subst ee | clear ee
            have w5 : IntKind.i64.wrap ((k : Int) + 1) = (k : Int) + 1 := by rw [IntKind.wrap_i64]; omega
            have HPU := hidden (RG.out.kPush HI.out.ok (xs.getD k 0) v2)
            have HI1 := hidden (calI_push HI.out (xs.getD k 0))
            have HSW := hidden (fun wx (r : RunG w.heap.size m w wx (pushS t (xs.getD k 0)) gs) => r.kSwap HI1.out.ok)
            have HI2 := hidden (calI_roll HI1.out 2 1)
            clear HI HI1
            generalize xs.getD k 0 = x1 at *
            generalize rollS (pushS t x1) 2 1 = t5 at *
            generalize rollE (pushS t x1) 2 = E5 at *
            generalize pushS t x1 = t4 at *
            generalize pushE t = E4 at *
            go_wp2_with (first | (go_at_call 23; refine HPU.out.mono ?_; rintro e w1 ⟨rfl, r1, k1⟩; have R1 := hidden r1; have K1 := hidden k1; clear r1 k1) | (go_at_call 32; refine (HSW.out _ R1.out).mono ?_; rintro e w2 ⟨rfl, r2, k2⟩; have R2 := hidden r2; have K2 := hidden k2; clear r2 k2))
            go_roundw
            case rel => exact ⟨k + 1, t5, by omega, int_eq (by omega), R2, HI2, (HRW.out.kept K1.out).kept K2.out⟩
            case measure => simp [intOf]; omega
          · have q1 : ¬ (k : Int) < (vlen : Int) := by omega
            have HLV2 := hidden (RG.out.kLeave HI.out.ok)
            rw [(calI_leave HI.out).1, (calI_leave HI.out).2] at HLV2
            go_wp2_with (first | (go_at_call 19; refine HLV2.out.mono ?_; rintro e w1 ⟨rfl, r1, k1⟩; have RU := hidden r1; have HRU := hidden (HRW.out.kept k1); clear r1 k1) | (go_at_call 11; refine (num10 _ _).mono ?_; rintro e w9 ⟨rfl, e9⟩; rw [e9]; clear e9) | (go_at_call 20; refine (HUX.out _ RU.out).mono ?_; rintro e w4 ⟨rfl, r4, k4⟩; have R4 := hidden r4; have K4 := hidden k4; clear r4 k4) | (go_at_call 24; refine (HFR.out _ R4.out).mono ?_; rintro e w5 ⟨rfl, e5⟩; rw [e5]; clear e5) | (go_at_call 18; refine (HBY.out _ R4.out).mono ?_; rintro e w6 ⟨a6, c6, gs6, rfl, hrow6, r6, _, k6⟩; have HS6 := hidden (HSA.out _ _ _ _ w6 hrow6.1 ((HRU.out.kept K4.out).kept k6).1); have HB6 := hidden r6.base; clear hrow6 r6 k6) | (go_at_call 17; refine HS6.out.mono ?_; rintro e w7 ⟨rfl, e7⟩; rw [e7]; clear e7) | (go_at_call 9; refine (HLV.out _ HB6.out).mono ?_; rintro e wl ⟨rfl, hbl⟩))
            go_ret
            exact ⟨rfl, hbl⟩
      · have g1 : ¬ (1 : Int) < (vlen : Int) := by omega
        clear HL3
        go_wp2_with (first | (go_at_call 27; refine HST.out.mono ?_; rintro e w1 ⟨rfl, r1, k1⟩; have R1 := hidden r1; have K1 := hidden k1; clear r1 k1) | (go_at_call 11; refine (num10 _ _).mono ?_; rintro e w9 ⟨rfl, e9⟩; rw [e9]; clear e9) | (go_at_call 29; refine (format_any _).mono ?_; rintro e wf2 ⟨rfl, ef⟩; rw [ef]; clear ef) | (go_at_call 28; refine (HEN.out _ R1.out).mono ?_; rintro e w3 ⟨rfl, R3, K3⟩) | (go_at_call 30; (with_reducible refine (HL1.out _ R3.out).mono ?_); rintro e wL ⟨rfl, ra, ka⟩; have Ra := hidden ra; have Ka := hidden ka; clear ra ka HL1) | (go_at_call 30; (with_reducible refine (HL2.out _ Ra.out).mono ?_); rintro e wM ⟨rfl, rb, kb⟩; have Rb := hidden rb; have Kb := hidden kb; clear rb kb HL2) | (go_at_call 31; refine (HAR.out _ Rb.out ((((HWI.out.kept K1.out).kept K3.out).kept Ka.out).kept Kb.out)).mono ?_; rintro e wN ⟨rfl, r5, k5⟩; have R5 := hidden r5; have HRW5 := hidden (((((HRW.out.kept K1.out).kept K3.out).kept Ka.out).kept Kb.out).kept k5); clear r5 k5))
        go_loopw [21] (fun i wr => ∃ (k : Nat) (t : Ks), k ≤ vlen ∧ i = .int .i64 k ∧ Hid (RunG w.heap.size m w wr t gs) ∧ Hid (CalI zs1 t) ∧ Hid (RowIn wr a' LZ c' zs gs)) (fun i _ => vlen - (intOf i).toNat)
        case atStart => exact ⟨0, t3, by omega, rfl, R5, HI3, HRW5⟩
        case round =>
          clear R5 HI3 HRW5
          obtain ⟨k, t, hk, rfl, RG, HI, HRW⟩ := hrel
          by_cases hlt : k < vlen
          · have q1 : (k : Int) < (vlen : Int) := by omega
            obtain ⟨v1, v2⟩ := HVR.out wr RG.out.base k hlt
            have ee := hva (by omega)
            first | subst ee | clear ee
            have w5 : IntKind.i64.wrap ((k : Int) + 1) = (k : Int) + 1 := by rw [IntKind.wrap_i64]; omega
            have HPU := hidden (RG.out.kPush HI.out.ok (xs.getD k 0) v2)
            have HI1 := hidden (calI_push HI.out (xs.getD k 0))
            have HSW := hidden (fun wx (r : RunG w.heap.size m w wx (pushS t (xs.getD k 0)) gs) => r.kSwap HI1.out.ok)
            have HI2 := hidden (calI_roll HI1.out 2 1)
            clear HI HI1
            generalize xs.getD k 0 = x1 at *
            generalize rollS (pushS t x1) 2 1 = t5 at *
            generalize rollE (pushS t x1) 2 = E5 at *
            generalize pushS t x1 = t4 at *
            generalize pushE t = E4 at *
            go_wp2_with (first | (go_at_call 23; refine HPU.out.mono ?_; rintro e w1 ⟨rfl, r1, k1⟩; have R1 := hidden r1; have K1 := hidden k1; clear r1 k1) | (go_at_call 32; refine (HSW.out _ R1.out).mono ?_; rintro e w2 ⟨rfl, r2, k2⟩; have R2 := hidden r2; have K2 := hidden k2; clear r2 k2))
            go_roundw
            case rel => exact ⟨k + 1, t5, by omega, int_eq (by omega), R2, HI2, (HRW.out.kept K1.out).kept K2.out⟩
            case measure => simp [intOf]; omega
          · have q1 : ¬ (k : Int) < (vlen : Int) := by omega
            have HLV2 := hidden (RG.out.kLeave HI.out.ok)
            rw [(calI_leave HI.out).1, (calI_leave HI.out).2] at HLV2
            go_wp2_with (first | (go_at_call 19; refine HLV2.out.mono ?_; rintro e w1 ⟨rfl, r1, k1⟩; have RU := hidden r1; have HRU := hidden (HRW.out.kept k1); clear r1 k1) | (go_at_call 11; refine (num10 _ _).mono ?_; rintro e w9 ⟨rfl, e9⟩; rw [e9]; clear e9) | (go_at_call 20; refine (HUX.out _ RU.out).mono ?_; rintro e w4 ⟨rfl, r4, k4⟩; have R4 := hidden r4; have K4 := hidden k4; clear r4 k4) | (go_at_call 24; refine (HFR.out _ R4.out).mono ?_; rintro e w5 ⟨rfl, e5⟩; rw [e5]; clear e5) | (go_at_call 18; refine (HBY.out _ R4.out).mono ?_; rintro e w6 ⟨a6, c6, gs6, rfl, hrow6, r6, _, k6⟩; have HS6 := hidden (HSA.out _ _ _ _ w6 hrow6.1 ((HRU.out.kept K4.out).kept k6).1); have HB6 := hidden r6.base; clear hrow6 r6 k6) | (go_at_call 17; refine HS6.out.mono ?_; rintro e w7 ⟨rfl, e7⟩; rw [e7]; clear e7) | (go_at_call 9; refine (HLV.out _ HB6.out).mono ?_; rintro e wl ⟨rfl, hbl⟩))
            go_ret
            exact ⟨rfl, hbl⟩
    · have es := HNS.out hen
      rw [es] at HEN
      have q2 : ¬ ((enterE s1 fmt0 : Nat) : Int) = 0 := by omega
      have HUX := HUN
      clear HES HNS es hen HO2 HO1 HUO HUN
      generalize enterE s1 fmt0 = E2 at *
      refine HF0.out.mono ?_
      rintro e wf ⟨rfl, ef⟩
      rw [ef]
      clear ef HF0
      go_wp2_with (first | (go_at_call 27; refine HST.out.mono ?_; rintro e w1 ⟨rfl, r1, k1⟩; have R1 := hidden r1; have K1 := hidden k1; clear r1 k1) | (go_at_call 11; refine (num10 _ _).mono ?_; rintro e w9 ⟨rfl, e9⟩; rw [e9]; clear e9) | (go_at_call 29; refine (format_any _).mono ?_; rintro e wf2 ⟨rfl, ef⟩; rw [ef]; clear ef) | (go_at_call 28; refine (HEN.out _ R1.out).mono ?_; rintro e w3 ⟨rfl, RU, K3⟩; have HRU := hidden ((HRW.out.kept K1.out).kept K3.out)) | (go_at_call 20; refine (HUX.out _ RU.out).mono ?_; rintro e w4 ⟨rfl, r4, k4⟩; have R4 := hidden r4; have K4 := hidden k4; clear r4 k4) | (go_at_call 24; refine (HFR.out _ R4.out).mono ?_; rintro e w5 ⟨rfl, e5⟩; rw [e5]; clear e5) | (go_at_call 18; refine (HBY.out _ R4.out).mono ?_; rintro e w6 ⟨a6, c6, gs6, rfl, hrow6, r6, _, k6⟩; have HS6 := hidden (HSA.out _ _ _ _ w6 hrow6.1 ((HRU.out.kept K4.out).kept k6).1); have HB6 := hidden r6.base; clear hrow6 r6 k6) | (go_at_call 17; refine HS6.out.mono ?_; rintro e w7 ⟨rfl, e7⟩; rw [e7]; clear e7) | (go_at_call 9; refine (HLV.out _ HB6.out).mono ?_; rintro e wl ⟨rfl, hbl⟩))
      go_ret
      exact ⟨rfl, hbl⟩
  · have q2 : ¬ ((stubUE s : Nat) : Int) = 0 := by omega
    have es : stubS s x y z = s := by unfold stubS; rw [if_neg he]
    rw [es] at HST
    have hro : s.on = true → 2048 < s.bs.length + 16 := fun hon => by
      have hsz := HO.out.2
      exact Classical.byContradiction fun h => he (stub_ok hon (by omega))
    have u1 : IntKind.i64.wrap ((s.bs.length : Int) + 16) = (s.bs.length : Int) + 16 := by rw [IntKind.wrap_i64]; omega
    clear he es HO
    generalize stubUE s = E at *
    cases hon : s.on with
    | true =>
      rw [hon] at HF0
      have u2 : (2048 : Int) < (s.bs.length : Int) + 16 := by have := hro hon; omega
      clear hro
      refine HF0.out.mono ?_
      rintro e wf ⟨rfl, ef⟩
      rw [ef]
      clear ef HF0
      go_wp2_with (first | (go_at_call 27; refine HST.out.mono ?_; rintro e w1 ⟨rfl, r1, k1⟩; have R1 := hidden r1; have K1 := hidden k1; clear r1 k1) | (go_at_call 11; refine (num10 _ _).mono ?_; rintro e w9 ⟨rfl, e9⟩; rw [e9]; clear e9) | (go_at_call 18; refine (HBY.out _ R1.out).mono ?_; rintro e w6 ⟨a6, c6, gs6, rfl, hrow6, r6, _, k6⟩; have HS6 := hidden (HSA.out _ _ _ _ w6 hrow6.1 ((HRW.out.kept K1.out).kept k6).1); have HB6 := hidden r6.base; clear hrow6 r6 k6) | (go_at_call 17; refine HS6.out.mono ?_; rintro e w7 ⟨rfl, e7⟩; rw [e7]; clear e7) | (go_at_call 9; refine (HLV.out _ HB6.out).mono ?_; rintro e wl ⟨rfl, hbl⟩))
      go_ret
      exact ⟨rfl, hbl⟩
    | false =>
      rw [hon] at HF0
      clear hro
      refine HF0.out.mono ?_
      rintro e wf ⟨rfl, ef⟩
      rw [ef]
      clear ef HF0
      go_wp2_with (first | (go_at_call 27; refine HST.out.mono ?_; rintro e w1 ⟨rfl, r1, k1⟩; have R1 := hidden r1; have K1 := hidden k1; clear r1 k1) | (go_at_call 11; refine (num10 _ _).mono ?_; rintro e w9 ⟨rfl, e9⟩; rw [e9]; clear e9) | (go_at_call 18; refine (HBY.out _ R1.out).mono ?_; rintro e w6 ⟨a6, c6, gs6, rfl, hrow6, r6, _, k6⟩; have HS6 := hidden (HSA.out _ _ _ _ w6 hrow6.1 ((HRW.out.kept K1.out).kept k6).1); have HB6 := hidden r6.base; clear hrow6 r6 k6) | (go_at_call 17; refine HS6.out.mono ?_; rintro e w7 ⟨rfl, e7⟩; rw [e7]; clear e7) | (go_at_call 9; refine (HLV.out _ HB6.out).mono ?_; rintro e wl ⟨rfl, hbl⟩))
      go_ret
      exact ⟨rfl, hbl⟩
end Go.Proofs.Ytgmiemekcloknaa
