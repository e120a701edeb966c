/- The walk of StackThrows: from within any calls, Throw leads back to the stub whose top is the token. -/
import Derived.Test.YtgmiemekcloknaaX10d
namespace Go.Proofs.Ytgmiemekcloknaa
open Go.RowKit
set_option maxHeartbeats 1000000
set_option maxRecDepth 100000
set_option linter.unusedVariables false

theorem thr_odd {t : Ks} {T : Nat} (h : T % 4 = 0) : thrE t (T + 2) = 104 ∧ thrS t (T + 2) = t := by
  have e : thrE t (T + 2) = 104 := by
    unfold thrE
    rw [if_neg (fun h2 => by have := h2.2.1; omega)]
  exact ⟨e, by unfold thrS; rw [e]; rfl⟩
theorem stackThrows_walk (ao : Option Addr) (len cap : Nat) (rs : List Ac) (a b c : Int) (va : Option Addr) (vlen vcap : Nat) (vzs : List Int) (w : World) (hA : IsActs w ao len cap rs) (ha : (Lit.int .u32 a).wf = true) (hb : (Lit.int .u32 b).wf = true) (hc : (Lit.int .u32 c).wf = true) (hV : IsRow .u32 w va vlen vcap vzs) :
    Calls Try.prog 6 #[.slice ao len cap, .int .u32 a, .int .u32 b, .int .u32 c, .slice va vlen vcap] w fun e w' => e = .returned (.bool true) ∧ Below w.heap.size w w' := by
  have HLV : Hid (∀ w1, Below w.heap.size w w1 → Calls Try.prog 9 #[] w1 fun e w' => e = .returned (.bool true) ∧ Below w.heap.size w w') := fun w1 hb => (live_any w1).mono (fun e w' hh => ⟨hh.1, hb.trans (hh.2.mono hb.size)⟩)
  have HH := hidden (huge_any ao len cap rs w hA)
  have ha2 := bounds_u32 ha
  have hb2 := bounds_u32 hb
  have hc2 := bounds_u32 hc
  obtain ⟨x, rfl⟩ := Int.eq_ofNat_of_zero_le ha2.1
  obtain ⟨y, rfl⟩ := Int.eq_ofNat_of_zero_le hb2.1
  obtain ⟨z, rfl⟩ := Int.eq_ofNat_of_zero_le hc2.1
  have hx : x < 4294967296 := by omega
  have hy : y < 4294967296 := by omega
  have hz : z < 4294967296 := by omega
  clear ha hb hc ha2 hb2 hc2
  obtain ⟨xs, hv, hvc, hvl⟩ := vrow_of hV
  cases hu : hugeB rs with
  | true =>
    rw [hu] at HH
    clear hA hu hV hv
    go_enter Try.func6, Try.ntmps6
    go_wp2_with (first | (go_at_call 21; refine HH.out.mono ?_; rintro e wh ⟨rfl, hbh⟩) | (go_at_call 9; refine (HLV.out _ hbh).mono ?_; rintro e wl ⟨rfl, hbl⟩))
    go_ret
    exact ⟨rfl, hbl⟩
  | false =>
  rw [hu] at HH
  by_cases hbig : 100 < vlen
  · have d1 : (100 : Int) < (vlen : Int) := by omega
    clear hA hV hv hu
    go_enter Try.func6, Try.ntmps6
    go_wp2_with (first | (go_at_call 21; refine HH.out.mono ?_; rintro e wh ⟨rfl, hbh⟩) | (go_at_call 9; refine (HLV.out _ hbh).mono ?_; rintro e wl ⟨rfl, hbl⟩))
    go_ret
    exact ⟨rfl, hbl⟩
  have d1 : ¬ (100 : Int) < (vlen : Int) := by omega
  have hvl2 : vlen ≤ 100 := by omega
  have hln := hv.ln
  have HBG := hidden (fun wh (hb : Below w.heap.size w wh) => begin_at ao len cap rs w wh hA hu hb)
  obtain ⟨bq, oq, hva⟩ : ∃ b o, 0 < vlen → va = some ⟨b, o, none⟩ := by
    by_cases h0 : 0 < vlen
    · obtain ⟨b, o, e, _⟩ := hv.cells 0 h0
      exact ⟨b, o, fun _ => e⟩
    · exact ⟨0, 0, fun h => absurd h h0⟩
  have HVR : Hid (∀ wx, Below w.heap.size w wx → ∀ i, i < vlen → wx.cell? ⟨bq, oq + i, none⟩ = some (.int .u32 (xs.getD i 0 : Nat)) ∧ xs.getD i 0 < 4294967296) := fun wx hb i hi => by
    obtain ⟨b', o', e, hc⟩ := hv.cells i hi
    have e2 := hva (by omega)
    rw [e] at e2
    cases e2
    refine ⟨cellLater hb hc, hv.bd _ ?_⟩
    rw [List.getD_eq_getElem?_getD, List.getElem?_eq_getElem (by rw [hln]; exact hi)]
    simp
  clear hA hV hv hu hbig
  go_enter Try.func6, Try.ntmps6
  go_wp2_with (first | (go_at_call 21; refine HH.out.mono ?_; rintro e wh ⟨rfl, hbh⟩) | (go_at_call 22; refine (HBG.out _ hbh).mono ?_; rintro e wb ⟨m, rfl, s, RG, HO⟩))
  have HF0 := hidden (RG.out.kFrame HO.out.1)
  cases hon : s.on with
  | false =>
    rw [hon] at HF0
    refine HF0.out.mono ?_
    rintro e wf ⟨rfl, ef⟩
    rw [ef]
    clear ef HF0
    go_wp2_with (first | (go_at_call 18; refine (RG.out.bytes HO.out.1).mono ?_; rintro e wc ⟨a', c', gs, rfl, hrow, rg2, _, _⟩; have HRW := hidden hrow; have RG2 := hidden rg2; have HB2 := hidden rg2.base; clear hrow rg2) | (go_at_call 9; refine (HLV.out _ HB2.out).mono ?_; rintro e wl ⟨rfl, hbl⟩))
    go_ret
    exact ⟨rfl, hbl⟩
  | true =>
  rw [hon] at HF0
  refine HF0.out.mono ?_
  rintro e wf ⟨rfl, ef⟩
  rw [ef]
  clear ef HF0
  go_wp2_with (first | (go_at_call 18; refine (RG.out.bytes HO.out.1).mono ?_; rintro e wc ⟨a', c', gs, rfl, hrow, rg2, _, _⟩; have HRW := hidden hrow; have RG2 := hidden rg2; have HB2 := hidden rg2.base; clear hrow rg2))
  have HST := hidden (RG2.out.kStub HO.out.1 x y z hx hy hz)
  by_cases he : stubUE s = 0
  · have HI0 := hidden (thrI_first HO.out.1 HO.out.2 x y z he)
    have HEND := hidden (fun t (h : ThrI (stubS s x y z) (s.bs.length + 16) s.fr t) => thrI_end HO.out.1 HO.out.2 x y z hx hy hz he h)
    have HBK := hidden (stub_back HO.out.1 x y z hx hy hz he)
    have HOB := hidden HO.out.1.okb
    have hmod := HO.out.1.mod
    have hfr := (HO.out.1.bd hon).1
    have hL : s.bs.length ≤ 2048 := by have := HO.out.1.sz; have := HO.out.2; omega
    have HLE : Hid ((stubS s x y z).bs.length = s.bs.length + 16) := by rw [stub_bs x y z he]; show (s.bs ++ putStub x y z s.fr).length = _; rw [List.length_append, putStub_len]
    rw [he] at HST
    obtain ⟨T, hT⟩ : ∃ T, T = s.bs.length + 16 := ⟨_, rfl⟩
    rw [← hT] at HI0 HEND HLE
    have HTO := hidden (fun wx (r : RunG w.heap.size m w wx (stubS s x y z) gs) => by
      have := r.kTop HI0.out.ok
      rw [HLE.out] at this
      exact this)
    have HUN := hidden (fun wx (r : RunG w.heap.size m w wx (stubS s x y z) gs) => by
      have := r.kUnstub HI0.out.ok
      rw [HBK.out.1, HBK.out.2.1, HBK.out.2.2.1, HBK.out.2.2.2.1, HBK.out.2.2.2.2.1] at this
      exact this)
    have HFR := hidden (fun wx (r : RunG w.heap.size m w wx s gs) => by
      have := r.kFrame HO.out.1
      rw [hon] at this
      exact this)
    have HBY := hidden (fun wx (r : RunG w.heap.size m w wx s gs) => r.bytes HO.out.1)
    have hle1 := HLE.out
    clear HBK HLE HO he RG HBG HH
    generalize stubS s x y z = s1 at *
    generalize s.bs = zs at *
    generalize s.fr = g at *
    generalize zs.length = LZ at *
    have hg0 : g < T := by omega
    have hT4 : T % 4 = 0 := by omega
    have hTb : T ≤ 3000 := by omega
    have hle2 : s1.bs.length ≤ LZ + 16 := by omega
    clear hT hle1
    go_wp2_with (first | (go_at_call 27; refine HST.out.mono ?_; rintro e w1 ⟨rfl, r1, k1⟩; have R1 := hidden r1; have K1 := hidden k1; clear r1 k1) | (go_at_call 11; refine (num10 _ _).mono ?_; rintro e w9 ⟨rfl, e9⟩; rw [e9]; clear e9) | (go_at_call 16; refine (HTO.out _ R1.out).mono ?_; rintro e w2 ⟨rfl, e2⟩; rw [e2]; clear e2))
    have HRW1 := hidden (HRW.out.kept K1.out)
    clear HST RG2 HRW K1 HB2
    go_loopw [16] (fun i wr => ∃ (k : Nat) (t : Ks), k ≤ vlen ∧ i = .int .i64 k ∧ t.bs.length ≤ LZ + 16 + 40 * k ∧ Hid (RunG w.heap.size m w wr t gs) ∧ Hid (ThrI s1 T g t) ∧ Hid (RowIn wr a' LZ c' zs gs)) (fun i _ => vlen - (intOf i).toNat)
    case atStart => exact ⟨0, s1, by omega, rfl, by omega, R1, HI0, HRW1⟩
    case round =>
      clear R1 HI0 HRW1 hle2
      obtain ⟨k, t, hk, rfl, htl, RG, HI, HRW⟩ := hrel
      by_cases hlt : k < vlen
      · have q1 : (k : Int) < (vlen : Int) := by omega
        obtain ⟨v1, v2⟩ := HVR.out wr RG.out.base k hlt
        have ee := hva (by omega)
        subst ee
        have w5 : IntKind.i64.wrap ((k : Int) + 1) = (k : Int) + 1 := by rw [IntKind.wrap_i64]; omega
        have HPU := hidden (RG.out.kPush HI.out.ok (xs.getD k 0) v2)
        have HI1 := hidden (thrI_push HI.out (xs.getD k 0))
        have HSU := hidden (RG.out.kStub HI.out.ok (xs.getD k 0) 0 0 v2 (by omega) (by omega))
        have HCA := hidden (fun h => thrI_call HI.out (show g < T by omega) (xs.getD k 0) v2 h)
        have HEN : Hid (∀ w1, t.bs.length + 40 ≤ 2048 → RunG w.heap.size m w w1 (stubS t (xs.getD k 0) 0 0) gs → Calls Try.prog 28 #[.pointer (some ⟨m, 0, none⟩), .slice (some ⟨w1.heap.size, 0, none⟩) 6 6] (w1.alloc (.cells #[.int .u8 4, .int .u8 1, .int .u8 1, .int .u8 2, .int .u8 0, .int .u8 0] 5)) fun e w' => e = .returned (.int .i64 0) ∧ Hid (RunG w.heap.size m w w' (enterS (stubS t (xs.getD k 0) 0 0) fmt0) gs) ∧ Hid (Kept w1 w' gs)) := fun w1 h r => by
          have hbf : Below w1.heap.size w1 (w1.alloc (.cells (bytesV fmt0).toArray 5)) := (Below.refl _ _).alloc (Nat.le_refl _) _
          have ho := owns_new w1 0 fmt0 (Nat.zero_le _) (by unfold maxLen; decide)
          have r2 := r.fresh hbf w1.heap.size (Nat.le_refl _) (by simp)
          have := r2.kEnter (ok_stub HI.out.ok (xs.getD k 0) 0 0) (some ⟨w1.heap.size, 0, none⟩) 6 6 fmt0 ⟨own_reads ho, fun _ x e => by cases e; exact List.mem_cons_self⟩ okb_0 (by omega)
          rw [(HCA.out h).2.1] at this
          refine this.mono ?_
          rintro e w' ⟨rfl, r3, k3⟩
          exact ⟨rfl, r3.less (fun g hg => List.mem_cons_of_mem _ hg), (r.later hbf).2.trans (fun g hg => k3 g (List.mem_cons_of_mem _ hg))⟩
        generalize xs.getD k 0 = x1 at *
        by_cases hev : x1 % 2 = 0
        · have q2 : (x1 : Int).tmod 2 = 0 := by rw [Int.tmod_eq_emod_of_nonneg (by omega)]; omega
          have hwm : IntKind.u32.wrap 0 = 0 := by rw [IntKind.wrap_u32]; omega
          obtain ⟨i1, i2⟩ := HI1.out
          have I1 := hidden i1
          clear HSU HCA HEN HI1 i1 HI
          generalize pushS t x1 = t2 at *
          generalize pushE t = E at *
          go_wp2_with (first | (go_at_call 23; refine HPU.out.mono ?_; rintro e w1 ⟨rfl, r1, k1⟩; have R1 := hidden r1; have K1 := hidden k1; clear r1 k1))
          go_roundw
          case rel => exact ⟨k + 1, t2, by omega, int_eq (by omega), by omega, R1, I1, HRW.out.kept K1.out⟩
          case measure => simp [intOf]; omega
        · have q2 : (x1 : Int).tmod 2 = 1 := by rw [Int.tmod_eq_emod_of_nonneg (by omega)]; omega
          have hwm : IntKind.u32.wrap 1 = 1 := by rw [IntKind.wrap_u32]; omega
          have u1 : IntKind.i64.wrap ((k : Int) + 2) = (k : Int) + 2 := by rw [IntKind.wrap_i64]; omega
          have u2 : IntKind.i64.wrap (40 * ((k : Int) + 2)) = 40 * ((k : Int) + 2) := by rw [IntKind.wrap_i64]; omega
          have u3 : IntKind.i64.wrap ((LZ : Int) + 40 * ((k : Int) + 2)) = (LZ : Int) + 40 * ((k : Int) + 2) := by rw [IntKind.wrap_i64]; omega
          clear HPU HI1
          by_cases hro : LZ + 40 * (k + 2) < 2048
          · have u4 : (LZ : Int) + 40 * ((k : Int) + 2) < 2048 := by omega
            have hl40 : t.bs.length + 40 ≤ 2048 := by omega
            obtain ⟨i1, i2, i3, i4⟩ := HCA.out hl40
            have I1 := hidden i3
            have HE2 := hidden (fun w1 r => HEN.out w1 hl40 r)
            rw [i1] at HSU
            clear HEN HCA HI i1 i2 i3
            generalize enterS (stubS t x1 0 0) fmt0 = t2 at *
            generalize stubS t x1 0 0 = t1 at *
            go_wp2_with (first | (go_at_call 27; refine HSU.out.mono ?_; rintro e w1 ⟨rfl, r1, k1⟩; have R1 := hidden r1; have K1 := hidden k1; clear r1 k1) | (go_at_call 11; refine (num10 _ _).mono ?_; rintro e w9 ⟨rfl, e9⟩; rw [e9]; clear e9) | (go_at_call 29; refine (format_any _).mono ?_; rintro e wf2 ⟨rfl, ef⟩; rw [ef]; clear ef) | (go_at_call 28; refine (HE2.out _ R1.out).mono ?_; rintro e w3 ⟨rfl, R3, K3⟩))
            go_roundw
            case rel => exact ⟨k + 1, t2, by omega, int_eq (by omega), by omega, R3, I1, (HRW.out.kept K1.out).kept K3.out⟩
            case measure => simp [intOf]; omega
          · have u4 : ¬ (LZ : Int) + 40 * ((k : Int) + 2) < 2048 := by omega
            clear HEN HCA HSU
            go_wp2
            go_roundw
            case rel => exact ⟨k + 1, t, by omega, int_eq (by omega), by omega, RG, HI, HRW⟩
            case measure => simp [intOf]; omega
      · have q1 : ¬ (k : Int) < (vlen : Int) := by omega
        have w6 : IntKind.u32.wrap ((T : Int) + 2) = ((T + 2 : Nat) : Int) := by rw [IntKind.wrap_u32]; omega
        have HT1 := hidden (RG.out.kThrow HI.out.ok (T + 2) (by omega))
        rw [(thr_odd (t := t) hT4).1, (thr_odd (t := t) hT4).2] at HT1
        have HT2 := hidden (fun wx (r : RunG w.heap.size m w wx t gs) => by
          have := r.kThrow HI.out.ok T (by omega)
          rw [(HEND.out t HI.out).1, (HEND.out t HI.out).2] at this
          exact this)
        have HSA := hidden (fun a1 c1 a2 c2 wx (r1 : Reads wx a1 LZ c1 zs) (r2 : Reads wx a2 LZ c2 zs) => same_eq a1 a2 _ c1 _ c2 _ wx HOB.out r1 r2)
        generalize hT2 : T + 2 = TT at *
        clear hT2 HEND HI HVR
        go_wp2_with (first | (go_at_call 33; refine HT1.out.mono ?_; rintro e w1 ⟨rfl, r1, k1⟩; have R1 := hidden r1; have K1 := hidden k1; clear r1 k1 HT1) | (go_at_call 11; refine (num10 _ _).mono ?_; rintro e w9 ⟨rfl, e9⟩; rw [e9]; clear e9) | (go_at_call 33; refine (HT2.out _ R1.out).mono ?_; rintro e w2 ⟨rfl, r2, k2⟩; have R2 := hidden r2; have K2 := hidden k2; clear r2 k2) | (go_at_call 16; refine (HTO.out _ R2.out).mono ?_; rintro e w3 ⟨rfl, e3⟩; rw [e3]; clear e3) | (go_at_call 20; refine (HUN.out _ R2.out).mono ?_; rintro e w4 ⟨rfl, r4, k4⟩; have R4 := hidden r4; have K4 := hidden k4; clear r4 k4) | (go_at_call 24; refine (HFR.out _ R4.out).mono ?_; rintro e w5 ⟨rfl, e5⟩; rw [e5]; clear e5) | (go_at_call 18; refine (HBY.out _ R4.out).mono ?_; rintro e w6 ⟨a6, c6, gs6, rfl, hrow6, r6, _, k6⟩; have HS6 := hidden (HSA.out _ _ _ _ w6 hrow6.1 ((((HRW.out.kept K1.out).kept K2.out).kept K4.out).kept k6).1); have HB6 := hidden r6.base; clear hrow6 r6 k6) | (go_at_call 17; refine HS6.out.mono ?_; rintro e w7 ⟨rfl, e7⟩; rw [e7]; clear e7) | (go_at_call 9; refine (HLV.out _ HB6.out).mono ?_; rintro e wl ⟨rfl, hbl⟩))
        go_ret
        exact ⟨rfl, hbl⟩
  · have q1 : ¬ ((stubUE s : Nat) : Int) = 0 := by omega
    clear he
    generalize stubUE s = E at *
    go_wp2_with (first | (go_at_call 27; refine HST.out.mono ?_; rintro e w1 ⟨rfl, r1, k1⟩; have HB3 := hidden r1.base; clear r1 k1) | (go_at_call 11; refine (num10 _ _).mono ?_; rintro e w9 ⟨rfl, e9⟩; rw [e9]; clear e9) | (go_at_call 9; refine (HLV.out _ HB3.out).mono ?_; rintro e wl ⟨rfl, hbl⟩))
    go_ret
    exact ⟨rfl, hbl⟩
end Go.Proofs.Ytgmiemekcloknaa
