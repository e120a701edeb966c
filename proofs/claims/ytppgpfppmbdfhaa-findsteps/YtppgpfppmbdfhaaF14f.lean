/- Layer 13: the walk of FindSteps. -/
import Derived.Test.YtppgpfppmbdfhaaF14e
namespace Go.Proofs.Ytppgpfppmbdfhaa
open Go.RowKit
set_option maxHeartbeats 1000000
set_option maxRecDepth 100000
set_option linter.unusedVariables false

theorem row_any (w : World) : Calls Try.prog 19 #[.int .i64 1, .int .i64 1] w fun e w' => ∃ a c, e = .returned (.slice a 1 c) ∧ Below w.heap.size w w' := by
  have HO : Hid (w.ownsRow w.heap.size 23 1 (.slice none 0 0) 0 (u32V [])) := hidden (World.ownsRow_nil _ _ _ _)
  go_enter Try.func19, Try.ntmps19
  go_upto_region 3 with fail
  go_loopw [5, 6] (fun v i w' => (v = .slice none 0 0 ∧ i = .int .i64 0 ∧ w' = w) ∨ (∃ a c, v = .slice a 1 c ∧ i = .int .i64 1 ∧ Hid (Below w.heap.size w w'))) (fun _ i _ => 1 - (intOf i).toNat)
  case atStart => exact .inl ⟨rfl, rfl, rfl⟩
  case round =>
    rcases hrel with ⟨rfl, rfl, rfl⟩ | ⟨a, c, rfl, rfl, hB⟩
    · go_wp2_with (at_builtin; refine wpList_snoc32 (by rfl) (.tmp 12) (.tmp 18) (by rfl) wr.heap.size 0 0 256 none [] (by rfl) (by rfl) HO.out (by omega) (Nat.le_refl _) (by omega) ?_; intro a6 c6 w6 ho6 hb6; refine Hid.out ?_)
      have HB6 := hidden hb6
      clear ho6 hb6
      refine hidden ?_
      go_wp2
      go_roundw
      case rel => exact .inr ⟨a6, c6, rfl, rfl, HB6⟩
      case measure => simp [intOf]
    · go_wp2
      go_ret
      exact ⟨a, c, rfl, hB.out⟩
theorem Lay.write1 {B : Nat} {w : World} {m d g : Nat} {bs : List Int} (h : Lay B w m d g bs) (a : Nat) (x : Int) (ha : 256 ≤ a) (hl : a < bs.length) (hb : bs.length ≤ 1048576) (ho : OkB bs) (x0 : 0 ≤ x) (x1 : x ≤ 255) :
    Calls Try.prog 18 #[.pointer (some ⟨m, 0, none⟩), .int .u32 a, .int .i64 1, .int .u32 x] w fun e w' => e = .returned (.int .i64 0) ∧ Below B w w' ∧ MRd w' m (splice bs a [x]) := by
  obtain ⟨h0, gb, gc, bb, bc, hh, hv, c, h1, h2, h3, h4, h5, h6⟩ := h
  have hc : chgR (msF bs).ram (msF bs).bytes.length a 1 = true := by
    show chgR 256 bs.length a 1 = true
    simp [chgR, hasR]; omega
  refine (write_ok B m gb gc bb bc hh hv (msF bs) a 1 x w h1 (.inl rfl) (by omega) hb hc).mono ?_
  rintro e w' ⟨rfl, bb', bc', h', hv', H', f⟩
  have hp : putL x (1 : Nat) = [x] := by simp [putL]; omega
  have hsl : (splice bs a [x]).length = bs.length := splice_len _ _ _ (by simp; omega)
  refine ⟨rfl, f.below h0 (fun k e => (h1.low k e).1), B, gb, gc, bb', bc', h', hv', _, H', by rw [hp]; rfl, by rw [hsl]; exact hb, fun c hc => ?_⟩
  simp only [splice, List.mem_append] at hc
  rcases hc with hc | hc | hc
  · exact ho c (List.mem_of_mem_take hc)
  · simp at hc; omega
  · exact ho c (List.mem_of_mem_drop hc)
theorem layB_nil : layB [] = baseF := by
  unfold layB
  simp [splice]
theorem lin_t (m : Nat) (bs : List Int) (key start sz cnt o : Nat) (hk : key < 4294967296) (hs : start < 4294967296) (hz : sz < 4294967296) (hc : cnt < 4294967296) (ho : o < 4294967296) (V : Nat × Int) (hV : linV bs (tSr key start sz cnt o) = V) (w : World) (M : MRd w m bs) (k1 k0 oo cc : Int) (e1 : k1 = 1) (e0 : k0 = 0) (eo : oo = o) (ec : cc = cnt) :
    Calls Try.prog 12 #[.pointer (some ⟨m, 0, none⟩), .agg #[.int .u32 (key : Int), .int .u32 k1, .int .u32 (start : Int), .int .u32 (sz : Int), .int .u32 cc, .int .u32 k0, .int .u32 k0, .int .u32 oo]] w fun e w' => e = .returned (.tuple #[.int .u32 (V.1 : Nat), .int .i64 V.2]) ∧ Below w.heap.size w w' := by
  subst e1 e0 eo ec hV
  exact lin_any m bs (tSr key start sz cnt o) ⟨hk, by show 1 < _; omega, hs, hz, hc, by show 0 < _; omega, by show 0 < _; omega, ho⟩ w M
set_option maxHeartbeats 4000000 in
theorem LRet_nil : LRet [] = LRet [] := rfl
theorem steps_main (start key i : Nat) (d : Int) (w : World) (hst : start < 65536) (hk : key < 256) (hi : i < 256) (hd : -128 ≤ d ∧ d ≤ 127) :
    Calls Try.prog 8 #[.int .u16 start, .int .i8 d, .int .u8 i, .int .u8 key] w fun e w' => e = .returned (.bool true) ∧ Below w.heap.size w w' := by
  have HLD := hidden (laid_any none 0 0 [] w ⟨rfl, Nat.le_refl _, .inl ⟨rfl, rfl, rfl⟩⟩ (fun c hc => by cases hc))
  have f1 : IntKind.i64.wrap (start : Int) = start := by rw [IntKind.wrap_i64]; omega
  have f2 : IntKind.i64.wrap (i : Int) = i := by rw [IntKind.wrap_i64]; omega
  have f3 : IntKind.i64.wrap d = d := by rw [IntKind.wrap_i64]; omega
  have p1 : (i : Int) * d ≤ i * 127 := Int.mul_le_mul_of_nonneg_left hd.2 (by omega)
  have p2 : (i : Int) * (-128) ≤ i * d := Int.mul_le_mul_of_nonneg_left hd.1 (by omega)
  obtain ⟨P, hP⟩ : ∃ P : Int, P = i * d := ⟨_, rfl⟩
  rw [← hP] at p1 p2
  have f4 : IntKind.i64.wrap ((i : Int) * d) = P := by rw [← hP, IntKind.wrap_i64]; omega
  obtain ⟨AD, hAD⟩ : ∃ AD : Int, AD = start + P := ⟨_, rfl⟩
  have f5 : IntKind.i64.wrap ((start : Int) + P) = AD := by rw [IntKind.wrap_i64]; omega
  obtain ⟨LO, hLO⟩ : ∃ LO : Int, min (start : Int) AD = LO := ⟨_, rfl⟩
  obtain ⟨HI, hHI⟩ : ∃ HI : Int, max (start : Int) AD = HI := ⟨_, rfl⟩
  have hLO2 : LO ≤ start ∧ LO ≤ AD ∧ (LO = start ∨ LO = AD) := by omega
  have hHI2 : start ≤ HI ∧ AD ≤ HI := by omega
  have HP := hidden hP
  have HAD := hidden hAD
  have HL2 := hidden hLO2
  have HH2 := hidden hHI2
  clear hP hAD hLO2 hHI2 p1 p2
  have g0 : Hid (∀ w1, Below w.heap.size w w1 → Calls Try.prog 9 #[] w1 fun e w' => e = .returned (.bool true) ∧ Below w.heap.size w w') := hidden (fun w1 h => (live_any w1).mono (fun e w' q => ⟨q.1, h.trans (q.2.mono h.size)⟩))
  by_cases c1 : LO < 256
  · skip
    go_enter Try.func8, Try.ntmps8
    go_upto_region 4 with (go_at_call 10; refine HLD.out.mono ?_; rintro e w2 ⟨m, dd, g, rfl, hL2, hb2⟩)
    have HB2 := hidden hb2
    clear hL2 hb2 HLD
    go_wp2_with (go_at_call 9; refine (g0.out _ HB2.out).mono ?_; rintro e w13 ⟨rfl, hb13⟩)
    go_ret
    exact ⟨rfl, hb13⟩
  · by_cases c2 : HI ≥ 4096
    · skip
      go_enter Try.func8, Try.ntmps8
      go_upto_region 4 with (go_at_call 10; refine HLD.out.mono ?_; rintro e w2 ⟨m, dd, g, rfl, hL2, hb2⟩)
      have HB2 := hidden hb2
      clear hL2 hb2 HLD
      go_wp2_with (go_at_call 9; refine (g0.out _ HB2.out).mono ?_; rintro e w13 ⟨rfl, hb13⟩)
      go_ret
      exact ⟨rfl, hb13⟩
    · by_cases c3 : d = 0
      · have d1 : (d == 0) = true := by simp [c3]
        clear c3
        go_enter Try.func8, Try.ntmps8
        go_upto_region 4 with (go_at_call 10; refine HLD.out.mono ?_; rintro e w2 ⟨m, dd, g, rfl, hL2, hb2⟩)
        have HB2 := hidden hb2
        clear hL2 hb2 HLD
        go_wp2_with (go_at_call 9; refine (g0.out _ HB2.out).mono ?_; rintro e w13 ⟨rfl, hb13⟩)
        go_ret
        exact ⟨rfl, hb13⟩
      · by_cases c4 : key = 0
        · have d1 : (d == 0) = false := by simpa using c3
          have d2 : ((key : Int) == 0) = true := by simp [c4]
          clear c3 c4
          go_enter Try.func8, Try.ntmps8
          go_upto_region 4 with (go_at_call 10; refine HLD.out.mono ?_; rintro e w2 ⟨m, dd, g, rfl, hL2, hb2⟩)
          have HB2 := hidden hb2
          clear hL2 hb2 HLD
          go_wp2_with (go_at_call 9; refine (g0.out _ HB2.out).mono ?_; rintro e w13 ⟨rfl, hb13⟩)
          go_ret
          exact ⟨rfl, hb13⟩
        · obtain ⟨A, rfl⟩ : ∃ A : Nat, AD = A := ⟨AD.toNat, by have := HL2.out; omega⟩
          obtain ⟨sz, hsz⟩ : ∃ sz : Nat, IntKind.u32.wrap d = (sz : Int) := ⟨(IntKind.u32.wrap d).toNat, by rw [IntKind.wrap_u32]; omega⟩
          have hszl : sz < 4294967296 := by rw [IntKind.wrap_u32] at hsz; omega
          have HSTP : Hid (Stp start sz i A d) := hidden ⟨by rw [IntKind.wrap_u32] at hsz; omega, hszl, c3, by omega, by have := HL2.out; omega, by have := HH2.out; omega, by rw [HAD.out, HP.out], by have := HL2.out; omega, by have := HH2.out; omega⟩
          have hA1 := HSTP.out.alo
          have hA2 := HSTP.out.ahi
          obtain ⟨v1, v2, v3⟩ := steps_lin HSTP.out key c4 hk hi
          have HV1 := hidden v1
          have HV2 := hidden v2
          have HV3 := hidden v3
          have d1 : (d == 0) = false := by simpa using c3
          have d2 : ((key : Int) == 0) = false := by simp; omega
          have i1 : IntKind.u32.wrap (A : Int) = A := by rw [IntKind.wrap_u32]; omega
          have i2 : IntKind.u32.wrap (key : Int) = key := by rw [IntKind.wrap_u32]; omega
          have i3 : IntKind.u32.wrap (start : Int) = start := by rw [IntKind.wrap_u32]; omega
          have i4 : IntKind.i32.wrap d = d := by simp [IntKind.wrap, IntKind.signed, IntKind.bits]; omega
          have i5 : IntKind.u32.wrap (i : Int) = i := by rw [IntKind.wrap_u32]; omega
          have i6 : IntKind.u32.wrap ((i : Int) + 1) = (i : Int) + 1 := by rw [IntKind.wrap_u32]; omega
          clear v1 v2 v3 c3 c4
          go_enter Try.func8, Try.ntmps8
          go_upto_region 4 with (go_at_call 10; refine HLD.out.mono ?_; rintro e w2 ⟨m, dd, g, rfl, hL2, hb2⟩)
          rw [layB_nil] at hL2
          have HWR := hidden (hL2.write1 A (key : Int) hA1 (by rw [baseF_len]; omega) (by rw [baseF_len]; omega) baseF_ok (by omega) (by omega))
          have HB2 := hidden hb2
          clear hL2 hb2 HLD
          go_upto_region 10 with (first | (go_at_call 18; refine HWR.out.mono ?_; rintro e w3 ⟨rfl, hb3, hm3⟩; have HM3 := hidden hm3; have HB3 := hidden (HB2.out.trans hb3); clear hm3 hb3; skip) | (go_at_call 13; refine (num13 _ _).mono ?_; rintro e w12 ⟨rfl, e9⟩; rw [e9]; clear e9) | fail)
          have HL1 : Hid (∀ wx, Below w3.heap.size w3 wx → Calls Try.prog 12 #[.pointer (some ⟨m, 0, none⟩), .agg #[.int .u32 (key : Int), .int .u32 1, .int .u32 (start : Int), .int .u32 (sz : Int), .int .u32 ((i : Int) + 1), .int .u32 0, .int .u32 0, .int .u32 0]] wx fun e w' => e = .returned (.tuple #[.int .u32 (A : Nat), .int .i64 0]) ∧ Below wx.heap.size wx w') := hidden (fun wx hx => lin_t m (oneB A key) key start sz (i + 1) 0 (by omega) (by omega) hszl (by omega) (by omega) _ HV1.out wx (HM3.out.later hx) 1 0 0 _ rfl rfl rfl (by omega))
          have HL2 : Hid (∀ wx, Below w3.heap.size w3 wx → Calls Try.prog 12 #[.pointer (some ⟨m, 0, none⟩), .agg #[.int .u32 (key : Int), .int .u32 1, .int .u32 (start : Int), .int .u32 (sz : Int), .int .u32 (i : Int), .int .u32 0, .int .u32 0, .int .u32 0]] wx fun e w' => e = .returned (.tuple #[.int .u32 0, .int .i64 0]) ∧ Below wx.heap.size wx w') := hidden (fun wx hx => lin_t m (oneB A key) key start sz i 0 (by omega) (by omega) hszl (by omega) (by omega) _ HV2.out wx (HM3.out.later hx) 1 0 0 _ rfl rfl rfl rfl)
          have HL3 : Hid (∀ wx, Below w3.heap.size w3 wx → Calls Try.prog 12 #[.pointer (some ⟨m, 0, none⟩), .agg #[.int .u32 (key : Int), .int .u32 1, .int .u32 (start : Int), .int .u32 (sz : Int), .int .u32 4294967295, .int .u32 0, .int .u32 0, .int .u32 4]] wx fun e w' => e = .returned (.tuple #[.int .u32 (i : Nat), .int .i64 0]) ∧ Below wx.heap.size wx w') := hidden (fun wx hx => lin_t m (oneB A key) key start sz 4294967295 4 (by omega) (by omega) hszl (by omega) (by omega) _ HV3.out wx (HM3.out.later hx) 1 0 4 4294967295 rfl rfl rfl rfl)
          go_upto_region 11 with fail
          have HX : Hid (IBox (w3.alloc (.cells #[.int .u32 (key : Int), .int .u32 1, .int .u32 (start : Int), .int .u32 (sz : Int), .int .u32 ((i : Int) + 1), .int .u32 0, .int .u32 0, .int .u32 0] 32)) w3.heap.size (key : Int) 1 (start : Int) (sz : Int) ((i : Int) + 1) 0 0 0) := hidden (heap_alloc_new _ _)
          have HN : Hid (Below w3.heap.size w3 (w3.alloc (.cells #[.int .u32 (key : Int), .int .u32 1, .int .u32 (start : Int), .int .u32 (sz : Int), .int .u32 ((i : Int) + 1), .int .u32 0, .int .u32 0, .int .u32 0] 32))) := hidden ((Below.refl _ _).alloc (Nat.le_refl _) _)
          generalize w3.alloc (.cells #[.int .u32 (key : Int), .int .u32 1, .int .u32 (start : Int), .int .u32 (sz : Int), .int .u32 ((i : Int) + 1), .int .u32 0, .int .u32 0, .int .u32 0] 32) = w4 at *
          have HSS := hidden HB3.out.size
          generalize hS : w3.heap.size = S at *
          have HS := hidden hS
          clear hS
          obtain ⟨x0, x1, x2, x3, x4, x5, x6, x7, xf⟩ := HX.out.cells
          go_upto_region 12 with (go_at_call 12; refine (HL1.out _ HN.out).mono ?_; rintro e w5 ⟨rfl, hb5⟩)
          have HX5 := hidden (HX.out.later hb5)
          have HN5 := hidden (HN.out.trans (hb5.mono (Nat.le_of_lt HX.out.lt)))
          clear x0 x1 x2 x3 x4 x5 x6 x7 xf hb5 HX HN HL1
          obtain ⟨x0, x1, x2, x3, x4, x5, x6, x7, xf⟩ := HX5.out.cells
          have xf4 := xf 4
          go_upto_region 13 with fail
          have HX6 : Hid (IBox (w5.setCell ⟨S, 4, none⟩ (.int .u32 (i : Int))) S (key : Int) 1 (start : Int) (sz : Int) (i : Int) 0 0 0) := hidden (by have := HX5.out; unfold IBox at *; simp [World.setCell, Array.getElem?_modify, this])
          have HN6 : Hid (Below S w3 (w5.setCell ⟨S, 4, none⟩ (.int .u32 (i : Int)))) := hidden (HN5.out.setCell (p := ⟨S, 4, none⟩) (Nat.le_refl _) _)
          clear x0 x1 x2 x3 x4 x5 x6 x7 xf xf4 HX5 HN5
          generalize w5.setCell ⟨S, 4, none⟩ (.int .u32 (i : Int)) = w6 at *
          obtain ⟨x0, x1, x2, x3, x4, x5, x6, x7, xf⟩ := HX6.out.cells
          go_upto_region 14 with (go_at_call 12; refine (HL2.out _ HN6.out).mono ?_; rintro e w7 ⟨rfl, hb7⟩)
          have HX7 := hidden (HX6.out.later hb7)
          have HN7 := hidden (HN6.out.trans (hb7.mono (Nat.le_of_lt HX6.out.lt)))
          clear x0 x1 x2 x3 x4 x5 x6 x7 xf hb7 HX6 HN6 HL2
          obtain ⟨x0, x1, x2, x3, x4, x5, x6, x7, xf⟩ := HX7.out.cells
          have xf4 := xf 4
          have xf7 := xf 7
          go_upto_region 15 with fail
          have HX8 : Hid (IBox ((w7.setCell ⟨S, 4, none⟩ (.int .u32 4294967295)).setCell ⟨S, 7, none⟩ (.int .u32 4)) S (key : Int) 1 (start : Int) (sz : Int) 4294967295 0 0 4) := hidden (by have := HX7.out; unfold IBox at *; simp [World.setCell, Array.getElem?_modify, this])
          have HN8 : Hid (Below S w3 ((w7.setCell ⟨S, 4, none⟩ (.int .u32 4294967295)).setCell ⟨S, 7, none⟩ (.int .u32 4))) := hidden ((HN7.out.setCell (p := ⟨S, 4, none⟩) (Nat.le_refl _) _).setCell (p := ⟨S, 7, none⟩) (Nat.le_refl _) _)
          clear x0 x1 x2 x3 x4 x5 x6 x7 xf xf4 xf7 HX7 HN7
          generalize (w7.setCell ⟨S, 4, none⟩ (.int .u32 4294967295)).setCell ⟨S, 7, none⟩ (.int .u32 4) = w8 at *
          obtain ⟨x0, x1, x2, x3, x4, x5, x6, x7, xf⟩ := HX8.out.cells
          go_upto_region 16 with (go_at_call 12; refine (HL3.out _ HN8.out).mono ?_; rintro e w9 ⟨rfl, hb9⟩)
          have HN9 := hidden (HN8.out.trans (hb9.mono (Nat.le_of_lt HX8.out.lt)))
          have HB9 : Hid (Below w.heap.size w w9) := hidden (HB3.out.trans (HN9.out.mono HSS.out))
          clear x0 x1 x2 x3 x4 x5 x6 x7 xf hb9 HX8 HN8 HL3
          have HRW := hidden (row_any w9)
          go_wp2_with (first | (go_at_call 13; refine (num13 _ _).mono ?_; rintro e w12 ⟨rfl, e9⟩; rw [e9]; clear e9) | (go_at_call 19; refine HRW.out.mono ?_; rintro e w10 ⟨ar, cr, rfl, hb10⟩; have HB10 := hidden (HB9.out.trans (hb10.mono HB9.out.size)); clear hb10; skip) | (go_at_call 9; refine (g0.out _ HB10.out).mono ?_; rintro e w13 ⟨rfl, hb13⟩) | fail)
          go_ret
          exact ⟨rfl, hb13⟩
theorem findSteps_walk (start d i key : Int) (w : World) (h1 : (Lit.int .u16 start).wf = true) (h2 : (Lit.int .i8 d).wf = true) (h3 : (Lit.int .u8 i).wf = true) (h4 : (Lit.int .u8 key).wf = true) :
    Calls Try.prog 8 #[.int .u16 start, .int .i8 d, .int .u8 i, .int .u8 key] w fun e w' => e = .returned (.bool true) ∧ Below w.heap.size w w' := by
  have b1 : 0 ≤ start ∧ start ≤ 65535 := by
    have := h1
    simp [Lit.wf, IntKind.min, IntKind.max, IntKind.signed, IntKind.bits] at this
    omega
  have b2 : -128 ≤ d ∧ d ≤ 127 := by
    have := h2
    simp [Lit.wf, IntKind.min, IntKind.max, IntKind.signed, IntKind.bits] at this
    omega
  have b3 : 0 ≤ i ∧ i ≤ 255 := by
    have := h3
    simp [Lit.wf, IntKind.min, IntKind.max, IntKind.signed, IntKind.bits] at this
    omega
  have b4 : 0 ≤ key ∧ key ≤ 255 := by
    have := h4
    simp [Lit.wf, IntKind.min, IntKind.max, IntKind.signed, IntKind.bits] at this
    omega
  obtain ⟨S, rfl⟩ : ∃ A : Nat, start = A := ⟨start.toNat, by omega⟩
  obtain ⟨I, rfl⟩ : ∃ A : Nat, i = A := ⟨i.toNat, by omega⟩
  obtain ⟨K, rfl⟩ : ∃ A : Nat, key = A := ⟨key.toNat, by omega⟩
  exact steps_main S K I d w (by omega) (by omega) (by omega) b2
end Go.Proofs.Ytppgpfppmbdfhaa
