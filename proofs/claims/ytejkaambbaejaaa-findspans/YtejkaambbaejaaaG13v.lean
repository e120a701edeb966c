/- Layer 13: the walk of FindSpans. -/
import Derived.Test.YtejkaambbaejaaaG13l
import Derived.Test.YtejkaambbaejaaaG13d
namespace Go.Proofs.Ytejkaambbaejaaa
open Go.RowKit
set_option maxHeartbeats 1000000
set_option maxRecDepth 100000
set_option linter.unusedVariables false

theorem bounds_16 {n : Int} (h : (Lit.int .u16 n).wf = true) : 0 ≤ n ∧ n ≤ 65535 := by
  simp [Lit.wf, IntKind.min, IntKind.max, IntKind.signed, IntKind.bits] at h
  omega
theorem bounds_8 {n : Int} (h : (Lit.int .u8 n).wf = true) : 0 ≤ n ∧ n ≤ 255 := by
  simp [Lit.wf, IntKind.min, IntKind.max, IntKind.signed, IntKind.bits] at h
  omega
def pSr (at_ n start : Nat) : Sr := ⟨at_, n, start, 1, 4294967295, 0, 0, 1⟩
theorem p_spA (at_ n start i : Nat) (h : start + i < 4294967296) : spA (pSr at_ n start) i = start + i := by
  show wr32 (start + wr32 (i * 1)) = _
  rw [Nat.mul_one, wr32_id i (by omega), wr32_id _ h]
theorem p_kyE (at_ n start a L : Nat) (h : a < 4294967296) : kyE (pSr at_ n start) L a = tkE L a n := by
  show tkE L (wr32 (a + 0)) n = _
  rw [Nat.add_zero, wr32_id _ h]
theorem p_kyL (at_ n start a : Nat) (bs : List Int) (h : a < 4294967296) : kyL (pSr at_ n start) bs a = seg bs a n := by
  show seg bs (wr32 (a + 0)) n = _
  rw [Nat.add_zero, wr32_id _ h]
theorem p_opt : optB 1 1 = true ∧ optB 1 2 = false ∧ optB 1 4 = false := by decide
/-- what a search byte by byte comes to -/
def SpOut (bs : List Int) (at_ n start i : Nat) (r : Rs) : Prop := (∃ j, r = .at_ j (start + j) ∧ start + j < 4294967296 ∧ i ≤ j ∧ tkE bs.length (start + j) n = 0 ∧ seg bs (start + j) n = seg bs at_ n ∧ (start + i ≤ at_ → start + j ≤ at_)) ∨ (r = .bad 90 ∧ at_ < start + i)
theorem spans_run (bs : List Int) (at_ n start : Nat) (hL : bs.length = 4096) (ha : tkE bs.length at_ n = 0) (hs : start < 65536) : ∀ (d i : Nat), start + i ≤ 65536 + 4097 → 4097 - (start + i) ≤ d → SpOut bs at_ n start i (linF bs (pSr at_ n start) (seg bs at_ n) (4294967295 - i) i)
  | d, i, h1, h2 => by
    rw [linF_step _ _ _ _ _ (by omega), p_spA _ _ _ _ (by omega), p_kyE _ _ _ _ _ (by omega), p_kyL _ _ _ _ _ (by omega)]
    by_cases he : tkE bs.length (start + i) n ≠ 0
    · rw [if_pos he]
      refine .inr ⟨rfl, ?_⟩
      unfold tkE at he ha
      split at he
      · exact absurd rfl he
      · rename_i h3
        split at ha
        · omega
        · exact absurd ha (by decide)
    · rw [if_neg he]
      have he0 : tkE bs.length (start + i) n = 0 := by
        rcases tkE_or bs.length (start + i) n with q | q
        · exact q
        · exact absurd (by rw [q]; decide) he
      by_cases hf : seg bs (start + i) n = seg bs at_ n
      · rw [if_pos hf]
        exact .inl ⟨i, rfl, by omega, Nat.le_refl _, he0, hf, fun h => h⟩
      · have hn0 : n ≠ 0 := fun h0 => hf (by rw [h0, seg_zero, seg_zero])
        have hin := tk_in he0 hn0
        have hne : start + i ≠ at_ := fun e => hf (by rw [e])
        have hend : ¬ (endZ (pSr at_ n start) (seg bs (start + i) n) = true ∨ (pSr at_ n start).size = 0) := by
          rintro (e | e)
          · have : endZ (pSr at_ n start) (seg bs (start + i) n) = false := by
              show (optB 1 2 && _) = false
              rw [p_opt.2.1]; rfl
            rw [this] at e; cases e
          · exact absurd e (by show ¬ (1 = 0); omega)
        rw [if_neg hf, if_neg hend]
        match d, h2 with
        | 0, h2 => omega
        | d + 1, h2 =>
          have ih := spans_run bs at_ n start hL ha hs d (i + 1) (by omega) (by omega)
          rcases ih with ⟨j, q1, q2, q3, q4, q5, q6⟩ | ⟨q1, q2⟩
          · exact .inl ⟨j, q1, q2, by omega, q4, q5, fun h => q6 (by omega)⟩
          · exact .inr ⟨q1, by omega⟩
theorem p_keyE (at_ n start : Nat) (hn : n ≤ 255) (L : Nat) : keyE (pSr at_ n start) L = tkE L at_ n := by
  unfold keyE mayK
  show (if (if optB 1 1 then decide (n ≤ 256) else _) then (if optB 1 1 then tkE L at_ n else 0) else 130) = _
  rw [p_opt.1]
  simp; omega
theorem p_keyL (at_ n start : Nat) (bs : List Int) : keyL (pSr at_ n start) bs = seg bs at_ n := by
  unfold keyL
  show (if optB 1 1 then _ else _) = _
  rw [p_opt.1]; rfl
/-- what Linear tells then -/
theorem spans_lin (bs : List Int) (at_ n start : Nat) (hL : bs.length = 4096) (ha : tkE bs.length at_ n = 0) (hn : n ≤ 255) (hs : start < 65536) : (∃ x, linV bs (pSr at_ n start) = (x, 0) ∧ x < 4294967296 ∧ start ≤ x ∧ tkE bs.length x n = 0 ∧ seg bs x n = seg bs at_ n ∧ (start ≤ at_ → x ≤ at_)) ∨ (linV bs (pSr at_ n start) = (0, 90) ∧ at_ < start) := by
  have h0 := spans_run bs at_ n start hL ha hs 4097 0 (by omega) (by omega)
  unfold linV
  rw [p_keyE _ _ _ hn, ha, if_neg (by simp), p_keyL, show (pSr at_ n start).cnt = 4294967295 from rfl]
  rw [Nat.sub_zero] at h0
  rcases h0 with ⟨j, q1, q2, q3, q4, q5, q6⟩ | ⟨q1, q2⟩
  · refine .inl ⟨start + j, ?_, q2, by omega, q4, q5, fun h => q6 (by omega)⟩
    rw [q1]
    show ((if optB 1 4 then j else start + j), (0 : Int)) = _
    rw [p_opt.2.2]; rfl
  · exact .inr ⟨by rw [q1]; rfl, by omega⟩
set_option maxHeartbeats 4000000 in
theorem spans_main (a : Option Addr) (len cap : Nat) (zs : List Int) (at_ n start : Nat) (w : World) (hr : Reads w a len cap (zs.take len)) (hob : OkB (zs.take len)) (hl : len ≤ 3840) (hat : at_ < 65536) (hn : n ≤ 255) (hst : start < 65536) :
    Calls Try.prog 7 #[.slice a len cap, .int .u16 at_, .int .u8 n, .int .u16 start] w fun e w' => e = .returned (.bool true) ∧ Below w.heap.size w w' := by
  have HLD := hidden (laid_any a len cap (zs.take len) w hr hob)
  have HOB := hidden hob
  have HLV1 := hidden (live_any)
  have g1 : ¬ ((len : Int) > 3840) := by omega
  have e1 : IntKind.u32.wrap (at_ : Int) = at_ := by rw [IntKind.wrap_u32]; omega
  have e2 : IntKind.u32.wrap (n : Int) = n := by rw [IntKind.wrap_u32]; omega
  have e3 : IntKind.u32.wrap (start : Int) = start := by rw [IntKind.wrap_u32]; omega
  have f1 : IntKind.i64.wrap (at_ : Int) = at_ := by rw [IntKind.wrap_i64]; omega
  have f2 : IntKind.i64.wrap (n : Int) = n := by rw [IntKind.wrap_i64]; omega
  have f3 : IntKind.i64.wrap ((at_ : Int) + n) = (at_ : Int) + n := by rw [IntKind.wrap_i64]; omega
  have hok : (pSr at_ n start).ok := ⟨by show at_ < _; omega, by show n < _; omega, by show start < _; omega, by show 1 < _; omega, by show 4294967295 < _; omega, by show 0 < _; omega, by show 0 < _; omega, by show 1 < _; omega⟩
  have HSB := hidden (lay_ok (zs.take len) hob 3840)
  clear hr hob
  go_enter Try.func7, Try.ntmps7
  go_upto_region 4 with (go_at_call 9; refine HLD.out.mono ?_; rintro e w2 ⟨m, d, g, rfl, hL2, hb2⟩)
  have HBO := hidden (hL2.both (lay_len3 _) (lay_ok _ HOB.out _))
  have HB2 := hidden hb2
  clear hL2 hb2 HLD
  have HKC : Hid (∀ wx, Below w2.heap.size w2 wx → Calls Try.prog 10 #[.pointer (some ⟨m, 0, none⟩), .agg #[.int .u32 (at_ : Int), .int .u32 (n : Int), .int .u32 (start : Int), .int .u32 1, .int .u32 4294967295, .int .u32 0, .int .u32 0, .int .u32 1]] wx (KRet (pSr at_ n start) (layB (zs.take len)) wx)) := hidden (fun wx hx => key_any m _ (pSr at_ n start) hok wx (HBO.out.mrd.later hx))
  have HLC : Hid (∀ wx, Below w2.heap.size w2 wx → Calls Try.prog 16 #[.pointer (some ⟨m, 0, none⟩), .agg #[.int .u32 (at_ : Int), .int .u32 (n : Int), .int .u32 (start : Int), .int .u32 1, .int .u32 4294967295, .int .u32 0, .int .u32 0, .int .u32 1]] wx fun e w' => e = .returned (.tuple #[.int .u32 (linV (layB (zs.take len)) (pSr at_ n start)).1, .int .i64 (linV (layB (zs.take len)) (pSr at_ n start)).2]) ∧ Below wx.heap.size wx w') := hidden (fun wx hx => lin_any m _ (pSr at_ n start) hok wx (HBO.out.mrd.later hx))
  have HKE : Hid (keyE (pSr at_ n start) (layB (zs.take len)).length = tkE 4096 at_ n) := hidden (by rw [p_keyE _ _ _ hn, lay_len3])
  have HLN := hidden (fun ha => spans_lin (layB (zs.take len)) at_ n start (lay_len3 _) ha hn hst)
  go_upto_region 7 with fail
  have HX : Hid (IBox (w2.alloc (.cells #[.int .u32 (at_ : Int), .int .u32 (n : Int), .int .u32 (start : Int), .int .u32 1, .int .u32 4294967295, .int .u32 0, .int .u32 0, .int .u32 1] 25)) w2.heap.size (at_ : Int) (n : Int) (start : Int) 1 4294967295 0 0 1) := hidden (heap_alloc_new _ _)
  have HN3 : Hid (Below w2.heap.size w2 (w2.alloc (.cells #[.int .u32 (at_ : Int), .int .u32 (n : Int), .int .u32 (start : Int), .int .u32 1, .int .u32 4294967295, .int .u32 0, .int .u32 0, .int .u32 1] 25))) := hidden ((Below.refl _ _).alloc (Nat.le_refl _) _)
  generalize w2.alloc (.cells #[.int .u32 (at_ : Int), .int .u32 (n : Int), .int .u32 (start : Int), .int .u32 1, .int .u32 4294967295, .int .u32 0, .int .u32 0, .int .u32 1] 25) = w3 at *
  obtain ⟨x0, x1, x2, x3, x4, x5, x6, x7, xf⟩ := HX.out.cells
  have HK := hidden (HKC.out w3 HN3.out)
  go_wp2_with fail
  refine HK.out.mono ?_
  rintro e w4 ⟨hb4, hcase⟩
  have HX4 := hidden (HX.out.later hb4)
  have HN4 := hidden (HN3.out.trans (hb4.mono HN3.out.size))
  have HBF : Hid (∀ wx, Below w2.heap.size w2 wx → Below w.heap.size w wx) := hidden (fun wx hx => HB2.out.trans (hx.mono HB2.out.size))
  have HL4 := hidden (HLC.out w4 HN4.out)
  clear x0 x1 x2 x3 x4 x5 x6 x7 xf HX hb4 HK HKC HLC
  obtain ⟨x0, x1, x2, x3, x4, x5, x6, x7, xf⟩ := HX4.out.cells
  by_cases hbad : at_ + n > 4096 ∧ 0 < n
  · have hte : tkE 4096 at_ n = 90 := by unfold tkE; rw [if_neg (by omega)]
    rcases hcase with ⟨hne, rfl⟩ | ⟨he, _⟩
    · have hv : linV (layB (zs.take len)) (pSr at_ n start) = (0, 90) := by unfold linV; rw [HKE.out, hte, if_pos (by decide)]
      rw [hv] at HL4
      have hk90 : keyE (pSr at_ n start) (layB (zs.take len)).length = 90 := by rw [HKE.out, hte]
      rw [hk90]
      have l1 : (at_ : Int) + n > 4096 := by omega
      have l2 : (n : Int) > 0 := by omega
      clear hv hk90 hne hte hbad HLN
      go_upto_region 9 with (go_at_call 16; refine HL4.out.mono ?_; rintro e w5 ⟨rfl, hb5⟩)
      have HN5 := hidden (HN4.out.trans (hb5.mono HN4.out.size))
      clear hb5 x0 x1 x2 x3 x4 x5 x6 x7 xf
      have HLV := hidden (HLV1.out w5)
      go_wp2_with (first | (go_at_call 14; refine (num13 _ _).mono ?_; rintro e w12 ⟨rfl, e9⟩; rw [e9]; clear e9) | (go_at_call 8; refine HLV.out.mono ?_; rintro e w13 ⟨rfl, hb13⟩) | fail)
      go_ret
      exact ⟨rfl, HBF.out _ (HN5.out.trans (hb13.mono HN5.out.size))⟩
    · rw [HKE.out, hte] at he
      exact absurd he (by decide)
  · have hte : tkE 4096 at_ n = 0 := by unfold tkE; rw [if_pos (by omega)]
    rcases hcase with ⟨hne, _⟩ | ⟨he, hks, hkl, hokk, gk, ck, rfl, hown⟩
    · rw [HKE.out, hte] at hne
      exact absurd rfl hne
    · rw [p_keyL] at hown hokk
      have HOK := hidden hokk
      have HRK := hidden (fun wx (hx : Below w4.heap.size w4 wx) => (own_reads (show w4.ownsRow _ 5 1 (.slice (some ⟨gk, 0, none⟩) n ck) n (bytesV (seg (layB (zs.take len)) at_ n)) from hown)).later hx)
      have hguard : ¬ ((at_ : Int) + n > 4096) ∨ ((at_ : Int) + n > 4096 ∧ ¬ ((n : Int) > 0)) := by omega
      have hres := HLN.out (by rw [lay_len3]; exact hte)
      have q9 : ((n : Int) != (n : Int)) = false := by simp
      clear hokk hown hks hkl he hte hbad HLN HKE
      rw [show (pSr at_ n start).ks = n from rfl]
      rcases hguard with l1 | ⟨l1, l2⟩
      · rcases hres with ⟨x, hv, hx, hsx, htk, hseg, hle⟩ | ⟨hv, hlt⟩
        · rw [hv] at HL4
          have m1 : (start : Int) ≤ x := by omega
          go_upto_region 9 with (go_at_call 16; refine HL4.out.mono ?_; rintro e w5 ⟨rfl, hb5⟩)
          have HN5 := hidden (HN4.out.trans (hb5.mono HN4.out.size))
          have HK5 := hidden hb5
          clear hb5 x0 x1 x2 x3 x4 x5 x6 x7 xf hv HX4
          have HSP := hidden (span_any d (layB (zs.take len)) x n w5 (HBO.out.drd.later HN5.out) hx (by omega))
          go_upto_region 15 with (go_at_call 14; refine (num13 _ _).mono ?_; rintro e w12 ⟨rfl, e9⟩; rw [e9]; clear e9)
          go_wp2_with fail
          refine HSP.out.mono ?_
          rintro e w6 ⟨hb6, ⟨hne, _⟩ | ⟨_, v6, rfl, ho6⟩⟩
          · exact absurd htk hne
          · rw [hseg] at ho6
            obtain ⟨a6, c6, rfl, hr6⟩ := own_reads_v ho6
            have HS6 := hidden (same_eq _ _ _ _ _ _ (seg (layB (zs.take len)) at_ n) w6 HOK.out hr6 (HRK.out w6 (HK5.out.trans (hb6.mono HK5.out.size))))
            have HN6 := hidden (HN5.out.trans (hb6.mono HN5.out.size))
            have HLV := hidden (HLV1.out w6)
            clear ho6 hr6 hb6 htk hseg HSP
            by_cases hsa : start ≤ at_
            · have m2 : ¬ ((start : Int) > at_) := by omega
              have m3 : (x : Int) ≤ at_ := by have := hle hsa; omega
              clear hle hsa
              go_wp2_with (first | (go_at_call 13; refine HS6.out.mono ?_; rintro e w7 ⟨rfl, e9⟩; rw [e9]; clear e9) | (go_at_call 8; refine HLV.out.mono ?_; rintro e w13 ⟨rfl, hb13⟩) | fail)
              go_ret
              exact ⟨rfl, HBF.out _ (HN6.out.trans (hb13.mono HN6.out.size))⟩
            · have m2 : (start : Int) > at_ := by omega
              clear hle hsa
              go_wp2_with (first | (go_at_call 13; refine HS6.out.mono ?_; rintro e w7 ⟨rfl, e9⟩; rw [e9]; clear e9) | (go_at_call 8; refine HLV.out.mono ?_; rintro e w13 ⟨rfl, hb13⟩) | fail)
              go_ret
              exact ⟨rfl, HBF.out _ (HN6.out.trans (hb13.mono HN6.out.size))⟩
        · rw [hv] at HL4
          have m2 : (start : Int) > at_ := by omega
          go_upto_region 9 with (go_at_call 16; refine HL4.out.mono ?_; rintro e w5 ⟨rfl, hb5⟩)
          have HN5 := hidden (HN4.out.trans (hb5.mono HN4.out.size))
          clear hb5 x0 x1 x2 x3 x4 x5 x6 x7 xf hv hlt HX4
          have HLV := hidden (HLV1.out w5)
          go_wp2_with (first | (go_at_call 14; refine (num13 _ _).mono ?_; rintro e w12 ⟨rfl, e9⟩; rw [e9]; clear e9) | (go_at_call 8; refine HLV.out.mono ?_; rintro e w13 ⟨rfl, hb13⟩) | fail)
          go_ret
          exact ⟨rfl, HBF.out _ (HN5.out.trans (hb13.mono HN5.out.size))⟩
      · rcases hres with ⟨x, hv, hx, hsx, htk, hseg, hle⟩ | ⟨hv, hlt⟩
        · rw [hv] at HL4
          have m1 : (start : Int) ≤ x := by omega
          go_upto_region 9 with (go_at_call 16; refine HL4.out.mono ?_; rintro e w5 ⟨rfl, hb5⟩)
          have HN5 := hidden (HN4.out.trans (hb5.mono HN4.out.size))
          have HK5 := hidden hb5
          clear hb5 x0 x1 x2 x3 x4 x5 x6 x7 xf hv HX4
          have HSP := hidden (span_any d (layB (zs.take len)) x n w5 (HBO.out.drd.later HN5.out) hx (by omega))
          go_upto_region 15 with (go_at_call 14; refine (num13 _ _).mono ?_; rintro e w12 ⟨rfl, e9⟩; rw [e9]; clear e9)
          go_wp2_with fail
          refine HSP.out.mono ?_
          rintro e w6 ⟨hb6, ⟨hne, _⟩ | ⟨_, v6, rfl, ho6⟩⟩
          · exact absurd htk hne
          · rw [hseg] at ho6
            obtain ⟨a6, c6, rfl, hr6⟩ := own_reads_v ho6
            have HS6 := hidden (same_eq _ _ _ _ _ _ (seg (layB (zs.take len)) at_ n) w6 HOK.out hr6 (HRK.out w6 (HK5.out.trans (hb6.mono HK5.out.size))))
            have HN6 := hidden (HN5.out.trans (hb6.mono HN5.out.size))
            have HLV := hidden (HLV1.out w6)
            clear ho6 hr6 hb6 htk hseg HSP
            by_cases hsa : start ≤ at_
            · have m2 : ¬ ((start : Int) > at_) := by omega
              have m3 : (x : Int) ≤ at_ := by have := hle hsa; omega
              clear hle hsa
              go_wp2_with (first | (go_at_call 13; refine HS6.out.mono ?_; rintro e w7 ⟨rfl, e9⟩; rw [e9]; clear e9) | (go_at_call 8; refine HLV.out.mono ?_; rintro e w13 ⟨rfl, hb13⟩) | fail)
              go_ret
              exact ⟨rfl, HBF.out _ (HN6.out.trans (hb13.mono HN6.out.size))⟩
            · have m2 : (start : Int) > at_ := by omega
              clear hle hsa
              go_wp2_with (first | (go_at_call 13; refine HS6.out.mono ?_; rintro e w7 ⟨rfl, e9⟩; rw [e9]; clear e9) | (go_at_call 8; refine HLV.out.mono ?_; rintro e w13 ⟨rfl, hb13⟩) | fail)
              go_ret
              exact ⟨rfl, HBF.out _ (HN6.out.trans (hb13.mono HN6.out.size))⟩
        · rw [hv] at HL4
          have m2 : (start : Int) > at_ := by omega
          go_upto_region 9 with (go_at_call 16; refine HL4.out.mono ?_; rintro e w5 ⟨rfl, hb5⟩)
          have HN5 := hidden (HN4.out.trans (hb5.mono HN4.out.size))
          clear hb5 x0 x1 x2 x3 x4 x5 x6 x7 xf hv hlt HX4
          have HLV := hidden (HLV1.out w5)
          go_wp2_with (first | (go_at_call 14; refine (num13 _ _).mono ?_; rintro e w12 ⟨rfl, e9⟩; rw [e9]; clear e9) | (go_at_call 8; refine HLV.out.mono ?_; rintro e w13 ⟨rfl, hb13⟩) | fail)
          go_ret
          exact ⟨rfl, HBF.out _ (HN5.out.trans (hb13.mono HN5.out.size))⟩
theorem findSpans_walk (a : Option Addr) (len cap : Nat) (zs : List Int) (at_ n start : Int) (w : World) (h : IsRow .u8 w a len cap zs) (h1 : (Lit.int .u16 at_).wf = true) (h2 : (Lit.int .u8 n).wf = true) (h3 : (Lit.int .u16 start).wf = true) :
    Calls Try.prog 7 #[.slice a len cap, .int .u16 at_, .int .u8 n, .int .u16 start] w fun e w' => e = .returned (.bool true) ∧ Below w.heap.size w w' := by
  obtain ⟨hr, hob, hlm⟩ := reads_of_row h
  have b1 := bounds_16 h1
  have b2 := bounds_8 h2
  have b3 := bounds_16 h3
  obtain ⟨A, rfl⟩ : ∃ A : Nat, at_ = A := ⟨at_.toNat, by omega⟩
  obtain ⟨N, rfl⟩ : ∃ A : Nat, n = A := ⟨n.toNat, by omega⟩
  obtain ⟨S, rfl⟩ : ∃ A : Nat, start = A := ⟨start.toNat, by omega⟩
  by_cases hl : len ≤ 3840
  · exact spans_main a len cap zs A N S w hr hob hl (by omega) (by omega) (by omega)
  · have g1 : (len : Int) > 3840 := by omega
    clear h hr hob h1 h2 h3
    go_enter Try.func7, Try.ntmps7
    go_wp2_with (go_at_call 8; refine (live_any _).mono ?_; rintro e w13 ⟨rfl, hb13⟩)
    go_ret
    exact ⟨rfl, hb13⟩
end Go.Proofs.Ytejkaambbaejaaa
