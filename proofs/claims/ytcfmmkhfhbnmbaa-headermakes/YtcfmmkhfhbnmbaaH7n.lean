/- The walk of HeaderParses: what Parse answers of any bytes is what the document answers. -/
import Derived.Test.YtcfmmkhfhbnmbaaH7l
import Derived.Test.YtcfmmkhfhbnmbaaH7p
namespace Go.Proofs.Ytcfmmkhfhbnmbaa
open Go.RowKit
set_option maxHeartbeats 1000000
set_option maxRecDepth 100000
set_option linter.unusedVariables false

theorem rparse_nil (a : Option Addr) (cap : Nat) (w : World) :
    Calls Try.prog 12 #[.slice a 0 cap] w fun e w' => e = .returned (.tuple #[.agg #[.int .u32 0, .int .u32 0, .int .u32 0, .int .u32 0, .int .u32 0, .int .u32 0, .int .u32 0, .int .u32 0], .int .i64 2, .int .i64 0]) ∧ Below w.heap.size w w' := by
  go_enter Try.func12, Try.ntmps12
  go_wp2
  go_rounds 1
  refine bodyPost_ret (v := .tuple #[.agg #[.int .u32 0, .int .u32 0, .int .u32 0, .int .u32 0, .int .u32 0, .int .u32 0, .int .u32 0, .int .u32 0], .int .i64 2, .int .i64 0]) (by simp [results, Try.results12, go_sem]) rfl ⟨rfl, ?_⟩
  exact ((Below.refl _ _).alloc (Nat.le_refl _) _).alloc (by simp) _
theorem rparse_any (a : Option Addr) (L cap : Nat) (zs : List Int) (w : World) (h : Reads w a L cap zs) (hb : OkB zs) (hm : L ≤ 1000000) :
    Calls Try.prog 12 #[.slice a L cap] w fun e w' => e = .returned (.tuple #[hdV (parseH zs).1, .int .i64 (parseH zs).2.1, .int .i64 (parseH zs).2.2]) ∧ Below w.heap.size w w' := by
  by_cases h0 : L = 0
  · subst h0
    obtain rfl := List.eq_nil_of_length_eq_zero h.1
    exact rparse_nil a cap w
  · obtain ⟨g, o, rfl, hB⟩ := h.bs (by omega)
    exact rparse_some g o L cap zs w hB hb h.2.1 (by omega) hm _ _ _ _ _ _ _ _ _ rfl rfl rfl rfl rfl rfl rfl rfl rfl _ rfl
theorem headerParses_walk (a : Option Addr) (len cap : Nat) (zs : List Int) (w : World) (h : IsRow .u8 w a len cap zs) :
    Calls Try.prog 3 #[.slice a len cap] w fun e w' => e = .returned (.bool true) ∧ Below w.heap.size w w' := by
  obtain ⟨hr, hok, r3⟩ := reads_of_row h
  generalize zs.take len = zs at *
  have HL := hidden live_any
  have hn1 : (len : Int) ≤ 9223372036854775807 := by omega
  by_cases hbig : 65536 < len
  · have hbi : (65536 : Int) < (len : Int) := by omega
    clear hr hok h
    go_enter Try.func3, Try.ntmps3
    go_wp2_with (go_at_call 9; refine (HL.out _).mono ?_; rintro e w9 ⟨rfl, hb⟩)
    go_ret
    exact ⟨rfl, hb⟩
  have hbi : ¬ (65536 : Int) < (len : Int) := by omega
  have HLe := hidden (lent_any a len cap zs w hr (by omega))
  have HRd := hidden hr
  clear hr h
  go_enter Try.func3, Try.ntmps3
  go_wp2_with fail
  refine HLe.out.mono ?_
  rintro e w1 ⟨g, c2, rfl, hc2, hg, hb1, hcell⟩
  have hzl := HRd.out.1
  have hBs : Bs w1 g 0 len zs := ⟨hzl, fun i hi => by
    have := hcell i (by omega)
    have e : (zs ++ [77]).getD i 0 = zs.getD i 0 := by simp [List.getD_eq_getElem?_getD, List.getElem?_append_left (show i < zs.length by omega)]
    rw [e] at this
    exact this⟩
  have HP1 := hidden (parse_any (some ⟨g, 0, none⟩) len c2 zs w1 (hBs.reads c2 (by omega)) hok (by omega))
  have HP2 := hidden fun w2 hr => rparse_any a len cap zs w2 hr hok (by omega)
  have HCE := hidden hcell
  have HB1 := hidden hb1
  have HOK := hidden hok
  have HZL := hidden hzl
  clear hcell hBs hb1 HLe hok hzl
  generalize hRR : parseH zs = R at *
  clear hRR
  obtain ⟨⟨v, ram, ext, en, st, start, tab, sm⟩, E, AT⟩ := R
  dsimp only at HP1 HP2
  go_wp2_with fail
  refine HP1.out.mono ?_
  rintro e w2 ⟨rfl, hb2⟩
  have HX := hidden (hd_fresh w2 ⟨v, ram, ext, en, st, start, tab, sm⟩)
  have hb2a := (hb2.alloc hb2.size (.cells #[.int .u32 v, .int .u32 ram, .int .u32 ext, .int .u32 en, .int .u32 st, .int .u32 start, .int .u32 tab, .int .u32 sm] 27))
  have HB12 := hidden hb2a
  have HB2 := hidden (HB1.out.trans (hb2a.mono HB1.out.size))
  clear hb2 hb2a HP1
  go_upto_region 5 with fail
  change Code.wp _ _ _ _ (w2.alloc (.cells #[.int .u32 v, .int .u32 ram, .int .u32 ext, .int .u32 en, .int .u32 st, .int .u32 start, .int .u32 tab, .int .u32 sm] 27))
  generalize w2.heap.size = B4 at *
  generalize w2.alloc (.cells #[.int .u32 v, .int .u32 ram, .int .u32 ext, .int .u32 en, .int .u32 st, .int .u32 start, .int .u32 tab, .int .u32 sm] 27) = w3 at *
  have HP3 := hidden (HP2.out w3 (HRd.out.later HB2.out))
  go_wp2_with fail
  refine HP3.out.mono ?_
  rintro e w4 ⟨rfl, hb4⟩
  have HX7 := hidden (hd_fresh w4 ⟨v, ram, ext, en, st, start, tab, sm⟩)
  have hb4a := (hb4.alloc hb4.size (.cells #[.int .u32 v, .int .u32 ram, .int .u32 ext, .int .u32 en, .int .u32 st, .int .u32 start, .int .u32 tab, .int .u32 sm] 27))
  replace HX := hidden (hd_of hb4a HX.out)
  replace HB12 := hidden (HB12.out.trans (hb4a.mono HB12.out.size))
  replace HB2 := hidden (HB2.out.trans (hb4a.mono HB2.out.size))
  clear hb4 hb4a HP3 HP2
  go_upto_region 6 with fail
  change Code.wp _ _ _ _ (w4.alloc (.cells #[.int .u32 v, .int .u32 ram, .int .u32 ext, .int .u32 en, .int .u32 st, .int .u32 start, .int .u32 tab, .int .u32 sm] 27))
  generalize w4.heap.size = B7 at *
  generalize w4.alloc (.cells #[.int .u32 v, .int .u32 ram, .int .u32 ext, .int .u32 en, .int .u32 st, .int .u32 start, .int .u32 tab, .int .u32 sm] 27) = w5 at *
  have HKp : Hid (Calls Try.prog 14 #[.slice (some ⟨g, 0, none⟩) len c2, .slice a len cap] w5 fun e w' => e = .returned (.bool true) ∧ w' = w5) := hidden (by
    refine kept_eq g len c2 a cap zs w5 HOK.out (by omega) hc2 (fun i hi => ?_) (HRd.out.later HB2.out)
    exact cellLater HB12.out (HCE.out i hi))
  have HX1 := HX.out
  have HX2 := HX7.out
  unfold HdAt at HX1 HX2
  dsimp only at HX1 HX2
  obtain ⟨k0, k1, k2, k3, k4, k5, k6, k7, -⟩ := HX1
  obtain ⟨l0, l1, l2, l3, l4, l5, l6, l7, -⟩ := HX2
  have r1 : (E == E) = true := by simp
  have r2 : (AT == AT) = true := by simp
  clear HX HX7 HCE HB1 HB12 HOK HZL
  go_wp2_with (first | (go_at_call 13; refine (num7 _ _).mono ?_; rintro e w9 ⟨rfl, hw⟩; obtain rfl := hw.symm) | (go_at_call 14; refine HKp.out.mono ?_; rintro e w9 ⟨rfl, hw⟩; obtain rfl := hw.symm) | (go_at_call 9; refine (HL.out _).mono ?_; rintro e w9 ⟨rfl, hb⟩) | fail)
  go_ret
  exact ⟨rfl, HB2.out.trans (hb.mono HB2.out.size)⟩
end Go.Proofs.Ytcfmmkhfhbnmbaa
