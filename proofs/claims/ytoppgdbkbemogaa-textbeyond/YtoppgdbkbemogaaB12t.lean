/- The walk of TextBeyond: what lies behind the memory's end has no part. -/
import Derived.Test.YtoppgdbkbemogaaB12s
namespace Go.Proofs.Ytoppgdbkbemogaa
open Go.RowKit
set_option maxHeartbeats 1000000
set_option maxRecDepth 100000
set_option linter.unusedVariables false

theorem textBeyond_walk (a : Option Addr) (n c : Nat) (zs0 : List Int) (tb ad : Int) (a2 : Option Addr) (n2 c2 : Nat) (ys0 : List Int) (w : World) (hr0 : IsRow .u8 w a n c zs0 ∧ n ≤ 281474976710656) (ht : (Lit.int .u32 tb).wf = true) (ha : (Lit.int .u32 ad).wf = true) (hs0 : IsRow .u8 w a2 n2 c2 ys0 ∧ n2 ≤ 281474976710656) :
    Calls Try.prog 7 #[.slice a n c, .int .u32 tb, .int .u32 ad, .slice a2 n2 c2] w fun e w' => e = .returned (.bool true) ∧ Below w.heap.size w w' := by
  have HLV : Hid (∀ w1, Below w.heap.size w w1 → Calls Try.prog 9 #[] w1 fun e w' => e = .returned (.bool true) ∧ Below w.heap.size w w') := fun w1 hb => (live_any w1).mono (fun e w' hh => ⟨hh.1, hb.trans (hh.2.mono hb.size)⟩)
  obtain ⟨hr, hok, hl63⟩ := reads_of_row hr0.1
  obtain ⟨hs, hok2, hl632⟩ := reads_of_row hs0.1
  obtain ⟨t0, t1⟩ := bounds_u32 ht
  obtain ⟨d0, d1⟩ := bounds_u32 ha
  obtain ⟨T, rfl⟩ := Int.eq_ofNat_of_zero_le t0
  obtain ⟨AD, rfl⟩ := Int.eq_ofNat_of_zero_le d0
  generalize zs0.take n = zs at *
  generalize ys0.take n2 = ys at *
  have hrl := hr0.2
  have hsl := hs0.2
  clear hr0 hs0 ht ha t0 d0
  by_cases hbig : 16384 < n + n2
  · have hw : IntKind.i64.wrap ((n : Int) + (n2 : Int)) = (n : Int) + (n2 : Int) := by rw [IntKind.wrap_i64]; omega
    have g1 : (16384 : Int) < (n : Int) + (n2 : Int) := by omega
    have hb0 : Below w.heap.size w w := Below.refl _ _
    go_enter Try.func7, Try.ntmps7
    go_wp2_with (first | (go_at_call 9; refine (HLV.out _ hb0).mono ?_; rintro e wl ⟨rfl, hbl⟩))
    go_ret
    exact ⟨rfl, hbl⟩
  have hw : IntKind.i64.wrap ((n : Int) + (n2 : Int)) = (n : Int) + (n2 : Int) := by rw [IntKind.wrap_i64]; omega
  have g1 : ¬ (16384 : Int) < (n : Int) + (n2 : Int) := by omega
  have hm : Mem w a n c zs := ⟨hr, hok, by omega⟩
  have HP1 := hidden (tplainT_any 300 AD T a n c zs w hm (by omega) (by omega) (by omega) (by omega))
  have e300 : (300 : Int).toNat = 300 := rfl
  rw [e300] at HP1
  have HP2 : Hid (∀ (w1 : World) (g cc : Nat), w1.ownsRow w.heap.size 5 1 (.slice (some ⟨g, 0, none⟩) (n + n2) cc) (n + n2) (bytesV (zs ++ ys)) → Calls Try.prog 18 #[.slice (some ⟨g, 0, none⟩) (n + n2) cc, .int .u32 T, .int .u32 AD, .int .i64 300] w1 (PlRet w1 (PlR (zs ++ ys) T AD 300))) := fun w1 g cc ho => by
    have h := tplainT_any 300 AD T (some ⟨g, 0, none⟩) (n + n2) cc (zs ++ ys) w1 ⟨own_reads ho, append_bd _ _ hok hok2, by omega⟩ (by omega) (by omega) (by omega) (by omega)
    rw [e300] at h
    exact h
  have HRD := hidden hr
  have HSD := hidden hs
  clear hm hr hs hok hok2 e300
  go_enter Try.func7, Try.ntmps7
  go_upto_region 5 with (first
    | (go_at_call 18; (with_reducible refine HP1.out.mono ?_); intro x w1 hh; obtain ⟨r, wh, e, a3, c3, rfl, hR1, ho1, hb1, hx1⟩ := hh; have HR1 := hidden hR1; have HV1 := hidden (own32_v ho1 hx1); have HB1 := hidden hb1; have HRL := hidden (own_le ho1); clear hR1 ho1 hb1 hx1)
    | (at_builtin; refine wpList_copyOf (w0 := w1) rfl _ _ rfl n c a zs rfl rfl (HRD.out.later HB1.out) (by omega) ?_; intro g4 c4 w4 ho4 hb4; have HO4 := hidden ho4; have HB4 := hidden hb4; have HZ4 : Hid (w1.heap.size ≤ w4.heap.size) := hb4.size; have HS4 := hidden ((HSD.out.later HB1.out).later hb4); clear ho4 hb4)
    | (at_builtin; refine wpList_appR rfl _ _ rfl w1.heap.size g4 n c4 n2 c2 a2 zs ys rfl rfl HO4.out HS4.out (by omega) HZ4.out ?_; intro g5 c5 w5 ho5 f5; have HB5 := hidden (HB4.out.trans (f5.out.below HZ4.out (fun k e => (HO4.out.lt k e).1))); have HQ5 := hidden (HP2.out w5 g5 c5 (own_base ho5 HB1.out.size)); clear ho5 f5)
    | (go_at_call 18; refine HQ5.out.mono ?_; intro x w6 hh; obtain ⟨r2, wh2, e2, a6, c6, rfl, hR6, ho6, hb6, hx6⟩ := hh; have HR6 := hidden hR6; have HV6 := hidden (own32_v ho6 hx6); have HB6 := hidden (HB5.out.trans (hb6.mono HB5.out.size)); clear hR6 ho6 hb6 hx6))
  have HV1' := hidden (HV1.out.later HB6.out)
  have HBW := hidden (HB1.out.trans (HB6.out.mono HB1.out.size))
  by_cases he : e = 90
  · subst he
    have e90 : ((90 : Nat) : Int) = 90 := rfl
    rw [e90]
    go_wp2_with (first | (go_at_call 15; refine (num12 _ _).mono ?_; rintro e w9 ⟨rfl, e9⟩; rw [e9]; clear e9) | (go_at_call 9; refine (HLV.out _ HBW.out).mono ?_; rintro e wl ⟨rfl, hbl⟩))
    go_ret
    exact ⟨rfl, hbl⟩
  · obtain ⟨q1, q2, q3⟩ := plr_det (plr_app zs ys HR1.out he) HR6.out
    subst q1 q2 q3
    have he2 : ((e : Int) == 90) = false := by simp; omega
    have HWD : Hid (Calls Try.prog 16 #[.slice a3 r.length c3, .slice a6 r.length c6] w6 fun x w' => x = .returned (.bool true) ∧ Hid (Below w.heap.size w w')) := (words_any a3 a6 _ _ c3 c6 r r w6 HV1'.out HV6.out (by have := plr_len HR1.out; omega)).mono (fun x w' hh => ⟨by rw [hh.1]; simp, HBW.out.trans (hh.2.below.mono HBW.out.size)⟩)
    clear HR1 HR6
    cases wh
    all_goals (
      go_wp2_with (first | (go_at_call 15; refine (num12 _ _).mono ?_; rintro x w9 ⟨rfl, e9⟩; rw [e9]; clear e9) | (go_at_call 16; refine HWD.out.mono ?_; rintro x w7 ⟨rfl, HB7⟩) | (go_at_call 9; refine (HLV.out _ HB7.out).mono ?_; rintro x wl ⟨rfl, hbl⟩))
      go_ret
      exact ⟨rfl, hbl⟩)
end Go.Proofs.Ytoppgdbkbemogaa
