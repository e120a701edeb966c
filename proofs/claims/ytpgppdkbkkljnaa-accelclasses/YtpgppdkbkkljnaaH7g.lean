/- Contracts of package header's checkNumbers and Parse for any bytes. -/
import Derived.Test.YtpgppdkbkkljnaaH7d
import Derived.Test.YtpgppdkbkkljnaaH7f
import Derived.Test.YtpgppdkbkkljnaaH7b
namespace Go.Proofs.Ytpgppdkbkkljnaa
open Go.RowKit
set_option maxHeartbeats 1000000
set_option maxRecDepth 100000
set_option linter.unusedVariables false

theorem cnum_any (v ram ext en st start tab sm size : Int) (w : World) (z0 : 0 ≤ size) (z1 : size ≤ 1048576) :
    Calls Try.prog 58 #[.agg #[.int .u32 v, .int .u32 ram, .int .u32 ext, .int .u32 en, .int .u32 st, .int .u32 start, .int .u32 tab, .int .u32 sm], .int .i64 size] w fun e w' => e = .returned (.tuple #[.int .i64 (numR v ram ext en st start tab size).1, .int .i64 (numR v ram ext en st start tab size).2]) ∧ Below w.heap.size w w' := by
  by_cases c0 : v < 131072
  · have e : numR v ram ext en st start tab size = (70, 4) := by unfold numR; rw [if_pos (by omega)]
    rw [e]
    exact cnum_0 v ram ext en st start tab sm size w z0 z1 c0
  by_cases c1 : 197119 < v
  · have e : numR v ram ext en st start tab size = (70, 4) := by unfold numR; rw [if_pos (by omega)]
    rw [e]
    exact cnum_1 v ram ext en st start tab sm size w z0 z1 (by omega) c1
  by_cases c2 : ram < 256
  · have e : numR v ram ext en st start tab size = (71, 8) := by unfold numR; rw [if_neg (by omega)]; rw [if_pos (by omega)]
    rw [e]
    exact cnum_2 v ram ext en st start tab sm size w z0 z1 (by omega) (by omega) c2
  by_cases c3 : ram % 256 ≠ 0
  · have e : numR v ram ext en st start tab size = (71, 8) := by unfold numR; rw [if_neg (by omega)]; rw [if_pos (by omega)]
    rw [e]
    exact cnum_3 v ram ext en st start tab sm size w z0 z1 (by omega) (by omega) (by omega) (by omega)
  by_cases c4 : ext < ram
  · have e : numR v ram ext en st start tab size = (71, 12) := by unfold numR; rw [if_neg (by omega)]; rw [if_neg (by omega)]; rw [if_pos (by omega)]
    rw [e]
    exact cnum_4 v ram ext en st start tab sm size w z0 z1 (by omega) (by omega) (by omega) (by omega) c4
  by_cases c5 : ext ≠ size
  · have e : numR v ram ext en st start tab size = (71, 12) := by unfold numR; rw [if_neg (by omega)]; rw [if_neg (by omega)]; rw [if_pos (by omega)]
    rw [e]
    exact cnum_5 v ram ext en st start tab sm size w z0 z1 (by omega) (by omega) (by omega) (by omega) (by omega) c5
  by_cases c6 : ext % 256 ≠ 0
  · have e : numR v ram ext en st start tab size = (71, 12) := by unfold numR; rw [if_neg (by omega)]; rw [if_neg (by omega)]; rw [if_pos (by omega)]
    rw [e]
    exact cnum_6 v ram ext en st start tab sm size w z0 z1 (by omega) (by omega) (by omega) (by omega) (by omega) (by omega) (by omega)
  by_cases c7 : en < ext
  · have e : numR v ram ext en st start tab size = (71, 16) := by unfold numR; rw [if_neg (by omega)]; rw [if_neg (by omega)]; rw [if_neg (by omega)]; rw [if_pos (by omega)]
    rw [e]
    exact cnum_7 v ram ext en st start tab sm size w z0 z1 (by omega) (by omega) (by omega) (by omega) (by omega) (by omega) (by omega) c7
  by_cases c8 : 1048576 < en
  · have e : numR v ram ext en st start tab size = (71, 16) := by unfold numR; rw [if_neg (by omega)]; rw [if_neg (by omega)]; rw [if_neg (by omega)]; rw [if_pos (by omega)]
    rw [e]
    exact cnum_8 v ram ext en st start tab sm size w z0 z1 (by omega) (by omega) (by omega) (by omega) (by omega) (by omega) (by omega) (by omega) c8
  by_cases c9 : en % 256 ≠ 0
  · have e : numR v ram ext en st start tab size = (71, 16) := by unfold numR; rw [if_neg (by omega)]; rw [if_neg (by omega)]; rw [if_neg (by omega)]; rw [if_pos (by omega)]
    rw [e]
    exact cnum_9 v ram ext en st start tab sm size w z0 z1 (by omega) (by omega) (by omega) (by omega) (by omega) (by omega) (by omega) (by omega) (by omega) (by omega)
  by_cases c10 : st = 0
  · have e : numR v ram ext en st start tab size = (72, 20) := by unfold numR; rw [if_neg (by omega)]; rw [if_neg (by omega)]; rw [if_neg (by omega)]; rw [if_neg (by omega)]; rw [if_pos (by omega)]
    rw [e]
    exact cnum_10 v ram ext en st start tab sm size w z0 z1 (by omega) (by omega) (by omega) (by omega) (by omega) (by omega) (by omega) (by omega) (by omega) (by omega) c10
  by_cases c11 : 65536 < st
  · have e : numR v ram ext en st start tab size = (72, 20) := by unfold numR; rw [if_neg (by omega)]; rw [if_neg (by omega)]; rw [if_neg (by omega)]; rw [if_neg (by omega)]; rw [if_pos (by omega)]
    rw [e]
    exact cnum_11 v ram ext en st start tab sm size w z0 z1 (by omega) (by omega) (by omega) (by omega) (by omega) (by omega) (by omega) (by omega) (by omega) (by omega) (by omega) c11
  by_cases c12 : st % 256 ≠ 0
  · have e : numR v ram ext en st start tab size = (72, 20) := by unfold numR; rw [if_neg (by omega)]; rw [if_neg (by omega)]; rw [if_neg (by omega)]; rw [if_neg (by omega)]; rw [if_pos (by omega)]
    rw [e]
    exact cnum_12 v ram ext en st start tab sm size w z0 z1 (by omega) (by omega) (by omega) (by omega) (by omega) (by omega) (by omega) (by omega) (by omega) (by omega) (by omega) (by omega) (by omega)
  by_cases c13 : start < 36
  · have e : numR v ram ext en st start tab size = (71, 24) := by unfold numR; rw [if_neg (by omega)]; rw [if_neg (by omega)]; rw [if_neg (by omega)]; rw [if_neg (by omega)]; rw [if_neg (by omega)]; rw [if_pos (by omega)]
    rw [e]
    exact cnum_13 v ram ext en st start tab sm size w z0 z1 (by omega) (by omega) (by omega) (by omega) (by omega) (by omega) (by omega) (by omega) (by omega) (by omega) (by omega) (by omega) (by omega) c13
  by_cases c14 : en ≤ start
  · have e : numR v ram ext en st start tab size = (71, 24) := by unfold numR; rw [if_neg (by omega)]; rw [if_neg (by omega)]; rw [if_neg (by omega)]; rw [if_neg (by omega)]; rw [if_neg (by omega)]; rw [if_pos (by omega)]
    rw [e]
    exact cnum_14 v ram ext en st start tab sm size w z0 z1 (by omega) (by omega) (by omega) (by omega) (by omega) (by omega) (by omega) (by omega) (by omega) (by omega) (by omega) (by omega) (by omega) (by omega) c14
  by_cases c15 : en ≤ tab
  · have e : numR v ram ext en st start tab size = (71, 28) := by unfold numR; rw [if_neg (by omega)]; rw [if_neg (by omega)]; rw [if_neg (by omega)]; rw [if_neg (by omega)]; rw [if_neg (by omega)]; rw [if_neg (by omega)]; rw [if_pos (by omega)]
    rw [e]
    exact cnum_15 v ram ext en st start tab sm size w z0 z1 (by omega) (by omega) (by omega) (by omega) (by omega) (by omega) (by omega) (by omega) (by omega) (by omega) (by omega) (by omega) (by omega) (by omega) (by omega) c15
  have e : numR v ram ext en st start tab size = (0, 0) := by unfold numR; rw [if_neg (by omega)]; rw [if_neg (by omega)]; rw [if_neg (by omega)]; rw [if_neg (by omega)]; rw [if_neg (by omega)]; rw [if_neg (by omega)]; rw [if_neg (by omega)]
  rw [e]
  exact cnum_16 v ram ext en st start tab sm size w z0 z1 (by omega) (by omega) (by omega) (by omega) (by omega) (by omega) (by omega) (by omega) (by omega) (by omega) (by omega) (by omega) (by omega) (by omega) (by omega) (by omega)
theorem parse_bad (a : Option Addr) (L cap : Nat) (zs : List Int) (w : World) (h : Reads w a L cap zs) (hb : OkB zs) (hm : L ≤ 9223372036854775807) (hne : (cbytesR zs).1 ≠ 0) :
    Calls Try.prog 40 #[.slice a L cap] w fun e w' => e = .returned (.tuple #[.agg #[.int .u32 0, .int .u32 0, .int .u32 0, .int .u32 0, .int .u32 0, .int .u32 0, .int .u32 0, .int .u32 0], .int .i64 (cbytesR zs).1, .int .i64 (cbytesR zs).2]) ∧ Below w.heap.size w w' := by
  have hb1 : Below w.heap.size w (w.alloc (.cells #[.int .u32 0, .int .u32 0, .int .u32 0, .int .u32 0, .int .u32 0, .int .u32 0, .int .u32 0, .int .u32 0] 70)) := (Below.refl _ _).alloc (Nat.le_refl _) _
  have HC := hidden (cbytes_any a L cap zs _ (h.later hb1) hb hm)
  have hne' : ((cbytesR zs).1 != 0) = true := by simpa using hne
  generalize (cbytesR zs).1 = E at *
  generalize (cbytesR zs).2 = AT at *
  clear hne h
  go_enter Try.func40, Try.ntmps40
  go_wp2_with fail
  refine HC.out.mono ?_
  rintro e w2 ⟨rfl, hb2⟩
  have HZ := hidden (hd_of hb2 (hd_zero w))
  have HB := hidden (hb1.trans (hb2.mono (by simp)))
  have HZ1 := HZ.out
  unfold HdAt hd0 at HZ1
  obtain ⟨k0, k1, k2, k3, k4, k5, k6, k7, f0, f1, f2, f3, f4, f5, f6, f7⟩ := HZ1
  have hs2 : w.heap.size < w2.heap.size := World.block_lt_of_cell? _ _ k0
  clear hb2 HC hb1
  generalize hB : w.heap.size = B at *
  go_wp2
  change bodyPost _ _ _ _ _ (set8 w2 B hd0)
  have hbl := set8_below _ _ B hd0 (HB.out) (Nat.le_refl _)
  have HZ2 := set8_at w2 B _ hd0 HZ.out
  generalize set8 w2 B hd0 = w8 at *
  unfold HdAt at HZ2
  obtain ⟨r0, r1, r2, r3, r4, r5, r6, r7, -⟩ := HZ2
  unfold hd0 at *
  refine bodyPost_ret (v := .tuple #[.agg #[.int .u32 0, .int .u32 0, .int .u32 0, .int .u32 0, .int .u32 0, .int .u32 0, .int .u32 0, .int .u32 0], .int .i64 E, .int .i64 AT]) (by simp [results, Try.results40, go_sem, r0, r1, r2, r3, r4, r5, r6, r7]) rfl ⟨rfl, ?_⟩
  first | exact hbl | (rw [hB]; exact hbl)

theorem parse_good (g o L cap : Nat) (zs : List Int) (w : World) (h : Bs w g o L zs) (hb : OkB zs) (hcap : L ≤ cap) (hL : 36 ≤ L) (hm : L ≤ 1048576) (hc : cbytesR zs = (0, 0)) (v4 v8 v12 v16 v20 v24 v28 v32 SV E AT : Int)
    (e4 : beV zs 4 4 = v4) (e8 : beV zs 8 4 = v8) (e12 : beV zs 12 4 = v12) (e16 : beV zs 16 4 = v16) (e20 : beV zs 20 4 = v20) (e24 : beV zs 24 4 = v24) (e28 : beV zs 28 4 = v28) (e32 : beV zs 32 4 = v32) (eS : sumV zs = SV) (eR : numR v4 v8 v12 v16 v20 v24 v28 L = (E, AT)) :
    Calls Try.prog 40 #[.slice (some ⟨g, o, none⟩) L cap] w fun e w' => Below w.heap.size w w' ∧
      (E ≠ 0 → e = .returned (.tuple #[.agg #[.int .u32 0, .int .u32 0, .int .u32 0, .int .u32 0, .int .u32 0, .int .u32 0, .int .u32 0, .int .u32 0], .int .i64 E, .int .i64 AT])) ∧
      (E = 0 → v32 ≠ SV → e = .returned (.tuple #[.agg #[.int .u32 0, .int .u32 0, .int .u32 0, .int .u32 0, .int .u32 0, .int .u32 0, .int .u32 0, .int .u32 0], .int .i64 73, .int .i64 32])) ∧
      (E = 0 → v32 = SV → e = .returned (.tuple #[.agg #[.int .u32 v4, .int .u32 v8, .int .u32 v12, .int .u32 v16, .int .u32 v20, .int .u32 v24, .int .u32 v28, .int .u32 v32], .int .i64 0, .int .i64 36])) := by
  have hb1 : Below w.heap.size w (w.alloc (.cells #[.int .u32 0, .int .u32 0, .int .u32 0, .int .u32 0, .int .u32 0, .int .u32 0, .int .u32 0, .int .u32 0] 70)) := (Below.refl _ _).alloc (Nat.le_refl _) _
  have HC := hidden (cbytes_any (some ⟨g, o, none⟩) L cap zs _ ((h.reads cap hcap).later hb1) hb (by omega))
  rw [hc] at HC
  have hgB : Hid (¬ w.heap.size = g) := hidden fun e => by
    have := World.block_lt_of_cell? _ _ (h.2 0 (by omega))
    have h3 : g < w.heap.size := this
    omega
  have HW := hidden h
  have gL : (L : Int) ≤ 1048576 := by omega
  have gL0 : (36 : Int) ≤ (L : Int) := by omega
  have HRD := hidden fun w2 h2 => readn_any g o L cap zs w2 h2 hb hcap hL (by omega)
  have HSM := hidden fun w2 h2 => hsum_some g o L cap zs w2 h2 hb hcap (by omega)
  have HN := hidden fun w2 => cnum_any v4 v8 v12 v16 v20 v24 v28 v32 L w2 (by omega) gL
  rw [e4, e8, e12, e16, e20, e24, e28, e32] at HRD
  rw [eS] at HSM
  rw [eR] at HN
  clear hc h hb e4 e8 e12 e16 e20 e24 e28 e32 eS eR
  go_enter Try.func40, Try.ntmps40
  go_wp2_with fail
  refine HC.out.mono ?_
  rintro e w2 ⟨rfl, hb2⟩
  have HZ := hidden (hd_of hb2 (hd_zero w))
  have HB := hidden (hb1.trans (hb2.mono (by simp)))
  have HS := hidden ((HW.out.later hb1).later hb2)
  have HRd := hidden (HRD.out w2 HS.out)
  clear hb2 HC hb1
  go_wp2_with fail
  refine HRd.out.mono ?_
  rintro e w3 ⟨rfl, hb3⟩
  replace HZ := hidden (hd_of hb3 HZ.out)
  replace HB := hidden (HB.out.trans (hb3.mono HB.out.size))
  replace HS := hidden (HS.out.later hb3)
  have HZ1 := HZ.out
  unfold HdAt hd0 at HZ1
  obtain ⟨k0, k1, k2, k3, k4, k5, k6, k7, f0, f1, f2, f3, f4, f5, f6, f7⟩ := HZ1
  have hs2 : w.heap.size < w3.heap.size := World.block_lt_of_cell? _ _ k0
  clear hb3 HRd HW HRD
  generalize hB : w.heap.size = B at *
  go_upto_region 5 with fail
  change Code.wp _ _ _ _ (set8 w3 B ⟨v4, v8, v12, v16, v20, v24, v28, v32⟩)
  have HB4 := hidden (set8_below _ _ B ⟨v4, v8, v12, v16, v20, v24, v28, v32⟩ HB.out (Nat.le_refl _))
  have HZ4 := hidden (set8_at w3 B _ ⟨v4, v8, v12, v16, v20, v24, v28, v32⟩ HZ.out)
  have HS4 := hidden (set8_bs HS.out B ⟨v4, v8, v12, v16, v20, v24, v28, v32⟩ hgB.out)
  clear k0 k1 k2 k3 k4 k5 k6 k7 f0 f1 f2 f3 f4 f5 f6 f7 hs2 HB HZ HS
  generalize set8 w3 B ⟨v4, v8, v12, v16, v20, v24, v28, v32⟩ = w4 at *
  clear w3 w2
  have HZ1 := HZ4.out
  unfold HdAt at HZ1
  obtain ⟨k0, k1, k2, k3, k4, k5, k6, k7, f0, f1, f2, f3, f4, f5, f6, f7⟩ := HZ1
  go_wp2_with fail
  refine (HN.out _).mono ?_
  rintro e w5 ⟨rfl, hb5⟩
  replace HZ4 := hidden (hd_of hb5 HZ4.out)
  replace HS4 := hidden (HS4.out.later hb5)
  replace HB4 := hidden (HB4.out.trans (hb5.mono (by have := HB4.out.size; omega)))
  clear k0 k1 k2 k3 k4 k5 k6 k7 f0 f1 f2 f3 f4 f5 f6 f7 hb5 HN
  have HZ1 := HZ4.out
  unfold HdAt at HZ1
  obtain ⟨k0, k1, k2, k3, k4, k5, k6, k7, f0, f1, f2, f3, f4, f5, f6, f7⟩ := HZ1
  have hs5 : B < w5.heap.size := World.block_lt_of_cell? _ _ k0
  by_cases hE : E = 0
  · have HSm : Hid (∀ n, Calls Try.prog 59 #[.slice (some ⟨g, o, none⟩) L cap] (w5.drewN n) fun e w' => e = .returned (.int .u32 SV) ∧ w' = w5.drewN n) := hidden fun n => HSM.out _ (HS4.out.later (below_drewN (Below.refl _ _) n))
    subst hE
    go_upto_region 8 with fail
    go_quiet (first | (go_at_call 59; exact Calls.quiet_of_same (HSm.out _)))
    replace HZ4 := hidden (hd_of (below_drewN (Below.refl _ _) nq) HZ4.out)
    replace HB4 := hidden (below_drewN HB4.out nq)
    clear k0 k1 k2 k3 k4 k5 k6 k7 f0 f1 f2 f3 f4 f5 f6 f7 hs5 HSm HS4 HSM
    generalize w5.drewN nq = w6 at *
    have HZ1 := HZ4.out
    unfold HdAt at HZ1
    obtain ⟨k0, k1, k2, k3, k4, k5, k6, k7, f0, f1, f2, f3, f4, f5, f6, f7⟩ := HZ1
    have hs5 : B < w6.heap.size := World.block_lt_of_cell? _ _ k0
    by_cases hsum : v32 = SV
    · have d1 : (v32 != SV) = false := by simpa using hsum
      have HE := hidden hsum
      clear hsum
      go_wp2
      change bodyPost _ _ _ _ _ (set8 w6 B ⟨v4, v8, v12, v16, v20, v24, v28, v32⟩)
      have hbl := set8_below _ _ B ⟨v4, v8, v12, v16, v20, v24, v28, v32⟩ (HB4.out) (Nat.le_refl _)
      have HZ2 := set8_at w6 B _ ⟨v4, v8, v12, v16, v20, v24, v28, v32⟩ HZ4.out
      generalize set8 w6 B ⟨v4, v8, v12, v16, v20, v24, v28, v32⟩ = w8 at *
      unfold HdAt at HZ2
      obtain ⟨r0, r1, r2, r3, r4, r5, r6, r7, -⟩ := HZ2
      refine bodyPost_ret (v := .tuple #[.agg #[.int .u32 v4, .int .u32 v8, .int .u32 v12, .int .u32 v16, .int .u32 v20, .int .u32 v24, .int .u32 v28, .int .u32 v32], .int .i64 0, .int .i64 36]) (by simp [results, Try.results40, go_sem, r0, r1, r2, r3, r4, r5, r6, r7]) rfl ⟨?_, fun h => absurd HE.out h, fun _ => rfl⟩
      first | exact hbl | (rw [hB]; exact hbl)

    · have d1 : (v32 != SV) = true := by simpa using hsum
      have HE := hidden hsum
      clear hsum
      go_wp2
      change bodyPost _ _ _ _ _ (set8 w6 B hd0)
      have hbl := set8_below _ _ B hd0 (HB4.out) (Nat.le_refl _)
      have HZ2 := set8_at w6 B _ hd0 HZ4.out
      generalize set8 w6 B hd0 = w8 at *
      unfold HdAt at HZ2
      obtain ⟨r0, r1, r2, r3, r4, r5, r6, r7, -⟩ := HZ2
      unfold hd0 at *
      refine bodyPost_ret (v := .tuple #[.agg #[.int .u32 0, .int .u32 0, .int .u32 0, .int .u32 0, .int .u32 0, .int .u32 0, .int .u32 0, .int .u32 0], .int .i64 73, .int .i64 32]) (by simp [results, Try.results40, go_sem, r0, r1, r2, r3, r4, r5, r6, r7]) rfl ⟨?_, fun _ => rfl, fun h => absurd h HE.out⟩
      first | exact hbl | (rw [hB]; exact hbl)

  · have d1 : (E != 0) = true := by simpa using hE
    have HE := hidden hE
    clear hE
    go_wp2
    change bodyPost _ _ _ _ _ (set8 w5 B hd0)
    have hbl := set8_below _ _ B hd0 (HB4.out) (Nat.le_refl _)
    have HZ2 := set8_at w5 B _ hd0 HZ4.out
    generalize set8 w5 B hd0 = w8 at *
    unfold HdAt at HZ2
    obtain ⟨r0, r1, r2, r3, r4, r5, r6, r7, -⟩ := HZ2
    unfold hd0 at *
    refine bodyPost_ret (v := .tuple #[.agg #[.int .u32 0, .int .u32 0, .int .u32 0, .int .u32 0, .int .u32 0, .int .u32 0, .int .u32 0, .int .u32 0], .int .i64 E, .int .i64 AT]) (by simp [results, Try.results40, go_sem, r0, r1, r2, r3, r4, r5, r6, r7]) rfl ⟨?_, fun _ => rfl, fun h => absurd h HE.out, fun h => absurd h HE.out⟩
    first | exact hbl | (rw [hB]; exact hbl)

/-- what Parse answers of any bytes -/
theorem parse_any (a : Option Addr) (L cap : Nat) (zs : List Int) (w : World) (h : Reads w a L cap zs) (hb : OkB zs) (hm : L ≤ 9223372036854775807) :
    Calls Try.prog 40 #[.slice a L cap] w fun e w' => e = .returned (.tuple #[hdV (parseH zs).1, .int .i64 (parseH zs).2.1, .int .i64 (parseH zs).2.2]) ∧ Below w.heap.size w w' := by
  have hl := h.1
  by_cases hc : (cbytesR zs).1 = 0
  · have hc2 : ¬ 1048576 < zs.length ∧ zs.take 4 = glul.take zs.length ∧ ¬ zs.length < 36 := by
      unfold cbytesR at hc
      split at hc
      · exact absurd hc (by decide)
      · rename_i h1
        split at hc
        · exact absurd hc (by decide)
        · rename_i h2
          split at hc
          · exact absurd hc (by show ¬ (2 : Int) = 0; decide)
          · rename_i h3
            exact ⟨h1, Classical.not_not.1 h2, h3⟩
    obtain ⟨h1, h2, h3⟩ := hc2
    have hc3 : cbytesR zs = (0, 0) := by
      unfold cbytesR
      rw [if_neg h1, if_neg (not_not_intro h2), if_neg h3]
    obtain ⟨g, o, rfl, hB⟩ := h.bs (by omega)
    have hP : parseH zs = if (numH (readH zs) L).1 ≠ 0 then (hd0, (numH (readH zs) L).1, (numH (readH zs) L).2) else if beV zs 32 4 ≠ sumV zs then (hd0, 73, 32) else (readH zs, 0, 36) := by
      unfold parseH
      rw [if_neg h1, if_neg (not_not_intro h2), if_neg h3, hl]
    have hg := parse_good g o L cap zs w hB hb h.2.1 (by omega) (by omega) hc3 _ _ _ _ _ _ _ _ _ (numH (readH zs) L).1 (numH (readH zs) L).2 rfl rfl rfl rfl rfl rfl rfl rfl rfl rfl
    refine hg.mono ?_
    rintro e w' ⟨b1, p1, p2, p3⟩
    refine ⟨?_, b1⟩
    rw [hP]
    by_cases c1 : (numH (readH zs) L).1 ≠ 0
    · rw [if_pos c1]; exact p1 c1
    · have c1' := Classical.not_not.1 c1
      rw [if_neg c1]
      by_cases c2 : beV zs 32 4 ≠ sumV zs
      · rw [if_pos c2]; exact p2 c1' c2
      · rw [if_neg c2]; exact p3 c1' (Classical.not_not.1 c2)
  · have hP : parseH zs = (hd0, (cbytesR zs).1, (cbytesR zs).2) := by
      unfold parseH
      unfold cbytesR at hc ⊢
      split
      · rfl
      · split
        · rfl
        · split
          · rfl
          · rename_i h1 h2 h3
            rw [if_neg h1, if_neg h2, if_neg h3] at hc
            exact absurd rfl hc
    rw [hP]
    exact parse_bad a L cap zs w h hb hm hc
end Go.Proofs.Ytpgppdkbkkljnaa
