/- The walk of BlorbCuts: a container that is cut is none, for any resources and any place. -/
import Derived.Test.YtfoijglhifffjaaX6q
namespace Go.Proofs.Ytfoijglhifffjaa
open Go.RowKit
set_option maxHeartbeats 1000000
set_option maxRecDepth 100000
set_option linter.unusedVariables false

theorem bs_take {w : World} {g o L : Nat} {zs : List Int} (h : Bs w g o L zs) (n : Nat) (hn : n ≤ L) : Bs w g o n (zs.take n) := by
  refine ⟨by rw [List.length_take, h.1]; omega, fun i hi => ?_⟩
  rw [h.2 i (by omega)]
  simp [List.getD_eq_getElem?_getD, hi]
theorem blorbCuts_walk (a : Option Addr) (len cap : Nat) (rs : List Rk) (cut : Int) (w : World) (h : IsRks w a len cap rs) (hcw : (Lit.int .i64 cut).wf = true) : Calls Try.prog 6 #[.slice a len cap, .int .i64 cut] w fun e w' => e = .returned (.bool true) ∧ Below w.heap.size w w' := by
  have HL := hidden live_any
  have HH := hidden (huge6 600 a len cap rs w h (by decide))
  have HC := hidden h.1
  have hlen := h.1.1
  clear h
  go_enter Try.func6, Try.ntmps6
  go_wp2_with fail
  refine HH.out.mono ?_
  rintro e w1 ⟨rfl | ⟨rfl, hl2, ht2⟩, hb1⟩
  · have HB := hidden hb1
    clear hb1
    go_wp2_with (go_at_call 7; refine (HL.out _).mono ?_; rintro e w9 ⟨rfl, hb⟩)
    go_ret
    exact ⟨rfl, HB.out.trans (hb.mono HB.out.size)⟩
  have hsz : sizes (rs.map ckOf) ≤ 900000 := by have := totR_sizes rs; omega
  have HB := hidden hb1
  have HC1 := hidden (HC.out.later hb1)
  have HLa := hidden (lay_any a len cap rs w1 HC1.out (by omega) hsz)
  clear hb1 HH
  go_wp2_with fail
  refine HLa.out.mono ?_
  rintro e w2 ⟨hb2, ⟨hne, rfl⟩ | ⟨hz, v, rfl, ho⟩⟩
  · have hne2 : (checkR rs != 0) = true := by simpa using hne
    generalize checkR rs = E at *
    have HB2 := hidden (HB.out.trans (hb2.mono HB.out.size))
    clear hb2 HLa HB
    go_wp2_with (first | (go_at_call 12; refine (num6 _ _).mono ?_; rintro e w9 ⟨rfl, hw⟩; obtain rfl := hw.symm) | (go_at_call 7; refine (HL.out _).mono ?_; rintro e w9 ⟨rfl, hb⟩))
    go_ret
    exact ⟨rfl, HB2.out.trans (hb.mono HB2.out.size)⟩
  have hlo := layOk_of HC1.out hz hsz
  have hZl := layS_len hlo
  have hZb := hlo.2.2.2
  have hZ5 := hlo.2.1
  have hL9 : (layS (rs.map srOf)).length ≤ 1000012 := by omega
  obtain ⟨g, c, rfl, hgc, hgb⟩ := owned_shape ho (by omega)
  have hB := own_bs ho
  have HB2 := hidden (HB.out.trans (hb2.mono HB.out.size))
  have hTi : ((layS (rs.map srOf)).length : Int) ≤ 1000012 := by omega
  clear hb2 HLa HB ho
  by_cases hneg : cut < 0
  · clear hB hlo hZl
    generalize (layS (rs.map srOf)).length = T at *
    go_wp2_with (first | (go_at_call 12; refine (num6 _ _).mono ?_; rintro e w9 ⟨rfl, hw⟩; obtain rfl := hw.symm) | (go_at_call 7; refine (HL.out _).mono ?_; rintro e w9 ⟨rfl, hb⟩))
    go_ret
    exact ⟨rfl, HB2.out.trans (hb.mono HB2.out.size)⟩
  by_cases hbig : ((layS (rs.map srOf)).length : Int) ≤ cut
  · clear hB hlo hZl
    generalize (layS (rs.map srOf)).length = T at *
    go_wp2_with (first | (go_at_call 12; refine (num6 _ _).mono ?_; rintro e w9 ⟨rfl, hw⟩; obtain rfl := hw.symm) | (go_at_call 7; refine (HL.out _).mono ?_; rintro e w9 ⟨rfl, hb⟩))
    go_ret
    exact ⟨rfl, HB2.out.trans (hb.mono HB2.out.size)⟩
  obtain ⟨k, rfl⟩ := Int.eq_ofNat_of_zero_le (show 0 ≤ cut by omega)
  have hk : k < (layS (rs.map srOf)).length := by omega
  obtain ⟨r1, r2, r3, r4, r5⟩ := cut_lay hlo k hk
  have hBk := bs_take hB k (by omega)
  have hokk : OkB ((layS (rs.map srOf)).take k) := fun x hx => layS_ok hlo x (List.mem_of_mem_take hx)
  have HRd := hidden (read_any g 0 k c _ w2 hBk hokk (by omega) (by omega))
  have HGm : Hid (∀ wx, Below w2.heap.size w2 wx → Calls Try.prog 17 #[.slice (some ⟨g, 0, none⟩) k c] wx (GRet wx (gameR ((layS (rs.map srOf)).take k)))) := hidden fun wx hb => game_any g 0 k c _ wx (hBk.later hb) hokk (by omega) (by omega)
  have hkc : (k : Int) ≤ (c : Int) := by omega
  have hk0 : ¬ (k : Int) < 0 := by omega
  have hki : (k : Int) ≤ 1000012 := by omega
  clear hB hBk hokk hZl hlo hz r1
  generalize hRR : readR ((layS (rs.map srOf)).take k) = RR at *
  generalize hGG : gameR ((layS (rs.map srOf)).take k) = GG at *
  clear hRR hGG
  generalize (layS (rs.map srOf)).length = T at *
  have hbig2 : ¬ (T : Int) ≤ (k : Int) := by omega
  go_wp2_with (go_at_call 12; refine (num6 _ _).mono ?_; rintro e w9 ⟨rfl, hw⟩; obtain rfl := hw.symm)
  refine HRd.out.mono ?_
  rintro e w3 ⟨hb3, hcase⟩
  obtain rfl : e = .returned (.tuple #[.slice none 0 0, .int .i64 RR.2.1, .int .i64 RR.2.2]) := by
    rcases hcase with ⟨-, h⟩ | ⟨hz, -⟩
    · exact h
    · exact absurd hz r2
  have HB3 := hidden (HB2.out.trans (hb3.mono HB2.out.size))
  have HGm3 := hidden (HGm.out w3 hb3)
  clear hcase hb3 HRd HGm HB2
  go_wp2_with fail
  refine HGm3.out.mono ?_
  rintro e w4 ⟨hb4, hcase⟩
  obtain rfl : e = .returned (.tuple #[.slice none 0 0, .int .i64 GG.2.1, .int .i64 GG.2.2]) := by
    rcases hcase with ⟨-, h⟩ | ⟨hz, -⟩
    · exact h
    · exact absurd hz r3
  have HB4 := hidden (HB3.out.trans (hb4.mono HB3.out.size))
  clear hcase hb4 HGm3 HB3
  have s2 : (RR.2.1 != 0) = true := by simpa using r2
  have s3 : (GG.2.1 != 0) = true := by simpa using r3
  by_cases h4 : k < 4
  · have h4i : (k : Int) < 4 := by omega
    have e4 := r4 h4
    clear r2 r3 r4 r5 s3
    rw [e4]
    generalize RR.2.1 = E at *
    generalize RR.2.2 = A1 at *
    generalize GG.2.2 = A2 at *
    go_wp2_with (first | (go_at_call 12; refine (num6 _ _).mono ?_; rintro e w9 ⟨rfl, hw⟩; obtain rfl := hw.symm) | (go_at_call 7; refine (HL.out _).mono ?_; rintro e w9 ⟨rfl, hb⟩))
    go_ret
    exact ⟨rfl, HB4.out.trans (hb.mono HB4.out.size)⟩
  · have h4i : (4 : Int) ≤ (k : Int) := by omega
    have e5 := r5 (by omega)
    rw [e5]
    clear r2 r3 r4 r5 s2 e5
    generalize GG.2.1 = E at *
    generalize RR.2.2 = A1 at *
    generalize GG.2.2 = A2 at *
    go_wp2_with (first | (go_at_call 12; refine (num6 _ _).mono ?_; rintro e w9 ⟨rfl, hw⟩; obtain rfl := hw.symm) | (go_at_call 7; refine (HL.out _).mono ?_; rintro e w9 ⟨rfl, hb⟩))
    go_ret
    exact ⟨rfl, HB4.out.trans (hb.mono HB4.out.size)⟩
end Go.Proofs.Ytfoijglhifffjaa
