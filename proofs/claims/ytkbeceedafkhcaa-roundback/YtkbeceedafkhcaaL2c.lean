/- The walk of RoundBack: what a pattern says has that pattern. -/
import Derived.Test.YtkbeceedafkhcaaL2b
import Derived.Test.YtkbeceedafkhcaaP2n
namespace Go.Proofs.Ytkbeceedafkhcaa
open Go.RowKit
set_option maxHeartbeats 4000000
set_option linter.unusedVariables false

theorem back_bad (a0 b0 a1 : Int) (w : World) (hO : Hid (∀ w, Calls Try.prog 9 #[.agg #[.int .i64 a0, .int .i64 b0], .int .u64 a1] w fun r w' => r = .returned (.tuple #[partsV 0 false 0 0, .int .i64 1]) ∧ Below w.heap.size w w')) :
    Calls Try.prog 5 #[.agg #[.int .i64 a0, .int .i64 b0], .int .u64 a1] w fun r w' => r = .returned (.bool true) ∧ Below w.heap.size w w' := by
  have HL := hidden live_any
  have HM1 := hidden (fun w => num_any 1 w (by decide) (by decide))
  go_enter Try.func5, Try.ntmps5
  go_wp2_with fail
  refine (hO.out _).mono ?_
  rintro r w1 ⟨rfl, hb1⟩
  have HB1 := hidden (box_below _ hb1)
  clear hb1
  go_wp2_with (first | (go_at_call 11; refine (HM1.out _).mono ?_; rintro r w7 ⟨rfl, hw⟩; obtain rfl := hw.symm) | (go_at_call 20; refine (HL.out _).mono ?_; rintro r w4 ⟨rfl, hb4⟩))
  go_ret
  have h := HB1.out.alloc HB1.out.size (.cells #[.int .i64 0, .bool false, .int .i64 0, .int .u64 0] 26)
  exact ⟨rfl, h.trans (hb4.mono h.size)⟩
theorem back_zero (m e : Nat) (a1 : Int) (ng : Bool) (w : World) (hok : okF m e) (hx : a1 = sgnW ng (m + e)) (hO : Hid (∀ w, Calls Try.prog 9 #[fmtV m e, .int .u64 a1] w fun r w' => r = .returned (.tuple #[partsV 1 ng 0 0, .int .i64 0]) ∧ Below w.heap.size w w')) :
    Calls Try.prog 5 #[fmtV m e, .int .u64 a1] w fun r w' => r = .returned (.bool true) ∧ Below w.heap.size w w' := by
  have HL := hidden live_any
  have HM := hidden (fun w => num_any 0 w (by decide) (by decide))
  have HZ := hidden (fun w => pzero_any m e ng w hok)
  rw [← hx] at HZ
  clear hx hok
  go_enter Try.func5, Try.ntmps5
  go_wp2_with fail
  refine (hO.out _).mono ?_
  rintro r w1 ⟨rfl, hb1⟩
  have d0 : w1.cell? ⟨w.heap.size, 0, none⟩ = some (.int .i64 m) := cellLater hb1 (by simp)
  have d1 : w1.cell? ⟨w.heap.size, 1, none⟩ = some (.int .i64 e) := cellLater hb1 (by simp)
  have hlt : w.heap.size < w1.heap.size := World.block_lt_of_cell? _ _ d0
  have HB1 := hidden ((box_below _ hb1).alloc (box_below _ hb1).size (.cells #[.int .i64 1, .bool ng, .int .i64 0, .int .u64 0] 26))
  clear hb1
  go_wp2_with (first | (go_at_call 11; refine (HM.out _).mono ?_; rintro r w7 ⟨rfl, hw⟩; obtain rfl := hw.symm))
  refine (HZ.out _).mono ?_
  rintro r w2 ⟨rfl, hb2⟩
  replace HB1 := hidden (HB1.out.trans (hb2.mono HB1.out.size))
  clear hb2
  go_wp2_with (go_at_call 20; refine (HL.out _).mono ?_; rintro r w4 ⟨rfl, hb4⟩)
  go_ret
  exact ⟨rfl, HB1.out.trans (hb4.mono HB1.out.size)⟩
theorem back_inf (m e : Nat) (a1 : Int) (ng : Bool) (w : World) (hok : okF m e) (hx : a1 = (p2 e - 1) * p2 m + sgnW ng (m + e)) (hO : Hid (∀ w, Calls Try.prog 9 #[fmtV m e, .int .u64 a1] w fun r w' => r = .returned (.tuple #[partsV 3 ng 0 0, .int .i64 0]) ∧ Below w.heap.size w w')) :
    Calls Try.prog 5 #[fmtV m e, .int .u64 a1] w fun r w' => r = .returned (.bool true) ∧ Below w.heap.size w w' := by
  have HL := hidden live_any
  have HM := hidden (fun w => num_any 0 w (by decide) (by decide))
  have HZ := hidden (fun w => pinf_any m e ng w hok)
  rw [← hx] at HZ
  clear hx hok
  go_enter Try.func5, Try.ntmps5
  go_wp2_with fail
  refine (hO.out _).mono ?_
  rintro r w1 ⟨rfl, hb1⟩
  have d0 : w1.cell? ⟨w.heap.size, 0, none⟩ = some (.int .i64 m) := cellLater hb1 (by simp)
  have d1 : w1.cell? ⟨w.heap.size, 1, none⟩ = some (.int .i64 e) := cellLater hb1 (by simp)
  have hlt : w.heap.size < w1.heap.size := World.block_lt_of_cell? _ _ d0
  have HB1 := hidden ((box_below _ hb1).alloc (box_below _ hb1).size (.cells #[.int .i64 3, .bool ng, .int .i64 0, .int .u64 0] 26))
  clear hb1
  go_wp2_with (first | (go_at_call 11; refine (HM.out _).mono ?_; rintro r w7 ⟨rfl, hw⟩; obtain rfl := hw.symm))
  refine (HZ.out _).mono ?_
  rintro r w2 ⟨rfl, hb2⟩
  replace HB1 := hidden (HB1.out.trans (hb2.mono HB1.out.size))
  clear hb2
  go_wp2_with (go_at_call 20; refine (HL.out _).mono ?_; rintro r w4 ⟨rfl, hb4⟩)
  go_ret
  exact ⟨rfl, HB1.out.trans (hb4.mono HB1.out.size)⟩
theorem back_fin (m e : Nat) (a1 E M : Int) (ng : Bool) (w : World) (hok : okF m e) (hx : packP m e M E false + sgnW ng (m + e) = a1) (hM : 0 < M) (hM1 : M ≤ 18446744073709551615) (hE : -4096 ≤ E) (hE1 : E ≤ 4096) (hO : Hid (∀ w, Calls Try.prog 9 #[fmtV m e, .int .u64 a1] w fun r w' => r = .returned (.tuple #[partsV 2 ng E M, .int .i64 0]) ∧ Below w.heap.size w w')) :
    Calls Try.prog 5 #[fmtV m e, .int .u64 a1] w fun r w' => r = .returned (.bool true) ∧ Below w.heap.size w w' := by
  have HL := hidden live_any
  have HM := hidden (fun w => num_any 0 w (by decide) (by decide))
  have HZ := hidden (fun w => ppack_any m e ng false M 0 M E w hok hE hE1 (by omega) (by decide) (by decide) (by omega) hM1 (fun h => by cases h))
  rw [hx] at HZ
  clear hx hok
  go_enter Try.func5, Try.ntmps5
  go_wp2_with fail
  refine (hO.out _).mono ?_
  rintro r w1 ⟨rfl, hb1⟩
  have d0 : w1.cell? ⟨w.heap.size, 0, none⟩ = some (.int .i64 m) := cellLater hb1 (by simp)
  have d1 : w1.cell? ⟨w.heap.size, 1, none⟩ = some (.int .i64 e) := cellLater hb1 (by simp)
  have hlt : w.heap.size < w1.heap.size := World.block_lt_of_cell? _ _ d0
  have HB1 := hidden ((box_below _ hb1).alloc (box_below _ hb1).size (.cells #[.int .i64 2, .bool ng, .int .i64 E, .int .u64 M] 26))
  clear hb1
  go_wp2_with (first | (go_at_call 11; refine (HM.out _).mono ?_; rintro r w7 ⟨rfl, hw⟩; obtain rfl := hw.symm))
  refine (HZ.out _).mono ?_
  rintro r w2 ⟨rfl, hb2⟩
  have c3 : w2.cell? ⟨w1.heap.size, 3, none⟩ = some (.int .u64 M) := cellLater hb2 (by simp)
  replace HB1 := hidden (HB1.out.trans (hb2.mono HB1.out.size))
  clear hb2
  go_wp2_with (first | (go_at_call 11; refine (HM.out _).mono ?_; rintro r w7 ⟨rfl, hw⟩; obtain rfl := hw.symm) | (go_at_call 20; refine (HL.out _).mono ?_; rintro r w4 ⟨rfl, hb4⟩))
  go_ret
  exact ⟨rfl, HB1.out.trans (hb4.mono HB1.out.size)⟩
/-- a fresh box of parts -/
def ZPs (w : World) (b : Nat) : Prop := w.cell? ⟨b, 0, none⟩ = some (.int .i64 0) ∧ w.cell? ⟨b, 1, none⟩ = some (.bool false) ∧ w.cell? ⟨b, 2, none⟩ = some (.int .i64 0) ∧ w.cell? ⟨b, 3, none⟩ = some (.int .u64 0) ∧ w.frozen? ⟨b, 0, none⟩ = false ∧ w.frozen? ⟨b, 1, none⟩ = false ∧ w.frozen? ⟨b, 2, none⟩ = false ∧ w.frozen? ⟨b, 3, none⟩ = false
theorem zp_of {X w2 : World} (hb : Below X.heap.size X w2) (b : Nat) (h : ZPs X b) : ZPs w2 b := by
  obtain ⟨h0, h1, h2, h3, k0, k1, k2, k3⟩ := h
  have hl : b < X.heap.size := World.block_lt_of_cell? _ _ h0
  exact ⟨cellLater hb h0, cellLater hb h1, cellLater hb h2, cellLater hb h3, (hb.frozen hl).trans k0, (hb.frozen hl).trans k1, (hb.frozen hl).trans k2, (hb.frozen hl).trans k3⟩
theorem zp_new {X w2 : World} (hb : Below ((X.alloc (.cells #[.int .i64 0, .bool false, .int .i64 0, .int .u64 0] 26)).drew).heap.size (X.alloc (.cells #[.int .i64 0, .bool false, .int .i64 0, .int .u64 0] 26)).drew w2) : ZPs w2 X.heap.size :=
  zp_of hb X.heap.size (by unfold ZPs; simp)
theorem zp_new2 {X w2 : World} (hb : Below (X.alloc (.cells #[.int .i64 0, .bool false, .int .i64 0, .int .u64 0] 26)).heap.size (X.alloc (.cells #[.int .i64 0, .bool false, .int .i64 0, .int .u64 0] 26)) w2) : ZPs w2 X.heap.size :=
  zp_of hb X.heap.size (by unfold ZPs; simp)
theorem back_nan (m e : Nat) (a1 : Int) (ng : Bool) (w : World) (hok : okF m e) (hO : Hid (∀ w, Calls Try.prog 9 #[fmtV m e, .int .u64 a1] w fun r w' => r = .returned (.tuple #[partsV 4 ng 0 0, .int .i64 0]) ∧ Below w.heap.size w w')) :
    Calls Try.prog 5 #[fmtV m e, .int .u64 a1] w fun r w' => r = .returned (.bool true) ∧ Below w.heap.size w w' := by
  have HL := hidden live_any
  have HM := hidden (fun w => num_any 0 w (by decide) (by decide))
  have HZ := hidden (fun w => pnan_any m e w hok)
  have HP : Hid (∀ w, Calls Try.prog 9 #[fmtV m e, .int .u64 ((p2 e - 1) * p2 m + p2 (m - 1))] w fun r w' => r = .returned (.tuple #[partsV 4 false 0 0, .int .i64 0]) ∧ Below w.heap.size w w') := hidden (fun w => by
    obtain ⟨n0, n1, n2, n3⟩ := nan_kind m e hok
    have h64 := (top_bd m e hok).2.2.1
    have hb := bl_le n0 n1
    have h := popen_any m e _ w hok n0 (by omega) (by omega)
    obtain ⟨k1, k2⟩ := kind_nan m e _ n2
    unfold openV at h
    rw [n2, n3, k1, k2] at h
    exact h)
  generalize (p2 e - 1) * p2 m + p2 (m - 1) = Q at *
  clear hok
  go_enter Try.func5, Try.ntmps5
  go_wp2_with fail
  refine (hO.out _).mono ?_
  rintro r w1 ⟨rfl, hb1⟩
  have d0 : w1.cell? ⟨w.heap.size, 0, none⟩ = some (.int .i64 m) := cellLater hb1 (by simp)
  have d1 : w1.cell? ⟨w.heap.size, 1, none⟩ = some (.int .i64 e) := cellLater hb1 (by simp)
  have hlt : w.heap.size < w1.heap.size := World.block_lt_of_cell? _ _ d0
  have HB1 := hidden ((box_below _ hb1).alloc (box_below _ hb1).size (.cells #[.int .i64 4, .bool ng, .int .i64 0, .int .u64 0] 26))
  clear hb1
  go_wp2_with (first | (go_at_call 11; refine (HM.out _).mono ?_; rintro r w7 ⟨rfl, hw⟩; obtain rfl := hw.symm))
  have e0 : (w1.alloc (.cells #[.int .i64 4, .bool ng, .int .i64 0, .int .u64 0] 26)).cell? ⟨w.heap.size, 0, none⟩ = some (.int .i64 m) := by rw [World.cell?_alloc_lt _ _ _ hlt]; exact d0
  have e1 : (w1.alloc (.cells #[.int .i64 4, .bool ng, .int .i64 0, .int .u64 0] 26)).cell? ⟨w.heap.size, 1, none⟩ = some (.int .i64 e) := by rw [World.cell?_alloc_lt _ _ _ hlt]; exact d1
  generalize w1.alloc (.cells #[.int .i64 4, .bool ng, .int .i64 0, .int .u64 0] 26) = w5 at *
  clear d0 d1
  have n5 : ¬ w5.heap.size = w.heap.size := by
    have hq : w.heap.size < w5.heap.size := World.block_lt_of_cell? _ _ e0
    omega
  go_region_held3 (fun w' => w'.cell? ⟨w.heap.size, 0, none⟩ = some (.int .i64 m) ∧ w'.cell? ⟨w.heap.size, 1, none⟩ = some (.int .i64 e)) (go_keep) (first | (go_at_call 14; refine (HZ.out _).mono ?_; rintro r w2 ⟨rfl, hb2⟩; have f0 : w2.cell? ⟨w.heap.size, 0, none⟩ = some (.int .i64 m) := cellLater hb2 (by go_keep); have f1 : w2.cell? ⟨w.heap.size, 1, none⟩ = some (.int .i64 e) := cellLater hb2 (by go_keep); have n2 : ¬ w2.heap.size = w.heap.size := (by have hq : w.heap.size < w2.heap.size := World.block_lt_of_cell? _ _ f0; omega); (first | (have zz := zp_new hb2; obtain ⟨z0, z1, z2, z3, z4, z5, z6, z7⟩ := zz) | (have zz := zp_new2 hb2; obtain ⟨z0, z1, z2, z3, z4, z5, z6, z7⟩ := zz) | skip)) | (go_at_call 9; refine (HP.out _).mono ?_; rintro r w3 ⟨rfl, hb3⟩; have f0 : w3.cell? ⟨w.heap.size, 0, none⟩ = some (.int .i64 m) := cellLater hb3 (by go_keep); have f1 : w3.cell? ⟨w.heap.size, 1, none⟩ = some (.int .i64 e) := cellLater hb3 (by go_keep); (first | (have zz := zp_of hb3 _ ⟨z0, z1, z2, z3, z4, z5, z6, z7⟩; obtain ⟨z0, z1, z2, z3, z4, z5, z6, z7⟩ := zz) | (have zz := zp_new hb3; obtain ⟨z0, z1, z2, z3, z4, z5, z6, z7⟩ := zz) | (have zz := zp_new2 hb3; obtain ⟨z0, z1, z2, z3, z4, z5, z6, z7⟩ := zz) | skip)))
  · have G2 := hidden hb2
    have G3 := hidden hb3
    clear hb2 hb3
    go_wp2_with (first | (go_at_call 11; refine (HM.out _).mono ?_; rintro r w7 ⟨rfl, hw⟩; obtain rfl := hw.symm) | (go_at_call 20; refine (HL.out _).mono ?_; rintro r w4 ⟨rfl, hb4⟩))
    go_ret
    have h5 := HB1.out.drew
    have h2 := h5.trans (G2.out.mono h5.size)
    have h3 := h2.trans (G3.out.mono h2.size)
    have hW := h3.alloc h3.size (.cells #[.int .i64 4, .bool false, .int .i64 0, .int .u64 0] 26)
    exact ⟨rfl, hW.trans (hb4.mono hW.size)⟩
  · have G2 := hidden hb2
    have G3 := hidden hb3
    clear hb2 hb3
    go_wp2_with (first | (go_at_call 11; refine (HM.out _).mono ?_; rintro r w7 ⟨rfl, hw⟩; obtain rfl := hw.symm) | (go_at_call 20; refine (HL.out _).mono ?_; rintro r w4 ⟨rfl, hb4⟩))
    go_ret
    have h5 := HB1.out.drew
    have h2 := h5.trans (G2.out.mono h5.size)
    have h2a := h2.alloc h2.size (.cells #[.int .i64 0, .bool false, .int .i64 0, .int .u64 0] 26)
    have h3 := h2a.trans (G3.out.mono h2a.size)
    have hW := (((h3.setCell (p := ⟨w2.heap.size, 0, none⟩) h2.size (.int .i64 4)).setCell (p := ⟨w2.heap.size, 1, none⟩) h2.size (.bool false)).setCell (p := ⟨w2.heap.size, 2, none⟩) h2.size (.int .i64 0)).setCell (p := ⟨w2.heap.size, 3, none⟩) h2.size (.int .u64 0)
    exact ⟨rfl, hW.trans (hb4.mono hW.size)⟩
  · have G2 := hidden hb2
    have G3 := hidden hb3
    clear hb2 hb3
    go_wp2_with (first | (go_at_call 11; refine (HM.out _).mono ?_; rintro r w7 ⟨rfl, hw⟩; obtain rfl := hw.symm) | (go_at_call 20; refine (HL.out _).mono ?_; rintro r w4 ⟨rfl, hb4⟩))
    go_ret
    have h5 := (HB1.out.alloc HB1.out.size (.cells #[.int .i64 0, .bool false, .int .i64 0, .int .u64 0] 26)).drew
    have h2 := h5.trans (G2.out.mono h5.size)
    have h3 := h2.trans (G3.out.mono h2.size)
    have hs := HB1.out.size
    have hW := (((h3.setCell (p := ⟨w5.heap.size, 0, none⟩) hs (.int .i64 4)).setCell (p := ⟨w5.heap.size, 1, none⟩) hs (.bool false)).setCell (p := ⟨w5.heap.size, 2, none⟩) hs (.int .i64 0)).setCell (p := ⟨w5.heap.size, 3, none⟩) hs (.int .u64 0)
    exact ⟨rfl, hW.trans (hb4.mono hW.size)⟩
theorem roundBack_walk (a0 b0 a1 : Int) (w : World) (w0 : (Lit.int .i64 a0).wf = true) (x0 : (Lit.int .i64 b0).wf = true) (w1 : (Lit.int .u64 a1).wf = true) :
    Calls Try.prog 5 #[.agg #[.int .i64 a0, .int .i64 b0], .int .u64 a1] w fun r w' => r = .returned (.bool true) ∧ Below w.heap.size w w' := by
  have c2 := bounds_u64 w1
  by_cases hok : okF a0 b0
  · obtain ⟨m, rfl⟩ := Int.eq_ofNat_of_zero_le (show 0 ≤ a0 by have := hok.1; omega)
    obtain ⟨e, rfl⟩ := Int.eq_ofNat_of_zero_le (show 0 ≤ b0 by have := hok.2.2.1; omega)
    by_cases hb : 1 + (e : Int) + m < bl a1
    · exact back_bad _ _ a1 w (hidden fun w => popen_big m e a1 w hok c2.1 c2.2 hb)
    · have hb' : bl a1 ≤ 1 + e + m := by omega
      have hO : Hid (∀ w, Calls Try.prog 9 #[fmtV m e, .int .u64 a1] w fun r w' => r = .returned (.tuple #[openV m e a1, .int .i64 0]) ∧ Below w.heap.size w w') := hidden fun w => popen_any m e a1 w hok c2.1 c2.2 (by omega)
      unfold openV at hO
      have he2 : 2 ≤ e := by have := hok.2.2.1; omega
      rcases kind_all m e a1 with h | h | h | h
      · obtain ⟨k1, k2, k3⟩ := kind_zero m e a1 c2.1 hb' h
        rw [h, k1, k2] at hO
        exact back_zero m e a1 _ w hok k3 hO
      · obtain ⟨k1, k2, k3, k4⟩ := kind_fin m e a1 c2.1 hb' he2 h
        rw [h] at hO
        have hm53 : p2 (m + 1) ≤ 9007199254740992 := by rw [show (9007199254740992 : Int) = p2 53 by decide +kernel]; exact p2_mono (by have := hok.2.1; omega)
        have hbb := bias_bd e hok.2.2.1 hok.2.2.2
        have hf := fld_bd m e a1
        have he11 : p2 e ≤ 2048 := by rw [← p2_11]; exact p2_mono (by have := hok.2.2.2; omega)
        have hm52 := hok.2.1
        have hE : -4096 ≤ expI m e a1 ∧ expI m e a1 ≤ 4096 := by
          rcases k4 with k4 | k4 <;> rw [k4]
          · unfold least; omega
          · omega
        exact back_fin m e a1 _ _ _ w hok k1 k2 (by omega) hE.1 hE.2 hO
      · obtain ⟨k1, k2, k3⟩ := kind_inf m e a1 c2.1 hb' h
        rw [h, k1, k2] at hO
        exact back_inf m e a1 _ w hok k3 hO
      · obtain ⟨k1, k2⟩ := kind_nan m e a1 h
        rw [h, k1, k2] at hO
        exact back_nan m e a1 _ w hok hO
  · exact back_bad a0 b0 a1 w (hidden fun w => popen_no a0 b0 a1 w hok)
end Go.Proofs.Ytkbeceedafkhcaa
