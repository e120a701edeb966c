/- The walk of HeaderBack: what is made says what it was made of. -/
import Derived.Test.YtcfmmkhfhbnmbaaH7l
namespace Go.Proofs.Ytcfmmkhfhbnmbaa
open Go.RowKit
set_option maxHeartbeats 1000000
set_option maxRecDepth 100000
set_option linter.unusedVariables false

theorem back_bad (v ram ext en st start tab sm : Int) (a : Option Addr) (L cap : Nat) (w : World) (hL : L ≤ 65536) (E AT : Int) (eR : numR v ram ext en st start tab (36 + L) = (E, AT)) (hE : E ≠ 0) :
    Calls Try.prog 6 #[.agg #[.int .u32 v, .int .u32 ram, .int .u32 ext, .int .u32 en, .int .u32 st, .int .u32 start, .int .u32 tab, .int .u32 sm], .slice a L cap] w fun e w' => e = .returned (.bool true) ∧ Below w.heap.size w w' := by
  have HL := hidden live_any
  have HM := hidden fun w2 => make_bad v ram ext en st start tab sm a L cap w2 (by omega) E AT eR hE
  have g1 : (L : Int) ≤ 65536 := by omega
  have hE' : (E != 0) = true := by simpa using hE
  have hb1 : Below w.heap.size w (w.alloc (.cells #[.int .u32 v, .int .u32 ram, .int .u32 ext, .int .u32 en, .int .u32 st, .int .u32 start, .int .u32 tab, .int .u32 sm] 27)) := (Below.refl _ _).alloc (Nat.le_refl _) _
  clear eR hE
  go_enter Try.func6, Try.ntmps6
  go_wp2_with (first | (go_at_call 17; refine (HM.out _).mono ?_; rintro e w2 ⟨rfl, hb2⟩) | (go_at_call 13; refine (num7 _ _).mono ?_; rintro e w9 ⟨rfl, hw⟩; obtain rfl := hw.symm) | (go_at_call 9; refine (HL.out _).mono ?_; rintro e w3 ⟨rfl, hb3⟩) | fail)
  go_ret
  have hb4 := hb1.trans (hb2.mono (by simp))
  exact ⟨rfl, hb4.trans (hb3.mono hb4.size)⟩
theorem back_big (v ram ext en st start tab sm : Int) (a : Option Addr) (L cap : Nat) (w : World) (hL : 65536 < L) (h63 : L ≤ 9223372036854775807) :
    Calls Try.prog 6 #[.agg #[.int .u32 v, .int .u32 ram, .int .u32 ext, .int .u32 en, .int .u32 st, .int .u32 start, .int .u32 tab, .int .u32 sm], .slice a L cap] w fun e w' => e = .returned (.bool true) ∧ Below w.heap.size w w' := by
  have HL := hidden live_any
  have g1 : (65536 : Int) < (L : Int) := by omega
  have hb1 : Below w.heap.size w (w.alloc (.cells #[.int .u32 v, .int .u32 ram, .int .u32 ext, .int .u32 en, .int .u32 st, .int .u32 start, .int .u32 tab, .int .u32 sm] 27)) := (Below.refl _ _).alloc (Nat.le_refl _) _
  go_enter Try.func6, Try.ntmps6
  go_wp2_with (go_at_call 9; refine (HL.out _).mono ?_; rintro e w3 ⟨rfl, hb3⟩)
  go_ret
  exact ⟨rfl, hb1.trans (hb3.mono (by simp))⟩
theorem back_good (v ram ext en st start tab sm : Int) (ok : OkH ⟨v, ram, ext, en, st, start, tab, sm⟩) (a : Option Addr) (L cap : Nat) (zs : List Int) (w : World) (hr : Reads w a L cap zs) (hz : OkB zs) (hL : L ≤ 65536) (AT : Int) (eR : numR v ram ext en st start tab (36 + L) = (0, AT)) :
    Calls Try.prog 6 #[.agg #[.int .u32 v, .int .u32 ram, .int .u32 ext, .int .u32 en, .int .u32 st, .int .u32 start, .int .u32 tab, .int .u32 sm], .slice a L cap] w fun e w' => e = .returned (.bool true) ∧ Below w.heap.size w w' := by
  have hzl := hr.1
  have HL := hidden live_any
  have g1 : (L : Int) ≤ 65536 := by omega
  have hb1 : Below w.heap.size w (w.alloc (.cells #[.int .u32 v, .int .u32 ram, .int .u32 ext, .int .u32 en, .int .u32 st, .int .u32 start, .int .u32 tab, .int .u32 sm] 27)) := (Below.refl _ _).alloc (Nat.le_refl _) _
  have HM := hidden (make_good v ram ext en st start tab sm a L cap zs _ (hr.later hb1) hz (by omega) AT eR)
  have HX := hidden (hd_fresh w ⟨v, ram, ext, en, st, start, tab, sm⟩)
  have hpm : parseH (makeL ⟨v, ram, ext, en, st, start, tab, sm⟩ zs) = (⟨v, ram, ext, en, st, start, tab, sumV (hdrL ⟨v, ram, ext, en, st, start, tab, sm⟩ ++ zs)⟩, 0, 36) := make_parse ⟨v, ram, ext, en, st, start, tab, sm⟩ zs ok (by omega) (by show (numR v ram ext en st start tab (36 + (zs.length : Int))).1 = 0; rw [hzl, eR])
  have hsm := make_sum ⟨v, ram, ext, en, st, start, tab, sm⟩ zs
  have hok := makeL_ok ⟨v, ram, ext, en, st, start, tab, sm⟩ zs hz
  have hdr : (makeL ⟨v, ram, ext, en, st, start, tab, sm⟩ zs).drop 36 = zs := List.drop_left' (hdrL_len _)
  have hml : (makeL ⟨v, ram, ext, en, st, start, tab, sm⟩ zs).length = 36 + L := by rw [makeL_len, hzl]
  have HRd := hidden hr
  have HZ := hidden hz
  clear eR ok hr hz
  dsimp only at HX
  generalize makeL ⟨v, ram, ext, en, st, start, tab, sm⟩ zs = M at *
  generalize hSS : sumV (hdrL ⟨v, ram, ext, en, st, start, tab, sm⟩ ++ zs) = S at *
  clear hSS
  go_enter Try.func6, Try.ntmps6
  go_wp2_with (first | (go_at_call 17; refine HM.out.mono ?_; rintro e w2 ⟨r, rfl, ho, hb2⟩; refine Hid.out ?_) | fail)
  obtain ⟨g, c, rfl, hc, hgB⟩ := owned_shape ho (by omega)
  have HGB : Hid (w.heap.size ≠ g) := hidden (by simp at hgB; omega)
  clear hgB
  have hB2 : Below w.heap.size w w2 := hb1.trans (hb2.mono (by simp))
  have HBs := hidden (own_bs ho)
  replace HX := hidden (hd_of hb2 HX.out)
  have HP := hidden (parse_any (some ⟨g, 0, none⟩) (36 + L) c M w2 (HBs.out.reads c hc) hok (by omega))
  rw [hpm] at HP
  dsimp only at HP
  have HB := hidden hB2
  clear hb1 hb2 ho HM hB2 hpm
  have hn : (36 : Int) + (L : Int) = ((36 + L : Nat) : Int) := by omega
  have HN := hidden hn
  clear hn
  generalize hnn : 36 + L = n at *
  refine hidden ?_
  go_wp2_with (first | (go_at_call 13; refine (num7 _ _).mono ?_; rintro e w9 ⟨rfl, hw⟩; obtain rfl := hw.symm) | (go_at_call 11; refine HP.out.mono ?_; rintro e w3 ⟨rfl, hb3⟩; refine Hid.out ?_) | fail)
  replace HX := hidden (hd_of hb3 HX.out)
  have HLT := hidden (hd_lt HX.out)
  replace HBs := hidden (HBs.out.later hb3)
  replace HB := hidden (HB.out.trans (hb3.mono HB.out.size))
  clear hb3 HP
  refine hidden ?_
  go_upto_region 7 with fail
  change Code.wp _ _ _ _ (w3.alloc (.cells #[.int .u32 v, .int .u32 ram, .int .u32 ext, .int .u32 en, .int .u32 st, .int .u32 start, .int .u32 tab, .int .u32 S] 27))
  have H7 := hidden (hd_fresh w3 ⟨v, ram, ext, en, st, start, tab, S⟩)
  have hb4 : Below w3.heap.size w3 (w3.alloc (.cells #[.int .u32 v, .int .u32 ram, .int .u32 ext, .int .u32 en, .int .u32 st, .int .u32 start, .int .u32 tab, .int .u32 S] 27)) := (Below.refl _ _).alloc (Nat.le_refl _) _
  replace HX := hidden (hd_of hb4 HX.out)
  replace HBs := hidden (HBs.out.later hb4)
  replace HB := hidden (HB.out.trans (hb4.mono HB.out.size))
  clear hb4
  have hne : w.heap.size < w3.heap.size ∨ True := Or.inr trivial
  clear hne
  have HNE : Hid (w.heap.size ≠ w3.heap.size) := hidden fun e => by
    have h1 := hd_lt HX.out
    have h2 := World.block_lt_of_cell? _ _ H7.out.1
    have h3 := HLT.out
    omega
  generalize hB7 : w3.heap.size = B7 at *
  generalize w3.alloc (.cells #[.int .u32 v, .int .u32 ram, .int .u32 ext, .int .u32 en, .int .u32 st, .int .u32 start, .int .u32 tab, .int .u32 S] 27) = w4 at *
  have HSu := hidden (hsum_some g 0 n c M w4 HBs.out hok hc (by omega))
  rw [hsm] at HSu
  have HX1 := HX.out
  unfold HdAt at HX1
  dsimp only at HX1
  obtain ⟨k0, k1, k2, k3, k4, k5, k6, k7, f0, f1, f2, f3, f4, f5, f6, f7⟩ := HX1
  generalize hB1 : w.heap.size = B1 at *
  have hs4 : B1 < w4.heap.size := World.block_lt_of_cell? _ _ k0
  go_upto_region 8 with (first | (go_at_call 15; refine HSu.out.mono ?_; rintro e w9 ⟨rfl, hw⟩; obtain rfl := hw.symm) | fail)
  change Code.wp _ _ _ _ (w4.setCell ⟨B1, 7, none⟩ (.int .u32 S))
  have o1 : ∀ (j : Nat), (7 : Nat) ≠ j → (w4.setCell ⟨B1, 7, none⟩ (.int .u32 S)).cell? ⟨B1, j, none⟩ = w4.cell? ⟨B1, j, none⟩ := fun j hj => World.cell?_setCell_other _ _ _ _ (fun h => hj (congrArg Addr.off h))
  have o2 : ∀ (b j : Nat), B1 ≠ b → (w4.setCell ⟨B1, 7, none⟩ (.int .u32 S)).cell? ⟨b, j, none⟩ = w4.cell? ⟨b, j, none⟩ := fun b j hb => World.cell?_setCell_other _ _ _ _ (fun h => hb (congrArg Addr.block h))
  have m0 := (o1 0 (by decide)).trans k0
  have m1 := (o1 1 (by decide)).trans k1
  have m2 := (o1 2 (by decide)).trans k2
  have m3 := (o1 3 (by decide)).trans k3
  have m4 := (o1 4 (by decide)).trans k4
  have m5 := (o1 5 (by decide)).trans k5
  have m6 := (o1 6 (by decide)).trans k6
  have m7 : (w4.setCell ⟨B1, 7, none⟩ (.int .u32 S)).cell? ⟨B1, 7, none⟩ = some (.int .u32 S) := World.cell?_setCell_same _ _ _ k7
  have H71 := H7.out
  unfold HdAt at H71
  dsimp only at H71
  obtain ⟨l0, l1, l2, l3, l4, l5, l6, l7, -⟩ := H71
  have n0 := (o2 B7 0 HNE.out).trans l0
  have n1 := (o2 B7 1 HNE.out).trans l1
  have n2 := (o2 B7 2 HNE.out).trans l2
  have n3 := (o2 B7 3 HNE.out).trans l3
  have n4 := (o2 B7 4 HNE.out).trans l4
  have n5 := (o2 B7 5 HNE.out).trans l5
  have n6 := (o2 B7 6 HNE.out).trans l6
  have n7 := (o2 B7 7 HNE.out).trans l7
  have HBs5 : Hid (Bs (w4.setCell ⟨B1, 7, none⟩ (.int .u32 S)) g 0 n M) := hidden ⟨HBs.out.1, fun i hi => (o2 g (0 + i) HGB.out).trans (HBs.out.2 i hi)⟩
  have HR5 : Hid (Reads (w4.setCell ⟨B1, 7, none⟩ (.int .u32 S)) a L cap zs) := hidden (by
    obtain ⟨q1, q2, q3⟩ := HRd.out
    refine ⟨q1, q2, ?_⟩
    rcases q3 with q3 | ⟨x, rfl, q3⟩
    · exact .inl q3
    · refine .inr ⟨x, rfl, fun i hi => ?_⟩
      have hq := q3 i hi
      have hlt : (x.add i).block < B1 := by rw [← hB1]; exact World.block_lt_of_cell? _ _ hq
      rw [World.cell?_setCell_other _ _ _ _ (fun h => by have := congrArg Addr.block h; simp only at this; omega)]
      exact (HB.out.cell (by rw [← hB1]; exact World.block_lt_of_cell? _ _ hq)).trans hq)
  replace HB := hidden (HB.out.setCell (p := ⟨B1, 7, none⟩) (Nat.le_refl _) (.int .u32 S))
  clear o1 o2 k0 k1 k2 k3 k4 k5 k6 k7 f0 f1 f2 f3 f4 f5 f6 f7 l0 l1 l2 l3 l4 l5 l6 l7 hs4 HX H7 HBs HSu HRd
  generalize w4.setCell ⟨B1, 7, none⟩ (.int .u32 S) = w5 at *
  by_cases hc36 : c = 36
  · have hn36 : n = 36 := by omega
    have hcv1 : ∀ wx, Below w5.heap.size w5 wx → (convert 22 9 (.slice (some ⟨g, 0, none⟩) 0 0)).run Try.prog wx = .ok (.string ⟨(strB zs).toArray⟩) wx := fun wx hx => by
      have h0 : zs = [] := List.eq_nil_of_length_eq_zero (by omega)
      rw [h0]
      exact conv_reads wx _ _ _ [] (fun c hc => by cases hc) ⟨rfl, Nat.le_refl _, .inr ⟨_, rfl, fun i hi => by omega⟩⟩
    have hcv2 : ∀ wx, Below w5.heap.size w5 wx → (convert 22 9 (.slice a L cap)).run Try.prog wx = .ok (.string ⟨(strB zs).toArray⟩) wx := fun wx hx => conv_reads wx _ _ _ zs HZ.out (HR5.out.later hx)
    generalize strB zs = Z at *
    have HK : Hid (∀ wx, Below w5.heap.size w5 wx → ((fun w' => w'.cell? ⟨B7, 0, none⟩ = some (.int .u32 v) ∧ w'.cell? ⟨B7, 1, none⟩ = some (.int .u32 ram) ∧ w'.cell? ⟨B7, 2, none⟩ = some (.int .u32 ext) ∧ w'.cell? ⟨B7, 3, none⟩ = some (.int .u32 en) ∧ w'.cell? ⟨B7, 4, none⟩ = some (.int .u32 st) ∧ w'.cell? ⟨B7, 5, none⟩ = some (.int .u32 start) ∧ w'.cell? ⟨B7, 6, none⟩ = some (.int .u32 tab) ∧ w'.cell? ⟨B7, 7, none⟩ = some (.int .u32 S) ∧ w'.cell? ⟨B1, 0, none⟩ = some (.int .u32 v) ∧ w'.cell? ⟨B1, 1, none⟩ = some (.int .u32 ram) ∧ w'.cell? ⟨B1, 2, none⟩ = some (.int .u32 ext) ∧ w'.cell? ⟨B1, 3, none⟩ = some (.int .u32 en) ∧ w'.cell? ⟨B1, 4, none⟩ = some (.int .u32 st) ∧ w'.cell? ⟨B1, 5, none⟩ = some (.int .u32 start) ∧ w'.cell? ⟨B1, 6, none⟩ = some (.int .u32 tab) ∧ w'.cell? ⟨B1, 7, none⟩ = some (.int .u32 S) ∧ (convert 22 9 (.slice (some ⟨g, 0, none⟩) 0 0)).run Try.prog w' = .ok (.string ⟨Z.toArray⟩) w' ∧ (convert 22 9 (.slice a L cap)).run Try.prog w' = .ok (.string ⟨Z.toArray⟩) w') wx)) := hidden fun wx hx => ⟨cellLater hx n0, cellLater hx n1, cellLater hx n2, cellLater hx n3, cellLater hx n4, cellLater hx n5, cellLater hx n6, cellLater hx n7, cellLater hx m0, cellLater hx m1, cellLater hx m2, cellLater hx m3, cellLater hx m4, cellLater hx m5, cellLater hx m6, cellLater hx m7, hcv1 wx hx, hcv2 wx hx⟩
    have HLV : Hid (∀ wx, Below w5.heap.size w5 wx → Calls Try.prog 9 #[] wx fun e w' => e = .returned (.bool true) ∧ Below w5.heap.size w5 w') := hidden fun wx hx => (live_any wx).mono (by rintro e w' ⟨rfl, hb⟩; exact ⟨rfl, hx.trans (hb.mono hx.size)⟩)
    have jw : IntKind.i64.wrap (36 + (L : Int)) = 36 + (L : Int) := by rw [IntKind.wrap_i64]; omega
    have j5 : ((n : Int) == 36 + (L : Int)) = true := by simp; omega
    have j6 : ((36 : Int) == 36 + (L : Int)) = true := by simp; omega
    have j7 : ¬ (n : Int) < 36 := by omega
    clear hcv1 hcv2 HBs5 HR5 n0 n1 n2 n3 n4 n5 n6 n7 m0 m1 m2 m3 m4 m5 m6 m7 HZ hdr hml hzl hsm HL
    first | (go_region_held3 (fun w' => w'.cell? ⟨B7, 0, none⟩ = some (.int .u32 v) ∧ w'.cell? ⟨B7, 1, none⟩ = some (.int .u32 ram) ∧ w'.cell? ⟨B7, 2, none⟩ = some (.int .u32 ext) ∧ w'.cell? ⟨B7, 3, none⟩ = some (.int .u32 en) ∧ w'.cell? ⟨B7, 4, none⟩ = some (.int .u32 st) ∧ w'.cell? ⟨B7, 5, none⟩ = some (.int .u32 start) ∧ w'.cell? ⟨B7, 6, none⟩ = some (.int .u32 tab) ∧ w'.cell? ⟨B7, 7, none⟩ = some (.int .u32 S) ∧ w'.cell? ⟨B1, 0, none⟩ = some (.int .u32 v) ∧ w'.cell? ⟨B1, 1, none⟩ = some (.int .u32 ram) ∧ w'.cell? ⟨B1, 2, none⟩ = some (.int .u32 ext) ∧ w'.cell? ⟨B1, 3, none⟩ = some (.int .u32 en) ∧ w'.cell? ⟨B1, 4, none⟩ = some (.int .u32 st) ∧ w'.cell? ⟨B1, 5, none⟩ = some (.int .u32 start) ∧ w'.cell? ⟨B1, 6, none⟩ = some (.int .u32 tab) ∧ w'.cell? ⟨B1, 7, none⟩ = some (.int .u32 S) ∧ (convert 22 9 (.slice (some ⟨g, 0, none⟩) 0 0)).run Try.prog w' = .ok (.string ⟨Z.toArray⟩) w' ∧ (convert 22 9 (.slice a L cap)).run Try.prog w' = .ok (.string ⟨Z.toArray⟩) w') (first | assumption | exact HK.out _ (Below.refl _ _) | exact HK.out _ (Below.refl _ _).drew | exact HK.out _ (by assumption)) (first | (go_at_call 13; refine (num7 _ _).mono ?_; rintro e w9 ⟨rfl, hw⟩; obtain rfl := hw.symm) | (go_at_call 9; refine (HLV.out _ (by first | exact Below.refl _ _ | exact (Below.refl _ _).drew)).mono ?_; rintro e w9 ⟨rfl, hb9⟩) | fail)) | fail
    all_goals go_wp2
    all_goals go_ret
    all_goals exact ⟨rfl, by rw [hB1]; exact HB.out.trans (hb9.mono (by have := HB.out.size; omega))⟩
  · have hdummy : True := trivial
    have hcv1 : ∀ wx, Below w5.heap.size w5 wx → (convert 22 9 (.slice (some ⟨g, 36, none⟩) (n - 36) (c - 36))).run Try.prog wx = .ok (.string ⟨(strB zs).toArray⟩) wx := fun wx hx => by
      have h1 := (HBs5.out.later hx).sub 36 (n - 36) (c - 36) (by omega) (by omega)
      have h2 : seg M 36 (n - 36) = zs := by
        unfold seg
        rw [hdr]
        exact List.take_of_length_le (by omega)
      rw [h2, Nat.zero_add] at h1
      exact conv_reads wx _ _ _ zs HZ.out h1
    have hcv2 : ∀ wx, Below w5.heap.size w5 wx → (convert 22 9 (.slice a L cap)).run Try.prog wx = .ok (.string ⟨(strB zs).toArray⟩) wx := fun wx hx => conv_reads wx _ _ _ zs HZ.out (HR5.out.later hx)
    generalize strB zs = Z at *
    have HK : Hid (∀ wx, Below w5.heap.size w5 wx → ((fun w' => w'.cell? ⟨B7, 0, none⟩ = some (.int .u32 v) ∧ w'.cell? ⟨B7, 1, none⟩ = some (.int .u32 ram) ∧ w'.cell? ⟨B7, 2, none⟩ = some (.int .u32 ext) ∧ w'.cell? ⟨B7, 3, none⟩ = some (.int .u32 en) ∧ w'.cell? ⟨B7, 4, none⟩ = some (.int .u32 st) ∧ w'.cell? ⟨B7, 5, none⟩ = some (.int .u32 start) ∧ w'.cell? ⟨B7, 6, none⟩ = some (.int .u32 tab) ∧ w'.cell? ⟨B7, 7, none⟩ = some (.int .u32 S) ∧ w'.cell? ⟨B1, 0, none⟩ = some (.int .u32 v) ∧ w'.cell? ⟨B1, 1, none⟩ = some (.int .u32 ram) ∧ w'.cell? ⟨B1, 2, none⟩ = some (.int .u32 ext) ∧ w'.cell? ⟨B1, 3, none⟩ = some (.int .u32 en) ∧ w'.cell? ⟨B1, 4, none⟩ = some (.int .u32 st) ∧ w'.cell? ⟨B1, 5, none⟩ = some (.int .u32 start) ∧ w'.cell? ⟨B1, 6, none⟩ = some (.int .u32 tab) ∧ w'.cell? ⟨B1, 7, none⟩ = some (.int .u32 S) ∧ (convert 22 9 (.slice (some ⟨g, 36, none⟩) (n - 36) (c - 36))).run Try.prog w' = .ok (.string ⟨Z.toArray⟩) w' ∧ (convert 22 9 (.slice a L cap)).run Try.prog w' = .ok (.string ⟨Z.toArray⟩) w') wx)) := hidden fun wx hx => ⟨cellLater hx n0, cellLater hx n1, cellLater hx n2, cellLater hx n3, cellLater hx n4, cellLater hx n5, cellLater hx n6, cellLater hx n7, cellLater hx m0, cellLater hx m1, cellLater hx m2, cellLater hx m3, cellLater hx m4, cellLater hx m5, cellLater hx m6, cellLater hx m7, hcv1 wx hx, hcv2 wx hx⟩
    have HLV : Hid (∀ wx, Below w5.heap.size w5 wx → Calls Try.prog 9 #[] wx fun e w' => e = .returned (.bool true) ∧ Below w5.heap.size w5 w') := hidden fun wx hx => (live_any wx).mono (by rintro e w' ⟨rfl, hb⟩; exact ⟨rfl, hx.trans (hb.mono hx.size)⟩)
    have j1 : ¬ c = 36 := hc36
    have j2 : (36 : Int) ≤ (c : Int) := by omega
    have j3 : (36 : Int) ≤ (n : Int) := by omega
    have j4 : (n : Int) ≤ (c : Int) := by omega
    have j5 : ((n : Int) == 36 + (L : Int)) = true := by simp; omega
    clear hcv1 hcv2 HBs5 HR5 n0 n1 n2 n3 n4 n5 n6 n7 m0 m1 m2 m3 m4 m5 m6 m7 HZ hdr hml hzl hsm HL
    have jw : IntKind.i64.wrap (36 + (L : Int)) = 36 + (L : Int) := by rw [IntKind.wrap_i64]; omega
    first | (go_region_held3 (fun w' => w'.cell? ⟨B7, 0, none⟩ = some (.int .u32 v) ∧ w'.cell? ⟨B7, 1, none⟩ = some (.int .u32 ram) ∧ w'.cell? ⟨B7, 2, none⟩ = some (.int .u32 ext) ∧ w'.cell? ⟨B7, 3, none⟩ = some (.int .u32 en) ∧ w'.cell? ⟨B7, 4, none⟩ = some (.int .u32 st) ∧ w'.cell? ⟨B7, 5, none⟩ = some (.int .u32 start) ∧ w'.cell? ⟨B7, 6, none⟩ = some (.int .u32 tab) ∧ w'.cell? ⟨B7, 7, none⟩ = some (.int .u32 S) ∧ w'.cell? ⟨B1, 0, none⟩ = some (.int .u32 v) ∧ w'.cell? ⟨B1, 1, none⟩ = some (.int .u32 ram) ∧ w'.cell? ⟨B1, 2, none⟩ = some (.int .u32 ext) ∧ w'.cell? ⟨B1, 3, none⟩ = some (.int .u32 en) ∧ w'.cell? ⟨B1, 4, none⟩ = some (.int .u32 st) ∧ w'.cell? ⟨B1, 5, none⟩ = some (.int .u32 start) ∧ w'.cell? ⟨B1, 6, none⟩ = some (.int .u32 tab) ∧ w'.cell? ⟨B1, 7, none⟩ = some (.int .u32 S) ∧ (convert 22 9 (.slice (some ⟨g, 36, none⟩) (n - 36) (c - 36))).run Try.prog w' = .ok (.string ⟨Z.toArray⟩) w' ∧ (convert 22 9 (.slice a L cap)).run Try.prog w' = .ok (.string ⟨Z.toArray⟩) w') (first | assumption | exact HK.out _ (Below.refl _ _) | exact HK.out _ (Below.refl _ _).drew | exact HK.out _ (by assumption)) (first | (go_at_call 13; refine (num7 _ _).mono ?_; rintro e w9 ⟨rfl, hw⟩; obtain rfl := hw.symm) | (go_at_call 9; refine (HLV.out _ (by first | exact Below.refl _ _ | exact (Below.refl _ _).drew)).mono ?_; rintro e w9 ⟨rfl, hb9⟩) | fail)) | fail
    all_goals go_wp2
    all_goals go_ret
    all_goals exact ⟨rfl, by rw [hB1]; exact HB.out.trans (hb9.mono (by have := HB.out.size; omega))⟩
theorem headerBack_walk (v ram ext en st start tab sm : Int) (a : Option Addr) (L cap : Nat) (zs : List Int) (w : World) (ok : OkH ⟨v, ram, ext, en, st, start, tab, sm⟩) (h : IsRow .u8 w a L cap zs) :
    Calls Try.prog 6 #[.agg #[.int .u32 v, .int .u32 ram, .int .u32 ext, .int .u32 en, .int .u32 st, .int .u32 start, .int .u32 tab, .int .u32 sm], .slice a L cap] w fun e w' => e = .returned (.bool true) ∧ Below w.heap.size w w' := by
  obtain ⟨r1, r2, r3⟩ := reads_of_row h
  by_cases hL : 65536 < L
  · exact back_big v ram ext en st start tab sm a L cap w hL r3
  · by_cases hE : (numR v ram ext en st start tab (36 + L)).1 = 0
    · exact back_good v ram ext en st start tab sm ok a L cap _ w r1 r2 (by omega) (numR v ram ext en st start tab (36 + L)).2 (Prod.ext hE rfl)
    · exact back_bad v ram ext en st start tab sm a L cap w (by omega) _ _ rfl hE
end Go.Proofs.Ytcfmmkhfhbnmbaa
