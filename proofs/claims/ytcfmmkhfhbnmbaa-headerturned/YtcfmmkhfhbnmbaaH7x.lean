/- The walk of HeaderTurned: a game in which one bit is turned is refused. -/
import Derived.Test.YtcfmmkhfhbnmbaaH7w
import Derived.Test.YtcfmmkhfhbnmbaaH7l
namespace Go.Proofs.Ytcfmmkhfhbnmbaa
open Go.RowKit
set_option maxHeartbeats 1000000
set_option maxRecDepth 100000
set_option linter.unusedVariables false

abbrev hdA (v ram ext en st start tab sm : Int) : Value := .agg #[.int .u32 v, .int .u32 ram, .int .u32 ext, .int .u32 en, .int .u32 st, .int .u32 start, .int .u32 tab, .int .u32 sm]
theorem set_bs {w : World} {g n : Nat} {M : List Int} (h : Bs w g 0 n M) (j : Nat) (Y : Int) (hj : j < n) : Bs ((w.setCell ⟨g, j, none⟩ (.int .u8 Y)).drew) g 0 n (M.set j Y) := by
  refine ⟨by rw [List.length_set]; exact h.1, fun i hi => ?_⟩
  show (w.setCell ⟨g, j, none⟩ (.int .u8 Y)).cell? ⟨g, 0 + i, none⟩ = _
  have hc := h.2 i hi
  rw [Nat.zero_add] at hc ⊢
  rw [getD_set M j Y (by rw [h.1]; exact hj)]
  by_cases e : i = j
  · subst e
    rw [if_pos rfl]
    exact World.cell?_setCell_same _ _ _ hc
  · rw [if_neg e, World.cell?_setCell_other _ _ _ _ (fun q => e (congrArg Addr.off q).symm)]
    exact hc
theorem set_ok {M : List Int} (h : OkB M) (j : Nat) (Y : Int) (y0 : 0 ≤ Y) (y1 : Y ≤ 255) : OkB (M.set j Y) := fun c hc => by
  rcases List.mem_or_eq_of_mem_set hc with q | rfl
  · exact h c q
  · exact ⟨y0, y1⟩
theorem turn_big (v ram ext en st start tab sm : Int) (a : Option Addr) (L cap : Nat) (bit : Int) (w : World) (hL : 65536 < L) (h63 : L ≤ 9223372036854775807) :
    Calls Try.prog 7 #[hdA v ram ext en st start tab sm, .slice a L cap, .int .i64 bit] w fun e w' => e = .returned (.bool true) ∧ Below w.heap.size w w' := by
  have HL := hidden live_any
  have g1 : (65536 : Int) < (L : Int) := by omega
  have hb1 : Below w.heap.size w (w.alloc (.cells #[.int .u32 v, .int .u32 ram, .int .u32 ext, .int .u32 en, .int .u32 st, .int .u32 start, .int .u32 tab, .int .u32 sm] 27)) := (Below.refl _ _).alloc (Nat.le_refl _) _
  go_enter Try.func7, Try.ntmps7
  go_wp2_with (go_at_call 9; refine (HL.out _).mono ?_; rintro e w3 ⟨rfl, hb3⟩)
  go_ret
  exact ⟨rfl, hb1.trans (hb3.mono (by simp))⟩
theorem turn_bad (v ram ext en st start tab sm : Int) (a : Option Addr) (L cap : Nat) (bit : Int) (w : World) (hL : L ≤ 65536) (E AT : Int) (eR : numR v ram ext en st start tab (36 + L) = (E, AT)) (hE : E ≠ 0) :
    Calls Try.prog 7 #[hdA v ram ext en st start tab sm, .slice a L cap, .int .i64 bit] w fun e w' => e = .returned (.bool true) ∧ Below w.heap.size w w' := by
  have HL := hidden live_any
  have HM := hidden fun w2 => make_bad v ram ext en st start tab sm a L cap w2 (by omega) E AT eR hE
  have g1 : (L : Int) ≤ 65536 := by omega
  have hE' : (E != 0) = true := by simpa using hE
  have hb1 : Below w.heap.size w (w.alloc (.cells #[.int .u32 v, .int .u32 ram, .int .u32 ext, .int .u32 en, .int .u32 st, .int .u32 start, .int .u32 tab, .int .u32 sm] 27)) := (Below.refl _ _).alloc (Nat.le_refl _) _
  clear eR hE
  go_enter Try.func7, Try.ntmps7
  go_wp2_with (first | (go_at_call 17; refine (HM.out _).mono ?_; rintro e w2 ⟨rfl, hb2⟩) | (go_at_call 13; refine (num7 _ _).mono ?_; rintro e w9 ⟨rfl, hw⟩; obtain rfl := hw.symm) | (go_at_call 9; refine (HL.out _).mono ?_; rintro e w3 ⟨rfl, hb3⟩) | fail)
  go_ret
  have hb4 := hb1.trans (hb2.mono (by simp))
  exact ⟨rfl, hb4.trans (hb3.mono hb4.size)⟩
theorem turn_out (v ram ext en st start tab sm : Int) (a : Option Addr) (L cap : Nat) (zs : List Int) (bit : Int) (w : World) (hr : Reads w a L cap zs) (hz : OkB zs) (hL : L ≤ 65536) (AT : Int) (eR : numR v ram ext en st start tab (36 + L) = (0, AT)) (hbit : bit < 0 ∨ 8 * (36 + (L : Int)) ≤ bit) :
    Calls Try.prog 7 #[hdA v ram ext en st start tab sm, .slice a L cap, .int .i64 bit] w fun e w' => e = .returned (.bool true) ∧ Below w.heap.size w w' := by
  have HL := hidden live_any
  have g1 : (L : Int) ≤ 65536 := by omega
  have hb1 : Below w.heap.size w (w.alloc (.cells #[.int .u32 v, .int .u32 ram, .int .u32 ext, .int .u32 en, .int .u32 st, .int .u32 start, .int .u32 tab, .int .u32 sm] 27)) := (Below.refl _ _).alloc (Nat.le_refl _) _
  have HM := hidden (make_good v ram ext en st start tab sm a L cap zs _ (hr.later hb1) hz (by omega) AT eR)
  clear eR hr hz
  rcases hbit with hbit | hbit
  · go_enter Try.func7, Try.ntmps7
    go_wp2_with (first | (go_at_call 17; refine HM.out.mono ?_; rintro e w2 ⟨r, rfl, ho, hb2⟩; obtain ⟨g, c, rfl, hc, -⟩ := owned_shape ho (by omega); clear ho) | (go_at_call 13; refine (num7 _ _).mono ?_; rintro e w9 ⟨rfl, hw⟩; obtain rfl := hw.symm) | (go_at_call 9; refine (HL.out _).mono ?_; rintro e w3 ⟨rfl, hb3⟩) | fail)
    go_ret
    have hb4 := hb1.trans (hb2.mono (by simp))
    exact ⟨rfl, hb4.trans (hb3.mono hb4.size)⟩
  · have h0 : (0 : Int) ≤ bit := by omega
    go_enter Try.func7, Try.ntmps7
    go_wp2_with (first | (go_at_call 17; refine HM.out.mono ?_; rintro e w2 ⟨r, rfl, ho, hb2⟩; obtain ⟨g, c, rfl, hc, -⟩ := owned_shape ho (by omega); clear ho) | (go_at_call 13; refine (num7 _ _).mono ?_; rintro e w9 ⟨rfl, hw⟩; obtain rfl := hw.symm) | (go_at_call 9; refine (HL.out _).mono ?_; rintro e w3 ⟨rfl, hb3⟩) | fail)
    go_ret
    have hb4 := hb1.trans (hb2.mono (by simp))
    exact ⟨rfl, hb4.trans (hb3.mono hb4.size)⟩
theorem turn_good (v ram ext en st start tab sm : Int) (ok : OkH ⟨v, ram, ext, en, st, start, tab, sm⟩) (a : Option Addr) (L cap : Nat) (zs : List Int) (j k : Nat) (hk : k < 8) (w : World) (hr : Reads w a L cap zs) (hz : OkB zs) (hL : L ≤ 65536) (AT : Int) (eR : numR v ram ext en st start tab (36 + L) = (0, AT)) (hj : j < 36 + L) :
    Calls Try.prog 7 #[hdA v ram ext en st start tab sm, .slice a L cap, .int .i64 (8 * (j : Int) + (k : Int))] w fun e w' => e = .returned (.bool true) ∧ Below w.heap.size w w' := by
  have hzl := hr.1
  have HL := hidden live_any
  have g1 : (L : Int) ≤ 65536 := by omega
  have hb1 : Below w.heap.size w (w.alloc (.cells #[.int .u32 v, .int .u32 ram, .int .u32 ext, .int .u32 en, .int .u32 st, .int .u32 start, .int .u32 tab, .int .u32 sm] 27)) := (Below.refl _ _).alloc (Nat.le_refl _) _
  have HM := hidden (make_good v ram ext en st start tab sm a L cap zs _ (hr.later hb1) hz (by omega) AT eR)
  have hpm : parseH (makeL ⟨v, ram, ext, en, st, start, tab, sm⟩ zs) = (_, 0, 36) := make_parse ⟨v, ram, ext, en, st, start, tab, sm⟩ zs ok (by omega) (by show (numR v ram ext en st start tab (36 + (zs.length : Int))).1 = 0; rw [hzl, eR])
  have hok := makeL_ok ⟨v, ram, ext, en, st, start, tab, sm⟩ zs hz
  have hml : (makeL ⟨v, ram, ext, en, st, start, tab, sm⟩ zs).length = 36 + L := by rw [makeL_len, hzl]
  generalize makeL ⟨v, ram, ext, en, st, start, tab, sm⟩ zs = M at *
  have HT := hidden fun y y0 y1 hy => turned M hok _ hpm j (by omega) y y0 y1 hy
  have hzj := okb_at hok j
  have HOK := hidden hok
  clear eR ok hr hz hpm hok
  have b0 : (0 : Int) ≤ 8 * (j : Int) + (k : Int) := by omega
  have b1 : 8 * (j : Int) + (k : Int) < 8 * (36 + (L : Int)) := by omega
  have b2 : (8 * (j : Int) + (k : Int)) / 8 = (j : Int) := by omega
  have b3 : (8 * (j : Int) + (k : Int)) % 8 = (k : Int) := by omega
  have b4 : (8 * (j : Int) + (k : Int)).tdiv 8 = (j : Int) := by rw [Int.tdiv_eq_ediv_of_nonneg b0]; exact b2
  have b5 : (8 * (j : Int) + (k : Int)).tmod 8 = (k : Int) := by rw [Int.tmod_eq_emod_of_nonneg b0]; exact b3
  have b6 : (j : Int) < 36 + (L : Int) := by omega
  have b7 : IntKind.i64.wrap (j : Int) = (j : Int) := by rw [IntKind.wrap_i64]; omega
  have b8 : IntKind.i64.wrap ((8 * (j : Int) + (k : Int)) / 8) = (j : Int) := by rw [b2]; exact b7
  have b9 : IntKind.i64.wrap ((8 * (j : Int) + (k : Int)).tdiv 8) = (j : Int) := by rw [b4]; exact b7
  generalize hbt : 8 * (j : Int) + (k : Int) = bit at *
  clear hbt
  go_enter Try.func7, Try.ntmps7
  go_wp2_with (first | (go_at_call 17; refine HM.out.mono ?_; rintro e w2 ⟨r, rfl, ho, hb2⟩; refine Hid.out ?_) | fail)
  obtain ⟨g, c, rfl, hc, hgB⟩ := owned_shape ho (by omega)
  have hB2 : Below w.heap.size w w2 := hb1.trans (hb2.mono (by simp))
  have hcell := (own_bs ho).2 j (by omega)
  have hfz := ho.frozenAt j
  have HO := hidden ho
  have HB := hidden hB2
  have HGB : Hid (w.heap.size ≤ g) := hidden (by simp at hgB; omega)
  clear hb1 hb2 ho HM hB2 hgB
  rw [Nat.zero_add] at hcell
  generalize hZ : M.getD j 0 = Z at *
  have hj0 : (0 : Int) ≤ (j : Int) := by omega
  have hn : (36 : Int) + (L : Int) = ((36 + L : Nat) : Int) := by omega
  rw [hn] at b1 b6
  clear hn
  generalize hnn : 36 + L = n at *
  refine hidden ?_
  obtain rfl | rfl | rfl | rfl | rfl | rfl | rfl | rfl : k = 0 ∨ k = 1 ∨ k = 2 ∨ k = 3 ∨ k = 4 ∨ k = 5 ∨ k = 6 ∨ k = 7 := by omega
  · go_upto_region 6 with (first | (go_at_call 13; refine (num7 _ _).mono ?_; rintro e w9 ⟨rfl, hw⟩; obtain rfl := hw.symm) | fail)
    go_region
    obtain ⟨y0, y1, y2⟩ := xor_bit Z hzj.1 hzj.2 1 (by omega)
    generalize bits .xor .u8 Z 1 = Y at *
    have HBs := hidden (set_bs (own_bs HO.out) j Y (by omega))
    have HT2 := HT.out Y y0 y1 y2
    have HP := hidden (parse_any (some ⟨g, 0, none⟩) n c (M.set j Y) _ (HBs.out.reads c hc) (set_ok HOK.out j Y y0 y1) (by omega))
    replace HB := hidden ((HB.out.setCell (p := ⟨g, j, none⟩) HGB.out (.int .u8 Y)).drew)
    clear HO HBs hcell hfz HT
    generalize (w2.setCell ⟨g, j, none⟩ (.int .u8 Y)).drew = w3 at *
    generalize parseH (M.set j Y) = R at *
    obtain ⟨r0, r1, r2⟩ := R
    obtain ⟨e1, e2, e3⟩ := HT2
    dsimp only at e1 e2 e3 HP
    subst e1
    have e2' : (r1 != 0) = true := by simpa using e2
    clear e2
    unfold hdV hd0 at HP
    dsimp only at HP
    go_wp2_with (first | (go_at_call 11; refine HP.out.mono ?_; rintro e w4 ⟨rfl, hb4⟩) | (go_at_call 13; refine (num7 _ _).mono ?_; rintro e w9 ⟨rfl, hw⟩; obtain rfl := hw.symm) | (go_at_call 9; refine (HL.out _).mono ?_; rintro e w5 ⟨rfl, hb5⟩) | fail)
    go_ret
    have hb6 := HB.out.trans (hb4.mono HB.out.size)
    have hb7 := hb6.alloc hb6.size (.cells #[.int .u32 0, .int .u32 0, .int .u32 0, .int .u32 0, .int .u32 0, .int .u32 0, .int .u32 0, .int .u32 0] 27)
    exact ⟨rfl, hb7.trans (hb5.mono hb7.size)⟩
  · go_upto_region 6 with (first | (go_at_call 13; refine (num7 _ _).mono ?_; rintro e w9 ⟨rfl, hw⟩; obtain rfl := hw.symm) | fail)
    go_region
    obtain ⟨y0, y1, y2⟩ := xor_bit Z hzj.1 hzj.2 2 (by omega)
    generalize bits .xor .u8 Z 2 = Y at *
    have HBs := hidden (set_bs (own_bs HO.out) j Y (by omega))
    have HT2 := HT.out Y y0 y1 y2
    have HP := hidden (parse_any (some ⟨g, 0, none⟩) n c (M.set j Y) _ (HBs.out.reads c hc) (set_ok HOK.out j Y y0 y1) (by omega))
    replace HB := hidden ((HB.out.setCell (p := ⟨g, j, none⟩) HGB.out (.int .u8 Y)).drew)
    clear HO HBs hcell hfz HT
    generalize (w2.setCell ⟨g, j, none⟩ (.int .u8 Y)).drew = w3 at *
    generalize parseH (M.set j Y) = R at *
    obtain ⟨r0, r1, r2⟩ := R
    obtain ⟨e1, e2, e3⟩ := HT2
    dsimp only at e1 e2 e3 HP
    subst e1
    have e2' : (r1 != 0) = true := by simpa using e2
    clear e2
    unfold hdV hd0 at HP
    dsimp only at HP
    go_wp2_with (first | (go_at_call 11; refine HP.out.mono ?_; rintro e w4 ⟨rfl, hb4⟩) | (go_at_call 13; refine (num7 _ _).mono ?_; rintro e w9 ⟨rfl, hw⟩; obtain rfl := hw.symm) | (go_at_call 9; refine (HL.out _).mono ?_; rintro e w5 ⟨rfl, hb5⟩) | fail)
    go_ret
    have hb6 := HB.out.trans (hb4.mono HB.out.size)
    have hb7 := hb6.alloc hb6.size (.cells #[.int .u32 0, .int .u32 0, .int .u32 0, .int .u32 0, .int .u32 0, .int .u32 0, .int .u32 0, .int .u32 0] 27)
    exact ⟨rfl, hb7.trans (hb5.mono hb7.size)⟩
  · go_upto_region 6 with (first | (go_at_call 13; refine (num7 _ _).mono ?_; rintro e w9 ⟨rfl, hw⟩; obtain rfl := hw.symm) | fail)
    go_region
    obtain ⟨y0, y1, y2⟩ := xor_bit Z hzj.1 hzj.2 4 (by omega)
    generalize bits .xor .u8 Z 4 = Y at *
    have HBs := hidden (set_bs (own_bs HO.out) j Y (by omega))
    have HT2 := HT.out Y y0 y1 y2
    have HP := hidden (parse_any (some ⟨g, 0, none⟩) n c (M.set j Y) _ (HBs.out.reads c hc) (set_ok HOK.out j Y y0 y1) (by omega))
    replace HB := hidden ((HB.out.setCell (p := ⟨g, j, none⟩) HGB.out (.int .u8 Y)).drew)
    clear HO HBs hcell hfz HT
    generalize (w2.setCell ⟨g, j, none⟩ (.int .u8 Y)).drew = w3 at *
    generalize parseH (M.set j Y) = R at *
    obtain ⟨r0, r1, r2⟩ := R
    obtain ⟨e1, e2, e3⟩ := HT2
    dsimp only at e1 e2 e3 HP
    subst e1
    have e2' : (r1 != 0) = true := by simpa using e2
    clear e2
    unfold hdV hd0 at HP
    dsimp only at HP
    go_wp2_with (first | (go_at_call 11; refine HP.out.mono ?_; rintro e w4 ⟨rfl, hb4⟩) | (go_at_call 13; refine (num7 _ _).mono ?_; rintro e w9 ⟨rfl, hw⟩; obtain rfl := hw.symm) | (go_at_call 9; refine (HL.out _).mono ?_; rintro e w5 ⟨rfl, hb5⟩) | fail)
    go_ret
    have hb6 := HB.out.trans (hb4.mono HB.out.size)
    have hb7 := hb6.alloc hb6.size (.cells #[.int .u32 0, .int .u32 0, .int .u32 0, .int .u32 0, .int .u32 0, .int .u32 0, .int .u32 0, .int .u32 0] 27)
    exact ⟨rfl, hb7.trans (hb5.mono hb7.size)⟩
  · go_upto_region 6 with (first | (go_at_call 13; refine (num7 _ _).mono ?_; rintro e w9 ⟨rfl, hw⟩; obtain rfl := hw.symm) | fail)
    go_region
    obtain ⟨y0, y1, y2⟩ := xor_bit Z hzj.1 hzj.2 8 (by omega)
    generalize bits .xor .u8 Z 8 = Y at *
    have HBs := hidden (set_bs (own_bs HO.out) j Y (by omega))
    have HT2 := HT.out Y y0 y1 y2
    have HP := hidden (parse_any (some ⟨g, 0, none⟩) n c (M.set j Y) _ (HBs.out.reads c hc) (set_ok HOK.out j Y y0 y1) (by omega))
    replace HB := hidden ((HB.out.setCell (p := ⟨g, j, none⟩) HGB.out (.int .u8 Y)).drew)
    clear HO HBs hcell hfz HT
    generalize (w2.setCell ⟨g, j, none⟩ (.int .u8 Y)).drew = w3 at *
    generalize parseH (M.set j Y) = R at *
    obtain ⟨r0, r1, r2⟩ := R
    obtain ⟨e1, e2, e3⟩ := HT2
    dsimp only at e1 e2 e3 HP
    subst e1
    have e2' : (r1 != 0) = true := by simpa using e2
    clear e2
    unfold hdV hd0 at HP
    dsimp only at HP
    go_wp2_with (first | (go_at_call 11; refine HP.out.mono ?_; rintro e w4 ⟨rfl, hb4⟩) | (go_at_call 13; refine (num7 _ _).mono ?_; rintro e w9 ⟨rfl, hw⟩; obtain rfl := hw.symm) | (go_at_call 9; refine (HL.out _).mono ?_; rintro e w5 ⟨rfl, hb5⟩) | fail)
    go_ret
    have hb6 := HB.out.trans (hb4.mono HB.out.size)
    have hb7 := hb6.alloc hb6.size (.cells #[.int .u32 0, .int .u32 0, .int .u32 0, .int .u32 0, .int .u32 0, .int .u32 0, .int .u32 0, .int .u32 0] 27)
    exact ⟨rfl, hb7.trans (hb5.mono hb7.size)⟩
  · go_upto_region 6 with (first | (go_at_call 13; refine (num7 _ _).mono ?_; rintro e w9 ⟨rfl, hw⟩; obtain rfl := hw.symm) | fail)
    go_region
    obtain ⟨y0, y1, y2⟩ := xor_bit Z hzj.1 hzj.2 16 (by omega)
    generalize bits .xor .u8 Z 16 = Y at *
    have HBs := hidden (set_bs (own_bs HO.out) j Y (by omega))
    have HT2 := HT.out Y y0 y1 y2
    have HP := hidden (parse_any (some ⟨g, 0, none⟩) n c (M.set j Y) _ (HBs.out.reads c hc) (set_ok HOK.out j Y y0 y1) (by omega))
    replace HB := hidden ((HB.out.setCell (p := ⟨g, j, none⟩) HGB.out (.int .u8 Y)).drew)
    clear HO HBs hcell hfz HT
    generalize (w2.setCell ⟨g, j, none⟩ (.int .u8 Y)).drew = w3 at *
    generalize parseH (M.set j Y) = R at *
    obtain ⟨r0, r1, r2⟩ := R
    obtain ⟨e1, e2, e3⟩ := HT2
    dsimp only at e1 e2 e3 HP
    subst e1
    have e2' : (r1 != 0) = true := by simpa using e2
    clear e2
    unfold hdV hd0 at HP
    dsimp only at HP
    go_wp2_with (first | (go_at_call 11; refine HP.out.mono ?_; rintro e w4 ⟨rfl, hb4⟩) | (go_at_call 13; refine (num7 _ _).mono ?_; rintro e w9 ⟨rfl, hw⟩; obtain rfl := hw.symm) | (go_at_call 9; refine (HL.out _).mono ?_; rintro e w5 ⟨rfl, hb5⟩) | fail)
    go_ret
    have hb6 := HB.out.trans (hb4.mono HB.out.size)
    have hb7 := hb6.alloc hb6.size (.cells #[.int .u32 0, .int .u32 0, .int .u32 0, .int .u32 0, .int .u32 0, .int .u32 0, .int .u32 0, .int .u32 0] 27)
    exact ⟨rfl, hb7.trans (hb5.mono hb7.size)⟩
  · go_upto_region 6 with (first | (go_at_call 13; refine (num7 _ _).mono ?_; rintro e w9 ⟨rfl, hw⟩; obtain rfl := hw.symm) | fail)
    go_region
    obtain ⟨y0, y1, y2⟩ := xor_bit Z hzj.1 hzj.2 32 (by omega)
    generalize bits .xor .u8 Z 32 = Y at *
    have HBs := hidden (set_bs (own_bs HO.out) j Y (by omega))
    have HT2 := HT.out Y y0 y1 y2
    have HP := hidden (parse_any (some ⟨g, 0, none⟩) n c (M.set j Y) _ (HBs.out.reads c hc) (set_ok HOK.out j Y y0 y1) (by omega))
    replace HB := hidden ((HB.out.setCell (p := ⟨g, j, none⟩) HGB.out (.int .u8 Y)).drew)
    clear HO HBs hcell hfz HT
    generalize (w2.setCell ⟨g, j, none⟩ (.int .u8 Y)).drew = w3 at *
    generalize parseH (M.set j Y) = R at *
    obtain ⟨r0, r1, r2⟩ := R
    obtain ⟨e1, e2, e3⟩ := HT2
    dsimp only at e1 e2 e3 HP
    subst e1
    have e2' : (r1 != 0) = true := by simpa using e2
    clear e2
    unfold hdV hd0 at HP
    dsimp only at HP
    go_wp2_with (first | (go_at_call 11; refine HP.out.mono ?_; rintro e w4 ⟨rfl, hb4⟩) | (go_at_call 13; refine (num7 _ _).mono ?_; rintro e w9 ⟨rfl, hw⟩; obtain rfl := hw.symm) | (go_at_call 9; refine (HL.out _).mono ?_; rintro e w5 ⟨rfl, hb5⟩) | fail)
    go_ret
    have hb6 := HB.out.trans (hb4.mono HB.out.size)
    have hb7 := hb6.alloc hb6.size (.cells #[.int .u32 0, .int .u32 0, .int .u32 0, .int .u32 0, .int .u32 0, .int .u32 0, .int .u32 0, .int .u32 0] 27)
    exact ⟨rfl, hb7.trans (hb5.mono hb7.size)⟩
  · go_upto_region 6 with (first | (go_at_call 13; refine (num7 _ _).mono ?_; rintro e w9 ⟨rfl, hw⟩; obtain rfl := hw.symm) | fail)
    go_region
    obtain ⟨y0, y1, y2⟩ := xor_bit Z hzj.1 hzj.2 64 (by omega)
    generalize bits .xor .u8 Z 64 = Y at *
    have HBs := hidden (set_bs (own_bs HO.out) j Y (by omega))
    have HT2 := HT.out Y y0 y1 y2
    have HP := hidden (parse_any (some ⟨g, 0, none⟩) n c (M.set j Y) _ (HBs.out.reads c hc) (set_ok HOK.out j Y y0 y1) (by omega))
    replace HB := hidden ((HB.out.setCell (p := ⟨g, j, none⟩) HGB.out (.int .u8 Y)).drew)
    clear HO HBs hcell hfz HT
    generalize (w2.setCell ⟨g, j, none⟩ (.int .u8 Y)).drew = w3 at *
    generalize parseH (M.set j Y) = R at *
    obtain ⟨r0, r1, r2⟩ := R
    obtain ⟨e1, e2, e3⟩ := HT2
    dsimp only at e1 e2 e3 HP
    subst e1
    have e2' : (r1 != 0) = true := by simpa using e2
    clear e2
    unfold hdV hd0 at HP
    dsimp only at HP
    go_wp2_with (first | (go_at_call 11; refine HP.out.mono ?_; rintro e w4 ⟨rfl, hb4⟩) | (go_at_call 13; refine (num7 _ _).mono ?_; rintro e w9 ⟨rfl, hw⟩; obtain rfl := hw.symm) | (go_at_call 9; refine (HL.out _).mono ?_; rintro e w5 ⟨rfl, hb5⟩) | fail)
    go_ret
    have hb6 := HB.out.trans (hb4.mono HB.out.size)
    have hb7 := hb6.alloc hb6.size (.cells #[.int .u32 0, .int .u32 0, .int .u32 0, .int .u32 0, .int .u32 0, .int .u32 0, .int .u32 0, .int .u32 0] 27)
    exact ⟨rfl, hb7.trans (hb5.mono hb7.size)⟩
  · go_upto_region 6 with (first | (go_at_call 13; refine (num7 _ _).mono ?_; rintro e w9 ⟨rfl, hw⟩; obtain rfl := hw.symm) | fail)
    go_region
    obtain ⟨y0, y1, y2⟩ := xor_bit Z hzj.1 hzj.2 128 (by omega)
    generalize bits .xor .u8 Z 128 = Y at *
    have HBs := hidden (set_bs (own_bs HO.out) j Y (by omega))
    have HT2 := HT.out Y y0 y1 y2
    have HP := hidden (parse_any (some ⟨g, 0, none⟩) n c (M.set j Y) _ (HBs.out.reads c hc) (set_ok HOK.out j Y y0 y1) (by omega))
    replace HB := hidden ((HB.out.setCell (p := ⟨g, j, none⟩) HGB.out (.int .u8 Y)).drew)
    clear HO HBs hcell hfz HT
    generalize (w2.setCell ⟨g, j, none⟩ (.int .u8 Y)).drew = w3 at *
    generalize parseH (M.set j Y) = R at *
    obtain ⟨r0, r1, r2⟩ := R
    obtain ⟨e1, e2, e3⟩ := HT2
    dsimp only at e1 e2 e3 HP
    subst e1
    have e2' : (r1 != 0) = true := by simpa using e2
    clear e2
    unfold hdV hd0 at HP
    dsimp only at HP
    go_wp2_with (first | (go_at_call 11; refine HP.out.mono ?_; rintro e w4 ⟨rfl, hb4⟩) | (go_at_call 13; refine (num7 _ _).mono ?_; rintro e w9 ⟨rfl, hw⟩; obtain rfl := hw.symm) | (go_at_call 9; refine (HL.out _).mono ?_; rintro e w5 ⟨rfl, hb5⟩) | fail)
    go_ret
    have hb6 := HB.out.trans (hb4.mono HB.out.size)
    have hb7 := hb6.alloc hb6.size (.cells #[.int .u32 0, .int .u32 0, .int .u32 0, .int .u32 0, .int .u32 0, .int .u32 0, .int .u32 0, .int .u32 0] 27)
    exact ⟨rfl, hb7.trans (hb5.mono hb7.size)⟩
theorem headerTurned_walk (v ram ext en st start tab sm : Int) (a : Option Addr) (L cap : Nat) (zs : List Int) (bit : Int) (w : World) (ok : OkH ⟨v, ram, ext, en, st, start, tab, sm⟩) (h : IsRow .u8 w a L cap zs) (hbit : (Lit.int .i64 bit).wf = true) :
    Calls Try.prog 7 #[.agg #[.int .u32 v, .int .u32 ram, .int .u32 ext, .int .u32 en, .int .u32 st, .int .u32 start, .int .u32 tab, .int .u32 sm], .slice a L cap, .int .i64 bit] w fun e w' => e = .returned (.bool true) ∧ Below w.heap.size w w' := by
  obtain ⟨r1, r2, r3⟩ := reads_of_row h
  by_cases hL : 65536 < L
  · exact turn_big v ram ext en st start tab sm a L cap bit w hL r3
  · by_cases hE : (numR v ram ext en st start tab (36 + L)).1 = 0
    · have eR : numR v ram ext en st start tab (36 + L) = (0, (numR v ram ext en st start tab (36 + L)).2) := Prod.ext hE rfl
      by_cases hb : bit < 0 ∨ 8 * (36 + (L : Int)) ≤ bit
      · exact turn_out v ram ext en st start tab sm a L cap _ bit w r1 r2 (by omega) _ eR hb
      · have e : bit = 8 * ((bit / 8).toNat : Int) + ((bit % 8).toNat : Int) := by omega
        rw [e]
        exact turn_good v ram ext en st start tab sm ok a L cap _ (bit / 8).toNat (bit % 8).toNat (by omega) w r1 r2 (by omega) _ eR (by omega)
    · exact turn_bad v ram ext en st start tab sm a L cap bit w (by omega) _ _ rfl hE
end Go.Proofs.Ytcfmmkhfhbnmbaa
