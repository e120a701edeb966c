/- The walk of HeaderMakes: the game of any header and rest is the document's. -/
import Derived.Test.YtcfmmkhfhbnmbaaH7m
namespace Go.Proofs.Ytcfmmkhfhbnmbaa
open Go.RowKit
set_option maxHeartbeats 1000000
set_option maxRecDepth 100000
set_option linter.unusedVariables false

theorem make_parse_bad (h : Hd) (zs : List Int) (ok : OkH h) (hz : zs.length ≤ 1048540) (hn : (numH h (36 + zs.length)).1 ≠ 0) : parseH (makeL h zs) = (hd0, (numH h (36 + zs.length)).1, (numH h (36 + zs.length)).2) := by
  have hbd := sumTo_bd (hdrL h ++ zs) ((hdrL h ++ zs).length / 4)
  have ok' : OkH { h with sum := sumV (hdrL h ++ zs) } := ⟨ok.1, ok.2.1, ok.2.2.1, ok.2.2.2.1, ok.2.2.2.2.1, ok.2.2.2.2.2.1, ok.2.2.2.2.2.2.1, hbd⟩
  have hr : readH (makeL h zs) = { h with sum := sumV (hdrL h ++ zs) } := read_hdr _ zs ok'
  have hl := makeL_len h zs
  have hl2 : ((makeL h zs).length : Int) = 36 + (zs.length : Int) := by rw [hl]; omega
  have hg : (makeL h zs).take 4 = glul.take (makeL h zs).length := by
    rw [hl, glul_min, show min (36 + zs.length) 4 = 4 by omega]
    rfl
  unfold parseH
  rw [if_neg (by omega), if_neg (not_not_intro hg), if_neg (by omega), hr, hl2]
  have hn' : (numH { h with sum := sumV (hdrL h ++ zs) } (36 + (zs.length : Int))).1 ≠ 0 := hn
  rw [if_pos hn']
  rfl
theorem makes_big (v ram ext en st start tab sm : Int) (a : Option Addr) (L cap : Nat) (w : World) (hL : 65536 < L) (h63 : L ≤ 9223372036854775807) :
    Calls Try.prog 5 #[.agg #[.int .u32 v, .int .u32 ram, .int .u32 ext, .int .u32 en, .int .u32 st, .int .u32 start, .int .u32 tab, .int .u32 sm], .slice a L cap] w fun e w' => e = .returned (.bool true) ∧ Below w.heap.size w w' := by
  have HL := hidden live_any
  have g1 : (65536 : Int) < (L : Int) := by omega
  have hb1 : Below w.heap.size w (w.alloc (.cells #[.int .u32 v, .int .u32 ram, .int .u32 ext, .int .u32 en, .int .u32 st, .int .u32 start, .int .u32 tab, .int .u32 sm] 27)) := (Below.refl _ _).alloc (Nat.le_refl _) _
  go_enter Try.func5, Try.ntmps5
  go_wp2_with (go_at_call 9; refine (HL.out _).mono ?_; rintro e w3 ⟨rfl, hb3⟩)
  go_ret
  exact ⟨rfl, hb1.trans (hb3.mono (by simp))⟩
/-- what header.Make and the document's Make answer alike -/
def MkRet (w : World) (M : List Int) (n : Nat) (E : Int) (e : Ending) (w' : World) : Prop :=
  Below w.heap.size w w' ∧ ∃ a l c zs, e = .returned (.tuple #[.slice a l c, .int .i64 E]) ∧ Reads w' a l c zs ∧ zs = (if E = 0 then M else [])
theorem makes_any (v ram ext en st start tab sm : Int) (ok : OkH ⟨v, ram, ext, en, st, start, tab, sm⟩) (a : Option Addr) (L cap : Nat) (zs : List Int) (w : World) (hr : Reads w a L cap zs) (hz : OkB zs) (hL : L ≤ 65536) :
    Calls Try.prog 5 #[.agg #[.int .u32 v, .int .u32 ram, .int .u32 ext, .int .u32 en, .int .u32 st, .int .u32 start, .int .u32 tab, .int .u32 sm], .slice a L cap] w fun e w' => e = .returned (.bool true) ∧ Below w.heap.size w w' := by
  have hzl := hr.1
  have HL := hidden live_any
  have g1 : (L : Int) ≤ 65536 := by omega
  obtain ⟨E, hE⟩ : ∃ E, E = (numR v ram ext en st start tab (36 + L)).1 := ⟨_, rfl⟩
  have HM1 : Hid (∀ (a : Option Addr) (cap : Nat) (wx : World), Reads wx a L cap zs → Calls Try.prog 17 #[.agg #[.int .u32 v, .int .u32 ram, .int .u32 ext, .int .u32 en, .int .u32 st, .int .u32 start, .int .u32 tab, .int .u32 sm], .slice a L cap] wx (MkRet wx (makeL ⟨v, ram, ext, en, st, start, tab, sm⟩ zs) (36 + L) E)) := hidden fun a cap wx hx => by
    by_cases h0 : E = 0
    · have eR : numR v ram ext en st start tab (36 + L) = (0, (numR v ram ext en st start tab (36 + L)).2) := Prod.ext (by rw [← hE, h0]) rfl
      refine (make_good v ram ext en st start tab sm a L cap zs wx hx hz (by omega) _ eR).mono ?_
      rintro e w' ⟨r, rfl, ho, hb⟩
      obtain ⟨g, c, rfl, hc, -⟩ := owned_shape ho (by omega)
      exact ⟨hb, _, _, _, _, by rw [h0], (own_bs ho).reads c hc, by rw [if_pos h0]⟩
    · refine (make_bad v ram ext en st start tab sm a L cap wx (by omega) E (numR v ram ext en st start tab (36 + L)).2 (Prod.ext hE.symm rfl) h0).mono ?_
      rintro e w' ⟨rfl, hb⟩
      exact ⟨hb, none, 0, 0, [], rfl, ⟨rfl, Nat.le_refl _, .inl ⟨rfl, rfl, rfl⟩⟩, by rw [if_neg h0]⟩
  have HM2 : Hid (∀ (wx : World), Reads wx a L cap zs → Calls Try.prog 18 #[.agg #[.int .u32 v, .int .u32 ram, .int .u32 ext, .int .u32 en, .int .u32 st, .int .u32 start, .int .u32 tab, .int .u32 sm], .slice a L cap] wx (MkRet wx (makeL ⟨v, ram, ext, en, st, start, tab, sm⟩ zs) (36 + L) E)) := hidden fun wx hx => by
    by_cases h0 : E = 0
    · have hp := make_parse ⟨v, ram, ext, en, st, start, tab, sm⟩ zs ok (by omega) (by show (numR v ram ext en st start tab (36 + (zs.length : Int))).1 = 0; rw [hzl, ← hE, h0])
      refine (rmake_part v ram ext en st start tab sm ok a L cap zs wx hx hz hL _ 0 36 hp).mono ?_
      rintro e w' ⟨hb, -, q⟩
      obtain ⟨g, c, rfl, hB, hc⟩ := q rfl
      exact ⟨hb, _, _, _, _, by rw [h0], hB.reads c hc, by rw [if_pos h0]⟩
    · have hn : (numH ⟨v, ram, ext, en, st, start, tab, sm⟩ (36 + (zs.length : Int))).1 = E := by show (numR v ram ext en st start tab (36 + (zs.length : Int))).1 = E; rw [hzl, ← hE]
      have hp := make_parse_bad ⟨v, ram, ext, en, st, start, tab, sm⟩ zs ok (by omega) (by rw [hn]; exact h0)
      rw [hn] at hp
      refine (rmake_part v ram ext en st start tab sm ok a L cap zs wx hx hz hL _ E _ hp).mono ?_
      rintro e w' ⟨hb, q, -⟩
      exact ⟨hb, none, 0, 0, [], q h0, ⟨rfl, Nat.le_refl _, .inl ⟨rfl, rfl, rfl⟩⟩, by rw [if_neg h0]⟩
  have HOM : Hid (OkB (if E = 0 then makeL ⟨v, ram, ext, en, st, start, tab, sm⟩ zs else [])) := hidden (by
    split
    · exact makeL_ok _ zs hz
    · intro c hc; cases hc)
  generalize makeL ⟨v, ram, ext, en, st, start, tab, sm⟩ zs = M at *
  have hb1 : Below w.heap.size w (w.alloc (.cells #[.int .u32 v, .int .u32 ram, .int .u32 ext, .int .u32 en, .int .u32 st, .int .u32 start, .int .u32 tab, .int .u32 sm] 27)) := (Below.refl _ _).alloc (Nat.le_refl _) _
  have HX := hidden (hd_fresh w ⟨v, ram, ext, en, st, start, tab, sm⟩)
  have HRd := hidden hr
  have HZ := hidden hz
  have hLe := lent_any a L cap zs _ (hr.later hb1) (by omega)
  have HLe := hidden hLe
  clear hr hz ok hE hLe
  go_enter Try.func5, Try.ntmps5
  go_wp2_with fail
  refine HLe.out.mono ?_
  rintro e w1 ⟨g, c2, rfl, hc2, hg, hb2, hcell⟩
  have hBs : Bs w1 g 0 L zs := ⟨hzl, fun i hi => by
    have := hcell i (by omega)
    have e : (zs ++ [77]).getD i 0 = zs.getD i 0 := by simp [List.getD_eq_getElem?_getD, List.getElem?_append_left (show i < zs.length by omega)]
    rw [e] at this
    exact this⟩
  replace HX := hidden (hd_of hb2 HX.out)
  have HB := hidden (hb1.trans (hb2.mono (by simp)))
  have HCE := hidden hcell
  have HM3 := hidden (HM1.out (some ⟨g, 0, none⟩) c2 w1 (hBs.reads c2 (by omega)))
  have HX1 := HX.out
  unfold HdAt at HX1
  dsimp only at HX1
  obtain ⟨k0, k1, k2, k3, k4, k5, k6, k7, -⟩ := HX1
  clear hb1 hb2 hcell hBs HLe HM1
  go_wp2_with fail
  refine HM3.out.mono ?_
  rintro e w2 ⟨hb3, a1, l1, c1, z1, rfl, hr1, hz1⟩
  replace HX := hidden (hd_of hb3 HX.out)
  replace HB := hidden (HB.out.trans (hb3.mono HB.out.size))
  have HCE2 : Hid (∀ i, i < L + 1 → w2.cell? ⟨g, 0 + i, none⟩ = some (.int .u8 ((zs ++ [77]).getD i 0))) := hidden fun i hi => cellLater hb3 (HCE.out i hi)
  have HR1 := hidden hr1
  have HZ1 := hidden hz1
  have HM4 := hidden (HM2.out w2 (HRd.out.later HB.out))
  clear hb3 hr1 hz1 HM3 HM2 k0 k1 k2 k3 k4 k5 k6 k7 HCE
  have HX1 := HX.out
  unfold HdAt at HX1
  dsimp only at HX1
  obtain ⟨k0, k1, k2, k3, k4, k5, k6, k7, -⟩ := HX1
  go_wp2_with fail
  refine HM4.out.mono ?_
  rintro e w3 ⟨hb4, a2, l2, c3, z2, rfl, hr2, hz2⟩
  have HS : Hid (Calls Try.prog 19 #[.slice a1 l1 c1, .slice a2 l2 c3] w3 fun e w' => e = .returned (.bool true) ∧ w' = w3) := hidden (by
    rw [hz2] at hr2
    have h1 := HR1.out.later hb4
    rw [HZ1.out] at h1
    exact same_eq a1 a2 l1 c1 l2 c3 _ w3 HOM.out h1 hr2)
  replace HB := hidden (HB.out.trans (hb4.mono HB.out.size))
  have HK : Hid (Calls Try.prog 14 #[.slice (some ⟨g, 0, none⟩) L c2, .slice a L cap] w3 fun e w' => e = .returned (.bool true) ∧ w' = w3) := hidden (by
    refine kept_eq g L c2 a cap zs w3 HZ.out (by omega) hc2 (fun i hi => ?_) (HRd.out.later HB.out)
    exact cellLater hb4 (HCE2.out i hi))
  have r1 : (E == E) = true := by simp
  clear hb4 hr2 hz2 HM4 HR1 HZ1 HCE2 HX k0 k1 k2 k3 k4 k5 k6 k7 HOM
  go_wp2_with (first | (go_at_call 19; refine HS.out.mono ?_; rintro e w9 ⟨rfl, hw⟩; obtain rfl := hw.symm) | (go_at_call 13; refine (num7 _ _).mono ?_; rintro e w9 ⟨rfl, hw⟩; obtain rfl := hw.symm) | (go_at_call 14; refine HK.out.mono ?_; rintro e w9 ⟨rfl, hw⟩; obtain rfl := hw.symm) | (go_at_call 9; refine (HL.out _).mono ?_; rintro e w9 ⟨rfl, hb⟩) | fail)
  go_ret
  exact ⟨rfl, HB.out.trans (hb.mono HB.out.size)⟩
theorem headerMakes_walk (v ram ext en st start tab sm : Int) (a : Option Addr) (L cap : Nat) (zs : List Int) (w : World) (ok : OkH ⟨v, ram, ext, en, st, start, tab, sm⟩) (h : IsRow .u8 w a L cap zs) :
    Calls Try.prog 5 #[.agg #[.int .u32 v, .int .u32 ram, .int .u32 ext, .int .u32 en, .int .u32 st, .int .u32 start, .int .u32 tab, .int .u32 sm], .slice a L cap] w fun e w' => e = .returned (.bool true) ∧ Below w.heap.size w w' := by
  obtain ⟨r1, r2, r3⟩ := reads_of_row h
  by_cases hL : 65536 < L
  · exact makes_big v ram ext en st start tab sm a L cap w hL r3
  · exact makes_any v ram ext en st start tab sm ok a L cap _ w r1 r2 (by omega)
end Go.Proofs.Ytcfmmkhfhbnmbaa
