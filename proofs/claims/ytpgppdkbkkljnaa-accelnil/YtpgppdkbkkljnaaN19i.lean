/- Layer 18: AccelOld. -/
import Derived.Test.YtpgppdkbkkljnaaN19h0
import Derived.Test.YtpgppdkbkkljnaaN18z
namespace Go.Proofs.Ytpgppdkbkkljnaa
open Go.RowKit
set_option maxHeartbeats 1000000
set_option maxRecDepth 100000
set_option linter.unusedVariables false

theorem doA_old (bs : List Int) (r : Nat) (P : List Nat) (n : Nat) (ys : List Nat) (h2 : 2 ≤ n) (h7 : n ≤ 7) (hl : P.length = 9) (hp : P.getD 7 0 = 7) : doA bs r P (n + 6) ys = doA bs r P n ys := by
  unfold doA
  have a1 : ¬ (P.length ≠ 9 ∨ n + 6 < 1 ∨ 13 < n + 6) := by omega
  have a2 : ¬ (P.length ≠ 9 ∨ n < 1 ∨ 13 < n) := by omega
  have a3 : 8 ≤ n + 6 := by omega
  have a4 : ¬ 8 ≤ n := by omega
  rw [if_neg a1, if_neg a2]
  simp only [if_pos a3, if_neg a4, hp, Nat.add_sub_cancel]
/-- an ask's own cells -/
def ABx (w : World) (b : Nat) (n a p : Value) : Prop := w.heap[b]? = some (.cells #[n, a, p] 59 (0, 0))
theorem ABx.lt {w : World} {b : Nat} {n a p : Value} (h : ABx w b n a p) : b < w.heap.size := (Array.getElem?_eq_some_iff.1 h).1
theorem ABx.later {w w' : World} {b : Nat} {n a p : Value} (h : ABx w b n a p) (hb : Below w.heap.size w w') : ABx w' b n a p := (hb.block b h.lt).trans h
theorem ABx.cells {w : World} {b : Nat} {n a p : Value} (h : ABx w b n a p) : w.cell? ⟨b, 0, none⟩ = some n ∧ w.cell? ⟨b, 1, none⟩ = some a ∧ w.cell? ⟨b, 2, none⟩ = some p := by
  unfold ABx at h
  refine ⟨?_, ?_, ?_⟩ <;> simp [World.cell?, h]
theorem ABx.new (w : World) (n a p : Value) : ABx (w.alloc (.cells #[n, a, p] 59)) w.heap.size n a p := heap_alloc_new _ _
theorem ABx.other {w : World} {b : Nat} {n a p : Value} (h : ABx w b n a p) (x i : Nat) (v : Value) (hne : b ≠ x) : ABx (w.setCell ⟨x, i, none⟩ v) b n a p := by
  have hne' : ¬ x = b := fun e => hne e.symm
  unfold ABx at *
  simp [World.setCell, Array.getElem?_modify, h, hne']
theorem par9_len (xs : List Nat) : (par9 xs).length = 9 := parK_len _ _ (Nat.min_le_left _ _) (Nat.min_le_right _ _)
theorem getD_set7 (l : List Nat) (h : l.length = 9) : (l.set 7 7).getD 7 0 = 7 := by
  rw [List.getD_eq_getElem?_getD, List.getElem?_set_self (by omega)]; rfl
theorem old_0 (a : Option Addr) (len cap : Nat) (n : Nat) (aa : Option Addr) (an ac : Nat) (pa : Option Addr) (pn pc : Nat) (w : World) (h : 4096 < len) : Calls Try.prog 7 #[.slice a len cap, .agg #[.int .u32 (n : Int), .slice aa an ac, .slice pa pn pc]] w fun e w' => e = .returned (.bool true) ∧ Below w.heap.size w w' := by
  have l1 : (len : Int) > 4096 := by omega
  have hb0 : Below w.heap.size w (w.alloc (.cells #[.int .u32 (n : Int), .slice aa an ac, .slice pa pn pc] 59)) := (Below.refl _ _).alloc (Nat.le_refl _) _
  have HX := hidden (ABx.new w (.int .u32 (n : Int)) (.slice aa an ac) (.slice pa pn pc))
  have HB0 := hidden hb0
  clear hb0
  go_enter Try.func7, Try.ntmps7
  go_upto_region 1 with fail
  generalize w.alloc (.cells #[.int .u32 (n : Int), .slice aa an ac, .slice pa pn pc] 59) = w0 at *
  obtain ⟨x0, x1, x2⟩ := HX.out.cells
  go_wp2_with (go_at_call 9; refine (live18 _).mono ?_; rintro e w7 ⟨rfl, hb7⟩; have HB7 := hidden (HB0.out.trans (hb7.mono HB0.out.size)); clear hb7)
  go_ret
  exact ⟨rfl, HB7.out⟩
theorem old_1 (a : Option Addr) (len cap : Nat) (n : Nat) (aa : Option Addr) (an ac : Nat) (pa : Option Addr) (pn pc : Nat) (w : World) (h0 : len ≤ 4096) (h : 20 < an) : Calls Try.prog 7 #[.slice a len cap, .agg #[.int .u32 (n : Int), .slice aa an ac, .slice pa pn pc]] w fun e w' => e = .returned (.bool true) ∧ Below w.heap.size w w' := by
  have l1 : ¬ (len : Int) > 4096 := by omega
  have l2 : (an : Int) > 20 := by omega
  have hb0 : Below w.heap.size w (w.alloc (.cells #[.int .u32 (n : Int), .slice aa an ac, .slice pa pn pc] 59)) := (Below.refl _ _).alloc (Nat.le_refl _) _
  have HX := hidden (ABx.new w (.int .u32 (n : Int)) (.slice aa an ac) (.slice pa pn pc))
  have HB0 := hidden hb0
  clear hb0
  go_enter Try.func7, Try.ntmps7
  go_upto_region 1 with fail
  generalize w.alloc (.cells #[.int .u32 (n : Int), .slice aa an ac, .slice pa pn pc] 59) = w0 at *
  obtain ⟨x0, x1, x2⟩ := HX.out.cells
  go_wp2_with (go_at_call 9; refine (live18 _).mono ?_; rintro e w7 ⟨rfl, hb7⟩; have HB7 := hidden (HB0.out.trans (hb7.mono HB0.out.size)); clear hb7)
  go_ret
  exact ⟨rfl, HB7.out⟩
theorem old_2 (a : Option Addr) (len cap : Nat) (n : Nat) (aa : Option Addr) (an ac : Nat) (pa : Option Addr) (pn pc : Nat) (w : World) (h0 : len ≤ 4096) (h1 : an ≤ 20) (h : n < 2) : Calls Try.prog 7 #[.slice a len cap, .agg #[.int .u32 (n : Int), .slice aa an ac, .slice pa pn pc]] w fun e w' => e = .returned (.bool true) ∧ Below w.heap.size w w' := by
  have l1 : ¬ (len : Int) > 4096 := by omega
  have l2 : ¬ (an : Int) > 20 := by omega
  have l3 : (n : Int) < 2 := by omega
  have hb0 : Below w.heap.size w (w.alloc (.cells #[.int .u32 (n : Int), .slice aa an ac, .slice pa pn pc] 59)) := (Below.refl _ _).alloc (Nat.le_refl _) _
  have HX := hidden (ABx.new w (.int .u32 (n : Int)) (.slice aa an ac) (.slice pa pn pc))
  have HB0 := hidden hb0
  clear hb0
  go_enter Try.func7, Try.ntmps7
  go_upto_region 1 with fail
  generalize w.alloc (.cells #[.int .u32 (n : Int), .slice aa an ac, .slice pa pn pc] 59) = w0 at *
  obtain ⟨x0, x1, x2⟩ := HX.out.cells
  go_wp2_with (go_at_call 9; refine (live18 _).mono ?_; rintro e w7 ⟨rfl, hb7⟩; have HB7 := hidden (HB0.out.trans (hb7.mono HB0.out.size)); clear hb7)
  go_ret
  exact ⟨rfl, HB7.out⟩
theorem old_3 (a : Option Addr) (len cap : Nat) (n : Nat) (aa : Option Addr) (an ac : Nat) (pa : Option Addr) (pn pc : Nat) (w : World) (h0 : len ≤ 4096) (h1 : an ≤ 20) (h2 : 2 ≤ n) (h : 7 < n) : Calls Try.prog 7 #[.slice a len cap, .agg #[.int .u32 (n : Int), .slice aa an ac, .slice pa pn pc]] w fun e w' => e = .returned (.bool true) ∧ Below w.heap.size w w' := by
  have l1 : ¬ (len : Int) > 4096 := by omega
  have l2 : ¬ (an : Int) > 20 := by omega
  have l3 : ¬ (n : Int) < 2 := by omega
  have l4 : (n : Int) > 7 := by omega
  have hb0 : Below w.heap.size w (w.alloc (.cells #[.int .u32 (n : Int), .slice aa an ac, .slice pa pn pc] 59)) := (Below.refl _ _).alloc (Nat.le_refl _) _
  have HX := hidden (ABx.new w (.int .u32 (n : Int)) (.slice aa an ac) (.slice pa pn pc))
  have HB0 := hidden hb0
  clear hb0
  go_enter Try.func7, Try.ntmps7
  go_upto_region 1 with fail
  generalize w.alloc (.cells #[.int .u32 (n : Int), .slice aa an ac, .slice pa pn pc] 59) = w0 at *
  obtain ⟨x0, x1, x2⟩ := HX.out.cells
  go_wp2_with (go_at_call 9; refine (live18 _).mono ?_; rintro e w7 ⟨rfl, hb7⟩; have HB7 := hidden (HB0.out.trans (hb7.mono HB0.out.size)); clear hb7)
  go_ret
  exact ⟨rfl, HB7.out⟩
theorem old_4 (a : Option Addr) (len cap : Nat) (n : Nat) (aa : Option Addr) (an ac : Nat) (pa : Option Addr) (pn pc : Nat) (w : World) (zs : List Int) (ys xs : List Nat) (hr : Reads w a len cap zs) (ho : OkB zs) (hA : VRow w aa an ys) (hP : VRow w pa pn xs) (hpn : pn ≤ 9223372036854775807) (h0 : len ≤ 4096) (h1 : an ≤ 20) (h2 : 2 ≤ n) (h7 : n ≤ 7) : Calls Try.prog 7 #[.slice a len cap, .agg #[.int .u32 (n : Int), .slice aa an ac, .slice pa pn pc]] w fun e w' => e = .returned (.bool true) ∧ Below w.heap.size w w' := by
  have l1 : ¬ (len : Int) > 4096 := by omega
  have l2 : ¬ (an : Int) > 20 := by omega
  have l3 : ¬ (n : Int) < 2 := by omega
  have l4 : ¬ (n : Int) > 7 := by omega
  have HR := hidden hr
  have HA := hidden hA
  have HP := hidden hP
  have HOL : Hid (OkB (layB zs)) := hidden (lay_ok zs ho 1792)
  have HLL : Hid ((layB zs).length = 2048) := hidden (lay_len zs 1792 (by decide))
  clear hr hA hP
  have hb0 : Below w.heap.size w (w.alloc (.cells #[.int .u32 (n : Int), .slice aa an ac, .slice pa pn pc] 59)) := (Below.refl _ _).alloc (Nat.le_refl _) _
  have HX := hidden (ABx.new w (.int .u32 (n : Int)) (.slice aa an ac) (.slice pa pn pc))
  have HB0 := hidden hb0
  clear hb0
  go_enter Try.func7, Try.ntmps7
  go_upto_region 1 with fail
  generalize w.alloc (.cells #[.int .u32 (n : Int), .slice aa an ac, .slice pa pn pc] 59) = w0 at *
  obtain ⟨x0, x1, x2⟩ := HX.out.cells
  have HLD := hidden (laid18 a len cap zs w0 (HR.out.later HB0.out) ho)
  unfold LRet at HLD
  have HPA := hidden (params18 pa pn pc xs)
  have hbd := HP.out.bd
  generalize layB zs = BB at *
  go_upto_region 6 with (go_at_call 15; refine HLD.out.mono ?_; rintro e w1 ⟨m, d, g, rfl, hL, hb1⟩; have HM := hidden (hL.memr HOL.out (by rw [HLL.out]; decide)); have HB1 := hidden (HB0.out.trans (hb1.mono HB0.out.size)); replace HX := hidden (HX.out.later hb1); clear hL hb1 HB0 x0 x1 x2; obtain ⟨x0, x1, x2⟩ := HX.out.cells)
  clear HLD
  go_upto_region 7 with (go_at_call 16; refine (HPA.out _ (HP.out.later HB1.out) hpn).mono ?_; rintro e w2 ⟨p, rfl, hp1, hPP, hb2⟩; have HPR := hidden hPP; have hpx : w.heap.size ≠ p := by { have := HX.out.lt; omega }; have hp0 : w.heap.size ≤ p := Nat.le_trans HB1.out.size hp1; have HB2 := hidden (HB1.out.trans (hb2.mono HB1.out.size)); have HBM := hidden hb2; replace HX := hidden (HX.out.later hb2); clear hPP hb2 HB1 x0 x1 x2; obtain ⟨x0, x1, x2⟩ := HX.out.cells)
  have hc7 := HPR.out.cell 7 (by rw [par9_len]; decide)
  have hf7 := HPR.out.fz 7
  have HPS : Hid (PRow (w2.setCell ⟨p, 7, none⟩ (.int .u32 7)) p ((par9 xs).set 7 7)) := hidden (HPR.out.set 7 7)
  have HXS := hidden (HX.out.other p 7 (.int .u32 7) hpx)
  have HBS := hidden (HB2.out.setCell (p := ⟨p, 7, none⟩) hp0 (.int .u32 7))
  have HMS := hidden (HM.out.later (HBM.out.setCell (p := ⟨p, 7, none⟩) hp1 (.int .u32 7)))
  have hsl : ((par9 xs).set 7 7).length = 9 := by rw [List.length_set]; exact par9_len xs
  have hs7 := getD_set7 (par9 xs) (par9_len xs)
  have hsb : ∀ z ∈ (par9 xs).set 7 7, z < 4294967296 := fun z hz => by
    rcases List.mem_or_eq_of_mem_set hz with h3 | h3
    · exact parK_bd xs _ hbd z h3
    · omega
  go_upto_region 8 with fail
  clear hc7 hf7 x0 x1 x2 HPR HX HB2 HBM HM
  generalize w2.setCell ⟨p, 7, none⟩ (.int .u32 7) = w3 at *
  generalize (par9 xs).set 7 7 = PP at *
  have htk : PP.take 9 = PP := by rw [← hsl, List.take_length]
  have HV9 := hidden (HPS.out.row hsb 9 (by omega))
  rw [htk] at HV9
  obtain ⟨x0, x1, x2⟩ := HXS.out.cells
  have HD1 := hidden (do_good m BB 256 (some ⟨p, 0, none⟩) 9 PP n aa an ac ys w3 HMS.out HV9.out (HA.out.later HBS.out) (by omega) (by omega))
  go_upto_region 9 with (go_at_call 20; refine HD1.out.mono ?_; rintro e w4 ⟨rfl, hb4⟩; replace HXS := hidden (HXS.out.later hb4); have HM4 := hidden (HMS.out.later hb4); have HV4 := hidden (HV9.out.later hb4); have HB4 := hidden (HBS.out.trans (hb4.mono HBS.out.size)); clear hb4 HBS x0 x1 x2; obtain ⟨x0, x1, x2⟩ := HXS.out.cells)
  clear HD1 HMS HV9
  have en : ((n : Int) + 6) % 4294967296 = ((n + 6 : Nat) : Int) := by omega
  have en2 : (n : Int) + 6 = ((n + 6 : Nat) : Int) := by omega
  have HD2 := hidden (do_good m BB 256 (some ⟨p, 0, none⟩) 9 PP (n + 6) aa an ac ys w4 HM4.out HV4.out (HA.out.later HB4.out) (by omega) (by omega))
  rw [doA_old BB 256 PP n ys h2 h7 hsl hs7] at HD2
  generalize doA BB 256 PP n ys = V at *
  generalize n + 6 = N6 at *
  go_upto_region 10 with (go_at_call 20; refine HD2.out.mono ?_; rintro e w5 ⟨rfl, hb5⟩; have HB5 := hidden (HB4.out.trans (hb5.mono HB4.out.size)); clear hb5 HB4)
  clear x0 x1 x2 HXS HM4 HV4
  go_wp2_with (first | (go_at_call 19; refine (num18 _ _).mono ?_; rintro e w7 ⟨rfl, e9⟩; rw [e9]; clear e9) | (go_at_call 9; refine (live18 _).mono ?_; rintro e w7 ⟨rfl, hb7⟩; have HB7 := hidden (HB5.out.trans (hb7.mono HB5.out.size)); clear hb7) | fail)
  go_ret
  exact ⟨rfl, HB7.out⟩
theorem accelOld_walk (a : Option Addr) (len cap : Nat) (zs : List Int) (n : Int) (aa : Option Addr) (an ac : Nat) (az : List Int) (pa : Option Addr) (pn pc : Nat) (pz : List Int) (w : World) (h : IsRow .u8 w a len cap zs) (wn : (Lit.int .u32 n).wf = true) (hA : IsRow .u32 w aa an ac az) (hP : IsRow .u32 w pa pn pc pz) :
    Calls Try.prog 7 #[.slice a len cap, .agg #[.int .u32 n, .slice aa an ac, .slice pa pn pc]] w fun e w' => e = .returned (.bool true) ∧ Below w.heap.size w w' := by
  obtain ⟨r1, r2, r3⟩ := reads_of_row h
  have hn := bounds_u32 wn
  obtain ⟨k, rfl⟩ : ∃ k : Nat, n = k := ⟨n.toNat, by omega⟩
  obtain ⟨ys, hy, _, _⟩ := vrow_of hA
  obtain ⟨xs, hx, _, hx3⟩ := vrow_of hP
  by_cases c1 : 4096 < len
  · exact old_0 _ _ _ _ _ _ _ _ _ _ _ c1
  by_cases c2 : 20 < an
  · exact old_1 _ _ _ _ _ _ _ _ _ _ _ (by omega) c2
  by_cases c3 : k < 2
  · exact old_2 _ _ _ _ _ _ _ _ _ _ _ (by omega) (by omega) c3
  by_cases c4 : 7 < k
  · exact old_3 _ _ _ _ _ _ _ _ _ _ _ (by omega) (by omega) (by omega) c4
  exact old_4 _ _ _ _ _ _ _ _ _ _ _ _ ys xs r1 r2 hy hx hx3 (by omega) (by omega) (by omega) (by omega)
end Go.Proofs.Ytpgppdkbkkljnaa
