/- Layer 18: AccelNil. -/
import Derived.Test.YtpgppdkbkkljnaaN19j
import Derived.BigQuiet
import Derived.Deep.QuietTactic
namespace Go.Proofs.Ytpgppdkbkkljnaa
open Go.RowKit
set_option maxHeartbeats 20000000
set_option maxRecDepth 100000
set_option linter.unusedVariables false

/-- a world that has all that an earlier one had -/
structure BX (w0 : World) where
  w : World
  h : Below w0.heap.size w0 w
theorem wp_region_X {P : Program} {id : Nat} {Q : Exit → Act → World → Prop} {a : Act} {w : World} {l : List Oper} (C : World → Prop) (hm : P.follows .mixedOrders = true) (hB : Region.lexB .any l.toArray = true) (hC : C { w with drawn := w.drawn + 1 })
    (h : wpQuiet P l.toArray C (fun a' => ∀ w', C w' → Q .normal a' w') l a) : (Code.region id l.toArray true).wp P Q a w :=
  wp_region_quiet (C := C) hm hB hC (by simpa using h)
theorem full_at (ys : List Nat) (i : Nat) (hi : i < 2) : (ys ++ [0, 0]).getD i 0 = ys.getD i 0 := by
  by_cases h : i < ys.length
  · rw [List.getD_eq_getElem?_getD, List.getElem?_append_left h, List.getD_eq_getElem?_getD]
  · have e1 : ys[i]? = none := List.getElem?_eq_none (by omega)
    rw [List.getD_eq_getElem?_getD, List.getD_eq_getElem?_getD, e1, List.getElem?_append_right (by omega)]
    obtain h2 | h2 : i - ys.length = 0 ∨ i - ys.length = 1 := by omega
    · rw [h2]; rfl
    · rw [h2]; rfl
theorem app_first (aa : Option Addr) (an ac : Nat) (ys : List Nat) (w : World) (h : VRow w aa an ys) (hz : an = 0 → (aa = none ∧ ac = 0) ∨ ∃ x, aa = some x) (hn : an ≤ 20) :
    ∃ a' c' w', (∀ ty, (Builtin.append_ #[30, 30] ty #[.slice (some ⟨w.heap.size, 0, none⟩) 0 0, .slice aa an ac]).run Try.prog (w.alloc (.cells #[] 26)) = .ok (.slice a' an c') w') ∧ w'.ownsRow w.heap.size 26 1 (.slice a' an c') an (u32V ys) ∧ Below w.heap.size w w' := by
  have hb : Below w.heap.size w (w.alloc (.cells #[] 26)) := (Below.refl _ _).alloc (Nat.le_refl _) _
  have hm := World.ownsRow_made (base := w.heap.size) (e := 26) (size := 1) w #[] 0 (Nat.le_refl _) (Nat.zero_le _) (by simp)
  by_cases h0 : an = 0 ∧ ∃ x, aa = some x
  · obtain ⟨rfl, x, rfl⟩ := h0
    obtain rfl : ys = [] := List.eq_nil_of_length_eq_zero h.ln
    obtain ⟨w', hr, ho, hb'⟩ := app_none w x ac
    exact ⟨_, _, w', hr, ho, hb'⟩
  · obtain ⟨a', c', w', hr, ho, hf⟩ := app32 w.heap.size 0 0 an ac (some ⟨w.heap.size, 0, none⟩) aa [] ys (w.alloc (.cells #[] 26)) hm (h.later hb) (fun e => by
      rcases hz e with h1 | ⟨x, h1⟩
      · exact h1
      · exact absurd ⟨e, x, h1⟩ h0) (by omega) hb.size
    rw [Nat.zero_add] at hr ho
    rw [List.nil_append] at ho
    exact ⟨a', c', w', hr, ho, hb.trans (hf.below hb.size (fun k e => (hm.lt k e).1))⟩
theorem app_zeros (B : Nat) (a' : Option Addr) (an c' : Nat) (ys : List Nat) (w : World) (ho : w.ownsRow B 26 1 (.slice a' an c') an (u32V ys)) (hn : an ≤ 20) (hB : B ≤ w.heap.size) :
    ∃ g c2 w', (∀ ty, (Builtin.append_ #[30, 30] ty #[.slice a' an c', .slice (some ⟨w.heap.size, 0, none⟩) 2 2]).run Try.prog (w.alloc (.cells #[.int .u32 0, .int .u32 0] 26)) = .ok (.slice (some ⟨g, 0, none⟩) (an + 2) c2) w') ∧ (∀ i, i < 2 → w'.cell? ⟨g, i, none⟩ = some (.int .u32 (ys.getD i 0 : Nat))) ∧ Below B w w' := by
  have hb : Below w.heap.size w (w.alloc (.cells #[.int .u32 0, .int .u32 0] 26)) := (Below.refl _ _).alloc (Nat.le_refl _) _
  obtain ⟨a2, c2, w', hr, ho2, hf⟩ := app32 B an c' 2 2 a' (some ⟨w.heap.size, 0, none⟩) ys [0, 0] (w.alloc (.cells #[.int .u32 0, .int .u32 0] 26)) (ho.alloc _) (vrow2 w 0 0 (by decide) (by decide)) (fun h => absurd h (by decide)) (by omega) (Nat.le_trans hB hb.size)
  have hsh : ∃ g, a2 = some ⟨g, 0, none⟩ := by
    rcases ho2.2 with ⟨h1, h2⟩ | ⟨g, cap, cur, h1, _⟩
    · omega
    · cases h1; exact ⟨g, rfl⟩
  obtain ⟨g, rfl⟩ := hsh
  refine ⟨g, c2, w', hr, fun i hi => ?_, (hb.mono hB).trans (hf.below (Nat.le_trans hB hb.size) (fun k e => (ho.lt k e).1))⟩
  have hcs := ho2.cells (g := g) rfl i (.int .u32 (ys.getD i 0 : Nat)) (by
    have hl : i < (ys ++ [0, 0]).length := by simp; omega
    unfold u32V
    rw [List.getElem?_map, List.getElem?_eq_getElem hl]
    have := full_at ys i hi
    rw [List.getD_eq_getElem?_getD, List.getElem?_eq_getElem hl] at this
    simp only [Option.getD_some] at this
    simp [this])
  rwa [Addr.add_lit, Nat.zero_add] at hcs
theorem nil_0 (a : Option Addr) (len cap : Nat) (n : Nat) (aa : Option Addr) (an ac : Nat) (pa : Option Addr) (pn pc : Nat) (more : Nat) (w : World) (h : 4096 < len) : Calls Try.prog 8 #[.slice a len cap, .agg #[.int .u32 (n : Int), .slice aa an ac, .slice pa pn pc], .int .u32 (more : Int)] w fun e w' => e = .returned (.bool true) ∧ Below w.heap.size w w' := by
  have l1 : (len : Int) > 4096 := by omega
  have hb0 : Below w.heap.size w (w.alloc (.cells #[.int .u32 (n : Int), .slice aa an ac, .slice pa pn pc] 59)) := (Below.refl _ _).alloc (Nat.le_refl _) _
  have HX := hidden (ABx.new w (.int .u32 (n : Int)) (.slice aa an ac) (.slice pa pn pc))
  have HB0 := hidden hb0
  clear hb0
  go_enter Try.func8, Try.ntmps8
  go_upto_region 1 with fail
  generalize w.alloc (.cells #[.int .u32 (n : Int), .slice aa an ac, .slice pa pn pc] 59) = w0 at *
  obtain ⟨x0, x1, x2⟩ := HX.out.cells
  go_wp2_with (go_at_call 9; refine (live18 _).mono ?_; rintro e w7 ⟨rfl, hb7⟩; have HB7 := hidden (HB0.out.trans (hb7.mono HB0.out.size)); clear hb7)
  go_ret
  exact ⟨rfl, HB7.out⟩
theorem nil_1 (a : Option Addr) (len cap : Nat) (n : Nat) (aa : Option Addr) (an ac : Nat) (pa : Option Addr) (pn pc : Nat) (more : Nat) (w : World) (h0 : len ≤ 4096) (h : 20 < an) : Calls Try.prog 8 #[.slice a len cap, .agg #[.int .u32 (n : Int), .slice aa an ac, .slice pa pn pc], .int .u32 (more : Int)] w fun e w' => e = .returned (.bool true) ∧ Below w.heap.size w w' := by
  have l1 : ¬ (len : Int) > 4096 := by omega
  have l2 : (an : Int) > 20 := by omega
  have hb0 : Below w.heap.size w (w.alloc (.cells #[.int .u32 (n : Int), .slice aa an ac, .slice pa pn pc] 59)) := (Below.refl _ _).alloc (Nat.le_refl _) _
  have HX := hidden (ABx.new w (.int .u32 (n : Int)) (.slice aa an ac) (.slice pa pn pc))
  have HB0 := hidden hb0
  clear hb0
  go_enter Try.func8, Try.ntmps8
  go_upto_region 1 with fail
  generalize w.alloc (.cells #[.int .u32 (n : Int), .slice aa an ac, .slice pa pn pc] 59) = w0 at *
  obtain ⟨x0, x1, x2⟩ := HX.out.cells
  go_wp2_with (go_at_call 9; refine (live18 _).mono ?_; rintro e w7 ⟨rfl, hb7⟩; have HB7 := hidden (HB0.out.trans (hb7.mono HB0.out.size)); clear hb7)
  go_ret
  exact ⟨rfl, HB7.out⟩
theorem nil_2 (a : Option Addr) (len cap : Nat) (n : Nat) (aa : Option Addr) (an ac : Nat) (pa : Option Addr) (pn pc : Nat) (more : Nat) (w : World) (h0 : len ≤ 4096) (h1 : an ≤ 20) (h : 20 < pn) : Calls Try.prog 8 #[.slice a len cap, .agg #[.int .u32 (n : Int), .slice aa an ac, .slice pa pn pc], .int .u32 (more : Int)] w fun e w' => e = .returned (.bool true) ∧ Below w.heap.size w w' := by
  have l1 : ¬ (len : Int) > 4096 := by omega
  have l2 : ¬ (an : Int) > 20 := by omega
  have l3 : (pn : Int) > 20 := by omega
  have hb0 : Below w.heap.size w (w.alloc (.cells #[.int .u32 (n : Int), .slice aa an ac, .slice pa pn pc] 59)) := (Below.refl _ _).alloc (Nat.le_refl _) _
  have HX := hidden (ABx.new w (.int .u32 (n : Int)) (.slice aa an ac) (.slice pa pn pc))
  have HB0 := hidden hb0
  clear hb0
  go_enter Try.func8, Try.ntmps8
  go_upto_region 1 with fail
  generalize w.alloc (.cells #[.int .u32 (n : Int), .slice aa an ac, .slice pa pn pc] 59) = w0 at *
  obtain ⟨x0, x1, x2⟩ := HX.out.cells
  go_wp2_with (go_at_call 9; refine (live18 _).mono ?_; rintro e w7 ⟨rfl, hb7⟩; have HB7 := hidden (HB0.out.trans (hb7.mono HB0.out.size)); clear hb7)
  go_ret
  exact ⟨rfl, HB7.out⟩
theorem nil_3 (a : Option Addr) (len cap : Nat) (n : Nat) (aa : Option Addr) (an ac : Nat) (pa : Option Addr) (pn pc : Nat) (more : Nat) (w : World) (zs : List Int) (ys xs : List Nat) (hr : Reads w a len cap zs) (ho : OkB zs) (hA : VRow w aa an ys) (hP : VRow w pa pn xs) (hpn : pn ≤ 9223372036854775807) (h0 : len ≤ 4096) (h1 : an ≤ 20) (h2 : pn ≤ 20) (hn : n < 4294967296) (hmo : more < 4294967296) (hz : an = 0 → (aa = none ∧ ac = 0) ∨ ∃ x, aa = some x) : Calls Try.prog 8 #[.slice a len cap, .agg #[.int .u32 (n : Int), .slice aa an ac, .slice pa pn pc], .int .u32 (more : Int)] w fun e w' => e = .returned (.bool true) ∧ Below w.heap.size w w' := by
  have l1 : ¬ (len : Int) > 4096 := by omega
  have l2 : ¬ (an : Int) > 20 := by omega
  have l3 : ¬ (pn : Int) > 20 := by omega
  have HR := hidden hr
  have HA := hidden hA
  have HP := hidden hP
  have HZ := hidden hz
  have HOL : Hid (OkB (layB zs)) := hidden (lay_ok zs ho 1792)
  have HLL : Hid ((layB zs).length = 2048) := hidden (lay_len zs 1792 (by decide))
  clear hr hA hP hz
  have hb0 : Below w.heap.size w (w.alloc (.cells #[.int .u32 (n : Int), .slice aa an ac, .slice pa pn pc] 59)) := (Below.refl _ _).alloc (Nat.le_refl _) _
  have HX := hidden (ABx.new w (.int .u32 (n : Int)) (.slice aa an ac) (.slice pa pn pc))
  have HB0 := hidden hb0
  clear hb0
  go_enter Try.func8, Try.ntmps8
  go_upto_region 1 with fail
  generalize w.alloc (.cells #[.int .u32 (n : Int), .slice aa an ac, .slice pa pn pc] 59) = w0 at *
  obtain ⟨x0, x1, x2⟩ := HX.out.cells
  have HLD := hidden (laid18 a len cap zs w0 (HR.out.later HB0.out) ho)
  unfold LRet at HLD
  have HPA := hidden (params18 pa pn pc xs)
  have hbd := HP.out.bd
  have hyb := HA.out.bd
  generalize layB zs = BB at *
  go_upto_region 6 with (go_at_call 15; refine HLD.out.mono ?_; rintro e w1 ⟨m, d, g, rfl, hL, hb1⟩; have HM := hidden (hL.memr HOL.out (by rw [HLL.out]; decide)); have HB1 := hidden (HB0.out.trans (hb1.mono HB0.out.size)); replace HX := hidden (HX.out.later hb1); clear hL hb1 HB0 x0 x1 x2; obtain ⟨x0, x1, x2⟩ := HX.out.cells)
  clear HLD
  go_upto_region 7 with (go_at_call 20; refine (do_nil pa pn pc n aa an ac _).mono ?_; rintro e w2 ⟨rfl, hb2⟩; replace HM := hidden (HM.out.later hb2); have HB2 := hidden (HB1.out.trans (hb2.mono HB1.out.size)); replace HX := hidden (HX.out.later hb2); clear hb2 HB1 x0 x1 x2; obtain ⟨x0, x1, x2⟩ := HX.out.cells)
  go_upto_region 10 with (first | (go_at_call 11; refine (param_nil _ _ _).mono ?_; rintro e w9 ⟨rfl, e9⟩; rw [e9]; clear e9) | (go_at_call 12; refine (func_nil _ _ _).mono ?_; rintro e w9 ⟨rfl, e9⟩; rw [e9]; clear e9) | fail)
  go_upto_region 11 with (go_at_call 16; refine (HPA.out _ (HP.out.later HB2.out) hpn).mono ?_; rintro e w3 ⟨p, rfl, hp1, hPP, hb3⟩; have HPR := hidden hPP; have HB3 := hidden (HB2.out.trans (hb3.mono HB2.out.size)); replace HM := hidden (HM.out.later hb3); replace HX := hidden (HX.out.later hb3); clear hPP hb3 HB2 x0 x1 x2 hp1; obtain ⟨x0, x1, x2⟩ := HX.out.cells)
  have hsl := par9_len xs
  have hsb : ∀ z ∈ par9 xs, z < 4294967296 := parK_bd xs _ hbd
  generalize par9 xs = PP at *
  obtain ⟨a1, c1, wA, hr1, ho1, hbA⟩ := app_first aa an ac ys w3 (HA.out.later HB3.out) HZ.out h1
  obtain ⟨g2, c2, wB, hr2, hfull, hbB⟩ := app_zeros w3.heap.size a1 an c1 ys wA ho1 h1 hbA.size
  have HR1 := hidden hr1
  have HR2 := hidden hr2
  have HFU := hidden hfull
  have hbAB := hbA.trans hbB
  have HB4 := hidden (HB3.out.trans (hbAB.mono HB3.out.size))
  have HM4 := hidden (HM.out.later hbAB)
  have HX4 := hidden (HX.out.later hbAB)
  have HP4 := hidden (HPR.out.later hbAB)
  clear hr1 ho1 hbA hr2 hfull hbB hbAB HM HPR HX
  have x1' : (w3.alloc (.cells #[] 26)).cell? ⟨w.heap.size, 1, none⟩ = some (.slice aa an ac) := cellLater ((Below.refl w3.heap.size w3).alloc (Nat.le_refl _) (.cells #[] 26)) x1
  go_upto_region 12 with (first | (at_builtin; refine Lib.wpList_append_run _ rfl (.tmp 71) (.tmp 73) 30 30 rfl _ _ rfl rfl _ _ (HR1.out _) ?_) | (at_builtin; refine Lib.wpList_append_run _ rfl (.tmp 74) (.tmp 75) 30 30 rfl _ _ rfl rfl _ _ (HR2.out _) ?_) | fail)
  clear HR1 HR2 x0 x1 x2 x1' HB3
  obtain ⟨x0, x1, x2⟩ := HX4.out.cells
  have htk : PP.take 9 = PP := by rw [← hsl, List.take_length]
  have HV9 := hidden (HP4.out.row hsb 9 (by omega))
  rw [htk] at HV9
  have HD1 := hidden (do_all m BB 256 (some ⟨p, 0, none⟩) 9 PP n aa an ac ys wB HM4.out HV9.out (HA.out.later HB4.out))
  have hy0 : ys.getD 0 0 < 4294967296 := by
    rw [List.getD_eq_getElem?_getD]
    cases he : ys[0]? with
    | none => decide
    | some x => exact hyb x (List.mem_of_getElem? he)
  have hy1 : ys.getD 1 0 < 4294967296 := by
    rw [List.getD_eq_getElem?_getD]
    cases he : ys[1]? with
    | none => decide
    | some x => exact hyb x (List.mem_of_getElem? he)
  have HE := hidden (doA_err BB 256 PP n ys hsb HOL.out (by rw [HLL.out]; decide) (by decide) hsl)
  have HMR := hidden (doA_more BB 256 PP n ys more)
  go_upto_region 13 with (go_at_call 20; refine HD1.out.mono ?_; rintro e w5 ⟨rfl, hb5⟩; have HB5 := hidden (HB4.out.trans (hb5.mono HB4.out.size)); have HX5 := hidden (HX4.out.later hb5); have HM5 := hidden (HM4.out.later hb5); have HP5 := hidden (HP4.out.later hb5); have HV5 := hidden (HV9.out.later hb5); have HF5 : Hid (∀ i, i < 2 → w5.cell? ⟨g2, i, none⟩ = some (.int .u32 (ys.getD i 0 : Nat))) := hidden (fun i hi => cellLater hb5 (HFU.out i hi)); clear hb5 HB4 x0 x1 x2)
  clear HD1 HM4 HX4 HP4 HV9 HFU
  obtain ⟨x0, x1, x2⟩ := HX5.out.cells
  have f0 := HF5.out 0 (by decide)
  have f1 := HF5.out 1 (by decide)
  generalize hY0 : ys.getD 0 0 = Y0 at *
  generalize hY1 : ys.getD 1 0 = Y1 at *
  have hV3 : VRow (w5.alloc (.cells #[.int .u32 (Y0 : Int), .int .u32 (Y1 : Int), .int .u32 (more : Int)] 26)) (some ⟨w5.heap.size, 0, none⟩) 3 [Y0, Y1, more] := by
    have h : PRow (w5.alloc (.cells (wdV [Y0, Y1, more]).toArray 26)) w5.heap.size [Y0, Y1, more] := PRow.new w5 _
    exact h.row (by intro z hz; simp at hz; omega) 3 (by simp)
  have hb5 : Below w5.heap.size w5 (w5.alloc (.cells #[.int .u32 (Y0 : Int), .int .u32 (Y1 : Int), .int .u32 (more : Int)] 26)).drew := ((Below.refl _ _).alloc (Nat.le_refl _) _).drew
  have HD3 := hidden (do_all m BB 256 (some ⟨p, 0, none⟩) 9 PP n (some ⟨w5.heap.size, 0, none⟩) 3 3 [Y0, Y1, more] (w5.alloc (.cells #[.int .u32 (Y0 : Int), .int .u32 (Y1 : Int), .int .u32 (more : Int)] 26)).drew (HM5.out.later hb5) (HV5.out.later hb5) (hV3.later (Below.refl _ _).drew))
  rw [HMR.out] at HD3
  have HB5d := hidden hb5
  clear hV3 hb5
  generalize doA BB 256 PP n ys = V at *
  have i0 : (0 : Int) < ((an + 2 : Nat) : Int) := by omega
  have i1 : (1 : Int) < ((an + 2 : Nat) : Int) := by omega
  have i2 : (0 : Int) < (an : Int) + 2 := by omega
  have i3 : (1 : Int) < (an : Int) + 2 := by omega
  go_region_held3 (fun w' => w'.cell? ⟨w.heap.size, 0, none⟩ = some (.int .u32 (n : Int)) ∧ w'.cell? ⟨g2, 0, none⟩ = some (.int .u32 (Y0 : Int)) ∧ w'.cell? ⟨g2, 1, none⟩ = some (.int .u32 (Y1 : Int))) (first | (refine ⟨?_, ?_, ?_⟩ <;> with_reducible assumption) | go_keep) (first | (go_at_call 20; refine HD3.out.mono ?_; rintro e w6 ⟨rfl, hb6⟩; have hb56 := HB5d.out.trans (hb6.mono HB5d.out.size); have HX6 := hidden (HX5.out.later hb56); have HB6 := hidden (HB5.out.trans (hb56.mono HB5.out.size)); have f0 := cellLater hb56 f0; have f1 := cellLater hb56 f1; clear hb6 hb56; obtain ⟨x0, x1, x2⟩ := HX6.out.cells) | fail)
  clear f0 f1
  have HDF := hidden (fun w => do_few m (some ⟨p, 0, none⟩) 9 n aa an ac w)
  go_upto_region 14 with fail
  go_quiet (first | (go_at_call 20; exact Calls.quiet_of_same (HDF.out _)))
  have HX7 := hidden (HX6.out.later (bel_dn (Below.refl w6.heap.size w6) nq))
  have HB7 := hidden (bel_dn HB6.out nq)
  clear x0 x1 x2 HX6 HB6 HDF
  go_upto_region 15 with fail
  generalize w6.drewN nq = w7 at *
  have hx0 : ∀ z : BX w7, z.w.cell? ⟨w.heap.size, 0, none⟩ = some (.int .u32 (n : Int)) := fun z => (HX7.out.later z.h).cells.1
  have HLV := hidden (fun z : BX w7 => (live18 z.w).mono (fun e w' hh => And.intro hh.1 (show ∃ z' : BX w7, w' = z'.w from ⟨⟨w', z.h.trans (hh.2.mono z.h.size)⟩, rfl⟩)))
  haveI hne : Nonempty (BX w7) := ⟨⟨w7, Below.refl _ _⟩⟩
  have hE := HE.out
  have HNM := hidden (fun (x : Int) (z : BX w7) => (num18 x z.w).mono (fun e w' hh => And.intro hh.1 (show ∃ z' : BX w7, w' = z'.w from ⟨z, hh.2⟩)))
  have HAN := hidden (fun (z : BX w7) => (at_nil18 (more : Int) z.w).mono (fun e w' hh => And.intro hh.1 (show ∃ z' : BX w7, w' = z'.w from ⟨z, hh.2⟩)))
  have HPN := hidden (fun (z : BX w7) => (params_nil z.w).mono (fun e w' hh => And.intro hh.1 (show ∃ z' : BX w7, w' = z'.w from ⟨z, hh.2⟩)))
  have HSM := hidden (fun (z : BX w7) => (slip_of (-1) z.w (by decide) (by decide) (by decide)).mono (fun e w' hh => And.intro hh.1 (show ∃ z' : BX w7, w' = z'.w from ⟨z, hh.2⟩)))
  have HS4 := hidden (fun (z : BX w7) => (slip_of 4 z.w (by decide) (by decide) (by decide)).mono (fun e w' hh => And.intro hh.1 (show ∃ z' : BX w7, w' = z'.w from ⟨z, hh.2⟩)))
  have sx : ((V.x : Int) == (V.x : Int)) = true := by simp
  have ss : (V.s == V.s) = true := by simp
  have se : (V.e == V.e) = true := by simp
  try clear HX7
  try clear HE
  try clear HMR
  try clear HOL
  try clear HLL
  try clear HA
  try clear HP
  try clear HR
  try clear HZ
  try clear HPA
  try clear hbd
  try clear hyb
  try clear hsl
  try clear hsb
  try clear htk
  try clear hy0
  try clear hy1
  try clear hY0
  try clear hY1
  try clear ho
  try clear hpn
  try clear h0
  try clear h1
  try clear h2
  try clear hmo
  try clear l1
  try clear l2
  try clear l3
  try clear i0
  try clear i1
  try clear i2
  try clear i3
  try clear HM5
  try clear HV5
  try clear HP5
  try clear HF5
  try clear HB5
  try clear HB5d
  try clear HX5
  try clear HD3
  try clear HD1
  by_cases c1 : n < 1
  · have q : (V.e == 1) = true := by rw [hE.2 (.inl c1)]; rfl
    have k1 : (n : Int) < 1 := by omega
    clear hE
    refine wp_region_X (fun w' => ∃ z : BX w7, w' = z.w) (by kernel_rfl) (by kernel_rfl) ⟨⟨_, (Below.refl _ _).drew⟩, rfl⟩ ?_
    repeat (go_big_quiet_step ((first
      | (go_at_call 19; exact HNM.out _ _)
      | (go_at_call 14; exact HAN.out _)
      | (go_at_call 13; exact HPN.out _)
      | (go_at_call 23; exact HSM.out _)
      | (go_at_call 23; exact HS4.out _)
      | (go_at_call 9; exact HLV.out _))))
    refine wpQuiet_nil ?_
    intro w8 hw8
    obtain ⟨z8, hz8⟩ := hw8
    have HB8 : Hid (Below w.heap.size w w8) := hidden (by rw [hz8]; exact HB7.out.trans (z8.h.mono HB7.out.size))
    clear hz8 z8 hx0
    go_wp2
    go_ret
    exact ⟨rfl, HB8.out⟩
  by_cases c2 : 13 < n
  · have q : (V.e == 1) = true := by rw [hE.2 (.inr c2)]; rfl
    have k1 : ¬ (n : Int) < 1 := by omega
    have k2 : (n : Int) > 13 := by omega
    clear hE
    refine wp_region_X (fun w' => ∃ z : BX w7, w' = z.w) (by kernel_rfl) (by kernel_rfl) ⟨⟨_, (Below.refl _ _).drew⟩, rfl⟩ ?_
    repeat (go_big_quiet_step ((first
      | (go_at_call 19; exact HNM.out _ _)
      | (go_at_call 14; exact HAN.out _)
      | (go_at_call 13; exact HPN.out _)
      | (go_at_call 23; exact HSM.out _)
      | (go_at_call 23; exact HS4.out _)
      | (go_at_call 9; exact HLV.out _))))
    refine wpQuiet_nil ?_
    intro w8 hw8
    obtain ⟨z8, hz8⟩ := hw8
    have HB8 : Hid (Below w.heap.size w w8) := hidden (by rw [hz8]; exact HB7.out.trans (z8.h.mono HB7.out.size))
    clear hz8 z8 hx0
    go_wp2
    go_ret
    exact ⟨rfl, HB8.out⟩
  have q : (V.e == 1) = false := by rw [beq_eq_false_iff_ne]; intro h; rcases hE.1 h with h | h <;> omega
  have k1 : ¬ (n : Int) < 1 := by omega
  have k2 : ¬ (n : Int) > 13 := by omega
  clear hE
  refine wp_region_X (fun w' => ∃ z : BX w7, w' = z.w) (by kernel_rfl) (by kernel_rfl) ⟨⟨_, (Below.refl _ _).drew⟩, rfl⟩ ?_
  repeat (go_big_quiet_step ((first
    | (go_at_call 19; exact HNM.out _ _)
    | (go_at_call 14; exact HAN.out _)
    | (go_at_call 13; exact HPN.out _)
    | (go_at_call 23; exact HSM.out _)
    | (go_at_call 23; exact HS4.out _)
    | (go_at_call 9; exact HLV.out _))))
  refine wpQuiet_nil ?_
  intro w8 hw8
  obtain ⟨z8, hz8⟩ := hw8
  have HB8 : Hid (Below w.heap.size w w8) := hidden (by rw [hz8]; exact HB7.out.trans (z8.h.mono HB7.out.size))
  clear hz8 z8 hx0
  go_wp2
  go_ret
  exact ⟨rfl, HB8.out⟩
theorem accelNil_walk (a : Option Addr) (len cap : Nat) (zs : List Int) (n : Int) (aa : Option Addr) (an ac : Nat) (az : List Int) (pa : Option Addr) (pn pc : Nat) (pz : List Int) (more : Int) (w : World) (h : IsRow .u8 w a len cap zs) (wn : (Lit.int .u32 n).wf = true) (hA : IsRow .u32 w aa an ac az) (hP : IsRow .u32 w pa pn pc pz) (wm : (Lit.int .u32 more).wf = true) :
    Calls Try.prog 8 #[.slice a len cap, .agg #[.int .u32 n, .slice aa an ac, .slice pa pn pc], .int .u32 more] w fun e w' => e = .returned (.bool true) ∧ Below w.heap.size w w' := by
  obtain ⟨r1, r2, r3⟩ := reads_of_row h
  have hn := bounds_u32 wn
  have hm := bounds_u32 wm
  obtain ⟨k, rfl⟩ : ∃ k : Nat, n = k := ⟨n.toNat, by omega⟩
  obtain ⟨mo, rfl⟩ : ∃ k : Nat, more = k := ⟨more.toNat, by omega⟩
  have hz : an = 0 → (aa = none ∧ ac = 0) ∨ ∃ x, aa = some x := fun _ => by
    rcases hA with ⟨h1, _, h3, _⟩ | ⟨x, h1, _⟩
    · exact .inl ⟨h1, h3⟩
    · exact .inr ⟨x, h1⟩
  obtain ⟨ys, hy, _, _⟩ := vrow_of hA
  obtain ⟨xs, hx, _, hx3⟩ := vrow_of hP
  by_cases c1 : 4096 < len
  · exact nil_0 _ _ _ _ _ _ _ _ _ _ _ _ c1
  by_cases c2 : 20 < an
  · exact nil_1 _ _ _ _ _ _ _ _ _ _ _ _ (by omega) c2
  by_cases c3 : 20 < pn
  · exact nil_2 _ _ _ _ _ _ _ _ _ _ _ _ (by omega) (by omega) c3
  exact nil_3 _ _ _ _ _ _ _ _ _ _ _ _ _ ys xs r1 r2 hy hx hx3 (by omega) (by omega) (by omega) (by omega) (by omega) hz
end Go.Proofs.Ytpgppdkbkkljnaa
