/- Contract of the document's Make (package grottoref07): first the letters' row, which grows. -/
import Derived.Test.YtpgppdkbkkljnaaH7l
import Derived.Test.YtpgppdkbkkljnaaH7s
import Derived.Test.YtpgppdkbkkljnaaH7n
import Derived.Lib.SlFresh
namespace Go.Proofs.Ytpgppdkbkkljnaa
open Go.RowKit
set_option maxHeartbeats 1000000
set_option maxRecDepth 100000
set_option linter.unusedVariables false

/-- the letters as a constant row -/
def GRow (w : World) (G : Nat) : Prop := w.heap[G]? = some (.cells #[.int .u8 71, .int .u8 108, .int .u8 117, .int .u8 108] 5 (4, 5))
theorem GRow.lt {w : World} {G : Nat} (h : GRow w G) : G < w.heap.size := (Array.getElem?_eq_some_iff.1 h).1
theorem GRow.later {w w' : World} {G : Nat} (h : GRow w G) (hb : Below w.heap.size w w') : GRow w' G := (hb.block G h.lt).trans h
theorem GRow.cells {w : World} {G : Nat} (h : GRow w G) (j : Nat) (v : Value) (hj : (bytesV glul)[j]? = some v) : w.cell? ((⟨G, 0, none⟩ : Addr).add j) = some v := by
  rw [plain_add, Nat.zero_add]
  unfold GRow at h
  unfold World.cell?
  simp only
  rw [h]
  simpa [bytesV, glul] using hj
theorem grow_glul (w : World) (ty : TypeId) (G : Nat) (hG : GRow w G) (x : Addr) (c : Nat) (ps : List Int) (hp : ps.length = 4) (hn : ∀ j v, (bytesV ps)[j]? = some v → w.cell? (x.add j) = some v) :
    ∃ v w', (Builtin.append_ #[50, 50] ty #[.slice (some ⟨G, 0, none⟩) 4 4, .slice (some x) 4 c]).run Try.prog w = .ok v w' ∧ w'.ownsRow w.heap.size 5 1 v 8 (bytesV (glul ++ ps)) ∧ Below w.heap.size w w' := by
  obtain ⟨i0, hi, hz0, hz1, hz2⟩ := info_parts info8
  have hr := run_append_grow (P := Try.prog) w 50 ty 5 i0 (.int .u8 0) Try.underlying50 hi hz0 ⟨G, 0, none⟩ 4 4 (bytesV glul) (by rw [hz1]; rfl) hG.cells x 4 c (bytesV ps) (by rw [hz1]; simp [bytesV, hp]) hn (by omega) (by omega) (growslice_fits (by omega) (by rw [hz2]; omega))
  have hlen : (bytesV (glul ++ ps)).length = 8 := by simp [bytesV, glul, hp]
  refine ⟨_, _, hr, ⟨by rw [hlen], .inr ⟨w.heap.size, _, _, rfl, Nat.le_refl _, heap_alloc_new w.drew _, grownCap_ge _ _ _ _, grownCap_le_maxLen _ _ _ _ (by decide), ?_, ?_⟩⟩, ?_⟩
  · have := grownCap_ge w 8 4 5
    rw [Array.size_append, Array.size_append, size_zeroCells]
    simp [bytesV, glul, hp, Value.cells]
    omega
  · rw [Array.toList_append, Array.toList_append, List.toList_toArray, List.toList_toArray, bytesV_append, Nat.mul_one, List.take_left' (by rw [hlen])]
  · exact ((Below.refl _ _).drew).alloc (Nat.le_refl _) _
/-- a row of words as it lies in memory -/
def WRow (w : World) (g : Nat) (l : List Int) : Prop := ∀ k x, l[k]? = some x → w.cell? ⟨g, k, none⟩ = some (.int .u32 x)
theorem WRow.later {w w' : World} {g : Nat} {l : List Int} (h : WRow w g l) (hb : Below w.heap.size w w') : WRow w' g l := fun k x hk => cellLater hb (h k x hk)
theorem wrow_new (w : World) (v ram ext en st start tab : Int) : WRow (w.alloc (.cells #[.int .u32 v, .int .u32 ram, .int .u32 ext, .int .u32 en, .int .u32 st, .int .u32 start, .int .u32 tab, .int .u32 0] 26)) w.heap.size [v, ram, ext, en, st, start, tab, 0] := by
  intro k x hk
  have hlt : k < 8 := by
    have := (List.getElem?_eq_some_iff.1 hk).1
    simpa using this
  obtain rfl | rfl | rfl | rfl | rfl | rfl | rfl | rfl : k = 0 ∨ k = 1 ∨ k = 2 ∨ k = 3 ∨ k = 4 ∨ k = 5 ∨ k = 6 ∨ k = 7 := by omega
  all_goals
    obtain rfl := Option.some.inj hk
    simp
theorem make_any_sum (h : Hd) (zs : List Int) (T : Int) : makeL h zs = hdrL { h with sum := sumV (hdrL { h with sum := T } ++ zs) } ++ zs := by
  unfold makeL
  have e : sumV (hdrL h ++ zs) = sumV (hdrL { h with sum := T } ++ zs) := by
    unfold sumV
    rw [List.length_append, List.length_append, hdrL_len, hdrL_len]
    exact sum_congr _ _ _ (fun i hi => hdr_getD h zs T i hi)
  rw [e]
theorem splice_getD (M P : List Int) (hP : P.length = 4) (hM : 36 ≤ M.length) (i : Nat) : (if 32 ≤ i ∧ i < 32 + 4 then P.getD (i - 32) 0 else M.getD i 0) = (splice M 32 P).getD i 0 := by
  have h1 : (M.take 32).length = 32 := by rw [List.length_take]; omega
  simp only [splice, List.getD_eq_getElem?_getD]
  by_cases c1 : i < 32
  · rw [if_neg (by omega), List.getElem?_append_left (by omega), List.getElem?_take, if_pos c1]
  · rw [List.getElem?_append_right (by omega), h1]
    by_cases c2 : i < 36
    · rw [if_pos (by omega), List.getElem?_append_left (by omega)]
    · rw [if_neg (by omega), List.getElem?_append_right (by omega), List.getElem?_drop, hP, show 32 + 4 + (i - 32 - 4) = i by omega]
theorem rmake_part (v ram ext en st start tab sm : Int) (ok : OkH ⟨v, ram, ext, en, st, start, tab, sm⟩) (a : Option Addr) (L cap : Nat) (zs : List Int) (w : World) (h : Reads w a L cap zs) (hz : OkB zs) (hL : L ≤ 65536) (h0 : Hd) (E AT : Int)
    (hP : parseH (makeL ⟨v, ram, ext, en, st, start, tab, sm⟩ zs) = (h0, E, AT)) :
    Calls Try.prog 24 #[.agg #[.int .u32 v, .int .u32 ram, .int .u32 ext, .int .u32 en, .int .u32 st, .int .u32 start, .int .u32 tab, .int .u32 sm], .slice a L cap] w fun e w' => Below w.heap.size w w' ∧ (E ≠ 0 → e = .returned (.tuple #[.slice none 0 0, .int .i64 E])) ∧ (E = 0 → ∃ g c, e = .returned (.tuple #[.slice (some ⟨g, 0, none⟩) (36 + L) c, .int .i64 0]) ∧ Bs w' g 0 (36 + L) (makeL ⟨v, ram, ext, en, st, start, tab, sm⟩ zs) ∧ 36 + L ≤ c) := by
  obtain ⟨i0, hi, hz0, hz1, hz2⟩ := info_parts info8
  have g1 : (L : Int) ≤ 65536 := by omega
  have hzl := h.1
  have HR := hidden h
  have HOZ := hidden hz
  have HBD : Hid (∀ x ∈ [v, ram, ext, en, st, start, tab, 0], 0 ≤ x ∧ x ≤ 4294967295) := hidden (by
    obtain ⟨q0, q1, q2, q3, q4, q5, q6, q7⟩ := ok
    dsimp only at q0 q1 q2 q3 q4 q5 q6
    intro x hx
    simp at hx
    rcases hx with rfl | rfl | rfl | rfl | rfl | rfl | rfl | rfl <;> first | assumption | omega)
  have hb1 : Below w.heap.size w (w.alloc (.cells #[.int .u32 v, .int .u32 ram, .int .u32 ext, .int .u32 en, .int .u32 st, .int .u32 start, .int .u32 tab, .int .u32 sm] 70)) := (Below.refl _ _).alloc (Nat.le_refl _) _
  have HX := hidden (HBox.new w ⟨v, ram, ext, en, st, start, tab, sm⟩)
  clear h hz ok
  go_enter Try.func24, Try.ntmps24
  go_upto_region 1 with fail
  generalize hw1 : w.alloc (.cells #[.int .u32 v, .int .u32 ram, .int .u32 ext, .int .u32 en, .int .u32 st, .int .u32 start, .int .u32 tab, .int .u32 sm] 70) = w1 at *
  clear hw1
  have hcv := Lib.run_convert_bytes_const (P := Try.prog) w1 50 5 #[.int .u8 71, .int .u8 108, .int .u8 117, .int .u8 108] 4 4 Try.underlying50 Try.underlying5
  have hsz : (#[.int .u8 71, .int .u8 108, .int .u8 117, .int .u8 108] : Array Value).size = 4 := rfl
  rw [hsz] at hcv
  clear hsz
  have hbg : Below w1.heap.size w1 (w1.alloc (.cells #[.int .u8 71, .int .u8 108, .int .u8 117, .int .u8 108] 5 (4, 4 + 1))) := (Below.refl _ _).alloc (Nat.le_refl _) _
  have HG : Hid (GRow (w1.alloc (.cells #[.int .u8 71, .int .u8 108, .int .u8 117, .int .u8 108] 5 (4, 4 + 1))) w1.heap.size) := hidden (heap_alloc_new _ _)
  replace HX := hidden (HX.out.later hbg)
  have HB := hidden (hb1.trans (hbg.mono hb1.size))
  clear hbg hb1
  go_upto_region 2 with fail
  change Code.wp _ _ _ _ (w1.alloc (.cells #[.int .u8 71, .int .u8 108, .int .u8 117, .int .u8 108] 5 (4, 4 + 1)))
  clear hcv
  generalize w1.heap.size = G at *
  generalize w1.alloc (.cells #[.int .u8 71, .int .u8 108, .int .u8 117, .int .u8 108] 5 (4, 4 + 1)) = w2 at *
  obtain ⟨c0, c1, c2, c3, c4, c5, c6, c7⟩ := HX.out.cells
  dsimp only at c0 c1 c2 c3 c4 c5 c6 c7
  go_upto_region 3 with fail
  change Code.wp _ _ _ _ (w2.alloc (.cells #[.int .u32 v, .int .u32 ram, .int .u32 ext, .int .u32 en, .int .u32 st, .int .u32 start, .int .u32 tab, .int .u32 0] 26))
  have hbl3 : Below w2.heap.size w2 (w2.alloc (.cells #[.int .u32 v, .int .u32 ram, .int .u32 ext, .int .u32 en, .int .u32 st, .int .u32 start, .int .u32 tab, .int .u32 0] 26)) := (Below.refl _ _).alloc (Nat.le_refl _) _
  have HWR := hidden (wrow_new w2 v ram ext en st start tab)
  replace HG := hidden (HG.out.later hbl3)
  replace HB := hidden (HB.out.trans (hbl3.mono HB.out.size))
  clear c0 c1 c2 c3 c4 c5 c6 c7 hbl3 HX
  generalize w2.heap.size = G7 at *
  generalize w2.alloc (.cells #[.int .u32 v, .int .u32 ram, .int .u32 ext, .int .u32 en, .int .u32 st, .int .u32 start, .int .u32 tab, .int .u32 0] 26) = w3 at *
  go_wp2
  go_loopw [6, 8] (fun v' i w' => ∃ k : Nat, k ≤ 8 ∧ i = .int .i64 k ∧ Below w3.heap.size w3 w' ∧ ((k = 0 ∧ v' = .slice (some ⟨G, 0, none⟩) 4 4) ∨ (1 ≤ k ∧ w'.ownsRow w3.heap.size 5 1 v' (4 + 4 * k) (bytesV (glul ++ putsL ([v, ram, ext, en, st, start, tab, 0].take k)))))) (fun _ i _ => 8 - (intOf i).toNat)
  case atStart => exact ⟨0, by omega, rfl, Below.refl _ _, .inl ⟨rfl, rfl⟩⟩
  case round =>
    obtain ⟨k, hk, rfl, hbl, hcase⟩ := hrel
    have hs1 := hbl.size
    by_cases hlt : k < 8
    · have hlt2 : (k : Int) < 8 := by omega
      have hk0 : (0 : Int) ≤ (k : Int) := by omega
      obtain ⟨X, hX⟩ : ∃ X, [v, ram, ext, en, st, start, tab, 0][k]? = some X := ⟨_, List.getElem?_eq_getElem (show k < 8 by omega)⟩
      have hcell := cellLater hbl (HWR.out k X hX)
      obtain ⟨x0, x1⟩ := HBD.out X (List.mem_of_getElem? hX)
      have HPs := hidden (puts_snoc _ k X hX)
      have HCs := hidden hcase
      clear hX hcase
      go_wp2_with (first | (go_at_call 37; refine (rput_4 X _ x0 x1).mono ?_; rintro e w4 ⟨pv, rfl, hop, hb4⟩; refine Hid.out ?_) | fail)
      obtain ⟨gp, cp, rfl, hcp, hgp⟩ := owned_shape hop (by omega)
      have HN4 : Hid (∀ j u, (bytesV (putL X 4))[j]? = some u → w4.cell? ((⟨gp, 0, none⟩ : Addr).add j) = some u) := hidden ((own_bs hop).reads cp hcp).news
      have hbl4 : Below w3.heap.size w3 w4 := hbl.trans (hb4.mono hs1)
      have hs4 := hbl4.size
      clear hop
      rcases HCs.out with ⟨hk00, rfl⟩ | ⟨hk1, hown⟩
      · obtain ⟨v5, w5, hap, ho5, hb5⟩ := grow_glul w4 50 G (HG.out.later hbl4) ⟨gp, 0, none⟩ cp (putL X 4) rfl HN4.out
        have hbl5 : Below w3.heap.size w3 w5 := hbl4.trans (hb5.mono hs4)
        have ho5' : w5.ownsRow w3.heap.size 5 1 v5 (4 + 4 * (k + 1)) (bytesV (glul ++ putsL ([v, ram, ext, en, st, start, tab, 0].take (k + 1)))) := by
          rw [HPs.out]
          subst hk00
          exact own_base ho5 hs4
        have HO5 := hidden ho5'
        have HK0 := hidden hk00
        clear ho5 ho5' hb5 hbl4 hb4 HN4 HCs hk00 hcell
        refine hidden ?_
        go_wp2_with (at_builtin; refine Lib.wpList_append_run_sl _ rfl (.tmp 37) (.tmp 42) 50 rfl _ _ rfl rfl hap ?_; refine Hid.out ?_)
        clear hap
        refine hidden ?_
        go_wp2
        go_roundw
        case rel => exact ⟨k + 1, by omega, by go_num, hbl5, .inr ⟨by omega, HO5.out⟩⟩
        case measure => simp [intOf]; omega
      · have HO4 := hidden (own_later hown hb4)
        clear hown HCs hb4 hcell
        refine hidden ?_
        go_wp2_with (at_builtin; refine wpList_append_own _ rfl (.tmp 37) (.tmp 42) 50 rfl w3.heap.size 5 i0 (.int .u8 0) 1 1 Try.underlying50 hi hz0 hz1 hz2 rfl (by decide) _ _ _ rfl HO4.out ⟨gp, 0, none⟩ 4 cp (bytesV (putL X 4)) rfl rfl HN4.out (bytesV_one _) (by unfold maxLen; omega) (by omega) (by omega) ?_; intro v5 w5 hown5 hgrow5 hiff5; clear hiff5; refine Hid.out ?_)
        have hbl5 : Below w3.heap.size w3 w5 := hbl4.grown hgrow5 hs4 (fun k hk => (HO4.out.lt k hk).1)
        rw [bytesV_append, List.append_assoc, ← HPs.out] at hown5
        have HO5 := hidden hown5
        clear hown5 hgrow5 HO4 HN4 hbl4
        refine hidden ?_
        go_wp2
        go_roundw
        case rel => exact ⟨k + 1, by omega, by go_num, hbl5, .inr ⟨by omega, HO5.out⟩⟩
        case measure => simp [intOf]; omega
    · obtain rfl : k = 8 := by omega
      obtain ⟨hk1, _⟩ | ⟨_, hown⟩ := hcase
      · omega
      have HO := hidden hown
      have HBX := hidden (HB.out.trans (hbl.mono HB.out.size))
      have HRx := hidden (HR.out.later HBX.out)
      have HBX0 := HB
      clear hown HB HR HG HWR
      generalize hY : glul ++ putsL ([v, ram, ext, en, st, start, tab, 0].take 8) = Y at *
      have HY : Hid (hdrL ⟨v, ram, ext, en, st, start, tab, 0⟩ = Y) := hidden (by rw [← hY]; rfl)
      have hYl : Y.length = 36 := by rw [← HY.out]; rfl
      have HYL := hidden hYl
      clear hY hYl
      cases a with
      | none =>
        obtain ⟨-, -, h3 | ⟨x, hx, -⟩⟩ := HRx.out
        · obtain ⟨-, rfl, rfl⟩ := h3
          obtain rfl := List.eq_nil_of_length_eq_zero hzl
          have hown6 : wr.ownsRow w3.heap.size 5 1 u6 (36 + 0) (bytesV (Y ++ [])) := by rw [List.append_nil]; exact HO.out
          go_upto_region 8 with (at_builtin; refine wpList_append_own_none rfl (.tmp 44) (.tmp 45) 50 rfl w3.heap.size 5 i0 1 Try.underlying50 hi _ _ _ rfl HO.out rfl ?_)
          obtain ⟨g7, c7, rfl, hc7, hg7⟩ := owned_shape hown6 (by omega)
          have HB7 := hidden (own_bs hown6)
          have hfz : ∀ i, wr.frozen? ⟨g7, i, none⟩ = false := fun i => hown6.frozenAt i
          have HBL := hidden hbl
          have hokY : OkB (Y ++ ([] : List Int)) := by rw [← HY.out]; exact okb_app (hdrL_ok _) HOZ.out
          have HSu := hidden (rsum_some g7 0 (36 + 0) c7 (Y ++ ([] : List Int)) wr HB7.out hokY (by omega))
          obtain ⟨s0, s1⟩ := sumTo_bd (Y ++ ([] : List Int)) ((Y ++ ([] : List Int)).length / 4)
          change 0 ≤ sumV (Y ++ ([] : List Int)) at s0
          change sumV (Y ++ ([] : List Int)) ≤ 4294967295 at s1
          have HML : Hid (makeL ⟨v, ram, ext, en, st, start, tab, sm⟩ ([] : List Int) = splice (Y ++ ([] : List Int)) 32 (putL (sumV (Y ++ ([] : List Int))) 4)) := hidden (by rw [← HY.out, make_splice]; exact make_any_sum ⟨v, ram, ext, en, st, start, tab, sm⟩ ([] : List Int) 0)
          have hyl : (Y ++ ([] : List Int)).length = 36 + 0 := by rw [List.length_append, HYL.out, hzl]
          have HFZ := hidden hfz
          have HG7 := hidden (show w3.heap.size ≤ g7 from hg7)
          generalize hM0 : Y ++ ([] : List Int) = M0 at *
          generalize sumV M0 = S at *
          clear hown6 hM0 hokY hfz hg7 HO HRx HY HYL
          go_upto_region 10 with (first | (go_at_call 38; refine HSu.out.mono ?_; rintro e w9 ⟨rfl, hw⟩; obtain rfl := hw.symm) | (go_at_call 37; refine (rput_4 S _ s0 s1).mono ?_; rintro e w8 ⟨sv, rfl, hos, hb8⟩; obtain ⟨gs, cs, rfl, hcs, hgs⟩ := owned_shape hos (by omega)) | fail)
          have hg78 : g7 < wr.heap.size := World.block_lt_of_cell? _ _ (HB7.out.2 0 (by omega))
          have hne : ¬ g7 = gs := by omega
          have HBs := hidden (own_bs hos)
          replace HB7 := hidden (HB7.out.later hb8)
          have hfz8 : ∀ i, w8.frozen? ⟨g7, i, none⟩ = false := fun i => (hb8.frozen (p := ⟨g7, i, none⟩) hg78).trans (HFZ.out i)
          have HFZ8 := hidden hfz8
          replace HBL := hidden (HBL.out.trans (hb8.mono HBL.out.size))
          clear hos hb8 hfz8 HFZ hgs HSu
          have hP4 : Hid ((putL S 4).length = 4) := hidden rfl
          have HPB := hidden (putL_bd S 4)
          generalize putL S 4 = P at *
          go_loopw [10] (fun i w' => ∃ k : Nat, k ≤ 4 ∧ i = .int .i64 k ∧ Hid (∀ i, i < 36 + 0 → w'.cell? ⟨g7, i, none⟩ = some (.int .u8 (if 32 ≤ i ∧ i < 32 + k then P.getD (i - 32) 0 else M0.getD i 0))) ∧ Hid (∀ i, i < 4 → w'.cell? ⟨gs, i, none⟩ = some (.int .u8 (P.getD i 0))) ∧ Hid (∀ i, w'.frozen? ⟨g7, i, none⟩ = false) ∧ Below w3.heap.size w3 w') (fun i _ => 4 - (intOf i).toNat)
          case atStart => exact ⟨0, by omega, rfl, hidden (fun i hi => by rw [if_neg (by omega)]; have := HB7.out.2 i hi; rwa [Nat.zero_add] at this), hidden (fun i hi => by have := HBs.out.2 i hi; rwa [Nat.zero_add] at this), HFZ8, HBL.out⟩
          case round =>
            obtain ⟨k, hk, rfl, hA, hS, hF, hbw⟩ := hrel
            by_cases hlt : k < 4
            · have hlt2 : (k : Int) < 4 := by omega
              have hk0 : (0 : Int) ≤ (k : Int) := by omega
              have f1 := hA.out (32 + k) (by omega)
              rw [if_neg (by omega)] at f1
              have f2 := hS.out k hlt
              have f3 := hF.out (32 + k)
              have e1 : ((32 : Int) + (k : Int)).toNat = 32 + k := by omega
              have e2 : (32 : Int) + (k : Int) < ((36 + 0 : Nat) : Int) := by omega
              have e3 : (0 : Int) ≤ (32 : Int) + (k : Int) := by omega
              have HW := hidden hbw
              generalize hpk : P.getD k 0 = pk at *
              have HPK := hidden hpk
              clear hpk hbw
              have e2b : (32 : Int) + (k : Int) < 36 := by omega
              go_wp2
              go_roundw
              case rel =>
                refine ⟨k + 1, by omega, by go_num, hidden (fun i hi => ?_), hidden (fun i hi => ?_), hidden (fun i => ?_), HW.out.setCell (p := ⟨g7, 32 + k, none⟩) HG7.out _⟩
                · by_cases ei : i = 32 + k
                  · subst ei
                    rw [if_pos (by omega), show 32 + k - 32 = k by omega, HPK.out]
                    exact World.cell?_setCell_same _ _ _ f1
                  · rw [World.cell?_setCell_other _ _ _ _ (fun q => ei (congrArg Addr.off q).symm), hA.out i hi]
                    by_cases c : 32 ≤ i ∧ i < 32 + k
                    · rw [if_pos c, if_pos (by omega)]
                    · rw [if_neg c, if_neg (by omega)]
                · rw [World.cell?_setCell_other _ _ _ _ (fun q => hne (congrArg Addr.block q))]
                  exact hS.out i hi
                · rw [World.frozen?_setCell]; exact hF.out i
              case measure => simp [intOf]; omega
            · obtain rfl : k = 4 := by omega
              have HBm : Hid (Bs wr g7 0 (36 + 0) (makeL ⟨v, ram, ext, en, st, start, tab, sm⟩ ([] : List Int))) := hidden ⟨by rw [makeL_len, hzl], fun i hi => by
                rw [Nat.zero_add, hA.out i hi, HML.out, splice_getD M0 P hP4.out (by omega) i]⟩
              have hokM := makeL_ok ⟨v, ram, ext, en, st, start, tab, sm⟩ ([] : List Int) HOZ.out
              have HPr := hidden (rparse_any (some ⟨g7, 0, none⟩) (36 + 0) c7 (makeL ⟨v, ram, ext, en, st, start, tab, sm⟩ ([] : List Int)) wr (HBm.out.reads c7 hc7) hokM (by omega))
              rw [hP] at HPr
              dsimp only at HPr
              have HBW := hidden (HBX0.out.trans (hbw.mono HBX0.out.size))
              clear hA hS hF hbw HML HPB HB7 HBs HFZ8 HBL
              go_wp2_with fail
              refine HPr.out.mono ?_
              rintro e w9 ⟨rfl, hb9⟩
              have HBf := hidden (HBW.out.trans (hb9.mono HBW.out.size))
              replace HBm := hidden (HBm.out.later hb9)
              clear hb9 HPr
              have hb10 := HBf.out.alloc HBf.out.size (.cells #[.int .u32 h0.v, .int .u32 h0.ram, .int .u32 h0.ext, .int .u32 h0.en, .int .u32 h0.st, .int .u32 h0.start, .int .u32 h0.tab, .int .u32 h0.sum] 70)
              have hbm10 := HBm.out.later ((Below.refl _ _).alloc (Nat.le_refl _) (.cells #[.int .u32 h0.v, .int .u32 h0.ram, .int .u32 h0.ext, .int .u32 h0.en, .int .u32 h0.st, .int .u32 h0.start, .int .u32 h0.tab, .int .u32 h0.sum] 70))
              have HB10 := hidden hb10
              have HBM10 := hidden hbm10
              clear hb10 hbm10 hP hokM
              by_cases hE : E = 0
              · subst hE
                go_wp2
                go_ret2
                first | exact ⟨HB10.out, fun h => absurd rfl h, fun _ => ⟨g7, c7, rfl, HBM10.out, hc7⟩⟩ | exact ⟨HB10.out, g7, c7, rfl, HBM10.out, hc7⟩
              · have hE' : (E != 0) = true := by simpa using hE
                have HE := hidden hE
                clear hE
                go_wp2
                go_ret2
                exact ⟨HB10.out, fun _ => rfl, fun h => absurd h HE.out⟩
        · cases hx
      | some x =>
        have HN5 := hidden HRx.out.news
        go_upto_region 8 with (at_builtin; refine wpList_append_own _ rfl (.tmp 44) (.tmp 45) 50 rfl w3.heap.size 5 i0 (.int .u8 0) 1 1 Try.underlying50 hi hz0 hz1 hz2 rfl (by decide) _ _ _ rfl HO.out x L cap (bytesV zs) rfl (by simp [bytesV, hzl]) HN5.out (bytesV_one _) (by unfold maxLen; omega) (by omega) (by omega) ?_; intro v6 w6 hown6 hgrow6 hiff6; clear hiff6; refine Hid.out ?_)
        have hbl6 : Below w3.heap.size w3 w6 := hbl.grown hgrow6 hs1 (fun k hk => (HO.out.lt k hk).1)
        rw [bytesV_append] at hown6
        clear hgrow6 HN5
        refine hidden ?_
        go_upto_region 8 with fail
        obtain ⟨g7, c7, rfl, hc7, hg7⟩ := owned_shape hown6 (by omega)
        have HB7 := hidden (own_bs hown6)
        have hfz : ∀ i, w6.frozen? ⟨g7, i, none⟩ = false := fun i => hown6.frozenAt i
        have HBL := hidden hbl6
        have hokY : OkB (Y ++ zs) := by rw [← HY.out]; exact okb_app (hdrL_ok _) HOZ.out
        have HSu := hidden (rsum_some g7 0 (36 + L) c7 (Y ++ zs) w6 HB7.out hokY (by omega))
        obtain ⟨s0, s1⟩ := sumTo_bd (Y ++ zs) ((Y ++ zs).length / 4)
        change 0 ≤ sumV (Y ++ zs) at s0
        change sumV (Y ++ zs) ≤ 4294967295 at s1
        have HML : Hid (makeL ⟨v, ram, ext, en, st, start, tab, sm⟩ zs = splice (Y ++ zs) 32 (putL (sumV (Y ++ zs)) 4)) := hidden (by rw [← HY.out, make_splice]; exact make_any_sum ⟨v, ram, ext, en, st, start, tab, sm⟩ zs 0)
        have hyl : (Y ++ zs).length = 36 + L := by rw [List.length_append, HYL.out, hzl]
        have HFZ := hidden hfz
        have HG7 := hidden (show w3.heap.size ≤ g7 from hg7)
        generalize hM0 : Y ++ zs = M0 at *
        generalize sumV M0 = S at *
        clear hown6 hM0 hokY hfz hg7 HO HRx HY HYL
        go_upto_region 10 with (first | (go_at_call 38; refine HSu.out.mono ?_; rintro e w9 ⟨rfl, hw⟩; obtain rfl := hw.symm) | (go_at_call 37; refine (rput_4 S _ s0 s1).mono ?_; rintro e w8 ⟨sv, rfl, hos, hb8⟩; obtain ⟨gs, cs, rfl, hcs, hgs⟩ := owned_shape hos (by omega)) | fail)
        have hg78 : g7 < w6.heap.size := World.block_lt_of_cell? _ _ (HB7.out.2 0 (by omega))
        have hne : ¬ g7 = gs := by omega
        have HBs := hidden (own_bs hos)
        replace HB7 := hidden (HB7.out.later hb8)
        have hfz8 : ∀ i, w8.frozen? ⟨g7, i, none⟩ = false := fun i => (hb8.frozen (p := ⟨g7, i, none⟩) hg78).trans (HFZ.out i)
        have HFZ8 := hidden hfz8
        replace HBL := hidden (HBL.out.trans (hb8.mono HBL.out.size))
        clear hos hb8 hfz8 HFZ hgs HSu
        have hP4 : Hid ((putL S 4).length = 4) := hidden rfl
        have HPB := hidden (putL_bd S 4)
        generalize putL S 4 = P at *
        go_loopw [10] (fun i w' => ∃ k : Nat, k ≤ 4 ∧ i = .int .i64 k ∧ Hid (∀ i, i < 36 + L → w'.cell? ⟨g7, i, none⟩ = some (.int .u8 (if 32 ≤ i ∧ i < 32 + k then P.getD (i - 32) 0 else M0.getD i 0))) ∧ Hid (∀ i, i < 4 → w'.cell? ⟨gs, i, none⟩ = some (.int .u8 (P.getD i 0))) ∧ Hid (∀ i, w'.frozen? ⟨g7, i, none⟩ = false) ∧ Below w3.heap.size w3 w') (fun i _ => 4 - (intOf i).toNat)
        case atStart => exact ⟨0, by omega, rfl, hidden (fun i hi => by rw [if_neg (by omega)]; have := HB7.out.2 i hi; rwa [Nat.zero_add] at this), hidden (fun i hi => by have := HBs.out.2 i hi; rwa [Nat.zero_add] at this), HFZ8, HBL.out⟩
        case round =>
          obtain ⟨k, hk, rfl, hA, hS, hF, hbw⟩ := hrel
          by_cases hlt : k < 4
          · have hlt2 : (k : Int) < 4 := by omega
            have hk0 : (0 : Int) ≤ (k : Int) := by omega
            have f1 := hA.out (32 + k) (by omega)
            rw [if_neg (by omega)] at f1
            have f2 := hS.out k hlt
            have f3 := hF.out (32 + k)
            have e1 : ((32 : Int) + (k : Int)).toNat = 32 + k := by omega
            have e2 : (32 : Int) + (k : Int) < ((36 + L : Nat) : Int) := by omega
            have e3 : (0 : Int) ≤ (32 : Int) + (k : Int) := by omega
            have HW := hidden hbw
            generalize hpk : P.getD k 0 = pk at *
            have HPK := hidden hpk
            clear hpk hbw
            generalize hnn : 36 + L = n at *
            go_wp2
            go_roundw
            case rel =>
              refine ⟨k + 1, by omega, by go_num, hidden (fun i hi => ?_), hidden (fun i hi => ?_), hidden (fun i => ?_), HW.out.setCell (p := ⟨g7, 32 + k, none⟩) HG7.out _⟩
              · by_cases ei : i = 32 + k
                · subst ei
                  rw [if_pos (by omega), show 32 + k - 32 = k by omega, HPK.out]
                  exact World.cell?_setCell_same _ _ _ f1
                · rw [World.cell?_setCell_other _ _ _ _ (fun q => ei (congrArg Addr.off q).symm), hA.out i hi]
                  by_cases c : 32 ≤ i ∧ i < 32 + k
                  · rw [if_pos c, if_pos (by omega)]
                  · rw [if_neg c, if_neg (by omega)]
              · rw [World.cell?_setCell_other _ _ _ _ (fun q => hne (congrArg Addr.block q))]
                exact hS.out i hi
              · rw [World.frozen?_setCell]; exact hF.out i
            case measure => simp [intOf]; omega
          · obtain rfl : k = 4 := by omega
            have HBm : Hid (Bs wr g7 0 (36 + L) (makeL ⟨v, ram, ext, en, st, start, tab, sm⟩ zs)) := hidden ⟨by rw [makeL_len, hzl], fun i hi => by
              rw [Nat.zero_add, hA.out i hi, HML.out, splice_getD M0 P hP4.out (by omega) i]⟩
            have hokM := makeL_ok ⟨v, ram, ext, en, st, start, tab, sm⟩ zs HOZ.out
            have HPr := hidden (rparse_any (some ⟨g7, 0, none⟩) (36 + L) c7 (makeL ⟨v, ram, ext, en, st, start, tab, sm⟩ zs) wr (HBm.out.reads c7 hc7) hokM (by omega))
            rw [hP] at HPr
            dsimp only at HPr
            have HBW := hidden (HBX0.out.trans (hbw.mono HBX0.out.size))
            clear hA hS hF hbw HML HPB HB7 HBs HFZ8 HBL
            go_wp2_with fail
            refine HPr.out.mono ?_
            rintro e w9 ⟨rfl, hb9⟩
            have HBf := hidden (HBW.out.trans (hb9.mono HBW.out.size))
            replace HBm := hidden (HBm.out.later hb9)
            clear hb9 HPr
            have hb10 := HBf.out.alloc HBf.out.size (.cells #[.int .u32 h0.v, .int .u32 h0.ram, .int .u32 h0.ext, .int .u32 h0.en, .int .u32 h0.st, .int .u32 h0.start, .int .u32 h0.tab, .int .u32 h0.sum] 70)
            have hbm10 := HBm.out.later ((Below.refl _ _).alloc (Nat.le_refl _) (.cells #[.int .u32 h0.v, .int .u32 h0.ram, .int .u32 h0.ext, .int .u32 h0.en, .int .u32 h0.st, .int .u32 h0.start, .int .u32 h0.tab, .int .u32 h0.sum] 70))
            have HB10 := hidden hb10
            have HBM10 := hidden hbm10
            clear hb10 hbm10 hP hokM
            by_cases hE : E = 0
            · subst hE
              go_wp2
              go_ret2
              first | exact ⟨HB10.out, fun h => absurd rfl h, fun _ => ⟨g7, c7, rfl, HBM10.out, hc7⟩⟩ | exact ⟨HB10.out, g7, c7, rfl, HBM10.out, hc7⟩
            · have hE' : (E != 0) = true := by simpa using hE
              have HE := hidden hE
              clear hE
              go_wp2
              go_ret2
              exact ⟨HB10.out, fun _ => rfl, fun h => absurd h HE.out⟩
end Go.Proofs.Ytpgppdkbkkljnaa
