/- Layer 17: SnapSqueezes, SnapStretches, SnapBack. -/
import Derived.Test.YtnjeobijbbjlaaaZ17p
namespace Go.Proofs.Ytnjeobijbbjlaaa
open Go.RowKit
set_option maxHeartbeats 1000000
set_option maxRecDepth 100000
set_option linter.unusedVariables false

def LiveH (w : World) : Prop := ∀ w1, Below w.heap.size w w1 → Calls Try.prog 7 #[] w1 fun e w' => e = .returned (.bool true) ∧ Hid (Below w.heap.size w w')
theorem live_h (w : World) : LiveH w := fun w1 hb => (live_any w1).mono (fun e w' hh => ⟨hh.1, hidden (hb.trans (hh.2.mono hb.size))⟩)
/-- bytes that were lent: they and the mark behind them -/
def LentAt (w : World) (g len : Nat) (zs : List Int) : Prop := ∀ i, i < len + 1 → w.cell? ⟨g, 0 + i, none⟩ = some (.int .u8 ((zs ++ [77]).getD i 0))
theorem LentAt.later {w w' : World} {g len : Nat} {zs : List Int} (h : LentAt w g len zs) (hb : Below w.heap.size w w') : LentAt w' g len zs := fun i hi => cellLater hb (h i hi)
theorem LentAt.rd {w : World} {g len k : Nat} {zs : List Int} (h : LentAt w g len zs) (hl : zs.length = len) (hk : len + 1 ≤ k) : Reads w (some ⟨g, 0, none⟩) len k zs :=
  ⟨hl, by omega, .inr ⟨_, rfl, fun i hi => by
    have := h i (by omega)
    have e : (zs ++ [77]).getD i 0 = zs.getD i 0 := by simp [List.getD_eq_getElem?_getD, List.getElem?_append_left (show i < zs.length by omega)]
    rw [e] at this
    rw [plain_add]
    exact this⟩⟩
set_option maxHeartbeats 8000000 in
theorem snapSqueezes_walk (a1 : Option Addr) (l1 c1 : Nat) (z1 : List Int) (a2 : Option Addr) (l2 c2 : Nat) (z2 : List Int) (w : World) (r1 : IsRow .u8 w a1 l1 c1 z1) (r2 : IsRow .u8 w a2 l2 c2 z2) :
    Calls Try.prog 3 #[.slice a1 l1 c1, .slice a2 l2 c2] w fun e w' => e = .returned (.bool true) ∧ Below w.heap.size w w' := by
  have HLV := hidden (live_h w)
  obtain ⟨q1, o1, _⟩ := reads_of_row r1
  obtain ⟨q2, o2, _⟩ := reads_of_row r2
  generalize z1.take l1 = ws at *
  generalize z2.take l2 = ns at *
  clear r1 r2 z1 z2
  by_cases h1 : l1 ≤ 8192
  · by_cases h2 : l2 ≤ 8192
    · have n1 : ¬ ((l1 : Int) > 8192) := by omega
      have n2 : ¬ ((l2 : Int) > 8192) := by omega
      have HL1 := hidden (lent_any a1 l1 c1 ws w q1 (by omega))
      have S1 := hidden (stays_of q1)
      have S2 := hidden (stays_of q2)
      have HL2 : Hid (∀ wx, Below w.heap.size w wx → Calls Try.prog 8 #[.slice a2 l2 c2] wx fun e w' => ∃ g c2', e = .returned (.slice (some ⟨g, 0, none⟩) l2 c2') ∧ l2 + 1 ≤ c2' ∧ wx.heap.size ≤ g ∧ Below wx.heap.size wx w' ∧ ∀ i, i < l2 + 1 → w'.cell? ⟨g, 0 + i, none⟩ = some (.int .u8 ((ns ++ [77]).getD i 0))) := hidden (fun wx h => lent_any a2 l2 c2 ns wx (S2.out wx h) (by omega))
      have HLN := hidden (And.intro q1.1 q2.1)
      have HO := hidden (And.intro o1 o2)
      clear q1 q2 o1 o2
      go_enter Try.func3, Try.ntmps3
      go_upto_region 3 with fail
      go_upto_region 4 with (first
        | (go_at_call_of 8 (Value.slice a1 l1 c1); refine HL1.out.mono ?_; rintro e w1 ⟨g1, k1, rfl, hk1, hg1, hb1, hc1⟩; have B1 := hidden hb1; have L1 := hidden (show LentAt w1 g1 l1 ws from hc1); clear hb1 hc1; have HLQ := hidden (HL2.out w1 B1.out))
        | (go_at_call_of 8 (Value.slice a2 l2 c2); refine HLQ.out.mono ?_; rintro e w2 ⟨g2, k2, rfl, hk2, hg2, hb2, hc2⟩; have B2 := hidden hb2; have L2 := hidden (show LentAt w2 g2 l2 ns from hc2); clear hb2 hc2)
        | fail)
      have M1 := hidden (L1.out.later B2.out)
      have B02 := hidden (B1.out.trans (B2.out.mono B1.out.size))
      have HSQ := hidden (squeeze_any _ _ l1 k1 l2 k2 ws ns w2 (M1.out.rd HLN.out.1 hk1) (L2.out.rd HLN.out.2 hk2) (by omega) (by omega))
      have HOS := hidden (sqT_ok (rowL ws ns) 0 (rowL_ok ws ns HO.out.2))
      clear L1 HL1 HL2 HLQ B1 B2 hg1 hg2
      go_upto_region 5 with (first
        | (go_at_call 9; refine HSQ.out.mono ?_; rintro e w3 ⟨a3, n3, c3, rfl, O3, B3⟩)
        | fail)
      have B03 := hidden (B02.out.trans (B3.out.mono B02.out.size))
      have N1 := hidden (M1.out.later B3.out)
      have N2 := hidden (L2.out.later B3.out)
      have HDS := hidden (dsqueeze_any a1 a2 l1 c1 l2 c2 ws ns w3 (S1.out _ B03.out) (S2.out _ B03.out) (by omega) (by omega))
      generalize sqT (rowL ws ns) 0 = RES at *
      clear HSQ M1 L2 B02 B3
      go_wp2_with (first
        | (go_at_call 11; refine HDS.out.mono ?_; rintro e w4 ⟨a4, n4, c4, rfl, O4, B4⟩; have B04 := hidden (B03.out.trans (B4.out.mono B03.out.size)); have HSM := hidden (same_eq a3 a4 n3 c3 n4 c4 RES w4 HOS.out (own_rd (own_later O3.out B4.out)) (own_rd O4.out)); have K1 := hidden (kept_eq g1 l1 k1 a1 c1 ws w4 HO.out.1 (by omega) hk1 (N1.out.later B4.out) (S1.out _ B04.out)); have K2 := hidden (kept_eq g2 l2 k2 a2 c2 ns w4 HO.out.2 (by omega) hk2 (N2.out.later B4.out) (S2.out _ B04.out)); have HLF := hidden (HLV.out w4 B04.out); clear HDS O3 O4 N1 N2 S1 S2 HLV)
        | (go_at_call 10; refine HSM.out.mono ?_; rintro e w5 ⟨rfl, e9⟩; rw [e9]; clear e9)
        | (go_at_call_of 12 (Value.slice a1 l1 c1); refine K1.out.mono ?_; rintro e w5 ⟨rfl, e9⟩; rw [e9]; clear e9)
        | (go_at_call_of 12 (Value.slice a2 l2 c2); refine K2.out.mono ?_; rintro e w5 ⟨rfl, e9⟩; rw [e9]; clear e9)
        | (go_at_call 7; refine HLF.out.mono ?_; rintro e w6 ⟨rfl, HB6⟩)
        | fail)
      go_ret
      exact ⟨by first | rfl | simp, HB6.out⟩
    · have n1 : ¬ ((l1 : Int) > 8192) := by omega
      have n2 : (l2 : Int) > 8192 := by omega
      have HL0 := hidden (HLV.out w (Below.refl _ _))
      clear q1 q2 o1 o2 h1 h2 HLV
      go_enter Try.func3, Try.ntmps3
      go_wp2_with (first | (go_at_call 7; refine HL0.out.mono ?_; rintro e w9 ⟨rfl, HB9⟩) | fail)
      go_ret
      exact ⟨by first | rfl | simp, HB9.out⟩
  · have n1 : (l1 : Int) > 8192 := by omega
    have HL0 := hidden (HLV.out w (Below.refl _ _))
    clear q1 q2 o1 o2 h1 HLV
    go_enter Try.func3, Try.ntmps3
    go_wp2_with (first | (go_at_call 7; refine HL0.out.mono ?_; rintro e w9 ⟨rfl, HB9⟩) | fail)
    go_ret
    exact ⟨by first | rfl | simp, HB9.out⟩
end Go.Proofs.Ytnjeobijbbjlaaa
