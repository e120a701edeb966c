/- Layer 17: SnapBack. -/
import Derived.Test.YtnjeobijbbjlaaaZ17r
namespace Go.Proofs.Ytnjeobijbbjlaaa
open Go.RowKit
set_option maxHeartbeats 1000000
set_option maxRecDepth 100000
set_option linter.unusedVariables false

set_option maxHeartbeats 8000000 in
theorem snapBack_walk (a1 : Option Addr) (l1 c1 : Nat) (z1 : List Int) (a2 : Option Addr) (l2 c2 : Nat) (z2 : List Int) (w : World) (r1 : IsRow .u8 w a1 l1 c1 z1) (r2 : IsRow .u8 w a2 l2 c2 z2) :
    Calls Try.prog 5 #[.slice a1 l1 c1, .slice a2 l2 c2] w fun e w' => e = .returned (.bool true) ∧ Below w.heap.size w w' := by
  have HLV := hidden (live_h w)
  obtain ⟨q1, o1, _⟩ := reads_of_row r1
  obtain ⟨q2, o2, _⟩ := reads_of_row r2
  generalize z1.take l1 = ws at *
  generalize z2.take l2 = ns at *
  clear r1 r2 z1 z2
  by_cases h1 : l1 ≤ 8192
  · by_cases h2 : l2 ≤ 8192
    · have n1 : ¬ ((l1 : Int) > 8192) := by omega
      have n2 : ¬ ((l2 : Int) > 8192) := by omega
      have S1 := hidden (stays_of q1)
      have S2 := hidden (stays_of q2)
      have HSQ := hidden (squeeze_any a1 a2 l1 c1 l2 c2 ws ns w q1 q2 (by omega) (by omega))
      have hbk := back_st ws ns o1 o2 (by rw [q2.1]; omega)
      rw [q2.1] at hbk
      have hsl := sq_len (rowL ws ns) 0
      rw [rowL_len, q2.1, Nat.zero_add] at hsl
      have HOS := hidden (sqT_ok (rowL ws ns) 0 (rowL_ok ws ns o2))
      have HO2 := hidden o2
      have hz : sqT (rowL ns ns) 0 = [] := by rw [row_self ns o2]; exact sqT_zeros _ 0 (fun c hc => (List.mem_replicate.1 hc).2)
      have HZ := hidden hz
      have HBK := hidden hbk
      have HSL := hidden hsl
      have HL2 := hidden q2.1
      have HN0 := hidden (fun wx => num_i 0 wx (by omega) (by omega))
      generalize sqT (rowL ws ns) 0 = RES at *
      clear q1 q2 o1 o2 hz hbk hsl
      go_enter Try.func5, Try.ntmps5
      go_upto_region 4 with (first
        | (go_at_call 9; refine HSQ.out.mono ?_; rintro e w3 ⟨a3, n3, c3, rfl, O3, B3⟩)
        | fail)
      have hn3 : 2 * n3 ≤ 3 * l2 := by have := HSL.out; rw [row_len O3.out] at this; exact this
      have HST := hidden (stretch_any a1 a3 l1 c1 n3 c3 l2 ws RES w3 (S1.out _ B3.out) (own_rd O3.out) HOS.out (by omega) (by omega)).1
      rw [HBK.out.1, HBK.out.2] at HST
      clear HSQ O3 HOS HBK HSL S1
      go_upto_region 5 with (first
        | (go_at_call 13; refine HST.out.mono ?_; rintro e w4 ⟨a4, n4, c4, rfl, O4, B4⟩)
        | fail)
      have B04 := hidden (B3.out.trans (B4.out.mono B3.out.size))
      clear HST B3 B4
      go_upto_region 6 with (first
        | (at_builtin; refine wpList_copyOf rfl _ _ rfl l2 c2 a2 ns rfl rfl (S2.out _ B04.out) (by omega) ?_; intro g5 c5 w5 ho5 hb5; have O5 := hidden ho5; have B5 := hidden hb5; clear ho5 hb5)
        | fail)
      have B05 := hidden (B04.out.trans (B5.out.mono B04.out.size))
      have HSM := hidden (same_eq a4 a2 n4 c4 l2 c2 ns w5 HO2.out (own_rd (own_later O4.out B5.out)) (S2.out _ B05.out))
      have HSA := hidden (squeeze_any _ a2 l2 c5 l2 c2 ns ns w5 (own_rd O5.out) (S2.out _ B05.out) (by omega) (by omega))
      rw [HZ.out] at HSA
      have hle : (2 : Int) * n3 ≤ 3 * l2 := by omega
      have hlw : IntKind.i64.wrap ((2 : Int) * n3) = 2 * n3 := by rw [IntKind.wrap_i64]; omega
      have hlw2 : IntKind.i64.wrap ((3 : Int) * l2) = 3 * l2 := by rw [IntKind.wrap_i64]; omega
      clear O4 O5 B04 B5 S2 HZ HO2
      go_wp2_with (first
        | (go_at_call 15; refine (HN0.out _).mono ?_; rintro e w6 ⟨rfl, e9⟩; rw [e9]; clear e9)
        | (go_at_call 10; refine HSM.out.mono ?_; rintro e w6 ⟨rfl, e9⟩; rw [e9]; clear e9)
        | (go_at_call 9; refine HSA.out.mono ?_; rintro e w7 ⟨a7, n7, c7, rfl, O7, B7⟩; obtain rfl : n7 = 0 := (row_len O7.out).symm; have HLF := hidden (HLV.out w7 (B05.out.trans (B7.out.mono B05.out.size))))
        | (go_at_call 7; refine HLF.out.mono ?_; rintro e w8 ⟨rfl, HB8⟩)
        | fail)
      go_ret
      exact ⟨by first | rfl | simp, HB8.out⟩
    · have n1 : ¬ ((l1 : Int) > 8192) := by omega
      have n2 : (l2 : Int) > 8192 := by omega
      have HL0 := hidden (HLV.out w (Below.refl _ _))
      clear q1 q2 o1 o2 h1 h2 HLV
      go_enter Try.func5, Try.ntmps5
      go_wp2_with (first | (go_at_call 7; refine HL0.out.mono ?_; rintro e w9 ⟨rfl, HB9⟩) | fail)
      go_ret
      exact ⟨by first | rfl | simp, HB9.out⟩
  · have n1 : (l1 : Int) > 8192 := by omega
    have HL0 := hidden (HLV.out w (Below.refl _ _))
    clear q1 q2 o1 o2 h1 HLV
    go_enter Try.func5, Try.ntmps5
    go_wp2_with (first | (go_at_call 7; refine HL0.out.mono ?_; rintro e w9 ⟨rfl, HB9⟩) | fail)
    go_ret
    exact ⟨by first | rfl | simp, HB9.out⟩
end Go.Proofs.Ytnjeobijbbjlaaa
