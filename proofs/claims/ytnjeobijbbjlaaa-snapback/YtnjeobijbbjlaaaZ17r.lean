/- Layer 17: SnapStretches. -/
import Derived.Test.YtnjeobijbbjlaaaZ17q
namespace Go.Proofs.Ytnjeobijbbjlaaa
open Go.RowKit
set_option maxHeartbeats 1000000
set_option maxRecDepth 100000
set_option linter.unusedVariables false

theorem unE_bd : ∀ (n : Nat) (b : List Int) (r : Nat), b.length ≤ n → 0 ≤ unE b r ∧ unE b r ≤ 3
  | _, [], r, _ => by simp [unE]
  | 0, c :: cs, r, h => by simp at h
  | n + 1, c :: cs, r, h => by
    by_cases h0 : c = 0
    · subst h0
      cases cs with
      | nil => rw [unE_short]; omega
      | cons d ds =>
        rw [unE_run]
        split
        · omega
        · exact unE_bd n ds _ (by simp at h; omega)
    · rw [unE_byte c cs r h0]
      split
      · omega
      · exact unE_bd n cs _ (by simp at h; omega)
theorem stE_bd (size : Int) (b : List Int) : 0 ≤ stE size b ∧ stE size b ≤ 3 := by
  unfold stE
  split
  · omega
  · exact unE_bd _ b _ (Nat.le_refl _)
theorem st_bad (ws bs : List Int) (size : Int) (h : size < 0 ∨ 1048576 < size) : stE size bs = 1 ∧ stL ws size bs = [] := by
  have h1 : stE size bs = 1 := by unfold stE; rw [if_pos h]
  exact ⟨h1, by unfold stL; rw [h1]; rfl⟩
theorem stretch_any (a b : Option Addr) (la ca lb cb : Nat) (size : Int) (ws bs : List Int) (w : World) (ha : Reads w a la ca ws) (hb : Reads w b lb cb bs) (hbd : OkB bs) (hla : la ≤ 2000000) (hlb : lb ≤ 2000000) :
    Calls Try.prog 13 #[.slice a la ca, .int .i64 size, .slice b lb cb] w (StR w (stL ws size bs) (stE size bs)) ∧ Calls Try.prog 14 #[.slice a la ca, .int .i64 size, .slice b lb cb] w (StR w (stL ws size bs) (stE size bs)) := by
  by_cases h : size < 0 ∨ 1048576 < size
  · obtain ⟨e1, e2⟩ := st_bad ws bs size h
    rw [e1, e2]
    exact ⟨stretch_bad a b la ca lb cb size w h, dstretch_bad a b la ca lb cb size w h⟩
  · obtain ⟨n, rfl⟩ : ∃ n : Nat, size = n := ⟨size.toNat, by omega⟩
    exact ⟨stretch_good a b la ca lb cb n ws bs w ha hb hbd hla hlb (by omega), dstretch_good a b la ca lb cb n ws bs w ha hb hbd hla hlb (by omega)⟩
set_option maxHeartbeats 8000000 in
theorem snapStretches_walk (a1 : Option Addr) (l1 c1 : Nat) (z1 : List Int) (size : Int) (a2 : Option Addr) (l2 c2 : Nat) (z2 : List Int) (w : World) (r1 : IsRow .u8 w a1 l1 c1 z1) (wz : (Lit.int .i64 size).wf = true) (r2 : IsRow .u8 w a2 l2 c2 z2) :
    Calls Try.prog 4 #[.slice a1 l1 c1, .int .i64 size, .slice a2 l2 c2] w fun e w' => e = .returned (.bool true) ∧ Below w.heap.size w w' := by
  have HLV := hidden (live_h w)
  obtain ⟨q1, o1, _⟩ := reads_of_row r1
  obtain ⟨q2, o2, _⟩ := reads_of_row r2
  generalize z1.take l1 = ws at *
  generalize z2.take l2 = bs at *
  clear r1 r2 z1 z2
  by_cases h1 : l1 ≤ 8192
  · by_cases h2 : l2 ≤ 8192
    · by_cases h3 : 8192 < size ∧ size ≤ 1048576
      · have n1 : ¬ ((l1 : Int) > 8192) := by omega
        have n2 : ¬ ((l2 : Int) > 8192) := by omega
        have n3 : size > 8192 := by omega
        have n4 : size ≤ 1048576 := h3.2
        have HL0 := hidden (HLV.out w (Below.refl _ _))
        clear q1 q2 o1 o2 h1 h2 HLV h3
        go_enter Try.func4, Try.ntmps4
        go_wp2_with (first | (go_at_call 7; refine HL0.out.mono ?_; rintro e w9 ⟨rfl, HB9⟩) | fail)
        go_ret
        exact ⟨by first | rfl | simp, HB9.out⟩
      · have S1 := hidden (stays_of q1)
        have S2 := hidden (stays_of q2)
        have HS1 := hidden (stretch_any a1 a2 l1 c1 l2 c2 size ws bs w q1 q2 o2 (by omega) (by omega)).1
        have HS2 : Hid (∀ wx, Below w.heap.size w wx → Calls Try.prog 14 #[.slice a1 l1 c1, .int .i64 size, .slice a2 l2 c2] wx (StR wx (stL ws size bs) (stE size bs))) := hidden (fun wx h => (stretch_any a1 a2 l1 c1 l2 c2 size ws bs wx (S1.out wx h) (S2.out wx h) o2 (by omega) (by omega)).2)
        have HO := hidden (stL_ok ws size bs o2)
        have hbd := stE_bd size bs
        generalize stL ws size bs = RES at *
        generalize stE size bs = E at *
        have HNM := hidden (fun wx => num_i E wx hbd.1 (by omega))
        have n1 : ¬ ((l1 : Int) > 8192) := by omega
        have n2 : ¬ ((l2 : Int) > 8192) := by omega
        clear q1 q2 o1 o2 S1 S2 h1 h2 hbd
        by_cases h4 : size ≤ 8192
        all_goals
          first
          | have n3 : ¬ (size > 8192) := (by omega)
          | (have n3 : size > 8192 := (by omega)
             have n4 : ¬ (size ≤ 1048576) := (by omega))
          clear h3 h4
          go_enter Try.func4, Try.ntmps4
          go_upto_region 5 with (first
            | (go_at_call 13; refine HS1.out.mono ?_; rintro e w3 ⟨a3, n3', c3, rfl, O3, B3⟩; have HD := hidden (HS2.out w3 B3.out))
            | (go_at_call 14; refine HD.out.mono ?_; rintro e w4 ⟨a4, n4', c4, rfl, O4, B4⟩)
            | fail)
          have B04 := hidden (B3.out.trans (B4.out.mono B3.out.size))
          have HSM := hidden (same_eq a3 a4 n3' c3 n4' c4 RES w4 HO.out (own_rd (own_later O3.out B4.out)) (own_rd O4.out))
          have HLF := hidden (HLV.out w4 B04.out)
          clear HS1 HS2 HD O3 O4 B3 B4 HLV
          go_wp2_with (first
            | (go_at_call 10; refine HSM.out.mono ?_; rintro e w5 ⟨rfl, e9⟩; rw [e9]; clear e9)
            | (go_at_call 15; refine (HNM.out _).mono ?_; rintro e w6 ⟨rfl, e9⟩; rw [e9]; clear e9)
            | (go_at_call 7; refine HLF.out.mono ?_; rintro e w6 ⟨rfl, HB6⟩)
            | fail)
          go_ret
          exact ⟨by first | rfl | simp, HB6.out⟩
    · have n1 : ¬ ((l1 : Int) > 8192) := by omega
      have n2 : (l2 : Int) > 8192 := by omega
      have HL0 := hidden (HLV.out w (Below.refl _ _))
      clear q1 q2 o1 o2 h1 h2 HLV
      go_enter Try.func4, Try.ntmps4
      go_wp2_with (first | (go_at_call 7; refine HL0.out.mono ?_; rintro e w9 ⟨rfl, HB9⟩) | fail)
      go_ret
      exact ⟨by first | rfl | simp, HB9.out⟩
  · have n1 : (l1 : Int) > 8192 := by omega
    have HL0 := hidden (HLV.out w (Below.refl _ _))
    clear q1 q2 o1 o2 h1 HLV
    go_enter Try.func4, Try.ntmps4
    go_wp2_with (first | (go_at_call 7; refine HL0.out.mono ?_; rintro e w9 ⟨rfl, HB9⟩) | fail)
    go_ret
    exact ⟨by first | rfl | simp, HB9.out⟩
end Go.Proofs.Ytnjeobijbbjlaaa
