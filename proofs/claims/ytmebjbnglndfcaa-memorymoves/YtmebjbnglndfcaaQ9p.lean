/- The walk of MemoryProtects. -/
import Derived.Test.YtmebjbnglndfcaaQ9a
import Derived.Deep.RegionHeld3
namespace Go.Proofs.Ytmebjbnglndfcaa
open Go.RowKit
set_option maxHeartbeats 8000000
set_option maxRecDepth 100000
set_option linter.unusedVariables false

theorem splice_get (xs ys : List Int) (a i : Nat) (h : a + ys.length ≤ xs.length) : (splice xs a ys).getD i 0 = if a ≤ i ∧ i < a + ys.length then ys.getD (i - a) 0 else xs.getD i 0 := by
  simp only [splice, List.getD_eq_getElem?_getD]
  by_cases h1 : i < a
  · rw [if_neg (by omega), List.getElem?_append_left (by simp; omega), List.getElem?_take, if_pos h1]
  · rw [List.getElem?_append_right (by simp; omega), List.length_take, Nat.min_eq_left (by omega)]
    by_cases h2 : i < a + ys.length
    · rw [if_pos ⟨by omega, h2⟩, List.getElem?_append_left (by omega)]
    · rw [if_neg (by omega), List.getElem?_append_right (by omega), List.getElem?_drop, show a + ys.length + (i - a - ys.length) = i by omega]
theorem carL_at (pf pt : Nat) (zs ys : List Int) (i : Nat) (h : i < ys.length) : (carL pf pt zs ys).getD i 0 = if pf ≤ i ∧ i < pt ∧ i < zs.length then zs.getD i 0 else ys.getD i 0 := by
  unfold carL
  have hsl : (seg zs (min pf (min zs.length ys.length)) (min pt (min zs.length ys.length) - min pf (min zs.length ys.length))).length = min pt (min zs.length ys.length) - min pf (min zs.length ys.length) := by
    simp only [seg, List.length_take, List.length_drop]
    omega
  rw [splice_get _ _ _ _ (by rw [hsl]; omega), hsl]
  by_cases hc : pf ≤ i ∧ i < pt ∧ i < zs.length
  · rw [if_pos hc, if_pos (by omega)]
    simp only [seg, List.getD_eq_getElem?_getD]
    rw [List.getElem?_take, if_pos (by omega), List.getElem?_drop, show min pf (min zs.length ys.length) + (i - min pf (min zs.length ys.length)) = i by omega]
  · rw [if_neg hc, if_neg (by omega)]
theorem memoryProtects_walk (ao : Option Addr) (len cap : Nat) (rs : List Ac) (ad nn : Int) (w : World) (hA : IsActs w ao len cap rs) (h1 : (Lit.int .u32 ad).wf = true) (h2 : (Lit.int .u32 nn).wf = true) :
    Calls Try.prog 5 #[.slice ao len cap, .int .u32 ad, .int .u32 nn] w fun e w' => e = .returned (.bool true) ∧ Below w.heap.size w w' := by
  have b1 := bounds_u32 h1
  have b2 := bounds_u32 h2
  obtain ⟨a, rfl⟩ := Int.eq_ofNat_of_zero_le b1.1
  obtain ⟨n, rfl⟩ := Int.eq_ofNat_of_zero_le b2.1
  clear h1 h2
  have HL : Hid (∀ w1, Below w.heap.size w w1 → Calls Try.prog 9 #[] w1 fun e w' => e = .returned (.bool true) ∧ Below w.heap.size w w') := fun w1 hb1 => (live_any w1).mono (fun e w' hh => ⟨hh.1, hb1.trans (hh.2.mono hb1.size)⟩)
  have HH := hidden (huge_any ao len cap rs w hA)
  have HA := hidden hA
  clear hA
  cases hg : hugeB rs with
  | true =>
    rw [hg] at HH
    clear hg
    go_enter Try.func5, Try.ntmps5
    go_wp2_with (first | (go_at_call 8; refine HH.out.mono ?_; rintro e w1 ⟨rfl, hb1⟩) | (go_at_call 9; refine (HL.out _ hb1).mono ?_; rintro e w2 ⟨rfl, hb2⟩) | fail)
    go_ret
    exact ⟨rfl, hb2⟩
  | false =>
    rw [hg] at HH
    clear hg
    go_enter Try.func5, Try.ntmps5
    go_wp2_with fail
    refine HH.out.mono ?_
    rintro e w1 ⟨rfl, hb1⟩
    have HBG := hidden (begin_any ao len cap rs w1 (acts_later HA.out hb1))
    have HB1 := hidden hb1
    have hs1 := hb1.size
    clear hb1 HH HA
    go_wp2_with fail
    refine HBG.out.mono ?_
    rintro e w2 ⟨m, rfl, B, s, hB, M2, hs, hb2⟩
    have HB2 := hidden (HB1.out.trans (hb2.mono hs1))
    have hBw : w.heap.size ≤ B := Nat.le_trans hs1 hB
    have HM2 := hidden M2
    have HSm := hidden hs
    have hLm := M2.ok.bm
    have hL0 : 0 < s.bytes.length := by have := M2.ok.bl; have := M2.ok.r0; omega
    clear hs hb2 HB1 HBG hB hs1 M2
    have HBY := hidden HM2.out.bytes
    go_wp2_with fail
    refine HBY.out.mono ?_
    rintro e w3 ⟨g1, c1, rfl, ho1, M3, k3, hb3⟩
    have HO1 := hidden ho1
    have HB3 := hidden (HB2.out.trans (k3.below.mono hBw))
    have HP := hidden (M3.protect a n (by omega) (by omega))
    clear ho1 M3 k3 hb3 HBY HM2 HB2
    go_wp2_with fail
    refine HP.out.mono ?_
    rintro e w4 ⟨rfl, M4, k4⟩
    have HB4 := hidden (HB3.out.trans (k4.below.mono hBw))
    have HO4 := hidden (k4.own HO1.out (fun g e => by simp only [Value.ownBlock, Option.some.injEq] at e; subst e; exact List.mem_cons_self))
    have HRS := hidden (M4.restart (by show s.en % 256 = 0; rw [HSm.out.en]))
    clear M4 k4 HP HB3 HO1
    go_wp2_with fail
    refine HRS.out.mono ?_
    rintro e w5 ⟨rfl, M5, k5⟩
    have HB5 := hidden (HB4.out.trans (k5.below.mono hBw))
    have HO5 := hidden (k5.own HO4.out (fun g e => by simp only [Value.ownBlock, Option.some.injEq] at e; subst e; exact List.mem_cons_self))
    have hst : (s.game ++ zer8 (s.en - s.game.length)) = smallL ++ zer8 256 := by rw [HSm.out.game, HSm.out.en, smallL_len]
    have hsl : (smallL ++ zer8 256).length = 768 := by rw [List.length_append, smallL_len, zer8_len]
    have hcl : (carL a (a + n) s.bytes (smallL ++ zer8 256)).length = 768 := by rw [carL_len, hsl]
    have hat := carL_at a (a + n) s.bytes (smallL ++ zer8 256)
    simp only [hst] at M5
    have HBY2 := hidden M5.bytes
    simp only [hcl] at HBY2
    rw [hsl] at hat
    generalize hCL : carL a (a + n) s.bytes (smallL ++ zer8 256) = cs at *
    clear M5 k5 HRS HB4 HO4 hst hCL
    go_wp2_with fail
    refine HBY2.out.mono ?_
    rintro e w6 ⟨g2, c2, rfl, ho2, M6, k6, hb6⟩
    have HB6 := hidden (HB5.out.trans (k6.below.mono hBw))
    have HO6 := hidden (own_later HO5.out hb6)
    have HI6 := hidden ho2
    have HM6 := hidden M6
    have HSO := hidden (small_own w6)
    clear M6 k6 ho2 hb6 HBY2 HB5 HO5
    go_wp2_with fail
    refine HSO.out.mono ?_
    rintro e w7 ⟨g3, c3, rfl, ho3, hb7⟩
    have hs7 := hb7.size
    obtain ⟨g4, c4, w8, hrun, ho4, f8⟩ := app0_any .i64 .i64 3 Try.underlying3 w6.heap.size g3 512 c3 256 smallL w7 ho3 hs7 (by decide)
    have hb8 : Below w6.heap.size w6 w8 := ⟨f8.os.trans hb7.os, f8.tape.trans hb7.tape, f8.output.trans hb7.output, Nat.le_trans hb7.size f8.size, fun k hk => by rw [f8.block k (by omega) (fun e => by have := (ho3.lt g3 rfl).1; omega)]; exact hb7.block k hk⟩
    have HRUN := hidden (show ∀ ty, (Builtin.append_ #[28, 3] ty #[.slice (some ⟨g3, 0, none⟩) 512 c3, .int .i64 256]).run Try.prog w7 = .ok (.slice (some ⟨g4, 0, none⟩) 768 c4) w8 from hrun)
    have hO1 := own_later HO6.out hb8
    have hO2 := own_later HI6.out hb8
    have hM8 := HM6.out.later hb8
    have hB8 := HB6.out.trans (hb8.mono HB6.out.size)
    obtain ⟨_, _, _, hk1, _, _, _, _⟩ := own8_cur hO1
    obtain ⟨_, _, _, hk2, _, _, _, _⟩ := own8_cur hO2
    obtain ⟨_, _, _, hk4, _, _, _, _⟩ := own8_cur (show w8.ownsRow w6.heap.size 5 1 (.slice (some ⟨g4, 0, none⟩) 768 c4) 768 (bytesV (smallL ++ zer8 256)) from ho4)
    have H1 := hidden hO1
    have H2 := hidden hO2
    have H4 := hidden (show w8.ownsRow w6.heap.size 5 1 (.slice (some ⟨g4, 0, none⟩) 768 c4) 768 (bytesV (smallL ++ zer8 256)) from ho4)
    have HM8 := hidden hM8
    have HB8 := hidden hB8
    have HAT := hidden hat
    have HH8 := hidden hM8.heap
    generalize hLL : s.bytes.length = L at *
    generalize hFF : smallL ++ zer8 256 = fs at *
    generalize hZZ : s.bytes = zs at *
    clear hO1 hO2 hM8 hB8 hat ho3 ho4 hb7 hb8 f8 hrun HSO HI6 HM6 HO6 HB6 hcl hsl hFF hs7
    go_wp2_with (at_builtin; refine Lib.wpList_append_run _ rfl (.tmp 32) (.const (.int .i64 256)) 28 3 rfl _ _ rfl rfl _ _ (HRUN.out _) ?_)
    go_loopw [11] (fun i w' => ∃ k : Nat, k ≤ 768 ∧ i = .int .i64 k ∧ w' = w8) (fun i _ => 768 - (intOf i).toNat)
    case atStart => exact ⟨0, by omega, rfl, rfl⟩
    case round =>
      obtain ⟨k, hk, rfl, rfl⟩ := hrel
      by_cases hlt : k < 768
      · have x2 : wr.cell? ⟨g2, k, none⟩ = some (.int .u8 (cs.getD k 0)) := by have := owned_cells H2.out k (by omega); rwa [Nat.zero_add] at this
        have x4 : wr.cell? ⟨g4, k, none⟩ = some (.int .u8 (fs.getD k 0)) := by have := owned_cells H4.out k (by omega); rwa [Nat.zero_add] at this
        have hv := HAT.out k hlt
        have d1 : (k : Int) < 768 := by omega
        have u1 : IntKind.u64.wrap (k : Int) = k := u64_of _ (by omega) (by omega)
        have u2 : IntKind.u64.wrap (a : Int) = a := u64_of _ (by omega) (by omega)
        have u3 : IntKind.u64.wrap (n : Int) = n := u64_of _ (by omega) (by omega)
        have u4 : IntKind.u64.wrap ((a : Int) + (n : Int)) = (a : Int) + (n : Int) := u64_of _ (by omega) (by omega)
        by_cases q1 : k < L
        · have x1 : wr.cell? ⟨g1, k, none⟩ = some (.int .u8 (zs.getD k 0)) := by have := owned_cells H1.out k (by omega); rwa [Nat.zero_add] at this
          have e1 : (k : Int) < (L : Int) := by omega
          by_cases q2 : a ≤ k
          · have e2 : (k : Int) ≥ (a : Int) := by omega
            by_cases q3 : k < a + n
            · have e3 : (k : Int) < (a : Int) + (n : Int) := by omega
              rw [if_pos ⟨q2, q3, by omega⟩] at hv
              rw [hv] at x2
              generalize zs.getD k 0 = z1 at *
              generalize fs.getD k 0 = z4 at *
              clear hv
              go_wp2
              go_roundw
              case rel => exact ⟨k + 1, by omega, int_eq (by omega), by simp⟩
              case measure => simp [intOf]; omega
            · have e3 : ¬ (k : Int) < (a : Int) + (n : Int) := by omega
              rw [if_neg (by omega)] at hv
              rw [hv] at x2
              generalize zs.getD k 0 = z1 at *
              generalize fs.getD k 0 = z4 at *
              clear hv
              go_wp2
              go_roundw
              case rel => exact ⟨k + 1, by omega, int_eq (by omega), by simp⟩
              case measure => simp [intOf]; omega
          · have e2 : ¬ (k : Int) ≥ (a : Int) := by omega
            rw [if_neg (by omega)] at hv
            rw [hv] at x2
            generalize zs.getD k 0 = z1 at *
            generalize fs.getD k 0 = z4 at *
            clear hv
            go_wp2
            go_roundw
            case rel => exact ⟨k + 1, by omega, int_eq (by omega), by simp⟩
            case measure => simp [intOf]; omega
        · have e1 : ¬ (k : Int) < (L : Int) := by omega
          rw [if_neg (by omega)] at hv
          rw [hv] at x2
          generalize fs.getD k 0 = z4 at *
          clear hv
          go_wp2
          go_roundw
          case rel => exact ⟨k + 1, by omega, int_eq (by omega), by simp⟩
          case measure => simp [intOf]; omega
      · have d1 : ¬ (k : Int) < 768 := by omega
        go_wp2_with fail
        refine HH8.out.mono ?_
        rintro e w9 ⟨⟨bo, bc, rfl⟩, M9, k9⟩
        have HB9 := hidden (HB8.out.trans (k9.below.mono hBw))
        clear M9 k9
        go_wp2_with (first | (go_at_call 9; refine (HL.out _ HB9.out).mono ?_; rintro e w10 ⟨rfl, hb10⟩) | fail)
        go_ret
        exact ⟨rfl, hb10⟩
end Go.Proofs.Ytmebjbnglndfcaa
