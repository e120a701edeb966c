/- The walk of MemoryHolds. -/
import Derived.Test.YtmebjbnglndfcaaY9x
import Derived.Deep.RegionHeld3
namespace Go.Proofs.Ytmebjbnglndfcaa
open Go.RowKit
set_option maxHeartbeats 8000000
set_option maxRecDepth 100000
set_option linter.unusedVariables false

theorem memoryHolds_walk (ao : Option Addr) (len cap : Nat) (rs : List Ac) (ad n xx : Int) (w : World) (hA : IsActs w ao len cap rs) (h1 : (Lit.int .u32 ad).wf = true) (h2 : (Lit.int .i64 n).wf = true) (h3 : (Lit.int .u32 xx).wf = true) :
    Calls Try.prog 3 #[.slice ao len cap, .int .u32 ad, .int .i64 n, .int .u32 xx] w fun e w' => e = .returned (.bool true) ∧ Below w.heap.size w w' := by
  have b1 := bounds_u32 h1
  have b2 := bounds_i64 h2
  have b3 := bounds_u32 h3
  obtain ⟨a, rfl⟩ := Int.eq_ofNat_of_zero_le b1.1
  obtain ⟨x, rfl⟩ := Int.eq_ofNat_of_zero_le b3.1
  clear h1 h2 h3
  have HL : Hid (∀ w1, Below w.heap.size w w1 → Calls Try.prog 9 #[] w1 fun e w' => e = .returned (.bool true) ∧ Below w.heap.size w w') := fun w1 hb1 => (live_any w1).mono (fun e w' hh => ⟨hh.1, hb1.trans (hh.2.mono hb1.size)⟩)
  have HH := hidden (huge_any ao len cap rs w hA)
  have HA := hidden hA
  clear hA
  cases hg : hugeB rs with
  | true =>
    rw [hg] at HH
    clear hg
    go_enter Try.func3, Try.ntmps3
    go_wp2_with (first | (go_at_call 8; refine HH.out.mono ?_; rintro e w1 ⟨rfl, hb1⟩) | (go_at_call 9; refine (HL.out _ hb1).mono ?_; rintro e w2 ⟨rfl, hb2⟩) | fail)
    go_ret
    exact ⟨rfl, hb2⟩
  | false =>
    rw [hg] at HH
    clear hg
    go_enter Try.func3, Try.ntmps3
    go_wp2_with fail
    refine HH.out.mono ?_
    rintro e w1 ⟨rfl, hb1⟩
    have HBG := hidden (begin_any ao len cap rs w1 (acts_later HA.out hb1))
    have HB1 := hidden hb1
    have hs1 := hb1.size
    clear hb1 HH HA
    go_wp2_with fail
    refine HBG.out.mono ?_
    rintro e w2 ⟨m, rfl, B, s, hB, M2, hs, hb2⟩
    have HB2 := hidden (HB1.out.trans (hb2.mono hs1))
    have hBw : w.heap.size ≤ B := Nat.le_trans hs1 hB
    have HM2 := hidden M2
    have HSm := hidden hs
    have hLm := M2.ok.bm
    have hL0 : 0 < s.bytes.length := by have := M2.ok.bl; have := M2.ok.r0; omega
    have HBY := hidden M2.bytes
    clear M2 hs hb2 HB1 HBG hB hs1
    go_wp2_with fail
    refine HBY.out.mono ?_
    rintro e w3 ⟨g1, c1, rfl, ho1, M3, k3, hb3⟩
    have HO1 := hidden ho1
    have HM3 := hidden M3
    have HB3 := hidden (HB2.out.trans (k3.below.mono hBw))
    clear ho1 M3 k3 hb3 HBY HM2 HB2
    generalize hL : s.bytes.length = L at *
    have HLL := hidden hL
    clear hL
    go_wp2_with fail
    -- the write
    by_cases hn : n = 1 ∨ n = 2 ∨ n = 4
    · obtain ⟨z, rfl⟩ : ∃ z : Nat, n = z := ⟨n.toNat, by omega⟩
      have hz : z = 1 ∨ z = 2 ∨ z = 4 := by omega
      clear hn b2
      have hram := HSm.out.ram
      cases hc : chgR s.ram s.bytes.length a z with
      | false =>
        have HW := hidden (HM3.out.write_no a z x hz (by omega) hc)
        have hcc : a < 256 ∨ L < a + z := by
          rw [hram] at hc
          have hl := HLL.out
          by_cases q : a < 256
          · exact .inl q
          · right
            simp [chgR, hasR] at hc
            have := hc (by omega)
            omega
        have HBY2 := hidden HM3.out.bytes
        rw [HLL.out] at HBY2
        clear hc hram
        refine HW.out.mono ?_
        rintro e w4 ⟨rfl, e4⟩
        rw [e4]; clear e4 w4 HW
        by_cases q : a < 256
        · have q' : (a : Int) < 256 := by omega
          clear hcc
          go_wp2_with fail
          refine HBY2.out.mono ?_
          rintro e w5 ⟨g2, c2, rfl, ho2, M5, k5, hb5⟩
          have HB5 := hidden (HB3.out.trans (k5.below.mono hBw))
          have HSA := hidden (same_eq (some ⟨g1, 0, none⟩) (some ⟨g2, 0, none⟩) L c1 L c2 s.bytes w5 HM3.out.ok.okb (own_reads (own_later HO1.out hb5)) (own_reads ho2))
          clear ho2 M5 k5 hb5 HBY2
          skip
          go_wp2_with (first | (go_at_call 13; refine (num9 _ _).mono ?_; rintro e w9 ⟨rfl, e9⟩; rw [e9]; clear e9) | (go_at_call 14; refine HSA.out.mono ?_; rintro e w9 ⟨rfl, e9⟩; rw [e9]; clear e9) | (go_at_call 9; refine (HL.out _ HB5.out).mono ?_; rintro e w6 ⟨rfl, hb6⟩) | fail)
          go_ret
          exact ⟨rfl, hb6⟩
        · have q' : ¬ (a : Int) < 256 := by omega
          have u1 : IntKind.u64.wrap (a : Int) = a := u64_of _ (by omega) (by omega)
          have u2 : IntKind.u64.wrap (z : Int) = z := u64_of _ (by omega) (by omega)
          have u3 : IntKind.u64.wrap ((a : Int) + (z : Int)) = (a : Int) + (z : Int) := u64_of _ (by omega) (by omega)
          have u4 : IntKind.u64.wrap (L : Int) = L := u64_of _ (by omega) (by omega)
          have u5 : (a : Int) + (z : Int) > (L : Int) := by omega
          have u6 : (L : Int) < (a : Int) + (z : Int) := by omega
          clear hcc
          go_wp2_with fail
          refine HBY2.out.mono ?_
          rintro e w5 ⟨g2, c2, rfl, ho2, M5, k5, hb5⟩
          have HB5 := hidden (HB3.out.trans (k5.below.mono hBw))
          have HSA := hidden (same_eq (some ⟨g1, 0, none⟩) (some ⟨g2, 0, none⟩) L c1 L c2 s.bytes w5 HM3.out.ok.okb (own_reads (own_later HO1.out hb5)) (own_reads ho2))
          clear ho2 M5 k5 hb5 HBY2
          skip
          go_wp2_with (first | (go_at_call 13; refine (num9 _ _).mono ?_; rintro e w9 ⟨rfl, e9⟩; rw [e9]; clear e9) | (go_at_call 14; refine HSA.out.mono ?_; rintro e w9 ⟨rfl, e9⟩; rw [e9]; clear e9) | (go_at_call 9; refine (HL.out _ HB5.out).mono ?_; rintro e w6 ⟨rfl, hb6⟩) | fail)
          go_ret
          exact ⟨rfl, hb6⟩
      | true =>
        have HW := hidden (HM3.out.write_ok a z x hz (by omega) hc)
        obtain ⟨hc1, hc2⟩ := chg_true hc
        rw [hram] at hc1
        rw [HLL.out] at hc2
        have hpl : (putL x z).length = z := by have := putL_len x z (by unfold IsW; omega); omega
        have hbe := be_put s.bytes a z x hz (by rw [HLL.out]; exact hc2) (by omega)
        have hsl : (splice s.bytes a (putL x z)).length = L := by rw [splice_len _ _ _ (by rw [hpl, HLL.out]; exact hc2), HLL.out]
        have htk := splice_take s.bytes (putL x z) a (by rw [HLL.out]; omega)
        have hdr := splice_drop s.bytes (putL x z) a (by rw [HLL.out]; omega)
        rw [hpl] at hdr
        refine HW.out.mono ?_
        rintro e w4 ⟨rfl, M4, k4⟩
        have HB4 := hidden (HB3.out.trans (k4.below.mono hBw))
        have HO4 := hidden (k4.own HO1.out (fun g e => by simp only [Value.ownBlock, Option.some.injEq] at e; subst e; exact List.mem_cons_self))
        have HBY2 := hidden M4.bytes
        simp only [hsl] at HBY2
        have HOK := hidden M4.ok.okb
        have HOKS := hidden HM3.out.ok.okb
        generalize hZS : splice s.bytes a (putL x z) = zs at *
        clear M4 k4 HW HB3 HM3 HO1 hc hram HSm hZS hpl
        go_wp2_with fail
        refine HBY2.out.mono ?_
        rintro e w5 ⟨g2, c2, rfl, ho2, M5, k5, hb5⟩
        have HB5 := hidden (HB4.out.trans (k5.below.mono hBw))
        have HRD := hidden (M5.read_ok a z hz (by omega) (by show a + z ≤ zs.length; omega))
        simp only [hbe] at HRD
        have ho1' := own_later HO4.out hb5
        obtain ⟨_, _, _, hk1, _, _, _, _⟩ := own8_cur ho1'
        obtain ⟨_, _, _, hk2, _, _, _, _⟩ := own8_cur ho2
        have HO1 := hidden ho1'
        have HO2 := hidden ho2
        clear ho2 M5 k5 hb5 HBY2 ho1'
        rcases hz with rfl | rfl | rfl
        · have hA : IntKind.i64.wrap ((a : Int) + 1) = ((a + 1 : Nat) : Int) := by rw [IntKind.wrap_i64]; omega
          have y1 := and_255 x
          have y2 := and_65535 x
          simp only [show (256 : Nat) ^ 1 = 256 from rfl] at HRD
          have yx : x % 256 = x % 256 := rfl
          skip
          have d0 : (256 : Int) ≤ (a : Int) := by omega
          have d1 : (a : Int) ≥ 256 := by omega
          have d2 : a ≤ c1 := by omega
          have d3 : a ≤ c2 := by omega
          have d4 : (a : Int) ≤ (L : Int) := by omega
          have w0 : IntKind.i64.wrap (a : Int) = a := by rw [IntKind.wrap_i64]; omega
          generalize hAA : a + 1 = A at *
          have e1 : A ≤ c1 := by omega
          have e2 : A ≤ c2 := by omega
          have e3 : A ≤ L := by omega
          have e4 : (A : Int) ≤ (L : Int) := by omega
          have HT1 := hidden (head_reads HO1.out a (by omega))
          have HT2 := hidden (head_reads HO2.out a (by omega))
          rw [htk] at HT2
          have HOKT := hidden (show OkB (s.bytes.take a) from fun c hc => HOKS.out c (List.mem_of_mem_take hc))
          have HOKD := hidden (show OkB (s.bytes.drop A) from fun c hc => HOKS.out c (List.mem_of_mem_drop hc))
          clear yx htk
          by_cases n1 : c1 = A
          · by_cases n2 : c2 = A
            · have HD1 := hidden (tail_y HO1.out A e3 n1)
              have HD2 := hidden (tail_y HO2.out A e3 n2)
              rw [hdr] at HD2
              clear hdr
              skip
              have HSA1 := hidden (fun w' (hb : Below w5.heap.size w5 w') => same_eq (some ⟨g1, 0, none⟩) (some ⟨g2, 0, none⟩) a c1 a c2 (s.bytes.take a) w' HOKT.out (HT1.out.later hb) (HT2.out.later hb))
              have HSA2 := hidden (fun w1 (hb : Below w5.heap.size w5 w1) => same_eq (some ⟨g1, 0, none⟩) (some ⟨g2, 0, none⟩) 0 0 0 0 [] w1 (fun c hc => by cases hc) (reads_zero _ _ _) (reads_zero _ _ _))
              have hbd : Below w5.heap.size w5 w5.drew := ⟨rfl, rfl, rfl, Nat.le_refl _, fun _ _ => rfl⟩
              have HBD := hidden hbd
              clear hbd HT1 HT2 HD1 HD2 HO1 HO2
              subst n1
              subst n2
              go_wp2_with (first | (go_at_call 13; refine (num9 _ _).mono ?_; rintro e w9 ⟨rfl, e9⟩; rw [e9]; clear e9) | (go_at_call 15; refine HRD.out.mono ?_; rintro e w9 ⟨rfl, e9⟩; rw [e9]; clear e9) | fail)
              go_region_held3 (fun w' => True) (first | trivial) (first | (go_at_call 14; (with_reducible refine (HSA1.out _ HBD.out).mono ?_); rintro e w9 ⟨rfl, e9⟩; rw [e9]; clear e9) | (go_at_call 14; (with_reducible refine (HSA2.out _ HBD.out).mono ?_); rintro e w9 ⟨rfl, e9⟩; rw [e9]; clear e9) | (go_at_call 9; refine (HL.out _ (HB5.out.trans (HBD.out.mono HB5.out.size))).mono ?_; rintro e w6 ⟨rfl, hb6⟩) | fail)
              all_goals (try go_wp2)
              all_goals go_ret
              all_goals (exact ⟨rfl, hb6⟩)
            · have HD1 := hidden (tail_y HO1.out A e3 n1)
              have HD2 := hidden (tail_n HO2.out A e3 n2)
              rw [hdr] at HD2
              clear hdr
              skip
              have HSA1 := hidden (fun w' (hb : Below w5.heap.size w5 w') => same_eq (some ⟨g1, 0, none⟩) (some ⟨g2, 0, none⟩) a c1 a c2 (s.bytes.take a) w' HOKT.out (HT1.out.later hb) (HT2.out.later hb))
              have HSA2 := hidden (fun w1 (hb : Below w5.heap.size w5 w1) => same_eq (some ⟨g1, 0, none⟩) (some ⟨g2, A, none⟩) 0 0 0 (c2 - A) [] w1 (fun c hc => by cases hc) (reads_zero _ _ _) (reads_zero _ _ _))
              have hbd : Below w5.heap.size w5 w5.drew := ⟨rfl, rfl, rfl, Nat.le_refl _, fun _ _ => rfl⟩
              have HBD := hidden hbd
              clear hbd HT1 HT2 HD1 HD2 HO1 HO2
              subst n1
              skip
              go_wp2_with (first | (go_at_call 13; refine (num9 _ _).mono ?_; rintro e w9 ⟨rfl, e9⟩; rw [e9]; clear e9) | (go_at_call 15; refine HRD.out.mono ?_; rintro e w9 ⟨rfl, e9⟩; rw [e9]; clear e9) | fail)
              go_region_held3 (fun w' => True) (first | trivial) (first | (go_at_call 14; (with_reducible refine (HSA1.out _ HBD.out).mono ?_); rintro e w9 ⟨rfl, e9⟩; rw [e9]; clear e9) | (go_at_call 14; (with_reducible refine (HSA2.out _ HBD.out).mono ?_); rintro e w9 ⟨rfl, e9⟩; rw [e9]; clear e9) | (go_at_call 9; refine (HL.out _ (HB5.out.trans (HBD.out.mono HB5.out.size))).mono ?_; rintro e w6 ⟨rfl, hb6⟩) | fail)
              all_goals (try go_wp2)
              all_goals go_ret
              all_goals (exact ⟨rfl, hb6⟩)
          · by_cases n2 : c2 = A
            · have HD1 := hidden (tail_n HO1.out A e3 n1)
              have HD2 := hidden (tail_y HO2.out A e3 n2)
              rw [hdr] at HD2
              clear hdr
              skip
              have HSA1 := hidden (fun w' (hb : Below w5.heap.size w5 w') => same_eq (some ⟨g1, 0, none⟩) (some ⟨g2, 0, none⟩) a c1 a c2 (s.bytes.take a) w' HOKT.out (HT1.out.later hb) (HT2.out.later hb))
              have HSA2 := hidden (fun w1 (hb : Below w5.heap.size w5 w1) => same_eq (some ⟨g1, A, none⟩) (some ⟨g2, 0, none⟩) 0 (c1 - A) 0 0 [] w1 (fun c hc => by cases hc) (reads_zero _ _ _) (reads_zero _ _ _))
              have hbd : Below w5.heap.size w5 w5.drew := ⟨rfl, rfl, rfl, Nat.le_refl _, fun _ _ => rfl⟩
              have HBD := hidden hbd
              clear hbd HT1 HT2 HD1 HD2 HO1 HO2
              skip
              subst n2
              go_wp2_with (first | (go_at_call 13; refine (num9 _ _).mono ?_; rintro e w9 ⟨rfl, e9⟩; rw [e9]; clear e9) | (go_at_call 15; refine HRD.out.mono ?_; rintro e w9 ⟨rfl, e9⟩; rw [e9]; clear e9) | fail)
              go_region_held3 (fun w' => True) (first | trivial) (first | (go_at_call 14; (with_reducible refine (HSA1.out _ HBD.out).mono ?_); rintro e w9 ⟨rfl, e9⟩; rw [e9]; clear e9) | (go_at_call 14; (with_reducible refine (HSA2.out _ HBD.out).mono ?_); rintro e w9 ⟨rfl, e9⟩; rw [e9]; clear e9) | (go_at_call 9; refine (HL.out _ (HB5.out.trans (HBD.out.mono HB5.out.size))).mono ?_; rintro e w6 ⟨rfl, hb6⟩) | fail)
              all_goals (try go_wp2)
              all_goals go_ret
              all_goals (exact ⟨rfl, hb6⟩)
            · have HD1 := hidden (tail_n HO1.out A e3 n1)
              have HD2 := hidden (tail_n HO2.out A e3 n2)
              rw [hdr] at HD2
              clear hdr
              skip
              have HSA1 := hidden (fun w' (hb : Below w5.heap.size w5 w') => same_eq (some ⟨g1, 0, none⟩) (some ⟨g2, 0, none⟩) a c1 a c2 (s.bytes.take a) w' HOKT.out (HT1.out.later hb) (HT2.out.later hb))
              have HSA2 := hidden (fun w1 (hb : Below w5.heap.size w5 w1) => same_eq (some ⟨g1, A, none⟩) (some ⟨g2, A, none⟩) (L - A) (c1 - A) (L - A) (c2 - A) (s.bytes.drop A) w1 HOKD.out (HD1.out.later hb) (HD2.out.later hb))
              have hbd : Below w5.heap.size w5 w5.drew := ⟨rfl, rfl, rfl, Nat.le_refl _, fun _ _ => rfl⟩
              have HBD := hidden hbd
              clear hbd HT1 HT2 HD1 HD2 HO1 HO2
              skip
              skip
              go_wp2_with (first | (go_at_call 13; refine (num9 _ _).mono ?_; rintro e w9 ⟨rfl, e9⟩; rw [e9]; clear e9) | (go_at_call 15; refine HRD.out.mono ?_; rintro e w9 ⟨rfl, e9⟩; rw [e9]; clear e9) | fail)
              go_region_held3 (fun w' => True) (first | trivial) (first | (go_at_call 14; (with_reducible refine (HSA1.out _ HBD.out).mono ?_); rintro e w9 ⟨rfl, e9⟩; rw [e9]; clear e9) | (go_at_call 14; (with_reducible refine (HSA2.out _ HBD.out).mono ?_); rintro e w9 ⟨rfl, e9⟩; rw [e9]; clear e9) | (go_at_call 9; refine (HL.out _ (HB5.out.trans (HBD.out.mono HB5.out.size))).mono ?_; rintro e w6 ⟨rfl, hb6⟩) | fail)
              all_goals (try go_wp2)
              all_goals go_ret
              all_goals (exact ⟨rfl, hb6⟩)
        · have hA : IntKind.i64.wrap ((a : Int) + 2) = ((a + 2 : Nat) : Int) := by rw [IntKind.wrap_i64]; omega
          have y1 := and_255 x
          have y2 := and_65535 x
          simp only [show (256 : Nat) ^ 2 = 65536 from rfl] at HRD
          have yx : x % 65536 = x % 65536 := rfl
          skip
          have d0 : (256 : Int) ≤ (a : Int) := by omega
          have d1 : (a : Int) ≥ 256 := by omega
          have d2 : a ≤ c1 := by omega
          have d3 : a ≤ c2 := by omega
          have d4 : (a : Int) ≤ (L : Int) := by omega
          have w0 : IntKind.i64.wrap (a : Int) = a := by rw [IntKind.wrap_i64]; omega
          generalize hAA : a + 2 = A at *
          have e1 : A ≤ c1 := by omega
          have e2 : A ≤ c2 := by omega
          have e3 : A ≤ L := by omega
          have e4 : (A : Int) ≤ (L : Int) := by omega
          have HT1 := hidden (head_reads HO1.out a (by omega))
          have HT2 := hidden (head_reads HO2.out a (by omega))
          rw [htk] at HT2
          have HOKT := hidden (show OkB (s.bytes.take a) from fun c hc => HOKS.out c (List.mem_of_mem_take hc))
          have HOKD := hidden (show OkB (s.bytes.drop A) from fun c hc => HOKS.out c (List.mem_of_mem_drop hc))
          clear yx htk
          by_cases n1 : c1 = A
          · by_cases n2 : c2 = A
            · have HD1 := hidden (tail_y HO1.out A e3 n1)
              have HD2 := hidden (tail_y HO2.out A e3 n2)
              rw [hdr] at HD2
              clear hdr
              skip
              have HSA1 := hidden (fun w' (hb : Below w5.heap.size w5 w') => same_eq (some ⟨g1, 0, none⟩) (some ⟨g2, 0, none⟩) a c1 a c2 (s.bytes.take a) w' HOKT.out (HT1.out.later hb) (HT2.out.later hb))
              have HSA2 := hidden (fun w1 (hb : Below w5.heap.size w5 w1) => same_eq (some ⟨g1, 0, none⟩) (some ⟨g2, 0, none⟩) 0 0 0 0 [] w1 (fun c hc => by cases hc) (reads_zero _ _ _) (reads_zero _ _ _))
              have hbd : Below w5.heap.size w5 w5.drew := ⟨rfl, rfl, rfl, Nat.le_refl _, fun _ _ => rfl⟩
              have HBD := hidden hbd
              clear hbd HT1 HT2 HD1 HD2 HO1 HO2
              subst n1
              subst n2
              go_wp2_with (first | (go_at_call 13; refine (num9 _ _).mono ?_; rintro e w9 ⟨rfl, e9⟩; rw [e9]; clear e9) | (go_at_call 15; refine HRD.out.mono ?_; rintro e w9 ⟨rfl, e9⟩; rw [e9]; clear e9) | fail)
              go_region_held3 (fun w' => True) (first | trivial) (first | (go_at_call 14; (with_reducible refine (HSA1.out _ HBD.out).mono ?_); rintro e w9 ⟨rfl, e9⟩; rw [e9]; clear e9) | (go_at_call 14; (with_reducible refine (HSA2.out _ HBD.out).mono ?_); rintro e w9 ⟨rfl, e9⟩; rw [e9]; clear e9) | (go_at_call 9; refine (HL.out _ (HB5.out.trans (HBD.out.mono HB5.out.size))).mono ?_; rintro e w6 ⟨rfl, hb6⟩) | fail)
              all_goals (try go_wp2)
              all_goals go_ret
              all_goals (exact ⟨rfl, hb6⟩)
            · have HD1 := hidden (tail_y HO1.out A e3 n1)
              have HD2 := hidden (tail_n HO2.out A e3 n2)
              rw [hdr] at HD2
              clear hdr
              skip
              have HSA1 := hidden (fun w' (hb : Below w5.heap.size w5 w') => same_eq (some ⟨g1, 0, none⟩) (some ⟨g2, 0, none⟩) a c1 a c2 (s.bytes.take a) w' HOKT.out (HT1.out.later hb) (HT2.out.later hb))
              have HSA2 := hidden (fun w1 (hb : Below w5.heap.size w5 w1) => same_eq (some ⟨g1, 0, none⟩) (some ⟨g2, A, none⟩) 0 0 0 (c2 - A) [] w1 (fun c hc => by cases hc) (reads_zero _ _ _) (reads_zero _ _ _))
              have hbd : Below w5.heap.size w5 w5.drew := ⟨rfl, rfl, rfl, Nat.le_refl _, fun _ _ => rfl⟩
              have HBD := hidden hbd
              clear hbd HT1 HT2 HD1 HD2 HO1 HO2
              subst n1
              skip
              go_wp2_with (first | (go_at_call 13; refine (num9 _ _).mono ?_; rintro e w9 ⟨rfl, e9⟩; rw [e9]; clear e9) | (go_at_call 15; refine HRD.out.mono ?_; rintro e w9 ⟨rfl, e9⟩; rw [e9]; clear e9) | fail)
              go_region_held3 (fun w' => True) (first | trivial) (first | (go_at_call 14; (with_reducible refine (HSA1.out _ HBD.out).mono ?_); rintro e w9 ⟨rfl, e9⟩; rw [e9]; clear e9) | (go_at_call 14; (with_reducible refine (HSA2.out _ HBD.out).mono ?_); rintro e w9 ⟨rfl, e9⟩; rw [e9]; clear e9) | (go_at_call 9; refine (HL.out _ (HB5.out.trans (HBD.out.mono HB5.out.size))).mono ?_; rintro e w6 ⟨rfl, hb6⟩) | fail)
              all_goals (try go_wp2)
              all_goals go_ret
              all_goals (exact ⟨rfl, hb6⟩)
          · by_cases n2 : c2 = A
            · have HD1 := hidden (tail_n HO1.out A e3 n1)
              have HD2 := hidden (tail_y HO2.out A e3 n2)
              rw [hdr] at HD2
              clear hdr
              skip
              have HSA1 := hidden (fun w' (hb : Below w5.heap.size w5 w') => same_eq (some ⟨g1, 0, none⟩) (some ⟨g2, 0, none⟩) a c1 a c2 (s.bytes.take a) w' HOKT.out (HT1.out.later hb) (HT2.out.later hb))
              have HSA2 := hidden (fun w1 (hb : Below w5.heap.size w5 w1) => same_eq (some ⟨g1, A, none⟩) (some ⟨g2, 0, none⟩) 0 (c1 - A) 0 0 [] w1 (fun c hc => by cases hc) (reads_zero _ _ _) (reads_zero _ _ _))
              have hbd : Below w5.heap.size w5 w5.drew := ⟨rfl, rfl, rfl, Nat.le_refl _, fun _ _ => rfl⟩
              have HBD := hidden hbd
              clear hbd HT1 HT2 HD1 HD2 HO1 HO2
              skip
              subst n2
              go_wp2_with (first | (go_at_call 13; refine (num9 _ _).mono ?_; rintro e w9 ⟨rfl, e9⟩; rw [e9]; clear e9) | (go_at_call 15; refine HRD.out.mono ?_; rintro e w9 ⟨rfl, e9⟩; rw [e9]; clear e9) | fail)
              go_region_held3 (fun w' => True) (first | trivial) (first | (go_at_call 14; (with_reducible refine (HSA1.out _ HBD.out).mono ?_); rintro e w9 ⟨rfl, e9⟩; rw [e9]; clear e9) | (go_at_call 14; (with_reducible refine (HSA2.out _ HBD.out).mono ?_); rintro e w9 ⟨rfl, e9⟩; rw [e9]; clear e9) | (go_at_call 9; refine (HL.out _ (HB5.out.trans (HBD.out.mono HB5.out.size))).mono ?_; rintro e w6 ⟨rfl, hb6⟩) | fail)
              all_goals (try go_wp2)
              all_goals go_ret
              all_goals (exact ⟨rfl, hb6⟩)
            · have HD1 := hidden (tail_n HO1.out A e3 n1)
              have HD2 := hidden (tail_n HO2.out A e3 n2)
              rw [hdr] at HD2
              clear hdr
              skip
              have HSA1 := hidden (fun w' (hb : Below w5.heap.size w5 w') => same_eq (some ⟨g1, 0, none⟩) (some ⟨g2, 0, none⟩) a c1 a c2 (s.bytes.take a) w' HOKT.out (HT1.out.later hb) (HT2.out.later hb))
              have HSA2 := hidden (fun w1 (hb : Below w5.heap.size w5 w1) => same_eq (some ⟨g1, A, none⟩) (some ⟨g2, A, none⟩) (L - A) (c1 - A) (L - A) (c2 - A) (s.bytes.drop A) w1 HOKD.out (HD1.out.later hb) (HD2.out.later hb))
              have hbd : Below w5.heap.size w5 w5.drew := ⟨rfl, rfl, rfl, Nat.le_refl _, fun _ _ => rfl⟩
              have HBD := hidden hbd
              clear hbd HT1 HT2 HD1 HD2 HO1 HO2
              skip
              skip
              go_wp2_with (first | (go_at_call 13; refine (num9 _ _).mono ?_; rintro e w9 ⟨rfl, e9⟩; rw [e9]; clear e9) | (go_at_call 15; refine HRD.out.mono ?_; rintro e w9 ⟨rfl, e9⟩; rw [e9]; clear e9) | fail)
              go_region_held3 (fun w' => True) (first | trivial) (first | (go_at_call 14; (with_reducible refine (HSA1.out _ HBD.out).mono ?_); rintro e w9 ⟨rfl, e9⟩; rw [e9]; clear e9) | (go_at_call 14; (with_reducible refine (HSA2.out _ HBD.out).mono ?_); rintro e w9 ⟨rfl, e9⟩; rw [e9]; clear e9) | (go_at_call 9; refine (HL.out _ (HB5.out.trans (HBD.out.mono HB5.out.size))).mono ?_; rintro e w6 ⟨rfl, hb6⟩) | fail)
              all_goals (try go_wp2)
              all_goals go_ret
              all_goals (exact ⟨rfl, hb6⟩)
        · have hA : IntKind.i64.wrap ((a : Int) + 4) = ((a + 4 : Nat) : Int) := by rw [IntKind.wrap_i64]; omega
          have y1 := and_255 x
          have y2 := and_65535 x
          simp only [show (256 : Nat) ^ 4 = 4294967296 from rfl] at HRD
          have yx : x % 4294967296 = x % 4294967296 := rfl
          rw [Nat.mod_eq_of_lt (show x < 4294967296 by omega)] at HRD
          have d0 : (256 : Int) ≤ (a : Int) := by omega
          have d1 : (a : Int) ≥ 256 := by omega
          have d2 : a ≤ c1 := by omega
          have d3 : a ≤ c2 := by omega
          have d4 : (a : Int) ≤ (L : Int) := by omega
          have w0 : IntKind.i64.wrap (a : Int) = a := by rw [IntKind.wrap_i64]; omega
          generalize hAA : a + 4 = A at *
          have e1 : A ≤ c1 := by omega
          have e2 : A ≤ c2 := by omega
          have e3 : A ≤ L := by omega
          have e4 : (A : Int) ≤ (L : Int) := by omega
          have HT1 := hidden (head_reads HO1.out a (by omega))
          have HT2 := hidden (head_reads HO2.out a (by omega))
          rw [htk] at HT2
          have HOKT := hidden (show OkB (s.bytes.take a) from fun c hc => HOKS.out c (List.mem_of_mem_take hc))
          have HOKD := hidden (show OkB (s.bytes.drop A) from fun c hc => HOKS.out c (List.mem_of_mem_drop hc))
          clear yx htk
          by_cases n1 : c1 = A
          · by_cases n2 : c2 = A
            · have HD1 := hidden (tail_y HO1.out A e3 n1)
              have HD2 := hidden (tail_y HO2.out A e3 n2)
              rw [hdr] at HD2
              clear hdr
              skip
              have HSA1 := hidden (fun w' (hb : Below w5.heap.size w5 w') => same_eq (some ⟨g1, 0, none⟩) (some ⟨g2, 0, none⟩) a c1 a c2 (s.bytes.take a) w' HOKT.out (HT1.out.later hb) (HT2.out.later hb))
              have HSA2 := hidden (fun w1 (hb : Below w5.heap.size w5 w1) => same_eq (some ⟨g1, 0, none⟩) (some ⟨g2, 0, none⟩) 0 0 0 0 [] w1 (fun c hc => by cases hc) (reads_zero _ _ _) (reads_zero _ _ _))
              have hbd : Below w5.heap.size w5 w5.drew := ⟨rfl, rfl, rfl, Nat.le_refl _, fun _ _ => rfl⟩
              have HBD := hidden hbd
              clear hbd HT1 HT2 HD1 HD2 HO1 HO2
              subst n1
              subst n2
              go_wp2_with (first | (go_at_call 13; refine (num9 _ _).mono ?_; rintro e w9 ⟨rfl, e9⟩; rw [e9]; clear e9) | (go_at_call 15; refine HRD.out.mono ?_; rintro e w9 ⟨rfl, e9⟩; rw [e9]; clear e9) | fail)
              go_region_held3 (fun w' => True) (first | trivial) (first | (go_at_call 14; (with_reducible refine (HSA1.out _ HBD.out).mono ?_); rintro e w9 ⟨rfl, e9⟩; rw [e9]; clear e9) | (go_at_call 14; (with_reducible refine (HSA2.out _ HBD.out).mono ?_); rintro e w9 ⟨rfl, e9⟩; rw [e9]; clear e9) | (go_at_call 9; refine (HL.out _ (HB5.out.trans (HBD.out.mono HB5.out.size))).mono ?_; rintro e w6 ⟨rfl, hb6⟩) | fail)
              all_goals (try go_wp2)
              all_goals go_ret
              all_goals (exact ⟨rfl, hb6⟩)
            · have HD1 := hidden (tail_y HO1.out A e3 n1)
              have HD2 := hidden (tail_n HO2.out A e3 n2)
              rw [hdr] at HD2
              clear hdr
              skip
              have HSA1 := hidden (fun w' (hb : Below w5.heap.size w5 w') => same_eq (some ⟨g1, 0, none⟩) (some ⟨g2, 0, none⟩) a c1 a c2 (s.bytes.take a) w' HOKT.out (HT1.out.later hb) (HT2.out.later hb))
              have HSA2 := hidden (fun w1 (hb : Below w5.heap.size w5 w1) => same_eq (some ⟨g1, 0, none⟩) (some ⟨g2, A, none⟩) 0 0 0 (c2 - A) [] w1 (fun c hc => by cases hc) (reads_zero _ _ _) (reads_zero _ _ _))
              have hbd : Below w5.heap.size w5 w5.drew := ⟨rfl, rfl, rfl, Nat.le_refl _, fun _ _ => rfl⟩
              have HBD := hidden hbd
              clear hbd HT1 HT2 HD1 HD2 HO1 HO2
              subst n1
              skip
              go_wp2_with (first | (go_at_call 13; refine (num9 _ _).mono ?_; rintro e w9 ⟨rfl, e9⟩; rw [e9]; clear e9) | (go_at_call 15; refine HRD.out.mono ?_; rintro e w9 ⟨rfl, e9⟩; rw [e9]; clear e9) | fail)
              go_region_held3 (fun w' => True) (first | trivial) (first | (go_at_call 14; (with_reducible refine (HSA1.out _ HBD.out).mono ?_); rintro e w9 ⟨rfl, e9⟩; rw [e9]; clear e9) | (go_at_call 14; (with_reducible refine (HSA2.out _ HBD.out).mono ?_); rintro e w9 ⟨rfl, e9⟩; rw [e9]; clear e9) | (go_at_call 9; refine (HL.out _ (HB5.out.trans (HBD.out.mono HB5.out.size))).mono ?_; rintro e w6 ⟨rfl, hb6⟩) | fail)
              all_goals (try go_wp2)
              all_goals go_ret
              all_goals (exact ⟨rfl, hb6⟩)
          · by_cases n2 : c2 = A
            · have HD1 := hidden (tail_n HO1.out A e3 n1)
              have HD2 := hidden (tail_y HO2.out A e3 n2)
              rw [hdr] at HD2
              clear hdr
              skip
              have HSA1 := hidden (fun w' (hb : Below w5.heap.size w5 w') => same_eq (some ⟨g1, 0, none⟩) (some ⟨g2, 0, none⟩) a c1 a c2 (s.bytes.take a) w' HOKT.out (HT1.out.later hb) (HT2.out.later hb))
              have HSA2 := hidden (fun w1 (hb : Below w5.heap.size w5 w1) => same_eq (some ⟨g1, A, none⟩) (some ⟨g2, 0, none⟩) 0 (c1 - A) 0 0 [] w1 (fun c hc => by cases hc) (reads_zero _ _ _) (reads_zero _ _ _))
              have hbd : Below w5.heap.size w5 w5.drew := ⟨rfl, rfl, rfl, Nat.le_refl _, fun _ _ => rfl⟩
              have HBD := hidden hbd
              clear hbd HT1 HT2 HD1 HD2 HO1 HO2
              skip
              subst n2
              go_wp2_with (first | (go_at_call 13; refine (num9 _ _).mono ?_; rintro e w9 ⟨rfl, e9⟩; rw [e9]; clear e9) | (go_at_call 15; refine HRD.out.mono ?_; rintro e w9 ⟨rfl, e9⟩; rw [e9]; clear e9) | fail)
              go_region_held3 (fun w' => True) (first | trivial) (first | (go_at_call 14; (with_reducible refine (HSA1.out _ HBD.out).mono ?_); rintro e w9 ⟨rfl, e9⟩; rw [e9]; clear e9) | (go_at_call 14; (with_reducible refine (HSA2.out _ HBD.out).mono ?_); rintro e w9 ⟨rfl, e9⟩; rw [e9]; clear e9) | (go_at_call 9; refine (HL.out _ (HB5.out.trans (HBD.out.mono HB5.out.size))).mono ?_; rintro e w6 ⟨rfl, hb6⟩) | fail)
              all_goals (try go_wp2)
              all_goals go_ret
              all_goals (exact ⟨rfl, hb6⟩)
            · have HD1 := hidden (tail_n HO1.out A e3 n1)
              have HD2 := hidden (tail_n HO2.out A e3 n2)
              rw [hdr] at HD2
              clear hdr
              skip
              have HSA1 := hidden (fun w' (hb : Below w5.heap.size w5 w') => same_eq (some ⟨g1, 0, none⟩) (some ⟨g2, 0, none⟩) a c1 a c2 (s.bytes.take a) w' HOKT.out (HT1.out.later hb) (HT2.out.later hb))
              have HSA2 := hidden (fun w1 (hb : Below w5.heap.size w5 w1) => same_eq (some ⟨g1, A, none⟩) (some ⟨g2, A, none⟩) (L - A) (c1 - A) (L - A) (c2 - A) (s.bytes.drop A) w1 HOKD.out (HD1.out.later hb) (HD2.out.later hb))
              have hbd : Below w5.heap.size w5 w5.drew := ⟨rfl, rfl, rfl, Nat.le_refl _, fun _ _ => rfl⟩
              have HBD := hidden hbd
              clear hbd HT1 HT2 HD1 HD2 HO1 HO2
              skip
              skip
              go_wp2_with (first | (go_at_call 13; refine (num9 _ _).mono ?_; rintro e w9 ⟨rfl, e9⟩; rw [e9]; clear e9) | (go_at_call 15; refine HRD.out.mono ?_; rintro e w9 ⟨rfl, e9⟩; rw [e9]; clear e9) | fail)
              go_region_held3 (fun w' => True) (first | trivial) (first | (go_at_call 14; (with_reducible refine (HSA1.out _ HBD.out).mono ?_); rintro e w9 ⟨rfl, e9⟩; rw [e9]; clear e9) | (go_at_call 14; (with_reducible refine (HSA2.out _ HBD.out).mono ?_); rintro e w9 ⟨rfl, e9⟩; rw [e9]; clear e9) | (go_at_call 9; refine (HL.out _ (HB5.out.trans (HBD.out.mono HB5.out.size))).mono ?_; rintro e w6 ⟨rfl, hb6⟩) | fail)
              all_goals (try go_wp2)
              all_goals go_ret
              all_goals (exact ⟨rfl, hb6⟩)
    · have HW := hidden (HM3.out.write_bad a n x (by omega) (by omega) (by omega))
      have HBY2 := hidden HM3.out.bytes
      rw [HLL.out] at HBY2
      refine HW.out.mono ?_
      rintro e w4 ⟨rfl, e4⟩
      rw [e4]; clear e4 w4 HW
      have p1 : (n != 1) = true := by rw [bne_iff_ne]; omega
      have p2 : (n != 2) = true := by rw [bne_iff_ne]; omega
      have p4 : (n != 4) = true := by rw [bne_iff_ne]; omega
      go_wp2_with fail
      refine HBY2.out.mono ?_
      rintro e w5 ⟨g2, c2, rfl, ho2, M5, k5, hb5⟩
      have HB5 := hidden (HB3.out.trans (k5.below.mono hBw))
      have HSA := hidden (same_eq (some ⟨g1, 0, none⟩) (some ⟨g2, 0, none⟩) L c1 L c2 s.bytes w5 HM3.out.ok.okb (own_reads (own_later HO1.out hb5)) (own_reads ho2))
      clear ho2 M5 k5 hb5 HBY2
      skip
      go_wp2_with (first | (go_at_call 13; refine (num9 _ _).mono ?_; rintro e w9 ⟨rfl, e9⟩; rw [e9]; clear e9) | (go_at_call 14; refine HSA.out.mono ?_; rintro e w9 ⟨rfl, e9⟩; rw [e9]; clear e9) | (go_at_call 9; refine (HL.out _ HB5.out).mono ?_; rintro e w6 ⟨rfl, hb6⟩) | fail)
      go_ret
      exact ⟨rfl, hb6⟩
end Go.Proofs.Ytmebjbnglndfcaa
