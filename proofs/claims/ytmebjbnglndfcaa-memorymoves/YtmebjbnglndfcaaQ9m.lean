/- The walk of MemoryMoves. -/
import Derived.Test.YtmebjbnglndfcaaQ9p
import Derived.Deep.RegionHeld3
namespace Go.Proofs.Ytmebjbnglndfcaa
open Go.RowKit
set_option maxHeartbeats 8000000
set_option maxRecDepth 100000
set_option linter.unusedVariables false

theorem tail_p {w : World} {B g n c : Nat} {zs : List Int} (h : w.ownsRow B 5 1 (.slice (some ⟨g, 0, none⟩) n c) n (bytesV zs)) (A : Nat) (hA : A ≤ n) : ∃ P, (if c = A then some (⟨g, 0, none⟩ : Addr) else some ⟨g, A, none⟩) = some ⟨g, P, none⟩ ∧ Reads w (some ⟨g, P, none⟩) (n - A) (c - A) (zs.drop A) := by
  by_cases hc : c = A
  · refine ⟨0, by rw [if_pos hc], ?_⟩
    obtain ⟨_, _, _, h3, _, _, _, h7⟩ := own8_cur h
    exact ⟨by simp; omega, by omega, .inr ⟨_, rfl, fun i hi => by omega⟩⟩
  · exact ⟨A, by rw [if_neg hc], tail_n h A hA hc⟩
theorem tail_z {w : World} {B g n c : Nat} {zs : List Int} (h : w.ownsRow B 5 1 (.slice (some ⟨g, 0, none⟩) n c) n (bytesV zs)) (A : Nat) (hA : A ≤ n) (hc : c = A) : Reads w (some ⟨g, 0, none⟩) (n - A) (c - A) (zs.drop A) := by
  obtain ⟨_, _, _, h3, _, _, _, h7⟩ := own8_cur h
  refine ⟨by simp; omega, by omega, .inr ⟨_, rfl, fun i hi => by omega⟩⟩
theorem seg_splice (xs ys : List Int) (b : Nat) (h : b + ys.length ≤ xs.length) : seg (splice xs b ys) b ys.length = ys := by
  simp only [seg, splice]
  rw [List.drop_left' (by simp; omega)]
  exact List.take_left' rfl
theorem memoryMoves_walk (ao : Option Addr) (len cap : Nat) (rs : List Ac) (nn fr tt : Int) (w : World) (hA : IsActs w ao len cap rs) (h1 : (Lit.int .u32 nn).wf = true) (h2 : (Lit.int .u32 fr).wf = true) (h3 : (Lit.int .u32 tt).wf = true) :
    Calls Try.prog 6 #[.slice ao len cap, .int .u32 nn, .int .u32 fr, .int .u32 tt] w fun e w' => e = .returned (.bool true) ∧ Below w.heap.size w w' := by
  have b1 := bounds_u32 h1
  have b2 := bounds_u32 h2
  have b3 := bounds_u32 h3
  obtain ⟨n, rfl⟩ := Int.eq_ofNat_of_zero_le b1.1
  obtain ⟨a, rfl⟩ := Int.eq_ofNat_of_zero_le b2.1
  obtain ⟨b, rfl⟩ := Int.eq_ofNat_of_zero_le b3.1
  clear h1 h2 h3
  have HL : Hid (∀ w1, Below w.heap.size w w1 → Calls Try.prog 9 #[] w1 fun e w' => e = .returned (.bool true) ∧ Below w.heap.size w w') := fun w1 hb1 => (live_any w1).mono (fun e w' hh => ⟨hh.1, hb1.trans (hh.2.mono hb1.size)⟩)
  have HH := hidden (huge_any ao len cap rs w hA)
  have HA := hidden hA
  clear hA
  cases hg : hugeB rs with
  | true =>
    rw [hg] at HH
    clear hg
    go_enter Try.func6, Try.ntmps6
    go_wp2_with (first | (go_at_call 8; refine HH.out.mono ?_; rintro e w1 ⟨rfl, hb1⟩) | (go_at_call 9; refine (HL.out _ hb1).mono ?_; rintro e w2 ⟨rfl, hb2⟩) | fail)
    go_ret
    exact ⟨rfl, hb2⟩
  | false =>
    rw [hg] at HH
    clear hg
    go_enter Try.func6, Try.ntmps6
    go_wp2_with fail
    refine HH.out.mono ?_
    rintro e w1 ⟨rfl, hb1⟩
    have HBG := hidden (begin_any ao len cap rs w1 (acts_later HA.out hb1))
    have HB1 := hidden hb1
    have hs1 := hb1.size
    clear hb1 HH HA
    go_wp2_with fail
    refine HBG.out.mono ?_
    rintro e w2 ⟨m, rfl, B, s, hB, M2, hs, hb2⟩
    have HB2 := hidden (HB1.out.trans (hb2.mono hs1))
    have hBw : w.heap.size ≤ B := Nat.le_trans hs1 hB
    have HM2 := hidden M2
    have HSm := hidden hs
    have hLm := M2.ok.bm
    have hL0 : 0 < s.bytes.length := by have := M2.ok.bl; have := M2.ok.r0; omega
    clear hs hb2 HB1 HBG hB hs1 M2
    have HBY := hidden HM2.out.bytes
    have hram := HSm.out.ram
    go_wp2_with fail
    refine HBY.out.mono ?_
    rintro e w3 ⟨g1, c1, rfl, ho1, M3, k3, hb3⟩
    have HO1 := hidden ho1
    have HM3 := hidden M3
    have HB3 := hidden (HB2.out.trans (k3.below.mono hBw))
    clear ho1 M3 k3 hb3 HBY HM2 HB2
    have HOKS := hidden HM3.out.ok.okb
    generalize hLL : s.bytes.length = L at *
    have HLL := hidden hLL
    clear hLL
    go_wp2_with fail
    by_cases hn0 : n = 0
    · subst hn0
      have HBY2 := hidden HM3.out.bytes
      rw [HLL.out] at HBY2
      refine (move_zero m a b w3).mono ?_
      rintro e w4 ⟨rfl, e4⟩
      rw [e4]; clear e4 w4
      go_wp2_with fail
      refine HBY2.out.mono ?_
      rintro e w5 ⟨g2, c2, rfl, ho2, M5, k5, hb5⟩
      have HB5 := hidden (HB3.out.trans (k5.below.mono hBw))
      have HSA := hidden (same_eq (some ⟨g1, 0, none⟩) (some ⟨g2, 0, none⟩) L c1 L c2 s.bytes w5 HOKS.out (own_reads (own_later HO1.out hb5)) (own_reads ho2))
      have HM5 := hidden M5
      have HO2 := hidden ho2
      clear ho2 M5 k5 hb5 HBY2
      have HF := hidden (fill_zero m b w5)
      have HBY3 := hidden HM5.out.bytes
      rw [HLL.out] at HBY3
      go_wp2_with (first | (go_at_call 13; refine (num9 _ _).mono ?_; rintro e w9 ⟨rfl, e9⟩; rw [e9]; clear e9) | (go_at_call 14; (with_reducible refine HSA.out.mono ?_); rintro e w9 ⟨rfl, e9⟩; rw [e9]; clear e9) | (go_at_call 23; refine HF.out.mono ?_; rintro e w9 ⟨rfl, e9⟩; rw [e9]; clear e9) | fail)
      refine HBY3.out.mono ?_
      rintro e w6 ⟨g3, c3, rfl, ho3, M6, k6, hb6⟩
      have HB6 := hidden (HB5.out.trans (k6.below.mono hBw))
      have HSE := hidden (same_eq (some ⟨g3, 0, none⟩) (some ⟨g2, 0, none⟩) L c3 L c2 s.bytes w6 HOKS.out (own_reads ho3) (own_reads (own_later HO2.out hb6)))
      clear ho3 M6 k6 hb6 HBY3 HM5 HO2 HO1 HM3
      go_wp2_with (first | (go_at_call 13; refine (num9 _ _).mono ?_; rintro e w9 ⟨rfl, e9⟩; rw [e9]; clear e9) | (go_at_call 14; (with_reducible refine HSE.out.mono ?_); rintro e w9 ⟨rfl, e9⟩; rw [e9]; clear e9) | (go_at_call 9; refine (HL.out _ HB6.out).mono ?_; rintro e w10 ⟨rfl, hb10⟩) | fail)
      go_ret
      exact ⟨rfl, hb10⟩
    · have hz : ((n : Int) == 0) = false := by rw [beq_eq_false_iff_ne]; omega
      cases hd : chgR s.ram s.bytes.length b n with
      | false =>
        have HBY2 := hidden HM3.out.bytes
        rw [HLL.out] at HBY2
        have HF0 := hidden (fun w5 ks (M5 : Mem B w5 m s ks) => M5.fill_no b n (by omega) (by omega) hn0 hd)
        by_cases hc : a + n ≤ s.bytes.length
        · have HW := hidden (HM3.out.move_no n a b (by omega) (by omega) (by omega) hn0 hc hd)
          clear hd hc
          refine HW.out.mono ?_
          rintro e w4 ⟨rfl, e4⟩
          rw [e4]; clear e4 w4 HW
          go_wp2_with fail
          refine HBY2.out.mono ?_
          rintro e w5 ⟨g2, c2, rfl, ho2, M5, k5, hb5⟩
          have HB5 := hidden (HB3.out.trans (k5.below.mono hBw))
          have HSA := hidden (same_eq (some ⟨g1, 0, none⟩) (some ⟨g2, 0, none⟩) L c1 L c2 s.bytes w5 HOKS.out (own_reads (own_later HO1.out hb5)) (own_reads ho2))
          have HM5 := hidden M5
          have HO2 := hidden ho2
          clear ho2 M5 k5 hb5 HBY2
          have HF := hidden (HF0.out w5 _ HM5.out)
          have HBY3 := hidden HM5.out.bytes
          rw [HLL.out] at HBY3
          go_wp2_with (first | (go_at_call 13; refine (num9 _ _).mono ?_; rintro e w9 ⟨rfl, e9⟩; rw [e9]; clear e9) | (go_at_call 14; (with_reducible refine HSA.out.mono ?_); rintro e w9 ⟨rfl, e9⟩; rw [e9]; clear e9) | (go_at_call 23; refine HF.out.mono ?_; rintro e w9 ⟨rfl, e9⟩; rw [e9]; clear e9) | fail)
          refine HBY3.out.mono ?_
          rintro e w6 ⟨g3, c3, rfl, ho3, M6, k6, hb6⟩
          have HB6 := hidden (HB5.out.trans (k6.below.mono hBw))
          have HSE := hidden (same_eq (some ⟨g3, 0, none⟩) (some ⟨g2, 0, none⟩) L c3 L c2 s.bytes w6 HOKS.out (own_reads ho3) (own_reads (own_later HO2.out hb6)))
          clear ho3 M6 k6 hb6 HBY3 HM5 HO2 HO1 HM3
          go_wp2_with (first | (go_at_call 13; refine (num9 _ _).mono ?_; rintro e w9 ⟨rfl, e9⟩; rw [e9]; clear e9) | (go_at_call 14; (with_reducible refine HSE.out.mono ?_); rintro e w9 ⟨rfl, e9⟩; rw [e9]; clear e9) | (go_at_call 9; refine (HL.out _ HB6.out).mono ?_; rintro e w10 ⟨rfl, hb10⟩) | fail)
          go_ret
          exact ⟨rfl, hb10⟩
        · have HW := hidden (HM3.out.move_read n a b (by omega) (by omega) hn0 (by omega))
          clear hd hc
          refine HW.out.mono ?_
          rintro e w4 ⟨rfl, e4⟩
          rw [e4]; clear e4 w4 HW
          go_wp2_with fail
          refine HBY2.out.mono ?_
          rintro e w5 ⟨g2, c2, rfl, ho2, M5, k5, hb5⟩
          have HB5 := hidden (HB3.out.trans (k5.below.mono hBw))
          have HSA := hidden (same_eq (some ⟨g1, 0, none⟩) (some ⟨g2, 0, none⟩) L c1 L c2 s.bytes w5 HOKS.out (own_reads (own_later HO1.out hb5)) (own_reads ho2))
          have HM5 := hidden M5
          have HO2 := hidden ho2
          clear ho2 M5 k5 hb5 HBY2
          have HF := hidden (HF0.out w5 _ HM5.out)
          have HBY3 := hidden HM5.out.bytes
          rw [HLL.out] at HBY3
          go_wp2_with (first | (go_at_call 13; refine (num9 _ _).mono ?_; rintro e w9 ⟨rfl, e9⟩; rw [e9]; clear e9) | (go_at_call 14; (with_reducible refine HSA.out.mono ?_); rintro e w9 ⟨rfl, e9⟩; rw [e9]; clear e9) | (go_at_call 23; refine HF.out.mono ?_; rintro e w9 ⟨rfl, e9⟩; rw [e9]; clear e9) | fail)
          refine HBY3.out.mono ?_
          rintro e w6 ⟨g3, c3, rfl, ho3, M6, k6, hb6⟩
          have HB6 := hidden (HB5.out.trans (k6.below.mono hBw))
          have HSE := hidden (same_eq (some ⟨g3, 0, none⟩) (some ⟨g2, 0, none⟩) L c3 L c2 s.bytes w6 HOKS.out (own_reads ho3) (own_reads (own_later HO2.out hb6)))
          clear ho3 M6 k6 hb6 HBY3 HM5 HO2 HO1 HM3
          go_wp2_with (first | (go_at_call 13; refine (num9 _ _).mono ?_; rintro e w9 ⟨rfl, e9⟩; rw [e9]; clear e9) | (go_at_call 14; (with_reducible refine HSE.out.mono ?_); rintro e w9 ⟨rfl, e9⟩; rw [e9]; clear e9) | (go_at_call 9; refine (HL.out _ HB6.out).mono ?_; rintro e w10 ⟨rfl, hb10⟩) | fail)
          go_ret
          exact ⟨rfl, hb10⟩
      | true =>
        obtain ⟨hd1, hd2⟩ := chg_true hd
        rw [hram] at hd1
        rw [HLL.out] at hd2
        have hzsl := HLL.out
        by_cases hc : a + n ≤ s.bytes.length
        · have HW := hidden (HM3.out.move_ok n a b (by omega) (by omega) (by omega) hn0 hc hd)
          rw [HLL.out] at hc
          have HF0 := hidden (fun w5 ks (M5 : Mem B w5 m { s with bytes := splice s.bytes b (seg s.bytes a n) } ks) => M5.fill_ok b n (by omega) (by omega) hn0 (by show chgR s.ram (splice s.bytes b (seg s.bytes a n)).length b n = true; rw [splice_len _ _ _ (by rw [seg_len _ _ _ (by rw [HLL.out]; exact hc), HLL.out]; exact hd2)]; exact hd))
          have hsgl : (seg s.bytes a n).length = n := seg_len _ _ _ (by rw [HLL.out]; exact hc)
          have hzsl2 : (splice s.bytes b (seg s.bytes a n)).length = L := by rw [splice_len _ _ _ (by rw [hsgl, HLL.out]; exact hd2), HLL.out]
          have htk := splice_take s.bytes (seg s.bytes a n) b (by omega)
          have hdr := splice_drop s.bytes (seg s.bytes a n) b (by omega)
          have hmd : seg (splice s.bytes b (seg s.bytes a n)) b n = seg s.bytes a n := by
            have := seg_splice s.bytes (seg s.bytes a n) b (by rw [hsgl]; omega)
            rwa [hsgl] at this
          rw [hsgl] at hdr
          refine HW.out.mono ?_
          rintro e w4 ⟨rfl, M4, k4⟩
          have HB4 := hidden (HB3.out.trans (k4.below.mono hBw))
          have HO4 := hidden (k4.own HO1.out (fun g e => by simp only [Value.ownBlock, Option.some.injEq] at e; subst e; exact List.mem_cons_self))
          have HBY2 := hidden M4.bytes
          simp only [hzsl2] at HBY2
          have HOKZ := hidden M4.ok.okb
          generalize hZS : splice s.bytes b (seg s.bytes a n) = zs at *
          have HZS := hidden hZS
          clear M4 k4 HW HB3 HM3 HO1 hd hZS
          go_wp2_with fail
          refine HBY2.out.mono ?_
          rintro e w5 ⟨g2, c2, rfl, ho2, M5, k5, hb5⟩
          have HB5 := hidden (HB4.out.trans (k5.below.mono hBw))
          have hbd5 : Below w5.heap.size w5 w5.drew := ⟨rfl, rfl, rfl, Nat.le_refl _, fun _ _ => rfl⟩
          have HBD5 := hidden hbd5
          have HF := hidden (HF0.out w5.drew _ (M5.later hbd5))
          have HB5d := hidden (HB5.out.trans (hbd5.mono HB5.out.size))
          have ho1' := own_later HO4.out hb5
          obtain ⟨_, _, _, hk1, _, _, _, _⟩ := own8_cur ho1'
          obtain ⟨_, _, _, hk2, _, _, _, _⟩ := own8_cur ho2
          have HR1 := hidden ho1'
          have HO2 := hidden ho2
          have HO2d := hidden (own_later ho2 hbd5)
          clear ho2 M5 k5 hb5 HBY2 ho1' HO4 HF0 HB4 hbd5
          have hwa : IntKind.i64.wrap (a : Int) = a := by rw [IntKind.wrap_i64]; omega
          have hwb : IntKind.i64.wrap (b : Int) = b := by rw [IntKind.wrap_i64]; omega
          have hwn : IntKind.i64.wrap (n : Int) = n := by rw [IntKind.wrap_i64]; omega
          have hA : IntKind.i64.wrap ((b : Int) + (n : Int)) = ((b + n : Nat) : Int) := by rw [IntKind.wrap_i64]; omega
          have hC : IntKind.i64.wrap ((a : Int) + (n : Int)) = ((a + n : Nat) : Int) := by rw [IntKind.wrap_i64]; omega
          have hI2 := (own_bs HO2.out).sub b n (c2 - b) (by omega) (by omega)
          have hI1 := (own_bs HR1.out).sub a n (c1 - a) (by omega) (by omega)
          rw [Nat.zero_add] at hI2 hI1
          rw [hmd] at hI2
          have hH2 := head_reads HO2.out b (by omega)
          have hH1 := head_reads HR1.out b (by omega)
          rw [htk] at hH2
          have HS1 := hidden (fun w1 (hb : Below w5.heap.size w5 w1) => same_eq (some ⟨g2, b, none⟩) (some ⟨g1, a, none⟩) n (c2 - b) n (c1 - a) (seg s.bytes a n) w1 (seg_okb' HOKS.out a n) (hI2.later hb) (hI1.later hb))
          have HS2 := hidden (fun w1 (hb : Below w5.heap.size w5 w1) => same_eq (some ⟨g2, 0, none⟩) (some ⟨g1, 0, none⟩) b c2 b c1 (s.bytes.take b) w1 (fun c hc => HOKS.out c (List.mem_of_mem_take hc)) (hH2.later hb) (hH1.later hb))
          clear hI2 hI1 hH2 hH1 hmd htk
          generalize hAA : b + n = A at *
          generalize hCC : a + n = C at *
          have HAB := hidden hAA
          have HCB := hidden hCC
          have e1 : A ≤ c2 := by omega
          have e2 : A ≤ c1 := by omega
          have e3 : A ≤ L := by omega
          have e4 : (A : Int) ≤ (L : Int) := by omega
          have e5 : b ≤ c1 := by omega
          have e6 : b ≤ c2 := by omega
          have e7 : (b : Int) ≤ (L : Int) := by omega
          have e8 : ¬ c2 = b := by omega
          have e9 : b ≤ A := by omega
          have e10 : (b : Int) ≤ (A : Int) := by omega
          have e11 : A - b = n := by omega
          have e12 : C - a = n := by omega
          have e13 : ¬ c1 = a := by omega
          have e14 : a ≤ C := by omega
          have e15 : (a : Int) ≤ (C : Int) := by omega
          have e16 : C ≤ c1 := by omega
          have e17 : ¬ (C : Int) > (L : Int) := by omega
          have e18 : ¬ (L : Int) < (C : Int) := by omega
          have e19 : ¬ (A : Int) > (L : Int) := by omega
          have e20 : ¬ (L : Int) < (A : Int) := by omega
          have e21 : ¬ (b : Int) < 256 := by omega
          have nn1 : ¬ L < C := by omega
          have nn2 : ¬ L < A := by omega
          have nn3 : ¬ b < 256 := by omega
          have nn4 : decide (L < C) = false := decide_eq_false nn1
          have nn5 : decide (L < A) = false := decide_eq_false nn2
          have nn6 : decide (b < 256) = false := decide_eq_false nn3
          have gg1 : decide ((C : Int) > (L : Int)) = false := decide_eq_false e17
          have gg2 : decide ((L : Int) < (C : Int)) = false := decide_eq_false e18
          have gg3 : decide ((b : Int) < 256) = false := decide_eq_false e21
          have gg4 : decide ((A : Int) > (L : Int)) = false := decide_eq_false e19
          have gg5 : decide ((L : Int) < (A : Int)) = false := decide_eq_false e20
          clear hAA hCC
          obtain ⟨P1, hP1, hD1⟩ := tail_p HR1.out A e3
          obtain ⟨Q2, hQ2, hD2⟩ := tail_p HO2.out A e3
          rw [hdr] at hD2
          have HS3 := hidden (fun w1 (hb : Below w5.heap.size w5 w1) => same_eq (some ⟨g2, Q2, none⟩) (some ⟨g1, P1, none⟩) (L - A) (c2 - A) (L - A) (c1 - A) (s.bytes.drop A) w1 (fun c hc => HOKS.out c (List.mem_of_mem_drop hc)) (hD2.later hb) (hD1.later hb))
          clear hD1 hD2 hdr HR1
          go_wp2_with (first | (go_at_call 13; refine (num9 _ _).mono ?_; rintro e w9 ⟨rfl, e9⟩; rw [e9]; clear e9) | fail)
          simp only [List.append]
          go_region_held3 (fun w' => True) (first | trivial) (first | (go_at_call 14; (with_reducible refine (HS1.out _ HBD5.out).mono ?_); rintro e w9 ⟨rfl, e9⟩; rw [e9]; clear e9) | (go_at_call 14; (with_reducible refine (HS2.out _ HBD5.out).mono ?_); rintro e w9 ⟨rfl, e9⟩; rw [e9]; clear e9) | (go_at_call 14; (with_reducible refine (HS3.out _ HBD5.out).mono ?_); rintro e w9 ⟨rfl, e9⟩; rw [e9]; clear e9) | fail)
          clear HS1 HS2 HS3
          all_goals (try go_wp2_with fail)
          clear hP1 hQ2
          have hab := HAB.out
          have hd2' : b + n ≤ L := by omega
          have hzsl : zs.length = L := hzsl2
          refine HF.out.mono ?_
          rintro e w6 ⟨rfl, M6, k6⟩
          have HB6 := hidden (HB5d.out.trans (k6.below.mono hBw))
          have HO6 := hidden (k6.own HO2d.out (fun g e => by simp only [Value.ownBlock, Option.some.injEq] at e; subst e; exact List.mem_cons_self))
          have hze : (splice zs b (zer8 n)).length = L := by rw [splice_len _ _ _ (by rw [zer8_len]; omega)]; exact hzsl
          have HBY3 := hidden M6.bytes
          simp only [hze] at HBY3
          have htk3 := splice_take zs (zer8 n) b (by omega)
          have hdr3 := splice_drop zs (zer8 n) b (by omega)
          have hmd3 : seg (splice zs b (zer8 n)) b n = zer8 n := by
            have := seg_splice zs (zer8 n) b (by rw [zer8_len]; omega)
            rwa [zer8_len] at this
          rw [zer8_len] at hdr3
          generalize hES : splice zs b (zer8 n) = es at *
          clear M6 k6 HF hES
          go_wp2_with fail
          refine HBY3.out.mono ?_
          rintro e w7 ⟨g3, c3, rfl, ho3, M7, k7, hb7⟩
          have HB7 := hidden (HB6.out.trans (k7.below.mono hBw))
          have ho2' := own_later HO6.out hb7
          obtain ⟨_, _, _, hk2, _, _, _, _⟩ := own8_cur ho2'
          obtain ⟨_, _, _, hk3, _, _, _, _⟩ := own8_cur ho3
          have HR2 := hidden ho2'
          have HR3 := hidden ho3
          clear ho2' ho3 M7 k7 hb7 HBY3 HO6
          have hmk := mk8 .i64 n (by omega)
          have hba : Below w7.heap.size w7 ((w7.alloc (.cells (bytesV (zer8 n)).toArray 5)).drew) := ⟨rfl, rfl, rfl, by simp, fun k hk => Go.heap_alloc_old _ _ hk⟩
          have HBD := hidden hba
          have hmr : Reads ((w7.alloc (.cells (bytesV (zer8 n)).toArray 5)).drew) (some ⟨w7.heap.size, 0, none⟩) n n (zer8 n) := own_reads (B := w7.heap.size) (own8_of (Nat.le_refl _) (heap_alloc_new w7 _) (Nat.le_refl _) (by unfold maxLen; omega) (by simp [bytesV, zer8]) (List.take_of_length_le (by simp [bytesV, zer8])) (zer8_len _))
          have hm3 := (own_bs HR3.out).sub b n (c3 - b) (by omega) (by omega)
          rw [Nat.zero_add, hmd3] at hm3
          have hH3 := head_reads HR3.out b (by omega)
          have hH2 := head_reads HR2.out b (by omega)
          rw [htk3] at hH3
          have HSB := hidden (fun w1 (hb : Below w7.heap.size w7 w1) => same_eq (some ⟨g3, 0, none⟩) (some ⟨g2, 0, none⟩) b c3 b c2 (zs.take b) w1 (fun c hc => HOKZ.out c (List.mem_of_mem_take hc)) (hH3.later hb) (hH2.later hb))
          have HSM := hidden (same_eq (some ⟨g3, b, none⟩) (some ⟨w7.heap.size, 0, none⟩) n (c3 - b) n n (zer8 n) _ (zer8_okb _) (hm3.later hba) hmr)
          clear hba hmr hm3 hH3 hH2 hmd3 htk3
          rw [hab] at hdr3
          have f2 : A ≤ c3 := by omega
          have f5 : b ≤ c3 := by omega
          have f8 : ¬ c3 = b := by omega
          clear hab hd2'
          obtain ⟨P3, hP3, hd3⟩ := tail_p HR3.out A e3
          obtain ⟨P2, hP2, hdd2⟩ := tail_p HR2.out A e3
          rw [hdr3] at hd3
          have HSD := hidden (fun w1 (hb : Below w7.heap.size w7 w1) => same_eq (some ⟨g3, P3, none⟩) (some ⟨g2, P2, none⟩) (L - A) (c3 - A) (L - A) (c2 - A) (zs.drop A) w1 (fun c hc => HOKZ.out c (List.mem_of_mem_drop hc)) (hd3.later hb) (hdd2.later hb))
          clear hd3 hdd2 hdr3 HR2 HR3
          go_wp2_with (first | (go_at_call 13; refine (num9 _ _).mono ?_; rintro e w9 ⟨rfl, e9⟩; rw [e9]; clear e9) | fail)
          go_region_held3 (fun w' => True) (first | trivial) (first | (go_at_call 14; (with_reducible refine HSM.out.mono ?_); rintro e w9 ⟨rfl, e9⟩; rw [e9]; clear e9) | (go_at_call 14; (with_reducible refine (HSB.out _ HBD.out).mono ?_); rintro e w9 ⟨rfl, e9⟩; rw [e9]; clear e9) | (go_at_call 14; (with_reducible refine (HSD.out _ HBD.out).mono ?_); rintro e w9 ⟨rfl, e9⟩; rw [e9]; clear e9) | (go_at_call 9; refine (HL.out _ (HB7.out.trans (HBD.out.mono HB7.out.size))).mono ?_; rintro e w10 ⟨rfl, hb10⟩) | fail)
          all_goals (try go_wp2)
          all_goals go_ret
          all_goals (exact ⟨rfl, hb10⟩)
        · have HW := hidden (HM3.out.move_read n a b (by omega) (by omega) hn0 (by omega))
          have HBY2 := hidden HM3.out.bytes
          rw [HLL.out] at HBY2
          have HF0 := hidden (fun w5 ks (M5 : Mem B w5 m s ks) => M5.fill_ok b n (by omega) (by omega) hn0 hd)
          clear hd hc
          refine HW.out.mono ?_
          rintro e w4 ⟨rfl, e4⟩
          rw [e4]; clear e4 w4 HW
          go_wp2_with fail
          refine HBY2.out.mono ?_
          rintro e w5 ⟨g2, c2, rfl, ho2, M5, k5, hb5⟩
          have HB5 := hidden (HB3.out.trans (k5.below.mono hBw))
          have HSA := hidden (same_eq (some ⟨g1, 0, none⟩) (some ⟨g2, 0, none⟩) L c1 L c2 s.bytes w5 HOKS.out (own_reads (own_later HO1.out hb5)) (own_reads ho2))
          have HM5 := hidden M5
          have HO2 := hidden ho2
          clear ho2 M5 k5 hb5 HBY2
          have HF := hidden (HF0.out w5 _ HM5.out)
          clear HF0
          go_wp2_with (first | (go_at_call 13; refine (num9 _ _).mono ?_; rintro e w9 ⟨rfl, e9⟩; rw [e9]; clear e9) | (go_at_call 14; (with_reducible refine HSA.out.mono ?_); rintro e w9 ⟨rfl, e9⟩; rw [e9]; clear e9) | fail)
          refine HF.out.mono ?_
          rintro e w6 ⟨rfl, M6, k6⟩
          have HB6 := hidden (HB5.out.trans (k6.below.mono hBw))
          have HO6 := hidden (k6.own HO2.out (fun g e => by simp only [Value.ownBlock, Option.some.injEq] at e; subst e; exact List.mem_cons_self))
          have hze : (splice s.bytes b (zer8 n)).length = L := by rw [splice_len _ _ _ (by rw [zer8_len]; omega)]; exact hzsl
          have HBY3 := hidden M6.bytes
          simp only [hze] at HBY3
          have htk3 := splice_take s.bytes (zer8 n) b (by omega)
          have hdr3 := splice_drop s.bytes (zer8 n) b (by omega)
          have hmd3 : seg (splice s.bytes b (zer8 n)) b n = zer8 n := by
            have := seg_splice s.bytes (zer8 n) b (by rw [zer8_len]; omega)
            rwa [zer8_len] at this
          rw [zer8_len] at hdr3
          generalize hES : splice s.bytes b (zer8 n) = es at *
          clear M6 k6 HF hES
          go_wp2_with fail
          refine HBY3.out.mono ?_
          rintro e w7 ⟨g3, c3, rfl, ho3, M7, k7, hb7⟩
          have HB7 := hidden (HB6.out.trans (k7.below.mono hBw))
          have ho2' := own_later HO6.out hb7
          obtain ⟨_, _, _, hk2, _, _, _, _⟩ := own8_cur ho2'
          obtain ⟨_, _, _, hk3, _, _, _, _⟩ := own8_cur ho3
          have HR2 := hidden ho2'
          have HR3 := hidden ho3
          clear ho2' ho3 M7 k7 hb7 HBY3 HO6
          have hwn : IntKind.i64.wrap (n : Int) = n := by rw [IntKind.wrap_i64]; omega
          have hwb : IntKind.i64.wrap (b : Int) = b := by rw [IntKind.wrap_i64]; omega
          have hmk := mk8 .i64 n (by omega)
          have hA : IntKind.i64.wrap ((b : Int) + (n : Int)) = ((b + n : Nat) : Int) := by rw [IntKind.wrap_i64]; omega
          have hba : Below w7.heap.size w7 ((w7.alloc (.cells (bytesV (zer8 n)).toArray 5)).drew) := ⟨rfl, rfl, rfl, by simp, fun k hk => Go.heap_alloc_old _ _ hk⟩
          have HBD := hidden hba
          have hmr : Reads ((w7.alloc (.cells (bytesV (zer8 n)).toArray 5)).drew) (some ⟨w7.heap.size, 0, none⟩) n n (zer8 n) := own_reads (B := w7.heap.size) (own8_of (Nat.le_refl _) (heap_alloc_new w7 _) (Nat.le_refl _) (by unfold maxLen; omega) (by simp [bytesV, zer8]) (List.take_of_length_le (by simp [bytesV, zer8])) (zer8_len _))
          have hm3 := (own_bs HR3.out).sub b n (c3 - b) (by omega) (by omega)
          rw [Nat.zero_add, hmd3] at hm3
          have hH3 := head_reads HR3.out b (by omega)
          have hH2 := head_reads HR2.out b (by omega)
          rw [htk3] at hH3
          have HSB := hidden (fun w1 (hb : Below w7.heap.size w7 w1) => same_eq (some ⟨g3, 0, none⟩) (some ⟨g2, 0, none⟩) b c3 b c2 (s.bytes.take b) w1 (fun c hc => HOKS.out c (List.mem_of_mem_take hc)) (hH3.later hb) (hH2.later hb))
          have HSM := hidden (same_eq (some ⟨g3, b, none⟩) (some ⟨w7.heap.size, 0, none⟩) n (c3 - b) n n (zer8 n) _ (zer8_okb _) (hm3.later hba) hmr)
          clear hba hmr hm3 hH3 hH2 hmd3 htk3
          generalize hAA : b + n = A at *
          have e1 : A ≤ c2 := by omega
          have e2 : A ≤ c3 := by omega
          have e3 : A ≤ L := by omega
          have e4 : (A : Int) ≤ (L : Int) := by omega
          have e5 : b ≤ c3 := by omega
          have e6 : b ≤ c2 := by omega
          have e7 : (b : Int) ≤ (L : Int) := by omega
          have e8 : ¬ c3 = b := by omega
          have e9 : b ≤ A := by omega
          have e10 : (b : Int) ≤ (A : Int) := by omega
          have e11 : A - b = n := by omega
          have HAB := hidden hAA
          clear hAA
          obtain ⟨P3, hP3, hd3⟩ := tail_p HR3.out A e3
          obtain ⟨P2, hP2, hd2⟩ := tail_p HR2.out A e3
          rw [hdr3] at hd3
          have HSD := hidden (fun w1 (hb : Below w7.heap.size w7 w1) => same_eq (some ⟨g3, P3, none⟩) (some ⟨g2, P2, none⟩) (L - A) (c3 - A) (L - A) (c2 - A) (s.bytes.drop A) w1 (fun c hc => HOKS.out c (List.mem_of_mem_drop hc)) (hd3.later hb) (hd2.later hb))
          clear hd3 hd2 hdr3 HR2 HR3
          go_wp2_with (first | (go_at_call 13; refine (num9 _ _).mono ?_; rintro e w9 ⟨rfl, e9⟩; rw [e9]; clear e9) | fail)
          go_region_held3 (fun w' => True) (first | trivial) (first | (go_at_call 14; (with_reducible refine HSM.out.mono ?_); rintro e w9 ⟨rfl, e9⟩; rw [e9]; clear e9) | (go_at_call 14; (with_reducible refine (HSB.out _ HBD.out).mono ?_); rintro e w9 ⟨rfl, e9⟩; rw [e9]; clear e9) | (go_at_call 14; (with_reducible refine (HSD.out _ HBD.out).mono ?_); rintro e w9 ⟨rfl, e9⟩; rw [e9]; clear e9) | (go_at_call 9; refine (HL.out _ (HB7.out.trans (HBD.out.mono HB7.out.size))).mono ?_; rintro e w10 ⟨rfl, hb10⟩) | fail)
          all_goals (try go_wp2)
          all_goals go_ret
          all_goals (exact ⟨rfl, hb10⟩)
end Go.Proofs.Ytmebjbnglndfcaa
