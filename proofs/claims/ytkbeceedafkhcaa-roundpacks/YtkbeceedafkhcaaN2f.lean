/- Contract of the document's Minus (package grottoref02): the difference of a number and one that is not above it. -/
import Derived.Test.YtkbeceedafkhcaaN2e
namespace Go.Proofs.Ytkbeceedafkhcaa
open Go.RowKit
set_option maxHeartbeats 1000000

theorem minus_step (P a b os x y c t u c' : Int) (h : os - P * c = a - b) (ht : t = x - c - y) (hu : u = t + 65536 * c') : os + P * u - P * 65536 * c' = a + P * x - (b + P * y) := by
  have e : os + P * u - P * 65536 * c' = os + P * (u - 65536 * c') := by rw [Int.mul_sub, Int.mul_assoc]; omega
  rw [e, hu, show t + 65536 * c' - 65536 * c' = t by omega, ht, Int.mul_sub, Int.mul_sub]
  omega
/-- what the loop of Minus holds ahead of round k -/
def MinusAt (A B : List Int) (k : Nat) (os : List Int) (c : Int) : Prop :=
  OkD os ∧ os.length = k ∧ 0 ≤ c ∧ c ≤ 1 ∧ nv os - 65536 ^ k * c = nv (A.take k) - nv (B.take k)
theorem MinusAt.step {A B : List Int} {k : Nat} {os : List Int} {c t u c' : Int} (h : MinusAt A B k os c) (ht : t = A.getD k 0 - c - B.getD k 0) (hu : u = t + 65536 * c') (u0 : 0 ≤ u) (u1 : u ≤ 65535) (c0 : 0 ≤ c') (c1 : c' ≤ 1) :
    MinusAt A B (k + 1) (os ++ [u]) c' := by
  obtain ⟨h1, h2, h3, h4, h5⟩ := h
  refine ⟨?_, by simp [h2], c0, c1, ?_⟩
  · intro d hd
    rcases List.mem_append.1 hd with h | h
    · exact h1 d h
    · simp at h; omega
  · rw [nv_take_step, nv_take_step, nv_append, h2, Int.pow_succ]
    simp only [nv, Int.mul_zero, Int.add_zero]
    exact minus_step _ _ _ _ _ _ _ _ _ _ h5 ht hu
theorem minus_any (a1 a2 : Option Addr) (l1 c1 l2 c2 : Nat) (d1 d2 : List Int) (w : World) (r1 : RdD w a1 l1 c1 d1) (r2 : RdD w a2 l2 c2 d2) (k1 : OkD d1) (k2 : OkD d2) (hl1 : (l1 : Int) ≤ 50000) (hl2 : l2 ≤ l1) (hle : nv d2 ≤ nv d1) :
    Calls Try.prog 50 #[.slice a1 l1 c1, .slice a2 l2 c2] w fun r w' => NatRet w (nv d1 - nv d2) l1 r w' := by
  obtain ⟨i0, hi, hz0, hz1, hz2⟩ := info_parts infoI
  have R1 := hidden r1
  have R2 := hidden r2
  have K1 := hidden k1
  have K2 := hidden k2
  have e1 := hidden r1.1
  have e2 := hidden r2.1
  have HLE := hidden hle
  clear r1 r2 k1 k2 hle
  go_enter Try.func50, Try.ntmps50
  go_wp2
  go_loopw [5, 6, 7, 8] (fun v cc i t wr => ∃ (k : Nat) (os : List Int) (c : Int), k ≤ l1 ∧ i = .int .i64 k ∧ cc = .int .i64 c ∧ MinusAt d1 d2 k os c ∧ wr.ownsRow w.heap.size 3 1 v k (digV os) ∧ Below w.heap.size w wr) (fun _ _ i _ _ => l1 - (intOf i).toNat)
  case atStart => exact ⟨0, [], 0, by omega, rfl, rfl, ⟨(fun d hd => by cases hd), rfl, by omega, by omega, by simp [nv]⟩, World.ownsRow_nil _ _ _ _, Below.refl _ _⟩
  case round =>
    obtain ⟨k, os, c, hk, rfl, rfl, hp, hown, hbl⟩ := hrel
    have HP := hidden hp
    have HO := hidden hown
    have hc0 := hp.2.2.1
    have hc1 := hp.2.2.2.1
    clear hown hp
    have hs := hbl.size
    have x1 := K1.out.at k
    have x2 := K2.out.at k
    have hkb : (k : Int) ≤ 50000 := by omega
    by_cases g1 : k < l1
    · have HL := hidden HO.out.lt
      have HST := hidden (fun t u c' h1 h2 h3 h4 h5 h6 => HP.out.step (t := t) (u := u) (c' := c') h1 h2 h3 h4 h5 h6)
      have z2 : Hid (¬ k < l2 → d2.getD k 0 = 0) := hidden fun h => by rw [List.getD_eq_getElem?_getD, List.getElem?_eq_none (by have := e2.out; omega)]; rfl
      rcases R1.out.2.2 with ⟨_, h, _⟩ | ⟨b1, o1, rfl, hcc1⟩
      · omega
      have q1 := cellLater hbl (hcc1 k g1)
      have i1 : (k : Int) < (l1 : Int) := by omega
      by_cases g2 : k < l2
      · rcases R2.out.2.2 with ⟨_, h, _⟩ | ⟨b2, o2, rfl, hcc2⟩
        · omega
        have q2 := cellLater hbl (hcc2 k g2)
        have i2 : (k : Int) < (l2 : Int) := by omega
        clear hcc1 hcc2 z2
        generalize d1.getD k 0 = X at *
        generalize d2.getD k 0 = Y at *
        by_cases hneg : X - c - Y < 0
        · have hneg1 : -65536 ≤ X - c - Y := by omega
          have HO1 := hidden (HO.out.alloc (.cells #[.int .i64 (X - c - Y + 65536)] 3))
          have HN1 := hidden (newD_cell wr [X - c - Y + 65536] (by unfold maxLen; simp))
          have hb1 : Below w.heap.size w (wr.alloc (.cells #[.int .i64 (X - c - Y + 65536)] 3)) := hbl.alloc hs _
          have HT := hidden (HST.out (X - c - Y) (X - c - Y + 65536) 1 (rfl) (by omega) (by omega) (by omega) (by omega) (by omega))
          clear HST HP
          go_wp2_with (at_builtin; refine wpList_append_own _ rfl (.tmp 35) (.tmp 37) 60 rfl w.heap.size 3 i0 (.int .i64 0) 1 8 Try.underlying60 hi hz0 hz1 hz2 rfl (by decide) _ _ _ rfl HO1.out ⟨wr.heap.size, 0, none⟩ 1 1 (digV [X - c - Y + 65536]) rfl rfl HN1.out (digV_one _) (by unfold maxLen; omega) (by omega) (by simp; omega) ?_; intro v2 w2 hown2 hgrow2 hiff2; clear hiff2; refine Hid.out ?_)
          have hb2 : Below w.heap.size w w2 := hb1.grown hgrow2 (by simp; omega) (by intro k hk; exact (HL.out k hk).1)
          rw [digV_append] at hown2
          have HO3 := hidden hown2
          clear hown2 hgrow2 HO HO1 HN1 HL hb1
          refine hidden ?_
          go_wp2
          go_roundw
          case rel => exact ⟨k + 1, os ++ [X - c - Y + 65536], 1, by omega, by go_num, rfl, HT.out, HO3.out, hb2⟩
          case measure => simp [intOf]; omega
        · have hneg1 : 0 ≤ X - c - Y := by omega
          have hneg2 : X - c - Y ≤ 65535 := by omega
          have HO1 := hidden (HO.out.alloc (.cells #[.int .i64 (X - c - Y)] 3))
          have HN1 := hidden (newD_cell wr [X - c - Y] (by unfold maxLen; simp))
          have hb1 : Below w.heap.size w (wr.alloc (.cells #[.int .i64 (X - c - Y)] 3)) := hbl.alloc hs _
          have HT := hidden (HST.out (X - c - Y) (X - c - Y) 0 (rfl) (by omega) (by omega) (by omega) (by omega) (by omega))
          clear HST HP
          go_wp2_with (at_builtin; refine wpList_append_own _ rfl (.tmp 35) (.tmp 37) 60 rfl w.heap.size 3 i0 (.int .i64 0) 1 8 Try.underlying60 hi hz0 hz1 hz2 rfl (by decide) _ _ _ rfl HO1.out ⟨wr.heap.size, 0, none⟩ 1 1 (digV [X - c - Y]) rfl rfl HN1.out (digV_one _) (by unfold maxLen; omega) (by omega) (by simp; omega) ?_; intro v2 w2 hown2 hgrow2 hiff2; clear hiff2; refine Hid.out ?_)
          have hb2 : Below w.heap.size w w2 := hb1.grown hgrow2 (by simp; omega) (by intro k hk; exact (HL.out k hk).1)
          rw [digV_append] at hown2
          have HO3 := hidden hown2
          clear hown2 hgrow2 HO HO1 HN1 HL hb1
          refine hidden ?_
          go_wp2
          go_roundw
          case rel => exact ⟨k + 1, os ++ [X - c - Y], 0, by omega, by go_num, rfl, HT.out, HO3.out, hb2⟩
          case measure => simp [intOf]; omega
      · have i2 : ¬ (k : Int) < (l2 : Int) := by omega
        have hY := hidden (z2.out g2)
        clear hcc1 z2
        generalize d1.getD k 0 = X at *
        generalize d2.getD k 0 = Y at *
        by_cases hneg : X - c < 0
        · have hneg1 : -65536 ≤ X - c := by omega
          have HO1 := hidden (HO.out.alloc (.cells #[.int .i64 (X - c + 65536)] 3))
          have HN1 := hidden (newD_cell wr [X - c + 65536] (by unfold maxLen; simp))
          have hb1 : Below w.heap.size w (wr.alloc (.cells #[.int .i64 (X - c + 65536)] 3)) := hbl.alloc hs _
          have HT := hidden (HST.out (X - c) (X - c + 65536) 1 (by rw [hY.out]; omega) (by omega) (by omega) (by omega) (by omega) (by omega))
          clear HST HP
          go_wp2_with (at_builtin; refine wpList_append_own _ rfl (.tmp 35) (.tmp 37) 60 rfl w.heap.size 3 i0 (.int .i64 0) 1 8 Try.underlying60 hi hz0 hz1 hz2 rfl (by decide) _ _ _ rfl HO1.out ⟨wr.heap.size, 0, none⟩ 1 1 (digV [X - c + 65536]) rfl rfl HN1.out (digV_one _) (by unfold maxLen; omega) (by omega) (by simp; omega) ?_; intro v2 w2 hown2 hgrow2 hiff2; clear hiff2; refine Hid.out ?_)
          have hb2 : Below w.heap.size w w2 := hb1.grown hgrow2 (by simp; omega) (by intro k hk; exact (HL.out k hk).1)
          rw [digV_append] at hown2
          have HO3 := hidden hown2
          clear hown2 hgrow2 HO HO1 HN1 HL hb1
          refine hidden ?_
          go_wp2
          go_roundw
          case rel => exact ⟨k + 1, os ++ [X - c + 65536], 1, by omega, by go_num, rfl, HT.out, HO3.out, hb2⟩
          case measure => simp [intOf]; omega
        · have hneg1 : 0 ≤ X - c := by omega
          have hneg2 : X - c ≤ 65535 := by omega
          have HO1 := hidden (HO.out.alloc (.cells #[.int .i64 (X - c)] 3))
          have HN1 := hidden (newD_cell wr [X - c] (by unfold maxLen; simp))
          have hb1 : Below w.heap.size w (wr.alloc (.cells #[.int .i64 (X - c)] 3)) := hbl.alloc hs _
          have HT := hidden (HST.out (X - c) (X - c) 0 (by rw [hY.out]; omega) (by omega) (by omega) (by omega) (by omega) (by omega))
          clear HST HP
          go_wp2_with (at_builtin; refine wpList_append_own _ rfl (.tmp 35) (.tmp 37) 60 rfl w.heap.size 3 i0 (.int .i64 0) 1 8 Try.underlying60 hi hz0 hz1 hz2 rfl (by decide) _ _ _ rfl HO1.out ⟨wr.heap.size, 0, none⟩ 1 1 (digV [X - c]) rfl rfl HN1.out (digV_one _) (by unfold maxLen; omega) (by omega) (by simp; omega) ?_; intro v2 w2 hown2 hgrow2 hiff2; clear hiff2; refine Hid.out ?_)
          have hb2 : Below w.heap.size w w2 := hb1.grown hgrow2 (by simp; omega) (by intro k hk; exact (HL.out k hk).1)
          rw [digV_append] at hown2
          have HO3 := hidden hown2
          clear hown2 hgrow2 HO HO1 HN1 HL hb1
          refine hidden ?_
          go_wp2
          go_roundw
          case rel => exact ⟨k + 1, os ++ [X - c], 0, by omega, by go_num, rfl, HT.out, HO3.out, hb2⟩
          case measure => simp [intOf]; omega
    · obtain rfl : k = l1 := by omega
      have i1 : ¬ (k : Int) < (k : Int) := by omega
      have HF : Hid (OkD os ∧ nv os = nv d1 - nv d2 ∧ os.length = k) := hidden (by
        obtain ⟨h1, h2, h3, h4, h5⟩ := HP.out
        refine ⟨h1, ?_, h2⟩
        rw [List.take_of_length_le (by have := e1.out; omega), List.take_of_length_le (by have := e2.out; omega)] at h5
        have l1 := nv_lt os h1
        have l2 := nv_nonneg os h1
        rw [h2] at l1
        have l3 := HLE.out
        have hc : c = 0 ∨ c = 1 := by omega
        rcases hc with rfl | rfl
        · rw [Int.mul_zero] at h5; omega
        · rw [Int.mul_one] at h5; omega)
      obtain ⟨a, cp, rfl, hrd⟩ := rdD_owned HO.out
      have HR := hidden hrd
      clear HP R1 R2 K1 K2 x1 x2 e1 e2 HO hrd
      go_wp2_with fail
      refine (trim_any a k cp os _ HR.out (by omega)).mono ?_
      rintro r w3 ⟨n, rfl, ht, hw⟩
      subst hw
      have hn : n ≤ k := by have := ht.1; have := HF.out.2.2; omega
      have HA : Hid (RdD w3 a n cp (os.take n) ∧ OkD (os.take n) ∧ nv (os.take n) = nv d1 - nv d2 ∧ (n = 0 ∨ (os.take n).getD (n - 1) 0 ≠ 0)) := ⟨HR.out.take hn, HF.out.1.take n, ht.2.1.trans HF.out.2.1, trimmed_or ht⟩
      clear ht HF HR
      go_wp2
      go_ret
      exact ⟨a, n, cp, _, rfl, HA.out.1, HA.out.2.1, HA.out.2.2.1, hn, HA.out.2.2.2, hbl⟩
end Go.Proofs.Ytkbeceedafkhcaa
