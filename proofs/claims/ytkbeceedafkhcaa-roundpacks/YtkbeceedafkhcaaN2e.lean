/- Contract of the document's Plus (package grottoref02): the sum of two numbers. -/
import Derived.Test.YtkbeceedafkhcaaN2d
namespace Go.Proofs.Ytkbeceedafkhcaa
open Go.RowKit
set_option maxHeartbeats 1000000

theorem nv_take_step (ds : List Int) (k : Nat) : nv (ds.take (k + 1)) = nv (ds.take k) + 65536 ^ k * ds.getD k 0 := by
  by_cases h : k < ds.length
  · rw [take_snoc ds k h, nv_append, show (ds.take k).length = k by simp; omega]
    simp [nv]
  · rw [List.take_of_length_le (by omega), List.take_of_length_le (by omega), List.getD_eq_getElem?_getD, List.getElem?_eq_none (by omega)]
    simp
theorem plus_step (P a b os x y c t : Int) (h : os + P * c = a + b) (ht : t = c + x + y) : os + P * (t % 65536) + P * 65536 * (t / 65536) = a + P * x + (b + P * y) := by
  have e : t % 65536 + 65536 * (t / 65536) = t := by omega
  have e2 : os + P * (t % 65536) + P * 65536 * (t / 65536) = os + P * (t % 65536 + 65536 * (t / 65536)) := by rw [Int.mul_add, Int.mul_assoc]; omega
  rw [e2, e, ht, Int.mul_add, Int.mul_add]
  omega
/-- what the loop of Plus holds ahead of round k -/
def PlusAt (A B : List Int) (k : Nat) (os : List Int) (c : Int) : Prop :=
  OkD os ∧ os.length = k ∧ 0 ≤ c ∧ c ≤ 1 ∧ nv os + 65536 ^ k * c = nv (A.take k) + nv (B.take k)
theorem PlusAt.step {A B : List Int} {k : Nat} {os : List Int} {c t : Int} (h : PlusAt A B k os c) (ha : OkD A) (hb : OkD B) (ht : t = c + A.getD k 0 + B.getD k 0) :
    PlusAt A B (k + 1) (os ++ [t % 65536]) (t / 65536) := by
  obtain ⟨h1, h2, h3, h4, h5⟩ := h
  have a1 := ha.at k
  have b1 := hb.at k
  refine ⟨?_, by simp [h2], by omega, by omega, ?_⟩
  · intro d hd
    rcases List.mem_append.1 hd with h | h
    · exact h1 d h
    · simp at h; omega
  · rw [nv_take_step, nv_take_step, nv_append, h2, Int.pow_succ]
    simp only [nv, Int.mul_zero, Int.add_zero]
    exact plus_step _ _ _ _ _ _ _ _ h5 ht
theorem trimmed_or {ds : List Int} {n : Nat} (h : Trimmed ds n) : n = 0 ∨ (ds.take n).getD (n - 1) 0 ≠ 0 := by
  obtain ⟨h1, _, h3⟩ := trimmed_top ds n h
  rcases Nat.eq_zero_or_pos n with h | h
  · exact .inl h
  · have := h3 h
    rw [h1] at this
    exact .inr this
theorem plus_any (a1 a2 : Option Addr) (l1 c1 l2 c2 : Nat) (d1 d2 : List Int) (w : World) (r1 : RdD w a1 l1 c1 d1) (r2 : RdD w a2 l2 c2 d2) (k1 : OkD d1) (k2 : OkD d2) (hl1 : (l1 : Int) ≤ 50000) (hl2 : (l2 : Int) ≤ 50000) :
    Calls Try.prog 39 #[.slice a1 l1 c1, .slice a2 l2 c2] w fun r w' => NatRet w (nv d1 + nv d2) (max l1 l2 + 1) r w' := by
  obtain ⟨i0, hi, hz0, hz1, hz2⟩ := info_parts infoI
  have R1 := hidden r1
  have R2 := hidden r2
  have K1 := hidden k1
  have K2 := hidden k2
  have e1 := hidden r1.1
  have e2 := hidden r2.1
  have hM1 : l1 ≤ max l1 l2 := Nat.le_max_left _ _
  have hM2 : l2 ≤ max l1 l2 := Nat.le_max_right _ _
  have hM3 : max l1 l2 = l1 ∨ max l1 l2 = l2 := by omega
  generalize max l1 l2 = M at *
  clear r1 r2 k1 k2
  go_enter Try.func39, Try.ntmps39
  go_wp2
  go_loopw [5, 6, 7, 8] (fun v cc i t wr => ∃ (k : Nat) (os : List Int) (c : Int), k ≤ M ∧ i = .int .i64 k ∧ cc = .int .i64 c ∧ PlusAt d1 d2 k os c ∧ wr.ownsRow w.heap.size 3 1 v k (digV os) ∧ Below w.heap.size w wr) (fun _ _ i _ _ => M - (intOf i).toNat)
  case atStart => exact ⟨0, [], 0, by omega, rfl, rfl, ⟨(fun d hd => by cases hd), rfl, by omega, by omega, by simp [nv]⟩, World.ownsRow_nil _ _ _ _, Below.refl _ _⟩
  case round =>
    obtain ⟨k, os, c, hk, rfl, rfl, hp, hown, hbl⟩ := hrel
    have HP := hidden hp
    have HO := hidden hown
    have hc0 := hp.2.2.1
    have hc1 := hp.2.2.2.1
    clear hown hp
    have hs := hbl.size
    have x1 := K1.out.at k
    have x2 := K2.out.at k
    have hkb : (k : Int) ≤ 50000 := by omega
    by_cases hlt : k < M
    · have HL := hidden HO.out.lt
      have HST := hidden (fun t h => HP.out.step (t := t) K1.out K2.out h)
      have hcase : (k < l1 ∧ k < l2) ∨ (k < l1 ∧ ¬ k < l2) ∨ (¬ k < l1 ∧ k < l2) := by omega
      have z1 : Hid (¬ k < l1 → d1.getD k 0 = 0) := hidden fun h => by rw [List.getD_eq_getElem?_getD, List.getElem?_eq_none (by have := e1.out; omega)]; rfl
      have z2 : Hid (¬ k < l2 → d2.getD k 0 = 0) := hidden fun h => by rw [List.getD_eq_getElem?_getD, List.getElem?_eq_none (by have := e2.out; omega)]; rfl
      rcases hcase with ⟨g1, g2⟩ | ⟨g1, g2⟩ | ⟨g1, g2⟩
      · rcases R1.out.2.2 with ⟨_, h, _⟩ | ⟨b1, o1, rfl, hcc1⟩
        · omega
        rcases R2.out.2.2 with ⟨_, h, _⟩ | ⟨b2, o2, rfl, hcc2⟩
        · omega
        have q1 := cellLater hbl (hcc1 k g1)
        have q2 := cellLater hbl (hcc2 k g2)
        have i1 : (k : Int) < (l1 : Int) := by omega
        have i2 : (k : Int) < (l2 : Int) := by omega
        clear hcc1 hcc2 z1 z2
        generalize d1.getD k 0 = X at *
        generalize d2.getD k 0 = Y at *
        have HO1 := hidden (HO.out.alloc (.cells #[.int .i64 ((c + X + Y) % 65536)] 3))
        have HN1 := hidden (newD_cell wr [(c + X + Y) % 65536] (by unfold maxLen; simp))
        have hb1 : Below w.heap.size w (wr.alloc (.cells #[.int .i64 ((c + X + Y) % 65536)] 3)) := hbl.alloc hs _
        have HT := hidden (HST.out (c + X + Y) (rfl))
        clear HST HP
        go_wp2_with (at_builtin; refine wpList_append_own _ rfl (.tmp 42) (.tmp 45) 60 rfl w.heap.size 3 i0 (.int .i64 0) 1 8 Try.underlying60 hi hz0 hz1 hz2 rfl (by decide) _ _ _ rfl HO1.out ⟨wr.heap.size, 0, none⟩ 1 1 (digV [(c + X + Y) % 65536]) rfl rfl HN1.out (digV_one _) (by unfold maxLen; omega) (by omega) (by simp; omega) ?_; intro v2 w2 hown2 hgrow2 hiff2; clear hiff2; refine Hid.out ?_)
        have hb2 : Below w.heap.size w w2 := hb1.grown hgrow2 (by simp; omega) (by intro k hk; exact (HL.out k hk).1)
        rw [digV_append] at hown2
        have HO3 := hidden hown2
        clear hown2 hgrow2 HO HO1 HN1 HL hb1
        refine hidden ?_
        go_wp2
        go_roundw
        case rel => exact ⟨k + 1, os ++ [(c + X + Y) % 65536], (c + X + Y) / 65536, by omega, by go_num, rfl, HT.out, HO3.out, hb2⟩
        case measure => simp [intOf]; omega
      · rcases R1.out.2.2 with ⟨_, h, _⟩ | ⟨b1, o1, rfl, hcc1⟩
        · omega
        have q1 := cellLater hbl (hcc1 k g1)
        have i1 : (k : Int) < (l1 : Int) := by omega
        have i2 : ¬ (k : Int) < (l2 : Int) := by omega
        have hY := hidden (z2.out g2)
        clear hcc1 z1 z2
        generalize d1.getD k 0 = X at *
        generalize d2.getD k 0 = Y at *
        have HO1 := hidden (HO.out.alloc (.cells #[.int .i64 ((c + X) % 65536)] 3))
        have HN1 := hidden (newD_cell wr [(c + X) % 65536] (by unfold maxLen; simp))
        have hb1 : Below w.heap.size w (wr.alloc (.cells #[.int .i64 ((c + X) % 65536)] 3)) := hbl.alloc hs _
        have HT := hidden (HST.out (c + X) (by rw [hY.out]; omega))
        clear HST HP
        go_wp2_with (at_builtin; refine wpList_append_own _ rfl (.tmp 42) (.tmp 45) 60 rfl w.heap.size 3 i0 (.int .i64 0) 1 8 Try.underlying60 hi hz0 hz1 hz2 rfl (by decide) _ _ _ rfl HO1.out ⟨wr.heap.size, 0, none⟩ 1 1 (digV [(c + X) % 65536]) rfl rfl HN1.out (digV_one _) (by unfold maxLen; omega) (by omega) (by simp; omega) ?_; intro v2 w2 hown2 hgrow2 hiff2; clear hiff2; refine Hid.out ?_)
        have hb2 : Below w.heap.size w w2 := hb1.grown hgrow2 (by simp; omega) (by intro k hk; exact (HL.out k hk).1)
        rw [digV_append] at hown2
        have HO3 := hidden hown2
        clear hown2 hgrow2 HO HO1 HN1 HL hb1
        refine hidden ?_
        go_wp2
        go_roundw
        case rel => exact ⟨k + 1, os ++ [(c + X) % 65536], (c + X) / 65536, by omega, by go_num, rfl, HT.out, HO3.out, hb2⟩
        case measure => simp [intOf]; omega
      · rcases R2.out.2.2 with ⟨_, h, _⟩ | ⟨b2, o2, rfl, hcc2⟩
        · omega
        have q2 := cellLater hbl (hcc2 k g2)
        have i1 : ¬ (k : Int) < (l1 : Int) := by omega
        have i2 : (k : Int) < (l2 : Int) := by omega
        have hX := hidden (z1.out g1)
        clear hcc2 z1 z2
        generalize d1.getD k 0 = X at *
        generalize d2.getD k 0 = Y at *
        have HO1 := hidden (HO.out.alloc (.cells #[.int .i64 ((c + Y) % 65536)] 3))
        have HN1 := hidden (newD_cell wr [(c + Y) % 65536] (by unfold maxLen; simp))
        have hb1 : Below w.heap.size w (wr.alloc (.cells #[.int .i64 ((c + Y) % 65536)] 3)) := hbl.alloc hs _
        have HT := hidden (HST.out (c + Y) (by rw [hX.out]; omega))
        clear HST HP
        go_wp2_with (at_builtin; refine wpList_append_own _ rfl (.tmp 42) (.tmp 45) 60 rfl w.heap.size 3 i0 (.int .i64 0) 1 8 Try.underlying60 hi hz0 hz1 hz2 rfl (by decide) _ _ _ rfl HO1.out ⟨wr.heap.size, 0, none⟩ 1 1 (digV [(c + Y) % 65536]) rfl rfl HN1.out (digV_one _) (by unfold maxLen; omega) (by omega) (by simp; omega) ?_; intro v2 w2 hown2 hgrow2 hiff2; clear hiff2; refine Hid.out ?_)
        have hb2 : Below w.heap.size w w2 := hb1.grown hgrow2 (by simp; omega) (by intro k hk; exact (HL.out k hk).1)
        rw [digV_append] at hown2
        have HO3 := hidden hown2
        clear hown2 hgrow2 HO HO1 HN1 HL hb1
        refine hidden ?_
        go_wp2
        go_roundw
        case rel => exact ⟨k + 1, os ++ [(c + Y) % 65536], (c + Y) / 65536, by omega, by go_num, rfl, HT.out, HO3.out, hb2⟩
        case measure => simp [intOf]; omega
    · obtain rfl : k = M := by omega
      have i1 : ¬ (k : Int) < (l1 : Int) := by omega
      have i2 : ¬ (k : Int) < (l2 : Int) := by omega
      have HF : Hid (OkD (os ++ [c]) ∧ nv (os ++ [c]) = nv d1 + nv d2 ∧ (os ++ [c]).length = k + 1) := hidden (by
        obtain ⟨h1, h2, h3, h4, h5⟩ := HP.out
        refine ⟨?_, ?_, by simp [h2]⟩
        · intro d hd
          rcases List.mem_append.1 hd with h | h
          · exact h1 d h
          · simp at h; omega
        · rw [List.take_of_length_le (by have := e1.out; omega), List.take_of_length_le (by have := e2.out; omega)] at h5
          rw [nv_append, h2]
          simp only [nv, Int.mul_zero, Int.add_zero]
          exact h5)
      have HO1 := hidden (HO.out.alloc (.cells #[.int .i64 c] 3))
      have HN1 := hidden (newD_cell wr [c] (by unfold maxLen; simp))
      have hb1 : Below w.heap.size w (wr.alloc (.cells #[.int .i64 c] 3)) := hbl.alloc hs _
      have HL := hidden HO.out.lt
      clear HP R1 R2 K1 K2 x1 x2 e1 e2
      go_wp2_with (at_builtin; refine wpList_append_own _ rfl (.tmp 49) (.tmp 51) 60 rfl w.heap.size 3 i0 (.int .i64 0) 1 8 Try.underlying60 hi hz0 hz1 hz2 rfl (by decide) _ _ _ rfl HO1.out ⟨wr.heap.size, 0, none⟩ 1 1 (digV [c]) rfl rfl HN1.out (digV_one _) (by unfold maxLen; omega) (by omega) (by simp; omega) ?_; intro v2 w2 hown2 hgrow2 hiff2; clear hiff2; refine Hid.out ?_)
      have hb2 : Below w.heap.size w w2 := hb1.grown hgrow2 (by simp; omega) (by intro k hk; exact (HL.out k hk).1)
      rw [digV_append] at hown2
      obtain ⟨a, cp, rfl, hrd⟩ := rdD_owned hown2
      have HR := hidden hrd
      clear hown2 hgrow2 HO HO1 HN1 HL hb1 hrd
      refine hidden ?_
      go_wp2_with fail
      refine (trim_any a (k + 1) cp (os ++ [c]) _ HR.out (by omega)).mono ?_
      rintro r w3 ⟨n, rfl, ht, hw⟩
      obtain rfl := hw.symm
      have hn : n ≤ k + 1 := by have := ht.1; have := HF.out.2.2; omega
      have HA : Hid (RdD w2 a n cp ((os ++ [c]).take n) ∧ OkD ((os ++ [c]).take n) ∧ nv ((os ++ [c]).take n) = nv d1 + nv d2 ∧ (n = 0 ∨ ((os ++ [c]).take n).getD (n - 1) 0 ≠ 0)) := ⟨HR.out.take hn, HF.out.1.take n, ht.2.1.trans HF.out.2.1, trimmed_or ht⟩
      clear ht HF HR
      go_wp2
      go_ret
      exact ⟨a, n, cp, _, rfl, HA.out.1, HA.out.2.1, HA.out.2.2.1, hn, HA.out.2.2.2, hb2⟩
end Go.Proofs.Ytkbeceedafkhcaa
