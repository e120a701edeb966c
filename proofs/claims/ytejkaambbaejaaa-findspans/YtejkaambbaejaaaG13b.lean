/- Layer 13: the document's noughts, below, told. -/
import Derived.Test.YtejkaambbaejaaaG13a
namespace Go.Proofs.Ytejkaambbaejaaa
open Go.RowKit
set_option maxHeartbeats 1000000
set_option maxRecDepth 100000
set_option linter.unusedVariables false

theorem noughts_any (a : Option Addr) (n c : Nat) (zs : List Int) (w : World) (h : Reads w a n c zs) (hn : n ≤ 256) :
    Calls Try.prog 38 #[.slice a n c] w fun e w' => e = .returned (.bool (allZ zs)) ∧ w' = w := by
  have hl := h.1
  have HR := hidden h
  clear h
  obtain ⟨R, hR⟩ : ∃ R, allZ zs = R := ⟨_, rfl⟩
  rw [hR]
  have HRR := hidden hR
  clear hR
  go_enter Try.func38, Try.ntmps38
  go_upto_region 2 with fail
  go_loopw [3] (fun i w' => w' = w ∧ ∃ k : Nat, k ≤ n ∧ i = .int .i64 k ∧ Hid (allZ (zs.take k) = true)) (fun i _ => n - (intOf i).toNat)
  case atStart => exact ⟨rfl, 0, by omega, rfl, hidden rfl⟩
  case round =>
    obtain ⟨rfl, k, hk, rfl, hz⟩ := hrel
    by_cases hlt : k < n
    · have l1 : (k : Int) < n := by omega
      have l2 : (0 : Int) ≤ k := by omega
      have l3 : ((k : Int)).toNat = k := by omega
      obtain ⟨g, o, ha, hbs⟩ := HR.out.bs (by omega)
      subst ha
      have hc := hbs.2 k hlt
      have HT : Hid (zs.take (k + 1) = zs.take k ++ [zs.getD k 0]) := hidden (by rw [List.take_add_one, List.getElem?_eq_getElem (by omega), List.getD_eq_getElem?_getD, List.getElem?_eq_getElem (by omega)]; rfl)
      have HM : Hid (zs.getD k 0 ∈ zs) := hidden (by rw [List.getD_eq_getElem?_getD, List.getElem?_eq_getElem (by omega)]; simp)
      generalize zs.getD k 0 = V at *
      clear hbs
      by_cases hV : V = 0
      · subst hV
        go_wp2
        go_roundw
        case rel => exact ⟨by trivial, k + 1, by omega, by go_num, hidden (by rw [HT.out]; simpa [allZ] using hz.out)⟩
        case measure => simp [intOf]; omega
      · have hne : (V != 0) = true := by simpa using hV
        have HV := hidden hV
        clear hV
        go_wp2
        go_ret
        refine ⟨?_, rfl⟩
        have : allZ zs = false := by
          unfold allZ
          rw [List.all_eq_false]
          exact ⟨V, HM.out, by simpa using HV.out⟩
        rw [← HRR.out, this]; rfl
    · obtain rfl : k = n := by omega
      have l1 : ¬ ((k : Int) < k) := by omega
      have HZ : Hid (R = true) := hidden (by have := hz.out; rw [List.take_of_length_le (by omega)] at this; rw [← HRR.out, this])
      go_wp2
      go_ret
      exact ⟨by rw [HZ.out]; rfl, rfl⟩
theorem cmp_first : ∀ (k : Nat) (xs ys : List Int), OkB xs → OkB ys → xs.take k = ys.take k → k < xs.length → k < ys.length → xs.getD k 0 ≠ ys.getD k 0 → (cmpI xs ys < 0 ↔ xs.getD k 0 < ys.getD k 0)
  | k, [], ys, _, _, _, h, _, _ => by simp at h
  | k, x :: xs, [], _, _, _, _, h, _ => by simp at h
  | 0, x :: xs, y :: ys, hx, hy, _, _, _, hne => by
    have h1 := hx x (by simp)
    have h2 := hy y (by simp)
    have e : ∀ a b : Int, (0 ≤ a ∧ a ≤ 255) → (0 ≤ b ∧ b ≤ 255) → ((UInt8.ofNat a.toNat < UInt8.ofNat b.toNat) ↔ a < b) := fun a b ha hb => by
      rw [UInt8.lt_iff_toNat_lt]; simp; omega
    simp only [List.getD_cons_zero] at hne ⊢
    show Lib.compareBytes (UInt8.ofNat x.toNat :: _) (UInt8.ofNat y.toNat :: _) < 0 ↔ _
    unfold Lib.compareBytes
    simp only [e x y h1 h2, e y x h2 h1]
    by_cases hxy : x < y
    · simp [hxy]
    · have : y < x := by omega
      simp [hxy, this]
  | k + 1, x :: xs, y :: ys, hx, hy, ht, hl1, hl2, hne => by
    simp only [List.take_succ_cons, List.cons.injEq] at ht
    obtain ⟨rfl, ht⟩ := ht
    have ih := cmp_first k xs ys (fun c hc => hx c (by simp [hc])) (fun c hc => hy c (by simp [hc])) ht (by simpa using hl1) (by simpa using hl2) (by simpa using hne)
    simp only [List.getD_cons_succ]
    rw [← ih]
    show Lib.compareBytes (UInt8.ofNat x.toNat :: Lib.bytesOf xs) (UInt8.ofNat x.toNat :: Lib.bytesOf ys) < 0 ↔ _
    unfold Lib.compareBytes
    simp only [UInt8.lt_irrefl, if_false]
    rfl
theorem below_any (a b : Option Addr) (n c c2 : Nat) (xs ys : List Int) (w : World) (h : Reads w a n c xs) (h2 : Reads w b n c2 ys) (hx : OkB xs) (hy : OkB ys) (hn : n ≤ 256) :
    Calls Try.prog 40 #[.slice a n c, .slice b n c2] w fun e w' => e = .returned (.bool (decide (cmpI xs ys < 0))) ∧ Below w.heap.size w w' := by
  have hl := h.1
  have hl2 := h2.1
  have HR := hidden h
  have HR2 := hidden h2
  have HX := hidden hx
  have HY := hidden hy
  clear h h2 hx hy
  obtain ⟨R, hR⟩ : ∃ R, decide (cmpI xs ys < 0) = R := ⟨_, rfl⟩
  rw [hR]
  have HRR := hidden hR
  clear hR
  go_enter Try.func40, Try.ntmps40
  go_upto_region 2 with fail
  go_loopw [5] (fun i w' => ∃ k : Nat, k ≤ n ∧ i = .int .i64 k ∧ Hid (xs.take k = ys.take k) ∧ Hid (Below w.heap.size w w')) (fun i _ => n - (intOf i).toNat)
  case atStart => exact ⟨0, by omega, rfl, hidden rfl, hidden (Below.refl _ _)⟩
  case round =>
    obtain ⟨k, hk, rfl, hz, hB⟩ := hrel
    by_cases hlt : k < n
    · have l1 : (k : Int) < n := by omega
      have l2 : (0 : Int) ≤ k := by omega
      have l3 : ((k : Int)).toNat = k := by omega
      obtain ⟨g, o, ha, hbs⟩ := HR.out.bs (by omega)
      subst ha
      obtain ⟨g2, o2, ha2, hbs2⟩ := HR2.out.bs (by omega)
      subst ha2
      have hc := (hbs.later hB.out).2 k hlt
      have hc2 := (hbs2.later hB.out).2 k hlt
      have HT : Hid (xs.take (k + 1) = xs.take k ++ [xs.getD k 0]) := hidden (by rw [List.take_add_one, List.getElem?_eq_getElem (by omega), List.getD_eq_getElem?_getD, List.getElem?_eq_getElem (by omega)]; rfl)
      have HT2 : Hid (ys.take (k + 1) = ys.take k ++ [ys.getD k 0]) := hidden (by rw [List.take_add_one, List.getElem?_eq_getElem (by omega), List.getD_eq_getElem?_getD, List.getElem?_eq_getElem (by omega)]; rfl)
      have HCF := hidden (fun hne => cmp_first k xs ys HX.out HY.out hz.out (by omega) (by omega) hne)
      generalize xs.getD k 0 = V at *
      generalize ys.getD k 0 = U at *
      clear hbs hbs2
      by_cases hV : V = U
      · subst hV
        go_upto_region 4 with fail
        go_region
        all_goals (try go_wp2)
        go_roundw
        case rel => exact ⟨k + 1, by omega, by go_num, hidden (by rw [HT.out, HT2.out, hz.out]), hidden hB.out.drew⟩
        case measure => simp [intOf]; omega
      · have hne : (V != U) = true := by simpa using hV
        have HC := hidden (HCF.out hV)
        clear hV
        by_cases hvu : V < U
        · have HZ : Hid (R = true) := hidden (by rw [← HRR.out]; exact decide_eq_true (HC.out.2 hvu))
          go_upto_region 4 with fail
          go_region
          all_goals (try go_upto_region 5 with fail)
          go_region
          all_goals (try go_wp2)
          go_ret
          exact ⟨by rw [HZ.out]; rfl, hB.out.drew.drew⟩
        · have HZ : Hid (R = false) := hidden (by rw [← HRR.out]; exact decide_eq_false (fun e => hvu (HC.out.1 e)))
          go_upto_region 4 with fail
          go_region
          all_goals (try go_upto_region 5 with fail)
          go_region
          all_goals (try go_wp2)
          go_ret
          exact ⟨by rw [HZ.out]; rfl, hB.out.drew.drew⟩
    · obtain rfl : k = n := by omega
      have l1 : ¬ ((k : Int) < k) := by omega
      have HZ : Hid (R = false) := hidden (by
        have hz2 := hz.out
        rw [List.take_of_length_le (by omega), List.take_of_length_le (by omega)] at hz2
        rw [← HRR.out]
        refine decide_eq_false (fun e => ?_)
        have := (cmpI_zero xs ys HX.out HY.out (by omega)).2 hz2
        omega)
      go_wp2
      go_ret
      exact ⟨by rw [HZ.out]; rfl, hB.out⟩
/-- what is told of structure i; none -/
def tolN (s : Sr) (i : Nat) : Nat := if optB s.opt 4 then i else spA s i
def tolZ (s : Sr) : Nat := if optB s.opt 4 then 4294967295 else 0
theorem told_at (s : Sr) (ok : s.ok) (i : Nat) (hi : i < 4294967296) (w : World) :
    Calls Try.prog 37 #[.agg #[.int .u32 s.key, .int .u32 s.ks, .int .u32 s.start, .int .u32 s.size, .int .u32 s.cnt, .int .u32 s.off, .int .u32 s.nxt, .int .u32 s.opt], .int .i64 i] w fun e w' => e = .returned (.int .u32 (tolN s i : Nat)) ∧ Below w.heap.size w w' := by
  have e0 : IntKind.u32.wrap (i : Int) = i := by rw [IntKind.wrap_u32]; omega
  have e1 : IntKind.u32.wrap ((i : Int) * (s.size : Int)) = (wr32 (i * s.size) : Int) := by
    rw [IntKind.wrap_u32]; unfold wr32; rw [← Int.natCast_mul]; omega
  have e2 : IntKind.u32.wrap ((s.start : Int) + (wr32 (i * s.size) : Int)) = (spA s i : Int) := by
    rw [IntKind.wrap_u32]; unfold spA; rw [← Int.natCast_add]; unfold wr32; omega
  have g0 : ¬ ((i : Int) < 0) := by omega
  have HX := hidden (SBox.new w s)
  have hb1 : Below w.heap.size w (w.alloc (.cells #[.int .u32 s.key, .int .u32 s.ks, .int .u32 s.start, .int .u32 s.size, .int .u32 s.cnt, .int .u32 s.off, .int .u32 s.nxt, .int .u32 s.opt] 25)) := (Below.refl _ _).alloc (Nat.le_refl _) _
  have HQ4 := hidden (fun w => dhas_4 s.key s.ks s.start s.size s.cnt s.off s.nxt s.opt w ok.opt)
  have HB := hidden hb1
  clear hb1
  unfold tolN
  cases hop : optB s.opt 4
  all_goals (
    rw [hop] at HQ4
    clear hop
    go_enter Try.func37, Try.ntmps37
    go_upto_region 1 with fail
    generalize w.alloc (.cells #[.int .u32 s.key, .int .u32 s.ks, .int .u32 s.start, .int .u32 s.size, .int .u32 s.cnt, .int .u32 s.off, .int .u32 s.nxt, .int .u32 s.opt] 25) = w1 at *
    obtain ⟨c0, c1, c2, c3, c4, c5, c6, c7⟩ := HX.out.cells
    go_wp2_with (go_at_call 32; refine (HQ4.out _).mono ?_; rintro e w2 ⟨rfl, hb2⟩; obtain ⟨-, -, d2, d3, -, -, -, -⟩ := (HX.out.later hb2).cells; skip)
    go_ret
    exact ⟨rfl, HB.out.trans (hb2.mono HB.out.size)⟩)
theorem told_no (s : Sr) (ok : s.ok) (w : World) :
    Calls Try.prog 37 #[.agg #[.int .u32 s.key, .int .u32 s.ks, .int .u32 s.start, .int .u32 s.size, .int .u32 s.cnt, .int .u32 s.off, .int .u32 s.nxt, .int .u32 s.opt], .int .i64 (-1)] w fun e w' => e = .returned (.int .u32 (tolZ s : Nat)) ∧ Below w.heap.size w w' := by
  have HX := hidden (SBox.new w s)
  have hb1 : Below w.heap.size w (w.alloc (.cells #[.int .u32 s.key, .int .u32 s.ks, .int .u32 s.start, .int .u32 s.size, .int .u32 s.cnt, .int .u32 s.off, .int .u32 s.nxt, .int .u32 s.opt] 25)) := (Below.refl _ _).alloc (Nat.le_refl _) _
  have HQ4 := hidden (fun w => dhas_4 s.key s.ks s.start s.size s.cnt s.off s.nxt s.opt w ok.opt)
  have HB := hidden hb1
  clear hb1
  unfold tolZ
  cases hop : optB s.opt 4
  all_goals (
    rw [hop] at HQ4
    clear hop
    go_enter Try.func37, Try.ntmps37
    go_upto_region 1 with fail
    generalize w.alloc (.cells #[.int .u32 s.key, .int .u32 s.ks, .int .u32 s.start, .int .u32 s.size, .int .u32 s.cnt, .int .u32 s.off, .int .u32 s.nxt, .int .u32 s.opt] 25) = w1 at *
    obtain ⟨c0, c1, c2, c3, c4, c5, c6, c7⟩ := HX.out.cells
    go_wp2_with (go_at_call 32; refine (HQ4.out _).mono ?_; rintro e w2 ⟨rfl, hb2⟩; obtain ⟨-, -, d2, d3, -, -, -, -⟩ := (HX.out.later hb2).cells; skip)
    go_ret
    exact ⟨rfl, HB.out.trans (hb2.mono HB.out.size)⟩)
end Go.Proofs.Ytejkaambbaejaaa
