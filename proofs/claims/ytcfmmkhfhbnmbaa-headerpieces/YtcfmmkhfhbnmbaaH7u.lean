/- The walk of HeaderPieces: the sum of two pieces is the sum of both. -/
import Derived.Test.YtcfmmkhfhbnmbaaH7l
import Derived.Test.YtcfmmkhfhbnmbaaH7r
namespace Go.Proofs.Ytcfmmkhfhbnmbaa
open Go.RowKit
set_option maxHeartbeats 1000000
set_option maxRecDepth 100000
set_option linter.unusedVariables false

theorem pieces_sum (xs bs : List Int) (h4 : xs.length % 4 = 0) (h36 : 36 ≤ xs.length) : sumV (xs ++ bs) = (sumV xs + (sumV bs + if 36 ≤ bs.length then beV bs 32 4 else 0)) % 4294967296 := by
  have h := sum_append xs bs (xs.length / 4) (by omega) (by omega) (bs.length / 4) (by omega)
  unfold sumV
  rw [List.length_append, show (xs.length + bs.length) / 4 = xs.length / 4 + bs.length / 4 by omega, h]
  by_cases hb : 36 ≤ bs.length
  · rw [if_pos hb, if_pos (by omega)]
  · rw [if_neg hb, if_neg (by omega)]
theorem pieces_walk (x : Addr) (la ca : Nat) (xs : List Int) (b : Option Addr) (lb cb : Nat) (bs : List Int) (w : World) (ha : Reads w (some x) la ca xs) (hb : Reads w b lb cb bs) (oa : OkB xs) (ob : OkB bs) (ga : la ≤ 65536) (gb : lb ≤ 65536) (g4 : la % 4 = 0) (g36 : 36 ≤ la) :
    Calls Try.prog 8 #[.slice (some x) la ca, .slice b lb cb] w fun e w' => e = .returned (.bool true) ∧ Below w.heap.size w w' := by
  obtain ⟨i0, hi, hz0, hz1, hz2⟩ := info_parts info8
  have HL := hidden live_any
  have hal := ha.1
  have hbl := hb.1
  have HS1 := hidden (hsum_any b lb cb bs w hb ob (by omega))
  have HS2 : Hid (∀ wx, Below w.heap.size w wx → Calls Try.prog 15 #[.slice (some x) la ca] wx fun e w' => e = .returned (.int .u32 (sumV xs)) ∧ w' = wx) := hidden fun wx hx => hsum_any (some x) la ca xs wx (ha.later hx) oa (by omega)
  have HE := hidden (pieces_sum xs bs (by omega) (by omega))
  have h1 : (la : Int) ≤ 65536 := by omega
  have h2 : (lb : Int) ≤ 65536 := by omega
  have h3 : (la : Int) % 4 = 0 := by omega
  have h3' : ((la : Int) % 4 != 0) = false := by simpa using h3
  have h4 : (36 : Int) ≤ (la : Int) := by omega
  have hA0 := sumTo_bd xs (xs.length / 4)
  have hB0 := sumTo_bd bs (bs.length / 4)
  have HA := hidden ha
  have HB := hidden hb
  have HOA := hidden oa
  have HOB := hidden ob
  change 0 ≤ sumV xs ∧ sumV xs ≤ 4294967295 at hA0
  change 0 ≤ sumV bs ∧ sumV bs ≤ 4294967295 at hB0
  have HC : Hid (0 ≤ beV bs 32 4 ∧ beV bs 32 4 ≤ 4294967295) := hidden (beV_bd bs 32 ob)
  clear ha hb oa ob h3
  have HX : Hid (∀ (S : Int), 0 ≤ S → S ≤ 4294967295 → (sumV xs + S) % 4294967296 = sumV (xs ++ bs) → ∀ (w1 : World), Below w.heap.size w w1 → True) := hidden fun _ _ _ _ _ _ => trivial
  clear HX
  have hb0 : Below w.heap.size w (w.alloc (.cells #[] 5)) := (Below.refl _ _).alloc (Nat.le_refl _) _
  have HO := hidden (World.ownsRow_made (base := w.heap.size) (e := 5) (size := 1) w #[] 0 (Nat.le_refl _) (Nat.zero_le _) (by simp))
  have HN1 := hidden (HA.out.later hb0).news
  have HN2 : Hid (∀ (y : Addr) (wx : World), b = some y → Below w.heap.size w wx → ∀ j u, (bytesV bs)[j]? = some u → wx.cell? (y.add j) = some u) := hidden fun y wx hy hx => by subst hy; exact (HB.out.later hx).news
  have HSJ : Hid (∀ (g c : Nat) (wx : World), Bs wx g 0 (la + lb) (xs ++ bs) → la + lb ≤ c → Calls Try.prog 15 #[.slice (some ⟨g, 0, none⟩) (la + lb) c] wx fun e w' => e = .returned (.int .u32 (sumV (xs ++ bs))) ∧ w' = wx) := hidden fun g c wx h hc => hsum_some g 0 (la + lb) c (xs ++ bs) wx h (okb_app HOA.out HOB.out) hc (by omega)
  have HRB : Hid (36 ≤ lb → Calls Try.prog 20 #[.slice b lb cb, .int .i64 32, .int .i64 4] w fun e w' => e = .returned (.tuple #[.int .u32 (beV bs 32 4), .int .i64 0]) ∧ w' = w) := hidden fun h36 => by
    obtain ⟨g, o, rfl, hB⟩ := HB.out.bs (by omega)
    refine (rbe_any g o lb cb bs 32 4 w (Or.inr (Or.inr rfl)) (by omega) (by omega) (by omega) HB.out.2.1 hB.2 HOB.out).mono ?_
    rintro e w' ⟨q1, -, q3⟩
    exact ⟨q1 (by omega), q3⟩
  have HBN : Hid (b = none → lb = 0 ∧ cb = 0 ∧ bs = []) := hidden fun h => by
    rcases HB.out.2.2 with ⟨_, q1, q2⟩ | ⟨y, hy, _⟩
    · exact ⟨q1, q2, List.eq_nil_of_length_eq_zero (by omega)⟩
    · rw [h] at hy; cases hy
  rw [hbl] at HE
  generalize hSA : sumV xs = SA at *
  generalize hSB : sumV bs = SB at *
  generalize hSJ : sumV (xs ++ bs) = SJ at *
  generalize hVB : beV bs 32 4 = VB at *
  clear hSA hSB hSJ hVB HOA HOB HA HB
  obtain ⟨hv0, hv1⟩ := HC.out
  cases b with
  | none =>
    obtain ⟨rfl, rfl, rfl⟩ := HBN.out rfl
    have he : SJ = (SA + SB) % 4294967296 := by rw [HE.out, if_neg (by omega)]; simp
    have he2 : (SJ == (SA + SB) % 4294967296) = true := by simpa using he
    have HE2 := hidden he
    clear he HE HBN HRB
    go_enter Try.func8, Try.ntmps8
    go_wp2_with (first | (go_at_call 15; (with_reducible refine HS1.out.mono ?_); rintro e w9 ⟨rfl, hw⟩; obtain rfl := hw.symm) | (at_builtin; refine wpList_append_own _ rfl (.tmp 41) (.tmp 42) 22 rfl w.heap.size 5 i0 (.int .u8 0) 1 1 Try.underlying22 hi hz0 hz1 hz2 rfl (by decide) _ _ _ rfl HO.out x la ca (bytesV xs) rfl (by simp [bytesV, hal]) HN1.out (bytesV_one _) (by unfold maxLen; omega) (by omega) (by simp) ?_; intro v1 w1 hown1 hgrow1 hiff1; clear hiff1; refine Hid.out ?_) | fail)
    have hb1 : Below w.heap.size w w1 := hb0.grown hgrow1 (by simp) (by intro k hk; have e : some w.heap.size = some k := hk; simp at e; omega)
    simp only [Nat.zero_add, List.nil_append] at hown1
    have hs1 := hb1.size
    have HO1 := hidden hown1
    clear hown1 hgrow1 HO HN1 hb0
    refine hidden ?_
    have hown2 : w1.ownsRow w.heap.size 5 1 v1 (la + 0) (bytesV (xs ++ [])) := by rw [List.append_nil]; exact HO1.out
    obtain ⟨g, c, rfl, hc, -⟩ := owned_shape hown2 (by omega)
    have HJ := hidden (HSJ.out g c w1 (own_bs hown2) hc)
    have HS3 := hidden (HS2.out w1 hb1)
    clear hown2 HSJ HS2
    rw [Nat.add_zero] at HJ
    go_wp2_with (first | (at_builtin; refine wpList_append_own_none rfl (.tmp 43) (.tmp 44) 22 rfl w.heap.size 5 i0 1 Try.underlying22 hi _ _ _ rfl HO1.out rfl ?_) | (go_at_call 15; (with_reducible refine HJ.out.mono ?_); rintro e w9 ⟨rfl, hw⟩; obtain rfl := hw.symm) | (go_at_call 15; (with_reducible refine HS3.out.mono ?_); rintro e w9 ⟨rfl, hw⟩; obtain rfl := hw.symm) | (go_at_call 9; refine (HL.out _).mono ?_; rintro e w9 ⟨rfl, hb⟩) | fail)
    go_ret
    exact ⟨rfl, hb1.trans (hb.mono hs1)⟩
  | some y =>
    by_cases h36 : 36 ≤ lb
    · have he : SJ = (SA + (SB + VB) % 4294967296) % 4294967296 := by rw [HE.out, if_pos h36]; omega
      have he2 : (SJ == (SA + (SB + VB) % 4294967296) % 4294967296) = true := by simpa using he
      have he3 : (SJ == (SA + (SB + VB)) % 4294967296) = true := by simp; omega
      have HRB2 := hidden (HRB.out h36)
      have h36' : (36 : Int) ≤ (lb : Int) := by omega
      clear he HE HBN HRB
      go_enter Try.func8, Try.ntmps8
      go_wp2_with (first | (go_at_call 15; (with_reducible refine HS1.out.mono ?_); rintro e w9 ⟨rfl, hw⟩; obtain rfl := hw.symm) | (at_builtin; refine wpList_append_own _ rfl (.tmp 41) (.tmp 42) 22 rfl w.heap.size 5 i0 (.int .u8 0) 1 1 Try.underlying22 hi hz0 hz1 hz2 rfl (by decide) _ _ _ rfl HO.out x la ca (bytesV xs) rfl (by simp [bytesV, hal]) HN1.out (bytesV_one _) (by unfold maxLen; omega) (by omega) (by simp) ?_; intro v1 w1 hown1 hgrow1 hiff1; clear hiff1; refine Hid.out ?_) | (go_at_call 20; refine HRB2.out.mono ?_; rintro e w9 ⟨rfl, hw⟩; obtain rfl := hw.symm) | fail)
      have hb1 : Below w.heap.size w w1 := hb0.grown hgrow1 (by simp) (by intro k hk; have e : some w.heap.size = some k := hk; simp at e; omega)
      simp only [Nat.zero_add, List.nil_append] at hown1
      have hs1 := hb1.size
      have HO1 := hidden hown1
      clear hown1 hgrow1 HO HN1 hb0
      have HN3 := hidden (HN2.out y w1 rfl hb1)
      refine hidden ?_
      go_wp2_with (at_builtin; refine wpList_append_own _ rfl (.tmp 43) (.tmp 44) 22 rfl w.heap.size 5 i0 (.int .u8 0) 1 1 Try.underlying22 hi hz0 hz1 hz2 rfl (by decide) _ _ _ rfl HO1.out y lb cb (bytesV bs) rfl (by simp [bytesV, hbl]) HN3.out (bytesV_one _) (by unfold maxLen; omega) (by omega) (by omega) ?_; intro v2 w2 hown2 hgrow2 hiff2; clear hiff2; refine Hid.out ?_)
      have hb2 : Below w.heap.size w w2 := hb1.grown hgrow2 hs1 (fun k hk => (HO1.out.lt k hk).1)
      rw [bytesV_append] at hown2
      have hs2 := hb2.size
      obtain ⟨g, c, rfl, hc, -⟩ := owned_shape hown2 (by omega)
      have HJ := hidden (HSJ.out g c w2 (own_bs hown2) hc)
      have HS3 := hidden (HS2.out w2 hb2)
      clear hown2 HSJ HS2 hgrow2 HO1 HN3
      refine hidden ?_
      go_wp2_with (first | (go_at_call 15; (with_reducible refine HJ.out.mono ?_); rintro e w9 ⟨rfl, hw⟩; obtain rfl := hw.symm) | (go_at_call 15; (with_reducible refine HS3.out.mono ?_); rintro e w9 ⟨rfl, hw⟩; obtain rfl := hw.symm) | (go_at_call 9; refine (HL.out _).mono ?_; rintro e w9 ⟨rfl, hb⟩) | fail)
      go_ret
      exact ⟨rfl, hb2.trans (hb.mono hs2)⟩
    · have he : SJ = (SA + SB) % 4294967296 := by rw [HE.out, if_neg h36]; simp
      have he2 : (SJ == (SA + SB) % 4294967296) = true := by simpa using he
      have h36' : (lb : Int) < 36 := by omega
      clear he HE HBN HRB
      go_enter Try.func8, Try.ntmps8
      go_wp2_with (first | (go_at_call 15; (with_reducible refine HS1.out.mono ?_); rintro e w9 ⟨rfl, hw⟩; obtain rfl := hw.symm) | (at_builtin; refine wpList_append_own _ rfl (.tmp 41) (.tmp 42) 22 rfl w.heap.size 5 i0 (.int .u8 0) 1 1 Try.underlying22 hi hz0 hz1 hz2 rfl (by decide) _ _ _ rfl HO.out x la ca (bytesV xs) rfl (by simp [bytesV, hal]) HN1.out (bytesV_one _) (by unfold maxLen; omega) (by omega) (by simp) ?_; intro v1 w1 hown1 hgrow1 hiff1; clear hiff1; refine Hid.out ?_) | fail)
      have hb1 : Below w.heap.size w w1 := hb0.grown hgrow1 (by simp) (by intro k hk; have e : some w.heap.size = some k := hk; simp at e; omega)
      simp only [Nat.zero_add, List.nil_append] at hown1
      have hs1 := hb1.size
      have HO1 := hidden hown1
      clear hown1 hgrow1 HO HN1 hb0
      have HN3 := hidden (HN2.out y w1 rfl hb1)
      refine hidden ?_
      go_wp2_with (at_builtin; refine wpList_append_own _ rfl (.tmp 43) (.tmp 44) 22 rfl w.heap.size 5 i0 (.int .u8 0) 1 1 Try.underlying22 hi hz0 hz1 hz2 rfl (by decide) _ _ _ rfl HO1.out y lb cb (bytesV bs) rfl (by simp [bytesV, hbl]) HN3.out (bytesV_one _) (by unfold maxLen; omega) (by omega) (by omega) ?_; intro v2 w2 hown2 hgrow2 hiff2; clear hiff2; refine Hid.out ?_)
      have hb2 : Below w.heap.size w w2 := hb1.grown hgrow2 hs1 (fun k hk => (HO1.out.lt k hk).1)
      rw [bytesV_append] at hown2
      have hs2 := hb2.size
      obtain ⟨g, c, rfl, hc, -⟩ := owned_shape hown2 (by omega)
      have HJ := hidden (HSJ.out g c w2 (own_bs hown2) hc)
      have HS3 := hidden (HS2.out w2 hb2)
      clear hown2 HSJ HS2 hgrow2 HO1 HN3
      refine hidden ?_
      go_wp2_with (first | (go_at_call 15; (with_reducible refine HJ.out.mono ?_); rintro e w9 ⟨rfl, hw⟩; obtain rfl := hw.symm) | (go_at_call 15; (with_reducible refine HS3.out.mono ?_); rintro e w9 ⟨rfl, hw⟩; obtain rfl := hw.symm) | (go_at_call 9; refine (HL.out _).mono ?_; rintro e w9 ⟨rfl, hb⟩) | fail)
      go_ret
      exact ⟨rfl, hb2.trans (hb.mono hs2)⟩
theorem headerPieces_walk (a0 : Option Addr) (l0 c0 : Nat) (z0 : List Int) (a1 : Option Addr) (l1 c1 : Nat) (z1 : List Int) (w : World) (h0 : IsRow .u8 w a0 l0 c0 z0) (h1 : IsRow .u8 w a1 l1 c1 z1) :
    Calls Try.prog 8 #[.slice a0 l0 c0, .slice a1 l1 c1] w fun e w' => e = .returned (.bool true) ∧ Below w.heap.size w w' := by
  obtain ⟨r1, r2, r3⟩ := reads_of_row h0
  obtain ⟨s1, s2, s3⟩ := reads_of_row h1
  by_cases hg : l0 ≤ 65536 ∧ l1 ≤ 65536 ∧ l0 % 4 = 0 ∧ 36 ≤ l0
  · obtain ⟨g1, g2, g3, g4⟩ := hg
    rcases r1.2.2 with ⟨_, q, _⟩ | ⟨x, rfl, _⟩
    · omega
    · exact pieces_walk x l0 c0 _ a1 l1 c1 _ w r1 s1 r2 s2 g1 g2 g3 g4
  · have HL := hidden live_any
    have n0 : (l0 : Int) ≤ 9223372036854775807 := by omega
    have n1 : (l1 : Int) ≤ 9223372036854775807 := by omega
    clear r1 r2 s1 s2 h0 h1
    by_cases c1 : 65536 < (l0 : Int)
    · clear hg
      go_enter Try.func8, Try.ntmps8
      go_wp2_with (go_at_call 9; refine (HL.out _).mono ?_; rintro e w9 ⟨rfl, hb⟩)
      go_ret
      exact ⟨rfl, hb⟩
    by_cases c2 : 65536 < (l1 : Int)
    · clear hg
      go_enter Try.func8, Try.ntmps8
      go_wp2_with (go_at_call 9; refine (HL.out _).mono ?_; rintro e w9 ⟨rfl, hb⟩)
      go_ret
      exact ⟨rfl, hb⟩
    by_cases c3 : (l0 : Int) % 4 = 0
    · have c4 : (l0 : Int) < 36 := by omega
      have c3' : ((l0 : Int) % 4 != 0) = false := by simpa using c3
      clear hg c3
      go_enter Try.func8, Try.ntmps8
      go_wp2_with (go_at_call 9; refine (HL.out _).mono ?_; rintro e w9 ⟨rfl, hb⟩)
      go_ret
      exact ⟨rfl, hb⟩
    · have c3' : ((l0 : Int) % 4 != 0) = true := by simpa using c3
      clear hg c3
      go_enter Try.func8, Try.ntmps8
      go_wp2_with (go_at_call 9; refine (HL.out _).mono ?_; rintro e w9 ⟨rfl, hb⟩)
      go_ret
      exact ⟨rfl, hb⟩
end Go.Proofs.Ytcfmmkhfhbnmbaa
