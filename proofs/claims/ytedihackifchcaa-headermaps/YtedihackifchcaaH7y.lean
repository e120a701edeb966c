/- The walk of HeaderMaps: what is taken has its memory in order, in whole pages, within the limits. -/
import Derived.Test.YtedihackifchcaaH7l
namespace Go.Proofs.Ytedihackifchcaa
open Go.RowKit
set_option maxHeartbeats 1000000
set_option maxRecDepth 100000
set_option linter.unusedVariables false

theorem parse_err (zs : List Int) (h : (parseH zs).2.1 ≠ 0) : (parseH zs).1 = hd0 := by
  unfold parseH at h ⊢
  split
  · rfl
  · rename_i c1
    rw [if_neg c1] at h
    split
    · rfl
    · rename_i c2
      rw [if_neg c2] at h
      split
      · rfl
      · rename_i c3
        rw [if_neg c3] at h
        split
        · rfl
        · rename_i c4
          rw [if_neg c4] at h
          split
          · rfl
          · rename_i c5
            rw [if_neg c5] at h
            exact absurd rfl h
theorem parse_ok (zs : List Int) (hok : OkB zs) (h : (parseH zs).2.1 = 0) : (numH (parseH zs).1 zs.length).1 = 0 ∧ OkH (parseH zs).1 := by
  unfold parseH at h ⊢
  split
  · rename_i c1
    rw [if_pos c1] at h; exact absurd h (by show ¬ (3 : Int) = 0; decide)
  · rename_i c1
    rw [if_neg c1] at h
    split
    · rename_i c2
      rw [if_pos c2] at h; exact absurd h (by show ¬ (63 : Int) = 0; decide)
    · rename_i c2
      rw [if_neg c2] at h
      split
      · rename_i c3
        rw [if_pos c3] at h; exact absurd h (by show ¬ (2 : Int) = 0; decide)
      · rename_i c3
        rw [if_neg c3] at h
        split
        · rename_i c4
          rw [if_pos c4] at h; exact absurd h c4
        · rename_i c4
          rw [if_neg c4] at h
          split
          · rename_i c5
            rw [if_pos c5] at h; exact absurd h (by show ¬ (73 : Int) = 0; decide)
          · exact ⟨Classical.not_not.1 c4, beV_bd zs 4 hok, beV_bd zs 8 hok, beV_bd zs 12 hok, beV_bd zs 16 hok, beV_bd zs 20 hok, beV_bd zs 24 hok, beV_bd zs 28 hok, beV_bd zs 32 hok⟩
theorem num_ok (v ram ext en st start tab size : Int) (h : (numR v ram ext en st start tab size).1 = 0) :
    256 ≤ ram ∧ ram % 256 = 0 ∧ ram ≤ ext ∧ ext = size ∧ ext % 256 = 0 ∧ ext ≤ en ∧ en ≤ 1048576 ∧ en % 256 = 0 ∧ st ≠ 0 ∧ st ≤ 65536 ∧ st % 256 = 0 ∧ 36 ≤ start ∧ start < en ∧ tab < en := by
  unfold numR at h
  split at h
  · exact absurd h (by decide)
  · split at h
    · exact absurd h (by decide)
    · split at h
      · exact absurd h (by decide)
      · split at h
        · exact absurd h (by decide)
        · split at h
          · exact absurd h (by decide)
          · split at h
            · exact absurd h (by decide)
            · split at h
              · exact absurd h (by decide)
              · omega
theorem or_pages (a b : Int) (a0 : 0 ≤ a) (a1 : a ≤ 4294967295) (b0 : 0 ≤ b) (b1 : b ≤ 4294967295) (ha : a % 256 = 0) (hb : b % 256 = 0) : 0 ≤ bits .or .u32 a b ∧ bits .or .u32 a b ≤ 4294967295 ∧ bits .or .u32 a b % 256 = 0 := by
  rw [u32_or _ _ a0 (by omega) b0 (by omega)]
  have h1 : (a.toNat ||| b.toNat) % 2 ^ 8 = 0 := by
    rw [Nat.or_mod_two_pow, show a.toNat % 2 ^ 8 = 0 by omega, show b.toNat % 2 ^ 8 = 0 by omega]
    rfl
  have h2 : a.toNat ||| b.toNat < 2 ^ 32 := Nat.or_lt_two_pow (by omega) (by omega)
  omega
theorem headerMaps_walk (a : Option Addr) (len cap : Nat) (zs : List Int) (w : World) (h : IsRow .u8 w a len cap zs) :
    Calls Try.prog 3 #[.slice a len cap] w fun e w' => e = .returned (.bool true) ∧ Below w.heap.size w w' := by
  obtain ⟨r1, r2, r3⟩ := reads_of_row h
  have HL := hidden live_any
  have hn1 : (len : Int) ≤ 9223372036854775807 := by omega
  by_cases hbig : (65536 : Int) < (len : Int)
  · clear r1 r2 h
    go_enter Try.func3, Try.ntmps3
    go_wp2_with (go_at_call 7; refine (HL.out _).mono ?_; rintro e w9 ⟨rfl, hb⟩)
    go_ret
    exact ⟨rfl, hb⟩
  have HP := hidden (parse_any a len cap _ w r1 r2 r3)
  have hE1 := parse_err (zs.take len)
  have hE0 := parse_ok (zs.take len) r2
  rw [r1.1] at hE0
  clear r1 r2 h
  generalize parseH (zs.take len) = R at *
  obtain ⟨⟨v, ram, ext, en, st, start, tab, sm⟩, E, AT⟩ := R
  dsimp only at hE1 hE0 HP
  by_cases hE : E = 0
  · subst hE
    obtain ⟨q1, q2⟩ := hE0 rfl
    have q1' : (numR v ram ext en st start tab len).1 = 0 := q1
    obtain ⟨n1, n2, n3, n4, n5, n6, n7, n8, n9, n10, n11, n12, n13, n14⟩ := num_ok _ _ _ _ _ _ _ _ q1'
    obtain ⟨p1, p2, p3, p4, p5, p6, p7, p8⟩ := q2
    dsimp only at p1 p2 p3 p4 p5 p6 p7 p8
    obtain ⟨o1, o2, o3⟩ := or_pages ram ext p2.1 p2.2 p3.1 p3.2 n2 n5
    obtain ⟨o4, o5, o6⟩ := or_pages _ en o1 o2 p4.1 p4.2 o3 n8
    obtain ⟨o7, o8, o9⟩ := or_pages _ st o4 o5 p5.1 p5.2 o6 n11
    have z1 : (bits .or .u32 (bits .or .u32 (bits .or .u32 ram ext) en) st % 256 == 0) = true := by simpa using o9
    have z2 : ((bits .or .u32 (bits .or .u32 (bits .or .u32 ram ext) en) st).tmod 256 == 0) = true := by rw [Int.tmod_eq_emod_of_nonneg o7]; exact z1
    have z3 : (ext == (len : Int)) = true := by simpa using n4
    have z4 : 0 < st := by omega
    clear hE1 hE0 q1 q1' n2 n5 n8 n9 n11 o1 o2 o3 o4 o5 o6 o8 o9 p1 p2 p4 p5 p6 p7 p8
    have HN4 := hidden n4
    clear n4
    go_enter Try.func3, Try.ntmps3
    go_wp2_with fail
    refine HP.out.mono ?_
    rintro e w2 ⟨rfl, hb2⟩
    have HX := hidden (hd_fresh w2 ⟨v, ram, ext, en, st, start, tab, sm⟩)
    have HB := hidden (hb2.alloc hb2.size (.cells #[.int .u32 v, .int .u32 ram, .int .u32 ext, .int .u32 en, .int .u32 st, .int .u32 start, .int .u32 tab, .int .u32 sm] 26))
    clear hb2 HP
    go_upto_region 4 with fail
    change Code.wp _ _ _ _ (w2.alloc (.cells #[.int .u32 v, .int .u32 ram, .int .u32 ext, .int .u32 en, .int .u32 st, .int .u32 start, .int .u32 tab, .int .u32 sm] 26))
    generalize w2.heap.size = B3 at *
    generalize w2.alloc (.cells #[.int .u32 v, .int .u32 ram, .int .u32 ext, .int .u32 en, .int .u32 st, .int .u32 start, .int .u32 tab, .int .u32 sm] 26) = w3 at *
    have HX1 := HX.out
    unfold HdAt at HX1
    dsimp only at HX1
    obtain ⟨k0, k1, k2, k3, k4, k5, k6, k7, -⟩ := HX1
    go_wp2_with (first | (go_at_call 9; refine (num7 _ _).mono ?_; rintro e w9 ⟨rfl, hw⟩; obtain rfl := hw.symm) | (go_at_call 7; refine (HL.out _).mono ?_; rintro e w9 ⟨rfl, hb⟩) | fail)
    go_ret
    exact ⟨rfl, HB.out.trans (hb.mono HB.out.size)⟩
  · have hh := hE1 hE
    unfold hd0 at hh
    rw [Hd.mk.injEq] at hh
    obtain ⟨rfl, rfl, rfl, rfl, rfl, rfl, rfl, rfl⟩ := hh
    have hE' : (E != 0) = true := by simpa using hE
    clear hE hE1 hE0
    go_enter Try.func3, Try.ntmps3
    go_wp2_with (first | (go_at_call 8; refine HP.out.mono ?_; rintro e w2 ⟨rfl, hb2⟩) | (go_at_call 9; refine (num7 _ _).mono ?_; rintro e w9 ⟨rfl, hw⟩; obtain rfl := hw.symm) | (go_at_call 7; refine (HL.out _).mono ?_; rintro e w9 ⟨rfl, hb⟩) | fail)
    go_ret
    have hb3 := hb2.alloc hb2.size (.cells #[.int .u32 0, .int .u32 0, .int .u32 0, .int .u32 0, .int .u32 0, .int .u32 0, .int .u32 0, .int .u32 0] 26)
    exact ⟨rfl, hb3.trans (hb.mono hb3.size)⟩
end Go.Proofs.Ytedihackifchcaa
