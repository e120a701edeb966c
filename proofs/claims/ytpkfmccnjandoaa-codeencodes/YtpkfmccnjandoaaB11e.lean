/- The document's Be, Extend, size and may. -/
import Derived.Test.YtpkfmccnjandoaaC11u
import Derived.Test.YtpkfmccnjandoaaC11d
import Derived.Test.YtpkfmccnjandoaaB11a
namespace Go.Proofs.Ytpkfmccnjandoaa
open Go.RowKit
set_option maxHeartbeats 1000000
set_option maxRecDepth 100000
set_option linter.unusedVariables false

theorem of_any (n : Int) (w : World) :
    Calls Try.prog 50 #[.int .i64 n] w fun e w' => e = .returned (.int .u32 (n % 4294967296)) ∧ w' = w := by
  go_enter Try.func50, Try.ntmps50
  go_wp2
  go_ret
  refine ⟨ret_int ?_, rfl⟩
  rw [and32]; omega
theorem extR_any (a n : Int) (w : World) (a0 : 0 ≤ a) (a1 : a ≤ 4294967295) :
    Calls Try.prog 33 #[.int .u32 a, .int .i64 n] w fun e w' => e = .returned (.int .u32 (extW a n)) ∧ w' = w := by
  by_cases h1 : n = 1
  · subst h1
    go_enter Try.func33, Try.ntmps33
    go_wp2_with (go_at_call 50; refine (of_any _ _).mono ?_; rintro e w' ⟨rfl, rfl⟩)
    all_goals
      go_ret
      refine ⟨ret_int ?_, rfl⟩
      simp only [extW, if_true]
      omega
  by_cases h2 : n = 2
  · subst h2
    go_enter Try.func33, Try.ntmps33
    go_wp2_with (go_at_call 50; refine (of_any _ _).mono ?_; rintro e w' ⟨rfl, rfl⟩)
    all_goals
      go_ret
      refine ⟨ret_int ?_, rfl⟩
      simp only [extW, if_true, if_neg (show ¬ (2 : Int) = 1 by decide)]
      omega
  have e : extW a n = a := by simp [extW, h1, h2]
  have n1 : (n == 1) = false := by simpa using h1
  have n2 : (n == 2) = false := by simpa using h2
  rw [e]
  clear h1 h2 e
  go_enter Try.func33, Try.ntmps33
  go_wp2
  go_ret
  exact ⟨rfl, rfl⟩
/-- what the first k bytes from place a on say -/
def rb (zs : List Int) (a : Nat) : Nat → Int
  | 0 => 0
  | k + 1 => 256 * rb zs a k + zs.getD (a + k) 0
theorem OkB.at {zs : List Int} (hb : OkB zs) (i : Nat) : 0 ≤ zs.getD i 0 ∧ zs.getD i 0 ≤ 255 := by
  rw [List.getD_eq_getElem?_getD]
  cases h : zs[i]? with
  | none => simp
  | some c => exact hb c (List.mem_of_getElem? h)
theorem rb_bd (zs : List Int) (a k : Nat) (hb : OkB zs) (hk : k ≤ 4) : 0 ≤ rb zs a k ∧ rb zs a k ≤ 4294967295 ∧ (k ≤ 3 → rb zs a k ≤ 16777215) := by
  have h0 := hb.at (a + 0)
  have h1 := hb.at (a + 1)
  have h2 := hb.at (a + 2)
  have h3 := hb.at (a + 3)
  match k, hk with
  | 0, _ => simp [rb]
  | 1, _ => simp only [rb]; omega
  | 2, _ => simp only [rb]; omega
  | 3, _ => simp only [rb]; omega
  | 4, _ => simp only [rb]; omega
theorem rb_beV (zs : List Int) (a : Nat) (n : Int) (hn : IsW n) : rb zs a n.toNat = beV zs a n := by
  rcases hn with rfl | rfl | rfl
  · show rb zs a 1 = _
    simp [rb, beV]
  · show rb zs a 2 = _
    simp [rb, beV]
  · show rb zs a 4 = _
    simp only [rb, beV, if_neg (show ¬ (4 : Int) = 1 by decide), if_neg (show ¬ (4 : Int) = 2 by decide), Nat.add_zero]; omega
theorem rbe_far (ad : Option Addr) (len cap : Nat) (at_ n : Int) (w : World) (hn : IsW n) (h0 : 0 ≤ at_) (_ha : at_ ≤ 9223372036854775807) (hl : (len : Int) ≤ at_) :
    Calls Try.prog 29 #[.slice ad len cap, .int .i64 at_, .int .i64 n] w fun e w' => e = .returned (.tuple #[.int .u32 0, .int .i64 2]) ∧ w' = w := by
  rcases hn with rfl | rfl | rfl
  all_goals
    go_enter Try.func29, Try.ntmps29
    go_wp2
    go_loop [8, 9] (fun x i => i = .int .i64 0 ∧ x = .int .i64 0) (fun _ _ => 0)
    case atStart => exact ⟨rfl, rfl⟩
    case round =>
      obtain ⟨rfl, rfl⟩ := hrel
      go_wp2
      go_ret2
      exact ⟨rfl, rfl⟩
theorem rbe_any (blk off len cap : Nat) (zs : List Int) (at_ n : Int) (w : World) (hn : IsW n) (h0 : 0 ≤ at_) (hl : (len : Int) ≤ 1000012) (hat : at_ < (len : Int)) (_hcap : len ≤ cap)
    (hc : ∀ i : Nat, i < len → w.cell? ⟨blk, off + i, none⟩ = some (.int .u8 (zs.getD i 0))) (hb : OkB zs) :
    Calls Try.prog 29 #[.slice (some ⟨blk, off, none⟩) len cap, .int .i64 at_, .int .i64 n] w fun e w' =>
      (at_ + n ≤ (len : Int) → e = .returned (.tuple #[.int .u32 (beV zs at_.toNat n), .int .i64 0])) ∧ ((len : Int) < at_ + n → e = .returned (.tuple #[.int .u32 0, .int .i64 2])) ∧ w' = w := by
  obtain ⟨a, rfl⟩ := Int.eq_ofNat_of_zero_le h0
  have hfin := hidden (rb_beV zs a n hn)
  have HC := hidden hc
  clear hc
  have hn4 : 1 ≤ n ∧ n ≤ 4 := by rcases hn with h | h | h <;> omega
  have m1 : (n != 1 && n != 2 && n != 4) = false := by rcases hn with rfl | rfl | rfl <;> rfl
  have HM := hidden m1
  clear m1
  rw [Int.toNat_natCast]
  rcases hn with rfl | rfl | rfl
  · have hend : Hid (rb zs a 1 = beV zs a 1) := hfin
    go_enter Try.func29, Try.ntmps29
    go_wp2
    go_loop [8, 9] (fun x i => ∃ k : Nat, k ≤ 4 ∧ (k : Int) ≤ 1 ∧ a + k ≤ len ∧ i = .int .i64 k ∧ x = .int .i64 (rb zs a k)) (fun _ i => 4 - (intOf i).toNat)
    case atStart => exact ⟨0, by omega, by omega, by omega, rfl, rfl⟩
    case round =>
      obtain ⟨k, hk4, hkn, hal, rfl, rfl⟩ := hrel
      have hbd := rb_bd zs a k hb hk4
      by_cases hkk : (k : Int) < 1
      · have hk3 : k ≤ 3 := by omega
        have hbd3 := hbd.2.2 hk3
        by_cases hal2 : a + k < len
        · have hcell := HC.out (a + k) hal2
          have hz := hb.at (a + k)
          have hst : Hid (rb zs a (k + 1) = 256 * rb zs a k + zs.getD (a + k) 0) := hidden rfl
          generalize rb zs a k = X at hst hbd hbd3 ⊢
          generalize zs.getD (a + k) 0 = Z at hst hz hcell
          have hni : ((a : Int) + (k : Int)).toNat = a + k := by omega
          have hlt2 : (a : Int) + (k : Int) < (len : Int) := by omega
          go_wp2
          go_round
          case rel => exact ⟨k + 1, by omega, by omega, by omega, by go_num, by rw [hst.out]⟩
          case measure => simp [intOf]; omega
        · exfalso; omega
      · have hkn2 : k = 1 := by omega
        subst hkn2
        go_wp2
        go_ret2
        exact ⟨fun _ => ret_two hend.out, fun h => absurd h (by omega), rfl⟩
  · have hend : Hid (rb zs a 2 = beV zs a 2) := hfin
    go_enter Try.func29, Try.ntmps29
    go_wp2
    go_loop [8, 9] (fun x i => ∃ k : Nat, k ≤ 4 ∧ (k : Int) ≤ 2 ∧ a + k ≤ len ∧ i = .int .i64 k ∧ x = .int .i64 (rb zs a k)) (fun _ i => 4 - (intOf i).toNat)
    case atStart => exact ⟨0, by omega, by omega, by omega, rfl, rfl⟩
    case round =>
      obtain ⟨k, hk4, hkn, hal, rfl, rfl⟩ := hrel
      have hbd := rb_bd zs a k hb hk4
      by_cases hkk : (k : Int) < 2
      · have hk3 : k ≤ 3 := by omega
        have hbd3 := hbd.2.2 hk3
        by_cases hal2 : a + k < len
        · have hcell := HC.out (a + k) hal2
          have hz := hb.at (a + k)
          have hst : Hid (rb zs a (k + 1) = 256 * rb zs a k + zs.getD (a + k) 0) := hidden rfl
          generalize rb zs a k = X at hst hbd hbd3 ⊢
          generalize zs.getD (a + k) 0 = Z at hst hz hcell
          have hni : ((a : Int) + (k : Int)).toNat = a + k := by omega
          have hlt2 : (a : Int) + (k : Int) < (len : Int) := by omega
          go_wp2
          go_round
          case rel => exact ⟨k + 1, by omega, by omega, by omega, by go_num, by rw [hst.out]⟩
          case measure => simp [intOf]; omega
        · go_wp2
          go_ret2
          exact ⟨fun h => absurd h (by omega), fun _ => rfl, rfl⟩
      · have hkn2 : k = 2 := by omega
        subst hkn2
        go_wp2
        go_ret2
        exact ⟨fun _ => ret_two hend.out, fun h => absurd h (by omega), rfl⟩
  · have hend : Hid (rb zs a 4 = beV zs a 4) := hfin
    go_enter Try.func29, Try.ntmps29
    go_wp2
    go_loop [8, 9] (fun x i => ∃ k : Nat, k ≤ 4 ∧ (k : Int) ≤ 4 ∧ a + k ≤ len ∧ i = .int .i64 k ∧ x = .int .i64 (rb zs a k)) (fun _ i => 4 - (intOf i).toNat)
    case atStart => exact ⟨0, by omega, by omega, by omega, rfl, rfl⟩
    case round =>
      obtain ⟨k, hk4, hkn, hal, rfl, rfl⟩ := hrel
      have hbd := rb_bd zs a k hb hk4
      by_cases hkk : (k : Int) < 4
      · have hk3 : k ≤ 3 := by omega
        have hbd3 := hbd.2.2 hk3
        by_cases hal2 : a + k < len
        · have hcell := HC.out (a + k) hal2
          have hz := hb.at (a + k)
          have hst : Hid (rb zs a (k + 1) = 256 * rb zs a k + zs.getD (a + k) 0) := hidden rfl
          generalize rb zs a k = X at hst hbd hbd3 ⊢
          generalize zs.getD (a + k) 0 = Z at hst hz hcell
          have hni : ((a : Int) + (k : Int)).toNat = a + k := by omega
          have hlt2 : (a : Int) + (k : Int) < (len : Int) := by omega
          go_wp2
          go_round
          case rel => exact ⟨k + 1, by omega, by omega, by omega, by go_num, by rw [hst.out]⟩
          case measure => simp [intOf]; omega
        · go_wp2
          go_ret2
          exact ⟨fun h => absurd h (by omega), fun _ => rfl, rfl⟩
      · have hkn2 : k = 4 := by omega
        subst hkn2
        go_wp2
        go_ret2
        exact ⟨fun _ => ret_two hend.out, fun h => absurd h (by omega), rfl⟩
theorem dbe_any (g o n c p k : Nat) (zs : List Int) (w : World) (hB : Bs w g o n zs) (hb : OkB zs) (hc : n ≤ c) (hn : n ≤ 1000000) (hk : k = 1 ∨ k = 2 ∨ k = 4) (hp : p + k ≤ n) :
    Calls Try.prog 29 #[.slice (some ⟨g, o, none⟩) n c, .int .i64 p, .int .i64 k] w fun e w' => e = .returned (.tuple #[.int .u32 (beV zs p k), .int .i64 0]) ∧ w' = w := by
  refine (rbe_any g o n c zs (p : Int) (k : Int) w (by unfold IsW; omega) (by omega) (by omega) (by omega) hc hB.2 hb).mono ?_
  rintro e w' ⟨h1, _, h3⟩
  exact ⟨h1 (by omega), h3⟩
def sizI (m : Int) : Int := if okM m then widI m else -1
theorem siz_dec : ∀ m : Fin 16, sizI (m.val : Int) = if (m.val : Int) % 8 = 4 then -1 else if (m.val : Int) % 4 = 3 then 4 else (m.val : Int) % 4 := by decide
theorem okM_no {m : Int} (h : m < 0 ∨ 15 < m) : okM m = false := by
  cases hk : okM m with
  | false => rfl
  | true => have := okM_bd hk; omega
theorem dsize_any (m : Int) (w : World) :
    Calls Try.prog 32 #[.int .i64 m] w fun e w' => e = .returned (.int .i64 (sizI m)) ∧ w' = w := by
  by_cases h0 : m < 0
  · have e : sizI m = -1 := by unfold sizI; rw [okM_no (.inl h0)]; rfl
    rw [e]
    go_enter Try.func32, Try.ntmps32
    go_wp2
    go_ret
    exact ⟨rfl, rfl⟩
  by_cases h1 : 15 < m
  · have e : sizI m = -1 := by unfold sizI; rw [okM_no (.inr h1)]; rfl
    have h1' : m > 15 := h1
    rw [e]
    go_enter Try.func32, Try.ntmps32
    go_wp2
    go_ret
    exact ⟨rfl, rfl⟩
  have hd := siz_dec ⟨m.toNat, by omega⟩
  simp only at hd
  rw [show ((m.toNat : Nat) : Int) = m by omega] at hd
  rw [hd]
  have h1' : ¬ m > 15 := h1
  have t8 : m.tmod 8 = m % 8 := Int.tmod_eq_emod_of_nonneg (by omega)
  have t4 : m.tmod 4 = m % 4 := Int.tmod_eq_emod_of_nonneg (by omega)
  have w8 : IntKind.i64.wrap (m % 8) = m % 8 := by rw [IntKind.wrap_i64]; omega
  have w4 : IntKind.i64.wrap (m % 4) = m % 4 := by rw [IntKind.wrap_i64]; omega
  clear hd
  by_cases h8 : m % 8 = 4
  · rw [if_pos h8]
    have q8 : (m % 8 == 4) = true := by simpa using h8
    clear h8
    go_enter Try.func32, Try.ntmps32
    go_wp2
    go_ret
    exact ⟨rfl, rfl⟩
  · rw [if_neg h8]
    have q8 : (m % 8 == 4) = false := by simpa using h8
    by_cases h4 : m % 4 = 3
    · rw [if_pos h4]
      have q4 : (m % 4 == 3) = true := by simpa using h4
      clear h4
      go_enter Try.func32, Try.ntmps32
      go_wp2
      go_ret
      exact ⟨rfl, rfl⟩
    · rw [if_neg h4]
      have q4 : (m % 4 == 3) = false := by simpa using h4
      go_enter Try.func32, Try.ntmps32
      go_wp2
      go_ret
      exact ⟨rfl, rfl⟩
theorem dmay_any (c m : Int) (w : World) (hc : c = 76 ∨ c = 83) :
    Calls Try.prog 31 #[.int .u8 c, .int .i64 m] w fun e w' => e = .returned (.bool (mayB c m)) ∧ w' = w := by
  have HS := hidden fun wx => dsize_any m wx
  cases hk : okM m
  · have e : mayB c m = false := by unfold mayB; rw [hk]; rfl
    have e2 : sizI m = -1 := by unfold sizI; rw [hk]; rfl
    rw [e2] at HS
    rw [e]
    go_enter Try.func31, Try.ntmps31
    go_wp2_with (first | (go_at_call 32; refine (HS.out _).mono ?_; rintro e w1 ⟨rfl, rfl⟩))
    go_ret
    exact ⟨rfl, rfl⟩
  · have hbd := okM_bd hk
    have e2 : sizI m = widI m := by unfold sizI; rw [hk]; rfl
    have hw := wid_cases m
    rw [e2] at HS
    have d : ¬ widI m < 0 := by omega
    generalize widI m = WI at *
    rcases hc with rfl | rfl
    · have e : mayB 76 m = true := by unfold mayB; rw [hk]; rfl
      rw [e]
      go_enter Try.func31, Try.ntmps31
      go_wp2_with (first | (go_at_call 32; refine (HS.out _).mono ?_; rintro e w1 ⟨rfl, rfl⟩))
      go_ret
      exact ⟨rfl, rfl⟩
    · by_cases h0 : m = 0
      · subst h0
        have e : mayB 83 0 = true := rfl
        rw [e]
        go_enter Try.func31, Try.ntmps31
        go_wp2_with (first | (go_at_call 32; refine (HS.out _).mono ?_; rintro e w1 ⟨rfl, rfl⟩))
        go_ret
        exact ⟨rfl, rfl⟩
      · have q0 : (m == 0) = false := by simpa using h0
        by_cases h3 : m > 3
        · have e : mayB 83 m = true := by
            unfold mayB isC
            rw [hk, show (m == 1) = false by simp; omega, show (m == 2) = false by simp; omega, show (m == 3) = false by simp; omega]
            rfl
          rw [e]
          go_enter Try.func31, Try.ntmps31
          go_wp2_with (first | (go_at_call 32; refine (HS.out _).mono ?_; rintro e w1 ⟨rfl, rfl⟩))
          go_ret
          exact ⟨rfl, rfl⟩
        · have e : mayB 83 m = false := by
            unfold mayB isC
            rw [hk]
            rcases (show m = 1 ∨ m = 2 ∨ m = 3 by omega) with rfl | rfl | rfl <;> rfl
          have d3 : decide (3 < m) = false := by simp; omega
          rw [e]
          go_enter Try.func31, Try.ntmps31
          go_wp2_with (first | (go_at_call 32; refine (HS.out _).mono ?_; rintro e w1 ⟨rfl, rfl⟩))
          go_ret
          first | exact ⟨rfl, rfl⟩ | exact ⟨by rw [← d3]; rfl, rfl⟩
end Go.Proofs.Ytpkfmccnjandoaa
