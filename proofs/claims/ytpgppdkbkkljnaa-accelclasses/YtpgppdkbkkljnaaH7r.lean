/- Contracts of the document's own Be and Put of four bytes (package grottoref01). -/
import Derived.Test.YtpgppdkbkkljnaaH7a
import Derived.Handy
namespace Go.Proofs.Ytpgppdkbkkljnaa
open Go.RowKit
set_option maxHeartbeats 1000000
set_option maxRecDepth 100000
set_option linter.unusedVariables false

/-- what the first k bytes from place a on say -/
def rb (zs : List Int) (a : Nat) : Nat → Int
  | 0 => 0
  | k + 1 => 256 * rb zs a k + zs.getD (a + k) 0
theorem OkB.at {zs : List Int} (hb : OkB zs) (i : Nat) : 0 ≤ zs.getD i 0 ∧ zs.getD i 0 ≤ 255 := by
  rw [List.getD_eq_getElem?_getD]
  cases h : zs[i]? with
  | none => simp
  | some c => exact hb c (List.mem_of_getElem? h)
theorem rb_bd (zs : List Int) (a k : Nat) (hb : OkB zs) (hk : k ≤ 4) : 0 ≤ rb zs a k ∧ rb zs a k ≤ 4294967295 ∧ (k ≤ 3 → rb zs a k ≤ 16777215) := by
  have h0 := hb.at (a + 0)
  have h1 := hb.at (a + 1)
  have h2 := hb.at (a + 2)
  have h3 := hb.at (a + 3)
  match k, hk with
  | 0, _ => simp [rb]
  | 1, _ => simp only [rb]; omega
  | 2, _ => simp only [rb]; omega
  | 3, _ => simp only [rb]; omega
  | 4, _ => simp only [rb]; omega
theorem rb_beV (zs : List Int) (a : Nat) (n : Int) (hn : IsW n) : rb zs a n.toNat = beV zs a n := by
  rcases hn with rfl | rfl | rfl
  · show rb zs a 1 = _
    simp [rb, beV]
  · show rb zs a 2 = _
    simp [rb, beV]
  · show rb zs a 4 = _
    simp only [rb, beV, if_neg (show ¬ (4 : Int) = 1 by decide), if_neg (show ¬ (4 : Int) = 2 by decide), Nat.add_zero]; omega
theorem rbe_far (ad : Option Addr) (len cap : Nat) (at_ n : Int) (w : World) (hn : IsW n) (h0 : 0 ≤ at_) (_ha : at_ ≤ 9223372036854775807) (hl : (len : Int) ≤ at_) :
    Calls Try.prog 72 #[.slice ad len cap, .int .i64 at_, .int .i64 n] w fun e w' => e = .returned (.tuple #[.int .u32 0, .int .i64 2]) ∧ w' = w := by
  rcases hn with rfl | rfl | rfl
  all_goals
    go_enter Try.func72, Try.ntmps72
    go_wp2
    go_loop [8, 9] (fun x i => i = .int .i64 0 ∧ x = .int .i64 0) (fun _ _ => 0)
    case atStart => exact ⟨rfl, rfl⟩
    case round =>
      obtain ⟨rfl, rfl⟩ := hrel
      go_wp2
      go_ret2
      exact ⟨rfl, rfl⟩
theorem rbe_any (blk off len cap : Nat) (zs : List Int) (at_ n : Int) (w : World) (hn : IsW n) (h0 : 0 ≤ at_) (hl : (len : Int) ≤ 1000012) (hat : at_ < (len : Int)) (_hcap : len ≤ cap)
    (hc : ∀ i : Nat, i < len → w.cell? ⟨blk, off + i, none⟩ = some (.int .u8 (zs.getD i 0))) (hb : OkB zs) :
    Calls Try.prog 72 #[.slice (some ⟨blk, off, none⟩) len cap, .int .i64 at_, .int .i64 n] w fun e w' =>
      (at_ + n ≤ (len : Int) → e = .returned (.tuple #[.int .u32 (beV zs at_.toNat n), .int .i64 0])) ∧ ((len : Int) < at_ + n → e = .returned (.tuple #[.int .u32 0, .int .i64 2])) ∧ w' = w := by
  obtain ⟨a, rfl⟩ := Int.eq_ofNat_of_zero_le h0
  have hfin := hidden (rb_beV zs a n hn)
  have HC := hidden hc
  clear hc
  have hn4 : 1 ≤ n ∧ n ≤ 4 := by rcases hn with h | h | h <;> omega
  have m1 : (n != 1 && n != 2 && n != 4) = false := by rcases hn with rfl | rfl | rfl <;> rfl
  have HM := hidden m1
  clear m1
  rw [Int.toNat_natCast]
  rcases hn with rfl | rfl | rfl
  · have hend : Hid (rb zs a 1 = beV zs a 1) := hfin
    go_enter Try.func72, Try.ntmps72
    go_wp2
    go_loop [8, 9] (fun x i => ∃ k : Nat, k ≤ 4 ∧ (k : Int) ≤ 1 ∧ a + k ≤ len ∧ i = .int .i64 k ∧ x = .int .i64 (rb zs a k)) (fun _ i => 4 - (intOf i).toNat)
    case atStart => exact ⟨0, by omega, by omega, by omega, rfl, rfl⟩
    case round =>
      obtain ⟨k, hk4, hkn, hal, rfl, rfl⟩ := hrel
      have hbd := rb_bd zs a k hb hk4
      by_cases hkk : (k : Int) < 1
      · have hk3 : k ≤ 3 := by omega
        have hbd3 := hbd.2.2 hk3
        by_cases hal2 : a + k < len
        · have hcell := HC.out (a + k) hal2
          have hz := hb.at (a + k)
          have hst : Hid (rb zs a (k + 1) = 256 * rb zs a k + zs.getD (a + k) 0) := hidden rfl
          generalize rb zs a k = X at hst hbd hbd3 ⊢
          generalize zs.getD (a + k) 0 = Z at hst hz hcell
          have hni : ((a : Int) + (k : Int)).toNat = a + k := by omega
          have hlt2 : (a : Int) + (k : Int) < (len : Int) := by omega
          go_wp2
          go_round
          case rel => exact ⟨k + 1, by omega, by omega, by omega, by go_num, by rw [hst.out]⟩
          case measure => simp [intOf]; omega
        · exfalso; omega
      · have hkn2 : k = 1 := by omega
        subst hkn2
        go_wp2
        go_ret2
        exact ⟨fun _ => ret_two hend.out, fun h => absurd h (by omega), rfl⟩
  · have hend : Hid (rb zs a 2 = beV zs a 2) := hfin
    go_enter Try.func72, Try.ntmps72
    go_wp2
    go_loop [8, 9] (fun x i => ∃ k : Nat, k ≤ 4 ∧ (k : Int) ≤ 2 ∧ a + k ≤ len ∧ i = .int .i64 k ∧ x = .int .i64 (rb zs a k)) (fun _ i => 4 - (intOf i).toNat)
    case atStart => exact ⟨0, by omega, by omega, by omega, rfl, rfl⟩
    case round =>
      obtain ⟨k, hk4, hkn, hal, rfl, rfl⟩ := hrel
      have hbd := rb_bd zs a k hb hk4
      by_cases hkk : (k : Int) < 2
      · have hk3 : k ≤ 3 := by omega
        have hbd3 := hbd.2.2 hk3
        by_cases hal2 : a + k < len
        · have hcell := HC.out (a + k) hal2
          have hz := hb.at (a + k)
          have hst : Hid (rb zs a (k + 1) = 256 * rb zs a k + zs.getD (a + k) 0) := hidden rfl
          generalize rb zs a k = X at hst hbd hbd3 ⊢
          generalize zs.getD (a + k) 0 = Z at hst hz hcell
          have hni : ((a : Int) + (k : Int)).toNat = a + k := by omega
          have hlt2 : (a : Int) + (k : Int) < (len : Int) := by omega
          go_wp2
          go_round
          case rel => exact ⟨k + 1, by omega, by omega, by omega, by go_num, by rw [hst.out]⟩
          case measure => simp [intOf]; omega
        · go_wp2
          go_ret2
          exact ⟨fun h => absurd h (by omega), fun _ => rfl, rfl⟩
      · have hkn2 : k = 2 := by omega
        subst hkn2
        go_wp2
        go_ret2
        exact ⟨fun _ => ret_two hend.out, fun h => absurd h (by omega), rfl⟩
  · have hend : Hid (rb zs a 4 = beV zs a 4) := hfin
    go_enter Try.func72, Try.ntmps72
    go_wp2
    go_loop [8, 9] (fun x i => ∃ k : Nat, k ≤ 4 ∧ (k : Int) ≤ 4 ∧ a + k ≤ len ∧ i = .int .i64 k ∧ x = .int .i64 (rb zs a k)) (fun _ i => 4 - (intOf i).toNat)
    case atStart => exact ⟨0, by omega, by omega, by omega, rfl, rfl⟩
    case round =>
      obtain ⟨k, hk4, hkn, hal, rfl, rfl⟩ := hrel
      have hbd := rb_bd zs a k hb hk4
      by_cases hkk : (k : Int) < 4
      · have hk3 : k ≤ 3 := by omega
        have hbd3 := hbd.2.2 hk3
        by_cases hal2 : a + k < len
        · have hcell := HC.out (a + k) hal2
          have hz := hb.at (a + k)
          have hst : Hid (rb zs a (k + 1) = 256 * rb zs a k + zs.getD (a + k) 0) := hidden rfl
          generalize rb zs a k = X at hst hbd hbd3 ⊢
          generalize zs.getD (a + k) 0 = Z at hst hz hcell
          have hni : ((a : Int) + (k : Int)).toNat = a + k := by omega
          have hlt2 : (a : Int) + (k : Int) < (len : Int) := by omega
          go_wp2
          go_round
          case rel => exact ⟨k + 1, by omega, by omega, by omega, by go_num, by rw [hst.out]⟩
          case measure => simp [intOf]; omega
        · go_wp2
          go_ret2
          exact ⟨fun h => absurd h (by omega), fun _ => rfl, rfl⟩
      · have hkn2 : k = 4 := by omega
        subst hkn2
        go_wp2
        go_ret2
        exact ⟨fun _ => ret_two hend.out, fun h => absurd h (by omega), rfl⟩
def pw (n k : Nat) : Int := if n ≤ k then 0 else 256 ^ (n - 1 - k)
theorem pw_facts (x n : Int) (hn : IsW n) (k : Nat) (hk : (k : Int) < n) :
    0 < pw n.toNat k ∧ pw n.toNat k ≤ 16777216 ∧ pw n.toNat k / 256 = pw n.toNat (k + 1) ∧ x / pw n.toNat k % 256 = (putL x n).getD k 0 ∧ (bytesV (putL x n)).take k ++ [.int .u8 ((putL x n).getD k 0)] = (bytesV (putL x n)).take (k + 1) := by
  rcases hn with rfl | rfl | rfl
  · obtain rfl : k = 0 := by omega
    refine ⟨by decide, by decide, by decide, ?_, rfl⟩
    show x / 1 % 256 = x % 256
    omega
  · obtain rfl | rfl : k = 0 ∨ k = 1 := by omega
    · refine ⟨by decide, by decide, by decide, ?_, rfl⟩
      show x / 256 % 256 = x / 256 % 256
      rfl
    · refine ⟨by decide, by decide, by decide, ?_, rfl⟩
      show x / 1 % 256 = x % 256
      omega
  · obtain rfl | rfl | rfl | rfl : k = 0 ∨ k = 1 ∨ k = 2 ∨ k = 3 := by omega
    · refine ⟨by decide, by decide, by decide, ?_, rfl⟩
      show x / 16777216 % 256 = x / 16777216 % 256
      rfl
    · refine ⟨by decide, by decide, by decide, ?_, rfl⟩
      show x / 65536 % 256 = x / 65536 % 256
      rfl
    · refine ⟨by decide, by decide, by decide, ?_, rfl⟩
      show x / 256 % 256 = x / 256 % 256
      rfl
    · refine ⟨by decide, by decide, by decide, ?_, rfl⟩
      show x / 1 % 256 = x % 256
      omega
theorem rput_4 (x : Int) (w : World) (x0 : 0 ≤ x) (x1 : x ≤ 4294967295) :
    Calls Try.prog 37 #[.int .u32 x, .int .i64 4] w fun e w' => ∃ v, e = .returned v ∧ w'.ownsRow w.heap.size 5 1 v 4 (bytesV (putL x 4)) ∧ Below w.heap.size w w' := by
  obtain ⟨i0, hi, hz0, hz1, hz2⟩ := info_parts info8
  have hpf := hidden (fun k h => pw_facts x 4 (Or.inr (Or.inr rfl)) k h)
  have hend : Hid ((bytesV (putL x 4)).take 4 = bytesV (putL x 4)) := hidden rfl
  have hbnd := hidden (putL_bd x 4)
  have hst0 : Hid ((16777216 : Int) = pw 4 0) := hidden (by decide)
  change Hid (∀ k : Nat, (k : Int) < 4 → 0 < pw 4 k ∧ pw 4 k ≤ 16777216 ∧ pw 4 k / 256 = pw 4 (k + 1) ∧ x / pw 4 k % 256 = (putL x 4).getD k 0 ∧ (bytesV (putL x 4)).take k ++ [.int .u8 ((putL x 4).getD k 0)] = (bytesV (putL x 4)).take (k + 1)) at hpf
  generalize putL x 4 = L at *
  go_enter Try.func37, Try.ntmps37
  go_wp2
  go_rounds 4
  go_loopw [5, 6, 8] (fun v p i w' => ∃ k : Nat, k ≤ 4 ∧ i = .int .i64 k ∧ p = .int .i64 (pw 4 k) ∧ w'.ownsRow w.heap.size 5 1 v k ((bytesV L).take k) ∧ Below w.heap.size w w') (fun _ _ i _ => 4 - (intOf i).toNat)
  case atStart => exact ⟨0, by omega, rfl, by rw [← hst0.out], World.ownsRow_nil _ _ _ _, Below.refl _ _⟩
  case round =>
    obtain ⟨k, hk, rfl, rfl, hown, hbl⟩ := hrel
    have HO := hidden hown
    clear hown
    by_cases hlt : (k : Int) < 4
    · obtain ⟨p1, p2, p3, p4, p5⟩ := hpf.out k hlt
      have hx0 : 0 ≤ x / pw 4 k := Int.ediv_nonneg x0 (by omega)
      have hx1 : x / pw 4 k ≤ 4294967295 := Int.le_trans (Int.ediv_le_self _ x0) x1
      have hc0 : 0 ≤ x / pw 4 k % 256 ∧ x / pw 4 k % 256 ≤ 255 := by omega
      have H3 := hidden p3
      have H4 := hidden p4
      have H5 := hidden p5
      clear p3 p4 p5
      have hz : (pw 4 k == 0) = false := by simp; omega
      generalize pw 4 k = p at *
      have hs := hbl.size
      have HO1 := hidden (HO.out.alloc (.cells #[.int .u8 (x / p % 256)] 5))
      have HN1 := hidden (new_cell wr [x / p % 256] (by unfold maxLen; simp))
      have hb1 : Below w.heap.size w (wr.alloc (.cells #[.int .u8 (x / p % 256)] 5)) := hbl.alloc hs _
      have HL := hidden HO.out.lt
      go_wp2_with (at_builtin; refine wpList_append_own _ rfl (.tmp 31) (.tmp 38) 50 rfl w.heap.size 5 i0 (.int .u8 0) 1 1 Try.underlying50 hi hz0 hz1 hz2 rfl (by decide) _ _ _ rfl HO1.out ⟨wr.heap.size, 0, none⟩ 1 1 (bytesV [x / p % 256]) rfl rfl HN1.out (bytesV_one _) (by unfold maxLen; omega) (by omega) (by simp; omega) ?_; intro v2 w2 hown2 hgrow2 hiff2; clear hiff2; refine Hid.out ?_)
      have hb2 : Below w.heap.size w w2 := hb1.grown hgrow2 (by simp; omega) (by intro k hk; exact (HL.out k hk).1)
      have hown3 : w2.ownsRow w.heap.size 5 1 v2 (k + 1) ((bytesV L).take (k + 1)) := by
        rw [← H5.out, ← H4.out]; exact hown2
      have HO3 := hidden hown3
      clear hown2 hown3 hgrow2 HO HO1 HN1 HL hb1
      refine hidden ?_
      go_wp2
      go_roundw
      case rel => exact ⟨k + 1, by omega, by go_num, by rw [← H3.out], HO3.out, hb2⟩
      case measure => simp [intOf]; omega
    · obtain rfl : k = 4 := by omega
      go_wp2
      go_ret
      refine ⟨_, rfl, ?_, hbl⟩
      rw [← hend.out]
      exact HO.out
end Go.Proofs.Ytpgppdkbkkljnaa
