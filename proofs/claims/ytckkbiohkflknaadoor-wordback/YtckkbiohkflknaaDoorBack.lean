/- The walk of WordBack: for any two words and any number of bytes: bytes that are put are read back, wherever they stand. -/
import Derived.Test.YtckkbiohkflknaaDoorTabs
import Derived.Test.YtckkbiohkflknaaDoorRefs
import Derived.Test.YtckkbiohkflknaaDoorBytes2
namespace Go.Proofs.YtckkbiohkflknaaDoor
open Go.RowKit
set_option maxHeartbeats 1000000

theorem put_back (x : Int) (n : Int) (l : List Int) (hn : IsW n) (_x0 : 0 ≤ x) (x1 : x ≤ 4294967295) : beV (l ++ putL x n) l.length n = if n = 1 then x % 256 else if n = 2 then x % 65536 else x := by
  have g : ∀ i, (l ++ putL x n).getD (l.length + i) 0 = (putL x n).getD i 0 := fun i => by simp [List.getD_eq_getElem?_getD, List.getElem?_append_right]
  have g0 := g 0
  have g1 := g 1
  have g2 := g 2
  have g3 := g 3
  rw [Nat.add_zero] at g0
  unfold beV
  rw [g0, g1, g2, g3]
  rcases hn with rfl | rfl | rfl
  · simp [putL]
  · simp [putL]; omega
  · simp [putL]; omega
theorem fst_back (x : Int) (l : List Int) (_x0 : 0 ≤ x) (x1 : x ≤ 4294967295) : beV (putL x 4 ++ l) 0 4 = x := by
  simp [beV, putL]; omega
theorem back_1 (a0 a1 : Int) (w : World) (b0 : 0 ≤ a0 ∧ a0 ≤ 4294967295) (b1 : 0 ≤ a1 ∧ a1 ≤ 4294967295) (ht : Laid w) :
    Calls Tryd.prog 4 #[.int .u32 a0, .int .u32 a1, .int .i64 1] w fun e w' => e = .returned (.bool true) ∧ Below w.heap.size w w' := by
  obtain ⟨i0, hi, hz0, hz1, hz2⟩ := info_parts info8
  have HO := hidden ((owns_new w w.heap.size (putL a0 4) (Nat.le_refl _) (by show 4 ≤ maxLen; unfold maxLen; omega)).alloc (.cells (bytesV (putL a1 1)).toArray 5))
  have HN := hidden (new_cell_at (w.alloc (.cells (bytesV (putL a0 4)).toArray 5)) (putL a1 1) (by show 1 ≤ maxLen; unfold maxLen; omega) (w.heap.size + 1) (by simp))
  have hbel := hidden (Go.Joins.below_alloc2 w (.cells (bytesV (putL a0 4)).toArray 5) (.cells (bytesV (putL a1 1)).toArray 5))
  have hf1 := hidden (fst_back a0 (putL a1 1) b0.1 b0.2)
  have hf2 : Hid (beV (putL a0 4 ++ putL a1 1) 4 1 = a1 % 256) := hidden ((put_back a1 1 (putL a0 4) (Or.inl rfl) b1.1 b1.2).trans rfl)
  have hbd := hidden (append_bd _ _ (putL_bd a0 4) (putL_bd a1 1))
  have hlq := hidden (show (bytesV (putL a1 1)).length = 1 * 1 from rfl)
  have hone := hidden (bytesV_one (putL a1 1))
  have C1 := hidden (fun w => putn_4 a0 w)
  have C2 := hidden (fun w => putn_1 a1 w)
  change Hid (World.ownsRow _ _ _ _ (.slice _ 4 4) 4 _) at HO
  generalize putL a0 4 = P at *
  generalize putL a1 1 = Q at *
  have hsh : shlW 4294967295 8 = 4294967040 := by decide +kernel
  have hnot : bits .andNot .u32 a1 4294967040 = a1 % 256 := by
    rw [u32_andNot _ _ b1.1 (by omega) (by decide) (by decide)]
    have e : (4294967295 - (4294967040 : Int).toNat) = 255 := by decide
    rw [e, nat_mask8]; omega
  go_enter Tryd.func4, Tryd.ntmps4
  go_wp2_with fail
  refine (C1.out _).mono ?_
  rintro e w1 ⟨rfl, hw⟩
  subst hw
  go_wp2_with fail
  refine (C2.out _).mono ?_
  rintro e w1 ⟨rfl, hw⟩
  subst hw
  go_wp2_with (at_builtin; refine wpList_append_own _ rfl _ _ 22 rfl w.heap.size 5 i0 (.int .u8 0) 1 1 Tryd.underlying22 hi hz0 hz1 hz2 rfl (by decide) _ _ _ rfl HO.out ⟨w.heap.size + 1, 0, none⟩ 1 1 (bytesV Q) rfl hlq.out HN.out hone.out (by unfold maxLen; omega) (by omega) (by simp; omega) ?_; intro v' w3 hown3 hgrow3 hiff; clear hiff; refine Hid.out ?_)
  have hb3 : Below w.heap.size w w3 := hbel.out.grown hgrow3 (by simp; omega) (by intro k hk; have e : some w.heap.size = some k := hk; simp at e; omega)
  rw [bytesV_append] at hown3
  obtain ⟨g, cap, rfl, hcap, hg⟩ := owned_shape hown3 (by omega)
  have HC := hidden (owned_cells hown3)
  have HT : TabOK w3 := TabOK.below ht hb3 (Nat.le_refl _)
  clear hown3 hgrow3 HO HN hbel hlq hone C1 C2
  refine hidden ?_
  go_wp2_with fail
  refine (be_any g 0 _ cap (P ++ Q) 0 4 _ (Or.inr (Or.inr rfl)) (by omega) (by omega) (by omega) (by omega) HC.out hbd.out).mono ?_
  rintro e w4 ⟨rfl, hw⟩
  obtain rfl := hw.symm
  rw [show (0 : Int).toNat = 0 from rfl, hf1.out]
  go_wp2_with (go_at_call 14; refine (num_any _ _).mono ?_; rintro e w4 ⟨rfl, hw⟩; obtain rfl := hw.symm)
  refine (be_any g 0 _ cap (P ++ Q) 4 1 _ (Or.inl rfl) (by omega) (by omega) (by omega) (by omega) HC.out hbd.out).mono ?_
  rintro e w4 ⟨rfl, hw⟩
  obtain rfl := hw.symm
  rw [show (4 : Int).toNat = 4 from rfl, hf2.out]
  go_wp2_with (first | (go_at_call 14; refine (num_any _ _).mono ?_; rintro e w4 ⟨rfl, hw⟩; obtain rfl := hw.symm) | (go_at_call 18; refine (shl_any _ _ _ (by omega) (by omega)).mono ?_; rintro e w4 ⟨rfl, hw⟩; obtain rfl := hw.symm) | (go_at_call 9; refine (live_any _ HT).mono ?_; rintro e w5 ⟨rfl, hb5⟩))
  go_ret
  exact ⟨rfl, hb3.trans (hb5.mono hb3.size)⟩
theorem back_2 (a0 a1 : Int) (w : World) (b0 : 0 ≤ a0 ∧ a0 ≤ 4294967295) (b1 : 0 ≤ a1 ∧ a1 ≤ 4294967295) (ht : Laid w) :
    Calls Tryd.prog 4 #[.int .u32 a0, .int .u32 a1, .int .i64 2] w fun e w' => e = .returned (.bool true) ∧ Below w.heap.size w w' := by
  obtain ⟨i0, hi, hz0, hz1, hz2⟩ := info_parts info8
  have HO := hidden ((owns_new w w.heap.size (putL a0 4) (Nat.le_refl _) (by show 4 ≤ maxLen; unfold maxLen; omega)).alloc (.cells (bytesV (putL a1 2)).toArray 5))
  have HN := hidden (new_cell_at (w.alloc (.cells (bytesV (putL a0 4)).toArray 5)) (putL a1 2) (by show 2 ≤ maxLen; unfold maxLen; omega) (w.heap.size + 1) (by simp))
  have hbel := hidden (Go.Joins.below_alloc2 w (.cells (bytesV (putL a0 4)).toArray 5) (.cells (bytesV (putL a1 2)).toArray 5))
  have hf1 := hidden (fst_back a0 (putL a1 2) b0.1 b0.2)
  have hf2 : Hid (beV (putL a0 4 ++ putL a1 2) 4 2 = a1 % 65536) := hidden ((put_back a1 2 (putL a0 4) (Or.inr (Or.inl rfl)) b1.1 b1.2).trans rfl)
  have hbd := hidden (append_bd _ _ (putL_bd a0 4) (putL_bd a1 2))
  have hlq := hidden (show (bytesV (putL a1 2)).length = 2 * 1 from rfl)
  have hone := hidden (bytesV_one (putL a1 2))
  have C1 := hidden (fun w => putn_4 a0 w)
  have C2 := hidden (fun w => putn_2 a1 w)
  change Hid (World.ownsRow _ _ _ _ (.slice _ 4 4) 4 _) at HO
  generalize putL a0 4 = P at *
  generalize putL a1 2 = Q at *
  have hsh : shlW 4294967295 16 = 4294901760 := by decide +kernel
  have hnot : bits .andNot .u32 a1 4294901760 = a1 % 65536 := by
    rw [u32_andNot _ _ b1.1 (by omega) (by decide) (by decide)]
    have e : (4294967295 - (4294901760 : Int).toNat) = 65535 := by decide
    rw [e, nat_mask16]; omega
  go_enter Tryd.func4, Tryd.ntmps4
  go_wp2_with fail
  refine (C1.out _).mono ?_
  rintro e w1 ⟨rfl, hw⟩
  subst hw
  go_wp2_with fail
  refine (C2.out _).mono ?_
  rintro e w1 ⟨rfl, hw⟩
  subst hw
  go_wp2_with (at_builtin; refine wpList_append_own _ rfl _ _ 22 rfl w.heap.size 5 i0 (.int .u8 0) 1 1 Tryd.underlying22 hi hz0 hz1 hz2 rfl (by decide) _ _ _ rfl HO.out ⟨w.heap.size + 1, 0, none⟩ 2 2 (bytesV Q) rfl hlq.out HN.out hone.out (by unfold maxLen; omega) (by omega) (by simp; omega) ?_; intro v' w3 hown3 hgrow3 hiff; clear hiff; refine Hid.out ?_)
  have hb3 : Below w.heap.size w w3 := hbel.out.grown hgrow3 (by simp; omega) (by intro k hk; have e : some w.heap.size = some k := hk; simp at e; omega)
  rw [bytesV_append] at hown3
  obtain ⟨g, cap, rfl, hcap, hg⟩ := owned_shape hown3 (by omega)
  have HC := hidden (owned_cells hown3)
  have HT : TabOK w3 := TabOK.below ht hb3 (Nat.le_refl _)
  clear hown3 hgrow3 HO HN hbel hlq hone C1 C2
  refine hidden ?_
  go_wp2_with fail
  refine (be_any g 0 _ cap (P ++ Q) 0 4 _ (Or.inr (Or.inr rfl)) (by omega) (by omega) (by omega) (by omega) HC.out hbd.out).mono ?_
  rintro e w4 ⟨rfl, hw⟩
  obtain rfl := hw.symm
  rw [show (0 : Int).toNat = 0 from rfl, hf1.out]
  go_wp2_with (go_at_call 14; refine (num_any _ _).mono ?_; rintro e w4 ⟨rfl, hw⟩; obtain rfl := hw.symm)
  refine (be_any g 0 _ cap (P ++ Q) 4 2 _ (Or.inr (Or.inl rfl)) (by omega) (by omega) (by omega) (by omega) HC.out hbd.out).mono ?_
  rintro e w4 ⟨rfl, hw⟩
  obtain rfl := hw.symm
  rw [show (4 : Int).toNat = 4 from rfl, hf2.out]
  go_wp2_with (first | (go_at_call 14; refine (num_any _ _).mono ?_; rintro e w4 ⟨rfl, hw⟩; obtain rfl := hw.symm) | (go_at_call 18; refine (shl_any _ _ _ (by omega) (by omega)).mono ?_; rintro e w4 ⟨rfl, hw⟩; obtain rfl := hw.symm) | (go_at_call 9; refine (live_any _ HT).mono ?_; rintro e w5 ⟨rfl, hb5⟩))
  go_ret
  exact ⟨rfl, hb3.trans (hb5.mono hb3.size)⟩
theorem back_4 (a0 a1 : Int) (w : World) (b0 : 0 ≤ a0 ∧ a0 ≤ 4294967295) (b1 : 0 ≤ a1 ∧ a1 ≤ 4294967295) (ht : Laid w) :
    Calls Tryd.prog 4 #[.int .u32 a0, .int .u32 a1, .int .i64 4] w fun e w' => e = .returned (.bool true) ∧ Below w.heap.size w w' := by
  obtain ⟨i0, hi, hz0, hz1, hz2⟩ := info_parts info8
  have HO := hidden ((owns_new w w.heap.size (putL a0 4) (Nat.le_refl _) (by show 4 ≤ maxLen; unfold maxLen; omega)).alloc (.cells (bytesV (putL a1 4)).toArray 5))
  have HN := hidden (new_cell_at (w.alloc (.cells (bytesV (putL a0 4)).toArray 5)) (putL a1 4) (by show 4 ≤ maxLen; unfold maxLen; omega) (w.heap.size + 1) (by simp))
  have hbel := hidden (Go.Joins.below_alloc2 w (.cells (bytesV (putL a0 4)).toArray 5) (.cells (bytesV (putL a1 4)).toArray 5))
  have hf1 := hidden (fst_back a0 (putL a1 4) b0.1 b0.2)
  have hf2 : Hid (beV (putL a0 4 ++ putL a1 4) 4 4 = a1) := hidden ((put_back a1 4 (putL a0 4) (Or.inr (Or.inr rfl)) b1.1 b1.2).trans rfl)
  have hbd := hidden (append_bd _ _ (putL_bd a0 4) (putL_bd a1 4))
  have hlq := hidden (show (bytesV (putL a1 4)).length = 4 * 1 from rfl)
  have hone := hidden (bytesV_one (putL a1 4))
  have C1 := hidden (fun w => putn_4 a0 w)
  have C2 := hidden (fun w => putn_4 a1 w)
  change Hid (World.ownsRow _ _ _ _ (.slice _ 4 4) 4 _) at HO
  generalize putL a0 4 = P at *
  generalize putL a1 4 = Q at *
  have hsh : shlW 4294967295 32 = 0 := by decide +kernel
  have hnot : bits .andNot .u32 a1 0 = a1 := by
    rw [u32_andNot _ _ b1.1 (by omega) (by decide) (by decide)]
    have e : (4294967295 - (0 : Int).toNat) = 4294967295 := by decide
    rw [e, nat_mask32]; omega
  go_enter Tryd.func4, Tryd.ntmps4
  go_wp2_with fail
  refine (C1.out _).mono ?_
  rintro e w1 ⟨rfl, hw⟩
  subst hw
  go_wp2_with fail
  refine (C2.out _).mono ?_
  rintro e w1 ⟨rfl, hw⟩
  subst hw
  go_wp2_with (at_builtin; refine wpList_append_own _ rfl _ _ 22 rfl w.heap.size 5 i0 (.int .u8 0) 1 1 Tryd.underlying22 hi hz0 hz1 hz2 rfl (by decide) _ _ _ rfl HO.out ⟨w.heap.size + 1, 0, none⟩ 4 4 (bytesV Q) rfl hlq.out HN.out hone.out (by unfold maxLen; omega) (by omega) (by simp; omega) ?_; intro v' w3 hown3 hgrow3 hiff; clear hiff; refine Hid.out ?_)
  have hb3 : Below w.heap.size w w3 := hbel.out.grown hgrow3 (by simp; omega) (by intro k hk; have e : some w.heap.size = some k := hk; simp at e; omega)
  rw [bytesV_append] at hown3
  obtain ⟨g, cap, rfl, hcap, hg⟩ := owned_shape hown3 (by omega)
  have HC := hidden (owned_cells hown3)
  have HT : TabOK w3 := TabOK.below ht hb3 (Nat.le_refl _)
  clear hown3 hgrow3 HO HN hbel hlq hone C1 C2
  refine hidden ?_
  go_wp2_with fail
  refine (be_any g 0 _ cap (P ++ Q) 0 4 _ (Or.inr (Or.inr rfl)) (by omega) (by omega) (by omega) (by omega) HC.out hbd.out).mono ?_
  rintro e w4 ⟨rfl, hw⟩
  obtain rfl := hw.symm
  rw [show (0 : Int).toNat = 0 from rfl, hf1.out]
  go_wp2_with (go_at_call 14; refine (num_any _ _).mono ?_; rintro e w4 ⟨rfl, hw⟩; obtain rfl := hw.symm)
  refine (be_any g 0 _ cap (P ++ Q) 4 4 _ (Or.inr (Or.inr rfl)) (by omega) (by omega) (by omega) (by omega) HC.out hbd.out).mono ?_
  rintro e w4 ⟨rfl, hw⟩
  obtain rfl := hw.symm
  rw [show (4 : Int).toNat = 4 from rfl, hf2.out]
  go_wp2_with (first | (go_at_call 14; refine (num_any _ _).mono ?_; rintro e w4 ⟨rfl, hw⟩; obtain rfl := hw.symm) | (go_at_call 18; refine (shl_any _ _ _ (by omega) (by omega)).mono ?_; rintro e w4 ⟨rfl, hw⟩; obtain rfl := hw.symm) | (go_at_call 9; refine (live_any _ HT).mono ?_; rintro e w5 ⟨rfl, hb5⟩))
  go_ret
  exact ⟨rfl, hb3.trans (hb5.mono hb3.size)⟩
theorem back_bad (a0 a1 a2 : Int) (w : World) (b0 : 0 ≤ a0 ∧ a0 ≤ 4294967295) (n1 : (a2 == 1) = false) (n2 : (a2 == 2) = false) (n4 : (a2 == 4) = false) (ht : Laid w) :
    Calls Tryd.prog 4 #[.int .u32 a0, .int .u32 a1, .int .i64 a2] w fun e w' => e = .returned (.bool true) ∧ Below w.heap.size w w' := by
  obtain ⟨i0, hi, hz0, hz1, hz2⟩ := info_parts info8
  have HO := hidden (owns_new w w.heap.size (putL a0 4) (Nat.le_refl _) (by show 4 ≤ maxLen; unfold maxLen; omega))
  have hb3 : Below w.heap.size w (w.alloc (.cells (bytesV (putL a0 4)).toArray 5)) := (Below.refl _ _).alloc (Nat.le_refl _) _
  have hf1 := hidden (fst_back a0 [] b0.1 b0.2)
  have hbd := hidden (putL_bd a0 4)
  have C1 := hidden (fun w => putn_4 a0 w)
  change Hid (World.ownsRow _ _ _ _ (.slice _ 4 4) 4 _) at HO
  rw [List.append_nil] at hf1
  generalize putL a0 4 = P at *
  have m1 : (a2 != 1) = true := by simpa using n1
  have m2 : (a2 != 2) = true := by simpa using n2
  have m4 : (a2 != 4) = true := by simpa using n4
  have HC := hidden (owned_cells HO.out)
  have HT : TabOK (w.alloc (.cells (bytesV P).toArray 5)) := TabOK.below ht hb3 (Nat.le_refl _)
  go_enter Tryd.func4, Tryd.ntmps4
  go_wp2_with fail
  refine (C1.out _).mono ?_
  rintro e w1 ⟨rfl, hw⟩
  subst hw
  go_wp2_with fail
  refine (put_bad a1 a2 _ n1 n2 n4).mono ?_
  rintro e w1 ⟨rfl, hw⟩
  subst hw
  go_wp2_with (at_builtin; refine wpList_append_own_none rfl _ _ 22 rfl w.heap.size 5 i0 1 Tryd.underlying22 hi _ _ _ rfl HO.out rfl ?_)
  refine (be_any w.heap.size 0 _ 4 P 0 4 _ (Or.inr (Or.inr rfl)) (by omega) (by omega) (by omega) (by omega) HC.out hbd.out).mono ?_
  rintro e w4 ⟨rfl, hw⟩
  subst hw
  rw [show (0 : Int).toNat = 0 from rfl, hf1.out]
  go_wp2_with (go_at_call 14; refine (num_any _ _).mono ?_; rintro e w4 ⟨rfl, hw⟩; subst hw)
  refine (be_bad _ _ _ _ n1 n2 n4).mono ?_
  rintro e w4 ⟨rfl, hw⟩
  subst hw
  go_wp2_with (first | (go_at_call 14; refine (num_any _ _).mono ?_; rintro e w4 ⟨rfl, hw⟩; subst hw) | (go_at_call 9; refine (live_any _ HT).mono ?_; rintro e w5 ⟨rfl, hb5⟩))
  go_ret
  exact ⟨rfl, hb3.trans (hb5.mono hb3.size)⟩
theorem wordBack_walk (a0 a1 a2 : Int) (w : World) (w0 : (Lit.int .u32 a0).wf = true) (w1 : (Lit.int .u32 a1).wf = true) (_w2 : (Lit.int .i64 a2).wf = true) (ht : Laid w) :
    Calls Tryd.prog 4 #[.int .u32 a0, .int .u32 a1, .int .i64 a2] w fun e w' => e = .returned (.bool true) ∧ Below w.heap.size w w' := by
  have b0 := bounds_u32 w0
  have b1 := bounds_u32 w1
  by_cases h1 : a2 = 1
  · subst h1; exact back_1 a0 a1 w b0 b1 ht
  by_cases h2 : a2 = 2
  · subst h2; exact back_2 a0 a1 w b0 b1 ht
  by_cases h4 : a2 = 4
  · subst h4; exact back_4 a0 a1 w b0 b1 ht
  exact back_bad a0 a1 a2 w b0 (by simpa using h1) (by simpa using h2) (by simpa using h4) ht
end Go.Proofs.YtckkbiohkflknaaDoor
