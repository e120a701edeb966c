/- Contracts of the document's Open (package grottoref02) at finite numbers: the fraction and the exponent that a pattern says. -/
import Derived.Test.YtkbeceedafkhcaaR2c
import Derived.Deep.RegionHeld3
namespace Go.Proofs.Ytkbeceedafkhcaa
open Go.RowKit
set_option maxHeartbeats 1000000

theorem ropen_sub (m e : Nat) (x PM PE : Int) (w : World) (h : okF m e) (x0 : 0 ≤ x) (x1 : x ≤ 18446744073709551615) (hm : p2 m = PM) (he : p2 e = PE) (hb : x / PM / PE ≤ 1) (h5 : (x / PM % PE == PE - 1) = false) (h6 : (x % PM == 0) = false) (h7 : (x / PM % PE == 0) = true) :
    Calls Try.prog 10 #[.agg #[.int .i64 m, .int .i64 e], .int .u64 x] w fun r w' => r = .returned (.tuple #[partsV 2 (x / PM / PE == 1) (least m e) (x % PM), .int .i64 0]) ∧ Below w.heap.size w w' := by
  have h0 := h
  obtain ⟨h1, h2, h3, h4⟩ := h0
  have HC := hidden (fun w => check_ok m e w h)
  have HM := hidden (fun w => power_any m w (by omega))
  have HE := hidden (fun w => power_any e w (by omega))
  have HB := hidden (fun w => bias_any m e w h)
  have HL := hidden (fun w => least_any m e w h)
  have hbb := bias_bd e h3 h4
  have hpm := p2_pos m
  have hpe := p2_pos e
  have hm52 : p2 m ≤ 4503599627370496 := by rw [← p2_52]; exact p2_mono (by omega)
  have he11 : p2 e ≤ 2048 := by rw [← p2_11]; exact p2_mono (by omega)
  rw [hm] at HM hpm hm52
  rw [he] at HE hpe he11
  clear hm he h
  have q0 : 0 ≤ x / PM := Int.ediv_nonneg x0 (by omega)
  have q1 : x / PM ≤ 18446744073709551615 := Int.le_trans (Int.ediv_le_self _ x0) x1
  have q2 := Int.emod_nonneg x (show PM ≠ 0 by omega)
  have q3 := Int.emod_lt_of_pos x hpm
  have q4 := Int.emod_nonneg (x / PM) (show PE ≠ 0 by omega)
  have q5 := Int.emod_lt_of_pos (x / PM) hpe
  have q6 : 0 ≤ x / PM / PE := Int.ediv_nonneg q0 (by omega)
  go_enter Try.func10, Try.ntmps10
  go_wp2_with fail
  refine (HC.out _).mono ?_
  rintro r w1 ⟨rfl, hw⟩
  subst hw
  go_wp2_with (first | (go_at_call_of 31 (Value.int IntKind.i64 (m : Int)); refine (HM.out _).mono ?_; rintro r w1 ⟨rfl, hw⟩; subst hw) | (go_at_call_of 31 (Value.int IntKind.i64 (e : Int)); refine (HE.out _).mono ?_; rintro r w1 ⟨rfl, hw⟩; subst hw) | (go_at_call 32; refine (HL.out _).mono ?_; rintro r w1 ⟨rfl, hw⟩; subst hw))
  refine bodyPost_ret (v := .tuple #[partsV 2 (x / PM / PE == 1) (least m e) (x % PM), .int .i64 0]) (by simp [results, Try.results10, go_sem]) rfl ⟨rfl, ?_⟩
  repeat (first | exact Below.refl _ _ | apply Below.drew | (refine Below.alloc ?_ (by simp; try omega) _))
theorem ropen_fin (m e : Nat) (x PM PE : Int) (w : World) (h : okF m e) (x0 : 0 ≤ x) (x1 : x ≤ 18446744073709551615) (hm : p2 m = PM) (he : p2 e = PE) (hb : x / PM / PE ≤ 1) (h5 : (x / PM % PE == PE - 1) = false) (h7 : (x / PM % PE == 0) = false) :
    Calls Try.prog 10 #[.agg #[.int .i64 m, .int .i64 e], .int .u64 x] w fun r w' => r = .returned (.tuple #[partsV 2 (x / PM / PE == 1) (x / PM % PE - bias e - m) (PM + x % PM), .int .i64 0]) ∧ Below w.heap.size w w' := by
  have h0 := h
  obtain ⟨h1, h2, h3, h4⟩ := h0
  have HC := hidden (fun w => check_ok m e w h)
  have HM := hidden (fun w => power_any m w (by omega))
  have HE := hidden (fun w => power_any e w (by omega))
  have HB := hidden (fun w => bias_any m e w h)
  have HL := hidden (fun w => least_any m e w h)
  have hbb := bias_bd e h3 h4
  have hpm := p2_pos m
  have hpe := p2_pos e
  have hm52 : p2 m ≤ 4503599627370496 := by rw [← p2_52]; exact p2_mono (by omega)
  have he11 : p2 e ≤ 2048 := by rw [← p2_11]; exact p2_mono (by omega)
  rw [hm] at HM hpm hm52
  rw [he] at HE hpe he11
  clear hm he h
  have q0 : 0 ≤ x / PM := Int.ediv_nonneg x0 (by omega)
  have q1 : x / PM ≤ 18446744073709551615 := Int.le_trans (Int.ediv_le_self _ x0) x1
  have q2 := Int.emod_nonneg x (show PM ≠ 0 by omega)
  have q3 := Int.emod_lt_of_pos x hpm
  have q4 := Int.emod_nonneg (x / PM) (show PE ≠ 0 by omega)
  have q5 := Int.emod_lt_of_pos (x / PM) hpe
  have q6 : 0 ≤ x / PM / PE := Int.ediv_nonneg q0 (by omega)
  go_enter Try.func10, Try.ntmps10
  go_wp2_with fail
  refine (HC.out _).mono ?_
  rintro r w1 ⟨rfl, hw⟩
  subst hw
  go_wp2_with (first | (go_at_call_of 31 (Value.int IntKind.i64 (m : Int)); refine (HM.out _).mono ?_; rintro r w1 ⟨rfl, hw⟩; subst hw) | (go_at_call_of 31 (Value.int IntKind.i64 (e : Int)); refine (HE.out _).mono ?_; rintro r w1 ⟨rfl, hw⟩; subst hw))
  have bl3 : ∀ o1 o2 o3, Below (w.alloc (.cells #[.int .i64 (m : Int), .int .i64 (e : Int)] 23)).heap.size (w.alloc (.cells #[.int .i64 (m : Int), .int .i64 (e : Int)] 23)) ((((w.alloc (.cells #[.int .i64 (m : Int), .int .i64 (e : Int)] 23)).alloc o1).alloc o2).alloc o3) := fun o1 o2 o3 => (((Below.refl _ _).alloc (Nat.le_refl _) _).alloc (by simp) _).alloc (by simp) _
  have bl4 : ∀ o1 o2 o3 o4, Below (w.alloc (.cells #[.int .i64 (m : Int), .int .i64 (e : Int)] 23)).heap.size (w.alloc (.cells #[.int .i64 (m : Int), .int .i64 (e : Int)] 23)) (((((w.alloc (.cells #[.int .i64 (m : Int), .int .i64 (e : Int)] 23)).alloc o1).alloc o2).alloc o3).alloc o4) := fun o1 o2 o3 o4 => (bl3 o1 o2 o3).alloc (by simp) _
  have k30 : ∀ o1 o2 o3, ((((w.alloc (.cells #[.int .i64 (m : Int), .int .i64 (e : Int)] 23)).alloc o1).alloc o2).alloc o3).cell? ⟨w.heap.size, 0, none⟩ = some (.int .i64 (m : Int)) := fun o1 o2 o3 => cellLater (bl3 o1 o2 o3) (by simp)
  have k31 : ∀ o1 o2 o3, ((((w.alloc (.cells #[.int .i64 (m : Int), .int .i64 (e : Int)] 23)).alloc o1).alloc o2).alloc o3).cell? ⟨w.heap.size, 1, none⟩ = some (.int .i64 (e : Int)) := fun o1 o2 o3 => cellLater (bl3 o1 o2 o3) (by simp)
  have k40 : ∀ o1 o2 o3 o4, (((((w.alloc (.cells #[.int .i64 (m : Int), .int .i64 (e : Int)] 23)).alloc o1).alloc o2).alloc o3).alloc o4).cell? ⟨w.heap.size, 0, none⟩ = some (.int .i64 (m : Int)) := fun o1 o2 o3 o4 => cellLater (bl4 o1 o2 o3 o4) (by simp)
  have k41 : ∀ o1 o2 o3 o4, (((((w.alloc (.cells #[.int .i64 (m : Int), .int .i64 (e : Int)] 23)).alloc o1).alloc o2).alloc o3).alloc o4).cell? ⟨w.heap.size, 1, none⟩ = some (.int .i64 (e : Int)) := fun o1 o2 o3 o4 => cellLater (bl4 o1 o2 o3 o4) (by simp)
  clear bl3 bl4
  go_region_held3 (fun w' => w'.cell? ⟨w.heap.size, 0, none⟩ = some (.int .i64 m) ∧ w'.cell? ⟨w.heap.size, 1, none⟩ = some (.int .i64 e)) (first | go_keep | exact ⟨k40 _ _ _ _, k41 _ _ _ _⟩ | exact ⟨k30 _ _ _, k31 _ _ _⟩) (first | (go_at_call_of 31 (Value.int IntKind.i64 (m : Int)); refine (HM.out _).mono ?_; rintro r w1 ⟨rfl, hw⟩; subst hw) | (go_at_call 33; refine (HB.out _).mono ?_; rintro r w1 ⟨rfl, hw⟩; subst hw))
  all_goals
    go_wp2
    refine bodyPost_ret (v := .tuple #[partsV 2 (x / PM / PE == 1) (x / PM % PE - bias e - m) (PM + x % PM), .int .i64 0]) (by simp [results, Try.results10, go_sem]) rfl ⟨rfl, ?_⟩
    repeat (first | exact Below.refl _ _ | apply Below.drew | (refine Below.alloc ?_ (by simp; try omega) _))
end Go.Proofs.Ytkbeceedafkhcaa
