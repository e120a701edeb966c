/- RealsAgree: what is reckoned of two singles is what is reckoned of their doubles, made a single. -/
import Derived.Test.YthfjjkikeebopaaDoorW3n
import Derived.Test.YthfjjkikeebopaaDoorW3q
import Derived.Test.YthfjjkikeebopaaDoorL4a
namespace Go.Proofs.YthfjjkikeebopaaDoor
open Go.RowKit
set_option maxRecDepth 100000
set_option maxHeartbeats 1000000
set_option linter.unusedVariables false

/-- an operation of two patterns and of their wide ones -/
abbrev J2 (m x WM WX F : Nat) (a b X Y : Int) : Prop := ∃ U V, ((0 ≤ U ∧ U < p2 (m + x + 1)) ∧ (0 ≤ V ∧ V < p2 (WM + WX + 1)) ∧ bk m x WM WX V = U) ∧ Hid (∀ w, Calls Tryd.prog F #[.agg #[.int .i64 (m : Int), .int .i64 (x : Int)], .int .u64 a, .int .u64 b] w fun r w' => r = .returned (.tuple #[.int .u64 U, .int .i64 0]) ∧ Below w.heap.size w w') ∧ Hid (∀ w, Calls Tryd.prog F #[.agg #[.int .i64 (WM : Int), .int .i64 (WX : Int)], .int .u64 X, .int .u64 Y] w fun r w' => r = .returned (.tuple #[.int .u64 V, .int .i64 0]) ∧ Below w.heap.size w w')
abbrev J1 (m x WM WX F : Nat) (a X : Int) : Prop := ∃ U V, ((0 ≤ U ∧ U < p2 (m + x + 1)) ∧ (0 ≤ V ∧ V < p2 (WM + WX + 1)) ∧ bk m x WM WX V = U) ∧ Hid (∀ w, Calls Tryd.prog F #[.agg #[.int .i64 (m : Int), .int .i64 (x : Int)], .int .u64 a] w fun r w' => r = .returned (.tuple #[.int .u64 U, .int .i64 0]) ∧ Below w.heap.size w w') ∧ Hid (∀ w, Calls Tryd.prog F #[.agg #[.int .i64 (WM : Int), .int .i64 (WX : Int)], .int .u64 X] w fun r w' => r = .returned (.tuple #[.int .u64 V, .int .i64 0]) ∧ Below w.heap.size w w')
abbrev JM (m x WM WX F : Nat) (a b X Y : Int) : Prop := ∃ U V S T, ((0 ≤ U ∧ U < p2 (m + x + 1)) ∧ (0 ≤ V ∧ V < p2 (WM + WX + 1)) ∧ bk m x WM WX V = U) ∧ (0 ≤ S ∧ S < p2 (m + x + 1)) ∧ (0 ≤ T ∧ T < p2 (WM + WX + 1)) ∧ Hid (∀ w, Calls Tryd.prog F #[.agg #[.int .i64 (m : Int), .int .i64 (x : Int)], .int .u64 a, .int .u64 b] w fun r w' => r = .returned (.tuple #[.int .u64 U, .int .u64 S, .int .i64 0]) ∧ Below w.heap.size w w') ∧ Hid (∀ w, Calls Tryd.prog F #[.agg #[.int .i64 (WM : Int), .int .i64 (WX : Int)], .int .u64 X, .int .u64 Y] w fun r w' => r = .returned (.tuple #[.int .u64 V, .int .u64 T, .int .i64 0]) ∧ Below w.heap.size w w')
set_option maxHeartbeats 4000000 in
theorem agree_all (m x WM WX : Nat) (a b X Y : Int) (hm23 : m ≤ 23) (hw1 : 2 * m + 4 ≤ WM ∧ (WM : Int) ≤ 2 * m + 4 + bias x ∧ (m : Int) ≤ 2 * bias x ∧ WM ≤ 60) (hw2 : x + 2 ≤ WX) (hok : okF m x) (hok2 : okF ((WM : Nat) : Int) ((WX : Nat) : Int)) (a0 : 0 ≤ a) (ha : bl a ≤ 1 + x + m) (b0 : 0 ≤ b) (hb : bl b ≤ 1 + x + m)
    (hX : X = convK WM WX (kindI m x a) (negI m x a) (expI m x a) (manI m x a)) (hY : Y = convK WM WX (kindI m x b) (negI m x b) (expI m x b) (manI m x b)) :
    J2 m x WM WX 17 a b X Y ∧ J2 m x WM WX 18 a b X Y ∧ J2 m x WM WX 19 a b X Y ∧ J2 m x WM WX 20 a b X Y ∧ JM m x WM WX 21 a b X Y ∧ J1 m x WM WX 22 a X ∧ J1 m x WM WX 23 a X ∧ J1 m x WM WX 24 a X := by
  have hx : 2 ≤ x := by have := hok.2.2.1; omega
  have hm1 : 1 ≤ m := by have := hok.1; omega
  have hWm : 1 ≤ WM := by omega
  have hWx : 2 ≤ WX := by omega
  have hbi : 1 ≤ bias x := (bias_bd x hok.2.2.1 hok.2.2.2).1
  have la := pat_lt m x a a0 ha
  have lb := pat_lt m x b b0 hb
  have hp64 : p2 (WM + WX + 1) ≤ 18446744073709551616 := by
    have hp := p2_mono (show WM + WX + 1 ≤ 64 by have := hok2.2.1; have := hok2.2.2.2; omega)
    rwa [p2_64] at hp
  have hp64' : p2 (m + x + 1) ≤ 18446744073709551616 := by
    have hp := p2_mono (show m + x + 1 ≤ 64 by have := hok.2.1; have := hok.2.2.2; omega)
    rwa [p2_64] at hp
  have a1 : a ≤ 18446744073709551615 := by omega
  have b1 : b ≤ 18446744073709551615 := by omega
  have gA := patK m x a hok a0 ha
  have gB := patK m x b hok b0 hb
  obtain ⟨kA, wA⟩ := wideP_of m x WM WX a _ _ _ _ hx hw1 hw2 hbi gA
  obtain ⟨kB, wB⟩ := wideP_of m x WM WX b _ _ _ _ hx hw1 hw2 hbi gB
  obtain ⟨xa0, xa1⟩ := conv_bd m x WM WX a _ _ _ _ hok2 gA
  obtain ⟨xb0, xb1⟩ := conv_bd m x WM WX b _ _ _ _ hok2 gB
  have hsb := sub_bk m x WM WX a b hm1 hx hw1 hw2 hbi a0 ha b0 hb lb hok hok2 X Y hX hY
  rw [← hX] at kA wA xa0 xa1
  rw [← hY] at kB wB xb0 xb1
  have hblX := bl_of_lt WM WX X xa0 xa1
  have hblY := bl_of_lt WM WX Y xb0 xb1
  have o1 := popen2 m x a b hok a0 a1 ha b0 b1 hb
  have o2 := popen2 WM WX X Y hok2 xa0 (by omega) hblX xb0 (by omega) hblY
  have fA := fin_of m x a hx
  have fB := fin_of m x b hx
  have fX := fin_of WM WX X (by omega)
  have fY := fin_of WM WX Y (by omega)
  rw [kA] at o2 fX
  rw [kB] at o2 fY
  have nX := man_nn WM WX X
  have nY := man_nn WM WX Y
  have nA := man_nn m x a
  have nB := man_nn m x b
  have q1 := popen1 m x a hok a0 a1 ha
  have oX := popen1 WM WX X hok2 xa0 (by omega) hblX
  rw [kA] at oX
  have tb := turn_bd (m + x) b b0 lb
  have tY := turn_bd (WM + WX) Y xb0 xb1
  have o3 := popen2 m x a (turnI (m + x) b) hok a0 a1 ha tb.1 (by omega) (bl_of_lt m x _ tb.1 tb.2)
  have o4 := popen2 WM WX X (turnI (WM + WX) Y) hok2 xa0 (by omega) hblX tY.1 (by omega) (bl_of_lt WM WX _ tY.1 tY.2)
  refine ⟨?_, ?_, ?_, ?_, ?_, ?_, ?_, ?_⟩
  · exact ⟨_, _, ⟨add_bd m x a b _ _ _ _ _ _ _ _ hm1 hx a0 la b0 lb, add_bd WM WX X Y _ _ _ _ _ _ _ _ hWm hWx xa0 xa1 xb0 xb1, add_bk m x WM WX a b _ _ _ _ _ _ X Y _ _ _ _ _ _ _ _ hx hw1 hw2 hbi gA gB wA wB⟩, hidden fun w => padd_k m x a b _ _ _ _ _ _ _ _ w hok (kind_all m x a) (kind_all m x b) fA fB o1, hidden fun w => padd_k WM WX X Y _ _ _ _ _ _ _ _ w hok2 (kind_all m x a) (kind_all m x b) fX fY o2⟩
  · exact ⟨_, _, ⟨add_bd m x a (turnI (m + x) b) _ _ _ _ _ _ _ _ hm1 hx a0 la tb.1 tb.2, add_bd WM WX X (turnI (WM + WX) Y) _ _ _ _ _ _ _ _ hWm hWx xa0 xa1 tY.1 tY.2, hsb⟩, hidden fun w => psub_k m x a b _ _ _ _ _ _ _ _ w hok b0 lb (kind_all m x a) (kind_all m x _) fA (fin_of m x _ hx) o3, hidden fun w => psub_k WM WX X Y _ _ _ _ _ _ _ _ w hok2 xb0 xb1 (kind_all _ _ X) (kind_all _ _ _) (fin_of _ _ X (by omega)) (fin_of _ _ _ (by omega)) o4⟩
  · exact ⟨_, _, ⟨mulK_bd m x _ _ _ _ _ _ _ _ hm1 hx nA nB, mulK_bd WM WX _ _ _ _ _ _ _ _ hWm hWx nX nY, mul_bk m x WM WX a b _ _ _ _ _ _ X Y _ _ _ _ _ _ _ _ hx hw1 hw2 hbi gA gB wA wB⟩, hidden fun w => pmul_k m x a b _ _ _ _ _ _ _ _ w hok (kind_all m x a) (kind_all m x b) fA fB o1, hidden fun w => pmul_k WM WX X Y _ _ _ _ _ _ _ _ w hok2 (kind_all m x a) (kind_all m x b) fX fY o2⟩
  · exact ⟨_, _, ⟨divK_bd m x _ _ _ _ _ _ _ _ hm1 hx nA nB, divK_bd WM WX _ _ _ _ _ _ _ _ hWm hWx nX nY, div_bk m x WM WX a b _ _ _ _ _ _ X Y _ _ _ _ _ _ _ _ hm23 hx hw1 hw2 hbi gA gB wA wB⟩, hidden fun w => pdiv_k m x a b _ _ _ _ _ _ _ _ w hok (kind_all m x a) (kind_all m x b) fA fB o1, hidden fun w => pdiv_k WM WX X Y _ _ _ _ _ _ _ _ w hok2 (kind_all m x a) (kind_all m x b) fX fY o2⟩
  · exact ⟨_, _, _, _, ⟨restK_bd m x a _ _ _ _ _ _ _ _ hm1 hx a0 la nA nB, restK_bd WM WX X _ _ _ _ _ _ _ _ hWm hWx xa0 xa1 nX nY, rest_bk m x WM WX a b _ _ _ _ _ _ X Y _ _ _ _ _ _ _ _ hx hw1 hw2 hbi gA gB wA wB fX fY⟩, quoK_bd m x _ _ _ _ _ _ _ _ hm1 hx nA nB, quoK_bd WM WX _ _ _ _ _ _ _ _ hWm hWx nX nY, hidden fun w => pmod_k m x a b _ _ _ _ _ _ _ _ w hok (kind_all m x a) (kind_all m x b) fA fB o1, hidden fun w => pmod_k WM WX X Y _ _ _ _ _ _ _ _ w hok2 (kind_all m x a) (kind_all m x b) fX fY o2⟩
  · obtain ⟨R, hR⟩ := root_ex_i (rootS (expI m x a) (manI m x a) * 18446744073709551616) (Int.mul_nonneg (Int.mul_nonneg (man_nn m x a) (by have := p2_pos (upE (expI m x a) (manI m x a)); omega)) (by decide))
    have hRX : kindI m x a = 2 → IsRoot (rootS (expI WM WX X) (manI WM WX X) * 18446744073709551616) R := fun h2 => by
      obtain ⟨t, e1, e2, e3⟩ := wA.fin h2
      have hf := (gA.fin h2).1
      rw [e1, e2, (root_scale (expI m x a) (manI m x a) t hf.1 (by omega)).1]
      exact hR
    exact ⟨_, _, ⟨sqrtK_bd m x a _ _ _ R _ hm1 hx a0 la hR.1, sqrtK_bd WM WX X _ _ _ R _ hWm hWx xa0 xa1 hR.1, sqrt_bk m x WM WX a _ _ _ R X _ _ _ _ hm23 hx hw1 hw2 hbi gA wA (fun _ => hR)⟩, hidden fun w => psqrt_k m x a _ _ _ R _ w hok (kind_all m x a) fA (fun _ => hR) q1, hidden fun w => psqrt_k WM WX X _ _ _ R _ w hok2 (kind_all m x a) fX hRX oX⟩
  · exact ⟨_, _, ⟨besideK_bd m x a _ _ _ _ false hm1 hx a0 la nA, besideK_bd WM WX X _ _ _ _ false hWm hWx xa0 xa1 nX, beside_bk m x WM WX a _ _ _ X _ _ _ _ false hx hw1 hw2 hbi gA wA⟩, hidden fun w => pceil m x a _ 0 w (hidden fun w => pwb_k m x a _ _ _ _ false w hok (kind_all m x a) fA q1), hidden fun w => pceil WM WX X _ 0 w (hidden fun w => pwb_k WM WX X _ _ _ _ false w hok2 (kind_all m x a) fX oX)⟩
  · exact ⟨_, _, ⟨besideK_bd m x a _ _ _ _ true hm1 hx a0 la nA, besideK_bd WM WX X _ _ _ _ true hWm hWx xa0 xa1 nX, beside_bk m x WM WX a _ _ _ X _ _ _ _ true hx hw1 hw2 hbi gA wA⟩, hidden fun w => pfloor m x a _ 0 w (hidden fun w => pwb_k m x a _ _ _ _ true w hok (kind_all m x a) fA q1), hidden fun w => pfloor WM WX X _ 0 w (hidden fun w => pwb_k WM WX X _ _ _ _ true w hok2 (kind_all m x a) fX oX)⟩
theorem agree_reck (op a b X Y : Int) (ho : ¬ (op < 1 ∨ 9 < op)) (a0 : 0 ≤ a) (a1 : a ≤ 4294967295) (b0 : 0 ≤ b) (b1 : b ≤ 4294967295) (x0 : 0 ≤ X) (x1 : X < 18446744073709551616) (y0 : 0 ≤ Y) (y1 : Y < 18446744073709551616)
    (hX : X = convK 52 11 (kindI 23 8 a) (negI 23 8 a) (expI 23 8 a) (manI 23 8 a)) (hY : Y = convK 52 11 (kindI 23 8 b) (negI 23 8 b) (expI 23 8 b) (manI 23 8 b)) :
    ∃ R Q, (0 ≤ R ∧ R < 4294967296) ∧ (0 ≤ Q ∧ Q < 18446744073709551616) ∧ (op ≠ 6 → bk 23 8 52 11 Q = R) ∧ Hid (∀ w, Calls Tryd.prog 10 #[.agg #[.int .i64 23, .int .i64 8], .int .i64 op, .int .u32 a, .int .u32 b] w fun r w' => r = .returned (.tuple #[.int .u32 R, .int .i64 0]) ∧ Below w.heap.size w w') ∧ Hid (∀ w, Calls Tryd.prog 11 #[.agg #[.int .i64 52, .int .i64 11], .int .i64 op, .int .u64 X, .int .u64 Y] w fun r w' => r = .returned (.tuple #[.int .u64 Q, .int .i64 0]) ∧ Below w.heap.size w w') := by
  have hp : p2 (23 + 8 + 1) = 4294967296 := by decide +kernel
  have hq : p2 (52 + 11 + 1) = 18446744073709551616 := by decide +kernel
  have h127 : bias ((8 : Nat) : Int) = 127 := by decide +kernel
  obtain ⟨j1, j2, j3, j4, j5, j7, j8, j9⟩ := agree_all 23 8 52 11 a b X Y (by omega) ⟨by omega, by omega, by omega, by omega⟩ (by omega) ok23 ok52 a0 (bl_of_lt 23 8 a a0 (by omega)) b0 (bl_of_lt 23 8 b b0 (by omega)) hX hY
  have hc : op = 1 ∨ op = 2 ∨ op = 3 ∨ op = 4 ∨ op = 5 ∨ op = 6 ∨ op = 7 ∨ op = 8 ∨ op = 9 := by omega
  rcases hc with rfl | rfl | rfl | rfl | rfl | rfl | rfl | rfl | rfl
  · obtain ⟨U, V, ⟨hU, hV, hk⟩, H1, H2⟩ := j1
    rw [hp] at hU
    rw [hq] at hV
    exact ⟨U, V, hU, hV, fun _ => hk, hidden fun w => reck32_1 23 8 a b U 0 0 w a0 (by omega) b0 (by omega) hU.1 hU.2 H1, hidden fun w => reck64_1 52 11 X Y V 0 0 w x0 x1 y0 y1 hV.1 hV.2 H2⟩
  · obtain ⟨U, V, ⟨hU, hV, hk⟩, H1, H2⟩ := j2
    rw [hp] at hU
    rw [hq] at hV
    exact ⟨U, V, hU, hV, fun _ => hk, hidden fun w => reck32_2 23 8 a b U 0 0 w a0 (by omega) b0 (by omega) hU.1 hU.2 H1, hidden fun w => reck64_2 52 11 X Y V 0 0 w x0 x1 y0 y1 hV.1 hV.2 H2⟩
  · obtain ⟨U, V, ⟨hU, hV, hk⟩, H1, H2⟩ := j3
    rw [hp] at hU
    rw [hq] at hV
    exact ⟨U, V, hU, hV, fun _ => hk, hidden fun w => reck32_3 23 8 a b U 0 0 w a0 (by omega) b0 (by omega) hU.1 hU.2 H1, hidden fun w => reck64_3 52 11 X Y V 0 0 w x0 x1 y0 y1 hV.1 hV.2 H2⟩
  · obtain ⟨U, V, ⟨hU, hV, hk⟩, H1, H2⟩ := j4
    rw [hp] at hU
    rw [hq] at hV
    exact ⟨U, V, hU, hV, fun _ => hk, hidden fun w => reck32_4 23 8 a b U 0 0 w a0 (by omega) b0 (by omega) hU.1 hU.2 H1, hidden fun w => reck64_4 52 11 X Y V 0 0 w x0 x1 y0 y1 hV.1 hV.2 H2⟩
  · obtain ⟨U, V, S, T, ⟨hU, hV, hk⟩, hS, hT, H1, H2⟩ := j5
    rw [hp] at hU hS
    rw [hq] at hV hT
    exact ⟨U, V, hU, hV, fun _ => hk, hidden fun w => reck32_5 23 8 a b U S 0 w a0 (by omega) b0 (by omega) hU.1 hU.2 H1, hidden fun w => reck64_5 52 11 X Y V T 0 w x0 x1 y0 y1 hV.1 hV.2 H2⟩
  · obtain ⟨U, V, S, T, ⟨hU, hV, hk⟩, hS, hT, H1, H2⟩ := j5
    rw [hp] at hU hS
    rw [hq] at hV hT
    exact ⟨S, T, hS, hT, fun h => absurd rfl h, hidden fun w => reck32_6 23 8 a b S U 0 w a0 (by omega) b0 (by omega) hS.1 hS.2 H1, hidden fun w => reck64_6 52 11 X Y T V 0 w x0 x1 y0 y1 hT.1 hT.2 H2⟩
  · obtain ⟨U, V, ⟨hU, hV, hk⟩, H1, H2⟩ := j7
    rw [hp] at hU
    rw [hq] at hV
    exact ⟨U, V, hU, hV, fun _ => hk, hidden fun w => reck32_7 23 8 a b U 0 0 w a0 (by omega) b0 (by omega) hU.1 hU.2 H1, hidden fun w => reck64_7 52 11 X Y V 0 0 w x0 x1 y0 y1 hV.1 hV.2 H2⟩
  · obtain ⟨U, V, ⟨hU, hV, hk⟩, H1, H2⟩ := j8
    rw [hp] at hU
    rw [hq] at hV
    exact ⟨U, V, hU, hV, fun _ => hk, hidden fun w => reck32_8 23 8 a b U 0 0 w a0 (by omega) b0 (by omega) hU.1 hU.2 H1, hidden fun w => reck64_8 52 11 X Y V 0 0 w x0 x1 y0 y1 hV.1 hV.2 H2⟩
  · obtain ⟨U, V, ⟨hU, hV, hk⟩, H1, H2⟩ := j9
    rw [hp] at hU
    rw [hq] at hV
    exact ⟨U, V, hU, hV, fun _ => hk, hidden fun w => reck32_9 23 8 a b U 0 0 w a0 (by omega) b0 (by omega) hU.1 hU.2 H1, hidden fun w => reck64_9 52 11 X Y V 0 0 w x0 x1 y0 y1 hV.1 hV.2 H2⟩
theorem ag_low (op a b X Y : Int) (w : World) (hl : Laid w) (q1 : op < 1)
    (H1 : Hid (∀ w, Laid w → Calls Tryd.prog 4 #[.int .i64 op, .int .u32 a, .int .u32 b] w fun r w' => r = .returned (.tuple #[.int .u32 0, .int .i64 1]) ∧ Below w.heap.size w w')) (H2 : Hid (∀ w, Laid w → Calls Tryd.prog 5 #[.int .i64 op, .int .u64 X, .int .u64 Y] w fun r w' => r = .returned (.tuple #[.int .u64 0, .int .i64 1]) ∧ Below w.heap.size w w'))
    (HX : Hid (∀ w, Laid w → Calls Tryd.prog 6 #[.int .u32 a] w fun r w' => r = .returned (.int .u64 X) ∧ Below w.heap.size w w')) (HY : Hid (∀ w, Laid w → Calls Tryd.prog 6 #[.int .u32 b] w fun r w' => r = .returned (.int .u64 Y) ∧ Below w.heap.size w w')) :
    Calls Tryd.prog 3 #[.int .i64 op, .int .u32 a, .int .u32 b] w fun r w' => r = .returned (.bool true) ∧ Below w.heap.size w w' := by
  have HM : Hid (∀ w, Calls Tryd.prog 7 #[.int .i64 1] w fun r w' => r = .returned (.int .i64 1) ∧ w' = w) := hidden fun w => num4_any 1 w (by omega) (by omega)
  have HV := hidden live4_any
  have HL := hidden hl
  have HB := hidden (Below.refl w.heap.size w)
  clear hl
  go_enter Tryd.func3, Tryd.ntmps3
  go_wp2_with (first | (go_at_call 4; refine (H1.out _ HL.out).mono ?_; rintro r w9 ⟨rfl, hb⟩; have HL := hidden (HL.out.later hb); have HB := hidden (HB.out.trans (hb.mono HB.out.size)); clear hb) | (go_at_call 5; refine (H2.out _ HL.out).mono ?_; rintro r w9 ⟨rfl, hb⟩; have HL := hidden (HL.out.later hb); have HB := hidden (HB.out.trans (hb.mono HB.out.size)); clear hb) | (go_at_call_of 6 (Value.int IntKind.u32 a); refine (HX.out _ HL.out).mono ?_; rintro r w9 ⟨rfl, hb⟩; have HL := hidden (HL.out.later hb); have HB := hidden (HB.out.trans (hb.mono HB.out.size)); clear hb) | (go_at_call_of 6 (Value.int IntKind.u32 b); refine (HY.out _ HL.out).mono ?_; rintro r w9 ⟨rfl, hb⟩; have HL := hidden (HL.out.later hb); have HB := hidden (HB.out.trans (hb.mono HB.out.size)); clear hb) | (go_at_call 7; refine (HM.out _).mono ?_; rintro r w9 ⟨rfl, hw⟩; obtain rfl := hw.symm) | (go_at_call 8; refine (HV.out _ HL.out).mono ?_; rintro r w9 ⟨rfl, hb⟩; have HB := hidden (HB.out.trans (hb.mono HB.out.size)); clear hb))
  go_ret
  exact ⟨rfl, HB.out⟩
theorem ag_high (op a b X Y : Int) (w : World) (hl : Laid w) (q1 : ¬ op < 1) (q2 : 9 < op)
    (H1 : Hid (∀ w, Laid w → Calls Tryd.prog 4 #[.int .i64 op, .int .u32 a, .int .u32 b] w fun r w' => r = .returned (.tuple #[.int .u32 0, .int .i64 1]) ∧ Below w.heap.size w w')) (H2 : Hid (∀ w, Laid w → Calls Tryd.prog 5 #[.int .i64 op, .int .u64 X, .int .u64 Y] w fun r w' => r = .returned (.tuple #[.int .u64 0, .int .i64 1]) ∧ Below w.heap.size w w'))
    (HX : Hid (∀ w, Laid w → Calls Tryd.prog 6 #[.int .u32 a] w fun r w' => r = .returned (.int .u64 X) ∧ Below w.heap.size w w')) (HY : Hid (∀ w, Laid w → Calls Tryd.prog 6 #[.int .u32 b] w fun r w' => r = .returned (.int .u64 Y) ∧ Below w.heap.size w w')) :
    Calls Tryd.prog 3 #[.int .i64 op, .int .u32 a, .int .u32 b] w fun r w' => r = .returned (.bool true) ∧ Below w.heap.size w w' := by
  have HM : Hid (∀ w, Calls Tryd.prog 7 #[.int .i64 1] w fun r w' => r = .returned (.int .i64 1) ∧ w' = w) := hidden fun w => num4_any 1 w (by omega) (by omega)
  have HV := hidden live4_any
  have HL := hidden hl
  have HB := hidden (Below.refl w.heap.size w)
  clear hl
  go_enter Tryd.func3, Tryd.ntmps3
  go_wp2_with (first | (go_at_call 4; refine (H1.out _ HL.out).mono ?_; rintro r w9 ⟨rfl, hb⟩; have HL := hidden (HL.out.later hb); have HB := hidden (HB.out.trans (hb.mono HB.out.size)); clear hb) | (go_at_call 5; refine (H2.out _ HL.out).mono ?_; rintro r w9 ⟨rfl, hb⟩; have HL := hidden (HL.out.later hb); have HB := hidden (HB.out.trans (hb.mono HB.out.size)); clear hb) | (go_at_call_of 6 (Value.int IntKind.u32 a); refine (HX.out _ HL.out).mono ?_; rintro r w9 ⟨rfl, hb⟩; have HL := hidden (HL.out.later hb); have HB := hidden (HB.out.trans (hb.mono HB.out.size)); clear hb) | (go_at_call_of 6 (Value.int IntKind.u32 b); refine (HY.out _ HL.out).mono ?_; rintro r w9 ⟨rfl, hb⟩; have HL := hidden (HL.out.later hb); have HB := hidden (HB.out.trans (hb.mono HB.out.size)); clear hb) | (go_at_call 7; refine (HM.out _).mono ?_; rintro r w9 ⟨rfl, hw⟩; obtain rfl := hw.symm) | (go_at_call 8; refine (HV.out _ HL.out).mono ?_; rintro r w9 ⟨rfl, hb⟩; have HB := hidden (HB.out.trans (hb.mono HB.out.size)); clear hb))
  go_ret
  exact ⟨rfl, HB.out⟩
theorem ag_in (op a b X Y R Q : Int) (w : World) (hl : Laid w) (q1 : ¬ op < 1) (q2 : ¬ 9 < op) (q6 : (op == 6) = false)
    (H1 : Hid (∀ w, Laid w → Calls Tryd.prog 4 #[.int .i64 op, .int .u32 a, .int .u32 b] w fun r w' => r = .returned (.tuple #[.int .u32 R, .int .i64 0]) ∧ Below w.heap.size w w')) (H2 : Hid (∀ w, Laid w → Calls Tryd.prog 5 #[.int .i64 op, .int .u64 X, .int .u64 Y] w fun r w' => r = .returned (.tuple #[.int .u64 Q, .int .i64 0]) ∧ Below w.heap.size w w'))
    (HX : Hid (∀ w, Laid w → Calls Tryd.prog 6 #[.int .u32 a] w fun r w' => r = .returned (.int .u64 X) ∧ Below w.heap.size w w')) (HY : Hid (∀ w, Laid w → Calls Tryd.prog 6 #[.int .u32 b] w fun r w' => r = .returned (.int .u64 Y) ∧ Below w.heap.size w w')) (HN : Hid (∀ w, Laid w → Calls Tryd.prog 9 #[.int .u64 Q] w fun r w' => r = .returned (.int .u32 R) ∧ Below w.heap.size w w')) :
    Calls Tryd.prog 3 #[.int .i64 op, .int .u32 a, .int .u32 b] w fun r w' => r = .returned (.bool true) ∧ Below w.heap.size w w' := by
  have HM : Hid (∀ w, Calls Tryd.prog 7 #[.int .i64 0] w fun r w' => r = .returned (.int .i64 0) ∧ w' = w) := hidden fun w => num4_any 0 w (by omega) (by omega)
  have HV := hidden live4_any
  have HL := hidden hl
  have HB := hidden (Below.refl w.heap.size w)
  clear hl
  go_enter Tryd.func3, Tryd.ntmps3
  go_wp2_with (first | (go_at_call 4; refine (H1.out _ HL.out).mono ?_; rintro r w9 ⟨rfl, hb⟩; have HL := hidden (HL.out.later hb); have HB := hidden (HB.out.trans (hb.mono HB.out.size)); clear hb) | (go_at_call 5; refine (H2.out _ HL.out).mono ?_; rintro r w9 ⟨rfl, hb⟩; have HL := hidden (HL.out.later hb); have HB := hidden (HB.out.trans (hb.mono HB.out.size)); clear hb) | (go_at_call_of 6 (Value.int IntKind.u32 a); refine (HX.out _ HL.out).mono ?_; rintro r w9 ⟨rfl, hb⟩; have HL := hidden (HL.out.later hb); have HB := hidden (HB.out.trans (hb.mono HB.out.size)); clear hb) | (go_at_call_of 6 (Value.int IntKind.u32 b); refine (HY.out _ HL.out).mono ?_; rintro r w9 ⟨rfl, hb⟩; have HL := hidden (HL.out.later hb); have HB := hidden (HB.out.trans (hb.mono HB.out.size)); clear hb) | (go_at_call 9; refine (HN.out _ HL.out).mono ?_; rintro r w9 ⟨rfl, hb⟩; have HL := hidden (HL.out.later hb); have HB := hidden (HB.out.trans (hb.mono HB.out.size)); clear hb) | (go_at_call 7; refine (HM.out _).mono ?_; rintro r w9 ⟨rfl, hw⟩; obtain rfl := hw.symm) | (go_at_call 8; refine (HV.out _ HL.out).mono ?_; rintro r w9 ⟨rfl, hb⟩; have HB := hidden (HB.out.trans (hb.mono HB.out.size)); clear hb))
  go_ret
  exact ⟨rfl, HB.out⟩
theorem ag_quo (op a b X Y R Q : Int) (w : World) (hl : Laid w) (q0 : op = 6)
    (H1 : Hid (∀ w, Laid w → Calls Tryd.prog 4 #[.int .i64 op, .int .u32 a, .int .u32 b] w fun r w' => r = .returned (.tuple #[.int .u32 R, .int .i64 0]) ∧ Below w.heap.size w w')) (H2 : Hid (∀ w, Laid w → Calls Tryd.prog 5 #[.int .i64 op, .int .u64 X, .int .u64 Y] w fun r w' => r = .returned (.tuple #[.int .u64 Q, .int .i64 0]) ∧ Below w.heap.size w w'))
    (HX : Hid (∀ w, Laid w → Calls Tryd.prog 6 #[.int .u32 a] w fun r w' => r = .returned (.int .u64 X) ∧ Below w.heap.size w w')) (HY : Hid (∀ w, Laid w → Calls Tryd.prog 6 #[.int .u32 b] w fun r w' => r = .returned (.int .u64 Y) ∧ Below w.heap.size w w')) :
    Calls Tryd.prog 3 #[.int .i64 op, .int .u32 a, .int .u32 b] w fun r w' => r = .returned (.bool true) ∧ Below w.heap.size w w' := by
  have HM : Hid (∀ w, Calls Tryd.prog 7 #[.int .i64 0] w fun r w' => r = .returned (.int .i64 0) ∧ w' = w) := hidden fun w => num4_any 0 w (by omega) (by omega)
  have HV := hidden live4_any
  have HL := hidden hl
  have HB := hidden (Below.refl w.heap.size w)
  clear hl
  subst q0
  go_enter Tryd.func3, Tryd.ntmps3
  go_wp2_with (first | (go_at_call 4; refine (H1.out _ HL.out).mono ?_; rintro r w9 ⟨rfl, hb⟩; have HL := hidden (HL.out.later hb); have HB := hidden (HB.out.trans (hb.mono HB.out.size)); clear hb) | (go_at_call 5; refine (H2.out _ HL.out).mono ?_; rintro r w9 ⟨rfl, hb⟩; have HL := hidden (HL.out.later hb); have HB := hidden (HB.out.trans (hb.mono HB.out.size)); clear hb) | (go_at_call_of 6 (Value.int IntKind.u32 a); refine (HX.out _ HL.out).mono ?_; rintro r w9 ⟨rfl, hb⟩; have HL := hidden (HL.out.later hb); have HB := hidden (HB.out.trans (hb.mono HB.out.size)); clear hb) | (go_at_call_of 6 (Value.int IntKind.u32 b); refine (HY.out _ HL.out).mono ?_; rintro r w9 ⟨rfl, hb⟩; have HL := hidden (HL.out.later hb); have HB := hidden (HB.out.trans (hb.mono HB.out.size)); clear hb) | (go_at_call 7; refine (HM.out _).mono ?_; rintro r w9 ⟨rfl, hw⟩; obtain rfl := hw.symm) | (go_at_call 8; refine (HV.out _ HL.out).mono ?_; rintro r w9 ⟨rfl, hb⟩; have HB := hidden (HB.out.trans (hb.mono HB.out.size)); clear hb))
  go_ret
  exact ⟨rfl, HB.out⟩
theorem realsAgree_walk (op a b : Int) (w : World) (w0 : (Lit.int .i64 op).wf = true) (w1 : (Lit.int .u32 a).wf = true) (w2 : (Lit.int .u32 b).wf = true) (hl : Laid w) :
    Calls Tryd.prog 3 #[.int .i64 op, .int .u32 a, .int .u32 b] w fun r w' => r = .returned (.bool true) ∧ Below w.heap.size w w' := by
  have ba := bounds_u32 w1
  have bb := bounds_u32 w2
  have p32 : p2 (23 + 8 + 1) = 4294967296 := by decide +kernel
  have p64 : p2 (52 + 11 + 1) = 18446744073709551616 := by decide +kernel
  have hwid : ∀ a : Int, 0 ≤ a → a ≤ 4294967295 → ∃ X, X = convK 52 11 (kindI 23 8 a) (negI 23 8 a) (expI 23 8 a) (manI 23 8 a) ∧ (0 ≤ X ∧ X < 18446744073709551616) ∧ Hid (∀ w, Laid w → Calls Tryd.prog 6 #[.int .u32 a] w fun r w' => r = .returned (.int .u64 X) ∧ Below w.heap.size w w') := fun a a0 a1 => by
    have hbl := bl_of_lt 23 8 a a0 (by omega)
    have g := patK 23 8 a ok23 a0 hbl
    have bR := conv_bd 23 8 52 11 a _ _ _ _ ok52 g
    exact ⟨_, rfl, ⟨bR.1, by have := bR.2; omega⟩, hidden fun w h => widen_c a _ w h (hidden fun w => conv_u64 23 8 52 11 a _ 0 w a0 (by omega) bR.1 (by have := bR.2; omega) (hidden fun w => pconv_k 23 8 52 11 a _ _ _ _ w ok23 ok52 g (popen1 23 8 a ok23 a0 (by omega) hbl)))⟩
  obtain ⟨X, hX, bX, HX⟩ := hwid a ba.1 ba.2
  obtain ⟨Y, hY, bY, HY⟩ := hwid b bb.1 bb.2
  by_cases ho : op < 1 ∨ 9 < op
  · have H1 : Hid (∀ w, Laid w → Calls Tryd.prog 4 #[.int .i64 op, .int .u32 a, .int .u32 b] w fun r w' => r = .returned (.tuple #[.int .u32 0, .int .i64 1]) ∧ Below w.heap.size w w') := hidden fun w h => pSingle op a b 0 1 w h (hidden fun w => reck32_no 23 8 op a b w ba.1 (by omega) bb.1 (by omega) ho)
    have H2 : Hid (∀ w, Laid w → Calls Tryd.prog 5 #[.int .i64 op, .int .u64 X, .int .u64 Y] w fun r w' => r = .returned (.tuple #[.int .u64 0, .int .i64 1]) ∧ Below w.heap.size w w') := hidden fun w h => pDouble op X Y 0 1 w h (hidden fun w => reck64_no 52 11 op X Y w bX.1 bX.2 bY.1 bY.2 ho)
    by_cases h1 : op < 1
    · exact ag_low op a b X Y w hl h1 H1 H2 HX HY
    · exact ag_high op a b X Y w hl h1 (by omega) H1 H2 HX HY
  obtain ⟨R, Q, hR, hQ, hk, h1, h2⟩ := agree_reck op a b X Y ho ba.1 ba.2 bb.1 bb.2 bX.1 bX.2 bY.1 bY.2 hX hY
  have H1 : Hid (∀ w, Laid w → Calls Tryd.prog 4 #[.int .i64 op, .int .u32 a, .int .u32 b] w fun r w' => r = .returned (.tuple #[.int .u32 R, .int .i64 0]) ∧ Below w.heap.size w w') := hidden fun w h => pSingle op a b R 0 w h h1
  have H2 : Hid (∀ w, Laid w → Calls Tryd.prog 5 #[.int .i64 op, .int .u64 X, .int .u64 Y] w fun r w' => r = .returned (.tuple #[.int .u64 Q, .int .i64 0]) ∧ Below w.heap.size w w') := hidden fun w h => pDouble op X Y Q 0 w h h2
  by_cases h6 : op = 6
  · exact ag_quo op a b X Y R Q w hl h6 H1 H2 HX HY
  have hblQ := bl_of_lt 52 11 Q hQ.1 (by omega)
  have gQ := patK 52 11 Q ok52 hQ.1 hblQ
  have bS := conv_bd 52 11 23 8 Q _ _ _ _ ok23 gQ
  have HN : Hid (∀ w, Laid w → Calls Tryd.prog 9 #[.int .u64 Q] w fun r w' => r = .returned (.int .u32 (bk 23 8 52 11 Q)) ∧ Below w.heap.size w w') := hidden fun w h => narrow_c Q _ w h (hidden fun w => conv_u32 52 11 23 8 Q _ 0 w hQ.1 hQ.2 bS.1 (by have := bS.2; omega) (hidden fun w => pconv_k 52 11 23 8 Q _ _ _ _ w ok52 ok23 gQ (popen1 52 11 Q ok52 hQ.1 (by omega) hblQ)))
  rw [hk h6] at HN
  exact ag_in op a b X Y R Q w hl (by omega) (by omega) (by simpa using h6) H1 H2 HX HY HN
end Go.Proofs.YthfjjkikeebopaaDoor
