/- The walk of SoftWider: reckoned in a format more than twice as wide, and converted back, all is the same. -/
import Derived.Test.YtnjgknklcfdjlaaL3y
import Derived.Test.YtnjgknklcfdjlaaO4
import Derived.Test.YtnjgknklcfdjlaaW3n
import Derived.Test.YtnjgknklcfdjlaaW3o
namespace Go.Proofs.Ytnjgknklcfdjlaa
open Go.RowKit
set_option maxRecDepth 100000
set_option maxHeartbeats 1000000
set_option linter.unusedVariables false

/-- a pattern of the wide format, converted to the narrow one -/
theorem wid_back (m x : Nat) (V U : Int) (hok : okF m x) (hok2 : okF ((2 * m + 4 : Nat) : Int) ((x + 2 : Nat) : Int)) (v0 : 0 ≤ V) (v1 : V < p2 (2 * m + 4 + (x + 2) + 1)) (hU : bk m x V = U) :
    Hid (∀ w, Calls Try.prog 6 #[.agg #[.int .i64 ((2 * m + 4 : Nat) : Int), .int .i64 ((x + 2 : Nat) : Int)], .agg #[.int .i64 (m : Int), .int .i64 (x : Int)], .int .u64 V] w fun r w' => r = .returned (.tuple #[.int .u64 U, .int .i64 0]) ∧ Below w.heap.size w w') := hidden fun w => by
  have hp64 : p2 (2 * m + 4 + (x + 2) + 1) ≤ 18446744073709551616 := by
    have hp := p2_mono (show 2 * m + 4 + (x + 2) + 1 ≤ 64 by have := hok2.2.1; have := hok2.2.2.2; omega)
    rwa [p2_64] at hp
  have hbl := bl_of_lt (2 * m + 4) (x + 2) V v0 v1
  have := pconv_k (2 * m + 4) (x + 2) m x V _ _ _ _ w hok2 hok (patK (2 * m + 4) (x + 2) V hok2 v0 hbl) (popen1 (2 * m + 4) (x + 2) V hok2 v0 (by omega) hbl)
  rw [← hU]
  exact this
theorem wid_g (m : Nat) (h : m ≤ 23) : wrap64 (wrap64 (2 * (m : Int)) + 4) = ((2 * m + 4 : Nat) : Int) := by
  have e1 : wrap64 (2 * (m : Int)) = 2 * (m : Int) := by unfold wrap64; omega
  rw [e1]
  unfold wrap64
  omega
theorem wid_gx (x : Nat) (h : x ≤ 9) : IntKind.i64.wrap ((x : Int) + 2) = ((x + 2 : Nat) : Int) := by rw [IntKind.wrap_i64]; omega
set_option maxHeartbeats 4000000 in
theorem softWider_walk (m x a b : Int) (w : World) (w0 : (Lit.int .i64 m).wf = true) (x0 : (Lit.int .i64 x).wf = true) (w1 : (Lit.int .u64 a).wf = true) (w2 : (Lit.int .u64 b).wf = true) :
    Calls Try.prog 3 #[.agg #[.int .i64 m, .int .i64 x], .int .u64 a, .int .u64 b] w fun r w' => r = .returned (.bool true) ∧ Below w.heap.size w w' := by
  obtain ⟨a0, a1⟩ := bounds_u64 w1
  obtain ⟨b0, b1⟩ := bounds_u64 w2
  clear w0 x0 w1 w2
  have HL := hidden live_any
  have HM0 : Hid (∀ w, Calls Try.prog 7 #[.int .i64 0] w fun r w' => r = .returned (.int .i64 0) ∧ w' = w) := hidden (fun w => num_any 0 w (by omega) (by omega))
  have HM1 : Hid (∀ w, Calls Try.prog 7 #[.int .i64 1] w fun r w' => r = .returned (.int .i64 1) ∧ w' = w) := hidden (fun w => num_any 1 w (by omega) (by omega))
  have HOP : ∀ c : Int, 0 ≤ c → c ≤ 18446744073709551615 → ∃ (K E M d : Int) (n : Bool), ROpn m x c K n E M d ∧ (d = 0 ∨ d = 1) ∧ (d = 0 → okF m x ∧ bl c ≤ 1 + x + m) := fun c c0 c1 => by
    by_cases hok : okF m x
    · obtain ⟨m, rfl⟩ := Int.eq_ofNat_of_zero_le (show 0 ≤ m by have := hok.1; omega)
      obtain ⟨x, rfl⟩ := Int.eq_ofNat_of_zero_le (show 0 ≤ x by have := hok.2.2.1; omega)
      by_cases hc : bl c ≤ 1 + x + m
      · exact ⟨_, _, _, 0, _, ro1 m x c hok c0 c1 hc, .inl rfl, fun _ => ⟨hok, by omega⟩⟩
      · exact ⟨_, _, _, 1, _, ro1_big m x c hok c0 c1 (by omega), .inr rfl, fun h => absurd h (by decide)⟩
    · exact ⟨_, _, _, 1, _, ro1_no m x c hok, .inr rfl, fun h => absurd h (by decide)⟩
  obtain ⟨K1, E1, M1, d1, n1, H1, hd1, hk1⟩ := HOP a a0 a1
  obtain ⟨K2, E2, M2, d2, n2, H2, hd2, hk2⟩ := HOP b b0 b1
  by_cases q1 : 23 < m
  · exact wid_m m x _ _ a b K1 E1 M1 K2 E2 M2 d1 d2 n1 n2 w rfl rfl q1 HL HM0 HM1 H1 H2
  by_cases q2 : 9 < x
  · exact wid_x m x _ _ a b K1 E1 M1 K2 E2 M2 d1 d2 n1 n2 w rfl rfl (by omega) q2 HL HM0 HM1 H1 H2
  rcases hd1 with rfl | rfl
  · rcases hd2 with rfl | rfl
    · obtain ⟨hok, ha⟩ := hk1 rfl
      obtain ⟨-, hb⟩ := hk2 rfl
      clear HOP hk1 hk2
      obtain ⟨m, rfl⟩ := Int.eq_ofNat_of_zero_le (show 0 ≤ m by have := hok.1; omega)
      obtain ⟨x, rfl⟩ := Int.eq_ofNat_of_zero_le (show 0 ≤ x by have := hok.2.2.1; omega)
      have hx : 2 ≤ x := by have := hok.2.2.1; omega
      have hm1 : 1 ≤ m := by have := hok.1; omega
      have hm23 : m ≤ 23 := by omega
      have hx9 : x ≤ 9 := by omega
      have hbi : 1 ≤ bias x := (bias_bd x hok.2.2.1 hok.2.2.2).1
      replace ha : bl a ≤ 1 + x + m := by omega
      replace hb : bl b ≤ 1 + x + m := by omega
      have hok2 : okF ((2 * m + 4 : Nat) : Int) ((x + 2 : Nat) : Int) := by have := hok.1; unfold okF; omega
      have la := pat_lt m x a a0 ha
      have lb := pat_lt m x b b0 hb
      have gA := patK m x a hok a0 ha
      have gB := patK m x b hok b0 hb
      obtain ⟨kA, wA⟩ := wideP_of m x a _ _ _ _ hx hbi gA
      obtain ⟨kB, wB⟩ := wideP_of m x b _ _ _ _ hx hbi gB
      obtain ⟨xa0, xa1⟩ := conv_bd m x (2 * m + 4) (x + 2) a _ _ _ _ hok2 gA
      obtain ⟨xb0, xb1⟩ := conv_bd m x (2 * m + 4) (x + 2) b _ _ _ _ hok2 gB
      have HX := hidden fun w => pconv_k m x (2 * m + 4) (x + 2) a _ _ _ _ w hok hok2 gA (popen1 m x a hok a0 a1 ha)
      have HY := hidden fun w => pconv_k m x (2 * m + 4) (x + 2) b _ _ _ _ w hok hok2 gB (popen1 m x b hok b0 b1 hb)
      obtain ⟨X, hX⟩ : ∃ X, X = convK (2 * m + 4) (x + 2) (kindI m x a) (negI m x a) (expI m x a) (manI m x a) := ⟨_, rfl⟩
      obtain ⟨Y, hY⟩ : ∃ Y, Y = convK (2 * m + 4) (x + 2) (kindI m x b) (negI m x b) (expI m x b) (manI m x b) := ⟨_, rfl⟩
      have hsb := sub_bk m x a b hm1 hx hbi a0 ha b0 hb lb hok hok2 X Y hX hY
      rw [← hX] at kA wA xa0 xa1 HX
      rw [← hY] at kB wB xb0 xb1 HY
      have hp64 : p2 (2 * m + 4 + (x + 2) + 1) ≤ 18446744073709551616 := by
        have hp := p2_mono (show 2 * m + 4 + (x + 2) + 1 ≤ 64 by omega)
        rwa [p2_64] at hp
      have hblX := bl_of_lt (2 * m + 4) (x + 2) X xa0 xa1
      have hblY := bl_of_lt (2 * m + 4) (x + 2) Y xb0 xb1
      have o1 := popen2 m x a b hok a0 a1 ha b0 b1 hb
      have o2 := popen2 (2 * m + 4) (x + 2) X Y hok2 xa0 (by omega) hblX xb0 (by omega) hblY
      have fA := fin_of m x a hx
      have fB := fin_of m x b hx
      have fX := fin_of (2 * m + 4) (x + 2) X (by omega)
      have fY := fin_of (2 * m + 4) (x + 2) Y (by omega)
      rw [kA] at o2 fX
      rw [kB] at o2 fY
      have nX := man_nn (2 * m + 4) (x + 2) X
      have nY := man_nn (2 * m + 4) (x + 2) Y
      -- sums
      have HU0 := hidden fun w => padd_k m x a b _ _ _ _ _ _ _ _ w hok (kind_all m x a) (kind_all m x b) fA fB o1
      have HV0 := hidden fun w => padd_k (2 * m + 4) (x + 2) X Y _ _ _ _ _ _ _ _ w hok2 (kind_all m x a) (kind_all m x b) fX fY o2
      have bd0 := add_bd (2 * m + 4) (x + 2) X Y (kindI m x a) (expI (2 * m + 4) (x + 2) X) (manI (2 * m + 4) (x + 2) X) (kindI m x b) (expI (2 * m + 4) (x + 2) Y) (manI (2 * m + 4) (x + 2) Y) (negI (2 * m + 4) (x + 2) X) (negI (2 * m + 4) (x + 2) Y) (by omega) (by omega) xa0 xa1 xb0 xb1
      have HW0 := wid_back m x _ _ hok hok2 bd0.1 bd0.2 (add_bk m x a b _ _ _ _ _ _ X Y _ _ _ _ _ _ _ _ hx hbi gA gB wA wB)
      -- differences
      have tb := turn_bd (m + x) b b0 lb
      have tY := turn_bd (2 * m + 4 + (x + 2)) Y xb0 xb1
      have hp64' : p2 (m + x + 1) ≤ 18446744073709551616 := by
        have hp := p2_mono (show m + x + 1 ≤ 64 by omega)
        rwa [p2_64] at hp
      have o3 := popen2 m x a (turnI (m + x) b) hok a0 a1 ha tb.1 (by omega) (bl_of_lt m x _ tb.1 tb.2)
      have o4 := popen2 (2 * m + 4) (x + 2) X (turnI (2 * m + 4 + (x + 2)) Y) hok2 xa0 (by omega) hblX tY.1 (by omega) (bl_of_lt (2 * m + 4) (x + 2) _ tY.1 tY.2)
      have HU1 := hidden fun w => psub_k m x a b _ _ _ _ _ _ _ _ w hok b0 lb (kind_all m x a) (kind_all m x _) fA (fin_of m x _ hx) o3
      have HV1 := hidden fun w => psub_k (2 * m + 4) (x + 2) X Y _ _ _ _ _ _ _ _ w hok2 xb0 xb1 (kind_all _ _ X) (kind_all _ _ _) (fin_of _ _ X (by omega)) (fin_of _ _ _ (by omega)) o4
      have bd1 := add_bd (2 * m + 4) (x + 2) X (turnI (2 * m + 4 + (x + 2)) Y) (kindI (2 * m + 4) (x + 2) X) (expI (2 * m + 4) (x + 2) X) (manI (2 * m + 4) (x + 2) X) (kindI (2 * m + 4) (x + 2) (turnI (2 * m + 4 + (x + 2)) Y)) (expI (2 * m + 4) (x + 2) (turnI (2 * m + 4 + (x + 2)) Y)) (manI (2 * m + 4) (x + 2) (turnI (2 * m + 4 + (x + 2)) Y)) (negI (2 * m + 4) (x + 2) X) (negI (2 * m + 4) (x + 2) (turnI (2 * m + 4 + (x + 2)) Y)) (by omega) (by omega) xa0 xa1 tY.1 tY.2
      have HW1 := wid_back m x _ _ hok hok2 bd1.1 bd1.2 hsb
      -- products and quotients
      have HU2 := hidden fun w => pmul_k m x a b _ _ _ _ _ _ _ _ w hok (kind_all m x a) (kind_all m x b) fA fB o1
      have HV2 := hidden fun w => pmul_k (2 * m + 4) (x + 2) X Y _ _ _ _ _ _ _ _ w hok2 (kind_all m x a) (kind_all m x b) fX fY o2
      have bd2 := mulK_bd (2 * m + 4) (x + 2) (kindI m x a) (expI (2 * m + 4) (x + 2) X) (manI (2 * m + 4) (x + 2) X) (kindI m x b) (expI (2 * m + 4) (x + 2) Y) (manI (2 * m + 4) (x + 2) Y) (negI (2 * m + 4) (x + 2) X) (negI (2 * m + 4) (x + 2) Y) (by omega) (by omega) nX nY
      have HW2 := wid_back m x _ _ hok hok2 bd2.1 bd2.2 (mul_bk m x a b _ _ _ _ _ _ X Y _ _ _ _ _ _ _ _ hx hbi gA gB wA wB)
      have HU3 := hidden fun w => pdiv_k m x a b _ _ _ _ _ _ _ _ w hok (kind_all m x a) (kind_all m x b) fA fB o1
      have HV3 := hidden fun w => pdiv_k (2 * m + 4) (x + 2) X Y _ _ _ _ _ _ _ _ w hok2 (kind_all m x a) (kind_all m x b) fX fY o2
      have bd3 := divK_bd (2 * m + 4) (x + 2) (kindI m x a) (expI (2 * m + 4) (x + 2) X) (manI (2 * m + 4) (x + 2) X) (kindI m x b) (expI (2 * m + 4) (x + 2) Y) (manI (2 * m + 4) (x + 2) Y) (negI (2 * m + 4) (x + 2) X) (negI (2 * m + 4) (x + 2) Y) (by omega) (by omega) nX nY
      have HW3 := wid_back m x _ _ hok hok2 bd3.1 bd3.2 (div_bk m x a b _ _ _ _ _ _ X Y _ _ _ _ _ _ _ _ hm23 hx hbi gA gB wA wB)
      -- roots
      obtain ⟨R, hR⟩ := root_ex_i (rootS (expI m x a) (manI m x a) * 18446744073709551616) (Int.mul_nonneg (Int.mul_nonneg (man_nn m x a) (by have := p2_pos (upE (expI m x a) (manI m x a)); omega)) (by decide))
      have hR0 : 0 ≤ R := hR.1
      have HU4 := hidden fun w => psqrt_k m x a _ _ _ R _ w hok (kind_all m x a) fA (fun _ => hR) (popen1 m x a hok a0 a1 ha)
      have oX := popen1 (2 * m + 4) (x + 2) X hok2 xa0 (by omega) hblX
      rw [kA] at oX
      have hRX : kindI m x a = 2 → IsRoot (rootS (expI (2 * m + 4) (x + 2) X) (manI (2 * m + 4) (x + 2) X) * 18446744073709551616) R := fun h2 => by
        obtain ⟨t, e1, e2, e3⟩ := wA.fin h2
        have hf := (gA.fin h2).1
        rw [e1, e2, (root_scale (expI m x a) (manI m x a) t hf.1 (by omega)).1]
        exact hR
      have HV4 := hidden fun w => psqrt_k (2 * m + 4) (x + 2) X _ _ _ R _ w hok2 (kind_all m x a) fX hRX oX
      have bd4 := sqrtK_bd (2 * m + 4) (x + 2) X (kindI m x a) (expI (2 * m + 4) (x + 2) X) (manI (2 * m + 4) (x + 2) X) R (negI (2 * m + 4) (x + 2) X) (by omega) (by omega) xa0 xa1 hR0
      have HW4 := wid_back m x _ _ hok hok2 bd4.1 bd4.2 (sqrt_bk m x a _ _ _ R X _ _ _ _ hm23 hx hbi gA wA (fun _ => hR))
      exact wid_main (m : Int) (x : Int) ((2 * m + 4 : Nat) : Int) ((x + 2 : Nat) : Int) a b K1 E1 M1 K2 E2 M2 X Y _ _ _ _ _ _ _ _ _ _ n1 n2 w (wid_g m hm23) (wid_gx x hx9) (by omega) (by omega) HL HM0 HM1 H1 H2 HX HY HU0 HV0 HW0 HU1 HV1 HW1 HU2 HV2 HW2 HU3 HV3 HW3 HU4 HV4 HW4
    · exact wid_e m x _ _ a b K1 E1 M1 K2 E2 M2 n1 n2 w rfl rfl (by omega) (by omega) HL HM0 HM1 H1 H2
  · exact wid_d m x _ _ a b K1 E1 M1 K2 E2 M2 d2 n1 n2 w rfl rfl (by omega) (by omega) HL HM0 HM1 H1 H2
end Go.Proofs.Ytnjgknklcfdjlaa
