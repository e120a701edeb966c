/- The walk of SoftCompares: which of any two is greater is as the page says. -/
import Derived.Test.YtbkjbnnbfmfkhaaS3lm
import Derived.Test.YtbkjbnnbfmfkhaaC3m
import Derived.Test.YtbkjbnnbfmfkhaaL3a
namespace Go.Proofs.Ytbkjbnnbfmfkhaa
open Go.RowKit
set_option maxRecDepth 100000
set_option maxHeartbeats 1000000
set_option linter.unusedVariables false

abbrev CmpC (F : Nat) (m x a b c : Int) (ok : Bool) (g : Int) : Prop := Hid (∀ w, Calls Try.prog F #[.agg #[.int .i64 m, .int .i64 x], .int .u64 a, .int .u64 b] w fun r w' => r = .returned (.tuple #[.int .i64 c, .bool ok, .int .i64 g]) ∧ Below w.heap.size w w')
abbrev ROpenC2 (m x : Nat) (a b K1 : Int) (n1 : Bool) (E1 M1 K2 : Int) (n2 : Bool) (E2 M2 : Int) : Prop := Hid (∀ w, Calls Try.prog 39 #[.agg #[.int .i64 (m : Int), .int .i64 (x : Int)], .int .u64 a, .int .u64 b] w fun r w' => r = .returned (.tuple #[partsV K1 n1 E1 M1, partsV K2 n2 E2 M2, .int .i64 0]) ∧ Below w.heap.size w w')
theorem ropen1 (m x : Nat) (a : Int) (hok : okF m x) (a0 : 0 ≤ a) (a1 : a ≤ 18446744073709551615) (ha : bl a ≤ 1 + x + m) : Hid (∀ w, Calls Try.prog 49 #[.agg #[.int .i64 (m : Int), .int .i64 (x : Int)], .int .u64 a] w fun r w' => r = .returned (.tuple #[partsV (kindI m x a) (negI m x a) (expI m x a) (manI m x a), .int .i64 0]) ∧ Below w.heap.size w w') := hidden fun w => ropen_any m x a w hok a0 a1 ha
theorem ropen1_big (m x : Nat) (a : Int) (hok : okF m x) (a0 : 0 ≤ a) (a1 : a ≤ 18446744073709551615) (ha : 1 + x + m < bl a) : Hid (∀ w, Calls Try.prog 49 #[.agg #[.int .i64 (m : Int), .int .i64 (x : Int)], .int .u64 a] w fun r w' => r = .returned (.tuple #[partsV 0 false 0 0, .int .i64 1]) ∧ Below w.heap.size w w') := hidden fun w => ropen_big m x a _ _ w hok a0 a1 rfl rfl (top_big m x a a0 ha)
def cmpOk (K1 K2 : Int) : Bool := !(K1 == 4 || K2 == 4)
def cmpR (m x : Nat) (a b K1 K2 : Int) : Int := if K1 = 4 ∨ K2 = 4 then 0 else cmpZ (rankI (m + x) a) (rankI (m + x) b)
theorem cmpret {w : World} {S : Int} {r : Ending} {w' : World} (h : CmpRet w S r w') : r = .returned (.tuple #[.int .i64 (sgz S), .bool true, .int .i64 0]) ∧ Below w.heap.size w w' := by
  obtain ⟨c, rfl, hc, hb⟩ := h
  refine ⟨?_, hb⟩
  have : c = sgz S := by
    unfold sgz
    split
    · omega
    · split <;> omega
  rw [this]
theorem rcmp_k (m x : Nat) (a b K1 E1 M1 K2 E2 M2 : Int) (n1 n2 : Bool) (w : World) (hok : okF m x) (g1 : PatK m x a K1 n1 E1 M1) (g2 : PatK m x b K2 n2 E2 M2) (HO : ROpenC2 m x a b K1 n1 E1 M1 K2 n2 E2 M2) :
    Calls Try.prog 32 #[.agg #[.int .i64 (m : Int), .int .i64 (x : Int)], .int .u64 a, .int .u64 b] w fun r w' => r = .returned (.tuple #[.int .i64 (cmpR m x a b K1 K2), .bool (cmpOk K1 K2), .int .i64 0]) ∧ Below w.heap.size w w' := by
  have hx : 2 ≤ x := by have := hok.2.2.1; omega
  have hT : 0 < (p2 x - 1) * p2 m := by
    have h4 : p2 2 ≤ p2 x := p2_mono hx
    have e4 : p2 2 = 4 := rfl
    exact Int.mul_pos (by omega) (p2_pos m)
  have m1 := mag_rank m x a K1 E1 M1 n1 hok g1
  have m2 := mag_rank m x b K2 E2 M2 n2 hok g2
  rcases g1.kind with rfl | rfl | rfl | rfl <;> rcases g2.kind with rfl | rfl | rfl | rfl
  · obtain ⟨c1, d1, u1, v1⟩ := m1 (by decide)
    obtain ⟨c2, d2, u2, v2⟩ := m2 (by decide)
    rw [show cmpR m x a b 1 1 = cmpZ (rankI (m + x) a) (rankI (m + x) b) by simp [cmpR], show cmpOk 1 1 = true from rfl, c1, c2]
    clear c1 c2 d1 d2 u1 u2
    clear v1
    clear v2
    rw [show magI m x 1 E1 M1 = 0 by simp [magI]]
    rw [show magI m x 1 E2 M2 = 0 by simp [magI]]
    obtain ⟨rfl, rfl, -⟩ := g1.zero rfl
    obtain ⟨rfl, rfl, -⟩ := g2.zero rfl
    obtain ⟨k1, hk1⟩ : ∃ k : Nat, (0 : Int) - min (0 : Int) (0 : Int) = k := ⟨((0 : Int) - min (0 : Int) (0 : Int)).toNat, by omega⟩
    obtain ⟨k2, hk2⟩ : ∃ k : Nat, (0 : Int) - min (0 : Int) (0 : Int) = k := ⟨((0 : Int) - min (0 : Int) (0 : Int)).toNat, by omega⟩
    have q1 := p2_pos k1
    have q2 := p2_pos k2
    have X0 : 0 * p2 k1 = 0 := Int.zero_mul _
    have Y0 : 0 * p2 k2 = 0 := Int.zero_mul _
    rw [cmp_sum n1 n2 (0 * p2 k1) (0 * p2 k2) 0 0 (by omega) (by omega) (by omega) (by omega) (by omega) (by omega) (by omega) (by omega)]
    exact (rcmp_fin_11 m x a b (0 : Int) 0 (0 : Int) 0 _ n1 n2 k1 k2 w (by omega) (by omega) (by omega) (by omega) rfl hk1 hk2 (by omega) (by omega) HO).mono fun r w' h => cmpret h
  · obtain ⟨c1, d1, u1, v1⟩ := m1 (by decide)
    obtain ⟨c2, d2, u2, v2⟩ := m2 (by decide)
    rw [show cmpR m x a b 1 2 = cmpZ (rankI (m + x) a) (rankI (m + x) b) by simp [cmpR], show cmpOk 1 2 = true from rfl, c1, c2]
    clear c1 c2 d1 d2 u1 u2
    clear v1
    have v2 := v2 rfl
    rw [show magI m x 1 E1 M1 = 0 by simp [magI]]
    rw [show magI m x 2 E2 M2 = (E2 - least m x) * p2 m + M2 by simp [magI]] at v2 ⊢
    obtain ⟨rfl, rfl, -⟩ := g1.zero rfl
    obtain ⟨f2, -⟩ := g2.fin rfl
    have r2 := f2.rng hok
    obtain ⟨k1, hk1⟩ : ∃ k : Nat, (0 : Int) - min (0 : Int) E2 = k := ⟨((0 : Int) - min (0 : Int) E2).toNat, by omega⟩
    obtain ⟨k2, hk2⟩ : ∃ k : Nat, E2 - min (0 : Int) E2 = k := ⟨(E2 - min (0 : Int) E2).toNat, by omega⟩
    have q1 := p2_pos k1
    have q2 := p2_pos k2
    have Y0 : 0 < M2 * p2 k2 := Int.mul_pos (by omega) q2
    have X0 : 0 * p2 k1 = 0 := Int.zero_mul _
    rw [cmp_sum n1 n2 (0 * p2 k1) (M2 * p2 k2) 0 ((E2 - least m x) * p2 m + M2) (by omega) (by omega) (by omega) (by omega) (by omega) (by omega) (by omega) (by omega)]
    exact (rcmp_fin_12 m x a b (0 : Int) 0 E2 M2 _ n1 n2 k1 k2 w (by omega) (by omega) (by omega) (by omega) rfl hk1 hk2 (by omega) (by omega) HO).mono fun r w' h => cmpret h
  · obtain ⟨c1, d1, u1, v1⟩ := m1 (by decide)
    obtain ⟨c2, d2, u2, v2⟩ := m2 (by decide)
    rw [show cmpR m x a b 1 3 = cmpZ (rankI (m + x) a) (rankI (m + x) b) by simp [cmpR], show cmpOk 1 3 = true from rfl, c1, c2]
    clear c1 c2 d1 d2 u1 u2
    clear v1
    clear v2
    rw [show magI m x 1 E1 M1 = 0 by simp [magI]]
    rw [show magI m x 3 E2 M2 = (p2 x - 1) * p2 m by simp [magI]]
    generalize (p2 x - 1) * p2 m = T at *
    cases n1 <;> cases n2
    · rw [show cmpZ (sg false * 0) (sg false * T) = (-1) by rw [sg_f]; unfold cmpZ; repeat (first | omega | split)]; exact rcmp_13f m x a b E1 M1 E2 M2 false w HO
    · rw [show cmpZ (sg false * 0) (sg true * T) = 1 by rw [sg_f, sg_t]; unfold cmpZ; repeat (first | omega | split)]; exact rcmp_13t m x a b E1 M1 E2 M2 false w HO
    · rw [show cmpZ (sg true * 0) (sg false * T) = (-1) by rw [sg_f, sg_t]; unfold cmpZ; repeat (first | omega | split)]; exact rcmp_13f m x a b E1 M1 E2 M2 true w HO
    · rw [show cmpZ (sg true * 0) (sg true * T) = 1 by rw [sg_t]; unfold cmpZ; repeat (first | omega | split)]; exact rcmp_13t m x a b E1 M1 E2 M2 true w HO
  · exact rcmp_14 m x a b E1 M1 E2 M2 n1 n2 w HO
  · obtain ⟨c1, d1, u1, v1⟩ := m1 (by decide)
    obtain ⟨c2, d2, u2, v2⟩ := m2 (by decide)
    rw [show cmpR m x a b 2 1 = cmpZ (rankI (m + x) a) (rankI (m + x) b) by simp [cmpR], show cmpOk 2 1 = true from rfl, c1, c2]
    clear c1 c2 d1 d2 u1 u2
    have v1 := v1 rfl
    clear v2
    rw [show magI m x 2 E1 M1 = (E1 - least m x) * p2 m + M1 by simp [magI]] at v1 ⊢
    rw [show magI m x 1 E2 M2 = 0 by simp [magI]]
    obtain ⟨f1, -⟩ := g1.fin rfl
    have r1 := f1.rng hok
    obtain ⟨rfl, rfl, -⟩ := g2.zero rfl
    obtain ⟨k1, hk1⟩ : ∃ k : Nat, E1 - min E1 (0 : Int) = k := ⟨(E1 - min E1 (0 : Int)).toNat, by omega⟩
    obtain ⟨k2, hk2⟩ : ∃ k : Nat, (0 : Int) - min E1 (0 : Int) = k := ⟨((0 : Int) - min E1 (0 : Int)).toNat, by omega⟩
    have q1 := p2_pos k1
    have q2 := p2_pos k2
    have X0 : 0 < M1 * p2 k1 := Int.mul_pos (by omega) q1
    have Y0 : 0 * p2 k2 = 0 := Int.zero_mul _
    rw [cmp_sum n1 n2 (M1 * p2 k1) (0 * p2 k2) ((E1 - least m x) * p2 m + M1) 0 (by omega) (by omega) (by omega) (by omega) (by omega) (by omega) (by omega) (by omega)]
    exact (rcmp_fin_21 m x a b E1 M1 (0 : Int) 0 _ n1 n2 k1 k2 w (by omega) (by omega) (by omega) (by omega) rfl hk1 hk2 (by omega) (by omega) HO).mono fun r w' h => cmpret h
  · obtain ⟨c1, d1, u1, v1⟩ := m1 (by decide)
    obtain ⟨c2, d2, u2, v2⟩ := m2 (by decide)
    rw [show cmpR m x a b 2 2 = cmpZ (rankI (m + x) a) (rankI (m + x) b) by simp [cmpR], show cmpOk 2 2 = true from rfl, c1, c2]
    clear c1 c2 d1 d2 u1 u2
    have v1 := v1 rfl
    have v2 := v2 rfl
    rw [show magI m x 2 E1 M1 = (E1 - least m x) * p2 m + M1 by simp [magI]] at v1 ⊢
    rw [show magI m x 2 E2 M2 = (E2 - least m x) * p2 m + M2 by simp [magI]] at v2 ⊢
    obtain ⟨f1, -⟩ := g1.fin rfl
    have r1 := f1.rng hok
    obtain ⟨f2, -⟩ := g2.fin rfl
    have r2 := f2.rng hok
    obtain ⟨k1, hk1⟩ : ∃ k : Nat, E1 - min E1 E2 = k := ⟨(E1 - min E1 E2).toNat, by omega⟩
    obtain ⟨k2, hk2⟩ : ∃ k : Nat, E2 - min E1 E2 = k := ⟨(E2 - min E1 E2).toNat, by omega⟩
    have q1 := p2_pos k1
    have q2 := p2_pos k2
    have X0 : 0 < M1 * p2 k1 := Int.mul_pos (by omega) q1
    have Y0 : 0 < M2 * p2 k2 := Int.mul_pos (by omega) q2
    have ho := fin_order m x E1 M1 E2 M2 k1 k2 f1 f2 hk1 hk2
    rw [cmp_sum n1 n2 (M1 * p2 k1) (M2 * p2 k2) ((E1 - least m x) * p2 m + M1) ((E2 - least m x) * p2 m + M2) (by omega) (by omega) (by omega) (by omega) (by omega) (by omega) (by omega) (by omega)]
    exact (rcmp_fin_22 m x a b E1 M1 E2 M2 _ n1 n2 k1 k2 w (by omega) (by omega) (by omega) (by omega) rfl hk1 hk2 (by omega) (by omega) HO).mono fun r w' h => cmpret h
  · obtain ⟨c1, d1, u1, v1⟩ := m1 (by decide)
    obtain ⟨c2, d2, u2, v2⟩ := m2 (by decide)
    rw [show cmpR m x a b 2 3 = cmpZ (rankI (m + x) a) (rankI (m + x) b) by simp [cmpR], show cmpOk 2 3 = true from rfl, c1, c2]
    clear c1 c2 d1 d2 u1 u2
    have v1 := v1 rfl
    clear v2
    rw [show magI m x 2 E1 M1 = (E1 - least m x) * p2 m + M1 by simp [magI]] at v1 ⊢
    rw [show magI m x 3 E2 M2 = (p2 x - 1) * p2 m by simp [magI]]
    generalize (p2 x - 1) * p2 m = T at *
    generalize (E1 - least m x) * p2 m + M1 = A at *
    cases n1 <;> cases n2
    · rw [show cmpZ (sg false * A) (sg false * T) = (-1) by rw [sg_f]; unfold cmpZ; repeat (first | omega | split)]; exact rcmp_23f m x a b E1 M1 E2 M2 false w HO
    · rw [show cmpZ (sg false * A) (sg true * T) = 1 by rw [sg_f, sg_t]; unfold cmpZ; repeat (first | omega | split)]; exact rcmp_23t m x a b E1 M1 E2 M2 false w HO
    · rw [show cmpZ (sg true * A) (sg false * T) = (-1) by rw [sg_f, sg_t]; unfold cmpZ; repeat (first | omega | split)]; exact rcmp_23f m x a b E1 M1 E2 M2 true w HO
    · rw [show cmpZ (sg true * A) (sg true * T) = 1 by rw [sg_t]; unfold cmpZ; repeat (first | omega | split)]; exact rcmp_23t m x a b E1 M1 E2 M2 true w HO
  · exact rcmp_24 m x a b E1 M1 E2 M2 n1 n2 w HO
  · obtain ⟨c1, d1, u1, v1⟩ := m1 (by decide)
    obtain ⟨c2, d2, u2, v2⟩ := m2 (by decide)
    rw [show cmpR m x a b 3 1 = cmpZ (rankI (m + x) a) (rankI (m + x) b) by simp [cmpR], show cmpOk 3 1 = true from rfl, c1, c2]
    clear c1 c2 d1 d2 u1 u2
    clear v1
    clear v2
    rw [show magI m x 3 E1 M1 = (p2 x - 1) * p2 m by simp [magI]]
    rw [show magI m x 1 E2 M2 = 0 by simp [magI]]
    generalize (p2 x - 1) * p2 m = T at *
    cases n1 <;> cases n2
    · rw [show cmpZ (sg false * T) (sg false * 0) = 1 by rw [sg_f]; unfold cmpZ; repeat (first | omega | split)]; exact rcmp_31f m x a b E1 M1 E2 M2 false w HO
    · rw [show cmpZ (sg false * T) (sg true * 0) = 1 by rw [sg_f, sg_t]; unfold cmpZ; repeat (first | omega | split)]; exact rcmp_31f m x a b E1 M1 E2 M2 true w HO
    · rw [show cmpZ (sg true * T) (sg false * 0) = (-1) by rw [sg_f, sg_t]; unfold cmpZ; repeat (first | omega | split)]; exact rcmp_31t m x a b E1 M1 E2 M2 false w HO
    · rw [show cmpZ (sg true * T) (sg true * 0) = (-1) by rw [sg_t]; unfold cmpZ; repeat (first | omega | split)]; exact rcmp_31t m x a b E1 M1 E2 M2 true w HO
  · obtain ⟨c1, d1, u1, v1⟩ := m1 (by decide)
    obtain ⟨c2, d2, u2, v2⟩ := m2 (by decide)
    rw [show cmpR m x a b 3 2 = cmpZ (rankI (m + x) a) (rankI (m + x) b) by simp [cmpR], show cmpOk 3 2 = true from rfl, c1, c2]
    clear c1 c2 d1 d2 u1 u2
    clear v1
    have v2 := v2 rfl
    rw [show magI m x 3 E1 M1 = (p2 x - 1) * p2 m by simp [magI]]
    rw [show magI m x 2 E2 M2 = (E2 - least m x) * p2 m + M2 by simp [magI]] at v2 ⊢
    generalize (p2 x - 1) * p2 m = T at *
    generalize (E2 - least m x) * p2 m + M2 = B at *
    cases n1 <;> cases n2
    · rw [show cmpZ (sg false * T) (sg false * B) = 1 by rw [sg_f]; unfold cmpZ; repeat (first | omega | split)]; exact rcmp_32f m x a b E1 M1 E2 M2 false w HO
    · rw [show cmpZ (sg false * T) (sg true * B) = 1 by rw [sg_f, sg_t]; unfold cmpZ; repeat (first | omega | split)]; exact rcmp_32f m x a b E1 M1 E2 M2 true w HO
    · rw [show cmpZ (sg true * T) (sg false * B) = (-1) by rw [sg_f, sg_t]; unfold cmpZ; repeat (first | omega | split)]; exact rcmp_32t m x a b E1 M1 E2 M2 false w HO
    · rw [show cmpZ (sg true * T) (sg true * B) = (-1) by rw [sg_t]; unfold cmpZ; repeat (first | omega | split)]; exact rcmp_32t m x a b E1 M1 E2 M2 true w HO
  · obtain ⟨c1, d1, u1, v1⟩ := m1 (by decide)
    obtain ⟨c2, d2, u2, v2⟩ := m2 (by decide)
    rw [show cmpR m x a b 3 3 = cmpZ (rankI (m + x) a) (rankI (m + x) b) by simp [cmpR], show cmpOk 3 3 = true from rfl, c1, c2]
    clear c1 c2 d1 d2 u1 u2
    clear v1
    clear v2
    rw [show magI m x 3 E1 M1 = (p2 x - 1) * p2 m by simp [magI]]
    rw [show magI m x 3 E2 M2 = (p2 x - 1) * p2 m by simp [magI]]
    generalize (p2 x - 1) * p2 m = T at *
    cases n1 <;> cases n2
    · rw [show cmpZ (sg false * T) (sg false * T) = 0 by rw [sg_f]; unfold cmpZ; repeat (first | omega | split)]; exact rcmp_33ff m x a b E1 M1 E2 M2  w HO
    · rw [show cmpZ (sg false * T) (sg true * T) = 1 by rw [sg_f, sg_t]; unfold cmpZ; repeat (first | omega | split)]; exact rcmp_33ft m x a b E1 M1 E2 M2  w HO
    · rw [show cmpZ (sg true * T) (sg false * T) = (-1) by rw [sg_f, sg_t]; unfold cmpZ; repeat (first | omega | split)]; exact rcmp_33tf m x a b E1 M1 E2 M2  w HO
    · rw [show cmpZ (sg true * T) (sg true * T) = 0 by rw [sg_t]; unfold cmpZ; repeat (first | omega | split)]; exact rcmp_33tt m x a b E1 M1 E2 M2  w HO
  · exact rcmp_34 m x a b E1 M1 E2 M2 n1 n2 w HO
  · exact rcmp_41 m x a b E1 M1 E2 M2 n1 n2 w HO
  · exact rcmp_42 m x a b E1 M1 E2 M2 n1 n2 w HO
  · exact rcmp_43 m x a b E1 M1 E2 M2 n1 n2 w HO
  · exact rcmp_44 m x a b E1 M1 E2 M2 n1 n2 w HO
theorem cmps_same (m x a b : Int) (a0 : 0 ≤ a) (a1 : a ≤ 18446744073709551615) (b0 : 0 ≤ b) (b1 : b ≤ 18446744073709551615) :
    ∃ c ok g, (g = 0 ∨ g = 1) ∧ CmpC 31 m x a b c ok g ∧ CmpC 32 m x a b c ok g := by
  by_cases hok : okF m x
  · obtain ⟨m, rfl⟩ := Int.eq_ofNat_of_zero_le (show 0 ≤ m by have := hok.1; omega)
    obtain ⟨x, rfl⟩ := Int.eq_ofNat_of_zero_le (show 0 ≤ x by have := hok.2.2.1; omega)
    by_cases ha : bl a ≤ 1 + x + m
    · by_cases hb : bl b ≤ 1 + x + m
      · have g1 := patK m x a hok a0 ha
        have g2 := patK m x b hok b0 hb
        have HO := popen2 m x a b hok a0 a1 ha b0 b1 hb
        refine ⟨cmpR m x a b (kindI m x a) (kindI m x b), cmpOk (kindI m x a) (kindI m x b), 0, .inl rfl, hidden fun w => ?_, hidden fun w => rcmp_k m x a b _ _ _ _ _ _ _ _ w hok g1 g2 (hidden fun w => ?_)⟩
        · by_cases h4 : (kindI m x a == 4 || kindI m x b == 4) = true
          · rw [show cmpOk (kindI m x a) (kindI m x b) = false by unfold cmpOk; rw [h4]; rfl, show cmpR m x a b (kindI m x a) (kindI m x b) = 0 by unfold cmpR; rw [if_pos (by simpa using h4)]]
            exact pcmp_nan m x a b _ _ _ _ _ _ _ _ w HO (pei _ _ _ _ _ _ _ _ _ _ h4)
          · have h4' : (kindI m x a == 4 || kindI m x b == 4) = false := by simpa using h4
            rw [show cmpOk (kindI m x a) (kindI m x b) = true by unfold cmpOk; rw [h4']; rfl, show cmpR m x a b (kindI m x a) (kindI m x b) = cmpZ (rankI (m + x) a) (rankI (m + x) b) by unfold cmpR; rw [if_neg (by simpa using h4)]]
            exact pcmp_num m x a b _ _ _ _ _ _ _ _ _ _ w HO (pei _ _ _ _ _ _ _ _ _ _ h4') (hidden fun w => prank m x a w hok a0 (pat_lt m x a a0 ha)) (hidden fun w => prank m x b w hok b0 (pat_lt m x b b0 hb))
        · exact open2_any m x a b _ _ _ _ _ _ _ _ w (ropen1 m x a hok a0 a1 ha) (ropen1 m x b hok b0 b1 hb)
      · refine ⟨0, false, 1, .inr rfl, hidden fun w => pcmp_err m x a b w (hidden fun w => ?_), hidden fun w => rcmp_err m x a b w (hidden fun w => ?_)⟩
        · exact pboth2_no2 m x a b _ _ _ _ w (popen1 m x a hok a0 a1 ha) (hidden fun w => popen_big m x b w hok b0 b1 (by omega))
        · exact open2_no m x a b _ _ _ 0 0 0 0 1 _ false w (.inr ⟨rfl, rfl⟩) (ropen1 m x a hok a0 a1 ha) (ropen1_big m x b hok b0 b1 (by omega))
    · refine ⟨0, false, 1, .inr rfl, hidden fun w => pcmp_err m x a b w (hidden fun w => pboth2_no1 m x a b w (hidden fun w => popen_big m x a w hok a0 a1 (by omega))), hidden fun w => rcmp_err m x a b w (hidden fun w => ?_)⟩
      by_cases hb : bl b ≤ 1 + x + m
      · exact open2_no m x a b 0 0 0 _ _ _ 1 0 false _ w (.inl ⟨rfl, .inl rfl⟩) (ropen1_big m x a hok a0 a1 (by omega)) (ropen1 m x b hok b0 b1 hb)
      · exact open2_no m x a b 0 0 0 0 0 0 1 1 false false w (.inl ⟨rfl, .inr rfl⟩) (ropen1_big m x a hok a0 a1 (by omega)) (ropen1_big m x b hok b0 b1 (by omega))
  · refine ⟨0, false, 1, .inr rfl, hidden fun w => pcmp_err m x a b w (hidden fun w => pboth2_no1 m x a b w (hidden fun w => popen_no m x a w hok)), hidden fun w => rcmp_err m x a b w (hidden fun w => ?_)⟩
    exact open2_no m x a b 0 0 0 0 0 0 1 1 false false w (.inl ⟨rfl, .inr rfl⟩) (hidden fun w => ropen_no m x a w hok) (hidden fun w => ropen_no m x b w hok)
theorem softCompares_one (m x a b c g : Int) (ok : Bool) (w : World) (hg : g = 0 ∨ g = 1) (H1 : CmpC 31 m x a b c ok g) (H2 : CmpC 32 m x a b c ok g) :
    Calls Try.prog 8 #[.agg #[.int .i64 m, .int .i64 x], .int .u64 a, .int .u64 b] w fun r w' => r = .returned (.bool true) ∧ Below w.heap.size w w' := by
  have HL := hidden live_any
  have HM1 : Hid (∀ w, Calls Try.prog 13 #[.int .i64 g] w fun r w' => r = .returned (.int .i64 g) ∧ w' = w) := hidden (fun w => num_any g w (by omega) (by omega))
  clear hg
  have c0 : (w.alloc (.cells #[.int .i64 m, .int .i64 x] 23)).cell? ⟨w.heap.size, 0, none⟩ = some (.int .i64 m) := by simp
  have c1 : (w.alloc (.cells #[.int .i64 m, .int .i64 x] 23)).cell? ⟨w.heap.size, 1, none⟩ = some (.int .i64 x) := by simp
  have HB := hidden ((Below.refl w.heap.size w).alloc (Nat.le_refl _) (.cells #[.int .i64 m, .int .i64 x] 23))
  go_enter Try.func8, Try.ntmps8
  go_upto_region 1 with fail
  generalize w.alloc (.cells #[.int .i64 m, .int .i64 x] 23) = w5 at *
  go_wp2_with (first | (go_at_call 31; refine (H1.out _).mono ?_; rintro r w9 ⟨rfl, hb⟩; have c0 := cellLater hb c0; have c1 := cellLater hb c1; have HB := hidden (HB.out.trans (hb.mono HB.out.size)); clear hb) | (go_at_call 32; refine (H2.out _).mono ?_; rintro r w9 ⟨rfl, hb⟩; have c0 := cellLater hb c0; have c1 := cellLater hb c1; have HB := hidden (HB.out.trans (hb.mono HB.out.size)); clear hb) | (go_at_call 13; refine (HM1.out _).mono ?_; rintro r w9 ⟨rfl, hw⟩; obtain rfl := hw.symm) | (go_at_call 14; refine (HL.out _).mono ?_; rintro r w9 ⟨rfl, hb⟩; have HB := hidden (HB.out.trans (hb.mono HB.out.size)); clear hb))
  go_ret
  exact ⟨rfl, HB.out⟩
theorem softCompares_walk (a0 b0 a1 a2 : Int) (w : World) (w0 : (Lit.int .i64 a0).wf = true) (x0 : (Lit.int .i64 b0).wf = true) (w1 : (Lit.int .u64 a1).wf = true) (w2 : (Lit.int .u64 a2).wf = true) :
    Calls Try.prog 8 #[.agg #[.int .i64 a0, .int .i64 b0], .int .u64 a1, .int .u64 a2] w fun r w' => r = .returned (.bool true) ∧ Below w.heap.size w w' := by
  have c1 := bounds_u64 w1
  have c2 := bounds_u64 w2
  obtain ⟨c, ok, g, hg, H1, H2⟩ := cmps_same a0 b0 a1 a2 c1.1 c1.2 c2.1 c2.2
  exact softCompares_one a0 b0 a1 a2 c g ok w hg H1 H2
end Go.Proofs.Ytbkjbnnbfmfkhaa
