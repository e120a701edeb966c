/- The walk of RealsHolds: what holds of any singles and of any doubles is as the page says. -/
import Derived.Test.YtfjpiahgnojlhaaGreatDoorA4y
import Derived.Test.YtfjpiahgnojlhaaGreatDoorR4x
namespace Go.Proofs.YtfjpiahgnojlhaaGreatDoor
open Go.RowKit
set_option maxRecDepth 100000
set_option maxHeartbeats 400000
set_option linter.unusedVariables false

theorem kind_low (m x : Nat) (a : Int) : kindI m x (a % p2 (m + x)) = kindI m x a := by
  have h1 : frcI m (a % p2 (m + x)) = frcI m a := by
    unfold frcI
    exact Int.emod_emod_of_dvd _ ⟨p2 x, by rw [← p2_add]⟩
  have h2 : fldI m x (a % p2 (m + x)) = fldI m x a := by
    have e1 := low_eq m x (a % p2 (m + x))
    have e2 := low_eq m x a
    rw [Int.emod_emod_of_dvd _ (Int.dvd_refl _), h1] at e1
    have hP := p2_pos m
    have e3 : fldI m x a * p2 m = fldI m x (a % p2 (m + x)) * p2 m := by have h9 := e2.symm.trans e1; omega
    exact (Int.eq_of_mul_eq_mul_right (by omega) e3).symm
  unfold kindI
  rw [h1, h2]
theorem turn_low (k : Nat) (a : Int) : turnI k a % p2 k = a % p2 k := by
  unfold turnI
  split
  · exact Int.sub_emod_right _ _
  · exact Int.add_emod_right _ _
theorem turn_kind (m x : Nat) (a : Int) : kindI m x (turnI (m + x) a) = kindI m x a := by
  rw [← kind_low m x (turnI (m + x) a), turn_low, kind_low]
theorem turn_bd (k : Nat) (a : Int) (a0 : 0 ≤ a) (a1 : a < p2 (k + 1)) : 0 ≤ turnI k a ∧ turnI k a < p2 (k + 1) := by
  have := p2_pos k
  rw [p2_succ] at *
  unfold turnI
  split <;> omega
theorem add_bd (m x : Nat) (a b K1 E1 M1 K2 E2 M2 : Int) (n1 n2 : Bool) (hm : 1 ≤ m) (hx : 2 ≤ x) (a0 : 0 ≤ a) (a1 : a < p2 (m + x + 1)) (b0 : 0 ≤ b) (b1 : b < p2 (m + x + 1)) : 0 ≤ addK m x a b K1 n1 E1 M1 K2 n2 E2 M2 ∧ addK m x a b K1 n1 E1 M1 K2 n2 E2 M2 < p2 (m + x + 1) := by
  have hn : 0 ≤ nanI m x ∧ nanI m x < p2 (m + x + 1) := by
    have h := nan_bd m x hm
    have := p2_mono (show m + x ≤ m + x + 1 by omega)
    omega
  unfold addK
  split
  · exact hn
  split
  · exact hn
  split
  · exact ⟨a0, a1⟩
  split
  · exact ⟨b0, b1⟩
  split
  · exact sgn_lt _ _
  split
  · exact ⟨b0, b1⟩
  split
  · exact ⟨a0, a1⟩
  · exact pack_lt m x _ _ false _ (by unfold absI; split <;> omega) hx
abbrev NearP (m x : Nat) (a b t : Int) (v : Bool) : Prop := Hid (∀ w, Calls Tryz.prog 21 #[.agg #[.int .i64 (m : Int), .int .i64 (x : Int)], .int .u64 a, .int .u64 b, .int .u64 t] w fun r w' => r = .returned (.bool v) ∧ Below w.heap.size w w')
abbrev HoldsR (wide : Bool) (cond a b t : Int) (v : Bool) : Prop := Hid (∀ w, Calls Tryz.prog 5 #[.bool wide, .int .i64 cond, .int .u64 a, .int .u64 b, .int .u64 t] w fun r w' => r = .returned (.bool v) ∧ Below w.heap.size w w')
abbrev FormR (wide : Bool) (m x : Nat) : Prop := Hid (∀ w, Calls Tryz.prog 9 #[.bool wide] w fun r w' => r = .returned (.agg #[.int .i64 (m : Int), .int .i64 (x : Int)]) ∧ Below w.heap.size w w')
theorem pk (m x : Nat) (a k : Int) (v : Bool) (hok : okF m x) (a0 : 0 ≤ a) (a1 : a < p2 (m + x + 1)) (a2 : a ≤ 18446744073709551615) (hv : (kindI m x a == k) = v) : Hid (∀ w, Calls Tryz.prog 22 #[.agg #[.int .i64 (m : Int), .int .i64 (x : Int)], .int .u64 a, .int .i64 k] w fun r w' => r = .returned (.bool v) ∧ Below w.heap.size w w') := hidden fun w => by
  have h := pkind m x a _ _ _ k 0 _ w (popen1 m x a hok a0 a2 (bl_of_lt m x a a0 a1))
  rw [hv] at h
  exact h
theorem rk (m x : Nat) (a : Int) (hok : okF m x) (a0 : 0 ≤ a) (a1 : a < p2 (m + x + 1)) (a2 : a ≤ 18446744073709551615) : Hid (∀ w, Calls Tryz.prog 11 #[.agg #[.int .i64 (m : Int), .int .i64 (x : Int)], .int .u64 a] w fun r w' => r = .returned (.int .i64 (kindI m x a)) ∧ Below w.heap.size w w') := hidden fun w =>
  rkind m x a _ _ _ 0 _ w (ropen_one m x a hok a0 a2 (bl_of_lt m x a a0 a1))
theorem rb (m x : Nat) (a : Int) (hok : okF m x) (a0 : 0 ≤ a) (a1 : a < p2 (m + x + 1)) (a2 : a ≤ 18446744073709551615) : Hid (∀ w, Calls Tryz.prog 13 #[.agg #[.int .i64 (m : Int), .int .i64 (x : Int)], .int .u64 a] w fun r w' => r = .returned (.int .u64 (a % p2 (m + x))) ∧ Below w.heap.size w w') := hidden fun w => by
  have HO := ropen_one m x a hok a0 a2 (bl_of_lt m x a a0 a1)
  have hn := neg_iff m x a a0 a1
  by_cases h : p2 (m + x) ≤ a
  · rw [decide_eq_true h] at hn
    rw [hn] at HO
    rw [← bare_t (m + x) a h a1]
    exact rbare_t m x a _ _ _ 0 _ w HO (hidden fun w => turn_any m x a w hok a0 a1)
  · rw [decide_eq_false h] at hn
    rw [hn] at HO
    rw [bare_f (m + x) a a0 (by omega)]
    exact rbare_f m x a _ _ _ 0 w HO
/-- what Cmp answers, of both -/
theorem cmp_both (m x : Nat) (a b : Int) (hok : okF m x) (a0 : 0 ≤ a) (a1 : a < p2 (m + x + 1)) (a2 : a ≤ 18446744073709551615) (b0 : 0 ≤ b) (b1 : b < p2 (m + x + 1)) (b2 : b ≤ 18446744073709551615) :
    Hid (∀ w, Calls Tryz.prog 38 #[.agg #[.int .i64 (m : Int), .int .i64 (x : Int)], .int .u64 a, .int .u64 b] w fun r w' => r = .returned (.tuple #[.int .i64 (cmpR m x a b (kindI m x a) (kindI m x b)), .bool (cmpOk (kindI m x a) (kindI m x b)), .int .i64 0]) ∧ Below w.heap.size w w') ∧
    Hid (∀ w, Calls Tryz.prog 10 #[.agg #[.int .i64 (m : Int), .int .i64 (x : Int)], .int .u64 a, .int .u64 b] w fun r w' => r = .returned (.tuple #[.int .i64 (cmpR m x a b (kindI m x a) (kindI m x b)), .bool (cmpOk (kindI m x a) (kindI m x b)), .int .i64 0]) ∧ Below w.heap.size w w') := by
  have ha := bl_of_lt m x a a0 a1
  have hb := bl_of_lt m x b b0 b1
  exact ⟨hidden fun w => pcmp_k m x a b _ _ _ _ _ _ _ _ w hok a0 a1 b0 b1 (popen2 m x a b hok a0 a2 ha b0 b2 hb), hidden fun w => rcmp_k m x a b _ _ _ _ _ _ _ _ w hok (patK m x a hok a0 ha) (patK m x b hok b0 hb) (hidden fun w => open2_any m x a b _ _ _ _ _ _ _ _ w (ropen_one m x a hok a0 a2 ha) (ropen_one m x b hok b0 b2 hb))⟩
/-- what Sub answers, of both -/
theorem sub_both (m x : Nat) (a b : Int) (hok : okF m x) (a0 : 0 ≤ a) (a1 : a < p2 (m + x + 1)) (a2 : a ≤ 18446744073709551615) (b0 : 0 ≤ b) (b1 : b < p2 (m + x + 1)) (b2 : b ≤ 18446744073709551615) :
    ∃ D, (0 ≤ D ∧ D < p2 (m + x + 1)) ∧ (kindI m x a = 4 ∨ kindI m x b = 4 → kindI m x D = 4) ∧ (kindI m x a ≠ 4 → kindI m x b ≠ 4 → ¬ (kindI m x a = 3 ∧ kindI m x b = 3) → kindI m x D ≠ 4) ∧
    Hid (∀ w, Calls Tryz.prog 37 #[.agg #[.int .i64 (m : Int), .int .i64 (x : Int)], .int .u64 a, .int .u64 b] w fun r w' => r = .returned (.tuple #[.int .u64 D, .int .i64 0]) ∧ Below w.heap.size w w') ∧
    Hid (∀ w, Calls Tryz.prog 12 #[.agg #[.int .i64 (m : Int), .int .i64 (x : Int)], .int .u64 a, .int .u64 b] w fun r w' => r = .returned (.tuple #[.int .u64 D, .int .i64 0]) ∧ Below w.heap.size w w') := by
  have hx : 2 ≤ x := by have := hok.2.2.1; omega
  have hm1 : 1 ≤ m := by have := hok.1; omega
  have ha := bl_of_lt m x a a0 a1
  have hb := bl_of_lt m x b b0 b1
  obtain ⟨t0, t1⟩ := turn_bd (m + x) b b0 b1
  have ht := bl_of_lt m x _ t0 t1
  have hk : m + x ≤ 63 := by have := hok.2.1; have := hok.2.2.2; omega
  have hp := p2_mono (show m + x + 1 ≤ 64 by omega)
  rw [p2_64] at hp
  have g1 := patK m x a hok a0 ha
  have g2 := patK m x (turnI (m + x) b) hok t0 ht
  have kb := turn_kind m x b
  refine ⟨_, add_bd m x a (turnI (m + x) b) _ _ _ _ _ _ _ _ hm1 hx a0 a1 t0 t1, ?_, ?_, hidden fun w => psub_k m x a b _ _ _ _ _ _ _ _ w hok b0 b1 g1.kind g2.kind (fun h => (g1.fin h).1) (fun h => (g2.fin h).1) (popen2 m x a _ hok a0 a2 ha t0 (by omega) ht), hidden fun w => rsub_walk m x a b _ _ 0 _ _ _ _ w (ropen_one m x b hok b0 b2 hb) (hidden fun w => turn_any m x b w hok b0 b1) (hidden fun w => radd_k m x a _ _ _ _ _ _ _ _ _ w hok g1 g2 (hidden fun w => open2_any m x a _ _ _ _ _ _ _ _ _ w (ropen_one m x a hok a0 a2 ha) (ropen_one m x _ hok t0 (by omega) ht)))⟩
  · intro h
    rw [← kb] at h
    have e : addK m x a (turnI (m + x) b) (kindI m x a) (negI m x a) (expI m x a) (manI m x a) (kindI m x (turnI (m + x) b)) (negI m x (turnI (m + x) b)) (expI m x (turnI (m + x) b)) (manI m x (turnI (m + x) b)) = nanI m x := by unfold addK; rw [if_pos h]
    rw [e]
    exact (nan_kind m x hok).2.2.1
  · intro h1 h2 h3
    exact add_num m x a _ _ _ _ _ _ _ _ _ hm1 hx rfl rfl h1 (by rw [kb]; exact h2) (by rw [kb]; exact h3)
theorem near_same (wide : Bool) (m x : Nat) (a b t : Int) (hok : okF m x) (HF : FormR wide m x) (a0 : 0 ≤ a) (a1 : a < p2 (m + x + 1)) (a2 : a ≤ 18446744073709551615) (b0 : 0 ≤ b) (b1 : b < p2 (m + x + 1)) (b2 : b ≤ 18446744073709551615) (t0 : 0 ≤ t) (t1 : t < p2 (m + x + 1)) (t2 : t ≤ 18446744073709551615) :
    ∃ v, NearP m x a b t v ∧ HoldsR wide 1 a b t v := by
  have hP := p2_pos (m + x)
  have hle := p2_mono (show m + x ≤ m + x + 1 by omega)
  obtain ⟨C1, C2⟩ := cmp_both m x a b hok a0 a1 a2 b0 b1 b2
  obtain ⟨D, hD, hD4, hDn, S1, S2⟩ := sub_both m x a b hok a0 a1 a2 b0 b1 b2
  have hp := p2_mono (show m + x + 1 ≤ 64 by have := hok.2.1; have := hok.2.2.2; omega)
  rw [p2_64] at hp
  have e0 := Int.emod_nonneg D (show p2 (m + x) ≠ 0 by omega)
  have e1 := Int.emod_lt_of_pos D hP
  have f0 := Int.emod_nonneg t (show p2 (m + x) ≠ 0 by omega)
  have f1 := Int.emod_lt_of_pos t hP
  obtain ⟨Q1, Q2⟩ := cmp_both m x (D % p2 (m + x)) (t % p2 (m + x)) hok e0 (by omega) (by omega) f0 (by omega) (by omega)
  rw [kind_low, kind_low] at Q1 Q2
  have HK := fun a k v a0 a1 a2 hv => pk m x a k v hok a0 a1 a2 hv
  have BD : Hid (∀ w, Calls Tryz.prog 39 #[.agg #[.int .i64 (m : Int), .int .i64 (x : Int)], .int .u64 D] w fun r w' => r = .returned (.int .u64 (D % p2 (m + x))) ∧ Below w.heap.size w w') := hidden fun w => pbare m x D w hok hD.1 hD.2
  have BT : Hid (∀ w, Calls Tryz.prog 39 #[.agg #[.int .i64 (m : Int), .int .i64 (x : Int)], .int .u64 t] w fun r w' => r = .returned (.int .u64 (t % p2 (m + x))) ∧ Below w.heap.size w w') := hidden fun w => pbare m x t w hok t0 t1
  have num : (kindI m x a == 3 && kindI m x b == 3) = false → NearP m x a b t (cmpOk (kindI m x D) (kindI m x t) && decide (cmpR m x (D % p2 (m + x)) (t % p2 (m + x)) (kindI m x D) (kindI m x t) ≤ 0)) := fun h => hidden fun w => pnear_num m x a b t D _ _ _ 0 0 _ _ _ w h (HK a 3 _ a0 a1 a2 rfl) (HK b 3 _ b0 b1 b2 rfl) S1 BD BT Q1
  have inf : kindI m x a = 3 → kindI m x b = 3 → NearP m x a b t (a == b && !(kindI m x t == 4)) := fun h1 h2 => hidden fun w => pnear_inf m x a b t _ w (HK a 3 true a0 a1 a2 (by rw [h1]; rfl)) (HK b 3 true b0 b1 b2 (by rw [h2]; rfl)) (HK t 4 _ t0 t1 t2 rfl)
  by_cases h4 : kindI m x a = 4 ∨ kindI m x b = 4
  · refine ⟨false, ?_, ?_⟩
    · have hn := num (by rcases h4 with h | h <;> rw [h] <;> simp)
      rw [hD4 h4, show cmpOk 4 (kindI m x t) = false by simp [cmpOk], Bool.false_and] at hn
      exact hn
    · rw [show cmpOk (kindI m x a) (kindI m x b) = false by rcases h4 with h | h <;> rw [h] <;> simp [cmpOk]] at C2
      exact hidden fun w => rnear_nan wide m x a b t _ 0 w HF C2
  · have ha4 : kindI m x a ≠ 4 := fun h => h4 (.inl h)
    have hb4 : kindI m x b ≠ 4 := fun h => h4 (.inr h)
    rw [show cmpOk (kindI m x a) (kindI m x b) = true by simp [cmpOk, ha4, hb4]] at C2
    have RT := rk m x t hok t0 t1 t2
    by_cases ht4 : kindI m x t = 4
    · refine ⟨false, ?_, ?_⟩
      · by_cases h3 : kindI m x a = 3 ∧ kindI m x b = 3
        · have hn := inf h3.1 h3.2
          rw [ht4, show (!((4 : Int) == 4)) = false from rfl, Bool.and_false] at hn
          exact hn
        · have hn := num (by simpa using h3)
          rw [ht4, show cmpOk (kindI m x D) 4 = false by simp [cmpOk], Bool.false_and] at hn
          exact hn
      · rw [ht4] at RT
        exact hidden fun w => rnear_tol wide m x a b t _ 0 w HF C2 RT
    · have ht : (kindI m x t == 4) = false := by simpa using ht4
      by_cases h3 : kindI m x a = 3 ∧ kindI m x b = 3
      · refine ⟨a == b, ?_, ?_⟩
        · have hn := inf h3.1 h3.2
          rw [ht, show (!false) = true from rfl, Bool.and_true] at hn
          exact hn
        · have RA := rk m x a hok a0 a1 a2
          have RB := rk m x b hok b0 b1 b2
          rw [h3.1] at RA
          rw [h3.2] at RB
          exact hidden fun w => rnear_inf wide m x a b t _ 0 _ w ht HF C2 RT RA RB
      · refine ⟨_, num (by simpa using h3), ?_⟩
        have hDk := hDn ha4 hb4 h3
        rw [show cmpOk (kindI m x D) (kindI m x t) = true by simp [cmpOk, hDk, ht4], Bool.true_and]
        refine hidden fun w => rnear_num wide m x a b t _ 0 _ _ _ D _ _ _ 0 0 _ w ht ?_ HF C2 RT (rk m x a hok a0 a1 a2) (rk m x b hok b0 b1 b2) S2 (rb m x D hok hD.1 hD.2 (by omega)) (rb m x t hok t0 t1 t2) Q2
        by_cases h5 : kindI m x a = 3
        · right
          exact ⟨by simpa using h5, by simpa using fun h => h3 ⟨h5, h⟩⟩
        · left
          simpa using h5
/-- what holds, of the page -/
theorem holds_same (wide : Bool) (m x : Nat) (cond a b t : Int) (hok : okF m x) (HF : FormR wide m x) (a0 : 0 ≤ a) (a1 : a < p2 (m + x + 1)) (a2 : a ≤ 18446744073709551615) (b0 : 0 ≤ b) (b1 : b < p2 (m + x + 1)) (b2 : b ≤ 18446744073709551615) (t0 : 0 ≤ t) (t1 : t < p2 (m + x + 1)) (t2 : t ≤ 18446744073709551615) :
    ∃ v, NearP m x a b t v ∧ HoldsR wide cond a b t (holdsB cond v (kindI m x a == 4) (kindI m x a == 3) (ordB cond (cmpR m x a b (kindI m x a) (kindI m x b)) (cmpOk (kindI m x a) (kindI m x b)))) := by
  obtain ⟨v, hv, hr⟩ := near_same wide m x a b t hok HF a0 a1 a2 b0 b1 b2 t0 t1 t2
  obtain ⟨-, C2⟩ := cmp_both m x a b hok a0 a1 a2 b0 b1 b2
  have RA := rk m x a hok a0 a1 a2
  refine ⟨v, hv, ?_⟩
  by_cases h1 : cond = 1
  · subst h1; exact hr
  by_cases h2 : cond = 2
  · subst h2; exact hidden fun w => rfar wide m x a b t _ 0 _ v w HF C2 hr
  by_cases h7 : cond = 7
  · subst h7; exact hidden fun w => rholds_7 wide m x a b t _ 0 _ _ w HF C2 RA
  by_cases h8 : cond = 8
  · subst h8; exact hidden fun w => rholds_8 wide m x a b t _ 0 _ _ w HF C2 RA
  rw [show ∀ n i o, holdsB cond v n i o = o from fun n i o => by simp [holdsB, h1, h2, h7, h8]]
  by_cases h3 : cond = 3
  · subst h3; exact hidden fun w => rholds_3 wide m x a b t _ 0 _ w HF C2
  by_cases h4 : cond = 4
  · subst h4; exact hidden fun w => rholds_4 wide m x a b t _ 0 _ w HF C2
  by_cases h5 : cond = 5
  · subst h5; exact hidden fun w => rholds_5 wide m x a b t _ 0 _ w HF C2
  by_cases h6 : cond = 6
  · subst h6; exact hidden fun w => rholds_6 wide m x a b t _ 0 _ w HF C2
  rw [show ∀ c o, ordB cond c o = false from fun c o => by simp [ordB, h3, h4, h5, h6]]
  exact hidden fun w => rholds_no wide m x cond a b t _ 0 _ w (by omega) HF C2
theorem realsHolds_walk (cond a b t c d e : Int) (w : World) (w0 : (Lit.int .i64 cond).wf = true) (w1 : (Lit.int .u32 a).wf = true) (w2 : (Lit.int .u32 b).wf = true) (w3 : (Lit.int .u32 t).wf = true) (w4 : (Lit.int .u64 c).wf = true) (w5 : (Lit.int .u64 d).wf = true) (w6 : (Lit.int .u64 e).wf = true) (hl : Laid w) :
    Calls Tryz.prog 3 #[.int .i64 cond, .int .u32 a, .int .u32 b, .int .u32 t, .int .u64 c, .int .u64 d, .int .u64 e] w fun r w' => r = .returned (.bool true) ∧ Below w.heap.size w w' := by
  have ba := bounds_u32 w1
  have bb := bounds_u32 w2
  have bt := bounds_u32 w3
  have bc := bounds_u64 w4
  have bd := bounds_u64 w5
  have be := bounds_u64 w6
  have p32 : p2 (23 + 8 + 1) = 4294967296 := by decide +kernel
  have p64 : p2 (52 + 11 + 1) = 18446744073709551616 := by decide +kernel
  obtain ⟨v, hv, hr⟩ := holds_same false 23 8 cond a b t ok23 (hidden fm_f) ba.1 (by omega) (by omega) bb.1 (by omega) (by omega) bt.1 (by omega) (by omega)
  obtain ⟨u, hu, hs⟩ := holds_same true 52 11 cond c d e ok52 (hidden fm_t) bc.1 (by omega) (by omega) bd.1 (by omega) (by omega) be.1 (by omega) (by omega)
  obtain ⟨C1, -⟩ := cmp_both 23 8 a b ok23 ba.1 (by omega) (by omega) bb.1 (by omega) (by omega)
  obtain ⟨D1, -⟩ := cmp_both 52 11 c d ok52 bc.1 (by omega) (by omega) bd.1 (by omega) (by omega)
  have H1 : ∀ w, Laid w → Calls Tryz.prog 4 #[.int .i64 cond, .int .u32 a, .int .u32 b, .int .u32 t] w fun r w' => r = .returned (.bool (holdsB cond v (kindI 23 8 a == 4) (kindI 23 8 a == 3) (ordB cond (cmpR 23 8 a b (kindI 23 8 a) (kindI 23 8 b)) (cmpOk (kindI 23 8 a) (kindI 23 8 b))))) ∧ Below w.heap.size w w' := fun w h =>
    pSingleHolds cond a b t _ w h (hidden fun w => pholds32 23 8 cond a b t v _ _ _ w ba.1 (by omega) bb.1 (by omega) bt.1 (by omega) hv (pk 23 8 a 4 _ ok23 ba.1 (by omega) (by omega) rfl) (pk 23 8 a 3 _ ok23 ba.1 (by omega) (by omega) rfl) (hidden fun w => pinorder 23 8 cond a b _ 0 _ w C1))
  have H2 : ∀ w, Laid w → Calls Tryz.prog 6 #[.int .i64 cond, .int .u64 c, .int .u64 d, .int .u64 e] w fun r w' => r = .returned (.bool (holdsB cond u (kindI 52 11 c == 4) (kindI 52 11 c == 3) (ordB cond (cmpR 52 11 c d (kindI 52 11 c) (kindI 52 11 d)) (cmpOk (kindI 52 11 c) (kindI 52 11 d))))) ∧ Below w.heap.size w w' := fun w h =>
    pDoubleHolds cond c d e _ w h (hidden fun w => pholds64 52 11 cond c d e u _ _ _ w bc.1 (by omega) bd.1 (by omega) be.1 (by omega) hu (pk 52 11 c 4 _ ok52 bc.1 (by omega) (by omega) rfl) (pk 52 11 c 3 _ ok52 bc.1 (by omega) (by omega) rfl) (hidden fun w => pinorder 52 11 cond c d _ 0 _ w D1))
  generalize holdsB cond v (kindI 23 8 a == 4) (kindI 23 8 a == 3) (ordB cond (cmpR 23 8 a b (kindI 23 8 a) (kindI 23 8 b)) (cmpOk (kindI 23 8 a) (kindI 23 8 b))) = V at *
  generalize holdsB cond u (kindI 52 11 c == 4) (kindI 52 11 c == 3) (ordB cond (cmpR 52 11 c d (kindI 52 11 c) (kindI 52 11 d)) (cmpOk (kindI 52 11 c) (kindI 52 11 d))) = U at *
  replace H1 := hidden H1
  replace H2 := hidden H2
  have HV := hidden live4_any
  have HL := hidden hl
  have HB := hidden (Below.refl w.heap.size w)
  clear hl hv hu C1 D1 w0 w1 w2 w3 w4 w5 w6 p32 p64
  go_enter Tryz.func3, Tryz.ntmps3
  go_wp2_with (first | (go_at_call 4; refine (H1.out _ HL.out).mono ?_; rintro r w9 ⟨rfl, hb⟩; have HL := hidden (HL.out.later hb); have HB := hidden (HB.out.trans (hb.mono HB.out.size)); clear hb) | (go_at_call_of 5 (Value.bool false); refine (hr.out _).mono ?_; rintro r w9 ⟨rfl, hb⟩; have HL := hidden (HL.out.later hb); have HB := hidden (HB.out.trans (hb.mono HB.out.size)); clear hb) | (go_at_call 6; refine (H2.out _ HL.out).mono ?_; rintro r w9 ⟨rfl, hb⟩; have HL := hidden (HL.out.later hb); have HB := hidden (HB.out.trans (hb.mono HB.out.size)); clear hb) | (go_at_call_of 5 (Value.bool true); refine (hs.out _).mono ?_; rintro r w9 ⟨rfl, hb⟩; have HL := hidden (HL.out.later hb); have HB := hidden (HB.out.trans (hb.mono HB.out.size)); clear hb) | (go_at_call 7; refine (HV.out _ HL.out).mono ?_; rintro r w9 ⟨rfl, hb⟩; have HB := hidden (HB.out.trans (hb.mono HB.out.size)); clear hb))
  go_ret
  exact ⟨rfl, HB.out⟩
end Go.Proofs.YtfjpiahgnojlhaaGreatDoor
