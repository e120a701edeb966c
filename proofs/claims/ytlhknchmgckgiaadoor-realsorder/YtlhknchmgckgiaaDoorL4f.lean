/- The walk of RealsOrder: of two numbers just one of below, above and neither holds, of what is no number none; a greater tolerance holds where a smaller one does. -/
import Derived.Test.YtlhknchmgckgiaaDoorK6
import Derived.Test.YtlhknchmgckgiaaDoorL4a
namespace Go.Proofs.YtlhknchmgckgiaaDoor
open Go.RowKit
set_option maxRecDepth 100000
set_option maxHeartbeats 400000
set_option linter.unusedVariables false

def nearV (m x : Nat) (a b t : Int) : Bool := if kindI m x a = 3 ∧ kindI m x b = 3 then (a == b && !(kindI m x t == 4)) else (cmpOk (kindI m x (subD m x a b)) (kindI m x t) && decide (cmpR m x (subD m x a b % p2 (m + x)) (t % p2 (m + x)) (kindI m x (subD m x a b)) (kindI m x t) ≤ 0))
theorem sub_bd (m x : Nat) (a b : Int) (hok : okF m x) (a0 : 0 ≤ a) (a1 : a < p2 (m + x + 1)) (b0 : 0 ≤ b) (b1 : b < p2 (m + x + 1)) : 0 ≤ subD m x a b ∧ subD m x a b < p2 (m + x + 1) := by
  have hx : 2 ≤ x := by have := hok.2.2.1; omega
  have hm1 : 1 ≤ m := by have := hok.1; omega
  obtain ⟨t0, t1⟩ := turn_bd (m + x) b b0 b1
  exact add_bd m x a _ _ _ _ _ _ _ _ _ hm1 hx a0 a1 t0 t1
theorem pk2 (m x : Nat) (a k : Int) (v : Bool) (hok : okF m x) (a0 : 0 ≤ a) (a1 : a < p2 (m + x + 1)) (a2 : a ≤ 18446744073709551615) (hv : (kindI m x a == k) = v) : Hid (∀ w, Calls Tryd.prog 31 #[.agg #[.int .i64 (m : Int), .int .i64 (x : Int)], .int .u64 a, .int .i64 k] w fun r w' => r = .returned (.bool v) ∧ Below w.heap.size w w') := hidden fun w => by
  have h := pkind m x a _ _ _ k 0 _ w (popen1 m x a hok a0 a2 (bl_of_lt m x a a0 a1))
  rw [hv] at h
  exact h
theorem pnear_v (m x : Nat) (a b t : Int) (hok : okF m x) (a0 : 0 ≤ a) (a1 : a < p2 (m + x + 1)) (b0 : 0 ≤ b) (b1 : b < p2 (m + x + 1)) (t0 : 0 ≤ t) (t1 : t < p2 (m + x + 1)) :
    Hid (∀ w, Calls Tryd.prog 30 #[.agg #[.int .i64 (m : Int), .int .i64 (x : Int)], .int .u64 a, .int .u64 b, .int .u64 t] w fun r w' => r = .returned (.bool (nearV m x a b t)) ∧ Below w.heap.size w w') := hidden fun w => by
  have hp := p2_mono (show m + x + 1 ≤ 64 by have := hok.2.1; have := hok.2.2.2; omega)
  rw [p2_64] at hp
  have hP := p2_pos (m + x)
  have hle := p2_mono (show m + x ≤ m + x + 1 by omega)
  unfold nearV
  by_cases h3 : kindI m x a = 3 ∧ kindI m x b = 3
  · rw [if_pos h3]
    exact pnear_inf m x a b t _ w (pk2 m x a 3 true hok a0 a1 (by omega) (by rw [h3.1]; rfl)) (pk2 m x b 3 true hok b0 b1 (by omega) (by rw [h3.2]; rfl)) (pk2 m x t 4 _ hok t0 t1 (by omega) rfl)
  · rw [if_neg h3]
    obtain ⟨tb0, tb1⟩ := turn_bd (m + x) b b0 b1
    have ha := bl_of_lt m x a a0 a1
    have hb := bl_of_lt m x _ tb0 tb1
    have g1 := patK m x a hok a0 ha
    have g2 := patK m x (turnI (m + x) b) hok tb0 hb
    obtain ⟨D0, D1⟩ := sub_bd m x a b hok a0 a1 b0 b1
    have HS : Hid (∀ w, Calls Tryd.prog 34 #[.agg #[.int .i64 (m : Int), .int .i64 (x : Int)], .int .u64 a, .int .u64 b] w fun r w' => r = .returned (.tuple #[.int .u64 (subD m x a b), .int .i64 0]) ∧ Below w.heap.size w w') := hidden fun w => by
      have h := psub_k m x a b _ _ _ _ _ _ _ _ w hok b0 b1 g1.kind g2.kind (fun h => (g1.fin h).1) (fun h => (g2.fin h).1) (popen2 m x a _ hok a0 (by omega) ha tb0 (by omega) hb)
      rw [sub_eq m x a b b0 b1] at h
      exact h
    have e0 := Int.emod_nonneg (subD m x a b) (show p2 (m + x) ≠ 0 by omega)
    have e1 := Int.emod_lt_of_pos (subD m x a b) hP
    have f0 := Int.emod_nonneg t (show p2 (m + x) ≠ 0 by omega)
    have f1 := Int.emod_lt_of_pos t hP
    have HC : Hid (∀ w, Calls Tryd.prog 48 #[.agg #[.int .i64 (m : Int), .int .i64 (x : Int)], .int .u64 (subD m x a b % p2 (m + x)), .int .u64 (t % p2 (m + x))] w fun r w' => r = .returned (.tuple #[.int .i64 (cmpR m x (subD m x a b % p2 (m + x)) (t % p2 (m + x)) (kindI m x (subD m x a b)) (kindI m x t)), .bool (cmpOk (kindI m x (subD m x a b)) (kindI m x t)), .int .i64 0]) ∧ Below w.heap.size w w') := hidden fun w => by
      have h := pcmp_k m x (subD m x a b % p2 (m + x)) (t % p2 (m + x)) _ _ _ _ _ _ _ _ w hok e0 (by omega) f0 (by omega) (popen2 m x _ _ hok e0 (by omega) (bl_of_lt m x _ e0 (by omega)) f0 (by omega) (bl_of_lt m x _ f0 (by omega)))
      rw [kind_low, kind_low] at h
      exact h
    exact pnear_num m x a b t _ _ _ _ 0 0 _ _ _ w (by simpa using h3) (pk2 m x a 3 _ hok a0 a1 (by omega) rfl) (pk2 m x b 3 _ hok b0 b1 (by omega) rfl) HS (hidden fun w => pbare m x _ w hok D0 D1) (hidden fun w => pbare m x t w hok t0 t1) HC
/-- what DoubleHolds answers -/
def dh (cond a b t : Int) : Bool := holdsB cond (nearV 52 11 a b t) (kindI 52 11 a == 4) (kindI 52 11 a == 3) (ordB cond (cmpR 52 11 a b (kindI 52 11 a) (kindI 52 11 b)) (cmpOk (kindI 52 11 a) (kindI 52 11 b)))
def U64 (a : Int) : Prop := 0 ≤ a ∧ a ≤ 18446744073709551615
theorem u64_lt {a : Int} (h : U64 a) : 0 ≤ a ∧ a < p2 (52 + 11 + 1) := ⟨h.1, by have := h.2; rw [show p2 (52 + 11 + 1) = 18446744073709551616 by decide +kernel]; omega⟩
theorem doubleHolds_v (cond a b t : Int) (w : World) (ha : U64 a) (hb : U64 b) (ht : U64 t) (hl : Laid w) :
    Calls Tryd.prog 18 #[.int .i64 cond, .int .u64 a, .int .u64 b, .int .u64 t] w fun r w' => r = .returned (.bool (dh cond a b t)) ∧ Below w.heap.size w w' := by
  have a1 := u64_lt ha
  have b1 := u64_lt hb
  have t1 := u64_lt ht
  have ha' := ha.2
  have hb' := hb.2
  have ht' := ht.2
  exact pDoubleHolds cond a b t _ w hl (hidden fun w => pholds64 52 11 cond a b t _ _ _ _ w a1.1 (by omega) b1.1 (by omega) t1.1 (by omega) (pnear_v 52 11 a b t ok52 a1.1 a1.2 b1.1 b1.2 t1.1 t1.2) (pk2 52 11 a 4 _ ok52 a1.1 a1.2 ha' rfl) (pk2 52 11 a 3 _ ok52 a1.1 a1.2 ha' rfl) (hidden fun w => pinorder 52 11 cond a b _ 0 _ w (hidden fun w => pcmp_k 52 11 a b _ _ _ _ _ _ _ _ w ok52 a1.1 a1.2 b1.1 b1.2 (popen2 52 11 a b ok52 a1.1 ha' (bl_of_lt 52 11 a a1.1 a1.2) b1.1 hb' (bl_of_lt 52 11 b b1.1 b1.2)))))
theorem dh_far (a b t : Int) : dh 2 a b t = !dh 1 a b t := by simp [dh, holdsB]
theorem dh_nan (a : Int) : dh 7 a 0 0 = (kindI 52 11 a == 4) := by simp [dh, holdsB]
theorem kind_sub (m x : Nat) (a b : Int) (hok : okF m x) (a0 : 0 ≤ a) (a1 : a < p2 (m + x + 1)) (b0 : 0 ≤ b) (b1 : b < p2 (m + x + 1)) : kindI m x (subD m x a b) = kindI m x (subD m x b a) := by
  rw [← kind_low m x (subD m x a b), sub_swap m x a b hok a0 a1 b0 b1, kind_low]
theorem dh_swap (a b t : Int) (ha : U64 a) (hb : U64 b) : dh 1 b a t = dh 1 a b t := by
  have a1 := u64_lt ha
  have b1 := u64_lt hb
  have e1 := kind_sub 52 11 a b ok52 a1.1 a1.2 b1.1 b1.2
  have e2 := sub_swap 52 11 a b ok52 a1.1 a1.2 b1.1 b1.2
  show nearV 52 11 b a t = nearV 52 11 a b t
  unfold nearV
  rw [e1, e2]
  by_cases h : kindI 52 11 a = 3 ∧ kindI 52 11 b = 3
  · rw [if_pos h, if_pos ⟨h.2, h.1⟩, show (b == a) = (a == b) from Bool.beq_comm]
  · rw [if_neg h, if_neg (fun h' => h ⟨h'.2, h'.1⟩)]
theorem sub_nan (m x : Nat) (a b : Int) (hok : okF m x) (h : kindI m x a = 4 ∨ kindI m x b = 4) : kindI m x (subD m x a b) = 4 := by
  unfold subD addK
  rw [if_pos h]
  exact (nan_kind m x hok).2.2.1
theorem dh_none (a b t : Int) (h : kindI 52 11 a = 4 ∨ kindI 52 11 b = 4) : dh 3 a b t = false ∧ dh 4 a b t = false ∧ dh 5 a b t = false ∧ dh 6 a b t = false ∧ dh 1 a b t = false := by
  have hc : cmpOk (kindI 52 11 a) (kindI 52 11 b) = false := by rcases h with h | h <;> rw [h] <;> simp [cmpOk]
  have hn : nearV 52 11 a b t = false := by
    unfold nearV
    rw [if_neg (by rcases h with h | h <;> rw [h] <;> simp), sub_nan 52 11 a b ok52 h]
    simp [cmpOk]
  refine ⟨?_, ?_, ?_, ?_, hn⟩ <;> simp [dh, holdsB, ordB, hc]
theorem rank_low (k : Nat) (v : Int) (v0 : 0 ≤ v) (v1 : v < p2 k) : rankI k v = v := by
  unfold rankI
  rw [if_neg (by omega)]
  exact Int.emod_eq_of_lt v0 v1
theorem cmpZ_le (a b : Int) : cmpZ a b ≤ 0 ↔ a ≤ b := by
  unfold cmpZ
  split
  · constructor <;> intro h <;> omega
  · split
    · constructor <;> intro h <;> omega
    · constructor <;> intro h <;> omega
/-- near, of numbers -/
theorem near_le (a b t : Int) (hD : kindI 52 11 (subD 52 11 a b) ≠ 4) (h3 : ¬ (kindI 52 11 a = 3 ∧ kindI 52 11 b = 3)) : nearV 52 11 a b t = true ↔ (kindI 52 11 t ≠ 4 ∧ subD 52 11 a b % p2 (52 + 11) ≤ t % p2 (52 + 11)) := by
  have hP := p2_pos (52 + 11)
  have e0 := Int.emod_nonneg (subD 52 11 a b) (show p2 (52 + 11) ≠ 0 by omega)
  have e1 := Int.emod_lt_of_pos (subD 52 11 a b) hP
  have f0 := Int.emod_nonneg t (show p2 (52 + 11) ≠ 0 by omega)
  have f1 := Int.emod_lt_of_pos t hP
  unfold nearV
  rw [if_neg h3]
  by_cases ht : kindI 52 11 t = 4
  · rw [ht]; simp [cmpOk]
  · rw [show cmpOk (kindI 52 11 (subD 52 11 a b)) (kindI 52 11 t) = true by simp [cmpOk, hD, ht], Bool.true_and, decide_eq_true_iff]
    unfold cmpR
    rw [if_neg (fun h => h.elim hD ht), cmpZ_le, rank_low _ _ e0 e1, rank_low _ _ f0 f1]
    constructor
    · intro h; exact ⟨ht, h⟩
    · intro h; exact h.2
theorem sub_num (m x : Nat) (a b : Int) (hok : okF m x) (h1 : kindI m x a ≠ 4) (h2 : kindI m x b ≠ 4) (h3 : ¬ (kindI m x a = 3 ∧ kindI m x b = 3)) : kindI m x (subD m x a b) ≠ 4 := by
  have hx : 2 ≤ x := by have := hok.2.2.1; omega
  have hm1 : 1 ≤ m := by have := hok.1; omega
  exact add_num m x a (turnI (m + x) b) _ _ _ _ _ _ _ _ hm1 hx rfl (turn_kind m x b) h1 h2 h3
theorem dh_more (a b t s : Int) (ha : U64 a) (hb : U64 b) (h1 : kindI 52 11 a ≠ 4) (h2 : kindI 52 11 b ≠ 4) (hn : dh 1 a b t = true) (hle : dh 4 (t % p2 (52 + 11)) (s % p2 (52 + 11)) 0 = true) : dh 1 a b s = true := by
  have hP := p2_pos (52 + 11)
  have f0 := Int.emod_nonneg t (show p2 (52 + 11) ≠ 0 by omega)
  have f1 := Int.emod_lt_of_pos t hP
  have s0 := Int.emod_nonneg s (show p2 (52 + 11) ≠ 0 by omega)
  have s1 := Int.emod_lt_of_pos s hP
  have hs : kindI 52 11 s ≠ 4 ∧ t % p2 (52 + 11) ≤ s % p2 (52 + 11) := by
    have h : ordB 4 (cmpR 52 11 (t % p2 (52 + 11)) (s % p2 (52 + 11)) (kindI 52 11 (t % p2 (52 + 11))) (kindI 52 11 (s % p2 (52 + 11)))) (cmpOk (kindI 52 11 (t % p2 (52 + 11))) (kindI 52 11 (s % p2 (52 + 11)))) = true := by simpa [dh, holdsB] using hle
    rw [kind_low, kind_low] at h
    unfold ordB at h
    rw [Bool.and_eq_true] at h
    obtain ⟨h5, h6⟩ := h
    have h7 : kindI 52 11 t ≠ 4 ∧ kindI 52 11 s ≠ 4 := by
      unfold cmpOk at h5
      simpa using h5
    refine ⟨h7.2, ?_⟩
    rw [if_neg (show ¬ ((4 : Int) = 3) by decide), if_pos rfl, decide_eq_true_iff] at h6
    unfold cmpR at h6
    rw [if_neg (fun h => h.elim h7.1 h7.2), cmpZ_le, rank_low _ _ f0 f1, rank_low _ _ s0 s1] at h6
    exact h6
  change nearV 52 11 a b t = true at hn
  show nearV 52 11 a b s = true
  by_cases h3 : kindI 52 11 a = 3 ∧ kindI 52 11 b = 3
  · unfold nearV at hn ⊢
    rw [if_pos h3] at hn ⊢
    rw [Bool.and_eq_true] at hn ⊢
    exact ⟨hn.1, by simpa using hs.1⟩
  · have hD := sub_num 52 11 a b ok52 h1 h2 h3
    have h4 := (near_le a b t hD h3).1 hn
    exact (near_le a b s hD h3).2 ⟨hs.1, by omega⟩
theorem dh_order (a b t : Int) (ha : U64 a) (hb : U64 b) (h1 : kindI 52 11 a ≠ 4) (h2 : kindI 52 11 b ≠ 4) :
    ∃ c : Int, (c = -1 ∨ c = 0 ∨ c = 1) ∧ dh 3 a b t = decide (c < 0) ∧ dh 4 a b t = decide (c ≤ 0) ∧ dh 5 a b t = decide (0 < c) ∧ dh 6 a b t = decide (0 ≤ c) ∧ dh 1 a b 0 = decide (c = 0) := by
  have a1 := u64_lt ha
  have b1 := u64_lt hb
  have hok : cmpOk (kindI 52 11 a) (kindI 52 11 b) = true := by simp [cmpOk, h1, h2]
  have hr : cmpR 52 11 a b (kindI 52 11 a) (kindI 52 11 b) = cmpZ (rankI (52 + 11) a) (rankI (52 + 11) b) := by
    unfold cmpR
    rw [if_neg (fun h => h.elim h1 h2)]
  refine ⟨cmpZ (rankI (52 + 11) a) (rankI (52 + 11) b), ?_, ?_, ?_, ?_, ?_, ?_⟩
  · unfold cmpZ; split
    · exact .inl rfl
    · split
      · exact .inr (.inr rfl)
      · exact .inr (.inl rfl)
  · simp [dh, holdsB, ordB, hok, hr]
  · simp [dh, holdsB, ordB, hok, hr]
  · simp [dh, holdsB, ordB, hok, hr]
  · simp [dh, holdsB, ordB, hok, hr]
  · show nearV 52 11 a b 0 = _
    have k0 : kindI 52 11 0 ≠ 4 := by decide +kernel
    by_cases h3 : kindI 52 11 a = 3 ∧ kindI 52 11 b = 3
    · have g1 := patK 52 11 a ok52 a1.1 (bl_of_lt 52 11 a a1.1 a1.2)
      have g2 := patK 52 11 b ok52 b1.1 (bl_of_lt 52 11 b b1.1 b1.2)
      have e1 := g1.inf h3.1
      have e2 := g2.inf h3.2
      unfold nearV
      rw [if_pos h3, show (!(kindI 52 11 0 == 4)) = true by simpa using k0, Bool.and_true]
      rw [e1, e2]
      generalize negI 52 11 a = n1
      generalize negI 52 11 b = n2
      cases n1 <;> cases n2 <;> decide +kernel
    · have hD := sub_num 52 11 a b ok52 h1 h2 h3
      have h4 := near_le a b 0 hD h3
      have h5 := sub_zero_iff 52 11 a b ok52 a1.1 a1.2 b1.1 b1.2 h1 h2 h3
      have e0 := Int.emod_nonneg (subD 52 11 a b) (show p2 (52 + 11) ≠ 0 by have := p2_pos (52 + 11); omega)
      rw [Int.zero_emod] at h4
      by_cases h6 : cmpZ (rankI (52 + 11) a) (rankI (52 + 11) b) = 0
      · rw [decide_eq_true h6]
        exact h4.2 ⟨k0, by rw [h5.2 h6]; omega⟩
      · rw [decide_eq_false h6]
        rcases Bool.eq_false_or_eq_true (nearV 52 11 a b 0) with h | h
        · exact absurd (h5.1 (by have := (h4.1 h).2; omega)) h6
        · exact h
theorem order_walk (a b t s T M : Int) (w : World) (ha : U64 a) (hb : U64 b) (ht : U64 t) (hs : U64 s) (hT : U64 T) (hM : U64 M) (h0 : U64 0) (bt : bits .and .u64 t 9223372036854775807 = T) (bs : bits .and .u64 s 9223372036854775807 = M)
    (lt gt le ge near nan1 nan2 near0 le2 near3 : Bool)
    (e1 : dh 3 a b t = lt) (e2 : dh 5 a b t = gt) (e3 : dh 4 a b t = le) (e4 : dh 6 a b t = ge) (e5 : dh 1 a b t = near) (e6 : dh 2 a b t = !near) (e7 : dh 1 b a t = near) (e8 : dh 7 a 0 0 = nan1) (e9 : dh 7 b 0 0 = nan2) (e10 : dh 1 a b 0 = near0) (e11 : dh 4 T M 0 = le2) (e12 : dh 1 a b s = near3)
    (hc : ((nan1 = true ∨ (nan1 = false ∧ nan2 = true)) ∧ lt = false ∧ gt = false ∧ le = false ∧ ge = false ∧ near = false) ∨ (nan1 = false ∧ nan2 = false ∧ ((lt = true ∧ gt = false ∧ le = true ∧ ge = false ∧ near0 = false) ∨ (lt = false ∧ gt = true ∧ le = false ∧ ge = true ∧ near0 = false) ∨ (lt = false ∧ gt = false ∧ le = true ∧ ge = true ∧ near0 = true)) ∧ (near = false ∨ (near = true ∧ (le2 = false ∨ (le2 = true ∧ near3 = true)))))) (hl : Laid w) :
    Calls Tryd.prog 6 #[.int .u64 a, .int .u64 b, .int .u64 t, .int .u64 s] w fun r w' => r = .returned (.bool true) ∧ Below w.heap.size w w' := by
  have HD := hidden doubleHolds_v
  have HV := hidden live4_any
  have HL := hidden hl
  have HB := hidden (Below.refl w.heap.size w)
  clear hl
  rcases hc with ⟨rfl | ⟨rfl, rfl⟩, rfl, rfl, rfl, rfl, rfl⟩ | ⟨rfl, rfl, ⟨rfl, rfl, rfl, rfl, rfl⟩ | ⟨rfl, rfl, rfl, rfl, rfl⟩ | ⟨rfl, rfl, rfl, rfl, rfl⟩, rfl | ⟨rfl, rfl | ⟨rfl, rfl⟩⟩⟩
  all_goals
    go_enter Tryd.func6, Tryd.ntmps6
    go_wp2_with (first | (go_at_call 18; refine (HD.out _ _ _ _ _ ?_ ?_ ?_ HL.out).mono ?_ <;> first | exact ha | exact hb | exact ht | exact hs | exact hT | exact hM | exact h0 | (rintro r w9 ⟨rfl, hb9⟩; have HL := hidden (HL.out.later hb9); have HB := hidden (HB.out.trans (hb9.mono HB.out.size)); clear hb9)) | (go_at_call 10; refine (HV.out _ HL.out).mono ?_; rintro r w9 ⟨rfl, hb⟩; have HB := hidden (HB.out.trans (hb.mono HB.out.size)); clear hb))
    go_ret
    exact ⟨rfl, HB.out⟩
theorem realsOrder_walk (a b t s : Int) (w : World) (w0 : (Lit.int .u64 a).wf = true) (w1 : (Lit.int .u64 b).wf = true) (w2 : (Lit.int .u64 t).wf = true) (w3 : (Lit.int .u64 s).wf = true) (hl : Laid w) :
    Calls Tryd.prog 6 #[.int .u64 a, .int .u64 b, .int .u64 t, .int .u64 s] w fun r w' => r = .returned (.bool true) ∧ Below w.heap.size w w' := by
  have ha : U64 a := bounds_u64 w0
  have hb : U64 b := bounds_u64 w1
  have ht : U64 t := bounds_u64 w2
  have hs : U64 s := bounds_u64 w3
  have p63 : p2 (52 + 11) = 9223372036854775808 := by decide +kernel
  have et := and_low 63 t ht.1 (by have := ht.2; omega) (by omega)
  have es := and_low 63 s hs.1 (by have := hs.2; omega) (by omega)
  rw [show p2 63 = 9223372036854775808 by decide +kernel] at et es
  have et' : bits .and .u64 t 9223372036854775807 = t % p2 (52 + 11) := by rw [p63]; exact et
  have es' : bits .and .u64 s 9223372036854775807 = s % p2 (52 + 11) := by rw [p63]; exact es
  refine order_walk a b t s _ _ w ha hb ht hs ⟨by rw [p63]; omega, by rw [p63]; omega⟩ ⟨by rw [p63]; omega, by rw [p63]; omega⟩ ⟨by omega, by omega⟩ et' es' _ _ _ _ _ _ _ _ _ _ rfl rfl rfl rfl rfl (dh_far a b t) (dh_swap a b t ha hb) (dh_nan a) (dh_nan b) rfl rfl rfl ?_ hl
  by_cases h : kindI 52 11 a = 4 ∨ kindI 52 11 b = 4
  · obtain ⟨n1, n2, n3, n4, n5⟩ := dh_none a b t h
    refine .inl ⟨?_, n1, n3, n2, n4, n5⟩
    by_cases h1 : kindI 52 11 a = 4
    · exact .inl (by simpa using h1)
    · exact .inr ⟨by simpa using h1, by simpa using h.resolve_left h1⟩
  · have h1 : kindI 52 11 a ≠ 4 := fun h' => h (.inl h')
    have h2 : kindI 52 11 b ≠ 4 := fun h' => h (.inr h')
    obtain ⟨c, hc, o1, o2, o3, o4, o5⟩ := dh_order a b t ha hb h1 h2
    refine .inr ⟨by simpa using h1, by simpa using h2, ?_, ?_⟩
    · rw [o1, o2, o3, o4, o5]
      rcases hc with rfl | rfl | rfl
      · left; decide
      · right; right; decide
      · right; left; decide
    · rcases Bool.eq_false_or_eq_true (dh 1 a b t) with hn | hn
      · right
        refine ⟨hn, ?_⟩
        rcases Bool.eq_false_or_eq_true (dh 4 (t % p2 (52 + 11)) (s % p2 (52 + 11)) 0) with h4 | h4
        · exact .inr ⟨h4, dh_more a b t s ha hb h1 h2 hn h4⟩
        · exact .inl h4
      · exact .inl hn
end Go.Proofs.YtlhknchmgckgiaaDoor
