/- Contracts of package reals: what holds of patterns. -/
import Derived.Test.YthfjjkikeebopaaDoorP3q
import Derived.Test.YthfjjkikeebopaaDoorG4
namespace Go.Proofs.YthfjjkikeebopaaDoor
open Go.RowKit
set_option maxRecDepth 100000
set_option maxHeartbeats 400000
set_option linter.unusedVariables false

/-- do two stand in the order that cond says? -/
def ordB (cond c : Int) (ok : Bool) : Bool := ok && (if cond = 3 then decide (c < 0) else if cond = 4 then decide (c ≤ 0) else if cond = 5 then decide (0 < c) else if cond = 6 then decide (0 ≤ c) else false)
/-- which of the answers does cond ask for? -/
def holdsB (cond : Int) (near nan inf ord : Bool) : Bool := if cond = 1 then near else if cond = 2 then !near else if cond = 7 then nan else if cond = 8 then inf else ord
theorem pkind (m x a K E M k g : Int) (n : Bool) (w : World)
    (HO : Hid (∀ w, Calls Tryd.prog 41 #[.agg #[.int .i64 m, .int .i64 x], .int .u64 a] w fun r w' => r = .returned (.tuple #[partsV K n E M, .int .i64 g]) ∧ Below w.heap.size w w'))
    : Calls Tryd.prog 47 #[.agg #[.int .i64 m, .int .i64 x], .int .u64 a, .int .i64 k] w fun r w' => r = .returned (.bool (K == k)) ∧ Below w.heap.size w w' := by
  go_enter Tryd.func47, Tryd.ntmps47
  go_wp2_with fail
  refine (HO.out _).mono ?_
  rintro r w1 ⟨rfl, hb1⟩
  have HB1 := hidden (box_below _ hb1)
  clear hb1
  go_wp2
  go_ret
  exact ⟨rfl, HB1.out.alloc HB1.out.size _⟩
theorem pbare (m x : Nat) (a : Int) (w : World) (hok : okF m x) (a0 : 0 ≤ a) (a1 : a < p2 (m + x + 1))
    : Calls Tryd.prog 65 #[.agg #[.int .i64 (m : Int), .int .i64 (x : Int)], .int .u64 a] w fun r w' => r = .returned (.int .u64 (a % p2 (m + x))) ∧ Below w.heap.size w w' := by
  have hk : m + x ≤ 63 := by have := hok.2.1; have := hok.2.2.2; omega
  have hp := p2_mono (show m + x + 1 ≤ 64 by omega)
  rw [p2_64] at hp
  have hA := andnot_top (m + x) a hk a0 a1 (by omega)
  have HZ := hidden (fun w => pzero_any m x true w hok)
  rw [show sgnW true (m + x) = p2 (m + x) from rfl] at HZ
  clear hp a1
  generalize p2 (m + x) = P at *
  go_enter Tryd.func65, Tryd.ntmps65
  go_wp2_with (go_at_call 33; refine (HZ.out _).mono ?_; rintro r w1 ⟨rfl, hb⟩)
  go_ret
  exact ⟨rfl, box_below _ hb⟩
theorem pinorder (m x cond a b c g : Int) (ok : Bool) (w : World)
    (HC : Hid (∀ w, Calls Tryd.prog 64 #[.agg #[.int .i64 m, .int .i64 x], .int .u64 a, .int .u64 b] w fun r w' => r = .returned (.tuple #[.int .i64 c, .bool ok, .int .i64 g]) ∧ Below w.heap.size w w'))
    : Calls Tryd.prog 48 #[.agg #[.int .i64 m, .int .i64 x], .int .i64 cond, .int .u64 a, .int .u64 b] w fun r w' => r = .returned (.bool (ordB cond c ok)) ∧ Below w.heap.size w w' := by
  cases ok
  · go_enter Tryd.func48, Tryd.ntmps48
    go_wp2_with (go_at_call 64; refine (HC.out _).mono ?_; rintro r w1 ⟨rfl, hb⟩)
    go_ret
    exact ⟨ret_bool (by simp [ordB]), box_below _ hb⟩
  by_cases h3 : cond = 3
  · subst h3
    go_enter Tryd.func48, Tryd.ntmps48
    go_wp2_with (go_at_call 64; refine (HC.out _).mono ?_; rintro r w1 ⟨rfl, hb⟩)
    go_ret
    exact ⟨ret_bool (by simp [ordB]), box_below _ hb⟩
  by_cases h4 : cond = 4
  · subst h4
    go_enter Tryd.func48, Tryd.ntmps48
    go_wp2_with (go_at_call 64; refine (HC.out _).mono ?_; rintro r w1 ⟨rfl, hb⟩)
    go_ret
    exact ⟨ret_bool (by simp [ordB]), box_below _ hb⟩
  by_cases h5 : cond = 5
  · subst h5
    go_enter Tryd.func48, Tryd.ntmps48
    go_wp2_with (go_at_call 64; refine (HC.out _).mono ?_; rintro r w1 ⟨rfl, hb⟩)
    go_ret
    exact ⟨ret_bool (by simp [ordB]), box_below _ hb⟩
  by_cases h6 : cond = 6
  · subst h6
    go_enter Tryd.func48, Tryd.ntmps48
    go_wp2_with (go_at_call 64; refine (HC.out _).mono ?_; rintro r w1 ⟨rfl, hb⟩)
    go_ret
    exact ⟨ret_bool (by simp [ordB]), box_below _ hb⟩
  have HE : Hid (ordB cond c true = false) := hidden (by simp [ordB, h3, h4, h5, h6])
  replace h3 : (cond == 3) = false := by simpa using h3
  replace h4 : (cond == 4) = false := by simpa using h4
  replace h5 : (cond == 5) = false := by simpa using h5
  replace h6 : (cond == 6) = false := by simpa using h6
  go_enter Tryd.func48, Tryd.ntmps48
  go_wp2_with (go_at_call 64; refine (HC.out _).mono ?_; rintro r w1 ⟨rfl, hb⟩)
  go_ret
  exact ⟨ret_bool HE.out.symm, box_below _ hb⟩
theorem pnear_inf (m x a b t : Int) (k4 : Bool) (w : World)
    (H1 : Hid (∀ w, Calls Tryd.prog 47 #[.agg #[.int .i64 m, .int .i64 x], .int .u64 a, .int .i64 3] w fun r w' => r = .returned (.bool true) ∧ Below w.heap.size w w'))
    (H2 : Hid (∀ w, Calls Tryd.prog 47 #[.agg #[.int .i64 m, .int .i64 x], .int .u64 b, .int .i64 3] w fun r w' => r = .returned (.bool true) ∧ Below w.heap.size w w'))
    (H3 : Hid (∀ w, Calls Tryd.prog 47 #[.agg #[.int .i64 m, .int .i64 x], .int .u64 t, .int .i64 4] w fun r w' => r = .returned (.bool k4) ∧ Below w.heap.size w w'))
    : Calls Tryd.prog 46 #[.agg #[.int .i64 m, .int .i64 x], .int .u64 a, .int .u64 b, .int .u64 t] w fun r w' => r = .returned (.bool (a == b && !k4)) ∧ Below w.heap.size w w' := by
  have c0 : (w.alloc (.cells #[.int .i64 m, .int .i64 x] 36)).cell? ⟨w.heap.size, 0, none⟩ = some (.int .i64 m) := by simp
  have c1 : (w.alloc (.cells #[.int .i64 m, .int .i64 x] 36)).cell? ⟨w.heap.size, 1, none⟩ = some (.int .i64 x) := by simp
  have HB := hidden ((Below.refl w.heap.size w).alloc (Nat.le_refl _) (.cells #[.int .i64 m, .int .i64 x] 36))
  by_cases hab : a = b
  · subst hab
    go_enter Tryd.func46, Tryd.ntmps46
    go_upto_region 1 with fail
    generalize w.alloc (.cells #[.int .i64 m, .int .i64 x] 36) = w5 at *
    go_wp2_with (first | (go_at_call_of 47 (Value.int IntKind.i64 4); refine (H3.out _).mono ?_; rintro r w9 ⟨rfl, hb⟩; have HB := hidden (HB.out.trans (hb.mono HB.out.size)); clear hb) | (go_at_call_of 47 (Value.int IntKind.i64 3); refine (H1.out _).mono ?_; rintro r w9 ⟨rfl, hb⟩; have c0 := cellLater hb c0; have c1 := cellLater hb c1; have HB := hidden (HB.out.trans (hb.mono HB.out.size)); clear hb))
    go_ret
    exact ⟨ret_bool (by simp), HB.out⟩
  · have hab2 : (a == b) = false := by simpa using hab
    clear hab
    go_enter Tryd.func46, Tryd.ntmps46
    go_upto_region 1 with fail
    generalize w.alloc (.cells #[.int .i64 m, .int .i64 x] 36) = w5 at *
    go_wp2_with (first | (go_at_call_of 47 (Value.int IntKind.u64 a); refine (H1.out _).mono ?_; rintro r w9 ⟨rfl, hb⟩; have c0 := cellLater hb c0; have c1 := cellLater hb c1; have HB := hidden (HB.out.trans (hb.mono HB.out.size)); clear hb) | (go_at_call_of 47 (Value.int IntKind.u64 b); refine (H2.out _).mono ?_; rintro r w9 ⟨rfl, hb⟩; have c0 := cellLater hb c0; have c1 := cellLater hb c1; have HB := hidden (HB.out.trans (hb.mono HB.out.size)); clear hb))
    go_ret
    exact ⟨ret_bool (by rw [hab2]; rfl), HB.out⟩
theorem pnear_num (m x a b t D D2 t2 c g g2 : Int) (ka kb ok : Bool) (w : World) (hk : (ka && kb) = false)
    (H1 : Hid (∀ w, Calls Tryd.prog 47 #[.agg #[.int .i64 m, .int .i64 x], .int .u64 a, .int .i64 3] w fun r w' => r = .returned (.bool ka) ∧ Below w.heap.size w w'))
    (H2 : Hid (∀ w, Calls Tryd.prog 47 #[.agg #[.int .i64 m, .int .i64 x], .int .u64 b, .int .i64 3] w fun r w' => r = .returned (.bool kb) ∧ Below w.heap.size w w'))
    (HS : Hid (∀ w, Calls Tryd.prog 18 #[.agg #[.int .i64 m, .int .i64 x], .int .u64 a, .int .u64 b] w fun r w' => r = .returned (.tuple #[.int .u64 D, .int .i64 g]) ∧ Below w.heap.size w w'))
    (HD : Hid (∀ w, Calls Tryd.prog 65 #[.agg #[.int .i64 m, .int .i64 x], .int .u64 D] w fun r w' => r = .returned (.int .u64 D2) ∧ Below w.heap.size w w'))
    (HT : Hid (∀ w, Calls Tryd.prog 65 #[.agg #[.int .i64 m, .int .i64 x], .int .u64 t] w fun r w' => r = .returned (.int .u64 t2) ∧ Below w.heap.size w w'))
    (HC : Hid (∀ w, Calls Tryd.prog 64 #[.agg #[.int .i64 m, .int .i64 x], .int .u64 D2, .int .u64 t2] w fun r w' => r = .returned (.tuple #[.int .i64 c, .bool ok, .int .i64 g2]) ∧ Below w.heap.size w w'))
    : Calls Tryd.prog 46 #[.agg #[.int .i64 m, .int .i64 x], .int .u64 a, .int .u64 b, .int .u64 t] w fun r w' => r = .returned (.bool (ok && decide (c ≤ 0))) ∧ Below w.heap.size w w' := by
  have c0 : (w.alloc (.cells #[.int .i64 m, .int .i64 x] 36)).cell? ⟨w.heap.size, 0, none⟩ = some (.int .i64 m) := by simp
  have c1 : (w.alloc (.cells #[.int .i64 m, .int .i64 x] 36)).cell? ⟨w.heap.size, 1, none⟩ = some (.int .i64 x) := by simp
  have HB := hidden ((Below.refl w.heap.size w).alloc (Nat.le_refl _) (.cells #[.int .i64 m, .int .i64 x] 36))
  have fin : Hid (∀ w', Below w.heap.size w w' → True) := hidden fun _ _ => trivial
  cases ka
  all_goals first | (cases kb) | skip
  all_goals try (simp at hk; done)
  all_goals
    clear hk
    go_enter Tryd.func46, Tryd.ntmps46
    go_upto_region 1 with fail
    generalize w.alloc (.cells #[.int .i64 m, .int .i64 x] 36) = w5 at *
    go_upto_region 4 with (first | (go_at_call_of 47 (Value.int IntKind.u64 a); refine (H1.out _).mono ?_; rintro r w9 ⟨rfl, hb⟩; have c0 := cellLater hb c0; have c1 := cellLater hb c1; have HB := hidden (HB.out.trans (hb.mono HB.out.size)); clear hb) | (go_at_call_of 47 (Value.int IntKind.u64 b); refine (H2.out _).mono ?_; rintro r w9 ⟨rfl, hb⟩; have c0 := cellLater hb c0; have c1 := cellLater hb c1; have HB := hidden (HB.out.trans (hb.mono HB.out.size)); clear hb) | (go_at_call 18; refine (HS.out _).mono ?_; rintro r w9 ⟨rfl, hb⟩; have c0 := cellLater hb c0; have c1 := cellLater hb c1; have HB := hidden (HB.out.trans (hb.mono HB.out.size)); clear hb))
    go_region_held3 (fun w' => w'.cell? ⟨w.heap.size, 0, none⟩ = some (.int .i64 m) ∧ w'.cell? ⟨w.heap.size, 1, none⟩ = some (.int .i64 x)) (go_keep) (first | (go_at_call_of 65 (Value.int IntKind.u64 D); refine (HD.out _).mono ?_; rintro r w10 ⟨rfl, hb10⟩; have c0 : w10.cell? ⟨w.heap.size, 0, none⟩ = some (.int .i64 m) := cellLater hb10 (by go_keep); have c1 : w10.cell? ⟨w.heap.size, 1, none⟩ = some (.int .i64 x) := cellLater hb10 (by go_keep)) | (go_at_call_of 65 (Value.int IntKind.u64 t); refine (HT.out _).mono ?_; rintro r w11 ⟨rfl, hb11⟩; have c0 : w11.cell? ⟨w.heap.size, 0, none⟩ = some (.int .i64 m) := cellLater hb11 (by go_keep); have c1 : w11.cell? ⟨w.heap.size, 1, none⟩ = some (.int .i64 x) := cellLater hb11 (by go_keep)) | (go_at_call 64; refine (HC.out _).mono ?_; rintro r w12 ⟨rfl, hb12⟩; have c0 : w12.cell? ⟨w.heap.size, 0, none⟩ = some (.int .i64 m) := cellLater hb12 (by go_keep); have c1 : w12.cell? ⟨w.heap.size, 1, none⟩ = some (.int .i64 x) := cellLater hb12 (by go_keep)))
  all_goals
    have h0 := HB.out.drew
    have h1 := h0.trans (hb10.mono h0.size)
    have h2 := h1.trans (hb11.mono h1.size)
    have h3 := h2.trans (hb12.mono h2.size)
    have HF := hidden h3
    clear h0 h1 h2 h3 hb10 hb11 hb12
    cases ok
    · go_wp2
      go_ret
      exact ⟨ret_bool (by simp), HF.out⟩
    · go_wp2
      go_ret
      exact ⟨ret_bool (by simp), HF.out⟩
theorem pholds32 (m x cond a b t : Int) (near nan inf ord : Bool) (w : World) (a0 : 0 ≤ a) (a1 : a < 4294967296) (b0 : 0 ≤ b) (b1 : b < 4294967296) (t0 : 0 ≤ t) (t1 : t < 4294967296)
    (HN : Hid (∀ w, Calls Tryd.prog 46 #[.agg #[.int .i64 m, .int .i64 x], .int .u64 a, .int .u64 b, .int .u64 t] w fun r w' => r = .returned (.bool near) ∧ Below w.heap.size w w'))
    (H4 : Hid (∀ w, Calls Tryd.prog 47 #[.agg #[.int .i64 m, .int .i64 x], .int .u64 a, .int .i64 4] w fun r w' => r = .returned (.bool nan) ∧ Below w.heap.size w w'))
    (H3 : Hid (∀ w, Calls Tryd.prog 47 #[.agg #[.int .i64 m, .int .i64 x], .int .u64 a, .int .i64 3] w fun r w' => r = .returned (.bool inf) ∧ Below w.heap.size w w'))
    (HI : Hid (∀ w, Calls Tryd.prog 48 #[.agg #[.int .i64 m, .int .i64 x], .int .i64 cond, .int .u64 a, .int .u64 b] w fun r w' => r = .returned (.bool ord) ∧ Below w.heap.size w w'))
    : Calls Tryd.prog 28 #[.agg #[.int .i64 m, .int .i64 x], .int .i64 cond, .int .u32 a, .int .u32 b, .int .u32 t] w fun r w' => r = .returned (.bool (holdsB cond near nan inf ord)) ∧ Below w.heap.size w w' := by
  by_cases h1 : cond = 1
  · subst h1
    go_enter Tryd.func28, Tryd.ntmps28
    go_wp2_with (go_at_call 46; refine (HN.out _).mono ?_; rintro r w1 ⟨rfl, hb⟩)
    go_ret
    exact ⟨ret_bool (by simp [holdsB]), box_below _ hb⟩
  by_cases h2 : cond = 2
  · subst h2
    go_enter Tryd.func28, Tryd.ntmps28
    go_wp2_with (go_at_call 46; refine (HN.out _).mono ?_; rintro r w1 ⟨rfl, hb⟩)
    go_ret
    exact ⟨ret_bool (by simp [holdsB]), box_below _ hb⟩
  by_cases h7 : cond = 7
  · subst h7
    go_enter Tryd.func28, Tryd.ntmps28
    go_wp2_with (go_at_call 47; refine (H4.out _).mono ?_; rintro r w1 ⟨rfl, hb⟩)
    go_ret
    exact ⟨ret_bool (by simp [holdsB]), box_below _ hb⟩
  by_cases h8 : cond = 8
  · subst h8
    go_enter Tryd.func28, Tryd.ntmps28
    go_wp2_with (go_at_call 47; refine (H3.out _).mono ?_; rintro r w1 ⟨rfl, hb⟩)
    go_ret
    exact ⟨ret_bool (by simp [holdsB]), box_below _ hb⟩
  have HE : Hid (holdsB cond near nan inf ord = ord) := hidden (by simp [holdsB, h1, h2, h7, h8])
  replace h1 : (cond == 1) = false := by simpa using h1
  replace h2 : (cond == 2) = false := by simpa using h2
  replace h7 : (cond == 7) = false := by simpa using h7
  replace h8 : (cond == 8) = false := by simpa using h8
  go_enter Tryd.func28, Tryd.ntmps28
  go_wp2_with (go_at_call 48; refine (HI.out _).mono ?_; rintro r w1 ⟨rfl, hb⟩)
  go_ret
  exact ⟨ret_bool HE.out.symm, box_below _ hb⟩
theorem pholds32_7 (m x a b t : Int) (v : Bool) (w : World) (a0 : 0 ≤ a) (a1 : a < 4294967296)
    (HK : Hid (∀ w, Calls Tryd.prog 47 #[.agg #[.int .i64 m, .int .i64 x], .int .u64 a, .int .i64 4] w fun r w' => r = .returned (.bool v) ∧ Below w.heap.size w w'))
    : Calls Tryd.prog 28 #[.agg #[.int .i64 m, .int .i64 x], .int .i64 7, .int .u32 a, .int .u32 b, .int .u32 t] w fun r w' => r = .returned (.bool v) ∧ Below w.heap.size w w' := by
  go_enter Tryd.func28, Tryd.ntmps28
  go_wp2_with (go_at_call 47; refine (HK.out _).mono ?_; rintro r w1 ⟨rfl, hb⟩)
  go_ret
  exact ⟨rfl, box_below _ hb⟩
theorem pholds32_8 (m x a b t : Int) (v : Bool) (w : World) (a0 : 0 ≤ a) (a1 : a < 4294967296)
    (HK : Hid (∀ w, Calls Tryd.prog 47 #[.agg #[.int .i64 m, .int .i64 x], .int .u64 a, .int .i64 3] w fun r w' => r = .returned (.bool v) ∧ Below w.heap.size w w'))
    : Calls Tryd.prog 28 #[.agg #[.int .i64 m, .int .i64 x], .int .i64 8, .int .u32 a, .int .u32 b, .int .u32 t] w fun r w' => r = .returned (.bool v) ∧ Below w.heap.size w w' := by
  go_enter Tryd.func28, Tryd.ntmps28
  go_wp2_with (go_at_call 47; refine (HK.out _).mono ?_; rintro r w1 ⟨rfl, hb⟩)
  go_ret
  exact ⟨rfl, box_below _ hb⟩
theorem pSingleHolds (cond a b t : Int) (v : Bool) (w : World) (hl : Laid w)
    (HF : Hid (∀ w, Calls Tryd.prog 28 #[.agg #[.int .i64 23, .int .i64 8], .int .i64 cond, .int .u32 a, .int .u32 b, .int .u32 t] w fun r w' => r = .returned (.bool v) ∧ Below w.heap.size w w'))
    : Calls Tryd.prog 15 #[.int .i64 cond, .int .u32 a, .int .u32 b, .int .u32 t] w fun r w' => r = .returned (.bool v) ∧ Below w.heap.size w w' := by
  obtain ⟨l0, l1, l2, l3⟩ := hl
  go_enter Tryd.func15, Tryd.ntmps15
  go_wp2_with (go_at_call 28; refine (HF.out _).mono ?_; rintro r w1 ⟨rfl, hb⟩)
  go_ret
  exact ⟨rfl, hb⟩
end Go.Proofs.YthfjjkikeebopaaDoor
