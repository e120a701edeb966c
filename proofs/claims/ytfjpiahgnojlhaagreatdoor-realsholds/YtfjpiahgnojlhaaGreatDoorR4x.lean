/- What the two listed variables of package reals give a walk: the formats of singles and of doubles. Contracts of package reals: integers as patterns, patterns as integers, patterns of the other format. Contracts of package reals: what holds of patterns. Contracts of package reals: what is reckoned of patterns. Package soft's Convert, leaf by leaf. What is known of a pattern by its kind. What package soft's Convert answers, for every pattern of a format. What package soft's Cmp and Sub answer, for every two patterns of a format. Contract of package soft's wholePart: a number without its sign as a whole number. Package soft's Whole, leaf by leaf. The statements' own small functions of stage 4 (num) and the page's examples (live), which come out true wherever the two variables read as the program's text lays them. -/
import Derived.Test.YtfjpiahgnojlhaaGreatDoorRows
import Derived.Test.YtfjpiahgnojlhaaGreatDoorQ2a
import Derived.LaidMore
import Derived.Stop.Joined
import Derived.OpenShut
import Derived.Lib.LaidU8
import Derived.Handy
import Derived.Test.YtfjpiahgnojlhaaGreatDoorP2d
import Derived.Test.YtfjpiahgnojlhaaGreatDoorP3q
import Derived.Test.YtfjpiahgnojlhaaGreatDoorP3m
namespace Go.Proofs.YtfjpiahgnojlhaaGreatDoor
open Go.RowKit

/-- the two variables read as the program's text lays them -/
def Laid (w : World) : Prop := w.cell? ⟨0, 0, none⟩ = some (.int .i64 23) ∧ w.cell? ⟨0, 1, none⟩ = some (.int .i64 8) ∧ w.cell? ⟨1, 0, none⟩ = some (.int .i64 52) ∧ w.cell? ⟨1, 1, none⟩ = some (.int .i64 11)
theorem Laid.later {w w' : World} (h : Laid w) (hb : Below w.heap.size w w') : Laid w' := ⟨cellLater hb h.1, cellLater hb h.2.1, cellLater hb h.2.2.1, cellLater hb h.2.2.2⟩
theorem fmt_cells {W : World} {nm : String} {g : Nat} {a b : Int} (hg : Tryz.prog.globalNamed nm = some g) (ht : (Tryz.prog.globals[g]?).map (·.type) = some 31) (h : Lib.VarReads Tryz.prog W nm (.agg [.lit (.int .i64 a), .lit (.int .i64 b)])) :
    W.cell? ⟨g, 0, none⟩ = some (.int .i64 a) ∧ W.cell? ⟨g, 1, none⟩ = some (.int .i64 b) := by
  obtain ⟨g', t', cs, fuel, p, hg', ht', hv, hd⟩ := h
  obtain rfl := Option.some.inj (hg.symm.trans hg')
  obtain rfl := Option.some.inj (ht.symm.trans ht')
  have hc := Lib.ints_of_struct (k := .i64) (zs := [a, b]) Tryz.underlying31 (fun i f hi => by
    match i with
    | 0 => simp at hi; subst hi; exact ⟨Tryz.underlying3, rfl, by kernel_rfl⟩
    | 1 => simp at hi; subst hi; exact ⟨Tryz.underlying3, rfl, by kernel_rfl⟩
    | i + 2 => simp at hi) (by kernel_rfl) hd
  have hcs : cs = #[.int .i64 a, .int .i64 b] := by
    cases cs
    simpa using hc
  subst hcs
  have h0 := World.var?_cell hg hv 0
  have h1 := World.var?_cell hg hv 1
  exact ⟨by simpa using h0, by simpa using h1⟩
theorem laid_of {W : World} (h : laidMetH Tryz.prog [("grotto/reals.singles", Rows.laid_grotto_reals_singles), ("grotto/reals.doubles", Rows.laid_grotto_reals_doubles)] W) : Laid W := by
  rw [MakeChecks.laidMetH_plain _ _ _ (by kernel_rfl)] at h
  have h1 := fmt_cells (nm := "grotto/reals.singles") (g := 0) (by kernel_rfl) (by kernel_rfl) (Lib.laidMet.reads h (d := Rows.laid_grotto_reals_singles) (by simp))
  have h2 := fmt_cells (nm := "grotto/reals.doubles") (g := 1) (by kernel_rfl) (by kernel_rfl) (Lib.laidMet.reads h (d := Rows.laid_grotto_reals_doubles) (by simp))
  exact ⟨h1.1, h1.2, h2.1, h2.2⟩
end Go.Proofs.YtfjpiahgnojlhaaGreatDoor
namespace Go.Proofs.YtfjpiahgnojlhaaGreatDoor
open Go.RowKit
set_option maxRecDepth 100000
set_option maxHeartbeats 400000
set_option linter.unusedVariables false

/-- the size of a word as an integer, and its pattern -/
def sizeI (n : Int) : Int := if 2147483648 ≤ n then 4294967296 - n else n
def ofI (m x : Nat) (n : Int) : Int := packP m x (sizeI n) 0 false + sgnW (decide (2147483648 ≤ n)) (m + x)
theorem pat_bd (m x : Nat) (N e : Int) (more s : Bool) (k : Nat) (hN : 0 ≤ N) (hx : 2 ≤ x) (hk : m + x + 1 ≤ k) : 0 ≤ packP m x N e more + sgnW s (m + x) ∧ packP m x N e more + sgnW s (m + x) < p2 k := by
  obtain ⟨h0, h1⟩ := pack_bd m x N e more hN hx
  have h2 : (p2 x - 1) * p2 m = p2 (m + x) - p2 m := by rw [Int.sub_mul, Int.one_mul, ← p2_add, Nat.add_comm x m]
  have h3 := p2_pos m
  have h4 : p2 (m + x + 1) ≤ p2 k := p2_mono hk
  rw [p2_succ] at h4
  have h5 := p2_pos (m + x)
  unfold sgnW
  cases s <;> simp <;> omega
theorem p2_32 : p2 32 = 4294967296 := by decide +kernel
/-- what is read of a whole number as an integer -/
def toI (R : Int) (s : Bool) : Int := if s then (if R = 0 then 0 else 4294967296 - min R 2147483648) else min R 2147483647
theorem ofint32 (m x : Nat) (n : Int) (w : World) (hok : okF m x) (hk : m + x + 1 ≤ 32) (n0 : 0 ≤ n) (n1 : n ≤ 4294967295) :
    Calls Tryz.prog 34 #[.agg #[.int .i64 (m : Int), .int .i64 (x : Int)], .int .u32 n] w fun r w' => r = .returned (.int .u32 (ofI m x n)) ∧ Below w.heap.size w w' := by
  have hx : 2 ≤ x := by have := hok.2.2.1; omega
  have hbd := pat_bd m x (sizeI n) 0 false (decide (2147483648 ≤ n)) 32 (by unfold sizeI; split <;> omega) hx hk
  rw [p2_32] at hbd
  change 0 ≤ ofI m x n ∧ ofI m x n < _ at hbd
  have HP := hidden (fun w => ppack_any m x (decide (2147483648 ≤ n)) false (sizeI n) 0 (sizeI n) 0 w hok (by omega) (by omega) (by omega) (by omega) (by omega) (by unfold sizeI; split <;> omega) (by unfold sizeI; split <;> omega) (fun h => by cases h))
  change Hid (∀ w, Calls Tryz.prog 63 _ w fun r w' => r = .returned (.tuple #[.int .u64 (ofI m x n), .int .i64 0]) ∧ Below w.heap.size w w') at HP
  generalize ofI m x n = R at *
  by_cases h : 2147483648 ≤ n
  · have e : sizeI n = 4294967296 - n := by unfold sizeI; rw [if_pos h]
    rw [e, decide_eq_true h] at HP
    have hS : IntKind.u32.wrap (-n) = 4294967296 - n := by rw [IntKind.wrap_u32]; omega
    have s0 : 0 ≤ 4294967296 - n := by omega
    have s1 : 4294967296 - n ≤ 2147483648 := by omega
    clear e
    generalize 4294967296 - n = S at *
    go_enter Tryz.func34, Tryz.ntmps34
    go_wp2_with (go_at_call 63; refine (HP.out _).mono ?_; rintro r w1 ⟨rfl, hb⟩)
    go_ret
    exact ⟨rfl, box_below _ hb⟩
  · have e : sizeI n = n := by unfold sizeI; rw [if_neg h]
    rw [e, decide_eq_false h] at HP
    clear e
    go_enter Tryz.func34, Tryz.ntmps34
    go_wp2_with (go_at_call 63; refine (HP.out _).mono ?_; rintro r w1 ⟨rfl, hb⟩)
    go_ret
    exact ⟨rfl, box_below _ hb⟩
theorem toint32 (m x a R g : Int) (near s : Bool) (w : World) (a0 : 0 ≤ a) (a1 : a < 4294967296) (r0 : 0 ≤ R) (r1 : R ≤ 1099511627776)
    (HW : Hid (∀ w, Calls Tryz.prog 64 #[.agg #[.int .i64 m, .int .i64 x], .int .u64 a, .bool near] w fun r w' => r = .returned (.tuple #[.int .u64 R, .bool s, .int .i64 g]) ∧ Below w.heap.size w w')) :
    Calls Tryz.prog 35 #[.agg #[.int .i64 m, .int .i64 x], .int .u32 a, .bool near] w fun r w' => r = .returned (.int .u32 (toI R s)) ∧ Below w.heap.size w w' := by
  cases s
  · go_enter Tryz.func35, Tryz.ntmps35
    go_wp2_with (go_at_call 64; refine (HW.out _).mono ?_; rintro r w1 ⟨rfl, hb⟩)
    go_ret
    exact ⟨ret_int (by unfold toI; simp <;> omega), box_below _ hb⟩
  · go_enter Tryz.func35, Tryz.ntmps35
    go_wp2_with (go_at_call 64; refine (HW.out _).mono ?_; rintro r w1 ⟨rfl, hb⟩)
    go_ret
    exact ⟨ret_int (by unfold toI; simp <;> omega), box_below _ hb⟩
theorem conv_u64 (m x m2 x2 a R g : Int) (w : World) (a0 : 0 ≤ a) (a1 : a < 4294967296) (r0 : 0 ≤ R) (r1 : R < 18446744073709551616)
    (HC : Hid (∀ w, Calls Tryz.prog 65 #[.agg #[.int .i64 m, .int .i64 x], .agg #[.int .i64 m2, .int .i64 x2], .int .u64 a] w fun r w' => r = .returned (.tuple #[.int .u64 R, .int .i64 g]) ∧ Below w.heap.size w w')) :
    Calls Tryz.prog 36 #[.agg #[.int .i64 m, .int .i64 x], .agg #[.int .i64 m2, .int .i64 x2], .int .u32 a] w fun r w' => r = .returned (.int .u64 R) ∧ Below w.heap.size w w' := by
  go_enter Tryz.func36, Tryz.ntmps36
  go_wp2_with (go_at_call 65; refine (HC.out _).mono ?_; rintro r w1 ⟨rfl, hb⟩)
  go_ret
  have hW : Below w.heap.size w ((w.alloc (.cells #[.int .i64 m, .int .i64 x] 31)).alloc (.cells #[.int .i64 m2, .int .i64 x2] 31)) := ((Below.refl _ _).alloc (Nat.le_refl _) _).alloc (by simp) _
  exact ⟨rfl, hW.trans (hb.mono hW.size)⟩
theorem singleOf_c (n : Int) (w : World) (hl : Laid w) (n0 : 0 ≤ n) (n1 : n ≤ 4294967295) : Calls Tryz.prog 18 #[.int .u32 n] w fun r w' => r = .returned (.int .u32 (ofI 23 8 n)) ∧ Below w.heap.size w w' := by
  have HF : Hid (∀ w, Calls Tryz.prog 34 #[.agg #[.int .i64 23, .int .i64 8], .int .u32 n] w fun r w' => r = .returned (.int .u32 (ofI 23 8 n)) ∧ Below w.heap.size w w') := hidden fun w => ofint32 23 8 n w (by unfold okF; omega) (by omega) n0 n1
  obtain ⟨l0, l1, l2, l3⟩ := hl
  go_enter Tryz.func18, Tryz.ntmps18
  go_wp2_with (go_at_call 34; refine (HF.out _).mono ?_; rintro r w1 ⟨rfl, hb⟩)
  go_ret
  exact ⟨rfl, hb⟩
theorem singleInt_c (a R : Int) (near : Bool) (w : World) (hl : Laid w) (HF : Hid (∀ w, Calls Tryz.prog 35 #[.agg #[.int .i64 23, .int .i64 8], .int .u32 a, .bool near] w fun r w' => r = .returned (.int .u32 R) ∧ Below w.heap.size w w')) :
    Calls Tryz.prog 19 #[.int .u32 a, .bool near] w fun r w' => r = .returned (.int .u32 R) ∧ Below w.heap.size w w' := by
  obtain ⟨l0, l1, l2, l3⟩ := hl
  go_enter Tryz.func19, Tryz.ntmps19
  go_wp2_with (go_at_call 35; refine (HF.out _).mono ?_; rintro r w1 ⟨rfl, hb⟩)
  go_ret
  exact ⟨rfl, hb⟩
theorem widen_c (a R : Int) (w : World) (hl : Laid w) (HF : Hid (∀ w, Calls Tryz.prog 36 #[.agg #[.int .i64 23, .int .i64 8], .agg #[.int .i64 52, .int .i64 11], .int .u32 a] w fun r w' => r = .returned (.int .u64 R) ∧ Below w.heap.size w w')) :
    Calls Tryz.prog 20 #[.int .u32 a] w fun r w' => r = .returned (.int .u64 R) ∧ Below w.heap.size w w' := by
  obtain ⟨l0, l1, l2, l3⟩ := hl
  go_enter Tryz.func20, Tryz.ntmps20
  go_wp2_with (go_at_call 36; refine (HF.out _).mono ?_; rintro r w1 ⟨rfl, hb⟩)
  go_ret
  exact ⟨rfl, hb⟩
end Go.Proofs.YtfjpiahgnojlhaaGreatDoor
namespace Go.Proofs.YtfjpiahgnojlhaaGreatDoor
open Go.RowKit
set_option maxRecDepth 100000
set_option maxHeartbeats 400000
set_option linter.unusedVariables false

/-- do two stand in the order that cond says? -/
def ordB (cond c : Int) (ok : Bool) : Bool := ok && (if cond = 3 then decide (c < 0) else if cond = 4 then decide (c ≤ 0) else if cond = 5 then decide (0 < c) else if cond = 6 then decide (0 ≤ c) else false)
/-- which of the answers does cond ask for? -/
def holdsB (cond : Int) (near nan inf ord : Bool) : Bool := if cond = 1 then near else if cond = 2 then !near else if cond = 7 then nan else if cond = 8 then inf else ord
theorem pkind (m x a K E M k g : Int) (n : Bool) (w : World)
    (HO : Hid (∀ w, Calls Tryz.prog 40 #[.agg #[.int .i64 m, .int .i64 x], .int .u64 a] w fun r w' => r = .returned (.tuple #[partsV K n E M, .int .i64 g]) ∧ Below w.heap.size w w'))
    : Calls Tryz.prog 22 #[.agg #[.int .i64 m, .int .i64 x], .int .u64 a, .int .i64 k] w fun r w' => r = .returned (.bool (K == k)) ∧ Below w.heap.size w w' := by
  go_enter Tryz.func22, Tryz.ntmps22
  go_wp2_with fail
  refine (HO.out _).mono ?_
  rintro r w1 ⟨rfl, hb1⟩
  have HB1 := hidden (box_below _ hb1)
  clear hb1
  go_wp2
  go_ret
  exact ⟨rfl, HB1.out.alloc HB1.out.size _⟩
theorem pbare (m x : Nat) (a : Int) (w : World) (hok : okF m x) (a0 : 0 ≤ a) (a1 : a < p2 (m + x + 1))
    : Calls Tryz.prog 39 #[.agg #[.int .i64 (m : Int), .int .i64 (x : Int)], .int .u64 a] w fun r w' => r = .returned (.int .u64 (a % p2 (m + x))) ∧ Below w.heap.size w w' := by
  have hk : m + x ≤ 63 := by have := hok.2.1; have := hok.2.2.2; omega
  have hp := p2_mono (show m + x + 1 ≤ 64 by omega)
  rw [p2_64] at hp
  have hA := andnot_top (m + x) a hk a0 a1 (by omega)
  have HZ := hidden (fun w => pzero_any m x true w hok)
  rw [show sgnW true (m + x) = p2 (m + x) from rfl] at HZ
  clear hp a1
  generalize p2 (m + x) = P at *
  go_enter Tryz.func39, Tryz.ntmps39
  go_wp2_with (go_at_call 71; refine (HZ.out _).mono ?_; rintro r w1 ⟨rfl, hb⟩)
  go_ret
  exact ⟨rfl, box_below _ hb⟩
theorem pinorder (m x cond a b c g : Int) (ok : Bool) (w : World)
    (HC : Hid (∀ w, Calls Tryz.prog 38 #[.agg #[.int .i64 m, .int .i64 x], .int .u64 a, .int .u64 b] w fun r w' => r = .returned (.tuple #[.int .i64 c, .bool ok, .int .i64 g]) ∧ Below w.heap.size w w'))
    : Calls Tryz.prog 23 #[.agg #[.int .i64 m, .int .i64 x], .int .i64 cond, .int .u64 a, .int .u64 b] w fun r w' => r = .returned (.bool (ordB cond c ok)) ∧ Below w.heap.size w w' := by
  cases ok
  · go_enter Tryz.func23, Tryz.ntmps23
    go_wp2_with (go_at_call 38; refine (HC.out _).mono ?_; rintro r w1 ⟨rfl, hb⟩)
    go_ret
    exact ⟨ret_bool (by simp [ordB]), box_below _ hb⟩
  by_cases h3 : cond = 3
  · subst h3
    go_enter Tryz.func23, Tryz.ntmps23
    go_wp2_with (go_at_call 38; refine (HC.out _).mono ?_; rintro r w1 ⟨rfl, hb⟩)
    go_ret
    exact ⟨ret_bool (by simp [ordB]), box_below _ hb⟩
  by_cases h4 : cond = 4
  · subst h4
    go_enter Tryz.func23, Tryz.ntmps23
    go_wp2_with (go_at_call 38; refine (HC.out _).mono ?_; rintro r w1 ⟨rfl, hb⟩)
    go_ret
    exact ⟨ret_bool (by simp [ordB]), box_below _ hb⟩
  by_cases h5 : cond = 5
  · subst h5
    go_enter Tryz.func23, Tryz.ntmps23
    go_wp2_with (go_at_call 38; refine (HC.out _).mono ?_; rintro r w1 ⟨rfl, hb⟩)
    go_ret
    exact ⟨ret_bool (by simp [ordB]), box_below _ hb⟩
  by_cases h6 : cond = 6
  · subst h6
    go_enter Tryz.func23, Tryz.ntmps23
    go_wp2_with (go_at_call 38; refine (HC.out _).mono ?_; rintro r w1 ⟨rfl, hb⟩)
    go_ret
    exact ⟨ret_bool (by simp [ordB]), box_below _ hb⟩
  have HE : Hid (ordB cond c true = false) := hidden (by simp [ordB, h3, h4, h5, h6])
  replace h3 : (cond == 3) = false := by simpa using h3
  replace h4 : (cond == 4) = false := by simpa using h4
  replace h5 : (cond == 5) = false := by simpa using h5
  replace h6 : (cond == 6) = false := by simpa using h6
  go_enter Tryz.func23, Tryz.ntmps23
  go_wp2_with (go_at_call 38; refine (HC.out _).mono ?_; rintro r w1 ⟨rfl, hb⟩)
  go_ret
  exact ⟨ret_bool HE.out.symm, box_below _ hb⟩
theorem pnear_inf (m x a b t : Int) (k4 : Bool) (w : World)
    (H1 : Hid (∀ w, Calls Tryz.prog 22 #[.agg #[.int .i64 m, .int .i64 x], .int .u64 a, .int .i64 3] w fun r w' => r = .returned (.bool true) ∧ Below w.heap.size w w'))
    (H2 : Hid (∀ w, Calls Tryz.prog 22 #[.agg #[.int .i64 m, .int .i64 x], .int .u64 b, .int .i64 3] w fun r w' => r = .returned (.bool true) ∧ Below w.heap.size w w'))
    (H3 : Hid (∀ w, Calls Tryz.prog 22 #[.agg #[.int .i64 m, .int .i64 x], .int .u64 t, .int .i64 4] w fun r w' => r = .returned (.bool k4) ∧ Below w.heap.size w w'))
    : Calls Tryz.prog 21 #[.agg #[.int .i64 m, .int .i64 x], .int .u64 a, .int .u64 b, .int .u64 t] w fun r w' => r = .returned (.bool (a == b && !k4)) ∧ Below w.heap.size w w' := by
  have c0 : (w.alloc (.cells #[.int .i64 m, .int .i64 x] 31)).cell? ⟨w.heap.size, 0, none⟩ = some (.int .i64 m) := by simp
  have c1 : (w.alloc (.cells #[.int .i64 m, .int .i64 x] 31)).cell? ⟨w.heap.size, 1, none⟩ = some (.int .i64 x) := by simp
  have HB := hidden ((Below.refl w.heap.size w).alloc (Nat.le_refl _) (.cells #[.int .i64 m, .int .i64 x] 31))
  by_cases hab : a = b
  · subst hab
    go_enter Tryz.func21, Tryz.ntmps21
    go_upto_region 1 with fail
    generalize w.alloc (.cells #[.int .i64 m, .int .i64 x] 31) = w5 at *
    go_wp2_with (first | (go_at_call_of 22 (Value.int IntKind.i64 4); refine (H3.out _).mono ?_; rintro r w9 ⟨rfl, hb⟩; have HB := hidden (HB.out.trans (hb.mono HB.out.size)); clear hb) | (go_at_call_of 22 (Value.int IntKind.i64 3); refine (H1.out _).mono ?_; rintro r w9 ⟨rfl, hb⟩; have c0 := cellLater hb c0; have c1 := cellLater hb c1; have HB := hidden (HB.out.trans (hb.mono HB.out.size)); clear hb))
    go_ret
    exact ⟨ret_bool (by simp), HB.out⟩
  · have hab2 : (a == b) = false := by simpa using hab
    clear hab
    go_enter Tryz.func21, Tryz.ntmps21
    go_upto_region 1 with fail
    generalize w.alloc (.cells #[.int .i64 m, .int .i64 x] 31) = w5 at *
    go_wp2_with (first | (go_at_call_of 22 (Value.int IntKind.u64 a); refine (H1.out _).mono ?_; rintro r w9 ⟨rfl, hb⟩; have c0 := cellLater hb c0; have c1 := cellLater hb c1; have HB := hidden (HB.out.trans (hb.mono HB.out.size)); clear hb) | (go_at_call_of 22 (Value.int IntKind.u64 b); refine (H2.out _).mono ?_; rintro r w9 ⟨rfl, hb⟩; have c0 := cellLater hb c0; have c1 := cellLater hb c1; have HB := hidden (HB.out.trans (hb.mono HB.out.size)); clear hb))
    go_ret
    exact ⟨ret_bool (by rw [hab2]; rfl), HB.out⟩
theorem pnear_num (m x a b t D D2 t2 c g g2 : Int) (ka kb ok : Bool) (w : World) (hk : (ka && kb) = false)
    (H1 : Hid (∀ w, Calls Tryz.prog 22 #[.agg #[.int .i64 m, .int .i64 x], .int .u64 a, .int .i64 3] w fun r w' => r = .returned (.bool ka) ∧ Below w.heap.size w w'))
    (H2 : Hid (∀ w, Calls Tryz.prog 22 #[.agg #[.int .i64 m, .int .i64 x], .int .u64 b, .int .i64 3] w fun r w' => r = .returned (.bool kb) ∧ Below w.heap.size w w'))
    (HS : Hid (∀ w, Calls Tryz.prog 37 #[.agg #[.int .i64 m, .int .i64 x], .int .u64 a, .int .u64 b] w fun r w' => r = .returned (.tuple #[.int .u64 D, .int .i64 g]) ∧ Below w.heap.size w w'))
    (HD : Hid (∀ w, Calls Tryz.prog 39 #[.agg #[.int .i64 m, .int .i64 x], .int .u64 D] w fun r w' => r = .returned (.int .u64 D2) ∧ Below w.heap.size w w'))
    (HT : Hid (∀ w, Calls Tryz.prog 39 #[.agg #[.int .i64 m, .int .i64 x], .int .u64 t] w fun r w' => r = .returned (.int .u64 t2) ∧ Below w.heap.size w w'))
    (HC : Hid (∀ w, Calls Tryz.prog 38 #[.agg #[.int .i64 m, .int .i64 x], .int .u64 D2, .int .u64 t2] w fun r w' => r = .returned (.tuple #[.int .i64 c, .bool ok, .int .i64 g2]) ∧ Below w.heap.size w w'))
    : Calls Tryz.prog 21 #[.agg #[.int .i64 m, .int .i64 x], .int .u64 a, .int .u64 b, .int .u64 t] w fun r w' => r = .returned (.bool (ok && decide (c ≤ 0))) ∧ Below w.heap.size w w' := by
  have c0 : (w.alloc (.cells #[.int .i64 m, .int .i64 x] 31)).cell? ⟨w.heap.size, 0, none⟩ = some (.int .i64 m) := by simp
  have c1 : (w.alloc (.cells #[.int .i64 m, .int .i64 x] 31)).cell? ⟨w.heap.size, 1, none⟩ = some (.int .i64 x) := by simp
  have HB := hidden ((Below.refl w.heap.size w).alloc (Nat.le_refl _) (.cells #[.int .i64 m, .int .i64 x] 31))
  have fin : Hid (∀ w', Below w.heap.size w w' → True) := hidden fun _ _ => trivial
  cases ka
  all_goals first | (cases kb) | skip
  all_goals try (simp at hk; done)
  all_goals
    clear hk
    go_enter Tryz.func21, Tryz.ntmps21
    go_upto_region 1 with fail
    generalize w.alloc (.cells #[.int .i64 m, .int .i64 x] 31) = w5 at *
    go_upto_region 4 with (first | (go_at_call_of 22 (Value.int IntKind.u64 a); refine (H1.out _).mono ?_; rintro r w9 ⟨rfl, hb⟩; have c0 := cellLater hb c0; have c1 := cellLater hb c1; have HB := hidden (HB.out.trans (hb.mono HB.out.size)); clear hb) | (go_at_call_of 22 (Value.int IntKind.u64 b); refine (H2.out _).mono ?_; rintro r w9 ⟨rfl, hb⟩; have c0 := cellLater hb c0; have c1 := cellLater hb c1; have HB := hidden (HB.out.trans (hb.mono HB.out.size)); clear hb) | (go_at_call 37; refine (HS.out _).mono ?_; rintro r w9 ⟨rfl, hb⟩; have c0 := cellLater hb c0; have c1 := cellLater hb c1; have HB := hidden (HB.out.trans (hb.mono HB.out.size)); clear hb))
    go_region_held3 (fun w' => w'.cell? ⟨w.heap.size, 0, none⟩ = some (.int .i64 m) ∧ w'.cell? ⟨w.heap.size, 1, none⟩ = some (.int .i64 x)) (go_keep) (first | (go_at_call_of 39 (Value.int IntKind.u64 D); refine (HD.out _).mono ?_; rintro r w10 ⟨rfl, hb10⟩; have c0 : w10.cell? ⟨w.heap.size, 0, none⟩ = some (.int .i64 m) := cellLater hb10 (by go_keep); have c1 : w10.cell? ⟨w.heap.size, 1, none⟩ = some (.int .i64 x) := cellLater hb10 (by go_keep)) | (go_at_call_of 39 (Value.int IntKind.u64 t); refine (HT.out _).mono ?_; rintro r w11 ⟨rfl, hb11⟩; have c0 : w11.cell? ⟨w.heap.size, 0, none⟩ = some (.int .i64 m) := cellLater hb11 (by go_keep); have c1 : w11.cell? ⟨w.heap.size, 1, none⟩ = some (.int .i64 x) := cellLater hb11 (by go_keep)) | (go_at_call 38; refine (HC.out _).mono ?_; rintro r w12 ⟨rfl, hb12⟩; have c0 : w12.cell? ⟨w.heap.size, 0, none⟩ = some (.int .i64 m) := cellLater hb12 (by go_keep); have c1 : w12.cell? ⟨w.heap.size, 1, none⟩ = some (.int .i64 x) := cellLater hb12 (by go_keep)))
  all_goals
    have h0 := HB.out.drew
    have h1 := h0.trans (hb10.mono h0.size)
    have h2 := h1.trans (hb11.mono h1.size)
    have h3 := h2.trans (hb12.mono h2.size)
    have HF := hidden h3
    clear h0 h1 h2 h3 hb10 hb11 hb12
    cases ok
    · go_wp2
      go_ret
      exact ⟨ret_bool (by simp), HF.out⟩
    · go_wp2
      go_ret
      exact ⟨ret_bool (by simp), HF.out⟩
theorem pholds32 (m x cond a b t : Int) (near nan inf ord : Bool) (w : World) (a0 : 0 ≤ a) (a1 : a < 4294967296) (b0 : 0 ≤ b) (b1 : b < 4294967296) (t0 : 0 ≤ t) (t1 : t < 4294967296)
    (HN : Hid (∀ w, Calls Tryz.prog 21 #[.agg #[.int .i64 m, .int .i64 x], .int .u64 a, .int .u64 b, .int .u64 t] w fun r w' => r = .returned (.bool near) ∧ Below w.heap.size w w'))
    (H4 : Hid (∀ w, Calls Tryz.prog 22 #[.agg #[.int .i64 m, .int .i64 x], .int .u64 a, .int .i64 4] w fun r w' => r = .returned (.bool nan) ∧ Below w.heap.size w w'))
    (H3 : Hid (∀ w, Calls Tryz.prog 22 #[.agg #[.int .i64 m, .int .i64 x], .int .u64 a, .int .i64 3] w fun r w' => r = .returned (.bool inf) ∧ Below w.heap.size w w'))
    (HI : Hid (∀ w, Calls Tryz.prog 23 #[.agg #[.int .i64 m, .int .i64 x], .int .i64 cond, .int .u64 a, .int .u64 b] w fun r w' => r = .returned (.bool ord) ∧ Below w.heap.size w w'))
    : Calls Tryz.prog 8 #[.agg #[.int .i64 m, .int .i64 x], .int .i64 cond, .int .u32 a, .int .u32 b, .int .u32 t] w fun r w' => r = .returned (.bool (holdsB cond near nan inf ord)) ∧ Below w.heap.size w w' := by
  by_cases h1 : cond = 1
  · subst h1
    go_enter Tryz.func8, Tryz.ntmps8
    go_wp2_with (go_at_call 21; refine (HN.out _).mono ?_; rintro r w1 ⟨rfl, hb⟩)
    go_ret
    exact ⟨ret_bool (by simp [holdsB]), box_below _ hb⟩
  by_cases h2 : cond = 2
  · subst h2
    go_enter Tryz.func8, Tryz.ntmps8
    go_wp2_with (go_at_call 21; refine (HN.out _).mono ?_; rintro r w1 ⟨rfl, hb⟩)
    go_ret
    exact ⟨ret_bool (by simp [holdsB]), box_below _ hb⟩
  by_cases h7 : cond = 7
  · subst h7
    go_enter Tryz.func8, Tryz.ntmps8
    go_wp2_with (go_at_call 22; refine (H4.out _).mono ?_; rintro r w1 ⟨rfl, hb⟩)
    go_ret
    exact ⟨ret_bool (by simp [holdsB]), box_below _ hb⟩
  by_cases h8 : cond = 8
  · subst h8
    go_enter Tryz.func8, Tryz.ntmps8
    go_wp2_with (go_at_call 22; refine (H3.out _).mono ?_; rintro r w1 ⟨rfl, hb⟩)
    go_ret
    exact ⟨ret_bool (by simp [holdsB]), box_below _ hb⟩
  have HE : Hid (holdsB cond near nan inf ord = ord) := hidden (by simp [holdsB, h1, h2, h7, h8])
  replace h1 : (cond == 1) = false := by simpa using h1
  replace h2 : (cond == 2) = false := by simpa using h2
  replace h7 : (cond == 7) = false := by simpa using h7
  replace h8 : (cond == 8) = false := by simpa using h8
  go_enter Tryz.func8, Tryz.ntmps8
  go_wp2_with (go_at_call 23; refine (HI.out _).mono ?_; rintro r w1 ⟨rfl, hb⟩)
  go_ret
  exact ⟨ret_bool HE.out.symm, box_below _ hb⟩
theorem pSingleHolds (cond a b t : Int) (v : Bool) (w : World) (hl : Laid w)
    (HF : Hid (∀ w, Calls Tryz.prog 8 #[.agg #[.int .i64 23, .int .i64 8], .int .i64 cond, .int .u32 a, .int .u32 b, .int .u32 t] w fun r w' => r = .returned (.bool v) ∧ Below w.heap.size w w'))
    : Calls Tryz.prog 4 #[.int .i64 cond, .int .u32 a, .int .u32 b, .int .u32 t] w fun r w' => r = .returned (.bool v) ∧ Below w.heap.size w w' := by
  obtain ⟨l0, l1, l2, l3⟩ := hl
  go_enter Tryz.func4, Tryz.ntmps4
  go_wp2_with (go_at_call 8; refine (HF.out _).mono ?_; rintro r w1 ⟨rfl, hb⟩)
  go_ret
  exact ⟨rfl, hb⟩
theorem pholds64 (m x cond a b t : Int) (near nan inf ord : Bool) (w : World) (a0 : 0 ≤ a) (a1 : a < 18446744073709551616) (b0 : 0 ≤ b) (b1 : b < 18446744073709551616) (t0 : 0 ≤ t) (t1 : t < 18446744073709551616)
    (HN : Hid (∀ w, Calls Tryz.prog 21 #[.agg #[.int .i64 m, .int .i64 x], .int .u64 a, .int .u64 b, .int .u64 t] w fun r w' => r = .returned (.bool near) ∧ Below w.heap.size w w'))
    (H4 : Hid (∀ w, Calls Tryz.prog 22 #[.agg #[.int .i64 m, .int .i64 x], .int .u64 a, .int .i64 4] w fun r w' => r = .returned (.bool nan) ∧ Below w.heap.size w w'))
    (H3 : Hid (∀ w, Calls Tryz.prog 22 #[.agg #[.int .i64 m, .int .i64 x], .int .u64 a, .int .i64 3] w fun r w' => r = .returned (.bool inf) ∧ Below w.heap.size w w'))
    (HI : Hid (∀ w, Calls Tryz.prog 23 #[.agg #[.int .i64 m, .int .i64 x], .int .i64 cond, .int .u64 a, .int .u64 b] w fun r w' => r = .returned (.bool ord) ∧ Below w.heap.size w w'))
    : Calls Tryz.prog 14 #[.agg #[.int .i64 m, .int .i64 x], .int .i64 cond, .int .u64 a, .int .u64 b, .int .u64 t] w fun r w' => r = .returned (.bool (holdsB cond near nan inf ord)) ∧ Below w.heap.size w w' := by
  by_cases h1 : cond = 1
  · subst h1
    go_enter Tryz.func14, Tryz.ntmps14
    go_wp2_with (go_at_call 21; refine (HN.out _).mono ?_; rintro r w1 ⟨rfl, hb⟩)
    go_ret
    exact ⟨ret_bool (by simp [holdsB]), box_below _ hb⟩
  by_cases h2 : cond = 2
  · subst h2
    go_enter Tryz.func14, Tryz.ntmps14
    go_wp2_with (go_at_call 21; refine (HN.out _).mono ?_; rintro r w1 ⟨rfl, hb⟩)
    go_ret
    exact ⟨ret_bool (by simp [holdsB]), box_below _ hb⟩
  by_cases h7 : cond = 7
  · subst h7
    go_enter Tryz.func14, Tryz.ntmps14
    go_wp2_with (go_at_call 22; refine (H4.out _).mono ?_; rintro r w1 ⟨rfl, hb⟩)
    go_ret
    exact ⟨ret_bool (by simp [holdsB]), box_below _ hb⟩
  by_cases h8 : cond = 8
  · subst h8
    go_enter Tryz.func14, Tryz.ntmps14
    go_wp2_with (go_at_call 22; refine (H3.out _).mono ?_; rintro r w1 ⟨rfl, hb⟩)
    go_ret
    exact ⟨ret_bool (by simp [holdsB]), box_below _ hb⟩
  have HE : Hid (holdsB cond near nan inf ord = ord) := hidden (by simp [holdsB, h1, h2, h7, h8])
  replace h1 : (cond == 1) = false := by simpa using h1
  replace h2 : (cond == 2) = false := by simpa using h2
  replace h7 : (cond == 7) = false := by simpa using h7
  replace h8 : (cond == 8) = false := by simpa using h8
  go_enter Tryz.func14, Tryz.ntmps14
  go_wp2_with (go_at_call 23; refine (HI.out _).mono ?_; rintro r w1 ⟨rfl, hb⟩)
  go_ret
  exact ⟨ret_bool HE.out.symm, box_below _ hb⟩
theorem pDoubleHolds (cond a b t : Int) (v : Bool) (w : World) (hl : Laid w)
    (HF : Hid (∀ w, Calls Tryz.prog 14 #[.agg #[.int .i64 52, .int .i64 11], .int .i64 cond, .int .u64 a, .int .u64 b, .int .u64 t] w fun r w' => r = .returned (.bool v) ∧ Below w.heap.size w w'))
    : Calls Tryz.prog 6 #[.int .i64 cond, .int .u64 a, .int .u64 b, .int .u64 t] w fun r w' => r = .returned (.bool v) ∧ Below w.heap.size w w' := by
  obtain ⟨l0, l1, l2, l3⟩ := hl
  go_enter Tryz.func6, Tryz.ntmps6
  go_wp2_with (go_at_call 14; refine (HF.out _).mono ?_; rintro r w1 ⟨rfl, hb⟩)
  go_ret
  exact ⟨rfl, hb⟩
end Go.Proofs.YtfjpiahgnojlhaaGreatDoor
namespace Go.Proofs.YtfjpiahgnojlhaaGreatDoor
open Go.RowKit
set_option maxRecDepth 100000
set_option maxHeartbeats 400000
set_option linter.unusedVariables false

theorem reck32_1 (m x a b R Q g : Int) (w : World) (a0 : 0 ≤ a) (a1 : a < 4294967296) (b0 : 0 ≤ b) (b1 : b < 4294967296) (r0 : 0 ≤ R) (r1 : R < 4294967296)
    (H : Hid (∀ w, Calls Tryz.prog 56 #[.agg #[.int .i64 m, .int .i64 x], .int .u64 a, .int .u64 b] w fun r w' => r = .returned (.tuple #[.int .u64 R, .int .i64 g]) ∧ Below w.heap.size w w'))
    : Calls Tryz.prog 32 #[.agg #[.int .i64 m, .int .i64 x], .int .i64 1, .int .u32 a, .int .u32 b] w fun r w' => r = .returned (.tuple #[.int .u32 R, .int .i64 g]) ∧ Below w.heap.size w w' := by
  go_enter Tryz.func32, Tryz.ntmps32
  go_wp2_with (go_at_call 56; refine (H.out _).mono ?_; rintro r w1 ⟨rfl, hb⟩)
  go_ret2
  exact ⟨rfl, box_below _ hb⟩
theorem reck32_2 (m x a b R Q g : Int) (w : World) (a0 : 0 ≤ a) (a1 : a < 4294967296) (b0 : 0 ≤ b) (b1 : b < 4294967296) (r0 : 0 ≤ R) (r1 : R < 4294967296)
    (H : Hid (∀ w, Calls Tryz.prog 37 #[.agg #[.int .i64 m, .int .i64 x], .int .u64 a, .int .u64 b] w fun r w' => r = .returned (.tuple #[.int .u64 R, .int .i64 g]) ∧ Below w.heap.size w w'))
    : Calls Tryz.prog 32 #[.agg #[.int .i64 m, .int .i64 x], .int .i64 2, .int .u32 a, .int .u32 b] w fun r w' => r = .returned (.tuple #[.int .u32 R, .int .i64 g]) ∧ Below w.heap.size w w' := by
  go_enter Tryz.func32, Tryz.ntmps32
  go_wp2_with (go_at_call 37; refine (H.out _).mono ?_; rintro r w1 ⟨rfl, hb⟩)
  go_ret2
  exact ⟨rfl, box_below _ hb⟩
theorem reck32_3 (m x a b R Q g : Int) (w : World) (a0 : 0 ≤ a) (a1 : a < 4294967296) (b0 : 0 ≤ b) (b1 : b < 4294967296) (r0 : 0 ≤ R) (r1 : R < 4294967296)
    (H : Hid (∀ w, Calls Tryz.prog 57 #[.agg #[.int .i64 m, .int .i64 x], .int .u64 a, .int .u64 b] w fun r w' => r = .returned (.tuple #[.int .u64 R, .int .i64 g]) ∧ Below w.heap.size w w'))
    : Calls Tryz.prog 32 #[.agg #[.int .i64 m, .int .i64 x], .int .i64 3, .int .u32 a, .int .u32 b] w fun r w' => r = .returned (.tuple #[.int .u32 R, .int .i64 g]) ∧ Below w.heap.size w w' := by
  go_enter Tryz.func32, Tryz.ntmps32
  go_wp2_with (go_at_call 57; refine (H.out _).mono ?_; rintro r w1 ⟨rfl, hb⟩)
  go_ret2
  exact ⟨rfl, box_below _ hb⟩
theorem reck32_4 (m x a b R Q g : Int) (w : World) (a0 : 0 ≤ a) (a1 : a < 4294967296) (b0 : 0 ≤ b) (b1 : b < 4294967296) (r0 : 0 ≤ R) (r1 : R < 4294967296)
    (H : Hid (∀ w, Calls Tryz.prog 58 #[.agg #[.int .i64 m, .int .i64 x], .int .u64 a, .int .u64 b] w fun r w' => r = .returned (.tuple #[.int .u64 R, .int .i64 g]) ∧ Below w.heap.size w w'))
    : Calls Tryz.prog 32 #[.agg #[.int .i64 m, .int .i64 x], .int .i64 4, .int .u32 a, .int .u32 b] w fun r w' => r = .returned (.tuple #[.int .u32 R, .int .i64 g]) ∧ Below w.heap.size w w' := by
  go_enter Tryz.func32, Tryz.ntmps32
  go_wp2_with (go_at_call 58; refine (H.out _).mono ?_; rintro r w1 ⟨rfl, hb⟩)
  go_ret2
  exact ⟨rfl, box_below _ hb⟩
theorem reck32_5 (m x a b R Q g : Int) (w : World) (a0 : 0 ≤ a) (a1 : a < 4294967296) (b0 : 0 ≤ b) (b1 : b < 4294967296) (r0 : 0 ≤ R) (r1 : R < 4294967296)
    (H : Hid (∀ w, Calls Tryz.prog 59 #[.agg #[.int .i64 m, .int .i64 x], .int .u64 a, .int .u64 b] w fun r w' => r = .returned (.tuple #[.int .u64 R, .int .u64 Q, .int .i64 g]) ∧ Below w.heap.size w w'))
    : Calls Tryz.prog 32 #[.agg #[.int .i64 m, .int .i64 x], .int .i64 5, .int .u32 a, .int .u32 b] w fun r w' => r = .returned (.tuple #[.int .u32 R, .int .i64 g]) ∧ Below w.heap.size w w' := by
  go_enter Tryz.func32, Tryz.ntmps32
  go_wp2_with (go_at_call 59; refine (H.out _).mono ?_; rintro r w1 ⟨rfl, hb⟩)
  go_ret2
  exact ⟨rfl, box_below _ hb⟩
theorem reck32_6 (m x a b R Q g : Int) (w : World) (a0 : 0 ≤ a) (a1 : a < 4294967296) (b0 : 0 ≤ b) (b1 : b < 4294967296) (r0 : 0 ≤ R) (r1 : R < 4294967296)
    (H : Hid (∀ w, Calls Tryz.prog 59 #[.agg #[.int .i64 m, .int .i64 x], .int .u64 a, .int .u64 b] w fun r w' => r = .returned (.tuple #[.int .u64 Q, .int .u64 R, .int .i64 g]) ∧ Below w.heap.size w w'))
    : Calls Tryz.prog 32 #[.agg #[.int .i64 m, .int .i64 x], .int .i64 6, .int .u32 a, .int .u32 b] w fun r w' => r = .returned (.tuple #[.int .u32 R, .int .i64 g]) ∧ Below w.heap.size w w' := by
  go_enter Tryz.func32, Tryz.ntmps32
  go_wp2_with (go_at_call 59; refine (H.out _).mono ?_; rintro r w1 ⟨rfl, hb⟩)
  go_ret2
  exact ⟨rfl, box_below _ hb⟩
theorem reck32_7 (m x a b R Q g : Int) (w : World) (a0 : 0 ≤ a) (a1 : a < 4294967296) (b0 : 0 ≤ b) (b1 : b < 4294967296) (r0 : 0 ≤ R) (r1 : R < 4294967296)
    (H : Hid (∀ w, Calls Tryz.prog 60 #[.agg #[.int .i64 m, .int .i64 x], .int .u64 a] w fun r w' => r = .returned (.tuple #[.int .u64 R, .int .i64 g]) ∧ Below w.heap.size w w'))
    : Calls Tryz.prog 32 #[.agg #[.int .i64 m, .int .i64 x], .int .i64 7, .int .u32 a, .int .u32 b] w fun r w' => r = .returned (.tuple #[.int .u32 R, .int .i64 g]) ∧ Below w.heap.size w w' := by
  go_enter Tryz.func32, Tryz.ntmps32
  go_wp2_with (go_at_call 60; refine (H.out _).mono ?_; rintro r w1 ⟨rfl, hb⟩)
  go_ret2
  exact ⟨rfl, box_below _ hb⟩
theorem reck32_8 (m x a b R Q g : Int) (w : World) (a0 : 0 ≤ a) (a1 : a < 4294967296) (b0 : 0 ≤ b) (b1 : b < 4294967296) (r0 : 0 ≤ R) (r1 : R < 4294967296)
    (H : Hid (∀ w, Calls Tryz.prog 61 #[.agg #[.int .i64 m, .int .i64 x], .int .u64 a] w fun r w' => r = .returned (.tuple #[.int .u64 R, .int .i64 g]) ∧ Below w.heap.size w w'))
    : Calls Tryz.prog 32 #[.agg #[.int .i64 m, .int .i64 x], .int .i64 8, .int .u32 a, .int .u32 b] w fun r w' => r = .returned (.tuple #[.int .u32 R, .int .i64 g]) ∧ Below w.heap.size w w' := by
  go_enter Tryz.func32, Tryz.ntmps32
  go_wp2_with (go_at_call 61; refine (H.out _).mono ?_; rintro r w1 ⟨rfl, hb⟩)
  go_ret2
  exact ⟨rfl, box_below _ hb⟩
theorem reck32_9 (m x a b R Q g : Int) (w : World) (a0 : 0 ≤ a) (a1 : a < 4294967296) (b0 : 0 ≤ b) (b1 : b < 4294967296) (r0 : 0 ≤ R) (r1 : R < 4294967296)
    (H : Hid (∀ w, Calls Tryz.prog 62 #[.agg #[.int .i64 m, .int .i64 x], .int .u64 a] w fun r w' => r = .returned (.tuple #[.int .u64 R, .int .i64 g]) ∧ Below w.heap.size w w'))
    : Calls Tryz.prog 32 #[.agg #[.int .i64 m, .int .i64 x], .int .i64 9, .int .u32 a, .int .u32 b] w fun r w' => r = .returned (.tuple #[.int .u32 R, .int .i64 g]) ∧ Below w.heap.size w w' := by
  go_enter Tryz.func32, Tryz.ntmps32
  go_wp2_with (go_at_call 62; refine (H.out _).mono ?_; rintro r w1 ⟨rfl, hb⟩)
  go_ret2
  exact ⟨rfl, box_below _ hb⟩
theorem reck32_no (m x op a b : Int) (w : World) (a0 : 0 ≤ a) (a1 : a < 4294967296) (b0 : 0 ≤ b) (b1 : b < 4294967296) (h : op < 1 ∨ 9 < op)
    : Calls Tryz.prog 32 #[.agg #[.int .i64 m, .int .i64 x], .int .i64 op, .int .u32 a, .int .u32 b] w fun r w' => r = .returned (.tuple #[.int .u32 0, .int .i64 1]) ∧ Below w.heap.size w w' := by
  have h1 : (op == 1) = false := by simp; omega
  have h2 : (op == 2) = false := by simp; omega
  have h3 : (op == 3) = false := by simp; omega
  have h4 : (op == 4) = false := by simp; omega
  have h5 : (op == 5) = false := by simp; omega
  have h6 : (op == 6) = false := by simp; omega
  have h7 : (op == 7) = false := by simp; omega
  have h8 : (op == 8) = false := by simp; omega
  have h9 : (op == 9) = false := by simp; omega
  clear h
  go_enter Tryz.func32, Tryz.ntmps32
  go_wp2
  go_ret2
  exact ⟨rfl, (Below.refl _ _).alloc (Nat.le_refl _) _⟩
theorem pSingle (op a b R g : Int) (w : World) (hl : Laid w)
    (HF : Hid (∀ w, Calls Tryz.prog 32 #[.agg #[.int .i64 23, .int .i64 8], .int .i64 op, .int .u32 a, .int .u32 b] w fun r w' => r = .returned (.tuple #[.int .u32 R, .int .i64 g]) ∧ Below w.heap.size w w'))
    : Calls Tryz.prog 15 #[.int .i64 op, .int .u32 a, .int .u32 b] w fun r w' => r = .returned (.tuple #[.int .u32 R, .int .i64 g]) ∧ Below w.heap.size w w' := by
  obtain ⟨l0, l1, l2, l3⟩ := hl
  go_enter Tryz.func15, Tryz.ntmps15
  go_wp2_with (go_at_call 32; refine (HF.out _).mono ?_; rintro r w1 ⟨rfl, hb⟩)
  go_ret2
  exact ⟨rfl, hb⟩
theorem reck64_1 (m x a b R Q g : Int) (w : World) (a0 : 0 ≤ a) (a1 : a < 18446744073709551616) (b0 : 0 ≤ b) (b1 : b < 18446744073709551616) (r0 : 0 ≤ R) (r1 : R < 18446744073709551616)
    (H : Hid (∀ w, Calls Tryz.prog 56 #[.agg #[.int .i64 m, .int .i64 x], .int .u64 a, .int .u64 b] w fun r w' => r = .returned (.tuple #[.int .u64 R, .int .i64 g]) ∧ Below w.heap.size w w'))
    : Calls Tryz.prog 33 #[.agg #[.int .i64 m, .int .i64 x], .int .i64 1, .int .u64 a, .int .u64 b] w fun r w' => r = .returned (.tuple #[.int .u64 R, .int .i64 g]) ∧ Below w.heap.size w w' := by
  go_enter Tryz.func33, Tryz.ntmps33
  go_wp2_with (go_at_call 56; refine (H.out _).mono ?_; rintro r w1 ⟨rfl, hb⟩)
  go_ret2
  exact ⟨rfl, box_below _ hb⟩
theorem reck64_2 (m x a b R Q g : Int) (w : World) (a0 : 0 ≤ a) (a1 : a < 18446744073709551616) (b0 : 0 ≤ b) (b1 : b < 18446744073709551616) (r0 : 0 ≤ R) (r1 : R < 18446744073709551616)
    (H : Hid (∀ w, Calls Tryz.prog 37 #[.agg #[.int .i64 m, .int .i64 x], .int .u64 a, .int .u64 b] w fun r w' => r = .returned (.tuple #[.int .u64 R, .int .i64 g]) ∧ Below w.heap.size w w'))
    : Calls Tryz.prog 33 #[.agg #[.int .i64 m, .int .i64 x], .int .i64 2, .int .u64 a, .int .u64 b] w fun r w' => r = .returned (.tuple #[.int .u64 R, .int .i64 g]) ∧ Below w.heap.size w w' := by
  go_enter Tryz.func33, Tryz.ntmps33
  go_wp2_with (go_at_call 37; refine (H.out _).mono ?_; rintro r w1 ⟨rfl, hb⟩)
  go_ret2
  exact ⟨rfl, box_below _ hb⟩
theorem reck64_3 (m x a b R Q g : Int) (w : World) (a0 : 0 ≤ a) (a1 : a < 18446744073709551616) (b0 : 0 ≤ b) (b1 : b < 18446744073709551616) (r0 : 0 ≤ R) (r1 : R < 18446744073709551616)
    (H : Hid (∀ w, Calls Tryz.prog 57 #[.agg #[.int .i64 m, .int .i64 x], .int .u64 a, .int .u64 b] w fun r w' => r = .returned (.tuple #[.int .u64 R, .int .i64 g]) ∧ Below w.heap.size w w'))
    : Calls Tryz.prog 33 #[.agg #[.int .i64 m, .int .i64 x], .int .i64 3, .int .u64 a, .int .u64 b] w fun r w' => r = .returned (.tuple #[.int .u64 R, .int .i64 g]) ∧ Below w.heap.size w w' := by
  go_enter Tryz.func33, Tryz.ntmps33
  go_wp2_with (go_at_call 57; refine (H.out _).mono ?_; rintro r w1 ⟨rfl, hb⟩)
  go_ret2
  exact ⟨rfl, box_below _ hb⟩
theorem reck64_4 (m x a b R Q g : Int) (w : World) (a0 : 0 ≤ a) (a1 : a < 18446744073709551616) (b0 : 0 ≤ b) (b1 : b < 18446744073709551616) (r0 : 0 ≤ R) (r1 : R < 18446744073709551616)
    (H : Hid (∀ w, Calls Tryz.prog 58 #[.agg #[.int .i64 m, .int .i64 x], .int .u64 a, .int .u64 b] w fun r w' => r = .returned (.tuple #[.int .u64 R, .int .i64 g]) ∧ Below w.heap.size w w'))
    : Calls Tryz.prog 33 #[.agg #[.int .i64 m, .int .i64 x], .int .i64 4, .int .u64 a, .int .u64 b] w fun r w' => r = .returned (.tuple #[.int .u64 R, .int .i64 g]) ∧ Below w.heap.size w w' := by
  go_enter Tryz.func33, Tryz.ntmps33
  go_wp2_with (go_at_call 58; refine (H.out _).mono ?_; rintro r w1 ⟨rfl, hb⟩)
  go_ret2
  exact ⟨rfl, box_below _ hb⟩
theorem reck64_5 (m x a b R Q g : Int) (w : World) (a0 : 0 ≤ a) (a1 : a < 18446744073709551616) (b0 : 0 ≤ b) (b1 : b < 18446744073709551616) (r0 : 0 ≤ R) (r1 : R < 18446744073709551616)
    (H : Hid (∀ w, Calls Tryz.prog 59 #[.agg #[.int .i64 m, .int .i64 x], .int .u64 a, .int .u64 b] w fun r w' => r = .returned (.tuple #[.int .u64 R, .int .u64 Q, .int .i64 g]) ∧ Below w.heap.size w w'))
    : Calls Tryz.prog 33 #[.agg #[.int .i64 m, .int .i64 x], .int .i64 5, .int .u64 a, .int .u64 b] w fun r w' => r = .returned (.tuple #[.int .u64 R, .int .i64 g]) ∧ Below w.heap.size w w' := by
  go_enter Tryz.func33, Tryz.ntmps33
  go_wp2_with (go_at_call 59; refine (H.out _).mono ?_; rintro r w1 ⟨rfl, hb⟩)
  go_ret2
  exact ⟨rfl, box_below _ hb⟩
theorem reck64_6 (m x a b R Q g : Int) (w : World) (a0 : 0 ≤ a) (a1 : a < 18446744073709551616) (b0 : 0 ≤ b) (b1 : b < 18446744073709551616) (r0 : 0 ≤ R) (r1 : R < 18446744073709551616)
    (H : Hid (∀ w, Calls Tryz.prog 59 #[.agg #[.int .i64 m, .int .i64 x], .int .u64 a, .int .u64 b] w fun r w' => r = .returned (.tuple #[.int .u64 Q, .int .u64 R, .int .i64 g]) ∧ Below w.heap.size w w'))
    : Calls Tryz.prog 33 #[.agg #[.int .i64 m, .int .i64 x], .int .i64 6, .int .u64 a, .int .u64 b] w fun r w' => r = .returned (.tuple #[.int .u64 R, .int .i64 g]) ∧ Below w.heap.size w w' := by
  go_enter Tryz.func33, Tryz.ntmps33
  go_wp2_with (go_at_call 59; refine (H.out _).mono ?_; rintro r w1 ⟨rfl, hb⟩)
  go_ret2
  exact ⟨rfl, box_below _ hb⟩
theorem reck64_7 (m x a b R Q g : Int) (w : World) (a0 : 0 ≤ a) (a1 : a < 18446744073709551616) (b0 : 0 ≤ b) (b1 : b < 18446744073709551616) (r0 : 0 ≤ R) (r1 : R < 18446744073709551616)
    (H : Hid (∀ w, Calls Tryz.prog 60 #[.agg #[.int .i64 m, .int .i64 x], .int .u64 a] w fun r w' => r = .returned (.tuple #[.int .u64 R, .int .i64 g]) ∧ Below w.heap.size w w'))
    : Calls Tryz.prog 33 #[.agg #[.int .i64 m, .int .i64 x], .int .i64 7, .int .u64 a, .int .u64 b] w fun r w' => r = .returned (.tuple #[.int .u64 R, .int .i64 g]) ∧ Below w.heap.size w w' := by
  go_enter Tryz.func33, Tryz.ntmps33
  go_wp2_with (go_at_call 60; refine (H.out _).mono ?_; rintro r w1 ⟨rfl, hb⟩)
  go_ret2
  exact ⟨rfl, box_below _ hb⟩
theorem reck64_8 (m x a b R Q g : Int) (w : World) (a0 : 0 ≤ a) (a1 : a < 18446744073709551616) (b0 : 0 ≤ b) (b1 : b < 18446744073709551616) (r0 : 0 ≤ R) (r1 : R < 18446744073709551616)
    (H : Hid (∀ w, Calls Tryz.prog 61 #[.agg #[.int .i64 m, .int .i64 x], .int .u64 a] w fun r w' => r = .returned (.tuple #[.int .u64 R, .int .i64 g]) ∧ Below w.heap.size w w'))
    : Calls Tryz.prog 33 #[.agg #[.int .i64 m, .int .i64 x], .int .i64 8, .int .u64 a, .int .u64 b] w fun r w' => r = .returned (.tuple #[.int .u64 R, .int .i64 g]) ∧ Below w.heap.size w w' := by
  go_enter Tryz.func33, Tryz.ntmps33
  go_wp2_with (go_at_call 61; refine (H.out _).mono ?_; rintro r w1 ⟨rfl, hb⟩)
  go_ret2
  exact ⟨rfl, box_below _ hb⟩
theorem reck64_9 (m x a b R Q g : Int) (w : World) (a0 : 0 ≤ a) (a1 : a < 18446744073709551616) (b0 : 0 ≤ b) (b1 : b < 18446744073709551616) (r0 : 0 ≤ R) (r1 : R < 18446744073709551616)
    (H : Hid (∀ w, Calls Tryz.prog 62 #[.agg #[.int .i64 m, .int .i64 x], .int .u64 a] w fun r w' => r = .returned (.tuple #[.int .u64 R, .int .i64 g]) ∧ Below w.heap.size w w'))
    : Calls Tryz.prog 33 #[.agg #[.int .i64 m, .int .i64 x], .int .i64 9, .int .u64 a, .int .u64 b] w fun r w' => r = .returned (.tuple #[.int .u64 R, .int .i64 g]) ∧ Below w.heap.size w w' := by
  go_enter Tryz.func33, Tryz.ntmps33
  go_wp2_with (go_at_call 62; refine (H.out _).mono ?_; rintro r w1 ⟨rfl, hb⟩)
  go_ret2
  exact ⟨rfl, box_below _ hb⟩
theorem reck64_no (m x op a b : Int) (w : World) (a0 : 0 ≤ a) (a1 : a < 18446744073709551616) (b0 : 0 ≤ b) (b1 : b < 18446744073709551616) (h : op < 1 ∨ 9 < op)
    : Calls Tryz.prog 33 #[.agg #[.int .i64 m, .int .i64 x], .int .i64 op, .int .u64 a, .int .u64 b] w fun r w' => r = .returned (.tuple #[.int .u64 0, .int .i64 1]) ∧ Below w.heap.size w w' := by
  have h1 : (op == 1) = false := by simp; omega
  have h2 : (op == 2) = false := by simp; omega
  have h3 : (op == 3) = false := by simp; omega
  have h4 : (op == 4) = false := by simp; omega
  have h5 : (op == 5) = false := by simp; omega
  have h6 : (op == 6) = false := by simp; omega
  have h7 : (op == 7) = false := by simp; omega
  have h8 : (op == 8) = false := by simp; omega
  have h9 : (op == 9) = false := by simp; omega
  clear h
  go_enter Tryz.func33, Tryz.ntmps33
  go_wp2
  go_ret2
  exact ⟨rfl, (Below.refl _ _).alloc (Nat.le_refl _) _⟩
theorem pDouble (op a b R g : Int) (w : World) (hl : Laid w)
    (HF : Hid (∀ w, Calls Tryz.prog 33 #[.agg #[.int .i64 52, .int .i64 11], .int .i64 op, .int .u64 a, .int .u64 b] w fun r w' => r = .returned (.tuple #[.int .u64 R, .int .i64 g]) ∧ Below w.heap.size w w'))
    : Calls Tryz.prog 16 #[.int .i64 op, .int .u64 a, .int .u64 b] w fun r w' => r = .returned (.tuple #[.int .u64 R, .int .i64 g]) ∧ Below w.heap.size w w' := by
  obtain ⟨l0, l1, l2, l3⟩ := hl
  go_enter Tryz.func16, Tryz.ntmps16
  go_wp2_with (go_at_call 33; refine (HF.out _).mono ?_; rintro r w1 ⟨rfl, hb⟩)
  go_ret2
  exact ⟨rfl, hb⟩
end Go.Proofs.YtfjpiahgnojlhaaGreatDoor
namespace Go.Proofs.YtfjpiahgnojlhaaGreatDoor
open Go.RowKit
set_option maxRecDepth 100000
set_option maxHeartbeats 400000
set_option linter.unusedVariables false

theorem open_box2 (m x m2 x2 K E M : Int) (n : Bool) (w w1 : World) (hb : Below ((w.alloc (.cells #[.int .i64 m, .int .i64 x] 31)).alloc (.cells #[.int .i64 m2, .int .i64 x2] 31)).heap.size ((w.alloc (.cells #[.int .i64 m, .int .i64 x] 31)).alloc (.cells #[.int .i64 m2, .int .i64 x2] 31)) w1) :
    ∃ w5, w5 = w1.alloc (prt K n E M) ∧ Below w.heap.size w w5 ∧ w5.cell? ⟨w.heap.size + 1, 0, none⟩ = some (.int .i64 m2) ∧ w5.cell? ⟨w.heap.size + 1, 1, none⟩ = some (.int .i64 x2) ∧
      w5.cell? ⟨w1.heap.size, 0, none⟩ = some (.int .i64 K) ∧ w5.cell? ⟨w1.heap.size, 1, none⟩ = some (.bool n) ∧ w5.cell? ⟨w1.heap.size, 2, none⟩ = some (.int .i64 E) ∧ w5.cell? ⟨w1.heap.size, 3, none⟩ = some (.int .u64 M) := by
  have hW : Below w.heap.size w ((w.alloc (.cells #[.int .i64 m, .int .i64 x] 31)).alloc (.cells #[.int .i64 m2, .int .i64 x2] 31)) := ((Below.refl _ _).alloc (Nat.le_refl _) _).alloc (by simp) _
  have hB := hW.trans (hb.mono hW.size)
  have d0 : w1.cell? ⟨w.heap.size + 1, 0, none⟩ = some (.int .i64 m2) := cellLater hb (by simp)
  have d1 : w1.cell? ⟨w.heap.size + 1, 1, none⟩ = some (.int .i64 x2) := cellLater hb (by simp)
  have hZ : Below w1.heap.size w1 (w1.alloc (prt K n E M)) := (Below.refl _ _).alloc (Nat.le_refl _) _
  obtain ⟨p0, p1, p2, p3, -⟩ := ps_fresh w1 K E M n
  exact ⟨_, rfl, hB.trans (hZ.mono hB.size), cellLater hZ d0, cellLater hZ d1, p0, p1, p2, p3⟩
theorem pconv_err (m x m2 x2 a : Int) (w : World)
    (HO : Hid (∀ w, Calls Tryz.prog 40 #[.agg #[.int .i64 m, .int .i64 x], .int .u64 a] w fun r w' => r = .returned (.tuple #[partsV 0 false 0 0, .int .i64 1]) ∧ Below w.heap.size w w')) :
    Calls Tryz.prog 65 #[.agg #[.int .i64 m, .int .i64 x], .agg #[.int .i64 m2, .int .i64 x2], .int .u64 a] w fun r w' => r = .returned (.tuple #[.int .u64 0, .int .i64 1]) ∧ Below w.heap.size w w' := by
  go_enter Tryz.func65, Tryz.ntmps65
  go_wp2_with fail
  refine (HO.out _).mono ?_
  rintro r w1 ⟨rfl, hb1⟩
  have hW : Below w.heap.size w ((w.alloc (.cells #[.int .i64 m, .int .i64 x] 31)).alloc (.cells #[.int .i64 m2, .int .i64 x2] 31)) := ((Below.refl _ _).alloc (Nat.le_refl _) _).alloc (by simp) _
  have HB1 := hidden (hW.trans (hb1.mono hW.size))
  clear hb1 hW
  go_wp2
  go_ret2
  exact ⟨rfl, HB1.out.alloc HB1.out.size _⟩
theorem pconv_no (m x m2 x2 a K E M : Int) (n : Bool) (w : World)
    (HO : Hid (∀ w, Calls Tryz.prog 40 #[.agg #[.int .i64 m, .int .i64 x], .int .u64 a] w fun r w' => r = .returned (.tuple #[partsV K n E M, .int .i64 0]) ∧ Below w.heap.size w w'))
    (HC : Hid (∀ w, Calls Tryz.prog 72 #[.agg #[.int .i64 m2, .int .i64 x2]] w fun r w' => r = .returned (.int .i64 1) ∧ Below w.heap.size w w'))
    : Calls Tryz.prog 65 #[.agg #[.int .i64 m, .int .i64 x], .agg #[.int .i64 m2, .int .i64 x2], .int .u64 a] w fun r w' => r = .returned (.tuple #[.int .u64 0, .int .i64 1]) ∧ Below w.heap.size w w' := by
  go_enter Tryz.func65, Tryz.ntmps65
  go_wp2_with fail
  refine (HO.out _).mono ?_
  rintro r w1 ⟨rfl, hb1⟩
  obtain ⟨w5, hw5, hx, c0, c1, p0, p1, p2', p3⟩ := open_box2 m x m2 x2 K E M n w w1 hb1
  have HB := hidden hx
  clear hx hb1
  go_upto_region 2 with fail
  change Code.wp _ _ _ _ (w1.alloc (prt K n E M))
  rw [← hw5]
  clear hw5
  go_wp2_with (first | (go_at_call 72; refine (HC.out _).mono ?_; rintro r w9 ⟨rfl, hb⟩; have zz := six_on hb ⟨c0, c1, p0, p1, p2', p3⟩; clear c0 c1 p0 p1 p2' p3; obtain ⟨c0, c1, p0, p1, p2', p3⟩ := zz; have HB := hidden (HB.out.trans (hb.mono HB.out.size)); clear hb))
  go_ret2
  exact ⟨rfl, HB.out⟩
theorem pconv_nan (m x m2 x2 a K E M R : Int) (n : Bool) (w : World)
    (HO : Hid (∀ w, Calls Tryz.prog 40 #[.agg #[.int .i64 m, .int .i64 x], .int .u64 a] w fun r w' => r = .returned (.tuple #[partsV K n E M, .int .i64 0]) ∧ Below w.heap.size w w'))
    (HC : Hid (∀ w, Calls Tryz.prog 72 #[.agg #[.int .i64 m2, .int .i64 x2]] w fun r w' => r = .returned (.int .i64 0) ∧ Below w.heap.size w w'))
    (HN : Hid (∀ w, Calls Tryz.prog 83 #[.agg #[.int .i64 m2, .int .i64 x2]] w fun r w' => r = .returned (.int .u64 R) ∧ Below w.heap.size w w'))
    (k4 : (K == 4) = true)
    : Calls Tryz.prog 65 #[.agg #[.int .i64 m, .int .i64 x], .agg #[.int .i64 m2, .int .i64 x2], .int .u64 a] w fun r w' => r = .returned (.tuple #[.int .u64 R, .int .i64 0]) ∧ Below w.heap.size w w' := by
  go_enter Tryz.func65, Tryz.ntmps65
  go_wp2_with fail
  refine (HO.out _).mono ?_
  rintro r w1 ⟨rfl, hb1⟩
  obtain ⟨w5, hw5, hx, c0, c1, p0, p1, p2', p3⟩ := open_box2 m x m2 x2 K E M n w w1 hb1
  have HB := hidden hx
  clear hx hb1
  go_upto_region 2 with fail
  change Code.wp _ _ _ _ (w1.alloc (prt K n E M))
  rw [← hw5]
  clear hw5
  go_wp2_with (first | (go_at_call 72; refine (HC.out _).mono ?_; rintro r w9 ⟨rfl, hb⟩; have zz := six_on hb ⟨c0, c1, p0, p1, p2', p3⟩; clear c0 c1 p0 p1 p2' p3; obtain ⟨c0, c1, p0, p1, p2', p3⟩ := zz; have HB := hidden (HB.out.trans (hb.mono HB.out.size)); clear hb) | (go_at_call 83; refine (HN.out _).mono ?_; rintro r w9 ⟨rfl, hb⟩; have zz := six_on hb ⟨c0, c1, p0, p1, p2', p3⟩; clear c0 c1 p0 p1 p2' p3; obtain ⟨c0, c1, p0, p1, p2', p3⟩ := zz; have HB := hidden (HB.out.trans (hb.mono HB.out.size)); clear hb))
  go_ret2
  exact ⟨rfl, HB.out⟩
theorem pconv_inf (m x m2 x2 a K E M R : Int) (n : Bool) (w : World)
    (HO : Hid (∀ w, Calls Tryz.prog 40 #[.agg #[.int .i64 m, .int .i64 x], .int .u64 a] w fun r w' => r = .returned (.tuple #[partsV K n E M, .int .i64 0]) ∧ Below w.heap.size w w'))
    (HC : Hid (∀ w, Calls Tryz.prog 72 #[.agg #[.int .i64 m2, .int .i64 x2]] w fun r w' => r = .returned (.int .i64 0) ∧ Below w.heap.size w w'))
    (HI : Hid (∀ w, Calls Tryz.prog 86 #[.agg #[.int .i64 m2, .int .i64 x2], .bool n] w fun r w' => r = .returned (.int .u64 R) ∧ Below w.heap.size w w'))
    (k4 : (K == 4) = false)
    (k3 : (K == 3) = true)
    : Calls Tryz.prog 65 #[.agg #[.int .i64 m, .int .i64 x], .agg #[.int .i64 m2, .int .i64 x2], .int .u64 a] w fun r w' => r = .returned (.tuple #[.int .u64 R, .int .i64 0]) ∧ Below w.heap.size w w' := by
  go_enter Tryz.func65, Tryz.ntmps65
  go_wp2_with fail
  refine (HO.out _).mono ?_
  rintro r w1 ⟨rfl, hb1⟩
  obtain ⟨w5, hw5, hx, c0, c1, p0, p1, p2', p3⟩ := open_box2 m x m2 x2 K E M n w w1 hb1
  have HB := hidden hx
  clear hx hb1
  go_upto_region 2 with fail
  change Code.wp _ _ _ _ (w1.alloc (prt K n E M))
  rw [← hw5]
  clear hw5
  go_wp2_with (first | (go_at_call 72; refine (HC.out _).mono ?_; rintro r w9 ⟨rfl, hb⟩; have zz := six_on hb ⟨c0, c1, p0, p1, p2', p3⟩; clear c0 c1 p0 p1 p2' p3; obtain ⟨c0, c1, p0, p1, p2', p3⟩ := zz; have HB := hidden (HB.out.trans (hb.mono HB.out.size)); clear hb) | (go_at_call 86; refine (HI.out _).mono ?_; rintro r w9 ⟨rfl, hb⟩; have zz := six_on hb ⟨c0, c1, p0, p1, p2', p3⟩; clear c0 c1 p0 p1 p2' p3; obtain ⟨c0, c1, p0, p1, p2', p3⟩ := zz; have HB := hidden (HB.out.trans (hb.mono HB.out.size)); clear hb))
  go_ret2
  exact ⟨rfl, HB.out⟩
theorem pconv_zero (m x m2 x2 a K E M R : Int) (n : Bool) (w : World)
    (HO : Hid (∀ w, Calls Tryz.prog 40 #[.agg #[.int .i64 m, .int .i64 x], .int .u64 a] w fun r w' => r = .returned (.tuple #[partsV K n E M, .int .i64 0]) ∧ Below w.heap.size w w'))
    (HC : Hid (∀ w, Calls Tryz.prog 72 #[.agg #[.int .i64 m2, .int .i64 x2]] w fun r w' => r = .returned (.int .i64 0) ∧ Below w.heap.size w w'))
    (HZ : Hid (∀ w, Calls Tryz.prog 71 #[.agg #[.int .i64 m2, .int .i64 x2], .bool n] w fun r w' => r = .returned (.int .u64 R) ∧ Below w.heap.size w w'))
    (k4 : (K == 4) = false)
    (k3 : (K == 3) = false)
    (k1 : (K == 1) = true)
    : Calls Tryz.prog 65 #[.agg #[.int .i64 m, .int .i64 x], .agg #[.int .i64 m2, .int .i64 x2], .int .u64 a] w fun r w' => r = .returned (.tuple #[.int .u64 R, .int .i64 0]) ∧ Below w.heap.size w w' := by
  go_enter Tryz.func65, Tryz.ntmps65
  go_wp2_with fail
  refine (HO.out _).mono ?_
  rintro r w1 ⟨rfl, hb1⟩
  obtain ⟨w5, hw5, hx, c0, c1, p0, p1, p2', p3⟩ := open_box2 m x m2 x2 K E M n w w1 hb1
  have HB := hidden hx
  clear hx hb1
  go_upto_region 2 with fail
  change Code.wp _ _ _ _ (w1.alloc (prt K n E M))
  rw [← hw5]
  clear hw5
  go_wp2_with (first | (go_at_call 72; refine (HC.out _).mono ?_; rintro r w9 ⟨rfl, hb⟩; have zz := six_on hb ⟨c0, c1, p0, p1, p2', p3⟩; clear c0 c1 p0 p1 p2' p3; obtain ⟨c0, c1, p0, p1, p2', p3⟩ := zz; have HB := hidden (HB.out.trans (hb.mono HB.out.size)); clear hb) | (go_at_call 71; refine (HZ.out _).mono ?_; rintro r w9 ⟨rfl, hb⟩; have zz := six_on hb ⟨c0, c1, p0, p1, p2', p3⟩; clear c0 c1 p0 p1 p2' p3; obtain ⟨c0, c1, p0, p1, p2', p3⟩ := zz; have HB := hidden (HB.out.trans (hb.mono HB.out.size)); clear hb))
  go_ret2
  exact ⟨rfl, HB.out⟩
theorem pconv_fin (m x m2 x2 a K E M R : Int) (n : Bool) (w : World)
    (HO : Hid (∀ w, Calls Tryz.prog 40 #[.agg #[.int .i64 m, .int .i64 x], .int .u64 a] w fun r w' => r = .returned (.tuple #[partsV K n E M, .int .i64 0]) ∧ Below w.heap.size w w'))
    (HC : Hid (∀ w, Calls Tryz.prog 72 #[.agg #[.int .i64 m2, .int .i64 x2]] w fun r w' => r = .returned (.int .i64 0) ∧ Below w.heap.size w w'))
    (HP : Hid (∀ w, Calls Tryz.prog 63 #[.agg #[.int .i64 m2, .int .i64 x2], .bool n, .int .u64 0, .int .u64 M, .int .i64 E, .bool false] w fun r w' => r = .returned (.tuple #[.int .u64 R, .int .i64 0]) ∧ Below w.heap.size w w'))
    (k4 : (K == 4) = false)
    (k3 : (K == 3) = false)
    (k1 : (K == 1) = false)
    : Calls Tryz.prog 65 #[.agg #[.int .i64 m, .int .i64 x], .agg #[.int .i64 m2, .int .i64 x2], .int .u64 a] w fun r w' => r = .returned (.tuple #[.int .u64 R, .int .i64 0]) ∧ Below w.heap.size w w' := by
  go_enter Tryz.func65, Tryz.ntmps65
  go_wp2_with fail
  refine (HO.out _).mono ?_
  rintro r w1 ⟨rfl, hb1⟩
  obtain ⟨w5, hw5, hx, c0, c1, p0, p1, p2', p3⟩ := open_box2 m x m2 x2 K E M n w w1 hb1
  have HB := hidden hx
  clear hx hb1
  go_upto_region 2 with fail
  change Code.wp _ _ _ _ (w1.alloc (prt K n E M))
  rw [← hw5]
  clear hw5
  go_wp2_with (first | (go_at_call 72; refine (HC.out _).mono ?_; rintro r w9 ⟨rfl, hb⟩; have zz := six_on hb ⟨c0, c1, p0, p1, p2', p3⟩; clear c0 c1 p0 p1 p2' p3; obtain ⟨c0, c1, p0, p1, p2', p3⟩ := zz; have HB := hidden (HB.out.trans (hb.mono HB.out.size)); clear hb) | (go_at_call 63; refine (HP.out _).mono ?_; rintro r w9 ⟨rfl, hb⟩; have zz := six_on hb ⟨c0, c1, p0, p1, p2', p3⟩; clear c0 c1 p0 p1 p2' p3; obtain ⟨c0, c1, p0, p1, p2', p3⟩ := zz; have HB := hidden (HB.out.trans (hb.mono HB.out.size)); clear hb))
  go_ret2
  exact ⟨rfl, HB.out⟩
end Go.Proofs.YtfjpiahgnojlhaaGreatDoor
namespace Go.Proofs.YtfjpiahgnojlhaaGreatDoor
open Go.RowKit
set_option maxHeartbeats 400000
set_option linter.unusedVariables false

/-- what is known of a pattern by its kind -/
structure PatK (m x : Nat) (a K : Int) (n : Bool) (E M : Int) : Prop where
  kind : K = 1 ∨ K = 2 ∨ K = 3 ∨ K = 4
  zero : K = 1 → E = 0 ∧ M = 0 ∧ a = sgnW n (m + x)
  fin : K = 2 → FinP m x E M ∧ packP m x M E false + sgnW n (m + x) = a
  inf : K = 3 → a = infI m x n
theorem patK (m x : Nat) (a : Int) (hok : okF m x) (a0 : 0 ≤ a) (ha : bl a ≤ 1 + x + m) : PatK m x a (kindI m x a) (negI m x a) (expI m x a) (manI m x a) := by
  have hx : 2 ≤ x := by have := hok.2.2.1; omega
  exact ⟨kind_all m x a, fun h => kind_zero m x a a0 ha h, fun h => ⟨fin_of m x a hx h, (kind_fin m x a a0 ha hx h).1⟩, fun h => (kind_inf m x a a0 ha h).2.2⟩
end Go.Proofs.YtfjpiahgnojlhaaGreatDoor
namespace Go.Proofs.YtfjpiahgnojlhaaGreatDoor
open Go.RowKit
set_option maxRecDepth 100000
set_option maxHeartbeats 400000
set_option linter.unusedVariables false

def convK (m x : Nat) (K : Int) (n : Bool) (E M : Int) : Int := if K = 4 then nanI m x else if K = 3 then infI m x n else if K = 1 then sgnW n (m + x) else packP m x M E false + sgnW n (m + x)
theorem nan_bd (m x : Nat) (hm : 1 ≤ m) : 0 ≤ nanI m x ∧ nanI m x < p2 (m + x) := by
  have h1 : (p2 x - 1) * p2 m = p2 (m + x) - p2 m := by rw [Int.sub_mul, Int.one_mul, ← p2_add, Nat.add_comm x m]
  have h2 : p2 m = 2 * p2 (m - 1) := by rw [← p2_succ]; congr 1; omega
  have h3 := p2_pos (m - 1)
  have h4 : p2 m ≤ p2 (m + x) := p2_mono (by omega)
  unfold nanI
  omega
theorem inf_bd (m x : Nat) (n : Bool) : 0 ≤ infI m x n ∧ infI m x n < p2 (m + x + 1) := by
  have h1 : (p2 x - 1) * p2 m = p2 (m + x) - p2 m := by rw [Int.sub_mul, Int.one_mul, ← p2_add, Nat.add_comm x m]
  have h3 := p2_pos m
  have h4 : p2 m ≤ p2 (m + x) := p2_mono (by omega)
  rw [p2_succ]
  unfold infI sgnW
  cases n <;> simp <;> omega
theorem pack_lt (m x : Nat) (N e : Int) (more s : Bool) (hN : 0 ≤ N) (hx : 2 ≤ x) : 0 ≤ packP m x N e more + sgnW s (m + x) ∧ packP m x N e more + sgnW s (m + x) < p2 (m + x + 1) := by
  obtain ⟨h0, h1⟩ := pack_bd m x N e more hN hx
  have h2 : (p2 x - 1) * p2 m = p2 (m + x) - p2 m := by rw [Int.sub_mul, Int.one_mul, ← p2_add, Nat.add_comm x m]
  have h3 := p2_pos m
  rw [p2_succ]
  unfold sgnW
  cases s <;> simp <;> omega
theorem sgn_lt (k : Nat) (s : Bool) : 0 ≤ sgnW s k ∧ sgnW s k < p2 (k + 1) := by
  have := p2_pos k
  rw [p2_succ]
  unfold sgnW
  cases s <;> simp <;> omega
theorem conv_bd (m x m2 x2 : Nat) (a K E M : Int) (n : Bool) (hok2 : okF m2 x2) (g : PatK m x a K n E M) : 0 ≤ convK m2 x2 K n E M ∧ convK m2 x2 K n E M < p2 (m2 + x2 + 1) := by
  have hx : 2 ≤ x2 := by have := hok2.2.2.1; omega
  have hm : 1 ≤ m2 := by have := hok2.1; omega
  rcases g.kind with rfl | rfl | rfl | rfl
  · exact sgn_lt _ n
  · have h := (g.fin rfl).1.1
    exact pack_lt m2 x2 M E false n (by omega) hx
  · exact inf_bd m2 x2 n
  · have h := nan_bd m2 x2 hm
    have := p2_mono (show m2 + x2 ≤ m2 + x2 + 1 by omega)
    change 0 ≤ nanI m2 x2 ∧ nanI m2 x2 < _
    omega
theorem pconv_k (m x m2 x2 : Nat) (a K E M : Int) (n : Bool) (w : World) (hok : okF m x) (hok2 : okF m2 x2) (g : PatK m x a K n E M) (HO : Open1C m x a K n E M) :
    Calls Tryz.prog 65 #[.agg #[.int .i64 (m : Int), .int .i64 (x : Int)], .agg #[.int .i64 (m2 : Int), .int .i64 (x2 : Int)], .int .u64 a] w fun r w' => r = .returned (.tuple #[.int .u64 (convK m2 x2 K n E M), .int .i64 0]) ∧ Below w.heap.size w w' := by
  have HC : Hid (∀ w, Calls Tryz.prog 72 #[.agg #[.int .i64 (m2 : Int), .int .i64 (x2 : Int)]] w fun r w' => r = .returned (.int .i64 0) ∧ Below w.heap.size w w') := hidden fun w => by
    refine (pcheck_ok m2 x2 w hok2).mono ?_
    rintro r w' ⟨rfl, rfl⟩
    exact ⟨rfl, (Below.refl _ _).alloc (Nat.le_refl _) _⟩
  rcases g.kind with rfl | rfl | rfl | rfl
  · exact pconv_zero m x m2 x2 a 1 E M _ n w HO HC (hidden fun w => pzero_any m2 x2 n w hok2) rfl rfl rfl
  · obtain ⟨f, -⟩ := g.fin rfl
    obtain ⟨r1, r2, r3, r4⟩ := f.rng hok
    exact pconv_fin m x m2 x2 a 2 E M _ n w HO HC (hidden fun w => ppack_any m2 x2 n false M 0 M E w hok2 (by omega) (by omega) (by omega) (by omega) (by omega) (by omega) (by omega) (fun h => by cases h)) rfl rfl rfl
  · exact pconv_inf m x m2 x2 a 3 E M _ n w HO HC (hidden fun w => pinf_any m2 x2 n w hok2) rfl rfl
  · exact pconv_nan m x m2 x2 a 4 E M _ n w HO HC (hidden fun w => pnan_any m2 x2 w hok2) rfl
end Go.Proofs.YtfjpiahgnojlhaaGreatDoor
namespace Go.Proofs.YtfjpiahgnojlhaaGreatDoor
open Go.RowKit
set_option maxRecDepth 100000
set_option maxHeartbeats 400000
set_option linter.unusedVariables false

def cmpOk (K1 K2 : Int) : Bool := !(K1 == 4 || K2 == 4)
def cmpR (m x : Nat) (a b K1 K2 : Int) : Int := if K1 = 4 ∨ K2 = 4 then 0 else cmpZ (rankI (m + x) a) (rankI (m + x) b)
theorem pcmp_k (m x : Nat) (a b K1 E1 M1 K2 E2 M2 : Int) (n1 n2 : Bool) (w : World) (hok : okF m x) (a0 : 0 ≤ a) (a1 : a < p2 (m + x + 1)) (b0 : 0 ≤ b) (b1 : b < p2 (m + x + 1)) (HO : OpenC m x a b K1 n1 E1 M1 K2 n2 E2 M2) :
    Calls Tryz.prog 38 #[.agg #[.int .i64 (m : Int), .int .i64 (x : Int)], .int .u64 a, .int .u64 b] w fun r w' => r = .returned (.tuple #[.int .i64 (cmpR m x a b K1 K2), .bool (cmpOk K1 K2), .int .i64 0]) ∧ Below w.heap.size w w' := by
  by_cases h4 : (K1 == 4 || K2 == 4) = true
  · rw [show cmpOk K1 K2 = false by unfold cmpOk; rw [h4]; rfl, show cmpR m x a b K1 K2 = 0 by unfold cmpR; rw [if_pos (by simpa using h4)]]
    exact pcmp_nan m x a b _ _ _ _ _ _ _ _ w HO (pei _ _ _ _ _ _ _ _ _ _ h4)
  · have h4' : (K1 == 4 || K2 == 4) = false := by simpa using h4
    rw [show cmpOk K1 K2 = true by unfold cmpOk; rw [h4']; rfl, show cmpR m x a b K1 K2 = cmpZ (rankI (m + x) a) (rankI (m + x) b) by unfold cmpR; rw [if_neg (by simpa using h4)]]
    exact pcmp_num m x a b _ _ _ _ _ _ _ _ _ _ w HO (pei _ _ _ _ _ _ _ _ _ _ h4') (hidden fun w => prank m x a w hok a0 a1) (hidden fun w => prank m x b w hok b0 b1)
/-- Sub is Add with the other sign -/
theorem psub_k (m x : Nat) (a b K1 E1 M1 K2 E2 M2 : Int) (n1 n2 : Bool) (w : World) (hok : okF m x) (b0 : 0 ≤ b) (b1 : b < p2 (m + x + 1)) (h1 : K1 = 1 ∨ K1 = 2 ∨ K1 = 3 ∨ K1 = 4) (h2 : K2 = 1 ∨ K2 = 2 ∨ K2 = 3 ∨ K2 = 4) (f1 : K1 = 2 → FinP m x E1 M1) (f2 : K2 = 2 → FinP m x E2 M2) (HO : OpenC m x a (turnI (m + x) b) K1 n1 E1 M1 K2 n2 E2 M2) :
    Calls Tryz.prog 37 #[.agg #[.int .i64 (m : Int), .int .i64 (x : Int)], .int .u64 a, .int .u64 b] w fun r w' => r = .returned (.tuple #[.int .u64 (addK m x a (turnI (m + x) b) K1 n1 E1 M1 K2 n2 E2 M2), .int .i64 0]) ∧ Below w.heap.size w w' := by
  have hk : m + x ≤ 63 := by have := hok.2.1; have := hok.2.2.2; omega
  have hp := p2_mono (show m + x + 1 ≤ 64 by omega)
  rw [p2_64] at hp
  exact psub_walk m x a b _ _ _ 0 w (xor_top (m + x) b hk b0 b1 (by omega)) (hidden fun w => psignbit_any m x w hok) (hidden fun w => padd_k m x a _ _ _ _ _ _ _ _ _ w hok h1 h2 f1 f2 HO)
end Go.Proofs.YtfjpiahgnojlhaaGreatDoor
namespace Go.Proofs.YtfjpiahgnojlhaaGreatDoor
open Go.RowKit
set_option maxRecDepth 100000
set_option maxHeartbeats 400000
set_option linter.unusedVariables false

theorem shr_min (M : Int) (k : Nat) (h0 : 0 ≤ M) (h1 : M < 18446744073709551616) : M / 2 ^ min k 64 = M / p2 k := by
  rcases Nat.lt_or_ge k 64 with h | h
  · rw [Nat.min_eq_left (by omega)]; rfl
  · rw [Nat.min_eq_right h]
    have h5 := p2_mono h
    rw [p2_64] at h5
    rw [Int.ediv_eq_zero_of_lt h0 (show M < p2 k by omega), show (2 : Int) ^ 64 = 18446744073709551616 by decide]
    omega
theorem pwpart_cut (K E M : Int) (n : Bool) (k : Nat) (w : World) (hk : -E = k) (hk0 : 0 < k) (hk1 : (k : Int) ≤ 3000) (m0 : 0 ≤ M) (m1 : M < 9007199254740992) :
    Calls Tryz.prog 95 #[partsV K n E M, .bool false] w fun r w' => r = .returned (.int .u64 (min (M / p2 k) 1099511627776)) ∧ Below w.heap.size w w' := by
  have hs := shr_min M k m0 (by omega)
  have hw : IntKind.i64.wrap (-E) = k := by rw [wrapi _ (by omega) (by omega)]; exact hk
  have hE : ¬ 0 ≤ E := by omega
  have hp := p2_pos k
  have q0 : 0 ≤ M / p2 k := Int.ediv_nonneg m0 (by omega)
  have q1 : M / p2 k ≤ M := Int.ediv_le_self _ m0
  have hkn : (0 : Int) ≤ k := by omega
  have ps1 := ps_fresh w K E M n
  have HB3 := hidden (((Below.refl w.heap.size w).alloc (Nat.le_refl _) (prt K n E M)))
  generalize M / p2 k = Q at *
  go_enter Tryz.func95, Tryz.ntmps95
  go_upto_region 1 with fail
  change Code.wp _ _ _ _ (w.alloc (prt K n E M))
  generalize w.alloc (prt K n E M) = w3 at *
  obtain ⟨f0, f1, f2, f3, v0, v1, v2, v3⟩ := ps1
  go_wp2
  go_ret
  exact ⟨rfl, HB3.out⟩
theorem pwpart_near0 (K E M : Int) (n : Bool) (k : Nat) (w : World) (hk : -E = k) (hk0 : 0 < k) (hk1 : (k : Int) ≤ 3000) (m0 : 0 ≤ M) (m1 : M < 9007199254740992) (hbit : M / p2 (k - 1) % 2 = 0) :
    Calls Tryz.prog 95 #[partsV K n E M, .bool true] w fun r w' => r = .returned (.int .u64 (min (M / p2 k) 1099511627776)) ∧ Below w.heap.size w w' := by
  have hs := shr_min M k m0 (by omega)
  have hw : IntKind.i64.wrap (-E) = k := by rw [wrapi _ (by omega) (by omega)]; exact hk
  have hE : ¬ 0 ≤ E := by omega
  have hp := p2_pos k
  have q0 : 0 ≤ M / p2 k := Int.ediv_nonneg m0 (by omega)
  have q1 : M / p2 k ≤ M := Int.ediv_le_self _ m0
  have hkn : (0 : Int) ≤ k := by omega
  have hs2 := shr_min M (k - 1) m0 (by omega)
  have hp1 := p2_pos (k - 1)
  have t0 : 0 ≤ M / p2 (k - 1) := Int.ediv_nonneg m0 (by omega)
  have t1 : M / p2 (k - 1) ≤ M := Int.ediv_le_self _ m0
  have hw2 : IntKind.i64.wrap ((k : Int) - 1) = ((k - 1 : Nat) : Int) := by rw [wrapi _ (by omega) (by omega)]; omega
  have hkn1 : (0 : Int) ≤ ((k - 1 : Nat) : Int) := by omega
  have hand : bits .and .u64 (M / p2 (k - 1)) 1 = M / p2 (k - 1) % 2 := and_low 1 _ t0 (by omega) (by decide)
  rw [hbit] at hand
  generalize M / p2 (k - 1) = H at *
  generalize k - 1 = k' at *
  have ps1 := ps_fresh w K E M n
  have HB3 := hidden (((Below.refl w.heap.size w).alloc (Nat.le_refl _) (prt K n E M)))
  generalize M / p2 k = Q at *
  go_enter Tryz.func95, Tryz.ntmps95
  go_upto_region 1 with fail
  change Code.wp _ _ _ _ (w.alloc (prt K n E M))
  generalize w.alloc (prt K n E M) = w3 at *
  obtain ⟨f0, f1, f2, f3, v0, v1, v2, v3⟩ := ps1
  go_wp2
  go_ret
  exact ⟨rfl, HB3.out⟩
theorem pwpart_near1 (K E M : Int) (n : Bool) (k : Nat) (w : World) (hk : -E = k) (hk0 : 0 < k) (hk1 : (k : Int) ≤ 3000) (m0 : 0 ≤ M) (m1 : M < 9007199254740992) (hbit : M / p2 (k - 1) % 2 = 1) :
    Calls Tryz.prog 95 #[partsV K n E M, .bool true] w fun r w' => r = .returned (.int .u64 (min (M / p2 k + 1) 1099511627776)) ∧ Below w.heap.size w w' := by
  have hs := shr_min M k m0 (by omega)
  have hw : IntKind.i64.wrap (-E) = k := by rw [wrapi _ (by omega) (by omega)]; exact hk
  have hE : ¬ 0 ≤ E := by omega
  have hp := p2_pos k
  have q0 : 0 ≤ M / p2 k := Int.ediv_nonneg m0 (by omega)
  have q1 : M / p2 k ≤ M := Int.ediv_le_self _ m0
  have hkn : (0 : Int) ≤ k := by omega
  have hs2 := shr_min M (k - 1) m0 (by omega)
  have hp1 := p2_pos (k - 1)
  have t0 : 0 ≤ M / p2 (k - 1) := Int.ediv_nonneg m0 (by omega)
  have t1 : M / p2 (k - 1) ≤ M := Int.ediv_le_self _ m0
  have hw2 : IntKind.i64.wrap ((k : Int) - 1) = ((k - 1 : Nat) : Int) := by rw [wrapi _ (by omega) (by omega)]; omega
  have hkn1 : (0 : Int) ≤ ((k - 1 : Nat) : Int) := by omega
  have hand : bits .and .u64 (M / p2 (k - 1)) 1 = M / p2 (k - 1) % 2 := and_low 1 _ t0 (by omega) (by decide)
  rw [hbit] at hand
  generalize M / p2 (k - 1) = H at *
  generalize k - 1 = k' at *
  have ps1 := ps_fresh w K E M n
  have HB3 := hidden (((Below.refl w.heap.size w).alloc (Nat.le_refl _) (prt K n E M)))
  generalize M / p2 k = Q at *
  go_enter Tryz.func95, Tryz.ntmps95
  go_upto_region 1 with fail
  change Code.wp _ _ _ _ (w.alloc (prt K n E M))
  generalize w.alloc (prt K n E M) = w3 at *
  obtain ⟨f0, f1, f2, f3, v0, v1, v2, v3⟩ := ps1
  go_wp2
  go_ret
  exact ⟨rfl, HB3.out⟩
theorem pwpart_big (K E M : Int) (n near : Bool) (w : World) (hE : 0 ≤ E) (hE1 : E ≤ 3000) (m0 : 0 ≤ M) (m1 : M < 9007199254740992) (hb : 64 < (bl M : Int) + E) :
    Calls Tryz.prog 95 #[partsV K n E M, .bool near] w fun r w' => r = .returned (.int .u64 1099511627776) ∧ Below w.heap.size w w' := by
  have HL := hidden (fun w => plen64 M w m0 (by omega))
  have hbl : (bl M : Int) ≤ 64 := by exact_mod_cast bl_64 M m0 (by omega)
  have ps1 := ps_fresh w K E M n
  have HB3 := hidden (((Below.refl w.heap.size w).alloc (Nat.le_refl _) (prt K n E M)))
  generalize (bl M : Int) = L at *
  go_enter Tryz.func95, Tryz.ntmps95
  go_upto_region 1 with fail
  change Code.wp _ _ _ _ (w.alloc (prt K n E M))
  generalize w.alloc (prt K n E M) = w3 at *
  obtain ⟨f0, f1, f2, f3, v0, v1, v2, v3⟩ := ps1
  go_upto_region 2 with fail
  go_quiet (exact Calls.quiet_of_same (HL.out _))
  go_wp2
  go_ret
  exact ⟨rfl, below_drewN HB3.out _⟩
theorem pwpart_up (K E M : Int) (n near : Bool) (k : Nat) (w : World) (hk : E = k) (hE1 : E ≤ 3000) (m0 : 0 < M) (m1 : M < 9007199254740992) (hb : (bl M : Int) + E ≤ 64) :
    Calls Tryz.prog 95 #[partsV K n E M, .bool near] w fun r w' => r = .returned (.int .u64 (min (M * p2 k) 1099511627776)) ∧ Below w.heap.size w w' := by
  subst hk
  have HL := hidden (fun w => plen64 M w (by omega) (by omega))
  obtain ⟨x, y, z⟩ := bl_bd M m0
  have hX : M * p2 k < 18446744073709551616 := by
    have h1 : M * p2 k < p2 (bl M) * p2 k := Int.mul_lt_mul_of_pos_right z (p2_pos k)
    rw [← p2_add] at h1
    have h2 : p2 (bl M + k) ≤ p2 64 := p2_mono (by omega)
    rw [p2_64] at h2
    omega
  have hX0 : 0 < M * p2 k := Int.mul_pos m0 (p2_pos k)
  have hmin : min k 64 = k := by omega
  have hs : IntKind.u64.wrap (M * 2 ^ k) = M * p2 k := by rw [IntKind.wrap_u64]; show M * p2 k % _ = _; omega
  have hs2 : IntKind.u64.wrap (M * 2 ^ min k 64) = M * p2 k := by rw [hmin]; exact hs
  have hkn : (0 : Int) ≤ k := by omega
  have hL0 : 0 ≤ (bl M : Int) := by omega
  clear x y z hX0 hmin
  have ps1 := ps_fresh w K (k : Int) M n
  have HB3 := hidden (((Below.refl w.heap.size w).alloc (Nat.le_refl _) (prt K n (k : Int) M)))
  generalize (bl M : Int) = L at *
  generalize M * p2 k = X at *
  go_enter Tryz.func95, Tryz.ntmps95
  go_upto_region 1 with fail
  change Code.wp _ _ _ _ (w.alloc (prt K n (k : Int) M))
  generalize w.alloc (prt K n (k : Int) M) = w3 at *
  obtain ⟨f0, f1, f2, f3, v0, v1, v2, v3⟩ := ps1
  go_upto_region 2 with fail
  go_quiet (exact Calls.quiet_of_same (HL.out _))
  go_wp2
  go_ret
  exact ⟨rfl, below_drewN HB3.out _⟩
end Go.Proofs.YtfjpiahgnojlhaaGreatDoor
namespace Go.Proofs.YtfjpiahgnojlhaaGreatDoor
open Go.RowKit
set_option maxRecDepth 100000
set_option maxHeartbeats 400000
set_option linter.unusedVariables false

theorem pwhole_err (m x a : Int) (near : Bool) (w : World)
    (HO : Hid (∀ w, Calls Tryz.prog 40 #[.agg #[.int .i64 m, .int .i64 x], .int .u64 a] w fun r w' => r = .returned (.tuple #[partsV 0 false 0 0, .int .i64 1]) ∧ Below w.heap.size w w')) :
    Calls Tryz.prog 64 #[.agg #[.int .i64 m, .int .i64 x], .int .u64 a, .bool near] w fun r w' => r = .returned (.tuple #[.int .u64 0, .bool false, .int .i64 1]) ∧ Below w.heap.size w w' := by
  go_enter Tryz.func64, Tryz.ntmps64
  go_wp2_with fail
  refine (HO.out _).mono ?_
  rintro r w1 ⟨rfl, hb1⟩
  have HB1 := hidden (box_below _ hb1)
  clear hb1
  go_wp2
  go_ret3
  exact ⟨rfl, HB1.out.alloc HB1.out.size _⟩
theorem pwhole_zero (m x : Nat) (a K E M : Int) (n near : Bool) (w : World)
    (HO : Hid (∀ w, Calls Tryz.prog 40 #[fmtV m x, .int .u64 a] w fun r w' => r = .returned (.tuple #[partsV K n E M, .int .i64 0]) ∧ Below w.heap.size w w'))
    (k1 : (K == 1) = true)
    : Calls Tryz.prog 64 #[fmtV m x, .int .u64 a, .bool near] w fun r w' => r = .returned (.tuple #[.int .u64 0, .bool n, .int .i64 0]) ∧ Below w.heap.size w w' := by
  go_enter Tryz.func64, Tryz.ntmps64
  go_wp2_with fail
  refine (HO.out _).mono ?_
  rintro r w1 ⟨rfl, hb1⟩
  obtain ⟨w5, hw5, hx, c0, c1, p0, p1, p2', p3⟩ := open_box m x K E M n w w1 hb1
  have HB := hidden hx
  clear hx hb1
  go_upto_region 2 with fail
  change Code.wp _ _ _ _ (w1.alloc (prt K n E M))
  rw [← hw5]
  clear hw5
  go_upto_region 5 with fail
  go_quiet (fail)
  go_wp2
  go_ret3
  exact ⟨rfl, below_drewN HB.out _⟩
theorem pwhole_inf (m x : Nat) (a K E M : Int) (n near : Bool) (w : World)
    (HO : Hid (∀ w, Calls Tryz.prog 40 #[fmtV m x, .int .u64 a] w fun r w' => r = .returned (.tuple #[partsV K n E M, .int .i64 0]) ∧ Below w.heap.size w w'))
    (k1 : (K == 1) = false)
    (k2 : (K != 2) = true)
    : Calls Tryz.prog 64 #[fmtV m x, .int .u64 a, .bool near] w fun r w' => r = .returned (.tuple #[.int .u64 1099511627776, .bool n, .int .i64 0]) ∧ Below w.heap.size w w' := by
  go_enter Tryz.func64, Tryz.ntmps64
  go_wp2_with fail
  refine (HO.out _).mono ?_
  rintro r w1 ⟨rfl, hb1⟩
  obtain ⟨w5, hw5, hx, c0, c1, p0, p1, p2', p3⟩ := open_box m x K E M n w w1 hb1
  have HB := hidden hx
  clear hx hb1
  go_upto_region 2 with fail
  change Code.wp _ _ _ _ (w1.alloc (prt K n E M))
  rw [← hw5]
  clear hw5
  go_upto_region 7 with fail
  go_quiet (fail)
  go_wp2
  go_ret3
  exact ⟨rfl, below_drewN HB.out _⟩
theorem pwhole_fin (m x : Nat) (a K E M R : Int) (n near : Bool) (w : World)
    (HO : Hid (∀ w, Calls Tryz.prog 40 #[fmtV m x, .int .u64 a] w fun r w' => r = .returned (.tuple #[partsV K n E M, .int .i64 0]) ∧ Below w.heap.size w w'))
    (HW : Hid (∀ w, Calls Tryz.prog 95 #[partsV K n E M, .bool near] w fun r w' => r = .returned (.int .u64 R) ∧ Below w.heap.size w w'))
    (k1 : (K == 1) = false)
    (k2 : (K != 2) = false)
    : Calls Tryz.prog 64 #[fmtV m x, .int .u64 a, .bool near] w fun r w' => r = .returned (.tuple #[.int .u64 R, .bool n, .int .i64 0]) ∧ Below w.heap.size w w' := by
  go_enter Tryz.func64, Tryz.ntmps64
  go_wp2_with fail
  refine (HO.out _).mono ?_
  rintro r w1 ⟨rfl, hb1⟩
  obtain ⟨w5, hw5, hx, c0, c1, p0, p1, p2', p3⟩ := open_box m x K E M n w w1 hb1
  have HB := hidden hx
  clear hx hb1
  go_upto_region 2 with fail
  change Code.wp _ _ _ _ (w1.alloc (prt K n E M))
  rw [← hw5]
  clear hw5
  go_upto_region 8 with fail
  go_region_held3 (fun w' => w'.cell? ⟨w1.heap.size, 0, none⟩ = some (.int .i64 K) ∧ w'.cell? ⟨w1.heap.size, 1, none⟩ = some (.bool n) ∧ w'.cell? ⟨w1.heap.size, 2, none⟩ = some (.int .i64 E) ∧ w'.cell? ⟨w1.heap.size, 3, none⟩ = some (.int .u64 M)) (go_keep) (first | (go_at_call 95; refine (HW.out _).mono ?_; rintro r w9 ⟨rfl, hb⟩; have p0 : w9.cell? ⟨w1.heap.size, 0, none⟩ = some (.int .i64 K) := cellLater hb (by go_keep); have p1 : w9.cell? ⟨w1.heap.size, 1, none⟩ = some (.bool n) := cellLater hb (by go_keep); have p2' : w9.cell? ⟨w1.heap.size, 2, none⟩ = some (.int .i64 E) := cellLater hb (by go_keep); have p3 : w9.cell? ⟨w1.heap.size, 3, none⟩ = some (.int .u64 M) := cellLater hb (by go_keep); have HB : Hid (Below w.heap.size w w9) := hidden (by first | exact HB.out.trans (hb.mono HB.out.size) | exact HB.out.drew.trans (hb.mono HB.out.drew.size)); clear hb))
  all_goals
    go_wp2
    go_ret3
    exact ⟨rfl, by first | exact HB.out | exact HB.out.drew⟩
end Go.Proofs.YtfjpiahgnojlhaaGreatDoor
namespace Go.Proofs.YtfjpiahgnojlhaaGreatDoor
open Go.RowKit
set_option maxRecDepth 100000
set_option maxHeartbeats 1000000
set_option linter.unusedVariables false

theorem num4_any (n : Int) (w : World) (n0 : 0 ≤ n) (n1 : n ≤ 1) : Calls Tryz.prog 17 #[.int .i64 n] w fun r w' => r = .returned (.int .i64 n) ∧ w' = w := by
  go_enter Tryz.func17, Tryz.ntmps17
  go_wp2
  go_ret
  exact ⟨ret_int (by (try unfold wrap64); omega), rfl⟩
theorem ok23 : okF ((23 : Nat) : Int) ((8 : Nat) : Int) := by unfold okF; omega
theorem ok52 : okF ((52 : Nat) : Int) ((11 : Nat) : Int) := by unfold okF; omega
theorem fin23 (a : Int) (h : kindI 23 8 a = 2) : FinP 23 8 (expI 23 8 a) (manI 23 8 a) := fin_of 23 8 a (by decide) h
theorem fin52 (a : Int) (h : kindI 52 11 a = 2) : FinP 52 11 (expI 52 11 a) (manI 52 11 a) := fin_of 52 11 a (by decide) h
theorem lv1 (w : World) (hl : Laid w) : Calls Tryz.prog 15 #[.int .i64 1, .int .u32 1065353216, .int .u32 1065353216] w fun r w' => r = .returned (.tuple #[.int .u32 1073741824, .int .i64 0]) ∧ Below w.heap.size w w' :=
  pSingle 1 1065353216 1065353216 1073741824 0 w hl (hidden fun w => reck32_1 23 8 1065353216 1065353216 1073741824 0 0 w (by decide) (by decide) (by decide) (by decide) (by decide) (by decide) (hidden fun w => by
    have h := padd_k 23 8 1065353216 1065353216 _ _ _ _ _ _ _ _ w ok23 (kind_all 23 8 1065353216) (kind_all 23 8 1065353216) (fin23 _) (fin23 _) (popen2 23 8 _ _ ok23 (by decide) (by decide) (by decide +kernel) (by decide) (by decide) (by decide +kernel))
    rw [show addK 23 8 1065353216 1065353216 (kindI 23 8 1065353216) (negI 23 8 1065353216) (expI 23 8 1065353216) (manI 23 8 1065353216) (kindI 23 8 1065353216) (negI 23 8 1065353216) (expI 23 8 1065353216) (manI 23 8 1065353216) = 1073741824 by decide +kernel] at h
    exact h))
theorem lv2 (w : World) (hl : Laid w) : Calls Tryz.prog 16 #[.int .i64 3, .int .u64 4613937818241073152, .int .u64 13835058055282163712] w fun r w' => r = .returned (.tuple #[.int .u64 13841813454723219456, .int .i64 0]) ∧ Below w.heap.size w w' :=
  pDouble 3 4613937818241073152 13835058055282163712 13841813454723219456 0 w hl (hidden fun w => reck64_3 52 11 4613937818241073152 13835058055282163712 13841813454723219456 0 0 w (by decide) (by decide) (by decide) (by decide) (by decide) (by decide) (hidden fun w => by
    have h := pmul_k 52 11 4613937818241073152 13835058055282163712 _ _ _ _ _ _ _ _ w ok52 (kind_all 52 11 4613937818241073152) (kind_all 52 11 13835058055282163712) (fin52 _) (fin52 _) (popen2 52 11 _ _ ok52 (by decide) (by decide) (by decide +kernel) (by decide) (by decide) (by decide +kernel))
    rw [show mulK 52 11 (kindI 52 11 4613937818241073152) (negI 52 11 4613937818241073152) (expI 52 11 4613937818241073152) (manI 52 11 4613937818241073152) (kindI 52 11 13835058055282163712) (negI 52 11 13835058055282163712) (expI 52 11 13835058055282163712) (manI 52 11 13835058055282163712) = 13841813454723219456 by decide +kernel] at h
    exact h))
theorem lv3 (w : World) (hl : Laid w) : Calls Tryz.prog 18 #[.int .u32 4294967295] w fun r w' => r = .returned (.int .u32 3212836864) ∧ Below w.heap.size w w' := by
  have h := singleOf_c 4294967295 w hl (by decide) (by decide)
  rw [show ofI 23 8 4294967295 = 3212836864 by decide +kernel] at h
  exact h
theorem lv4 (w : World) (hl : Laid w) : Calls Tryz.prog 19 #[.int .u32 3223322624, .bool true] w fun r w' => r = .returned (.int .u32 4294967293) ∧ Below w.heap.size w w' := by
  have HO := popen1 23 8 3223322624 ok23 (by decide) (by decide) (by decide +kernel)
  rw [show kindI 23 8 3223322624 = 2 by decide +kernel, show negI 23 8 3223322624 = true by decide +kernel, show expI 23 8 3223322624 = -22 by decide +kernel, show manI 23 8 3223322624 = 10485760 by decide +kernel] at HO
  have HP : Hid (∀ w, Calls Tryz.prog 95 #[partsV 2 true (-22) 10485760, .bool true] w fun r w' => r = .returned (.int .u64 3) ∧ Below w.heap.size w w') := hidden fun w => by
    have h := pwpart_near1 2 (-22) 10485760 true 22 w (by decide) (by decide) (by decide) (by decide) (by decide) (by decide +kernel)
    rw [show min (10485760 / p2 22 + 1) 1099511627776 = (3 : Int) by decide +kernel] at h
    exact h
  exact singleInt_c 3223322624 4294967293 true w hl (hidden fun w => toint32 23 8 3223322624 3 0 true true w (by decide) (by decide) (by decide) (by decide) (hidden fun w => pwhole_fin 23 8 3223322624 2 (-22) 10485760 3 true true w HO HP rfl rfl))
theorem lv5 (w : World) (hl : Laid w) : Calls Tryz.prog 19 #[.int .u32 4286578688, .bool false] w fun r w' => r = .returned (.int .u32 2147483648) ∧ Below w.heap.size w w' := by
  have HO := popen1 23 8 4286578688 ok23 (by decide) (by decide) (by decide +kernel)
  rw [show kindI 23 8 4286578688 = 3 by decide +kernel, show negI 23 8 4286578688 = true by decide +kernel] at HO
  exact singleInt_c 4286578688 2147483648 false w hl (hidden fun w => toint32 23 8 4286578688 1099511627776 0 false true w (by decide) (by decide) (by decide) (by decide) (hidden fun w => pwhole_inf 23 8 4286578688 3 _ _ true false w HO rfl rfl))
theorem lv6 (w : World) (hl : Laid w) : Calls Tryz.prog 20 #[.int .u32 1065353216] w fun r w' => r = .returned (.int .u64 4607182418800017408) ∧ Below w.heap.size w w' := by
  refine widen_c 1065353216 4607182418800017408 w hl (hidden fun w => conv_u64 23 8 52 11 1065353216 4607182418800017408 0 w (by decide) (by decide) (by decide) (by decide) (hidden fun w => ?_))
  have h := pconv_k 23 8 52 11 1065353216 _ _ _ _ w ok23 ok52 (patK 23 8 1065353216 ok23 (by decide) (by decide +kernel)) (popen1 23 8 1065353216 ok23 (by decide) (by decide) (by decide +kernel))
  rw [show convK 52 11 (kindI 23 8 1065353216) (negI 23 8 1065353216) (expI 23 8 1065353216) (manI 23 8 1065353216) = 4607182418800017408 by decide +kernel] at h
  exact h
theorem lv7 (w : World) (hl : Laid w) : Calls Tryz.prog 4 #[.int .i64 1, .int .u32 1065353216, .int .u32 1069547520, .int .u32 3204448256] w fun r w' => r = .returned (.bool true) ∧ Below w.heap.size w w' := by
  have HA := popen1 23 8 1065353216 ok23 (by decide) (by decide) (by decide +kernel)
  have HB := popen1 23 8 1069547520 ok23 (by decide) (by decide) (by decide +kernel)
  have k3 : ∀ (a : Int) (k : Int) (w : World) (v : Bool), 0 ≤ a → a ≤ 18446744073709551615 → bl a ≤ 1 + 8 + 23 → (kindI 23 8 a == k) = v → Calls Tryz.prog 22 #[.agg #[.int .i64 23, .int .i64 8], .int .u64 a, .int .i64 k] w fun r w' => r = .returned (.bool v) ∧ Below w.heap.size w w' := fun a k w v h0 h1 h2 hv => by
    have h := pkind 23 8 a _ _ _ k 0 _ w (popen1 23 8 a ok23 h0 h1 h2)
    rw [hv] at h
    exact h
  have HS : Hid (∀ w, Calls Tryz.prog 37 #[.agg #[.int .i64 23, .int .i64 8], .int .u64 1065353216, .int .u64 1069547520] w fun r w' => r = .returned (.tuple #[.int .u64 3204448256, .int .i64 0]) ∧ Below w.heap.size w w') := hidden fun w => by
    have h := psub_k 23 8 1065353216 1069547520 _ _ _ _ _ _ _ _ w ok23 (by decide) (by decide +kernel) (kind_all 23 8 1065353216) (kind_all 23 8 (turnI (23 + 8) 1069547520)) (fin23 _) (fin23 _) (popen2 23 8 _ _ ok23 (by decide) (by decide) (by decide +kernel) (by decide +kernel) (by decide +kernel) (by decide +kernel))
    rw [show addK 23 8 1065353216 (turnI (23 + 8) 1069547520) (kindI 23 8 1065353216) (negI 23 8 1065353216) (expI 23 8 1065353216) (manI 23 8 1065353216) (kindI 23 8 (turnI (23 + 8) 1069547520)) (negI 23 8 (turnI (23 + 8) 1069547520)) (expI 23 8 (turnI (23 + 8) 1069547520)) (manI 23 8 (turnI (23 + 8) 1069547520)) = 3204448256 by decide +kernel] at h
    exact h
  have HW : Hid (∀ w, Calls Tryz.prog 39 #[.agg #[.int .i64 23, .int .i64 8], .int .u64 3204448256] w fun r w' => r = .returned (.int .u64 1056964608) ∧ Below w.heap.size w w') := hidden fun w => by
    have h := pbare 23 8 3204448256 w ok23 (by decide) (by decide +kernel)
    rw [show (3204448256 : Int) % p2 (23 + 8) = 1056964608 by decide +kernel] at h
    exact h
  have HC : Hid (∀ w, Calls Tryz.prog 38 #[.agg #[.int .i64 23, .int .i64 8], .int .u64 1056964608, .int .u64 1056964608] w fun r w' => r = .returned (.tuple #[.int .i64 0, .bool true, .int .i64 0]) ∧ Below w.heap.size w w') := hidden fun w => by
    have h := pcmp_k 23 8 1056964608 1056964608 _ _ _ _ _ _ _ _ w ok23 (by decide) (by decide +kernel) (by decide) (by decide +kernel) (popen2 23 8 1056964608 1056964608 ok23 (by decide) (by decide) (by decide +kernel) (by decide) (by decide) (by decide +kernel))
    rw [show cmpR 23 8 1056964608 1056964608 (kindI 23 8 1056964608) (kindI 23 8 1056964608) = 0 by decide +kernel, show cmpOk (kindI 23 8 1056964608) (kindI 23 8 1056964608) = true by decide +kernel] at h
    exact h
  have HC2 := hidden fun w => pcmp_k 23 8 1065353216 1069547520 _ _ _ _ _ _ _ _ w ok23 (by decide) (by decide +kernel) (by decide) (by decide +kernel) (popen2 23 8 1065353216 1069547520 ok23 (by decide) (by decide) (by decide +kernel) (by decide) (by decide) (by decide +kernel))
  have HN : Hid (∀ w, Calls Tryz.prog 21 #[.agg #[.int .i64 23, .int .i64 8], .int .u64 1065353216, .int .u64 1069547520, .int .u64 3204448256] w fun r w' => r = .returned (.bool true) ∧ Below w.heap.size w w') := hidden fun w => pnear_num 23 8 1065353216 1069547520 3204448256 3204448256 1056964608 1056964608 0 0 0 false false true w rfl (hidden fun w => k3 _ _ _ _ (by decide) (by decide) (by decide +kernel) (by decide +kernel)) (hidden fun w => k3 _ _ _ _ (by decide) (by decide) (by decide +kernel) (by decide +kernel)) HS HW HW HC
  exact pSingleHolds 1 1065353216 1069547520 3204448256 true w hl (hidden fun w => pholds32 23 8 1 1065353216 1069547520 3204448256 true false false _ w (by decide) (by decide) (by decide) (by decide) (by decide) (by decide) HN (hidden fun w => k3 _ _ _ _ (by decide) (by decide) (by decide +kernel) (by decide +kernel)) (hidden fun w => k3 _ _ _ _ (by decide) (by decide) (by decide +kernel) (by decide +kernel)) (hidden fun w => pinorder 23 8 1 1065353216 1069547520 _ 0 _ w HC2))
theorem live4_any (w : World) (hl : Laid w) : Calls Tryz.prog 7 #[] w fun r w' => r = .returned (.bool true) ∧ Below w.heap.size w w' := by
  have H1 := hidden lv1
  have H2 := hidden lv2
  have H3 := hidden lv3
  have H4 := hidden lv4
  have H5 := hidden lv5
  have H6 := hidden lv6
  have H7 := hidden lv7
  have HM := hidden (fun w => num4_any 0 w (by decide) (by decide))
  have HL := hidden hl
  have HB := hidden (Below.refl w.heap.size w)
  clear hl
  go_enter Tryz.func7, Tryz.ntmps7
  go_wp2_with (first | (go_at_call 15; refine (H1.out _ HL.out).mono ?_; rintro r w9 ⟨rfl, hb⟩; have HL := hidden (HL.out.later hb); have HB := hidden (HB.out.trans (hb.mono HB.out.size)); clear hb) | (go_at_call 16; refine (H2.out _ HL.out).mono ?_; rintro r w9 ⟨rfl, hb⟩; have HL := hidden (HL.out.later hb); have HB := hidden (HB.out.trans (hb.mono HB.out.size)); clear hb) | (go_at_call 18; refine (H3.out _ HL.out).mono ?_; rintro r w9 ⟨rfl, hb⟩; have HL := hidden (HL.out.later hb); have HB := hidden (HB.out.trans (hb.mono HB.out.size)); clear hb) | (go_at_call_of 19 (Value.bool true); refine (H4.out _ HL.out).mono ?_; rintro r w9 ⟨rfl, hb⟩; have HL := hidden (HL.out.later hb); have HB := hidden (HB.out.trans (hb.mono HB.out.size)); clear hb) | (go_at_call_of 19 (Value.bool false); refine (H5.out _ HL.out).mono ?_; rintro r w9 ⟨rfl, hb⟩; have HL := hidden (HL.out.later hb); have HB := hidden (HB.out.trans (hb.mono HB.out.size)); clear hb) | (go_at_call 20; refine (H6.out _ HL.out).mono ?_; rintro r w9 ⟨rfl, hb⟩; have HL := hidden (HL.out.later hb); have HB := hidden (HB.out.trans (hb.mono HB.out.size)); clear hb) | (go_at_call 4; refine (H7.out _ HL.out).mono ?_; rintro r w9 ⟨rfl, hb⟩; have HL := hidden (HL.out.later hb); have HB := hidden (HB.out.trans (hb.mono HB.out.size)); clear hb) | (go_at_call 17; refine (HM.out _).mono ?_; rintro r w9 ⟨rfl, hw⟩; obtain rfl := hw.symm))
  go_ret
  exact ⟨rfl, HB.out⟩
end Go.Proofs.YtfjpiahgnojlhaaGreatDoor
