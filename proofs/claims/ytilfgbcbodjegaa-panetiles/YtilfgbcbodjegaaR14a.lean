/- Layer 14, the document: how its tree lies in memory; a window found by its number; the small functions. -/
import Derived.Test.YtilfgbcbodjegaaP14d
namespace Go.Proofs.Ytilfgbcbodjegaa
open Go.RowKit
set_option maxHeartbeats 1000000
set_option maxRecDepth 100000
set_option linter.unusedVariables false

/-- the document's tree (its state is the program's, the root apart) -/
structure QAt (B : Nat) (w : World) (m : Nat) (v : Value) (s : Ps) : Prop where
  base : B ≤ m
  box : w.heap[m]? = some (.cells #[.int .i64 s.w, .int .i64 s.h, v, .int .i64 s.last] 46 (0, 0))
  row : w.ownsRow B 66 8 v s.L.length (wdsV s.L)
theorem QAt.lt {B : Nat} {w : World} {m : Nat} {v : Value} {s : Ps} (h : QAt B w m v s) : m < w.heap.size := (Array.getElem?_eq_some_iff.1 h.box).1
theorem QAt.ne {B : Nat} {w : World} {m : Nat} {v : Value} {s : Ps} (h : QAt B w m v s) : v.ownBlock ≠ some m := own_neE h.row h.box (by decide)
theorem QAt.later {B : Nat} {w w' : World} {m : Nat} {v : Value} {s : Ps} (h : QAt B w m v s) (hb : Below w.heap.size w w') : QAt B w' m v s :=
  ⟨h.base, (hb.block m h.lt).trans h.box, own_later h.row hb⟩
theorem QAt.cells {B : Nat} {w : World} {m : Nat} {v : Value} {s : Ps} (h : QAt B w m v s) : w.cell? ⟨m, 0, none⟩ = some (.int .i64 s.w) ∧ w.cell? ⟨m, 1, none⟩ = some (.int .i64 s.h) ∧ w.cell? ⟨m, 2, none⟩ = some v ∧ w.cell? ⟨m, 3, none⟩ = some (.int .i64 s.last) ∧ (∀ j, w.frozen? ⟨m, j, none⟩ = false) := by
  have hh := h.box
  refine ⟨by simp [World.cell?, hh], by simp [World.cell?, hh], by simp [World.cell?, hh], by simp [World.cell?, hh], fun j => by simp [World.frozen?, hh]⟩
theorem QAt.low {B : Nat} {w : World} {m : Nat} {v : Value} {s : Ps} (h : QAt B w m v s) : ∀ k, TP m v k → B ≤ k ∧ k < w.heap.size := by
  rintro k (rfl | e)
  · exact ⟨h.base, h.lt⟩
  · exact h.row.lt k e
/-- the place of a window, or -1 -/
def ixW : List Wd → Int → Int
  | [], _ => -1
  | d :: r, x => if d.n = x then 0 else if ixW r x < 0 then -1 else ixW r x + 1
theorem ixW_ge (L : List Wd) (x : Int) : -1 ≤ ixW L x := by
  induction L with
  | nil => show (-1 : Int) ≤ -1; omega
  | cons d r ih => unfold ixW; split; omega; split <;> omega
theorem ixW_at (L : List Wd) (x : Int) (i : Nat) (hi : i < L.length) (hx : L[i].n = x) (hno : ∀ j (hj : j < L.length), j < i → L[j].n ≠ x) : ixW L x = i := by
  induction L generalizing i with
  | nil => simp at hi
  | cons d r ih =>
    unfold ixW
    cases i with
    | zero =>
      have : d.n = x := hx
      rw [if_pos this]; rfl
    | succ i =>
      have h0 : d.n ≠ x := hno 0 (by simp) (by omega)
      have h1 := ih i (by simpa using hi) (by simpa using hx) (fun j hj hji => by have := hno (j + 1) (by simpa using hj) (by omega); simpa only [List.getElem_cons_succ] using this)
      rw [if_neg h0, h1, if_neg (by omega)]
      omega
theorem ixW_no (L : List Wd) (x : Int) (h : ∀ j (hj : j < L.length), L[j].n ≠ x) : ixW L x = -1 := by
  induction L with
  | nil => rfl
  | cons d r ih =>
    have h0 : d.n ≠ x := h 0 (by simp)
    have h1 := ih (fun j hj => by have := h (j + 1) (by simpa using hj); simpa only [List.getElem_cons_succ] using this)
    unfold ixW
    rw [if_neg h0, h1, if_pos (by omega)]
set_option maxHeartbeats 4000000 in
theorem dat_any {B m : Nat} {v : Value} {s : Ps} {w : World} (h : QAt B w m v s) (hn : s.L.length ≤ 1000) (x : Int) :
    Calls Try.prog 53 #[.pointer (some ⟨m, 0, none⟩), .int .i64 x] w fun e w' => e = .returned (.int .i64 (ixW s.L x)) ∧ w' = w := by
  obtain ⟨d0, d1, d2, d3, d5⟩ := h.cells
  obtain ⟨va, vc, hv⟩ := own_slice h.row
  subst hv
  have HR := hidden h.row
  have HAT : Hid (∀ i (hi : i < s.L.length), s.L[i].n = x → (∀ j (hj : j < s.L.length), j < i → s.L[j].n ≠ x) → ixW s.L x = i) := hidden (fun i hi a b => ixW_at s.L x i hi a b)
  have HNO : Hid ((∀ j (hj : j < s.L.length), s.L[j].n ≠ x) → ixW s.L x = -1) := hidden (ixW_no s.L x)
  obtain ⟨IX, hIX⟩ : ∃ IX, ixW s.L x = IX := ⟨_, rfl⟩
  rw [hIX] at HAT HNO ⊢
  clear hIX h
  obtain ⟨N, hN⟩ : ∃ N, s.L.length = N := ⟨_, rfl⟩
  have HN := hidden hN
  rw [hN] at d2 hn
  clear hN
  go_enter Try.func53, Try.ntmps53
  go_upto_region 2 with fail
  go_loopw [5] (fun i w' => ∃ j : Nat, i = .int .i64 j ∧ j ≤ N ∧ w' = w ∧ Hid (∀ k (hk : k < s.L.length), k < j → s.L[k].n ≠ x)) (fun i _ => N - (intOf i).toNat)
  case atStart => exact ⟨0, rfl, Nat.zero_le _, rfl, hidden (fun k hk q => by omega)⟩
  case round =>
    obtain ⟨j, rfl, hj, rfl, HP⟩ := hrel
    by_cases hlt : j < N
    · have l1 : (j : Int) < N := by omega
      have l0 : (0 : Int) ≤ j := by omega
      have hjl : j < s.L.length := by rw [HN.out]; exact hlt
      obtain ⟨g, c, hv2, _⟩ := wrow_pos HR.out (by omega)
      simp only [Value.slice.injEq] at hv2
      obtain ⟨rfl, _, rfl⟩ := hv2
      obtain ⟨c0, _⟩ := wrow_cells HR.out j hjl
      obtain ⟨y, hy⟩ : ∃ y, s.L[j].n = y := ⟨_, rfl⟩
      rw [hy] at c0
      by_cases he : y = x
      · have HE := hidden (HAT.out j hjl (by rw [hy]; exact he) HP.out)
        subst he
        clear HAT HNO HP hy
        go_wp2
        go_ret
        exact ⟨by rw [HE.out]; rfl, rfl⟩
      · have hne : (y == x) = false := by simp [he]
        have HP2 : Hid (∀ k (hk : k < s.L.length), k < j + 1 → s.L[k].n ≠ x) := hidden (fun k hk q => by
          by_cases e : k = j
          · subst e; rw [hy]; exact he
          · exact HP.out k hk (by omega))
        clear HAT HNO HP hy he
        go_wp2
        go_roundw
        case rel => exact ⟨j + 1, by first | rfl | go_num, by omega, by first | rfl | trivial, HP2⟩
        case measure => simp [intOf]; omega
    · obtain rfl : j = N := by omega
      have l1 : ¬ ((j : Int) < (j : Int)) := by omega
      have HE := hidden (HNO.out (fun k hk => HP.out k hk (by rw [← HN.out]; exact hk)))
      clear HAT HNO HP
      go_wp2
      go_ret
      exact ⟨by rw [HE.out]; rfl, rfl⟩
theorem ixW_of (L : List Wd) (x : Int) : (∃ i, ∃ hi : i < L.length, ixW L x = (i : Nat) ∧ L[i] = ofW L x ∧ L[i].n = x) ∨ (ixW L x = -1 ∧ ofW L x = wd0 ∧ ∀ d ∈ L, d.n ≠ x) := by
  induction L with
  | nil => exact .inr ⟨rfl, rfl, fun d hd => by cases hd⟩
  | cons d r ih =>
    by_cases h : d.n = x
    · refine .inl ⟨0, by simp, ?_, ?_, h⟩
      · unfold ixW; rw [if_pos h]; rfl
      · unfold ofW; simp [h]
    · have e : ofW (d :: r) x = ofW r x := by unfold ofW; simp [h]
      rcases ih with ⟨i, hi, h1, h2, h3⟩ | ⟨h1, h2, h3⟩
      · refine .inl ⟨i + 1, by simpa using hi, ?_, by rw [e]; simpa using h2, by simpa using h3⟩
        unfold ixW; rw [if_neg h, h1, if_neg (by omega)]; omega
      · refine .inr ⟨by unfold ixW; rw [if_neg h, h1, if_pos (by omega)], by rw [e]; exact h2, fun z hz => ?_⟩
        rcases List.mem_cons.1 hz with q | q
        · rw [q]; exact h
        · exact h3 z q
set_option maxHeartbeats 2000000 in
theorem dof_any {B m : Nat} {v : Value} {s : Ps} {w : World} (h : QAt B w m v s) (hn : s.L.length ≤ 1000) (x : Int) :
    Calls Try.prog 32 #[.pointer (some ⟨m, 0, none⟩), .int .i64 x] w fun e w' => e = .returned (wdA (ofW s.L x)) ∧ Hid (Below w.heap.size w w') := by
  have HA : Hid (∀ w1, Below w.heap.size w w1 → Calls Try.prog 53 #[.pointer (some ⟨m, 0, none⟩), .int .i64 x] w1 fun e w' => e = .returned (.int .i64 (ixW s.L x)) ∧ w' = w1) := hidden (fun w1 hb => dat_any (h.later hb) hn x)
  obtain ⟨d0, d1, d2, d3, d5⟩ := h.cells
  have hml := h.lt
  have hr := h.row
  rcases ixW_of s.L x with ⟨i, hi, h1, h2, h3⟩ | ⟨h1, h2, h3⟩
  · rw [h1] at HA
    rw [← h2]
    obtain ⟨g, c, hv, _, hgl, _⟩ := wrow_pos hr (by omega)
    subst hv
    obtain ⟨c0, c1, c2, c3, c4, c5, c6, c7⟩ := wrow_cells hr i hi
    have l1 : (i : Int) < s.L.length := by omega
    have l0 : (0 : Int) ≤ (i : Int) := by omega
    have l2 : ¬ (i : Int) < 0 := by omega
    have ng : g ≠ w.heap.size := by omega
    have nm : m ≠ w.heap.size := by omega
    unfold wdA
    clear h hr h1 h2 h3
    generalize s.L[i] = d at *
    generalize s.L.length = N at *
    go_enter Try.func32, Try.ntmps32
    go_wp2_with (first | (go_at_call 53; refine (HA.out _ ((Below.refl _ _).alloc (Nat.le_refl _) _)).mono ?_; rintro e w1 ⟨rfl, e1⟩; rw [e1]; clear e1 w1) | fail)
    refine bodyPost_ret (v := .agg #[.int .i64 d.n, .int .i64 d.k, .int .i64 d.p, .int .i64 d.a, .int .i64 d.b, .int .i64 d.m, .int .u32 d.s, .int .i64 d.key]) (by simp [results, Try.results32, go_sem]) rfl ⟨rfl, hidden ?_⟩
    exact (Below.refl _ _).alloc (Nat.le_refl _) _
  · rw [h1] at HA
    rw [h2]
    clear h hr h1 h2 h3
    go_enter Try.func32, Try.ntmps32
    go_wp2_with (first | (go_at_call 53; refine (HA.out _ ((Below.refl _ _).alloc (Nat.le_refl _) _)).mono ?_; rintro e w1 ⟨rfl, e1⟩; rw [e1]; clear e1 w1) | fail)
    refine bodyPost_ret (v := wdA wd0) (by simp [results, Try.results32, go_sem, wdA, wd0]) rfl ⟨rfl, hidden ?_⟩
    exact (Below.refl _ _).alloc (Nat.le_refl _) _
theorem dmethod_any (m : Int) (w : World) : Calls Try.prog 75 #[.int .i64 m] w fun e w' => e = .returned (.bool (mtdB m)) ∧ w' = w := by
  by_cases h1 : m ≥ 16
  · by_cases h2 : m < 20
    · rw [show mtdB m = true by simp [mtdB]; omega]
      go_enter Try.func75, Try.ntmps75
      go_wp2
      go_ret
      exact ⟨rfl, rfl⟩
    · by_cases h3 : m ≥ 32
      · by_cases h4 : m < 36
        · rw [show mtdB m = true by simp [mtdB]; omega]
          go_enter Try.func75, Try.ntmps75
          go_wp2
          go_ret
          exact ⟨rfl, rfl⟩
        · rw [show mtdB m = false by simp [mtdB]; omega]
          go_enter Try.func75, Try.ntmps75
          go_wp2
          go_ret
          exact ⟨rfl, rfl⟩
      · rw [show mtdB m = false by simp [mtdB]; omega]
        go_enter Try.func75, Try.ntmps75
        go_wp2
        go_ret
        exact ⟨rfl, rfl⟩
  · have h3 : ¬ m ≥ 32 := by omega
    rw [show mtdB m = false by simp [mtdB]; omega]
    go_enter Try.func75, Try.ntmps75
    go_wp2
    go_ret
    exact ⟨rfl, rfl⟩
def colB (m : Int) : Bool := decide (m.tmod 16 < 2)
theorem dcolumns_any (m : Int) (w : World) : Calls Try.prog 76 #[.int .i64 m] w fun e w' => e = .returned (.bool (colB m)) ∧ w' = w := by
  unfold colB
  obtain ⟨T, hT⟩ : ∃ T, m.tmod 16 = T := ⟨_, rfl⟩
  have hb : -16 ≤ T ∧ T ≤ 16 := by
    have h1 := Int.tmod_lt_of_pos m (show (0 : Int) < 16 by decide)
    have h2 : -16 < m.tmod 16 := by
      have := Int.lt_tmod_of_pos m (show (0 : Int) < 16 by decide)
      omega
    omega
  have hw : IntKind.i64.wrap T = T := by rw [IntKind.wrap_i64]; omega
  rw [hT]
  by_cases h : T < 2
  · rw [decide_eq_true h]
    go_enter Try.func76, Try.ntmps76
    go_wp2
    go_ret
    exact ⟨by simp, rfl⟩
  · rw [decide_eq_false h]
    go_enter Try.func76, Try.ntmps76
    go_wp2
    go_ret
    exact ⟨by simp, rfl⟩
theorem dnew_good (x y : Int) (w : World) (h : scrB x y = true) : Calls Try.prog 34 #[.int .i64 x, .int .i64 y] w fun e w' => e = .returned (.tuple #[.pointer (some ⟨w.heap.size, 0, none⟩), .int .i64 0]) ∧ Hid (QAt w.heap.size w' w.heap.size (.slice none 0 0) ⟨x, y, 0, 0, []⟩ ∧ Below w.heap.size w w') := by
  have hs : 0 ≤ x ∧ x ≤ 1000 ∧ 0 ≤ y ∧ y ≤ 1000 := by simpa [scrB] using h
  have l0 : ¬ x < 0 := by omega
  have l1 : ¬ x > 1000 := by omega
  have l2 : ¬ y < 0 := by omega
  have l3 : ¬ y > 1000 := by omega
  have HE : Hid (QAt w.heap.size (w.alloc (.cells #[.int .i64 x, .int .i64 y, .slice none 0 0, .int .i64 0] 46)) w.heap.size (.slice none 0 0) ⟨x, y, 0, 0, []⟩ ∧ Below w.heap.size w (w.alloc (.cells #[.int .i64 x, .int .i64 y, .slice none 0 0, .int .i64 0] 46))) := hidden
    ⟨⟨Nat.le_refl _, heap_alloc_new _ _, World.ownsRow_nil _ _ _ _⟩, (Below.refl _ _).alloc (Nat.le_refl _) _⟩
  clear h hs
  go_enter Try.func34, Try.ntmps34
  go_wp2
  go_ret2
  exact ⟨rfl, HE⟩
end Go.Proofs.Ytilfgbcbodjegaa
