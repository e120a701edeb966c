/- Layer 14, the program: what is told of a window. -/
import Derived.Test.YtilfgbcbodjegaaP14b
namespace Go.Proofs.Ytilfgbcbodjegaa
open Go.RowKit
set_option maxHeartbeats 1000000
set_option maxRecDepth 100000
set_option linter.unusedVariables false

/-- the window of a number; a zero one, if there is none -/
def ofW (L : List Wd) (x : Int) : Wd := (L.find? (fun d => d.n == x)).getD wd0
def hasW (L : List Wd) (x : Int) : Prop := ∃ d ∈ L, d.n = x
theorem ofW_none {L : List Wd} {x : Int} (h : ∀ d ∈ L, d.n ≠ x) : ofW L x = wd0 := by
  unfold ofW
  rw [List.find?_eq_none.2 (fun d hd => by simpa using h d hd)]
  rfl
theorem Sorted.inj {L : List Wd} (h : Sorted L) {i j : Nat} (hi : i < L.length) (hj : j < L.length) (e : L[i].n = L[j].n) : i = j := by
  rcases (show i < j ∨ i = j ∨ j < i by omega) with q | q | q
  · have := h.rise i j q hj hi; omega
  · exact q
  · have := h.rise j i q hi hj; omega
theorem ofW_at {L : List Wd} (h : Sorted L) {i : Nat} (hi : i < L.length) {x : Int} (hx : L[i].n = x) : ofW L x = L[i] := by
  unfold ofW
  cases hf : L.find? (fun d => d.n == x) with
  | none =>
    have := List.find?_eq_none.1 hf L[i] (List.getElem_mem hi)
    simp [hx] at this
  | some d =>
    have hd := List.find?_some hf
    have hm := List.mem_of_find?_eq_some hf
    obtain ⟨j, hj, rfl⟩ := List.getElem_of_mem hm
    have : j = i := h.inj hj hi (by simp at hd; rw [hd, hx])
    subst this
    rfl
theorem has_or (L : List Wd) (x : Int) : (∃ i, ∃ h : i < L.length, L[i].n = x) ∨ ∀ d ∈ L, d.n ≠ x := by
  by_cases h : ∃ d ∈ L, d.n = x
  · obtain ⟨d, hd, e⟩ := h
    obtain ⟨i, hi, rfl⟩ := List.getElem_of_mem hd
    exact .inl ⟨i, hi, e⟩
  · exact .inr (fun d hd e => h ⟨d, hd, e⟩)
/-- a tree of the program's in order: its windows rise, and are few -/
structure OkP (s : Ps) : Prop where
  so : Sorted s.L
  few : s.L.length ≤ 200
  pos : ∀ d ∈ s.L, 0 < d.n
theorem OkP.zero {s : Ps} (h : OkP s) : ofW s.L 0 = wd0 := ofW_none (fun d hd => by have := h.pos d hd; omega)

theorem below_drewN {B : Nat} {w w1 : World} (h : Below B w w1) (n : Nat) : Below B w (w1.drewN n) := h.trans ⟨rfl, rfl, rfl, Nat.le_refl _, fun _ _ => rfl⟩
theorem kind_any {B m : Nat} {v : Value} {s : Ps} {w : World} (h : PAt B w m v s) (ho : OkP s) (x : Int) :
    Calls Try.prog 15 #[.pointer (some ⟨m, 0, none⟩), .int .i64 x] w fun e w' => e = .returned (.int .i64 (ofW s.L x).k) ∧ Below w.heap.size w w' := by
  rcases has_or s.L x with ⟨i, hi, hx⟩ | hno
  · obtain ⟨g, c, hv, _⟩ := wrow_pos h.row (by omega)
    have HA := hidden (at_some h ho.so (by have := ho.few; omega) i hi g c hv x hx)
    rw [ofW_at ho.so hi hx]
    have HC : Hid (∀ w', Below w.heap.size w w' → w'.cell? ⟨g, i * 8 + 1, none⟩ = some (.int .i64 s.L[i].k)) := hidden (fun w' hb => by
      have q := (h.later hb).row
      rw [hv] at q
      exact (wrow_cells q i hi).2.1)
    generalize s.L[i].k = K at *
    clear h hx hv
    go_enter Try.func15, Try.ntmps15
    go_wp2_with (first | (go_at_call 36; refine HA.out.mono ?_; rintro e w1 ⟨rfl, hb1⟩; have hc1 := HC.out _ hb1; have HB1 := hidden hb1; clear hb1) | fail)
    go_ret
    exact ⟨rfl, HB1.out⟩
  · have HA := hidden (at_none h ho.so (by have := ho.few; omega) x hno)
    rw [ofW_none hno]
    clear h hno
    go_enter Try.func15, Try.ntmps15
    go_wp2_with (first | (go_at_call 36; refine HA.out.mono ?_; rintro e w1 ⟨rfl, hb1⟩; have HB1 := hidden hb1; clear hb1) | fail)
    go_ret
    exact ⟨rfl, HB1.out⟩
theorem parent_any {B m : Nat} {v : Value} {s : Ps} {w : World} (h : PAt B w m v s) (ho : OkP s) (x : Int) :
    Calls Try.prog 21 #[.pointer (some ⟨m, 0, none⟩), .int .i64 x] w fun e w' => e = .returned (.int .i64 (ofW s.L x).p) ∧ Below w.heap.size w w' := by
  rcases has_or s.L x with ⟨i, hi, hx⟩ | hno
  · obtain ⟨g, c, hv, _⟩ := wrow_pos h.row (by omega)
    have HA := hidden (at_some h ho.so (by have := ho.few; omega) i hi g c hv x hx)
    rw [ofW_at ho.so hi hx]
    have HC : Hid (∀ w', Below w.heap.size w w' → w'.cell? ⟨g, i * 8 + 2, none⟩ = some (.int .i64 s.L[i].p)) := hidden (fun w' hb => by
      have q := (h.later hb).row
      rw [hv] at q
      exact (wrow_cells q i hi).2.2.1)
    generalize s.L[i].p = K at *
    clear h hx hv
    go_enter Try.func21, Try.ntmps21
    go_wp2_with (first | (go_at_call 36; refine HA.out.mono ?_; rintro e w1 ⟨rfl, hb1⟩; have hc1 := HC.out _ hb1; have HB1 := hidden hb1; clear hb1) | fail)
    go_ret
    exact ⟨rfl, HB1.out⟩
  · have HA := hidden (at_none h ho.so (by have := ho.few; omega) x hno)
    rw [ofW_none hno]
    clear h hno
    go_enter Try.func21, Try.ntmps21
    go_wp2_with (first | (go_at_call 36; refine HA.out.mono ?_; rintro e w1 ⟨rfl, hb1⟩; have HB1 := hidden hb1; clear hb1) | fail)
    go_ret
    exact ⟨rfl, HB1.out⟩
theorem kids_any {B m : Nat} {v : Value} {s : Ps} {w : World} (h : PAt B w m v s) (ho : OkP s) (x : Int) :
    Calls Try.prog 17 #[.pointer (some ⟨m, 0, none⟩), .int .i64 x] w fun e w' => e = .returned (.tuple #[.int .i64 (ofW s.L x).a, .int .i64 (ofW s.L x).b]) ∧ Below w.heap.size w w' := by
  rcases has_or s.L x with ⟨i, hi, hx⟩ | hno
  · obtain ⟨g, c, hv, _⟩ := wrow_pos h.row (by omega)
    have HA := hidden (at_some h ho.so (by have := ho.few; omega) i hi g c hv x hx)
    rw [ofW_at ho.so hi hx]
    have HC : Hid (∀ w', Below w.heap.size w w' → w'.cell? ⟨g, i * 8 + 3, none⟩ = some (.int .i64 s.L[i].a) ∧ w'.cell? ⟨g, i * 8 + 4, none⟩ = some (.int .i64 s.L[i].b)) := hidden (fun w' hb => by
      have q := (h.later hb).row
      rw [hv] at q
      exact ⟨(wrow_cells q i hi).2.2.2.1, (wrow_cells q i hi).2.2.2.2.1⟩)
    generalize s.L[i].a = K at *
    generalize s.L[i].b = K2 at *
    clear h hx hv
    go_enter Try.func17, Try.ntmps17
    go_wp2_with (first | (go_at_call 36; refine HA.out.mono ?_; rintro e w1 ⟨rfl, hb1⟩; obtain ⟨hc1, hc2⟩ := HC.out _ hb1; have HB1 := hidden hb1; clear hb1) | fail)
    go_quiet (fail)
    all_goals (try go_wp2)
    go_ret2
    exact ⟨rfl, below_drewN HB1.out _⟩
  · have HA := hidden (at_none h ho.so (by have := ho.few; omega) x hno)
    rw [ofW_none hno]
    clear h hno
    go_enter Try.func17, Try.ntmps17
    go_wp2_with (first | (go_at_call 36; refine HA.out.mono ?_; rintro e w1 ⟨rfl, hb1⟩; have HB1 := hidden hb1; clear hb1) | fail)
    go_ret2
    exact ⟨rfl, HB1.out⟩
/-- the other child of a window's parent -/
def sibW (L : List Wd) (x : Int) : Int := if (ofW L (ofW L x).p).a = x then (ofW L (ofW L x).p).b else (ofW L (ofW L x).p).a
theorem sibling_any {B m : Nat} {v : Value} {s : Ps} {w : World} (h : PAt B w m v s) (ho : OkP s) (x : Int) :
    Calls Try.prog 26 #[.pointer (some ⟨m, 0, none⟩), .int .i64 x] w fun e w' => e = .returned (.int .i64 (sibW s.L x)) ∧ Below w.heap.size w w' := by
  have HP := hidden (parent_any h ho x)
  have HK : Hid (∀ w1, Below w.heap.size w w1 → Calls Try.prog 17 #[.pointer (some ⟨m, 0, none⟩), .int .i64 (ofW s.L x).p] w1 fun e w' => e = .returned (.tuple #[.int .i64 (ofW s.L (ofW s.L x).p).a, .int .i64 (ofW s.L (ofW s.L x).p).b]) ∧ Below w1.heap.size w1 w') := hidden (fun w1 hb => kids_any (h.later hb) ho _)
  unfold sibW
  generalize (ofW s.L (ofW s.L x).p).a = KA at *
  generalize (ofW s.L (ofW s.L x).p).b = KB at *
  generalize (ofW s.L x).p = PP at *
  clear h
  by_cases e : KA = x
  · rw [if_pos e]
    have q : (KA == x) = true := by simp [e]
    clear e
    go_enter Try.func26, Try.ntmps26
    go_wp2_with (first | (go_at_call 21; refine HP.out.mono ?_; rintro e w1 ⟨rfl, hb1⟩; have HB1 := hidden hb1; clear hb1) | (go_at_call 17; refine (HK.out _ HB1.out).mono ?_; rintro e w2 ⟨rfl, hb2⟩; have HB2 := hidden (HB1.out.trans (hb2.mono HB1.out.size)); clear hb2) | fail)
    go_ret
    exact ⟨rfl, HB2.out⟩
  · rw [if_neg e]
    have q : (KA == x) = false := by simp [e]
    clear e
    go_enter Try.func26, Try.ntmps26
    go_wp2_with (first | (go_at_call 21; refine HP.out.mono ?_; rintro e w1 ⟨rfl, hb1⟩; have HB1 := hidden hb1; clear hb1) | (go_at_call 17; refine (HK.out _ HB1.out).mono ?_; rintro e w2 ⟨rfl, hb2⟩; have HB2 := hidden (HB1.out.trans (hb2.mono HB1.out.size)); clear hb2) | fail)
    go_ret
    exact ⟨rfl, HB2.out⟩
end Go.Proofs.Ytilfgbcbodjegaa
