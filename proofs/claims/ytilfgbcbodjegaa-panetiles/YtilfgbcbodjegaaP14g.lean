/- Layer 14, the program: a window is opened. -/
import Derived.Test.YtilfgbcbodjegaaP14f
namespace Go.Proofs.Ytilfgbcbodjegaa
open Go.RowKit
set_option maxHeartbeats 1000000
set_option maxRecDepth 100000
set_option linter.unusedVariables false

def hasB (L : List Wd) (x : Int) : Bool := L.any (fun d => d.n == x)
theorem hasB_iff {L : List Wd} {x : Int} : hasB L x = true ↔ hasW L x := by
  unfold hasB hasW
  rw [List.any_eq_true]
  simp
theorem hasB_no {L : List Wd} {x : Int} : hasB L x = false ↔ ∀ d ∈ L, d.n ≠ x := by
  unfold hasB
  rw [List.any_eq_false]
  simp
/-- why a window cannot be opened so -/
def mayE (s : Ps) (split method kind : Int) : Int :=
  if ¬ (kind = 1 ∨ kind = 2 ∨ kind = 3) then 1 else if split = 0 then (if s.root = 0 then 0 else 6) else if hasB s.L split = false then 5 else if mtdB method = false then 1 else if 62 < s.L.length then 4 else 0
set_option maxHeartbeats 4000000 in
theorem mayOpen_any {B m : Nat} {v : Value} {s : Ps} {w : World} (h : PAt B w m v s) (ho : OkP s) (split method kind : Int) (hm0 : -9223372036854775808 ≤ method) (hm1 : method ≤ 9223372036854775807) :
    Calls Try.prog 38 #[.pointer (some ⟨m, 0, none⟩), .int .i64 split, .int .i64 method, .int .i64 kind] w fun e w' => e = .returned (.int .i64 (mayE s split method kind)) ∧ Below w.heap.size w w' := by
  obtain ⟨d0, d1, d2, d3, d4, d5⟩ := h.cells
  obtain ⟨E, hE⟩ : ∃ E, mayE s split method kind = E := ⟨_, rfl⟩
  rw [hE]
  unfold mayE at hE
  by_cases hk : kind = 1 ∨ kind = 2 ∨ kind = 3
  · rw [if_neg (fun q => q hk)] at hE
    by_cases hs : split = 0
    · rw [if_pos hs] at hE
      subst hs
      by_cases hr : s.root = 0
      · rw [if_pos hr] at hE
        rw [hr] at d2
        subst hE
        clear h hr
        rcases hk with rfl | rfl | rfl
        all_goals
          go_enter Try.func38, Try.ntmps38
          go_wp2
          go_ret
          exact ⟨rfl, Below.refl _ _⟩
      · rw [if_neg hr] at hE
        subst hE
        have q1 : (s.root == 0) = false := by simp [hr]
        generalize s.root = RT at *
        clear h
        rcases hk with rfl | rfl | rfl
        all_goals
          go_enter Try.func38, Try.ntmps38
          go_wp2
          go_ret
          exact ⟨rfl, Below.refl _ _⟩
    · rw [if_neg hs] at hE
      have q0 : (split == 0) = false := by simp [hs]
      by_cases hh : hasB s.L split = false
      · rw [if_pos hh] at hE
        subst hE
        have HA := hidden (at_none h ho.so (by have := ho.few; omega) split (hasB_no.1 hh))
        clear h hh
        rcases hk with rfl | rfl | rfl
        all_goals
          go_enter Try.func38, Try.ntmps38
          go_wp2_with (first | (go_at_call 36; refine HA.out.mono ?_; rintro e w1 ⟨rfl, hb1⟩; have HB1 := hidden hb1; clear hb1) | fail)
          go_ret
          exact ⟨rfl, HB1.out⟩
      · rw [if_neg hh] at hE
        have hW : hasW s.L split := hasB_iff.1 (by simpa using hh)
        obtain ⟨i, hi, hx⟩ := has_ix hW
        obtain ⟨g, c, hv, _⟩ := wrow_pos h.row (by omega)
        have HA := hidden (at_some h ho.so (by have := ho.few; omega) i hi g c hv split hx)
        have HD : Hid (∀ w1, Below w.heap.size w w1 → w1.cell? ⟨m, 4, none⟩ = some (.slice (some ⟨g, 0, none⟩) s.L.length c)) := hidden (fun w1 hb => by rw [← hv]; exact (h.later hb).cells.2.2.2.2.1)
        have HM := hidden fun wx => isMethod_any method wx hm0 hm1
        have hfew := ho.few
        by_cases hmt : mtdB method = false
        · rw [if_pos hmt] at hE
          subst hE
          rw [hmt] at HM
          clear h hh hx hv hW hmt
          rcases hk with rfl | rfl | rfl
          all_goals
            go_enter Try.func38, Try.ntmps38
            go_wp2_with (first | (go_at_call 36; refine HA.out.mono ?_; rintro e w1 ⟨rfl, hb1⟩; have HB1 := hidden hb1; clear hb1) | (go_at_call 49; refine (HM.out _).mono ?_; rintro e w2 ⟨rfl, e2⟩; rw [e2]; clear e2) | fail)
            go_ret
            exact ⟨rfl, HB1.out⟩
        · rw [if_neg hmt] at hE
          rw [show mtdB method = true by simpa using hmt] at HM
          obtain ⟨N, hN⟩ : ∃ N, s.L.length = N := ⟨_, rfl⟩
          rw [hN] at hE HD hfew
          clear h hh hx hv hW hmt hN hi d4
          by_cases hl : 62 < N
          · rw [if_pos hl] at hE
            subst hE
            have q5 : (64 : Int) < (N : Int) + 2 := by omega
            rcases hk with rfl | rfl | rfl
            all_goals
              go_enter Try.func38, Try.ntmps38
              go_wp2_with (first | (go_at_call 36; refine HA.out.mono ?_; rintro e w1 ⟨rfl, hb1⟩; have HB1 := hidden hb1; have z1 := HD.out _ hb1; clear hb1) | (go_at_call 49; refine (HM.out _).mono ?_; rintro e w2 ⟨rfl, e2⟩; rw [e2]; clear e2) | fail)
              go_ret
              exact ⟨rfl, HB1.out⟩
          · rw [if_neg hl] at hE
            subst hE
            have q5 : ¬ (64 : Int) < (N : Int) + 2 := by omega
            rcases hk with rfl | rfl | rfl
            all_goals
              go_enter Try.func38, Try.ntmps38
              go_wp2_with (first | (go_at_call 36; refine HA.out.mono ?_; rintro e w1 ⟨rfl, hb1⟩; have HB1 := hidden hb1; have z1 := HD.out _ hb1; clear hb1) | (go_at_call 49; refine (HM.out _).mono ?_; rintro e w2 ⟨rfl, e2⟩; rw [e2]; clear e2) | fail)
              go_ret
              exact ⟨rfl, HB1.out⟩
  · rw [if_pos hk] at hE
    subst hE
    have k1 : (kind != 1) = true := by rw [bne_iff_ne]; omega
    have k2 : (kind != 2) = true := by rw [bne_iff_ne]; omega
    have k3 : (kind != 3) = true := by rw [bne_iff_ne]; omega
    clear h hk
    go_enter Try.func38, Try.ntmps38
    go_wp2
    go_ret
    exact ⟨rfl, Below.refl _ _⟩
/-- one window more, which lies nowhere yet -/
def addS (s : Ps) (d : Wd) : Ps := { s with last := s.last + 1, L := s.L ++ [{ d with n := s.last + 1 }] }
/-- its numbers are not above the last one -/
structure OkL (s : Ps) : Prop extends OkP s where
  l0 : 0 ≤ s.last
  l1 : s.last ≤ 100000
  top : ∀ d ∈ s.L, d.n ≤ s.last
theorem add_ok {s : Ps} (h : OkL s) (d : Wd) (hf : s.L.length ≤ 150) (hl : s.last ≤ 99999) : OkL (addS s d) := by
  have l0 := h.l0
  refine ⟨⟨⟨fun i j hij hj hi => ?_⟩, by simp [addS]; omega, fun x hx => ?_⟩, by simp [addS]; omega, by simp [addS]; omega, fun x hx => ?_⟩
  · simp only [addS, List.length_append, List.length_cons, List.length_nil] at hj hi ⊢
    have hi' : i < s.L.length := by omega
    rw [List.getElem_append_left hi']
    by_cases hj' : j < s.L.length
    · rw [List.getElem_append_left hj']
      exact h.so.rise i j hij hj' hi'
    · rw [List.getElem_append_right (by omega)]
      have := h.top s.L[i] (List.getElem_mem hi')
      simp
      omega
  · simp only [addS, List.mem_append, List.mem_singleton] at hx
    rcases hx with hx | rfl
    · exact h.pos x hx
    · show 0 < s.last + 1; omega
  · simp only [addS, List.mem_append, List.mem_singleton] at hx ⊢
    rcases hx with hx | rfl
    · have := h.top x hx; omega
    · show s.last + 1 ≤ s.last + 1; omega
theorem of_app {L K : List Wd} {x : Int} (h : hasW L x) : ofW (L ++ K) x = ofW L x := by
  unfold ofW
  rw [List.find?_append]
  cases hf : L.find? (fun d => d.n == x) with
  | none =>
    obtain ⟨d, hd, e⟩ := h
    have := List.find?_eq_none.1 hf d hd
    simp [e] at this
  | some d => rfl
theorem of_last {L K : List Wd} {d : Wd} {x : Int} (h : ∀ d ∈ L, d.n ≠ x) (hd : d.n = x) : ofW (L ++ d :: K) x = d := by
  unfold ofW
  rw [List.find?_append, List.find?_eq_none.2 (fun d hd => by simpa using h d hd), Option.none_or, List.find?_cons_of_pos (by simpa using hd)]
  rfl
theorem has_app {L K : List Wd} {x : Int} (h : hasW L x) : hasW (L ++ K) x := by
  obtain ⟨d, hd, e⟩ := h
  exact ⟨d, List.mem_append_left _ hd, e⟩
/-- behind a call that opens -/
def openS (s : Ps) (split method size kind : Int) : Ps :=
  if split = 0 then { addS s ⟨0, kind, 0, 0, 0, 0, 0, 0⟩ with root := s.last + 1 }
  else joinS (putS (addS (addS s ⟨0, kind, 0, 0, 0, 0, 0, 0⟩) ⟨0, 4, 0, 0, 0, method, size, s.last + 1⟩) split (s.last + 2)) (s.last + 2) (s.last + 1) split
theorem put_has {s : Ps} (o n x : Int) : hasW (putS s o n).L x ↔ hasW s.L x := by
  unfold putS
  split
  · exact upd_has _ _ _ (parF_n _)
  · exact (upd_has _ _ _ (kidF_n _ _)).trans (upd_has _ _ _ (parF_n _))
theorem put_ok {s : Ps} (h : OkP s) (o n : Int) : OkP (putS s o n) := by
  unfold putS
  split
  · have q := upd_ok h n (parF 0) (parF_n 0)
    exact ⟨q.so, q.few, q.pos⟩
  · exact upd_ok (s := { s with L := updW s.L n (parF (ofW s.L o).p) }) (upd_ok h n _ (parF_n _)) _ _ (kidF_n _ _)
theorem kidF_m (o n : Int) (d : Wd) : (kidF o n d).m = d.m := by
  unfold kidF
  by_cases h1 : d.a = o
  · rw [if_pos h1]
  · rw [if_neg h1]
    by_cases h2 : d.b = o
    · rw [if_pos h2]
    · rw [if_neg h2]
theorem put_m {s : Ps} (o n x : Int) (hx : hasW s.L x) : (ofW (putS s o n).L x).m = (ofW s.L x).m := by
  unfold putS
  split
  · simp only
    rw [upd_of _ _ _ (parF_n _) hx]
    split <;> rfl
  · simp only
    rw [upd_of _ _ _ (kidF_n _ _) ((upd_has _ _ _ (parF_n _)).2 hx), upd_of _ _ _ (parF_n _) hx]
    split
    · rw [kidF_m]
      split <;> rfl
    · split <;> rfl
/-- a window's parent is there, and has it as a child -/
def ParOk (s : Ps) : Prop := ∀ d ∈ s.L, d.p ≠ 0 → hasW s.L d.p ∧ ((ofW s.L d.p).a = d.n ∨ (ofW s.L d.p).b = d.n)
theorem ParOk.of {s : Ps} (h : ParOk s) (ho : OkP s) (x : Int) (hx : hasW s.L x) (h0 : (ofW s.L x).p ≠ 0) : hasW s.L (ofW s.L x).p ∧ ((ofW s.L (ofW s.L x).p).a = x ∨ (ofW s.L (ofW s.L x).p).b = x) := by
  obtain ⟨i, hi, e⟩ := has_ix hx
  have he := ofW_at ho.so hi e
  have := h s.L[i] (List.getElem_mem hi) (by rw [← he]; exact h0)
  rw [he, ← e]
  exact this
theorem open_bad {B m : Nat} {v : Value} {s : Ps} {w : World} (h : PAt B w m v s) (ho : OkP s) (split method size kind : Int) (hm0 : -9223372036854775808 ≤ method) (hm1 : method ≤ 9223372036854775807) (hE : mayE s split method kind ≠ 0) :
    Calls Try.prog 19 #[.pointer (some ⟨m, 0, none⟩), .int .i64 split, .int .i64 method, .int .u32 size, .int .i64 kind] w fun e w' => e = .returned (.tuple #[.int .i64 0, .int .i64 (mayE s split method kind)]) ∧ Below w.heap.size w w' := by
  have HM := hidden (mayOpen_any h ho split method kind hm0 hm1)
  generalize mayE s split method kind = E at *
  have q : (E != 0) = true := by rw [bne_iff_ne]; exact hE
  clear h hE
  go_enter Try.func19, Try.ntmps19
  go_wp2_with (first | (go_at_call 38; refine HM.out.mono ?_; rintro e w1 ⟨rfl, hb1⟩; have HB1 := hidden hb1; clear hb1) | fail)
  go_ret2
  exact ⟨rfl, HB1.out⟩
/-- what Open leaves -/
def OpR (B m : Nat) (v : Value) (w : World) (s' : Ps) (x : Int) (e : Ending) (w' : World) : Prop := e = .returned (.tuple #[.int .i64 x, .int .i64 0]) ∧ ∃ v', PAt B w' m v' s' ∧ Fm w w' (TP m v) (TP m v')
set_option maxHeartbeats 8000000 in
theorem open_root {B m : Nat} {v : Value} {s : Ps} {w : World} (h : PAt B w m v s) (ho : OkL s) (hB : B ≤ w.heap.size) (method size kind : Int) (hm0 : -9223372036854775808 ≤ method) (hm1 : method ≤ 9223372036854775807) (hE : mayE s 0 method kind = 0) :
    Calls Try.prog 19 #[.pointer (some ⟨m, 0, none⟩), .int .i64 0, .int .i64 method, .int .u32 size, .int .i64 kind] w (OpR B m v w (openS s 0 method size kind) (s.last + 1)) := by
  have HM := hidden (mayOpen_any h ho.toOkP 0 method kind hm0 hm1)
  rw [hE] at HM
  have l0 := ho.l0
  have l1 := ho.l1
  have hfew := ho.few
  have HAD : Hid (∀ w1, Below w.heap.size w w1 → Calls Try.prog 39 #[.pointer (some ⟨m, 0, none⟩), .agg #[.int .i64 0, .int .i64 kind, .int .i64 0, .int .i64 0, .int .i64 0, .int .i64 0, .int .u32 0, .int .i64 0]] w1 fun e w' => e = .returned (.int .i64 (s.last + 1)) ∧ Hid (∃ v', PAt B w' m v' (addS s ⟨0, kind, 0, 0, 0, 0, 0, 0⟩) ∧ Fm w w' (TP m v) (TP m v'))) := hidden (fun w1 hb => (add_any (h.later hb) (Nat.le_trans hB hb.size) ⟨l0, by omega⟩ (by omega) ⟨0, kind, 0, 0, 0, 0, 0, 0⟩).mono (fun e w' hh => ⟨hh.1, hidden (by
    obtain ⟨v', g1, g2⟩ := hh.2
    exact ⟨v', g1, (Fm.same hb).trans g2⟩)⟩))
  have HFIN : Hid (∀ w1 v', PAt B w1 m v' (addS s ⟨0, kind, 0, 0, 0, 0, 0, 0⟩) → Fm w w1 (TP m v) (TP m v') → OpR B m v w (openS s 0 method size kind) (s.last + 1) (.returned (.tuple #[.int .i64 (s.last + 1), .int .i64 0])) (w1.setCell ⟨m, 2, none⟩ (.int .i64 (s.last + 1)))) := hidden (fun w1 v' h1 f1 => by
    obtain ⟨g1, g2⟩ := h1.set2 (s.last + 1)
    refine ⟨rfl, v', ?_, f1.trans g2⟩
    unfold openS
    rw [if_pos rfl]
    exact g1)
  generalize hPQ : OpR B m v w (openS s 0 method size kind) (s.last + 1) = PQ at *
  generalize addS s ⟨0, kind, 0, 0, 0, 0, 0, 0⟩ = S1 at *
  generalize s.last + 1 = LL at *
  clear h ho hE hPQ
  go_enter Try.func19, Try.ntmps19
  go_upto_region 5 with (first | (go_at_call 38; refine HM.out.mono ?_; rintro e w1 ⟨rfl, hb1⟩; have HB1 := hidden hb1; clear hb1) | (go_at_call 39; refine (HAD.out _ HB1.out).mono ?_; rintro e w2 ⟨rfl, HQ⟩) | fail)
  obtain ⟨v', h2, f2⟩ := HQ.out
  have HP2 := hidden h2
  have HF2 := hidden f2
  have k1 := h2.cells.2.2.1
  have k2 := h2.cells.2.2.2.2.2 2
  clear h2 f2 HQ HAD HM
  go_wp2
  exact HFIN.out _ _ HP2.out HF2.out
end Go.Proofs.Ytilfgbcbodjegaa
