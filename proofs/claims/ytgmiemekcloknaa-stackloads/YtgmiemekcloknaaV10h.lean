/- The document's stack: Right and Load. -/
import Derived.Test.YtgmiemekcloknaaV10g
namespace Go.Proofs.Ytgmiemekcloknaa
open Go.RowKit
set_option maxHeartbeats 1000000
set_option maxRecDepth 100000
set_option linter.unusedVariables false

def rightE (zs : List Int) (size : Nat) : Bool := decide (zs.length ≤ size) && rightB zs
theorem dright_few (a : Option Addr) (L c size : Nat) (zs : List Int) (w : World) (h : Reads w a L c zs) (hL : L ≤ 100000) (hs : size ≤ 100000) (hf : ¬ (L ≤ size ∧ L % 4 = 0 ∧ 16 ≤ L)) :
    Calls Try.prog 15 #[.slice a L c, .int .i64 size] w fun e w' => e = .returned (.bool (rightE zs size)) ∧ Below w.heap.size w w' := by
  have hl := h.1
  have e0 : rightE zs size = false := by
    unfold rightE
    cases e : rightB zs with
    | false => simp
    | true =>
      obtain ⟨g1, g2, g3⟩ := (rightB_iff zs).1 e
      rw [hl] at g1 g2 ⊢
      simp
      omega
  rw [e0]
  clear h hl e0
  have hmf := tmod4 L
  have hwm := wmod4 L
  by_cases h1 : L ≤ size
  · have d1 : ¬ (L : Int) > (size : Int) := by omega
    by_cases h4 : L % 4 = 0
    · rw [h4] at hmf hwm
      have d2 : (L : Int) < 16 := by omega
      clear h4 hf
      go_enter Try.func15, Try.ntmps15
      go_wp2
      go_ret
      exact ⟨rfl, Below.refl _ _⟩
    · clear hf
      generalize L % 4 = X at *
      have q1 : ((X : Int) == 0) = false := by simp; omega
      have q2 : ¬ (X : Int) = 0 := by omega
      go_enter Try.func15, Try.ntmps15
      go_wp2
      go_ret
      exact ⟨rfl, Below.refl _ _⟩
  · have d1 : (L : Int) > (size : Int) := by omega
    clear hf
    go_enter Try.func15, Try.ntmps15
    go_wp2
    go_ret
    exact ⟨rfl, Below.refl _ _⟩
theorem dright_any (a : Option Addr) (L c size : Nat) (zs : List Int) (w : World) (h : Reads w a L c zs) (hb : OkB zs) (hL : L ≤ 100000) (hs : size ≤ 100000) :
    Calls Try.prog 15 #[.slice a L c, .int .i64 size] w fun e w' => e = .returned (.bool (rightE zs size)) ∧ Below w.heap.size w w' := by
  by_cases hf : ¬ (L ≤ size ∧ L % 4 = 0 ∧ 16 ≤ L)
  · exact dright_few a L c size zs w h hL hs hf
  obtain ⟨h1, h4, h16⟩ : L ≤ size ∧ L % 4 = 0 ∧ 16 ≤ L := Classical.byContradiction hf
  have hl := h.1
  have er : rightE zs size = rightB zs := by unfold rightE; rw [decide_eq_true (by omega)]; simp
  rw [er]
  have HRB : Hid (∀ b : Bool, (b = true ↔ Chn zs (nu zs (L - 4)) (L - 16)) → rightB zs = b) := fun b hb => rightB_eq (by omega) (by omega) (by rw [hl]; exact hb)
  generalize hRB : rightB zs = RB at *
  have hmf := tmod4 L
  have hwm := wmod4 L
  rw [h4] at hmf hwm
  have d1 : ¬ (L : Int) > (size : Int) := by omega
  have d2 : ¬ (L : Int) < 16 := by omega
  have w16 : IntKind.i64.wrap ((L : Int) - 16) = ((L - 16 : Nat) : Int) := by rw [IntKind.wrap_i64]; omega
  have w12 : IntKind.i64.wrap (((L - 16 : Nat) : Int) + 12) = ((L - 4 : Nat) : Int) := by rw [IntKind.wrap_i64]; omega
  have HA : Hid (∀ (w1 : World) (p : Nat), Below w.heap.size w w1 → w1.cell? ⟨w.heap.size, 0, none⟩ = some (.slice a L c) → p + 4 ≤ L → Calls Try.prog 41 #[.pointer (some ⟨w.heap.size, 0, none⟩), .int .i64 p] w1 fun e w' => e = .returned (.int .i64 (nu zs p)) ∧ w' = w1) := fun w1 p hb1 hc hp => dat_any _ p a L c zs w1 hc (h.later hb1) hb hp (by omega)
  have HLI : Hid (∀ (w1 : World) (f t : Nat), Below w.heap.size w w1 → w1.cell? ⟨w.heap.size, 0, none⟩ = some (.slice a L c) → t ≤ L → f < 4294967296 → Calls Try.prog 42 #[.pointer (some ⟨w.heap.size, 0, none⟩), .int .i64 f, .int .i64 t] w1 fun e w' => e = .returned (.bool (decide (f % 4 = 0) && frB zs f t)) ∧ Below w1.heap.size w1 w') := fun w1 f t hb1 hc ht hf => dlies_any _ a L c f t zs w1 hc (h.later hb1) hb ht hL hf
  have HNL : Hid (∀ p, nu zs p < 4294967296) := fun p => nu_lt hb p
  have hb1 : Below w.heap.size w (w.alloc (.cells #[.slice a L c, .int .i64 0, .int .i64 0, .bool false] 61)) := (Below.refl _ _).alloc (Nat.le_refl _) _
  have hc1 : (w.alloc (.cells #[.slice a L c, .int .i64 0, .int .i64 0, .bool false] 61)).cell? ⟨w.heap.size, 0, none⟩ = some (.slice a L c) := by
    have hh := heap_alloc_new w (.cells #[.slice a L c, .int .i64 0, .int .i64 0, .bool false] 61)
    unfold World.cell?
    simp only
    rw [hh]; rfl
  have HA1 := hidden (HA.out _ (L - 4) hb1 hc1 (by omega))
  clear h hb hf er hRB hl h4
  have hFl := HNL.out (L - 4)
  generalize hF0 : nu zs (L - 4) = F0 at *
  generalize hT0 : L - 16 = T0 at *
  have HT0 := hidden hT0
  generalize hP4 : L - 4 = P4 at *
  clear hT0 hP4 hF0
  have HB1 := hidden hb1
  have HC1 := hidden hc1
  clear hb1 hc1
  go_enter Try.func15, Try.ntmps15
  go_wp2_with (first | (go_at_call 41; refine HA1.out.mono ?_; rintro e wA ⟨rfl, eA⟩; rw [eA]; clear eA))
  go_loopw [6, 7] (fun t_ f_ wr => ∃ (f t : Nat), t_ = .int .i64 t ∧ f_ = .int .i64 f ∧ f < 4294967296 ∧ t ≤ T0 ∧ Hid (Chn zs F0 T0 ↔ Chn zs f t) ∧ Hid (Below w.heap.size w wr ∧ wr.cell? ⟨w.heap.size, 0, none⟩ = some (.slice a L c))) (fun t_ _ _ => (intOf t_).toNat)
  case atStart => exact ⟨F0, T0, rfl, rfl, hFl, Nat.le_refl _, Iff.rfl, HB1.out, HC1.out⟩
  case round =>
    clear HA1 hFl
    obtain ⟨f, t, rfl, rfl, hf, ht, HQ, HW⟩ := hrel
    have HL1 := hidden (HLI.out wr f t HW.out.1 HW.out.2 (by have := HT0.out; omega) hf)
    have HN1 := hidden fun w1 (hb1 : Below wr.heap.size wr w1) (p : Nat) (hp : p + 4 ≤ L) => HA.out w1 p (HW.out.1.trans (hb1.mono HW.out.1.size)) (cellLater hb1 HW.out.2) hp
    have HWL : Hid (∀ w1, Below wr.heap.size wr w1 → Below w.heap.size w w1 ∧ w1.cell? ⟨w.heap.size, 0, none⟩ = some (.slice a L c)) := fun w1 hb1 => ⟨HW.out.1.trans (hb1.mono HW.out.1.size), cellLater hb1 HW.out.2⟩
    clear HW
    cases hli : (decide (f % 4 = 0) && frB zs f t) with
    | false =>
      rw [hli] at HL1
      have e1 := HRB.out false ⟨fun h => (by cases h), fun h => by
        have := chn_iff.1 (HQ.out.1 h)
        rw [decide_eq_true this.1, (frB_iff zs f t).2 this.2.2.1] at hli
        cases hli⟩
      subst e1
      clear hli
      go_wp2_with (first | (go_at_call 42; refine HL1.out.mono ?_; rintro e wB ⟨rfl, hbB⟩))
      go_ret
      exact ⟨rfl, (HWL.out _ hbB).1⟩
    | true =>
      rw [hli] at HL1
      simp only [Bool.and_eq_true, decide_eq_true_eq, frB_iff] at hli
      obtain ⟨q4, qf⟩ := hli
      have hbd := qf.bd
      by_cases z0 : f = 0
      · subst z0
        have e1 := HRB.out true ⟨fun _ => HQ.out.2 (.base qf), fun _ => rfl⟩
        subst e1
        clear hbd
        go_wp2_with (first | (go_at_call 42; refine HL1.out.mono ?_; rintro e wB ⟨rfl, hbB⟩))
        go_ret
        exact ⟨rfl, (HWL.out _ hbB).1⟩
      · have qz : ((f : Int) == 0) = false := by simp; omega
        have qz2 : ¬ (f : Int) = 0 := by omega
        by_cases z1 : f < 16
        · have e1 := HRB.out false ⟨fun h => (by cases h), fun h => by
            have := chn_iff.1 (HQ.out.1 h)
            omega⟩
          subst e1
          have d3 : (f : Int) < 16 := by omega
          clear hbd
          go_wp2_with (first | (go_at_call 42; refine HL1.out.mono ?_; rintro e wB ⟨rfl, hbB⟩))
          go_ret
          exact ⟨rfl, (HWL.out _ hbB).1⟩
        · have d3 : ¬ (f : Int) < 16 := by omega
          have v1 : IntKind.i64.wrap ((f : Int) - 16) = ((f - 16 : Nat) : Int) := by rw [IntKind.wrap_i64]; omega
          have v2 : IntKind.i64.wrap (((f - 16 : Nat) : Int) + 12) = ((f - 4 : Nat) : Int) := by rw [IntKind.wrap_i64]; omega
          have HNX := hidden fun w1 (hb1 : Below wr.heap.size wr w1) => HN1.out w1 hb1 (f - 4) (by have := HT0.out; omega)
          have HQ2 : Hid (Chn zs F0 T0 ↔ Chn zs (nu zs (f - 4)) (f - 16)) := HQ.out.trans ⟨fun h => (h.lt z0).2.2, fun h => chn_iff.2 ⟨q4, .inr (by omega), qf, .inr h⟩⟩
          have hnl := HNL.out (f - 4)
          generalize nu zs (f - 4) = N at *
          generalize hT1 : f - 16 = T1 at *
          generalize hP1 : f - 4 = P1 at *
          have hm1 : T1 < t ∧ T1 ≤ T0 := by omega
          clear hT1 hP1 hbd
          go_wp2_with (first | (go_at_call 42; refine HL1.out.mono ?_; rintro e wB ⟨rfl, hbB⟩) | (go_at_call 41; refine (HNX.out _ hbB).mono ?_; rintro e wC ⟨rfl, eC⟩; rw [eC]; clear eC))
          go_roundw
          case rel => exact ⟨N, T1, rfl, rfl, hnl, hm1.2, HQ2, HWL.out _ hbB⟩
          case measure => simp [intOf]; omega
end Go.Proofs.Ytgmiemekcloknaa
