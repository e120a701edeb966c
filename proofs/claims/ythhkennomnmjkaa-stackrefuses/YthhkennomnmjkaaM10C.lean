/- The document's stack: which bytes are a stack (lies, Right). The document's stack: Right and Load. -/
import Derived.Test.YthhkennomnmjkaaV10d
import Derived.Test.YthhkennomnmjkaaT10d
namespace Go.Proofs.Ythhkennomnmjkaa
open Go.RowKit
set_option maxHeartbeats 1000000
set_option maxRecDepth 100000
set_option linter.unusedVariables false

theorem tmod4 (f : Nat) : (f : Int).tmod 4 = ((f % 4 : Nat) : Int) := by rw [Int.tmod_eq_emod_of_nonneg (by omega)]; omega
theorem wmod4 (f : Nat) : IntKind.i64.wrap ((f % 4 : Nat) : Int) = ((f % 4 : Nat) : Int) := by rw [IntKind.wrap_i64]; omega
theorem dlies_any (m : Nat) (a : Option Addr) (n c f t : Nat) (zs : List Int) (w : World) (hm : w.cell? ⟨m, 0, none⟩ = some (.slice a n c)) (h : Reads w a n c zs) (hb : OkB zs) (ht : t ≤ n) (hn : n ≤ 100000) (hf : f < 4294967296) :
    Calls Try.prog 93 #[.pointer (some ⟨m, 0, none⟩), .int .i64 f, .int .i64 t] w fun e w' => e = .returned (.bool (decide (f % 4 = 0) && frB zs f t)) ∧ Below w.heap.size w w' := by
  have hmf := tmod4 f
  have hwm := wmod4 f
  have w10 : IntKind.i64.wrap ((f : Int) + 10) = (f : Int) + 10 := by rw [IntKind.wrap_i64]; omega
  by_cases m4 : f % 4 = 0
  · rw [m4] at hmf hwm
    rw [decide_eq_true m4, Bool.true_and]
    have HM4 := hidden m4
    clear m4
    by_cases h8 : t < f + 10
    · rw [frB_no (fun k => by have := k.bd; omega)]
      have d : (f : Int) + 10 > (t : Int) := by omega
      go_enter Try.func93, Try.ntmps93
      go_wp2
      go_ret
      exact ⟨rfl, Below.refl _ _⟩
    have hl := h.1
    have hcn : n ≤ c := h.2.1
    obtain ⟨g, o, rfl, hB⟩ := h.bs (by omega)
    obtain ⟨A, hA⟩ : ∃ A, A = f + 8 := ⟨_, rfl⟩
    obtain ⟨T, hT⟩ : ∃ T, T = t - f - 8 := ⟨_, rfl⟩
    have hys : (seg zs A T).length = T := seg_len zs A T (by omega)
    have hrd : ∀ K, K ≤ T → ∀ w1, Below w.heap.size w w1 → Reads w1 (some ⟨g, o + A, none⟩) K (c - A) ((seg zs A T).take K) := fun K hK w1 hb1 => by
      have := ((hB.later hb1).sub A K (c - A) (by omega) (by omega))
      unfold seg at this ⊢
      rw [List.take_take, Nat.min_eq_left hK]
      exact this
    have HFO : Hid (Calls Try.prog 85 #[.slice (some ⟨g, o + A, none⟩) T (c - A)] w fun e w' => e = .returned (.int .i64 (fmtL (seg zs A T))) ∧ Below w.heap.size w w') := by
      have := hrd T (Nat.le_refl _) w (Below.refl _ _)
      rw [List.take_of_length_le (by omega)] at this
      exact (dfmt_any _ T _ _ w this (seg_okb hb _ _) (by omega)).mono (fun e w' hh => ⟨hh.1, hh.2.below⟩)
    have hw8 : IntKind.i64.wrap ((f : Int) + 8) = (A : Int) := by rw [IntKind.wrap_i64]; omega
    have d8 : ¬ (f : Int) + 10 > (t : Int) := by omega
    have hAt : A ≤ t := by omega
    have htc : t ≤ c := by omega
    have hTt : t - A = T := by omega
    have hcA : ¬ c = A := by omega
    have hKT := (fmtL_le (seg zs A T)).1
    rw [hys] at hKT
    by_cases h0 : fmtL (seg zs A T) = 0
    · have e0 : frB zs f t = false := frB_no (fmt_seg_zero (by omega) (by rw [← hA, ← hT]; exact h0))
      rw [e0]
      rw [h0] at HFO
      clear h hb hB hrd hys h0 e0 hA hT hl
      go_enter Try.func93, Try.ntmps93
      go_wp2_with (go_at_call 85; refine HFO.out.mono ?_; rintro e w1 ⟨rfl, hb1⟩)
      go_ret
      exact ⟨rfl, hb1⟩
    · have e1 := frB_of (zs := zs) (f := f) (t := t) (K := fmtL (seg zs A T)) (by omega) (by rw [← hA, ← hT]) h0
      rw [← hA, ← hT] at e1
      rw [e1]
      have hpr := pairs_of (seg zs A T) (seg_okb hb _ _) h0
      have hbd := (enL_mono _ 0 hpr).2
      have hpos := posF_mod ((seg zs A T).take (fmtL (seg zs A T)))
      have hlk : ((seg zs A T).take (fmtL (seg zs A T))).length = fmtL (seg zs A T) := by rw [List.length_take]; omega
      have hszb : szF ((seg zs A T).take (fmtL (seg zs A T))) ≤ 1785 * n + 3 := by
        have := upN_bd (enL ((seg zs A T).take (fmtL (seg zs A T))) 0) 4 (by simp)
        unfold szF; omega
      have hposb : posF ((seg zs A T).take (fmtL (seg zs A T))) ≤ n + 11 := by omega
      have hft : fmtL ((seg zs A T).take (fmtL (seg zs A T))) = fmtL (seg zs A T) := fmtL_take _ _ h0 (Nat.le_refl _)
      have hlr : locR ((seg zs A T).take (fmtL (seg zs A T))) = (posF ((seg zs A T).take (fmtL (seg zs A T))), szF ((seg zs A T).take (fmtL (seg zs A T))), 0) := by
        unfold locR
        rw [if_neg (by rw [hft, hlk]; simp; exact h0)]
      have HL : Hid (∀ w1, Below w.heap.size w w1 → Calls Try.prog 56 #[.slice (some ⟨g, o + A, none⟩) (fmtL (seg zs A T)) (c - A)] w1 fun e w' => e = .returned (.tuple #[.int .i64 (posF ((seg zs A T).take (fmtL (seg zs A T)))), .int .i64 (szF ((seg zs A T).take (fmtL (seg zs A T)))), .int .i64 0]) ∧ Below w.heap.size w w') := fun w1 hb1 => by
        have := dloc_any _ _ _ _ w1 (hrd _ hKT w1 hb1) (fun z hz => seg_okb hb _ _ z (List.mem_of_mem_take hz)) (by omega)
        rw [hlr] at this
        refine this.mono ?_
        rintro e w' ⟨rfl, hb2⟩
        exact ⟨rfl, hb1.trans (hb2.mono hb1.size)⟩
      have HN0 : Hid (∀ w1, Below w.heap.size w w1 → Calls Try.prog 67 #[.pointer (some ⟨m, 0, none⟩), .int .i64 f] w1 fun e w' => e = .returned (.int .i64 (nu zs f)) ∧ w' = w1) := fun w1 hb1 => dat_any m f _ n c zs w1 (cellLater hb1 hm) (h.later hb1) hb (by omega) (by omega)
      have HN1 : Hid (∀ w1, Below w.heap.size w w1 → Calls Try.prog 67 #[.pointer (some ⟨m, 0, none⟩), .int .i64 ((f + 4 : Nat) : Int)] w1 fun e w' => e = .returned (.int .i64 (nu zs (f + 4))) ∧ w' = w1) := fun w1 hb1 => dat_any m (f + 4) _ n c zs w1 (cellLater hb1 hm) (h.later hb1) hb (by omega) (by omega)
      rw [show ((f + 4 : Nat) : Int) = (f : Int) + 4 by omega] at HN1
      have b0 := nu_lt hb f
      have b1 := nu_lt hb (f + 4)
      have hKc : fmtL (seg zs A T) ≤ c - A := by omega
      have q0 : ((fmtL (seg zs A T) : Int) == 0) = false := by simp; omega
      have q00 : ¬ (fmtL (seg zs A T) : Int) = 0 := by omega
      clear h hb hB hrd hys h0 e1 hA hT hpr hbd hpos hl hlk hft hlr
      generalize posF ((seg zs A T).take (fmtL (seg zs A T))) = P at *
      generalize szF ((seg zs A T).take (fmtL (seg zs A T))) = S at *
      generalize fmtL (seg zs A T) = K at *
      generalize nu zs f = N0 at *
      generalize nu zs (f + 4) = N1 at *
      have w3 : IntKind.i64.wrap ((P : Int) + (S : Int)) = (P : Int) + (S : Int) := by rw [IntKind.wrap_i64]; omega
      have w4 : IntKind.i64.wrap ((f : Int) + 4) = (f : Int) + 4 := by rw [IntKind.wrap_i64]; omega
      have w5 : IntKind.i64.wrap ((f : Int) + (P : Int)) = (f : Int) + (P : Int) := by rw [IntKind.wrap_i64]; omega
      have w6 : IntKind.i64.wrap ((f : Int) + (P : Int) + (S : Int)) = (f : Int) + (P : Int) + (S : Int) := by rw [IntKind.wrap_i64]; omega
      by_cases c1 : N0 = P + S
      · have q1 : ((N0 : Int) == (P : Int) + (S : Int)) = true := by simp; omega
        rw [decide_eq_true c1]
        clear c1
        by_cases c2 : N1 = P
        · have q2 : ((N1 : Int) == (P : Int)) = true := by simp; omega
          rw [decide_eq_true c2]
          clear c2
          have q3 : decide (((f : Int) + (P : Int) + (S : Int)) ≤ (t : Int)) = decide (f + P + S ≤ t) := decide_eq_decide.2 (by omega)
          generalize decide (f + P + S ≤ t) = Z at *
          have HQ3 := hidden q3
          clear q3
          go_enter Try.func93, Try.ntmps93
          go_wp2_with (first | (go_at_call 85; refine HFO.out.mono ?_; rintro e wA ⟨rfl, hb1⟩) | (go_at_call 56; refine (HL.out _ hb1).mono ?_; rintro e wB ⟨rfl, hb2⟩) | (go_at_call 67; first | ((with_reducible refine (HN0.out _ hb2).mono ?_); rintro e wC ⟨rfl, eC⟩; rw [eC]; clear eC) | ((with_reducible refine (HN1.out _ hb2).mono ?_); rintro e wC ⟨rfl, eC⟩; rw [eC]; clear eC)))
          go_ret
          exact ⟨by rw [HQ3.out]; simp, hb2⟩
        · have q2 : ((N1 : Int) == (P : Int)) = false := by simp; omega
          have q3 : ¬ (N1 : Int) = (P : Int) := by omega
          rw [decide_eq_false c2]
          clear c2
          go_enter Try.func93, Try.ntmps93
          go_wp2_with (first | (go_at_call 85; refine HFO.out.mono ?_; rintro e wA ⟨rfl, hb1⟩) | (go_at_call 56; refine (HL.out _ hb1).mono ?_; rintro e wB ⟨rfl, hb2⟩) | (go_at_call 67; first | ((with_reducible refine (HN0.out _ hb2).mono ?_); rintro e wC ⟨rfl, eC⟩; rw [eC]; clear eC) | ((with_reducible refine (HN1.out _ hb2).mono ?_); rintro e wC ⟨rfl, eC⟩; rw [eC]; clear eC)))
          go_ret
          exact ⟨by simp, hb2⟩
      · have q1 : ((N0 : Int) == (P : Int) + (S : Int)) = false := by simp; omega
        have q3 : ¬ (N0 : Int) = (P : Int) + (S : Int) := by omega
        rw [decide_eq_false c1]
        clear c1
        go_enter Try.func93, Try.ntmps93
        go_wp2_with (first | (go_at_call 85; refine HFO.out.mono ?_; rintro e wA ⟨rfl, hb1⟩) | (go_at_call 56; refine (HL.out _ hb1).mono ?_; rintro e wB ⟨rfl, hb2⟩) | (go_at_call 67; first | ((with_reducible refine (HN0.out _ hb2).mono ?_); rintro e wC ⟨rfl, eC⟩; rw [eC]; clear eC) | ((with_reducible refine (HN1.out _ hb2).mono ?_); rintro e wC ⟨rfl, eC⟩; rw [eC]; clear eC)))
        go_ret
        exact ⟨by simp, hb2⟩
  · rw [decide_eq_false m4, Bool.false_and]
    generalize f % 4 = X at *
    have q1 : ((X : Int) == 0) = false := by simp; omega
    have q2 : ¬ (X : Int) = 0 := by omega
    go_enter Try.func93, Try.ntmps93
    go_wp2
    go_ret
    exact ⟨rfl, Below.refl _ _⟩
end Go.Proofs.Ythhkennomnmjkaa
namespace Go.Proofs.Ythhkennomnmjkaa
open Go.RowKit
set_option maxHeartbeats 1000000
set_option maxRecDepth 100000
set_option linter.unusedVariables false

def rightE (zs : List Int) (size : Nat) : Bool := decide (zs.length ≤ size) && rightB zs
theorem dright_few (a : Option Addr) (L c size : Nat) (zs : List Int) (w : World) (h : Reads w a L c zs) (hL : L ≤ 100000) (hs : size ≤ 100000) (hf : ¬ (L ≤ size ∧ L % 4 = 0 ∧ 16 ≤ L)) :
    Calls Try.prog 90 #[.slice a L c, .int .i64 size] w fun e w' => e = .returned (.bool (rightE zs size)) ∧ Below w.heap.size w w' := by
  have hl := h.1
  have e0 : rightE zs size = false := by
    unfold rightE
    cases e : rightB zs with
    | false => simp
    | true =>
      obtain ⟨g1, g2, g3⟩ := (rightB_iff zs).1 e
      rw [hl] at g1 g2 ⊢
      simp
      omega
  rw [e0]
  clear h hl e0
  have hmf := tmod4 L
  have hwm := wmod4 L
  by_cases h1 : L ≤ size
  · have d1 : ¬ (L : Int) > (size : Int) := by omega
    by_cases h4 : L % 4 = 0
    · rw [h4] at hmf hwm
      have d2 : (L : Int) < 16 := by omega
      clear h4 hf
      go_enter Try.func90, Try.ntmps90
      go_wp2
      go_ret
      exact ⟨rfl, Below.refl _ _⟩
    · clear hf
      generalize L % 4 = X at *
      have q1 : ((X : Int) == 0) = false := by simp; omega
      have q2 : ¬ (X : Int) = 0 := by omega
      go_enter Try.func90, Try.ntmps90
      go_wp2
      go_ret
      exact ⟨rfl, Below.refl _ _⟩
  · have d1 : (L : Int) > (size : Int) := by omega
    clear hf
    go_enter Try.func90, Try.ntmps90
    go_wp2
    go_ret
    exact ⟨rfl, Below.refl _ _⟩
theorem dright_any (a : Option Addr) (L c size : Nat) (zs : List Int) (w : World) (h : Reads w a L c zs) (hb : OkB zs) (hL : L ≤ 100000) (hs : size ≤ 100000) :
    Calls Try.prog 90 #[.slice a L c, .int .i64 size] w fun e w' => e = .returned (.bool (rightE zs size)) ∧ Below w.heap.size w w' := by
  by_cases hf : ¬ (L ≤ size ∧ L % 4 = 0 ∧ 16 ≤ L)
  · exact dright_few a L c size zs w h hL hs hf
  obtain ⟨h1, h4, h16⟩ : L ≤ size ∧ L % 4 = 0 ∧ 16 ≤ L := Classical.byContradiction hf
  have hl := h.1
  have er : rightE zs size = rightB zs := by unfold rightE; rw [decide_eq_true (by omega)]; simp
  rw [er]
  have HRB : Hid (∀ b : Bool, (b = true ↔ Chn zs (nu zs (L - 4)) (L - 16)) → rightB zs = b) := fun b hb => rightB_eq (by omega) (by omega) (by rw [hl]; exact hb)
  generalize hRB : rightB zs = RB at *
  have hmf := tmod4 L
  have hwm := wmod4 L
  rw [h4] at hmf hwm
  have d1 : ¬ (L : Int) > (size : Int) := by omega
  have d2 : ¬ (L : Int) < 16 := by omega
  have w16 : IntKind.i64.wrap ((L : Int) - 16) = ((L - 16 : Nat) : Int) := by rw [IntKind.wrap_i64]; omega
  have w12 : IntKind.i64.wrap (((L - 16 : Nat) : Int) + 12) = ((L - 4 : Nat) : Int) := by rw [IntKind.wrap_i64]; omega
  have HA : Hid (∀ (w1 : World) (p : Nat), Below w.heap.size w w1 → w1.cell? ⟨w.heap.size, 0, none⟩ = some (.slice a L c) → p + 4 ≤ L → Calls Try.prog 67 #[.pointer (some ⟨w.heap.size, 0, none⟩), .int .i64 p] w1 fun e w' => e = .returned (.int .i64 (nu zs p)) ∧ w' = w1) := fun w1 p hb1 hc hp => dat_any _ p a L c zs w1 hc (h.later hb1) hb hp (by omega)
  have HLI : Hid (∀ (w1 : World) (f t : Nat), Below w.heap.size w w1 → w1.cell? ⟨w.heap.size, 0, none⟩ = some (.slice a L c) → t ≤ L → f < 4294967296 → Calls Try.prog 93 #[.pointer (some ⟨w.heap.size, 0, none⟩), .int .i64 f, .int .i64 t] w1 fun e w' => e = .returned (.bool (decide (f % 4 = 0) && frB zs f t)) ∧ Below w1.heap.size w1 w') := fun w1 f t hb1 hc ht hf => dlies_any _ a L c f t zs w1 hc (h.later hb1) hb ht hL hf
  have HNL : Hid (∀ p, nu zs p < 4294967296) := fun p => nu_lt hb p
  have hb1 : Below w.heap.size w (w.alloc (.cells #[.slice a L c, .int .i64 0, .int .i64 0, .bool false] 37)) := (Below.refl _ _).alloc (Nat.le_refl _) _
  have hc1 : (w.alloc (.cells #[.slice a L c, .int .i64 0, .int .i64 0, .bool false] 37)).cell? ⟨w.heap.size, 0, none⟩ = some (.slice a L c) := by
    have hh := heap_alloc_new w (.cells #[.slice a L c, .int .i64 0, .int .i64 0, .bool false] 37)
    unfold World.cell?
    simp only
    rw [hh]; rfl
  have HA1 := hidden (HA.out _ (L - 4) hb1 hc1 (by omega))
  clear h hb hf er hRB hl h4
  have hFl := HNL.out (L - 4)
  generalize hF0 : nu zs (L - 4) = F0 at *
  generalize hT0 : L - 16 = T0 at *
  have HT0 := hidden hT0
  generalize hP4 : L - 4 = P4 at *
  clear hT0 hP4 hF0
  have HB1 := hidden hb1
  have HC1 := hidden hc1
  clear hb1 hc1
  go_enter Try.func90, Try.ntmps90
  go_wp2_with (first | (go_at_call 67; refine HA1.out.mono ?_; rintro e wA ⟨rfl, eA⟩; rw [eA]; clear eA))
  go_loopw [6, 7] (fun t_ f_ wr => ∃ (f t : Nat), t_ = .int .i64 t ∧ f_ = .int .i64 f ∧ f < 4294967296 ∧ t ≤ T0 ∧ Hid (Chn zs F0 T0 ↔ Chn zs f t) ∧ Hid (Below w.heap.size w wr ∧ wr.cell? ⟨w.heap.size, 0, none⟩ = some (.slice a L c))) (fun t_ _ _ => (intOf t_).toNat)
  case atStart => exact ⟨F0, T0, rfl, rfl, hFl, Nat.le_refl _, Iff.rfl, HB1.out, HC1.out⟩
  case round =>
    clear HA1 hFl
    obtain ⟨f, t, rfl, rfl, hf, ht, HQ, HW⟩ := hrel
    have HL1 := hidden (HLI.out wr f t HW.out.1 HW.out.2 (by have := HT0.out; omega) hf)
    have HN1 := hidden fun w1 (hb1 : Below wr.heap.size wr w1) (p : Nat) (hp : p + 4 ≤ L) => HA.out w1 p (HW.out.1.trans (hb1.mono HW.out.1.size)) (cellLater hb1 HW.out.2) hp
    have HWL : Hid (∀ w1, Below wr.heap.size wr w1 → Below w.heap.size w w1 ∧ w1.cell? ⟨w.heap.size, 0, none⟩ = some (.slice a L c)) := fun w1 hb1 => ⟨HW.out.1.trans (hb1.mono HW.out.1.size), cellLater hb1 HW.out.2⟩
    clear HW
    cases hli : (decide (f % 4 = 0) && frB zs f t) with
    | false =>
      rw [hli] at HL1
      have e1 := HRB.out false ⟨fun h => (by cases h), fun h => by
        have := chn_iff.1 (HQ.out.1 h)
        rw [decide_eq_true this.1, (frB_iff zs f t).2 this.2.2.1] at hli
        cases hli⟩
      subst e1
      clear hli
      go_wp2_with (first | (go_at_call 93; refine HL1.out.mono ?_; rintro e wB ⟨rfl, hbB⟩))
      go_ret
      exact ⟨rfl, (HWL.out _ hbB).1⟩
    | true =>
      rw [hli] at HL1
      simp only [Bool.and_eq_true, decide_eq_true_eq, frB_iff] at hli
      obtain ⟨q4, qf⟩ := hli
      have hbd := qf.bd
      by_cases z0 : f = 0
      · subst z0
        have e1 := HRB.out true ⟨fun _ => HQ.out.2 (.base qf), fun _ => rfl⟩
        subst e1
        clear hbd
        go_wp2_with (first | (go_at_call 93; refine HL1.out.mono ?_; rintro e wB ⟨rfl, hbB⟩))
        go_ret
        exact ⟨rfl, (HWL.out _ hbB).1⟩
      · have qz : ((f : Int) == 0) = false := by simp; omega
        have qz2 : ¬ (f : Int) = 0 := by omega
        by_cases z1 : f < 16
        · have e1 := HRB.out false ⟨fun h => (by cases h), fun h => by
            have := chn_iff.1 (HQ.out.1 h)
            omega⟩
          subst e1
          have d3 : (f : Int) < 16 := by omega
          clear hbd
          go_wp2_with (first | (go_at_call 93; refine HL1.out.mono ?_; rintro e wB ⟨rfl, hbB⟩))
          go_ret
          exact ⟨rfl, (HWL.out _ hbB).1⟩
        · have d3 : ¬ (f : Int) < 16 := by omega
          have v1 : IntKind.i64.wrap ((f : Int) - 16) = ((f - 16 : Nat) : Int) := by rw [IntKind.wrap_i64]; omega
          have v2 : IntKind.i64.wrap (((f - 16 : Nat) : Int) + 12) = ((f - 4 : Nat) : Int) := by rw [IntKind.wrap_i64]; omega
          have HNX := hidden fun w1 (hb1 : Below wr.heap.size wr w1) => HN1.out w1 hb1 (f - 4) (by have := HT0.out; omega)
          have HQ2 : Hid (Chn zs F0 T0 ↔ Chn zs (nu zs (f - 4)) (f - 16)) := HQ.out.trans ⟨fun h => (h.lt z0).2.2, fun h => chn_iff.2 ⟨q4, .inr (by omega), qf, .inr h⟩⟩
          have hnl := HNL.out (f - 4)
          generalize nu zs (f - 4) = N at *
          generalize hT1 : f - 16 = T1 at *
          generalize hP1 : f - 4 = P1 at *
          have hm1 : T1 < t ∧ T1 ≤ T0 := by omega
          clear hT1 hP1 hbd
          go_wp2_with (first | (go_at_call 93; refine HL1.out.mono ?_; rintro e wB ⟨rfl, hbB⟩) | (go_at_call 67; refine (HNX.out _ hbB).mono ?_; rintro e wC ⟨rfl, eC⟩; rw [eC]; clear eC))
          go_roundw
          case rel => exact ⟨N, T1, rfl, rfl, hnl, hm1.2, HQ2, HWL.out _ hbB⟩
          case measure => simp [intOf]; omega
end Go.Proofs.Ythhkennomnmjkaa
