/- Package stack's isFrame. -/
import Derived.Test.YthhkennomnmjkaaV10a
namespace Go.Proofs.Ythhkennomnmjkaa
open Go.RowKit
set_option maxHeartbeats 1000000
set_option maxRecDepth 100000
set_option linter.unusedVariables false

theorem frB_of {zs : List Int} {f t K : Nat} (ht : t ≤ zs.length) (hK : fmtL (seg zs (f + 8) (t - f - 8)) = K) (h0 : K ≠ 0) :
    frB zs f t = (decide (nu zs f = posF ((seg zs (f + 8) (t - f - 8)).take K) + szF ((seg zs (f + 8) (t - f - 8)).take K)) && (decide (nu zs (f + 4) = posF ((seg zs (f + 8) (t - f - 8)).take K)) && decide (f + posF ((seg zs (f + 8) (t - f - 8)).take K) + szF ((seg zs (f + 8) (t - f - 8)).take K) ≤ t))) := by
  obtain ⟨h1, h2⟩ := frF_seg (zs := zs) (f := f) (t := t) (by rw [hK]; exact h0)
  unfold frB
  rw [h2, h1, hK, decide_eq_true ht, decide_eq_true h0]
  simp
theorem kisfr_no (a : Option Addr) (n c f t : Nat) (zs : List Int) (w : World) (ht : t ≤ n) (hn : n ≤ 2000000) (hf : f < 4294967296) (h : t < f + 8) :
    Calls Try.prog 92 #[.slice a n c, .int .i64 f, .int .i64 t] w fun e w' => e = .returned (.bool (frB zs f t)) ∧ Below w.heap.size w w' := by
  rw [frB_no (fun k => by have := k.bd; omega)]
  have hw : IntKind.i64.wrap ((f : Int) + 8) = (f : Int) + 8 := by rw [IntKind.wrap_i64]; omega
  have d : (f : Int) + 8 > (t : Int) := by omega
  go_enter Try.func92, Try.ntmps92
  go_wp2
  go_ret
  exact ⟨rfl, Below.refl _ _⟩
theorem kisfr_any (a : Option Addr) (n c f t : Nat) (zs : List Int) (w : World) (h : Reads w a n c zs) (hb : OkB zs) (ht : t ≤ n) (hn : n ≤ 2000000) (hf : f < 4294967296) :
    Calls Try.prog 92 #[.slice a n c, .int .i64 f, .int .i64 t] w fun e w' => e = .returned (.bool (frB zs f t)) ∧ Below w.heap.size w w' := by
  by_cases h8 : t < f + 8
  · exact kisfr_no a n c f t zs w ht hn hf h8
  have hl := h.1
  have hcn : n ≤ c := h.2.1
  obtain ⟨g, o, rfl, hB⟩ := h.bs (by omega)
  obtain ⟨A, hA⟩ : ∃ A, A = f + 8 := ⟨_, rfl⟩
  obtain ⟨T, hT⟩ : ∃ T, T = t - f - 8 := ⟨_, rfl⟩
  have hys : (seg zs A T).length = T := seg_len zs A T (by omega)
  obtain ⟨p, hp, hpn⟩ : ∃ p, (if c = A then some (⟨g, o, none⟩ : Addr) else some ⟨g, o + A, none⟩) = some ⟨g, p, none⟩ ∧ (0 < T → p = o + A) := by
    by_cases e : c = A
    · exact ⟨o, if_pos e, fun h => by omega⟩
    · exact ⟨o + A, if_neg e, fun _ => rfl⟩
  have hrd : ∀ K, K ≤ T → ∀ w1, Below w.heap.size w w1 → Reads w1 (some ⟨g, p, none⟩) K (c - A) ((seg zs A T).take K) := fun K hK w1 hb1 => by
    by_cases h0 : 0 < T
    · rw [hpn h0]
      have := ((hB.later hb1).sub A K (c - A) (by omega) (by omega))
      unfold seg at this ⊢
      rw [List.take_take, Nat.min_eq_left hK]
      exact this
    · obtain rfl : K = 0 := by omega
      exact ⟨by simp, Nat.zero_le _, .inr ⟨_, rfl, fun i hi => by omega⟩⟩
  have HFO : Hid (Calls Try.prog 45 #[.slice (some ⟨g, p, none⟩) T (c - A)] w fun e w' => FoRet w w' (some ⟨g, p, none⟩) (c - A) (seg zs A T) e) := by
    have := hrd T (Nat.le_refl _) w (Below.refl _ _)
    rw [List.take_of_length_le (by omega)] at this
    exact kfmt_any _ T _ _ w this (seg_okb hb _ _) (by omega)
  have hw8 : IntKind.i64.wrap ((f : Int) + 8) = (A : Int) := by rw [IntKind.wrap_i64]; omega
  have d8 : ¬ (A : Int) > (t : Int) := by omega
  have hAt : A ≤ t := by omega
  have htc : t ≤ c := by omega
  have hTt : t - A = T := by omega
  have hKT := (fmtL_le (seg zs A T)).1
  rw [hys] at hKT
  by_cases h0 : fmtL (seg zs A T) = 0
  · have e0 : frB zs f t = false := frB_no (fmt_seg_zero (by omega) (by rw [← hA, ← hT]; exact h0))
    rw [e0]
    unfold FoRet at HFO
    simp only [if_pos h0] at HFO
    clear h hb hB hrd hys h0 e0 hA hT hpn hl
    go_enter Try.func92, Try.ntmps92
    go_wp2_with (go_at_call 45; refine HFO.out.mono ?_; rintro e w1 ⟨hb1, rfl⟩; replace hb1 := hb1.below)
    go_ret
    exact ⟨rfl, hb1⟩
  · have e1 := frB_of (zs := zs) (f := f) (t := t) (K := fmtL (seg zs A T)) (by omega) (by rw [← hA, ← hT]) h0
    rw [← hA, ← hT] at e1
    rw [e1]
    unfold FoRet at HFO
    simp only [if_neg h0] at HFO
    have hpr := pairs_of (seg zs A T) (seg_okb hb _ _) h0
    have hbd := (enL_mono _ 0 hpr).2
    have hpos := posF_mod ((seg zs A T).take (fmtL (seg zs A T)))
    have hszb : szF ((seg zs A T).take (fmtL (seg zs A T))) ≤ 1785 * n + 3 := by
      have := upN_bd (enL ((seg zs A T).take (fmtL (seg zs A T))) 0) 4 (by simp)
      have hl2 : ((seg zs A T).take (fmtL (seg zs A T))).length ≤ n := by rw [List.length_take]; omega
      unfold szF; omega
    have hposb : posF ((seg zs A T).take (fmtL (seg zs A T))) ≤ n + 11 := by
      have hl2 : ((seg zs A T).take (fmtL (seg zs A T))).length ≤ n := by rw [List.length_take]; omega
      omega
    have HL : Hid (∀ w1, Below w.heap.size w w1 → Calls Try.prog 46 #[.slice (some ⟨g, p, none⟩) (fmtL (seg zs A T)) (c - A)] w1 fun e w' => e = .returned (.tuple #[.int .i64 (posF ((seg zs A T).take (fmtL (seg zs A T)))), .int .i64 (szF ((seg zs A T).take (fmtL (seg zs A T))))]) ∧ Below w.heap.size w w') := fun w1 hb1 => by
      refine (klay_any _ _ _ _ w1 (hrd _ hKT w1 hb1) (fun z hz => seg_okb hb _ _ z (List.mem_of_mem_take hz)) (by omega) hpr).mono ?_
      rintro e w' ⟨rfl, hb2⟩
      exact ⟨rfl, hb1.trans (hb2.mono hb1.size)⟩
    have HN0 : Hid (∀ w1, Below w.heap.size w w1 → Calls Try.prog 54 #[.slice (some ⟨g, o, none⟩) n c, .int .i64 f] w1 fun e w' => e = .returned (.int .u32 (nu zs f)) ∧ w' = w1) := fun w1 hb1 => knum_any _ n c f zs w1 (h.later hb1) hb (by omega) hn
    have HN1 : Hid (∀ w1, Below w.heap.size w w1 → Calls Try.prog 54 #[.slice (some ⟨g, o, none⟩) n c, .int .i64 ((f + 4 : Nat) : Int)] w1 fun e w' => e = .returned (.int .u32 (nu zs (f + 4))) ∧ w' = w1) := fun w1 hb1 => knum_any _ n c (f + 4) zs w1 (h.later hb1) hb (by omega) hn
    rw [show ((f + 4 : Nat) : Int) = (f : Int) + 4 by omega] at HN1
    have b0 := nu_lt hb f
    have b1 := nu_lt hb (f + 4)
    clear h hb hB hrd hys h0 e1 hA hT hpn hpr hbd hpos hl hKT
    generalize posF ((seg zs A T).take (fmtL (seg zs A T))) = P at *
    generalize szF ((seg zs A T).take (fmtL (seg zs A T))) = S at *
    generalize fmtL (seg zs A T) = K at *
    generalize nu zs f = N0 at *
    generalize nu zs (f + 4) = N1 at *
    have w1 : IntKind.i64.wrap (N0 : Int) = (N0 : Int) := by rw [IntKind.wrap_i64]; omega
    have w2 : IntKind.i64.wrap (N1 : Int) = (N1 : Int) := by rw [IntKind.wrap_i64]; omega
    have w3 : IntKind.i64.wrap ((P : Int) + (S : Int)) = (P : Int) + (S : Int) := by rw [IntKind.wrap_i64]; omega
    have w4 : IntKind.i64.wrap ((f : Int) + 4) = (f : Int) + 4 := by rw [IntKind.wrap_i64]; omega
    have w5 : IntKind.i64.wrap ((f : Int) + (P : Int)) = (f : Int) + (P : Int) := by rw [IntKind.wrap_i64]; omega
    have w6 : IntKind.i64.wrap ((f : Int) + (P : Int) + (S : Int)) = (f : Int) + (P : Int) + (S : Int) := by rw [IntKind.wrap_i64]; omega
    by_cases c1 : N0 = P + S
    · have q1 : ((N0 : Int) == (P : Int) + (S : Int)) = true := by simp; omega
      rw [decide_eq_true c1]
      have HC1 := hidden c1
      clear c1
      by_cases c2 : N1 = P
      · have q2 : ((N1 : Int) == (P : Int)) = true := by simp; omega
        rw [decide_eq_true c2]
        have HC2 := hidden c2
        clear c2
        have q3 : decide (((f : Int) + (P : Int) + (S : Int)) ≤ (t : Int)) = decide (f + P + S ≤ t) := decide_eq_decide.2 (by omega)
        generalize decide (f + P + S ≤ t) = Z at *
        have HQ3 := hidden q3
        clear q3
        go_enter Try.func92, Try.ntmps92
        go_wp2_with (first | (go_at_call 45; refine HFO.out.mono ?_; rintro e wA ⟨hb1, rfl⟩; replace hb1 := hb1.below) | (go_at_call 46; refine (HL.out _ hb1).mono ?_; rintro e wB ⟨rfl, hb2⟩) | (go_at_call 54; first | ((with_reducible refine (HN0.out _ hb2).mono ?_); rintro e wC ⟨rfl, eC⟩; rw [eC]; clear eC) | ((with_reducible refine (HN1.out _ hb2).mono ?_); rintro e wC ⟨rfl, eC⟩; rw [eC]; clear eC)))
        go_ret
        exact ⟨by rw [HQ3.out]; simp, hb2⟩
      · have q2 : ((N1 : Int) == (P : Int)) = false := by simp; omega
        have q3 : ¬ (N1 : Int) = (P : Int) := by omega
        rw [decide_eq_false c2]
        clear c2
        go_enter Try.func92, Try.ntmps92
        go_wp2_with (first | (go_at_call 45; refine HFO.out.mono ?_; rintro e wA ⟨hb1, rfl⟩; replace hb1 := hb1.below) | (go_at_call 46; refine (HL.out _ hb1).mono ?_; rintro e wB ⟨rfl, hb2⟩) | (go_at_call 54; first | ((with_reducible refine (HN0.out _ hb2).mono ?_); rintro e wC ⟨rfl, eC⟩; rw [eC]; clear eC) | ((with_reducible refine (HN1.out _ hb2).mono ?_); rintro e wC ⟨rfl, eC⟩; rw [eC]; clear eC)))
        go_ret
        exact ⟨by simp, hb2⟩
    · have q1 : ((N0 : Int) == (P : Int) + (S : Int)) = false := by simp; omega
      have q3 : ¬ (N0 : Int) = (P : Int) + (S : Int) := by omega
      rw [decide_eq_false c1]
      clear c1
      go_enter Try.func92, Try.ntmps92
      go_wp2_with (first | (go_at_call 45; refine HFO.out.mono ?_; rintro e wA ⟨hb1, rfl⟩; replace hb1 := hb1.below) | (go_at_call 46; refine (HL.out _ hb1).mono ?_; rintro e wB ⟨rfl, hb2⟩) | (go_at_call 54; first | ((with_reducible refine (HN0.out _ hb2).mono ?_); rintro e wC ⟨rfl, eC⟩; rw [eC]; clear eC) | ((with_reducible refine (HN1.out _ hb2).mono ?_); rintro e wC ⟨rfl, eC⟩; rw [eC]; clear eC)))
      go_ret
      exact ⟨by simp, hb2⟩
end Go.Proofs.Ythhkennomnmjkaa
