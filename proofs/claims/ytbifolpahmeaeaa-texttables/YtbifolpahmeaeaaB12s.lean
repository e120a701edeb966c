/- What lies beyond what a text looks at has no part: lists. -/
import Derived.Test.YtbifolpahmeaeaaB12r
namespace Go.Proofs.Ytbifolpahmeaeaa
open Go.RowKit
set_option maxHeartbeats 1000000
set_option maxRecDepth 100000
set_option linter.unusedVariables false

theorem getD_app (zs ys : List Int) (p : Nat) (h : p < zs.length) : (zs ++ ys).getD p 0 = zs.getD p 0 := by
  simp [List.getD_eq_getElem?_getD, List.getElem?_append_left h]
theorem nuV_app (zs ys : List Int) (p n : Nat) (hn : n = 1 ∨ n = 4) (h : p + n ≤ zs.length) : nuV (zs ++ ys) p n = nuV zs p n := by
  unfold nuV
  rcases hn with rfl | rfl
  · show ((zs ++ ys).getD p 0).toNat = (zs.getD p 0).toNat
    rw [getD_app zs ys p (by omega)]
  · show (beV (zs ++ ys) p 4).toNat = (beV zs p 4).toNat
    rw [beV4, beV4, getD_app zs ys p (by omega), getD_app zs ys (p + 1) (by omega), getD_app zs ys (p + 2) (by omega), getD_app zs ys (p + 3) (by omega)]
theorem tk_there {zs : List Int} {p n : Nat} (h : tkE zs p 0 n ≠ 90) : p + n ≤ zs.length := by
  by_cases h1 : p + n ≤ zs.length
  · exact h1
  · exact absurd (tkE_no h1) h
theorem tk_app {zs : List Int} (ys : List Int) {p n : Nat} (hn : n = 1 ∨ n = 4) (h : p + n ≤ zs.length) : tkE (zs ++ ys) p 0 n = 0 ∧ tkV (zs ++ ys) p 0 n = nuV zs p n ∧ tkP (zs ++ ys) p 0 n = p + n := by
  have h2 : p + n ≤ (zs ++ ys).length := by simp; omega
  exact ⟨tkE_ok h2, by rw [tkV_ok h2, nuV_app zs ys p n hn h], tkP_ok h2⟩
theorem upz_app (zs ys : List Int) (k : Nat) (hk : k = 1 ∨ k = 4) : ∀ f f' p, f ≤ f' → (upz zs k f p).2 ≠ 90 → upz (zs ++ ys) k f' p = upz zs k f p
  | 0, _, _, _, h => by simp [upz] at h
  | f + 1, 0, _, hf, _ => by omega
  | f + 1, f' + 1, p, hf, h => by
    unfold upz at h ⊢
    by_cases h1 : p + k ≤ zs.length
    · have h2 : p + k ≤ (zs ++ ys).length := by simp; omega
      rw [if_pos h1] at h ⊢
      rw [if_pos h2, nuV_app zs ys p k hk h1]
      by_cases h3 : nuV zs p k = 0
      · rw [if_pos h3, if_pos h3]
      · rw [if_neg h3] at h ⊢
        rw [if_neg h3, upz_app zs ys k hk f f' (p + k) (by omega) h]
    · rw [if_neg h1] at h
      simp at h
theorem plN_app (zs ys : List Int) (t : Ta) (n : Nat) (hn : n = 1 ∨ n = 4) (h : (plN zs t n).e ≠ 90) : plN (zs ++ ys) t n = plN zs t n := by
  have h1 := tk_there (zs := zs) (p := t.ad) (n := n) h
  obtain ⟨a1, a2, a3⟩ := tk_app ys hn h1
  unfold plN
  rw [a1, a2, a3, tkE_ok h1, tkV_ok h1, tkP_ok h1]
theorem faE_app (zs ys : List Int) (p : Nat) (h : faE zs p 0 ≠ 90) : faE (zs ++ ys) p 0 = faE zs p 0 ∧ p + 4 ≤ zs.length := by
  unfold faE at h ⊢
  by_cases h1 : p + 4 ≤ zs.length
  · obtain ⟨a1, a2, a3⟩ := tk_app ys (.inr rfl) h1
    rw [if_pos (tkE_ok h1)] at h ⊢
    have h2 := tk_there h
    rw [if_pos a1, nuV_app zs ys p 4 (.inr rfl) h1, (tk_app ys (.inr rfl) h2).1, tkE_ok h2]
    exact ⟨rfl, h1⟩
  · rw [tkE_no h1] at h
    simp at h
theorem agE_app (zs ys : List Int) (p e : Nat) (h : agE zs p e ≠ 90) : agE (zs ++ ys) p e = agE zs p e := by
  unfold agE at h ⊢
  by_cases h0 : e = 0
  · rw [if_pos h0] at h ⊢
    rw [if_pos h0]
    by_cases h1 : p + 4 ≤ zs.length
    · rw [if_pos h1] at h ⊢
      rw [if_pos (show p + 4 ≤ (zs ++ ys).length by simp; omega), nuV_app zs ys p 4 (.inr rfl) h1]
      by_cases h2 : p + 4 + 4 * nuV zs p 4 ≤ zs.length
      · rw [if_pos h2, if_pos (by simp; omega)]
      · rw [if_neg h2] at h; simp at h
    · rw [if_neg h1] at h; simp at h
  · rw [if_neg h0, if_neg h0]
theorem lfR_app (zs ys : List Int) (p : Nat) (hp : p + 1 ≤ zs.length) (h : (lfR zs p).1 ≠ 90) : lfR (zs ++ ys) p = lfR zs p := by
  have hl : zs.length + 1 ≤ (zs ++ ys).length + 1 := by simp
  unfold lfR at h ⊢
  rw [nuV_app zs ys p 1 (.inl rfl) hp]
  generalize nuV zs p 1 = T at *
  by_cases h1 : T = 1
  · rw [if_pos h1, if_pos h1]
  rw [if_neg h1] at h ⊢; rw [if_neg h1]
  by_cases h2 : T = 2
  · rw [if_pos h2] at h ⊢; rw [if_pos h2]
    have h3 := tk_there h
    obtain ⟨a1, a2, a3⟩ := tk_app ys (.inl rfl) h3
    rw [a1, a2, tkE_ok h3, tkV_ok h3]
  rw [if_neg h2] at h ⊢; rw [if_neg h2]
  by_cases h3 : T = 3
  · rw [if_pos h3] at h ⊢; rw [if_pos h3]
    rw [upz_app zs ys 1 (.inl rfl) _ _ _ hl h]
  rw [if_neg h3] at h ⊢; rw [if_neg h3]
  by_cases h4 : T = 4
  · rw [if_pos h4] at h ⊢; rw [if_pos h4]
    have h5 := tk_there h
    obtain ⟨a1, a2, a3⟩ := tk_app ys (.inr rfl) h5
    rw [a1, a2, tkE_ok h5, tkV_ok h5]
  rw [if_neg h4] at h ⊢; rw [if_neg h4]
  by_cases h5 : T = 5
  · rw [if_pos h5] at h ⊢; rw [if_pos h5]
    rw [upz_app zs ys 4 (.inr rfl) _ _ _ hl h]
  rw [if_neg h5] at h ⊢; rw [if_neg h5]
  by_cases h8 : T = 8
  · rw [if_pos h8] at h ⊢; rw [if_pos h8]
    have h9 := tk_there h
    rw [(tk_app ys (.inr rfl) h9).1, tkE_ok h9]
  rw [if_neg h8] at h ⊢; rw [if_neg h8]
  by_cases h9 : T = 9
  · rw [if_pos h9] at h ⊢; rw [if_pos h9]
    rw [(faE_app zs ys _ h).1]
  rw [if_neg h9] at h ⊢; rw [if_neg h9]
  by_cases h10 : T = 10
  · rw [if_pos h10] at h ⊢; rw [if_pos h10]
    by_cases ht : p + 1 + 4 ≤ zs.length
    · obtain ⟨a1, a2, a3⟩ := tk_app ys (.inr rfl) ht
      have e1 := tkE_ok ht
      have e2 := tkP_ok ht
      rw [e1, e2] at h ⊢
      rw [a1, a3, agE_app zs ys _ _ h]
    · exfalso
      apply h
      show agE zs _ _ = 90
      rw [tkE_no ht]
      rfl
  rw [if_neg h10] at h ⊢; rw [if_neg h10]
  by_cases h11 : T = 11
  · rw [if_pos h11] at h ⊢; rw [if_pos h11]
    by_cases hf : faE zs (p + 1) 0 = 90
    · exfalso
      apply h
      show agE zs _ _ = 90
      rw [hf]
      rfl
    · obtain ⟨b1, b2⟩ := faE_app zs ys (p + 1) hf
      rw [b1, (tk_app ys (.inr rfl) b2).2.2, ← tkP_ok b2, agE_app zs ys _ _ h]
  rw [if_neg h11]
  rw [if_neg h11]
theorem dsR_app (zs ys : List Int) : ∀ f node t, (dsR zs f node t).1 ≠ 90 → dsR (zs ++ ys) f node t = dsR zs f node t
  | f, node, t, h => by
    unfold dsR at h ⊢
    by_cases h1 : node + 1 ≤ zs.length
    · have h1' : node + 1 ≤ (zs ++ ys).length := by simp; omega
      rw [if_pos h1] at h ⊢
      rw [if_pos h1', nuV_app zs ys node 1 (.inl rfl) h1]
      by_cases h2 : nuV zs node 1 ≠ 0
      · rw [if_pos h2, if_pos h2]
      · rw [if_neg h2] at h ⊢
        rw [if_neg h2]
        match f with
        | 0 => rfl
        | f + 1 =>
          simp only at h ⊢
          by_cases h3 : t.ad + 1 ≤ zs.length
          · have h3' : t.ad + 1 ≤ (zs ++ ys).length := by simp; omega
            have hbv : bitV (zs ++ ys) t = bitV zs t := by unfold bitV; rw [nuV_app zs ys t.ad 1 (.inl rfl) h3]
            rw [if_pos h3] at h ⊢
            rw [if_pos h3', hbv]
            by_cases h4 : node + 1 + 4 * bitV zs t + 4 ≤ zs.length
            · have h4' : node + 1 + 4 * bitV zs t + 4 ≤ (zs ++ ys).length := by simp; omega
              rw [if_pos h4] at h ⊢
              rw [if_pos h4', nuV_app zs ys _ 4 (.inr rfl) h4]
              exact dsR_app zs ys f _ _ h
            · rw [if_neg h4] at h; simp at h
          · rw [if_neg h3] at h; simp at h
    · rw [if_neg h1] at h; simp at h
theorem nxN_app (zs ys : List Int) (table : Nat) (t : Ta) (h : (nxN zs table t).e ≠ 90) : nxN (zs ++ ys) table t = nxN zs table t := by
  unfold nxN at h ⊢
  by_cases h1 : t.k = 224
  · rw [if_pos h1] at h ⊢; rw [if_pos h1]; exact plN_app zs ys t 1 (.inl rfl) h
  rw [if_neg h1] at h ⊢; rw [if_neg h1]
  by_cases h2 : t.k = 226
  · rw [if_pos h2] at h ⊢; rw [if_pos h2]; exact plN_app zs ys t 4 (.inr rfl) h
  rw [if_neg h2] at h ⊢; rw [if_neg h2]
  by_cases h3 : t.k = 225
  · rw [if_pos h3] at h ⊢; rw [if_pos h3]
    unfold pkN at h ⊢
    by_cases t0 : table = 0
    · rw [if_pos t0, if_pos t0]
    rw [if_neg t0] at h ⊢; rw [if_neg t0]
    by_cases t1 : (table + 8) % 4294967296 + 4 ≤ zs.length
    · rw [if_pos t1] at h ⊢
      rw [if_pos (show (table + 8) % 4294967296 + 4 ≤ (zs ++ ys).length by simp; omega), nuV_app zs ys _ 4 (.inr rfl) t1]
      generalize nuV zs ((table + 8) % 4294967296) 4 = NN at *
      by_cases t2 : t.bit ≤ 7
      · rw [if_pos t2] at h ⊢; rw [if_pos t2]
        by_cases t3 : (dsR zs 256 NN t).1 = 0
        · have hd := dsR_app zs ys 256 NN t (by rw [t3]; decide)
          have hok := dsR_ok t3
          rw [if_pos t3] at h ⊢
          rw [hd, if_pos t3, lfR_app zs ys _ hok h]
        · rw [if_neg t3] at h ⊢
          have hd := dsR_app zs ys 256 NN t h
          rw [hd, if_neg t3]
      · rw [if_neg t2, if_neg t2]
    · rw [if_neg t1] at h; simp at h
  rw [if_neg h3, if_neg h3]
theorem bgN_app (zs ys : List Int) (addr : Nat) (h : (bgN zs addr).1 ≠ 90) : bgN (zs ++ ys) addr = bgN zs addr := by
  unfold bgN at h ⊢
  by_cases h1 : addr + 1 ≤ zs.length
  · rw [if_pos h1, if_pos (show addr + 1 ≤ (zs ++ ys).length by simp; omega), nuV_app zs ys addr 1 (.inl rfl) h1]
  · rw [if_neg h1] at h; simp at h
theorem plrun_app {N N' : Ta → Nx} (hN : ∀ t, (N t).e ≠ 90 → N' t = N t) {most : Nat} {l : List Nat} {t : Ta} {em : Nat} {r : List Nat} {wh : Bool} {e : Nat} (h : PlRun N most l t em r wh e) : e ≠ 90 → PlRun N' most l t em r wh e := by
  have h0 : ∀ t, (N t).e = 0 → N' t = N t := fun t h => hN t (by rw [h]; decide)
  induction h with
  | out h1 => intro _; exact .out h1
  | err h1 h2 => intro he; have := hN _ he; rw [← this]; exact .err h1 (by rw [this]; exact h2)
  | fin h1 h2 h3 => intro _; have := h0 _ h2; exact .fin h1 (by rw [this]; exact h2) (by rw [this]; exact h3)
  | full h1 h2 h3 h4 => intro _; have := h0 _ h2; exact .full h1 (by rw [this]; exact h2) (by rw [this]; exact h3) h4
  | ref h1 h2 h3 h4 h5 => intro _; have := h0 _ h2; exact .ref h1 (by rw [this]; exact h2) (by rw [this]; exact h3) h4 (by rw [this]; exact h5)
  | cut h1 h2 h3 h4 h5 h6 => intro _; have := h0 _ h2; rw [← this]; exact .cut h1 (by rw [this]; exact h2) (by rw [this]; exact h3) h4 (by rw [this]; exact h5) (by rw [this]; exact h6)
  | emp h1 h2 h3 h4 h5 h6 h7 h8 ih => intro he; have := h0 _ h2; exact .emp h1 (by rw [this]; exact h2) (by rw [this]; exact h3) h4 (by rw [this]; exact h5) (by rw [this]; exact h6) (by rw [this]; exact h7) (by rw [this]; exact ih he)
  | more h1 h2 h3 h4 h5 h6 h7 h8 ih => intro he; have := h0 _ h2; exact .more h1 (by rw [this]; exact h2) (by rw [this]; exact h3) h4 (by rw [this]; exact h5) (by rw [this]; exact h6) (by rw [this]; exact h7) (by rw [this]; exact ih he)
theorem plr_app (zs ys : List Int) {table addr most : Nat} {r : List Nat} {wh : Bool} {e : Nat} (h : PlR zs table addr most r wh e) (he : e ≠ 90) : PlR (zs ++ ys) table addr most r wh e := by
  rcases h with ⟨h1, rfl, rfl, rfl⟩ | ⟨h1, h2⟩
  · have := bgN_app zs ys addr he
    exact .inl ⟨by rw [this]; exact h1, rfl, rfl, by rw [this]⟩
  · have := bgN_app zs ys addr (by rw [h1]; decide)
    exact .inr ⟨by rw [this]; exact h1, by rw [this]; exact plrun_app (fun t => nxN_app zs ys table t) h2 he⟩
theorem plrun_len {N : Ta → Nx} {most : Nat} {l : List Nat} {t : Ta} {em : Nat} {r : List Nat} {wh : Bool} {e : Nat} (h : PlRun N most l t em r wh e) : l.length ≤ most → r.length ≤ most := by
  induction h with
  | out h1 => intro h; exact h
  | err h1 h2 => intro h; simp
  | fin h1 h2 h3 => intro h; exact h
  | full h1 h2 h3 h4 => intro h; exact h
  | ref h1 h2 h3 h4 h5 => intro h; simp
  | cut h1 h2 h3 h4 h5 h6 => intro h; simp; omega
  | emp h1 h2 h3 h4 h5 h6 h7 h8 ih => intro h; exact ih h
  | more h1 h2 h3 h4 h5 h6 h7 h8 ih => intro h; exact ih (by simp; omega)
theorem plr_len {zs : List Int} {table addr most : Nat} {r : List Nat} {wh : Bool} {e : Nat} (h : PlR zs table addr most r wh e) : r.length ≤ most := by
  rcases h with ⟨h1, rfl, rfl, rfl⟩ | ⟨h1, h2⟩
  · simp
  · exact plrun_len h2 (by simp)
end Go.Proofs.Ytbifolpahmeaeaa
