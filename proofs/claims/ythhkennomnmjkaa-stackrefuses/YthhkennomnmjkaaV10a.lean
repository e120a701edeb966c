/- Layer 10: which bytes are a stack with a stub on top; where a throw leads: lists and numbers alone. -/
import Derived.Test.YthhkennomnmjkaaS10q
namespace Go.Proofs.Ythhkennomnmjkaa
open Go.RowKit
set_option maxHeartbeats 1000000
set_option maxRecDepth 100000
set_option linter.unusedVariables false

/-- does a frame lie at f that ends at t or ahead of it? -/
def frB (zs : List Int) (f t : Nat) : Bool :=
  decide (t ≤ zs.length) && (decide (fmtL (zs.drop (f + 8)) ≠ 0) && (decide (nu zs f = posF (frF zs f) + szF (frF zs f)) && (decide (nu zs (f + 4) = posF (frF zs f)) && decide (f + posF (frF zs f) + szF (frF zs f) ≤ t))))
theorem frB_iff (zs : List Int) (f t : Nat) : frB zs f t = true ↔ IsFr zs f t := by
  unfold frB
  simp only [Bool.and_eq_true, decide_eq_true_eq]
  exact ⟨fun ⟨h1, h2, h3, h4, h5⟩ => ⟨h2, h3, h4, h5, h1⟩, fun h => ⟨h.tz, h.ne, h.len, h.pos, h.fits⟩⟩
theorem frB_no {zs : List Int} {f t : Nat} (h : ¬ IsFr zs f t) : frB zs f t = false := by
  cases e : frB zs f t with
  | false => rfl
  | true => exact absurd ((frB_iff zs f t).1 e) h
theorem fmt_seg_zero {zs : List Int} {f t : Nat} (ht : f + 8 ≤ t) (h : fmtL (seg zs (f + 8) (t - f - 8)) = 0) : ¬ IsFr zs f t := fun k => by
  have hb := k.bd
  have hle := k.len
  have hl := frF_len (zs := zs) (f := f)
  have := fmtL_take (zs.drop (f + 8)) (t - f - 8) k.ne (by omega)
  unfold seg at h
  rw [this] at h
  exact k.ne h
theorem frF_seg {zs : List Int} {f t : Nat} (h : fmtL (seg zs (f + 8) (t - f - 8)) ≠ 0) : fmtL (zs.drop (f + 8)) = fmtL (seg zs (f + 8) (t - f - 8)) ∧ frF zs f = (seg zs (f + 8) (t - f - 8)).take (fmtL (seg zs (f + 8) (t - f - 8))) := by
  have e : fmtL (zs.drop (f + 8)) = fmtL (seg zs (f + 8) (t - f - 8)) := by
    have := fmtL_app (seg zs (f + 8) (t - f - 8)) ((zs.drop (f + 8)).drop (t - f - 8)) h
    unfold seg at this ⊢
    rw [List.take_append_drop] at this
    exact this
  refine ⟨e, ?_⟩
  have hl := (fmtL_le (seg zs (f + 8) (t - f - 8))).1
  have hk : (seg zs (f + 8) (t - f - 8)).length ≤ t - f - 8 := by unfold seg; simp; omega
  unfold frF
  rw [e]
  generalize fmtL (seg zs (f + 8) (t - f - 8)) = K at *
  unfold seg
  rw [List.take_take, Nat.min_eq_left (by omega)]
/-- is what lies from the frame at f down, which ends at t, a chain of frames? k: more than there are -/
def chnB (zs : List Int) : Nat → Nat → Nat → Bool
  | 0, _, _ => false
  | k + 1, f, t => decide (f % 4 = 0) && (decide (f = 0 ∨ 16 ≤ f) && (frB zs f t && (decide (f = 0) || chnB zs k (nu zs (f - 4)) (f - 16))))
theorem chn_iff {zs : List Int} {f t : Nat} : Chn zs f t ↔ f % 4 = 0 ∧ (f = 0 ∨ 16 ≤ f) ∧ IsFr zs f t ∧ (f = 0 ∨ Chn zs (nu zs (f - 4)) (f - 16)) := by
  constructor
  · intro h
    have h1 := h.mod
    have h2 := h.fr
    rcases h.parts with h3 | ⟨h3, h4⟩
    · exact ⟨h1, .inl h3, h2, .inl h3⟩
    · exact ⟨h1, .inr h3, h2, .inr h4⟩
  · rintro ⟨h1, h2, h3, h4⟩
    by_cases h0 : f = 0
    · subst h0
      exact .base h3
    · rcases h2 with h2 | h2
      · exact absurd h2 h0
      · rcases h4 with h4 | h4
        · exact absurd h4 h0
        · exact .next h1 h2 h3 h4
theorem chnB_iff (zs : List Int) : ∀ (k f t : Nat), f < k → (chnB zs k f t = true ↔ Chn zs f t)
  | 0, f, t, h => by omega
  | k + 1, f, t, h => by
    rw [chn_iff, chnB]
    simp only [Bool.and_eq_true, Bool.or_eq_true, decide_eq_true_eq, frB_iff]
    by_cases h0 : f = 0
    · simp [h0]
    · constructor
      · rintro ⟨h1, h2, h3, h4⟩
        refine ⟨h1, h2, h3, .inr ?_⟩
        rcases h4 with h4 | h4
        · exact absurd h4 h0
        · by_cases h5 : nu zs (f - 4) < k
          · exact (chnB_iff zs k _ _ h5).1 h4
          · exfalso
            have : ∀ j g u, u < g → chnB zs j g u = false := fun j g u hu => by
              cases j with
              | zero => rfl
              | succ j =>
                rw [chnB, frB_no (fun hf => by have := hf.bd; omega)]
                simp
            rw [this k _ _ (by omega)] at h4
            cases h4
      · rintro ⟨h1, h2, h3, h4⟩
        refine ⟨h1, h2, h3, .inr ?_⟩
        rcases h4 with h4 | h4
        · exact absurd h4 h0
        · have hb := h4.fr.bd
          exact (chnB_iff zs k _ _ (by omega)).2 h4
/-- is it a stack with a stub on top? -/
def rightB (zs : List Int) : Bool := decide (zs.length % 4 = 0) && (decide (16 ≤ zs.length) && chnB zs zs.length (nu zs (zs.length - 4)) (zs.length - 16))
theorem chnB_far (zs : List Int) (k f t : Nat) (h : t < f) : chnB zs k f t = false := by
  cases k with
  | zero => rfl
  | succ k =>
    rw [chnB, frB_no (fun hf => by have := hf.bd; omega)]
    simp
theorem chnB_iff' (zs : List Int) (k f t : Nat) (h : t < k) : chnB zs k f t = true ↔ Chn zs f t := by
  by_cases hf : f < k
  · exact chnB_iff zs k f t hf
  · rw [chnB_far zs k f t (by omega)]
    constructor
    · intro h; cases h
    · intro hc
      have := hc.fr.bd
      omega
theorem rightB_iff (zs : List Int) : rightB zs = true ↔ zs.length % 4 = 0 ∧ 16 ≤ zs.length ∧ Chn zs (nu zs (zs.length - 4)) (zs.length - 16) := by
  unfold rightB
  simp only [Bool.and_eq_true, decide_eq_true_eq]
  constructor
  · rintro ⟨h1, h2, h3⟩
    exact ⟨h1, h2, (chnB_iff' zs _ _ _ (by omega)).1 h3⟩
  · rintro ⟨h1, h2, h3⟩
    exact ⟨h1, h2, (chnB_iff' zs _ _ _ (by omega)).2 h3⟩
theorem rightB_eq {zs : List Int} {b : Bool} (h1 : zs.length % 4 = 0) (h2 : 16 ≤ zs.length) (h : b = true ↔ Chn zs (nu zs (zs.length - 4)) (zs.length - 16)) : rightB zs = b := by
  cases b with
  | true => exact (rightB_iff zs).2 ⟨h1, h2, h.1 rfl⟩
  | false =>
    cases e : rightB zs with
    | false => rfl
    | true => exact absurd (h.2 ((rightB_iff zs).1 e).2.2) (by simp)
/-- what Load answers and leaves -/
def loadE (s : Ks) (zs : List Int) : Nat := if zs.length ≤ s.size ∧ rightB zs = true then 0 else 102
def loadS (s : Ks) (zs : List Int) : Ks := if loadE s zs = 0 then ⟨s.size, zs, nu zs (zs.length - 4), true⟩ else s
theorem ok_load {s : Ks} (ok : OkK s) {zs : List Int} (hb : OkB zs) : OkK (loadS s zs) := by
  unfold loadS
  split
  · rename_i h
    unfold loadE at h
    split at h
    · rename_i hr
      obtain ⟨h1, h2, h3⟩ := (rightB_iff zs).1 hr.2
      refine ⟨hr.1, ok.most, h1, hb, fun _ => ?_, (fun h => by simp at h)⟩
      have := h3.fr.bd
      have := h3.fr.len
      exact h3.move (k := zs.length) rfl (by omega) (by simp only; omega) (Nat.le_refl _)
    · omega
  · exact ok
/-- where a throw leads from the frame at f, which ends at e: t the token, g the frame that its stub tells -/
def thrB (zs : List Int) (t g : Nat) : Nat → Nat → Nat → Bool
  | 0, _, _ => false
  | k + 1, f, e => if f = g then decide (f + nu zs f + 16 ≤ t ∧ t ≤ e) else if f = 0 then false else thrB zs t g k (nu zs (f - 4)) f
def thrE (s : Ks) (t : Nat) : Nat :=
  if s.on = true ∧ t % 4 = 0 ∧ 16 ≤ t ∧ t ≤ s.bs.length then (if thrB s.bs t (nu s.bs (t - 4)) s.bs.length s.fr s.bs.length = true then 0 else 104) else 104
def thrS (s : Ks) (t : Nat) : Ks := if thrE s t = 0 then ⟨s.size, s.bs.take t, nu s.bs (t - 4), true⟩ else s
/-- frames of a chain get less -/
theorem Chn.lt {zs : List Int} {f t : Nat} (h : Chn zs f t) (h0 : f ≠ 0) : nu zs (f - 4) + 28 ≤ f ∧ 16 ≤ f ∧ Chn zs (nu zs (f - 4)) (f - 16) := by
  rcases h.parts with h1 | ⟨h1, h2⟩
  · exact absurd h1 h0
  · have := h2.fr.bd
    exact ⟨by omega, h1, h2⟩
/-- what the throw finds is a frame of the chain -/
theorem thrB_chn (zs : List Int) (t g : Nat) : ∀ (k f e u : Nat), Chn zs f u → u ≤ e → e ≤ zs.length → (e = u ∨ e = u + 16) → thrB zs t g k f e = true → Chn zs g t ∧ g + nu zs g + 16 ≤ t ∧ t ≤ zs.length
  | 0, f, e, u, _, _, _, _, h => by cases h
  | k + 1, f, e, u, hc, hu, he, hue, h => by
    rw [thrB] at h
    by_cases hg : f = g
    · rw [if_pos hg] at h
      subst hg
      simp only [decide_eq_true_eq] at h
      have hb := hc.fr.bd
      have hle := hc.fr.len
      exact ⟨hc.move (k := zs.length) rfl (by omega) (by omega) (by omega), h.1, by omega⟩
    · rw [if_neg hg] at h
      by_cases h0 : f = 0
      · rw [if_pos h0] at h; cases h
      · rw [if_neg h0] at h
        obtain ⟨h1, h2, h3⟩ := hc.lt h0
        have hb := hc.fr.bd
        exact thrB_chn zs t g k _ f (f - 16) h3 (by omega) (by omega) (by omega) h
theorem ok_throw {s : Ks} (ok : OkK s) (t : Nat) : OkK (thrS s t) := by
  unfold thrS
  split
  · rename_i h
    unfold thrE at h
    split at h
    · rename_i hr
      split at h
      · rename_i hb
        obtain ⟨h1, h2, h3⟩ := thrB_chn s.bs t _ _ _ _ _ (ok.cur hr.1) (Nat.le_refl _) (Nat.le_refl _) (.inl rfl) hb
        have hl : (s.bs.take t).length = t := by simp; omega
        have hs := ok.sz
        refine ⟨by simp only [hl]; omega, ok.most, by simp only [hl]; omega, okb_take ok.okb _, fun _ => ?_, (fun h => by simp at h)⟩
        simp only [hl]
        exact h1.cut (Nat.le_refl _) (by omega)
      · omega
    · omega
  · exact ok
end Go.Proofs.Ythhkennomnmjkaa
