/- Layer 10: formats, locals and frames of a stack, as lists and numbers alone. -/
import Derived.Test.YtbifolpahmeaeaaH7a
namespace Go.Proofs.Ytbifolpahmeaeaa
open Go.RowKit
set_option maxHeartbeats 1000000
set_option maxRecDepth 100000
set_option linter.unusedVariables false

/-- how many bytes the format has with which these begin; 0: none -/
def fmtL : List Int → Nat
  | n :: k :: r => if n = 0 ∧ k = 0 then 2 else if (n = 1 ∨ n = 2 ∨ n = 4) ∧ ¬ k = 0 then (if fmtL r = 0 then 0 else fmtL r + 2) else 0
  | _ => 0
/-- the least multiple of n that is not below a -/
def upN (a n : Nat) : Nat := a + (n - a % n) % n
/-- k locals of n bytes from a on: where they lie, where they end -/
def slR (n : Nat) : Nat → Nat → List (Nat × Nat)
  | 0, _ => []
  | k + 1, a => (upN a n, n) :: slR n k (upN a n + n)
def enR (n : Nat) : Nat → Nat → Nat
  | 0, a => a
  | k + 1, a => enR n k (upN a n + n)
def slL : List Int → Nat → List (Nat × Nat)
  | n :: k :: r, a => slR n.toNat k.toNat a ++ slL r (enR n.toNat k.toNat a)
  | _, _ => []
def enL : List Int → Nat → Nat
  | n :: k :: r, a => enL r (enR n.toNat k.toNat a)
  | _, a => a
/-- how many bytes a format's locals have; where they begin in a frame -/
def szF (f : List Int) : Nat := upN (enL f 0) 4
def posF (f : List Int) : Nat := upN (8 + f.length) 4
theorem fmtL_cons (n k : Int) (r : List Int) : fmtL (n :: k :: r) = if n = 0 ∧ k = 0 then 2 else if (n = 1 ∨ n = 2 ∨ n = 4) ∧ ¬ k = 0 then (if fmtL r = 0 then 0 else fmtL r + 2) else 0 := rfl
theorem fmtL_le : ∀ (zs : List Int), fmtL zs ≤ zs.length ∧ fmtL zs % 2 = 0 ∧ fmtL zs ≠ 1
  | [] => by simp [fmtL]
  | [_] => by simp [fmtL]
  | n :: k :: r => by
    have ih := fmtL_le r
    rw [fmtL_cons]
    simp only [List.length_cons]
    split
    · omega
    · split
      · split <;> omega
      · omega
theorem fmtL_two {zs : List Int} (h : fmtL zs ≠ 0) : 2 ≤ fmtL zs := by
  have := fmtL_le zs
  omega
/-- the format seen from the place i on -/
def fmtF (zs : List Int) (i : Nat) : Nat := if fmtL (zs.drop i) = 0 then 0 else i + fmtL (zs.drop i)
theorem drop_two (zs : List Int) (i : Nat) (h : i + 1 < zs.length) : zs.drop i = zs.getD i 0 :: zs.getD (i + 1) 0 :: zs.drop (i + 2) := by
  rw [List.drop_eq_getElem_cons (by omega : i < zs.length), List.drop_eq_getElem_cons (by omega : i + 1 < zs.length)]
  simp [List.getD_eq_getElem?_getD, show i < zs.length by omega, h]
theorem drop_few (zs : List Int) (i : Nat) (h : ¬ i + 1 < zs.length) : fmtL (zs.drop i) = 0 := by
  have := (fmtL_le (zs.drop i))
  have hl : (zs.drop i).length = zs.length - i := by simp
  omega
theorem fmtF_none (zs : List Int) (i : Nat) (h : ¬ i + 1 < zs.length) : fmtF zs i = 0 := by simp [fmtF, drop_few zs i h]
theorem fmtF_end (zs : List Int) (i : Nat) (h : i + 1 < zs.length) (h0 : zs.getD i 0 = 0) (h1 : zs.getD (i + 1) 0 = 0) : fmtF zs i = i + 2 := by
  unfold fmtF
  rw [drop_two zs i h, fmtL_cons, h0, h1]
  simp
theorem fmtF_bad (zs : List Int) (i : Nat) (h : i + 1 < zs.length) (h0 : ¬ (zs.getD i 0 = 0 ∧ zs.getD (i + 1) 0 = 0)) (h1 : ¬ ((zs.getD i 0 = 1 ∨ zs.getD i 0 = 2 ∨ zs.getD i 0 = 4) ∧ ¬ zs.getD (i + 1) 0 = 0)) : fmtF zs i = 0 := by
  unfold fmtF
  rw [drop_two zs i h, fmtL_cons, if_neg h0, if_neg h1]
  simp
theorem fmtF_next (zs : List Int) (i : Nat) (h : i + 1 < zs.length) (h1 : (zs.getD i 0 = 1 ∨ zs.getD i 0 = 2 ∨ zs.getD i 0 = 4) ∧ ¬ zs.getD (i + 1) 0 = 0) : fmtF zs i = fmtF zs (i + 2) := by
  have e : fmtL (zs.drop i) = if fmtL (zs.drop (i + 2)) = 0 then 0 else fmtL (zs.drop (i + 2)) + 2 := by
    rw [drop_two zs i h, fmtL_cons, if_neg (fun h => h1.2 h.2), if_pos h1]
  unfold fmtF
  rw [e]
  by_cases h2 : fmtL (zs.drop (i + 2)) = 0
  · simp [h2]
  · rw [if_neg h2, if_neg (by omega), if_neg h2]; omega
theorem fmtF_zero (zs : List Int) : fmtF zs 0 = fmtL zs := by
  unfold fmtF
  rw [List.drop_zero]
  split <;> omega
/-- what is behind a format has no part in it -/
theorem fmtL_app : ∀ (a b : List Int), fmtL a ≠ 0 → fmtL (a ++ b) = fmtL a
  | [], b, h => by simp [fmtL] at h
  | [_], b, h => by simp [fmtL] at h
  | n :: k :: r, b, h => by
    rw [List.cons_append, List.cons_append, fmtL_cons, fmtL_cons]
    rw [fmtL_cons] at h
    split
    · rfl
    · rename_i h0
      rw [if_neg h0] at h
      split
      · rename_i h1
        rw [if_pos h1] at h
        have hr : fmtL r ≠ 0 := by
          intro e; rw [e] at h; simp at h
        rw [fmtL_app r b hr]
      · rfl
theorem fmtL_take : ∀ (a : List Int) (k : Nat), fmtL a ≠ 0 → fmtL a ≤ k → fmtL (a.take k) = fmtL a
  | [], k, h, _ => by simp [fmtL] at h
  | [_], k, h, _ => by simp [fmtL] at h
  | n :: m :: r, k, h, hk => by
    have h2 := fmtL_two h
    obtain ⟨k, rfl⟩ : ∃ j, k = j + 2 := ⟨k - 2, by omega⟩
    rw [List.take_succ_cons, List.take_succ_cons, fmtL_cons, fmtL_cons]
    rw [fmtL_cons] at h hk
    split
    · rfl
    · rename_i h0
      rw [if_neg h0] at h hk
      split
      · rename_i h1
        rw [if_pos h1] at h hk
        have hr : fmtL r ≠ 0 := by
          intro e; rw [e] at h; simp at h
        rw [if_neg hr] at hk
        rw [fmtL_take r k hr (by omega)]
      · rfl
/-- pairs of bytes -/
theorem slL_two (zs : List Int) (i a : Nat) (h : i + 1 < zs.length) : slL (zs.drop i) a = slR (zs.getD i 0).toNat (zs.getD (i + 1) 0).toNat a ++ slL (zs.drop (i + 2)) (enR (zs.getD i 0).toNat (zs.getD (i + 1) 0).toNat a) ∧ enL (zs.drop i) a = enL (zs.drop (i + 2)) (enR (zs.getD i 0).toNat (zs.getD (i + 1) 0).toNat a) := by
  rw [drop_two zs i h]
  exact ⟨rfl, rfl⟩
theorem slL_few (zs : List Int) (i a : Nat) (h : ¬ i + 1 < zs.length) : slL (zs.drop i) a = [] ∧ enL (zs.drop i) a = a := by
  have hl : (zs.drop i).length ≤ 1 := by simp; omega
  match zs.drop i, hl with
  | [], _ => exact ⟨rfl, rfl⟩
  | [x], _ => exact ⟨rfl, rfl⟩
  | _ :: _ :: _, h => simp at h
/-- upN is the least multiple -/
theorem upN_one (a : Nat) : upN a 1 = a := by unfold upN; omega
theorem upN_two (a : Nat) : upN a 2 = a + a % 2 := by unfold upN; omega
theorem upN_four (a : Nat) : upN a 4 = (a + 3) / 4 * 4 := by unfold upN; omega
theorem upN_bd (a n : Nat) (h : n = 1 ∨ n = 2 ∨ n = 4) : a ≤ upN a n ∧ upN a n ≤ a + 3 ∧ upN a n % n = 0 := by
  rcases h with rfl | rfl | rfl
  · rw [upN_one]; omega
  · rw [upN_two]; omega
  · rw [upN_four]; omega
theorem posF_mod (f : List Int) : posF f % 4 = 0 ∧ 8 + f.length ≤ posF f ∧ posF f ≤ f.length + 11 := by
  have := upN_bd (8 + f.length) 4 (by simp)
  unfold posF
  omega
theorem szF_mod (f : List Int) : szF f % 4 = 0 ∧ enL f 0 ≤ szF f := by
  have := upN_bd (enL f 0) 4 (by simp)
  unfold szF
  omega
theorem enR_mono (n : Nat) (hn : n = 1 ∨ n = 2 ∨ n = 4) : ∀ k a, a ≤ enR n k a ∧ enR n k a ≤ a + 7 * k
  | 0, a => by simp [enR]
  | k + 1, a => by
    have h1 := upN_bd a n hn
    have h2 := enR_mono n hn k (upN a n + n)
    rw [enR]
    omega
/-- the last place: at + n of the last local -/
theorem enR_last (n : Nat) : ∀ k a, 0 < k → ∃ l, slR n k a = l ++ [(enR n k a - n, n)] ∧ n ≤ enR n k a
  | 0, a, h => by omega
  | 1, a, _ => ⟨[], by simp [slR, enR], by simp [enR]⟩
  | k + 2, a, _ => by
    obtain ⟨l, h1, h2⟩ := enR_last n (k + 1) (upN a n + n) (by omega)
    refine ⟨(upN a n, n) :: l, ?_, ?_⟩
    · rw [slR, h1]; rfl
    · rw [enR]; exact h2
theorem slR_in (n : Nat) (hn : n = 1 ∨ n = 2 ∨ n = 4) : ∀ k a p, p ∈ slR n k a → a ≤ p.1 ∧ p.2 = n ∧ p.1 + p.2 ≤ enR n k a
  | 0, a, p, h => by simp [slR] at h
  | k + 1, a, p, h => by
    have h1 := upN_bd a n hn
    have h3 := enR_mono n hn k (upN a n + n)
    rw [slR] at h
    rw [enR]
    rcases List.mem_cons.1 h with rfl | h
    · exact ⟨h1.1, rfl, h3.1⟩
    · have := slR_in n hn k _ p h
      omega
/-- all pairs of a format but the last are widths and counts -/
def isPairs : List Int → Prop
  | n :: k :: r => ((n = 1 ∨ n = 2 ∨ n = 4) ∨ k = 0) ∧ 0 ≤ k ∧ k ≤ 255 ∧ isPairs r
  | _ => True
theorem pairs_of : ∀ (zs : List Int), OkB zs → fmtL zs ≠ 0 → isPairs (zs.take (fmtL zs))
  | [], _, h => by simp [fmtL] at h
  | [_], _, h => by simp [fmtL] at h
  | n :: k :: r, ho, h => by
    have hk := ho k (by simp)
    rw [fmtL_cons] at h ⊢
    split
    · rename_i h0
      simp only [List.take_succ_cons, List.take_zero]
      exact ⟨.inr h0.2, hk.1, hk.2, trivial⟩
    · rename_i h0
      rw [if_neg h0] at h
      split
      · rename_i h1
        rw [if_pos h1] at h
        have hr : fmtL r ≠ 0 := by
          intro e; rw [e] at h; simp at h
        rw [if_neg hr]
        simp only [List.take_succ_cons]
        exact ⟨.inl h1.1, hk.1, hk.2, pairs_of r (fun c hc => ho c (by simp [hc])) hr⟩
      · rename_i h1
        rw [if_neg h1] at h; exact absurd rfl h
theorem enL_mono : ∀ (f : List Int) (a : Nat), isPairs f → a ≤ enL f a ∧ enL f a ≤ a + 1785 * f.length
  | [], a, _ => by simp [enL]
  | [_], a, _ => by simp [enL]
  | n :: k :: r, a, h => by
    obtain ⟨h1, h2, h3, h4⟩ := h
    rw [enL]
    have h6 := enL_mono r (enR n.toNat k.toNat a) h4
    rcases h1 with h1 | h1
    · have h5 := enR_mono n.toNat (by omega) k.toNat a
      simp only [List.length_cons]
      omega
    · subst h1
      simp only [List.length_cons]
      simp [enR] at h6 ⊢
      omega
theorem slL_in : ∀ (f : List Int) (a : Nat), isPairs f → ∀ p ∈ slL f a, a ≤ p.1 ∧ (p.2 = 1 ∨ p.2 = 2 ∨ p.2 = 4) ∧ p.1 + p.2 ≤ enL f a
  | [], a, _, p, hp => by simp [slL] at hp
  | [_], a, _, p, hp => by simp [slL] at hp
  | n :: k :: r, a, h, p, hp => by
    obtain ⟨h1, h2, h3, h4⟩ := h
    rw [slL] at hp
    rw [enL]
    have h6 := enL_mono r (enR n.toNat k.toNat a) h4
    rcases h1 with h1 | h1
    · have h5 := enR_mono n.toNat (by omega) k.toNat a
      rcases List.mem_append.1 hp with hp | hp
      · have := slR_in n.toNat (by omega) k.toNat a p hp
        omega
      · have := slL_in r _ h4 p hp
        omega
    · subst h1
      rcases List.mem_append.1 hp with hp | hp
      · simp [slR] at hp
      · have := slL_in r _ h4 p hp
        simp [enR] at this ⊢
        exact this
/-- the last local ends where the locals end -/
theorem slL_last : ∀ (f : List Int) (a : Nat), (slL f a = [] ∧ enL f a = a) ∨ ∃ l p, slL f a = l ++ [p] ∧ p.1 + p.2 = enL f a
  | [], a => .inl ⟨rfl, rfl⟩
  | [_], a => .inl ⟨rfl, rfl⟩
  | n :: k :: r, a => by
    rw [slL, enL]
    rcases slL_last r (enR n.toNat k.toNat a) with ⟨h1, h2⟩ | ⟨l, p, h1, h2⟩
    · rw [h1, h2, List.append_nil]
      by_cases hk : k.toNat = 0
      · rw [hk]; exact .inl ⟨rfl, rfl⟩
      · obtain ⟨l, h3, h4⟩ := enR_last n.toNat k.toNat a (by omega)
        exact .inr ⟨l, _, h3, by simp only; omega⟩
    · exact .inr ⟨slR n.toNat k.toNat a ++ l, p, by rw [h1, List.append_assoc], h2⟩
/-- a format whose last pair is 0 0: without that pair the locals are the same -/
theorem slL_short : ∀ (zs : List Int) (a : Nat), fmtL zs = zs.length → zs ≠ [] → slL (zs.take (zs.length - 2)) a = slL zs a ∧ enL (zs.take (zs.length - 2)) a = enL zs a
  | [], a, _, h => absurd rfl h
  | [x], a, h, _ => by simp [fmtL] at h
  | n :: k :: r, a, h, _ => by
    rw [fmtL_cons] at h
    simp only [List.length_cons] at h ⊢
    split at h
    · rename_i h0
      have hr : r = [] := List.eq_nil_of_length_eq_zero (by omega)
      subst hr
      obtain ⟨rfl, rfl⟩ := h0
      simp [slL, enL, slR, enR]
    · split at h
      · by_cases hr : fmtL r = 0
        · rw [if_pos hr] at h; omega
        · rw [if_neg hr] at h
          have h2 := fmtL_two hr
          have hne : r ≠ [] := by intro e; subst e; simp [fmtL] at hr
          obtain ⟨h3, h4⟩ := slL_short r (enR n.toNat k.toNat a) (by omega) hne
          rw [show r.length + 1 + 1 - 2 = (r.length - 2) + 2 by have := fmtL_le r; omega, List.take_succ_cons, List.take_succ_cons, slL, enL, slL, enL, h3, h4]
          exact ⟨rfl, rfl⟩
      · omega
end Go.Proofs.Ytbifolpahmeaeaa
