/- Plain facts on decimal numerals (no program in it): a number's digits are read as the number, by the library's reading and by the document's. -/
import Derived.Lib.ItoaNum
import Derived.Lib.ItoaLen
import Derived.Lib.ItoaMem
import Derived.Lib.ParseIntB
namespace Go.Proofs.YtckkbiohkflknabDoor
open Go.Lib

/-- what digits say, read from the left -/
def dval (acc : Nat) : List UInt8 → Nat
  | [] => acc
  | c :: r => dval (acc * 10 + (c.toNat - 48)) r
/-- all are digits -/
def allDig (l : List UInt8) : Prop := ∀ c ∈ l, 48 ≤ c.toNat ∧ c.toNat ≤ 57

theorem dval_append (l : List UInt8) : ∀ (acc : Nat) (c : UInt8), dval acc (l ++ [c]) = dval acc l * 10 + (c.toNat - 48) := by
  induction l with
  | nil => intro acc c; rfl
  | cons x r ih => intro acc c; exact ih _ c
theorem dig_toNat (d : Nat) (h : d < 10) : (UInt8.ofNat (48 + d)).toNat = 48 + d := by
  simp [UInt8.toNat_ofNat']; omega
theorem dval_dec (u : Nat) : dval 0 (decDigits u) = u := by
  induction u using Nat.strongRecOn with
  | _ u ih =>
    by_cases h : u < 10
    · rw [decDigits, dif_pos h]
      show 0 * 10 + ((UInt8.ofNat (48 + u)).toNat - 48) = u
      rw [dig_toNat u h]; omega
    · rw [decDigits, dif_neg h, dval_append, ih (u / 10) (by omega), dig_toNat _ (by omega)]; omega
theorem dec_dig (u : Nat) : allDig (decDigits u) := by
  induction u using Nat.strongRecOn with
  | _ u ih =>
    by_cases h : u < 10
    · rw [decDigits, dif_pos h]
      intro c hc
      simp only [List.mem_singleton] at hc
      subst hc
      rw [dig_toNat u h]; omega
    · rw [decDigits, dif_neg h]
      intro c hc
      rcases List.mem_append.1 hc with hc | hc
      · exact ih (u / 10) (by omega) c hc
      · simp only [List.mem_singleton] at hc
        subst hc
        rw [dig_toNat _ (by omega)]; omega
theorem dec_ne (u : Nat) : decDigits u ≠ [] := by
  intro h
  have h1 := decDigits_length u
  have h2 := nDigits_pos u
  rw [h] at h1
  simp at h1
  omega
theorem dec_len (u : Nat) (h : u < 10000000000) : (decDigits u).length ≤ 10 := by
  rw [decDigits_length]
  by_cases h0 : u = 0
  · subst h0; rw [nDigits_small (by decide)]; decide
  · have key : ∀ k, u < 10 ^ k → nDigits u ≤ k ∨ u = 0 := by
      intro k
      induction k with
      | zero => intro hk; right; simpa using hk
      | succ k ih =>
        intro hk
        by_cases hk2 : u < 10 ^ k
        · rcases ih hk2 with h | h
          · left; omega
          · right; exact h
        · left; rw [nDigits_unique k u (by omega) hk]; exact Nat.le_refl _
    rcases key 10 (by simpa using h) with h1 | h1
    · exact h1
    · omega
theorem dval_ge (l : List UInt8) : ∀ acc : Nat, acc ≤ dval acc l := by
  induction l with
  | nil => intro acc; exact Nat.le_refl _
  | cons x r ih => intro acc; exact Nat.le_trans (by omega) (ih _)
theorem parseUintM_dig (M : Nat) (hM : M ≤ 4294967295) (l : List UInt8) : ∀ acc : Nat, allDig l → dval acc l ≤ M → parseUintM M acc l = .ok (dval acc l) := by
  induction l with
  | nil => intro acc _ _; rfl
  | cons c r ih =>
    intro acc hd hv
    have hc := hd c (List.mem_cons_self ..)
    have hr : allDig r := fun x hx => hd x (List.mem_cons_of_mem _ hx)
    have hg := dval_ge r (acc * 10 + (c.toNat - 48))
    have hv2 : dval (acc * 10 + (c.toNat - 48)) r ≤ M := hv
    rw [parseUintM, if_pos hc, if_neg (by omega), if_neg (by omega)]
    exact ih _ hr hv2
theorem dec_head (u : Nat) : ∃ c r, decDigits u = c :: r ∧ 48 ≤ c.toNat ∧ c.toNat ≤ 57 := by
  cases h : decDigits u with
  | nil => exact absurd h (dec_ne u)
  | cons c r => exact ⟨c, r, rfl, dec_dig u c (by rw [h]; exact List.mem_cons_self ..)⟩
theorem parse_itoa (v : Int) (h0 : -2147483648 ≤ v) (h1 : v ≤ 2147483647) : parseIntB 32 (itoa v) = .ok v := by
  unfold itoa
  split
  · rename_i hneg
    have hp := parseUintM_dig 4294967295 (Nat.le_refl _) (decDigits v.natAbs) 0 (dec_dig _) (by rw [dval_dec]; omega)
    rw [dval_dec] at hp
    have hp2 : parseUintB 32 (decDigits v.natAbs) = .ok v.natAbs := by unfold parseUintB; rw [if_neg (dec_ne _)]; exact hp
    have e45 : (45 : UInt8).toNat = 45 := rfl
    simp only [parseIntB, e45, or_true, if_true, hp2, not_true, false_and, if_false, true_and]
    rw [if_neg (by simp; omega)]
    simp
    omega
  · rename_i hneg
    have hp := parseUintM_dig 4294967295 (Nat.le_refl _) (decDigits v.toNat) 0 (dec_dig _) (by rw [dval_dec]; omega)
    rw [dval_dec] at hp
    have hp2 : parseUintB 32 (decDigits v.toNat) = .ok v.toNat := by unfold parseUintB; rw [if_neg (dec_ne _)]; exact hp
    obtain ⟨c, r, hcr, hc1, hc2⟩ := dec_head v.toNat
    rw [hcr] at hp2 ⊢
    have n1 : ¬ c.toNat = 45 := by omega
    have n2 : ¬ c.toNat = 43 := by omega
    simp only [parseIntB, n2, n1, or_self, if_false, hp2, not_false_eq_true, true_and, false_and]
    rw [if_neg (by simp; omega)]
    simp
    omega
theorem itoa_inj (u v : Int) (h : itoa u = itoa v) : u = v := by
  have hd : ∀ a b : Nat, decDigits a = decDigits b → a = b := fun a b h => by
    have := congrArg (dval 0) h
    rwa [dval_dec, dval_dec] at this
  have hm : ∀ a b : Nat, ¬ (45 :: decDigits a = decDigits b) := fun a b h => by
    obtain ⟨c, r, hcr, hc1, hc2⟩ := dec_head b
    rw [hcr] at h
    have e := (List.cons.inj h).1
    subst e
    have e45 : (45 : UInt8).toNat = 45 := rfl
    omega
  unfold itoa at h
  split at h <;> split at h
  · have := hd _ _ (List.cons.inj h).2; omega
  · exact absurd h (hm _ _)
  · exact absurd h.symm (hm _ _)
  · have := hd _ _ h; omega
theorem parse_range (l : List UInt8) (v : Int) (h : parseIntB 32 l = .ok v) : -2147483648 ≤ v ∧ v ≤ 2147483647 := by
  cases l with
  | nil => cases h
  | cons c r =>
    simp only [parseIntB] at h
    cases hu : parseUintB 32 (if c.toNat = 43 ∨ c.toNat = 45 then r else c :: r) with
    | ok u =>
      rw [hu] at h
      simp only at h
      by_cases hc : c.toNat = 45
      · simp only [hc, not_true, false_and, if_false, true_and, if_true] at h
        split at h
        · cases h
        · have hv := NumEnd.ok.inj h
          rename_i h2
          simp at h2
          omega
      · simp only [hc, not_false_eq_true, true_and, false_and, if_false] at h
        split at h
        · cases h
        · have hv := NumEnd.ok.inj h
          rename_i h2
          simp at h2
          omega
    | _ => rw [hu] at h; cases h
end Go.Proofs.YtckkbiohkflknabDoor
