/- Layer 17: what is squeezed is stretched again. Lists alone. -/
import Derived.Test.YtnjeobijbbjlaaaZ17o
import Derived.Laws.Closers25b
namespace Go.Proofs.Ytnjeobijbbjlaaa
open Go.RowKit
set_option maxHeartbeats 1000000
set_option maxRecDepth 100000
set_option linter.unusedVariables false

theorem rowL_ok : ∀ (was now : List Int), OkB now → OkB (rowL was now)
  | _, [], _ => by simp [rowL, OkB]
  | [], c :: cs, h => by
    rw [rowL_nil]; exact h
  | d :: ds, c :: cs, h => by
    intro x hx
    rw [rowL] at hx
    rcases List.mem_cons.1 hx with rfl | hx
    · exact ⟨bits_lo_u8 .xor c d, bits_hi_u8 .xor c d⟩
    · exact rowL_ok ds cs (fun y hy => h y (by simp [hy])) x hx
theorem runL_ok (z : Nat) : OkB (runL z) := by
  induction z using Nat.strongRecOn with
  | ind z ih =>
    rw [runL]
    split
    · intro c hc; cases hc
    · rename_i h
      intro c hc
      rcases List.mem_cons.1 hc with rfl | hc
      · omega
      · rcases List.mem_cons.1 hc with rfl | hc
        · omega
        · exact ih _ (by omega) c hc
theorem sqT_ok : ∀ (row : List Int) (z : Nat), OkB row → OkB (sqT row z)
  | [], z, _ => by simp [sqT, OkB]
  | c :: cs, z, h => by
    have h2 : OkB cs := fun y hy => h y (by simp [hy])
    rw [sqT]
    split
    · exact sqT_ok cs (z + 1) h2
    · intro x hx
      rcases List.mem_append.1 hx with hx | hx
      · exact runL_ok z x hx
      · rcases List.mem_cons.1 hx with rfl | hx
        · exact h x (by simp)
        · exact sqT_ok cs 0 h2 x hx
theorem unL_ok : ∀ (n : Nat) (b : List Int), b.length ≤ n → OkB b → OkB (unL b)
  | _, [], _, _ => by simp [unL, OkB]
  | 0, c :: cs, h, _ => by simp at h
  | n + 1, c :: cs, h, hb => by
    by_cases h0 : c = 0
    · subst h0
      cases cs with
      | nil => simp [unL, OkB]
      | cons d ds =>
        rw [unL_run]
        intro x hx
        rcases List.mem_append.1 hx with hx | hx
        · rw [(List.mem_replicate.1 hx).2]; omega
        · exact unL_ok n ds (by simp at h; omega) (fun y hy => hb y (by simp [hy])) x hx
    · rw [unL_byte c cs h0]
      intro x hx
      rcases List.mem_cons.1 hx with rfl | hx
      · exact hb x (by simp)
      · exact unL_ok n cs (by simp at h; omega) (fun y hy => hb y (by simp [hy])) x hx
theorem zer8_ok (k : Nat) : OkB (zer8 k) := fun c hc => by
  rw [(List.mem_replicate.1 hc).2]; omega
theorem stL_ok (was : List Int) (size : Int) (b : List Int) (hb : OkB b) : OkB (stL was size b) := by
  unfold stL
  split
  · refine rowL_ok _ _ (fun c hc => ?_)
    rcases List.mem_append.1 hc with hc | hc
    · exact unL_ok _ b (Nat.le_refl _) hb c hc
    · exact zer8_ok _ c hc
  · intro c hc; cases hc
/-- a run, stretched -/
theorem unL_runL (z : Nat) (X : List Int) : unL (runL z ++ X) = zer8 z ++ unL X := by
  induction z using Nat.strongRecOn with
  | ind z ih =>
    rw [runL]
    split
    · rename_i h; subst h; rfl
    · rename_i h
      rw [List.cons_append, List.cons_append, unL_run, ih _ (by omega), ← List.append_assoc]
      congr 1
      unfold zer8
      rw [List.replicate_append_replicate]
      congr 1
      omega
theorem unE_runL (z r : Nat) (X : List Int) (h : z ≤ r) : unE (runL z ++ X) r = unE X (r - z) := by
  induction z using Nat.strongRecOn generalizing r with
  | ind z ih =>
    rw [runL]
    split
    · rename_i h; subst h; rfl
    · rename_i h0
      rw [List.cons_append, List.cons_append, unE_run, if_neg (by omega), ih _ (by omega) _ (by omega)]
      congr 1
      omega
theorem back_E : ∀ (cs : List Int) (z r : Nat), z + cs.length ≤ r → unE (sqT cs z) r = 0
  | [], z, r, _ => rfl
  | c :: cs, z, r, h => by
    rw [sqT]
    simp only [List.length_cons] at h
    split
    · exact back_E cs (z + 1) r (by omega)
    · rename_i hc
      rw [unE_runL z r _ (by omega), unE_byte _ _ _ hc, if_neg (by omega)]
      exact back_E cs 0 _ (by omega)
theorem back_L : ∀ (cs : List Int) (z : Nat), unL (sqT cs z) ++ zer8 (z + cs.length - (unL (sqT cs z)).length) = zer8 z ++ cs
  | [], z => by simp [sqT, unL]
  | c :: cs, z => by
    rw [sqT]
    split
    · rename_i hc
      subst hc
      have := back_L cs (z + 1)
      rw [show z + 1 + cs.length = z + (0 :: cs).length by simp; omega] at this
      rw [this]
      unfold zer8
      rw [List.replicate_succ', List.append_assoc]
      rfl
    · rename_i hc
      have := back_L cs 0
      rw [unL_runL, unL_byte _ _ hc]
      simp only [List.length_append, List.length_cons, zer8_len] at this ⊢
      rw [List.append_assoc, List.cons_append]
      congr 2
      rw [show z + (cs.length + 1) - (z + ((unL (sqT cs 0)).length + 1)) = 0 + cs.length - (unL (sqT cs 0)).length by omega, this]
      rfl
theorem run_len2 (z : Nat) : z = 0 ∨ 2 * (runL z).length ≤ 3 * z + 1 := by
  induction z using Nat.strongRecOn with
  | ind z ih =>
    by_cases h : z = 0
    · exact .inl h
    · refine .inr ?_
      rw [runL, dif_neg h]
      simp only [List.length_cons]
      rcases ih (z - min z 256) (by omega) with h2 | h2
      · rw [h2, runL_zero]; simp; omega
      · omega
theorem sq_len : ∀ (cs : List Int) (z : Nat), 2 * (sqT cs z).length ≤ 3 * (z + cs.length)
  | [], z => by simp [sqT]
  | c :: cs, z => by
    rw [sqT]
    split
    · have := sq_len cs (z + 1)
      simp only [List.length_cons]
      omega
    · have := sq_len cs 0
      simp only [List.length_append, List.length_cons]
      rcases run_len2 z with h | h
      · subst h; rw [runL_zero]; simp; omega
      · omega
theorem xb_back (x y : Int) (hx : 0 ≤ x ∧ x ≤ 255) (hy : 0 ≤ y ∧ y ≤ 255) : xb (xb x y) y = x := by
  have e : ∀ a b : Int, 0 ≤ a ∧ a ≤ 255 → 0 ≤ b ∧ b ≤ 255 → xb a b = ((a.toNat ^^^ b.toNat : Nat) : Int) := fun a b ha hb => by
    unfold xb
    exact u8_xor a b ha.1 (by omega) hb.1 (by omega)
  rw [e (xb x y) y ⟨bits_lo_u8 .xor x y, bits_hi_u8 .xor x y⟩ hy, e x y hx hy]
  simp [Nat.xor_assoc]
  omega
theorem xb_self (x : Int) (hx : 0 ≤ x ∧ x ≤ 255) : xb x x = 0 := by
  have : xb x x = ((x.toNat ^^^ x.toNat : Nat) : Int) := by
    unfold xb
    exact u8_xor x x hx.1 (by omega) hx.1 (by omega)
  rw [this, Nat.xor_self]
  rfl
theorem row_back : ∀ (was now : List Int), OkB was → OkB now → rowL was (rowL was now) = now
  | _, [], _, _ => by simp [rowL]
  | [], c :: cs, _, _ => by rw [rowL_nil, rowL_nil]
  | d :: ds, c :: cs, h, h2 => by
    rw [rowL, rowL, xb_back c d (h2 c (by simp)) (h d (by simp)), row_back ds cs (fun y hy => h y (by simp [hy])) (fun y hy => h2 y (by simp [hy]))]
theorem row_self : ∀ (now : List Int), OkB now → rowL now now = zer8 now.length
  | [], _ => rfl
  | c :: cs, h => by
    rw [rowL, xb_self c (h c (by simp)), row_self cs (fun y hy => h y (by simp [hy]))]
    rfl
/-- what was squeezed is stretched to what it was -/
theorem back_st (was now : List Int) (hw : OkB was) (hn : OkB now) (hs : now.length ≤ 1048576) : stE now.length (sqT (rowL was now) 0) = 0 ∧ stL was now.length (sqT (rowL was now) 0) = now := by
  have hl := rowL_len was now
  have h1 : stE now.length (sqT (rowL was now) 0) = 0 := by
    unfold stE
    rw [if_neg (by omega)]
    exact back_E _ 0 _ (by simp [hl])
  refine ⟨h1, ?_⟩
  unfold stL
  rw [if_pos h1]
  have := back_L (rowL was now) 0
  rw [hl, Nat.zero_add] at this
  rw [show ((now.length : Int)).toNat = now.length from rfl, this]
  show rowL was (rowL was now) = now
  exact row_back was now hw hn
end Go.Proofs.Ytnjeobijbbjlaaa
