/- The bits of a packed text at their places. -/
import Derived.Test.YtbifolpahmeaeaaR12h
namespace Go.Proofs.Ytbifolpahmeaeaa
open Go.RowKit Go.Maps
set_option maxHeartbeats 1000000
set_option maxRecDepth 100000
set_option linter.unusedVariables false

/-- the place of bit j of a text whose bits begin at P -/
def tjP (P j : Nat) : Ta := ⟨225, P + j / 8, j % 8⟩
theorem bhd_tj (P j : Nat) (h : P + j / 8 + 1 < 4294967296) : bhd (tjP P j) = tjP P (j + 1) := by
  unfold bhd tjP
  simp only
  by_cases e : j % 8 = 7
  · rw [if_pos e, show (P + j / 8 + 1) % 4294967296 = P + (j + 1) / 8 by omega, show (j + 1) % 8 = 0 by omega]
  · rw [if_neg e, show P + (j + 1) / 8 = P + j / 8 by omega, show (j % 8 + 1) % 4294967296 = (j + 1) % 8 by omega]
theorem bts_of (zs : List Int) (P : Nat) : ∀ (cs : List Nat) (j : Nat), (∀ k, k < cs.length → bitV zs (tjP P (j + k)) = cs.getD k 0 ∧ P + (j + k) / 8 + 1 ≤ zs.length) → zs.length < 4294967296 → BtsAt zs (tjP P j) cs ∧ adv (tjP P j) cs = tjP P (j + cs.length)
  | [], j, _, _ => ⟨trivial, rfl⟩
  | c :: cs, j, h, hl => by
    have h0 := h 0 (by simp)
    rw [Nat.add_zero] at h0
    have hb := bhd_tj P j (by omega)
    obtain ⟨i1, i2⟩ := bts_of zs P cs (j + 1) (fun k hk => by
      have := h (k + 1) (by simp; omega)
      rw [show j + (k + 1) = j + 1 + k by omega] at this
      exact ⟨by rw [this.1]; rfl, this.2⟩) hl
    refine ⟨⟨h0.2, h0.1, by rw [hb]; exact i1⟩, ?_⟩
    show adv (bhd (tjP P j)) cs = _
    rw [hb, i2, List.length_cons]
    congr 1
    omega
/-- a row of bits that is laid is read at its places -/
theorem bit_at {zs : List Int} {s : List Int × Nat} {bs : List Nat} {P : Nat} (h : BtRow s bs) (hz : InAt zs s.1 P) (hok : OkB zs) (j : Nat) (hj : j < bs.length) : bitV zs (tjP P j) = bs.getD j 0 ∧ P + j / 8 + 1 ≤ zs.length := by
  have hln := h.ln
  have hfit := hz.fit
  have hq : j / 8 < s.1.length := by omega
  refine ⟨?_, by omega⟩
  have hb := h.bit j hj
  unfold bitD at hb
  rw [← hz.eq (j / 8) hq] at hb
  have h0 := (okb_at hok (P + j / 8)).1
  show ((zs.getD (P + j / 8) 0).toNat / 2 ^ (j % 8)) % 2 = _
  generalize zs.getD (P + j / 8) 0 = Z at *
  obtain ⟨z, rfl⟩ := Int.eq_ofNat_of_zero_le h0
  rw [Int.toNat_natCast]
  have hm : j % 8 < 8 := Nat.mod_lt _ (by omega)
  generalize j % 8 = m at *
  rcases (show m = 0 ∨ m = 1 ∨ m = 2 ∨ m = 3 ∨ m = 4 ∨ m = 5 ∨ m = 6 ∨ m = 7 by omega) with rfl | rfl | rfl | rfl | rfl | rfl | rfl | rfl <;>
  (simp only [Int.reducePow, Nat.reducePow] at *; omega)
/-- the bits of a list of characters -/
def chB (A : List Nat) (c : Nat) : List Nat := 1 :: way A.length (A.idxOf c) A.length
theorem pkS_row (A l : List Nat) : ∀ k, k ≤ l.length → BtRow (pkS A l k) ((l.take k).flatMap (chB A))
  | 0, _ => by simpa [pkS] using btRow_nil
  | k + 1, h => by
    have ih := pkS_row A l k (by omega)
    have e : l.take (k + 1) = l.take k ++ [l.getD k 0] := by
      rw [List.take_add_one, List.getElem?_eq_getElem (by omega), List.getD_eq_getElem?_getD, List.getElem?_eq_getElem (by omega)]; rfl
    rw [e, List.flatMap_append]
    have := btRow_fold (chB A (l.getD k 0)) _ _ ih (fun b hb => by
      rcases List.mem_cons.1 hb with rfl | hb
      · omega
      · exact way_bits _ _ _ b hb)
    simpa [pkS, chB] using this
theorem pk_row (A l : List Nat) : BtRow (stepS (pkS A l l.length) 0) (l.flatMap (chB A) ++ [0]) := by
  have := (pkS_row A l l.length (Nat.le_refl _)).step 0 (by omega)
  rwa [List.take_length] at this
end Go.Proofs.Ytbifolpahmeaeaa
