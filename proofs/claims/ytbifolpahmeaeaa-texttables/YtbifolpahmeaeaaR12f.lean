/- The bits of a packed text, out of its bytes. -/
import Derived.Test.YtbifolpahmeaeaaB12x
namespace Go.Proofs.Ytbifolpahmeaeaa
open Go.RowKit Go.Maps
set_option maxHeartbeats 1000000
set_option maxRecDepth 100000
set_option linter.unusedVariables false

/-- the bits that a row of bytes holds, of each byte the lowest first -/
def bitD (zs : List Int) (j : Nat) : Int := zs.getD (j / 8) 0 / 2 ^ (j % 8) % 2
structure BtRow (s : List Int × Nat) (bs : List Nat) : Prop where
  nx : s.2 = bs.length % 8
  ln : s.1.length = (bs.length + 7) / 8
  bit : ∀ j, j < bs.length → bitD s.1 j = ((bs.getD j 0 : Nat) : Int)
  last : s.2 ≠ 0 → ∃ ys z, s.1 = ys ++ [z] ∧ 0 ≤ z ∧ z < 2 ^ s.2
theorem btRow_nil : BtRow ([], 0) [] := ⟨rfl, rfl, fun j hj => by simp at hj, fun h => absurd rfl h⟩
theorem bit_low (z : Int) (b r m : Nat) (h0 : 0 ≤ z) (hr : r ≤ 7) (hm : m < r) (hb : b ≤ 1) : (z + (b : Int) * 2 ^ r) / 2 ^ m % 2 = z / 2 ^ m % 2 := by
  rcases (show r = 1 ∨ r = 2 ∨ r = 3 ∨ r = 4 ∨ r = 5 ∨ r = 6 ∨ r = 7 by omega) with rfl | rfl | rfl | rfl | rfl | rfl | rfl <;>
  rcases (show m = 0 ∨ m = 1 ∨ m = 2 ∨ m = 3 ∨ m = 4 ∨ m = 5 ∨ m = 6 by omega) with rfl | rfl | rfl | rfl | rfl | rfl | rfl <;>
  first | omega | (simp only [Int.reducePow]; omega)
theorem bit_high (z : Int) (b r : Nat) (h0 : 0 ≤ z) (hr : r ≤ 7) (hz : z < 2 ^ r) (hb : b ≤ 1) : (z + (b : Int) * 2 ^ r) / 2 ^ r % 2 = b := by
  rcases (show r = 0 ∨ r = 1 ∨ r = 2 ∨ r = 3 ∨ r = 4 ∨ r = 5 ∨ r = 6 ∨ r = 7 by omega) with rfl | rfl | rfl | rfl | rfl | rfl | rfl | rfl <;>
  (simp only [Int.reducePow] at *; omega)
theorem lt_pow (z : Int) (b r : Nat) (h0 : 0 ≤ z) (hr : r ≤ 7) (hz : z < 2 ^ r) (hb : b ≤ 1) : 0 ≤ z + (b : Int) * 2 ^ r ∧ z + (b : Int) * 2 ^ r < 2 ^ (r + 1) := by
  rcases (show r = 0 ∨ r = 1 ∨ r = 2 ∨ r = 3 ∨ r = 4 ∨ r = 5 ∨ r = 6 ∨ r = 7 by omega) with rfl | rfl | rfl | rfl | rfl | rfl | rfl | rfl <;>
  (simp only [Int.reducePow, Nat.reduceAdd] at *; omega)
theorem getD_snoc_l {α : Type} (ys : List α) (z d : α) (i : Nat) (h : i < ys.length) : (ys ++ [z]).getD i d = ys.getD i d := by
  rw [List.getD_eq_getElem?_getD, List.getElem?_append_left h, ← List.getD_eq_getElem?_getD]
theorem getD_snoc_r {α : Type} (ys : List α) (z d : α) : (ys ++ [z]).getD ys.length d = z := by
  rw [List.getD_eq_getElem?_getD, List.getElem?_append_right (Nat.le_refl _)]
  simp
theorem BtRow.step {s : List Int × Nat} {bs : List Nat} (h : BtRow s bs) (b : Nat) (hb : b ≤ 1) : BtRow (stepS s b) (bs ++ [b]) := by
  obtain ⟨zs, nx⟩ := s
  have hnx : nx = bs.length % 8 := h.nx
  have hln : zs.length = (bs.length + 7) / 8 := h.ln
  have hbit := h.bit
  have hlen : (bs ++ [b]).length = bs.length + 1 := by simp
  by_cases h0 : nx = 0
  · have e : stepS (zs, nx) b = (zs ++ [(b : Int)], 1) := by
      unfold stepS stepB
      simp only [h0, if_pos]
    rw [e]
    refine ⟨by rw [hlen]; show 1 = _; omega, by rw [hlen]; simp; omega, fun j hj => ?_, fun _ => ⟨zs, b, rfl, by omega, by show (b : Int) < 2 ^ 1; omega⟩⟩
    rw [hlen] at hj
    by_cases hj2 : j < bs.length
    · rw [getD_snoc_l _ _ _ _ hj2, ← hbit j hj2]
      unfold bitD
      rw [getD_snoc_l _ _ _ _ (by omega)]
    · have ej : j = bs.length := by omega
      subst ej
      rw [getD_snoc_r]
      unfold bitD
      rw [show bs.length / 8 = zs.length by omega, getD_snoc_r, show bs.length % 8 = 0 by omega]
      omega
  · obtain ⟨ys, z, hz, z0, z1⟩ := h.last h0
    have hz' : zs = ys ++ [z] := hz
    have z1' : z < 2 ^ nx := z1
    subst hz'
    have e : stepS (ys ++ [z], nx) b = (ys ++ [z + (b : Int) * 2 ^ nx], (nx + 1) % 8) := by
      unfold stepS stepB
      simp [h0]
    rw [e]
    have hyl : ys.length + 1 = (bs.length + 7) / 8 := by simpa using hln
    have hlp := lt_pow z b nx z0 (by omega) z1' hb
    refine ⟨by rw [hlen]; show (nx + 1) % 8 = _; omega, by rw [hlen]; simp; omega, fun j hj => ?_, fun hn => ⟨ys, _, rfl, hlp.1, ?_⟩⟩
    · rw [hlen] at hj
      by_cases hj2 : j < bs.length
      · rw [getD_snoc_l _ _ _ _ hj2, ← hbit j hj2]
        unfold bitD
        by_cases hy : j / 8 < ys.length
        · rw [getD_snoc_l _ _ _ _ hy]
          show _ = (ys ++ [z]).getD (j / 8) 0 / _ % 2
          rw [getD_snoc_l _ _ _ _ hy]
        · have ey : j / 8 = ys.length := by omega
          show _ = (ys ++ [z]).getD (j / 8) 0 / _ % 2
          rw [ey, getD_snoc_r, getD_snoc_r]
          exact bit_low z b nx (j % 8) z0 (by omega) (by omega) hb
      · have ej : j = bs.length := by omega
        subst ej
        rw [getD_snoc_r]
        unfold bitD
        rw [show bs.length / 8 = ys.length by omega, getD_snoc_r, ← hnx]
        exact bit_high z b nx z0 (by omega) z1' hb
    · have hn' : (nx + 1) % 8 ≠ 0 := hn
      show _ < (2 : Int) ^ ((nx + 1) % 8)
      rw [show (nx + 1) % 8 = nx + 1 by omega]
      exact hlp.2
theorem btRow_fold : ∀ (cs : List Nat) (s : List Int × Nat) (bs : List Nat), BtRow s bs → (∀ b ∈ cs, b ≤ 1) → BtRow (cs.foldl stepS s) (bs ++ cs)
  | [], s, bs, h, _ => by simpa using h
  | c :: cs, s, bs, h, hc => by
    have := btRow_fold cs (stepS s c) (bs ++ [c]) (h.step c (hc c (by simp))) (fun b hb => hc b (List.mem_cons_of_mem _ hb))
    rw [List.append_assoc] at this
    exact this
theorem way_bits : ∀ (f i n : Nat), ∀ b ∈ way f i n, b ≤ 1
  | 0, _, _ => by simp [way]
  | f + 1, i, n => by
    unfold way
    split
    · simp
    · split
      · intro b hb
        rcases List.mem_cons.1 hb with rfl | hb
        · omega
        · exact way_bits f _ _ b hb
      · intro b hb
        rcases List.mem_cons.1 hb with rfl | hb
        · omega
        · exact way_bits f _ _ b hb
end Go.Proofs.Ytbifolpahmeaeaa
