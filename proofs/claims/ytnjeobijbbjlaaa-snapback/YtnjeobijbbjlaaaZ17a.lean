/- Layer 17: two rows of bytes together; what is squeezed of a row; what is stretched. Lists alone. -/
import Derived.Test.YtnjeobijbbjlaaaS15r
import Derived.Deep.Cut
import Derived.Deep.CutRange
import Derived.Deep.Slices
import Derived.OneCell
import Derived.Maps.AppendAt
import Derived.LoopTactic
namespace Go.Proofs.Ytnjeobijbbjlaaa
open Go.RowKit
set_option maxHeartbeats 1000000
set_option linter.unusedVariables false

/-- one byte xor another -/
def xb (x y : Int) : Int := bits .xor .u8 x y
/-- the row that now is together with was -/
def rowL : List Int → List Int → List Int
  | _, [] => []
  | [], c :: cs => c :: rowL [] cs
  | d :: ds, c :: cs => xb c d :: rowL ds cs
theorem rowL_len : ∀ (was now : List Int), (rowL was now).length = now.length
  | _, [] => by simp [rowL]
  | [], c :: cs => by simp [rowL, rowL_len [] cs]
  | d :: ds, c :: cs => by simp [rowL, rowL_len ds cs]
theorem rowL_nil : ∀ now : List Int, rowL [] now = now
  | [] => rfl
  | c :: cs => by rw [rowL, rowL_nil cs]
/-- one byte more of was -/
theorem rowL_set : ∀ (was now : List Int) (i : Nat), i < was.length → i < now.length → (rowL (was.take i) now).set i (xb ((rowL (was.take i) now).getD i 0) (was.getD i 0)) = rowL (was.take (i + 1)) now
  | [], _, _, h, _ => by simp at h
  | _ :: _, [], _, _, h => by simp at h
  | d :: ds, c :: cs, 0, _, _ => by simp [rowL]
  | d :: ds, c :: cs, i + 1, h, h2 => by
    simp only [List.length_cons, Nat.add_lt_add_iff_right] at h h2
    simp only [List.take_succ_cons, rowL, List.set_cons_succ, List.getD_cons_succ]
    rw [rowL_set ds cs i h h2]
theorem rowL_more : ∀ (was now : List Int) (i : Nat), (min now.length was.length) ≤ i → rowL (was.take i) now = rowL was now
  | _, [], _, _ => by simp [rowL]
  | [], c :: cs, i, _ => by simp
  | d :: ds, c :: cs, 0, h => by simp at h
  | d :: ds, c :: cs, i + 1, h => by
    simp only [List.take_succ_cons, rowL]
    rw [rowL_more ds cs i (by simp at h; omega)]
theorem rowL_snoc : ∀ (was now : List Int) (i : Nat), i < now.length → rowL was (now.take (i + 1)) = rowL was (now.take i) ++ [if i < was.length then xb (now.getD i 0) (was.getD i 0) else now.getD i 0]
  | _, [], _, h => by simp at h
  | [], c :: cs, 0, _ => by simp [rowL]
  | d :: ds, c :: cs, 0, _ => by simp [rowL]
  | [], c :: cs, i + 1, h => by
    simp only [List.length_cons, Nat.add_lt_add_iff_right] at h
    have := rowL_snoc [] cs i h
    simp only [List.take_succ_cons, rowL, this]
    simp
  | d :: ds, c :: cs, i + 1, h => by
    simp only [List.length_cons, Nat.add_lt_add_iff_right] at h
    have := rowL_snoc ds cs i h
    simp only [List.take_succ_cons, rowL, this]
    simp
/-- a run of bytes 0, in parts of 256 -/
def runL (z : Nat) : List Int := if h : z = 0 then [] else 0 :: ((min z 256 - 1 : Nat) : Int) :: runL (z - min z 256)
termination_by z
decreasing_by omega
theorem runL_zero : runL 0 = [] := by rw [runL]; rfl
theorem runL_more (z : Nat) : runL (256 + z) = 0 :: 255 :: runL z := by
  rw [runL, dif_neg (by omega), show min (256 + z) 256 = 256 by omega, show 256 + z - 256 = z by omega]
  rfl
theorem runL_few (z : Nat) (h0 : 0 < z) (h : z ≤ 256) : runL z = [0, ((z - 1 : Nat) : Int)] := by
  rw [runL, dif_neg (by omega), show min z 256 = z by omega, Nat.sub_self, runL_zero]
theorem run_len (z : Nat) : (runL z).length ≤ 2 * z := by
  induction z using Nat.strongRecOn with
  | ind z ih =>
    rw [runL]
    split
    · simp
    · rename_i h
      have := ih (z - min z 256) (by omega)
      simp only [List.length_cons]
      omega
/-- what is squeezed of the rest of a row ahead of which so many bytes 0 stand -/
def sqT : List Int → Nat → List Int
  | [], _ => []
  | c :: cs, z => if c = 0 then sqT cs (z + 1) else runL z ++ c :: sqT cs 0
theorem sqT_zeros : ∀ (cs : List Int) (z : Nat), (∀ c ∈ cs, c = 0) → sqT cs z = []
  | [], _, _ => rfl
  | c :: cs, z, h => by
    rw [sqT, if_pos (h c (by simp))]
    exact sqT_zeros cs (z + 1) (fun d hd => h d (by simp [hd]))
theorem sqT_cut : ∀ (row : List Int) (n z : Nat), (∀ c ∈ row.drop n, c = 0) → sqT (row.take n) z = sqT row z
  | [], n, z, _ => by simp
  | c :: cs, 0, z, h => by
    rw [List.take_zero, sqT_zeros (c :: cs) z (by simpa using h)]; rfl
  | c :: cs, n + 1, z, h => by
    have h2 : ∀ d ∈ cs.drop n, d = 0 := by simpa using h
    simp only [List.take_succ_cons, sqT]
    rw [sqT_cut cs n (z + 1) h2, sqT_cut cs n 0 h2]
/-- a whole part of 256 -/
theorem sqT_256 : ∀ (cs : List Int) (z : Nat), (∃ c ∈ cs, c ≠ 0) → sqT cs (256 + z) = 0 :: 255 :: sqT cs z
  | [], z, h => by obtain ⟨c, hc, _⟩ := h; cases hc
  | c :: cs, z, h => by
    by_cases h0 : c = 0
    · rw [sqT, if_pos h0, sqT, if_pos h0]
      obtain ⟨d, hd, hn⟩ := h
      have : d ∈ cs := by
        rcases List.mem_cons.1 hd with rfl | hd
        · exact absurd h0 hn
        · exact hd
      exact sqT_256 cs (z + 1) ⟨d, this, hn⟩
    · rw [sqT, if_neg h0, sqT, if_neg h0, runL_more]
      rfl
/-- bytes 0 in turn -/
theorem sqT_run (row : List Int) : ∀ (k z : Nat), (∀ j, j < k → row.getD j 1 = 0) → sqT row z = sqT (row.drop k) (z + k) := by
  induction row with
  | nil => intro k z h; cases k with
    | zero => rfl
    | succ k => exact absurd (h 0 (by omega)) (by simp)
  | cons c cs ih =>
    intro k z h
    cases k with
    | zero => rfl
    | succ k =>
      have h0 : c = 0 := by simpa using h 0 (by omega)
      rw [sqT, if_pos h0, ih k (z + 1) (fun j hj => by simpa using h (j + 1) (by omega)), List.drop_succ_cons, show z + 1 + k = z + (k + 1) by omega]
/-- a part of the document's -/
theorem sqT_part (row : List Int) (k : Nat) (h0 : 0 < k) (h1 : k ≤ 256) (hz : ∀ j, j < k → row.getD j 1 = 0) (hk : k < row.length) (hend : k = 256 ∨ row.getD k 0 ≠ 0) (hx : ∃ c ∈ row.drop k, c ≠ 0) :
    sqT row 0 = 0 :: ((k - 1 : Nat) : Int) :: sqT (row.drop k) 0 := by
  rw [sqT_run row k 0 hz, Nat.zero_add]
  rcases hend with rfl | hne
  · exact sqT_256 (row.drop 256) 0 hx
  · have e : row.drop k = row[k] :: row.drop (k + 1) := by rw [← List.getElem_cons_drop hk]
    have hn : row[k] ≠ 0 := by simpa [List.getD_eq_getElem?_getD, hk] using hne
    rw [e, sqT, if_neg hn, sqT, if_neg hn, runL_few k h0 h1, runL_zero]
    rfl
/-- the bytes that are told -/
def unL : List Int → List Int
  | [] => []
  | c :: cs => if c ≠ 0 then c :: unL cs else match cs with
    | [] => []
    | d :: ds => List.replicate (d.toNat + 1) 0 ++ unL ds
/-- the first error, if there is room for so many -/
def unE : List Int → Nat → Int
  | [], _ => 0
  | c :: cs, r => if c ≠ 0 then (if r < 1 then 3 else unE cs (r - 1)) else match cs with
    | [] => 2
    | d :: ds => if r < d.toNat + 1 then 3 else unE ds (r - (d.toNat + 1))
theorem unL_byte (c : Int) (cs : List Int) (h : c ≠ 0) : unL (c :: cs) = c :: unL cs := by
  cases cs <;> simp [unL, h]
theorem unL_run (d : Int) (ds : List Int) : unL (0 :: d :: ds) = List.replicate (d.toNat + 1) 0 ++ unL ds := by rw [unL]; exact if_neg (by simp)
theorem unE_byte (c : Int) (cs : List Int) (r : Nat) (h : c ≠ 0) : unE (c :: cs) r = if r < 1 then 3 else unE cs (r - 1) := by
  cases cs <;> simp [unE, h]
theorem unE_run (d : Int) (ds : List Int) (r : Nat) : unE (0 :: d :: ds) r = if r < d.toNat + 1 then 3 else unE ds (r - (d.toNat + 1)) := by rw [unE]; exact if_neg (by simp)
theorem unE_short (r : Nat) : unE [0] r = 2 := by rw [unE]; exact if_neg (by simp)
/-- what is stretched fits, if there is no error -/
theorem unL_fit : ∀ (n : Nat) (b : List Int) (r : Nat), b.length ≤ n → unE b r = 0 → (unL b).length ≤ r
  | _, [], r, _, _ => by simp [unL]
  | 0, c :: cs, r, h, _ => by simp at h
  | n + 1, c :: cs, r, h, he => by
    by_cases h0 : c = 0
    · subst h0
      cases cs with
      | nil => rw [unE_short] at he; exact absurd he (by decide)
      | cons d ds =>
        rw [unE_run] at he
        split at he
        · exact absurd he (by decide)
        · rw [unL_run, List.length_append, List.length_replicate]
          have := unL_fit n ds _ (by simp at h; omega) he
          omega
    · rw [unE_byte c cs r h0] at he
      split at he
      · exact absurd he (by decide)
      · rw [unL_byte c cs h0, List.length_cons]
        have := unL_fit n cs _ (by simp at h; omega) he
        omega
/-- what Stretch tells -/
def stE (size : Int) (b : List Int) : Int := if size < 0 ∨ 1048576 < size then 1 else unE b size.toNat
def stL (was : List Int) (size : Int) (b : List Int) : List Int := if stE size b = 0 then rowL was (unL b ++ zer8 (size.toNat - (unL b).length)) else []
end Go.Proofs.Ytnjeobijbbjlaaa
