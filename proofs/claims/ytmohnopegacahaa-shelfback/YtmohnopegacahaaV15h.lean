/- Layer 15: a file's bytes as a row of characters. -/
import Derived.Test.YtmohnopegacahaaV15g
namespace Go.Proofs.Ytmohnopegacahaa
open Go.RowKit
set_option maxHeartbeats 1000000
set_option maxRecDepth 100000
set_option linter.unusedVariables false

def putsL (l : List Int) : List Int := l.flatMap fun x => putL x 4
theorem puts_cons (x : Int) (l : List Int) : putsL (x :: l) = putL x 4 ++ putsL l := by simp [putsL]
theorem puts_len (l : List Int) : (putsL l).length = 4 * l.length := by
  induction l with
  | nil => rfl
  | cons x l ih =>
    rw [puts_cons, List.length_append, ih, show (putL x 4).length = 4 from rfl, List.length_cons]; omega
theorem puts_app (l r : List Int) : putsL (l ++ r) = putsL l ++ putsL r := by simp [putsL]
theorem splice_right (P X Y : List Int) (i : Nat) : splice (P ++ X) (P.length + i) Y = P ++ splice X i Y := by
  simp only [splice]
  rw [show P.length + i + Y.length = P.length + (i + Y.length) by omega, ← List.drop_drop, List.drop_left' rfl, List.take_append, List.take_of_length_le (by omega), Nat.add_sub_cancel_left, List.append_assoc]
theorem splice_puts : ∀ (l : List Int) (i : Nat) (v : Int), i < l.length → splice (putsL l) (4 * i) (putL v 4) = putsL (l.set i v)
  | [], i, v, h => by simp at h
  | x :: l, 0, v, _ => by
    rw [List.set_cons_zero, puts_cons, puts_cons]
    simp [splice, putL]
  | x :: l, i + 1, v, h => by
    rw [List.set_cons_succ, puts_cons, puts_cons, show 4 * (i + 1) = (putL x 4).length + 4 * i by rw [show (putL x 4).length = 4 from rfl]; omega, splice_right, splice_puts l i v (by simpa using h)]
theorem get4 (a b c d : Int) (t : List Int) (j : Nat) : (a :: b :: c :: d :: t).getD (j + 4) 0 = t.getD j 0 := by simp [List.getD_eq_getElem?_getD]
theorem be_puts : ∀ (l : List Int) (i : Nat), i < l.length → (∀ x ∈ l, 0 ≤ x ∧ x ≤ 4294967295) → beV (putsL l) (4 * i) 4 = l.getD i 0
  | [], i, h, _ => by simp at h
  | x :: l, 0, _, hb => by
    have := hb x (by simp)
    rw [puts_cons, beV4]
    simp only [putL, if_neg (show ¬ (4 : Int) = 1 by decide), if_neg (show ¬ (4 : Int) = 2 by decide)]
    simp [List.getD_eq_getElem?_getD]
    omega
  | x :: l, i + 1, h, hb => by
    have ih := be_puts l i (by simpa using h) (fun y hy => hb y (by simp [hy]))
    rw [beV4] at ih
    rw [puts_cons, beV4]
    simp only [putL, if_neg (show ¬ (4 : Int) = 1 by decide), if_neg (show ¬ (4 : Int) = 2 by decide)]
    show 16777216 * (_ :: _ :: _ :: _ :: putsL l).getD (4 * (i + 1)) 0 + 65536 * (_ :: _ :: _ :: _ :: putsL l).getD (4 * (i + 1) + 1) 0 + 256 * (_ :: _ :: _ :: _ :: putsL l).getD (4 * (i + 1) + 2) 0 + (_ :: _ :: _ :: _ :: putsL l).getD (4 * (i + 1) + 3) 0 = _
    rw [show 4 * (i + 1) = 4 * i + 4 by omega, show 4 * i + 4 + 1 = (4 * i + 1) + 4 by omega, show 4 * i + 4 + 2 = (4 * i + 2) + 4 by omega, show 4 * i + 4 + 3 = (4 * i + 3) + 4 by omega, get4, get4, get4, get4, ih]
    simp [List.getD_eq_getElem?_getD]
/-- a file's bytes, of its characters -/
def chL (wd : Bool) (R : List Nat) : List Int := if wd then putsL (intsL R) else intsL R
def chB (wd : Bool) (R : List Nat) : Prop := ∀ x ∈ R, x < (if wd then 4294967296 else 256)
theorem ch_len (wd : Bool) (R : List Nat) : (chL wd R).length = wdN wd * R.length := by
  cases wd
  · show (intsL R).length = 1 * R.length; rw [ints_len]; omega
  · show (putsL (intsL R)).length = 4 * R.length; rw [puts_len, ints_len]
theorem ch_size (wd : Bool) (R : List Nat) : gsz true wd (chL wd R) = R.length := by
  show (chL wd R).length / wdN wd = R.length
  rw [ch_len]
  cases wd
  · show 1 * R.length / 1 = _; omega
  · show 4 * R.length / 4 = _; omega
theorem ch_char (wd : Bool) (R : List Nat) (hb : chB wd R) (k : Nat) (hk : k < R.length) : gch true wd (chL wd R) k = ((R.getD k 0 : Nat) : Int) := by
  cases wd
  · show (intsL R).getD (k * 1) 0 = _
    rw [Nat.mul_one, ints_getD]
  · show beV (putsL (intsL R)) (k * 4) 4 = _
    rw [Nat.mul_comm, be_puts _ _ (by rw [ints_len]; exact hk) (fun x hx => ?_), ints_getD]
    obtain ⟨y, hy, rfl⟩ := List.mem_map.1 hx
    have h2 : y < 4294967296 := hb y hy
    omega
/-- a character put at a place, or behind all -/
def setC (R : List Nat) (k : Nat) (c : Nat) : List Nat := if k < R.length then R.set k c else R ++ [c]
theorem setC_len (R : List Nat) (k c : Nat) : k < (setC R k c).length ∨ R.length < k := by
  unfold setC
  split
  · rw [List.length_set]; omega
  · rw [List.length_append]; simp; omega
theorem ints_set (W : List Nat) (i v : Nat) : intsL (W.set i v) = (intsL W).set i (v : Int) := by simp [intsL, List.map_set]
theorem ints_app (a b : List Nat) : intsL (a ++ b) = intsL a ++ intsL b := by simp [intsL]
theorem zer8_zero : zer8 0 = [] := rfl
theorem ch_put (wd : Bool) (R : List Nat) (k c : Nat) (hk : k ≤ R.length) (hc : c < (if wd then 4294967296 else 256)) : gput true wd (chL wd R) k (c : Int) = chL wd (setC R k c) := by
  show fpL (chL wd R) wd k (c : Int) = _
  unfold fpL setC
  rw [ch_len]
  cases wd
  · have hc : c < 256 := hc
    show splice (intsL R ++ zer8 (max (1 * R.length) ((k + 1) * 1) - 1 * R.length)) (k * 1) [(c : Int) % 256] = intsL _
    rw [Nat.mul_one, Nat.mul_one, show (c : Int) % 256 = c by omega]
    split
    · rename_i h
      rw [show max (1 * R.length) (k + 1) - 1 * R.length = 0 by omega, zer8_zero, List.append_nil, ints_set]
      simp only [splice]
      rw [List.set_eq_take_append_cons_drop, if_pos (by rw [ints_len]; exact h)]
      simp
    · obtain rfl : k = R.length := by omega
      rw [show max (1 * R.length) (R.length + 1) - 1 * R.length = 1 by omega, ints_app]
      have e := splice_right (intsL R) (zer8 1) [(c : Int)] 0
      rw [ints_len, Nat.add_zero] at e
      rw [e]
      rfl
  · have hc : c < 4294967296 := hc
    show splice (putsL (intsL R) ++ zer8 (max (4 * R.length) ((k + 1) * 4) - 4 * R.length)) (k * 4) (putL (c : Int) 4) = putsL (intsL _)
    rw [Nat.mul_comm k 4]
    split
    · rename_i h
      rw [show max (4 * R.length) ((k + 1) * 4) - 4 * R.length = 0 by omega, zer8_zero, List.append_nil, splice_puts _ _ _ (by rw [ints_len]; exact h), ints_set]
    · obtain rfl : k = R.length := by omega
      rw [show max (4 * R.length) ((R.length + 1) * 4) - 4 * R.length = 4 by omega, ints_app, puts_app]
      have e := splice_right (putsL (intsL R)) (zer8 4) (putL (c : Int) 4) 0
      rw [puts_len, ints_len, Nat.add_zero] at e
      rw [e]
      rfl
/-- what a stream writes of a character -/
def asN (wd : Bool) (c : Nat) : Nat := if wd = false ∧ c > 255 then 63 else c
theorem asN_cast (wd : Bool) (c : Nat) : asW (c : Int) wd = (asN wd c : Nat) := by
  unfold asW asN
  by_cases h : wd = false ∧ c > 255
  · rw [if_pos h, if_pos ⟨h.1, by omega⟩]; rfl
  · rw [if_neg h, if_neg (fun q => h ⟨q.1, by omega⟩)]
theorem asN_bd (wd : Bool) (c : Nat) (h : c < 4294967296) : asN wd c < (if wd then 4294967296 else 256) := by
  unfold asN
  cases wd
  · split
    · decide
    · rename_i q; show c < 256; have : ¬ c > 255 := fun e => q ⟨rfl, e⟩; omega
  · rw [if_neg (by simp)]; exact h
/-- characters put one behind the other -/
def wrR (wd : Bool) (R : List Nat) (p : Nat) : List Nat → List Nat
  | [] => R
  | c :: l => wrR wd (setC R p (asN wd c)) (p + 1) l
theorem setC_bd (wd : Bool) (R : List Nat) (k c : Nat) (h : chB wd R) (hc : c < (if wd then 4294967296 else 256)) : chB wd (setC R k c) := by
  intro x hx
  unfold setC at hx
  split at hx
  · rcases List.mem_or_eq_of_mem_set hx with q | q
    · exact h x q
    · rw [q]; exact hc
  · rcases List.mem_append.1 hx with q | q
    · exact h x q
    · rw [List.mem_singleton] at q; rw [q]; exact hc
theorem wrR_bd (wd : Bool) (l : List Nat) : ∀ (R : List Nat) (p : Nat), chB wd R → (∀ c ∈ l, c < 4294967296) → chB wd (wrR wd R p l) := by
  induction l with
  | nil => exact fun R p h _ => h
  | cons c l ih => exact fun R p h hl => ih _ _ (setC_bd wd R p _ h (asN_bd wd c (hl c (by simp)))) (fun x hx => hl x (by simp [hx]))
theorem setC_le (R : List Nat) (p c : Nat) (h : p ≤ R.length) : p + 1 ≤ (setC R p c).length := by
  rcases setC_len R p c with q | q <;> omega
theorem wr_file (wd : Bool) (l : List Nat) : ∀ (R : List Nat) (p : Nat) (r : Int), p ≤ R.length → (∀ c ∈ l, c < 4294967296) → wrAll true wd ⟨p, r, chL wd R⟩ l = ⟨p + l.length, upI r l.length, chL wd (wrR wd R p l)⟩ := by
  induction l with
  | nil => intro R p r h _; rfl
  | cons c l ih =>
    intro R p r h hl
    have h1 : wrOne true wd ⟨p, r, chL wd R⟩ (c : Int) = ⟨p + 1, up32 r, chL wd (setC R p (asN wd c))⟩ := by
      unfold wrOne
      simp only
      rw [asN_cast, ch_put wd R p _ h (asN_bd wd c (hl c (by simp))), ch_size]
      have := setC_le R p (asN wd c) h
      congr 1
      omega
    show wrAll true wd (wrOne true wd ⟨p, r, chL wd R⟩ (c : Int)) l = _
    rw [h1, ih _ _ _ (setC_le R p _ h) (fun x hx => hl x (by simp [hx])), upI_more]
    simp only [List.length_cons, wrR]
    congr 1
    omega
theorem wrR_end (wd : Bool) (l : List Nat) : ∀ R : List Nat, wrR wd R R.length l = R ++ l.map (asN wd) := by
  induction l with
  | nil => intro R; simp [wrR]
  | cons c l ih =>
    intro R
    show wrR wd (setC R R.length (asN wd c)) (R.length + 1) l = _
    have e : setC R R.length (asN wd c) = R ++ [asN wd c] := by unfold setC; rw [if_neg (by omega)]
    rw [e]
    have := ih (R ++ [asN wd c])
    rw [List.length_append] at this
    rw [show R.length + 1 = R.length + [asN wd c].length from rfl, this]
    simp
end Go.Proofs.Ytmohnopegacahaa
