/- The walk of StackRolls. -/
import Derived.Test.YthhkennomnmjkaaT10j
namespace Go.Proofs.Ythhkennomnmjkaa
open Go.RowKit
set_option maxHeartbeats 1000000
set_option maxRecDepth 100000
set_option linter.unusedVariables false

/-- the law's stack with these values -/
def stR (xs : List Nat) : Ks := { begS with bs := begS.bs ++ putsL xs }
theorem beg_len : begS.bs.length = 24 := by kernel_rfl
theorem beg_on : begS.on = true := by kernel_rfl
theorem beg_fr : begS.fr = 0 := by kernel_rfl
theorem beg_sz : begS.size = 2048 := by kernel_rfl
theorem beg_nu : nu begS.bs 0 = 24 := by kernel_rfl
theorem putsL_okb (xs : List Nat) : OkB (putsL xs) := by
  intro c hc
  unfold putsL at hc
  obtain ⟨x, _, hx⟩ := List.mem_flatMap.1 hc
  exact putL_bd _ _ c hx
theorem stR_nil : stR [] = begS := by simp [stR, putsL]
theorem stR_ok (xs : List Nat) (h : xs.length ≤ 500) : OkK (stR xs) := by
  refine ok_app begS_ok beg_on (by rw [putsL_len]; omega) (putsL_okb xs) ?_
  rw [beg_len, beg_sz, putsL_len]; omega
theorem stR_len (xs : List Nat) : (stR xs).bs.length = 24 + 4 * xs.length := by
  show (begS.bs ++ putsL xs).length = _
  rw [List.length_append, beg_len, putsL_len]
theorem stR_end (xs : List Nat) : endK (stR xs) = 24 := by
  unfold endK
  show begS.fr + nu (begS.bs ++ putsL xs) begS.fr = 24
  rw [beg_fr, ← nu_take (zs := begS.bs) (k := 24) (by rw [List.take_append_of_le_length (by rw [beg_len]; exact Nat.le_refl _)]) 0 (by omega), beg_nu]
theorem stR_cnt (xs : List Nat) : cnt (stR xs) = xs.length := by
  unfold cnt
  rw [stR_len, stR_end]
  omega
theorem stR_lack (xs : List Nat) (n : Nat) : lackE (stR xs) n = if xs.length < n then 101 else 0 := by
  unfold lackE
  rw [stR_cnt, if_neg (by show ¬ begS.on = false; rw [beg_on]; simp)]
theorem stR_pushE (xs : List Nat) (h : xs.length ≤ 499) : pushE (stR xs) = 0 := by
  have e : lackE (stR xs) 0 = 0 := by rw [stR_lack, if_neg (by omega)]
  unfold pushE roomForE roomE
  rw [if_pos e, stR_len, if_neg (by show ¬ begS.size < _; rw [beg_sz]; omega)]
theorem stR_push (xs : List Nat) (x : Nat) (h : xs.length ≤ 499) : pushS (stR xs) x = stR (xs ++ [x]) := by
  unfold pushS
  rw [if_pos (stR_pushE xs h)]
  unfold stR
  simp only
  congr 1
  simp [putsL]
theorem nu_at : ∀ (a : List Int) (xs : List Nat) (i : Nat), (∀ x ∈ xs, x < 4294967296) → i < xs.length → nu (a ++ putsL xs) (a.length + 4 * i) = xs.getD i 0
  | a, [], i, _, h => by simp at h
  | a, x :: xs, 0, hx, _ => by
    have e : putsL (x :: xs) = putL (x : Int) 4 ++ putsL xs := by simp [putsL]
    rw [e, Nat.mul_zero, Nat.add_zero, nu_put a _ x (hx x (by simp))]
    rfl
  | a, x :: xs, i + 1, hx, h => by
    have e : putsL (x :: xs) = putL (x : Int) 4 ++ putsL xs := by simp [putsL]
    have := nu_at (a ++ putL (x : Int) 4) xs i (fun y hy => hx y (by simp [hy])) (by simpa using h)
    rw [List.length_append, putL4_len, List.append_assoc] at this
    rw [e, show a.length + 4 * (i + 1) = a.length + 4 + 4 * i by omega, this]
    rfl
/-- a roll of the law's stack -/
theorem stR_roll (xs : List Nat) (n k : Nat) (hn : n ≤ xs.length) (h0 : 0 < n) (hx : ∀ x ∈ xs, x < 4294967296) (hl : xs.length ≤ 400) :
    rollE (stR xs) n = 0 ∧ (rollS (stR xs) n k).bs = rollL (stR xs).bs n (rollR n k) ∧ peekE (rollS (stR xs) n k) 0 = 0 ∧ peekV (rollS (stR xs) n k) 0 = xs.getD (xs.length - 1 - rollR n k) 0 := by
  have hr := rollR_lt n k h0
  have e0 : rollE (stR xs) n = 0 := by unfold rollE; rw [stR_lack, if_neg (by omega)]
  have e1 : rollS (stR xs) n k = { stR xs with bs := rollL (stR xs).bs n (rollR n k) } := by
    unfold rollS; rw [if_pos ⟨e0, by omega⟩]
  have hL := stR_len xs
  have hrl : (rollL (stR xs).bs n (rollR n k)).length = 24 + 4 * xs.length := by
    rw [← hL]; unfold rollL; simp; omega
  have okr := ok_roll (stR_ok xs (by omega)) n k
  have hen : endK (rollS (stR xs) n k) = 24 := by
    rw [e1]
    unfold endK
    have := stR_end xs
    unfold endK at this
    simp only
    rw [← nu_take (zs := (stR xs).bs) (k := 24) ?_ (stR xs).fr (by show begS.fr + 4 ≤ 24; rw [beg_fr]; omega)]
    · exact this
    · unfold rollL
      rw [List.take_append_of_le_length (by simp; omega), List.take_take, Nat.min_eq_left (by omega)]
  have hpe : peekE (rollS (stR xs) n k) 0 = 0 := by
    unfold peekE lackE cnt
    rw [hen, if_neg (by rw [e1]; show ¬ begS.on = false; rw [beg_on]; simp), if_neg]
    rw [e1]; simp only; rw [hrl]; omega
  refine ⟨e0, by rw [e1], hpe, ?_⟩
  unfold peekV
  rw [if_pos hpe, e1]
  simp only
  rw [hrl, show 24 + 4 * xs.length - 4 * (0 + 1) = (stR xs).bs.length - 4 by omega, rollL_top _ _ _ (by omega) hr]
  have := nu_at begS.bs xs (xs.length - 1 - rollR n k) hx (by omega)
  rw [beg_len] at this
  rw [← this]
  show nu (begS.bs ++ putsL xs) _ = _
  congr 1
  omega
/-- a slice of words that came in -/
structure VRow (w : World) (a : Option Addr) (len : Nat) (xs : List Nat) : Prop where
  ln : xs.length = len
  bd : ∀ x ∈ xs, x < 4294967296
  cells : ∀ i, i < len → ∃ b o, a = some ⟨b, o, none⟩ ∧ w.cell? ⟨b, o + i, none⟩ = some (.int .u32 (xs.getD i 0 : Nat))
theorem bounds_u32' {n : Int} (h : (Lit.int .u32 n).wf = true) : 0 ≤ n ∧ n ≤ 4294967295 := bounds_u32 h
theorem vrow_of {w : World} {a : Option Addr} {len cap : Nat} {zs : List Int} (h : IsRow .u32 w a len cap zs) : ∃ xs, VRow w a len xs ∧ len ≤ cap ∧ len ≤ 9223372036854775807 := by
  rcases h with ⟨rfl, rfl, rfl, rfl⟩ | ⟨x, rfl, hl, hm, hz, hcell, hwz⟩
  · exact ⟨[], ⟨rfl, (fun x hx => by cases hx), fun i hi => by omega⟩, Nat.le_refl _, by omega⟩
  · refine ⟨(zs.take len).map Int.toNat, ⟨by simp; omega, fun y hy => ?_, fun i hi => ?_⟩, hl, by unfold maxLen at hm; omega⟩
    · obtain ⟨z, hz1, rfl⟩ := List.mem_map.1 hy
      have := bounds_u32 (hwz z (List.mem_of_mem_take hz1))
      omega
    · have hc := hcell i (by omega)
      obtain ⟨b, o, spot⟩ := x
      have hspot : spot = none := by simpa [Addr.add] using World.cell?_spot (hcell 0 (by omega))
      subst hspot
      rw [plain_add] at hc
      refine ⟨b, o, rfl, ?_⟩
      rw [hc]
      have hb := bounds_u32 (hwz (zs.getD i 0) (by rw [List.getD_eq_getElem?_getD]; simp [show i < zs.length by omega]))
      have e : ((zs.take len).map Int.toNat).getD i 0 = (zs.getD i 0).toNat := by
        simp [List.getD_eq_getElem?_getD, hi, show i < zs.length by omega]
      rw [e]
      congr 2
      omega
end Go.Proofs.Ythhkennomnmjkaa
