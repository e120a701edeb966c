/- Layer 12: texts of bytes and of numbers, one character a piece: lists. -/
import Derived.Test.YtbifolpahmeaeaaB12r
namespace Go.Proofs.Ytbifolpahmeaeaa
open Go.RowKit
set_option maxHeartbeats 1000000
set_option maxRecDepth 100000
set_option linter.unusedVariables false

theorem run_chars {N : Ta → Nx} (T : Nat → Ta) (xs : List Nat) (h1 : ∀ k, k < xs.length → N (T k) = ⟨0, 2, [xs.getD k 0], T (k + 1)⟩) (h2 : (N (T xs.length)).e = 0 ∧ (N (T xs.length)).k = 1) : ∀ (d k : Nat), k + d = xs.length → PlRun N xs.length (xs.take k) (T k) 0 xs true 0
  | 0, k, h => by
    have hk : k = xs.length := by omega
    subst hk
    rw [List.take_length]
    exact .fin (by omega) h2.1 h2.2
  | d + 1, k, h => by
    have hN := h1 k (by omega)
    have ih := run_chars T xs h1 h2 d (k + 1) (by omega)
    have hl : (xs.take k).length = k := by rw [List.length_take]; omega
    refine .more (by omega) (by rw [hN]) (by rw [hN]; show 2 ≠ 1; omega) (by omega) (by rw [hN]; show 2 ≠ 3; omega) (by rw [hN, hl]; show k + 1 ≤ _; omega) (by rw [hN]; show 1 ≠ 0; omega) ?_
    rw [hN]
    show PlRun N xs.length (xs.take k ++ [xs.getD k 0]) (T (k + 1)) 0 xs true 0
    have e : xs.take (k + 1) = xs.take k ++ [xs.getD k 0] := by
      rw [List.take_add_one, List.getElem?_eq_getElem (by omega), List.getD_eq_getElem?_getD, List.getElem?_eq_getElem (by omega)]; rfl
    rw [← e]
    exact ih
/-- a text of bytes -/
theorem rows_bytes (b beh : List Int) (hb : ∀ x ∈ b, 0 < x) (hl : b.length ≤ 100000) : PlR (224 :: (b ++ 0 :: beh)) 0 0 b.length (b.map Int.toNat) true 0 := by
  have hg : ∀ k, k < b.length → (224 :: (b ++ 0 :: beh)).getD (1 + k) 0 = b.getD k 0 := fun k hk => by
    rw [show 1 + k = k + 1 by omega, List.getD_cons_succ, List.getD_eq_getElem?_getD, List.getElem?_append_left hk, ← List.getD_eq_getElem?_getD]
  have hz : (224 :: (b ++ 0 :: beh)).getD (1 + b.length) 0 = 0 := by
    rw [show 1 + b.length = b.length + 1 by omega, List.getD_cons_succ, List.getD_eq_getElem?_getD, List.getElem?_append_right (Nat.le_refl _)]
    simp
  have hlen : (224 :: (b ++ 0 :: beh)).length = b.length + beh.length + 2 := by simp; omega
  have hbg : bgN (224 :: (b ++ 0 :: beh)) 0 = (0, ⟨224, 1, 0⟩) := by
    unfold bgN
    rw [if_pos (by rw [hlen]; omega), if_pos (by rfl)]
  generalize 224 :: (b ++ 0 :: beh) = zs at *
  have hnu : ∀ p, nuV zs p 1 = (zs.getD p 0).toNat := fun p => rfl
  have hN : ∀ k, nxN zs 0 ⟨224, 1 + k, 0⟩ = plN zs ⟨224, 1 + k, 0⟩ 1 := fun k => by unfold nxN; rw [if_pos rfl]
  have hE : ∀ k, k ≤ b.length → tkE zs (1 + k) 0 1 = 0 := fun k hk => by unfold tkE; rw [if_pos rfl, if_pos (by omega)]
  refine .inr ⟨by rw [hbg], ?_⟩
  rw [hbg]
  have hll : (b.map Int.toNat).length = b.length := by simp
  have := run_chars (N := nxN zs 0) (fun k => ⟨224, 1 + k, 0⟩) (b.map Int.toNat) (fun k hk => ?_) ?_ b.length 0 (by rw [hll]; omega)
  · rw [hll] at this
    exact this
  · rw [hll] at hk
    have hv : tkV zs (1 + k) 0 1 = (b.map Int.toNat).getD k 0 := by
      unfold tkV
      rw [if_pos (hE k (by omega)), hnu, hg k hk]
      simp [List.getD_eq_getElem?_getD, List.getElem?_map, List.getElem?_eq_getElem hk]
    have h0 : (b.map Int.toNat).getD k 0 ≠ 0 := by
      have := hb (b[k]) (List.getElem_mem hk)
      simp [List.getD_eq_getElem?_getD, List.getElem?_map, List.getElem?_eq_getElem hk]
      omega
    simp only [hN]
    unfold plN
    simp only [hv, if_neg h0, hE k (by omega)]
    rw [show tkP zs (1 + k) 0 1 = 1 + (k + 1) by unfold tkP; rw [if_pos (hE k (by omega))]; omega]
  · rw [hll]
    have hv : tkV zs (1 + b.length) 0 1 = 0 := by
      unfold tkV
      rw [if_pos (hE _ (Nat.le_refl _)), hnu, hz]; rfl
    simp only [hN]
    unfold plN
    simp only [hv, hE _ (Nat.le_refl _)]
    exact ⟨trivial, if_pos trivial⟩
def wdL (l : List Nat) : List Int := l.flatMap (fun x : Nat => putL (x : Int) 4)
theorem wdL_snoc (l : List Nat) (k : Nat) (hk : k < l.length) : wdL (l.take (k + 1)) = wdL (l.take k) ++ putL ((l.getD k 0 : Nat) : Int) 4 := by
  have e : l.take (k + 1) = l.take k ++ [l.getD k 0] := by
    rw [List.take_add_one, List.getElem?_eq_getElem hk, List.getD_eq_getElem?_getD, List.getElem?_eq_getElem hk]; rfl
  rw [e]
  unfold wdL
  rw [List.flatMap_append]
  simp only [List.flatMap_cons, List.flatMap_nil, List.append_nil]
theorem wdL_len : ∀ l : List Nat, (wdL l).length = 4 * l.length
  | [] => rfl
  | x :: l => by
    have := wdL_len l
    simp only [wdL, List.flatMap_cons, List.length_append, List.length_cons] at *
    rw [this, show (putL (x : Int) 4).length = 4 from rfl]; omega
theorem beV_put (pre post : List Int) (x : Nat) (hx : x < 4294967296) : beV (pre ++ (putL (x : Int) 4 ++ post)) pre.length 4 = x := by
  have g : ∀ i, i < 4 → (pre ++ (putL (x : Int) 4 ++ post)).getD (pre.length + i) 0 = (putL (x : Int) 4).getD i 0 := fun i hi => by
    have h4 : (putL (x : Int) 4).length = 4 := rfl
    rw [List.getD_eq_getElem?_getD, List.getElem?_append_right (by omega), Nat.add_sub_cancel_left, List.getElem?_append_left (by omega), ← List.getD_eq_getElem?_getD]
  have g0 := g 0 (by omega)
  have g1 := g 1 (by omega)
  have g2 := g 2 (by omega)
  have g3 := g 3 (by omega)
  rw [Nat.add_zero] at g0
  unfold beV
  simp only [g0, g1, g2, g3]
  simp [putL]
  omega
theorem wd_split (l : List Nat) (k : Nat) (hk : k < l.length) : wdL l = wdL (l.take k) ++ (putL ((l.getD k 0 : Nat) : Int) 4 ++ wdL (l.drop (k + 1))) := by
  have e : l = l.take k ++ l.getD k 0 :: l.drop (k + 1) := by
    rw [List.getD_eq_getElem?_getD, List.getElem?_eq_getElem hk]
    simp
  conv => lhs; rw [e]
  simp [wdL]
/-- a text of numbers -/
theorem rows_words (l : List Nat) (beh : List Int) (hb : ∀ x ∈ l, 0 < x ∧ x < 4294967296) (hl : l.length ≤ 100000) : PlR (226 :: 1 :: 2 :: 3 :: (wdL l ++ 0 :: 0 :: 0 :: 0 :: beh)) 0 0 l.length l true 0 := by
  have hz0 : ∀ zs : List Int, zs = [226, 1, 2, 3] ++ (wdL l ++ 0 :: 0 :: 0 :: 0 :: beh) → (∀ k, k < l.length → beV zs (4 + 4 * k) 4 = (l.getD k 0 : Nat)) ∧ beV zs (4 + 4 * l.length) 4 = 0 := by
    intro zs hzs
    constructor
    · intro k hk
      have hx : l.getD k 0 < 4294967296 := (hb _ (by rw [List.getD_eq_getElem?_getD, List.getElem?_eq_getElem hk]; simp)).2
      have := beV_put ([226, 1, 2, 3] ++ wdL (l.take k)) (wdL (l.drop (k + 1)) ++ 0 :: 0 :: 0 :: 0 :: beh) (l.getD k 0) hx
      rw [show (([226, 1, 2, 3] : List Int) ++ wdL (l.take k)).length = 4 + 4 * k by rw [List.length_append, wdL_len, List.length_take]; show 4 + _ = _; omega] at this
      rw [hzs, wd_split l k hk]
      simpa only [List.append_assoc] using this
    · have := beV_put ([226, 1, 2, 3] ++ wdL l) beh 0 (by omega)
      rw [show (([226, 1, 2, 3] : List Int) ++ wdL l).length = 4 + 4 * l.length by rw [List.length_append, wdL_len]; rfl] at this
      rw [hzs]
      have e0 : putL ((0 : Nat) : Int) 4 = [0, 0, 0, 0] := rfl
      rw [e0, List.append_assoc] at this
      exact this
  have hlen : (226 :: 1 :: 2 :: 3 :: (wdL l ++ 0 :: 0 :: 0 :: 0 :: beh)).length = 4 * l.length + beh.length + 8 := by simp [wdL_len]; omega
  obtain ⟨hg, hz⟩ := hz0 _ rfl
  have hbg : bgN (226 :: 1 :: 2 :: 3 :: (wdL l ++ 0 :: 0 :: 0 :: 0 :: beh)) 0 = (0, ⟨226, 4, 0⟩) := by
    unfold bgN
    rw [if_pos (by rw [hlen]; omega), if_neg (by show ¬ (226 = 224); omega), if_neg (by show ¬ (226 = 225); omega), if_pos (by rfl)]
  change (∀ k, k < l.length → beV (226 :: 1 :: 2 :: 3 :: (wdL l ++ 0 :: 0 :: 0 :: 0 :: beh)) (4 + 4 * k) 4 = (l.getD k 0 : Nat)) at hg
  change beV (226 :: 1 :: 2 :: 3 :: (wdL l ++ 0 :: 0 :: 0 :: 0 :: beh)) (4 + 4 * l.length) 4 = 0 at hz
  generalize 226 :: 1 :: 2 :: 3 :: (wdL l ++ 0 :: 0 :: 0 :: 0 :: beh) = zs at *
  have hN : ∀ k, nxN zs 0 ⟨226, 4 + 4 * k, 0⟩ = plN zs ⟨226, 4 + 4 * k, 0⟩ 4 := fun k => by unfold nxN; rw [if_neg (by show ¬ ((226 : Int) = 224); omega), if_pos rfl]
  have hE : ∀ k, k ≤ l.length → tkE zs (4 + 4 * k) 0 4 = 0 := fun k hk => by unfold tkE; rw [if_pos rfl, if_pos (by omega)]
  refine .inr ⟨by rw [hbg], ?_⟩
  rw [hbg]
  refine run_chars (N := nxN zs 0) (fun k => ⟨226, 4 + 4 * k, 0⟩) l (fun k hk => ?_) ?_ l.length 0 (by omega)
  · have hv : tkV zs (4 + 4 * k) 0 4 = l.getD k 0 := by
      unfold tkV
      rw [if_pos (hE k (by omega))]
      show (beV zs (4 + 4 * k) 4).toNat = _
      rw [hg k hk]; rfl
    have h0 : l.getD k 0 ≠ 0 := by
      have := (hb _ (show l.getD k 0 ∈ l by rw [List.getD_eq_getElem?_getD, List.getElem?_eq_getElem hk]; simp)).1
      omega
    simp only [hN]
    unfold plN
    simp only [hv, if_neg h0, hE k (by omega)]
    rw [show tkP zs (4 + 4 * k) 0 4 = 4 + 4 * (k + 1) by unfold tkP; rw [if_pos (hE k (by omega))]; omega]
  · have hv : tkV zs (4 + 4 * l.length) 0 4 = 0 := by
      unfold tkV
      rw [if_pos (hE _ (Nat.le_refl _))]
      show (beV zs (4 + 4 * l.length) 4).toNat = _
      rw [hz]; rfl
    simp only [hN]
    unfold plN
    simp only [hv, hE _ (Nat.le_refl _)]
    exact ⟨trivial, if_pos trivial⟩
end Go.Proofs.Ytbifolpahmeaeaa
