/- A packed text by a table that is laid: how Plain runs. -/
import Derived.Test.YtbifolpahmeaeaaR12i
import Derived.Test.YtbifolpahmeaeaaR12a
namespace Go.Proofs.Ytbifolpahmeaeaa
open Go.RowKit Go.Maps
set_option maxHeartbeats 1000000
set_option maxRecDepth 100000
set_option linter.unusedVariables false

theorem run_part {N : Ta → Nx} (T : Nat → Ta) (xs : List Nat) (most : Nat) (hm : most < xs.length) (h1 : ∀ k, k < xs.length → N (T k) = ⟨0, 2, [xs.getD k 0], T (k + 1)⟩) : ∀ (d k : Nat), k + d = most → PlRun N most (xs.take k) (T k) 0 (xs.take most) false 0
  | 0, k, h => by
    have hk : k = most := by omega
    subst hk
    have hN := h1 k hm
    exact .full (by omega) (by rw [hN]) (by rw [hN]; show 2 ≠ 1; omega) (by rw [List.length_take]; omega)
  | d + 1, k, h => by
    have hN := h1 k (by omega)
    have ih := run_part T xs most hm h1 d (k + 1) (by omega)
    have hl : (xs.take k).length = k := by rw [List.length_take]; omega
    refine .more (by omega) (by rw [hN]) (by rw [hN]; show 2 ≠ 1; omega) (by omega) (by rw [hN]; show 2 ≠ 3; omega) (by rw [hN, hl]; show k + 1 ≤ _; omega) (by rw [hN]; show 1 ≠ 0; omega) ?_
    rw [hN]
    show PlRun N most (xs.take k ++ [xs.getD k 0]) (T (k + 1)) 0 (xs.take most) false 0
    have e : xs.take (k + 1) = xs.take k ++ [xs.getD k 0] := by
      rw [List.take_add_one, List.getElem?_eq_getElem (by omega), List.getD_eq_getElem?_getD, List.getElem?_eq_getElem (by omega)]; rfl
    rw [← e]
    exact ih
/-- where character k begins -/
def tkP2 (A l : List Nat) (P k : Nat) : Ta := tjP P ((l.take k).flatMap (chB A)).length
theorem flat_split (A l : List Nat) (k : Nat) (hk : k < l.length) : l.flatMap (chB A) ++ [0] = (l.take k).flatMap (chB A) ++ (chB A (l.getD k 0) ++ ((l.drop (k + 1)).flatMap (chB A) ++ [0])) := by
  have e : l = l.take k ++ l.getD k 0 :: l.drop (k + 1) := by
    rw [List.getD_eq_getElem?_getD, List.getElem?_eq_getElem hk]
    simp
  conv => lhs; rw [e]
  simp
theorem getD_mid (a b c : List Nat) (m : Nat) (hm : m < b.length) : (a ++ (b ++ c)).getD (a.length + m) 0 = b.getD m 0 := by
  rw [List.getD_eq_getElem?_getD, List.getElem?_append_right (by omega), Nat.add_sub_cancel_left, List.getElem?_append_left hm, ← List.getD_eq_getElem?_getD]
theorem packed_next {zs : List Int} {T P : Nat} {A l : List Nat} (h : InAt zs (tbL T A) T) (hT : T + (tbL T A).length < 4294967296) (h0 : T ≠ 0) (hz : InAt zs (stepS (pkS A l l.length) 0).1 P) (hok : OkB zs) (hl : zs.length < 4294967296) (hA : A.length ≤ 1024) (hx : ∀ x ∈ A, x < 4294967296) (hc : ∀ c ∈ l, c ∈ A) (k : Nat) (hk : k < l.length) : nxN zs T (tkP2 A l P k) = ⟨0, 2, [l.getD k 0], tkP2 A l P (k + 1)⟩ := by
  have hcA : l.getD k 0 ∈ A := hc _ (by rw [List.getD_eq_getElem?_getD, List.getElem?_eq_getElem hk]; simp)
  obtain ⟨i1, i2⟩ := getD_idx A _ hcA
  have hsp := flat_split A l k hk
  have hbts := bts_of zs P (chB A (l.getD k 0)) ((l.take k).flatMap (chB A)).length (fun m hm => by
    have := bit_at (pk_row A l) hz hok (((l.take k).flatMap (chB A)).length + m) (by rw [hsp]; simp only [List.length_append]; omega)
    rw [hsp, getD_mid _ _ _ m hm] at this
    exact this) hl
  have e : (l.take (k + 1)).flatMap (chB A) = (l.take k).flatMap (chB A) ++ chB A (l.getD k 0) := by
    have e : l.take (k + 1) = l.take k ++ [l.getD k 0] := by
      rw [List.take_add_one, List.getElem?_eq_getElem hk, List.getD_eq_getElem?_getD, List.getElem?_eq_getElem hk]; rfl
    rw [e]; simp
  unfold nxN tkP2
  rw [if_neg (by show ¬ ((225 : Int) = 224); omega), if_neg (by show ¬ ((225 : Int) = 226); omega), if_pos (by rfl)]
  rw [piece_char (A.idxOf (l.getD k 0)) h hT h0 (by show _ % 8 ≤ 7; omega) i1 hA hx hbts.1, i2, e, List.length_append, ← hbts.2]
  rfl
theorem packed_end {zs : List Int} {T P : Nat} {A l : List Nat} (h : InAt zs (tbL T A) T) (hT : T + (tbL T A).length < 4294967296) (h0 : T ≠ 0) (hz : InAt zs (stepS (pkS A l l.length) 0).1 P) (hok : OkB zs) (hl : zs.length < 4294967296) : (nxN zs T (tkP2 A l P l.length)).e = 0 ∧ (nxN zs T (tkP2 A l P l.length)).k = 1 := by
  have hbts := bts_of zs P [0] (l.flatMap (chB A)).length (fun m hm => by
    have hm0 : m = 0 := by simp at hm; omega
    subst hm0
    have := bit_at (pk_row A l) hz hok ((l.flatMap (chB A)).length + 0) (by simp)
    have eg : (l.flatMap (chB A) ++ [0]).getD ((l.flatMap (chB A)).length + 0) 0 = 0 := getD_snoc_r (l.flatMap (chB A)) 0 0
    rw [eg] at this
    exact this) hl
  unfold nxN tkP2
  rw [List.take_length, if_neg (by show ¬ ((225 : Int) = 224); omega), if_neg (by show ¬ ((225 : Int) = 226); omega), if_pos (by rfl)]
  rw [piece_end h hT h0 (by show _ % 8 ≤ 7; omega) hbts.1]
  exact ⟨rfl, rfl⟩
theorem packed_begin {zs : List Int} {P : Nat} {A l : List Nat} (hz : InAt zs (pkL A l) P) (hl : zs.length < 4294967296) : bgN zs P = (0, tkP2 A l (P + 1) 0) ∧ InAt zs (stepS (pkS A l l.length) 0).1 (P + 1) := by
  have hfit := hz.fit
  unfold pkL at hz hfit
  have q : nuV zs P 1 = 225 := hz.first
  rw [List.length_append] at hfit
  have h1 : P + 1 ≤ zs.length := by simp at hfit; omega
  refine ⟨?_, hz.right⟩
  unfold bgN
  rw [if_pos h1, q, if_neg (by decide), if_pos rfl]
  show _ = (0, (⟨225, P + 1 + 0 / 8, 0 % 8⟩ : Ta))
  rw [show (P + 1) % 4294967296 = P + 1 + 0 / 8 by omega]
theorem packed_whole {zs : List Int} {T P : Nat} {A l : List Nat} (h : InAt zs (tbL T A) T) (hT : T + (tbL T A).length < 4294967296) (h0 : T ≠ 0) (hz : InAt zs (pkL A l) P) (hok : OkB zs) (hl : zs.length < 4294967296) (hA : A.length ≤ 1024) (hx : ∀ x ∈ A, x < 4294967296) (hc : ∀ c ∈ l, c ∈ A) : PlR zs T P l.length l true 0 := by
  obtain ⟨b1, b2⟩ := packed_begin hz hl
  refine .inr ⟨by rw [b1], ?_⟩
  rw [b1]
  exact run_chars (N := nxN zs T) (tkP2 A l (P + 1)) l (packed_next h hT h0 b2 hok hl hA hx hc) (packed_end h hT h0 b2 hok hl) l.length 0 (by omega)
theorem packed_part {zs : List Int} {T P : Nat} {A l : List Nat} (h : InAt zs (tbL T A) T) (hT : T + (tbL T A).length < 4294967296) (h0 : T ≠ 0) (hz : InAt zs (pkL A l) P) (hok : OkB zs) (hl : zs.length < 4294967296) (hA : A.length ≤ 1024) (hx : ∀ x ∈ A, x < 4294967296) (hc : ∀ c ∈ l, c ∈ A) (k : Nat) (hk : k < l.length) : PlR zs T P k (l.take k) false 0 := by
  obtain ⟨b1, b2⟩ := packed_begin hz hl
  refine .inr ⟨by rw [b1], ?_⟩
  rw [b1]
  exact run_part (N := nxN zs T) (tkP2 A l (P + 1)) l k hk (packed_next h hT h0 b2 hok hl hA hx hc) k 0 (by omega)
end Go.Proofs.Ytbifolpahmeaeaa
