/- The walk of MemoryHolds. -/
import Derived.Test.YtmebjbnglndfcaaY9w
import Derived.Deep.RegionHeld3
namespace Go.Proofs.Ytmebjbnglndfcaa
open Go.RowKit
set_option maxHeartbeats 1000000
set_option maxRecDepth 100000
set_option linter.unusedVariables false

theorem and_255 (n : Nat) : bits .and .u32 (n : Int) 255 = ((n % 256 : Nat) : Int) := by
  have h1 : (BitVec.ofInt 32 255).toNat = 2 ^ 8 - 1 := by decide
  have key : (BitVec.ofInt 32 (n : Int) &&& BitVec.ofInt 32 255).toNat = ((n : Int) % ((2 ^ 32 : Nat) : Int)).toNat % 2 ^ 8 := by
    rw [BitVec.toNat_and, BitVec.toNat_ofInt, h1, Nat.and_two_pow_sub_one_eq_mod]
  show IntKind.u32.wrap ((BitVec.ofInt 32 (n : Int) &&& BitVec.ofInt 32 255).toNat : Nat) = _
  rw [key, IntKind.wrap_u32]
  omega
theorem and_65535 (n : Nat) : bits .and .u32 (n : Int) 65535 = ((n % 65536 : Nat) : Int) := by
  have h1 : (BitVec.ofInt 32 65535).toNat = 2 ^ 16 - 1 := by decide
  have key : (BitVec.ofInt 32 (n : Int) &&& BitVec.ofInt 32 65535).toNat = ((n : Int) % ((2 ^ 32 : Nat) : Int)).toNat % 2 ^ 16 := by
    rw [BitVec.toNat_and, BitVec.toNat_ofInt, h1, Nat.and_two_pow_sub_one_eq_mod]
  show IntKind.u32.wrap ((BitVec.ofInt 32 (n : Int) &&& BitVec.ofInt 32 65535).toNat : Nat) = _
  rw [key, IntKind.wrap_u32]
  omega
theorem splice_at (xs ys : List Int) (a i : Nat) (h : a + ys.length ≤ xs.length) (hi : i < ys.length) : (splice xs a ys).getD (a + i) 0 = ys.getD i 0 := by
  simp only [splice, List.getD_eq_getElem?_getD]
  rw [List.getElem?_append_right (by simp; omega), List.length_take, Nat.min_eq_left (by omega), Nat.add_sub_cancel_left, List.getElem?_append_left hi]
/-- what was put is read -/
theorem be_put (xs : List Int) (a n x : Nat) (hn : n = 1 ∨ n = 2 ∨ n = 4) (h : a + n ≤ xs.length) (hx : x < 4294967296) : beV (splice xs a (putL x n)) a n = ((x % 256 ^ n : Nat) : Int) := by
  have hpl : (putL x n).length = n := by have := putL_len x n (by unfold IsW; omega); omega
  have hat : ∀ i, i < n → (splice xs a (putL x n)).getD (a + i) 0 = (putL x n).getD i 0 := fun i hi => splice_at xs _ a i (by omega) (by omega)
  rcases hn with rfl | rfl | rfl
  · have h0 := hat 0 (by omega)
    simp only [Nat.add_zero] at h0
    unfold beV
    rw [if_pos (by decide), h0]
    unfold putL
    rw [if_pos (by decide)]
    simp [List.getD_eq_getElem?_getD]
  · have h0 := hat 0 (by omega)
    have h1 := hat 1 (by omega)
    simp only [Nat.add_zero] at h0
    unfold beV
    rw [if_neg (by decide), if_pos (by decide), h0, h1]
    unfold putL
    rw [if_neg (by decide), if_pos (by decide)]
    simp
    omega
  · have h0 := hat 0 (by omega)
    have h1 := hat 1 (by omega)
    have h2 := hat 2 (by omega)
    have h3 := hat 3 (by omega)
    simp only [Nat.add_zero] at h0
    unfold beV
    rw [if_neg (by decide), if_neg (by decide), h0, h1, h2, h3]
    unfold putL
    rw [if_neg (by decide), if_neg (by decide), if_pos (by decide)]
    simp
    omega
theorem splice_take (xs ys : List Int) (a : Nat) (h : a ≤ xs.length) : (splice xs a ys).take a = xs.take a := by
  simp only [splice]
  rw [List.take_append_of_le_length (by simp; omega), List.take_take, Nat.min_self]
theorem splice_drop (xs ys : List Int) (a : Nat) (h : a ≤ xs.length) : (splice xs a ys).drop (a + ys.length) = xs.drop (a + ys.length) := by
  simp only [splice]
  have e : (xs.take a ++ (ys ++ xs.drop (a + ys.length))) = (xs.take a ++ ys) ++ xs.drop (a + ys.length) := by simp
  rw [e]
  exact List.drop_left' (by simp; omega)
theorem seg_take (zs : List Int) (n : Nat) : seg zs 0 n = zs.take n := by simp [seg]
theorem seg_drop (zs : List Int) (n : Nat) (h : n ≤ zs.length) : seg zs n (zs.length - n) = zs.drop n := by
  simp only [seg]
  exact List.take_of_length_le (by simp)
theorem head_reads {w : World} {B g n c : Nat} {zs : List Int} (h : w.ownsRow B 5 1 (.slice (some ⟨g, 0, none⟩) n c) n (bytesV zs)) (A : Nat) (hA : A ≤ n) : Reads w (some ⟨g, 0, none⟩) A c (zs.take A) := own_reads (own8_take h A hA)
theorem tail_n {w : World} {B g n c : Nat} {zs : List Int} (h : w.ownsRow B 5 1 (.slice (some ⟨g, 0, none⟩) n c) n (bytesV zs)) (A : Nat) (hA : A ≤ n) (hc : ¬ c = A) : Reads w (some ⟨g, A, none⟩) (n - A) (c - A) (zs.drop A) := by
  obtain ⟨_, _, _, h3, _, _, _, h7⟩ := own8_cur h
  have := (own_bs h).sub A (n - A) (c - A) (by omega) (by omega)
  rw [Nat.zero_add, ← h7, seg_drop _ _ (by omega), h7] at this
  exact this
theorem tail_y {w : World} {B g n c : Nat} {zs : List Int} (h : w.ownsRow B 5 1 (.slice (some ⟨g, 0, none⟩) n c) n (bytesV zs)) (A : Nat) (hA : A ≤ n) (hc : c = A) : Reads w (some ⟨g, 0, none⟩) (n - A) 0 (zs.drop A) := by
  obtain ⟨_, _, _, h3, _, _, _, h7⟩ := own8_cur h
  have e : n - A = 0 := by omega
  refine ⟨by simp; omega, by omega, .inr ⟨_, rfl, fun i hi => by omega⟩⟩
theorem reads_zero (w : World) (x : Addr) (c : Nat) : Reads w (some x) 0 c [] := ⟨rfl, Nat.zero_le _, .inr ⟨x, rfl, fun i hi => by omega⟩⟩
theorem acts_later {w w' : World} {ao : Option Addr} {len cap : Nat} {rs : List Ac} (h : IsActs w ao len cap rs) (hb : Below w.heap.size w w') : IsActs w' ao len cap rs := by
  obtain ⟨h1, h2, h3, h4, h5⟩ := h
  refine ⟨h1, h2, h3, fun h0 => ?_, fun r hr => ?_⟩
  · obtain ⟨b, off, rfl, hc⟩ := h4 h0
    refine ⟨b, off, rfl, fun i hi => ?_⟩
    obtain ⟨c0, c1, c2, c3, c4, c5, c6⟩ := hc i hi
    exact ⟨cellLater hb c0, cellLater hb c1, cellLater hb c2, cellLater hb c3, cellLater hb c4, cellLater hb c5, cellLater hb c6⟩
  · obtain ⟨p0, p1, p2, p3, p4, ⟨p5, p6, p7⟩, p8, p9⟩ := h5 r hr
    exact ⟨p0, p1, p2, p3, p4, ⟨p5.later hb, p6, p7⟩, ⟨p8.1.below hb, p8.2⟩, p9⟩
end Go.Proofs.Ytmebjbnglndfcaa
