/- Layer 12, the document: bits as bytes. -/
import Derived.Test.YtbifolpahmeaeaaR12k
namespace Go.Proofs.Ytbifolpahmeaeaa
open Go.RowKit
set_option maxHeartbeats 1000000
set_option maxRecDepth 100000
set_option linter.unusedVariables false

/-- the first t bits of byte j, as a number -/
def bitS (bs : List Nat) (j : Nat) : Nat → Nat
  | 0 => 0
  | t + 1 => bitS bs j t + 2 ^ t * bs.getD (8 * j + t) 0
theorem bitS_le (bs : List Nat) (hb : ∀ b ∈ bs, b ≤ 1) (j : Nat) : ∀ t, bitS bs j t < 2 ^ t
  | 0 => by show 0 < 1; omega
  | t + 1 => by
    have ih := bitS_le bs hb j t
    have h1 : bs.getD (8 * j + t) 0 ≤ 1 := by
      rw [List.getD_eq_getElem?_getD]
      cases h : bs[8 * j + t]? with
      | none => simp
      | some b => simpa using hb b (List.mem_of_getElem? h)
    unfold bitS
    rw [Nat.pow_succ]
    have : 2 ^ t * bs.getD (8 * j + t) 0 ≤ 2 ^ t * 1 := Nat.mul_le_mul_left _ h1
    omega
theorem bitS_stop (bs : List Nat) (j : Nat) : ∀ (d t : Nat), bs.length ≤ 8 * j + t → bitS bs j (t + d) = bitS bs j t
  | 0, t, _ => rfl
  | d + 1, t, h => by
    rw [← Nat.add_assoc]
    show bitS bs j (t + d) + 2 ^ (t + d) * bs.getD (8 * j + (t + d)) 0 = _
    rw [bitS_stop bs j d t h, List.getD_eq_getElem?_getD, List.getElem?_eq_none (by omega)]
    simp
/-- a byte of a row of bits -/
theorem byte_sum {s : List Int × Nat} {bs : List Nat} (h : BtRow s bs) (ho : OkB s.1) (hb : ∀ b ∈ bs, b ≤ 1) (j : Nat) (hj : j < s.1.length) : s.1.getD j 0 = (bitS bs j 8 : Nat) := by
  have hln := h.ln
  have hnx := h.nx
  have hz := ho (s.1.getD j 0) (by rw [List.getD_eq_getElem?_getD, List.getElem?_eq_getElem hj]; simp)
  have key : ∀ k, k < 8 → s.1.getD j 0 / 2 ^ k % 2 = ((bs.getD (8 * j + k) 0 : Nat) : Int) := fun k hk => by
    by_cases hlt : 8 * j + k < bs.length
    · have := h.bit (8 * j + k) hlt
      unfold bitD at this
      rw [show (8 * j + k) / 8 = j by omega, show (8 * j + k) % 8 = k by omega] at this
      exact this
    · have h0 : s.2 ≠ 0 := by omega
      obtain ⟨ys, z, e, z0, z1⟩ := h.last h0
      have hyl : ys.length = j := by rw [e] at hln hj; simp at hln hj; omega
      have hzj : s.1.getD j 0 = z := by rw [e, ← hyl, List.getD_eq_getElem?_getD]; simp
      rw [hzj, List.getD_eq_getElem?_getD, List.getElem?_eq_none (by omega)]
      have hsk : s.2 ≤ k := by omega
      have hs7 : s.2 ≤ 7 := by omega
      generalize s.2 = m at *
      have : z < 2 ^ k := by
        have : (2 : Int) ^ m ≤ 2 ^ k := by
          rcases (show m = 1 ∨ m = 2 ∨ m = 3 ∨ m = 4 ∨ m = 5 ∨ m = 6 ∨ m = 7 by omega) with rfl | rfl | rfl | rfl | rfl | rfl | rfl <;>
          rcases (show k = 1 ∨ k = 2 ∨ k = 3 ∨ k = 4 ∨ k = 5 ∨ k = 6 ∨ k = 7 by omega) with rfl | rfl | rfl | rfl | rfl | rfl | rfl <;>
          first | omega | decide
        omega
      rw [Int.ediv_eq_zero_of_lt z0 this]
      rfl
  have k0 := key 0 (by omega)
  have k1 := key 1 (by omega)
  have k2 := key 2 (by omega)
  have k3 := key 3 (by omega)
  have k4 := key 4 (by omega)
  have k5 := key 5 (by omega)
  have k6 := key 6 (by omega)
  have k7 := key 7 (by omega)
  simp only [bitS]
  generalize s.1.getD j 0 = z at *
  generalize bs.getD (8 * j + 0) 0 = b0 at *
  generalize bs.getD (8 * j + 1) 0 = b1 at *
  generalize bs.getD (8 * j + 2) 0 = b2 at *
  generalize bs.getD (8 * j + 3) 0 = b3 at *
  generalize bs.getD (8 * j + 4) 0 = b4 at *
  generalize bs.getD (8 * j + 5) 0 = b5 at *
  generalize bs.getD (8 * j + 6) 0 = b6 at *
  generalize bs.getD (8 * j + 7) 0 = b7 at *
  simp only [Int.reducePow, Nat.reducePow] at *
  omega
theorem pk_bits (A l : List Nat) : ∀ b ∈ l.flatMap (chB A) ++ [0], b ≤ 1 := by
  intro b hb
  rcases List.mem_append.1 hb with h | h
  · obtain ⟨c, _, hc⟩ := List.mem_flatMap.1 h
    rcases List.mem_cons.1 hc with rfl | hc
    · omega
    · exact way_bits _ _ _ b hc
  · simp at h; omega
theorem pk_byte (A l : List Nat) (j : Nat) (hj : j < (stepS (pkS A l l.length) 0).1.length) : (stepS (pkS A l l.length) 0).1.getD j 0 = (bitS (l.flatMap (chB A) ++ [0]) j 8 : Nat) :=
  byte_sum (pk_row A l) (okb_step (pkS_row A l l.length (Nat.le_refl _)) (okb_pkS A l l.length (Nat.le_refl _)) 0 (by omega)) (pk_bits A l) j hj
theorem ch_len (A : List Nat) (c : Nat) : (chB A c).length ≤ A.length + 1 := by
  unfold chB
  have := way_len A.length (A.idxOf c) A.length
  simp
  omega
theorem flat_len (A : List Nat) : ∀ l : List Nat, (l.flatMap (chB A)).length ≤ l.length * (A.length + 1)
  | [] => by simp
  | c :: l => by
    have h1 := ch_len A c
    have h2 := flat_len A l
    rw [List.flatMap_cons, List.length_append, List.length_cons, Nat.add_mul]
    omega
/-- append onto a row that may be none -/
theorem wpList_appV {w0 w : World} {ops : Array Oper} {rest : List Oper} {o : Oper} {a : Act} {Q : Exit → Act → World → Prop} (hgd : o.guard = none) (s x : Operand)
    (ho : o.op = .call { callee := .builtin .append, args := #[s, x], argTypes := #[25, 25] })
    (v : Value) (n m c0 : Nat) (ad : Addr) (zs ds : List Int) (hs : a.eval s = v) (hx : a.eval x = .slice (some ad) m c0) (hown : w.ownsRow w0.heap.size 5 1 v n (bytesV zs)) (hr : Reads w (some ad) m c0 ds) (hm : 0 < m) (h63 : n + m ≤ 4294967296) (hb : Below w0.heap.size w0 w)
    (N : Nat) (hN : n + m = N) (Z : List Int) (hZ : zs ++ ds = Z)
    (h : ∀ g' c' w', Hid (w'.ownsRow w0.heap.size 5 1 (.slice (some ⟨g', 0, none⟩) N c') N (bytesV Z)) → Hid (Below w0.heap.size w0 w') → wpList Try.prog ops Q rest (a.put o.dst (.slice (some ⟨g', 0, none⟩) N c')) w') : wpList Try.prog ops Q (o :: rest) a w := by
  subst hN hZ
  obtain ⟨i0, hi, hz0, hz1, hz2⟩ := info_parts info8
  refine wpList_append_at hgd s x 25 ho w0.heap.size 5 i0 (.int .u8 0) 1 1 Try.underlying25 hi hz0 hz1 hz2 rfl (by decide) v n (bytesV zs) hs hown ad m c0 (bytesV ds) hx (by simp [bytesV, hr.1]) hr.news (bytesV_one ds) (by unfold maxLen; omega) (by omega) hb.size hm ?_
  intro v' w' h1 h2 h3
  rw [bytesV_append] at h1
  obtain ⟨g', c', rfl, _, _⟩ := owned_shape h1 (by omega)
  exact h g' c' w' h1 (hb.trans ((fm_grown h2 h3.out).below hb.size (fun k e => (hown.lt k e).1)))
end Go.Proofs.Ytbifolpahmeaeaa
