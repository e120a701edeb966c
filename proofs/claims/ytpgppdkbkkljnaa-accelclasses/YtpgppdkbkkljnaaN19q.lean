/- Layer 18: AccelClasses: the law's bytes (pure). -/
import Derived.Test.YtpgppdkbkkljnaaN19h0
import Derived.Test.YtpgppdkbkkljnaaN19p
namespace Go.Proofs.Ytpgppdkbkkljnaa
open Go.RowKit
set_option maxHeartbeats 1000000
set_option maxRecDepth 100000
set_option linter.unusedVariables false

def cl1 : Nat → List Int
  | 0 => zer8 1792
  | i + 1 => splice ((cl1 i).set (256 + 64 * i) 112) (512 + 64 * i + 20 - 256) (putL ((2000 : Nat) : Int) ((4 : Nat) : Int))
def cl2 : List Int := (cl1 8).set 768 112
def cl3 : List Int := splice cl2 (1040 - 256) (putL ((1100 : Nat) : Int) ((4 : Nat) : Int))
def cl4 : List Int := splice cl3 (1100 - 256) (putL ((1 : Nat) : Int) ((4 : Nat) : Int))
def cl5 : List Int := splice cl4 (1104 - 256) (putL ((2 : Nat) : Int) ((2 : Nat) : Int))
def cl6 (n : Nat) : List Int := splice cl5 (1106 - 256) (putL (n : Int) ((2 : Nat) : Int))
def cl7 (n : Nat) : List Int := splice (cl6 n) (1108 - 256) (putL ((1200 : Nat) : Int) ((4 : Nat) : Int))
def cl8 (q : Nat → Nat) (n : Nat) : Nat → List Int
  | 0 => cl7 n
  | i + 1 => splice (cl8 q n i) (1200 + 4 * i - 256) (putL ((512 + 64 * q i : Nat) : Int) ((4 : Nat) : Int))
theorem putL4_len (x : Int) : (putL x ((4 : Nat) : Int)).length = 4 := rfl
theorem putL2_len (x : Int) : (putL x ((2 : Nat) : Int)).length = 2 := rfl
theorem cl1_len : ∀ i, i ≤ 8 → (cl1 i).length = 1792
  | 0, _ => zer8_len _
  | i + 1, h => by
    have h1 := cl1_len i (by omega)
    show (splice ((cl1 i).set (256 + 64 * i) 112) (512 + 64 * i + 20 - 256) (putL ((2000 : Nat) : Int) ((4 : Nat) : Int))).length = _
    rw [splice_len _ _ _ (by rw [putL4_len, List.length_set, h1]; omega), List.length_set, h1]
theorem cl2_len : cl2.length = 1792 := by unfold cl2; rw [List.length_set, cl1_len 8 (by decide)]
theorem cl3_len : cl3.length = 1792 := by unfold cl3; rw [splice_len _ _ _ (by rw [putL4_len, cl2_len]; decide), cl2_len]
theorem cl4_len : cl4.length = 1792 := by unfold cl4; rw [splice_len _ _ _ (by rw [putL4_len, cl3_len]; decide), cl3_len]
theorem cl5_len : cl5.length = 1792 := by unfold cl5; rw [splice_len _ _ _ (by rw [putL2_len, cl4_len]; decide), cl4_len]
theorem cl6_len (n : Nat) : (cl6 n).length = 1792 := by unfold cl6; rw [splice_len _ _ _ (by rw [putL2_len, cl5_len]; decide), cl5_len]
theorem cl7_len (n : Nat) : (cl7 n).length = 1792 := by unfold cl7; rw [splice_len _ _ _ (by rw [putL4_len, cl6_len]; decide), cl6_len]
theorem cl8_len (q : Nat → Nat) (n : Nat) : ∀ i, i ≤ 60 → (cl8 q n i).length = 1792
  | 0, _ => cl7_len n
  | i + 1, h => by
    have h1 := cl8_len q n i (by omega)
    show (splice (cl8 q n i) (1200 + 4 * i - 256) _).length = _
    rw [splice_len _ _ _ (by rw [putL4_len, h1]; omega), h1]
theorem cl1_ok : ∀ i, OkB (cl1 i)
  | 0 => zer8_okb _
  | i + 1 => okb_splice (okb_set (cl1_ok i) _ _ (by decide) (by decide)) (okb_putL _ _) _
theorem cl7_ok (n : Nat) : OkB (cl7 n) := okb_splice (okb_splice (okb_splice (okb_splice (okb_splice (okb_set (cl1_ok 8) _ _ (by decide) (by decide)) (okb_putL _ _) _) (okb_putL _ _) _) (okb_putL _ _) _) (okb_putL _ _) _) (okb_putL _ _) _
theorem cl8_ok (q : Nat → Nat) (n : Nat) : ∀ i, OkB (cl8 q n i)
  | 0 => cl7_ok n
  | i + 1 => okb_splice (cl8_ok q n i) (okb_putL _ _) _
theorem spl_get (xs ys : List Int) (a i : Nat) (h : a + ys.length ≤ xs.length) : (splice xs a ys).getD i 0 = if a ≤ i ∧ i < a + ys.length then ys.getD (i - a) 0 else xs.getD i 0 := by
  have h1 : (xs.take a).length = a := by rw [List.length_take]; omega
  simp only [splice, List.getD_eq_getElem?_getD]
  by_cases c1 : i < a
  · rw [if_neg (by omega), List.getElem?_append_left (by omega), List.getElem?_take_of_lt c1]
  · rw [List.getElem?_append_right (by omega), h1]
    by_cases c2 : i < a + ys.length
    · rw [if_pos ⟨by omega, c2⟩, List.getElem?_append_left (by omega)]
    · rw [if_neg (by omega), List.getElem?_append_right (by omega), List.getElem?_drop]
      congr 2
      omega
theorem lay_get (zs : List Int) (h : zs.length = 1792) (p : Nat) (h1 : 256 ≤ p) (h2 : p < 2048) : (layB zs).getD p 0 = zs.getD (p - 256) 0 := by
  have e : zs.take 1792 = zs := by rw [← h, List.take_length]
  unfold layB
  rw [e, spl_get _ _ _ _ (by rw [baseF_len, h]; decide), if_pos ⟨h1, by omega⟩]
theorem cl8_low (q : Nat → Nat) (n p : Nat) (hp : p < 944) : ∀ i, i ≤ 60 → (cl8 q n i).getD p 0 = (cl7 n).getD p 0
  | 0, _ => rfl
  | i + 1, h => by
    show (splice (cl8 q n i) (1200 + 4 * i - 256) _).getD p 0 = _
    rw [spl_get _ _ _ _ (by rw [putL4_len, cl8_len q n i (by omega)]; omega), if_neg (by omega), cl8_low q n p hp i (by omega)]
theorem cl8_at (q : Nat → Nat) (n i t : Nat) (ht : t < 4) : ∀ m, i < m → m ≤ 60 → (cl8 q n m).getD (944 + 4 * i + t) 0 = (putL ((512 + 64 * q i : Nat) : Int) ((4 : Nat) : Int)).getD t 0
  | 0, h, _ => by omega
  | m + 1, h, h6 => by
    show (splice (cl8 q n m) (1200 + 4 * m - 256) _).getD _ 0 = _
    rw [spl_get _ _ _ _ (by rw [putL4_len, cl8_len q n m (by omega)]; omega), putL4_len]
    by_cases c : i = m
    · subst c
      rw [if_pos (by omega), show 944 + 4 * i + t - (1200 + 4 * i - 256) = t by omega]
    · rw [if_neg (by omega), cl8_at q n i t ht m (by omega) (by omega)]
theorem rd_1 (bs : List Int) (p : Nat) : rdN bs p 1 = (bs.getD p 0).toNat := rfl
theorem rd_2 (bs : List Int) (p : Nat) : rdN bs p 2 = (256 * bs.getD p 0 + bs.getD (p + 1) 0).toNat := rfl
theorem rd_4 (bs : List Int) (p : Nat) : rdN bs p 4 = (16777216 * bs.getD p 0 + 65536 * bs.getD (p + 1) 0 + 256 * bs.getD (p + 2) 0 + bs.getD (p + 3) 0).toNat := rfl
theorem c7_cb : ∀ n : Nat, ∀ i : Fin 8, rdN (cl7 n) (256 + 64 * i.1) 1 = 112 := fun n i => by
  rcases i with ⟨i, hi⟩
  rcases (by omega : i = 0 ∨ i = 1 ∨ i = 2 ∨ i = 3 ∨ i = 4 ∨ i = 5 ∨ i = 6 ∨ i = 7) with rfl | rfl | rfl | rfl | rfl | rfl | rfl | rfl <;> kernel_rfl
theorem c7_cw : ∀ n : Nat, ∀ i : Fin 8, rdN (cl7 n) (276 + 64 * i.1) 4 = 2000 := fun n i => by
  rcases i with ⟨i, hi⟩
  rcases (by omega : i = 0 ∨ i = 1 ∨ i = 2 ∨ i = 3 ∨ i = 4 ∨ i = 5 ∨ i = 6 ∨ i = 7) with rfl | rfl | rfl | rfl | rfl | rfl | rfl | rfl <;> kernel_rfl
theorem c7_ob (n : Nat) : rdN (cl7 n) 768 1 = 112 := by kernel_rfl
theorem c7_o4 (n : Nat) : rdN (cl7 n) 784 4 = 1100 := by kernel_rfl
theorem c7_oz (n : Nat) : rdN (cl7 n) 788 4 = 0 := by kernel_rfl
theorem c7_t4 (n : Nat) : rdN (cl7 n) 844 4 = 1 := by kernel_rfl
theorem c7_k0 (n : Nat) : (cl7 n).getD 848 0 = 0 := by kernel_rfl
theorem c7_k1 (n : Nat) : (cl7 n).getD 849 0 = 2 := by kernel_rfl
theorem c7_h0 (n : Nat) : (cl7 n).getD 850 0 = (putL (n : Int) ((2 : Nat) : Int)).getD 0 0 := by kernel_rfl
theorem c7_h1 (n : Nat) : (cl7 n).getD 851 0 = (putL (n : Int) ((2 : Nat) : Int)).getD 1 0 := by kernel_rfl
theorem c7_rw (n : Nat) : rdN (cl7 n) 852 4 = 1200 := by kernel_rfl
theorem c7_f0 (n : Nat) : rdN (cl7 n) 857 1 = 0 := by kernel_rfl
theorem c7_sf (n : Nat) : rdN (cl7 n) 4 4 = 0 := by kernel_rfl
theorem seg2 (bs : List Int) (p : Nat) (h : p + 2 ≤ bs.length) : seg bs p 2 = [bs.getD p 0, bs.getD (p + 1) 0] := by
  unfold seg
  rw [List.drop_eq_getElem_cons (by omega), List.drop_eq_getElem_cons (by omega), List.getD_eq_getElem?_getD, List.getD_eq_getElem?_getD, List.getElem?_eq_getElem (by omega), List.getElem?_eq_getElem (by omega)]
  rfl
theorem cls_is (q : Nat → Nat) (n : Nat) (hn : n ≤ 60) (hq : ∀ i, i < n → q i < 8) : ClsF (layB (cl8 q n n)) n q := by
  have hl := cl8_len q n n hn
  have g1 : ∀ p, 256 ≤ p → p < 1200 → (layB (cl8 q n n)).getD p 0 = (cl7 n).getD (p - 256) 0 := fun p h1 h2 => by
    rw [lay_get _ hl p h1 (by omega), cl8_low q n _ (by omega) n hn]
  have r1 : ∀ p, p < 944 → rdN (layB (cl8 q n n)) (p + 256) 1 = rdN (cl7 n) p 1 := fun p h => by
    rw [rd_1, rd_1, g1 _ (by omega) (by omega), Nat.add_sub_cancel]
  have r4 : ∀ p, p + 3 < 944 → rdN (layB (cl8 q n n)) (p + 256) 4 = rdN (cl7 n) p 4 := fun p h => by
    rw [rd_4, rd_4, g1 _ (by omega) (by omega), g1 _ (by omega) (by omega), g1 _ (by omega) (by omega), g1 _ (by omega) (by omega), Nat.add_sub_cancel, show p + 256 + 1 - 256 = p + 1 by omega, show p + 256 + 2 - 256 = p + 2 by omega, show p + 256 + 3 - 256 = p + 3 by omega]
  refine ⟨lay_len _ _ (by decide), fun i hi => ?_, fun i hi => ?_, ?_, ?_, ?_, ?_, ?_, ?_, ?_, ?_, ?_, hn, fun i hi => ⟨hq i hi, ?_⟩⟩
  · rw [show 512 + 64 * i = (256 + 64 * i) + 256 by omega, r1 _ (by omega)]; exact c7_cb n ⟨i, hi⟩
  · rw [show 512 + 64 * i + 20 = (276 + 64 * i) + 256 by omega, r4 _ (by omega)]; exact c7_cw n ⟨i, hi⟩
  · exact (r1 768 (by decide)).trans (c7_ob n)
  · exact (r4 784 (by decide)).trans (c7_o4 n)
  · exact (r4 788 (by decide)).trans (c7_oz n)
  · exact (r4 844 (by decide)).trans (c7_t4 n)
  · rw [seg2 _ _ (by rw [show (layB (cl8 q n n)).length = 2048 from lay_len _ _ (by decide)]; decide), g1 _ (by decide) (by decide), g1 _ (by decide) (by decide)]
    show [(cl7 n).getD 848 0, (cl7 n).getD 849 0] = _
    rw [c7_k0, c7_k1]
    rfl
  · rw [rd_2, g1 _ (by decide) (by decide), g1 _ (by decide) (by decide)]
    show (256 * (cl7 n).getD 850 0 + (cl7 n).getD 851 0).toNat = _
    rw [c7_h0, c7_h1]
    simp [putL]
    omega
  · exact (r4 852 (by decide)).trans (c7_rw n)
  · exact (r1 857 (by decide)).trans (c7_f0 n)
  · exact (r4 4 (by decide)).trans (c7_sf n)
  · have hq8 := hq i hi
    have e : ∀ t, t < 4 → (layB (cl8 q n n)).getD (1200 + 4 * i + t) 0 = (putL ((512 + 64 * q i : Nat) : Int) ((4 : Nat) : Int)).getD t 0 := fun t ht => by
      rw [lay_get _ hl _ (by omega) (by omega), show 1200 + 4 * i + t - 256 = 944 + 4 * i + t by omega]
      exact cl8_at q n i t ht n hi hn
    rw [rd_4, e 1 (by decide), e 2 (by decide), e 3 (by decide), show (layB (cl8 q n n)).getD (1200 + 4 * i) 0 = _ from e 0 (by decide)]
    simp [putL]
    omega
end Go.Proofs.Ytpgppdkbkkljnaa
