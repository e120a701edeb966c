/- Contract of the document's Cmp (package grottoref02): which of two numbers is greater. -/
import Derived.Test.YtkbeceedafkhcaaN2c
import Derived.Deep.QuietTactic
import Derived.BigQuiet
import Derived.WalkSmall
namespace Go.Proofs.Ytkbeceedafkhcaa
open Go.RowKit
set_option maxHeartbeats 400000

def cmpI (a b : Int) : Int := if a < b then -1 else if b < a then 1 else 0
theorem nv_split (ds : List Int) (k : Nat) (h : k ≤ ds.length) : nv ds = nv (ds.take k) + 65536 ^ k * nv (ds.drop k) := by
  have e := nv_append (ds.take k) (ds.drop k)
  rw [List.take_append_drop, show (ds.take k).length = k by simp; omega] at e
  exact e
theorem OkD.drop {ds : List Int} (h : OkD ds) (n : Nat) : OkD (ds.drop n) := fun x hx => h x (List.mem_of_mem_drop hx)
theorem nv_drop_step (ds : List Int) (k : Nat) (h : k < ds.length) : nv (ds.drop k) = ds.getD k 0 + 65536 * nv (ds.drop (k + 1)) := by
  rw [List.drop_eq_getElem_cons h]
  show ds[k] + 65536 * nv (ds.drop (k + 1)) = _
  simp [h]
/-- where the digits above are alike, the first that differs tells -/
theorem cmp_digit (a b : List Int) (ha : OkD a) (hb : OkD b) (k : Nat) (hl : a.length = b.length) (hk : k < a.length) (he : nv (a.drop (k + 1)) = nv (b.drop (k + 1))) (hd : a.getD k 0 < b.getD k 0) : nv a < nv b := by
  have h1 := nv_split a k (by omega)
  have h2 := nv_split b k (by omega)
  have l1 := nv_lt _ (ha.take k)
  rw [show (a.take k).length = k by simp; omega] at l1
  have l2 := nv_nonneg _ (hb.take k)
  have s1 := nv_drop_step a k hk
  have s2 := nv_drop_step b k (by omega)
  have h3 : nv (a.drop k) + 1 ≤ nv (b.drop k) := by omega
  have h4 := Int.mul_le_mul_of_nonneg_left h3 (Int.le_of_lt (show (0 : Int) < 65536 ^ k from Int.pow_pos (by decide)))
  rw [Int.mul_add, Int.mul_one] at h4
  omega
/-- fewer digits, the top one not 0: a smaller number -/
theorem cmp_len (a b : List Int) (ha : OkD a) (hb : OkD b) (hl : a.length < b.length) (ht : b.getD (b.length - 1) 0 ≠ 0) : nv a < nv b := by
  have l1 := nv_lt a ha
  have h2 := nv_split b (b.length - 1) (by omega)
  have l2 := nv_nonneg _ (hb.take (b.length - 1))
  have s2 := nv_drop_step b (b.length - 1) (by omega)
  have l3 := nv_nonneg _ (hb.drop (b.length - 1 + 1))
  have l4 := hb.at (b.length - 1)
  have h3 : 1 ≤ nv (b.drop (b.length - 1)) := by omega
  have h4 := Int.mul_le_mul_of_nonneg_left h3 (Int.le_of_lt (show (0 : Int) < 65536 ^ (b.length - 1) from Int.pow_pos (by decide)))
  have h5 : (65536 : Int) ^ a.length ≤ 65536 ^ (b.length - 1) := by
    rw [pow16, pow16]; exact p2_mono (by omega)
  omega
theorem trimmed_top (ds : List Int) (n : Nat) (h : Trimmed ds n) : (ds.take n).length = n ∧ nv (ds.take n) = nv ds ∧ (0 < n → (ds.take n).getD ((ds.take n).length - 1) 0 ≠ 0) := by
  obtain ⟨h1, h2, h3⟩ := h
  have hl : (ds.take n).length = n := by simp; omega
  refine ⟨hl, h2, fun h0 => ?_⟩
  rw [hl]
  rcases h3 with h | h
  · omega
  · have e : (ds.take n).getD (n - 1) 0 = ds.getD (n - 1) 0 := by simp [List.getD_eq_getElem?_getD, show n - 1 < n by omega]
    rw [e]; exact h
theorem cmp_any (a1 a2 : Option Addr) (l1 c1 l2 c2 : Nat) (d1 d2 : List Int) (w : World) (r1 : RdD w a1 l1 c1 d1) (r2 : RdD w a2 l2 c2 d2) (k1 : OkD d1) (k2 : OkD d2) (hl1 : (l1 : Int) ≤ 100000) (hl2 : (l2 : Int) ≤ 100000) :
    Calls Try.prog 49 #[.slice a1 l1 c1, .slice a2 l2 c2] w fun r w' => r = .returned (.int .i64 (cmpI (nv d1) (nv d2))) ∧ Below w.heap.size w w' := by
  have R1 := hidden r1
  have R2 := hidden r2
  have K1 := hidden k1
  have K2 := hidden k2
  have e1 := r1.1
  have e2 := r2.1
  clear r1 r2 k1 k2
  go_enter Try.func49, Try.ntmps49
  go_wp2_with fail
  refine (trim_any a1 l1 c1 d1 _ R1.out (by omega)).mono ?_
  rintro r w1 ⟨n1, rfl, ht1, hw⟩
  subst hw
  go_wp2_with fail
  refine (trim_any a2 l2 c2 d2 _ R2.out (by omega)).mono ?_
  rintro r w1 ⟨n2, rfl, ht2, hw⟩
  subst hw
  have hn1 : n1 ≤ l1 := by have := ht1.1; omega
  have hn2 : n2 ≤ l2 := by have := ht2.1; omega
  obtain ⟨q1, q2, q3⟩ := trimmed_top d1 n1 ht1
  obtain ⟨p1, p2', p3⟩ := trimmed_top d2 n2 ht2
  have T1 := hidden (R1.out.take hn1)
  have T2 := hidden (R2.out.take hn2)
  have O1 := hidden (K1.out.take n1)
  have O2 := hidden (K2.out.take n2)
  have Q1 := hidden q1
  have Q2 := hidden q2
  have Q3 := hidden q3
  have P1 := hidden p1
  have P2 := hidden p2'
  have P3 := hidden p3
  clear q1 q2 q3 p1 p2' p3 ht1 ht2 R1 R2 K1 K2 e1 e2
  generalize d1.take n1 = A at *
  generalize d2.take n2 = B at *
  by_cases hne : n1 = n2
  case neg =>
    have hb1 : ((n1 : Int) != (n2 : Int)) = true := by simp; omega
    by_cases hlt : n1 < n2
    · have hlt2 : (n1 : Int) < (n2 : Int) := by omega
      have HF : Hid (cmpI (nv d1) (nv d2) = -1) := hidden (by
        have h1 := cmp_len A B O1.out O2.out (by rw [Q1.out, P1.out]; exact hlt) (P3.out (by omega))
        rw [Q2.out, P2.out] at h1
        unfold cmpI; rw [if_pos h1])
      clear T1 T2 O1 O2 Q1 Q2 Q3 P1 P2 P3
      go_wp2
      go_ret
      exact ⟨ret_int HF.out.symm, Below.refl _ _⟩
    · have hlt2 : ¬ (n1 : Int) < (n2 : Int) := by omega
      have HF : Hid (cmpI (nv d1) (nv d2) = 1) := hidden (by
        have h1 := cmp_len B A O2.out O1.out (by rw [Q1.out, P1.out]; omega) (Q3.out (by omega))
        rw [Q2.out, P2.out] at h1
        unfold cmpI; rw [if_neg (by omega), if_pos h1])
      clear T1 T2 O1 O2 Q1 Q2 Q3 P1 P2 P3
      go_wp2
      go_ret
      exact ⟨ret_int HF.out.symm, Below.refl _ _⟩
  subst hne
  have hb1 : ((n1 : Int) != (n1 : Int)) = false := by simp
  by_cases hn0 : n1 = 0
  · subst hn0
    have HF : Hid (cmpI (nv d1) (nv d2) = 0) := hidden (by
      rw [← Q2.out, ← P2.out, List.eq_nil_of_length_eq_zero Q1.out, List.eq_nil_of_length_eq_zero P1.out]; rfl)
    clear T1 T2 O1 O2 Q1 Q2 Q3 P1 P2 P3
    go_wp2
    go_rounds 1
    go_ret
    exact ⟨ret_int HF.out.symm, Below.refl _ _⟩
  · rcases T1.out.2.2 with ⟨_, h, _⟩ | ⟨b1, o1, rfl, hc1⟩
    · omega
    rcases T2.out.2.2 with ⟨_, h, _⟩ | ⟨b2, o2, rfl, hc2⟩
    · omega
    have C1 := hidden hc1
    have C2 := hidden hc2
    have hlen : Hid (A.length = n1 ∧ B.length = n1) := ⟨Q1.out, P1.out⟩
    clear hc1 hc2 T1 T2 Q1 P1 Q3 P3
    go_wp2
    go_loopw [5] (fun i wr => ∃ k : Nat, k ≤ n1 ∧ i = .int .i64 ((k : Int) - 1) ∧ nv (A.drop k) = nv (B.drop k) ∧ Below w1.heap.size w1 wr) (fun i _ => (intOf i + 1).toNat)
    case atStart => exact ⟨n1, Nat.le_refl _, rfl, by rw [List.drop_eq_nil_of_le (by have := hlen.out.1; omega), List.drop_eq_nil_of_le (by have := hlen.out.2; omega)], Below.refl _ _⟩
    case round =>
      obtain ⟨k, hk, rfl, heq, hbl⟩ := hrel
      have HE := hidden heq
      clear heq
      by_cases hk0 : 0 < k
      · have hk1 : (0 : Int) ≤ (k : Int) - 1 := by omega
        have hlt : (k : Int) - 1 < (n1 : Int) := by omega
        have hnt : ((k : Int) - 1).toNat = k - 1 := by omega
        have g1 := cellLater hbl (C1.out (k - 1) (by omega))
        have g2 := cellLater hbl (C2.out (k - 1) (by omega))
        have HD1 := hidden (cmp_digit A B O1.out O2.out (k - 1) (by have := hlen.out; omega) (by have := hlen.out; omega) (by rw [show k - 1 + 1 = k by omega]; exact HE.out))
        have HD2 := hidden (cmp_digit B A O2.out O1.out (k - 1) (by have := hlen.out; omega) (by have := hlen.out; omega) (by rw [show k - 1 + 1 = k by omega]; exact HE.out.symm))
        have HS1 := hidden (nv_drop_step A (k - 1) (by have := hlen.out; omega))
        have HS2 := hidden (nv_drop_step B (k - 1) (by have := hlen.out; omega))
        generalize A.getD (k - 1) 0 = X at g1 HD1 HD2 HS1
        generalize B.getD (k - 1) 0 = Y at g2 HD1 HD2 HS2
        by_cases hxy : X < Y
        · have HF : Hid (cmpI (nv d1) (nv d2) = -1) := hidden (by
            have h := HD1.out hxy
            rw [Q2.out, P2.out] at h
            unfold cmpI; rw [if_pos h])
          go_wp2
          go_quiet (fail)
          go_wp2
          go_ret
          exact ⟨ret_int HF.out.symm, by first | exact below_drewN hbl _ | exact below_drewN (below_drewN hbl _) _⟩
        by_cases hyx : Y < X
        · have HF : Hid (cmpI (nv d1) (nv d2) = 1) := hidden (by
            have h := HD2.out hyx
            rw [Q2.out, P2.out] at h
            unfold cmpI; rw [if_neg (by omega), if_pos h])
          go_wp2
          go_quiet (fail)
          go_wp2
          go_quiet (fail)
          go_wp2
          go_ret
          exact ⟨ret_int HF.out.symm, by first | exact below_drewN hbl _ | exact below_drewN (below_drewN hbl _) _⟩
        · have HXY : Hid (X = Y) := hidden (by omega)
          go_wp2
          go_quiet (fail)
          go_wp2
          go_quiet (fail)
          go_wp2
          go_roundw
          case rel =>
            refine ⟨k - 1, by omega, int_eq (by omega), ?_, below_drewN hbl _⟩
            rw [HS1.out, HS2.out, show k - 1 + 1 = k by omega, HE.out, HXY.out]
          case measure => simp [intOf]; omega
      · obtain rfl : k = 0 := by omega
        have HF : Hid (cmpI (nv d1) (nv d2) = 0) := hidden (by
          have h := HE.out
          rw [List.drop_zero, List.drop_zero, Q2.out, P2.out] at h
          rw [h]; unfold cmpI; rw [if_neg (by omega), if_neg (by omega)])
        go_wp2
        go_ret
        exact ⟨ret_int HF.out.symm, hbl⟩
end Go.Proofs.Ytkbeceedafkhcaa
