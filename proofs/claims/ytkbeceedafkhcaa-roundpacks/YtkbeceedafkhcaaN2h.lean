/- Contract of the document's Quo (package grottoref02): how often one number goes into another, and what is left. -/
import Derived.Test.YtkbeceedafkhcaaN2g
namespace Go.Proofs.Ytkbeceedafkhcaa
open Go.RowKit
set_option maxHeartbeats 1000000

/-- digits of the number N that lie in memory, at most L of them, no zero at the top -/
structure HasNat (w : World) (a : Option Addr) (len cap : Nat) (ds : List Int) (N : Int) : Prop where
  rd : RdD w a len cap ds
  ok : OkD ds
  val : nv ds = N
  top : len = 0 ∨ ds.getD (len - 1) 0 ≠ 0
theorem HasNat.later {w w' : World} {a : Option Addr} {len cap : Nat} {ds : List Int} {N : Int} (h : HasNat w a len cap ds N) (hb : Below w.heap.size w w') : HasNat w' a len cap ds N := ⟨h.rd.later hb, h.ok, h.val, h.top⟩
theorem HasNat.nonneg {w : World} {a : Option Addr} {len cap : Nat} {ds : List Int} {N : Int} (h : HasNat w a len cap ds N) : 0 ≤ N := by rw [← h.val]; exact nv_nonneg _ h.ok
theorem HasNat.len_le {w w' : World} {a a' : Option Addr} {len cap len' cap' : Nat} {ds ds' : List Int} {N N' : Int} (h : HasNat w a len cap ds N) (h' : HasNat w' a' len' cap' ds' N') (hle : N ≤ N') : len ≤ len' := by
  rcases Nat.lt_or_ge len' len with hl | hl
  · have hd := h.rd.1
    have hd' := h'.rd.1
    have := cmp_len ds' ds h'.ok h.ok (by omega) (by
      rcases h.top with h0 | h0
      · omega
      · rw [hd]; exact h0)
    have e1 := h.val
    have e2 := h'.val
    omega
  · exact hl
theorem quo_take (A B q r P t : Int) (h : q * B + r = A) (ht : t = B * P) : (q + P) * B + (r - t) = A := by
  rw [ht, Int.add_mul, Int.mul_comm P B]; omega
theorem cmpI_le (a b : Int) : decide (cmpI a b ≤ 0) = decide (a ≤ b) := by
  unfold cmpI
  split
  · simp; omega
  · split <;> simp <;> omega
def QuoRet (w : World) (A B : Int) (la : Nat) (r : Ending) (w' : World) : Prop :=
  ∃ a1 l1 c1 d1 a2 l2 c2 d2 Q R, r = .returned (.tuple #[.slice a1 l1 c1, .slice a2 l2 c2]) ∧ HasNat w' a1 l1 c1 d1 Q ∧ HasNat w' a2 l2 c2 d2 R ∧ Q * B + R = A ∧ R < B ∧ l1 ≤ 50000 ∧ l2 ≤ la ∧ Below w.heap.size w w'
theorem has_nil (w : World) : HasNat w none 0 0 [] 0 := ⟨⟨rfl, Nat.le_refl _, .inl ⟨rfl, rfl, rfl⟩⟩, (fun d hd => by cases hd), rfl, .inl rfl⟩
theorem rd_one (w : World) : RdD (w.alloc (.cells #[.int .i64 1] 3)) (some ⟨w.heap.size, 0, none⟩) 1 1 [1] := by
  refine ⟨rfl, Nat.le_refl _, .inr ⟨w.heap.size, 0, rfl, fun i hi => ?_⟩⟩
  obtain rfl : i = 0 := by omega
  simp
theorem HidB {w w' : World} {a : Option Addr} {len cap : Nat} {ds : List Int} {N : Int} (h : Hid (HasNat w a len cap ds N)) (hb : Below w.heap.size w w') : Hid (HasNat w' a len cap ds N) := h.out.later hb
theorem quo_any (a1 a2 : Option Addr) (l1 c1 l2 c2 : Nat) (d1 d2 : List Int) (A B : Int) (w : World) (h1 : HasNat w a1 l1 c1 d1 A) (h2 : HasNat w a2 l2 c2 d2 B) (hB : 0 < B) (hl1 : (l1 : Int) ≤ 1500) (hl2 : (l2 : Int) ≤ 1500) :
    Calls Try.prog 47 #[.slice a1 l1 c1, .slice a2 l2 c2] w fun r w' => QuoRet w A B l1 r w' := by
  have H1 := hidden h1
  have H2 := hidden h2
  have hA0 := h1.nonneg
  have V1 := hidden h1.val
  have V2 := hidden h2.val
  clear h1 h2
  go_enter Try.func47, Try.ntmps47
  go_wp2_with fail
  refine (trim_any a1 l1 c1 d1 _ H1.out.rd (by omega)).mono ?_
  rintro r w1 ⟨n, rfl, ht, hw⟩
  obtain rfl := hw.symm
  have hn : n ≤ l1 := by have := ht.1; have := H1.out.rd.1; omega
  have HR : Hid (HasNat w a1 n c1 (d1.take n) A) := ⟨H1.out.rd.take hn, H1.out.ok.take n, ht.2.1.trans V1.out, trimmed_or ht⟩
  clear ht
  generalize d1.take n = dr at HR
  go_wp2_with fail
  refine (bits_any a1 l1 c1 d1 _ H1.out.rd H1.out.ok (by omega)).mono ?_
  rintro r w1 ⟨⟨ba, rfl, hba, hba2⟩, hw⟩
  obtain rfl := hw.symm
  rw [V1.out] at hba
  have BA := hidden hba
  clear hba
  go_wp2_with fail
  refine (bits_any a2 l2 c2 d2 _ H2.out.rd H2.out.ok (by omega)).mono ?_
  rintro r w1 ⟨⟨bb, rfl, hbb, hbb2⟩, hw⟩
  obtain rfl := hw.symm
  rw [V2.out] at hbb
  have BB := hidden hbb
  clear hbb
  have HI : Hid (A < B * p2 ((ba : Int) - (bb : Int) + 1).toNat) := hidden (by
    rcases BB.out with ⟨h, _⟩ | ⟨q0, q1, q2⟩
    · omega
    · rcases BA.out with ⟨h, _⟩ | ⟨r0, r1, r2⟩
      · have := Int.mul_pos hB (p2_pos ((ba : Int) - (bb : Int) + 1).toNat); omega
      · have h3 : p2 ba ≤ p2 (bb - 1) * p2 ((ba : Int) - (bb : Int) + 1).toNat := by rw [← p2_add]; exact p2_mono (by omega)
        have h4 := Int.mul_le_mul_of_nonneg_right q1 (Int.le_of_lt (p2_pos ((ba : Int) - (bb : Int) + 1).toNat))
        omega)
  clear BA BB H1 V1
  have hrng : -24000 ≤ (ba : Int) - (bb : Int) ∧ (ba : Int) - (bb : Int) ≤ 24000 := by omega
  go_wp2
  generalize (ba : Int) - (bb : Int) = i0 at *
  go_loopw [6, 7, 8, 9] (fun vq vr i t wr => ∃ (j : Int) (aq ar : Option Addr) (lq cq lr cr : Nat) (dq dr : List Int) (Q R : Int), i = .int .i64 j ∧ -24000 ≤ j ∧ j ≤ 24000 ∧ vq = .slice aq lq cq ∧ vr = .slice ar lr cr ∧ HasNat wr aq lq cq dq Q ∧ HasNat wr ar lr cr dr R ∧ Q * B + R = A ∧ R < B * p2 (j + 1).toNat ∧ (lq : Int) + j ≤ 26000 ∧ lr ≤ l1 ∧ Below w.heap.size w wr) (fun _ _ i _ _ => (intOf i + 1).toNat)
  case atStart => exact ⟨i0, none, a1, 0, 0, n, c1, [], dr, 0, A, rfl, by omega, by omega, rfl, rfl, has_nil _, HR.out, by omega, HI.out, by omega, hn, Below.refl _ _⟩
  case round =>
    obtain ⟨j, aq, ar, lq, cq, lr, cr, dq, dr, Q, R, rfl, hj0, hj1, rfl, rfl, hq, hr, hqr, hlt, hlq, hlr, hbl⟩ := hrel
    have HQ := hidden hq
    have HR := hidden hr
    have HE := hidden hqr
    have HLT := hidden hlt
    clear hq hr hqr hlt
    by_cases hj : 0 ≤ j
    · obtain ⟨m, rfl⟩ := Int.eq_ofNat_of_zero_le hj
      have hb2 := HidB H2 hbl
      go_wp2_with fail
      refine (up_any a2 l2 c2 d2 m _ hb2.out.rd hb2.out.ok (by omega) (by omega)).mono ?_
      rintro r w1 ⟨at_, lt, ct, dt, rfl, rt, kt, vt, lbt, tt, hb1⟩
      rw [V2.out] at vt
      have HT : Hid (HasNat w1 at_ lt ct dt (B * p2 m)) := ⟨rt, kt, vt, tt⟩
      have hlt2 : lt ≤ 3002 := by omega
      clear rt kt vt tt lbt
      have HR1 := hidden (HR.out.later hb1)
      have HQ1 := hidden (HQ.out.later hb1)
      go_wp2_with fail
      refine (cmp_any at_ ar lt ct lr cr dt dr _ HT.out.rd HR1.out.rd HT.out.ok HR1.out.ok (by omega) (by omega)).mono ?_
      rintro r w2 ⟨rfl, hb2⟩
      rw [HT.out.val, HR1.out.val]
      have HT2 := hidden (HT.out.later hb2)
      have HR2 := hidden (HR1.out.later hb2)
      have HQ2 := hidden (HQ1.out.later hb2)
      have hs0 := hbl.size
      have hs1 := hb1.size
      have hs2 := hb2.size
      have hB02 : Below w.heap.size w w2 := (hbl.trans (hb1.mono hs0)).trans (hb2.mono (by omega))
      have hcd := cmpI_le (B * p2 m) R
      by_cases hle : B * p2 m ≤ R
      · have hcm : cmpI (B * p2 m) R ≤ 0 := by have : decide (cmpI (B * p2 m) R ≤ 0) = true := by rw [hcd]; simpa using hle
                                               simpa using this
        clear hcd
        generalize cmpI (B * p2 m) R = C at *
        go_wp2_with fail
        refine (minus_any ar at_ lr cr lt ct dr dt _ HR2.out.rd HT2.out.rd HR2.out.ok HT2.out.ok (by omega) (HT2.out.len_le HR2.out hle) (by rw [HT2.out.val, HR2.out.val]; exact hle)).mono ?_
        rintro r w3 ⟨am, lm, cm, dm, rfl, rm, km, vm, lbm, tm, hb3⟩
        rw [HT2.out.val, HR2.out.val] at vm
        have HM : Hid (HasNat w3 am lm cm dm (R - B * p2 m)) := ⟨rm, km, vm, tm⟩
        clear rm km vm tm
        have hs3 := hb3.size
        have H1 := hidden (rd_one w3)
        have hb4 : Below w3.heap.size w3 (w3.alloc (.cells #[.int .i64 1] 3)) := (Below.refl _ _).alloc (Nat.le_refl _) _
        have HQ4 := hidden ((HQ2.out.later hb3).later hb4)
        have HM4 := hidden (HM.out.later hb4)
        go_wp2_with fail
        refine (up_any _ 1 1 [1] m _ H1.out (fun d hd => by simp at hd; omega) (by omega) (by omega)).mono ?_
        rintro r w5 ⟨au, lu, cu, du, rfl, ru, ku, vu, lbu, tu, hb5⟩
        have HU : Hid (HasNat w5 au lu cu du (p2 m)) := ⟨ru, ku, by rw [vu]; simp [nv], tu⟩
        have hlu : lu ≤ 1502 := by omega
        clear ru ku vu tu lbu
        have HQ5 := hidden (HQ4.out.later hb5)
        have HM5 := hidden (HM4.out.later hb5)
        go_wp2_with fail
        refine (plus_any aq au lq cq lu cu dq du _ HQ5.out.rd HU.out.rd HQ5.out.ok HU.out.ok (by omega) (by omega)).mono ?_
        rintro r w6 ⟨ap, lp, cp, dp, rfl, rp, kp, vp, lbp, tp, hb6⟩
        rw [HQ5.out.val, HU.out.val] at vp
        have HP : Hid (HasNat w6 ap lp cp dp (Q + p2 m)) := ⟨rp, kp, vp, tp⟩
        have HM6 := hidden (HM5.out.later hb6)
        clear rp kp vp tp
        have hs5 := hb5.size
        have hs6 := hb6.size
        have hs4 : w3.heap.size ≤ (w3.alloc (.cells #[.int .i64 1] 3)).heap.size := by simp
        have hB6 : Below w.heap.size w w6 := (((hB02.trans (hb3.mono (by omega))).trans (hb4.mono (by omega))).trans (hb5.mono (by omega))).trans (hb6.mono (by omega))
        have hlp : (lp : Int) + ((m : Int) - 1) ≤ 26000 := by omega
        clear hs4
        go_wp2
        go_roundw
        case rel =>
          refine ⟨(m : Int) - 1, ap, am, lp, cp, lm, cm, dp, dm, Q + p2 m, R - B * p2 m, rfl, by omega, by omega, rfl, rfl, HP.out, HM6.out, quo_take A B Q R (p2 m) _ HE.out rfl, ?_, hlp, by omega, hB6⟩
          have h1 := HLT.out
          rw [show ((m : Int) + 1).toNat = m + 1 by omega, p2_succ, ← Int.mul_assoc, Int.mul_comm B 2, Int.mul_assoc] at h1
          rw [show ((m : Int) - 1 + 1).toNat = m by omega]
          omega
        case measure => simp [intOf]
      · have hcm : ¬ cmpI (B * p2 m) R ≤ 0 := by have : decide (cmpI (B * p2 m) R ≤ 0) = false := by rw [hcd]; simpa using hle
                                                 simpa using this
        clear hcd
        generalize cmpI (B * p2 m) R = C at *
        go_wp2
        go_roundw
        case rel =>
          refine ⟨(m : Int) - 1, aq, ar, lq, cq, lr, cr, dq, dr, Q, R, rfl, by omega, by omega, rfl, rfl, HQ2.out, HR2.out, HE.out, ?_, by omega, hlr, hB02⟩
          rw [show ((m : Int) - 1 + 1).toNat = m by omega]
          omega
        case measure => simp [intOf]
    · have HF : Hid (R < B) := hidden (by
        have h1 := HLT.out
        rw [show (j + 1).toNat = 0 by omega] at h1
        have : p2 0 = 1 := rfl
        rw [this] at h1
        omega)
      have hlq2 : lq ≤ 50000 := by omega
      go_wp2
      go_ret2
      exact ⟨aq, lq, cq, dq, ar, lr, cr, dr, Q, R, rfl, HQ.out, HR.out, HE.out, HF.out, hlq2, hlr, hbl⟩
end Go.Proofs.Ytkbeceedafkhcaa
