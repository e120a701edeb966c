/- Contract of the document's Up (package grottoref02): a number times a power of two. -/
import Derived.Test.YtkbeceedafkhcaaN2f
namespace Go.Proofs.Ytkbeceedafkhcaa
open Go.RowKit
set_option maxHeartbeats 1000000

theorem nv_zeros (q : Nat) (l : List Int) : nv (List.replicate q 0 ++ l) = 65536 ^ q * nv l := by
  induction q with
  | zero => simp
  | succ q ih =>
    rw [List.replicate_succ]
    show 0 + 65536 * nv (List.replicate q 0 ++ l) = _
    rw [ih, Int.pow_succ, Int.mul_comm (65536 ^ q) 65536, Int.mul_assoc]
    omega
theorem made_zeros (q : Nat) : (madeCells (Value.int .i64 0).cells (q * 1)).toList = digV (List.replicate q 0) := by
  rw [Nat.mul_one]
  show (madeCells #[Value.int .i64 0] q).toList = _
  rw [toList_madeCells_one]
  simp [digV]
theorem up_step (P os a x p c t : Int) (h : os + P * c = a * p) (ht : t = x * p + c) : os + P * (t % 65536) + P * 65536 * (t / 65536) = (a + P * x) * p := by
  have e : t % 65536 + 65536 * (t / 65536) = t := by omega
  have e2 : os + P * (t % 65536) + P * 65536 * (t / 65536) = os + P * (t % 65536 + 65536 * (t / 65536)) := by rw [Int.mul_add, Int.mul_assoc]; omega
  rw [e2, e, ht, Int.mul_add, Int.add_mul, Int.mul_assoc]
  omega
/-- what the loop of Up holds ahead of round k -/
def UpAt (A : List Int) (q : Nat) (p : Int) (k : Nat) (ds : List Int) (c : Int) : Prop :=
  ∃ os, ds = List.replicate q 0 ++ os ∧ OkD os ∧ os.length = k ∧ 0 ≤ c ∧ c ≤ 65535 ∧ nv os + 65536 ^ k * c = nv (A.take k) * p
theorem UpAt.step {A : List Int} {q : Nat} {p : Int} {k : Nat} {ds : List Int} {c t : Int} (h : UpAt A q p k ds c) (ht : t = A.getD k 0 * p + c) (t0 : 0 ≤ t) (t1 : t ≤ 4294967295) :
    UpAt A q p (k + 1) (ds ++ [t % 65536]) (t / 65536) := by
  obtain ⟨os, rfl, h1, h2, h3, h4, h5⟩ := h
  refine ⟨os ++ [t % 65536], by simp, ?_, by simp [h2], by omega, by omega, ?_⟩
  · intro d hd
    rcases List.mem_append.1 hd with h | h
    · exact h1 d h
    · simp at h; omega
  · rw [nv_take_step, nv_append, h2, Int.pow_succ]
    simp only [nv, Int.mul_zero, Int.add_zero]
    exact up_step _ _ _ _ _ _ _ h5 ht
theorem UpAt.done {A : List Int} {q : Nat} {p : Int} {k : Nat} {ds : List Int} {c : Int} (h : UpAt A q p k ds c) (hk : A.length ≤ k) : OkD (ds ++ [c]) ∧ nv (ds ++ [c]) = 65536 ^ q * (nv A * p) ∧ (ds ++ [c]).length = q + k + 1 := by
  obtain ⟨os, rfl, h1, h2, h3, h4, h5⟩ := h
  rw [List.take_of_length_le hk] at h5
  refine ⟨?_, ?_, by simp [h2]; omega⟩
  · intro d hd
    rcases List.mem_append.1 hd with h | h
    · rcases List.mem_append.1 h with h | h
      · rw [(List.mem_replicate.1 h).2]; omega
      · exact h1 d h
    · simp at h; omega
  · rw [List.append_assoc, nv_zeros, nv_append, h2]
    simp only [nv, Int.mul_zero, Int.add_zero]
    rw [h5]
theorem mul_bd (x p : Int) (x0 : 0 ≤ x) (x1 : x ≤ 65535) (p0 : 0 < p) (p1 : p ≤ 32768) : 0 ≤ x * p ∧ x * p ≤ 2147450880 := by
  refine ⟨Int.mul_nonneg x0 (by omega), ?_⟩
  have h1 := Int.mul_le_mul_of_nonneg_right x1 (Int.le_of_lt p0)
  have h2 := Int.mul_le_mul_of_nonneg_left p1 (show (0 : Int) ≤ 65535 by omega)
  omega
theorem up_any (a1 : Option Addr) (l1 c1 : Nat) (d1 : List Int) (n : Nat) (w : World) (r1 : RdD w a1 l1 c1 d1) (k1 : OkD d1) (hl1 : (l1 : Int) ≤ 20000) (hn : (n : Int) ≤ 100000) :
    Calls Try.prog 40 #[.slice a1 l1 c1, .int .i64 n] w fun r w' => NatRet w (nv d1 * p2 n) (n / 16 + l1 + 1) r w' := by
  obtain ⟨i0, hi, hz0, hz1, hz2⟩ := info_parts infoI
  have R1 := hidden r1
  have K1 := hidden k1
  have e1 := hidden r1.1
  clear r1 k1
  have hq : (n : Int) / 16 = ((n / 16 : Nat) : Int) := by omega
  have hr : (n : Int) % 16 = ((n % 16 : Nat) : Int) := by omega
  have HV : Hid (65536 ^ (n / 16) * (nv d1 * p2 (n % 16)) = nv d1 * p2 n) := hidden (by
    rw [pow16, ← Int.mul_assoc, Int.mul_comm (p2 (16 * (n / 16))), Int.mul_assoc, ← p2_add, show 16 * (n / 16) + n % 16 = n by omega])
  have hr15 : n % 16 ≤ 15 := by omega
  have hp15 : p2 15 = 32768 := by decide
  have hpr : Hid (0 < p2 (n % 16) ∧ p2 (n % 16) ≤ 32768) := ⟨p2_pos _, by rw [← hp15]; exact p2_mono hr15⟩
  clear hp15
  have hqb : n / 16 ≤ 6250 := by omega
  have hrn : ((n % 16 : Nat) : Int) ≤ 15 := by omega
  generalize hqq : n / 16 = q at *
  generalize hrr : n % 16 = rr at *
  clear hqq hrr
  go_enter Try.func40, Try.ntmps40
  go_wp2_with (refine wpList_make_full _ rfl _ _ 60 rfl w.heap.size 3 i0 (.int .i64 0) 1 Try.underlying60 hi hz0 hz1 .i64 .i64 _ _ q rfl rfl (by omega) (by omega) (by rw [hz2]; omega) (by unfold maxLen; omega) (Nat.le_refl _) ?_; intro w1 hown1 hgrow1; refine Hid.out ?_)
  rw [made_zeros] at hown1
  have hb1 : Below w.heap.size w w1 := (Below.refl _ _).grown hgrow1 (Nat.le_refl _) (by intro k hk; cases hk)
  have HO1 := hidden hown1
  clear hown1 hgrow1
  refine hidden ?_
  go_wp2
  go_loop [6, 7] (fun p i => ∃ k : Nat, k ≤ rr ∧ i = .int .i64 k ∧ p = .int .i64 (p2 k)) (fun _ i => rr - (intOf i).toNat)
  case atStart => exact ⟨0, by omega, rfl, rfl⟩
  case round =>
    obtain ⟨k, hk, rfl, rfl⟩ := hrel
    by_cases hlt : (k : Int) < (rr : Int)
    · have h1 := p2_pos k
      have h2 : p2 k ≤ 32768 := Int.le_trans (p2_mono hk) hpr.out.2
      have h3 := hidden (p2_succ k)
      generalize p2 k = P at *
      go_wp2
      go_round
      case rel => exact ⟨k + 1, by omega, by go_num, by rw [h3.out]⟩
      case measure => simp [intOf]; omega
    · obtain rfl : k = rr := by omega
      have hp0 := hpr.out.1
      have hp1 := hpr.out.2
      clear hpr
      generalize p2 k = P at *
      go_wp2
      go_loopw [5, 8, 9, 10] (fun v cc i t wr => ∃ (j : Nat) (ds : List Int) (c : Int), j ≤ l1 ∧ i = .int .i64 j ∧ cc = .int .i64 c ∧ 0 ≤ c ∧ c ≤ 65535 ∧ UpAt d1 q P j ds c ∧ wr.ownsRow w.heap.size 3 1 v (q + j) (digV ds) ∧ Below w.heap.size w wr) (fun _ _ i _ _ => l1 - (intOf i).toNat)
      case atStart => exact ⟨0, List.replicate q 0, 0, by omega, rfl, rfl, by omega, by omega, ⟨[], by simp, (fun d hd => by cases hd), rfl, by omega, by omega, by simp [nv]⟩, HO1.out, hb1⟩
      case round =>
        obtain ⟨j, ds, c, hj, rfl, rfl, hc0, hc1, hp, hown, hbl⟩ := hrel
        have HP := hidden hp
        have HO := hidden hown
        clear hown hp
        have hs := hbl.size
        have x1 := K1.out.at j
        have hjb : (j : Int) ≤ 20000 := by omega
        have HL := hidden HO.out.lt
        by_cases g1 : j < l1
        · rcases R1.out.2.2 with ⟨_, h, _⟩ | ⟨b1, o1, rfl, hcc1⟩
          · omega
          have q1 := cellLater hbl (hcc1 j g1)
          have i1 : (j : Int) < (l1 : Int) := by omega
          have hm := mul_bd (d1.getD j 0) P x1.1 x1.2 hp0 hp1
          have HST := hidden (fun t h1 h2 h3 => HP.out.step (t := t) h1 h2 h3)
          clear hcc1 HP
          generalize d1.getD j 0 = X at *
          have HT := hidden (HST.out (X * P + c) rfl (by omega) (by omega))
          have HOa := hidden (HO.out.alloc (.cells #[.int .i64 ((X * P + c) % 65536)] 3))
          have HN1 := hidden (newD_cell wr [(X * P + c) % 65536] (by unfold maxLen; simp))
          have hba : Below w.heap.size w (wr.alloc (.cells #[.int .i64 ((X * P + c) % 65536)] 3)) := hbl.alloc hs _
          have hcb : 0 ≤ (X * P + c) / 65536 ∧ (X * P + c) / 65536 ≤ 65535 := by omega
          have HCB := hidden hcb
          clear HST hcb
          go_wp2_with (at_builtin; refine wpList_append_own _ rfl (.tmp 36) (.tmp 39) 60 rfl w.heap.size 3 i0 (.int .i64 0) 1 8 Try.underlying60 hi hz0 hz1 hz2 rfl (by decide) _ _ _ rfl HOa.out ⟨wr.heap.size, 0, none⟩ 1 1 (digV [(X * P + c) % 65536]) rfl rfl HN1.out (digV_one _) (by unfold maxLen; omega) (by omega) (by simp; omega) ?_; intro v2 w2 hown2 hgrow2 hiff2; clear hiff2; refine Hid.out ?_)
          have hb2 : Below w.heap.size w w2 := hba.grown hgrow2 (by simp; omega) (by intro k hk; exact (HL.out k hk).1)
          rw [digV_append] at hown2
          have HO3 := hidden hown2
          clear hown2 hgrow2 HO HOa HN1 HL hba
          refine hidden ?_
          go_wp2
          go_roundw
          case rel => exact ⟨j + 1, ds ++ [(X * P + c) % 65536], (X * P + c) / 65536, by omega, by go_num, rfl, HCB.out.1, HCB.out.2, HT.out, HO3.out, hb2⟩
          case measure => simp [intOf]; omega
        · obtain rfl : j = l1 := by omega
          have i1 : ¬ (j : Int) < (j : Int) := by omega
          have HF := hidden (HP.out.done (by have := e1.out; omega))
          have HOa := hidden (HO.out.alloc (.cells #[.int .i64 c] 3))
          have HN1 := hidden (newD_cell wr [c] (by unfold maxLen; simp))
          have hba : Below w.heap.size w (wr.alloc (.cells #[.int .i64 c] 3)) := hbl.alloc hs _
          clear HP R1 K1 x1 e1
          go_wp2_with (at_builtin; refine wpList_append_own _ rfl (.tmp 43) (.tmp 45) 60 rfl w.heap.size 3 i0 (.int .i64 0) 1 8 Try.underlying60 hi hz0 hz1 hz2 rfl (by decide) _ _ _ rfl HOa.out ⟨wr.heap.size, 0, none⟩ 1 1 (digV [c]) rfl rfl HN1.out (digV_one _) (by unfold maxLen; omega) (by omega) (by simp; omega) ?_; intro v2 w2 hown2 hgrow2 hiff2; clear hiff2; refine Hid.out ?_)
          have hb2 : Below w.heap.size w w2 := hba.grown hgrow2 (by simp; omega) (by intro k hk; exact (HL.out k hk).1)
          rw [digV_append] at hown2
          obtain ⟨a, cp, rfl, hrd⟩ := rdD_owned hown2
          have HR := hidden hrd
          clear hown2 hgrow2 HO HOa HN1 HL hba hrd
          refine hidden ?_
          go_wp2_with fail
          refine (trim_any a (q + j + 1) cp (ds ++ [c]) _ HR.out (by omega)).mono ?_
          rintro r w3 ⟨m, rfl, ht, hw⟩
          obtain rfl := hw.symm
          have hmm : m ≤ q + j + 1 := by have := ht.1; have := HF.out.2.2; omega
          have HA : Hid (RdD w2 a m cp ((ds ++ [c]).take m) ∧ OkD ((ds ++ [c]).take m) ∧ nv ((ds ++ [c]).take m) = nv d1 * p2 n ∧ (m = 0 ∨ ((ds ++ [c]).take m).getD (m - 1) 0 ≠ 0)) := ⟨HR.out.take hmm, HF.out.1.take m, (ht.2.1.trans HF.out.2.1).trans HV.out, trimmed_or ht⟩
          clear ht HF HR HV
          go_wp2
          go_ret
          exact ⟨a, m, cp, _, rfl, HA.out.1, HA.out.2.1, HA.out.2.2.1, by omega, HA.out.2.2.2, hb2⟩
end Go.Proofs.Ytkbeceedafkhcaa
