/- The walk of StackRolls, for every row of words and any two words. -/
import Derived.Test.YthhnloabbmllhaaT10k
namespace Go.Proofs.Ythhnloabbmllhaa
open Go.RowKit
set_option maxHeartbeats 1000000
set_option maxRecDepth 100000
set_option linter.unusedVariables false

theorem rolls_live (a : Option Addr) (len cap n k : Nat) (w : World) (hl : 400 < len) (hl2 : len ≤ 9223372036854775807) :
    Calls Try.prog 4 #[.slice a len cap, .int .u32 n, .int .u32 k] w fun e w' => e = .returned (.bool true) ∧ Below w.heap.size w w' := by
  have d : (len : Int) > 400 := by omega
  have HLV := hidden (live_any w)
  go_enter Try.func4, Try.ntmps4
  go_wp2_with (first | (go_at_call 7; refine HLV.out.mono ?_; rintro e wl ⟨rfl, hbl⟩))
  go_ret
  exact ⟨rfl, hbl⟩
/-- what the law's stack is behind its three rolls -/
structure RollF (xs : List Nat) (n k q : Nat) (S1 S2 S3 : Ks) : Prop where
  ok1 : OkK S1
  ok2 : OkK S2
  ok3 : OkK S3
  e1 : rollE (stR xs) n = 0
  r1 : rollS (stR xs) n k = S1
  e2 : rollE S1 n = 0
  r2 : rollS S1 n q = S2
  e3 : rollE S2 n = 0
  r3 : rollS S2 n n = S3
  b2 : k ≠ 2147483648 → S2.bs = (stR xs).bs
  b3 : k ≠ 2147483648 → S3.bs = (stR xs).bs
theorem roll_e {s : Ks} (n k : Nat) (h : rollE s n = 0) (ok : OkK s) : rollE (rollS s n k) n = 0 := by
  unfold rollS
  split
  · rename_i h0
    have hr := rollR_lt n k (by omega)
    generalize rollR n k = r at *
    obtain ⟨h1, h2⟩ := lack_zero h
    have hb := ok.bd h1
    have hl : (rollL s.bs n r).length = s.bs.length := by unfold rollL; simp; omega
    have hf := (ok.cur h1).fr.bd
    have he : endK { s with bs := rollL s.bs n r } = endK s := by
      unfold endK
      simp only
      rw [← nu_take (zs := s.bs) (k := endK s) ?_ s.fr (by omega)]
      unfold rollL
      rw [List.take_append_of_le_length (by simp; omega), List.take_take, Nat.min_eq_left (by omega)]
    unfold rollE lackE cnt
    rw [he]
    simp only
    rw [hl, if_neg (by rw [h1]; simp), if_neg]
    have : cnt s = (s.bs.length - endK s) / 4 := rfl
    omega
  · exact h
theorem roll_bs {s : Ks} {n k : Nat} (h : rollE s n = 0) (h0 : n ≠ 0) : (rollS s n k).bs = rollL s.bs n (rollR n k) := by
  unfold rollS; rw [if_pos ⟨h, h0⟩]
theorem rollF_of (xs : List Nat) (n k : Nat) (hn : n ≤ xs.length) (hl : xs.length ≤ 400) (hk : k < 4294967296) : ∃ S1 S2 S3, RollF xs n k ((4294967296 - k) % 4294967296) S1 S2 S3 := by
  have ok0 := stR_ok xs (by omega)
  have e0 : rollE (stR xs) n = 0 := by unfold rollE; rw [stR_lack, if_neg (by omega)]
  have e1 := roll_e n k e0 ok0
  have ok1 := ok_roll ok0 n k
  have e2 := roll_e n ((4294967296 - k) % 4294967296) e1 ok1
  have ok2 := ok_roll ok1 n ((4294967296 - k) % 4294967296)
  have ok3 := ok_roll ok2 n n
  have hL := stR_len xs
  have hb2 : k ≠ 2147483648 → (rollS (rollS (stR xs) n k) n ((4294967296 - k) % 4294967296)).bs = (stR xs).bs := fun hne => by
    by_cases h0 : n = 0
    · subst h0
      simp [rollS]
    · rw [roll_bs e1 h0, roll_bs e0 h0]
      rcases rollR_neg n k (by omega) hk hne with h | h
      · have h1 : rollR n k = 0 := by omega
        have h2 : rollR n ((4294967296 - k) % 4294967296) = 0 := by omega
        rw [h1, h2, rollL_zero (stR xs).bs n (by omega), rollL_zero (stR xs).bs n (by omega)]
      · exact rollL_back _ _ _ _ (by omega) h
  refine ⟨_, _, _, ok1, ok2, ok3, e0, rfl, e1, rfl, e2, rfl, hb2, fun hne => ?_⟩
  have h2 := hb2 hne
  generalize rollS (rollS (stR xs) n k) n ((4294967296 - k) % 4294967296) = S2 at *
  unfold rollS
  split
  · rename_i h
    simp only
    rw [rollR_self n (by omega) (by omega), rollL_zero _ _ (by rw [h2]; omega), h2]
  · exact h2
set_option maxHeartbeats 2000000 in
theorem rolls_under (a : Option Addr) (len cap n k : Nat) (xs : List Nat) (w : World) (hv : VRow w a len xs) (hc : len ≤ cap) (hl : len ≤ 400) (hn : n < 4294967296) (hk : k < 4294967296) (hnl : ¬ n ≤ len) :
    Calls Try.prog 4 #[.slice a len cap, .int .u32 n, .int .u32 k] w fun e w' => e = .returned (.bool true) ∧ Below w.heap.size w w' := by
  have d : ¬ (len : Int) > 400 := by omega
  have hxl := hv.ln
  have HBG := hidden (begin_nil w)
  have HV := hidden hv
  have HPU : Hid (∀ (w1 : World) (m j : Nat), j < len → RunK w.heap.size m w w1 (stR (xs.take j)) → Calls Try.prog 12 #[.pointer (some ⟨m, 0, none⟩), .int .u32 (xs.getD j 0 : Nat)] w1 fun e w' => e = .returned (.int .i64 0) ∧ Hid (RunK w.heap.size m w w' (stR (xs.take (j + 1))))) := fun w1 m j hj r => by
    have hjl : (xs.take j).length = j := by simp; omega
    have := RunK.push r (stR_ok (xs.take j) (by omega)) (xs.getD j 0) (hv.bd _ (by rw [List.getD_eq_getElem?_getD]; simp [show j < xs.length by omega]))
    rw [stR_pushE _ (by omega), stR_push _ _ (by omega)] at this
    have e : xs.take j ++ [xs.getD j 0] = xs.take (j + 1) := by
      rw [List.take_succ_eq_append_getElem (by omega)]
      simp [List.getD_eq_getElem?_getD, show j < xs.length by omega]
    rw [e] at this
    exact this
  have HLV : Hid (∀ w1 m s gs, RunG w.heap.size m w w1 s gs → Calls Try.prog 7 #[] w1 fun e w' => e = .returned (.bool true) ∧ Below w.heap.size w w') := fun w1 m s gs r => (live_any w1).mono (fun e w' hh => ⟨hh.1, by
    obtain ⟨_, _, hb, hB, _⟩ := r
    exact hb.trans (hh.2.mono hB)⟩)
  have HBY : Hid (∀ w1 m s gs, RunG w.heap.size m w w1 s gs → OkK s → Calls Try.prog 13 #[.pointer (some ⟨m, 0, none⟩)] w1 fun e w' => ∃ a' l' c' gs', e = .returned (.slice a' l' c') ∧ Hid (RowIn w' a' l' c' s.bs gs') ∧ Hid (RunG w.heap.size m w w' s gs') ∧ Hid (∀ a2 l2 c2 zs2, RowIn w1 a2 l2 c2 zs2 gs → RowIn w' a2 l2 c2 zs2 gs')) := fun w1 m s gs r ok => (RunG.bytes r ok).mono (fun e w' hh => by
    obtain ⟨a', c', gs', he, h1, h2, h3, h4⟩ := hh
    exact ⟨a', _, c', gs', he, h1, h2, fun a2 l2 c2 zs2 h5 => (h5.kept h4).wide h3⟩)
  have HRO : Hid (∀ (w1 : World) (m : Nat) (s s' : Ks) (gs : List Nat) (q : Nat), q < 4294967296 → RunG w.heap.size m w w1 s gs → OkK s → rollE s n = 0 → rollS s n q = s' → Calls Try.prog 14 #[.pointer (some ⟨m, 0, none⟩), .int .u32 n, .int .u32 q] w1 fun e w' => e = .returned (.int .i64 0) ∧ Hid (RunG w.heap.size m w w' s' gs) ∧ Hid (∀ a2 l2 c2 zs2, RowIn w1 a2 l2 c2 zs2 gs → RowIn w' a2 l2 c2 zs2 gs)) := fun w1 m s s' gs q hq r ok h0 hs => by
    have := RunG.roll r ok n q hn hq
    rw [h0, hs] at this
    exact this.mono (fun e w' hh => ⟨hh.1, hh.2.1, fun a2 l2 c2 zs2 h5 => h5.kept hh.2.2⟩)
  have HSE : Hid (∀ (w1 : World) (a1 : Option Addr) (l1 c1 : Nat) (a2 : Option Addr) (l2 c2 : Nat) (zs : List Int) (gs gs2 : List Nat), OkB zs → RowIn w1 a1 l1 c1 zs gs → RowIn w1 a2 l2 c2 zs gs2 → Calls Try.prog 15 #[.slice a1 l1 c1, .slice a2 l2 c2] w1 fun e w' => e = .returned (.bool true) ∧ w' = w1) := fun w1 a1 l1 c1 a2 l2 c2 zs gs gs2 ho h1 h2 => same_eq a1 a2 l1 c1 l2 c2 zs w1 ho h1.1 h2.1
  have HSS : Hid (∀ (w1 : World) (a1 : Option Addr) (l1 c1 : Nat) (a2 : Option Addr) (l2 c2 : Nat) (zs ys : List Int) (gs gs2 : List Nat), OkB zs → OkB ys → zs ≠ ys → RowIn w1 a1 l1 c1 zs gs → RowIn w1 a2 l2 c2 ys gs2 → Calls Try.prog 15 #[.slice a1 l1 c1, .slice a2 l2 c2] w1 fun e w' => e = .returned (.bool false) ∧ w' = w1) := fun w1 a1 l1 c1 a2 l2 c2 zs ys gs gs2 ho hy hne h1 h2 => same_ne a1 a2 l1 c1 l2 c2 zs ys w1 ho hy h1.1 h2.1 hne
  have hok := hidden (stR_ok xs (by omega))
  go_enter Try.func4, Try.ntmps4
  go_wp2_with (first | (go_at_call 11; refine HBG.out.mono ?_; rintro e w1 ⟨m, rfl, r1⟩; have R1 := hidden r1; clear r1))
  go_loopw [8] (fun i wr => ∃ j : Nat, j ≤ len ∧ i = .int .i64 j ∧ Hid (RunK w.heap.size m w wr (stR (xs.take j)))) (fun i _ => len - (intOf i).toNat)
  case atStart => exact ⟨0, by omega, rfl, by rw [List.take_zero, stR_nil]; exact R1⟩
  case round =>
    clear R1
    obtain ⟨j, hj, rfl, RK⟩ := hrel
    by_cases hlt : j < len
    · have d1 : (j : Int) < (len : Int) := by omega
      have HP := hidden (HPU.out wr m j hlt RK.out)
      obtain ⟨b, o, rfl, hcell⟩ := HV.out.cells j hlt
      have hcl : wr.cell? ⟨b, o + j, none⟩ = some (.int .u32 (xs.getD j 0 : Nat)) := by
        obtain ⟨_, _, hb, _⟩ := RK.out
        exact cellLater hb hcell
      generalize xs.getD j 0 = x at *
      clear hcell HPU HLV HBY HRO HSE HSS HV hxl hv
      go_wp2_with (first | (go_at_call 12; refine HP.out.mono ?_; rintro e w2 ⟨rfl, r2⟩) | (go_at_call 10; refine (num10 _ _).mono ?_; rintro e wn ⟨rfl, rfl⟩))
      go_roundw
      case rel => exact ⟨j + 1, by omega, int_eq (by omega), r2⟩
      case measure => simp [intOf]; omega
    · obtain rfl : j = len := by omega
      have d1 : ¬ (j : Int) < (j : Int) := by omega
      rw [List.take_of_length_le (by omega)] at RK
      have RG := hidden (RunG.of RK.out)
      clear HPU RK
      have hw1 : IntKind.u64.wrap (n : Int) = (n : Int) := by rw [IntKind.wrap_u64]; omega
      have hw2 : IntKind.u64.wrap (j : Int) = (j : Int) := by rw [IntKind.wrap_u64]; omega
      have dn : (n : Int) > (j : Int) := by omega
      have hre : rollE (stR xs) n = 101 := by unfold rollE; rw [stR_lack, if_pos (by omega)]
      have hrs : rollS (stR xs) n k = stR xs := by unfold rollS; rw [if_neg (by omega)]
      have HR1 : Hid (∀ w1 m gs, RunG w.heap.size m w w1 (stR xs) gs → Calls Try.prog 14 #[.pointer (some ⟨m, 0, none⟩), .int .u32 n, .int .u32 k] w1 fun e w' => e = .returned (.int .i64 101) ∧ Hid (RunG w.heap.size m w w' (stR xs) gs) ∧ Hid (∀ a2 l2 c2 zs2, RowIn w1 a2 l2 c2 zs2 gs → RowIn w' a2 l2 c2 zs2 gs)) := fun w1 m gs r => by
        have := RunG.roll r hok.out n k hn hk
        rw [hre, hrs] at this
        exact this.mono (fun e w' hh => ⟨hh.1, hh.2.1, fun a2 l2 c2 zs2 h5 => h5.kept hh.2.2⟩)
      have HB1 := hidden fun w1 m gs (r : RunG w.heap.size m w w1 (stR xs) gs) => HBY.out w1 m _ gs r hok.out
      have HS2 := hidden fun (w1 : World) (a1 : Option Addr) (l1 c1 : Nat) (a2 : Option Addr) (l2 c2 : Nat) (gs gs2 : List Nat) (q1 : RowIn w1 a1 l1 c1 (stR xs).bs gs) (q2 : RowIn w1 a2 l2 c2 (stR xs).bs gs2) => HSE.out w1 a1 l1 c1 a2 l2 c2 _ gs gs2 hok.out.okb q1 q2
      clear HBY HRO HSS HSE hre hrs HV
      go_wp2_with (first | (go_at_call 10; refine (num10 _ _).mono ?_; rintro e wn ⟨rfl, rfl⟩) | (go_at_call 14; (with_reducible refine (HR1.out _ _ _ r2.out).mono ?_); rintro e w3 ⟨rfl, r3, t3⟩; have RW3 := hidden (t3.out _ _ _ _ RW2.out)) | (go_at_call 13; (with_reducible refine (HB1.out _ _ _ r3.out).mono ?_); rintro e w6 ⟨a6, l6, c6, gs6, rfl, q6, r6, t6⟩; have RW6 := hidden (t6.out _ _ _ _ RW3.out)) | (go_at_call 13; (with_reducible refine (HB1.out _ _ _ RG.out).mono ?_); rintro e w2 ⟨a2, l2, c2, gs2, rfl, RW2, r2, t2⟩) | (go_at_call 15; (with_reducible refine (HS2.out _ _ _ _ _ _ _ _ _ q6.out RW6.out).mono ?_); rintro e ws ⟨rfl, rfl⟩) | (go_at_call 7; (with_reducible refine (HLV.out _ _ _ _ r6.out).mono ?_); rintro e wl ⟨rfl, hbl⟩))
      go_ret
      exact ⟨rfl, hbl⟩
end Go.Proofs.Ythhnloabbmllhaa
