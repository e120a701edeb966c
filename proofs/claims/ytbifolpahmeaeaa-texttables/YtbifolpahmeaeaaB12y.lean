/- Contract of package text's addChar for any alphabet. -/
import Derived.Test.YtbifolpahmeaeaaB12o
namespace Go.Proofs.Ytbifolpahmeaeaa
open Go.RowKit Go.Maps
set_option maxHeartbeats 1000000
set_option maxRecDepth 100000
set_option linter.unusedVariables false

theorem way_lo (f j m : Nat) (hf : m ≤ f) (hm : ¬ m ≤ 1) (hj : j < m / 2) : way f j m = 0 :: way (f - 1) j (m / 2) := by
  cases f with
  | zero => omega
  | succ f =>
    conv => lhs; unfold way
    rw [if_neg hm, if_pos hj, Nat.add_sub_cancel]
theorem way_hi (f j m : Nat) (hf : m ≤ f) (hm : ¬ m ≤ 1) (hj : ¬ j < m / 2) : way f j m = 1 :: way (f - 1) (j - m / 2) (m - m / 2) := by
  cases f with
  | zero => omega
  | succ f =>
    conv => lhs; unfold way
    rw [if_neg hm, if_neg hj, Nat.add_sub_cancel]
def AcS (B R : Nat) (v : Value) (w : World) (D : List Int × Nat) (N f j m : Nat) (w' : World) : Prop := ∃ (s : List Int × Nat) (v' : Value), s.1.length + m ≤ N ∧ D = (way f j m).foldl stepS s ∧ BRow B w' R v' s.1 s.2 ∧ Fm w w' (fun k => k = R ∨ v.ownBlock = some k) (fun k => k = R ∨ v'.ownBlock = some k)
theorem acs_step (B R : Nat) (v : Value) (w wr : World) (D : List Int × Nat) (N f j m j' m' bit : Nat) (h : AcS B R v w D N f j m wr) (hB : B ≤ w.heap.size) (hN : N ≤ 9000001) (hm : m' < m) (hw : way f j m = bit :: way (f - 1) j' m') (hbit : bit ≤ 1) :
    Calls Try.prog 26 #[.pointer (some ⟨R, 0, none⟩), .int .u8 (bit : Int)] wr fun r w' => r = .returned (.tuple #[]) ∧ Hid (AcS B R v w D N (f - 1) j' m' w') := by
  obtain ⟨s, v', h1, h2, h3, h4⟩ := h
  have hlen := stepB_len s.1 s.2 bit (fun hn => by obtain ⟨ys, z, e, _⟩ := h3.last hn; rw [e]; simp)
  refine (tadd_any B R v' s.1 s.2 bit wr h3 (Nat.le_trans hB h4.size) hbit (by omega)).mono ?_
  rintro r w' ⟨rfl, HV⟩
  obtain ⟨v2, h5, h6⟩ := HV.out
  refine ⟨rfl, hidden ⟨stepS s bit, v2, ?_, ?_, h5, h4.trans h6⟩⟩
  · show (stepB s.1 s.2 bit).length + m' ≤ N
    omega
  · rw [h2, hw, List.foldl_cons]
theorem acs_end (B R : Nat) (v : Value) (w wr : World) (D : List Int × Nat) (N f j m : Nat) (h : AcS B R v w D N f j m wr) (hm : m ≤ 1) : AcRet B w R v D (.returned (.tuple #[])) wr := by
  obtain ⟨s, v', h1, h2, h3, h4⟩ := h
  have hw0 : way f j m = [] := by
    cases f with
    | zero => rfl
    | succ f => unfold way; rw [if_pos hm]
  rw [hw0] at h2
  refine ⟨rfl, v', ?_, h4⟩
  rw [h2]
  exact h3
theorem taddc_any (B R i n : Nat) (v : Value) (zs : List Int) (nx : Nat) (w : World) (h : BRow B w R v zs nx) (hB : B ≤ w.heap.size) (hl : zs.length + n ≤ 9000000) (hi : i < n) :
    Calls Try.prog 25 #[.pointer (some ⟨R, 0, none⟩), .int .i64 i, .int .i64 n] w (AcRet B w R v ((1 :: way n i n).foldl stepS (zs, nx))) := by
  have HA0 := hidden (tadd_any B R v zs nx 1 w h hB (by omega) (by omega))
  have hlen := stepB_len zs nx 1 (fun hn => by obtain ⟨ys, z, e, _⟩ := h.last hn; rw [e]; simp)
  obtain ⟨D, hD⟩ : ∃ D, D = (1 :: way n i n).foldl stepS (zs, nx) := ⟨_, rfl⟩
  rw [← hD]
  have HA1 : Hid (Calls Try.prog 26 #[.pointer (some ⟨R, 0, none⟩), .int .u8 1] w fun r w' => r = .returned (.tuple #[]) ∧ Hid (AcS B R v w D (zs.length + 1 + n) n i n w')) := hidden (HA0.out.mono (by
    rintro r w' ⟨rfl, HV⟩
    obtain ⟨v2, h5, h6⟩ := HV.out
    refine ⟨rfl, hidden ⟨stepS (zs, nx) 1, v2, ?_, ?_, h5, h6⟩⟩
    · show (stepB zs nx 1).length + n ≤ _
      omega
    · rw [hD, List.foldl_cons]))
  obtain ⟨N, hN⟩ : ∃ N, N = zs.length + 1 + n := ⟨_, rfl⟩
  rw [← hN] at HA1
  have hNl : N ≤ 9000001 := by omega
  have hnl : n ≤ 9000000 := by omega
  have HST := hidden (fun wr f j m j' m' bit h => acs_step B R v w wr D N f j m j' m' bit h hB hNl)
  have HEN := hidden (fun wr f j m h => acs_end B R v w wr D N f j m h)
  clear hD HA0 hN hlen h hl
  go_enter Try.func25, Try.ntmps25
  go_upto_region 1 with (first | (go_at_call 26; refine HA1.out.mono ?_; rintro r w1 ⟨rfl, HR1⟩))
  go_loopw [1, 2] (fun vi vn wr => ∃ (f j m : Nat), vi = .int .i64 j ∧ vn = .int .i64 m ∧ j < m ∧ m ≤ n ∧ m ≤ f ∧ Hid (AcS B R v w D N f j m wr)) (fun _ vn _ => (intOf vn).toNat)
  case atStart => exact ⟨n, i, n, rfl, rfl, hi, Nat.le_refl _, Nat.le_refl _, HR1⟩
  case round =>
    obtain ⟨f, j, m, rfl, rfl, hjm, hmn, hmf, HS⟩ := hrel
    clear HR1 HA1
    by_cases hm : m ≤ 1
    · have d1 : ¬ (m : Int) > 1 := by omega
      have HE := hidden (HEN.out wr f j m HS.out hm)
      go_wp2
      refine bodyPost_end (v := .tuple #[]) (by simp [results, Try.results25, go_sem]) rfl HE.out
    · have d1 : (m : Int) > 1 := by omega
      obtain ⟨M2, hM2⟩ : ∃ M2 : Nat, M2 = m / 2 := ⟨_, rfl⟩
      have hq : (m : Int).tdiv 2 = (M2 : Int) := by rw [Int.tdiv_eq_ediv_of_nonneg (by omega)]; omega
      have hM3 : 0 < M2 ∧ M2 < m := by omega
      have HQ := hidden hq
      clear hq
      by_cases hj : j < M2
      · have d2 : (j : Int) < (M2 : Int) := by omega
        have HA2 := hidden (HST.out wr f j m j M2 0 HS.out hM3.2 (by rw [hM2]; exact way_lo f j m hmf hm (by omega)) (by omega))
        rw [show ((0 : Nat) : Int) = 0 from rfl] at HA2
        clear HS HST HEN hM2
        have hq := HQ.out
        go_wp2_with (first | (go_at_call 26; refine HA2.out.mono ?_; rintro r w2 ⟨rfl, HS2⟩))
        go_roundw
        case rel => clear hq; exact ⟨f - 1, j, M2, rfl, rfl, by omega, by omega, by omega, HS2⟩
        case measure => clear hq; simp [intOf]; omega
      · have d2 : ¬ (j : Int) < (M2 : Int) := by omega
        obtain ⟨J, hJ⟩ : ∃ J : Nat, J = j - M2 := ⟨_, rfl⟩
        obtain ⟨K, hK⟩ : ∃ K : Nat, K = m - M2 := ⟨_, rfl⟩
        have W1 : Hid (IntKind.i64.wrap ((j : Int) - (M2 : Int)) = (J : Int)) := hidden <| by rw [IntKind.wrap_i64]; omega
        have W2 : Hid (IntKind.i64.wrap ((m : Int) - (M2 : Int)) = (K : Int)) := hidden <| by rw [IntKind.wrap_i64]; omega
        have HA2 := hidden (HST.out wr f j m J K 1 HS.out (by omega) (by rw [hJ, hK, hM2]; exact way_hi f j m hmf hm (by omega)) (by omega))
        rw [show ((1 : Nat) : Int) = 1 from rfl] at HA2
        have k1 : J < K := by omega
        have k2 : K < m := by omega
        clear HS HST HEN hJ hK hM2
        have w1 := W1.out
        have w2 := W2.out
        have hq := HQ.out
        go_wp2_with (first | (go_at_call 26; refine HA2.out.mono ?_; rintro r w9 ⟨rfl, HS2⟩))
        go_roundw
        case rel => clear hq w1 w2; exact ⟨f - 1, J, K, rfl, rfl, by omega, by omega, by omega, HS2⟩
        case measure => clear hq w1 w2; simp [intOf]; omega
end Go.Proofs.Ytbifolpahmeaeaa
