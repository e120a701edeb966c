/- Layer 12, the document: may it be an alphabet; how many bytes and nodes a list has. -/
import Derived.Test.YtbifolpahmeaeaaR12e
import Derived.Test.YtbifolpahmeaeaaH7r
import Derived.Deep.Cut
import Derived.Deep.RegionHeld3
import Derived.Deep.QuietTactic
import Derived.BigQuiet
namespace Go.Proofs.Ytbifolpahmeaeaa
open Go.RowKit
set_option maxHeartbeats 1000000
set_option maxRecDepth 100000
set_option linter.unusedVariables false

def szL : Nat → List Nat → Nat
  | 0, _ => 1
  | f + 1, l => if l.length = 0 then 1 else if l.length = 1 then (if l.getD 0 0 < 256 then 2 else 5) else 9 + szL f (l.take (l.length / 2)) + szL f (l.drop (l.length / 2))
theorem ndL_sz : ∀ (f T : Nat) (l : List Nat), (ndL f T l).length = szL f l
  | 0, _, _ => rfl
  | f + 1, T, l => by
    have h4 : ∀ x : Int, (putL x 4).length = 4 := fun x => rfl
    unfold ndL szL
    split
    · rfl
    · split
      · split
        · rfl
        · simp [h4]
      · simp only [List.length_append, h4, ndL_sz f, List.length_cons, List.length_nil]
        omega
theorem getD_nodup {A : List Nat} (h : ∀ p q, p < q → q < A.length → A.getD p 0 ≠ A.getD q 0) : A.Nodup := by
  unfold List.Nodup
  rw [List.pairwise_iff_getElem]
  intro i j hi hj hij
  have := h i j hij hj
  simpa [List.getD_eq_getElem?_getD, hi, hj] using this
theorem nodup_getD {A : List Nat} (h : A.Nodup) (p q : Nat) (hpq : p < q) (hq : q < A.length) : A.getD p 0 ≠ A.getD q 0 := by
  unfold List.Nodup at h
  rw [List.pairwise_iff_getElem] at h
  have hp : p < A.length := by omega
  have := h p q hp hq hpq
  simpa [List.getD_eq_getElem?_getD, hp, hq] using this
set_option maxHeartbeats 4000000 in
theorem ralph_any (a : Option Addr) (n c : Nat) (A : List Nat) (w : World) (h : VRow w a n A) (hn : n ≤ 1000) :
    Calls Try.prog 21 #[.slice a n c] w fun e w' => e = .returned (.int .i64 (plE A : Nat)) ∧ Dr w w' := by
  have hl := h.ln
  have g1 : ¬ (1024 : Int) < (n : Int) := by omega
  obtain ⟨E, hE⟩ : ∃ E : Nat, plE A = E := ⟨_, rfl⟩
  rw [hE]
  have HE1 : Hid (A.Nodup → E = 0) := hidden (fun q => by rw [← hE]; unfold plE; rw [if_neg (by omega), if_pos q])
  have HE2 : Hid (¬ A.Nodup → E = 6) := hidden (fun q => by rw [← hE]; unfold plE; rw [if_neg (by omega), if_neg q])
  have HV := hidden h
  have HL := hidden hl
  clear h hl hE
  go_enter Try.func21, Try.ntmps21
  go_upto_region 4 with fail
  go_loopw [3] (fun i wr => ∃ k : Nat, k ≤ n ∧ i = .int .i64 k ∧ Hid (Dr w wr) ∧ Hid (∀ p q, p < q → q < k → A.getD p 0 ≠ A.getD q 0)) (fun i _ => n - (intOf i).toNat)
  case atStart => exact ⟨0, by omega, rfl, hidden (Dr.refl w), hidden (fun p q h1 h2 => by omega)⟩
  case round =>
    obtain ⟨k, hk, rfl, HD, HN⟩ := hrel
    by_cases hlt : k < n
    · have d1 : (k : Int) < (n : Int) := by omega
      have d0 : (0 : Int) ≤ (k : Int) := by omega
      obtain ⟨b, o, rfl, e1⟩ := HV.out.cells k hlt
      have HC : Hid (∀ q, q < n → w.cell? ⟨b, o + q, none⟩ = some (.int .u32 (A.getD q 0 : Nat))) := hidden (fun q hq => by
        obtain ⟨b', o', e, hc⟩ := HV.out.cells q hq
        cases e
        exact hc)
      go_upto_region 7 with fail
      generalize wr = wq at *
      go_loopw [4] (fun j wr => ∃ q : Nat, q ≤ k ∧ j = .int .i64 q ∧ Hid (Dr w wr) ∧ Hid (∀ p, p < q → A.getD p 0 ≠ A.getD k 0)) (fun j _ => k - (intOf j).toNat)
      case atStart => exact ⟨0, by omega, rfl, HD, hidden (fun p h1 => by omega)⟩
      case round =>
        obtain ⟨q, hq, rfl, HD2, HN2⟩ := hrel
        by_cases hlt2 : q < k
        · have d2 : (q : Int) < (k : Int) := by omega
          have d3 : (0 : Int) ≤ (q : Int) := by omega
          have d4 : (q : Int) < (n : Int) := by omega
          have f1 := cellLater HD2.out.below (HC.out k hlt)
          have f2 := cellLater HD2.out.below (HC.out q (by omega))
          clear e1
          by_cases heq : A.getD q 0 = A.getD k 0
          · have HE6 : Hid (E = 6) := hidden (HE2.out (fun hnd => nodup_getD hnd q k hlt2 (by rw [HL.out]; exact hlt) heq))
            rw [heq] at f2
            clear heq HN2 HN HE1 HE2
            generalize A.getD k 0 = X at *
            go_wp2
            go_quiet (fail)
            all_goals (try go_wp2)
            go_ret
            exact ⟨by rw [HE6.out]; rfl, HD2.out.more _⟩
          · have HN3 : Hid (∀ p, p < q + 1 → A.getD p 0 ≠ A.getD k 0) := hidden (fun p hp => by
              by_cases e : p = q
              · rw [e]; exact heq
              · exact HN2.out p (by omega))
            have hb : (((A.getD k 0 : Nat) : Int) == ((A.getD q 0 : Nat) : Int)) = false := beq_eq_false_iff_ne.2 (by omega)
            have hb2 : ¬ ((A.getD k 0 : Nat) : Int) = ((A.getD q 0 : Nat) : Int) := by omega
            clear heq HN2
            generalize A.getD q 0 = Y at *
            generalize A.getD k 0 = X at *
            go_wp2
            go_quiet (fail)
            all_goals (try go_wp2)
            go_roundw
            case rel => exact ⟨q + 1, by omega, by go_num, HD2.out.more _, HN3⟩
            case measure => simp [intOf]; omega
        · obtain rfl : q = k := by omega
          have d2 : ¬ (q : Int) < (q : Int) := by omega
          have HN3 : Hid (∀ p p', p < p' → p' < q + 1 → A.getD p 0 ≠ A.getD p' 0) := hidden (fun p p' h1 h2 => by
            by_cases e : p' = q
            · subst e; exact HN2.out p h1
            · exact HN.out p p' h1 (by omega))
          clear e1 HN2 HN
          go_wp2
          go_roundw
          case rel => exact ⟨q + 1, by omega, by go_num, HD2, HN3⟩
          case measure => simp [intOf]; omega
    · obtain rfl : k = n := by omega
      have d1 : ¬ (k : Int) < (k : Int) := by omega
      have HE0 : Hid (E = 0) := hidden (HE1.out (getD_nodup (fun p q h1 h2 => HN.out p q h1 (by rw [HL.out] at h2; exact h2))))
      clear HN HE1 HE2
      go_wp2
      go_ret
      exact ⟨by rw [HE0.out]; rfl, HD.out⟩
theorem szL_le (f : Nat) (l : List Nat) (h : l.length ≤ f) (hn : l.length ≤ 1000) : szL f l ≤ 14000 ∧ ndN f l ≤ 2000 := by
  by_cases h0 : 0 < l.length
  · have h1 := ndL_le f 0 l h h0
    have h2 := ndN_le f l h h0
    rw [ndL_sz] at h1
    omega
  · have e : l.length = 0 := by omega
    cases f with
    | zero => exact ⟨by show 1 ≤ _; omega, by show 1 ≤ _; omega⟩
    | succ f =>
      unfold szL ndN
      rw [if_pos e, if_pos (by omega)]
      omega
set_option maxHeartbeats 4000000 in
theorem rsize_any : ∀ (f : Nat) (a : Option Addr) (n c : Nat) (l : List Nat) (w : World), n ≤ f → n ≤ c → c ≤ 9223372036854775807 → VRow w a n l → n ≤ 1000 →
    Calls Try.prog 22 #[.slice a n c] w fun e w' => e = .returned (.tuple #[.int .i64 (szL f l : Nat), .int .i64 (ndN f l : Nat)]) ∧ w' = w
  | f, a, n, c, l, w, hf, hcp, hcm, h, hn => by
    have hln := h.ln
    by_cases h0 : n = 0
    · subst h0
      have e1 : szL f l = 1 := by cases f with
        | zero => rfl
        | succ f => unfold szL; rw [if_pos hln]
      have e2 : ndN f l = 1 := by cases f with
        | zero => rfl
        | succ f => unfold ndN; rw [if_pos (by omega)]
      rw [e1, e2]
      clear h hln e1 e2
      go_enter Try.func22, Try.ntmps22
      go_wp2
      go_ret2
      exact ⟨rfl, rfl⟩
    · obtain ⟨f, rfl⟩ : ∃ f', f = f' + 1 := ⟨f - 1, by omega⟩
      obtain ⟨b, o, ha, hc⟩ := h.cells 0 (by omega)
      by_cases h1 : n = 1
      · subst h1
        have e2 : ndN (f + 1) l = 1 := by unfold ndN; rw [if_pos (by omega)]
        have e1 : szL (f + 1) l = if l.getD 0 0 < 256 then 2 else 5 := by unfold szL; rw [if_neg (by omega), if_pos hln]
        rw [e1, e2]
        subst ha
        have hc' : w.cell? ⟨b, o, none⟩ = some (.int .u32 (l.getD 0 0 : Nat)) := hc
        clear h hln e1 e2 hc
        generalize l.getD 0 0 = X at *
        by_cases hX : X < 256
        · rw [if_pos hX]
          have g1 : (X : Int) < 256 := by omega
          go_enter Try.func22, Try.ntmps22
          go_wp2
          go_ret2
          exact ⟨rfl, rfl⟩
        · rw [if_neg hX]
          have g1 : ¬ (X : Int) < 256 := by omega
          go_enter Try.func22, Try.ntmps22
          go_wp2
          go_ret2
          exact ⟨rfl, rfl⟩
      · obtain ⟨M2, hM2⟩ : ∃ M2 : Nat, M2 = n / 2 := ⟨_, rfl⟩
        have hlt : (l.take M2).length = M2 := by rw [List.length_take]; omega
        have hld : (l.drop M2).length = n - M2 := by rw [List.length_drop]; omega
        have e2 : ndN (f + 1) l = 1 + ndN f (l.take M2) + ndN f (l.drop M2) := by
          conv => lhs; unfold ndN
          rw [if_neg (by omega), hln, ← hM2]
        have e1 : szL (f + 1) l = 9 + szL f (l.take M2) + szL f (l.drop M2) := by
          conv => lhs; unfold szL
          rw [if_neg (by omega), if_neg (by omega), hln, ← hM2]
        rw [e1, e2]
        subst ha
        have HL := hidden (rsize_any f _ M2 c _ w (by omega) (by omega) hcm (h.tk M2 (by omega)) (by omega))
        have HR := hidden (rsize_any f _ (n - M2) (c - M2) _ w (by omega) (by omega) (by omega) (h.sub b o M2 rfl (by omega)) (by omega))
        have s1 := szL_le f (l.take M2) (by omega) (by omega)
        have s2 := szL_le f (l.drop M2) (by omega) (by omega)
        have hq : (n : Int).tdiv 2 = (M2 : Int) := by rw [Int.tdiv_eq_ediv_of_nonneg (by omega)]; omega
        have q1 : ((n : Int) == 0) = false := by simp; omega
        have q2 : ((n : Int) == 1) = false := by simp; omega
        have q3 : M2 ≤ n := by omega
        have q4 : M2 ≤ c := by omega
        have q5 : ¬ c = M2 := by omega
        generalize szL f (l.take M2) = S1 at *
        generalize szL f (l.drop M2) = S2 at *
        generalize ndN f (l.take M2) = N1 at *
        generalize ndN f (l.drop M2) = N2 at *
        obtain ⟨s1, s3⟩ := s1
        obtain ⟨s2, s4⟩ := s2
        have HS1 := hidden (show ((9 : Int) + (S1 : Int) + (S2 : Int)) = ((9 + S1 + S2 : Nat) : Int) by omega)
        have HS2 := hidden (show ((1 : Int) + (N1 : Int) + (N2 : Int)) = ((1 + N1 + N2 : Nat) : Int) by omega)
        clear h hln hM2 hlt hld e1 e2 h0 h1 hc
        go_enter Try.func22, Try.ntmps22
        go_wp2_with (first | (go_at_call_of 22 (Value.slice (some ⟨b, o, none⟩) M2 c); refine HL.out.mono ?_; rintro r w1 ⟨rfl, rfl⟩) | (go_at_call_of 22 (Value.slice (some ⟨b, o + M2, none⟩) (n - M2) (c - M2)); refine HR.out.mono ?_; rintro r w1 ⟨rfl, rfl⟩) | fail)
        go_ret2
        exact ⟨by rw [← HS1.out, ← HS2.out]; rfl, rfl⟩
end Go.Proofs.Ytbifolpahmeaeaa
