/- Layer 14, the program: a window is opened beside another one. -/
import Derived.Test.YtilfgbcbodjegaaP14g
namespace Go.Proofs.Ytilfgbcbodjegaa
open Go.RowKit
set_option maxHeartbeats 1000000
set_option maxRecDepth 100000
set_option linter.unusedVariables false

set_option maxHeartbeats 8000000 in
theorem open_split {B m : Nat} {v : Value} {s : Ps} {w : World} (h : PAt B w m v s) (ho : OkL s) (hpar : ParOk s) (hB : B ≤ w.heap.size) (hl1 : s.last ≤ 90000) (split method size kind : Int) (h0 : split ≠ 0) (hm0 : -9223372036854775808 ≤ method) (hm1 : method ≤ 9223372036854775807) (hE : mayE s split method kind = 0) :
    Calls Try.prog 19 #[.pointer (some ⟨m, 0, none⟩), .int .i64 split, .int .i64 method, .int .u32 size, .int .i64 kind] w (OpR B m v w (openS s split method size kind) (s.last + 1)) := by
  have HM := hidden (mayOpen_any h ho.toOkP split method kind hm0 hm1)
  rw [hE] at HM
  have l0 := ho.l0
  have l1 := ho.l1
  obtain ⟨hhas, hmt, hlen⟩ : hasW s.L split ∧ mtdB method = true ∧ s.L.length ≤ 62 := by
    unfold mayE at hE
    split at hE
    · omega
    · (try rw [if_neg h0] at hE)
      split at hE
      · omega
      · rename_i q1
        split at hE
        · omega
        · rename_i q2
          split at hE
          · omega
          · rename_i q3
            exact ⟨hasB_iff.1 (by simpa using q1), by simpa using q2, by omega⟩
  obtain ⟨s1, hs1⟩ : ∃ s1, addS s ⟨0, kind, 0, 0, 0, 0, 0, 0⟩ = s1 := ⟨_, rfl⟩
  obtain ⟨s2, hs2⟩ : ∃ s2, addS s1 ⟨0, 4, 0, 0, 0, method, size, s.last + 1⟩ = s2 := ⟨_, rfl⟩
  have e1 : s1.last = s.last + 1 := by rw [← hs1]; rfl
  have e2 : s2.L = (s.L ++ [⟨s.last + 1, kind, 0, 0, 0, 0, 0, 0⟩]) ++ [⟨s.last + 2, 4, 0, 0, 0, method, size, s.last + 1⟩] := by
    rw [← hs2, ← hs1]
    show (s.L ++ _) ++ [_] = _
    have : s.last + 1 + 1 = s.last + 2 := by omega
    simp only [addS, this]
  have ho1 : OkL s1 := by rw [← hs1]; exact add_ok ho _ (by omega) (by omega)
  have hl1' : s1.L.length = s.L.length + 1 := by rw [← hs1]; simp [addS]
  have ho2 : OkL s2 := by rw [← hs2]; exact add_ok ho1 _ (by omega) (by omega)
  have hsp2 : hasW s2.L split := by rw [e2]; exact has_app (has_app hhas)
  have hof2 : ∀ x, hasW s.L x → ofW s2.L x = ofW s.L x := fun x hx => by rw [e2, of_app (has_app hx), of_app hx]
  have hpr2 : hasW s2.L (s.last + 2) := by rw [e2]; exact ⟨_, List.mem_append_right _ (List.mem_singleton.2 rfl), rfl⟩
  have hwn2 : hasW s2.L (s.last + 1) := by rw [e2]; exact ⟨_, List.mem_append_left _ (List.mem_append_right _ (List.mem_singleton.2 rfl)), rfl⟩
  have hmpr : (ofW s2.L (s.last + 2)).m = method := by
    rw [e2, of_last (K := []) (d := ⟨s.last + 2, 4, 0, 0, 0, method, size, s.last + 1⟩) (fun d hd => ?_) rfl]
    rcases List.mem_append.1 hd with q | q
    · have := ho.top d q
      show d.n ≠ s.last + 2
      omega
    · simp at q; subst q; show s.last + 1 ≠ s.last + 2; omega
  have HA1 : Hid (∀ w1, Below w.heap.size w w1 → Calls Try.prog 39 #[.pointer (some ⟨m, 0, none⟩), .agg #[.int .i64 0, .int .i64 kind, .int .i64 0, .int .i64 0, .int .i64 0, .int .i64 0, .int .u32 0, .int .i64 0]] w1 fun e w' => e = .returned (.int .i64 (s.last + 1)) ∧ Hid (∃ v', PAt B w' m v' s1 ∧ Fm w w' (TP m v) (TP m v'))) := hidden (fun w1 hb => (add_any (h.later hb) (Nat.le_trans hB hb.size) ⟨l0, by omega⟩ (by omega) ⟨0, kind, 0, 0, 0, 0, 0, 0⟩).mono (fun e w' hh => ⟨hh.1, hidden (by
    obtain ⟨v', g1, g2⟩ := hh.2
    rw [← hs1]
    exact ⟨v', g1, (Fm.same hb).trans g2⟩)⟩))
  have HA2 : Hid (∀ w1 v1, PAt B w1 m v1 s1 → Fm w w1 (TP m v) (TP m v1) → Calls Try.prog 39 #[.pointer (some ⟨m, 0, none⟩), .agg #[.int .i64 0, .int .i64 4, .int .i64 0, .int .i64 0, .int .i64 0, .int .i64 method, .int .u32 size, .int .i64 (s.last + 1)]] w1 fun e w' => e = .returned (.int .i64 (s.last + 2)) ∧ Hid (∃ v', PAt B w' m v' s2 ∧ Fm w w' (TP m v) (TP m v'))) := hidden (fun w1 v1 h1 f1 => (add_any h1 (Nat.le_trans hB f1.size) ⟨ho1.l0, by have := ho1.l1; omega⟩ (by omega) ⟨0, 4, 0, 0, 0, method, size, s.last + 1⟩).mono (fun e w' hh => ⟨by rw [hh.1, e1]; congr 2; omega, hidden (by
    obtain ⟨v', g1, g2⟩ := hh.2
    rw [← hs2]
    exact ⟨v', g1, f1.trans g2⟩)⟩))
  have HPU : Hid (∀ w1 v1, PAt B w1 m v1 s2 → Fm w w1 (TP m v) (TP m v1) → Calls Try.prog 40 #[.pointer (some ⟨m, 0, none⟩), .int .i64 split, .int .i64 (s.last + 2)] w1 fun e w' => e = .returned (.tuple #[]) ∧ Hid (PAt B w' m v1 (putS s2 split (s.last + 2)) ∧ Fm w w' (TP m v) (TP m v1))) := hidden (fun w1 v1 h1 f1 => (putAt_any h1 ho2.toOkP split (s.last + 2) hpr2 (fun q => by
    rw [hof2 split hhas] at q ⊢
    obtain ⟨a1, a2⟩ := hpar.of ho.toOkP split hhas q
    rw [hof2 _ a1]
    exact ⟨by rw [e2]; exact has_app (has_app a1), a2⟩)).mono (fun e w' hh => ⟨hh.1, hidden ⟨hh.2.1, f1.trans hh.2.2⟩⟩))
  have HJO : Hid (∀ w1 v1, PAt B w1 m v1 (putS s2 split (s.last + 2)) → Fm w w1 (TP m v) (TP m v1) → Calls Try.prog 41 #[.pointer (some ⟨m, 0, none⟩), .int .i64 (s.last + 2), .int .i64 (s.last + 1), .int .i64 split] w1 fun e w' => e = .returned (.tuple #[]) ∧ Hid (OpR B m v w (openS s split method size kind) (s.last + 1) (.returned (.tuple #[.int .i64 (s.last + 1), .int .i64 0])) w')) := hidden (fun w1 v1 h1 f1 => (join_any h1 (put_ok ho2.toOkP _ _) (s.last + 2) (s.last + 1) split ((put_has _ _ _).2 hpr2) ((put_has _ _ _).2 hwn2) ((put_has _ _ _).2 hsp2) (by rw [put_m _ _ _ hpr2, hmpr]; exact hmt)).mono (fun e w' hh => ⟨hh.1, hidden ⟨rfl, v1, by
    have e : openS s split method size kind = joinS (putS s2 split (s.last + 2)) (s.last + 2) (s.last + 1) split := by
      unfold openS
      rw [if_neg h0, hs1, hs2]
    rw [e]
    exact hh.2.1, f1.trans hh.2.2⟩⟩))
  generalize hPQ : OpR B m v w (openS s split method size kind) (s.last + 1) = PQ at *
  generalize putS s2 split (s.last + 2) = S3 at *
  generalize s.last + 1 = LW at *
  generalize s.last + 2 = LP at *
  have q0 : (split == 0) = false := by simp [h0]
  clear h ho hpar hE hPQ hs1 hs2 e1 e2 ho1 ho2 hl1' hsp2 hof2 hpr2 hwn2 hmpr hhas hmt h0
  go_enter Try.func19, Try.ntmps19
  go_upto_region 5 with (first | (go_at_call 38; refine HM.out.mono ?_; rintro e w1 ⟨rfl, hb1⟩; have HB1 := hidden hb1; clear hb1) | (go_at_call 39; refine (HA1.out _ HB1.out).mono ?_; rintro e w2 ⟨rfl, HQ⟩) | fail)
  obtain ⟨v2, h2, f2⟩ := HQ.out
  have HC2 := hidden (HA2.out _ _ h2 f2)
  clear h2 f2 HQ HA1 HA2 HM
  go_upto_region 9 with (first | (go_at_call 39; refine HC2.out.mono ?_; rintro e w3 ⟨rfl, HQ⟩) | fail)
  obtain ⟨v3, h3, f3⟩ := HQ.out
  have HC3 := hidden (HPU.out _ _ h3 f3)
  clear h3 f3 HQ HC2
  go_upto_region 10 with (first | (go_at_call 40; refine HC3.out.mono ?_; rintro e w4 ⟨rfl, HQ⟩) | fail)
  have HC4 := hidden (HJO.out _ _ HQ.out.1 HQ.out.2)
  clear HQ HC3
  go_wp2_with (first | (go_at_call 41; refine HC4.out.mono ?_; rintro e w5 ⟨rfl, HQ⟩) | fail)
  exact HQ.out
end Go.Proofs.Ytilfgbcbodjegaa
