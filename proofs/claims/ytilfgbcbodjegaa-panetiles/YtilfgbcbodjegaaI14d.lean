/- Layer 14: the windows behind the document's Open and Close. -/
import Derived.Test.YtilfgbcbodjegaaI14c
namespace Go.Proofs.Ytilfgbcbodjegaa
open Go.RowKit
set_option maxHeartbeats 1000000
set_option maxRecDepth 100000
set_option linter.unusedVariables false

/-- what the document's Open appends, turns and tells its parent -/
def dopnP (s : Ps) (split m sz : Int) : Wd := ⟨s.last + 2, 4, 0, if m % 2 = 0 then s.last + 1 else split, if m % 2 = 0 then split else s.last + 1, m, sz, s.last + 1⟩
def parX (split LP : Int) (d : Wd) : Wd := if d.n = split then parF LP d else d
theorem parX_n (split LP : Int) (d : Wd) : (parX split LP d).n = d.n := by unfold parX; split <;> rfl
theorem dopn_list {s : Ps} (h : Iv s) (split m sz k : Int) (hx : hasW s.L split) : ((s.L ++ [opnW s k, dopnP s split m sz]).map (turnF (ofW s.L split).p split (s.last + 2))).map (parX split (s.last + 2)) = opnL s split m sz k := by
  have l0 := h.l0
  have t1 : ∀ d ∈ s.L, d.n ≠ s.last + 1 ∧ d.n ≠ s.last + 2 ∧ d.n ≠ 0 := fun d hd => by have := h.top d hd; have := h.pos d hd; omega
  have tx := h.top' hx
  have px := h.pos' hx
  have hsq := rank_up h split hx
  have hq : (ofW s.L split).p ≤ s.last := by
    by_cases q0 : (ofW s.L split).p = 0
    · omega
    · exact h.top' (h.par split hx q0).1
  obtain ⟨q, hqe⟩ : ∃ q, (ofW s.L split).p = q := ⟨_, rfl⟩
  unfold opnL
  rw [hqe] at hq hsq ⊢
  have n1 : ¬ s.last + 1 = s.last + 2 := by omega
  have n3 : ¬ s.last + 1 = split := by omega
  have n4 : ¬ s.last + 2 = split := by omega
  have n7 : ¬ s.last + 1 = q := by omega
  have n8 : ¬ s.last + 2 = q := by omega
  rw [List.map_append, List.map_append, List.map_map]
  congr 1
  · refine List.map_congr_left fun d hd => ?_
    have d1 := (t1 d hd).2.1
    have d0 := (t1 d hd).2.2
    simp only [Function.comp]
    unfold parX opnF turnF parF kidF
    by_cases e : d.n = split
    · by_cases e2 : d.n = q
      · exact absurd (by rw [← e2, e]) (hsq (by omega))
      · simp only [e, if_true]
        have e3 : ¬ split = q := by rw [← e]; exact e2
        simp [e3]
    · simp only [e, if_false, d1]
      by_cases e2 : d.n = q
      · have q0 : q ≠ 0 := by omega
        simp only [e2]
        by_cases e3 : d.a = split
        · simp [e3, q0]
        · by_cases e4 : d.b = split
          · simp [e3, e4, q0]
          · simp [e3, e4]
            rw [← e2]
      · simp [e2]
  · unfold opnW dopnP opnP turnF parX parF
    simp [n1, n3, n4, n7, n8, hqe]
theorem dcls_list {s : Ps} (h : Iv s) (x : Int) : ((clsT s x).filter (fun d => !gnB s x d.n)).map (fun d => if hasB ((clsT s x).filter (fun d => !gnB s x d.n)) d.key = false then { d with key := 0 } else d) = clsL s x := by
  have ht : ∀ y, hasW (clsT s x) y ↔ hasW s.L y := fun y => by
    unfold clsT
    split
    · exact Iff.rfl
    · exact map_has _ (turnF_n _ _ _)
  have hk : ∀ d ∈ clsT s x, d.key = 0 ∨ hasW s.L d.key := fun d hd => by
    unfold clsT at hd
    split at hd
    · have := h.ky d.n (has_mem hd)
      rw [of_self h.so hd] at this
      exact this
    · obtain ⟨d', hd', rfl⟩ := List.mem_map.1 hd
      have := h.ky d'.n (has_mem hd')
      rw [of_self h.so hd'] at this
      exact this
  unfold clsL
  refine List.map_congr_left fun d hd => ?_
  have hd1 := (List.mem_filter.1 hd).1
  unfold keyG
  rcases hk d hd1 with e | e
  · have hz : gnB s x d.key = false := by rw [e]; exact h.gn_zero x
    have he : ({ d with key := 0 } : Wd) = d := by rw [← e]
    rw [if_neg (show ¬ gnB s x d.key = true by rw [hz]; simp), he]
    split <;> rfl
  · by_cases g : gnB s x d.key = true
    · have hb : hasB ((clsT s x).filter (fun d => !gnB s x d.n)) d.key = false := hasB_no.2 (fun d' hd' e' => by
        have := (List.mem_filter.1 hd').2
        rw [e', g] at this
        simp at this)
      rw [if_pos hb, if_pos g]
    · have hb : hasB ((clsT s x).filter (fun d => !gnB s x d.n)) d.key = true := hasB_iff.2 ((filter_has (gnB s x)).2 ⟨(ht _).2 e, by simpa using g⟩)
      rw [if_neg (show ¬ hasB ((clsT s x).filter (fun d => !gnB s x d.n)) d.key = false by rw [hb]; simp), if_neg g]
end Go.Proofs.Ytilfgbcbodjegaa
