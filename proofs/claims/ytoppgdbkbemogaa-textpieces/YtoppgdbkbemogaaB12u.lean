/- Plain with a greater most; Plain's pieces: lists. -/
import Derived.Test.YtoppgdbkbemogaaB12s
namespace Go.Proofs.Ytoppgdbkbemogaa
open Go.RowKit
set_option maxHeartbeats 1000000
set_option maxRecDepth 100000
set_option linter.unusedVariables false

/-- what is told begins with what was told -/
theorem plrun_pre {N : Ta → Nx} {most : Nat} {l : List Nat} {t : Ta} {em : Nat} {r : List Nat} {wh : Bool} (h : PlRun N most l t em r wh 0) : ∃ s, r = l ++ s := by
  generalize he : 0 = e at h
  induction h with
  | out h1 => exact ⟨[], by simp⟩
  | err h1 h2 => exact absurd he.symm h2
  | fin h1 h2 h3 => exact ⟨[], by simp⟩
  | full h1 h2 h3 h4 => exact ⟨[], by simp⟩
  | ref h1 h2 h3 h4 h5 => omega
  | cut h1 h2 h3 h4 h5 h6 => exact ⟨_, rfl⟩
  | emp h1 h2 h3 h4 h5 h6 h7 h8 ih => exact ih he
  | more h1 h2 h3 h4 h5 h6 h7 h8 ih =>
    obtain ⟨s, hs⟩ := ih he
    exact ⟨_, by rw [hs, List.append_assoc]⟩
theorem plrun_head {N : Ta → Nx} {m : Nat} {l : List Nat} {t : Ta} {em : Nat} {r : List Nat} {wh : Bool} (h : PlRun N m l t em r wh 0) (h1 : em ≤ 256) (h2 : (N t).e = 0) (h3 : (N t).k ≠ 1) (h4 : l.length ≠ m) (h5 : (N t).k ≠ 3) :
    (m < l.length + (N t).cs.length ∧ r = l ++ (N t).cs.take (m - l.length)) ∨ ∃ s, r = l ++ (N t).cs ++ s := by
  generalize he : 0 = e at h
  cases h with
  | out g1 => omega
  | err g1 g2 => exact absurd h2 g2
  | fin g1 g2 g3 => exact absurd g3 h3
  | full g1 g2 g3 g4 => exact absurd g4 h4
  | ref g1 g2 g3 g4 g5 => exact absurd g5 h5
  | cut g1 g2 g3 g4 g5 g6 => exact .inl ⟨g6, rfl⟩
  | emp g1 g2 g3 g4 g5 g6 g7 g8 =>
    subst he
    obtain ⟨s, hs⟩ := plrun_pre g8
    exact .inr ⟨s, by rw [hs, List.eq_nil_of_length_eq_zero g7]; simp⟩
  | more g1 g2 g3 g4 g5 g6 g7 g8 =>
    subst he
    obtain ⟨s, hs⟩ := plrun_pre g8
    exact .inr ⟨s, hs⟩
/-- with a greater most it goes on -/
theorem plrun_more {N : Ta → Nx} {most more : Nat} {l : List Nat} {t : Ta} {em : Nat} {r : List Nat} {wh : Bool} {e : Nat} (h : PlRun N most l t em r wh e) : ∀ {r2 wh2 e2}, PlRun N (most + more) l t em r2 wh2 e2 → l.length ≤ most →
    (e ≠ 0 → r = [] ∧ wh = false ∧ e = e2) ∧ (e = 0 → e2 = 0 → (∃ s, r2 = r ++ s) ∧ (wh = true → wh2 = true ∧ r2 = r)) := by
  induction h with
  | out h1 =>
    intro r2 wh2 e2 h' hl
    cases h' <;> first | omega | exact ⟨fun h => absurd rfl h, fun _ _ => ⟨⟨[], by simp⟩, fun h => by simp at h⟩⟩
  | err h1 h2 =>
    intro r2 wh2 e2 h' hl
    cases h' <;> first | omega | exact ⟨fun _ => ⟨rfl, rfl, rfl⟩, fun h => absurd h h2⟩
  | fin h1 h2 h3 =>
    intro r2 wh2 e2 h' hl
    cases h' <;> first | omega | exact ⟨fun h => absurd rfl h, fun _ _ => ⟨⟨[], by simp⟩, fun _ => ⟨rfl, rfl⟩⟩⟩
  | full h1 h2 h3 h4 =>
    intro r2 wh2 e2 h' hl
    refine ⟨fun h => absurd rfl h, fun _ h0 => ⟨?_, fun h => by simp at h⟩⟩
    subst h0
    exact plrun_pre h'
  | ref h1 h2 h3 h4 h5 =>
    intro r2 wh2 e2 h' hl
    cases h' <;> first | omega | exact ⟨fun _ => ⟨rfl, rfl, rfl⟩, fun h => by simp at h⟩
  | @cut l t em h1 h2 h3 h4 h5 h6 =>
    intro r2 wh2 e2 h' hl
    refine ⟨fun h => absurd rfl h, fun _ h0 => ⟨?_, fun h => by simp at h⟩⟩
    subst h0
    rcases plrun_head h' h1 h2 h3 (by omega) h5 with ⟨g1, g2⟩ | ⟨s, hs⟩
    · refine ⟨((N t).cs.drop (most - l.length)).take more, ?_⟩
      rw [g2, List.append_assoc, show most + more - l.length = (most - l.length) + more by omega, List.take_add]
    · refine ⟨(N t).cs.drop (most - l.length) ++ s, ?_⟩
      rw [hs, List.append_assoc, List.append_assoc, ← List.append_assoc ((N t).cs.take _), List.take_append_drop]
  | emp h1 h2 h3 h4 h5 h6 h7 h8 ih =>
    intro r2 wh2 e2 h' hl
    cases h' with
    | emp g1 g2 g3 g4 g5 g6 g7 g8 => exact ih g8 hl
    | _ => omega
  | more h1 h2 h3 h4 h5 h6 h7 h8 ih =>
    intro r2 wh2 e2 h' hl
    cases h' with
    | more g1 g2 g3 g4 g5 g6 g7 g8 => exact ih g8 (by simp; omega)
    | _ => omega
theorem plr_more {zs : List Int} {table addr most more : Nat} {r r2 : List Nat} {wh wh2 : Bool} {e e2 : Nat} (h : PlR zs table addr most r wh e) (h2 : PlR zs table addr (most + more) r2 wh2 e2) :
    (e ≠ 0 → r = [] ∧ wh = false ∧ e = e2) ∧ (e = 0 → e2 = 0 → (∃ s, r2 = r ++ s) ∧ (wh = true → wh2 = true ∧ r2 = r)) := by
  rcases h with ⟨h1, rfl, rfl, rfl⟩ | ⟨h1, h3⟩
  · rcases h2 with ⟨h4, rfl, rfl, rfl⟩ | ⟨h4, _⟩
    · exact ⟨fun _ => ⟨rfl, rfl, rfl⟩, fun h => absurd h h1⟩
    · exact absurd h4 h1
  · rcases h2 with ⟨h4, _⟩ | ⟨h4, h5⟩
    · exact absurd h1 h4
    · exact plrun_more h3 h5 (by simp)
/-- the next piece of a text of which not all characters are told yet -/
theorem plrun_next {N : Ta → Nx} {most : Nat} {l : List Nat} {t : Ta} {em : Nat} {r : List Nat} {wh : Bool} (h : PlRun N most l t em r wh 0) (hl : l.length < r.length) :
    em ≤ 256 ∧ (N t).e = 0 ∧ (N t).k ≠ 1 ∧ (N t).k ≠ 3 ∧ ((N t).cs.take (r.length - l.length) = (r.drop l.length).take (N t).cs.length) ∧ ((N t).cs.length < r.length - l.length → ((N t).cs.length = 0 → PlRun N most l (N t).t (em + 1) r wh 0) ∧ ((N t).cs.length ≠ 0 → PlRun N most (l ++ (N t).cs) (N t).t 0 r wh 0)) := by
  generalize he : 0 = e at h
  cases h with
  | out h1 => omega
  | err h1 h2 => exact absurd he.symm h2
  | fin h1 h2 h3 => omega
  | full h1 h2 h3 h4 => omega
  | ref h1 h2 h3 h4 h5 => omega
  | cut h1 h2 h3 h4 h5 h6 =>
    refine ⟨h1, h2, h3, h5, ?_, fun h => ?_⟩
    · have e1 : (l ++ (N t).cs.take (most - l.length)).length - l.length = min (most - l.length) (N t).cs.length := by simp
      rw [e1, List.drop_left]
      rw [List.take_take]
      have e2 : min (most - l.length) (N t).cs.length = most - l.length := by omega
      rw [e2, Nat.min_comm, e2]
    · simp at h; omega
  | emp h1 h2 h3 h4 h5 h6 h7 h8 =>
    subst he
    refine ⟨h1, h2, h3, h5, ?_, fun h => ⟨fun _ => h8, fun hn => absurd h7 hn⟩⟩
    rw [List.eq_nil_of_length_eq_zero h7]; simp
  | more h1 h2 h3 h4 h5 h6 h7 h8 =>
    subst he
    refine ⟨h1, h2, h3, h5, ?_, fun h => ⟨fun hn => absurd hn h7, fun _ => h8⟩⟩
    obtain ⟨s, hs⟩ := plrun_pre h8
    rw [hs, List.append_assoc, List.drop_left, List.take_left, List.take_of_length_le]
    simp
end Go.Proofs.Ytoppgdbkbemogaa
