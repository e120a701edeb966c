/- The walk of BlorbReads: what Read answers of any bytes is what the document answers. -/
import Derived.Test.YtedihackifchcaaR6e
import Derived.Test.YtedihackifchcaaX6q
namespace Go.Proofs.Ytedihackifchcaa
open Go.RowKit
set_option maxHeartbeats 1000000
set_option maxRecDepth 100000
set_option linter.unusedVariables false

theorem ego_x (cs : List Sc) (d : List Int) (hd : OkB d) : ∀ (F i : Nat) (acc : List En), (∀ a ∈ acc, 0 ≤ a.2.1 ∧ a.2.1 ≤ 4294967295) → ∀ a ∈ (ego cs d F i acc).1, 0 ≤ a.2.1 ∧ a.2.1 ≤ 4294967295
  | 0, i, acc, h => by unfold ego; exact h
  | F + 1, i, acc, h => by
    unfold ego
    split
    · intro a ha; cases ha
    · split
      · intro a ha; cases ha
      · split
        · intro a ha; cases ha
        · refine ego_x cs d hd F (i + 1) _ ?_
          intro a ha
          rcases List.mem_append.1 ha with h' | h'
          · exact h a h'
          · rw [List.mem_singleton.1 h']; exact beV_bd d _ hd
theorem readR_x (zs : List Int) (hok : OkB zs) : ∀ s ∈ (readR zs).1, 0 ≤ s.2.1 ∧ s.2.1 ≤ 4294967295 := by
  unfold readR
  split
  · intro s hs; cases hs
  · intro s hs
    obtain ⟨e, he, rfl⟩ := List.mem_map.1 hs
    show 0 ≤ e.2.1 ∧ e.2.1 ≤ 4294967295
    revert he
    unfold openR
    split
    · intro he; cases he
    · rename_i hp
      split
      · intro he; cases he
      · split
        · intro he; cases he
        · intro he
          refine ego_x _ _ ?_ _ _ _ (fun a ha => by cases ha) e he
          cases hc : (parseR zs).1 with
          | nil => intro x hx; cases hx
          | cons c t =>
            obtain ⟨n, h1, -, -⟩ := parse_first zs hok c t (Classical.not_not.1 hp) hc
            show OkB c.2
            rw [h1]
            exact seg_okb hok 20 n
theorem rks_none (w : World) : Rks w none 0 0 [] := ⟨rfl, Nat.le_refl _, .inl rfl, fun r hr => by cases hr⟩
/-- two answers of one reading, as rows -/
theorem rret_rows {w : World} {zs : List Int} (hok : OkB zs) {e : Ending} {w' : World} (h : RRet w (readR zs) e w') : Below w.heap.size w w' ∧ ∃ ao cv rs n, e = .returned (.tuple #[.slice ao n cv, .int .i64 (readR zs).2.1, .int .i64 (readR zs).2.2]) ∧ Rks w' ao n cv rs ∧ rs.map srOf = (readR zs).1 ∧ n ≤ 512 := by
  obtain ⟨hb, ⟨hne, rfl⟩ | ⟨hz, ao, cv, rs, rfl, hg, hm, hd, hl⟩⟩ := h
  · refine ⟨hb, none, 0, [], 0, rfl, rks_none w', ?_, by omega⟩
    unfold readR at hne ⊢
    split
    · rfl
    · rename_i h
      rw [if_neg h] at hne
      exact absurd rfl hne
  · refine ⟨hb, ao, cv, rs, rs.length, by rw [hz], rks_own hg hd (fun r hr => ?_), hm, hl⟩
    have := readR_x zs hok (srOf r) (by rw [← hm]; exact List.mem_map_of_mem hr)
    exact this
theorem rread_reads (a : Option Addr) (L cap : Nat) (zs : List Int) (w : World) (h : Reads w a L cap zs) (hok : OkB zs) (hm : L ≤ 1000012) :
    Calls Try.prog 44 #[.slice a L cap] w (RRet w (readR zs)) := by
  by_cases h0 : L = 0
  · subst h0
    obtain rfl := List.eq_nil_of_length_eq_zero h.1
    exact rread_nil a cap w
  · rcases h.2.2 with ⟨-, h1, -⟩ | ⟨x, rfl, hc⟩
    · exact absurd h1 h0
    · obtain ⟨b, off, spot⟩ := x
      have hc0 := hc 0 (by omega)
      have hspot : spot = none := by simpa [Addr.add] using World.cell?_spot hc0
      subst hspot
      exact rread_any b off L cap zs w ⟨h.1, fun i hi => by have := hc i hi; rwa [plain_add] at this⟩ hok hm h.2.1
end Go.Proofs.Ytedihackifchcaa
