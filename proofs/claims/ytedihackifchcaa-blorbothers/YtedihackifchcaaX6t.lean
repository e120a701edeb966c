/- The walk of BlorbRaw: the game in a container is the game, whatever else is there; bytes that begin as a game does are the game. -/
import Derived.Test.YtedihackifchcaaX6s
import Derived.Lib.SlFresh
namespace Go.Proofs.Ytedihackifchcaa
open Go.RowKit
set_option maxHeartbeats 1000000
set_option maxRecDepth 100000
set_option linter.unusedVariables false

theorem rksV_at : ∀ (rs : List Rk) (i : Nat) (h : i < rs.length), (rksV rs)[i * 4]? = some (.string rs[i].u) ∧ (rksV rs)[i * 4 + 1]? = some (.int .u32 rs[i].x) ∧ (rksV rs)[i * 4 + 2]? = some (.string rs[i].id) ∧ (rksV rs)[i * 4 + 3]? = some (.slice rs[i].a rs[i].l rs[i].c)
  | r :: rs, 0, _ => ⟨rfl, rfl, rfl, rfl⟩
  | r :: rs, i + 1, h => by
    have e : rksV (r :: rs) = .string r.u :: .int .u32 r.x :: .string r.id :: .slice r.a r.l r.c :: rksV rs := rfl
    have := rksV_at rs i (by simpa using h)
    rw [e, show (i + 1) * 4 = i * 4 + 1 + 1 + 1 + 1 by omega]
    simpa using this
theorem rksV_len (rs : List Rk) : (rksV rs).length = rs.length * 4 := by
  induction rs with
  | nil => rfl
  | cons r rs ih =>
    have e : rksV (r :: rs) = .string r.u :: .int .u32 r.x :: .string r.id :: .slice r.a r.l r.c :: rksV rs := rfl
    rw [e]; simp only [List.length_cons, ih]; omega
theorem rksV_app (a b : List Rk) : rksV (a ++ b) = rksV a ++ rksV b := by simp [rksV]
theorem rksV_one (rs : List Rk) : ∀ u ∈ rksV rs, u.oneCell' = true := by
  intro u hu
  obtain ⟨r, -, h⟩ := List.mem_flatMap.1 hu
  simp [rkV] at h
  rcases h with rfl | rfl | rfl | rfl <;> rfl
/-- resources' cells, one by one -/
theorem rks_news {w : World} {x : Addr} {len cap : Nat} {rs : List Rk} (h : Rks w (some x) len cap rs) : ∀ j u, (rksV rs)[j]? = some u → w.cell? (x.add j) = some u := by
  intro j u hj
  have hl := (List.getElem?_eq_some_iff.1 hj).1
  rw [rksV_len] at hl
  have hlen := h.1
  obtain ⟨b, off, e, hc⟩ := h.at (by omega)
  simp only [Option.some.injEq] at e
  subst e
  have hi : j / 4 < rs.length := by omega
  obtain ⟨q0, q1, q2, q3⟩ := hc (j / 4) hi
  obtain ⟨p0, p1, p2, p3⟩ := rksV_at rs (j / 4) hi
  rw [plain_add]
  have hm : j % 4 = 0 ∨ j % 4 = 1 ∨ j % 4 = 2 ∨ j % 4 = 3 := by omega
  rcases hm with hm | hm | hm | hm
  · have e : j = j / 4 * 4 := by omega
    rw [e] at hj ⊢
    rw [p0] at hj; cases hj; exact q0
  · have e : j = j / 4 * 4 + 1 := by omega
    rw [e] at hj ⊢
    rw [p1] at hj; cases hj; rw [← Nat.add_assoc]; exact q1
  · have e : j = j / 4 * 4 + 2 := by omega
    rw [e] at hj ⊢
    rw [p2] at hj; cases hj; rw [← Nat.add_assoc]; exact q2
  · have e : j = j / 4 * 4 + 3 := by omega
    rw [e] at hj ⊢
    rw [p3] at hj; cases hj; rw [← Nat.add_assoc]; exact q3
theorem own_rks {B n : Nat} {w : World} {ao : Option Addr} {cv : Nat} {rs : List Rk} (h1 : w.ownsRow B 49 4 (.slice ao n cv) n (rksV rs)) (hn : rs.length = n) (hr : ∀ r ∈ rs, Reads w r.a r.l r.c r.d ∧ OkB r.d ∧ 0 ≤ r.x ∧ r.x ≤ 4294967295) : Rks w ao n cv rs := by
  refine ⟨hn, ?_, ?_, hr⟩
  · rcases h1.2 with ⟨e, h0⟩ | ⟨g, cap, cur, e, hb, hg, hnc, hm, hs, ht⟩
    · simp only [Value.slice.injEq] at e; omega
    · simp only [Value.slice.injEq] at e; omega
  · rcases h1.2 with ⟨e, h0⟩ | ⟨g, cap, cur, e, hb, hg, hnc, hm, hs, ht⟩
    · exact .inl (by omega)
    · simp only [Value.slice.injEq] at e
      obtain ⟨rfl, -, -⟩ := e
      refine .inr ⟨g, 0, rfl, fun i hi => ?_⟩
      have hc := rksV_at rs i hi
      have e0 := h1.cells (g := g) rfl (i * 4) _ hc.1
      have e1 := h1.cells (g := g) rfl (i * 4 + 1) _ hc.2.1
      have e2 := h1.cells (g := g) rfl (i * 4 + 2) _ hc.2.2.1
      have e3 := h1.cells (g := g) rfl (i * 4 + 3) _ hc.2.2.2
      rw [plain_add] at e0 e1 e2 e3
      exact ⟨e0, by rwa [← Nat.add_assoc] at e1, by rwa [← Nat.add_assoc] at e2, by rwa [← Nat.add_assoc] at e3⟩
theorem sizes_app (a b : List Ck) : sizes (a ++ b) = sizes a + sizes b := by
  unfold sizes; rw [List.map_append, List.sum_append_nat]
abbrev G4 : List Int := [71, 108, 117, 108]
/-- '[]byte' of the four letters with a game behind them -/
theorem raw_append (w : World) (ty : TypeId) (ga : Option Addr) (gl gc : Nat) (gd : List Int) (hr : Reads w ga gl gc gd) (hl : gl ≤ 65536) :
    ∃ g c w', (Builtin.append_ #[22, 22] ty #[.slice (some ⟨w.heap.size, 0, none⟩) 4 4, .slice ga gl gc]).run Try.prog (w.alloc (.cells #[.int .u8 71, .int .u8 108, .int .u8 117, .int .u8 108] 5 (4, 5))) = .ok (.slice (some ⟨g, 0, none⟩) (4 + gl) c) w' ∧
      4 + gl ≤ c ∧ Bs w' g 0 (4 + gl) (G4 ++ gd) ∧ Below w.heap.size w w' := by
  obtain ⟨i0, hi, hz0, hz1, hz2⟩ := info_parts info8
  have hst : Below w.heap.size w (w.alloc (.cells #[.int .u8 71, .int .u8 108, .int .u8 117, .int .u8 108] 5 (4, 5))) := (Below.refl _ _).alloc (Nat.le_refl _) _
  have hgl := hr.1
  have hold : ∀ j v, (bytesV G4)[j]? = some v → (w.alloc (.cells #[.int .u8 71, .int .u8 108, .int .u8 117, .int .u8 108] 5 (4, 5))).cell? ((⟨w.heap.size, 0, none⟩ : Addr).add j) = some v := fun j v hj => by
    rw [plain_add, Nat.zero_add, marked_cell]
    simpa [bytesV] using hj
  by_cases h0 : gl = 0
  · subst h0
    obtain rfl := List.eq_nil_of_length_eq_zero hgl
    refine ⟨w.heap.size, 4, _, ?_, Nat.le_refl _, ⟨rfl, fun i hi' => ?_⟩, hst⟩
    · have hf := fun x : Addr => run_firstCells_some (P := Try.prog) (w.alloc (.cells #[.int .u8 71, .int .u8 108, .int .u8 117, .int .u8 108] 5 (4, 5))) i0.size 0 x 0 gc [] (by simp) (fun j v hj => by simp at hj)
      cases ga with
      | none => simp [Builtin.append_, run_underlying Try.underlying22, sizeOf, typeInfo, hi, Builtin.lenOf, Builtin.firstCells, storeCells]
      | some x => simp [Builtin.append_, run_underlying Try.underlying22, sizeOf, typeInfo, hi, Builtin.lenOf, hf, storeCells]
    · rw [Nat.zero_add, marked_cell]
      match i, hi' with
      | 0, _ => rfl
      | 1, _ => rfl
      | 2, _ => rfl
      | 3, _ => rfl
  · obtain ⟨x, rfl⟩ : ∃ x, ga = some x := by
      rcases hr.2.2 with ⟨_, h1, _⟩ | ⟨x, hx, _⟩
      · exact absurd h1 h0
      · exact ⟨x, hx⟩
    have hn : ∀ j v, (bytesV gd)[j]? = some v → (w.alloc (.cells #[.int .u8 71, .int .u8 108, .int .u8 117, .int .u8 108] 5 (4, 5))).cell? (x.add j) = some v := (hr.later hst).news
    have := run_append_grow (P := Try.prog) (w.alloc (.cells #[.int .u8 71, .int .u8 108, .int .u8 117, .int .u8 108] 5 (4, 5))) 22 ty 5 i0 (.int .u8 0) Try.underlying22 hi hz0 ⟨w.heap.size, 0, none⟩ 4 4 (bytesV G4) (by rw [hz1]; rfl) hold x gl gc (bytesV gd) (by rw [hz1]; simp [bytesV, hgl]) hn (by omega) (by omega) (growslice_fits (by omega) (by rw [hz2]; omega))
    refine ⟨_, _, _, this, ?_, ⟨by simp [hgl]; omega, fun i hi' => ?_⟩, ?_⟩
    · exact grownCap_ge _ _ _ _
    · rw [Nat.zero_add]
      refine (marked_cell (w.alloc (.cells #[.int .u8 71, .int .u8 108, .int .u8 117, .int .u8 108] 5 (4, 5))).drew _ 5 (0, 0) i).trans ?_
      rw [← Array.getElem?_toList, Array.toList_append, Array.toList_append, List.toList_toArray, List.toList_toArray, bytesV_append, List.getElem?_append_left (by simp [bytesV, hgl]; omega)]
      exact bytesV_at _ _ (by simp [hgl]; omega)
    · exact (hst.drew).alloc hst.size _
end Go.Proofs.Ytedihackifchcaa
