/- Rows of operands that a call owns. -/
import Derived.Test.YtpkfmccnjandoaaB11f
namespace Go.Proofs.Ytpkfmccnjandoaa
open Go.RowKit
set_option maxHeartbeats 1000000
set_option maxRecDepth 100000
set_option linter.unusedVariables false

theorem infoOd : (Try.prog.info? 54).map (fun i => (i.zero, i.size, i.bytes)) = some (some (.agg #[.int .i64 0, .int .u32 0]), 2, 16) := by kernel_rfl
theorem infoOd_parts : ∃ i, Try.prog.info? 54 = some i ∧ i.zero = some (.agg #[.int .i64 0, .int .u32 0]) ∧ i.size = 2 ∧ i.bytes = 16 := by
  have h := infoOd
  cases hi : Try.prog.info? 54 with
  | none => rw [hi] at h; cases h
  | some i =>
    rw [hi] at h
    simp only [Option.map_some, Option.some.injEq, Prod.mk.injEq] at h
    exact ⟨i, rfl, h.1, h.2.1, h.2.2⟩
theorem opsC_snoc (l : List Od) (x : Od) : opsC (l ++ [x]) = opsC l ++ odC x := by simp [opsC]
def zOps (ms : List Int) : List Od := ms.map fun m => (m, 0)
abbrev ORow (w : World) (B : Nat) (a : Option Addr) (n c : Nat) (l : List Od) : Prop := w.ownsRow B 54 2 (.slice a n c) n (opsC l)
theorem orow_shape {w : World} {B n : Nat} {v : Value} {xs : List Value} (h : w.ownsRow B 54 2 v n xs) : ∃ a c, v = .slice a n c := by
  rcases h.2 with ⟨rfl, rfl⟩ | ⟨g, cap, cur, rfl, _⟩
  · exact ⟨none, 0, rfl⟩
  · exact ⟨_, _, rfl⟩
theorem orow_len {w : World} {B n c : Nat} {a : Option Addr} {l : List Od} (h : ORow w B a n c l) : l.length = n := by
  have := h.1
  rw [opsC_len] at this; omega
theorem orow_at {w : World} {B n c : Nat} {a : Option Addr} {l : List Od} (h : ORow w B a n c l) (i : Nat) (hi : i < n) :
    ∃ G, a = some ⟨G, 0, none⟩ ∧ B ≤ G ∧ G < w.heap.size ∧ (w.cell? ⟨G, i * 2, none⟩ = some (.int .i64 (l.getD i (0, 0)).1) ∧ w.frozen? ⟨G, i * 2, none⟩ = false) ∧ (w.cell? ⟨G, i * 2 + 1, none⟩ = some (.int .u32 (l.getD i (0, 0)).2) ∧ w.frozen? ⟨G, i * 2 + 1, none⟩ = false) ∧ n ≤ c := by
  have hl := orow_len h
  rcases h.2 with ⟨_, rfl⟩ | ⟨g, cap, cur, hv, hB, hg, hnc, _, hcs, ht⟩
  · omega
  · simp only [Value.slice.injEq] at hv
    obtain ⟨rfl, _, rfl⟩ := hv
    have hx := opsC_at l i (by omega)
    have hc : ∀ j, j < n * 2 → cur[j]? = (opsC l)[j]? := fun j hj => by
      rw [← ht, List.getElem?_take_of_lt hj, Array.getElem?_toList]
    refine ⟨g, rfl, hB, (Array.getElem?_eq_some_iff.1 hg).1, ⟨?_, by simp [World.frozen?, hg]⟩, ⟨?_, by simp [World.frozen?, hg]⟩, hnc⟩
    · simp only [World.cell?, hg]
      rw [hc _ (by omega), Nat.mul_comm i 2]; exact hx.1
    · simp only [World.cell?, hg]
      rw [hc _ (by omega), Nat.mul_comm i 2]; exact hx.2
theorem opsC_put (l : List Od) : ∀ i (v : Int), i < l.length → (opsC l).set (2 * i + 1) (.int .u32 v) = opsC (l.set i ((l.getD i (0, 0)).1, v)) := by
  induction l with
  | nil => intro i v h; simp at h
  | cons p l ih =>
    intro i v h
    cases i with
    | zero => rfl
    | succ i =>
      have := ih i v (by simpa using h)
      rw [List.set_cons_succ, List.getD_cons_succ]
      show (odC p ++ opsC l).set (2 * (i + 1) + 1) _ = odC p ++ opsC (l.set i ((l.getD i (0, 0)).1, v))
      rw [List.set_append_right _ _ (by simp [odC]; omega), ← this]
      rfl
theorem orow_put {w : World} {B n c G : Nat} {l : List Od} (h : ORow w B (some ⟨G, 0, none⟩) n c l) (i : Nat) (hi : i < n) (v : Int) :
    ORow (w.setCell ⟨G, i * 2 + 1, none⟩ (.int .u32 v)) B (some ⟨G, 0, none⟩) n c (l.set i ((l.getD i (0, 0)).1, v)) := by
  have hl := orow_len h
  rcases h.2 with ⟨hv, _⟩ | ⟨g, cap, cur, hv, hB, hg, hnc, hm, hcs, ht⟩
  · cases hv
  · simp only [Value.slice.injEq, Option.some.injEq, Addr.mk.injEq] at hv
    obtain ⟨⟨rfl, _⟩, _, rfl⟩ := hv
    refine ⟨by rw [opsC_len, List.length_set]; omega, .inr ⟨G, c, cur.setIfInBounds (i * 2 + 1) (.int .u32 v), rfl, hB, ?_, hnc, hm, by simpa using hcs, ?_⟩⟩
    · simp [World.setCell, Array.getElem?_modify, hg]
    · rw [← opsC_put l i v (by omega), ← ht, Array.toList_setIfInBounds, List.take_set, Nat.mul_comm 2 i]
theorem orow_ops {w : World} {B n c : Nat} {a : Option Addr} {l : List Od} (h : ORow w B a n c l) : Ops w a n c l := by
  refine ⟨orow_len h, ?_, fun h0 => ?_⟩
  · rcases h.2 with ⟨hv, rfl⟩ | ⟨g, cap, cur, hv, hB, hg, hnc, _⟩
    · omega
    · simp only [Value.slice.injEq] at hv
      obtain ⟨_, _, rfl⟩ := hv
      exact hnc
  · obtain ⟨G, rfl, _⟩ := orow_at h 0 h0
    refine ⟨G, 0, rfl, fun i hi => ?_⟩
    obtain ⟨G', hG, _, _, c1, c2, _⟩ := orow_at h i hi
    simp only [Option.some.injEq, Addr.mk.injEq] at hG
    obtain ⟨rfl, _⟩ := hG
    rw [Nat.zero_add]
    exact ⟨c1.1, c2.1⟩
theorem orow_other {w w' : World} {B n c : Nat} {a : Option Addr} {l : List Od} (h : ORow w B a n c l) (hb : ∀ b, B ≤ b → w'.heap[b]? = w.heap[b]?) : ORow w' B a n c l := by
  refine ⟨h.1, ?_⟩
  rcases h.2 with h2 | ⟨g, cap, cur, hv, hB, hg, rest⟩
  · exact .inl h2
  · exact .inr ⟨g, cap, cur, hv, hB, (hb g hB).trans hg, rest⟩
theorem new_od (w : World) (m : Int) : ∀ j u, (odC (m, 0))[j]? = some u → (w.alloc (.cells #[.int .i64 m, .int .u32 0] 54)).cell? ((⟨w.heap.size, 0, none⟩ : Addr).add j) = some u := by
  intro j u hj
  match j, hj with
  | 0, hj => simp [odC] at hj; subst hj; simp [Addr.add]
  | 1, hj => simp [odC] at hj; subst hj; simp [Addr.add]
theorem od_one (m : Int) : ∀ u ∈ odC (m, 0), u.oneCell' = true := by
  intro u hu
  simp [odC] at hu
  rcases hu with rfl | rfl <;> rfl
theorem nibL_succ (zs : List Int) (q k : Nat) : nibL zs q (k + 1) = nibL zs q k ++ [nib zs q k] := by simp [nibL, List.range_succ]
theorem zOps_succ (zs : List Int) (q k : Nat) : opsC (zOps (nibL zs q (k + 1))) = opsC (zOps (nibL zs q k)) ++ odC (nib zs q k, 0) := by
  rw [nibL_succ, ← opsC_snoc]; simp [zOps]
theorem tab_l : (tab.all fun r => r.2.2.all fun c => c == 76 || c == 83) = true := by kernel_rfl
theorem tab_letters {r : Rw} (h : r ∈ tab) (i : Nat) (hi : i < r.2.2.length) : ((r.2.2.getD i 0).toNat : Int) = 76 ∨ ((r.2.2.getD i 0).toNat : Int) = 83 := by
  have h1 := List.all_eq_true.1 tab_l r h
  have h2 := List.all_eq_true.1 h1 (r.2.2.getD i 0) (by rw [List.getD_eq_getElem?_getD, List.getElem?_eq_getElem hi]; exact List.getElem_mem hi)
  simp only [Bool.or_eq_true, beq_iff_eq] at h2
  rcases h2 with h2 | h2 <;> rw [h2]
  · exact .inl rfl
  · exact .inr rfl
theorem IB.under {B C n c : Nat} {w w' : World} {op : Int} {a : Option Addr} (h : IB w B op a n c) (hb : Below C w w') (hB : B < C) : IB w' B op a n c := (hb.block B hB).trans h
theorem ib_set1 {w : World} {B : Nat} {op : Int} {a : Option Addr} {n c : Nat} (h : IB w B op a n c) (a' : Option Addr) (n' c' : Nat) : IB (w.setCell ⟨B, 1, none⟩ (.slice a' n' c')) B op a' n' c' := by
  have h' : w.heap[B]? = _ := h
  unfold IB
  simp [World.setCell, Array.getElem?_modify, h']
end Go.Proofs.Ytpkfmccnjandoaa
