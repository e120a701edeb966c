/- Contract of slices.Delete over a row of blocks. -/
import Derived.Test.YtmebjbnglndfcaaE8c
namespace Go.Proofs.Ytmebjbnglndfcaa
open Go.RowKit
set_option maxHeartbeats 1000000
set_option maxRecDepth 100000
set_option linter.unusedVariables false

theorem take_splice (L cs : List Value) (off k : Nat) (h : k ≤ off) (h2 : off ≤ L.length) : (splice L off cs).take k = L.take k := by
  unfold splice
  rw [List.take_append_of_le_length (by rw [List.length_take]; omega), List.take_take]
  congr 1; omega
set_option maxHeartbeats 2000000 in
theorem delete_any (B : Nat) (ao : Option Addr) (n c i : Nat) (bs : List Bk) (w : World) (hown : w.ownsRow B 99 2 (.slice ao n c) n (bksV bs)) (hn : n ≤ 4096) (hi : i < n) :
    Calls Try.prog 70 #[.slice ao n c, .int .i64 i, .int .i64 ((i : Int) + 1)] w fun e w' => e = .returned (.slice ao (n - 1) c) ∧ w'.ownsRow B 99 2 (.slice ao (n - 1) c) (n - 1) (bksV (bs.take i ++ bs.drop (i + 1))) ∧ w.grownBy w' (Value.slice ao n c).ownBlock := by
  obtain ⟨i0, hi0, hz0, hz1, hz2⟩ := bk_parts
  obtain ⟨g, cur, rfl, hBg, hg, hnc, hcm, hcl, htk, hbl⟩ := own_cur hown (by omega)
  have hcm' : c ≤ 9223372036854775807 := hcm
  have hX : (bksV (bs.drop (i + 1))).length = (n - (i + 1)) * 2 := by rw [bksV_len, List.length_drop, hbl]
  obtain ⟨A, hA, hsrc⟩ : ∃ A : Addr, (if c = i + 1 then some (⟨g, 0, none⟩ : Addr) else some ⟨g, (i + 1) * 2, none⟩) = some A ∧ Hid (∀ j u, (bksV (bs.drop (i + 1)))[j]? = some u → w.drew.cell? (A.add j) = some u) := by
    by_cases h : c = i + 1
    · refine ⟨⟨g, 0, none⟩, by simp [h], fun j u hj => ?_⟩
      have hjl := (List.getElem?_eq_some_iff.1 hj).1
      omega
    · exact ⟨⟨g, (i + 1) * 2, none⟩, by simp [h], src_row hg htk⟩
  have c1 : ¬ (i : Int) = (i : Int) + 1 := by omega
  have c2 : (i : Int) + 1 ≤ (n : Int) := by omega
  have c3 : (n : Int) ≤ (c : Int) := by omega
  have hb1 : (0 : Int) ≤ (i : Int) + 1 := by omega
  have htn : ((i : Int) + 1).toNat = i + 1 := by omega
  have c4 : (i : Int) ≤ (i : Int) + 1 := by omega
  have c5 : (i : Int) ≤ (c : Int) := by omega
  have c6 : (i : Int) + 1 ≤ (c : Int) := by omega
  have HG := hidden8 hg
  clear hown hg
  go_enter Try.func70, Try.ntmps70
  go_wp2_with fail
  go_region_law (refine step_appk 2 rfl (.tmp 22) (.tmp 25) 40 rfl 99 i0 Try.underlying40 hi0 hz1 g i c A (n - (i + 1)) (c - (i + 1)) (by simp [Act.eval, Act.put]) (by simp [Act.eval, Act.put]) cur HG.out (bksV (bs.drop (i + 1))) hX hsrc.out (by omega) (by rw [hX, hcl]; omega) (bksV_one _) ?_; intro w1 HG1 HW1)
  have hk : i + (n - (i + 1)) = n - 1 := by omega
  have hsl : (splice cur (i * 2) (bksV (bs.drop (i + 1)))).length = c * 2 := by rw [length_splice _ _ _ (by rw [hX, hcl]; omega), hcl]
  have hclr : ∀ ty, (Builtin.clear_ #[40] ty #[.slice (some ⟨g, (n - 1) * 2, none⟩) (n - (n - 1)) (c - (n - 1))]).run Try.prog w1 = .ok (.tuple #[]) (w1.setRow g (splice (splice cur (i * 2) (bksV (bs.drop (i + 1)))) ((n - 1) * 2) [.int .u32 0, .int .u32 0]).toArray) := fun ty =>
    run_cleark w1 _ _ ty _ Try.underlying40 zero_bk g ((n - 1) * 2) (n - (n - 1)) _ (by omega) _ 99 HG1.out _ (by rw [show n - (n - 1) = 1 by omega]; kernel_rfl) (by rw [hsl]; simp; omega) (by intro v hv; simp at hv; subst hv; rfl)
  rw [hk]
  have d1 : ¬ c = n - 1 := by omega
  have d2 : ((n - 1 : Nat) : Int) ≤ (n : Int) := by omega
  have d3 : n - 1 ≤ n := by omega
  go_wp2
  go_ret
  refine ⟨rfl, ?_, ?_⟩
  · refine own_of hBg (setRow_heap w1 g _ _ _ _ HG1.out) (by omega) hcm (by rw [length_splice _ _ _ (by rw [hsl]; simp; omega), hsl]) ?_ (by simp; omega)
    rw [take_splice _ _ _ _ (Nat.le_refl _) (by rw [hsl]; omega)]
    unfold splice
    rw [← List.append_assoc, List.take_append_of_le_length (by rw [List.length_append, List.length_take, hX]; omega), List.take_of_length_le (by rw [List.length_append, List.length_take, hX]; omega), bksV_app]
    congr 1
    rw [← bksV_take, ← htk, List.take_take]; congr 1; omega
  · exact ((grown_drew w _).trans HW1.out).trans (grown_setRow w1 g _)
end Go.Proofs.Ytmebjbnglndfcaa
