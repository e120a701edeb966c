/- The document's Open for every pattern of a format, in one contract. -/
import Derived.Test.YtnjgknklcfdjlaaR2
import Derived.Test.YtnjgknklcfdjlaaQ2c
namespace Go.Proofs.Ytnjgknklcfdjlaa
open Go.RowKit
set_option maxHeartbeats 1000000
set_option linter.unusedVariables false

theorem ropen_any (m e : Nat) (x : Int) (w : World) (h : okF m e) (x0 : 0 ≤ x) (x1 : x ≤ 18446744073709551615) (hb : bl x ≤ 1 + e + m) :
    Calls Try.prog 4 #[.agg #[.int .i64 m, .int .i64 e], .int .u64 x] w fun r w' => r = .returned (.tuple #[openV m e x, .int .i64 0]) ∧ Below w.heap.size w w' := by
  have ht := (top_one m e x x0 hb).2
  rw [← div_div] at ht
  have hV : openV m e x = partsV (kindI m e x) (x / p2 m / p2 e == 1) (expI m e x) (manI m e x) := rfl
  rw [hV]
  by_cases c1 : x / p2 m % p2 e = p2 e - 1
  · by_cases c2 : x % p2 m = 0
    · have k : kindI m e x = 3 := by unfold kindI fldI frcI; rw [if_pos c1, if_pos c2]
      have k1 : expI m e x = 0 := by unfold expI; rw [k]; rfl
      have k2 : manI m e x = 0 := by unfold manI; rw [k]; rfl
      rw [k, k1, k2]
      exact ropen_inf m e x _ _ w h x0 x1 rfl rfl ht (by simpa using c1) (by simpa using c2)
    · have k : kindI m e x = 4 := by unfold kindI fldI frcI; rw [if_pos c1, if_neg c2]
      have k1 : expI m e x = 0 := by unfold expI; rw [k]; rfl
      have k2 : manI m e x = 0 := by unfold manI; rw [k]; rfl
      rw [k, k1, k2]
      exact ropen_nan m e x _ _ w h x0 x1 rfl rfl ht (by simpa using c1) (by simpa using c2)
  · by_cases c3 : x / p2 m % p2 e = 0
    · by_cases c2 : x % p2 m = 0
      · have k : kindI m e x = 1 := by unfold kindI fldI frcI; rw [if_neg c1, if_pos c3, if_pos c2]
        have k1 : expI m e x = 0 := by unfold expI; rw [k]; rfl
        have k2 : manI m e x = 0 := by unfold manI; rw [k]; rfl
        rw [k, k1, k2]
        exact ropen_zero m e x _ _ w h x0 x1 rfl rfl ht (by simpa using c1) (by simpa using c2) (by simpa using c3)
      · have k : kindI m e x = 2 := by unfold kindI fldI frcI; rw [if_neg c1, if_pos c3, if_neg c2]
        have k1 : expI m e x = least m e := by unfold expI; rw [if_pos k]; unfold fldI; rw [if_pos c3]
        have k2 : manI m e x = x % p2 m := by unfold manI; rw [if_pos k]; unfold fldI; rw [if_pos c3]; rfl
        rw [k, k1, k2]
        exact ropen_sub m e x _ _ w h x0 x1 rfl rfl ht (by simpa using c1) (by simpa using c2) (by simpa using c3)
    · have k : kindI m e x = 2 := by unfold kindI fldI frcI; rw [if_neg c1, if_neg c3]
      have k1 : expI m e x = x / p2 m % p2 e - bias e - m := by unfold expI; rw [if_pos k]; unfold fldI; rw [if_neg c3]
      have k2 : manI m e x = p2 m + x % p2 m := by unfold manI; rw [if_pos k]; unfold fldI; rw [if_neg c3]; rfl
      rw [k, k1, k2]
      exact ropen_fin m e x _ _ w h x0 x1 rfl rfl ht (by simpa using c1) (by simpa using c3)
end Go.Proofs.Ytnjgknklcfdjlaa
