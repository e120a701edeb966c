/- Contract of package round's Pack: of any number, in any format, the nearest pattern. -/
import Derived.Test.YthfjjkikeebopaaDoorP2c
namespace Go.Proofs.YthfjjkikeebopaaDoor
open Go.RowKit
set_option maxHeartbeats 2000000
set_option linter.unusedVariables false

theorem ppack_fmt (m x : Int) (neg more : Bool) (hi lo e : Int) (w : World) (h : ¬ okF m x) :
    Calls Tryd.prog 38 #[.agg #[.int .i64 m, .int .i64 x], .bool neg, .int .u64 hi, .int .u64 lo, .int .i64 e, .bool more] w fun r w' => r = .returned (.tuple #[.int .u64 0, .int .i64 1]) ∧ Below w.heap.size w w' := by
  have HC := hidden (fun w => pcheck_no m x w h)
  clear h
  go_enter Tryd.func38, Tryd.ntmps38
  go_wp2_with (go_at_call 44; refine (HC.out _).mono ?_; rintro r w1 ⟨rfl, hw⟩; subst hw)
  go_ret2
  exact ⟨rfl, ((Below.refl _ _).alloc (Nat.le_refl _) _).alloc (by simp) _⟩
theorem ppack_e (m x : Int) (neg more : Bool) (hi lo e : Int) (w : World) (h : okF m x) (he : e < -4096 ∨ 4096 < e) :
    Calls Tryd.prog 38 #[.agg #[.int .i64 m, .int .i64 x], .bool neg, .int .u64 hi, .int .u64 lo, .int .i64 e, .bool more] w fun r w' => r = .returned (.tuple #[.int .u64 0, .int .i64 1]) ∧ Below w.heap.size w w' := by
  have HC := hidden (fun w => pcheck_ok m x w h)
  clear h
  rcases he with he | he
  · go_enter Tryd.func38, Tryd.ntmps38
    go_wp2_with (go_at_call 44; refine (HC.out _).mono ?_; rintro r w1 ⟨rfl, hw⟩; subst hw)
    go_ret2
    exact ⟨rfl, ((Below.refl _ _).alloc (Nat.le_refl _) _).alloc (by simp) _⟩
  · have he' : ¬ e < -4096 := by omega
    go_enter Tryd.func38, Tryd.ntmps38
    go_wp2_with (go_at_call 44; refine (HC.out _).mono ?_; rintro r w1 ⟨rfl, hw⟩; subst hw)
    go_ret2
    exact ⟨rfl, ((Below.refl _ _).alloc (Nat.le_refl _) _).alloc (by simp) _⟩
theorem ppack_few (m x : Nat) (neg : Bool) (N hi lo e : Int) (w : World) (h : okF m x) (e0 : -4096 ≤ e) (e1 : e ≤ 4096) (hN : hi * 18446744073709551616 + lo = N) (a0 : 0 ≤ hi) (a1 : hi ≤ 18446744073709551615) (b0 : 0 ≤ lo) (b1 : lo ≤ 18446744073709551615) (hk : (bl N : Int) < m + 3) :
    Calls Tryd.prog 38 #[fmtV m x, .bool neg, .int .u64 hi, .int .u64 lo, .int .i64 e, .bool true] w fun r w' => r = .returned (.tuple #[.int .u64 0, .int .i64 1]) ∧ Below w.heap.size w w' := by
  have HC := hidden (fun w => pcheck_ok m x w h)
  have HL := hidden (fun w => pbitlen_any N hi lo w hN a0 a1 b0 b1)
  have hm52 := h.2.1
  clear h hN
  go_enter Tryd.func38, Tryd.ntmps38
  go_wp2_with (first | (go_at_call 44; refine (HC.out _).mono ?_; rintro r w1 ⟨rfl, hw⟩; subst hw) | (go_at_call 54; refine (HL.out _).mono ?_; rintro r w1 ⟨rfl, hw⟩; subst hw))
  go_ret2
  exact ⟨rfl, ((Below.refl _ _).alloc (Nat.le_refl _) _).alloc (by simp) _⟩
theorem ppack_any (m x : Nat) (neg more : Bool) (N hi lo e : Int) (w : World) (h : okF m x) (e0 : -4096 ≤ e) (e1 : e ≤ 4096) (hN : hi * 18446744073709551616 + lo = N) (a0 : 0 ≤ hi) (a1 : hi ≤ 18446744073709551615) (b0 : 0 ≤ lo) (b1 : lo ≤ 18446744073709551615) (hk : more = true → (m : Int) + 3 ≤ bl N) :
    Calls Tryd.prog 38 #[fmtV m x, .bool neg, .int .u64 hi, .int .u64 lo, .int .i64 e, .bool more] w fun r w' => r = .returned (.tuple #[.int .u64 (packP m x N e more + sgnW neg (m + x)), .int .i64 0]) ∧ Below w.heap.size w w' := by
  have HC := hidden (fun w => pcheck_ok m x w h)
  have HL := hidden (fun w => pbitlen_any N hi lo w hN a0 a1 b0 b1)
  have HB := hidden (fun w => pbias_any m x w h)
  have HU := hidden (fun w => pleast_any m x w h)
  have hm52 := h.2.1
  have hbb := bias_bd x h.2.2.1 h.2.2.2
  by_cases hz : N = 0
  · subst hz
    have hbl : (bl 0 : Int) = 0 := rfl
    rw [hbl] at HL hk
    have HZ := hidden (fun w => pzero_any m x neg w h)
    have hmo : more = false := by cases more with | false => rfl | true => have := hk rfl; omega
    subst hmo
    have hr : Hid (packP m x 0 e false + sgnW neg (m + x) = sgnW neg (m + x)) := hidden (by unfold packP; simp)
    clear h hN hk hbl
    generalize sgnW neg (m + x) = S at *
    go_enter Tryd.func38, Tryd.ntmps38
    go_wp2_with (first | (go_at_call 44; refine (HC.out _).mono ?_; rintro r w1 ⟨rfl, hw⟩; subst hw) | (go_at_call 54; refine (HL.out _).mono ?_; rintro r w1 ⟨rfl, hw⟩; subst hw) | (go_at_call 33; refine (HZ.out _).mono ?_; rintro r w1 ⟨rfl, hw⟩))
    go_ret2
    refine ⟨?_, ?_⟩
    · rw [hr.out]; rfl
    · refine Below.trans ?_ (hw.mono (by simp; try omega))
      repeat (first | exact Below.refl _ _ | apply Below.drew | (refine Below.alloc ?_ (by simp; try omega) _))
  · have hNp : 0 < N := by omega
    have hl128 : bl N ≤ 128 := bl_le (by omega) (by rw [show p2 128 = 340282366920938463463374607431768211456 by decide +kernel]; omega)
    have hl0 := (bl_bd N hNp).1
    rw [packP_pos _ _ _ _ _ hNp]
    by_cases ht : bias x < e + bl N - 1
    · rw [if_pos ht]
      have HI := hidden (fun w => pinf_any m x neg w h)
      clear h hN
      generalize (p2 x - 1) * p2 m + sgnW neg (m + x) = S at *
      cases more
      all_goals
        (try replace hk := hk rfl)
        go_enter Tryd.func38, Tryd.ntmps38
        go_wp2_with (first | (go_at_call 44; refine (HC.out _).mono ?_; rintro r w1 ⟨rfl, hw⟩; subst hw) | (go_at_call 54; refine (HL.out _).mono ?_; rintro r w1 ⟨rfl, hw⟩; subst hw) | (go_at_call 55; refine (HB.out _).mono ?_; rintro r w1 ⟨rfl, hw⟩; subst hw) | (go_at_call 36; refine (HI.out _).mono ?_; rintro r w1 ⟨rfl, hw⟩))
        go_ret2
        refine ⟨rfl, Below.trans ?_ (hw.mono (by simp; try omega))⟩
        repeat (first | exact Below.refl _ _ | apply Below.drew | (refine Below.alloc ?_ (by simp; try omega) _))
    · rw [if_neg ht]
      have hub := units_bd m x N e more hNp
      have hpb := pack_bd m x N e more (by omega) (by have := h.2.2.1; omega)
      rw [packP_pos _ _ _ _ _ hNp, if_neg ht] at hpb
      have htb := top_bd m x h
      have HW := hidden (fun p p0 p1 w => pwith_any m x neg p w h p0 p1)
      have hU0 : least m x ≤ unitI m x (bl N) e := by unfold unitI; omega
      have hU1 : unitI m x (bl N) e ≤ bias x - m := by unfold unitI least; omega
      have hU2 : e + bl N - 1 - m ≤ unitI m x (bl N) e := by unfold unitI; omega
      have hU : Hid (max (e + bl N - 1 - m) (least m x) = unitI m x (bl N) e) := hidden rfl
      have hlb : -2000 ≤ least m x ∧ least m x ≤ 0 := by unfold least; omega
      have hp53 : p2 (m + 1) ≤ 9007199254740992 := by rw [show (9007199254740992 : Int) = p2 53 by decide +kernel]; exact p2_mono (by omega)
      have HN : Hid (∀ w, Calls Tryd.prog 57 #[.int .u64 hi, .int .u64 lo, .int .i64 (unitI m x (bl N) e - e), .bool more] w fun r w' => r = .returned (.int .u64 (unitsI N (unitI m x (bl N) e - e) more)) ∧ ∃ q, w' = w.drewN q) := hidden (fun w => by
        refine pnear_any N hi lo _ more w hN a0 a1 b0 b1 (by omega) (by omega) (fun hn => ?_) (fun hn => ?_)
        · have h1 := hub.2.1
          unfold unitsI at h1
          rw [if_pos hn] at h1
          omega
        · have h1 := hub.2.1
          unfold unitsI at h1
          rw [if_neg (by omega)] at h1
          unfold rnd at h1
          rw [show (unitI m x (bl N) e - e).toNat - 1 = (unitI m x (bl N) e - e - 1).toNat by omega] at h1
          split at h1 <;> omega)
      clear h hN ht
      generalize unitsI N (unitI m x (bl N) e - e) more = u at *
      generalize unitI m x (bl N) e = U at *
      generalize least m x = l at *
      generalize bl N = L at *
      cases more
      all_goals
        (try replace hk := hk rfl)
        go_enter Tryd.func38, Tryd.ntmps38
        go_wp2_with (first | (go_at_call 44; refine (HC.out _).mono ?_; rintro r w1 ⟨rfl, hw⟩; subst hw) | (go_at_call 54; refine (HL.out _).mono ?_; rintro r w1 ⟨rfl, hw⟩; subst hw) | (go_at_call 55; refine (HB.out _).mono ?_; rintro r w1 ⟨rfl, hw⟩; subst hw))
        go_region_held3 (fun w' => w'.cell? ⟨w.heap.size, 0, none⟩ = some (.int .i64 m) ∧ w'.cell? ⟨w.heap.size, 1, none⟩ = some (.int .i64 x)) (simp [*, World.cell?_alloc_some, al2_cell]) (first | (go_at_call 56; refine (HU.out _).mono ?_; rintro r w1 ⟨rfl, hw⟩; subst hw))
      all_goals
        go_wp2_with fail
        have k1 : IntKind.i64.wrap (e + L - 1 - m) = e + L - 1 - m := wrapi _ (by omega) (by omega)
        simp only [k1, hU.out]
        refine (HN.out _).mono ?_
        rintro r w1 ⟨rfl, q, hw⟩
        have cc : w1.cell? ⟨w.heap.size, 0, none⟩ = some (.int .i64 m) ∧ w1.cell? ⟨w.heap.size, 1, none⟩ = some (.int .i64 x) := by subst hw; assumption
        have hb : Below w.heap.size w w1 := by
          subst hw
          refine below_drewN ?_ q
          simp only [al2]
          repeat (first | exact Below.refl _ _ | apply Below.drew | (refine Below.alloc ?_ (by simp; try omega) _))
        clear hw
        obtain ⟨c0, c1⟩ := cc
        go_wp2_with fail
        go_region_held3 (fun w' => w'.cell? ⟨w.heap.size, 0, none⟩ = some (.int .i64 m) ∧ w'.cell? ⟨w.heap.size, 1, none⟩ = some (.int .i64 x)) (simp [*, al2_cell]) (first | (go_at_call 56; refine (HU.out _).mono ?_; rintro r w2 ⟨rfl, hw⟩; subst hw))
      all_goals
        have c2 : (al2 w1.drew (fmt m x)).drew.cell? ⟨w.heap.size, 0, none⟩ = some (.int .i64 m) := by simp [*]
        have c3 : (al2 w1.drew (fmt m x)).drew.cell? ⟨w.heap.size, 1, none⟩ = some (.int .i64 x) := by simp [*]
        have hb3 : Below w.heap.size w (al2 w1.drew (fmt m x)).drew := by
          have := hb.size
          unfold al2
          exact ((hb.drew.alloc (by simpa using this) _).alloc (by simp; omega) _).drew
        generalize (al2 w1.drew (fmt m x)).drew = w2 at *
        go_wp2_with fail
        have hq0 : 0 ≤ (U - l) * p2 m := Int.mul_nonneg (by omega) (Int.le_of_lt (p2_pos _))
        have hp : IntKind.u64.wrap (IntKind.u64.wrap ((U - l) * 2 ^ m) + u) = (U - l) * p2 m + u := by
          show IntKind.u64.wrap (IntKind.u64.wrap ((U - l) * p2 m) + u) = _
          rw [IntKind.wrap_u64, IntKind.wrap_u64]
          omega
        rw [hp]
        refine (HW.out _ (by omega) (by omega) _).mono ?_
        rintro r w3 ⟨rfl, hw⟩
        go_wp2
        go_ret2
        exact ⟨rfl, hb3.trans (hw.mono hb3.size)⟩
end Go.Proofs.YthfjjkikeebopaaDoor
