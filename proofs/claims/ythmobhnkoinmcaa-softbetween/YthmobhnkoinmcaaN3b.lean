/- Contract of the document's Pack (package grottoref02): of any number, in any format, the nearest pattern; and the walk of RoundPacks. -/
import Derived.Test.YthmobhnkoinmcaaN3a
import Derived.Deep.QuietTactic
import Derived.BigQuiet
namespace Go.Proofs.Ythmobhnkoinmcaa
open Go.RowKit
set_option maxHeartbeats 4000000
set_option linter.unusedVariables false

theorem rpack_fmt (m x : Int) (neg more : Bool) (hi lo e : Int) (w : World) (h : ¬ okF m x) :
    Calls Try.prog 26 #[.agg #[.int .i64 m, .int .i64 x], .bool neg, .int .u64 hi, .int .u64 lo, .int .i64 e, .bool more] w fun r w' => r = .returned (.tuple #[.int .u64 0, .int .i64 1]) ∧ Below w.heap.size w w' := by
  have HC := hidden (fun w => check_no m x w h)
  clear h
  go_enter Try.func26, Try.ntmps26
  go_wp2_with (go_at_call 20; refine (HC.out _).mono ?_; rintro r w1 ⟨rfl, hw⟩; subst hw)
  go_ret2
  exact ⟨rfl, ((Below.refl _ _).alloc (Nat.le_refl _) _).alloc (by simp) _⟩
theorem rpack_e (m x : Int) (neg more : Bool) (hi lo e : Int) (w : World) (h : okF m x) (he : e < -4096 ∨ 4096 < e) :
    Calls Try.prog 26 #[.agg #[.int .i64 m, .int .i64 x], .bool neg, .int .u64 hi, .int .u64 lo, .int .i64 e, .bool more] w fun r w' => r = .returned (.tuple #[.int .u64 0, .int .i64 1]) ∧ Below w.heap.size w w' := by
  have HC := hidden (fun w => check_ok m x w h)
  clear h
  rcases he with he | he
  · go_enter Try.func26, Try.ntmps26
    go_wp2_with (go_at_call 20; refine (HC.out _).mono ?_; rintro r w1 ⟨rfl, hw⟩; subst hw)
    go_ret2
    exact ⟨rfl, ((Below.refl _ _).alloc (Nat.le_refl _) _).alloc (by simp) _⟩
  · have he' : ¬ e < -4096 := by omega
    go_enter Try.func26, Try.ntmps26
    go_wp2_with (go_at_call 20; refine (HC.out _).mono ?_; rintro r w1 ⟨rfl, hw⟩; subst hw)
    go_ret2
    exact ⟨rfl, ((Below.refl _ _).alloc (Nat.le_refl _) _).alloc (by simp) _⟩
theorem has_of {w : World} {a : Option Addr} {l c : Nat} {ds : List Int} {N : Int} (rt : RdD w a l c ds) (kt : OkD ds) (vt : nv ds = N) (tt : l = 0 ∨ ds.getD (l - 1) 0 ≠ 0) : HasNat w a l c ds N := ⟨rt, kt, vt, tt⟩
theorem rpack_few (m x : Nat) (neg : Bool) (N hi lo e : Int) (w : World) (hok : okF m x) (e0 : -4096 ≤ e) (e1 : e ≤ 4096) (hN : hi * 18446744073709551616 + lo = N) (a0 : 0 ≤ hi) (a1 : hi ≤ 18446744073709551615) (b0 : 0 ≤ lo) (b1 : lo ≤ 18446744073709551615) (hf : (bl N : Int) < (m : Int) + 3) :
    Calls Try.prog 26 #[.agg #[.int .i64 m, .int .i64 x], .bool neg, .int .u64 hi, .int .u64 lo, .int .i64 e, .bool true] w fun r w' => r = .returned (.tuple #[.int .u64 0, .int .i64 1]) ∧ Below w.heap.size w w' := by
  have HC := hidden (fun w => check_ok m x w hok)
  have hm52 := hok.2.1
  go_enter Try.func26, Try.ntmps26
  go_wp2_with (go_at_call 20; refine (HC.out _).mono ?_; rintro r w1 ⟨rfl, hw⟩; subst hw)
  refine (natOf_any hi _ a0 a1).mono ?_
  rintro r w2 ⟨ah, lh, ch, dh, rfl, rh, kh, vh, lbh, th, hb2, -⟩
  have d0 : w2.cell? ⟨w.heap.size, 0, none⟩ = some (.int .i64 m) := cellLater hb2 (by simp)
  have d1 : w2.cell? ⟨w.heap.size, 1, none⟩ = some (.int .i64 x) := cellLater hb2 (by simp)
  have hbW : Below w.heap.size w ((w.alloc (fmtR m x)).alloc (fmtR m x)) := below_two _ _ _
  have HB2 := hidden (hbW.trans (hb2.mono hbW.size))
  have H2 := hidden (has_of rh kh vh th)
  clear rh kh vh th hb2 hbW
  go_wp2_with fail
  refine (up_any ah lh ch dh 64 _ H2.out.rd H2.out.ok (by omega) (by omega)).mono ?_
  rintro r w3 ⟨au, lu, cu, du, rfl, ru, ku, vu, lbu, tu, hb3, -⟩
  rw [H2.out.val] at vu
  have H3 := hidden (has_of ru ku vu tu)
  replace d0 := cellLater hb3 d0
  replace d1 := cellLater hb3 d1
  replace HB2 := hidden (HB2.out.trans (hb3.mono HB2.out.size))
  clear ru ku vu tu hb3 H2
  go_wp2_with fail
  refine (natOf_any lo _ b0 b1).mono ?_
  rintro r w4 ⟨al, ll, cl, dl, rfl, rl, kl, vl, lbl, tl, hb4, -⟩
  replace H3 := hidden (H3.out.later hb4)
  have H4 := hidden (has_of rl kl vl tl)
  replace d0 := cellLater hb4 d0
  replace d1 := cellLater hb4 d1
  replace HB2 := hidden (HB2.out.trans (hb4.mono HB2.out.size))
  clear rl kl vl tl hb4
  go_wp2_with fail
  refine (plus_any au al lu cu ll cl du dl _ H3.out.rd H4.out.rd H3.out.ok H4.out.ok (by omega) (by omega)).mono ?_
  rintro r w5 ⟨az, ls, cs, ds, rfl, rs, ks, vs, lbs, ts, hb5, -⟩
  rw [H3.out.val, H4.out.val, show p2 64 = 18446744073709551616 by decide +kernel, hN] at vs
  have H5 := hidden (has_of rs ks vs ts)
  replace d0 := cellLater hb5 d0
  replace d1 := cellLater hb5 d1
  replace HB2 := hidden (HB2.out.trans (hb5.mono HB2.out.size))
  have hls : ls ≤ 10 := by omega
  clear rs ks vs ts hb5 H3 H4
  have k1 : IntKind.i64.wrap ((m : Int) + 3) = (m : Int) + 3 := wrapi _ (by omega) (by omega)
  have hN0 : 0 ≤ N := by omega
  have hx2 : 2 ≤ x := by have := hok.2.2.1; omega
  go_wp2_with fail
  go_region_held3 (fun w' => w'.cell? ⟨w.heap.size, 0, none⟩ = some (.int .i64 m) ∧ w'.cell? ⟨w.heap.size, 1, none⟩ = some (.int .i64 x)) (simp [*]) (first | (go_at_call 51; refine (bits_bl (H5.out.later ((Below.refl _ _).drew)) (by omega)).mono ?_; rintro r w6 ⟨rfl, hw⟩; obtain rfl := hw.symm))
  all_goals
    go_wp2
    go_ret2
    refine ⟨?_, HB2.out.drew⟩
    first
      | rfl
      | (rw [if_pos ⟨rfl, by omega⟩]; rfl)
theorem rpack_any (m x : Nat) (neg more : Bool) (N hi lo e : Int) (w : World) (hok : okF m x) (e0 : -4096 ≤ e) (e1 : e ≤ 4096) (hN : hi * 18446744073709551616 + lo = N) (a0 : 0 ≤ hi) (a1 : hi ≤ 18446744073709551615) (b0 : 0 ≤ lo) (b1 : lo ≤ 18446744073709551615) (hk : more = true → (m : Int) + 3 ≤ bl N) :
    Calls Try.prog 26 #[.agg #[.int .i64 m, .int .i64 x], .bool neg, .int .u64 hi, .int .u64 lo, .int .i64 e, .bool more] w fun r w' => r = .returned (.tuple #[.int .u64 (packP m x N e more + sgnW neg (m + x)), .int .i64 0]) ∧ Below w.heap.size w w' := by
  have HC := hidden (fun w => check_ok m x w hok)
  have hm52 := hok.2.1
  go_enter Try.func26, Try.ntmps26
  go_wp2_with (go_at_call 20; refine (HC.out _).mono ?_; rintro r w1 ⟨rfl, hw⟩; subst hw)
  refine (natOf_any hi _ a0 a1).mono ?_
  rintro r w2 ⟨ah, lh, ch, dh, rfl, rh, kh, vh, lbh, th, hb2, -⟩
  have d0 : w2.cell? ⟨w.heap.size, 0, none⟩ = some (.int .i64 m) := cellLater hb2 (by simp)
  have d1 : w2.cell? ⟨w.heap.size, 1, none⟩ = some (.int .i64 x) := cellLater hb2 (by simp)
  have hbW : Below w.heap.size w ((w.alloc (fmtR m x)).alloc (fmtR m x)) := below_two _ _ _
  have HB2 := hidden (hbW.trans (hb2.mono hbW.size))
  have H2 := hidden (has_of rh kh vh th)
  clear rh kh vh th hb2 hbW
  go_wp2_with fail
  refine (up_any ah lh ch dh 64 _ H2.out.rd H2.out.ok (by omega) (by omega)).mono ?_
  rintro r w3 ⟨au, lu, cu, du, rfl, ru, ku, vu, lbu, tu, hb3, -⟩
  rw [H2.out.val] at vu
  have H3 := hidden (has_of ru ku vu tu)
  replace d0 := cellLater hb3 d0
  replace d1 := cellLater hb3 d1
  replace HB2 := hidden (HB2.out.trans (hb3.mono HB2.out.size))
  clear ru ku vu tu hb3 H2
  go_wp2_with fail
  refine (natOf_any lo _ b0 b1).mono ?_
  rintro r w4 ⟨al, ll, cl, dl, rfl, rl, kl, vl, lbl, tl, hb4, -⟩
  replace H3 := hidden (H3.out.later hb4)
  have H4 := hidden (has_of rl kl vl tl)
  replace d0 := cellLater hb4 d0
  replace d1 := cellLater hb4 d1
  replace HB2 := hidden (HB2.out.trans (hb4.mono HB2.out.size))
  clear rl kl vl tl hb4
  go_wp2_with fail
  refine (plus_any au al lu cu ll cl du dl _ H3.out.rd H4.out.rd H3.out.ok H4.out.ok (by omega) (by omega)).mono ?_
  rintro r w5 ⟨az, ls, cs, ds, rfl, rs, ks, vs, lbs, ts, hb5, -⟩
  rw [H3.out.val, H4.out.val, show p2 64 = 18446744073709551616 by decide +kernel, hN] at vs
  have H5 := hidden (has_of rs ks vs ts)
  replace d0 := cellLater hb5 d0
  replace d1 := cellLater hb5 d1
  replace HB2 := hidden (HB2.out.trans (hb5.mono HB2.out.size))
  have hls : ls ≤ 10 := by omega
  clear rs ks vs ts hb5 H3 H4
  have k1 : IntKind.i64.wrap ((m : Int) + 3) = (m : Int) + 3 := wrapi _ (by omega) (by omega)
  have hN0 : 0 ≤ N := by omega
  have hx2 : 2 ≤ x := by have := hok.2.2.1; omega
  cases more
  · go_wp2_with fail
    go_quiet (fail)
    have hb6 := below_drewN (Below.refl w5.heap.size w5) nq
    have H6 := hidden (H5.out.later hb6)
    have HB6 := hidden (HB2.out.trans (hb6.mono HB2.out.size))
    replace d0 := cellLater hb6 d0
    replace d1 := cellLater hb6 d1
    clear hb6
    generalize w5.drewN nq = w6 at *
    go_wp2_with fail
    refine (up_any az ls cs ds 1 _ H6.out.rd H6.out.ok (by omega) (by omega)).mono ?_
    rintro r w7 ⟨ap, lp, cp, dp, rfl, rp, kp, vp, lbp, tp, hb7, -⟩
    rw [H6.out.val, show N * p2 1 = 2 * N by rw [show p2 1 = 2 by rfl]; omega] at vp
    have H7 := hidden (has_of rp kp vp tp)
    have hlp : lp ≤ 12 := by omega
    replace d0 := cellLater hb7 d0
    replace d1 := cellLater hb7 d1
    have HB7 := hidden (HB6.out.trans (hb7.mono HB6.out.size))
    clear rp kp vp tp hb7 lbp
    have hone : Below w7.heap.size w7 (w7.alloc (.cells #[.int .i64 1] 3)) := (Below.refl _ _).alloc (Nat.le_refl _) _
    have H1 := hidden (has_of (rd_one w7) (fun d hd => by simp at hd; omega) (show nv [1] = 1 by simp [nv]) (.inr (by simp)))
    have HA := hidden (H7.out.later hone)
    have HBn := hidden (HB7.out.trans (hone.mono HB7.out.size))
    clear hone
    go_wp2_with fail
    refine (near_any m x neg _ _ lp cp 1 1 dp [1] (2 * N) 1 (e - 1) _ hok HA.out H1.out (by decide) (by omega) (by omega) (by omega) (by omega)).mono ?_
    rintro r w9 ⟨P, rfl, hP, hb9⟩
    have HB9 := hidden (HBn.out.trans (hb9.mono HBn.out.size))
    have HP := hidden hP
    clear hb9 hP
    go_wp2
    go_ret2
    refine ⟨?_, HB9.out⟩
    have e9 : P = packP m x N e false := by
      rcases HP.out with ⟨h, h2⟩ | ⟨h, h2⟩
      · have hz : N = 0 := by omega
        rw [h2, hz]; unfold packP; simp
      · exact near_pack m x N e P false (by omega) hx2 (fun h => by cases h) (by simpa using h2)
    rw [e9]
    rfl
  · replace hk := hk rfl
    have hf : ¬ (bl N : Int) < (m : Int) + 3 := by omega
    go_wp2_with fail
    go_region_held3 (fun w' => w'.cell? ⟨w.heap.size, 0, none⟩ = some (.int .i64 m) ∧ w'.cell? ⟨w.heap.size, 1, none⟩ = some (.int .i64 x)) (simp [*]) (first | (go_at_call 51; refine (bits_bl (H5.out.later ((Below.refl _ _).drew)) (by omega)).mono ?_; rintro r w6 ⟨rfl, hw⟩; obtain rfl := hw.symm))
    all_goals
      have hb6 : Below w5.heap.size w5 w5.drew := (Below.refl _ _).drew
      have H6 := hidden (H5.out.later hb6)
      have HB6 := hidden (HB2.out.trans (hb6.mono HB2.out.size))
      replace d0 := cellLater hb6 d0
      replace d1 := cellLater hb6 d1
      clear hb6
      generalize w5.drew = w6 at *
      go_wp2_with fail
      refine (up_any az ls cs ds 1 _ H6.out.rd H6.out.ok (by omega) (by omega)).mono ?_
      rintro r w7 ⟨ap, lp, cp, dp, rfl, rp, kp, vp, lbp, tp, hb7, -⟩
      rw [H6.out.val, show N * p2 1 = 2 * N by rw [show p2 1 = 2 by rfl]; omega] at vp
      have H7 := hidden (has_of rp kp vp tp)
      have hlp : lp ≤ 12 := by omega
      replace d0 := cellLater hb7 d0
      replace d1 := cellLater hb7 d1
      have HB7 := hidden (HB6.out.trans (hb7.mono HB6.out.size))
      clear rp kp vp tp hb7 lbp
      have hone : Below w7.heap.size w7 (w7.alloc (.cells #[.int .i64 1] 3)) := (Below.refl _ _).alloc (Nat.le_refl _) _
      have H1 := hidden (has_of (rd_one w7) (fun d hd => by simp at hd; omega) (show nv [1] = 1 by simp [nv]) (.inr (by simp)))
      have HA := hidden (H7.out.later hone)
      replace d0 := cellLater hone d0
      replace d1 := cellLater hone d1
      replace HB7 := hidden (HB7.out.trans (hone.mono HB7.out.size))
      clear hone
      go_wp2_with fail
      refine (plus_any ap _ lp cp 1 1 dp [1] _ HA.out.rd H1.out.rd HA.out.ok H1.out.ok (by omega) (by omega)).mono ?_
      rintro r w8 ⟨aq, lq, cq, dq, rfl, rq, kq, vq, lbq, tq, hb8, -⟩
      rw [HA.out.val, H1.out.val] at vq
      have H8 := hidden (has_of rq kq vq tq)
      have hlq : lq ≤ 14 := by omega
      replace d0 := cellLater hb8 d0
      replace d1 := cellLater hb8 d1
      replace HB7 := hidden (HB7.out.trans (hb8.mono HB7.out.size))
      clear rq kq vq tq hb8 lbq HA H1 H7
      have hone : Below w8.heap.size w8 (w8.alloc (.cells #[.int .i64 1] 3)) := (Below.refl _ _).alloc (Nat.le_refl _) _
      have H1 := hidden (has_of (rd_one w8) (fun d hd => by simp at hd; omega) (show nv [1] = 1 by simp [nv]) (.inr (by simp)))
      have HA := hidden (H8.out.later hone)
      have HBn := hidden (HB7.out.trans (hone.mono HB7.out.size))
      clear hone
      go_wp2_with fail
      refine (near_any m x neg _ _ lq cq 1 1 dq [1] (2 * N + 1) 1 (e - 1) _ hok HA.out H1.out (by decide) (by omega) (by omega) (by omega) (by omega)).mono ?_
      rintro r w9 ⟨P, rfl, hP, hb9⟩
      have HB9 := hidden (HBn.out.trans (hb9.mono HBn.out.size))
      have HP := hidden hP
      clear hb9 hP
      go_wp2
      go_ret2
      refine ⟨?_, HB9.out⟩
      have e9 : P = packP m x N e true := by
        rcases HP.out with ⟨h, h2⟩ | ⟨h, h2⟩
        · omega
        · have hNp : 0 < N := by
            rcases Int.lt_or_le 0 N with h3 | h3
            · exact h3
            · have : bl N = 0 := by unfold bl; rw [if_pos h3]
              omega
          exact near_pack m x N e P true hNp hx2 (fun _ => by omega) (by simpa using h2)
      rw [e9]
      rfl
end Go.Proofs.Ythmobhnkoinmcaa
