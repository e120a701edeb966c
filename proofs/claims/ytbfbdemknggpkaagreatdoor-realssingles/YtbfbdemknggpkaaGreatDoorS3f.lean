/- Contract of the document's plus (package grottoref03): the exact sum. -/
import Derived.Test.YtbfbdemknggpkaaGreatDoorS3e
namespace Go.Proofs.YtbfbdemknggpkaaGreatDoor
open Go.RowKit
set_option maxRecDepth 100000
set_option maxHeartbeats 1000000
set_option linter.unusedVariables false

/-- an exact number in a box that may be written -/
def RsAt (w : World) (b : Nat) (S : Int) (v : Value) (E : Int) : Prop := w.cell? ⟨b, 0, none⟩ = some (.int .i64 S) ∧ w.cell? ⟨b, 1, none⟩ = some v ∧ w.cell? ⟨b, 2, none⟩ = some (.int .i64 E) ∧ w.frozen? ⟨b, 0, none⟩ = false ∧ w.frozen? ⟨b, 1, none⟩ = false ∧ w.frozen? ⟨b, 2, none⟩ = false
theorem rs_of {X w2 : World} (hb : Below X.heap.size X w2) {b : Nat} {S E : Int} {v : Value} (h : RsAt X b S v E) : RsAt w2 b S v E := by
  obtain ⟨h0, h1, h2, k0, k1, k2⟩ := h
  have hl : b < X.heap.size := World.block_lt_of_cell? _ _ h0
  exact ⟨cellLater hb h0, cellLater hb h1, cellLater hb h2, (hb.frozen hl).trans k0, (hb.frozen hl).trans k1, (hb.frozen hl).trans k2⟩
theorem rs_fresh (X : World) (S E : Int) (a : Option Addr) (l c : Nat) : RsAt (X.alloc (.cells #[.int .i64 S, .slice a l c, .int .i64 E] 61)) X.heap.size S (.slice a l c) E := by unfold RsAt; simp
theorem rs_alloc {X : World} (o : Obj) {b : Nat} {S E : Int} {v : Value} (h : RsAt X b S v E) : RsAt (X.alloc o) b S v E := rs_of ((Below.refl _ _).alloc (Nat.le_refl _) _) h
theorem rs_set3 {X : World} {b c : Nat} {S E : Int} {v : Value} (h : RsAt X b S v E) (hn : ¬ c = b) (a0 a1 a2 : Value) : RsAt (set3 X c a0 a1 a2) b S v E := by
  obtain ⟨h0, h1, h2, k0, k1, k2⟩ := h
  refine ⟨(set3_far _ _ _ _ _ _ _ hn).trans h0, (set3_far _ _ _ _ _ _ _ hn).trans h1, (set3_far _ _ _ _ _ _ _ hn).trans h2, ?_, ?_, ?_⟩ <;> (unfold set3; simp only [World.frozen?_setCell]; assumption)
theorem rs_put {X : World} {b : Nat} {S E : Int} {v : Value} (h : RsAt X b S v E) (S' E' : Int) (v' : Value) : RsAt (set3 X b (.int .i64 S') v' (.int .i64 E')) b S' v' E' := by
  obtain ⟨h0, h1, h2, k0, k1, k2⟩ := h
  obtain ⟨i0, i1, i2⟩ := set3_at X b (.int .i64 S') v' (.int .i64 E') _ _ _ h0 h1 h2
  refine ⟨i0, i1, i2, ?_, ?_, ?_⟩ <;> (unfold set3; simp only [World.frozen?_setCell]; assumption)
def PlusRet (w : World) (S e : Int) (L : Nat) (r : Ending) (w' : World) : Prop :=
  ∃ s a l c ds N, r = .returned (.agg #[.int .i64 s, .slice a l c, .int .i64 e]) ∧ HasNat w' a l c ds N ∧ (s = 1 ∨ s = -1) ∧ s * N = S ∧ l ≤ L ∧ Below w.heap.size w w' ∧ ∀ p, a = some p → w.heap.size ≤ p.block
theorem plus_walk (S1 S2 E1 E2 A1 A2 e : Int) (x1 x2 : Option Addr) (l1 c1 l2 c2 k1 k2 : Nat) (d1 d2 : List Int) (w : World) (h1 : HasNat w x1 l1 c1 d1 A1) (h2 : HasNat w x2 l2 c2 d2 A2) (hl1 : (l1 : Int) ≤ 1000) (hl2 : (l2 : Int) ≤ 1000)
    (he : min E1 E2 = e) (hk1 : E1 - e = k1) (hk2 : E2 - e = k2) (hb1 : (k1 : Int) ≤ 10000) (hb2 : (k2 : Int) ≤ 10000) (b1 : -100000 ≤ E1 ∧ E1 ≤ 100000) (b2 : -100000 ≤ E2 ∧ E2 ≤ 100000) (s1 : S1 = 1 ∨ S1 = -1) (s2 : S2 = 1 ∨ S2 = -1) :
    Calls Tryz.prog 37 #[.agg #[.int .i64 S1, .slice x1 l1 c1, .int .i64 E1], .agg #[.int .i64 S2, .slice x2 l2 c2, .int .i64 E2]] w fun r w' => PlusRet w (S1 * (A1 * p2 k1) + S2 * (A2 * p2 k2)) e (k1 / 16 + l1 + k2 / 16 + l2 + 3) r w' := by
  have hW0 : Below w.heap.size w (((w.alloc (.cells #[.int .i64 S1, .slice x1 l1 c1, .int .i64 E1] 61)).alloc (.cells #[.int .i64 S2, .slice x2 l2 c2, .int .i64 E2] 61)).alloc (.cells #[.int .i64 0, .slice none 0 0, .int .i64 0] 61)) := (((Below.refl _ _).alloc (Nat.le_refl _) _).alloc (by simp) _).alloc (by simp; omega) _
  have HA := hidden (fun W h => alike_any S1 S2 E1 E2 A1 A2 e x1 x2 l1 c1 l2 c2 k1 k2 d1 d2 W (h1.later h) (h2.later h) hl1 hl2 he hk1 hk2 hb1 hb2 b1 b2)
  have r0 : RsAt (((w.alloc (.cells #[.int .i64 S1, .slice x1 l1 c1, .int .i64 E1] 61)).alloc (.cells #[.int .i64 S2, .slice x2 l2 c2, .int .i64 E2] 61)).alloc (.cells #[.int .i64 0, .slice none 0 0, .int .i64 0] 61)) (w.heap.size) S1 (.slice x1 l1 c1) E1 := rs_alloc _ (rs_alloc _ (rs_fresh w S1 E1 x1 l1 c1))
  have r1 : RsAt (((w.alloc (.cells #[.int .i64 S1, .slice x1 l1 c1, .int .i64 E1] 61)).alloc (.cells #[.int .i64 S2, .slice x2 l2 c2, .int .i64 E2] 61)).alloc (.cells #[.int .i64 0, .slice none 0 0, .int .i64 0] 61)) (w.heap.size + 1) S2 (.slice x2 l2 c2) E2 := by
    have h := rs_alloc (.cells #[.int .i64 0, .slice none 0 0, .int .i64 0] 61) (rs_fresh (w.alloc (.cells #[.int .i64 S1, .slice x1 l1 c1, .int .i64 E1] 61)) S2 E2 x2 l2 c2)
    simpa using h
  have r2 : RsAt (((w.alloc (.cells #[.int .i64 S1, .slice x1 l1 c1, .int .i64 E1] 61)).alloc (.cells #[.int .i64 S2, .slice x2 l2 c2, .int .i64 E2] 61)).alloc (.cells #[.int .i64 0, .slice none 0 0, .int .i64 0] 61)) (w.heap.size + 1 + 1) 0 (.slice none 0 0) 0 := by
    have h := rs_fresh ((w.alloc (.cells #[.int .i64 S1, .slice x1 l1 c1, .int .i64 E1] 61)).alloc (.cells #[.int .i64 S2, .slice x2 l2 c2, .int .i64 E2] 61)) 0 0 none 0 0
    simpa using h
  have hsz : (((w.alloc (.cells #[.int .i64 S1, .slice x1 l1 c1, .int .i64 E1] 61)).alloc (.cells #[.int .i64 S2, .slice x2 l2 c2, .int .i64 E2] 61)).alloc (.cells #[.int .i64 0, .slice none 0 0, .int .i64 0] 61)).heap.size = w.heap.size + 3 := by simp
  have HW := hidden hW0
  have SS1 := hidden s1
  have SS2 := hidden s2
  have HQ1 : k1 / 16 + l1 + 1 ≤ 1700 := by omega
  have HQ2 : k2 / 16 + l2 + 1 ≤ 1700 := by omega
  clear h1 h2 he hk1 hk2 hb1 hb2 b1 b2 hl1 hl2 s1 s2 hW0
  go_enter Tryz.func37, Tryz.ntmps37
  go_upto_region 1 with fail
  generalize (((w.alloc (.cells #[.int .i64 S1, .slice x1 l1 c1, .int .i64 E1] 61)).alloc (.cells #[.int .i64 S2, .slice x2 l2 c2, .int .i64 E2] 61)).alloc (.cells #[.int .i64 0, .slice none 0 0, .int .i64 0] 61)) = w4 at *
  have HSZ := hidden hsz
  clear hsz
  have HR0 := hidden r0
  have HR1 := hidden r1
  have HR2 := hidden r2
  obtain ⟨u0, u1, u2, u3, u4, u5⟩ := r0
  obtain ⟨v0, v1, v2, v3, v4, v5⟩ := r1
  clear r2
  go_wp2_with fail
  refine (HA.out w4 HW.out).mono ?_
  rintro r w1 ⟨au, lu, cu, du, av, lv, cv, dv, rfl, hu, hv, lu1, lv1, hb1, nu, nv'⟩
  have t0 := rs_of hb1 HR0.out
  have t1 := rs_of hb1 HR1.out
  have t2 := rs_of hb1 HR2.out
  have e4 := HSZ.out
  have n01 : ¬ w.heap.size = w.heap.size + 1 := by omega
  have n10 : ¬ w.heap.size + 1 = w.heap.size := by omega
  have n02 : ¬ w.heap.size = w.heap.size + 1 + 1 := by omega
  have n12 : ¬ w.heap.size + 1 = w.heap.size + 1 + 1 := by omega
  have X0 : RsAt (set3 (set3 w1 (w.heap.size) (.int .i64 S1) (.slice au lu cu) (.int .i64 e)) (w.heap.size + 1) (.int .i64 S2) (.slice av lv cv) (.int .i64 e)) (w.heap.size) S1 (.slice au lu cu) e := rs_set3 (rs_put t0 S1 e (.slice au lu cu)) n10 _ _ _
  have X1 : RsAt (set3 (set3 w1 (w.heap.size) (.int .i64 S1) (.slice au lu cu) (.int .i64 e)) (w.heap.size + 1) (.int .i64 S2) (.slice av lv cv) (.int .i64 e)) (w.heap.size + 1) S2 (.slice av lv cv) e := rs_put (rs_set3 t1 n01 _ _ _) S2 e (.slice av lv cv)
  have X2 : RsAt (set3 (set3 w1 (w.heap.size) (.int .i64 S1) (.slice au lu cu) (.int .i64 e)) (w.heap.size + 1) (.int .i64 S2) (.slice av lv cv) (.int .i64 e)) (w.heap.size + 1 + 1) 0 (.slice none 0 0) 0 := rs_set3 (rs_set3 t2 n02 _ _ _) n12 _ _ _
  have Y1 : HasNat (set3 (set3 w1 (w.heap.size) (.int .i64 S1) (.slice au lu cu) (.int .i64 e)) (w.heap.size + 1) (.int .i64 S2) (.slice av lv cv) (.int .i64 e)) au lu cu du (A1 * p2 k1) := has_of3 (rd_set3 (rd_set3 hu.rd (w.heap.size) _ _ _ fun p hp => by have := nu p hp; omega) (w.heap.size + 1) _ _ _ fun p hp => by have := nu p hp; omega) hu.ok hu.val hu.top
  have Y2 : HasNat (set3 (set3 w1 (w.heap.size) (.int .i64 S1) (.slice au lu cu) (.int .i64 e)) (w.heap.size + 1) (.int .i64 S2) (.slice av lv cv) (.int .i64 e)) av lv cv dv (A2 * p2 k2) := has_of3 (rd_set3 (rd_set3 hv.rd (w.heap.size) _ _ _ fun p hp => by have := nv' p hp; omega) (w.heap.size + 1) _ _ _ fun p hp => by have := nv' p hp; omega) hv.ok hv.val hv.top
  have hB1 := HW.out.trans (hb1.mono HW.out.size)
  have hB5 : Below w.heap.size w (set3 (set3 w1 (w.heap.size) (.int .i64 S1) (.slice au lu cu) (.int .i64 e)) (w.heap.size + 1) (.int .i64 S2) (.slice av lv cv) (.int .i64 e)) := set3_below (set3_below hB1 _ (by omega) _ _ _) _ (by omega) _ _ _
  have HB5 := hidden hB5
  have hs1 := hb1.size
  have HT0 := hidden t0
  have HT1 := hidden t1
  have HX0 := hidden X0
  have HX1 := hidden X1
  have HX2 := hidden X2
  have HY1 := hidden Y1
  have HY2 := hidden Y2
  have hsx : (set3 (set3 w1 (w.heap.size) (.int .i64 S1) (.slice au lu cu) (.int .i64 e)) (w.heap.size + 1) (.int .i64 S2) (.slice av lv cv) (.int .i64 e)).heap.size = w1.heap.size := by unfold set3; simp
  have HB5s := hidden (show w.heap.size + 1 + 1 < (set3 (set3 w1 (w.heap.size) (.int .i64 S1) (.slice au lu cu) (.int .i64 e)) (w.heap.size + 1) (.int .i64 S2) (.slice av lv cv) (.int .i64 e)).heap.size by rw [hsx]; omega)
  have HLU := hidden lu1
  have HLV := hidden lv1
  clear X0 X1 X2 Y1 Y2 hB1 hB5 hu hv nu nv' lu1 lv1 u0 u1 u2 u3 u4 u5 v0 v1 v2 v3 v4 v5 hb1 hs1 e4 hsx HA HR0 HR1 HR2 HSZ HW
  obtain ⟨u0, u1, u2, u3, u4, u5⟩ := t0
  obtain ⟨v0, v1, v2, v3, v4, v5⟩ := t1
  go_upto_region 2 with fail
  clear u0 u1 u2 u3 u4 u5 v0 v1 v2 v3 v4 v5 t2 HT0 HT1 n01 n10 n02 n12
  change Code.wp _ _ _ _ (set3 (set3 w1 (w.heap.size) (.int .i64 S1) (.slice au lu cu) (.int .i64 e)) (w.heap.size + 1) (.int .i64 S2) (.slice av lv cv) (.int .i64 e))
  generalize (set3 (set3 w1 (w.heap.size) (.int .i64 S1) (.slice au lu cu) (.int .i64 e)) (w.heap.size + 1) (.int .i64 S2) (.slice av lv cv) (.int .i64 e)) = w5 at *
  obtain ⟨p0, p1, p2', -⟩ := HX0.out
  obtain ⟨q0', q1', q2', -⟩ := HX1.out
  have ZR := hidden HX2.out
  clear HX0 HX1 HX2
  have m20 : ¬ w.heap.size + 1 + 1 = w.heap.size := by omega
  have m21 : ¬ w.heap.size + 1 + 1 = w.heap.size + 1 := by omega
  have L1 : (lu : Int) ≤ 5000 := by have := HLU.out; omega
  have L2 : (lv : Int) ≤ 5000 := by have := HLV.out; omega
  by_cases hS : S1 = S2
  · have hs : (S1 == S2) = true := by simpa using hS
    have HEQ := hidden hS
    have HNE : Hid True := trivial
    clear hS
    go_upto_region 3 with fail
    go_region_held3 (fun w' => w'.cell? ⟨w.heap.size, 0, none⟩ = some (.int .i64 S1) ∧ w'.cell? ⟨w.heap.size, 1, none⟩ = some (.slice au lu cu) ∧ w'.cell? ⟨w.heap.size, 2, none⟩ = some (.int .i64 e) ∧ w'.cell? ⟨w.heap.size + 1, 0, none⟩ = some (.int .i64 S2) ∧ w'.cell? ⟨w.heap.size + 1, 1, none⟩ = some (.slice av lv cv) ∧ w'.cell? ⟨w.heap.size + 1, 2, none⟩ = some (.int .i64 e)) (first | (refine ⟨?_, ?_, ?_, ?_, ?_, ?_⟩ <;> with_reducible assumption) | go_keep) (first | (go_at_call 49; refine (plus_any au av lu cu lv cv du dv _ (HY1.out.later ((Below.refl _ _).drew)).rd (HY2.out.later ((Below.refl _ _).drew)).rd HY1.out.ok HY2.out.ok (by omega) (by omega)).mono ?_; rintro r w6 ⟨an, ln, cn, dn, rfl, ru, ku, vu, lbu, tu, hb6, nw6⟩; have cc := six_later hb6 (six_later ((Below.refl _ _).drew) ⟨p0, p1, p2', q0', q1', q2'⟩); have zz := rs_of hb6 (rs_of ((Below.refl _ _).drew) ZR.out); have U := hidden (has_of3 ru ku vu tu); have HB6 := hidden (HB5.out.drew.trans (hb6.mono HB5.out.drew.size)); have NW := hidden nw6; have LB := hidden lbu; clear hb6 nw6 lbu ru ku vu tu p0 p1 p2' q0' q1' q2' ZR; obtain ⟨p0, p1, p2', q0', q1', q2'⟩ := cc; obtain ⟨z0, z1, z2, z3, z4, z5⟩ := zz))
    all_goals
      have hne : ∀ p, an = some p → ¬ w.heap.size + 1 + 1 = p.block := fun p hp => by
        have h := NW.out p hp
        have h2 := HB5s.out
        simp at h
        omega
      obtain ⟨i0, i1, i2⟩ := set3_at w6 (w.heap.size + 1 + 1) (.int .i64 S1) (.slice an ln cn) (.int .i64 e) _ _ _ z0 z1 z2
      have hH := has_of3 (rd_set3 U.out.rd (w.heap.size + 1 + 1) (.int .i64 S1) (.slice an ln cn) (.int .i64 e) hne) U.out.ok U.out.val U.out.top
      have hF := set3_below HB6.out (w.heap.size + 1 + 1) (by omega) (.int .i64 S1) (.slice an ln cn) (.int .i64 e)
      have HH := hidden hH
      have HF := hidden hF
      clear hH hF hne p0 p1 p2' q0' q1' q2'
      go_wp2
      change bodyPost _ _ _ _ _ (set3 w6 (w.heap.size + 1 + 1) (.int .i64 S1) (.slice an ln cn) (.int .i64 e))
      generalize set3 w6 (w.heap.size + 1 + 1) (.int .i64 S1) (.slice an ln cn) (.int .i64 e) = wf at *
      refine bodyPost_ret (v := .agg #[.int .i64 S1, .slice an ln cn, .int .i64 e]) (by simp [results, Tryz.results37, go_sem, i0, i1, i2]) rfl ?_
      have hv := HH.out
      rw [HY1.out.val, HY2.out.val] at hv
      have l1' := HLU.out
      have l2' := HLV.out
      have l3' := LB.out
      refine ⟨S1, an, ln, cn, dn, _, rfl, hv, SS1.out, ?_, by omega, HF.out, fun p hp => by have h := NW.out p hp; have h2 := HB5s.out; simp at h; omega⟩
      rw [← HEQ.out, Int.mul_add]
  · have hs : (S1 == S2) = false := by simpa using hS
    have HNE := hidden hS
    have HEQ : Hid True := trivial
    clear hS
    go_wp2_with fail
    refine (cmp_any au av lu cu lv cv du dv _ HY1.out.rd HY2.out.rd HY1.out.ok HY2.out.ok (by omega) (by omega)).mono ?_
    rintro r w2 ⟨rfl, hb2⟩
    rw [HY1.out.val, HY2.out.val]
    have cc := six_later hb2 ⟨p0, p1, p2', q0', q1', q2'⟩
    have ZR' := hidden (rs_of hb2 ZR.out)
    have HB5' := hidden (HB5.out.trans (hb2.mono HB5.out.size))
    have HB5s' := hidden (Nat.lt_of_lt_of_le HB5s.out hb2.size)
    have HY1' := hidden (HY1.out.later hb2)
    have HY2' := hidden (HY2.out.later hb2)
    clear hb2 p0 p1 p2' q0' q1' q2' ZR HB5 HB5s HY1 HY2
    obtain ⟨p0, p1, p2', q0', q1', q2'⟩ := cc
    have ZR := ZR'
    have HB5 := HB5'
    have HB5s := HB5s'
    have HY1 := HY1'
    have HY2 := HY2'
    clear ZR' HB5' HB5s' HY1' HY2'
    by_cases hc : A2 * p2 k2 ≤ A1 * p2 k1
    · have hcm : 0 ≤ cmpI (A1 * p2 k1) (A2 * p2 k2) := by unfold cmpI; split <;> (try split) <;> omega
      have HC := hidden hc
      clear hc
      generalize cmpI (A1 * p2 k1) (A2 * p2 k2) = CC at *
      go_upto_region 5 with fail
      go_region_held3 (fun w' => w'.cell? ⟨w.heap.size, 0, none⟩ = some (.int .i64 S1) ∧ w'.cell? ⟨w.heap.size, 1, none⟩ = some (.slice au lu cu) ∧ w'.cell? ⟨w.heap.size, 2, none⟩ = some (.int .i64 e) ∧ w'.cell? ⟨w.heap.size + 1, 0, none⟩ = some (.int .i64 S2) ∧ w'.cell? ⟨w.heap.size + 1, 1, none⟩ = some (.slice av lv cv) ∧ w'.cell? ⟨w.heap.size + 1, 2, none⟩ = some (.int .i64 e)) (first | (refine ⟨?_, ?_, ?_, ?_, ?_, ?_⟩ <;> with_reducible assumption) | go_keep) (first | (go_at_call 73; refine (minus_any au av lu cu lv cv du dv _ (HY1.out.later ((Below.refl _ _).drew)).rd (HY2.out.later ((Below.refl _ _).drew)).rd HY1.out.ok HY2.out.ok (by omega) (HY2.out.len_le HY1.out HC.out) (by rw [HY1.out.val, HY2.out.val]; exact HC.out)).mono ?_; rintro r w6 ⟨an, ln, cn, dn, rfl, ru, ku, vu, lbu, tu, hb6, nw6⟩; have cc := six_later hb6 (six_later ((Below.refl _ _).drew) ⟨p0, p1, p2', q0', q1', q2'⟩); have zz := rs_of hb6 (rs_of ((Below.refl _ _).drew) ZR.out); have U := hidden (has_of3 ru ku vu tu); have HB6 := hidden (HB5.out.drew.trans (hb6.mono HB5.out.drew.size)); have NW := hidden nw6; have LB := hidden lbu; clear hb6 nw6 lbu ru ku vu tu p0 p1 p2' q0' q1' q2' ZR; obtain ⟨p0, p1, p2', q0', q1', q2'⟩ := cc; obtain ⟨z0, z1, z2, z3, z4, z5⟩ := zz))
      all_goals
        have hne : ∀ p, an = some p → ¬ w.heap.size + 1 + 1 = p.block := fun p hp => by
          have h := NW.out p hp
          have h2 := HB5s.out
          simp at h
          omega
        obtain ⟨i0, i1, i2⟩ := set3_at w6 (w.heap.size + 1 + 1) (.int .i64 S1) (.slice an ln cn) (.int .i64 e) _ _ _ z0 z1 z2
        have hH := has_of3 (rd_set3 U.out.rd (w.heap.size + 1 + 1) (.int .i64 S1) (.slice an ln cn) (.int .i64 e) hne) U.out.ok U.out.val U.out.top
        have hF := set3_below HB6.out (w.heap.size + 1 + 1) (by omega) (.int .i64 S1) (.slice an ln cn) (.int .i64 e)
        have HH := hidden hH
        have HF := hidden hF
        clear hH hF hne p0 p1 p2' q0' q1' q2'
        go_wp2
        change bodyPost _ _ _ _ _ (set3 w6 (w.heap.size + 1 + 1) (.int .i64 S1) (.slice an ln cn) (.int .i64 e))
        generalize set3 w6 (w.heap.size + 1 + 1) (.int .i64 S1) (.slice an ln cn) (.int .i64 e) = wf at *
        refine bodyPost_ret (v := .agg #[.int .i64 S1, .slice an ln cn, .int .i64 e]) (by simp [results, Tryz.results37, go_sem, i0, i1, i2]) rfl ?_
        have hv := HH.out
        rw [HY1.out.val, HY2.out.val] at hv
        have l1' := HLU.out
        have l2' := HLV.out
        have l3' := LB.out
        refine ⟨S1, an, ln, cn, dn, _, rfl, hv, SS1.out, ?_, by omega, HF.out, fun p hp => by have h := NW.out p hp; have h2 := HB5s.out; simp at h; omega⟩
        have hneq := HNE.out
        rcases SS1.out with g1 | g1 <;> rcases SS2.out with g2 | g2 <;> rw [g1, g2] at hneq <;> rw [g1, g2] <;> omega
    · have hcm : ¬ 0 ≤ cmpI (A1 * p2 k1) (A2 * p2 k2) := by unfold cmpI; split <;> (try split) <;> omega
      have HC := hidden hc
      clear hc
      generalize cmpI (A1 * p2 k1) (A2 * p2 k2) = CC at *
      go_upto_region 6 with fail
      go_region_held3 (fun w' => w'.cell? ⟨w.heap.size, 0, none⟩ = some (.int .i64 S1) ∧ w'.cell? ⟨w.heap.size, 1, none⟩ = some (.slice au lu cu) ∧ w'.cell? ⟨w.heap.size, 2, none⟩ = some (.int .i64 e) ∧ w'.cell? ⟨w.heap.size + 1, 0, none⟩ = some (.int .i64 S2) ∧ w'.cell? ⟨w.heap.size + 1, 1, none⟩ = some (.slice av lv cv) ∧ w'.cell? ⟨w.heap.size + 1, 2, none⟩ = some (.int .i64 e)) (first | (refine ⟨?_, ?_, ?_, ?_, ?_, ?_⟩ <;> with_reducible assumption) | go_keep) (first | (go_at_call 73; refine (minus_any av au lv cv lu cu dv du _ (HY2.out.later ((Below.refl _ _).drew)).rd (HY1.out.later ((Below.refl _ _).drew)).rd HY2.out.ok HY1.out.ok (by omega) (HY1.out.len_le HY2.out (by have := HC.out; omega)) (by rw [HY1.out.val, HY2.out.val]; have := HC.out; omega)).mono ?_; rintro r w6 ⟨an, ln, cn, dn, rfl, ru, ku, vu, lbu, tu, hb6, nw6⟩; have cc := six_later hb6 (six_later ((Below.refl _ _).drew) ⟨p0, p1, p2', q0', q1', q2'⟩); have zz := rs_of hb6 (rs_of ((Below.refl _ _).drew) ZR.out); have U := hidden (has_of3 ru ku vu tu); have HB6 := hidden (HB5.out.drew.trans (hb6.mono HB5.out.drew.size)); have NW := hidden nw6; have LB := hidden lbu; clear hb6 nw6 lbu ru ku vu tu p0 p1 p2' q0' q1' q2' ZR; obtain ⟨p0, p1, p2', q0', q1', q2'⟩ := cc; obtain ⟨z0, z1, z2, z3, z4, z5⟩ := zz))
      all_goals
        have hne : ∀ p, an = some p → ¬ w.heap.size + 1 + 1 = p.block := fun p hp => by
          have h := NW.out p hp
          have h2 := HB5s.out
          simp at h
          omega
        obtain ⟨i0, i1, i2⟩ := set3_at w6 (w.heap.size + 1 + 1) (.int .i64 S2) (.slice an ln cn) (.int .i64 e) _ _ _ z0 z1 z2
        have hH := has_of3 (rd_set3 U.out.rd (w.heap.size + 1 + 1) (.int .i64 S2) (.slice an ln cn) (.int .i64 e) hne) U.out.ok U.out.val U.out.top
        have hF := set3_below HB6.out (w.heap.size + 1 + 1) (by omega) (.int .i64 S2) (.slice an ln cn) (.int .i64 e)
        have HH := hidden hH
        have HF := hidden hF
        clear hH hF hne p0 p1 p2' q0' q1' q2'
        go_wp2
        change bodyPost _ _ _ _ _ (set3 w6 (w.heap.size + 1 + 1) (.int .i64 S2) (.slice an ln cn) (.int .i64 e))
        generalize set3 w6 (w.heap.size + 1 + 1) (.int .i64 S2) (.slice an ln cn) (.int .i64 e) = wf at *
        refine bodyPost_ret (v := .agg #[.int .i64 S2, .slice an ln cn, .int .i64 e]) (by simp [results, Tryz.results37, go_sem, i0, i1, i2]) rfl ?_
        have hv := HH.out
        rw [HY1.out.val, HY2.out.val] at hv
        have l1' := HLU.out
        have l2' := HLV.out
        have l3' := LB.out
        refine ⟨S2, an, ln, cn, dn, _, rfl, hv, SS2.out, ?_, by omega, HF.out, fun p hp => by have h := NW.out p hp; have h2 := HB5s.out; simp at h; omega⟩
        have hneq := HNE.out
        rcases SS1.out with g1 | g1 <;> rcases SS2.out with g2 | g2 <;> rw [g1, g2] at hneq <;> rw [g1, g2] <;> omega
end Go.Proofs.YtbfbdemknggpkaaGreatDoor
