/- Contract of the document's alike (package grottoref03): two exact numbers with one exponent. -/
import Derived.Test.YtbfbdemknggpkaaGreatDoorS3d
namespace Go.Proofs.YtbfbdemknggpkaaGreatDoor
open Go.RowKit
set_option maxRecDepth 100000
set_option maxHeartbeats 4000000
set_option linter.unusedVariables false

theorem six_later {w6 w7 : World} {A B C D E F : Addr} {a b c d e f : Value} (hb : Below w6.heap.size w6 w7) (h : w6.cell? A = some a ∧ w6.cell? B = some b ∧ w6.cell? C = some c ∧ w6.cell? D = some d ∧ w6.cell? E = some e ∧ w6.cell? F = some f) : w7.cell? A = some a ∧ w7.cell? B = some b ∧ w7.cell? C = some c ∧ w7.cell? D = some d ∧ w7.cell? E = some e ∧ w7.cell? F = some f :=
  ⟨cellLater hb h.1, cellLater hb h.2.1, cellLater hb h.2.2.1, cellLater hb h.2.2.2.1, cellLater hb h.2.2.2.2.1, cellLater hb h.2.2.2.2.2⟩
/-- two exact numbers with the exponent e -/
def AlikeRet (w : World) (S1 S2 A1 A2 e : Int) (k1 k2 l1 l2 : Nat) (r : Ending) (w' : World) : Prop :=
  ∃ au lu cu du av lv cv dv, r = .returned (.tuple #[.agg #[.int .i64 S1, .slice au lu cu, .int .i64 e], .agg #[.int .i64 S2, .slice av lv cv, .int .i64 e]]) ∧ HasNat w' au lu cu du (A1 * p2 k1) ∧ HasNat w' av lv cv dv (A2 * p2 k2) ∧ lu ≤ k1 / 16 + l1 + 1 ∧ lv ≤ k2 / 16 + l2 + 1 ∧ Below w.heap.size w w' ∧ (∀ p, au = some p → w.heap.size ≤ p.block) ∧ (∀ p, av = some p → w.heap.size ≤ p.block)
theorem alike_any (S1 S2 E1 E2 A1 A2 e : Int) (x1 x2 : Option Addr) (l1 c1 l2 c2 k1 k2 : Nat) (d1 d2 : List Int) (w : World) (h1 : HasNat w x1 l1 c1 d1 A1) (h2 : HasNat w x2 l2 c2 d2 A2) (hl1 : (l1 : Int) ≤ 1000) (hl2 : (l2 : Int) ≤ 1000)
    (he : min E1 E2 = e) (hk1 : E1 - e = k1) (hk2 : E2 - e = k2) (hb1 : (k1 : Int) ≤ 10000) (hb2 : (k2 : Int) ≤ 10000) (b1 : -100000 ≤ E1 ∧ E1 ≤ 100000) (b2 : -100000 ≤ E2 ∧ E2 ≤ 100000) :
    Calls Tryz.prog 46 #[.agg #[.int .i64 S1, .slice x1 l1 c1, .int .i64 E1], .agg #[.int .i64 S2, .slice x2 l2 c2, .int .i64 E2]] w fun r w' => AlikeRet w S1 S2 A1 A2 e k1 k2 l1 l2 r w' := by
  have hW0 : Below w.heap.size w ((((w.alloc (.cells #[.int .i64 S1, .slice x1 l1 c1, .int .i64 E1] 61)).alloc (.cells #[.int .i64 S2, .slice x2 l2 c2, .int .i64 E2] 61)).alloc (.cells #[.int .i64 0, .slice none 0 0, .int .i64 0] 61)).alloc (.cells #[.int .i64 0, .slice none 0 0, .int .i64 0] 61)) := ((((Below.refl _ _).alloc (Nat.le_refl _) _).alloc (by simp) _).alloc (by simp; omega) _).alloc (by simp; omega) _
  have G1 := hidden (h1.later hW0)
  have G2 := hidden (h2.later hW0)
  have HB := hidden hW0
  have hA : Below (w.alloc (.cells #[.int .i64 S1, .slice x1 l1 c1, .int .i64 E1] 61)).heap.size (w.alloc (.cells #[.int .i64 S1, .slice x1 l1 c1, .int .i64 E1] 61)) ((((w.alloc (.cells #[.int .i64 S1, .slice x1 l1 c1, .int .i64 E1] 61)).alloc (.cells #[.int .i64 S2, .slice x2 l2 c2, .int .i64 E2] 61)).alloc (.cells #[.int .i64 0, .slice none 0 0, .int .i64 0] 61)).alloc (.cells #[.int .i64 0, .slice none 0 0, .int .i64 0] 61)) := (((Below.refl _ _).alloc (Nat.le_refl _) _).alloc (by simp) _).alloc (by simp) _
  have hB : Below ((w.alloc (.cells #[.int .i64 S1, .slice x1 l1 c1, .int .i64 E1] 61)).alloc (.cells #[.int .i64 S2, .slice x2 l2 c2, .int .i64 E2] 61)).heap.size ((w.alloc (.cells #[.int .i64 S1, .slice x1 l1 c1, .int .i64 E1] 61)).alloc (.cells #[.int .i64 S2, .slice x2 l2 c2, .int .i64 E2] 61)) ((((w.alloc (.cells #[.int .i64 S1, .slice x1 l1 c1, .int .i64 E1] 61)).alloc (.cells #[.int .i64 S2, .slice x2 l2 c2, .int .i64 E2] 61)).alloc (.cells #[.int .i64 0, .slice none 0 0, .int .i64 0] 61)).alloc (.cells #[.int .i64 0, .slice none 0 0, .int .i64 0] 61)) := ((Below.refl _ _).alloc (Nat.le_refl _) _).alloc (by simp) _
  have c0 : ((((w.alloc (.cells #[.int .i64 S1, .slice x1 l1 c1, .int .i64 E1] 61)).alloc (.cells #[.int .i64 S2, .slice x2 l2 c2, .int .i64 E2] 61)).alloc (.cells #[.int .i64 0, .slice none 0 0, .int .i64 0] 61)).alloc (.cells #[.int .i64 0, .slice none 0 0, .int .i64 0] 61)).cell? ⟨w.heap.size, 0, none⟩ = some (.int .i64 S1) := cellLater hA (by simp)
  have c1' : ((((w.alloc (.cells #[.int .i64 S1, .slice x1 l1 c1, .int .i64 E1] 61)).alloc (.cells #[.int .i64 S2, .slice x2 l2 c2, .int .i64 E2] 61)).alloc (.cells #[.int .i64 0, .slice none 0 0, .int .i64 0] 61)).alloc (.cells #[.int .i64 0, .slice none 0 0, .int .i64 0] 61)).cell? ⟨w.heap.size, 1, none⟩ = some (.slice x1 l1 c1) := cellLater hA (by simp)
  have c2' : ((((w.alloc (.cells #[.int .i64 S1, .slice x1 l1 c1, .int .i64 E1] 61)).alloc (.cells #[.int .i64 S2, .slice x2 l2 c2, .int .i64 E2] 61)).alloc (.cells #[.int .i64 0, .slice none 0 0, .int .i64 0] 61)).alloc (.cells #[.int .i64 0, .slice none 0 0, .int .i64 0] 61)).cell? ⟨w.heap.size, 2, none⟩ = some (.int .i64 E1) := cellLater hA (by simp)
  have g0 : ((((w.alloc (.cells #[.int .i64 S1, .slice x1 l1 c1, .int .i64 E1] 61)).alloc (.cells #[.int .i64 S2, .slice x2 l2 c2, .int .i64 E2] 61)).alloc (.cells #[.int .i64 0, .slice none 0 0, .int .i64 0] 61)).alloc (.cells #[.int .i64 0, .slice none 0 0, .int .i64 0] 61)).cell? ⟨w.heap.size + 1, 0, none⟩ = some (.int .i64 S2) := cellLater hB (by simp)
  have g1 : ((((w.alloc (.cells #[.int .i64 S1, .slice x1 l1 c1, .int .i64 E1] 61)).alloc (.cells #[.int .i64 S2, .slice x2 l2 c2, .int .i64 E2] 61)).alloc (.cells #[.int .i64 0, .slice none 0 0, .int .i64 0] 61)).alloc (.cells #[.int .i64 0, .slice none 0 0, .int .i64 0] 61)).cell? ⟨w.heap.size + 1, 1, none⟩ = some (.slice x2 l2 c2) := cellLater hB (by simp)
  have g2 : ((((w.alloc (.cells #[.int .i64 S1, .slice x1 l1 c1, .int .i64 E1] 61)).alloc (.cells #[.int .i64 S2, .slice x2 l2 c2, .int .i64 E2] 61)).alloc (.cells #[.int .i64 0, .slice none 0 0, .int .i64 0] 61)).alloc (.cells #[.int .i64 0, .slice none 0 0, .int .i64 0] 61)).cell? ⟨w.heap.size + 1, 2, none⟩ = some (.int .i64 E2) := cellLater hB (by simp)
  have za : ZRs ((((w.alloc (.cells #[.int .i64 S1, .slice x1 l1 c1, .int .i64 E1] 61)).alloc (.cells #[.int .i64 S2, .slice x2 l2 c2, .int .i64 E2] 61)).alloc (.cells #[.int .i64 0, .slice none 0 0, .int .i64 0] 61)).alloc (.cells #[.int .i64 0, .slice none 0 0, .int .i64 0] 61)) (w.heap.size + 1 + 1) := by
    have h := zr_of ((Below.refl _ _).alloc (Nat.le_refl _) (.cells #[.int .i64 0, .slice none 0 0, .int .i64 0] 61)) _ (zr_fresh ((w.alloc (.cells #[.int .i64 S1, .slice x1 l1 c1, .int .i64 E1] 61)).alloc (.cells #[.int .i64 S2, .slice x2 l2 c2, .int .i64 E2] 61)))
    simpa using h
  have zb : ZRs ((((w.alloc (.cells #[.int .i64 S1, .slice x1 l1 c1, .int .i64 E1] 61)).alloc (.cells #[.int .i64 S2, .slice x2 l2 c2, .int .i64 E2] 61)).alloc (.cells #[.int .i64 0, .slice none 0 0, .int .i64 0] 61)).alloc (.cells #[.int .i64 0, .slice none 0 0, .int .i64 0] 61)) (w.heap.size + 1 + 1 + 1) := by
    have h := zr_fresh (((w.alloc (.cells #[.int .i64 S1, .slice x1 l1 c1, .int .i64 E1] 61)).alloc (.cells #[.int .i64 S2, .slice x2 l2 c2, .int .i64 E2] 61)).alloc (.cells #[.int .i64 0, .slice none 0 0, .int .i64 0] 61))
    simpa using h
  have hsz : ((((w.alloc (.cells #[.int .i64 S1, .slice x1 l1 c1, .int .i64 E1] 61)).alloc (.cells #[.int .i64 S2, .slice x2 l2 c2, .int .i64 E2] 61)).alloc (.cells #[.int .i64 0, .slice none 0 0, .int .i64 0] 61)).alloc (.cells #[.int .i64 0, .slice none 0 0, .int .i64 0] 61)).heap.size = w.heap.size + 4 := by simp
  have HSZ := hidden hsz
  clear hsz
  have hee : (if E2 < E1 then E2 else E1) = e := by
    split <;> omega
  have hw1 : IntKind.i64.wrap (E1 - e) = k1 := by
    rw [hk1]; exact wrapi _ (by omega) (by omega)
  have hw2 : IntKind.i64.wrap (E2 - e) = k2 := by
    rw [hk2]; exact wrapi _ (by omega) (by omega)
  have HK1 := hidden hk1
  have HK2 := hidden hk2
  have HE := hidden he
  have HBB := hidden b1
  have HBC := hidden b2
  clear hk1 hk2 he b1 b2
  have ZA := hidden za
  have ZB := hidden zb
  have HA1 := hidden h1.val
  have HA2 := hidden h2.val
  clear hW0 hA hB za zb h1 h2
  have kk1 : IntKind.i64.wrap (k1 : Int) = k1 := wrapi _ (by omega) (by omega)
  have kk2 : IntKind.i64.wrap (k2 : Int) = k2 := wrapi _ (by omega) (by omega)
  go_enter Tryz.func46, Tryz.ntmps46
  go_upto_region 2 with fail
  generalize ((((w.alloc (.cells #[.int .i64 S1, .slice x1 l1 c1, .int .i64 E1] 61)).alloc (.cells #[.int .i64 S2, .slice x2 l2 c2, .int .i64 E2] 61)).alloc (.cells #[.int .i64 0, .slice none 0 0, .int .i64 0] 61)).alloc (.cells #[.int .i64 0, .slice none 0 0, .int .i64 0] 61)) = w5 at *
  try simp only [hee]
  generalize B3 : w.heap.size + 1 + 1 + 1 = q3 at *
  generalize B2 : w.heap.size + 1 + 1 = q2 at *
  generalize B1 : w.heap.size + 1 = q1 at *
  generalize B0 : w.heap.size = q0 at *
  have nb : ¬ q2 = q3 := by omega
  have nb' : ¬ q3 = q2 := by omega
  have n1 : ¬ q2 = q0 := by omega
  have n2 : ¬ q2 = q1 := by omega
  have n3 : ¬ q3 = q0 := by omega
  have n4 : ¬ q3 = q1 := by omega
  have HB3 := hidden B3
  have HB2 := hidden B2
  have HB1 := hidden B1
  have HB0 := hidden B0
  clear B0 B1 B2 B3 hee kk1 kk2
  go_region_held3 (fun w' => w'.cell? ⟨q0, 0, none⟩ = some (.int .i64 S1) ∧ w'.cell? ⟨q0, 1, none⟩ = some (.slice x1 l1 c1) ∧ w'.cell? ⟨q0, 2, none⟩ = some (.int .i64 E1) ∧ w'.cell? ⟨q1, 0, none⟩ = some (.int .i64 S2) ∧ w'.cell? ⟨q1, 1, none⟩ = some (.slice x2 l2 c2) ∧ w'.cell? ⟨q1, 2, none⟩ = some (.int .i64 E2)) (first | (refine ⟨?_, ?_, ?_, ?_, ?_, ?_⟩ <;> with_reducible assumption) | go_keep) (first
    | (go_at_call_of 48 (Value.slice x1 l1 c1); refine (up_any x1 l1 c1 d1 k1 _ (G1.out.later ((Below.refl _ _).drew)).rd G1.out.ok (by omega) (by omega)).mono ?_; rintro r w6 ⟨au, lu, cu, du, rfl, ru, ku, vu, lbu, tu, hb6, nw6⟩; have cc := six_later hb6 (six_later ((Below.refl _ _).drew) ⟨c0, c1', c2', g0, g1, g2⟩); have G2' := hidden ((G2.out.later ((Below.refl _ _).drew)).later hb6); have ZA' := hidden (zr_of hb6 _ (zr_of ((Below.refl _ _).drew) _ ZA.out)); have ZB' := hidden (zr_of hb6 _ (zr_of ((Below.refl _ _).drew) _ ZB.out)); have U1 := hidden (has_of3 ru ku vu tu); have HB6 := hidden hb6; have NW6 := hidden nw6; have LB6 := hidden lbu; clear hb6 nw6 lbu ru ku vu tu G2 ZA ZB c0 c1' c2' g0 g1 g2 G1; obtain ⟨c0, c1', c2', g0, g1, g2⟩ := cc)
    | (go_at_call_of 48 (Value.slice x2 l2 c2); refine (up_any x2 l2 c2 d2 k2 _ G2'.out.rd G2'.out.ok (by omega) (by omega)).mono ?_; rintro r w7 ⟨av, lv, cv, dv, rfl, rv, kv, vv, lbv, tv, hb7, nw7⟩; have cc := six_later hb7 ⟨c0, c1', c2', g0, g1, g2⟩; have zz := zr_of hb7 _ ZA'.out; have yy := zr_of hb7 _ ZB'.out; have U1' := hidden (U1.out.later hb7); have U2 := hidden (has_of3 rv kv vv tv); have HB7 := hidden hb7; have NW7 := hidden nw7; have LB7 := hidden lbv; clear hb7 nw7 lbv rv kv vv tv G2' ZA' ZB' U1 c0 c1' c2' g0 g1 g2; obtain ⟨c0, c1', c2', g0, g1, g2⟩ := cc; obtain ⟨z0, z1, z2, z3, z4, z5⟩ := zz; obtain ⟨y0, y1, y2, y3, y4, y5⟩ := yy))
  rename_i hHeld
  clear hHeld
  have s5 := HSZ.out
  have e0 := HB0.out
  have e1 := HB1.out
  have e2 := HB2.out
  have e3 := HB3.out
  have t6 := HB6.out.size
  simp [s5] at t6
  have hne1 : ∀ p, au = some p → ¬ q2 = p.block ∧ ¬ q3 = p.block ∧ q0 ≤ p.block := fun p hp => by
    have := NW6.out p hp
    simp [s5] at this
    omega
  have hne2 : ∀ p, av = some p → ¬ q2 = p.block ∧ ¬ q3 = p.block ∧ q0 ≤ p.block := fun p hp => by
    have := NW7.out p hp
    omega
  obtain ⟨i0, i1, i2⟩ := set3_at w7 q2 (.int .i64 S1) (.slice au lu cu) (.int .i64 e) _ _ _ z0 z1 z2
  obtain ⟨v0, v1, v2⟩ := set3_at (set3 w7 q2 (.int .i64 S1) (.slice au lu cu) (.int .i64 e)) q3 (.int .i64 S2) (.slice av lv cv) (.int .i64 e) _ _ _ ((set3_far _ _ _ _ _ q3 0 nb).trans y0) ((set3_far _ _ _ _ _ q3 1 nb).trans y1) ((set3_far _ _ _ _ _ q3 2 nb).trans y2)
  have u0 := (set3_far (set3 w7 q2 (.int .i64 S1) (.slice au lu cu) (.int .i64 e)) q3 (.int .i64 S2) (.slice av lv cv) (.int .i64 e) q2 0 nb').trans i0
  have u1 := (set3_far (set3 w7 q2 (.int .i64 S1) (.slice au lu cu) (.int .i64 e)) q3 (.int .i64 S2) (.slice av lv cv) (.int .i64 e) q2 1 nb').trans i1
  have u2 := (set3_far (set3 w7 q2 (.int .i64 S1) (.slice au lu cu) (.int .i64 e)) q3 (.int .i64 S2) (.slice av lv cv) (.int .i64 e) q2 2 nb').trans i2
  have X1 := U1'.out
  have X2 := U2.out
  rw [HA1.out] at X1
  rw [HA2.out] at X2
  have hH1 := has_of3 (rd_set3 (rd_set3 X1.rd q2 (.int .i64 S1) (.slice au lu cu) (.int .i64 e) fun p hp => (hne1 p hp).1) q3 (.int .i64 S2) (.slice av lv cv) (.int .i64 e) fun p hp => (hne1 p hp).2.1) X1.ok X1.val X1.top
  have hH2 := has_of3 (rd_set3 (rd_set3 X2.rd q2 (.int .i64 S1) (.slice au lu cu) (.int .i64 e) fun p hp => (hne2 p hp).1) q3 (.int .i64 S2) (.slice av lv cv) (.int .i64 e) fun p hp => (hne2 p hp).2.1) X2.ok X2.val X2.top
  have f0 := HB.out.drew
  have f1 := f0.trans (HB6.out.mono (by simp [s5]))
  have f2 := f1.trans (HB7.out.mono (by omega))
  have f3 := set3_below (set3_below f2 q2 (by omega) (.int .i64 S1) (.slice au lu cu) (.int .i64 e)) q3 (by omega) (.int .i64 S2) (.slice av lv cv) (.int .i64 e)
  rw [← e0] at f3
  have m1 : ∀ p, au = some p → w.heap.size ≤ p.block := fun p hp => by have := (hne1 p hp).2.2; omega
  have m2 : ∀ p, av = some p → w.heap.size ≤ p.block := fun p hp => by have := (hne2 p hp).2.2; omega
  have HH1 := hidden hH1
  have HH2 := hidden hH2
  have HF := hidden f3
  have HN1 := hidden m1
  have HN2 := hidden m2
  clear hH1 hH2 f0 f1 f2 f3 m1 m2 hne1 hne2 X1 X2 U1' U2 z0 z1 z2 z3 z4 z5 y0 y1 y2 y3 y4 y5 s5 e0 e1 e2 e3 t6 i0 i1 i2 c0 c1' c2' g0 g1 g2
  go_wp2
  change bodyPost _ _ _ _ _ (set3 (set3 w7 q2 (.int .i64 S1) (.slice au lu cu) (.int .i64 e)) q3 (.int .i64 S2) (.slice av lv cv) (.int .i64 e))
  generalize set3 (set3 w7 q2 (.int .i64 S1) (.slice au lu cu) (.int .i64 e)) q3 (.int .i64 S2) (.slice av lv cv) (.int .i64 e) = wf at *
  refine bodyPost_ret (v := .tuple #[.agg #[.int .i64 S1, .slice au lu cu, .int .i64 e], .agg #[.int .i64 S2, .slice av lv cv, .int .i64 e]]) (by simp [results, Tryz.results46, go_sem, u0, u1, u2, v0, v1, v2]) rfl ?_
  exact ⟨au, lu, cu, du, av, lv, cv, dv, rfl, HH1.out, HH2.out, LB6.out, LB7.out, HF.out, HN1.out, HN2.out⟩
end Go.Proofs.YtbfbdemknggpkaaGreatDoor
