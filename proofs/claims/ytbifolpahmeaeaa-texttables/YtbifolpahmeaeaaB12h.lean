/- Contract of package text's plainPiece. -/
import Derived.Test.YtbifolpahmeaeaaB12f
import Derived.Deep.Cut
import Derived.Deep.CutRange
namespace Go.Proofs.Ytbifolpahmeaeaa
open Go.RowKit
set_option maxHeartbeats 1000000
set_option maxRecDepth 100000
set_option linter.unusedVariables false

theorem tplain_any (t : Ta) (k : Nat) (a : Option Addr) (n c : Nat) (zs : List Int) (w : World) (hm : Mem w a n c zs) (ht : t.ok) (hk : k = 1 ∨ k = 4) :
    Calls Try.prog 29 #[.slice a n c, .agg #[.int .i64 t.k, .int .u32 t.ad, .int .u32 t.bit], .int .i64 k] w (PRet w (plN zs t k)) := by
  have hB := Bx.new w t
  obtain ⟨wa, hwa⟩ : ∃ wa, wa = ((w.alloc (.cells #[.int .i64 t.k, .int .u32 t.ad, .int .u32 t.bit] 46)).alloc (.cells #[.int .i64 0, .slice none 0 0, .int .u32 0, .slice none 0 0] 44)).alloc (.cells #[.int .i64 0, .int .u32 0, .int .u32 0] 46) := ⟨_, rfl⟩
  have hsz : wa.heap.size = w.heap.size + 1 + 1 + 1 := by rw [hwa]; simp
  rw [← hwa] at hB
  have hma := hm.later (hB.below.mono (Nat.le_refl _))
  have HT := hidden (ttake_any wa.heap.size a n c t.ad 0 k zs _ (tb_new wa a n c t.ad 0) (hma.later (al_below _ _)) hk ht.2.1)
  have HBX := hidden hB
  have HTK := hidden ht
  have HVB := hidden (tkV_bd zs hm.ok t.ad 0 k hk)
  unfold plN
  generalize tkV zs t.ad 0 k = V at *
  generalize tkP zs t.ad 0 k = P at *
  generalize tkE zs t.ad 0 k = E at *
  have hz0 : ((0 : Nat) : Int) = 0 := rfl
  rw [hz0] at HT
  obtain ⟨⟨a0, a1, a2⟩, -, -, -, -⟩ := hB.cells
  have HWA := hidden hwa
  clear hm hma hB ht hz0
  by_cases hV : V = 0
  · subst hV
    rw [if_pos rfl, if_pos rfl]
    go_enter Try.func29, Try.ntmps29
    go_upto_region 1 with fail
    rw [← hwa]
    clear hwa
    have HSZ := hidden hsz
    clear hsz
    go_upto_region 3 with (go_at_call 34; refine HT.out.mono ?_; rintro r w1 ⟨rfl, hx1, hf1⟩; have HX1 := hidden hx1; have HB1 := hidden ((HBX.out.later (al_below _ _)).fr hf1 (by have := HSZ.out; omega)); clear hx1 hf1)
    obtain ⟨⟨b0, b1, b2⟩, -, -, -, -⟩ := HB1.out.cells
    obtain ⟨x0, x1, x2, -⟩ := tb_box HX1.out
    go_upto_region 4 with fail
    have HB2 := hidden (HB1.out.later (al_below w1 (.cells #[.int .i64 t.k, .int .u32 P, .int .u32 0] 46)))
    have HX2 := hidden (HX1.out.later (al_below w1 (.cells #[.int .i64 t.k, .int .u32 P, .int .u32 0] 46)))
    have HQ1 : Hid (w.heap.size + 1 + 1 + 1 < w1.heap.size) := by have := HX1.out.lt; have := HSZ.out; show _ < _; omega
    have HN2 : Hid (ABox (w1.alloc (.cells #[.int .i64 t.k, .int .u32 P, .int .u32 0] 46)) w1.heap.size t.k P 0) := ab_new w1 t.k P 0
    generalize w1.alloc (.cells #[.int .i64 t.k, .int .u32 P, .int .u32 0] 46) = w2 at *
    clear HB1 HX1 HBX HT a0 a1 a2 b0 b1 b2 x0 x1 x2
    have hq4 : w.heap.size + 1 + 1 + 1 < w1.heap.size := HQ1.out
    generalize w1.heap.size = q4 at *
    have e1 : ¬ q4 = w.heap.size + 1 := by omega
    have e2 : ¬ q4 = w.heap.size + 1 + 1 := by omega
    have e3 : ¬ w.heap.size + 1 = q4 := by omega
    have e4 : ¬ w.heap.size + 1 + 1 = q4 := by omega
    rw [HSZ.out] at HX2 ⊢
    obtain ⟨-, ⟨p0, p1, p2, p3⟩, ⟨n0, n1, n2⟩, fp, fn⟩ := HB2.out.cells
    obtain ⟨x0, x1, x2, -⟩ := tb_box HX2.out
    obtain ⟨m0, m1, m2, -⟩ := ab_box HN2.out
    have p4 := fp 0
    have p5 := fp 1
    have p6 := fp 2
    have p7 := fp 3
    have n4 := fn 0
    have n5 := fn 1
    have n6 := fn 2
    clear fp fn
    go_upto_region 5 with fail
    go_region
    go_wp2
    obtain ⟨W, hW⟩ : ∃ W, W = set3 (set4 w2 (w.heap.size + 1) (.int .i64 1) (.slice none 0 0) (.int .u32 0) (.slice none 0 0)) (w.heap.size + 1 + 1) (.int .i64 t.k) (.int .u32 P) (.int .u32 0) := ⟨_, rfl⟩
    obtain ⟨hbW, y0, y1, y2, y3, v0, v1, v2⟩ := HB2.out.fin _ _ _ _ _ _ _ W hW
    unfold set3 set4 at hW
    rw [← hW]
    clear hW
    exact bodyPost_ret (v := .tuple #[.agg #[.int .i64 1, .slice none 0 0, .int .u32 0, .slice none 0 0], .agg #[.int .i64 t.k, .int .u32 P, .int .u32 0], .int .i64 E]) (by simp [results, Try.results29, go_sem, y0, y1, y2, y3, v0, v1, v2]) rfl ⟨1, none, 0, 0, 0, none, 0, 0, t.k, P, 0, rfl, hbW.drew, fun _ => ⟨rfl, rfl, vrow_nil _ _, ⟨Nat.le_refl _, fun _ => ⟨rfl, rfl⟩⟩, (fun h => by omega), rfl, rfl, rfl⟩⟩
  · rw [if_neg hV, if_neg hV]
    have hV2 : ((V : Int) == 0) = false := by simp; omega
    have hV3 : ¬ (V : Int) = 0 := by omega
    go_enter Try.func29, Try.ntmps29
    go_upto_region 1 with fail
    rw [← hwa]
    clear hwa
    have HSZ := hidden hsz
    clear hsz
    go_upto_region 3 with (go_at_call 34; refine HT.out.mono ?_; rintro r w1 ⟨rfl, hx1, hf1⟩; have HX1 := hidden hx1; have HB1 := hidden ((HBX.out.later (al_below _ _)).fr hf1 (by have := HSZ.out; omega)); clear hx1 hf1)
    obtain ⟨⟨b0, b1, b2⟩, -, -, -, -⟩ := HB1.out.cells
    obtain ⟨x0, x1, x2, -⟩ := tb_box HX1.out
    go_upto_region 4 with fail
    have HB2 := hidden (HB1.out.later (al_below w1 (.cells #[.int .i64 t.k, .int .u32 P, .int .u32 0] 46)))
    have HX2 := hidden (HX1.out.later (al_below w1 (.cells #[.int .i64 t.k, .int .u32 P, .int .u32 0] 46)))
    have HQ1 : Hid (w.heap.size + 1 + 1 + 1 < w1.heap.size) := by have := HX1.out.lt; have := HSZ.out; show _ < _; omega
    have HN2 : Hid (ABox (w1.alloc (.cells #[.int .i64 t.k, .int .u32 P, .int .u32 0] 46)) w1.heap.size t.k P 0) := ab_new w1 t.k P 0
    generalize w1.alloc (.cells #[.int .i64 t.k, .int .u32 P, .int .u32 0] 46) = w2 at *
    clear HB1 HX1 HBX HT a0 a1 a2 b0 b1 b2 x0 x1 x2
    have hq4 : w.heap.size + 1 + 1 + 1 < w1.heap.size := HQ1.out
    generalize w1.heap.size = q4 at *
    have e1 : ¬ q4 = w.heap.size + 1 := by omega
    have e2 : ¬ q4 = w.heap.size + 1 + 1 := by omega
    have e3 : ¬ w.heap.size + 1 = q4 := by omega
    have e4 : ¬ w.heap.size + 1 + 1 = q4 := by omega
    rw [HSZ.out] at HX2 ⊢
    obtain ⟨-, ⟨p0, p1, p2, p3⟩, ⟨n0, n1, n2⟩, fp, fn⟩ := HB2.out.cells
    obtain ⟨x0, x1, x2, -⟩ := tb_box HX2.out
    obtain ⟨m0, m1, m2, -⟩ := ab_box HN2.out
    have p4 := fp 0
    have p5 := fp 1
    have p6 := fp 2
    have p7 := fp 3
    have n4 := fn 0
    have n5 := fn 1
    have n6 := fn 2
    clear fp fn
    have HCH : Hid (Calls Try.prog 35 #[.slice (some ⟨w2.heap.size, 0, none⟩) 1 1] (w2.drew.alloc (.cells #[.int .u32 (V : Int)] 22)) fun r w' => r = .returned (.agg #[.int .i64 2, .slice (some ⟨w2.heap.size, 0, none⟩) 1 1, .int .u32 0, .slice none 0 0]) ∧ Hid (Bx w w' t) ∧ Hid (VRow w' (some ⟨w2.heap.size, 0, none⟩) 1 [V]) ∧ TBox w' (w.heap.size + 1 + 1 + 1) a n c P E ∧ ABox w' q4 t.k P 0) := by
      have hbd : Below w2.heap.size w2 w2.drew := (Below.refl _ _).drew
      have hba := hbd.trans (al_below w2.drew (.cells #[.int .u32 (V : Int)] 22))
      refine (tchars_any _ 1 1 _).mono ?_
      rintro r w' ⟨rfl, hb3⟩
      have hb4 := hba.trans (hb3.mono hba.size)
      exact ⟨rfl, HB2.out.later hb4, (vrow_new w2.drew V HVB.out).later hb3, HX2.out.later hb4, HN2.out.later hb4⟩
    have l1 : w.heap.size + 1 + 1 + 1 < w2.heap.size := HX2.out.lt
    have l2 : q4 < w2.heap.size := HN2.out.lt
    have HFIN : Hid (∀ w3 W, Bx w w3 t → VRow w3 (some ⟨w2.heap.size, 0, none⟩) 1 [V] → W = set3 (set4 w3 (w.heap.size + 1) (.int .i64 2) (.slice (some ⟨w2.heap.size, 0, none⟩) 1 1) (.int .u32 0) (.slice none 0 0)) (w.heap.size + 1 + 1) (.int .i64 t.k) (.int .u32 P) (.int .u32 0) → (W.cell? ⟨w.heap.size + 1, 0, none⟩ = some (.int .i64 2) ∧ W.cell? ⟨w.heap.size + 1, 1, none⟩ = some (.slice (some ⟨w2.heap.size, 0, none⟩) 1 1) ∧ W.cell? ⟨w.heap.size + 1, 2, none⟩ = some (.int .u32 0) ∧ W.cell? ⟨w.heap.size + 1, 3, none⟩ = some (.slice none 0 0) ∧ W.cell? ⟨w.heap.size + 1 + 1, 0, none⟩ = some (.int .i64 t.k) ∧ W.cell? ⟨w.heap.size + 1 + 1, 1, none⟩ = some (.int .u32 P) ∧ W.cell? ⟨w.heap.size + 1 + 1, 2, none⟩ = some (.int .u32 0)) ∧ PRet w ⟨E, 2, [V], ⟨t.k, P, 0⟩⟩ (.returned (.tuple #[.agg #[.int .i64 2, .slice (some ⟨w2.heap.size, 0, none⟩) 1 1, .int .u32 0, .slice none 0 0], .agg #[.int .i64 t.k, .int .u32 P, .int .u32 0], .int .i64 E])) W) := fun w3 W hb3 hv3 hW => by
      obtain ⟨hbW, y⟩ := hb3.fin _ _ _ _ _ _ _ W hW
      have hv := (hv3.set4 (w.heap.size + 1) (fun _ x e => by cases e; show w2.heap.size ≠ _; omega) (.int .i64 2) (.slice (some ⟨w2.heap.size, 0, none⟩) 1 1) (.int .u32 0) (.slice none 0 0)).set3 (w.heap.size + 1 + 1) (fun _ x e => by cases e; show w2.heap.size ≠ _; omega) (.int .i64 t.k) (.int .u32 P) (.int .u32 0)
      rw [← hW] at hv
      exact ⟨y, 2, _, 1, 1, 0, none, 0, 0, t.k, P, 0, rfl, hbW, fun _ => ⟨rfl, rfl, hv, ⟨Nat.le_refl _, fun h => by omega⟩, (fun _ x e => by cases e; show w.heap.size ≤ w2.heap.size; omega), rfl, rfl, rfl⟩⟩
    go_upto_region 6 with fail
    clear hV hV2 hV3 n0 n1 n2 p0 p1 p2 p3 n4 n5 n6 p4 p5 p6 p7 x0 x1
    go_cut [8] from 29 to 34 (fun s8 wx => s8 = .int .i64 E ∧ Hid (∃ w3, Bx w w3 t ∧ VRow w3 (some ⟨w2.heap.size, 0, none⟩) 1 [V] ∧ (wx = set3 (set4 w3 (w.heap.size + 1) (.int .i64 2) (.slice (some ⟨w2.heap.size, 0, none⟩) 1 1) (.int .u32 0) (.slice none 0 0)) (w.heap.size + 1 + 1) (.int .i64 t.k) (.int .u32 P) (.int .u32 0))))
    case first =>
      go_region_with (first | (go_at_call 35; refine HCH.out.mono ?_; rintro r w3 ⟨rfl, HB3, HV3, hx3, hn3⟩; obtain ⟨-, ⟨s0, s1, s2, s3⟩, ⟨r0, r1, r2⟩, gp, gn⟩ := HB3.out.cells; obtain ⟨g0, g1, g2, -⟩ := tb_box hx3; obtain ⟨h0, h1, h2, -⟩ := ab_box hn3; have s4 := gp 0; have s5 := gp 1; have s6 := gp 2; have s7 := gp 3; have r4 := gn 0; have r5 := gn 1; have r6 := gn 2; clear hx3 hn3 gp gn))
      all_goals (try go_wp2_with fail)
      all_goals go_meet
      all_goals exact ⟨rfl, w3, HB3.out, HV3.out, rfl⟩
    case rest =>
      obtain ⟨rfl, HC⟩ := hcut
      go_wp2
      obtain ⟨w3, hb3, hv3, hW⟩ := HC.out
      obtain ⟨⟨y0, y1, y2, y3, v0, v1, v2⟩, HPR⟩ := HFIN.out w3 _ hb3 hv3 hW
      exact bodyPost_ret (v := .tuple #[.agg #[.int .i64 2, .slice (some ⟨w2.heap.size, 0, none⟩) 1 1, .int .u32 0, .slice none 0 0], .agg #[.int .i64 t.k, .int .u32 P, .int .u32 0], .int .i64 E]) (by simp [results, Try.results29, go_sem, y0, y1, y2, y3, v0, v1, v2]) rfl HPR
end Go.Proofs.Ytbifolpahmeaeaa
