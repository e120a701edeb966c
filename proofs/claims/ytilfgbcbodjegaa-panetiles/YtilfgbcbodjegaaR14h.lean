/- Layer 14, the document: Arrange of a pair. -/
import Derived.Test.YtilfgbcbodjegaaR14g
import Derived.Test.YtilfgbcbodjegaaQ14e
namespace Go.Proofs.Ytilfgbcbodjegaa
open Go.RowKit
set_option maxHeartbeats 1000000
set_option maxRecDepth 100000
set_option linter.unusedVariables false

theorem wfld5 (n k p a b m s y : Int) : ∀ w : World, (Instr.field 66 (.agg #[.int .i64 n, .int .i64 k, .int .i64 p, .int .i64 a, .int .i64 b, .int .i64 m, .int .u32 s, .int .i64 y]) 5).run Try.prog w = .ok (.int .i64 m) w := fun _ => by kernel_rfl
theorem colB_mtd {m : Int} (h : mtdB m = true) : colB m = decide (m % 4 < 2) := by
  rcases mtd_cases h with rfl | rfl | rfl | rfl | rfl | rfl | rfl | rfl <;> rfl
def ArD (B m : Nat) (v : Value) (w : World) (s' : Ps) (e : Ending) (w' : World) : Prop := e = .returned (.int .i64 0) ∧ QAt B w' m v s' ∧ Fm w w' (TP m v) (TP m v)
set_option maxHeartbeats 8000000 in
theorem darr_pair {B m : Nat} {v : Value} {s : Ps} {w : World} (h : QAt B w m v s) (ho : Iv s) (x mt sz key : Int) (hp : prE s x = 0) :
    (arrE s x mt key ≠ 0 → Calls Try.prog 55 #[.pointer (some ⟨m, 0, none⟩), .int .i64 x, .int .i64 mt, .int .u32 sz, .int .i64 key] w fun e w' => e = .returned (.int .i64 (arrE s x mt key)) ∧ Hid (Below w.heap.size w w')) ∧
    (arrE s x mt key = 0 → Calls Try.prog 55 #[.pointer (some ⟨m, 0, none⟩), .int .i64 x, .int .i64 mt, .int .u32 sz, .int .i64 key] w (ArD B m v w (arrS s x mt sz key))) := by
  have hn : s.L.length ≤ 1000 := by have := ho.f63; omega
  obtain ⟨E, hE⟩ : ∃ E, arrE s x mt key = E := ⟨_, rfl⟩
  rw [hE]
  unfold arrE at hE
  rw [if_neg (by rw [hp]; exact fun q => q rfl)] at hE
  have HP := hidden (dpair_any h hn x)
  have hp2 := hp
  unfold prE at hp2
  rw [hp2] at HP
  by_cases hb : hasB s.L x = false
  · rw [if_pos hb] at hp2; omega
  rw [if_neg hb] at hp2
  have hW : hasW s.L x := hasB_iff.1 (by simpa using hb)
  have h4 : (ofW s.L x).k = 4 := by
    by_cases h4 : (ofW s.L x).k = 4
    · exact h4
    · rw [if_neg h4] at hp2; omega
  have hpw := ho.pw x hW h4
  obtain ⟨i, hi, hx⟩ := has_ix hW
  obtain ⟨g, c, hv, _⟩ := wrow_pos h.row (by omega)
  have hof := ofW_at ho.so hi hx
  have hml := h.lt
  have HM := hidden (fun wx => dmethod_any mt wx)
  have HC1 := hidden (fun wx => dcolumns_any mt wx)
  have HC2 := hidden (fun wx => dcolumns_any (ofW s.L x).m wx)
  rw [colB_mtd hpw.mt] at HC2
  have HO : Hid (∀ w1, Below w.heap.size w w1 → Calls Try.prog 32 #[.pointer (some ⟨m, 0, none⟩), .int .i64 x] w1 fun e w' => e = .returned (wdA (ofW s.L x)) ∧ Hid (Below w.heap.size w w')) := hidden (fun w1 hb => (dof_any (h.later hb) hn _).mono (fun e w' hh => ⟨hh.1, hidden (hb.trans (hh.2.out.mono hb.size))⟩))
  have HOK : Hid (∀ w1, Below w.heap.size w w1 → Calls Try.prog 32 #[.pointer (some ⟨m, 0, none⟩), .int .i64 key] w1 fun e w' => e = .returned (wdA (ofW s.L key)) ∧ Hid (Below w.heap.size w w')) := hidden (fun w1 hb => (dof_any (h.later hb) hn _).mono (fun e w' hh => ⟨hh.1, hidden (hb.trans (hh.2.out.mono hb.size))⟩))
  have HAK : Hid (∀ w1, Below w.heap.size w w1 → Calls Try.prog 53 #[.pointer (some ⟨m, 0, none⟩), .int .i64 key] w1 fun e w' => e = .returned (.int .i64 (ixW s.L key)) ∧ w' = w1) := hidden (fun w1 hb => dat_any (h.later hb) hn key)
  have hix : ixW s.L x = i := ixW_at s.L x i hi hx (fun j hj hji e => by have := ho.so.rise j i hji hi hj; omega)
  have HAX : Hid (∀ w1, Below w.heap.size w w1 → Calls Try.prog 53 #[.pointer (some ⟨m, 0, none⟩), .int .i64 x] w1 fun e w' => e = .returned (.int .i64 i) ∧ w' = w1) := hidden (fun w1 hb => by rw [← hix]; exact dat_any (h.later hb) hn x)
  have HBL : Hid (∀ w1, Below w.heap.size w w1 → Calls Try.prog 22 #[.pointer (some ⟨m, 0, none⟩), .int .i64 key, .int .i64 x] w1 fun e w' => e = .returned (.bool (belB s x key)) ∧ Hid (Below w.heap.size w w')) := hidden (fun w1 hb => (dbelow_any (h.later hb) hn key x).mono (fun e w' hh => ⟨hh.1, hidden (hb.trans (hh.2.out.mono hb.size))⟩))
  have hcell : ∀ w1, Below w.heap.size w w1 → w1.cell? ⟨m, 2, none⟩ = some (.slice (some ⟨g, 0, none⟩) s.L.length c) := fun w1 hb => by rw [← hv]; exact (h.later hb).cells.2.2.1
  have hne : m ≠ g := fun e => h.ne (by rw [e, hv]; rfl)
  have hne2 : g ≠ m := fun e => hne e.symm
  have HST : Hid (∀ w1, Below w.heap.size w w1 → w1.cell? ⟨m, 2, none⟩ = some (.slice (some ⟨g, 0, none⟩) s.L.length c) ∧ w1.frozen? ⟨g, i * 8 + 5, none⟩ = false ∧ w1.frozen? ⟨g, i * 8 + 6, none⟩ = false ∧ w1.frozen? ⟨g, i * 8 + 7, none⟩ = false ∧ (∃ u, w1.cell? ⟨g, i * 8 + 5, none⟩ = some u) ∧ (∃ u, w1.cell? ⟨g, i * 8 + 6, none⟩ = some u) ∧ (∃ u, w1.cell? ⟨g, i * 8 + 7, none⟩ = some u) ∧ (key = 0 → ArD B m v w (arrS s x mt sz key) (.returned (.int .i64 0)) ((w1.setCell ⟨g, i * 8 + 5, none⟩ (.int .i64 mt)).setCell ⟨g, i * 8 + 6, none⟩ (.int .u32 sz)).drew) ∧ (((w1.setCell ⟨g, i * 8 + 5, none⟩ (.int .i64 mt)).setCell ⟨g, i * 8 + 6, none⟩ (.int .u32 sz)).drew.cell? ⟨m, 2, none⟩ = some (.slice (some ⟨g, 0, none⟩) s.L.length c)) ∧ (((w1.setCell ⟨g, i * 8 + 5, none⟩ (.int .i64 mt)).setCell ⟨g, i * 8 + 6, none⟩ (.int .u32 sz)).drew.frozen? ⟨g, i * 8 + 7, none⟩ = false) ∧ (∃ u, ((w1.setCell ⟨g, i * 8 + 5, none⟩ (.int .i64 mt)).setCell ⟨g, i * 8 + 6, none⟩ (.int .u32 sz)).drew.cell? ⟨g, i * 8 + 7, none⟩ = some u) ∧ (key ≠ 0 → ArD B m v w (arrS s x mt sz key) (.returned (.int .i64 0)) (((w1.setCell ⟨g, i * 8 + 5, none⟩ (.int .i64 mt)).setCell ⟨g, i * 8 + 6, none⟩ (.int .u32 sz)).drew.setCell ⟨g, i * 8 + 7, none⟩ (.int .i64 key)))) := hidden (fun w1 hb => by
    have hc1 := hcell w1 hb
    have h1 := h.later hb
    subst hv
    have hr := h1.row
    have cc := wrow_cells hr i hi
    obtain ⟨g1, f1⟩ := h1.setW rfl i hi 5 (by omega) (.int .i64 mt) s.L[i] { s.L[i] with m := mt } rfl rfl
    obtain ⟨g2, f2⟩ := qdrew_fin (g1.setW (by simp) i (by simpa using hi) 6 (by omega) (.int .u32 sz) { s.L[i] with m := mt } { s.L[i] with m := mt, s := sz } (by simp) rfl)
    have r2 : (((w1.setCell ⟨g, i * 8 + 5, none⟩ (.int .i64 mt)).setCell ⟨g, i * 8 + 6, none⟩ (.int .u32 sz)).drew).ownsRow B 66 8 (.slice (some ⟨g, 0, none⟩) (s.L.set i { s.L[i] with m := mt, s := sz }).length c) (s.L.set i { s.L[i] with m := mt, s := sz }).length (wdsV (s.L.set i { s.L[i] with m := mt, s := sz })) := by
      have r := g2.row
      simp only [List.length_set, List.set_set] at r ⊢
      exact r
    have cc2 := wrow_cells r2 i (by simpa using hi)
    refine ⟨hc1, wrow_frozen hr _, wrow_frozen hr _, wrow_frozen hr _, ⟨_, cc.2.2.2.2.2.1⟩, ⟨_, cc.2.2.2.2.2.2.1⟩, ⟨_, cc.2.2.2.2.2.2.2⟩, fun k0 => ⟨rfl, ?_, ((Fm.same hb).trans f1).trans f2⟩, g2.cells.2.2.1, wrow_frozen r2 _, ⟨_, cc2.2.2.2.2.2.2.2⟩, fun k0 => ?_⟩
    · unfold arrS
      rw [← upd_set ho.so hi hx]
      have : arrF mt sz key s.L[i] = { s.L[i] with m := mt, s := sz } := by unfold arrF; rw [if_pos k0]
      rw [this]
      have r := g2
      simp only [List.set_set] at r
      exact r
    · obtain ⟨g3, f3⟩ := g2.setW (by simp) i (by simpa using hi) 7 (by omega) (.int .i64 key) { s.L[i] with m := mt, s := sz } { s.L[i] with m := mt, s := sz, key := key } (by simp) rfl
      refine ⟨rfl, ?_, (((Fm.same hb).trans f1).trans f2).trans f3⟩
      unfold arrS
      rw [← upd_set ho.so hi hx]
      have : arrF mt sz key s.L[i] = { s.L[i] with m := mt, s := sz, key := key } := by unfold arrF; rw [if_neg k0]
      rw [this]
      have r := g3
      simp only [List.set_set] at r
      exact r)
  have hKN : ixW s.L key = -1 → belB s x key = false := fun q => by
    cases hb : belB s x key with
    | false => rfl
    | true =>
      obtain ⟨j, hj, _⟩ := ixW_has (hasB_iff.2 (ho.bel_has hW hb))
      omega
  have hIXge := ixW_ge s.L key
  generalize hPQ : ArD B m v w (arrS s x mt sz key) = PQ at *
  obtain ⟨BL, hBL⟩ : ∃ BL, belB s x key = BL := ⟨_, rfl⟩
  obtain ⟨IX, hIX⟩ : ∃ IX, ixW s.L key = IX := ⟨_, rfl⟩
  have hMK : mayK s x key = (BL && decide ((ofW s.L key).k ≠ 4)) := by unfold mayK; rw [hBL]
  rw [hMK] at hE
  rw [hBL] at HBL hKN
  rw [hIX] at HAK hKN hIXge
  have hil : (i : Int) < s.L.length := by omega
  have hi0 : (0 : Int) ≤ (i : Int) := by omega
  clear h ho hp hp2 hb hW h4 hpw hx hv hof hPQ hcell hMK hBL hIX hix hml hn hi
  generalize hLN : s.L.length = N at *
  unfold wdA at HO HOK
  generalize ofW s.L x = d at *
  generalize ofW s.L key = dk at *
  have hf5 := wfld5 d.n d.k d.p d.a d.b d.m d.s d.key
  have hf1 := wfld1 dk.n dk.k dk.p dk.a dk.b dk.m dk.s dk.key
  clear hLN
  by_cases b1 : mtdB mt = false
  · rw [if_pos b1] at hE
    subst hE
    rw [b1] at HM
    refine ⟨fun _ => ?_, fun q => absurd q (by omega)⟩
    clear HST HC1 HC2 HO HOK HAK HAX HBL
    go_enter Try.func55, Try.ntmps55
    go_wp2_with (first | (go_at_call 72; refine HP.out.mono ?_; rintro e w1 ⟨rfl, HB1⟩) | (go_at_call 75; refine (HM.out _).mono ?_; rintro e w2 ⟨rfl, e2⟩; rw [e2]; clear e2) | fail)
    go_ret
    exact ⟨rfl, HB1⟩
  · have b1' : mtdB mt = true := by simpa using b1
    rw [if_neg b1] at hE
    rw [b1'] at HM
    rw [colB_mtd b1'] at HC1
    obtain ⟨D1, hD1⟩ : ∃ D1, decide (mt % 4 < 2) = D1 := ⟨_, rfl⟩
    obtain ⟨D2, hD2⟩ : ∃ D2, decide (d.m % 4 < 2) = D2 := ⟨_, rfl⟩
    rw [hD1] at hE HC1
    rw [hD2] at hE HC2
    clear hD1 hD2
    by_cases b2 : D1 ≠ D2
    · rw [if_pos b2] at hE
      subst hE
      refine ⟨fun _ => ?_, fun q => absurd q (by omega)⟩
      obtain rfl : D2 = !D1 := by cases D1 <;> cases D2 <;> simp_all
      clear HST HOK HAK HAX HBL b1 b2 hf1
      cases D1
      all_goals
        go_enter Try.func55, Try.ntmps55
        go_wp2_with (first | (go_at_call 72; refine HP.out.mono ?_; rintro e w1 ⟨rfl, HB1⟩) | (go_at_call 75; refine (HM.out _).mono ?_; rintro e w2 ⟨rfl, e2⟩; rw [e2]; clear e2) | (go_at_call 76; (refine (HC1.out _).mono ?_); rintro e w2 ⟨rfl, e2⟩; rw [e2]; clear e2) | (go_at_call 32; refine (HO.out _ HB1.out).mono ?_; rintro e w3 ⟨rfl, HB3⟩) | (go_at_call 76; (refine (HC2.out _).mono ?_); rintro e w2 ⟨rfl, e2⟩; rw [e2]; clear e2) | fail)
        go_ret
        exact ⟨rfl, HB3⟩
    · rw [if_neg b2] at hE
      obtain rfl : D1 = D2 := by simpa using b2
      by_cases k0 : key = 0
      · subst k0
        rw [if_neg (fun q => q.1 rfl)] at hE
        subst hE
        refine ⟨fun q => absurd rfl q, fun _ => ?_⟩
        have HST2 : Hid (∀ w1, Below w.heap.size w w1 → w1.cell? ⟨m, 2, none⟩ = some (.slice (some ⟨g, 0, none⟩) N c) ∧ w1.frozen? ⟨g, i * 8 + 5, none⟩ = false ∧ w1.frozen? ⟨g, i * 8 + 6, none⟩ = false ∧ (∃ u, w1.cell? ⟨g, i * 8 + 5, none⟩ = some u) ∧ (∃ u, w1.cell? ⟨g, i * 8 + 6, none⟩ = some u) ∧ Hid (PQ (.returned (.int .i64 0)) ((w1.setCell ⟨g, i * 8 + 5, none⟩ (.int .i64 mt)).setCell ⟨g, i * 8 + 6, none⟩ (.int .u32 sz)).drew)) := hidden (fun w1 hb => by
          obtain ⟨z0, z1, z2, z3, z4, z5, z6, z7, z8⟩ := HST.out w1 hb
          exact ⟨z0, z1, z2, z4, z5, hidden (z7 rfl)⟩)
        clear HST HOK HAK HBL b1 b2 hf1 hKN hIXge
        cases D1
        all_goals
          go_enter Try.func55, Try.ntmps55
          go_upto_region 9 with (first | (go_at_call 72; refine HP.out.mono ?_; rintro e w1 ⟨rfl, HB1⟩) | (go_at_call 75; refine (HM.out _).mono ?_; rintro e w2 ⟨rfl, e2⟩; rw [e2]; clear e2) | (go_at_call 76; (refine (HC1.out _).mono ?_); rintro e w2 ⟨rfl, e2⟩; rw [e2]; clear e2) | (go_at_call 32; refine (HO.out _ HB1.out).mono ?_; rintro e w3 ⟨rfl, HB3⟩) | (go_at_call 76; (refine (HC2.out _).mono ?_); rintro e w2 ⟨rfl, e2⟩; rw [e2]; clear e2) | (go_at_call 53; refine (HAX.out _ HB3.out).mono ?_; rintro e w4 ⟨rfl, e4⟩; rw [e4]; clear e4) | fail)
          obtain ⟨z0, z1, z2, ⟨u1, z3⟩, ⟨u2, z4⟩, HG⟩ := HST2.out _ HB3.out
          clear HST2 HM HC1 HC2 HO HP HAX
          go_region_held3 (fun w' => w'.cell? ⟨m, 2, none⟩ = some (.slice (some ⟨g, 0, none⟩) N c)) (first | assumption | go_keep) (fail)
          all_goals (try (rw [setCell_swap w3 g (i * 8 + 6) (i * 8 + 5) _ _ (by omega)]))
          all_goals go_wp2
          all_goals exact HG.out
      · have q0 : (key != 0) = true := by rw [bne_iff_ne]; exact k0
        by_cases hix : IX = -1
        · have hBF := hKN hix
          subst hBF
          subst hix
          rw [if_pos ⟨k0, rfl⟩] at hE
          subst hE
          refine ⟨fun _ => ?_, fun q => absurd q (by omega)⟩
          clear HST HOK HAX HBL b1 b2 hf1 hKN hIXge k0
          cases D1
          all_goals
            go_enter Try.func55, Try.ntmps55
            go_wp2_with (first | (go_at_call 72; refine HP.out.mono ?_; rintro e w1 ⟨rfl, HB1⟩) | (go_at_call 75; refine (HM.out _).mono ?_; rintro e w2 ⟨rfl, e2⟩; rw [e2]; clear e2) | (go_at_call 76; (refine (HC1.out _).mono ?_); rintro e w2 ⟨rfl, e2⟩; rw [e2]; clear e2) | (go_at_call 32; refine (HO.out _ HB1.out).mono ?_; rintro e w3 ⟨rfl, HB3⟩) | (go_at_call 76; (refine (HC2.out _).mono ?_); rintro e w2 ⟨rfl, e2⟩; rw [e2]; clear e2) | (go_at_call 53; refine (HAK.out _ HB3.out).mono ?_; rintro e w4 ⟨rfl, e4⟩; rw [e4]; clear e4) | fail)
            go_ret
            exact ⟨rfl, HB3⟩
        · have l9 : ¬ IX < 0 := by omega
          by_cases h4 : dk.k = 4
          · have hBF : (BL && decide (dk.k ≠ 4)) = false := by simp [h4]
            rw [hBF, if_pos ⟨k0, rfl⟩] at hE
            subst hE
            refine ⟨fun _ => ?_, fun q => absurd q (by omega)⟩
            have q4 : (dk.k == 4) = true := by simp [h4]
            clear HST HAX HBL b1 b2 hKN hIXge k0 h4 hBF hix
            cases D1
            all_goals
              go_enter Try.func55, Try.ntmps55
              go_wp2_with (first | (go_at_call 72; refine HP.out.mono ?_; rintro e w1 ⟨rfl, HB1⟩) | (go_at_call 75; refine (HM.out _).mono ?_; rintro e w2 ⟨rfl, e2⟩; rw [e2]; clear e2) | (go_at_call 76; (refine (HC1.out _).mono ?_); rintro e w2 ⟨rfl, e2⟩; rw [e2]; clear e2) | (go_at_call 32; (with_reducible refine (HO.out _ HB1.out).mono ?_); rintro e w3 ⟨rfl, HB3⟩) | (go_at_call 76; (refine (HC2.out _).mono ?_); rintro e w2 ⟨rfl, e2⟩; rw [e2]; clear e2) | (go_at_call 53; refine (HAK.out _ HB3.out).mono ?_; rintro e w4 ⟨rfl, e4⟩; rw [e4]; clear e4) | (go_at_call 32; (with_reducible refine (HOK.out _ HB3.out).mono ?_); rintro e w5 ⟨rfl, HB5⟩) | fail)
              go_ret
              exact ⟨rfl, HB5⟩
          · have q4 : (dk.k == 4) = false := by simp [h4]
            have hBF : (BL && decide (dk.k ≠ 4)) = BL := by simp [h4]
            rw [hBF] at hE
            cases BL with
            | false =>
              rw [if_pos ⟨k0, rfl⟩] at hE
              subst hE
              refine ⟨fun _ => ?_, fun q => absurd q (by omega)⟩
              clear HST HAX b1 b2 hKN hIXge k0 h4 hBF hix
              cases D1
              all_goals
                go_enter Try.func55, Try.ntmps55
                go_wp2_with (first | (go_at_call 72; refine HP.out.mono ?_; rintro e w1 ⟨rfl, HB1⟩) | (go_at_call 75; refine (HM.out _).mono ?_; rintro e w2 ⟨rfl, e2⟩; rw [e2]; clear e2) | (go_at_call 76; (refine (HC1.out _).mono ?_); rintro e w2 ⟨rfl, e2⟩; rw [e2]; clear e2) | (go_at_call 32; (with_reducible refine (HO.out _ HB1.out).mono ?_); rintro e w3 ⟨rfl, HB3⟩) | (go_at_call 76; (refine (HC2.out _).mono ?_); rintro e w2 ⟨rfl, e2⟩; rw [e2]; clear e2) | (go_at_call 53; refine (HAK.out _ HB3.out).mono ?_; rintro e w4 ⟨rfl, e4⟩; rw [e4]; clear e4) | (go_at_call 32; (with_reducible refine (HOK.out _ HB3.out).mono ?_); rintro e w5 ⟨rfl, HB5⟩) | (go_at_call 22; refine (HBL.out _ HB5.out).mono ?_; rintro e w6 ⟨rfl, HB6⟩) | fail)
                go_ret
                exact ⟨rfl, HB6⟩
            | true =>
              rw [if_neg (fun q => by cases q.2)] at hE
              subst hE
              refine ⟨fun q => absurd rfl q, fun _ => ?_⟩
              have HST2 : Hid (∀ w1, Below w.heap.size w w1 → w1.cell? ⟨m, 2, none⟩ = some (.slice (some ⟨g, 0, none⟩) N c) ∧ w1.frozen? ⟨g, i * 8 + 5, none⟩ = false ∧ w1.frozen? ⟨g, i * 8 + 6, none⟩ = false ∧ (∃ u, w1.cell? ⟨g, i * 8 + 5, none⟩ = some u) ∧ (∃ u, w1.cell? ⟨g, i * 8 + 6, none⟩ = some u) ∧ Hid (∃ u, (((w1.setCell ⟨g, i * 8 + 5, none⟩ (.int .i64 mt)).setCell ⟨g, i * 8 + 6, none⟩ (.int .u32 sz)).drew.cell? ⟨m, 2, none⟩ = some (.slice (some ⟨g, 0, none⟩) N c)) ∧ (((w1.setCell ⟨g, i * 8 + 5, none⟩ (.int .i64 mt)).setCell ⟨g, i * 8 + 6, none⟩ (.int .u32 sz)).drew.frozen? ⟨g, i * 8 + 7, none⟩ = false) ∧ ((w1.setCell ⟨g, i * 8 + 5, none⟩ (.int .i64 mt)).setCell ⟨g, i * 8 + 6, none⟩ (.int .u32 sz)).drew.cell? ⟨g, i * 8 + 7, none⟩ = some u ∧ PQ (.returned (.int .i64 0)) (((w1.setCell ⟨g, i * 8 + 5, none⟩ (.int .i64 mt)).setCell ⟨g, i * 8 + 6, none⟩ (.int .u32 sz)).drew.setCell ⟨g, i * 8 + 7, none⟩ (.int .i64 key)))) := hidden (fun w1 hb => by
                obtain ⟨z0, z1, z2, z3, z4, z5, z6, z7, z8, z9, ⟨u, za⟩, zb⟩ := HST.out w1 hb
                exact ⟨z0, z1, z2, z4, z5, hidden ⟨u, z8, z9, za, zb k0⟩⟩)
              clear HST b1 b2 hKN hIXge k0 h4 hBF hix
              cases D1
              all_goals
                go_enter Try.func55, Try.ntmps55
                go_upto_region 9 with (first | (go_at_call 72; refine HP.out.mono ?_; rintro e w1 ⟨rfl, HB1⟩) | (go_at_call 75; refine (HM.out _).mono ?_; rintro e w2 ⟨rfl, e2⟩; rw [e2]; clear e2) | (go_at_call 76; (refine (HC1.out _).mono ?_); rintro e w2 ⟨rfl, e2⟩; rw [e2]; clear e2) | (go_at_call 32; (with_reducible refine (HO.out _ HB1.out).mono ?_); rintro e w3 ⟨rfl, HB3⟩) | (go_at_call 76; (refine (HC2.out _).mono ?_); rintro e w2 ⟨rfl, e2⟩; rw [e2]; clear e2) | (go_at_call 53; (with_reducible refine (HAK.out _ HB3.out).mono ?_); rintro e w4 ⟨rfl, e4⟩; rw [e4]; clear e4) | (go_at_call 32; (with_reducible refine (HOK.out _ HB3.out).mono ?_); rintro e w5 ⟨rfl, HB5⟩) | (go_at_call 22; refine (HBL.out _ HB5.out).mono ?_; rintro e w6 ⟨rfl, HB6⟩) | (go_at_call 53; (with_reducible refine (HAX.out _ HB6.out).mono ?_); rintro e w4 ⟨rfl, e4⟩; rw [e4]; clear e4) | fail)
                obtain ⟨z0, z1, z2, ⟨u1, z3⟩, ⟨u2, z4⟩, HG⟩ := HST2.out _ HB6.out
                clear HST2 HM HC1 HC2 HO HP HAX HOK HAK HBL
                go_region_held3 (fun w' => w'.cell? ⟨m, 2, none⟩ = some (.slice (some ⟨g, 0, none⟩) N c)) (first | assumption | go_keep) (fail)
                all_goals (try (rw [setCell_swap w6 g (i * 8 + 6) (i * 8 + 5) _ _ (by omega)]))
                all_goals
                  obtain ⟨u, y0, y1, y2, HG2⟩ := HG.out
                  have HG3 := hidden HG2
                  clear HG2 HG z0 z1 z2 z3 z4
                  generalize ((w6.setCell ⟨g, i * 8 + 5, none⟩ (.int .i64 mt)).setCell ⟨g, i * 8 + 6, none⟩ (.int .u32 sz)).drew = W at *
                  go_wp2
                  exact HG3.out
end Go.Proofs.Ytilfgbcbodjegaa
