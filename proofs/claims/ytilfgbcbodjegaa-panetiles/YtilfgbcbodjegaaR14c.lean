/- Layer 14, the document: resize; one window where another was. -/
import Derived.Test.YtilfgbcbodjegaaR14b
namespace Go.Proofs.Ytilfgbcbodjegaa
open Go.RowKit
set_option maxHeartbeats 1000000
set_option maxRecDepth 100000
set_option linter.unusedVariables false

theorem QAt.set0 {B : Nat} {w : World} {m : Nat} {v : Value} {s : Ps} (h : QAt B w m v s) (x : Int) : QAt B (w.setCell ⟨m, 0, none⟩ (.int .i64 x)) m v { s with w := x } ∧ Fm w (w.setCell ⟨m, 0, none⟩ (.int .i64 x)) (TP m v) (TP m v) :=
  ⟨⟨h.base, by rw [bkset h.box]; simp, ownsRow_setCell_other h.row (by simpa using h.ne) _⟩, (Fm.same (Below.refl _ _)).set m 0 _ (.inl rfl)⟩
theorem QAt.set1 {B : Nat} {w : World} {m : Nat} {v : Value} {s : Ps} (h : QAt B w m v s) (x : Int) : QAt B (w.setCell ⟨m, 1, none⟩ (.int .i64 x)) m v { s with h := x } ∧ Fm w (w.setCell ⟨m, 1, none⟩ (.int .i64 x)) (TP m v) (TP m v) :=
  ⟨⟨h.base, by rw [bkset h.box]; simp, ownsRow_setCell_other h.row (by simpa using h.ne) _⟩, (Fm.same (Below.refl _ _)).set m 1 _ (.inl rfl)⟩
theorem QAt.set3 {B : Nat} {w : World} {m : Nat} {v : Value} {s : Ps} (h : QAt B w m v s) (x : Int) : QAt B (w.setCell ⟨m, 3, none⟩ (.int .i64 x)) m v { s with last := x } ∧ Fm w (w.setCell ⟨m, 3, none⟩ (.int .i64 x)) (TP m v) (TP m v) :=
  ⟨⟨h.base, by rw [bkset h.box]; simp, ownsRow_setCell_other h.row (by simpa using h.ne) _⟩, (Fm.same (Below.refl _ _)).set m 3 _ (.inl rfl)⟩
theorem qdrew_fin {B m : Nat} {v : Value} {s : Ps} {w w1 : World} {T T' : Nat → Prop} (h : QAt B w1 m v s ∧ Fm w w1 T T') : QAt B w1.drew m v s ∧ Fm w w1.drew T T' := ⟨h.1.later (Below.refl _ _).drew, h.2.trans (Fm.same (Below.refl _ _).drew)⟩
/-- a store into a window -/
theorem QAt.setW {B : Nat} {w : World} {m g c N : Nat} {s : Ps} (h : QAt B w m (.slice (some ⟨g, 0, none⟩) N c) s) (hN : s.L.length = N) (i : Nat) (hi : i < s.L.length) (j : Nat) (hj : j < 8) (u : Value) (d0 d : Wd) (h0 : s.L[i] = d0) (hd : wdV d = (wdV d0).set j u) :
    QAt B (w.setCell ⟨g, i * 8 + j, none⟩ u) m (.slice (some ⟨g, 0, none⟩) N c) { s with L := s.L.set i d } ∧ Fm w (w.setCell ⟨g, i * 8 + j, none⟩ u) (TP m (.slice (some ⟨g, 0, none⟩) N c)) (TP m (.slice (some ⟨g, 0, none⟩) N c)) := by
  have hne : m ≠ g := fun e => h.ne (by rw [e]; rfl)
  subst hN
  subst h0
  refine ⟨⟨h.base, ?_, ?_⟩, (Fm.same (Below.refl _ _)).set g _ _ (.inr rfl)⟩
  · rw [heap_setCell_other _ _ _ _ hne]; exact h.box
  · simp only [List.length_set]; exact wrow_set h.row i hi j hj u d hd
/-- what lies at a window -/
theorem QAt.win {B : Nat} {w : World} {m g c N : Nat} {s : Ps} (h : QAt B w m (.slice (some ⟨g, 0, none⟩) N c) s) (hN : s.L.length = N) (i : Nat) (hi : i < s.L.length) (d : Wd) (h0 : s.L[i] = d) :
    w.cell? ⟨m, 2, none⟩ = some (.slice (some ⟨g, 0, none⟩) N c) ∧ w.cell? ⟨g, i * 8, none⟩ = some (.int .i64 d.n) ∧ w.cell? ⟨g, i * 8 + 2, none⟩ = some (.int .i64 d.p) ∧ w.cell? ⟨g, i * 8 + 3, none⟩ = some (.int .i64 d.a) ∧ w.cell? ⟨g, i * 8 + 4, none⟩ = some (.int .i64 d.b) ∧ w.frozen? ⟨g, i * 8 + 2, none⟩ = false ∧ w.frozen? ⟨g, i * 8 + 3, none⟩ = false ∧ w.frozen? ⟨g, i * 8 + 4, none⟩ = false := by
  subst hN
  subst h0
  obtain ⟨c0, c1, c2, c3, c4, _⟩ := wrow_cells h.row i hi
  exact ⟨h.cells.2.2.1, c0, c2, c3, c4, wrow_frozen h.row _, wrow_frozen h.row _, wrow_frozen h.row _⟩
theorem dresize_bad {m : Nat} {w : World} (x y : Int) (h : scrB x y = false) : Calls Try.prog 56 #[.pointer (some ⟨m, 0, none⟩), .int .i64 x, .int .i64 y] w fun e w' => e = .returned (.int .i64 1) ∧ w' = w := by
  have hs : ¬ (0 ≤ x ∧ x ≤ 1000 ∧ 0 ≤ y ∧ y ≤ 1000) := by simpa [scrB] using h
  clear h
  by_cases h0 : x < 0
  · go_enter Try.func56, Try.ntmps56
    go_wp2
    go_ret
    exact ⟨rfl, rfl⟩
  · by_cases h1 : x > 1000
    · go_enter Try.func56, Try.ntmps56
      go_wp2
      go_ret
      exact ⟨rfl, rfl⟩
    · by_cases h2 : y < 0
      · clear hs
        go_enter Try.func56, Try.ntmps56
        go_wp2
        go_ret
        exact ⟨rfl, rfl⟩
      · have h3 : y > 1000 := by omega
        clear hs
        go_enter Try.func56, Try.ntmps56
        go_wp2
        go_ret
        exact ⟨rfl, rfl⟩
theorem dresize_good {B m : Nat} {v : Value} {s : Ps} {w : World} (h : QAt B w m v s) (x y : Int) (hs : scrB x y = true) : Calls Try.prog 56 #[.pointer (some ⟨m, 0, none⟩), .int .i64 x, .int .i64 y] w fun e w' => e = .returned (.int .i64 0) ∧ QAt B w' m v { s with w := x, h := y } ∧ Fm w w' (TP m v) (TP m v) := by
  have hq : 0 ≤ x ∧ x ≤ 1000 ∧ 0 ≤ y ∧ y ≤ 1000 := by simpa [scrB] using hs
  have l0 : ¬ x < 0 := by omega
  have l1 : ¬ x > 1000 := by omega
  have l2 : ¬ y < 0 := by omega
  have l3 : ¬ y > 1000 := by omega
  obtain ⟨d0, d1, d2, d3, d5⟩ := h.cells
  obtain ⟨a1, a2⟩ := h.set0 x
  obtain ⟨a3, a4⟩ := a1.set1 y
  have HE := hidden (And.intro a3 (a2.trans a4))
  have HE2 := hidden (qdrew_fin HE.out)
  obtain ⟨b1, b2⟩ := h.set1 y
  obtain ⟨b3, b4⟩ := b1.set0 x
  have HE3 := hidden (And.intro b3 (b2.trans b4))
  clear h a1 a2 a3 a4 b1 b2 b3 b4 hs hq
  go_enter Try.func56, Try.ntmps56
  go_wp2
  all_goals go_ret
  all_goals first | exact ⟨rfl, HE.out⟩ | exact ⟨rfl, HE2.out⟩ | exact ⟨rfl, HE3.out⟩
/-- a window where now stands for was below up -/
def turnF (up was now : Int) (d : Wd) : Wd := { d with p := if d.n = now then up else d.p, a := if d.n = up ∧ d.a = was then now else d.a, b := if d.n = up ∧ ¬ d.a = was ∧ d.b = was then now else d.b }
theorem mapK_len (f : Wd → Wd) (L : List Wd) (j : Nat) : ((L.take j).map f ++ L.drop j).length = L.length := by
  rw [List.length_append, List.length_map, List.length_take, List.length_drop]; omega
theorem mapK_at (f : Wd → Wd) (L : List Wd) (j : Nat) (hj : j < L.length) (hk : j < ((L.take j).map f ++ L.drop j).length) : ((L.take j).map f ++ L.drop j)[j] = L[j] := by
  rw [List.getElem_append_right (by rw [List.length_map, List.length_take]; omega)]
  simp only [List.length_map, List.length_take, List.getElem_drop]
  congr 1
  omega
theorem mapK_set (f : Wd → Wd) (L : List Wd) (j : Nat) (hj : j < L.length) : ((L.take j).map f ++ L.drop j).set j (f L[j]) = (L.take (j + 1)).map f ++ L.drop (j + 1) := by
  have e1 : L.take (j + 1) = L.take j ++ [L[j]] := by rw [List.take_add_one, List.getElem?_eq_getElem hj]; rfl
  have e2 : L.drop j = L[j] :: L.drop (j + 1) := List.drop_eq_getElem_cons hj
  rw [e1, e2, List.map_append, List.append_assoc, List.set_append_right _ _ (by rw [List.length_map, List.length_take]; omega), List.length_map, List.length_take, show j - min j L.length = 0 by omega]
  rfl
set_option maxHeartbeats 8000000 in
theorem dturned_any {B m : Nat} {v : Value} {s : Ps} {w : World} (h : QAt B w m v s) (hn : s.L.length ≤ 1000) (up was now : Int) :
    Calls Try.prog 74 #[.pointer (some ⟨m, 0, none⟩), .int .i64 up, .int .i64 was, .int .i64 now] w fun e w' => e = .returned (.tuple #[]) ∧ Hid (QAt B w' m v { s with L := s.L.map (turnF up was now) } ∧ Fm w w' (TP m v) (TP m v)) := by
  obtain ⟨va, vc, hv⟩ := own_slice h.row
  subst hv
  obtain ⟨N, hN⟩ : ∃ N, s.L.length = N := ⟨_, rfl⟩
  have HN := hidden hN
  rw [hN] at h hn ⊢
  have HQ := hidden h
  clear h hN
  obtain ⟨f, hf⟩ : ∃ f, turnF up was now = f := ⟨_, rfl⟩
  have HF := hidden hf
  rw [hf]
  clear hf
  go_enter Try.func74, Try.ntmps74
  go_upto_region 1 with fail
  go_loopw [8] (fun i w' => ∃ j : Nat, i = .int .i64 j ∧ j ≤ N ∧ Hid (QAt B w' m (.slice va N vc) { s with L := (s.L.take j).map f ++ s.L.drop j } ∧ Fm w w' (TP m (.slice va N vc)) (TP m (.slice va N vc)))) (fun i _ => N - (intOf i).toNat)
  case atStart => exact ⟨0, rfl, Nat.zero_le _, hidden ⟨HQ.out, Fm.same (Below.refl _ _)⟩⟩
  case round =>
    obtain ⟨j, rfl, hj, HR⟩ := hrel
    obtain ⟨KL, hKL⟩ : ∃ KL, (s.L.take j).map f ++ s.L.drop j = KL := ⟨_, rfl⟩
    have hKN : KL.length = N := by rw [← hKL, mapK_len]; exact HN.out
    by_cases hlt : j < N
    · have l1 : (j : Int) < N := by omega
      have l0 : (0 : Int) ≤ j := by omega
      have hjl : j < s.L.length := by rw [HN.out]; exact hlt
      have hjk : j < KL.length := by omega
      obtain ⟨d, hd⟩ : ∃ d, s.L[j] = d := ⟨_, rfl⟩
      have hKd : KL[j] = d := by
        rw [← hd]
        subst hKL
        exact mapK_at f s.L j hjl hjk
      have HNX : Hid (KL.set j (f d) = (s.L.take (j + 1)).map f ++ s.L.drop (j + 1)) := hidden (by rw [← hKL, ← hd]; exact mapK_set f s.L j hjl)
      rw [hKL] at HR
      obtain ⟨q0, f0⟩ := HR.out
      obtain ⟨g, rfl⟩ : ∃ g, va = some ⟨g, 0, none⟩ := by
        have r := q0.row
        rw [show ({ s with L := KL } : Ps).L.length = N from hKN] at r
        obtain ⟨g, c, hv2, _⟩ := wrow_pos (L := KL) (by rw [hKN]; exact r) (by omega)
        simp only [Value.slice.injEq] at hv2
        exact ⟨g, hv2.1⟩
      clear hKL hd HR
      by_cases en : d.n = now
      · have kn : (d.n == now) = true := by simp [en]
        by_cases eu : d.n = up
        · have ku : (d.n == up) = true := by simp [eu]
          by_cases ea : d.a = was
          · have ka : (d.a == was) = true := by simp [ea]
            by_cases eb : d.b = was
            · have kb : (d.b == was) = true := by simp [eb]
              obtain ⟨m0, n0, p0, a0, b0, z0, y0, x0⟩ := q0.win (by show List.length _ = _; simp [hKN]) j (by show j < List.length _; simp [hKN]; omega) d (by exact hKd)
              obtain ⟨q1, g1⟩ := q0.setW (by show List.length _ = _; simp [hKN]) j (by show j < List.length _; simp [hKN]; omega) 2 (by omega) (.int .i64 up) d ({ d with p := up } : Wd) (by exact hKd) rfl
              obtain ⟨m1, n1, p1, a1, b1, z1, y1, x1⟩ := q1.win (by show List.length _ = _; simp [hKN]) j (by show j < List.length _; simp [hKN]; omega) ({ d with p := up } : Wd) (by simp)
              obtain ⟨q2, g2⟩ := q1.setW (by show List.length _ = _; simp [hKN]) j (by show j < List.length _; simp [hKN]; omega) 3 (by omega) (.int .i64 now) ({ d with p := up } : Wd) ({ d with p := up, a := now } : Wd) (by simp) rfl
              obtain ⟨m2, n2, p2, a2, b2, z2, y2, x2⟩ := q2.win (by show List.length _ = _; simp [hKN]) j (by show j < List.length _; simp [hKN]; omega) ({ d with p := up, a := now } : Wd) (by simp)
              have HEND : Hid (QAt B (((wr).setCell ⟨g, j * 8 + 2, none⟩ (.int .i64 up)).setCell ⟨g, j * 8 + 3, none⟩ (.int .i64 now)) m (.slice (some ⟨g, 0, none⟩) N vc) { s with L := (s.L.take (j + 1)).map f ++ s.L.drop (j + 1) } ∧ Fm w (((wr).setCell ⟨g, j * 8 + 2, none⟩ (.int .i64 up)).setCell ⟨g, j * 8 + 3, none⟩ (.int .i64 now)) (TP m (.slice (some ⟨g, 0, none⟩) N vc)) (TP m (.slice (some ⟨g, 0, none⟩) N vc))) := hidden (by
                refine ⟨?_, ((f0).trans g1).trans g2⟩
                rw [← HNX.out, ← HF.out, show turnF up was now d = ({ d with p := up, a := now } : Wd) by unfold turnF; rw [if_pos en, if_pos ⟨eu, ea⟩, if_neg (fun q => q.2.1 ea)] <;> rfl]
                have r := q2
                simp only [List.set_set] at r
                exact r)
              clear q0 q1 q2 f0 g1 g2 HNX HF HN HQ hKd
              clear en eu ea eb
              generalize d.n = dn at *
              generalize d.p = dp at *
              generalize d.a = da at *
              generalize d.b = db at *
              go_wp2
              go_roundw
              case rel => exact ⟨j + 1, by first | rfl | go_num, by omega, HEND⟩
              case measure => simp [intOf]; omega
            · have kb : (d.b == was) = false := by simp [eb]
              obtain ⟨m0, n0, p0, a0, b0, z0, y0, x0⟩ := q0.win (by show List.length _ = _; simp [hKN]) j (by show j < List.length _; simp [hKN]; omega) d (by exact hKd)
              obtain ⟨q1, g1⟩ := q0.setW (by show List.length _ = _; simp [hKN]) j (by show j < List.length _; simp [hKN]; omega) 2 (by omega) (.int .i64 up) d ({ d with p := up } : Wd) (by exact hKd) rfl
              obtain ⟨m1, n1, p1, a1, b1, z1, y1, x1⟩ := q1.win (by show List.length _ = _; simp [hKN]) j (by show j < List.length _; simp [hKN]; omega) ({ d with p := up } : Wd) (by simp)
              obtain ⟨q2, g2⟩ := q1.setW (by show List.length _ = _; simp [hKN]) j (by show j < List.length _; simp [hKN]; omega) 3 (by omega) (.int .i64 now) ({ d with p := up } : Wd) ({ d with p := up, a := now } : Wd) (by simp) rfl
              obtain ⟨m2, n2, p2, a2, b2, z2, y2, x2⟩ := q2.win (by show List.length _ = _; simp [hKN]) j (by show j < List.length _; simp [hKN]; omega) ({ d with p := up, a := now } : Wd) (by simp)
              have HEND : Hid (QAt B (((wr).setCell ⟨g, j * 8 + 2, none⟩ (.int .i64 up)).setCell ⟨g, j * 8 + 3, none⟩ (.int .i64 now)) m (.slice (some ⟨g, 0, none⟩) N vc) { s with L := (s.L.take (j + 1)).map f ++ s.L.drop (j + 1) } ∧ Fm w (((wr).setCell ⟨g, j * 8 + 2, none⟩ (.int .i64 up)).setCell ⟨g, j * 8 + 3, none⟩ (.int .i64 now)) (TP m (.slice (some ⟨g, 0, none⟩) N vc)) (TP m (.slice (some ⟨g, 0, none⟩) N vc))) := hidden (by
                refine ⟨?_, ((f0).trans g1).trans g2⟩
                rw [← HNX.out, ← HF.out, show turnF up was now d = ({ d with p := up, a := now } : Wd) by unfold turnF; rw [if_pos en, if_pos ⟨eu, ea⟩, if_neg (fun q => q.2.1 ea)] <;> rfl]
                have r := q2
                simp only [List.set_set] at r
                exact r)
              clear q0 q1 q2 f0 g1 g2 HNX HF HN HQ hKd
              clear en eu ea eb
              generalize d.n = dn at *
              generalize d.p = dp at *
              generalize d.a = da at *
              generalize d.b = db at *
              go_wp2
              go_roundw
              case rel => exact ⟨j + 1, by first | rfl | go_num, by omega, HEND⟩
              case measure => simp [intOf]; omega
          · have ka : (d.a == was) = false := by simp [ea]
            by_cases eb : d.b = was
            · have kb : (d.b == was) = true := by simp [eb]
              obtain ⟨m0, n0, p0, a0, b0, z0, y0, x0⟩ := q0.win (by show List.length _ = _; simp [hKN]) j (by show j < List.length _; simp [hKN]; omega) d (by exact hKd)
              obtain ⟨q1, g1⟩ := q0.setW (by show List.length _ = _; simp [hKN]) j (by show j < List.length _; simp [hKN]; omega) 2 (by omega) (.int .i64 up) d ({ d with p := up } : Wd) (by exact hKd) rfl
              obtain ⟨m1, n1, p1, a1, b1, z1, y1, x1⟩ := q1.win (by show List.length _ = _; simp [hKN]) j (by show j < List.length _; simp [hKN]; omega) ({ d with p := up } : Wd) (by simp)
              obtain ⟨q2, g2⟩ := q1.setW (by show List.length _ = _; simp [hKN]) j (by show j < List.length _; simp [hKN]; omega) 4 (by omega) (.int .i64 now) ({ d with p := up } : Wd) ({ d with p := up, b := now } : Wd) (by simp) rfl
              obtain ⟨m2, n2, p2, a2, b2, z2, y2, x2⟩ := q2.win (by show List.length _ = _; simp [hKN]) j (by show j < List.length _; simp [hKN]; omega) ({ d with p := up, b := now } : Wd) (by simp)
              have HEND : Hid (QAt B (((wr).setCell ⟨g, j * 8 + 2, none⟩ (.int .i64 up)).setCell ⟨g, j * 8 + 4, none⟩ (.int .i64 now)) m (.slice (some ⟨g, 0, none⟩) N vc) { s with L := (s.L.take (j + 1)).map f ++ s.L.drop (j + 1) } ∧ Fm w (((wr).setCell ⟨g, j * 8 + 2, none⟩ (.int .i64 up)).setCell ⟨g, j * 8 + 4, none⟩ (.int .i64 now)) (TP m (.slice (some ⟨g, 0, none⟩) N vc)) (TP m (.slice (some ⟨g, 0, none⟩) N vc))) := hidden (by
                refine ⟨?_, ((f0).trans g1).trans g2⟩
                rw [← HNX.out, ← HF.out, show turnF up was now d = ({ d with p := up, b := now } : Wd) by unfold turnF; rw [if_pos en, if_neg (fun q => ea q.2), if_pos ⟨eu, ea, eb⟩] <;> rfl]
                have r := q2
                simp only [List.set_set] at r
                exact r)
              clear q0 q1 q2 f0 g1 g2 HNX HF HN HQ hKd
              clear en eu ea eb
              generalize d.n = dn at *
              generalize d.p = dp at *
              generalize d.a = da at *
              generalize d.b = db at *
              go_wp2
              go_roundw
              case rel => exact ⟨j + 1, by first | rfl | go_num, by omega, HEND⟩
              case measure => simp [intOf]; omega
            · have kb : (d.b == was) = false := by simp [eb]
              obtain ⟨m0, n0, p0, a0, b0, z0, y0, x0⟩ := q0.win (by show List.length _ = _; simp [hKN]) j (by show j < List.length _; simp [hKN]; omega) d (by exact hKd)
              obtain ⟨q1, g1⟩ := q0.setW (by show List.length _ = _; simp [hKN]) j (by show j < List.length _; simp [hKN]; omega) 2 (by omega) (.int .i64 up) d ({ d with p := up } : Wd) (by exact hKd) rfl
              obtain ⟨m1, n1, p1, a1, b1, z1, y1, x1⟩ := q1.win (by show List.length _ = _; simp [hKN]) j (by show j < List.length _; simp [hKN]; omega) ({ d with p := up } : Wd) (by simp)
              have HEND : Hid (QAt B ((wr).setCell ⟨g, j * 8 + 2, none⟩ (.int .i64 up)) m (.slice (some ⟨g, 0, none⟩) N vc) { s with L := (s.L.take (j + 1)).map f ++ s.L.drop (j + 1) } ∧ Fm w ((wr).setCell ⟨g, j * 8 + 2, none⟩ (.int .i64 up)) (TP m (.slice (some ⟨g, 0, none⟩) N vc)) (TP m (.slice (some ⟨g, 0, none⟩) N vc))) := hidden (by
                refine ⟨?_, (f0).trans g1⟩
                rw [← HNX.out, ← HF.out, show turnF up was now d = ({ d with p := up } : Wd) by unfold turnF; rw [if_pos en, if_neg (fun q => ea q.2), if_neg (fun q => eb q.2.2)] <;> rfl]
                have r := q1
                skip
                exact r)
              clear q0 q1 f0 g1 HNX HF HN HQ hKd
              clear en eu ea eb
              generalize d.n = dn at *
              generalize d.p = dp at *
              generalize d.a = da at *
              generalize d.b = db at *
              go_wp2
              go_roundw
              case rel => exact ⟨j + 1, by first | rfl | go_num, by omega, HEND⟩
              case measure => simp [intOf]; omega
        · have ku : (d.n == up) = false := by simp [eu]
          obtain ⟨m0, n0, p0, a0, b0, z0, y0, x0⟩ := q0.win (by show List.length _ = _; simp [hKN]) j (by show j < List.length _; simp [hKN]; omega) d (by exact hKd)
          obtain ⟨q1, g1⟩ := q0.setW (by show List.length _ = _; simp [hKN]) j (by show j < List.length _; simp [hKN]; omega) 2 (by omega) (.int .i64 up) d ({ d with p := up } : Wd) (by exact hKd) rfl
          obtain ⟨m1, n1, p1, a1, b1, z1, y1, x1⟩ := q1.win (by show List.length _ = _; simp [hKN]) j (by show j < List.length _; simp [hKN]; omega) ({ d with p := up } : Wd) (by simp)
          have HEND : Hid (QAt B ((wr).setCell ⟨g, j * 8 + 2, none⟩ (.int .i64 up)) m (.slice (some ⟨g, 0, none⟩) N vc) { s with L := (s.L.take (j + 1)).map f ++ s.L.drop (j + 1) } ∧ Fm w ((wr).setCell ⟨g, j * 8 + 2, none⟩ (.int .i64 up)) (TP m (.slice (some ⟨g, 0, none⟩) N vc)) (TP m (.slice (some ⟨g, 0, none⟩) N vc))) := hidden (by
            refine ⟨?_, (f0).trans g1⟩
            rw [← HNX.out, ← HF.out, show turnF up was now d = ({ d with p := up } : Wd) by unfold turnF; rw [if_pos en, if_neg (fun q => eu q.1), if_neg (fun q => eu q.1)] <;> rfl]
            have r := q1
            skip
            exact r)
          clear q0 q1 f0 g1 HNX HF HN HQ hKd
          clear en eu
          generalize d.n = dn at *
          generalize d.p = dp at *
          generalize d.a = da at *
          generalize d.b = db at *
          go_wp2
          go_roundw
          case rel => exact ⟨j + 1, by first | rfl | go_num, by omega, HEND⟩
          case measure => simp [intOf]; omega
      · have kn : (d.n == now) = false := by simp [en]
        by_cases eu : d.n = up
        · have ku : (d.n == up) = true := by simp [eu]
          by_cases ea : d.a = was
          · have ka : (d.a == was) = true := by simp [ea]
            by_cases eb : d.b = was
            · have kb : (d.b == was) = true := by simp [eb]
              obtain ⟨m0, n0, p0, a0, b0, z0, y0, x0⟩ := q0.win (by show List.length _ = _; simp [hKN]) j (by show j < List.length _; simp [hKN]; omega) d (by exact hKd)
              obtain ⟨q1, g1⟩ := q0.setW (by show List.length _ = _; simp [hKN]) j (by show j < List.length _; simp [hKN]; omega) 3 (by omega) (.int .i64 now) d ({ d with a := now } : Wd) (by exact hKd) rfl
              obtain ⟨m1, n1, p1, a1, b1, z1, y1, x1⟩ := q1.win (by show List.length _ = _; simp [hKN]) j (by show j < List.length _; simp [hKN]; omega) ({ d with a := now } : Wd) (by simp)
              have HEND : Hid (QAt B ((wr).setCell ⟨g, j * 8 + 3, none⟩ (.int .i64 now)) m (.slice (some ⟨g, 0, none⟩) N vc) { s with L := (s.L.take (j + 1)).map f ++ s.L.drop (j + 1) } ∧ Fm w ((wr).setCell ⟨g, j * 8 + 3, none⟩ (.int .i64 now)) (TP m (.slice (some ⟨g, 0, none⟩) N vc)) (TP m (.slice (some ⟨g, 0, none⟩) N vc))) := hidden (by
                refine ⟨?_, (f0).trans g1⟩
                rw [← HNX.out, ← HF.out, show turnF up was now d = ({ d with a := now } : Wd) by unfold turnF; rw [if_neg en, if_pos ⟨eu, ea⟩, if_neg (fun q => q.2.1 ea)] <;> rfl]
                have r := q1
                skip
                exact r)
              clear q0 q1 f0 g1 HNX HF HN HQ hKd
              clear en eu ea eb
              generalize d.n = dn at *
              generalize d.p = dp at *
              generalize d.a = da at *
              generalize d.b = db at *
              go_wp2
              go_roundw
              case rel => exact ⟨j + 1, by first | rfl | go_num, by omega, HEND⟩
              case measure => simp [intOf]; omega
            · have kb : (d.b == was) = false := by simp [eb]
              obtain ⟨m0, n0, p0, a0, b0, z0, y0, x0⟩ := q0.win (by show List.length _ = _; simp [hKN]) j (by show j < List.length _; simp [hKN]; omega) d (by exact hKd)
              obtain ⟨q1, g1⟩ := q0.setW (by show List.length _ = _; simp [hKN]) j (by show j < List.length _; simp [hKN]; omega) 3 (by omega) (.int .i64 now) d ({ d with a := now } : Wd) (by exact hKd) rfl
              obtain ⟨m1, n1, p1, a1, b1, z1, y1, x1⟩ := q1.win (by show List.length _ = _; simp [hKN]) j (by show j < List.length _; simp [hKN]; omega) ({ d with a := now } : Wd) (by simp)
              have HEND : Hid (QAt B ((wr).setCell ⟨g, j * 8 + 3, none⟩ (.int .i64 now)) m (.slice (some ⟨g, 0, none⟩) N vc) { s with L := (s.L.take (j + 1)).map f ++ s.L.drop (j + 1) } ∧ Fm w ((wr).setCell ⟨g, j * 8 + 3, none⟩ (.int .i64 now)) (TP m (.slice (some ⟨g, 0, none⟩) N vc)) (TP m (.slice (some ⟨g, 0, none⟩) N vc))) := hidden (by
                refine ⟨?_, (f0).trans g1⟩
                rw [← HNX.out, ← HF.out, show turnF up was now d = ({ d with a := now } : Wd) by unfold turnF; rw [if_neg en, if_pos ⟨eu, ea⟩, if_neg (fun q => q.2.1 ea)] <;> rfl]
                have r := q1
                skip
                exact r)
              clear q0 q1 f0 g1 HNX HF HN HQ hKd
              clear en eu ea eb
              generalize d.n = dn at *
              generalize d.p = dp at *
              generalize d.a = da at *
              generalize d.b = db at *
              go_wp2
              go_roundw
              case rel => exact ⟨j + 1, by first | rfl | go_num, by omega, HEND⟩
              case measure => simp [intOf]; omega
          · have ka : (d.a == was) = false := by simp [ea]
            by_cases eb : d.b = was
            · have kb : (d.b == was) = true := by simp [eb]
              obtain ⟨m0, n0, p0, a0, b0, z0, y0, x0⟩ := q0.win (by show List.length _ = _; simp [hKN]) j (by show j < List.length _; simp [hKN]; omega) d (by exact hKd)
              obtain ⟨q1, g1⟩ := q0.setW (by show List.length _ = _; simp [hKN]) j (by show j < List.length _; simp [hKN]; omega) 4 (by omega) (.int .i64 now) d ({ d with b := now } : Wd) (by exact hKd) rfl
              obtain ⟨m1, n1, p1, a1, b1, z1, y1, x1⟩ := q1.win (by show List.length _ = _; simp [hKN]) j (by show j < List.length _; simp [hKN]; omega) ({ d with b := now } : Wd) (by simp)
              have HEND : Hid (QAt B ((wr).setCell ⟨g, j * 8 + 4, none⟩ (.int .i64 now)) m (.slice (some ⟨g, 0, none⟩) N vc) { s with L := (s.L.take (j + 1)).map f ++ s.L.drop (j + 1) } ∧ Fm w ((wr).setCell ⟨g, j * 8 + 4, none⟩ (.int .i64 now)) (TP m (.slice (some ⟨g, 0, none⟩) N vc)) (TP m (.slice (some ⟨g, 0, none⟩) N vc))) := hidden (by
                refine ⟨?_, (f0).trans g1⟩
                rw [← HNX.out, ← HF.out, show turnF up was now d = ({ d with b := now } : Wd) by unfold turnF; rw [if_neg en, if_neg (fun q => ea q.2), if_pos ⟨eu, ea, eb⟩] <;> rfl]
                have r := q1
                skip
                exact r)
              clear q0 q1 f0 g1 HNX HF HN HQ hKd
              clear en eu ea eb
              generalize d.n = dn at *
              generalize d.p = dp at *
              generalize d.a = da at *
              generalize d.b = db at *
              go_wp2
              go_roundw
              case rel => exact ⟨j + 1, by first | rfl | go_num, by omega, HEND⟩
              case measure => simp [intOf]; omega
            · have kb : (d.b == was) = false := by simp [eb]
              obtain ⟨m0, n0, p0, a0, b0, z0, y0, x0⟩ := q0.win (by show List.length _ = _; simp [hKN]) j (by show j < List.length _; simp [hKN]; omega) d (by exact hKd)
              have HEND : Hid (QAt B (wr) m (.slice (some ⟨g, 0, none⟩) N vc) { s with L := (s.L.take (j + 1)).map f ++ s.L.drop (j + 1) } ∧ Fm w (wr) (TP m (.slice (some ⟨g, 0, none⟩) N vc)) (TP m (.slice (some ⟨g, 0, none⟩) N vc))) := hidden (by
                refine ⟨?_, f0⟩
                rw [← HNX.out, ← HF.out, show turnF up was now d = d by unfold turnF; rw [if_neg en, if_neg (fun q => ea q.2), if_neg (fun q => eb q.2.2)] <;> rfl]
                have r := q0
                rw [show d = KL[j] from hKd.symm, List.set_getElem_self]
                exact r)
              clear q0 f0  HNX HF HN HQ hKd
              clear en eu ea eb
              generalize d.n = dn at *
              generalize d.p = dp at *
              generalize d.a = da at *
              generalize d.b = db at *
              go_wp2
              go_roundw
              case rel => exact ⟨j + 1, by first | rfl | go_num, by omega, HEND⟩
              case measure => simp [intOf]; omega
        · have ku : (d.n == up) = false := by simp [eu]
          obtain ⟨m0, n0, p0, a0, b0, z0, y0, x0⟩ := q0.win (by show List.length _ = _; simp [hKN]) j (by show j < List.length _; simp [hKN]; omega) d (by exact hKd)
          have HEND : Hid (QAt B (wr) m (.slice (some ⟨g, 0, none⟩) N vc) { s with L := (s.L.take (j + 1)).map f ++ s.L.drop (j + 1) } ∧ Fm w (wr) (TP m (.slice (some ⟨g, 0, none⟩) N vc)) (TP m (.slice (some ⟨g, 0, none⟩) N vc))) := hidden (by
            refine ⟨?_, f0⟩
            rw [← HNX.out, ← HF.out, show turnF up was now d = d by unfold turnF; rw [if_neg en, if_neg (fun q => eu q.1), if_neg (fun q => eu q.1)] <;> rfl]
            have r := q0
            rw [show d = KL[j] from hKd.symm, List.set_getElem_self]
            exact r)
          clear q0 f0  HNX HF HN HQ hKd
          clear en eu
          generalize d.n = dn at *
          generalize d.p = dp at *
          generalize d.a = da at *
          generalize d.b = db at *
          go_wp2
          go_roundw
          case rel => exact ⟨j + 1, by first | rfl | go_num, by omega, HEND⟩
          case measure => simp [intOf]; omega
    · obtain rfl : j = N := by omega
      have l1 : ¬ ((j : Int) < (j : Int)) := by omega
      obtain ⟨q0, f0⟩ := HR.out
      have HE : Hid (QAt B wr m (.slice va j vc) { s with L := s.L.map f } ∧ Fm w wr (TP m (.slice va j vc)) (TP m (.slice va j vc))) := hidden (by
        have e : (s.L.take j).map f ++ s.L.drop j = s.L.map f := by rw [← HN.out, List.take_length, List.drop_length, List.append_nil]
        rw [e] at q0
        exact ⟨q0, f0⟩)
      have m0 := q0.cells.2.2.1
      clear q0 f0 hKN hKL HR HQ HN HF
      go_wp2
      refine bodyPost_end (v := .tuple #[]) (by simp [results, Try.results74, go_sem]) rfl ⟨rfl, HE⟩
end Go.Proofs.Ytilfgbcbodjegaa
