/- Layer 14, the program: slices.IndexFunc and slices.DeleteFunc over windows, with the function that says who is gone. -/
import Derived.Test.YtilfgbcbodjegaaP14q
namespace Go.Proofs.Ytilfgbcbodjegaa
open Go.RowKit
set_option maxHeartbeats 1000000
set_option maxRecDepth 100000
set_option linter.unusedVariables false

theorem run_clearW (w : World) (g o n c : Nat) (hn : 0 < n) (cur : Array Value) (hg : w.heap[g]? = some (.cells cur 79 (0, 0))) (hfit : o * 8 + n * 8 ≤ cur.size) :
    ∃ w', (∀ ty, (Builtin.clear_ #[74] ty #[.slice (some ⟨g, o * 8, none⟩) n c]).run Try.prog w = .ok (.tuple #[]) w') ∧ (∃ cur' : Array Value, w'.heap[g]? = some (.cells cur' 79 (0, 0)) ∧ cur'.size = cur.size ∧ cur'.toList.take (o * 8) = cur.toList.take (o * 8)) ∧ w.grownBy w' (some g) := by
  obtain ⟨z, hz⟩ : ∃ z : Value, z = .agg #[.int .i64 0, .int .i64 0, .int .i64 0, .int .i64 0, .int .i64 0, .int .i64 0, .int .u32 0, .int .i64 0] := ⟨_, rfl⟩
  have hv : ∀ w, (zeroValue 79).run Try.prog w = .ok z w := fun w => by rw [hz]; kernel_rfl
  have hzs : z.cells.size = 8 := by rw [hz]; rfl
  obtain ⟨cs, hcs⟩ : ∃ cs, (Builtin.zeroCells z.cells n).toList = cs := ⟨_, rfl⟩
  have hl : cs.length = n * 8 := by rw [← hcs]; simp [Builtin.zeroCells, hzs]
  have h1 : ∀ v ∈ cs, v.oneCell' = true := by
    intro v hv
    rw [← hcs] at hv
    simp only [Builtin.zeroCells, Array.toList_map, List.mem_map, hzs] at hv
    obtain ⟨i, _, rfl⟩ := hv
    have h8 : i % 8 < 8 := Nat.mod_lt _ (by omega)
    rw [hz]
    generalize i % 8 = k at *
    rcases (show k = 0 ∨ k = 1 ∨ k = 2 ∨ k = 3 ∨ k = 4 ∨ k = 5 ∨ k = 6 ∨ k = 7 by omega) with rfl | rfl | rfl | rfl | rfl | rfl | rfl | rfl <;> rfl
  have hst := run_storeCells_at Try.prog g (o * 8) 79 cs 0 cur w hg (by simpa [hl] using hfit) h1
  obtain ⟨m, rfl⟩ : ∃ m, n = m + 1 := ⟨n - 1, by omega⟩
  refine ⟨w.setRow g (splice cur.toList (o * 8) cs).toArray, fun ty => ?_, ⟨(splice cur.toList (o * 8) cs).toArray, setRow_heap w g cur _ _ _ hg, ?_, ?_⟩, ⟨rfl, rfl, rfl, by simp [World.setRow], fun k _ hk => setRow_other w g k _ (fun e => hk (by rw [e]))⟩⟩
  · simp [Builtin.clear_, run_underlying Try.underlying74, hv, hcs, hst, splice]
  · simp only [List.size_toArray]
    rw [length_splice _ _ _ (by rw [hl]; simpa using hfit)]
    simp
  · simp only [splice]
    rw [List.take_append_of_le_length (by rw [List.length_take]; simp; omega), List.take_of_length_le (by rw [List.length_take]; omega)]
/-- a window laid whole at a place of a row -/
def put8 (w : World) (g i : Nat) (d : Wd) : World :=
  (((((((w.setCell ⟨g, i * 8, none⟩ (.int .i64 d.n)).setCell ⟨g, i * 8 + 1, none⟩ (.int .i64 d.k)).setCell ⟨g, i * 8 + 2, none⟩ (.int .i64 d.p)).setCell ⟨g, i * 8 + 3, none⟩ (.int .i64 d.a)).setCell ⟨g, i * 8 + 4, none⟩ (.int .i64 d.b)).setCell ⟨g, i * 8 + 5, none⟩ (.int .i64 d.m)).setCell ⟨g, i * 8 + 6, none⟩ (.int .u32 d.s)).setCell ⟨g, i * 8 + 7, none⟩ (.int .i64 d.key)
theorem wrow_put {B E : Nat} {w : World} {g c : Nat} {L : List Wd} (h : w.ownsRow B E 8 (.slice (some ⟨g, 0, none⟩) L.length c) L.length (wdsV L)) (i : Nat) (hi : i < L.length) (d : Wd) : (put8 w g i d).ownsRow B E 8 (.slice (some ⟨g, 0, none⟩) L.length c) L.length (wdsV (L.set i d)) := by
  have step : ∀ {w : World} {M : List Wd}, w.ownsRow B E 8 (.slice (some ⟨g, 0, none⟩) M.length c) M.length (wdsV M) → ∀ (hM : M.length = L.length) (j : Nat), j < 8 → ∀ (u : Value) (x y : Wd), (∃ hiM : i < M.length, M[i] = x) → wdV y = (wdV x).set j u → (w.setCell ⟨g, i * 8 + j, none⟩ u).ownsRow B E 8 (.slice (some ⟨g, 0, none⟩) (M.set i y).length c) (M.set i y).length (wdsV (M.set i y)) ∧ (M.set i y).length = L.length ∧ (∃ hiM : i < (M.set i y).length, (M.set i y)[i] = y) := fun {w M} hw hM j hj u x y hx hd => by
    obtain ⟨hiM, rfl⟩ := hx
    have := wrow_set hw i hiM j hj u y hd
    refine ⟨by rw [List.length_set]; exact this, by rw [List.length_set]; exact hM, ?_⟩
    exact ⟨by rw [List.length_set]; exact hiM, List.getElem_set_self _⟩
  obtain ⟨a1, b1, c1⟩ := step h rfl 0 (by omega) (.int .i64 d.n) L[i] { L[i] with n := d.n } ⟨hi, rfl⟩ rfl
  obtain ⟨a2, b2, c2⟩ := step a1 b1 1 (by omega) (.int .i64 d.k) _ { L[i] with n := d.n, k := d.k } c1 rfl
  obtain ⟨a3, b3, c3⟩ := step a2 b2 2 (by omega) (.int .i64 d.p) _ { L[i] with n := d.n, k := d.k, p := d.p } c2 rfl
  obtain ⟨a4, b4, c4⟩ := step a3 b3 3 (by omega) (.int .i64 d.a) _ { L[i] with n := d.n, k := d.k, p := d.p, a := d.a } c3 rfl
  obtain ⟨a5, b5, c5⟩ := step a4 b4 4 (by omega) (.int .i64 d.b) _ { L[i] with n := d.n, k := d.k, p := d.p, a := d.a, b := d.b } c4 rfl
  obtain ⟨a6, b6, c6⟩ := step a5 b5 5 (by omega) (.int .i64 d.m) _ { L[i] with n := d.n, k := d.k, p := d.p, a := d.a, b := d.b, m := d.m } c5 rfl
  obtain ⟨a7, b7, c7⟩ := step a6 b6 6 (by omega) (.int .u32 d.s) _ { L[i] with n := d.n, k := d.k, p := d.p, a := d.a, b := d.b, m := d.m, s := d.s } c6 rfl
  obtain ⟨a8, b8, c8⟩ := step a7 b7 7 (by omega) (.int .i64 d.key) _ d c7 rfl
  simp only [List.set_set, List.length_set] at a8
  exact a8
theorem put8_fm (w : World) (g i : Nat) (d : Wd) : Fm w (put8 w g i d) (fun k => k = g) (fun k => k = g) := by
  have f0 : Fm w w (fun k => k = g) (fun k => k = g) := Fm.same (Below.refl _ _)
  exact (((((((f0.set g _ _ rfl).set g _ _ rfl).set g _ _ rfl).set g _ _ rfl).set g _ _ rfl).set g _ _ rfl).set g _ _ rfl).set g _ _ rfl
theorem GnAt.fm {w w' : World} {fc gb gg n c g : Nat} {gs : List Int} (h : GnAt w fc gb gg n c gs) (f : Fm w w' (fun k => k = g) (fun k => k = g)) (h1 : fc ≠ g) (h2 : gb ≠ g) (h3 : gg ≠ g) : GnAt w' fc gb gg n c gs :=
  ⟨by rw [f.block fc (Array.getElem?_eq_some_iff.1 h.f).1 h1]; exact h.f, by rw [f.block gb (Array.getElem?_eq_some_iff.1 h.b).1 h2]; exact h.b, own_fm f h.r (fun k e q => by simp only [Value.ownBlock, Option.some.injEq] at e; omega), h.ln, h.few, h.so⟩
/-- the first one that is gone, or none -/
def IxR (w : World) (L : List Wd) (gs : List Int) (e : Ending) (w' : World) : Prop := Below w.heap.size w w' ∧ ((∃ i : Nat, e = .returned (.int .i64 i) ∧ ∃ hi : i < L.length, gs.contains L[i].n = true ∧ ∀ j (hj : j < L.length), j < i → gs.contains L[j].n = false) ∨ (e = .returned (.int .i64 (-1)) ∧ ∀ d ∈ L, gs.contains d.n = false))
set_option maxHeartbeats 8000000 in
theorem indexFunc_any {B g c fc gb gg n cc : Nat} {L : List Wd} {gs : List Int} {w : World} (h : w.ownsRow B 79 8 (.slice (some ⟨g, 0, none⟩) L.length c) L.length (wdsV L)) (hG : GnAt w fc gb gg n cc gs) (hn : L.length ≤ 1000) :
    Calls Try.prog 91 #[.slice (some ⟨g, 0, none⟩) L.length c, .func (.func 70) #[] #[.pointer (some ⟨fc, 0, none⟩)]] w (IxR w L gs) := by
  have HC : Hid (∀ w1, Below w.heap.size w w1 → ∀ j (hj : j < L.length), w1.cell? ⟨g, j * 8, none⟩ = some (.int .i64 L[j].n) ∧ w1.cell? ⟨g, j * 8 + 1, none⟩ = some (.int .i64 L[j].k) ∧ w1.cell? ⟨g, j * 8 + 2, none⟩ = some (.int .i64 L[j].p) ∧ w1.cell? ⟨g, j * 8 + 3, none⟩ = some (.int .i64 L[j].a) ∧ w1.cell? ⟨g, j * 8 + 4, none⟩ = some (.int .i64 L[j].b) ∧ w1.cell? ⟨g, j * 8 + 5, none⟩ = some (.int .i64 L[j].m) ∧ w1.cell? ⟨g, j * 8 + 6, none⟩ = some (.int .u32 L[j].s) ∧ w1.cell? ⟨g, j * 8 + 7, none⟩ = some (.int .i64 L[j].key)) := hidden (fun w1 hb j hj => wrow_cells (own_later h hb) j hj)
  have HD : Hid (∀ w1, Below w.heap.size w w1 → ∀ d : Wd, Calls Try.prog 70 #[.agg #[.int .i64 d.n, .int .i64 d.k, .int .i64 d.p, .int .i64 d.a, .int .i64 d.b, .int .i64 d.m, .int .u32 d.s, .int .i64 d.key], .pointer (some ⟨fc, 0, none⟩)] w1 fun e w' => e = .returned (.bool (gs.contains d.n)) ∧ Hid (Below w1.heap.size w1 w')) := hidden (fun w1 hb d => drop2_any (hG.later hb) d)
  have HG1 : Hid (∀ w' (i : Nat), Below w.heap.size w w' → (∃ hi : i < L.length, gs.contains L[i].n = true ∧ ∀ j (hj : j < L.length), j < i → gs.contains L[j].n = false) → IxR w L gs (.returned (.int .i64 i)) w') := hidden (fun w' i h1 h2 => ⟨h1, .inl ⟨i, rfl, h2⟩⟩)
  have HG2 : Hid (∀ w', Below w.heap.size w w' → (∀ d ∈ L, gs.contains d.n = false) → IxR w L gs (.returned (.int .i64 (-1))) w') := hidden (fun w' h1 h2 => ⟨h1, .inr ⟨rfl, h2⟩⟩)
  generalize hPQ : IxR w L gs = PQ at *
  obtain ⟨N, hN⟩ : ∃ N, L.length = N := ⟨_, rfl⟩
  rw [hN]
  have HN := hidden hN
  rw [hN] at hn
  clear h hG hN hPQ
  go_enter Try.func91, Try.ntmps91
  go_upto_region 2 with fail
  go_loopw [8] (fun i w' => ∃ j : Nat, j ≤ N ∧ i = .int .i64 j ∧ Hid (∀ k (hk : k < L.length), k < j → gs.contains L[k].n = false) ∧ Hid (Below w.heap.size w w')) (fun i _ => N - (intOf i).toNat)
  case atStart => exact ⟨0, by omega, rfl, hidden (fun k hk q => by omega), hidden (Below.refl _ _)⟩
  case round =>
    obtain ⟨j, hj, rfl, HNo, HB⟩ := hrel
    by_cases hlt : j < N
    · have hjl : j < L.length := by rw [HN.out]; exact hlt
      have l1 : (j : Int) < N := by omega
      have l2 : (0 : Int) ≤ j := by omega
      obtain ⟨c0, c1, c2, c3, c4, c5, c6, c7⟩ := HC.out _ HB.out j hjl
      have HDj := hidden (HD.out wr HB.out L[j])
      have HYes : Hid (gs.contains L[j].n = true → ∃ hi : j < L.length, gs.contains L[j].n = true ∧ ∀ k (hk : k < L.length), k < j → gs.contains L[k].n = false) := hidden (fun q => ⟨hjl, q, HNo.out⟩)
      have HNo2 : Hid (gs.contains L[j].n = false → ∀ k (hk : k < L.length), k < j + 1 → gs.contains L[k].n = false) := hidden (fun q k hk hkj => by
        by_cases e : k = j
        · subst e; exact q
        · exact HNo.out k hk (by omega))
      obtain ⟨D, hD⟩ : ∃ D, gs.contains L[j].n = D := ⟨_, rfl⟩
      rw [hD] at HDj
      have HDe := hidden hD
      generalize L[j].n = e0 at c0 HDj
      generalize L[j].k = e1 at c1 HDj
      generalize L[j].p = e2 at c2 HDj
      generalize L[j].a = e3 at c3 HDj
      generalize L[j].b = e4 at c4 HDj
      generalize L[j].m = e5 at c5 HDj
      generalize L[j].s = e6 at c6 HDj
      generalize L[j].key = e7 at c7 HDj
      clear hD HNo
      cases D with
      | true =>
        go_wp2_with (first | (go_at_call 70; refine HDj.out.mono ?_; rintro e w2 ⟨rfl, hb2⟩; have HB2 := hidden (HB.out.trans (hb2.out.mono HB.out.size)); clear hb2) | fail)
        exact HG1.out _ _ HB2.out (HYes.out HDe.out)
      | false =>
        go_wp2_with (first | (go_at_call 70; refine HDj.out.mono ?_; rintro e w2 ⟨rfl, hb2⟩; have HB2 := hidden (HB.out.trans (hb2.out.mono HB.out.size)); clear hb2) | fail)
        go_roundw
        case rel => exact ⟨j + 1, by omega, by first | rfl | go_num, hidden (HNo2.out HDe.out), HB2⟩
        case measure => simp [intOf]; omega
    · obtain rfl : j = N := by omega
      have l1 : ¬ ((j : Int) < j) := by omega
      have HAll : Hid (∀ d ∈ L, gs.contains d.n = false) := hidden (fun d hd => by
        obtain ⟨k, hk, rfl⟩ := List.getElem_of_mem hd
        exact HNo.out k hk (by rw [HN.out] at hk; exact hk))
      clear HNo
      go_wp2
      exact HG2.out _ HB.out HAll.out
end Go.Proofs.Ytilfgbcbodjegaa
