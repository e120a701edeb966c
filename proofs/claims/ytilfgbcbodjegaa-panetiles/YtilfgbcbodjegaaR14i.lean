/- Layer 14, the document: where a window lies. -/
import Derived.Test.YtilfgbcbodjegaaR14h
import Derived.Test.YtilfgbcbodjegaaP14n
namespace Go.Proofs.Ytilfgbcbodjegaa
open Go.RowKit
set_option maxHeartbeats 1000000
set_option maxRecDepth 100000
set_option linter.unusedVariables false

theorem drect_none {B m : Nat} {v : Value} {s : Ps} {w : World} (h : QAt B w m v s) (hn : s.L.length ≤ 1000) (x : Int) (hx : hasB s.L x = false) :
    Calls Try.prog 71 #[.pointer (some ⟨m, 0, none⟩), .int .i64 x] w fun e w' => e = .returned (.tuple #[.agg #[.int .i64 0, .int .i64 0, .int .i64 0, .int .i64 0], .bool false]) ∧ Hid (Below w.heap.size w w') := by
  have HA : Hid (∀ w1, KpB w w1 w.heap.size → Calls Try.prog 53 #[.pointer (some ⟨m, 0, none⟩), .int .i64 x] w1 fun e w' => e = .returned (.int .i64 (-1)) ∧ Hid (KpB w w' w.heap.size)) := hidden (fun w1 h1 => by
    rw [← ixW_none hx]
    exact (dat_any (h.later h1.bel) hn x).mono (fun e w' hh => ⟨hh.1, hidden (by rw [hh.2]; exact h1)⟩))
  have HK : Hid (KpB w (w.alloc (.cells #[.int .i64 0, .int .i64 0, .int .i64 0, .int .i64 0] 36)) w.heap.size) := hidden ⟨(Below.refl _ _).alloc (Nat.le_refl _) _, heap_alloc_new w _⟩
  clear h hx
  go_enter Try.func71, Try.ntmps71
  go_upto_region 1 with fail
  generalize w.alloc (.cells #[.int .i64 0, .int .i64 0, .int .i64 0, .int .i64 0] 36) = W at *
  obtain ⟨G, hG⟩ : ∃ G, w.heap.size = G := ⟨_, rfl⟩
  have HG : Hid (w.heap.size ≤ G) := hidden (by omega)
  rw [hG] at HK HA
  rw [hG]
  clear hG
  go_wp2_with (first | (go_at_call 53; refine (HA.out _ HK.out).mono ?_; rintro e w2 ⟨rfl, HK2⟩; obtain ⟨y0, y1, y2, y3, x0, x1, x2, x3⟩ := HK2.out.cells) | fail)
  refine bodyPost_ret (v := .tuple #[.agg #[.int .i64 0, .int .i64 0, .int .i64 0, .int .i64 0], .bool false]) (by simp [results, Try.results71, go_sem, y0, y1, y2, y3]) rfl ⟨rfl, hidden ?_⟩
  exact below_set (below_set (below_set (below_set HK2.out.bel G 0 _ HG.out) G 1 _ HG.out) G 2 _ HG.out) G 3 _ HG.out

set_option maxHeartbeats 8000000 in
theorem drect_root {B m : Nat} {v : Value} {s : Ps} {w : World} (h : QAt B w m v s) (ho : Iv s) (x : Int) (hx : hasW s.L x) (hp : (ofW s.L x).p = 0) :
    Calls Try.prog 71 #[.pointer (some ⟨m, 0, none⟩), .int .i64 x] w fun e w' => e = .returned (.tuple #[.agg #[.int .i64 0, .int .i64 0, .int .i64 s.w, .int .i64 s.h], .bool true]) ∧ Hid (Below w.heap.size w w') := by
  have hn : s.L.length ≤ 1000 := by have := ho.f63; omega
  obtain ⟨i, hi, hix⟩ : ∃ i : Nat, i < s.L.length ∧ ixW s.L x = i := ixW_has (hasB_iff.2 hx)
  have HA : Hid (∀ w1, Below w.heap.size w w1 → Calls Try.prog 53 #[.pointer (some ⟨m, 0, none⟩), .int .i64 x] w1 fun e w' => e = .returned (.int .i64 i) ∧ w' = w1) := hidden (fun w1 hb => by rw [← hix]; exact dat_any (h.later hb) hn x)
  have HO1 : Hid (∀ w1, Below w.heap.size w w1 → Calls Try.prog 32 #[.pointer (some ⟨m, 0, none⟩), .int .i64 x] w1 fun e w' => e = .returned (wdA (ofW s.L x)) ∧ Hid (Below w1.heap.size w1 w')) := hidden (fun w1 hb => dof_any (h.later hb) hn x)
  have HO2 : Hid (∀ w1, Below w.heap.size w w1 → Calls Try.prog 32 #[.pointer (some ⟨m, 0, none⟩), .int .i64 0] w1 fun e w' => e = .returned (wdA wd0) ∧ Hid (Below w1.heap.size w1 w')) := hidden (fun w1 hb => by rw [← ho.of_zero]; exact dof_any (h.later hb) hn 0)
  have HK : Hid (KpB w (w.alloc (.cells #[.int .i64 0, .int .i64 0, .int .i64 0, .int .i64 0] 36)) w.heap.size) := hidden ⟨(Below.refl _ _).alloc (Nat.le_refl _) _, heap_alloc_new w _⟩
  have HC : Hid (∀ w1, Below w.heap.size w w1 → w1.cell? ⟨m, 0, none⟩ = some (.int .i64 s.w) ∧ w1.cell? ⟨m, 1, none⟩ = some (.int .i64 s.h)) := hidden (fun w1 hb => ⟨(h.later hb).cells.1, (h.later hb).cells.2.1⟩)
  have hml := h.lt
  have l9 : ¬ (i : Int) < 0 := by omega
  rw [show wdA wd0 = .agg #[.int .i64 0, .int .i64 0, .int .i64 0, .int .i64 0, .int .i64 0, .int .i64 0, .int .u32 0, .int .i64 0] from rfl] at HO2
  unfold wdA at HO1
  rw [hp] at HO1
  generalize ofW s.L x = d at *
  generalize s.w = SW at *
  generalize s.h = SH at *
  have hf := wfld2 d.n d.k 0 d.a d.b d.m d.s d.key
  clear h ho hx hp hix hn hi
  go_enter Try.func71, Try.ntmps71
  go_upto_region 1 with fail
  generalize w.alloc (.cells #[.int .i64 0, .int .i64 0, .int .i64 0, .int .i64 0] 36) = W at *
  go_upto_region 5 with (first | (go_at_call 53; refine (HA.out _ HK.out.bel).mono ?_; rintro e w2 ⟨rfl, e2⟩; rw [e2]; clear e2) | (go_at_call_of 32 (Value.int IntKind.i64 x); refine (HO1.out _ HK.out.bel).mono ?_; rintro e w3 ⟨rfl, HB3⟩; have HK3 := hidden (HK.out.later HB3.out)) | (go_at_call 32; refine (HO2.out _ HK3.out.bel).mono ?_; rintro e w4 ⟨rfl, HB4⟩; have HK4 := hidden (HK3.out.later HB4.out)) | fail)
  have HK5 : Hid (KpB w (w4.alloc (.cells #[.int .i64 0, .int .i64 0, .int .i64 0, .int .i64 0, .int .i64 0, .int .i64 0, .int .u32 0, .int .i64 0] 66)) w.heap.size) := hidden (HK4.out.later ((Below.refl _ _).alloc (Nat.le_refl _) _))
  generalize w4.alloc (.cells #[.int .i64 0, .int .i64 0, .int .i64 0, .int .i64 0, .int .i64 0, .int .i64 0, .int .u32 0, .int .i64 0] 66) = W5 at *
  obtain ⟨y0, y1, y2, y3, x0, x1, x2, x3⟩ := HK5.out.cells
  obtain ⟨c0, c1⟩ := HC.out _ HK5.out.bel
  have HBW := hidden HK5.out.bel
  obtain ⟨G, hG⟩ : ∃ G, w.heap.size = G := ⟨_, rfl⟩
  have hmG : m ≠ G := by omega
  have hGm : G ≠ m := by omega
  have HG : Hid (w.heap.size ≤ G) := hidden (by omega)
  rw [hG] at y0 y1 y2 y3 x0 x1 x2 x3
  rw [hG]
  clear hG HK HK3 HK4 HK5 HA HO1 HO2 HC HB3 HB4 hf l9 hml
  go_region_with (fail)
  all_goals (try go_wp2)
  all_goals refine bodyPost_ret (v := .tuple #[.agg #[.int .i64 0, .int .i64 0, .int .i64 SW, .int .i64 SH], .bool true]) (by simp [results, Try.results71, go_sem, y0, y1, y2, y3]) rfl ⟨rfl, hidden ?_⟩
  all_goals first | exact (below_set (below_set (below_set (below_set HBW.out G 0 _ HG.out) G 1 _ HG.out) G 2 _ HG.out) G 3 _ HG.out).drew | exact below_set (below_set (below_set (below_set HBW.out G 0 _ HG.out) G 1 _ HG.out) G 2 _ HG.out) G 3 _ HG.out | exact below_set (below_set (below_set (below_set HBW.out.drew G 0 _ HG.out) G 1 _ HG.out) G 2 _ HG.out) G 3 _ HG.out
end Go.Proofs.Ytilfgbcbodjegaa
