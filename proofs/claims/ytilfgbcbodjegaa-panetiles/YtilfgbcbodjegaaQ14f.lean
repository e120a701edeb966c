/- Layer 14, the program: Windows. -/
import Derived.Test.YtilfgbcbodjegaaQ14e
namespace Go.Proofs.Ytilfgbcbodjegaa
open Go.RowKit
set_option maxHeartbeats 1000000
set_option maxRecDepth 100000
set_option linter.unusedVariables false

theorem mkI (k : Nat) (hk : k ≤ 4294967296) (w : World) : (Instr.makeSlice 33 (.int .i64 0) (.int .i64 k)).run Try.prog w = .ok (.slice (some ⟨w.heap.size, 0, none⟩) 0 k) (w.alloc (.cells (madeCells (Value.int .i64 0).cells k) 3)) := by
  obtain ⟨i0, hi, hz0, hz1, hz2⟩ := int_parts
  have := run_make (P := Try.prog) w 33 3 i0 (.int .i64 0) Try.underlying33 hi hz0 .i64 .i64 0 k (by omega) (by omega) (by rw [hz2]; omega) (by omega)
  rw [this, hz1, Int.toNat_natCast, Nat.mul_one]
  rfl
def nsL (L : List Wd) : List Int := L.map (·.n)
theorem nsL_snoc (L : List Wd) (j : Nat) (hj : j < L.length) : nsL (L.take (j + 1)) = nsL (L.take j) ++ [L[j].n] := by
  unfold nsL
  rw [List.take_add_one, List.getElem?_eq_getElem hj, List.map_append]
  rfl
/-- what Windows tells: a row of the call's own -/
def WnR (w : World) (L : List Wd) (e : Ending) (w' : World) : Prop := ∃ a n c, e = .returned (.slice a n c) ∧ n = L.length ∧ w'.ownsRow w.heap.size 3 1 (.slice a n c) n (intsV (nsL L)) ∧ Below w.heap.size w w'
set_option maxHeartbeats 4000000 in
theorem windows_any {B m : Nat} {v : Value} {s : Ps} {w : World} (h : PAt B w m v s) (hfew : s.L.length ≤ 200) :
    Calls Try.prog 13 #[.pointer (some ⟨m, 0, none⟩)] w (WnR w s.L) := by
  obtain ⟨va, vc, hv⟩ := own_slice h.row
  obtain ⟨d0, d1, d2, d3, d4, d5⟩ := h.cells
  rw [hv] at d4
  have HC : Hid (∀ w1, Below w.heap.size w w1 → w1.cell? ⟨m, 4, none⟩ = some (.slice va s.L.length vc)) := hidden (fun w1 hb => by rw [← hv]; exact (h.later hb).cells.2.2.2.2.1)
  have HCW : Hid (∀ w1, Below w.heap.size w w1 → ∀ j (hj : j < s.L.length), ∃ g, va = some ⟨g, 0, none⟩ ∧ w1.cell? ⟨g, j * 8, none⟩ = some (.int .i64 s.L[j].n) ∧ w1.cell? ⟨g, j * 8 + 1, none⟩ = some (.int .i64 s.L[j].k) ∧ w1.cell? ⟨g, j * 8 + 2, none⟩ = some (.int .i64 s.L[j].p) ∧ w1.cell? ⟨g, j * 8 + 3, none⟩ = some (.int .i64 s.L[j].a) ∧ w1.cell? ⟨g, j * 8 + 4, none⟩ = some (.int .i64 s.L[j].b) ∧ w1.cell? ⟨g, j * 8 + 5, none⟩ = some (.int .i64 s.L[j].m) ∧ w1.cell? ⟨g, j * 8 + 6, none⟩ = some (.int .u32 s.L[j].s) ∧ w1.cell? ⟨g, j * 8 + 7, none⟩ = some (.int .i64 s.L[j].key)) := hidden (fun w1 hb j hj => by
    have q := (h.later hb).row
    obtain ⟨g, c, hv2, _⟩ := wrow_pos q (by omega)
    rw [hv2] at q hv
    simp only [Value.slice.injEq] at hv
    exact ⟨g, hv.1.symm, wrow_cells q j hj⟩)
  obtain ⟨N, hN⟩ : ∃ N, s.L.length = N := ⟨_, rfl⟩
  have HN := hidden hN
  have hmk := mkI N (by omega) w
  have b1 : Below w.heap.size w (w.alloc (.cells (madeCells (Value.int .i64 0).cells N) 3)) := (Below.refl _ _).alloc (Nat.le_refl _) _
  have o1 : (w.alloc (.cells (madeCells (Value.int .i64 0).cells N) 3)).ownsRow w.heap.size 3 1 (.slice (some ⟨w.heap.size, 0, none⟩) 0 N) 0 [] := World.ownsRow_made (size := 1) w _ N (Nat.le_refl _) (by unfold maxLen; omega) (by simp [madeCells])
  have HO1 := hidden o1
  have HB1 := hidden b1
  have HC1 := hidden (HC.out _ b1)
  rw [hN] at HC1 d4
  have hfewN : N ≤ 200 := by omega
  have HFIN : Hid (∀ a n c w', n = N → w'.ownsRow w.heap.size 3 1 (.slice a n c) n (intsV (nsL (s.L.take N))) → Below w.heap.size w w' → WnR w s.L (.returned (.slice a n c)) w') := hidden (fun a n c w' hn ho hb => ⟨a, n, c, rfl, by rw [hn, hN], by rw [← hN, List.take_length] at ho; exact ho, hb⟩)
  generalize hPQ : WnR w s.L = PQ at *
  clear h hv hN HC b1 o1 hPQ hfew d0 d1 d2 d3 d5
  generalize hMC : madeCells (Value.int .i64 0).cells N = MC at *
  have cm1 := HC1.out
  clear hMC
  go_enter Try.func13, Try.ntmps13
  go_upto_region 5 with fail
  generalize w.alloc (.cells MC 3) = wm at *
  go_loopw [3, 19] (fun v i w' => ∃ (j : Nat) (a : Option Addr) (c : Nat), j ≤ N ∧ i = .int .i64 j ∧ v = .slice a j c ∧ Hid (w'.ownsRow w.heap.size 3 1 (.slice a j c) j (intsV (nsL (s.L.take j)))) ∧ Hid (Below w.heap.size w w')) (fun _ i _ => N - (intOf i).toNat)
  case atStart => exact ⟨0, _, N, by omega, rfl, rfl, by simpa [nsL, intsV] using HO1, HB1⟩
  case round =>
    obtain ⟨j, a, c, hj, rfl, rfl, HO, HB⟩ := hrel
    by_cases hlt : j < N
    · have hjl : j < s.L.length := by rw [HN.out]; exact hlt
      have l1 : (j : Int) < N := by omega
      have l2 : (0 : Int) ≤ j := by omega
      obtain ⟨g, rfl, c0, c1, c2, c3, c4, c5, c6, c7⟩ := HCW.out _ HB.out j hjl
      have HSN := hidden (nsL_snoc s.L j hjl)
      obtain ⟨d, HDD⟩ : ∃ d, Hid (s.L[j] = d) := ⟨_, hidden rfl⟩
      rw [HDD.out] at c0 c1 c2 c3 c4 c5 c6 c7 HSN
      have hcb := cell_box wr d
      have HBb := hidden (HB.out.alloc HB.out.size (.cells #[.int .i64 d.n, .int .i64 d.k, .int .i64 d.p, .int .i64 d.a, .int .i64 d.b, .int .i64 d.m, .int .u32 d.s, .int .i64 d.key] 79))
      have HOb := hidden (HO.out.alloc (.cells #[.int .i64 d.n, .int .i64 d.k, .int .i64 d.p, .int .i64 d.a, .int .i64 d.b, .int .i64 d.m, .int .u32 d.s, .int .i64 d.key] 79))
      go_upto_region 7 with fail
      generalize wr.alloc (.cells #[.int .i64 d.n, .int .i64 d.k, .int .i64 d.p, .int .i64 d.a, .int .i64 d.b, .int .i64 d.m, .int .u32 d.s, .int .i64 d.key] 79) = W at *
      generalize wr.heap.size = G at *
      clear c0 c1 c2 c3 c4 c5 c6 c7 HO HB HDD
      have HAP : Hid ((W.alloc (.cells #[.int .i64 d.n] 3)).ownsRow w.heap.size 3 1 (.slice a j c) j (intsV (nsL (s.L.take j))) ∧ (W.alloc (.cells #[.int .i64 d.n] 3)).cell? ((⟨W.heap.size, 0, none⟩ : Addr).add 0) = some (.int .i64 d.n) ∧ Below w.heap.size w (W.alloc (.cells #[.int .i64 d.n] 3))) := hidden (by
        refine ⟨HOb.out.alloc _, ?_, HBb.out.alloc HBb.out.size _⟩
        rw [Addr.add_lit]
        have hh := heap_alloc_new W (.cells #[.int .i64 d.n] 3)
        unfold World.cell?
        simp only
        rw [hh]
        rfl)
      have HA1 := hidden HAP.out.1
      have HA2 := hidden HAP.out.2.1
      have HA3 := hidden HAP.out.2.2
      clear HAP
      go_wp2_with (first | (at_builtin; refine wpList_snocI (w0 := w) rfl (.tmp 23) (.tmp 26) rfl _ j (nsL (s.L.take j)) d.n ⟨W.heap.size, 0, none⟩ rfl rfl HA1.out HA2.out (by omega) HA3.out ?_; intro a4 c4 w4 HO4 HB4) | fail)
      rw [← HSN.out] at HO4
      go_roundw
      case rel => exact ⟨j + 1, a4, c4, by omega, by first | rfl | go_num, by first | rfl | go_num, HO4, HB4⟩
      case measure => simp [intOf]; omega
    · obtain rfl : j = N := by omega
      have HF := hidden (HFIN.out a j c wr rfl HO.out HB.out)
      go_wp2
      exact HF.out
end Go.Proofs.Ytilfgbcbodjegaa
