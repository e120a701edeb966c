/- Layer 14, the law's helpers: rows alike, the windows' numbers, which window is near; acts that came in. -/
import Derived.Test.YtilfgbcbodjegaaR14n
import Derived.Test.YtilfgbcbodjegaaQ14f
import Derived.Test.YtilfgbcbodjegaaQ14d
import Derived.BigQuiet
import Derived.Deep.Slices
import Derived.Deep.SlicePairs
import Derived.SizedLaws
namespace Go.Proofs.Ytilfgbcbodjegaa
open Go.RowKit
set_option maxHeartbeats 1000000
set_option maxRecDepth 100000
set_option linter.unusedVariables false

theorem irow_cell {B n : Nat} {w : World} {v : Value} {zs : List Int} (h : w.ownsRow B 3 1 v n (intsV zs)) (j : Nat) (hj : j < zs.length) : ∃ g c, v = .slice (some ⟨g, 0, none⟩) n c ∧ w.cell? ⟨g, j, none⟩ = some (.int .i64 zs[j]) ∧ zs.length = n := by
  have hl : zs.length = n := by have := h.1; simpa [intsV] using this
  rcases h.2 with ⟨a1, a2⟩ | ⟨g, cap, cur, a1, _⟩
  · omega
  · refine ⟨g, cap, a1, ?_, hl⟩
    have hc := (a1 ▸ h).cells (g := g) rfl j (.int .i64 zs[j]) (by simp [intsV, hj])
    rwa [Addr.add_lit, Nat.zero_add] at hc
set_option maxHeartbeats 4000000 in
theorem same_eq {B1 B2 n : Nat} {w : World} {a1 a2 : Option Addr} {c1 c2 : Nat} {zs : List Int} (h1 : w.ownsRow B1 3 1 (.slice a1 n c1) n (intsV zs)) (h2 : w.ownsRow B2 3 1 (.slice a2 n c2) n (intsV zs)) (hn : n ≤ 1000) :
    Calls Try.prog 24 #[.slice a1 n c1, .slice a2 n c2] w fun e w' => e = .returned (.bool true) ∧ Hid (Below w.heap.size w w') := by
  have hl : zs.length = n := by have := h1.1; simpa [intsV] using this
  have HC : Hid (∀ w1, Below w.heap.size w w1 → ∀ j, j < n → ∃ g1 g2 z, a1 = some ⟨g1, 0, none⟩ ∧ a2 = some ⟨g2, 0, none⟩ ∧ w1.cell? ⟨g1, j, none⟩ = some (.int .i64 z) ∧ w1.cell? ⟨g2, j, none⟩ = some (.int .i64 z)) := hidden (fun w1 hb j hj => by
    obtain ⟨g1, d1, e1, f1, _⟩ := irow_cell (own_later h1 hb) j (by omega)
    obtain ⟨g2, d2, e2, f2, _⟩ := irow_cell (own_later h2 hb) j (by omega)
    simp only [Value.slice.injEq] at e1 e2
    exact ⟨g1, g2, _, e1.1, e2.1, f1, f2⟩)
  clear h1 h2 hl
  go_enter Try.func24, Try.ntmps24
  go_upto_region 4 with fail
  go_loopw [5] (fun i w' => ∃ k : Nat, k ≤ n ∧ i = .int .i64 k ∧ Hid (Below w.heap.size w w')) (fun i _ => n - (intOf i).toNat)
  case atStart => exact ⟨0, by omega, rfl, hidden (Below.refl _ _)⟩
  case round =>
    obtain ⟨k, hk, rfl, HB⟩ := hrel
    by_cases hlt : k < n
    · have l1 : (k : Int) < n := by omega
      have l0 : (0 : Int) ≤ k := by omega
      obtain ⟨g1, g2, z, rfl, rfl, b1, b2⟩ := HC.out _ HB.out k hlt
      clear HC
      go_upto_region 6 with fail
      go_quiet (fail)
      go_wp2
      go_roundw
      case rel => exact ⟨k + 1, by omega, by first | rfl | go_num, hidden (below_drewN HB.out _)⟩
      case measure => simp [intOf]; omega
    · obtain rfl : k = n := by omega
      clear HC
      go_wp2
      go_ret
      exact ⟨rfl, HB⟩
set_option maxHeartbeats 4000000 in
theorem numbers_any {B m : Nat} {v : Value} {s : Ps} {w : World} (h : QAt B w m v s) (hfew : s.L.length ≤ 200) :
    Calls Try.prog 45 #[.pointer (some ⟨m, 0, none⟩)] w (WnR w s.L) := by
  obtain ⟨va, vc, hv⟩ := own_slice h.row
  obtain ⟨N, hN⟩ : ∃ N, s.L.length = N := ⟨_, rfl⟩
  have HCW : Hid (∀ w1, Below w.heap.size w w1 → w1.cell? ⟨m, 2, none⟩ = some (.slice va N vc) ∧ ∀ j (hj : j < s.L.length), ∃ g, va = some ⟨g, 0, none⟩ ∧ w1.cell? ⟨g, j * 8, none⟩ = some (.int .i64 s.L[j].n)) := hidden (fun w1 hb => by
    refine ⟨by rw [← hN, ← hv]; exact (h.later hb).cells.2.2.1, fun j hj => ?_⟩
    have q := (h.later hb).row
    obtain ⟨g, c, hv2, _⟩ := wrow_pos q (by omega)
    rw [hv2] at q hv
    simp only [Value.slice.injEq] at hv
    exact ⟨g, hv.1.symm, (wrow_cells q j hj).1⟩)
  have HN := hidden hN
  have hfewN : N ≤ 200 := by omega
  have HFIN : Hid (∀ v7 w', w'.ownsRow w.heap.size 3 1 v7 N (intsV (nsL (s.L.take N))) → Below w.heap.size w w' → WnR w s.L (.returned v7) w') := hidden (fun v7 w' ho hb => by
    obtain ⟨a, c, rfl⟩ := own_slice ho
    exact ⟨a, N, c, rfl, hN.symm, by rw [← hN, List.take_length] at ho; rw [← hN]; exact ho, hb⟩)
  generalize hPQ : WnR w s.L = PQ at *
  clear h hv hN hPQ hfew
  go_enter Try.func45, Try.ntmps45
  go_upto_region 3 with fail
  go_loopw [3, 4] (fun v7 i w' => ∃ (j : Nat), j ≤ N ∧ i = .int .i64 j ∧ Hid (w'.ownsRow w.heap.size 3 1 v7 j (intsV (nsL (s.L.take j)))) ∧ Hid (Below w.heap.size w w')) (fun _ i _ => N - (intOf i).toNat)
  case atStart => exact ⟨0, by omega, rfl, hidden (World.ownsRow_nil _ _ _ _), hidden (Below.refl _ _)⟩
  case round =>
    obtain ⟨j, hj, rfl, HO, HB⟩ := hrel
    by_cases hlt : j < N
    · have hjl : j < s.L.length := by rw [HN.out]; exact hlt
      have l1 : (j : Int) < N := by omega
      have l0 : (0 : Int) ≤ j := by omega
      obtain ⟨c2, hc3⟩ := HCW.out _ HB.out
      obtain ⟨g, rfl, c3⟩ := hc3 j hjl
      have HSN := hidden (nsL_snoc s.L j hjl)
      generalize s.L[j].n = y at *
      have HAP : Hid ((wr.alloc (.cells #[.int .i64 y] 3)).ownsRow w.heap.size 3 1 u3 j (intsV (nsL (s.L.take j))) ∧ (wr.alloc (.cells #[.int .i64 y] 3)).cell? ((⟨wr.heap.size, 0, none⟩ : Addr).add 0) = some (.int .i64 y) ∧ Below w.heap.size w (wr.alloc (.cells #[.int .i64 y] 3))) := hidden (by
        refine ⟨HO.out.alloc _, ?_, HB.out.alloc HB.out.size _⟩
        rw [Addr.add_lit]
        have hh := heap_alloc_new wr (.cells #[.int .i64 y] 3)
        unfold World.cell?
        simp only
        rw [hh]
        rfl)
      have HA1 := hidden HAP.out.1
      have HA2 := hidden HAP.out.2.1
      have HA3 := hidden HAP.out.2.2
      clear HAP HCW hc3 HFIN HO
      go_wp2_with (first | (at_builtin; refine wpList_snocI (w0 := w) rfl (.tmp 14) (.tmp 23) rfl _ j (nsL (s.L.take j)) y ⟨wr.heap.size, 0, none⟩ rfl rfl HA1.out HA2.out (by omega) HA3.out ?_; intro a4 c4 w4 HO4 HB4) | fail)
      rw [← HSN.out] at HO4
      go_roundw
      case rel => exact ⟨j + 1, by omega, by first | rfl | go_num, HO4, HB4⟩
      case measure => simp [intOf]; omega
    · obtain rfl : j = N := by omega
      obtain ⟨c2, _⟩ := HCW.out _ HB.out
      have HF := hidden (HFIN.out u3 wr HO.out HB.out)
      clear HCW HFIN
      go_wp2
      exact HF.out
theorem tmod_near (n : Int) (N k : Nat) (hN : 0 < N) (hk : n % (N : Int) = k) (hkl : k < N) : (n.tmod N < 0 ∧ n.tmod N + N = k) ∨ (¬ n.tmod N < 0 ∧ n.tmod N = k) := by
  have a := Int.mul_tdiv_add_tmod n N
  have b := Int.mul_ediv_add_emod n N
  have c1 := Int.lt_tmod_of_pos n (show (0 : Int) < N by omega)
  have c2 := Int.tmod_lt_of_pos n (show (0 : Int) < N by omega)
  generalize n.tmod N = r at *
  rw [hk] at b
  have hq : r - k = N * (n / N - n.tdiv N) := by rw [Int.mul_sub]; omega
  generalize n / N - n.tdiv N = q at hq
  have hq2 : q = 0 ∨ q = -1 := by
    by_cases h1 : 1 ≤ q
    · have := Int.mul_le_mul_of_nonneg_left h1 (show (0 : Int) ≤ N by omega)
      omega
    · by_cases h2 : q ≤ -2
      · have := Int.mul_le_mul_of_nonneg_left h2 (show (0 : Int) ≤ N by omega)
        omega
      · omega
  rcases hq2 with rfl | rfl
  · right; constructor <;> omega
  · left; constructor <;> omega
/-- the window that has that place among all -/
def nearW (L : List Wd) (n : Int) : Int := if L.length = 0 then 0 else (L.getD (n % (L.length : Int)).toNat wd0).n
theorem near_any {B m : Nat} {v : Value} {s : Ps} {w : World} (h : QAt B w m v s) (hfew : s.L.length ≤ 200) (n : Int) (h0 : -9223372036854775808 ≤ n ∧ n ≤ 9223372036854775807) :
    Calls Try.prog 18 #[.pointer (some ⟨m, 0, none⟩), .int .i64 n] w fun e w' => e = .returned (.int .i64 (nearW s.L n)) ∧ w' = w := by
  obtain ⟨va, vc, hv⟩ := own_slice h.row
  have c2 := h.cells.2.2.1
  rw [hv] at c2
  by_cases hz : s.L.length = 0
  · rw [show nearW s.L n = 0 by unfold nearW; rw [if_pos hz]]
    rw [hz] at c2
    clear h hv hz
    go_enter Try.func18, Try.ntmps18
    go_wp2
    go_ret
    exact ⟨rfl, rfl⟩
  · obtain ⟨N, hN⟩ : ∃ N, s.L.length = N := ⟨_, rfl⟩
    obtain ⟨g, c, hv2, _⟩ := wrow_pos h.row (by omega)
    rw [hv2] at hv
    simp only [Value.slice.injEq] at hv
    obtain ⟨rfl, _, rfl⟩ := hv
    have hr := h.row
    rw [hv2] at hr
    obtain ⟨k, hk⟩ : ∃ k : Nat, n % (N : Int) = k := ⟨(n % (N : Int)).toNat, by have := Int.emod_nonneg n (show (N : Int) ≠ 0 by omega); omega⟩
    have hkl : k < s.L.length := by
      have := Int.emod_lt_of_pos n (show (0 : Int) < N by omega)
      omega
    rw [show nearW s.L n = s.L[k].n by
      unfold nearW
      rw [if_neg hz, hN, hk, Int.toNat_natCast, List.getD_eq_getElem?_getD, List.getElem?_eq_getElem hkl]
      rfl]
    have c3 := (wrow_cells hr k hkl).1
    rw [hN] at c2 hfew hkl
    generalize s.L[k].n = y at *
    have zq : ((N : Int) == 0) = false := by rw [beq_eq_false_iff_ne]; omega
    have zn : ¬ (N : Int) = 0 := by omega
    have l1 : (k : Int) < N := by omega
    have l0 : (0 : Int) ≤ (k : Int) := by omega
    obtain ⟨r, hrr⟩ : ∃ r, n.tmod N = r := ⟨_, rfl⟩
    have hcase := tmod_near n N k (by omega) hk hkl
    rw [hrr] at hcase
    have wr0 : IntKind.i64.wrap r = r := by rw [IntKind.wrap_i64]; omega
    clear h hr hv2 hz hN hk
    rcases hcase with ⟨q1, q2⟩ | ⟨q1, q2⟩
    · have wr1 : IntKind.i64.wrap (r + N) = (k : Int) := by rw [IntKind.wrap_i64]; omega
      go_enter Try.func18, Try.ntmps18
      go_wp2
      go_ret
      exact ⟨rfl, rfl⟩
    · subst q2
      go_enter Try.func18, Try.ntmps18
      go_wp2
      go_ret
      exact ⟨rfl, rfl⟩
end Go.Proofs.Ytilfgbcbodjegaa
