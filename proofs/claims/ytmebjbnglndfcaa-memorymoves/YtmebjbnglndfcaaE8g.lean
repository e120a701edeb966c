/- Contracts of the small functions of package heap. -/
import Derived.Test.YtmebjbnglndfcaaE8f
namespace Go.Proofs.Ytmebjbnglndfcaa
open Go.RowKit
set_option maxHeartbeats 1000000
set_option maxRecDepth 100000
set_option linter.unusedVariables false

theorem whole_any (x : Nat) (w : World) (hx : x < 4294967296) : Calls Try.prog 76 #[.int .u32 x] w fun e w' => e = .returned (.bool (decide (x % 256 = 0))) ∧ w' = w := by
  have h0 : (0 : Int) ≤ (x : Int) := by omega
  have hr : (x : Int).tmod 256 = ((x % 256 : Nat) : Int) := by rw [Int.tmod_eq_emod_of_nonneg h0]; omega
  have hd : (((x % 256 : Nat) : Int) == 0) = decide (x % 256 = 0) := by
    by_cases h : x % 256 = 0
    · simp [h]
    · rw [show decide (x % 256 = 0) = false by simp [h], beq_eq_false_iff_ne]; omega
  have hw : IntKind.u32.wrap ((x % 256 : Nat) : Int) = ((x % 256 : Nat) : Int) := by rw [IntKind.wrap_u32]; omega
  go_enter Try.func76, Try.ntmps76
  go_wp2
  go_ret
  first | exact ⟨rfl, rfl⟩ | (refine ⟨?_, rfl⟩; simp_all)
theorem new_any (m : Nat) (w : World) : Calls Try.prog 38 #[.int .u32 m] w fun e w' => e = .returned (.pointer (some ⟨w.heap.size, 0, none⟩)) ∧ HpAt w.heap.size w' w.heap.size (.slice none 0 0) ⟨m, 0, 0, []⟩ ∧ Below w.heap.size w w' := by
  go_enter Try.func38, Try.ntmps38
  go_wp2
  go_ret
  refine ⟨rfl, ⟨Nat.le_refl _, heap_alloc_new w _, World.ownsRow_nil _ _ _ _⟩, (Below.refl _ _).alloc (Nat.le_refl _) _⟩
theorem active_any (B h : Nat) (v : Value) (s : Hs) (w : World) (hp : HpAt B w h v s) : Calls Try.prog 43 #[.pointer (some ⟨h, 0, none⟩)] w fun e w' => e = .returned (.bool (decide (0 < s.bs.length))) ∧ w' = w := by
  obtain ⟨ao, c, rfl⟩ := own_slice2 hp.2.2
  have h3 := hp.cells.2.2.2.1
  clear hp
  generalize s.bs.length = n at *
  have hd : decide ((n : Int) > 0) = decide (0 < n) := by by_cases h : 0 < n <;> simp [h]
  go_enter Try.func43, Try.ntmps43
  go_wp2
  go_ret
  first | exact ⟨rfl, rfl⟩ | (refine ⟨?_, rfl⟩; simp_all)
theorem start_any (B h : Nat) (v : Value) (s : Hs) (w : World) (hp : HpAt B w h v s) : Calls Try.prog 41 #[.pointer (some ⟨h, 0, none⟩)] w fun e w' => e = .returned (.int .u32 s.start) ∧ w' = w := by
  have h3 := hp.cells.2.1
  clear hp
  go_enter Try.func41, Try.ntmps41
  go_wp2
  go_ret
  exact ⟨rfl, rfl⟩
theorem end_any (B h : Nat) (v : Value) (s : Hs) (w : World) (hp : HpAt B w h v s) : Calls Try.prog 48 #[.pointer (some ⟨h, 0, none⟩)] w fun e w' => e = .returned (.int .u32 s.en) ∧ w' = w := by
  have h3 := hp.cells.2.2.1
  clear hp
  go_enter Try.func48, Try.ntmps48
  go_wp2
  go_ret
  exact ⟨rfl, rfl⟩
theorem blocks_any (B h : Nat) (v : Value) (s : Hs) (w : World) (hp : HpAt B w h v s) (hl : s.bs.length ≤ 4096) : Calls Try.prog 42 #[.pointer (some ⟨h, 0, none⟩)] w fun e w' => ∃ ao' c', e = .returned (.slice ao' s.bs.length c') ∧ w'.ownsRow w.heap.size 99 2 (.slice ao' s.bs.length c') s.bs.length (bksV s.bs) ∧ Below w.heap.size w w' := by
  obtain ⟨ao, c, rfl⟩ := own_slice2 hp.2.2
  have h3 := hp.cells.2.2.2.1
  have HC := hidden8 (clone_any ao s.bs.length c s.bs w (own_bks hp.2.2) (by omega))
  clear hp
  generalize s.bs.length = n at *
  go_enter Try.func42, Try.ntmps42
  go_wp2_with (go_at_call 59; refine HC.out.mono ?_; rintro e w1 ⟨ao1, c1, rfl, ho1, hb1⟩)
  go_ret
  exact ⟨_, _, rfl, ho1, hb1⟩
def begR (m x : Nat) : Bool := decide (x ≠ 0) && decide (x % 256 = 0) && decide (x ≤ m)
theorem mayBegin_any (B h : Nat) (v : Value) (s : Hs) (x : Nat) (w : World) (hp : HpAt B w h v s) (hx : x < 4294967296) : Calls Try.prog 64 #[.pointer (some ⟨h, 0, none⟩), .int .u32 x] w fun e w' => e = .returned (.bool (begR s.most x)) ∧ w' = w := by
  have h3 := hp.cells.1
  clear hp
  generalize s.most = m at *
  have HW := hidden8 (whole_any x w hx)
  by_cases h1 : x = 0
  · have e : begR m x = false := by simp [begR, h1]
    rw [e]; clear e
    have h1' : (x : Int) = 0 := by omega
    go_enter Try.func64, Try.ntmps64
    go_wp2
    go_ret
    first | exact ⟨rfl, rfl⟩ | (refine ⟨?_, rfl⟩; simp_all)
  · by_cases h2 : x % 256 = 0
    · have hw2 := HW.out
      rw [show decide (x % 256 = 0) = true by simp [h2]] at hw2
      by_cases h4 : x ≤ m
      · have e : begR m x = true := by simp [begR, h1, h2, h4]
        rw [e]; clear e
        have h1' : ¬ (x : Int) = 0 := by omega
        have hx0 : ((x : Int) != 0) = true := by rw [bne_iff_ne]; exact h1'
        have h4' : (x : Int) ≤ (m : Int) := by omega
        have HW2 := hidden8 hw2
        clear h2 hw2 HW
        go_enter Try.func64, Try.ntmps64
        go_wp2_with (go_at_call 76; refine HW2.out.mono ?_; rintro e w1 ⟨rfl, rfl⟩)
        go_ret
        exact ⟨rfl, rfl⟩
      · have e : begR m x = false := by simp [begR, h1, h2, h4]
        rw [e]; clear e
        have h1' : ¬ (x : Int) = 0 := by omega
        have hx0 : ((x : Int) != 0) = true := by rw [bne_iff_ne]; exact h1'
        have h4' : ¬ (x : Int) ≤ (m : Int) := by omega
        have HW2 := hidden8 hw2
        clear h2 hw2 HW
        go_enter Try.func64, Try.ntmps64
        go_wp2_with (go_at_call 76; refine HW2.out.mono ?_; rintro e w1 ⟨rfl, rfl⟩)
        go_ret
        exact ⟨rfl, rfl⟩
    · have hw2 := HW.out
      rw [show decide (x % 256 = 0) = false by simp [h2]] at hw2
      have e : begR m x = false := by simp [begR, h1, h2]
      rw [e]; clear e
      have h1' : ¬ (x : Int) = 0 := by omega
      have hx0 : ((x : Int) != 0) = true := by rw [bne_iff_ne]; exact h1'
      have HW2 := hidden8 hw2
      clear h2 hw2 HW
      go_enter Try.func64, Try.ntmps64
      go_wp2_with (go_at_call 76; refine HW2.out.mono ?_; rintro e w1 ⟨rfl, rfl⟩)
      go_ret
      exact ⟨rfl, rfl⟩
/-- the least multiple of a page that is not below x -/
def up (x : Nat) : Nat := (x + 255) / 256 * 256
theorem endBehind_in (B h : Nat) (v : Value) (s : Hs) (a n x : Nat) (w : World) (hp : HpAt B w h v s) (ha : a < 4294967296) (hn : n < 4294967296) (hx : x < 4294967296) (hle : a + n ≤ x) :
    Calls Try.prog 66 #[.pointer (some ⟨h, 0, none⟩), .int .u32 a, .int .u32 n, .int .u32 x] w fun e w' => e = .returned (.tuple #[.int .u32 x, .bool true]) ∧ w' = w := by
  have c1 : (a : Int) + (n : Int) ≤ (x : Int) := by omega
  go_enter Try.func66, Try.ntmps66
  go_wp2
  go_ret2
  exact ⟨rfl, rfl⟩
theorem endBehind_over (B h : Nat) (v : Value) (s : Hs) (a n x : Nat) (w : World) (hp : HpAt B w h v s) (ha : a < 4294967296) (hn : n < 4294967296) (hx : x < 4294967296) (hle : x < a + n) (hm : s.most < 4294967296) (hU : s.most < up (a + n)) :
    Calls Try.prog 66 #[.pointer (some ⟨h, 0, none⟩), .int .u32 a, .int .u32 n, .int .u32 x] w fun e w' => e = .returned (.tuple #[.int .u32 0, .bool false]) ∧ w' = w := by
  have h3 := hp.cells.1
  clear hp
  generalize s.most = m at *
  have c1 : ¬ (a : Int) + (n : Int) ≤ (x : Int) := by omega
  have c2 : ((a : Int) + (n : Int) + 256 - 1).tdiv 256 * 256 = ((up (a + n) : Nat) : Int) := by rw [Int.tdiv_eq_ediv_of_nonneg (by omega)]; unfold up; omega
  have c3 : up (a + n) < 18446744073709551616 := by unfold up; omega
  generalize up (a + n) = U at *
  have d1 : (m : Int) < (U : Int) := by omega
  have d2 : U ≤ m → IntKind.u32.wrap (U : Int) = (U : Int) := fun h => by rw [IntKind.wrap_u32]; omega
  clear d2
  go_enter Try.func66, Try.ntmps66
  go_wp2
  go_ret2
  exact ⟨rfl, rfl⟩
theorem endBehind_fits (B h : Nat) (v : Value) (s : Hs) (a n x : Nat) (w : World) (hp : HpAt B w h v s) (ha : a < 4294967296) (hn : n < 4294967296) (hx : x < 4294967296) (hle : x < a + n) (hm : s.most < 4294967296) (hU : up (a + n) ≤ s.most) :
    Calls Try.prog 66 #[.pointer (some ⟨h, 0, none⟩), .int .u32 a, .int .u32 n, .int .u32 x] w fun e w' => e = .returned (.tuple #[.int .u32 (up (a + n) : Nat), .bool true]) ∧ w' = w := by
  have h3 := hp.cells.1
  clear hp
  generalize s.most = m at *
  have c1 : ¬ (a : Int) + (n : Int) ≤ (x : Int) := by omega
  have c2 : ((a : Int) + (n : Int) + 256 - 1).tdiv 256 * 256 = ((up (a + n) : Nat) : Int) := by rw [Int.tdiv_eq_ediv_of_nonneg (by omega)]; unfold up; omega
  have c3 : up (a + n) < 18446744073709551616 := by unfold up; omega
  generalize up (a + n) = U at *
  have d1 : ¬ (m : Int) < (U : Int) := by omega
  have d2 : U ≤ m → IntKind.u32.wrap (U : Int) = (U : Int) := fun h => by rw [IntKind.wrap_u32]; omega
  have d3 := d2 hU
  clear d2
  go_enter Try.func66, Try.ntmps66
  go_wp2
  go_ret2
  exact ⟨rfl, rfl⟩
theorem firstPlace_any (B h : Nat) (v : Value) (s : Hs) (f0 m e : Nat) (w : World) (hp : HpAt B w h v s) (hl : s.bs.length ≤ 4096) (hch : Chain e f0 s.bs) (he : e < 4294967296) :
    Calls Try.prog 65 #[.pointer (some ⟨h, 0, none⟩), .int .u32 f0, .int .u32 m] w fun r w' => r = .returned (.tuple #[.int .i64 ((place m f0 s.bs).1 : Nat), .int .u32 ((place m f0 s.bs).2 : Nat)]) ∧ Below w.heap.size w w' := by
  have HS : Hid (Calls Try.prog 68 #[.pointer (some ⟨h, 0, none⟩), .func (.func 77) #[] #[.pointer (some ⟨w.heap.size + 1, 0, none⟩), .pointer (some ⟨w.heap.size, 0, none⟩)]] ((w.alloc (.cells #[.int .u32 m] 23)).alloc (.cells #[.int .u32 f0] 23)) _) := search_place B h v s (w.heap.size + 1) w.heap.size f0 m e _ ((hp.later ((Below.refl _ _).alloc (Nat.le_refl _) _)).later ((Below.refl _ _).alloc (Nat.le_refl _) _)) (by simpa using heap_alloc_new (w.alloc (.cells #[.int .u32 m] 23)) (.cells #[.int .u32 f0] 23)) (by rw [World.cell?_alloc_past _ _ _ (by simp), World.cell?_alloc_at _ _ _ _ rfl]; rfl) (by omega) hl hch he
  clear hch
  generalize place m f0 s.bs = R at *
  have hmf : ∀ (fn : Fn) (first cap : Array Value) (w : World), (Instr.makeFunc fn first cap).run Try.prog w = .ok (.func fn first cap) w := fun _ _ _ _ => rfl
  go_enter Try.func65, Try.ntmps65
  go_wp2_with (go_at_call 68; refine HS.out.mono ?_; rintro r w1 ⟨rfl, hc1, hb1⟩)
  have hcc := cell_of_one hc1
  have hcf := free_of_one hc1
  have HC1 := hidden8 hc1
  have HB1 := hidden8 hb1
  clear hc1 hb1 hp HS
  have hone := one_setCell (u := .int .u32 (R.2 : Nat)) HC1.out
  have hfin : ((w1.setCell ⟨w.heap.size + 1, 0, none⟩ (.int .u32 (R.2 : Nat))).drew).cell? ⟨w.heap.size + 1, 0, none⟩ = some (.int .u32 (R.2 : Nat)) := cell_of_one (w := w1.setCell ⟨w.heap.size + 1, 0, none⟩ (.int .u32 (R.2 : Nat))) hone
  have HONE := hidden8 hone
  clear hone
  go_region
  all_goals (try go_wp2)
  refine bodyPost_ret (v := .tuple #[.int .i64 (R.1 : Nat), .int .u32 (R.2 : Nat)]) (by simp [results, Try.results65, go_sem, hfin]) rfl ⟨rfl, ?_⟩
  have hb := HB1.out
  refine ⟨hb.os, hb.tape, hb.output, ?_, fun k hk => ?_⟩
  · have := hb.size; simp at this ⊢; omega
  · show (w1.setCell _ _).heap[k]? = _
    rw [heap_setCell_other _ _ _ _ (by show k ≠ w.heap.size + 1; omega), hb.block k (by simp; omega) (by simp; omega), Go.heap_alloc_old _ _ (by simp; omega), Go.heap_alloc_old _ _ hk]
end Go.Proofs.Ytmebjbnglndfcaa
