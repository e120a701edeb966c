/- Package heap's Malloc and Free, leaf by leaf. -/
import Derived.Test.YtmebjbnglndfcaaE8h
namespace Go.Proofs.Ytmebjbnglndfcaa
open Go.RowKit
set_option maxHeartbeats 1000000
set_option maxRecDepth 100000
set_option linter.unusedVariables false

/-- the heap behind a call, and what the call leaves alone -/
def Left (B : Nat) (w w' : World) (h : Nat) (v : Value) (s : Hs) : Prop := ∃ v', HpAt B w' h v' s ∧ Fr w w' h v v'
theorem malloc_zero (B h : Nat) (v : Value) (s : Hs) (n x : Nat) (w : World) (hp : HpAt B w h v s) (hn : n = 0) :
    Calls Try.prog 47 #[.pointer (some ⟨h, 0, none⟩), .int .u32 n, .int .u32 x] w fun e w' => e = .returned (.tuple #[.int .u32 0, .bool false]) ∧ w' = w := by
  subst hn
  clear hp
  go_enter Try.func47, Try.ntmps47
  go_wp2
  go_ret2
  exact ⟨rfl, rfl⟩
theorem malloc_many (B h : Nat) (v : Value) (s : Hs) (n x : Nat) (w : World) (hp : HpAt B w h v s) (hn : n ≠ 0) (hl : 4096 ≤ s.bs.length) :
    Calls Try.prog 47 #[.pointer (some ⟨h, 0, none⟩), .int .u32 n, .int .u32 x] w fun e w' => e = .returned (.tuple #[.int .u32 0, .bool false]) ∧ w' = w := by
  obtain ⟨ao, c, rfl⟩ := own_slice2 hp.2.2
  have h3 := hp.cells.2.2.2.1
  clear hp
  generalize s.bs.length = nb at *
  have c1 : ¬ (n : Int) = 0 := by omega
  have c2 : (4096 : Int) ≤ (nb : Int) := by omega
  go_enter Try.func47, Try.ntmps47
  go_wp2
  go_ret2
  exact ⟨rfl, rfl⟩
theorem malloc_beg (B h : Nat) (v : Value) (s : Hs) (n x : Nat) (w : World) (hp : HpAt B w h v s) (hn : n ≠ 0) (hl : s.bs.length = 0) (hx : x < 4294967296) (hbg : begR s.most x = false) :
    Calls Try.prog 47 #[.pointer (some ⟨h, 0, none⟩), .int .u32 n, .int .u32 x] w fun e w' => e = .returned (.tuple #[.int .u32 0, .bool false]) ∧ w' = w := by
  have HA := hidden8 (active_any B h v s w hp)
  have HB := hidden8 (mayBegin_any B h v s x w hp hx)
  rw [hbg] at HB
  rw [show decide (0 < s.bs.length) = false by simp [hl]] at HA
  obtain ⟨ao, c, rfl⟩ := own_slice2 hp.2.2
  have h3 := hp.cells.2.2.2.1
  clear hp hbg
  rw [hl] at h3
  clear hl
  have c1 : ¬ (n : Int) = 0 := by omega
  go_enter Try.func47, Try.ntmps47
  go_wp2_with (first | (go_at_call 43; refine HA.out.mono ?_; rintro e w1 ⟨rfl, rfl⟩) | (go_at_call 64; refine HB.out.mono ?_; rintro e w1 ⟨rfl, rfl⟩))
  go_ret2
  exact ⟨rfl, rfl⟩
theorem malloc_new_in (B h : Nat) (v : Value) (s : Hs) (n x i a : Nat) (w : World) (hp : HpAt B w h v s) (hB : B ≤ w.heap.size) (hn : n ≠ 0) (hl : s.bs.length = 0) (hbg : begR s.most x = true) (hl2 : s.bs.length < 4096) (hm : s.most < 4294967296) (hen : x < 4294967296) (ha : a < 4294967296) (hn2 : n < 4294967296) (hch : Chain x x s.bs) (hpl : place n x s.bs = (i, a)) (hin : a + n ≤ x) :
    Calls Try.prog 47 #[.pointer (some ⟨h, 0, none⟩), .int .u32 n, .int .u32 x] w fun e w' => e = .returned (.tuple #[.int .u32 a, .bool true]) ∧ Left B w w' h v ⟨s.most, x, x, s.bs.take i ++ ⟨a, n⟩ :: s.bs.drop i⟩ := by
  have hile : i ≤ s.bs.length := by have := place_le n x s.bs; rw [hpl] at this; exact this
  have HA := hidden8 (active_any B h v s w hp)
  have HB := hidden8 (mayBegin_any B h v s x w hp hen)
  rw [hbg] at HB
  rw [show decide (0 < s.bs.length) = false by simp [hl]] at HA
  have hf := firstPlace_any B h v s x n x w hp (by omega) hch hen
  rw [hpl] at hf
  have HF : Hid (Calls Try.prog 65 #[.pointer (some ⟨h, 0, none⟩), .int .u32 x, .int .u32 n] w fun r w' => r = .returned (.tuple #[.int .i64 i, .int .u32 a]) ∧ Below w.heap.size w w') := hf.mono (fun r w' hh => ⟨hh.1, ⟨hh.2.os, hh.2.tape, hh.2.output, hh.2.size, hh.2.block⟩⟩)
  clear hf
  have HE : Hid (∀ w1, Below w.heap.size w w1 → Calls Try.prog 66 #[.pointer (some ⟨h, 0, none⟩), .int .u32 a, .int .u32 n, .int .u32 x] w1 fun e w' => e = .returned (.tuple #[.int .u32 x, .bool true]) ∧ w' = w1) := fun w1 hb => endBehind_in B h v s a n x w1 (hp.later hb) ha hn2 hen hin
  have HI := hidden8 fun w1 hb => insert_hp B h v s w w1 hp hb hB x x i a n hile (by omega)
  have HC : Hid (∀ w1, Below w.heap.size w w1 → w1.cell? ⟨h, 1, none⟩ = some (.int .u32 s.start) ∧ w1.cell? ⟨h, 2, none⟩ = some (.int .u32 s.en) ∧ w1.cell? ⟨h, 3, none⟩ = some v ∧ w1.frozen? ⟨h, 1, none⟩ = false ∧ w1.frozen? ⟨h, 2, none⟩ = false ∧ w1.frozen? ⟨h, 3, none⟩ = false ∧ h < w1.heap.size) := fun w1 hb => by
    have hq := hp.later hb
    have := hq.cells
    exact ⟨this.2.1, this.2.2.1, this.2.2.2.1, this.2.2.2.2 1, this.2.2.2.2 2, this.2.2.2.2 3, (Array.getElem?_eq_some_iff.1 hq.2.1).1⟩
  obtain ⟨ao, c, rfl⟩ := own_slice2 hp.2.2
  have hpc := hp.cells
  have h1 := hpc.2.1
  have h2 := hpc.2.2.1
  have h3 := hpc.2.2.2.1
  clear hpc hp hch hpl
  clear hbg
  have HL := hidden8 hl
  clear hl hile
  have c1 : ¬ (n : Int) = 0 := by omega
  have c2 : ¬ (4096 : Int) ≤ (s.bs.length : Int) := by omega
  go_enter Try.func47, Try.ntmps47
  go_wp2_with (first | (go_at_call 43; refine HA.out.mono ?_; rintro e w1 ⟨rfl, rfl⟩) | (go_at_call 64; refine HB.out.mono ?_; rintro e w1 ⟨rfl, rfl⟩) | (go_at_call 65; refine HF.out.mono ?_; rintro e w1 ⟨rfl, hb1⟩; obtain ⟨k1, k2, k3, k4, k5, k6, k7⟩ := HC.out w1 hb1) | (go_at_call 66; refine (HE.out _ hb1).mono ?_; rintro e w2 ⟨rfl, rfl⟩) | (go_at_call 67; refine (HI.out _ hb1).mono ?_; rintro e w4 ⟨ao4, c4, rfl, k8, k9, HFIN⟩))
  go_ret2
  exact ⟨rfl, _, HFIN.out⟩
theorem malloc_new_over (B h : Nat) (v : Value) (s : Hs) (n x i a : Nat) (w : World) (hp : HpAt B w h v s) (hB : B ≤ w.heap.size) (hn : n ≠ 0) (hl : s.bs.length = 0) (hbg : begR s.most x = true) (hl2 : s.bs.length < 4096) (hm : s.most < 4294967296) (hen : x < 4294967296) (ha : a < 4294967296) (hn2 : n < 4294967296) (hch : Chain x x s.bs) (hpl : place n x s.bs = (i, a)) (hin : x < a + n) (hup : s.most < up (a + n)) :
    Calls Try.prog 47 #[.pointer (some ⟨h, 0, none⟩), .int .u32 n, .int .u32 x] w fun e w' => e = .returned (.tuple #[.int .u32 0, .bool false]) ∧ Below w.heap.size w w' := by
  have hile : i ≤ s.bs.length := by have := place_le n x s.bs; rw [hpl] at this; exact this
  have HA := hidden8 (active_any B h v s w hp)
  have HB := hidden8 (mayBegin_any B h v s x w hp hen)
  rw [hbg] at HB
  rw [show decide (0 < s.bs.length) = false by simp [hl]] at HA
  have hf := firstPlace_any B h v s x n x w hp (by omega) hch hen
  rw [hpl] at hf
  have HF : Hid (Calls Try.prog 65 #[.pointer (some ⟨h, 0, none⟩), .int .u32 x, .int .u32 n] w fun r w' => r = .returned (.tuple #[.int .i64 i, .int .u32 a]) ∧ Below w.heap.size w w') := hf.mono (fun r w' hh => ⟨hh.1, ⟨hh.2.os, hh.2.tape, hh.2.output, hh.2.size, hh.2.block⟩⟩)
  clear hf
  have HE : Hid (∀ w1, Below w.heap.size w w1 → Calls Try.prog 66 #[.pointer (some ⟨h, 0, none⟩), .int .u32 a, .int .u32 n, .int .u32 x] w1 fun e w' => e = .returned (.tuple #[.int .u32 0, .bool false]) ∧ w' = w1) := fun w1 hb => endBehind_over B h v s a n x w1 (hp.later hb) ha hn2 hen hin hm hup
  obtain ⟨ao, c, rfl⟩ := own_slice2 hp.2.2
  have hpc := hp.cells
  have h1 := hpc.2.1
  have h2 := hpc.2.2.1
  have h3 := hpc.2.2.2.1
  clear hpc hp hch hpl
  clear hbg
  have HL := hidden8 hl
  clear hl hile
  have c1 : ¬ (n : Int) = 0 := by omega
  have c2 : ¬ (4096 : Int) ≤ (s.bs.length : Int) := by omega
  go_enter Try.func47, Try.ntmps47
  go_wp2_with (first | (go_at_call 43; refine HA.out.mono ?_; rintro e w1 ⟨rfl, rfl⟩) | (go_at_call 64; refine HB.out.mono ?_; rintro e w1 ⟨rfl, rfl⟩) | (go_at_call 65; refine HF.out.mono ?_; rintro e w1 ⟨rfl, hb1⟩) | (go_at_call 66; refine (HE.out _ hb1).mono ?_; rintro e w2 ⟨rfl, rfl⟩))
  go_ret2
  exact ⟨rfl, hb1⟩
theorem malloc_new_fits (B h : Nat) (v : Value) (s : Hs) (n x i a : Nat) (w : World) (hp : HpAt B w h v s) (hB : B ≤ w.heap.size) (hn : n ≠ 0) (hl : s.bs.length = 0) (hbg : begR s.most x = true) (hl2 : s.bs.length < 4096) (hm : s.most < 4294967296) (hen : x < 4294967296) (ha : a < 4294967296) (hn2 : n < 4294967296) (hch : Chain x x s.bs) (hpl : place n x s.bs = (i, a)) (hin : x < a + n) (hup : up (a + n) ≤ s.most) :
    Calls Try.prog 47 #[.pointer (some ⟨h, 0, none⟩), .int .u32 n, .int .u32 x] w fun e w' => e = .returned (.tuple #[.int .u32 a, .bool true]) ∧ Left B w w' h v ⟨s.most, x, (up (a + n)), s.bs.take i ++ ⟨a, n⟩ :: s.bs.drop i⟩ := by
  have hile : i ≤ s.bs.length := by have := place_le n x s.bs; rw [hpl] at this; exact this
  have HA := hidden8 (active_any B h v s w hp)
  have HB := hidden8 (mayBegin_any B h v s x w hp hen)
  rw [hbg] at HB
  rw [show decide (0 < s.bs.length) = false by simp [hl]] at HA
  have hf := firstPlace_any B h v s x n x w hp (by omega) hch hen
  rw [hpl] at hf
  have HF : Hid (Calls Try.prog 65 #[.pointer (some ⟨h, 0, none⟩), .int .u32 x, .int .u32 n] w fun r w' => r = .returned (.tuple #[.int .i64 i, .int .u32 a]) ∧ Below w.heap.size w w') := hf.mono (fun r w' hh => ⟨hh.1, ⟨hh.2.os, hh.2.tape, hh.2.output, hh.2.size, hh.2.block⟩⟩)
  clear hf
  have HE : Hid (∀ w1, Below w.heap.size w w1 → Calls Try.prog 66 #[.pointer (some ⟨h, 0, none⟩), .int .u32 a, .int .u32 n, .int .u32 x] w1 fun e w' => e = .returned (.tuple #[.int .u32 (up (a + n) : Nat), .bool true]) ∧ w' = w1) := fun w1 hb => endBehind_fits B h v s a n x w1 (hp.later hb) ha hn2 hen hin hm hup
  have HI := hidden8 fun w1 hb => insert_hp B h v s w w1 hp hb hB x (up (a + n)) i a n hile (by omega)
  have HC : Hid (∀ w1, Below w.heap.size w w1 → w1.cell? ⟨h, 1, none⟩ = some (.int .u32 s.start) ∧ w1.cell? ⟨h, 2, none⟩ = some (.int .u32 s.en) ∧ w1.cell? ⟨h, 3, none⟩ = some v ∧ w1.frozen? ⟨h, 1, none⟩ = false ∧ w1.frozen? ⟨h, 2, none⟩ = false ∧ w1.frozen? ⟨h, 3, none⟩ = false ∧ h < w1.heap.size) := fun w1 hb => by
    have hq := hp.later hb
    have := hq.cells
    exact ⟨this.2.1, this.2.2.1, this.2.2.2.1, this.2.2.2.2 1, this.2.2.2.2 2, this.2.2.2.2 3, (Array.getElem?_eq_some_iff.1 hq.2.1).1⟩
  obtain ⟨ao, c, rfl⟩ := own_slice2 hp.2.2
  have hpc := hp.cells
  have h1 := hpc.2.1
  have h2 := hpc.2.2.1
  have h3 := hpc.2.2.2.1
  clear hpc hp hch hpl
  clear hbg
  have HL := hidden8 hl
  clear hl hile
  have c1 : ¬ (n : Int) = 0 := by omega
  have c2 : ¬ (4096 : Int) ≤ (s.bs.length : Int) := by omega
  go_enter Try.func47, Try.ntmps47
  go_wp2_with (first | (go_at_call 43; refine HA.out.mono ?_; rintro e w1 ⟨rfl, rfl⟩) | (go_at_call 64; refine HB.out.mono ?_; rintro e w1 ⟨rfl, rfl⟩) | (go_at_call 65; refine HF.out.mono ?_; rintro e w1 ⟨rfl, hb1⟩; obtain ⟨k1, k2, k3, k4, k5, k6, k7⟩ := HC.out w1 hb1) | (go_at_call 66; refine (HE.out _ hb1).mono ?_; rintro e w2 ⟨rfl, rfl⟩) | (go_at_call 67; refine (HI.out _ hb1).mono ?_; rintro e w4 ⟨ao4, c4, rfl, k8, k9, HFIN⟩))
  go_ret2
  exact ⟨rfl, _, HFIN.out⟩
theorem malloc_old_in (B h : Nat) (v : Value) (s : Hs) (n x i a : Nat) (w : World) (hp : HpAt B w h v s) (hB : B ≤ w.heap.size) (hn : n ≠ 0) (hl : 0 < s.bs.length) (hl2 : s.bs.length < 4096) (hm : s.most < 4294967296) (hen : s.en < 4294967296) (ha : a < 4294967296) (hn2 : n < 4294967296) (hch : Chain s.en s.start s.bs) (hpl : place n s.start s.bs = (i, a)) (hin : a + n ≤ s.en) :
    Calls Try.prog 47 #[.pointer (some ⟨h, 0, none⟩), .int .u32 n, .int .u32 x] w fun e w' => e = .returned (.tuple #[.int .u32 a, .bool true]) ∧ Left B w w' h v ⟨s.most, s.start, s.en, s.bs.take i ++ ⟨a, n⟩ :: s.bs.drop i⟩ := by
  have hile : i ≤ s.bs.length := by have := place_le n s.start s.bs; rw [hpl] at this; exact this
  have HA := hidden8 (active_any B h v s w hp)
  rw [show decide (0 < s.bs.length) = true by simp [hl]] at HA
  have hf := firstPlace_any B h v s s.start n s.en w.drew hp (by omega) hch hen
  rw [hpl] at hf
  have HF : Hid (Calls Try.prog 65 #[.pointer (some ⟨h, 0, none⟩), .int .u32 s.start, .int .u32 n] w.drew fun r w' => r = .returned (.tuple #[.int .i64 i, .int .u32 a]) ∧ Below w.heap.size w w') := hf.mono (fun r w' hh => ⟨hh.1, ⟨hh.2.os, hh.2.tape, hh.2.output, hh.2.size, hh.2.block⟩⟩)
  clear hf
  have HE : Hid (∀ w1, Below w.heap.size w w1 → Calls Try.prog 66 #[.pointer (some ⟨h, 0, none⟩), .int .u32 a, .int .u32 n, .int .u32 s.en] w1 fun e w' => e = .returned (.tuple #[.int .u32 s.en, .bool true]) ∧ w' = w1) := fun w1 hb => endBehind_in B h v s a n s.en w1 (hp.later hb) ha hn2 hen hin
  have HI := hidden8 fun w1 hb => insert_hp B h v s w w1 hp hb hB s.start s.en i a n hile (by omega)
  have HC : Hid (∀ w1, Below w.heap.size w w1 → w1.cell? ⟨h, 1, none⟩ = some (.int .u32 s.start) ∧ w1.cell? ⟨h, 2, none⟩ = some (.int .u32 s.en) ∧ w1.cell? ⟨h, 3, none⟩ = some v ∧ w1.frozen? ⟨h, 1, none⟩ = false ∧ w1.frozen? ⟨h, 2, none⟩ = false ∧ w1.frozen? ⟨h, 3, none⟩ = false ∧ h < w1.heap.size) := fun w1 hb => by
    have hq := hp.later hb
    have := hq.cells
    exact ⟨this.2.1, this.2.2.1, this.2.2.2.1, this.2.2.2.2 1, this.2.2.2.2 2, this.2.2.2.2 3, (Array.getElem?_eq_some_iff.1 hq.2.1).1⟩
  obtain ⟨ao, c, rfl⟩ := own_slice2 hp.2.2
  have hpc := hp.cells
  have h1 := hpc.2.1
  have h2 := hpc.2.2.1
  have h3 := hpc.2.2.2.1
  clear hpc hp hch hpl
  have HL := hidden8 hl
  clear hl hile
  have c1 : ¬ (n : Int) = 0 := by omega
  have c2 : ¬ (4096 : Int) ≤ (s.bs.length : Int) := by omega
  go_enter Try.func47, Try.ntmps47
  go_wp2_with (first | (go_at_call 43; refine HA.out.mono ?_; rintro e w1 ⟨rfl, rfl⟩))
  go_region
  go_wp2_with (first | (go_at_call 65; refine HF.out.mono ?_; rintro e w1 ⟨rfl, hb1⟩; obtain ⟨k1, k2, k3, k4, k5, k6, k7⟩ := HC.out w1 hb1) | (go_at_call 66; refine (HE.out _ hb1).mono ?_; rintro e w2 ⟨rfl, rfl⟩) | (go_at_call 67; refine (HI.out _ hb1).mono ?_; rintro e w4 ⟨ao4, c4, rfl, k8, k9, HFIN⟩))
  go_ret2
  exact ⟨rfl, _, HFIN.out⟩
theorem malloc_old_over (B h : Nat) (v : Value) (s : Hs) (n x i a : Nat) (w : World) (hp : HpAt B w h v s) (hB : B ≤ w.heap.size) (hn : n ≠ 0) (hl : 0 < s.bs.length) (hl2 : s.bs.length < 4096) (hm : s.most < 4294967296) (hen : s.en < 4294967296) (ha : a < 4294967296) (hn2 : n < 4294967296) (hch : Chain s.en s.start s.bs) (hpl : place n s.start s.bs = (i, a)) (hin : s.en < a + n) (hup : s.most < up (a + n)) :
    Calls Try.prog 47 #[.pointer (some ⟨h, 0, none⟩), .int .u32 n, .int .u32 x] w fun e w' => e = .returned (.tuple #[.int .u32 0, .bool false]) ∧ Below w.heap.size w w' := by
  have hile : i ≤ s.bs.length := by have := place_le n s.start s.bs; rw [hpl] at this; exact this
  have HA := hidden8 (active_any B h v s w hp)
  rw [show decide (0 < s.bs.length) = true by simp [hl]] at HA
  have hf := firstPlace_any B h v s s.start n s.en w.drew hp (by omega) hch hen
  rw [hpl] at hf
  have HF : Hid (Calls Try.prog 65 #[.pointer (some ⟨h, 0, none⟩), .int .u32 s.start, .int .u32 n] w.drew fun r w' => r = .returned (.tuple #[.int .i64 i, .int .u32 a]) ∧ Below w.heap.size w w') := hf.mono (fun r w' hh => ⟨hh.1, ⟨hh.2.os, hh.2.tape, hh.2.output, hh.2.size, hh.2.block⟩⟩)
  clear hf
  have HE : Hid (∀ w1, Below w.heap.size w w1 → Calls Try.prog 66 #[.pointer (some ⟨h, 0, none⟩), .int .u32 a, .int .u32 n, .int .u32 s.en] w1 fun e w' => e = .returned (.tuple #[.int .u32 0, .bool false]) ∧ w' = w1) := fun w1 hb => endBehind_over B h v s a n s.en w1 (hp.later hb) ha hn2 hen hin hm hup
  obtain ⟨ao, c, rfl⟩ := own_slice2 hp.2.2
  have hpc := hp.cells
  have h1 := hpc.2.1
  have h2 := hpc.2.2.1
  have h3 := hpc.2.2.2.1
  clear hpc hp hch hpl
  have HL := hidden8 hl
  clear hl hile
  have c1 : ¬ (n : Int) = 0 := by omega
  have c2 : ¬ (4096 : Int) ≤ (s.bs.length : Int) := by omega
  go_enter Try.func47, Try.ntmps47
  go_wp2_with (first | (go_at_call 43; refine HA.out.mono ?_; rintro e w1 ⟨rfl, rfl⟩))
  go_region
  go_wp2_with (first | (go_at_call 65; refine HF.out.mono ?_; rintro e w1 ⟨rfl, hb1⟩) | (go_at_call 66; refine (HE.out _ hb1).mono ?_; rintro e w2 ⟨rfl, rfl⟩))
  go_ret2
  exact ⟨rfl, hb1⟩
theorem malloc_old_fits (B h : Nat) (v : Value) (s : Hs) (n x i a : Nat) (w : World) (hp : HpAt B w h v s) (hB : B ≤ w.heap.size) (hn : n ≠ 0) (hl : 0 < s.bs.length) (hl2 : s.bs.length < 4096) (hm : s.most < 4294967296) (hen : s.en < 4294967296) (ha : a < 4294967296) (hn2 : n < 4294967296) (hch : Chain s.en s.start s.bs) (hpl : place n s.start s.bs = (i, a)) (hin : s.en < a + n) (hup : up (a + n) ≤ s.most) :
    Calls Try.prog 47 #[.pointer (some ⟨h, 0, none⟩), .int .u32 n, .int .u32 x] w fun e w' => e = .returned (.tuple #[.int .u32 a, .bool true]) ∧ Left B w w' h v ⟨s.most, s.start, (up (a + n)), s.bs.take i ++ ⟨a, n⟩ :: s.bs.drop i⟩ := by
  have hile : i ≤ s.bs.length := by have := place_le n s.start s.bs; rw [hpl] at this; exact this
  have HA := hidden8 (active_any B h v s w hp)
  rw [show decide (0 < s.bs.length) = true by simp [hl]] at HA
  have hf := firstPlace_any B h v s s.start n s.en w.drew hp (by omega) hch hen
  rw [hpl] at hf
  have HF : Hid (Calls Try.prog 65 #[.pointer (some ⟨h, 0, none⟩), .int .u32 s.start, .int .u32 n] w.drew fun r w' => r = .returned (.tuple #[.int .i64 i, .int .u32 a]) ∧ Below w.heap.size w w') := hf.mono (fun r w' hh => ⟨hh.1, ⟨hh.2.os, hh.2.tape, hh.2.output, hh.2.size, hh.2.block⟩⟩)
  clear hf
  have HE : Hid (∀ w1, Below w.heap.size w w1 → Calls Try.prog 66 #[.pointer (some ⟨h, 0, none⟩), .int .u32 a, .int .u32 n, .int .u32 s.en] w1 fun e w' => e = .returned (.tuple #[.int .u32 (up (a + n) : Nat), .bool true]) ∧ w' = w1) := fun w1 hb => endBehind_fits B h v s a n s.en w1 (hp.later hb) ha hn2 hen hin hm hup
  have HI := hidden8 fun w1 hb => insert_hp B h v s w w1 hp hb hB s.start (up (a + n)) i a n hile (by omega)
  have HC : Hid (∀ w1, Below w.heap.size w w1 → w1.cell? ⟨h, 1, none⟩ = some (.int .u32 s.start) ∧ w1.cell? ⟨h, 2, none⟩ = some (.int .u32 s.en) ∧ w1.cell? ⟨h, 3, none⟩ = some v ∧ w1.frozen? ⟨h, 1, none⟩ = false ∧ w1.frozen? ⟨h, 2, none⟩ = false ∧ w1.frozen? ⟨h, 3, none⟩ = false ∧ h < w1.heap.size) := fun w1 hb => by
    have hq := hp.later hb
    have := hq.cells
    exact ⟨this.2.1, this.2.2.1, this.2.2.2.1, this.2.2.2.2 1, this.2.2.2.2 2, this.2.2.2.2 3, (Array.getElem?_eq_some_iff.1 hq.2.1).1⟩
  obtain ⟨ao, c, rfl⟩ := own_slice2 hp.2.2
  have hpc := hp.cells
  have h1 := hpc.2.1
  have h2 := hpc.2.2.1
  have h3 := hpc.2.2.2.1
  clear hpc hp hch hpl
  have HL := hidden8 hl
  clear hl hile
  have c1 : ¬ (n : Int) = 0 := by omega
  have c2 : ¬ (4096 : Int) ≤ (s.bs.length : Int) := by omega
  go_enter Try.func47, Try.ntmps47
  go_wp2_with (first | (go_at_call 43; refine HA.out.mono ?_; rintro e w1 ⟨rfl, rfl⟩))
  go_region
  go_wp2_with (first | (go_at_call 65; refine HF.out.mono ?_; rintro e w1 ⟨rfl, hb1⟩; obtain ⟨k1, k2, k3, k4, k5, k6, k7⟩ := HC.out w1 hb1) | (go_at_call 66; refine (HE.out _ hb1).mono ?_; rintro e w2 ⟨rfl, rfl⟩) | (go_at_call 67; refine (HI.out _ hb1).mono ?_; rintro e w4 ⟨ao4, c4, rfl, k8, k9, HFIN⟩))
  go_ret2
  exact ⟨rfl, _, HFIN.out⟩
end Go.Proofs.Ytmebjbnglndfcaa
