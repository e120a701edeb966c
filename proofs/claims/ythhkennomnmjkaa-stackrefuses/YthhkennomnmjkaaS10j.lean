/- Contracts of a stack's methods: Push, Stub, Peek, Count, Top, Frame, Leave. -/
import Derived.Test.YthhkennomnmjkaaS10i
namespace Go.Proofs.Ythhkennomnmjkaa
open Go.RowKit
set_option maxHeartbeats 1000000
set_option maxRecDepth 100000
set_option linter.unusedVariables false

/-- what a call leaves: the stack is at s' -/
def LeftK (B : Nat) (w w' : World) (m : Nat) (v : Value) (s' : Ks) : Prop := ∃ v', KAt B w' m v' s' ∧ Fm w w' (TK m v) (TK m v')
theorem LeftK.same {B : Nat} {w w' : World} {m : Nat} {v : Value} {s : Ks} (h : KAt B w m v s) (hb : Below w.heap.size w w') : LeftK B w w' m v s := ⟨v, h.later hb, Fm.same hb⟩
theorem LeftK.dr {B : Nat} {w w' : World} {m : Nat} {v : Value} {s : Ks} (h : KAt B w m v s) (hd : Dr w w') : LeftK B w w' m v s := LeftK.same h hd.below
theorem LeftK.after {B : Nat} {w w1 w' : World} {m : Nat} {v : Value} {s : Ks} (hb : Below w.heap.size w w1) (l : LeftK B w1 w' m v s) : LeftK B w w' m v s := by
  obtain ⟨v', h1, h2⟩ := l
  exact ⟨v', h1, (Fm.same hb).trans h2⟩
theorem KAt.kc' {B : Nat} {w : World} {m : Nat} {v : Value} {s : Ks} (h : KAt B w m v s) : ∃ a c, v = .slice a s.bs.length c ∧ KC w m a c s := by
  obtain ⟨a, c, rfl⟩ := own_slice8 h.row
  exact ⟨a, c, rfl, h.kc⟩
theorem room_bd (s : Ks) (n : Nat) : roomE s n = 0 ∨ roomE s n = 100 := by unfold roomE; split <;> simp
theorem roomFor_bd (s : Ks) (n k : Nat) : roomForE s n k = 0 ∨ roomForE s n k = 100 ∨ roomForE s n k = 101 ∨ roomForE s n k = 102 := by
  unfold roomForE
  have := lack_bd s n
  have := room_bd s (4 * k)
  split <;> omega
theorem roomFor_zero {s : Ks} {n k : Nat} (h : roomForE s n k = 0) : lackE s n = 0 ∧ s.bs.length + 4 * k ≤ s.size := by
  unfold roomForE at h
  split at h
  · rename_i h0
    unfold roomE at h
    split at h
    · omega
    · exact ⟨h0, by omega⟩
  · contradiction
theorem lack_zero {s : Ks} {n : Nat} (h : lackE s n = 0) : s.on = true ∧ n ≤ cnt s := by
  unfold lackE at h
  split at h
  · omega
  · rename_i h0
    split at h
    · omega
    · exact ⟨by simpa using h0, by omega⟩
/-- numbers in a block of their own -/
theorem cells32 (w : World) (xs : List Nat) (i : Nat) (h : i < xs.length) : (w.alloc (.cells (xs.map (fun x : Nat => Value.int .u32 (x : Int))).toArray 23)).cell? ⟨w.heap.size, i, none⟩ = some (.int .u32 (xs.getD i 0 : Nat)) := by
  have := heap_alloc_new w (.cells (xs.map (fun x : Nat => Value.int .u32 (x : Int))).toArray 23)
  unfold World.cell?
  simp only
  rw [this]
  simp [List.getD_eq_getElem?_getD, h]
theorem kpush_new (B m : Nat) (v : Value) (s : Ks) (xs : List Nat) (w w1 : World) (hd : Below w.heap.size w w1) (h : KAt B w m v s) (hB : B ≤ w.heap.size) (hL : s.bs.length + 4 * xs.length ≤ 100000) (hx : ∀ x ∈ xs, x < 4294967296) (h0 : 0 < xs.length) :
    Calls Try.prog 49 #[.pointer (some ⟨m, 0, none⟩), .slice (some ⟨w1.heap.size, 0, none⟩) xs.length xs.length] (w1.alloc (.cells (xs.map (fun x : Nat => Value.int .u32 (x : Int))).toArray 23)) fun e w' => e = .returned (.tuple #[]) ∧ LeftK B w w' m v { s with bs := s.bs ++ putsL xs } := by
  have h1 := h.later hd
  have hb1 : Below w1.heap.size w1 (w1.alloc (.cells (xs.map (fun x : Nat => Value.int .u32 (x : Int))).toArray 23)) := (Below.refl _ _).alloc (Nat.le_refl _) _
  have h2 := h1.later hb1
  refine (kpush_any B m w1.heap.size xs.length v s xs _ h2 (Nat.le_trans hB (Nat.le_trans hd.size hb1.size)) hL hx h0 (by simp) (fun e => ?_) (fun i hi => cells32 w1 xs i hi) (Nat.le_refl _)).mono ?_
  · have := (h1.low _ e).2
    omega
  · rintro e w' ⟨rfl, v', h3, h4⟩
    exact ⟨rfl, v', h3, (Fm.same (hd.trans (hb1.mono hd.size))).trans h4⟩
theorem kPush_nil (x : Int) (w : World) : Calls Try.prog 16 #[.pointer none, .int .u32 x] w fun e w' => e = .returned (.int .i64 8) ∧ w' = w := by
  go_enter Try.func16, Try.ntmps16
  go_wp2_with (go_at_call 50; refine (kroomf_nil _ _ _).mono ?_; rintro e w1 ⟨rfl, rfl⟩)
  go_ret
  exact ⟨rfl, rfl⟩
theorem kPush_any (B m x : Nat) (v : Value) (s : Ks) (w : World) (h : KAt B w m v s) (hB : B ≤ w.heap.size) (ok : OkK s) (hx : x < 4294967296) :
    Calls Try.prog 16 #[.pointer (some ⟨m, 0, none⟩), .int .u32 x] w fun e w' => e = .returned (.int .i64 (pushE s)) ∧ LeftK B w w' m v (pushS s x) := by
  obtain ⟨a, c, rfl, kc⟩ := h.kc'
  have HR := hidden (kroomf_any m a c s 0 1 w kc ok (by omega))
  unfold pushS pushE
  by_cases h0 : roomForE s 0 1 = 0
  · rw [if_pos h0, h0]
    obtain ⟨_, hrm⟩ := roomFor_zero h0
    have hmo := ok.most
    have HP : Hid (∀ w1, Dr w w1 → Calls Try.prog 49 #[.pointer (some ⟨m, 0, none⟩), .slice (some ⟨w1.heap.size, 0, none⟩) 1 1] (w1.alloc (.cells #[.int .u32 (x : Int)] 23)) fun e w' => e = .returned (.tuple #[]) ∧ LeftK B w w' m (.slice a s.bs.length c) { s with bs := s.bs ++ putL (x : Int) 4 }) := fun w1 hd => by
      have := kpush_new B m (.slice a s.bs.length c) s [x] w w1 hd.below h hB (by simp; omega) (by simpa using hx) (by simp)
      simpa [putsL] using this
    rw [h0] at HR
    clear h kc ok hrm h0
    go_enter Try.func16, Try.ntmps16
    go_wp2_with (first | (go_at_call 50; refine HR.out.mono ?_; rintro e w1 ⟨rfl, hd⟩) | (go_at_call 49; refine (HP.out _ hd).mono ?_; rintro e w2 ⟨rfl, hl⟩))
    go_ret
    exact ⟨rfl, hl⟩
  · rw [if_neg h0]
    have HK := hidden h
    generalize roomForE s 0 1 = E at *
    have q : ((E : Int) == 0) = false := by simpa using h0
    have q2 : ¬ (E : Int) = 0 := by omega
    clear h kc ok
    go_enter Try.func16, Try.ntmps16
    go_wp2_with (first | (go_at_call 50; refine HR.out.mono ?_; rintro e w1 ⟨rfl, hd⟩))
    go_ret
    exact ⟨rfl, LeftK.dr HK.out hd⟩
theorem kStub_nil (x y z : Int) (w : World) : Calls Try.prog 19 #[.pointer none, .int .u32 x, .int .u32 y, .int .u32 z] w fun e w' => e = .returned (.int .i64 8) ∧ w' = w := by
  go_enter Try.func19, Try.ntmps19
  go_wp2_with (go_at_call 50; refine (kroomf_nil _ _ _).mono ?_; rintro e w1 ⟨rfl, rfl⟩)
  go_ret
  exact ⟨rfl, rfl⟩
theorem kStub_any (B m x y z : Nat) (v : Value) (s : Ks) (w : World) (h : KAt B w m v s) (hB : B ≤ w.heap.size) (ok : OkK s) (hx : x < 4294967296) (hy : y < 4294967296) (hz : z < 4294967296) :
    Calls Try.prog 19 #[.pointer (some ⟨m, 0, none⟩), .int .u32 x, .int .u32 y, .int .u32 z] w fun e w' => e = .returned (.int .i64 (stubUE s)) ∧ LeftK B w w' m v (stubS s x y z) := by
  obtain ⟨a, c, rfl, kc⟩ := h.kc'
  have HR := hidden (kroomf_any m a c s 0 4 w kc ok (by omega))
  unfold stubS stubUE
  by_cases h0 : roomForE s 0 4 = 0
  · rw [if_pos h0, h0]
    obtain ⟨hlk, hrm⟩ := roomFor_zero h0
    have hmo := ok.most
    have hfr := (ok.bd (lack_zero hlk).1).1
    have hfl : s.fr < 4294967296 := by omega
    have HP : Hid (∀ w1, Dr w w1 → Calls Try.prog 49 #[.pointer (some ⟨m, 0, none⟩), .slice (some ⟨w1.heap.size, 0, none⟩) 4 4] (w1.alloc (.cells #[.int .u32 (x : Int), .int .u32 (y : Int), .int .u32 (z : Int), .int .u32 (s.fr : Int)] 23)) fun e w' => e = .returned (.tuple #[]) ∧ LeftK B w w' m (.slice a s.bs.length c) { s with bs := s.bs ++ putStub x y z s.fr }) := fun w1 hd => by
      have := kpush_new B m (.slice a s.bs.length c) s [x, y, z, s.fr] w w1 hd.below h hB (by simp; omega) (by simp; omega) (by simp)
      simpa [putsL, putStub] using this
    have HC : Hid (∀ w1, Dr w w1 → w1.cell? ⟨m, 2, none⟩ = some (.int .i64 s.fr)) := fun w1 hd => (kc.later hd.below).c2
    rw [h0] at HR
    have hw : IntKind.u32.wrap (s.fr : Int) = (s.fr : Int) := by rw [IntKind.wrap_u32]; omega
    clear h kc ok hrm h0 hlk hfr hfl
    generalize s.fr = f at *
    go_enter Try.func19, Try.ntmps19
    go_wp2_with (first | (go_at_call 50; refine HR.out.mono ?_; rintro e w1 ⟨rfl, hd⟩; have hc2 := HC.out _ hd) | (go_at_call 49; refine (HP.out _ hd).mono ?_; rintro e w2 ⟨rfl, hl⟩))
    go_ret
    exact ⟨rfl, hl⟩
  · rw [if_neg h0]
    have HK := hidden h
    generalize roomForE s 0 4 = E at *
    have q : ((E : Int) == 0) = false := by simpa using h0
    have q2 : ¬ (E : Int) = 0 := by omega
    clear h kc ok
    go_enter Try.func19, Try.ntmps19
    go_wp2_with (first | (go_at_call 50; refine HR.out.mono ?_; rintro e w1 ⟨rfl, hd⟩))
    go_ret
    exact ⟨rfl, LeftK.dr HK.out hd⟩
theorem kCount_nil (w : World) : Calls Try.prog 21 #[.pointer none] w fun e w' => e = .returned (.int .i64 0) ∧ w' = w := by
  go_enter Try.func21, Try.ntmps21
  go_wp2_with (go_at_call 51; refine (klacks_nil _ _).mono ?_; rintro e w1 ⟨rfl, rfl⟩)
  go_ret
  exact ⟨rfl, rfl⟩
theorem kCount_any (m : Nat) (a : Option Addr) (c : Nat) (s : Ks) (w : World) (h : KC w m a c s) (ok : OkK s) :
    Calls Try.prog 21 #[.pointer (some ⟨m, 0, none⟩)] w fun e w' => e = .returned (.int .i64 (countV s)) ∧ Dr w w' := by
  have HL := hidden (klacks_any m a c s 0 w h ok)
  unfold countV
  by_cases h0 : lackE s 0 = 0
  · rw [if_pos h0]
    rw [h0] at HL
    have HC : Hid (∀ w1, Dr w w1 → Calls Try.prog 55 #[.pointer (some ⟨m, 0, none⟩)] w1 fun e w' => e = .returned (.int .i64 (cnt s)) ∧ Dr w w') := fun w1 hd => (kcount_any m a c s w1 (h.later hd.below) ok (lack_zero h0).1).mono (fun e w' hh => ⟨hh.1, hd.trans hh.2⟩)
    clear h ok h0
    go_enter Try.func21, Try.ntmps21
    go_wp2_with (first | (go_at_call 51; refine HL.out.mono ?_; rintro e w1 ⟨rfl, hd⟩) | (go_at_call 55; refine (HC.out _ hd).mono ?_; rintro e w2 ⟨rfl, hd2⟩))
    go_ret
    exact ⟨rfl, hd2⟩
  · rw [if_neg h0]
    generalize lackE s 0 = E at *
    have q : ((E : Int) == 0) = false := by simpa using h0
    have q2 : ¬ (E : Int) = 0 := by omega
    clear h ok
    go_enter Try.func21, Try.ntmps21
    go_wp2_with (first | (go_at_call 51; refine HL.out.mono ?_; rintro e w1 ⟨rfl, hd⟩))
    go_ret
    exact ⟨rfl, hd⟩
theorem kTop_nil (w : World) : Calls Try.prog 10 #[.pointer none] w fun e w' => e = .returned (.int .u32 0) ∧ w' = w := by
  go_enter Try.func10, Try.ntmps10
  go_wp2
  go_ret
  exact ⟨rfl, rfl⟩
theorem kTop_any (m : Nat) (a : Option Addr) (c : Nat) (s : Ks) (w : World) (h : KC w m a c s) (hl : s.bs.length < 4294967296) :
    Calls Try.prog 10 #[.pointer (some ⟨m, 0, none⟩)] w fun e w' => e = .returned (.int .u32 s.bs.length) ∧ w' = w := by
  obtain ⟨c0, c1, c2, c3, _⟩ := h
  clear c0 c2 c3
  generalize s.bs.length = L at *
  have hw : IntKind.u32.wrap (L : Int) = (L : Int) := by rw [IntKind.wrap_u32]; omega
  go_enter Try.func10, Try.ntmps10
  go_wp2
  go_ret
  exact ⟨rfl, rfl⟩
theorem kFrame_nil (w : World) : Calls Try.prog 8 #[.pointer none] w fun e w' => e = .returned (.tuple #[.int .u32 0, .bool false]) ∧ w' = w := by
  go_enter Try.func8, Try.ntmps8
  go_wp2
  go_ret2
  exact ⟨rfl, rfl⟩
theorem kFrame_any (m : Nat) (a : Option Addr) (c : Nat) (s : Ks) (w : World) (h : KC w m a c s) (ok : OkK s) :
    Calls Try.prog 8 #[.pointer (some ⟨m, 0, none⟩)] w fun e w' => e = .returned (.tuple #[.int .u32 s.fr, .bool s.on]) ∧ w' = w := by
  obtain ⟨c0, c1, c2, c3, _⟩ := h
  cases hon : s.on with
  | false =>
    have hf := (ok.non hon).1
    rw [hf]
    rw [hon] at c3
    clear c0 c1 c2 ok
    go_enter Try.func8, Try.ntmps8
    go_wp2
    go_ret2
    exact ⟨rfl, rfl⟩
  | true =>
    have hb := (ok.bd hon).1
    have hsz := ok.sz
    have hmo := ok.most
    have hw : IntKind.u32.wrap (s.fr : Int) = (s.fr : Int) := by rw [IntKind.wrap_u32]; omega
    rw [hon] at c3
    clear c0 c1 ok hb hsz hmo
    go_enter Try.func8, Try.ntmps8
    go_wp2
    go_ret2
    exact ⟨rfl, rfl⟩
end Go.Proofs.Ythhkennomnmjkaa
