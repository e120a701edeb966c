/- Contract of grottolaw10.live. -/
import Derived.Test.YthhkennomnmjkaaS10p
import Derived.Test.YthhkennomnmjkaaS10n
namespace Go.Proofs.Ythhkennomnmjkaa
open Go.RowKit
set_option maxHeartbeats 1000000
set_option maxRecDepth 100000
set_option linter.unusedVariables false

/-- a stack in memory of the call's own, some calls on -/
def RunK (B m : Nat) (w0 w : World) (s : Ks) : Prop := ∃ v, KAt B w m v s ∧ Below B w0 w ∧ B ≤ w.heap.size
theorem RunK.left {B m : Nat} {w0 w w' : World} {v : Value} {s s' : Ks} (h : KAt B w m v s) (hb : Below B w0 w) (hB : B ≤ w.heap.size) (l : LeftK B w w' m v s') : RunK B m w0 w' s' := by
  obtain ⟨v', h1, f⟩ := l
  exact ⟨v', h1, hb.trans (f.below hB (fun k e => (h.low k e).1)), Nat.le_trans hB f.size⟩
theorem RunK.later {B m : Nat} {w0 w w' : World} {s : Ks} (r : RunK B m w0 w s) (hb : Below w.heap.size w w') : RunK B m w0 w' s := by
  obtain ⟨v, h1, h2, h3⟩ := r
  exact ⟨v, h1.later hb, h2.trans (hb.mono h3), Nat.le_trans h3 hb.size⟩
theorem RunK.push {B m : Nat} {w0 w : World} {s : Ks} (r : RunK B m w0 w s) (ok : OkK s) (x : Nat) (hx : x < 4294967296) :
    Calls Try.prog 16 #[.pointer (some ⟨m, 0, none⟩), .int .u32 x] w fun e w' => e = .returned (.int .i64 (pushE s)) ∧ RunK B m w0 w' (pushS s x) := by
  obtain ⟨v, h1, h2, h3⟩ := r
  exact (kPush_any B m x v s w h1 h3 ok hx).mono (fun e w' hh => ⟨hh.1, RunK.left h1 h2 h3 hh.2⟩)
theorem RunK.roll {B m : Nat} {w0 w : World} {s : Ks} (r : RunK B m w0 w s) (ok : OkK s) (n k : Nat) (hn : n < 4294967296) (hk : k < 4294967296) :
    Calls Try.prog 17 #[.pointer (some ⟨m, 0, none⟩), .int .u32 n, .int .u32 k] w fun e w' => e = .returned (.int .i64 (rollE s n)) ∧ RunK B m w0 w' (rollS s n k) := by
  obtain ⟨v, h1, h2, h3⟩ := r
  exact (kRoll_any B m n k v s w h1 ok hn hk).mono (fun e w' hh => ⟨hh.1, RunK.left h1 h2 h3 hh.2⟩)
theorem RunK.stub {B m : Nat} {w0 w : World} {s : Ks} (r : RunK B m w0 w s) (ok : OkK s) (x y z : Nat) (hx : x < 4294967296) (hy : y < 4294967296) (hz : z < 4294967296) :
    Calls Try.prog 19 #[.pointer (some ⟨m, 0, none⟩), .int .u32 x, .int .u32 y, .int .u32 z] w fun e w' => e = .returned (.int .i64 (stubUE s)) ∧ RunK B m w0 w' (stubS s x y z) := by
  obtain ⟨v, h1, h2, h3⟩ := r
  exact (kStub_any B m x y z v s w h1 h3 ok hx hy hz).mono (fun e w' hh => ⟨hh.1, RunK.left h1 h2 h3 hh.2⟩)
theorem RunK.unstub {B m : Nat} {w0 w : World} {s : Ks} (r : RunK B m w0 w s) (ok : OkK s) :
    Calls Try.prog 20 #[.pointer (some ⟨m, 0, none⟩)] w fun e w' => e = .returned (.tuple #[.int .u32 (unV s 0), .int .u32 (unV s 4), .int .u32 (unV s 8), .int .i64 (stubE s)]) ∧ RunK B m w0 w' (unstubS s) := by
  obtain ⟨v, h1, h2, h3⟩ := r
  exact (kUnstub_any B m v s w h1 ok).mono (fun e w' hh => ⟨hh.1, RunK.left h1 h2 h3 hh.2⟩)
theorem RunK.leave {B m : Nat} {w0 w : World} {s : Ks} (r : RunK B m w0 w s) (ok : OkK s) :
    Calls Try.prog 36 #[.pointer (some ⟨m, 0, none⟩)] w fun e w' => e = .returned (.int .i64 (leaveE s)) ∧ RunK B m w0 w' (leaveS s) := by
  obtain ⟨v, h1, h2, h3⟩ := r
  exact (kLeave_any B m v s w h1 ok).mono (fun e w' hh => ⟨hh.1, RunK.left h1 h2 h3 hh.2⟩)
theorem RunK.pop {B m : Nat} {w0 w : World} {s : Ks} (r : RunK B m w0 w s) (ok : OkK s) :
    Calls Try.prog 26 #[.pointer (some ⟨m, 0, none⟩)] w fun e w' => e = .returned (.tuple #[.int .u32 (peekV s 0), .int .i64 (peekE s 0)]) ∧ RunK B m w0 w' (popS s) := by
  obtain ⟨v, h1, h2, h3⟩ := r
  exact (kPop_any B m v s w h1 ok).mono (fun e w' hh => ⟨hh.1, RunK.left h1 h2 h3 hh.2⟩)
theorem KAt.sm {B : Nat} {w : World} {m : Nat} {a : Option Addr} {n c : Nat} {s : Ks} (h : KAt B w m (.slice a n c) s) (ok : OkK s) : s.on = true → ∃ g, a = some ⟨g, 0, none⟩ := fun hon => KC.isSome h (by have := (ok.bd hon).1; omega)
theorem RunK.peek {B m : Nat} {w0 w : World} {s : Ks} (r : RunK B m w0 w s) (ok : OkK s) (x : Nat) (hx : x < 4294967296) :
    Calls Try.prog 18 #[.pointer (some ⟨m, 0, none⟩), .int .u32 x] w fun e w' => e = .returned (.tuple #[.int .u32 (peekV s x), .int .i64 (peekE s x)]) ∧ RunK B m w0 w' s := by
  have r' := r
  obtain ⟨v, h1, h2, h3⟩ := r
  obtain ⟨a, c, rfl, kc⟩ := h1.kc'
  exact (kPeek_any m x a c s w kc (h1.sm ok) ok hx).mono (fun e w' hh => ⟨hh.1, r'.later hh.2.below⟩)
theorem RunK.count {B m : Nat} {w0 w : World} {s : Ks} (r : RunK B m w0 w s) (ok : OkK s) :
    Calls Try.prog 21 #[.pointer (some ⟨m, 0, none⟩)] w fun e w' => e = .returned (.int .i64 (countV s)) ∧ RunK B m w0 w' s := by
  have r' := r
  obtain ⟨v, h1, h2, h3⟩ := r
  obtain ⟨a, c, rfl, kc⟩ := h1.kc'
  exact (kCount_any m a c s w kc ok).mono (fun e w' hh => ⟨hh.1, r'.later hh.2.below⟩)
theorem RunK.top {B m : Nat} {w0 w : World} {s : Ks} (r : RunK B m w0 w s) (ok : OkK s) :
    Calls Try.prog 10 #[.pointer (some ⟨m, 0, none⟩)] w fun e w' => e = .returned (.int .u32 s.bs.length) ∧ w' = w := by
  obtain ⟨v, h1, h2, h3⟩ := r
  obtain ⟨a, c, rfl, kc⟩ := h1.kc'
  exact kTop_any m a c s w kc (by have := ok.sz; have := ok.most; omega)
theorem RunK.frame {B m : Nat} {w0 w : World} {s : Ks} (r : RunK B m w0 w s) (ok : OkK s) :
    Calls Try.prog 8 #[.pointer (some ⟨m, 0, none⟩)] w fun e w' => e = .returned (.tuple #[.int .u32 s.fr, .bool s.on]) ∧ w' = w := by
  obtain ⟨v, h1, h2, h3⟩ := r
  obtain ⟨a, c, rfl, kc⟩ := h1.kc'
  exact kFrame_any m a c s w kc ok
theorem RunK.new (B n : Nat) (w0 w : World) (h1 : 1 ≤ n) (h2 : n ≤ 65536) (hb : Below B w0 w) (hB : B ≤ w.heap.size) :
    Calls Try.prog 13 #[.int .i64 n] w fun e w' => e = .returned (.tuple #[.pointer (some ⟨w.heap.size, 0, none⟩), .int .i64 0]) ∧ RunK B w.heap.size w0 w' ⟨n, [], 0, false⟩ := by
  refine (knew_any n w h1 h2).mono ?_
  rintro e w' ⟨rfl, hk, hb2⟩
  exact ⟨rfl, _, ⟨Nat.le_trans hB hk.base, hk.box, own_base hk.row hB⟩, hb.trans (hb2.mono hB), Nat.le_trans hB hb2.size⟩
/-- a frame, by a format that lies in a block which is no part of the stack -/
theorem RunK.enter {B m : Nat} {w0 w : World} {s : Ks} (r : RunK B m w0 w s) (ok : OkK s) (fa : Option Addr) (n fc : Nat) (zs : List Int) (hr : Reads w fa n fc zs) (hz : OkB zs) (hn : n ≤ 100000) (hnt : ∀ x, fa = some x → x.block < B) :
    Calls Try.prog 15 #[.pointer (some ⟨m, 0, none⟩), .slice fa n fc] w fun e w' => e = .returned (.int .i64 (enterE s zs)) ∧ RunK B m w0 w' (enterS s zs) := by
  obtain ⟨v, h1, h2, h3⟩ := r
  exact (kEnter_any B m v s fa n fc zs w h1 h3 ok hr hz hn (fun x e hk => by have := (h1.low _ hk).1; have := hnt x e; omega)).mono (fun e w' hh => ⟨hh.1, RunK.left h1 h2 h3 hh.2⟩)
theorem RunK.enterNew {B m : Nat} {w0 w : World} {s : Ks} (r : RunK B m w0 w s) (ok : OkK s) (zs : List Int) (hz : OkB zs) (hn : zs.length ≤ 100000) :
    Calls Try.prog 15 #[.pointer (some ⟨m, 0, none⟩), .slice (some ⟨w.heap.size, 0, none⟩) zs.length zs.length] (w.alloc (.cells (bytesV zs).toArray 5)) fun e w' => e = .returned (.int .i64 (enterE s zs)) ∧ RunK B m w0 w' (enterS s zs) := by
  obtain ⟨v, h1, h2, h3⟩ := r
  have hb : Below w.heap.size w (w.alloc (.cells (bytesV zs).toArray 5)) := (Below.refl _ _).alloc (Nat.le_refl _) _
  have h1' := h1.later hb
  have ho := owns_new w 0 zs (Nat.zero_le _) (by unfold maxLen; omega)
  refine (kEnter_any B m v s _ _ _ zs _ h1' (Nat.le_trans h3 hb.size) ok (own_reads ho) hz hn (fun x e hk => ?_)).mono (fun e w' hh => ⟨hh.1, RunK.left h1' (h2.trans (hb.mono h3)) (Nat.le_trans h3 hb.size) hh.2⟩)
  cases e
  have := (h1.low _ hk).2
  simp at this
/-- the page's stack -/
def fmtE : List Int := [4, 2, 1, 3, 0, 0]
def livS : Nat → Ks
  | 0 => enterS ⟨256, [], 0, false⟩ fmtE
  | k + 1 => pushS (livS k) ((8 + k) % 10)
theorem okb_E : OkB fmtE := by
  intro c hc
  simp [fmtE] at hc
  omega
theorem livS_ok : ∀ k, OkK (livS k)
  | 0 => ok_enter (ok_new 256 (by omega)) okb_E
  | k + 1 => ok_push (livS_ok k) _
theorem loc_E : (locR fmtE) = (16, 12, 0) := by kernel_rfl
theorem ent_E : enterE ⟨256, [], 0, false⟩ fmtE = 0 := by kernel_rfl
theorem top_E : (livS 0).bs.length = 28 := by kernel_rfl
theorem liv_roll : rollE (livS 8) 5 = 0 := by kernel_rfl
def livR : Ks := rollS (livS 8) 5 1
theorem livR_ok : OkK livR := ok_roll (livS_ok 8) 5 1
theorem liv_p0 : peekV livR 0 = 4 ∧ peekE livR 0 = 0 := ⟨by kernel_rfl, by kernel_rfl⟩
theorem liv_p4 : peekV livR 4 = 5 ∧ peekE livR 4 = 0 := ⟨by kernel_rfl, by kernel_rfl⟩
def livT : Ks := stubS livR 1 2 3
theorem livT_ok : OkK livT := ok_stub livR_ok 1 2 3
theorem liv_st : stubUE livR = 0 := by kernel_rfl
theorem liv_un : unV livT 0 = 1 ∧ unV livT 4 = 2 ∧ unV livT 8 = 3 ∧ stubE livT = 0 := ⟨by kernel_rfl, by kernel_rfl, by kernel_rfl, by kernel_rfl⟩
def livU : Ks := unstubS livT
theorem livU_ok : OkK livU := ok_unstub livT_ok
theorem liv_top : livU.bs.length = 60 := by kernel_rfl
theorem liv_cnt : countV livU = 8 := by kernel_rfl
theorem live_any (w : World) : Calls Try.prog 5 #[] w fun e w' => e = .returned (.bool true) ∧ Below w.heap.size w w' := by
  have hFA : Below w.heap.size w (w.alloc (.cells (bytesV fmtE).toArray 5)) := (Below.refl _ _).alloc (Nat.le_refl _) _
  have HLO : Hid (Calls Try.prog 12 #[.slice (some ⟨w.heap.size, 0, none⟩) 6 6] (w.alloc (.cells #[.int .u8 4, .int .u8 2, .int .u8 1, .int .u8 3, .int .u8 0, .int .u8 0] 5)) fun e w' => e = .returned (.tuple #[.int .i64 16, .int .i64 12, .int .i64 0]) ∧ Below w.heap.size w w') := by
    have ho := owns_new w 0 fmtE (Nat.zero_le _) (by unfold maxLen; decide)
    have := kloc_any (some ⟨w.heap.size, 0, none⟩) 6 6 fmtE _ (own_reads ho) okb_E (by omega)
    rw [loc_E] at this
    exact this.mono (fun e w' hh => ⟨hh.1, hFA.trans (hh.2.mono hFA.size)⟩)
  have HNW : Hid (∀ w1, Below w.heap.size w w1 → Calls Try.prog 13 #[.int .i64 256] w1 fun e w' => e = .returned (.tuple #[.pointer (some ⟨w1.heap.size, 0, none⟩), .int .i64 0]) ∧ Hid (RunK w.heap.size w1.heap.size w w' ⟨256, [], 0, false⟩)) := fun w1 hb => RunK.new w.heap.size 256 w w1 (by omega) (by omega) hb hb.size
  have HEN : Hid (∀ w1 m, RunK w.heap.size m w w1 ⟨256, [], 0, false⟩ → Calls Try.prog 15 #[.pointer (some ⟨m, 0, none⟩), .slice (some ⟨w1.heap.size, 0, none⟩) 6 6] (w1.alloc (.cells #[.int .u8 4, .int .u8 2, .int .u8 1, .int .u8 3, .int .u8 0, .int .u8 0] 5)) fun e w' => e = .returned (.int .i64 0) ∧ Hid (RunK w.heap.size m w w' (livS 0))) := fun w1 m r => by
    have := RunK.enterNew r (ok_new 256 (by omega)) fmtE okb_E (by decide)
    rw [ent_E] at this
    exact this
  have HTP : Hid (∀ w1 m, RunK w.heap.size m w w1 (livS 0) → Calls Try.prog 10 #[.pointer (some ⟨m, 0, none⟩)] w1 fun e w' => e = .returned (.int .u32 28) ∧ w' = w1) := fun w1 m r => by
    have := RunK.top r (livS_ok 0)
    rw [top_E] at this
    exact this
  have HPU : Hid (∀ (w1 : World) (m k : Nat), k < 8 → RunK w.heap.size m w w1 (livS k) → Calls Try.prog 16 #[.pointer (some ⟨m, 0, none⟩), .int .u32 ((8 + k) % 10 : Nat)] w1 fun e w' => e = .returned (.int .i64 (pushE (livS k))) ∧ Hid (RunK w.heap.size m w w' (livS (k + 1)))) := fun w1 m k hk r => RunK.push r (livS_ok k) ((8 + k) % 10) (by omega)
  have HRO : Hid (∀ w1 m, RunK w.heap.size m w w1 (livS 8) → Calls Try.prog 17 #[.pointer (some ⟨m, 0, none⟩), .int .u32 5, .int .u32 1] w1 fun e w' => e = .returned (.int .i64 0) ∧ Hid (RunK w.heap.size m w w' livR)) := fun w1 m r => by
    have := RunK.roll r (livS_ok 8) 5 1 (by omega) (by omega)
    rw [liv_roll] at this
    exact this
  have HP0 : Hid (∀ w1 m, RunK w.heap.size m w w1 livR → Calls Try.prog 18 #[.pointer (some ⟨m, 0, none⟩), .int .u32 0] w1 fun e w' => e = .returned (.tuple #[.int .u32 4, .int .i64 0]) ∧ Hid (RunK w.heap.size m w w' livR)) := fun w1 m r => by
    have := RunK.peek r livR_ok 0 (by omega)
    rw [liv_p0.1, liv_p0.2] at this
    exact this
  have HP4 : Hid (∀ w1 m, RunK w.heap.size m w w1 livR → Calls Try.prog 18 #[.pointer (some ⟨m, 0, none⟩), .int .u32 4] w1 fun e w' => e = .returned (.tuple #[.int .u32 5, .int .i64 0]) ∧ Hid (RunK w.heap.size m w w' livR)) := fun w1 m r => by
    have := RunK.peek r livR_ok 4 (by omega)
    rw [liv_p4.1, liv_p4.2] at this
    exact this
  have HSU : Hid (∀ w1 m, RunK w.heap.size m w w1 livR → Calls Try.prog 19 #[.pointer (some ⟨m, 0, none⟩), .int .u32 1, .int .u32 2, .int .u32 3] w1 fun e w' => e = .returned (.int .i64 0) ∧ Hid (RunK w.heap.size m w w' livT)) := fun w1 m r => by
    have := RunK.stub r livR_ok 1 2 3 (by omega) (by omega) (by omega)
    rw [liv_st] at this
    exact this
  have HUN : Hid (∀ w1 m, RunK w.heap.size m w w1 livT → Calls Try.prog 20 #[.pointer (some ⟨m, 0, none⟩)] w1 fun e w' => e = .returned (.tuple #[.int .u32 1, .int .u32 2, .int .u32 3, .int .i64 0]) ∧ Hid (RunK w.heap.size m w w' livU)) := fun w1 m r => by
    have := RunK.unstub r livT_ok
    rw [liv_un.1, liv_un.2.1, liv_un.2.2.1, liv_un.2.2.2] at this
    exact this
  have HT2 : Hid (∀ w1 m, RunK w.heap.size m w w1 livU → Calls Try.prog 10 #[.pointer (some ⟨m, 0, none⟩)] w1 fun e w' => e = .returned (.int .u32 60) ∧ w' = w1) := fun w1 m r => by
    have := RunK.top r livU_ok
    rw [liv_top] at this
    exact this
  have HCT : Hid (∀ w1 m, RunK w.heap.size m w w1 livU → Calls Try.prog 21 #[.pointer (some ⟨m, 0, none⟩)] w1 fun e w' => e = .returned (.int .i64 8) ∧ Hid (RunK w.heap.size m w w' livU)) := fun w1 m r => by
    have := RunK.count r livU_ok
    rw [liv_cnt] at this
    exact this
  have HE : Hid (∀ w1 m, RunK w.heap.size m w w1 livU → Below w.heap.size w w1) := fun w1 m r => by
    obtain ⟨_, _, h, _⟩ := r
    exact h
  clear hFA
  go_enter Try.func5, Try.ntmps5
  go_wp2_with (first | (go_at_call 12; refine HLO.out.mono ?_; rintro e w1 ⟨rfl, hb1⟩) | (go_at_call 13; refine (HNW.out _ hb1).mono ?_; rintro e w2 ⟨rfl, r2⟩) | (go_at_call 14; refine (num10 _ _).mono ?_; rintro e w3 ⟨rfl, rfl⟩) | (go_at_call 15; refine (HEN.out _ _ r2.out).mono ?_; rintro e w4 ⟨rfl, r4⟩) | (go_at_call 10; refine (HTP.out _ _ r4.out).mono ?_; rintro e w5 ⟨rfl, rfl⟩))
  generalize w1.heap.size = m at *
  go_loopw [6] (fun i wr => ∃ k : Nat, k ≤ 8 ∧ i = .int .i64 k ∧ Hid (RunK w.heap.size m w wr (livS k))) (fun i _ => 8 - (intOf i).toNat)
  case atStart => exact ⟨0, by omega, rfl, r4⟩
  case round =>
    obtain ⟨k, hk, rfl, RK⟩ := hrel
    by_cases hlt : k < 8
    · have d1 : (k : Int) < 8 := by omega
      have hw1 : IntKind.i64.wrap (8 + (k : Int)) = 8 + (k : Int) := by rw [IntKind.wrap_i64]; omega
      have hm : (8 + (k : Int)).tmod 10 = ((8 + k) % 10 : Nat) := by rw [Int.tmod_eq_emod_of_nonneg (by omega)]; omega
      have hw2 : IntKind.i64.wrap (((8 + k) % 10 : Nat) : Int) = ((8 + k) % 10 : Nat) := by rw [IntKind.wrap_i64]; omega
      have hw3 : IntKind.u32.wrap (((8 + k) % 10 : Nat) : Int) = ((8 + k) % 10 : Nat) := by rw [IntKind.wrap_u32]; omega
      have HPK := hidden (HPU.out wr m k hlt RK.out)
      generalize (((8 + k) % 10 : Nat) : Int) = X at *
      generalize pushE (livS k) = E at *
      go_wp2_with (first | (go_at_call 16; refine HPK.out.mono ?_; rintro e w6 ⟨rfl, r6⟩))
      go_roundw
      case rel => exact ⟨k + 1, by omega, int_eq (by omega), r6⟩
      case measure => simp [intOf]; omega
    · obtain rfl : k = 8 := by omega
      go_wp2_with (first | (go_at_call 17; refine (HRO.out _ _ RK.out).mono ?_; rintro e w6 ⟨rfl, r6⟩) | (go_at_call_of 18 (Value.int IntKind.u32 0); refine (HP0.out _ _ r6.out).mono ?_; rintro e w7 ⟨rfl, r7⟩) | (go_at_call_of 18 (Value.int IntKind.u32 4); refine (HP4.out _ _ r7.out).mono ?_; rintro e w8 ⟨rfl, r8⟩) | (go_at_call 19; refine (HSU.out _ _ r8.out).mono ?_; rintro e w9 ⟨rfl, r9⟩) | (go_at_call 20; refine (HUN.out _ _ r9.out).mono ?_; rintro e w10 ⟨rfl, r10⟩) | (go_at_call 14; refine (num10 _ _).mono ?_; rintro e w3 ⟨rfl, rfl⟩) | (go_at_call 10; refine (HT2.out _ _ r10.out).mono ?_; rintro e w5 ⟨rfl, rfl⟩) | (go_at_call 21; refine (HCT.out _ _ r10.out).mono ?_; rintro e w11 ⟨rfl, r11⟩))
      go_ret
      exact ⟨rfl, HE.out _ _ r11.out⟩
end Go.Proofs.Ythhkennomnmjkaa
