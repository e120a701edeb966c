/- The page's example (grottolaw08.live). -/
import Derived.Test.YthdbaiddmelhgaaE8m
namespace Go.Proofs.Ythdbaiddmelhgaa
open Go.RowKit
set_option maxHeartbeats 1000000
set_option maxRecDepth 100000
set_option linter.unusedVariables false

def e0 : Hs := ⟨4096, 0, 0, []⟩
def e1 : Hs := ⟨4096, 1024, 1280, [⟨1024, 100⟩]⟩
def e2 : Hs := ⟨4096, 1024, 1536, [⟨1024, 100⟩, ⟨1124, 300⟩]⟩
def e3 : Hs := ⟨4096, 1024, 1536, [⟨1124, 300⟩]⟩
def e4 : Hs := ⟨4096, 1024, 1536, [⟨1024, 50⟩, ⟨1124, 300⟩]⟩
def e5 : Hs := ⟨4096, 1024, 1536, [⟨1024, 50⟩, ⟨1124, 300⟩, ⟨1424, 60⟩]⟩
theorem m1 : mallocR e0 100 1024 = some (1024, e1) := by rfl
theorem m2 : mallocR e1 300 0 = some (1124, e2) := by rfl
theorem f3 : freeS e2 1024 = e3 := by rfl
theorem m4 : mallocR e3 50 0 = some (1024, e4) := by rfl
theorem m5 : mallocR e4 60 0 = some (1424, e5) := by rfl
theorem m6 : mallocR e5 4000 0 = none := by rfl
theorem o0 : OkS e0 := ok_new (by decide)
theorem o1 : OkS e1 := ok_malloc_to o0 m1
theorem o2 : OkS e2 := ok_malloc_to o1 m2
theorem o3 : OkS e3 := by have := ok_free 1024 o2; rw [f3] at this; exact this
theorem o4 : OkS e4 := ok_malloc_to o3 m4
theorem o5 : OkS e5 := ok_malloc_to o4 m5
set_option maxHeartbeats 3000000 in
theorem live_any (w : World) : Calls Try.prog 5 #[] w fun e w' => e = .returned (.bool true) ∧ Below w.heap.size w w' := by
  generalize hB : w.heap.size = B
  have HN : Hid (Calls Try.prog 6 #[.int .u32 4096] w fun e w' => e = .returned (.pointer (some ⟨B, 0, none⟩)) ∧ Run B B w w' e0) := by
    have := Run.new 4096 w w B (Below.refl _ _) (by omega)
    rw [hB] at this
    exact this
  have HR : Hid (∀ w' s, Run B B w w' s → Below B w w') := fun w' s r => by obtain ⟨v, _, h, _⟩ := r; exact h
  have H1 : Hid (∀ w1, Run B B w w1 e0 → Calls Try.prog 14 #[.pointer (some ⟨B, 0, none⟩), .int .u32 100, .int .u32 1024] w1 fun e w' => e = .returned (.tuple #[.int .u32 1024, .bool true]) ∧ Run B B w w' e1) := fun w1 r => r.malloc (n := 100) (x := 1024) o0 (by decide) (by decide) m1
  have H2 : Hid (∀ w1, Run B B w w1 e1 → Calls Try.prog 14 #[.pointer (some ⟨B, 0, none⟩), .int .u32 300, .int .u32 0] w1 fun e w' => e = .returned (.tuple #[.int .u32 1124, .bool true]) ∧ Run B B w w' e2) := fun w1 r => r.malloc (n := 300) (x := 0) o1 (by decide) (by decide) m2
  have H3 : Hid (∀ w1, Run B B w w1 e2 → Calls Try.prog 15 #[.pointer (some ⟨B, 0, none⟩), .int .u32 1024] w1 fun e w' => e = .returned (.int .i64 0) ∧ Run B B w w' e3) := fun w1 r => r.free 1024 o2
  have H4 : Hid (∀ w1, Run B B w w1 e3 → Calls Try.prog 14 #[.pointer (some ⟨B, 0, none⟩), .int .u32 50, .int .u32 0] w1 fun e w' => e = .returned (.tuple #[.int .u32 1024, .bool true]) ∧ Run B B w w' e4) := fun w1 r => r.malloc (n := 50) (x := 0) o3 (by decide) (by decide) m4
  have H5 : Hid (∀ w1, Run B B w w1 e4 → Calls Try.prog 14 #[.pointer (some ⟨B, 0, none⟩), .int .u32 60, .int .u32 0] w1 fun e w' => e = .returned (.tuple #[.int .u32 1424, .bool true]) ∧ Run B B w w' e5) := fun w1 r => r.malloc (n := 60) (x := 0) o4 (by decide) (by decide) m5
  have H6 : Hid (∀ w1, Run B B w w1 e5 → Calls Try.prog 14 #[.pointer (some ⟨B, 0, none⟩), .int .u32 4000, .int .u32 0] w1 fun e w' => e = .returned (.tuple #[.int .u32 0, .bool false]) ∧ Run B B w w' e5) := fun w1 r => r.refuse (n := 4000) (x := 0) o5 (by decide) (by decide) m6
  have H7 : Hid (∀ w1, Run B B w w1 e5 → Calls Try.prog 12 #[.pointer (some ⟨B, 0, none⟩)] w1 fun e w' => e = .returned (.int .u32 1536) ∧ w' = w1) := fun w1 r => r.end
  have H8 : Hid (∀ w1, Run B B w w1 e5 → Calls Try.prog 11 #[.pointer (some ⟨B, 0, none⟩)] w1 fun e w' => e = .returned (.int .u32 1024) ∧ w' = w1) := fun w1 r => r.start
  have H9 : Hid (∀ w1, Run B B w w1 e5 → Calls Try.prog 15 #[.pointer (some ⟨B, 0, none⟩), .int .u32 7] w1 fun e w' => e = .returned (.int .i64 5) ∧ Run B B w w' e5) := fun w1 r => r.free 7 o5
  go_enter Try.func5, Try.ntmps5
  go_wp2_with (first | (go_at_call 6; refine HN.out.mono ?_; rintro e w1 ⟨rfl, r1⟩)  | (go_at_call_of 14 (Value.int .u32 100); refine (H1.out _ r1).mono ?_; rintro e w2 ⟨rfl, r2⟩)  | (go_at_call_of 14 (Value.int .u32 300); refine (H2.out _ r2).mono ?_; rintro e w3 ⟨rfl, r3⟩)  | (go_at_call_of 15 (Value.int .u32 1024); refine (H3.out _ r3).mono ?_; rintro e w4 ⟨rfl, r4⟩)  | (go_at_call_of 14 (Value.int .u32 50); refine (H4.out _ r4).mono ?_; rintro e w5 ⟨rfl, r5⟩)  | (go_at_call_of 14 (Value.int .u32 60); refine (H5.out _ r5).mono ?_; rintro e w6 ⟨rfl, r6⟩)  | (go_at_call_of 14 (Value.int .u32 4000); refine (H6.out _ r6).mono ?_; rintro e w7 ⟨rfl, r7⟩)  | (go_at_call 12; refine (H7.out _ r7).mono ?_; rintro e w8 ⟨rfl, rfl⟩)  | (go_at_call 11; refine (H8.out _ r7).mono ?_; rintro e w8 ⟨rfl, rfl⟩)  | (go_at_call_of 15 (Value.int .u32 7); refine (H9.out _ r7).mono ?_; rintro e w9 ⟨rfl, r9⟩)  | (go_at_call 16; refine (num8 _ _).mono ?_; rintro e w8 ⟨rfl, rfl⟩))
  go_ret
  exact ⟨rfl, HR.out _ _ r9⟩
end Go.Proofs.Ythdbaiddmelhgaa
