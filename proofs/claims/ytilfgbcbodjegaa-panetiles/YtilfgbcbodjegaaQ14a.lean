/- Layer 14, the program: the page's example, call by call. -/
import Derived.Test.YtilfgbcbodjegaaP14z
namespace Go.Proofs.Ytilfgbcbodjegaa
open Go.RowKit
set_option maxHeartbeats 1000000
set_option maxRecDepth 100000
set_option linter.unusedVariables false

/-- the tree of the example lies here, and nothing below B is changed -/
def LvAt (B : Nat) (w w' : World) (s : Ps) : Prop := Below B w w' ∧ ∃ v, PAt B w' B v s
theorem LvAt.later {B : Nat} {w w1 w2 : World} {s : Ps} (h : LvAt B w w1 s) (hb : Below w1.heap.size w1 w2) : LvAt B w w2 s := by
  obtain ⟨h1, v, h2⟩ := h
  exact ⟨h1.trans (hb.mono (Nat.le_trans (Nat.le_of_lt (Nat.lt_of_le_of_lt (Nat.le_refl _) h2.lt)) (Nat.le_refl _))), v, h2.later hb⟩
theorem LvAt.fm {B : Nat} {w w1 w2 : World} {v v' : Value} {s s' : Ps} (hb : Below B w w1) (h : PAt B w1 B v s) (h' : PAt B w2 B v' s') (f : Fm w1 w2 (TP B v) (TP B v')) : LvAt B w w2 s' :=
  ⟨hb.trans (f.below (Nat.le_of_lt h.lt) (fun k e => (h.low k e).1)), v', h'⟩
theorem lv_new (w : World) : Calls Try.prog 33 #[.int .i64 80, .int .i64 24] w fun e w' => e = .returned (.tuple #[.pointer (some ⟨w.heap.size, 0, none⟩), .int .i64 0]) ∧ Hid (LvAt w.heap.size w w' e0) :=
  (new_good 80 24 w (by decide)).mono (fun e w' hh => ⟨hh.1, hidden ⟨hh.2.2, _, hh.2.1⟩⟩)
theorem lv_open1 {B : Nat} {w w1 : World} (h : LvAt B w w1 e0) : Calls Try.prog 19 #[.pointer (some ⟨B, 0, none⟩), .int .i64 0, .int .i64 0, .int .u32 0, .int .i64 2] w1 fun e w' => e = .returned (.tuple #[.int .i64 1, .int .i64 0]) ∧ Hid (LvAt B w w' e1) := by
  obtain ⟨hb, v, hp⟩ := h
  refine (open_root hp ok0 (Nat.le_of_lt hp.lt) 0 0 2 (by omega) (by omega) may1).mono ?_
  rintro e w' ⟨rfl, v', h2, f⟩
  rw [open1] at h2
  exact ⟨rfl, hidden (LvAt.fm hb hp h2 f)⟩
theorem lv_open2 {B : Nat} {w w1 : World} (h : LvAt B w w1 e1) : Calls Try.prog 19 #[.pointer (some ⟨B, 0, none⟩), .int .i64 1, .int .i64 18, .int .u32 3, .int .i64 3] w1 fun e w' => e = .returned (.tuple #[.int .i64 2, .int .i64 0]) ∧ Hid (LvAt B w w' e2) := by
  obtain ⟨hb, v, hp⟩ := h
  refine (open_split hp ok1 par1 (Nat.le_of_lt hp.lt) (by decide) 1 18 3 3 (by omega) (by omega) (by omega) may2).mono ?_
  rintro e w' ⟨rfl, v', h2, f⟩
  rw [open2] at h2
  exact ⟨rfl, hidden (LvAt.fm hb hp h2 f)⟩
theorem lv_open3 {B : Nat} {w w1 : World} (h : LvAt B w w1 e2) : Calls Try.prog 19 #[.pointer (some ⟨B, 0, none⟩), .int .i64 1, .int .i64 33, .int .u32 25, .int .i64 2] w1 fun e w' => e = .returned (.tuple #[.int .i64 4, .int .i64 0]) ∧ Hid (LvAt B w w' e3) := by
  obtain ⟨hb, v, hp⟩ := h
  refine (open_split hp ok2 par2 (Nat.le_of_lt hp.lt) (by decide) 1 33 25 2 (by omega) (by omega) (by omega) may3).mono ?_
  rintro e w' ⟨rfl, v', h2, f⟩
  rw [open3] at h2
  exact ⟨rfl, hidden (LvAt.fm hb hp h2 f)⟩
theorem lv_rect4 {B : Nat} {w w1 : World} (h : LvAt B w w1 e3) : Calls Try.prog 14 #[.pointer (some ⟨B, 0, none⟩), .int .i64 4] w1 fun e w' => e = .returned (.tuple #[.agg #[.int .i64 60, .int .i64 3, .int .i64 20, .int .i64 21], .bool true]) ∧ Hid (LvAt B w w' e3) := by
  obtain ⟨hb, v, hp⟩ := h
  refine (rect_any hp ok3.toOkP (by decide) 3 4 (by simp [hasW, e3]) up4).mono ?_
  rintro e w' ⟨rfl, h2⟩
  rw [rct4]
  exact ⟨rfl, hidden (LvAt.later ⟨hb, v, hp⟩ h2)⟩
theorem lv_rect1 {B : Nat} {w w1 : World} (h : LvAt B w w1 e4) : Calls Try.prog 14 #[.pointer (some ⟨B, 0, none⟩), .int .i64 1] w1 fun e w' => e = .returned (.tuple #[.agg #[.int .i64 0, .int .i64 0, .int .i64 60, .int .i64 24], .bool true]) ∧ Hid (Below w1.heap.size w1 w') ∧ Hid (LvAt B w w' e4) := by
  obtain ⟨hb, v, hp⟩ := h
  refine (rect_any hp ok4.toOkP (by decide) 3 1 (by simp [hasW, e4]) up1).mono ?_
  rintro e w' ⟨rfl, h2⟩
  rw [rct1]
  exact ⟨rfl, hidden h2, hidden (LvAt.later ⟨hb, v, hp⟩ h2)⟩
theorem lv_close {B : Nat} {w w1 : World} (h : LvAt B w w1 e3) : Calls Try.prog 23 #[.pointer (some ⟨B, 0, none⟩), .int .i64 2] w1 fun e w' => ∃ gg cc, e = .returned (.tuple #[.slice (some ⟨gg, 0, none⟩) 2 cc, .int .i64 0]) ∧ Hid (w'.ownsRow 0 3 1 (.slice (some ⟨gg, 0, none⟩) 2 cc) 2 (intsV [2, 3])) ∧ Hid (LvAt B w w' e4) := by
  obtain ⟨hb, v, hp⟩ := h
  refine (close_kid hp ok3.toOkP (Nat.le_of_lt hp.lt) 2 (by simp [hasW, e3]) 3 ends3 (by decide) (by rw [sib2]; simp [hasW, e3]) (fun q => absurd rfl q)).mono ?_
  rintro e w' ⟨gg, cc, rfl, H⟩
  obtain ⟨hr, v', h2, f⟩ := H.out
  rw [gone2] at hr h2
  have ep : (ofW e3.L 2).p = 3 := rfl
  rw [ep] at hr h2
  have es : sortI ([2] ++ [3]) = [2, 3] := sort23
  rw [es] at hr h2
  rw [sib2, close2] at h2
  refine ⟨gg, cc, by rw [gone2]; rfl, hidden (own_base hr (Nat.zero_le _)), hidden (LvAt.fm hb hp h2 f)⟩
end Go.Proofs.Ytilfgbcbodjegaa
