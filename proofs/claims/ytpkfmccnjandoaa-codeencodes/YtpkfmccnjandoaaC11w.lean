/- Contracts of package code's opBytes, valueBytes, modeBytes. -/
import Derived.Test.YtpkfmccnjandoaaC11t
namespace Go.Proofs.Ytpkfmccnjandoaa
open Go.RowKit
set_option maxHeartbeats 1000000
set_option maxRecDepth 100000
set_option linter.unusedVariables false

/-- the bytes of an operand's Value; of a number; of the modes -/
def valB (p : Od) : List Int := putL p.2 (widI p.1)
def opB (op : Int) : List Int := if op < 128 then putL op 1 else putL (op + 32768) 2
def mdAt (l : List Od) (j : Nat) : Int := (l.getD (2 * j) (0, 0)).1 + 16 * (l.getD (2 * j + 1) (0, 0)).1
def mdB (l : List Od) : List Int := (List.range ((l.length + 1) / 2)).map (mdAt l)
/-- a row of the call's own, or none -/
def OwnB (w : World) (B : Nat) (v : Value) (n : Nat) (zs : List Int) : Prop := ∃ a c, v = .slice a n c ∧ w.ownsRow B 5 1 (.slice a n c) n (bytesV zs) ∧ zs.length = n
theorem valB_len (p : Od) : (valB p).length = widN p.1 := by
  unfold valB
  have := wid_cases p.1
  have e := widI_nat p.1
  rcases this with h | h | h | h
  · rw [h]; rw [h] at e; simp [putL]; omega
  · rw [h]; rw [h] at e; simp [putL]; omega
  · rw [h]; rw [h] at e; simp [putL]; omega
  · rw [h]; rw [h] at e; simp [putL]; omega
theorem valB_ok (p : Od) : OkB (valB p) := putL_bd _ _
theorem kput_w (x n : Int) (w : World) (hn : n = 0 ∨ n = 1 ∨ n = 2 ∨ n = 4) :
    Calls Try.prog 53 #[.int .u32 x, .int .i64 n] w fun e w' => ∃ a c, e = .returned (.slice a n.toNat c) ∧ w'.ownsRow w.heap.size 5 1 (.slice a n.toNat c) n.toNat (bytesV (putL x n)) ∧ Below w.heap.size w w' := by
  rcases hn with rfl | rfl | rfl | rfl
  · refine (put_bad x 0 w rfl rfl rfl).mono ?_
    rintro e w' ⟨rfl, rfl⟩
    exact ⟨none, 0, rfl, World.ownsRow_nil _ _ _ _, Below.refl _ _⟩
  · refine (put_1 x w).mono ?_
    rintro e w' ⟨rfl, rfl⟩
    exact ⟨_, _, rfl, owns_new w w.heap.size (putL x 1) (Nat.le_refl _) (by simp [putL, maxLen]), (Below.refl _ _).alloc (Nat.le_refl _) _⟩
  · refine (put_2 x w).mono ?_
    rintro e w' ⟨rfl, rfl⟩
    exact ⟨_, _, rfl, owns_new w w.heap.size (putL x 2) (Nat.le_refl _) (by simp [putL, maxLen]), (Below.refl _ _).alloc (Nat.le_refl _) _⟩
  · refine (put_4 x w).mono ?_
    rintro e w' ⟨rfl, rfl⟩
    exact ⟨_, _, rfl, owns_new w w.heap.size (putL x 4) (Nat.le_refl _) (by simp [putL, maxLen]), (Below.refl _ _).alloc (Nat.le_refl _) _⟩
theorem kopb_any (op : Int) (w : World) (h : 0 ≤ op ∧ op ≤ 16383) :
    Calls Try.prog 37 #[.int .u32 op] w fun e w' => ∃ a c, e = .returned (.slice a (opB op).length c) ∧ w'.ownsRow w.heap.size 5 1 (.slice a (opB op).length c) (opB op).length (bytesV (opB op)) ∧ Below w.heap.size w w' := by
  unfold opB
  by_cases h1 : op < 128
  · rw [if_pos h1]
    have HP := hidden (kput_w op 1 w (by omega))
    have e : (putL op 1).length = (1 : Int).toNat := rfl
    rw [e]
    go_enter Try.func37, Try.ntmps37
    go_wp2_with (first | (go_at_call 53; refine HP.out.mono ?_; rintro e w1 ⟨a, c, rfl, ho, hb⟩))
    go_ret
    exact ⟨a, c, rfl, ho, hb⟩
  · rw [if_neg h1]
    have HP := hidden (kput_w (op + 32768) 2 w (by omega))
    have e : (putL (op + 32768) 2).length = (2 : Int).toNat := rfl
    have hw : IntKind.u32.wrap (op + 32768) = op + 32768 := by rw [IntKind.wrap_u32]; omega
    rw [e]
    go_enter Try.func37, Try.ntmps37
    go_wp2_with (first | (go_at_call 53; refine HP.out.mono ?_; rintro e w1 ⟨a, c, rfl, ho, hb⟩))
    go_ret
    exact ⟨a, c, rfl, ho, hb⟩
theorem kvalb_any (m v : Int) (w : World) :
    Calls Try.prog 36 #[.agg #[.int .i64 m, .int .u32 v]] w fun e w' => ∃ a c, e = .returned (.slice a (widN m) c) ∧ w'.ownsRow w.heap.size 5 1 (.slice a (widN m) c) (widN m) (bytesV (valB (m, v))) ∧ Below w.heap.size w w' := by
  have HW := hidden fun wx => kwidth_any m wx
  have HP : Hid (∀ wx, Calls Try.prog 53 #[.int .u32 v, .int .i64 (widI m)] wx fun e w' => ∃ a c, e = .returned (.slice a (widN m) c) ∧ w'.ownsRow wx.heap.size 5 1 (.slice a (widN m) c) (widN m) (bytesV (valB (m, v))) ∧ Below wx.heap.size wx w') := fun wx => kput_w v (widI m) wx (wid_cases m)
  generalize bytesV (valB (m, v)) = BV at *
  generalize widI m = WI at *
  generalize widN m = WN at *
  generalize okM m = OK at *
  go_enter Try.func36, Try.ntmps36
  go_wp2_with (first | (go_at_call 49; refine (HW.out _).mono ?_; rintro e w1 ⟨rfl, hw⟩; obtain rfl := hw.symm) | (go_at_call 53; refine (HP.out _).mono ?_; rintro e w2 ⟨a, c, rfl, ho, hb⟩))
  go_ret
  exact ⟨a, c, rfl, own_base ho (by rw [World.size_alloc]; omega), ((Below.refl _ _).alloc (Nat.le_refl _) _).trans (hb.mono (by rw [World.size_alloc]; omega))⟩
end Go.Proofs.Ytpkfmccnjandoaa
