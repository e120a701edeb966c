/- Contracts of word.Be and word.Put: which word the bytes at a place say, and which bytes a word is, for every place and number of bytes. -/
import Derived.Test.YtpgppdkbkkljnaaWords
import Derived.Handy
namespace Go.Proofs.Ytpgppdkbkkljnaa
open Go.RowKit
set_option maxHeartbeats 1000000

theorem be_bad (v : Value) (at_ n : Int) (w : World) (h1 : (n == 1) = false) (h2 : (n == 2) = false) (h4 : (n == 4) = false) :
    Calls Try.prog 32 #[v, .int .i64 at_, .int .i64 n] w fun e w' => e = .returned (.tuple #[.int .u32 0, .int .i64 1]) ∧ w' = w := by
  go_enter Try.func32, Try.ntmps32
  go_wp2_with (go_at_call 46; refine (isWidth_no _ _ h1 h2 h4).mono ?_; rintro e w' ⟨rfl, rfl⟩)
  go_ret2
  exact ⟨rfl, rfl⟩
theorem be_neg (v : Value) (at_ n : Int) (w : World) (hn : n = 1 ∨ n = 2 ∨ n = 4) (h : at_ < 0) :
    Calls Try.prog 32 #[v, .int .i64 at_, .int .i64 n] w fun e w' => e = .returned (.tuple #[.int .u32 0, .int .i64 1]) ∧ w' = w := by
  go_enter Try.func32, Try.ntmps32
  go_wp2_with (go_at_call 46; refine (isWidth_yes _ _ hn).mono ?_; rintro e w' ⟨rfl, rfl⟩)
  go_ret2
  exact ⟨rfl, rfl⟩
theorem be_short (ad : Option Addr) (len cap : Nat) (at_ n : Int) (w : World) (hn : n = 1 ∨ n = 2 ∨ n = 4) (h : 0 ≤ at_) (ha : at_ ≤ 9223372036854775807) (hl : (len : Int) ≤ 9223372036854775807) (hs : (len : Int) < at_ + n) :
    Calls Try.prog 32 #[.slice ad len cap, .int .i64 at_, .int .i64 n] w fun e w' => e = .returned (.tuple #[.int .u32 0, .int .i64 2]) ∧ w' = w := by
  have hs2 : (len : Int) - at_ < n := by omega
  have hn1 : 1 ≤ n := by omega
  have hn2 : n ≤ 4 := by omega
  go_enter Try.func32, Try.ntmps32
  go_wp2_with (go_at_call 46; refine (isWidth_yes _ _ hn).mono ?_; rintro e w' ⟨rfl, rfl⟩)
  go_ret2
  exact ⟨rfl, rfl⟩
theorem be_1 (blk off len cap : Nat) (x0 : Int) (at_ : Int) (w : World) (h0 : 0 ≤ at_) (h1 : at_ + 1 ≤ (len : Int)) (hl : (len : Int) ≤ 9223372036854775807) (hcap : len ≤ cap)
   (c0 : w.cell? ⟨blk, off + at_.toNat, none⟩ = some (.int .u8 x0)) (b0 : 0 ≤ x0) (d0 : x0 ≤ 255) :
    Calls Try.prog 32 #[.slice (some ⟨blk, off, none⟩) len cap, .int .i64 at_, .int .i64 1] w fun e w' => e = .returned (.tuple #[.int .u32 (x0), .int .i64 0]) ∧ w' = w := by
  have e1 : (at_ + 1).toNat - at_.toNat = 1 := by omega
  go_enter Try.func32, Try.ntmps32
  go_wp2_with (go_at_call 46; refine (isWidth_yes _ _ (by omega)).mono ?_; rintro e w' ⟨rfl, rfl⟩)
  go_rounds 2
  go_ret2
  refine ⟨ret_two ?_, rfl⟩
  show bits .or .u32 0 x0 = _
  rw [ or0 _ b0 d0]
theorem be_2 (blk off len cap : Nat) (x0 x1 : Int) (at_ : Int) (w : World) (h0 : 0 ≤ at_) (h1 : at_ + 2 ≤ (len : Int)) (hl : (len : Int) ≤ 9223372036854775807) (hcap : len ≤ cap)
   (c0 : w.cell? ⟨blk, off + at_.toNat, none⟩ = some (.int .u8 x0)) (c1 : w.cell? ⟨blk, off + at_.toNat + 1, none⟩ = some (.int .u8 x1)) (b0 : 0 ≤ x0) (d0 : x0 ≤ 255) (b1 : 0 ≤ x1) (d1 : x1 ≤ 255) :
    Calls Try.prog 32 #[.slice (some ⟨blk, off, none⟩) len cap, .int .i64 at_, .int .i64 2] w fun e w' => e = .returned (.tuple #[.int .u32 (256 * x0 + x1), .int .i64 0]) ∧ w' = w := by
  have e1 : (at_ + 2).toNat - at_.toNat = 2 := by omega
  go_enter Try.func32, Try.ntmps32
  go_wp2_with (go_at_call 46; refine (isWidth_yes _ _ (by omega)).mono ?_; rintro e w' ⟨rfl, rfl⟩)
  go_rounds 3
  go_ret2
  refine ⟨ret_two ?_, rfl⟩
  show bits .or .u32 (bits .or .u32 0 x0 * 256 % 4294967296) x1 = _
  rw [ or8 _ _ b1 d1, or0 _ b0 d0]
  omega
theorem be_4 (blk off len cap : Nat) (x0 x1 x2 x3 : Int) (at_ : Int) (w : World) (h0 : 0 ≤ at_) (h1 : at_ + 4 ≤ (len : Int)) (hl : (len : Int) ≤ 9223372036854775807) (hcap : len ≤ cap)
   (c0 : w.cell? ⟨blk, off + at_.toNat, none⟩ = some (.int .u8 x0)) (c1 : w.cell? ⟨blk, off + at_.toNat + 1, none⟩ = some (.int .u8 x1)) (c2 : w.cell? ⟨blk, off + at_.toNat + 2, none⟩ = some (.int .u8 x2)) (c3 : w.cell? ⟨blk, off + at_.toNat + 3, none⟩ = some (.int .u8 x3)) (b0 : 0 ≤ x0) (d0 : x0 ≤ 255) (b1 : 0 ≤ x1) (d1 : x1 ≤ 255) (b2 : 0 ≤ x2) (d2 : x2 ≤ 255) (b3 : 0 ≤ x3) (d3 : x3 ≤ 255) :
    Calls Try.prog 32 #[.slice (some ⟨blk, off, none⟩) len cap, .int .i64 at_, .int .i64 4] w fun e w' => e = .returned (.tuple #[.int .u32 (16777216 * x0 + 65536 * x1 + 256 * x2 + x3), .int .i64 0]) ∧ w' = w := by
  have e1 : (at_ + 4).toNat - at_.toNat = 4 := by omega
  go_enter Try.func32, Try.ntmps32
  go_wp2_with (go_at_call 46; refine (isWidth_yes _ _ (by omega)).mono ?_; rintro e w' ⟨rfl, rfl⟩)
  go_rounds 5
  go_ret2
  refine ⟨ret_two ?_, rfl⟩
  show bits .or .u32 (bits .or .u32 (bits .or .u32 (bits .or .u32 0 x0 * 256 % 4294967296) x1 * 256 % 4294967296) x2 * 256 % 4294967296) x3 = _
  rw [ or8 _ _ b3 d3, or8 _ _ b2 d2, or8 _ _ b1 d1, or0 _ b0 d0]
  omega
theorem put_bad (x n : Int) (w : World) (h1 : (n == 1) = false) (h2 : (n == 2) = false) (h4 : (n == 4) = false) :
    Calls Try.prog 30 #[.int .u32 x, .int .i64 n] w fun e w' => e = .returned (.slice none 0 0) ∧ w' = w := by
  go_enter Try.func30, Try.ntmps30
  go_wp2_with (go_at_call 46; refine (isWidth_no _ _ h1 h2 h4).mono ?_; rintro e w' ⟨rfl, rfl⟩)
  go_ret
  exact ⟨rfl, rfl⟩
theorem put_1 (x : Int) (w : World) :
    Calls Try.prog 30 #[.int .u32 x, .int .i64 1] w fun e w' => e = .returned (.slice (some ⟨w.heap.size, 0, none⟩) 1 1) ∧ w' = w.alloc (.cells #[.int .u8 (x % 256)] 5) := by
  have hmk : ∀ w, (Instr.makeSlice 50 (.int .i64 1) (.int .i64 1)).run Try.prog w = .ok (.slice (some ⟨w.heap.size, 0, none⟩) 1 1) (w.alloc (.cells #[.int .u8 0] 5)) := fun _ => by kernel_rfl
  go_enter Try.func30, Try.ntmps30
  go_wp2_with (go_at_call 46; refine (isWidth_yes _ _ (by omega)).mono ?_; rintro e w' ⟨rfl, rfl⟩)
  go_rounds 2
  go_ret
  exact ⟨rfl, rfl⟩
theorem put_2 (x : Int) (w : World) :
    Calls Try.prog 30 #[.int .u32 x, .int .i64 2] w fun e w' => e = .returned (.slice (some ⟨w.heap.size, 0, none⟩) 2 2) ∧ w' = w.alloc (.cells #[.int .u8 (x / 256 % 256), .int .u8 (x % 256)] 5) := by
  have hmk : ∀ w, (Instr.makeSlice 50 (.int .i64 2) (.int .i64 2)).run Try.prog w = .ok (.slice (some ⟨w.heap.size, 0, none⟩) 2 2) (w.alloc (.cells #[.int .u8 0, .int .u8 0] 5)) := fun _ => by kernel_rfl
  go_enter Try.func30, Try.ntmps30
  go_wp2_with (go_at_call 46; refine (isWidth_yes _ _ (by omega)).mono ?_; rintro e w' ⟨rfl, rfl⟩)
  go_rounds 3
  go_ret
  exact ⟨rfl, rfl⟩
theorem put_4 (x : Int) (w : World) :
    Calls Try.prog 30 #[.int .u32 x, .int .i64 4] w fun e w' => e = .returned (.slice (some ⟨w.heap.size, 0, none⟩) 4 4) ∧ w' = w.alloc (.cells #[.int .u8 (x / 16777216 % 256), .int .u8 (x / 65536 % 256), .int .u8 (x / 256 % 256), .int .u8 (x % 256)] 5) := by
  have hmk : ∀ w, (Instr.makeSlice 50 (.int .i64 4) (.int .i64 4)).run Try.prog w = .ok (.slice (some ⟨w.heap.size, 0, none⟩) 4 4) (w.alloc (.cells #[.int .u8 0, .int .u8 0, .int .u8 0, .int .u8 0] 5)) := fun _ => by kernel_rfl
  have e2 : x / 256 / 256 = x / 65536 := by omega
  have e3 : x / 65536 / 256 = x / 16777216 := by omega
  go_enter Try.func30, Try.ntmps30
  go_wp2_with (go_at_call 46; refine (isWidth_yes _ _ (by omega)).mono ?_; rintro e w' ⟨rfl, rfl⟩)
  go_rounds 5
  go_ret
  exact ⟨rfl, rfl⟩
end Go.Proofs.Ytpgppdkbkkljnaa
