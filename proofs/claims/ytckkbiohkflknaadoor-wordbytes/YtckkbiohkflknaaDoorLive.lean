/- Contracts of word.Decimal and of the law's live: the page's examples come out true wherever the table of powers of ten reads as its text lays it; at most new memory is made. -/
import Derived.Test.YtckkbiohkflknaaDoorBytes
import Derived.Test.YtckkbiohkflknaaDoorShelf
import Derived.Lib.AppendIntMem
import Derived.Lib.SmallJoins
import Derived.Laws.BytesArg
namespace Go.Proofs.YtckkbiohkflknaaDoor
open Go.RowKit
set_option maxHeartbeats 2000000

/-- the table of powers of ten reads as its text lays it -/
def TabOK (w : World) : Prop := Lib.TabIs Tryd.prog w "internal/strconv.uint64pow10" .u64 Lib.pow10Tab
theorem gTab : Tryd.prog.globalNamed "internal/strconv.uint64pow10" = some 0 := by kernel_rfl
theorem TabOK.below {w w' : World} {B : Nat} (h : TabOK w) (hb : Below B w w') (hB : w.heap.size ≤ B) : TabOK w' := Go.Joins.tab_stays gTab h hb hB

theorem dec_any (x : Int) (w : World) (ht : TabOK w) :
    Calls Tryd.prog 34 #[.int .u32 x] w fun e w' => e = .returned (.string ⟨(Lib.itoa (wrap32 x)).toArray⟩) ∧ Below w.heap.size w w' := by
  have hr := wrap32_range x
  go_enter Tryd.func34, Tryd.ntmps34
  go_wp2_with (go_at_call 38; refine (Tryd.strconv_FormatInt_10 _ (by omega) (by omega) _ ht).mono ?_; rintro e w' ⟨rfl, k, os, rfl⟩)
  go_ret
  exact ⟨rfl, Lib.below_grow _ _ (Nat.le_refl _) _ _⟩

theorem live_any (w : World) (ht : TabOK w) :
    Calls Tryd.prog 9 #[] w fun e w' => e = .returned (.bool true) ∧ Below w.heap.size w w' := by
  have v1 : divW 4294967289 2 = 4294967293 := by decide +kernel
  have v2 : modW 4294967289 2 = 4294967295 := by decide +kernel
  have v3 : upW 257 256 = 512 := by decide +kernel
  have v4 : sarW 2147483648 40 = 4294967295 := by decide +kernel
  have v5 : extW 511 1 = 4294967295 := by decide +kernel
  have hcv := run_convert_bytes_arg (P := Tryd.prog) ((w.alloc (.cells #[.int .u8 1, .int .u8 2, .int .u8 3, .int .u8 4] 5)).alloc (.cells #[.int .u8 0, .int .u8 0, .int .u8 1, .int .u8 2] 5)) 22 5 Tryd.underlying22 Tryd.underlying5 (w.heap.size + 1) 0 4 4 [0, 0, 1, 2] rfl (fun i hi => by
    match i, hi with
    | 0, _ => simp
    | 1, _ => simp
    | 2, _ => simp
    | 3, _ => simp) 9 Tryd.underlying9
  have hst : strOfNums [0, 0, 1, 2] = ⟨#[0, 0, 1, 2]⟩ := rfl
  have hit : (Lib.itoa (wrap32 4294967295)).toArray = #[45, 49] := by decide +kernel
  go_enter Tryd.func9, Tryd.ntmps9
  go_wp2_with fail
  refine (be_2 _ _ _ _ 2 3 _ _ (by omega) (by omega) (by omega) (by omega) (by simp) (by simp) (by omega) (by omega) (by omega) (by omega)).mono ?_
  rintro e w' ⟨rfl, rfl⟩
  go_wp2_with (first | (go_at_call 19; refine (div_any _ _ _ (by decide) (by omega) (by omega)).mono ?_; rintro e w' ⟨rfl, rfl⟩) | (go_at_call 20; refine (mod_any _ _ _ (by decide) (by omega) (by omega)).mono ?_; rintro e w' ⟨rfl, rfl⟩) | (go_at_call 33; refine (align_yes _ _ _ (by omega) (by omega) (by omega) (by omega) (by decide)).mono ?_; rintro e w' ⟨rfl, rfl⟩) | (go_at_call 14; refine (num_any _ _).mono ?_; rintro e w' ⟨rfl, rfl⟩) | (go_at_call 13; refine (put_4 _ _).mono ?_; rintro e w' ⟨rfl, rfl⟩) | (go_at_call 27; refine (sar_any _ _ _ (by omega) (by omega)).mono ?_; rintro e w' ⟨rfl, rfl⟩) | (go_at_call 29; refine (ext_any _ _ _).mono ?_; rintro e w' ⟨rfl, rfl⟩) | (go_at_call 34; refine (dec_any _ _ (ht.below (Go.Joins.below_alloc2 _ _ _) (Nat.le_refl _))).mono ?_; rintro e w' ⟨rfl, hb⟩))
  go_ret
  exact ⟨rfl, (Go.Joins.below_alloc2 _ _ _).trans (hb.mono (by simp; omega))⟩
end Go.Proofs.YtckkbiohkflknaaDoor
