/- The walk of HeapNil. -/
import Derived.Test.YtfkplfaikicidaaE8o
namespace Go.Proofs.Ytfkplfaikicidaa
open Go.RowKit
set_option maxHeartbeats 1000000
set_option maxRecDepth 100000
set_option linter.unusedVariables false

theorem heapNil_walk (n : Int) (ao : Option Addr) (len cap : Nat) (bs : List Bk) (w : World) (hn : (Lit.int .u32 n).wf = true) (hb : IsBks w ao len cap bs) :
    Calls Try.prog 8 #[.int .u32 n, .slice ao len cap] w fun e w' => e = .returned (.bool true) ∧ Below w.heap.size w w' := by
  have b0 := bounds_u32 hn
  obtain ⟨z, rfl⟩ := Int.eq_ofNat_of_zero_le b0.1
  clear hn
  have HL : Hid (∀ w1, Below w.heap.size w w1 → Calls Try.prog 10 #[] w1 fun e w' => e = .returned (.bool true) ∧ Below w.heap.size w w') := fun w1 hb1 => (live_any w1).mono (fun e w' hh => ⟨hh.1, hb1.trans (hh.2.mono hb1.size)⟩)
  have HB := hidden hb
  clear hb
  have hb0 := Below.refl w.heap.size w
  by_cases hl : 9000 < len
  · have c1 : (9000 : Int) < (len : Int) := by omega
    go_enter Try.func8, Try.ntmps8
    go_wp2_with (go_at_call 10; refine (HL.out _ hb0).mono ?_; rintro e w1 ⟨rfl, hb1⟩)
    go_ret
    exact ⟨rfl, hb1⟩
  · have c1 : ¬ (9000 : Int) < (len : Int) := by omega
    go_enter Try.func8, Try.ntmps8
    go_wp2_with (first | (go_at_call 12; refine (mallocN_any z z _).mono ?_; rintro e w1 ⟨rfl, rfl⟩) | (go_at_call 13; refine (freeN_any z _).mono ?_; rintro e w2 ⟨rfl, hb2⟩) | (go_at_call 14; refine (loadN_any z z _ _).mono ?_; rintro e w3 ⟨rfl, rfl⟩) | (go_at_call 18; refine (activeN_any _).mono ?_; rintro e w3 ⟨rfl, rfl⟩) | (go_at_call 16; refine (startN_any _).mono ?_; rintro e w3 ⟨rfl, rfl⟩) | (go_at_call 17; refine (endN_any _).mono ?_; rintro e w3 ⟨rfl, rfl⟩) | (go_at_call 15; refine (blocksN_any _).mono ?_; rintro e w3 ⟨rfl, rfl⟩) | (go_at_call 21; refine (copyN_any _).mono ?_; rintro e w3 ⟨rfl, rfl⟩) | (go_at_call 19; refine (num8 _ _).mono ?_; rintro e w3 ⟨rfl, rfl⟩) | (go_at_call 10; refine (HL.out _ hb2).mono ?_; rintro e w4 ⟨rfl, hb4⟩))
    go_ret
    exact ⟨rfl, hb4⟩
end Go.Proofs.Ytfkplfaikicidaa
