/- The walk of StackNil. -/
import Derived.Test.YthhnloabbmllhaaS10r
namespace Go.Proofs.Ythhnloabbmllhaa
open Go.RowKit
set_option maxHeartbeats 1000000
set_option maxRecDepth 100000
set_option linter.unusedVariables false

set_option maxHeartbeats 4000000 in
theorem stackNil_main (x n : Int) (a : Option Addr) (len cap : Nat) (w : World) (hx : 0 ≤ x ∧ x ≤ 4294967295) (hl : len ≤ 8192) :
    Calls Try.prog 6 #[.int .u32 x, .int .i64 n, .slice a len cap] w fun e w' => e = .returned (.bool true) ∧ Below w.heap.size w w' := by
  have HPK := hidden fun wx => kPeek_nil x wx hx.1 hx.2
  have HAR : Hid (∀ w1, Calls Try.prog 30 #[.pointer none, .slice (some ⟨w1.heap.size, 0, none⟩) 1 1] (w1.alloc (.cells #[.int .u32 x] 32)) fun e w' => e = .returned (.int .i64 8) ∧ Below w1.heap.size w1 w') := fun w1 => by
    have hb : Below w1.heap.size w1 (w1.alloc (.cells #[.int .u32 x] 32)) := (Below.refl _ _).alloc (Nat.le_refl _) _
    exact (kArgs_nil _ _ rfl).mono (fun e w' hh => ⟨hh.1, hb.trans (hh.2.mono hb.size)⟩)
  have HTH : Hid (∀ w1, Below w.heap.size w w1 → Calls Try.prog 35 #[.pointer none, .int .u32 x] w1 fun e w' => e = .returned (.int .i64 8) ∧ Below w.heap.size w w') := fun w1 hb => (kThrow_nil x w1).mono (fun e w' hh => ⟨hh.1, hb.trans (hh.2.mono hb.size)⟩)
  have HLV : Hid (∀ w1, Below w.heap.size w w1 → Calls Try.prog 7 #[] w1 fun e w' => e = .returned (.bool true) ∧ Below w.heap.size w w') := fun w1 hb => (live_any w1).mono (fun e w' hh => ⟨hh.1, hb.trans (hh.2.mono hb.size)⟩)
  have d : ¬ (len : Int) > 8192 := by omega
  clear hx
  go_enter Try.func6, Try.ntmps6
  go_wp2_with (first
    | (go_at_call 10; refine (num10 _ _).mono ?_; rintro e w3 ⟨rfl, rfl⟩)
    | (go_at_call 26; refine (kLocal_nil _ _ _).mono ?_; rintro e w3 ⟨rfl, rfl⟩)
    | (go_at_call 27; refine (kPop_nil _).mono ?_; rintro e w3 ⟨rfl, rfl⟩)
    | (go_at_call 16; refine (HPK.out _).mono ?_; rintro e w3 ⟨rfl, rfl⟩)
    | (go_at_call 25; refine (kUnstub_nil _).mono ?_; rintro e w3 ⟨rfl, rfl⟩)
    | (go_at_call 28; refine (kFrame_nil _).mono ?_; rintro e w3 ⟨rfl, rfl⟩)
    | (go_at_call 29; refine (kEnter_nil _ _).mono ?_; rintro e w3 ⟨rfl, rfl⟩)
    | (go_at_call 24; refine (kLeave_nil _).mono ?_; rintro e w3 ⟨rfl, rfl⟩)
    | (go_at_call 30; refine (HAR.out _).mono ?_; rintro e wa ⟨rfl, hba⟩)
    | (go_at_call 31; refine (kSetLocal_nil _ _ _ _).mono ?_; rintro e w3 ⟨rfl, rfl⟩)
    | (go_at_call 12; refine (kPush_nil _ _).mono ?_; rintro e w3 ⟨rfl, rfl⟩)
    | (go_at_call 32; refine (kSwap_nil _).mono ?_; rintro e w3 ⟨rfl, rfl⟩)
    | (go_at_call 14; refine (kRoll_nil _ _ _).mono ?_; rintro e w3 ⟨rfl, rfl⟩)
    | (go_at_call 33; refine (kDup_nil _ _).mono ?_; rintro e w3 ⟨rfl, rfl⟩)
    | (go_at_call 34; refine (kStub_nil _ _ _ _).mono ?_; rintro e w3 ⟨rfl, rfl⟩)
    | (go_at_call 35; refine (HTH.out _ hba).mono ?_; rintro e wt ⟨rfl, hbt⟩)
    | (go_at_call 20; refine (kLoad_nil _ _).mono ?_; rintro e w3 ⟨rfl, rfl⟩)
    | (go_at_call 36; refine (kCount_nil _).mono ?_; rintro e w3 ⟨rfl, rfl⟩)
    | (go_at_call 23; refine (kTop_nil _).mono ?_; rintro e w3 ⟨rfl, rfl⟩)
    | (go_at_call 13; refine (kBytes_nil _).mono ?_; rintro e w3 ⟨rfl, rfl⟩)
    | (go_at_call 37; refine (kCopy_nil _).mono ?_; rintro e w3 ⟨rfl, rfl⟩)
    | (go_at_call 7; refine (HLV.out _ hbt).mono ?_; rintro e wl ⟨rfl, hbl⟩))
  go_ret
  exact ⟨rfl, hbl⟩
theorem stackNil_walk (n k : Int) (a : Option Addr) (len cap : Nat) (zs : List Int) (w : World) (hn : (Lit.int .u32 n).wf = true) (hk : (Lit.int .i64 k).wf = true) (hb : IsRow .u8 w a len cap zs) :
    Calls Try.prog 6 #[.int .u32 n, .int .i64 k, .slice a len cap] w fun e w' => e = .returned (.bool true) ∧ Below w.heap.size w w' := by
  have hx := bounds_u32 hn
  have hlen := (reads_of_row hb).2.2
  by_cases hl : len ≤ 8192
  · exact stackNil_main n k a len cap w hx hl
  · clear hn hk hb hx
    have d : (len : Int) > 8192 := by omega
    have HLV := hidden (live_any w)
    go_enter Try.func6, Try.ntmps6
    go_wp2_with (first | (go_at_call 7; refine HLV.out.mono ?_; rintro e wl ⟨rfl, hbl⟩))
    go_ret
    exact ⟨rfl, hbl⟩
end Go.Proofs.Ythhnloabbmllhaa
