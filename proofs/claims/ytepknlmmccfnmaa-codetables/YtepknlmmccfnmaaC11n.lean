/- The walk of CodeTables: each number's letters and name, each name's number, are as the document says. -/
import Derived.Test.YtepknlmmccfnmaaC11l
import Derived.Test.YtepknlmmccfnmaaC11e
namespace Go.Proofs.Ytepknlmmccfnmaa
open Go.RowKit
set_option maxHeartbeats 1000000
set_option maxRecDepth 100000
set_option linter.unusedVariables false

theorem codeTables_walk (op : Int) (nm : ByteArray) (w : World) (hop : (Lit.int .u32 op).wf = true) (hnm : nm.size ≤ maxLen) :
    Calls Try.prog 3 #[.int .u32 op, .string nm] w fun e w' => e = .returned (.bool true) ∧ Below w.heap.size w w' := by
  have HLV : Hid (∀ w1, Below w.heap.size w w1 → Calls Try.prog 6 #[] w1 fun e w' => e = .returned (.bool true) ∧ Below w.heap.size w w') := fun w1 hb => (live_any w1).mono (fun e w' hh => ⟨hh.1, hb.trans (hh.2.mono hb.size)⟩)
  have hb0 := Below.refl w.heap.size w
  obtain ⟨NM, rfl⟩ : ∃ l : List UInt8, nm = ⟨l.toArray⟩ := ⟨nm.data.toList, by cases nm; simp⟩
  have hsz : (⟨NM.toArray⟩ : ByteArray).size = NM.length := by simp [ByteArray.size]
  clear hop
  by_cases hl : NM.length ≤ 1000
  · have HS : Hid (∀ w1, Below w.heap.size w w1 → Calls Try.prog 7 #[.int .u32 op] w1 fun e w' => e = .returned (.tuple #[strV (rwV (opR op)).2.2, .bool (opR op).isSome]) ∧ Below w.heap.size w w') := fun w1 hb => (ksig_any op w1).mono (fun e w' hh => ⟨hh.1, hb.trans (hh.2.mono hb.size)⟩)
    have HN : Hid (∀ w1, Below w.heap.size w w1 → Calls Try.prog 11 #[.int .u32 op] w1 fun e w' => e = .returned (strV (rwV (opR op)).2.1) ∧ Below w.heap.size w w') := fun w1 hb => (kname_any op w1).mono (fun e w' hh => ⟨hh.1, hb.trans (hh.2.mono hb.size)⟩)
    have HO : Hid (∀ w1, Below w.heap.size w w1 → Calls Try.prog 9 #[strV NM] w1 fun e w' => e = .returned (.tuple #[.int .u32 (rwV (nmR NM)).1, .bool (nmR NM).isSome]) ∧ Below w.heap.size w w') := fun w1 hb => (kop_any NM w1).mono (fun e w' hh => ⟨hh.1, hb.trans (hh.2.mono hb.size)⟩)
    have HS2 := hidden fun w1 => dsig_any op w1
    have HN2 := hidden fun w1 => dname_any op w1
    have HO2 : Hid (∀ w1, Below w.heap.size w w1 → Calls Try.prog 10 #[strV NM] w1 fun e w' => e = .returned (.tuple #[.int .u32 (rwV (nmR NM)).1, .bool (nmR NM).isSome]) ∧ Below w.heap.size w w') := fun w1 hb => (dop_any NM w1).mono (fun e w' hh => ⟨hh.1, hb.trans (hh.2.mono hb.size)⟩)
    have d : ¬ (NM.length : Int) > 1000 := by omega
    generalize (rwV (opR op)).2.2 = S2 at *
    generalize (rwV (opR op)).2.1 = S1 at *
    generalize (opR op).isSome = OK at *
    generalize (rwV (nmR NM)).1 = X at *
    generalize (nmR NM).isSome = OK2 at *
    go_enter Try.func3, Try.ntmps3
    go_wp2_with (first | (go_at_call 7; refine (HS.out _ hb0).mono ?_; rintro e w1 ⟨rfl, hb1⟩) | (go_at_call 8; refine (HS2.out _).mono ?_; rintro e w2 ⟨rfl, rfl⟩) | (go_at_call 9; refine (HO.out _ hb1).mono ?_; rintro e w3 ⟨rfl, hb3⟩) | (go_at_call 10; refine (HO2.out _ hb3).mono ?_; rintro e w4 ⟨rfl, hb4⟩) | (go_at_call 11; refine (HN.out _ hb4).mono ?_; rintro e w5 ⟨rfl, hb5⟩) | (go_at_call 12; refine (HN2.out _).mono ?_; rintro e w6 ⟨rfl, rfl⟩) | (go_at_call 6; refine (HLV.out _ hb5).mono ?_; rintro e wl ⟨rfl, hbl⟩))
    go_ret
    exact ⟨rfl, hbl⟩
  · have d : (NM.length : Int) > 1000 := by omega
    go_enter Try.func3, Try.ntmps3
    go_wp2_with (first | (go_at_call 6; refine (HLV.out _ hb0).mono ?_; rintro e wl ⟨rfl, hbl⟩))
    go_ret
    exact ⟨rfl, hbl⟩
end Go.Proofs.Ytepknlmmccfnmaa
