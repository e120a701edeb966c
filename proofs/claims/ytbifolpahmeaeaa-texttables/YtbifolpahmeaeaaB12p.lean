/- Contracts of package text's layNode, layBranch and Table for the page's example. -/
import Derived.Test.YtbifolpahmeaeaaB12l
import Derived.Test.YtbifolpahmeaeaaB12m
import Derived.Deep.Cut
namespace Go.Proofs.Ytbifolpahmeaeaa
open Go.RowKit Go.Maps
set_option maxHeartbeats 1000000
set_option maxRecDepth 100000
set_option linter.unusedVariables false

theorem node_nil (at_ : Int) (a : Option Addr) (c : Nat) (w : World) :
    Calls Try.prog 31 #[.int .u32 at_, .slice a 0 c] w fun r w' => r = .returned (.tuple #[.slice (some ⟨w.heap.size, 0, none⟩) 1 1, .int .u32 1]) ∧ Reads w' (some ⟨w.heap.size, 0, none⟩) 1 1 [1] ∧ Below w.heap.size w w' := by
  have ho := owns_new w w.heap.size [1] (Nat.le_refl _) (by decide)
  have HR := hidden (own_reads ho)
  clear ho
  go_enter Try.func31, Try.ntmps31
  go_wp2
  go_ret2
  exact ⟨rfl, HR.out, (Below.refl _ _).alloc (Nat.le_refl _) _⟩
theorem node_97 (at_ : Int) (a : Option Addr) (c : Nat) (w : World) (h : VRow w a 1 [97]) :
    Calls Try.prog 31 #[.int .u32 at_, .slice a 1 c] w fun r w' => r = .returned (.tuple #[.slice (some ⟨w.heap.size, 0, none⟩) 2 2, .int .u32 1]) ∧ Reads w' (some ⟨w.heap.size, 0, none⟩) 2 2 [2, 97] ∧ Below w.heap.size w w' := by
  have ho := owns_new w w.heap.size [2, 97] (Nat.le_refl _) (by decide)
  have HR := hidden (own_reads ho)
  obtain ⟨b, o, rfl, hc⟩ := h.cells 0 (by omega)
  have hc' : w.cell? ⟨b, o, none⟩ = some (.int .u32 97) := hc
  clear ho h hc
  go_enter Try.func31, Try.ntmps31
  go_wp2
  go_ret2
  exact ⟨rfl, HR.out, (Below.refl _ _).alloc (Nat.le_refl _) _⟩
theorem put4 (x : Int) (zs : List Int) (h : putL x 4 = zs) (hl : zs.length = 4) (w : World) : Calls Try.prog 20 #[.int .u32 x, .int .i64 4] w fun e w' => e = .returned (.slice (some ⟨w.heap.size, 0, none⟩) 4 4) ∧ Reads w' (some ⟨w.heap.size, 0, none⟩) 4 4 zs ∧ Below w.heap.size w w' := by
  refine (put_any x 4 w (by simp [IsW])).mono ?_
  rw [h, hl]
  rintro e w' ⟨rfl, rfl⟩
  have ho := owns_new w w.heap.size zs (Nat.le_refl _) (by rw [hl]; decide)
  rw [hl] at ho
  exact ⟨rfl, own_reads ho, (Below.refl _ _).alloc (Nat.le_refl _) _⟩
theorem row_cells {w : World} {q : Nat} {cs : Array Value} {e : TypeId} (h : w.heap[q]? = some (.cells cs e (0, 0))) (i : Nat) (v : Value) (hi : cs[i]? = some v) : w.cell? ⟨q, i, none⟩ = some v := by
  simp only [World.cell?]
  rw [h]
  simpa using hi
theorem branch_97 (a : Option Addr) (c : Nat) (w : World) (h : VRow w a 1 [97]) :
    Calls Try.prog 18 #[.int .u32 12, .slice none 0 0, .slice a 1 c] w fun r w' => ∃ a' c', r = .returned (.tuple #[.slice a' 12 c', .int .u32 3]) ∧ Reads w' a' 12 c' [0, 0, 0, 0, 21, 0, 0, 0, 22, 1, 2, 97] ∧ Below w.heap.size w w' := by
  have HN1 := hidden fun w1 => node_nil 21 none 0 w1
  have HN2 : Hid (∀ w1, Below w.heap.size w w1 → Calls Try.prog 31 #[.int .u32 22, .slice a 1 c] w1 fun r w' => r = .returned (.tuple #[.slice (some ⟨w1.heap.size, 0, none⟩) 2 2, .int .u32 1]) ∧ Reads w' (some ⟨w1.heap.size, 0, none⟩) 2 2 [2, 97] ∧ Below w1.heap.size w1 w') := fun w1 hb => node_97 22 a c w1 ⟨h.ln, h.bd, fun i hi => by obtain ⟨b, o, e, hc⟩ := h.cells i hi; exact ⟨b, o, e, cellLater hb hc⟩⟩
  clear h
  go_enter Try.func18, Try.ntmps18
  go_upto_region 5 with (first | (go_at_call_of 31 (Value.int IntKind.u32 21); refine (HN1.out _).mono ?_; rintro r w1 ⟨rfl, hr1, hb1⟩; have HR1 := hidden hr1; have HB1 := hidden hb1; clear hr1 hb1) | (go_at_call_of 31 (Value.int IntKind.u32 22); refine (HN2.out _ HB1.out).mono ?_; rintro r w2 ⟨rfl, hr2, hb2⟩; have HR2 := hidden hr2; have HB2 := hidden (HB1.out.trans (hb2.mono HB1.out.size)); have HRA := hidden (HR1.out.later hb2); clear hr2 hb2))
  have HP1 := hidden fun wx => put4 21 [0, 0, 0, 21] (by decide) rfl wx
  have HP2 := hidden fun wx => put4 22 [0, 0, 0, 22] (by decide) rfl wx
  have HR0 : Hid (Reads (w2.alloc (.cells #[.int .u8 0] 5)) (some ⟨w2.heap.size, 0, none⟩) 1 1 [0]) := own_reads (owns_new w2 w2.heap.size [0] (Nat.le_refl _) (by decide))
  have HB3 : Hid (Below w2.heap.size w2 (w2.alloc (.cells #[.int .u8 0] 5))) := (Below.refl _ _).alloc (Nat.le_refl _) _
  have HCC : Hid (∀ w4 w5, Below (w2.alloc (.cells #[.int .u8 0] 5)).heap.size (w2.alloc (.cells #[.int .u8 0] 5)) w4 → Below w4.heap.size w4 w5 → Reads w4 (some ⟨(w2.alloc (.cells #[.int .u8 0] 5)).heap.size, 0, none⟩) 4 4 [0, 0, 0, 21] → Reads w5 (some ⟨w4.heap.size, 0, none⟩) 4 4 [0, 0, 0, 22] →
      Calls Try.prog 19 #[.slice (some ⟨w5.heap.size, 0, none⟩) 5 5] (w5.alloc (.cells #[.slice (some ⟨w2.heap.size, 0, none⟩) 1 1, .slice (some ⟨w2.heap.size + 1, 0, none⟩) 4 4, .slice (some ⟨w4.heap.size, 0, none⟩) 4 4, .slice (some ⟨w.heap.size, 0, none⟩) 1 1, .slice (some ⟨w1.heap.size, 0, none⟩) 2 2] 25)) fun e w' => ∃ a' c', e = .returned (.slice a' 12 c') ∧ Hid (Reads w' a' 12 c' [0, 0, 0, 0, 21, 0, 0, 0, 22, 1, 2, 97]) ∧ Hid (Below w.heap.size w w')) := fun w4 w5 b4 b5 r4 r5 => by
    have hba : Below w5.heap.size w5 (w5.alloc (.cells #[.slice (some ⟨w2.heap.size, 0, none⟩) 1 1, .slice (some ⟨w2.heap.size + 1, 0, none⟩) 4 4, .slice (some ⟨w4.heap.size, 0, none⟩) 4 4, .slice (some ⟨w.heap.size, 0, none⟩) 1 1, .slice (some ⟨w1.heap.size, 0, none⟩) 2 2] 25)) := (Below.refl _ _).alloc (Nat.le_refl _) _
    have hh := heap_alloc_new w5 (.cells #[.slice (some ⟨w2.heap.size, 0, none⟩) 1 1, .slice (some ⟨w2.heap.size + 1, 0, none⟩) 4 4, .slice (some ⟨w4.heap.size, 0, none⟩) 4 4, .slice (some ⟨w.heap.size, 0, none⟩) 1 1, .slice (some ⟨w1.heap.size, 0, none⟩) 2 2] 25)
    have eq3 : (w2.alloc (.cells #[.int .u8 0] 5)).heap.size = w2.heap.size + 1 := by simp
    rw [eq3] at r4
    have r0' := ((HR0.out.later b4).later b5).later hba
    have r1' := ((((HRA.out.later HB3.out).later b4).later b5).later hba)
    have r2' := ((((HR2.out.later HB3.out).later b4).later b5).later hba)
    have r4' := (r4.later b5).later hba
    have r5' := r5.later hba
    have hbw : Below w.heap.size w w5 := (HB2.out.trans ((HB3.out.trans (b4.mono HB3.out.size)).mono HB2.out.size)).trans (b5.mono (Nat.le_trans HB2.out.size (Nat.le_trans HB3.out.size b4.size)))
    clear eq3
    generalize w2.heap.size + 1 = q3 at *
    generalize w5.alloc _ = w6 at *
    have := concat_any w5.heap.size 5 [⟨some ⟨w2.heap.size, 0, none⟩, 1, 1, [0]⟩, ⟨some ⟨q3, 0, none⟩, 4, 4, [0, 0, 0, 21]⟩, ⟨some ⟨w4.heap.size, 0, none⟩, 4, 4, [0, 0, 0, 22]⟩, ⟨some ⟨w.heap.size, 0, none⟩, 1, 1, [1]⟩, ⟨some ⟨w1.heap.size, 0, none⟩, 2, 2, [2, 97]⟩] w6 (fun i hi => by
        refine row_cells hh i _ ?_
        have hi5 : i < 5 := hi
        rcases (show i = 0 ∨ i = 1 ∨ i = 2 ∨ i = 3 ∨ i = 4 by omega) with rfl | rfl | rfl | rfl | rfl <;> rfl) (fun r hr => by
        simp only [List.mem_cons, List.not_mem_nil, or_false] at hr
        rcases hr with rfl | rfl | rfl | rfl | rfl <;> assumption) (by show 0 < 12; omega) (by show 12 ≤ 100000000; omega) (by show 5 ≤ 10; omega) 5 rfl
    refine this.mono ?_
    rintro e w' ⟨g, c', rfl, ho, hb⟩
    have hs : sumN [⟨some ⟨w2.heap.size, 0, none⟩, 1, 1, [0]⟩, ⟨some ⟨q3, 0, none⟩, 4, 4, [0, 0, 0, 21]⟩, ⟨some ⟨w4.heap.size, 0, none⟩, 4, 4, [0, 0, 0, 22]⟩, ⟨some ⟨w.heap.size, 0, none⟩, 1, 1, [1]⟩, ⟨some ⟨w1.heap.size, 0, none⟩, 2, 2, [2, 97]⟩] = 12 := rfl
    rw [hs] at ho ⊢
    exact ⟨_, _, rfl, own_reads ho, (hbw.trans (hba.mono hbw.size)).trans (hb.mono (Nat.le_trans hbw.size hba.size))⟩
  go_wp2_with (first | (go_at_call_of 20 (Value.int IntKind.u32 21); refine (HP1.out _).mono ?_; rintro r w4 ⟨rfl, hr4, hb4⟩; have HR4 := hidden hr4; have HB4 := hidden hb4; clear hr4 hb4) | (go_at_call_of 20 (Value.int IntKind.u32 22); refine (HP2.out _).mono ?_; rintro r w5 ⟨rfl, hr5, hb5⟩; have HCA := hidden (HCC.out _ _ HB4.out hb5 HR4.out hr5); clear hr5 hb5) | (go_at_call 19; refine HCA.out.mono ?_; rintro r w7 ⟨a7, c7, rfl, HR7, HB7⟩))
  go_ret2
  exact ⟨a7, c7, rfl, HR7.out, HB7.out⟩
end Go.Proofs.Ytbifolpahmeaeaa
