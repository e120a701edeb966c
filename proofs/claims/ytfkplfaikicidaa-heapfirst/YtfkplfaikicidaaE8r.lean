/- The walk of HeapFirst. -/
import Derived.Test.YtfkplfaikicidaaE8o
import Derived.BigQuiet
import Derived.Deep.QuietTactic
namespace Go.Proofs.Ytfkplfaikicidaa
open Go.RowKit
set_option maxHeartbeats 1000000
set_option maxRecDepth 100000
set_option linter.unusedVariables false

def fs0 : Hs := ⟨1048576, 0, 0, []⟩
theorem first_state {bs : List Bk} (h : loadE fs0 256 65536 bs = 0) : loadS fs0 256 65536 bs = ⟨1048576, 256, 65536, bs⟩ ∧ 0 < bs.length ∧ Chain 65536 256 bs := by
  unfold loadE at h
  unfold loadS
  split at h
  · cases h
  · rename_i c1
    split at h
    · rename_i c2
      rw [if_neg c1, if_pos c2]
      refine ⟨rfl, ?_⟩
      unfold mayR at c2
      split at c2
      · simp at c2
      · rename_i c3
        simp only [Bool.and_eq_true] at c2
        exact ⟨by omega, (chainB_iff _ _ _).1 c2.2⟩
    · cases h
theorem first_place {bs : List Bk} {n : Nat} (hc : Chain 65536 256 bs) (h0 : 0 < bs.length) (hl : bs.length ≤ 300) (hn : n ≠ 0) (hn2 : n < 65536) : ∃ s, mallocR ⟨1048576, 256, 65536, bs⟩ n 0 = some ((place n 256 bs).2, s) := by
  have hp := place_end n 65536 256 bs hc
  unfold mallocR
  rw [if_neg (by simp only; omega), if_neg (by simp only; omega)]
  have e1 : stR ⟨1048576, 256, 65536, bs⟩ 0 = 256 := by simp only [stR]; rw [if_neg (by omega)]
  have e2 : enR ⟨1048576, 256, 65536, bs⟩ 0 = 65536 := by simp only [enR]; rw [if_neg (by omega)]
  rw [e1, e2]
  simp only
  split
  · exact ⟨_, rfl⟩
  · rw [if_neg (by unfold up; omega)]
    exact ⟨_, rfl⟩
theorem Run.below {B h : Nat} {w0 w : World} {s : Hs} (r : Run B h w0 w s) : Below B w0 w := by obtain ⟨v, _, hb, _⟩ := r; exact hb
theorem first_long (ao : Option Addr) (len cap : Nat) (n : Nat) (w : World) (hl : 300 < len) :
    Calls Try.prog 4 #[.slice ao len cap, .int .u16 n] w fun e w' => e = .returned (.bool true) ∧ Below w.heap.size w w' := by
  have c1 : (300 : Int) < (len : Int) := by omega
  go_enter Try.func4, Try.ntmps4
  go_wp2_with (go_at_call 10; refine (live_any _).mono ?_; rintro e w1 ⟨rfl, hb1⟩)
  go_ret
  exact ⟨rfl, hb1⟩
theorem first_bad (ao : Option Addr) (len cap : Nat) (bs : List Bk) (n : Nat) (w : World) (hl : len ≤ 300) (hb : IsBks w ao len cap bs) (hE : loadE fs0 256 65536 bs ≠ 0) :
    Calls Try.prog 4 #[.slice ao len cap, .int .u16 n] w fun e w' => e = .returned (.bool true) ∧ Below w.heap.size w w' := by
  have HN : Hid (Calls Try.prog 11 #[.int .u32 1048576] w fun e w' => e = .returned (.pointer (some ⟨w.heap.size, 0, none⟩)) ∧ Run w.heap.size w.heap.size w w' fs0) := Run.new 1048576 w w w.heap.size (Below.refl _ _) (Nat.le_refl _)
  have HL : Hid (∀ w1 s, Run w.heap.size w.heap.size w w1 s → Calls Try.prog 10 #[] w1 fun e w' => e = .returned (.bool true) ∧ Below w.heap.size w w') := fun w1 s r => (live_any w1).mono (fun e w' hh => ⟨hh.1, by obtain ⟨v, _, hb, hB⟩ := r; exact hb.trans (hh.2.mono hB)⟩)
  generalize hEE : loadE fs0 256 65536 bs = E at *
  have H1 : Hid (∀ w1, Run w.heap.size w.heap.size w w1 fs0 → Calls Try.prog 14 #[.pointer (some ⟨w.heap.size, 0, none⟩), .int .u32 256, .int .u32 65536, .slice ao len cap] w1 fun e w' => e = .returned (.int .i64 E) ∧ Run w.heap.size w.heap.size w w' (loadS fs0 256 65536 bs)) := fun w1 r => by
    have := r.load 256 65536 ao len cap bs (hb.1.below r.below) hb.2 (by decide) (by decide)
    rw [hEE] at this
    exact this
  have c1 : ¬ (300 : Int) < (len : Int) := by omega
  have c2 : ¬ (E : Int) = 0 := by omega
  have c3 : ((E : Int) != 0) = true := by rw [bne_iff_ne]; exact c2
  clear hE hEE hb
  go_enter Try.func4, Try.ntmps4
  go_wp2_with (first | (go_at_call 11; refine HN.out.mono ?_; rintro e w1 ⟨rfl, r1⟩) | (go_at_call 14; refine (H1.out _ r1).mono ?_; rintro e w2 ⟨rfl, r2⟩) | (go_at_call 19; refine (num8 _ _).mono ?_; rintro e w3 ⟨rfl, rfl⟩) | (go_at_call 10; refine (HL.out _ _ r2).mono ?_; rintro e w4 ⟨rfl, hb4⟩))
  go_ret
  exact ⟨rfl, hb4⟩
theorem first_zero (ao : Option Addr) (len cap : Nat) (bs : List Bk) (w : World) (hl : len ≤ 300) (hb : IsBks w ao len cap bs) (hE : loadE fs0 256 65536 bs = 0) :
    Calls Try.prog 4 #[.slice ao len cap, .int .u16 0] w fun e w' => e = .returned (.bool true) ∧ Below w.heap.size w w' := by
  have HN : Hid (Calls Try.prog 11 #[.int .u32 1048576] w fun e w' => e = .returned (.pointer (some ⟨w.heap.size, 0, none⟩)) ∧ Run w.heap.size w.heap.size w w' fs0) := Run.new 1048576 w w w.heap.size (Below.refl _ _) (Nat.le_refl _)
  have HL : Hid (∀ w1 s, Run w.heap.size w.heap.size w w1 s → Calls Try.prog 10 #[] w1 fun e w' => e = .returned (.bool true) ∧ Below w.heap.size w w') := fun w1 s r => (live_any w1).mono (fun e w' hh => ⟨hh.1, by obtain ⟨v, _, hb, hB⟩ := r; exact hb.trans (hh.2.mono hB)⟩)
  obtain ⟨hs, h0, hch⟩ := first_state hE
  have hbl := hb.1.1
  have H1 : Hid (∀ w1, Run w.heap.size w.heap.size w w1 fs0 → Calls Try.prog 14 #[.pointer (some ⟨w.heap.size, 0, none⟩), .int .u32 256, .int .u32 65536, .slice ao len cap] w1 fun e w' => e = .returned (.int .i64 0) ∧ Run w.heap.size w.heap.size w w' ⟨1048576, 256, 65536, bs⟩) := fun w1 r => by
    have := r.load 256 65536 ao len cap bs (hb.1.below r.below) hb.2 (by decide) (by decide)
    rw [hE, hs] at this
    exact this
  have ok1 : OkS ⟨1048576, 256, 65536, bs⟩ := by have := ok_load (s := fs0) 256 65536 bs (ok_new (by decide)); rw [hs] at this; exact this
  have H2 : Hid (∀ w1, Run w.heap.size w.heap.size w w1 ⟨1048576, 256, 65536, bs⟩ → Calls Try.prog 12 #[.pointer (some ⟨w.heap.size, 0, none⟩), .int .u32 0, .int .u32 0] w1 fun e w' => e = .returned (.tuple #[.int .u32 0, .bool false]) ∧ Run w.heap.size w.heap.size w w' ⟨1048576, 256, 65536, bs⟩) := fun w1 r => r.refuse (n := 0) (x := 0) ok1 (by decide) (by decide) (by unfold mallocR; rw [if_pos (.inl rfl)])
  have c1 : ¬ (300 : Int) < (len : Int) := by omega
  have c2 : ¬ (len : Int) = 0 := by omega
  clear hE hs hch hb ok1
  go_enter Try.func4, Try.ntmps4
  go_wp2_with (first | (go_at_call 11; refine HN.out.mono ?_; rintro e w1 ⟨rfl, r1⟩) | (go_at_call 14; refine (H1.out _ r1).mono ?_; rintro e w2 ⟨rfl, r2⟩) | (go_at_call 19; refine (num8 _ _).mono ?_; rintro e w3 ⟨rfl, rfl⟩) | (go_at_call 12; refine (H2.out _ r2).mono ?_; rintro e w5 ⟨rfl, r5⟩) | (go_at_call 10; refine (HL.out _ _ r5).mono ?_; rintro e w4 ⟨rfl, hb4⟩))
  go_ret
  exact ⟨rfl, hb4⟩
set_option maxHeartbeats 4000000 in
theorem first_main (ao : Option Addr) (len cap : Nat) (bs : List Bk) (n : Nat) (w : World) (hl : len ≤ 300) (hb : IsBks w ao len cap bs) (hE : loadE fs0 256 65536 bs = 0) (hn : n ≠ 0) (hn2 : n < 65536) :
    Calls Try.prog 4 #[.slice ao len cap, .int .u16 n] w fun e w' => e = .returned (.bool true) ∧ Below w.heap.size w w' := by
  have HN : Hid (Calls Try.prog 11 #[.int .u32 1048576] w fun e w' => e = .returned (.pointer (some ⟨w.heap.size, 0, none⟩)) ∧ Run w.heap.size w.heap.size w w' fs0) := Run.new 1048576 w w w.heap.size (Below.refl _ _) (Nat.le_refl _)
  have HL : Hid (∀ w1, Below w.heap.size w w1 → Calls Try.prog 10 #[] w1 fun e w' => e = .returned (.bool true) ∧ Below w.heap.size w w') := fun w1 hb => (live_any w1).mono (fun e w' hh => ⟨hh.1, hb.trans (hh.2.mono hb.size)⟩)
  obtain ⟨hs, h0, hch⟩ := first_state hE
  have hbl := hb.1.1
  have hlc := hb.1.2.1
  have H1 : Hid (∀ w1, Run w.heap.size w.heap.size w w1 fs0 → Calls Try.prog 14 #[.pointer (some ⟨w.heap.size, 0, none⟩), .int .u32 256, .int .u32 65536, .slice ao len cap] w1 fun e w' => e = .returned (.int .i64 0) ∧ Run w.heap.size w.heap.size w w' ⟨1048576, 256, 65536, bs⟩) := fun w1 r => by
    have := r.load 256 65536 ao len cap bs (hb.1.below r.below) hb.2 (by decide) (by decide)
    rw [hE, hs] at this
    exact this
  have ok1 : OkS ⟨1048576, 256, 65536, bs⟩ := by have := ok_load (s := fs0) 256 65536 bs (ok_new (by decide)); rw [hs] at this; exact this
  obtain ⟨s2, hmal⟩ := first_place hch h0 (by omega) hn hn2
  have hpe := place_end n 65536 256 bs hch
  generalize hA : (place n 256 bs).2 = A at *
  have H2 : Hid (∀ w1, Run w.heap.size w.heap.size w w1 ⟨1048576, 256, 65536, bs⟩ → Calls Try.prog 12 #[.pointer (some ⟨w.heap.size, 0, none⟩), .int .u32 n, .int .u32 0] w1 fun e w' => e = .returned (.tuple #[.int .u32 A, .bool true]) ∧ Below w.heap.size w w') := fun w1 r => (r.malloc (n := n) (x := 0) ok1 (by omega) (by decide) hmal).mono (fun e w' hh => ⟨hh.1, hh.2.below⟩)
  have c1 : ¬ (300 : Int) < (len : Int) := by omega
  have c2 : ¬ (len : Int) = 0 := by omega
  have c3 : ¬ (n : Int) = 0 := by omega
  have c4 : ¬ (A : Int) < 256 := by omega
  have e1 : ((len : Int) == 0) = false := by rw [beq_eq_false_iff_ne]; exact c2
  have e2 : ((n : Int) == 0) = false := by rw [beq_eq_false_iff_ne]; exact c3
  have e3 : decide ((A : Int) < 256) = false := by simp; omega
  have e4 : decide ((300 : Int) < (len : Int)) = false := by simp; omega
  obtain ⟨g, off, rfl, hcells⟩ := bks_cells hb.1 (by omega)
  have HC := hidden hcells
  have HBL := hidden hbl
  have HCH := hidden hch
  have HA := hidden hA
  clear hE hs hch hb ok1 hmal hcells hbl hA h0
  go_enter Try.func4, Try.ntmps4
  go_wp2_with (first | (go_at_call 11; refine HN.out.mono ?_; rintro e w1 ⟨rfl, r1⟩) | (go_at_call 14; refine (H1.out _ r1).mono ?_; rintro e w2 ⟨rfl, r2⟩) | (go_at_call 19; refine (num8 _ _).mono ?_; rintro e w3 ⟨rfl, rfl⟩) | (go_at_call 12; refine (H2.out _ r2).mono ?_; rintro e w5 ⟨rfl, hb5⟩))
  clear HN H1 H2
  go_loopw [8, 9] (fun u i wr => ∃ k f : Nat, k ≤ len ∧ i = .int .i64 k ∧ u = .int .u32 f ∧ f < 4294967296 ∧ Below w.heap.size w wr ∧ Hid ((Chain 65536 f (bs.drop k) ∧ (place n f (bs.drop k)).2 = A) ∨ (f = A ∧ Chain 65536 (A + n) (bs.drop k)))) (fun _ i _ => len - (intOf i).toNat)
  case atStart => exact ⟨0, 256, by omega, rfl, rfl, by decide, hb5, hidden (.inl ⟨HCH.out, HA.out⟩)⟩
  case round =>
    obtain ⟨k, f, hk, rfl, rfl, hf, hb, HI⟩ := hrel
    by_cases hkn : k < len
    · have hkl : k < bs.length := by rw [HBL.out]; exact hkn
      have ha := cellLater hb (HC.out k hkl).1
      have hl' := cellLater hb (HC.out k hkl).2
      obtain ⟨R, hR⟩ : ∃ R, R = bs.drop (k + 1) := ⟨_, rfl⟩
      have hi := HI.out
      rw [List.drop_eq_getElem_cons hkl, ← hR] at hi
      have HR := hidden hR
      clear HI hR
      generalize bs[k] = b at *
      obtain ⟨a, l⟩ := b
      simp only at ha hl'
      have hcase : (A + n ≤ a ∧ a + l ≤ 65536 ∧ 0 < l ∧ f = A ∧ Hid (Chain 65536 (A + n) R)) ∨ (a + l ≤ A ∧ 0 < l ∧ f ≤ a ∧ a - f < n ∧ Hid (Chain 65536 (a + l) R ∧ (place n (a + l) R).2 = A)) := by
        rcases hi with ⟨h1, h2⟩ | ⟨h1, h2⟩
        · have hle := h1.2.2.le
          have q1 : 0 < l := h1.1
          have q2 : f ≤ a := h1.2.1
          by_cases hg : n ≤ a - f
          · have e : f = A := by rw [← h2]; simp [place, hg]
            exact .inl ⟨by omega, hle, q1, e, hidden (h1.2.2.from (by show A + n ≤ a + l; omega))⟩
          · have e : (place n (a + l) R).2 = A := by rw [← h2]; simp [place, hg]
            have := (place_end n 65536 (a + l) R h1.2.2).1
            exact .inr ⟨by omega, q1, q2, by omega, hidden ⟨h1.2.2, e⟩⟩
        · have hle := h2.2.2.le
          have q1 : 0 < l := h2.1
          have q2 : A + n ≤ a := h2.2.1
          exact .inl ⟨q2, hle, q1, h1, hidden (h2.2.2.from (by show A + n ≤ a + l; omega))⟩
      clear hi
      have hk2 : (k : Int) < (len : Int) := by omega
      have hwa : IntKind.u32.wrap ((a : Int) + (l : Int)) = (a : Int) + (l : Int) := by rw [IntKind.wrap_u32]; omega
      have hwn : IntKind.u32.wrap ((A : Int) + (n : Int)) = (A : Int) + (n : Int) := by rw [IntKind.wrap_u32]; omega
      rcases hcase with ⟨q1, q2, q3, q4, HJ⟩ | ⟨q1, q2, q3, q4, HJ⟩
      · have d1 : decide ((A : Int) < (a : Int) + (l : Int)) = true := by simp; omega
        have d2 : decide ((a : Int) < (A : Int) + (n : Int)) = false := by simp; omega
        have d3 : ¬ (a : Int) < (A : Int) := by omega
        have HQ := hidden q4
        clear q4
        go_wp2_with fail
        go_quiet (fail)
        go_wp2
        go_roundw
        case rel => exact ⟨k + 1, f, by omega, int_eq (by omega), rfl, hf, ⟨hb.os, hb.tape, hb.output, hb.size, hb.block⟩, hidden (.inr ⟨HQ.out, by rw [← HR.out]; exact HJ.out⟩)⟩
        case measure => simp [intOf]; omega
      · have d1 : decide ((A : Int) < (a : Int) + (l : Int)) = false := by simp; omega
        have d3 : (a : Int) < (A : Int) := by omega
        have hws : IntKind.u32.wrap ((a : Int) - (f : Int)) = (a : Int) - (f : Int) := by rw [IntKind.wrap_u32]; omega
        have d4 : ¬ (n : Int) ≤ (a : Int) - (f : Int) := by omega
        go_wp2_with fail
        go_quiet (fail)
        go_wp2
        go_quiet (fail)
        go_wp2
        go_roundw
        case rel => exact ⟨k + 1, a + l, by omega, int_eq (by omega), int_eq (by omega), by omega, ⟨hb.os, hb.tape, hb.output, hb.size, hb.block⟩, hidden (.inl (by rw [← HR.out]; exact HJ.out))⟩
        case measure => simp [intOf]; omega
    · obtain rfl : k = len := by omega
      have e : f = A := by
        have hd : bs.drop k = [] := List.drop_of_length_le (by rw [HBL.out]; exact Nat.le_refl _)
        rcases HI.out with ⟨h1, h2⟩ | ⟨h1, h2⟩
        · rw [hd] at h2; exact h2
        · exact h1
      subst e
      have cf : ((f : Int) == (f : Int)) = true := by simp
      go_wp2_with (go_at_call 10; refine (HL.out _ hb).mono ?_; rintro e w9 ⟨rfl, hb9⟩)
      go_ret
      exact ⟨rfl, hb9⟩
theorem heapFirst_walk (ao : Option Addr) (len cap : Nat) (bs : List Bk) (n : Int) (w : World) (hb : IsBks w ao len cap bs) (hn : (Lit.int .u16 n).wf = true) :
    Calls Try.prog 4 #[.slice ao len cap, .int .u16 n] w fun e w' => e = .returned (.bool true) ∧ Below w.heap.size w w' := by
  have b0 := bounds_u16 hn
  obtain ⟨n, rfl⟩ := Int.eq_ofNat_of_zero_le b0.1
  by_cases h1 : 300 < len
  · exact first_long ao len cap n w h1
  · by_cases h2 : loadE fs0 256 65536 bs = 0
    · by_cases h3 : n = 0
      · subst h3
        exact first_zero ao len cap bs w (by omega) hb h2
      · exact first_main ao len cap bs n w (by omega) hb h2 h3 (by omega)
    · exact first_bad ao len cap bs n w (by omega) hb h2
end Go.Proofs.Ytfkplfaikicidaa
