/- Layer 14, the program: the page's example holds. -/
import Derived.Test.YtilfgbcbodjegaaQ14a
namespace Go.Proofs.Ytilfgbcbodjegaa
open Go.RowKit
set_option maxHeartbeats 1000000
set_option maxRecDepth 100000
set_option linter.unusedVariables false

theorem num_any (x : Int) (w : World) (h0 : 0 ≤ x) (h1 : x ≤ 100) : Calls Try.prog 20 #[.int .i64 x] w fun e w' => e = .returned (.int .i64 x) ∧ w' = w := by
  have hw : IntKind.i64.wrap x = x := by rw [IntKind.wrap_i64]; omega
  go_enter Try.func20, Try.ntmps20
  go_wp2
  go_ret
  first | exact ⟨rfl, rfl⟩ | exact ⟨by rw [hw], rfl⟩
set_option maxHeartbeats 4000000 in
theorem same_two (g c g2 c2 : Nat) (w : World) (a1 : w.cell? ⟨g, 0, none⟩ = some (.int .i64 2)) (a2 : w.cell? ⟨g, 1, none⟩ = some (.int .i64 3)) (b1 : w.cell? ⟨g2, 0, none⟩ = some (.int .i64 2)) (b2 : w.cell? ⟨g2, 1, none⟩ = some (.int .i64 3)) :
    Calls Try.prog 24 #[.slice (some ⟨g, 0, none⟩) 2 c, .slice (some ⟨g2, 0, none⟩) 2 c2] w fun e w' => e = .returned (.bool true) ∧ Below w.heap.size w w' := by
  have HC : Hid (∀ w1, Below w.heap.size w w1 → w1.cell? ⟨g, 0, none⟩ = some (.int .i64 2) ∧ w1.cell? ⟨g, 1, none⟩ = some (.int .i64 3) ∧ w1.cell? ⟨g2, 0, none⟩ = some (.int .i64 2) ∧ w1.cell? ⟨g2, 1, none⟩ = some (.int .i64 3)) := hidden (fun w1 hb => by
    have lt : ∀ {b i : Nat} {u : Value}, w.cell? ⟨b, i, none⟩ = some u → b < w.heap.size := fun {b i u} q => by
      unfold World.cell? at q
      simp only at q
      cases hq : w.heap[b]? with
      | none => rw [hq] at q; simp at q
      | some o => exact (Array.getElem?_eq_some_iff.1 hq).1
    exact ⟨by rw [World.cell?_of_block (hb.block _ (lt a1))]; exact a1, by rw [World.cell?_of_block (hb.block _ (lt a2))]; exact a2, by rw [World.cell?_of_block (hb.block _ (lt b1))]; exact b1, by rw [World.cell?_of_block (hb.block _ (lt b2))]; exact b2⟩)
  clear a1 a2 b1 b2
  go_enter Try.func24, Try.ntmps24
  go_upto_region 4 with fail
  go_loopw [5] (fun i w' => ∃ k : Nat, k ≤ 2 ∧ i = .int .i64 k ∧ Hid (Below w.heap.size w w')) (fun i _ => 2 - (intOf i).toNat)
  case atStart => exact ⟨0, by omega, rfl, hidden (Below.refl _ _)⟩
  case round =>
    obtain ⟨k, hk, rfl, HB⟩ := hrel
    obtain ⟨a1, a2, b1, b2⟩ := HC.out _ HB.out
    have HBd := hidden HB.out.drew
    clear HC
    rcases (show k = 0 ∨ k = 1 ∨ k = 2 by omega) with rfl | rfl | rfl
    · (try simp only [Int.natCast_zero])
      go_upto_region 6 with fail
      go_region_held3 (fun w' => w'.cell? ⟨g, 0, none⟩ = some (.int .i64 2) ∧ w'.cell? ⟨g2, 0, none⟩ = some (.int .i64 2)) (first | assumption | exact ⟨by assumption, by assumption⟩ | go_keep) (fail)
      all_goals
       go_wp2
       go_roundw
       case rel => exact ⟨1, by omega, by first | rfl | go_num, by first | exact HB | exact HBd⟩
       case measure => simp [intOf]
    · go_upto_region 6 with fail
      go_region_held3 (fun w' => w'.cell? ⟨g, 1, none⟩ = some (.int .i64 3) ∧ w'.cell? ⟨g2, 1, none⟩ = some (.int .i64 3)) (first | assumption | exact ⟨by assumption, by assumption⟩ | go_keep) (fail)
      all_goals
       go_wp2
       go_roundw
       case rel => exact ⟨2, by omega, by first | rfl | go_num, by first | exact HB | exact HBd⟩
       case measure => simp [intOf]
    · go_wp2
      go_ret
      exact ⟨rfl, HB.out⟩
end Go.Proofs.Ytilfgbcbodjegaa
