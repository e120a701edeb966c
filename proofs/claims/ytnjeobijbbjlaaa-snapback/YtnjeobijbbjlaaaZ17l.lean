/- Layer 17, the program: a copy of a state without rows. -/
import Derived.Test.YtnjeobijbbjlaaaZ17k
namespace Go.Proofs.Ytnjeobijbbjlaaa
open Go.RowKit
set_option maxHeartbeats 1000000
set_option maxRecDepth 100000
set_option linter.unusedVariables false

/-- what a cell holds -/
def cur1 (w : World) (a : Addr) : Value := (w.cell? a).getD undef
theorem cur_some {w : World} {a : Addr} {u : Value} (h : w.cell? a = some u) : w.cell? a = some (cur1 w a) := by
  unfold cur1
  rw [h]
  rfl
/-- two blocks of a state, the one that is copied and the one that is told -/
abbrev CopS (w0 : World) (H G : Nat) (a b c d : Value) (w : World) : Prop :=
  w.cell? ⟨H, 0, none⟩ = some a ∧ w.cell? ⟨H, 1, none⟩ = some b ∧ w.cell? ⟨H, 2, none⟩ = some c ∧ w.cell? ⟨H, 3, none⟩ = some d ∧ w.cell? ⟨G, 0, none⟩ = some (cur1 w ⟨G, 0, none⟩) ∧ w.cell? ⟨G, 1, none⟩ = some (cur1 w ⟨G, 1, none⟩) ∧ w.cell? ⟨G, 2, none⟩ = some (cur1 w ⟨G, 2, none⟩) ∧ w.cell? ⟨G, 3, none⟩ = some (cur1 w ⟨G, 3, none⟩) ∧ w.frozen? ⟨G, 0, none⟩ = false ∧ w.frozen? ⟨G, 1, none⟩ = false ∧ w.frozen? ⟨G, 2, none⟩ = false ∧ w.frozen? ⟨G, 3, none⟩ = false ∧ Hid (Below w0.heap.size w0 w)
theorem cs_one {w0 w : World} {H G : Nat} {a b c d : Value} (h : CopS w0 H G a b c d w) (hne : G ≠ H) (hG : w0.heap.size ≤ G) (i : Nat) (u : Value) : CopS w0 H G a b c d (w.setCell ⟨G, i, none⟩ u) := by
  obtain ⟨h0, h1, h2, h3, g0, g1, g2, g3, z0, z1, z2, z3, hb⟩ := h
  have hH : (w.setCell ⟨G, i, none⟩ u).heap[H]? = w.heap[H]? := heap_setCell_other _ _ _ _ (Ne.symm hne)
  have hc : ∀ j, (w.setCell ⟨G, i, none⟩ u).cell? ⟨H, j, none⟩ = w.cell? ⟨H, j, none⟩ := fun j => World.cell?_of_block hH
  have hg : ∀ j v, w.cell? ⟨G, j, none⟩ = some v → ∃ v', (w.setCell ⟨G, i, none⟩ u).cell? ⟨G, j, none⟩ = some v' := fun j v hv => by
    by_cases e : j = i
    · subst e
      exact ⟨u, World.cell?_setCell_same _ _ _ hv⟩
    · exact ⟨v, by rw [World.cell?_setCell_other _ _ _ _ (by intro q; simp only [Addr.mk.injEq, true_and, and_true] at q; omega)]; exact hv⟩
  have hz : ∀ j, w.frozen? ⟨G, j, none⟩ = false → (w.setCell ⟨G, i, none⟩ u).frozen? ⟨G, j, none⟩ = false := fun j hj => by simpa using hj
  refine ⟨by rw [hc]; exact h0, by rw [hc]; exact h1, by rw [hc]; exact h2, by rw [hc]; exact h3, ?_, ?_, ?_, ?_, hz _ z0, hz _ z1, hz _ z2, hz _ z3, hidden (hb.out.setCell (p := ⟨G, i, none⟩) hG u)⟩
  · obtain ⟨v, hv⟩ := hg 0 _ g0; exact cur_some hv
  · obtain ⟨v, hv⟩ := hg 1 _ g1; exact cur_some hv
  · obtain ⟨v, hv⟩ := hg 2 _ g2; exact cur_some hv
  · obtain ⟨v, hv⟩ := hg 3 _ g3; exact cur_some hv
theorem cs_four {w0 w : World} {H G : Nat} {a b c d : Value} (hne : Hid (G ≠ H)) (hG : Hid (w0.heap.size ≤ G)) (x0 x1 x2 x3 : Value)
    (h0 : w.cell? ⟨H, 0, none⟩ = some a) (h1 : w.cell? ⟨H, 1, none⟩ = some b) (h2 : w.cell? ⟨H, 2, none⟩ = some c) (h3 : w.cell? ⟨H, 3, none⟩ = some d) (g0 : w.cell? ⟨G, 0, none⟩ = some (cur1 w ⟨G, 0, none⟩)) (g1 : w.cell? ⟨G, 1, none⟩ = some (cur1 w ⟨G, 1, none⟩)) (g2 : w.cell? ⟨G, 2, none⟩ = some (cur1 w ⟨G, 2, none⟩)) (g3 : w.cell? ⟨G, 3, none⟩ = some (cur1 w ⟨G, 3, none⟩)) (z0 : w.frozen? ⟨G, 0, none⟩ = false) (z1 : w.frozen? ⟨G, 1, none⟩ = false) (z2 : w.frozen? ⟨G, 2, none⟩ = false) (z3 : w.frozen? ⟨G, 3, none⟩ = false) (hb : Hid (Below w0.heap.size w0 w)) :
    CopS w0 H G a b c d ((((w.setCell ⟨G, 0, none⟩ x0).setCell ⟨G, 1, none⟩ x1).setCell ⟨G, 2, none⟩ x2).setCell ⟨G, 3, none⟩ x3) :=
  cs_one (cs_one (cs_one (cs_one ⟨h0, h1, h2, h3, g0, g1, g2, g3, z0, z1, z2, z3, hb⟩ hne.out hG.out 0 _) hne.out hG.out 1 _) hne.out hG.out 2 _) hne.out hG.out 3 _
theorem cs_drew {w0 w : World} {H G : Nat} {a b c d : Value} (h : CopS w0 H G a b c d w) : CopS w0 H G a b c d w.drew := by
  obtain ⟨h0, h1, h2, h3, g0, g1, g2, g3, z0, z1, z2, z3, hb⟩ := h
  exact ⟨h0, h1, h2, h3, g0, g1, g2, g3, z0, z1, z2, z3, hidden hb.out.drew⟩
set_option maxHeartbeats 8000000 in
theorem copied_nil (h : Int) (w : World) :
    Calls Try.prog 28 #[.agg #[.slice none 0 0, .int .u32 h, .slice none 0 0, .slice none 0 0]] w fun e w' => e = .returned (.agg #[.slice none 0 0, .int .u32 h, .slice none 0 0, .slice none 0 0]) ∧ Hid (Below w.heap.size w w') := by
  have HCL : Hid (∀ wx, Calls Try.prog 22 #[.slice none 0 0] wx fun e w' => e = .returned (.slice none 0 0) ∧ w' = wx) := hidden (fun wx => Try.bytes_Clone_nil 0 0 wx)
  have HCB : Hid (∀ wx, Calls Try.prog 32 #[.slice none 0 0] wx fun e w' => e = .returned (.slice none 0 0) ∧ w' = wx) := hidden (fun wx => by
    have heq : ∀ w, (binOp .eql 36 (.slice none 0 0) (.slice none 0 0)).run Try.prog w = .ok (.bool true) w := fun w => Lib.run_eql_slice_nil w _ _ none 0 0 0 0 Try.underlying36
    go_enter Try.func32, Try.ntmps32
    go_wp2
    go_ret
    exact ⟨rfl, rfl⟩)
  obtain ⟨b0, b1, b2, b3⟩ := st_box w ⟨.slice none 0 0, h, .slice none 0 0, .slice none 0 0⟩
  obtain ⟨r0, r1, r2, r3⟩ := st_box (w.alloc (.cells #[.slice none 0 0, .int .u32 h, .slice none 0 0, .slice none 0 0] 38)) ⟨.slice none 0 0, 0, .slice none 0 0, .slice none 0 0⟩
  have hh := heap_alloc_new (w.alloc (.cells #[.slice none 0 0, .int .u32 h, .slice none 0 0, .slice none 0 0] 38)) (.cells #[.slice none 0 0, .int .u32 0, .slice none 0 0, .slice none 0 0] 38)
  have hsz : (w.alloc (.cells #[.slice none 0 0, .int .u32 h, .slice none 0 0, .slice none 0 0] 38)).heap.size = w.heap.size + 1 := by simp
  rw [hsz] at hh r0 r1 r2 r3
  have hb1 : Below w.heap.size w (w.alloc (.cells #[.slice none 0 0, .int .u32 h, .slice none 0 0, .slice none 0 0] 38)) := (Below.refl _ _).alloc (Nat.le_refl _) _
  have hbx : Below (w.alloc (.cells #[.slice none 0 0, .int .u32 h, .slice none 0 0, .slice none 0 0] 38)).heap.size (w.alloc (.cells #[.slice none 0 0, .int .u32 h, .slice none 0 0, .slice none 0 0] 38)) ((w.alloc (.cells #[.slice none 0 0, .int .u32 h, .slice none 0 0, .slice none 0 0] 38)).alloc (.cells #[.slice none 0 0, .int .u32 0, .slice none 0 0, .slice none 0 0] 38)) := (Below.refl _ _).alloc (Nat.le_refl _) _
  have HB := hidden (hb1.trans (hbx.mono hb1.size))
  replace b0 := cellLater hbx b0
  replace b1 := cellLater hbx b1
  replace b2 := cellLater hbx b2
  replace b3 := cellLater hbx b3
  clear hb1 hbx hsz
  go_enter Try.func28, Try.ntmps28
  go_upto_region 1 with fail
  generalize (w.alloc (.cells #[.slice none 0 0, .int .u32 h, .slice none 0 0, .slice none 0 0] 38)).alloc (.cells #[.slice none 0 0, .int .u32 0, .slice none 0 0, .slice none 0 0] 38) = W at *
  have z0 : W.frozen? ⟨w.heap.size + 1, 0, none⟩ = false := by simp [World.frozen?, hh]
  have z1 : W.frozen? ⟨w.heap.size + 1, 1, none⟩ = false := by simp [World.frozen?, hh]
  have z2 : W.frozen? ⟨w.heap.size + 1, 2, none⟩ = false := by simp [World.frozen?, hh]
  have z3 : W.frozen? ⟨w.heap.size + 1, 3, none⟩ = false := by simp [World.frozen?, hh]
  clear hh
  obtain ⟨G, hG⟩ : ∃ G, w.heap.size + 1 = G := ⟨_, rfl⟩
  have HG : Hid (w.heap.size + 1 = G) := hidden hG
  rw [hG] at r0 r1 r2 r3 z0 z1 z2 z3
  rw [hG]
  clear hG
  obtain ⟨H, hH⟩ : ∃ H, w.heap.size = H := ⟨_, rfl⟩
  have HH := hidden hH
  rw [hH] at b0 b1 b2 b3
  rw [hH]
  clear hH
  have HGH : Hid (G ≠ H) := hidden (by have := HG.out; have := HH.out; omega)
  have HBW : Hid (Below w.heap.size w W) := HB
  have HGG : Hid (w.heap.size ≤ G) := hidden (by have := HG.out; omega)
  have HCS : Hid (CopS w H G (.slice none 0 0) (.int .u32 h) (.slice none 0 0) (.slice none 0 0) W) := hidden ⟨b0, b1, b2, b3, cur_some r0, cur_some r1, cur_some r2, cur_some r3, z0, z1, z2, z3, HBW⟩
  clear r0 r1 r2 r3
  obtain ⟨_, _, _, _, r0, r1, r2, r3, _⟩ := HCS.out
  go_region_held3 (fun w' => w'.cell? ⟨H, 0, none⟩ = some (.slice none 0 0) ∧ w'.cell? ⟨H, 1, none⟩ = some (.int .u32 h) ∧ w'.cell? ⟨H, 2, none⟩ = some (.slice none 0 0) ∧ w'.cell? ⟨H, 3, none⟩ = some (.slice none 0 0) ∧ w'.cell? ⟨G, 0, none⟩ = some (cur1 w' ⟨G, 0, none⟩) ∧ w'.cell? ⟨G, 1, none⟩ = some (cur1 w' ⟨G, 1, none⟩) ∧ w'.cell? ⟨G, 2, none⟩ = some (cur1 w' ⟨G, 2, none⟩) ∧ w'.cell? ⟨G, 3, none⟩ = some (cur1 w' ⟨G, 3, none⟩) ∧ w'.frozen? ⟨G, 0, none⟩ = false ∧ w'.frozen? ⟨G, 1, none⟩ = false ∧ w'.frozen? ⟨G, 2, none⟩ = false ∧ w'.frozen? ⟨G, 3, none⟩ = false ∧ Hid (Below w.heap.size w w')) (first
      | (with_reducible exact cs_drew HCS.out)
      | (with_reducible exact cs_drew (cs_four HGH HGG _ _ _ _ b0 b1 b2 b3 r0 r1 r2 r3 z0 z1 z2 z3 HBW))
      | assumption) (first
    | (go_at_call 22; refine (HCL.out _).mono ?_; rintro e w3 ⟨rfl, e9⟩; rw [e9]; clear e9)
    | (go_at_call 32; refine (HCB.out _).mono ?_; rintro e w3 ⟨rfl, e9⟩; rw [e9]; clear e9)
    | fail)
  all_goals
    have HFIN := hidden (cs_drew (cs_four HGH HGG (.slice none 0 0) (.int .u32 h) (.slice none 0 0) (.slice none 0 0) b0 b1 b2 b3 r0 r1 r2 r3 z0 z1 z2 z3 HBW))
    go_wp2
    exact bodyPost_ret (v := .agg #[.slice none 0 0, .int .u32 h, .slice none 0 0, .slice none 0 0]) (by simp [results, Try.results28, go_sem, r0, r1, r2, r3]) rfl ⟨rfl, HFIN.out.2.2.2.2.2.2.2.2.2.2.2.2⟩
end Go.Proofs.Ytnjeobijbbjlaaa
