/- Copy. -/
import Derived.Test.YthdbaiddmelhgaaE9i
namespace Go.Proofs.Ythdbaiddmelhgaa
open Go.RowKit
set_option maxHeartbeats 1000000
set_option maxRecDepth 100000
set_option linter.unusedVariables false

set_option maxHeartbeats 8000000 in
theorem copy_any (B h : Nat) (v : Value) (s : Hs) (w : World) (hp : HpAt B w h v s) (hl : s.bs.length ≤ 4096) : Calls Try.prog 21 #[.pointer (some ⟨h, 0, none⟩)] w fun e w' => ∃ h' v', e = .returned (.pointer (some ⟨h', 0, none⟩)) ∧ w.heap.size ≤ h' ∧ HpAt w.heap.size w' h' v' s ∧ Below w.heap.size w w' := by
  obtain ⟨ao, c, rfl⟩ := own_slice2 hp.2.2
  obtain ⟨h0, h1, h2, h3, h4⟩ := hp.cells
  have HC := hidden (fun w1 (hb : Below w.heap.size w w1) => clone_any ao s.bs.length c s.bs w1 (own_bks (hp.later hb).2.2) (by omega))
  have n0 := World.new_ne w _ h0
  clear hp h4
  go_enter Try.func21, Try.ntmps21
  go_wp2_with fail
  go_region_held3 (fun w' => w'.cell? ⟨h, 0, none⟩ = some (.int .u32 s.most) ∧ w'.cell? ⟨h, 1, none⟩ = some (.int .u32 s.start) ∧ w'.cell? ⟨h, 2, none⟩ = some (.int .u32 s.en) ∧ w'.cell? ⟨h, 3, none⟩ = some (.slice ao s.bs.length c)) (first | assumption | exact ⟨by assumption, by assumption, by assumption, by assumption⟩ | go_keep) (first | (go_at_call 22; refine (HC.out _ ((Below.refl _ _).drew)).mono ?_; rintro e w1 ⟨ao1, c1, rfl, ho1, hb1⟩; have k0 := cellLater hb1 h0; have k1 := cellLater hb1 h1; have k2 := cellLater hb1 h2; have k3 := cellLater hb1 h3) | fail)
  go_wp2
  go_ret
  have hb2 : Below w.heap.size w w1 := ((Below.refl _ _).drew).trans hb1
  have hz := hb2.size
  refine ⟨w1.heap.size, .slice ao1 s.bs.length c1, rfl, hz, ⟨hz, heap_alloc_new w1 _, ?_⟩, hb2.alloc hz _⟩
  exact World.ownsRow.alloc ho1 _
end Go.Proofs.Ythdbaiddmelhgaa
