/- Layer 13: both memories, looked at from any later world. -/
import Derived.Test.YtejkaambbaejaaaG13a
namespace Go.Proofs.Ytejkaambbaejaaa
open Go.RowKit
set_option maxHeartbeats 1000000
set_option maxRecDepth 100000
set_option linter.unusedVariables false

/-- what both memories answer from any later world on -/
structure Both (w : World) (m d : Nat) (bs : List Int) : Prop where
  mrd : MRd w m bs
  drd : DRd w d bs
  wb : ∃ g c, ∀ w', Below w.heap.size w w' → w'.cell? ⟨d, 0, none⟩ = some (.slice (some ⟨g, 0, none⟩) bs.length c) ∧ Reads w' (some ⟨g, 0, none⟩) bs.length c bs
  by_ : ∀ w', Below w.heap.size w w' → Calls Try.prog 15 #[.pointer (some ⟨m, 0, none⟩)] w' fun e w'' => ∃ g c, e = .returned (.slice (some ⟨g, 0, none⟩) bs.length c) ∧ Reads w'' (some ⟨g, 0, none⟩) bs.length c bs ∧ Below w'.heap.size w' w''
theorem lay_len3 (B : List Int) : (layB B).length = 4096 := lay_len B 3840 (by omega)
theorem Lay.both {B : Nat} {w : World} {m d g : Nat} {bs : List Int} (h : Lay B w m d g bs) (hl : bs.length = 4096) (hb : OkB bs) : Both w m d bs := by
  have hm := h.mrd (by omega) hb
  obtain ⟨h0, gb, gc, bb, bc, hh, hv, c, h1, h2, h3⟩ := h
  refine ⟨hm, ⟨B, g, c, 256, h2, by omega, hb⟩, ⟨g, c, fun w' hb' => ⟨(h2.later hb').cells.1, own_reads (h2.later hb').row⟩⟩, fun w' hb' => ?_⟩
  refine (bytes_any B m gb gc bb bc hh hv (msF bs) w' (h1.later hb') (by show bs.length ≤ _; omega) (by show 0 < bs.length; omega)).mono ?_
  rintro e w'' ⟨g2, c2, rfl, ho, hbl⟩
  exact ⟨g2, c2, rfl, own_reads ho, hbl⟩
end Go.Proofs.Ytejkaambbaejaaa
