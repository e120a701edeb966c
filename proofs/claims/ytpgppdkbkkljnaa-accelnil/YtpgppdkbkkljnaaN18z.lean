/- Layer 18: an argument that is an ask, opened. -/
import Derived.Test.YtpgppdkbkkljnaaA18A
import Derived.Deep.Slices
import Derived.Deep.SlicePairs
import Derived.ChangeSlices
import Derived.SizedLaws
import Derived.Lib.SmallJoins
namespace Go.Proofs.Ytpgppdkbkkljnaa
open Go.RowKit Go.ChangeShapes Go.WideShapes
set_option maxHeartbeats 1000000
set_option maxRecDepth 100000
set_option linter.unusedVariables false

theorem open_words18 {H : Type} {enc : TypeId × Value → H} {W : World} {fuel : Nat} {v : Value} {x : DataW H × List MemPlace} (h : DataW.trod enc Try.prog W 0 (fun _ => true) true fuel 30 [v] = some x) :
    ∃ a len cap zs, v = .slice a len cap ∧ IsRow .u32 W a len cap zs := by
  rcases open_ints Try.underlying30 Try.underlying26 (by kernel_rfl) h with ⟨hcs, _⟩ | ⟨y, l, c, zs, hcs, _, hl, hm, hz, _, hcell, hwz⟩
  · simp at hcs
    subst hcs
    exact ⟨none, 0, 0, [], rfl, .inl ⟨rfl, rfl, rfl, rfl⟩⟩
  · simp at hcs
    subst hcs
    exact ⟨_, _, _, zs, rfl, .inr ⟨_, rfl, hl, hm, by simpa using hz, hcell, hwz⟩⟩
/-- an ask that came in -/
theorem open_ask {H : Type} {enc : TypeId × Value → H} {W : World} {r : Reach} {b0 : Nat} {v : Value} {d : DataW H} {p : List MemPlace} (hv : Value.okWide Try.prog W r b0 59 v) (h : DataW.Trod enc Try.prog W 0 (fun _ => true) true 59 v d p) :
    ∃ (n : Int) (a1 : Option Addr) (n1 c1 : Nat) (z1 : List Int) (a2 : Option Addr) (n2 c2 : Nat) (z2 : List Int), v = .agg #[.int .u32 n, .slice a1 n1 c1, .slice a2 n2 c2] ∧ (Lit.int .u32 n).wf = true ∧ IsRow .u32 W a1 n1 c1 z1 ∧ IsRow .u32 W a2 n2 c2 z2 := by
  obtain ⟨v0, v1, v2, y0, y1, y2, m, rfl, rfl, rfl, h0, h1, h2⟩ := Go.Joins.open_agg3 Try.underlying59 (by kernel_rfl) (by kernel_rfl) hv h
  replace h0 : DataW.trod enc Try.prog W 0 (fun _ => true) true m 26 [v0] = some y0 := h0
  replace h1 : DataW.trod enc Try.prog W 0 (fun _ => true) true m 30 [v1] = some y1 := h1
  replace h2 : DataW.trod enc Try.prog W 0 (fun _ => true) true m 30 [v2] = some y2 := h2
  obtain ⟨x0, e0, hx0, w0⟩ := DataW.trod_int Try.underlying26 h0
  simp only [List.cons.injEq, and_true] at e0
  subst e0
  obtain ⟨a1, n1, c1, z1, rfl, hr1⟩ := open_words18 h1
  obtain ⟨a2, n2, c2, z2, rfl, hr2⟩ := open_words18 h2
  exact ⟨x0, a1, n1, c1, z1, a2, n2, c2, z2, rfl, w0, hr1, hr2⟩
end Go.Proofs.Ytpgppdkbkkljnaa
