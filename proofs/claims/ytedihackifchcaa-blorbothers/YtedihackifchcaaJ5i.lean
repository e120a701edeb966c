/- Contracts of the document's Same and Huge over chunks: whether two rows of chunks are alike, and whether there are too many or too great ones. -/
import Derived.Test.YtedihackifchcaaJ5h
import Derived.Deep.QuietTactic
import Derived.BigQuiet
namespace Go.Proofs.Ytedihackifchcaa
open Go.RowKit
set_option maxHeartbeats 1000000
set_option maxRecDepth 100000
set_option linter.unusedVariables false

theorem below_drewN {B : Nat} {a w : World} (h : Below B a w) (n : Nat) : Below B a (w.drewN n) := ⟨h.os, h.tape, h.output, h.size, h.block⟩
theorem Cks.at {w : World} {a : Option Addr} {len cap : Nat} {cs : List Ck} (h : Cks w a len cap cs) (h0 : 0 < len) : ∃ b off, a = some ⟨b, off, none⟩ ∧ ∀ i (h : i < cs.length), w.cell? ⟨b, off + i * 2, none⟩ = some (.string cs[i].id) ∧ w.cell? ⟨b, off + i * 2 + 1, none⟩ = some (.slice cs[i].a cs[i].l cs[i].c) := by
  rcases h.2.2.1 with h | h
  · omega
  · exact h
/-- how many bytes letters and data have together -/
def tot (cs : List Ck) : Nat := (cs.map fun k => k.l + k.id.size).sum
theorem tot_snoc (cs : List Ck) (k : Nat) (h : k < cs.length) : tot (cs.take (k + 1)) = tot (cs.take k) + (cs[k].l + cs[k].id.size) := by
  unfold tot
  rw [List.take_succ_eq_append_getElem h, List.map_append, List.sum_append_nat]
  simp only [List.map_cons, List.map_nil, List.sum_cons, List.sum_nil, Nat.add_zero]
def HugeRet (w : World) (len : Nat) (cs : List Ck) (e : Ending) (w' : World) : Prop := (e = .returned (.bool true) ∨ (e = .returned (.bool false) ∧ len ≤ 2000 ∧ tot cs ≤ 65536)) ∧ Below w.heap.size w w'
end Go.Proofs.Ytedihackifchcaa
