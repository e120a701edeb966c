/- Contract of iff.Parse where the bytes are a form: its kind and its chunks, in memory of the call's own. -/
import Derived.Test.YtedihackifchcaaJ5e
import Derived.Deep.Cut
import Derived.Deep.CutRange
import Derived.Deep.RegionWith
namespace Go.Proofs.Ytedihackifchcaa
open Go.RowKit
set_option maxHeartbeats 1000000
set_option maxRecDepth 100000
set_option linter.unusedVariables false

theorem info59 : (Try.prog.info? 56).map (fun i => (i.zero, i.size, i.bytes)) = some (some (.agg #[.string ⟨#[]⟩, .slice none 0 0]), 2, 40) := by kernel_rfl
def ckV (k : Ck) : List Value := [.string k.id, .slice k.a k.l k.c]
def cksV (ks : List Ck) : List Value := ks.flatMap ckV
theorem cksV_snoc (ks : List Ck) (k : Ck) : cksV (ks ++ [k]) = cksV ks ++ ckV k := by simp [cksV]
theorem own_ne {w : World} {B1 B2 n1 n2 : Nat} {v1 v2 : Value} {xs1 xs2 : List Value} (h1 : w.ownsRow B1 5 1 v1 n1 xs1) (h2 : w.ownsRow B2 56 2 v2 n2 xs2) : v1.ownBlock = none ∨ v1.ownBlock ≠ v2.ownBlock := by
  rcases h1.2 with ⟨rfl, _⟩ | ⟨g, cap, cur, rfl, _, hg, _⟩
  · exact .inl rfl
  · refine .inr fun e => ?_
    rcases h2.2 with ⟨rfl, _⟩ | ⟨g2, cap2, cur2, rfl, _, hg2, _⟩
    · cases e
    · have e' : g = g2 := by simpa [Value.ownBlock] using e
      subst e'
      rw [hg] at hg2
      simp at hg2
theorem own_base {w : World} {B B' e size n : Nat} {v : Value} {xs : List Value} (h : w.ownsRow B' e size v n xs) (hB : B ≤ B') : w.ownsRow B e size v n xs :=
  ⟨h.1, h.2.imp id (fun ⟨g, cap, cur, a, b, c⟩ => ⟨g, cap, cur, a, Nat.le_trans hB b, c⟩)⟩
/-- the chunks read so far: their row, and the data of each, all in memory of the call's own -/
def Got (B : Nat) (w : World) (v : Value) (ks : List Ck) : Prop := w.ownsRow B 56 2 v ks.length (cksV ks) ∧ ∀ k ∈ ks, w.ownsRow B 5 1 (.slice k.a k.l k.c) k.l (bytesV k.d)
theorem Got.below {B : Nat} {w w' : World} {v : Value} {ks : List Ck} (h : Got B w v ks) (hb : Below w.heap.size w w') : Got B w' v ks := by
  have hg : w.grownBy w' none := ⟨hb.os, hb.tape, hb.output, hb.size, fun k hk _ => hb.block k hk⟩
  refine ⟨h.1.kept hg ?_, fun k hk => (h.2 k hk).kept hg ?_⟩
  · cases h : v.ownBlock <;> simp
  · cases h : (Value.slice k.a k.l k.c).ownBlock <;> simp
end Go.Proofs.Ytedihackifchcaa
