/- What the two listed variables of package reals give a walk: the formats of singles and of doubles. -/
import Derived.Test.YthfjjkikeebopaaDoorRows
import Derived.Test.YthfjjkikeebopaaDoorQ2a
import Derived.LaidMore
import Derived.Stop.Joined
import Derived.OpenShut
import Derived.Lib.LaidU8
import Derived.Handy
namespace Go.Proofs.YthfjjkikeebopaaDoor
open Go.RowKit

/-- the two variables read as the program's text lays them -/
def Laid (w : World) : Prop := w.cell? ⟨0, 0, none⟩ = some (.int .i64 23) ∧ w.cell? ⟨0, 1, none⟩ = some (.int .i64 8) ∧ w.cell? ⟨1, 0, none⟩ = some (.int .i64 52) ∧ w.cell? ⟨1, 1, none⟩ = some (.int .i64 11)
theorem Laid.later {w w' : World} (h : Laid w) (hb : Below w.heap.size w w') : Laid w' := ⟨cellLater hb h.1, cellLater hb h.2.1, cellLater hb h.2.2.1, cellLater hb h.2.2.2⟩
theorem fmt_cells {W : World} {nm : String} {g : Nat} {a b : Int} (hg : Tryd.prog.globalNamed nm = some g) (ht : (Tryd.prog.globals[g]?).map (·.type) = some 36) (h : Lib.VarReads Tryd.prog W nm (.agg [.lit (.int .i64 a), .lit (.int .i64 b)])) :
    W.cell? ⟨g, 0, none⟩ = some (.int .i64 a) ∧ W.cell? ⟨g, 1, none⟩ = some (.int .i64 b) := by
  obtain ⟨g', t', cs, fuel, p, hg', ht', hv, hd⟩ := h
  obtain rfl := Option.some.inj (hg.symm.trans hg')
  obtain rfl := Option.some.inj (ht.symm.trans ht')
  have hc := Lib.ints_of_struct (k := .i64) (zs := [a, b]) Tryd.underlying36 (fun i f hi => by
    match i with
    | 0 => simp at hi; subst hi; exact ⟨Tryd.underlying3, rfl, by kernel_rfl⟩
    | 1 => simp at hi; subst hi; exact ⟨Tryd.underlying3, rfl, by kernel_rfl⟩
    | i + 2 => simp at hi) (by kernel_rfl) hd
  have hcs : cs = #[.int .i64 a, .int .i64 b] := by
    cases cs
    simpa using hc
  subst hcs
  have h0 := World.var?_cell hg hv 0
  have h1 := World.var?_cell hg hv 1
  exact ⟨by simpa using h0, by simpa using h1⟩
theorem laid_of {W : World} (h : laidMetH Tryd.prog [("grotto/reals.singles", Rows.laid_grotto_reals_singles), ("grotto/reals.doubles", Rows.laid_grotto_reals_doubles)] W) : Laid W := by
  rw [MakeChecks.laidMetH_plain _ _ _ (by kernel_rfl)] at h
  have h1 := fmt_cells (nm := "grotto/reals.singles") (g := 0) (by kernel_rfl) (by kernel_rfl) (Lib.laidMet.reads h (d := Rows.laid_grotto_reals_singles) (by simp))
  have h2 := fmt_cells (nm := "grotto/reals.doubles") (g := 1) (by kernel_rfl) (by kernel_rfl) (Lib.laidMet.reads h (d := Rows.laid_grotto_reals_doubles) (by simp))
  exact ⟨h1.1, h1.2, h2.1, h2.2⟩
end Go.Proofs.YthfjjkikeebopaaDoor
