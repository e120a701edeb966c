/- Layer 18: acts on a table that came in. -/
import Derived.Test.YtpgppdkbkkljnaaN19l
import Derived.Deep.Slices
import Derived.Deep.Strs
import Derived.Deep.SlicePairs
import Derived.ChangeSlices
import Derived.SizedLaws
import Derived.Lib.SmallJoins
namespace Go.Proofs.Ytpgppdkbkkljnaa
open Go.RowKit Go.ChangeShapes Go.WideShapes
set_option maxHeartbeats 1000000
set_option maxRecDepth 100000
set_option linter.unusedVariables false

def Ac18.ok (c : Ac18) : Prop := c.a < 4294967296 ∧ c.x < 4294967296
/-- acts that came in -/
structure IsA18 (w : World) (a : Option Addr) (len cap : Nat) (ls : List Ac18) : Prop where
  ln : ls.length = len
  ok : ∀ c ∈ ls, c.ok
  cells : ∀ i (hi : i < ls.length), ∃ b o, a = some ⟨b, o, none⟩ ∧ w.cell? ⟨b, o + i * 3, none⟩ = some (.int .i64 ls[i].k) ∧ w.cell? ⟨b, o + i * 3 + 1, none⟩ = some (.int .u32 ls[i].a) ∧ w.cell? ⟨b, o + i * 3 + 2, none⟩ = some (.int .u32 ls[i].x)
theorem IsA18.later {w w' : World} {a : Option Addr} {len cap : Nat} {ls : List Ac18} (h : IsA18 w a len cap ls) (hb : Below w.heap.size w w') : IsA18 w' a len cap ls :=
  ⟨h.ln, h.ok, fun i hi => by
    obtain ⟨b, o, e, c0, c1, c2⟩ := h.cells i hi
    exact ⟨b, o, e, cellLater hb c0, cellLater hb c1, cellLater hb c2⟩⟩
theorem open_acts18 {H : Type} {enc : TypeId × Value → H} {W : World} {fuel : Nat} {a : Option Addr} {len cap : Nat} {x : DataW H × List MemPlace} (h : DataW.trod enc Try.prog W 0 (fun _ => true) true fuel 22 [.slice a len cap] = some x) :
    ∃ ls, IsA18 W a len cap ls := by
  rcases Go.Deep.open_slice Try.underlying22 h with ⟨hcs, _⟩ | ⟨y, l, c, m, n, D, Pl, hcs, _, hl, hm, hmm, hx, hc⟩
  · simp only [List.cons.injEq, and_true, Value.slice.injEq] at hcs
    obtain ⟨rfl, rfl, rfl⟩ := hcs
    exact ⟨[], rfl, (fun b hb => by cases hb), fun i hi => by simp at hi⟩
  · simp only [List.cons.injEq, and_true, Value.slice.injEq] at hcs
    obtain ⟨rfl, rfl, rfl⟩ := hcs
    simp only [if_true] at hmm
    subst hmm
    haveI : Inhabited Ac18 := ⟨⟨0, 0, 0⟩⟩
    obtain ⟨q, hq⟩ := Go.Deep.choose_lt (α := Ac18) (n := len) (p := fun i r => W.cell? (y.add (i * 3)) = some (.int .i64 r.k) ∧ W.cell? (y.add (i * 3 + 1)) = some (.int .u32 r.a) ∧ W.cell? (y.add (i * 3 + 2)) = some (.int .u32 r.x) ∧ r.ok) (fun i hi => by
      obtain ⟨cs', h1, h2⟩ := hc i (by omega)
      rw [show Try.prog.cellsOf 28 = 3 by kernel_rfl] at h1
      obtain ⟨_, hlen4, hcell⟩ := World.cells?_some h1
      obtain ⟨y0, y1, y2, n', hxy, _, t0, t1, t2⟩ := Go.Deep.trod_struct3 Try.underlying28 h2
      match cs', hlen4 with
      | [v0, v1, v2], _ =>
        have f0 := hcell 0 (by omega)
        have f1 := hcell 1 (by omega)
        have f2 := hcell 2 (by omega)
        rw [Go.Deep.add_add] at f0 f1 f2
        replace t0 : DataW.trod enc Try.prog W 0 (fun _ => true) true n' 3 [v0] = some y0 := t0
        replace t1 : DataW.trod enc Try.prog W 0 (fun _ => true) true n' 26 [v1] = some y1 := t1
        replace t2 : DataW.trod enc Try.prog W 0 (fun _ => true) true n' 26 [v2] = some y2 := t2
        obtain ⟨x0, e0, hx0, w0⟩ := DataW.trod_int Try.underlying3 t0
        obtain ⟨x1, e1, hx1, w1⟩ := DataW.trod_int Try.underlying26 t1
        obtain ⟨x2, e2, hx2, w2⟩ := DataW.trod_int Try.underlying26 t2
        simp only [List.cons.injEq, and_true] at e0 e1 e2
        subst e0 e1 e2
        have b1 := bounds_u32 w1
        have b2 := bounds_u32 w2
        obtain ⟨z1, rfl⟩ := Int.eq_ofNat_of_zero_le b1.1
        obtain ⟨z2, rfl⟩ := Int.eq_ofNat_of_zero_le b2.1
        exact ⟨⟨x0, z1, z2⟩, by simpa using f0, by simpa using f1, by simpa using f2, ⟨by show z1 < 4294967296; omega, by show z2 < 4294967296; omega⟩⟩)
    refine ⟨(List.range len).map q, by simp, fun b hb => ?_, fun i hi => ?_⟩
    · obtain ⟨i, hi, rfl⟩ := List.mem_map.1 hb
      exact (hq i (List.mem_range.1 hi)).2.2.2
    · have hi2 : i < len := by simpa using hi
      obtain ⟨b, off, spot⟩ := y
      obtain ⟨g0, g1, g2, _⟩ := hq i hi2
      have hc0 := (hq 0 (by omega)).1
      have hspot : spot = none := by simpa [Addr.add] using World.cell?_spot hc0
      subst hspot
      rw [Addr.add_lit] at g0 g1 g2
      simp only [List.getElem_map, List.getElem_range]
      exact ⟨b, off, rfl, g0, by rw [Nat.add_assoc]; exact g1, by rw [Nat.add_assoc]; exact g2⟩
end Go.Proofs.Ytpgppdkbkkljnaa
