/- Layer 15: an argument that is a slice of steps, opened. -/
import Derived.Test.YtmohnopegacahaaW15e
import Derived.Deep.Slices
import Derived.Deep.SlicePairs
import Derived.ChangeSlices
import Derived.SizedLaws
import Derived.Lib.SmallJoins
namespace Go.Proofs.Ytmohnopegacahaa
open Go.RowKit Go.ChangeShapes Go.WideShapes
set_option maxHeartbeats 1000000
set_option maxRecDepth 100000
set_option linter.unusedVariables false

/-- a step: its kind, a character, by how much, from where -/
structure St where
  k : Int
  c : Nat
  a : Int
  f : Int
def St.ok (x : St) : Prop := x.c < 4294967296 ∧ (-9223372036854775808 ≤ x.k ∧ x.k ≤ 9223372036854775807) ∧ (-9223372036854775808 ≤ x.a ∧ x.a ≤ 9223372036854775807) ∧ (-9223372036854775808 ≤ x.f ∧ x.f ≤ 9223372036854775807)
/-- steps that came in -/
structure IsSteps (w : World) (a : Option Addr) (len cap : Nat) (ss : List St) : Prop where
  ln : ss.length = len
  ok : ∀ x ∈ ss, x.ok
  cells : ∀ i (hi : i < ss.length), ∃ b o, a = some ⟨b, o, none⟩ ∧ w.cell? ⟨b, o + i * 4, none⟩ = some (.int .i64 ss[i].k) ∧ w.cell? ⟨b, o + i * 4 + 1, none⟩ = some (.int .u32 ss[i].c) ∧ w.cell? ⟨b, o + i * 4 + 2, none⟩ = some (.int .i64 ss[i].a) ∧ w.cell? ⟨b, o + i * 4 + 3, none⟩ = some (.int .i64 ss[i].f)
theorem cell_lt {w : World} {b i : Nat} {u : Value} (h : w.cell? ⟨b, i, none⟩ = some u) : b < w.heap.size := by
  unfold World.cell? at h
  simp only at h
  cases hq : w.heap[b]? with
  | none => rw [hq] at h; simp at h
  | some o => exact (Array.getElem?_eq_some_iff.1 hq).1
theorem IsSteps.later {w w' : World} {a : Option Addr} {len cap : Nat} {ss : List St} (h : IsSteps w a len cap ss) (hb : Below w.heap.size w w') : IsSteps w' a len cap ss :=
  ⟨h.ln, h.ok, fun i hi => by
    obtain ⟨b, o, e, c0, c1, c2, c3⟩ := h.cells i hi
    have hbl := hb.block b (cell_lt c0)
    exact ⟨b, o, e, (World.cell?_of_block hbl).trans c0, (World.cell?_of_block hbl).trans c1, (World.cell?_of_block hbl).trans c2, (World.cell?_of_block hbl).trans c3⟩⟩
theorem bounds_i64 {n : Int} (h : (Lit.int .i64 n).wf = true) : -9223372036854775808 ≤ n ∧ n ≤ 9223372036854775807 := by
  simp [Lit.wf, IntKind.min, IntKind.max, IntKind.signed, IntKind.bits] at h
  omega
theorem open_steps {H : Type} {enc : TypeId × Value → H} {W : World} {fuel : Nat} {a : Option Addr} {len cap : Nat} {x : DataW H × List MemPlace} (h : DataW.trod enc Try.prog W 0 (fun _ => true) true fuel 46 [.slice a len cap] = some x) :
    ∃ ss, IsSteps W a len cap ss := by
  rcases Go.Deep.open_slice Try.underlying46 h with ⟨hcs, _⟩ | ⟨y, l, c, m, n, D, Pl, hcs, _, hl, hm, hmm, hx, hc⟩
  · simp only [List.cons.injEq, and_true, Value.slice.injEq] at hcs
    obtain ⟨rfl, rfl, rfl⟩ := hcs
    exact ⟨[], rfl, (fun b hb => by cases hb), fun i hi => by simp at hi⟩
  · simp only [List.cons.injEq, and_true, Value.slice.injEq] at hcs
    obtain ⟨rfl, rfl, rfl⟩ := hcs
    simp only [if_true] at hmm
    subst hmm
    haveI : Inhabited St := ⟨⟨0, 0, 0, 0⟩⟩
    obtain ⟨q, hq⟩ := Go.Deep.choose_lt (α := St) (n := len) (p := fun i r => W.cell? (y.add (i * 4)) = some (.int .i64 r.k) ∧ W.cell? (y.add (i * 4 + 1)) = some (.int .u32 r.c) ∧ W.cell? (y.add (i * 4 + 2)) = some (.int .i64 r.a) ∧ W.cell? (y.add (i * 4 + 3)) = some (.int .i64 r.f) ∧ r.ok) (fun i hi => by
      obtain ⟨cs', h1, h2⟩ := hc i (by omega)
      rw [show Try.prog.cellsOf 48 = 4 by kernel_rfl] at h1
      obtain ⟨_, hlen4, hcell⟩ := World.cells?_some h1
      obtain ⟨y0, y1, y2, y3, n', hxy, _, t0, t1, t2, t3⟩ := Go.Joins.trod_struct4 Try.underlying48 h2
      match cs', hlen4 with
      | [v0, v1, v2, v3], _ =>
        have f0 := hcell 0 (by omega)
        have f1 := hcell 1 (by omega)
        have f2 := hcell 2 (by omega)
        have f3 := hcell 3 (by omega)
        rw [Go.Deep.add_add] at f0 f1 f2 f3
        replace t0 : DataW.trod enc Try.prog W 0 (fun _ => true) true n' 3 [v0] = some y0 := t0
        replace t1 : DataW.trod enc Try.prog W 0 (fun _ => true) true n' 32 [v1] = some y1 := t1
        replace t2 : DataW.trod enc Try.prog W 0 (fun _ => true) true n' 3 [v2] = some y2 := t2
        replace t3 : DataW.trod enc Try.prog W 0 (fun _ => true) true n' 3 [v3] = some y3 := t3
        obtain ⟨x0, e0, hx0, w0⟩ := DataW.trod_int Try.underlying3 t0
        obtain ⟨x1, e1, hx1, w1⟩ := DataW.trod_int Try.underlying32 t1
        obtain ⟨x2, e2, hx2, w2⟩ := DataW.trod_int Try.underlying3 t2
        obtain ⟨x3, e3, hx3, w3⟩ := DataW.trod_int Try.underlying3 t3
        simp only [List.cons.injEq, and_true] at e0 e1 e2 e3
        subst e0 e1 e2 e3
        have b1 := bounds_u32 w1
        obtain ⟨z1, rfl⟩ := Int.eq_ofNat_of_zero_le b1.1
        exact ⟨⟨x0, z1, x2, x3⟩, by simpa using f0, by simpa using f1, by simpa using f2, by simpa using f3, ⟨by show z1 < 4294967296; omega, bounds_i64 w0, bounds_i64 w2, bounds_i64 w3⟩⟩)
    refine ⟨(List.range len).map q, by simp, fun b hb => ?_, fun i hi => ?_⟩
    · obtain ⟨i, hi, rfl⟩ := List.mem_map.1 hb
      exact (hq i (List.mem_range.1 hi)).2.2.2.2
    · have hi2 : i < len := by simpa using hi
      obtain ⟨b, off, spot⟩ := y
      obtain ⟨g0, g1, g2, g3, _⟩ := hq i hi2
      have hc0 := (hq 0 (by omega)).1
      have hspot : spot = none := by simpa [Addr.add] using World.cell?_spot hc0
      subst hspot
      rw [Addr.add_lit] at g0 g1 g2 g3
      simp only [List.getElem_map, List.getElem_range]
      exact ⟨b, off, rfl, g0, by rw [Nat.add_assoc]; exact g1, by rw [Nat.add_assoc]; exact g2, by rw [Nat.add_assoc]; exact g3⟩
end Go.Proofs.Ytmohnopegacahaa
