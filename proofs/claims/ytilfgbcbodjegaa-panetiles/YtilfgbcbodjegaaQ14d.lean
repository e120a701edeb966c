/- Layer 14: the walk of PaneNil; an act by value, opened. -/
import Derived.Test.YtilfgbcbodjegaaQ14c
import Derived.Lib.SmallJoins
import Derived.ChangeSame
namespace Go.Proofs.Ytilfgbcbodjegaa
open Go.RowKit Go.ChangeShapes Go.WideShapes
set_option maxHeartbeats 1000000
set_option maxRecDepth 100000
set_option linter.unusedVariables false

theorem list6s {α : Type} {l : List α} (h : l.length = 6) : ∃ c0 c1 c2 c3 c4 c5, l = [c0, c1, c2, c3, c4, c5] := by
  match l, h with
  | [c0, c1, c2, c3, c4, c5], _ => exact ⟨c0, c1, c2, c3, c4, c5, rfl⟩
/-- an act: its kind, its three numbers, its size, whether it is near -/
structure Ac where
  k : Int
  a : Int
  b : Int
  c : Int
  s : Int
  near : Bool
def Ac.ok (x : Ac) : Prop := (Lit.int .i64 x.k).wf = true ∧ (Lit.int .i64 x.a).wf = true ∧ (Lit.int .i64 x.b).wf = true ∧ (Lit.int .i64 x.c).wf = true ∧ (Lit.int .u32 x.s).wf = true
theorem open_ac {H : Type} {enc : TypeId × Value → H} {W : World} {r : Reach} {b0 : Nat} {sp : Nat → Bool} {v : Value} {d : DataW H} {p : List MemPlace}
    (hv : Value.okWide Try.prog W r b0 26 v) (h : DataW.Trod enc Try.prog W 0 sp true 26 v d p) :
    ∃ x : Ac, v = .agg #[.int .i64 x.k, .int .i64 x.a, .int .i64 x.b, .int .i64 x.c, .int .u32 x.s, .bool x.near] ∧ x.ok := by
  obtain ⟨cs, rfl, hsz⟩ := okWide_struct Try.underlying26 hv
  have hsz6 : cs.toList.length = 6 := by
    have : Try.prog.cellsOf 26 = 6 := by kernel_rfl
    rw [this] at hsz
    simpa using hsz
  obtain ⟨c0, c1, c2, c3, c4, c5, hcs⟩ := list6s hsz6
  obtain ⟨fuel, hf⟩ := h
  obtain ⟨xs, n, _, hx, _, hlen, hfld⟩ := DataW.trod_struct Try.underlying26 hf
  obtain ⟨y0, y1, y2, y3, y4, y5, rfl⟩ := list6s (l := xs) hlen
  have e1 : Try.prog.cellsOf 24 = 1 := by kernel_rfl
  have e2 : Try.prog.cellsOf 3 = 1 := by kernel_rfl
  have e3 : Try.prog.cellsOf 4 = 1 := by kernel_rfl
  have hcl : (Value.agg cs).cells.toList = [c0, c1, c2, c3, c4, c5] := by simpa [Value.cells] using hcs
  rw [hcl] at hfld
  have t0 := hfld 0 _ rfl
  have t1 := hfld 1 _ rfl
  have t2 := hfld 2 _ rfl
  have t3 := hfld 3 _ rfl
  have t4 := hfld 4 _ rfl
  have t5 := hfld 5 _ rfl
  simp [e1, e2, e3] at t0 t1 t2 t3 t4 t5
  obtain ⟨x0, q0, rfl, w0⟩ := DataW.trod_int Try.underlying3 t0
  obtain ⟨x1, q1, rfl, w1⟩ := DataW.trod_int Try.underlying3 t1
  obtain ⟨x2, q2, rfl, w2⟩ := DataW.trod_int Try.underlying3 t2
  obtain ⟨x3, q3, rfl, w3⟩ := DataW.trod_int Try.underlying3 t3
  obtain ⟨x4, q4, rfl, w4⟩ := DataW.trod_int Try.underlying24 t4
  obtain ⟨x5, q5, rfl⟩ := DataW.trod_bool Try.underlying4 t5
  simp at q0 q1 q2 q3 q4 q5
  subst q0 q1 q2 q3 q4 q5
  refine ⟨⟨x0, x1, x2, x3, x4, x5⟩, ?_, w0, w1, w2, w3, w4⟩
  have : cs = #[.int .i64 x0, .int .i64 x1, .int .i64 x2, .int .i64 x3, .int .u32 x4, .bool x5] := by
    obtain ⟨l⟩ := cs
    simp at hcs
    simp [hcs]
  rw [this]
/-- an act that lies in a block of its own -/
def AcAt (w : World) (b : Nat) (x : Ac) : Prop := w.heap[b]? = some (.cells #[.int .i64 x.k, .int .i64 x.a, .int .i64 x.b, .int .i64 x.c, .int .u32 x.s, .bool x.near] 26 (0, 0))
theorem AcAt.later {w w' : World} {b : Nat} {x : Ac} (h : AcAt w b x) (hb : Below w.heap.size w w') : AcAt w' b x := by
  unfold AcAt at h ⊢
  rw [hb.block b (Array.getElem?_eq_some_iff.1 h).1]; exact h
theorem AcAt.cells {w : World} {b : Nat} {x : Ac} (h : AcAt w b x) : w.cell? ⟨b, 1, none⟩ = some (.int .i64 x.a) ∧ w.cell? ⟨b, 2, none⟩ = some (.int .i64 x.b) ∧ w.cell? ⟨b, 3, none⟩ = some (.int .i64 x.c) ∧ w.cell? ⟨b, 4, none⟩ = some (.int .u32 x.s) ∧ w.cell? ⟨b, 0, none⟩ = some (.int .i64 x.k) ∧ w.cell? ⟨b, 5, none⟩ = some (.bool x.near) := by
  unfold AcAt at h
  exact ⟨by simp [World.cell?, h], by simp [World.cell?, h], by simp [World.cell?, h], by simp [World.cell?, h], by simp [World.cell?, h], by simp [World.cell?, h]⟩
end Go.Proofs.Ytilfgbcbodjegaa
