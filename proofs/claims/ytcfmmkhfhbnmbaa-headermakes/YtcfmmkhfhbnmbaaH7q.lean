/- An argument that is a header by value, opened and shut. -/
import Derived.Test.YtcfmmkhfhbnmbaaH7k
import Derived.Lib.SmallJoins
import Derived.ChangeSame
namespace Go.Proofs.Ytcfmmkhfhbnmbaa
open Go.RowKit Go.ChangeShapes Go.WideShapes
set_option maxHeartbeats 1000000
set_option maxRecDepth 100000
set_option linter.unusedVariables false

theorem list8 {α : Type} {l : List α} (h : l.length = 8) : ∃ c0 c1 c2 c3 c4 c5 c6 c7, l = [c0, c1, c2, c3, c4, c5, c6, c7] := by
  match l, h with
  | [c0, c1, c2, c3, c4, c5, c6, c7], _ => exact ⟨c0, c1, c2, c3, c4, c5, c6, c7, rfl⟩
theorem open_hdr {H : Type} {enc : TypeId × Value → H} {W : World} {r : Reach} {b0 : Nat} {sp : Nat → Bool} {v : Value} {d : DataW H} {p : List MemPlace}
    (hv : Value.okWide Try.prog W r b0 27 v) (h : DataW.Trod enc Try.prog W 0 sp true 27 v d p) :
    ∃ x0 x1 x2 x3 x4 x5 x6 x7 : Int, v = .agg #[.int .u32 x0, .int .u32 x1, .int .u32 x2, .int .u32 x3, .int .u32 x4, .int .u32 x5, .int .u32 x6, .int .u32 x7] ∧
      d = .agg [.lit (.int .u32 x0), .lit (.int .u32 x1), .lit (.int .u32 x2), .lit (.int .u32 x3), .lit (.int .u32 x4), .lit (.int .u32 x5), .lit (.int .u32 x6), .lit (.int .u32 x7)] ∧ p = [] ∧
      (Lit.int .u32 x0).wf = true ∧ (Lit.int .u32 x1).wf = true ∧ (Lit.int .u32 x2).wf = true ∧ (Lit.int .u32 x3).wf = true ∧ (Lit.int .u32 x4).wf = true ∧ (Lit.int .u32 x5).wf = true ∧ (Lit.int .u32 x6).wf = true ∧ (Lit.int .u32 x7).wf = true := by
  obtain ⟨cs, rfl, hsz⟩ := okWide_struct Try.underlying27 hv
  have hsz8 : cs.toList.length = 8 := by
    have : Try.prog.cellsOf 27 = 8 := by kernel_rfl
    rw [this] at hsz
    simpa using hsz
  obtain ⟨c0, c1, c2, c3, c4, c5, c6, c7, hcs⟩ := list8 hsz8
  obtain ⟨fuel, hf⟩ := h
  obtain ⟨xs, n, _, hx, _, hlen, hfld⟩ := DataW.trod_struct Try.underlying27 hf
  obtain ⟨y0, y1, y2, y3, y4, y5, y6, y7, rfl⟩ := list8 (l := xs) hlen
  have e1 : Try.prog.cellsOf 25 = 1 := by kernel_rfl
  have hcl : (Value.agg cs).cells.toList = [c0, c1, c2, c3, c4, c5, c6, c7] := by simpa [Value.cells] using hcs
  rw [hcl] at hfld
  have t0 := hfld 0 _ rfl
  have t1 := hfld 1 _ rfl
  have t2 := hfld 2 _ rfl
  have t3 := hfld 3 _ rfl
  have t4 := hfld 4 _ rfl
  have t5 := hfld 5 _ rfl
  have t6 := hfld 6 _ rfl
  have t7 := hfld 7 _ rfl
  simp [e1] at t0 t1 t2 t3 t4 t5 t6 t7
  obtain ⟨x0, q0, rfl, w0⟩ := DataW.trod_int Try.underlying25 t0
  obtain ⟨x1, q1, rfl, w1⟩ := DataW.trod_int Try.underlying25 t1
  obtain ⟨x2, q2, rfl, w2⟩ := DataW.trod_int Try.underlying25 t2
  obtain ⟨x3, q3, rfl, w3⟩ := DataW.trod_int Try.underlying25 t3
  obtain ⟨x4, q4, rfl, w4⟩ := DataW.trod_int Try.underlying25 t4
  obtain ⟨x5, q5, rfl, w5⟩ := DataW.trod_int Try.underlying25 t5
  obtain ⟨x6, q6, rfl, w6⟩ := DataW.trod_int Try.underlying25 t6
  obtain ⟨x7, q7, rfl, w7⟩ := DataW.trod_int Try.underlying25 t7
  simp at q0 q1 q2 q3 q4 q5 q6 q7
  subst q0 q1 q2 q3 q4 q5 q6 q7
  refine ⟨x0, x1, x2, x3, x4, x5, x6, x7, ?_, ?_, ?_, w0, w1, w2, w3, w4, w5, w6, w7⟩
  · have : cs = #[.int .u32 x0, .int .u32 x1, .int .u32 x2, .int .u32 x3, .int .u32 x4, .int .u32 x5, .int .u32 x6, .int .u32 x7] := by
      obtain ⟨l⟩ := cs
      simp at hcs
      simp [hcs]
    rw [this]
  · simpa using congrArg Prod.fst hx
  · simpa using congrArg Prod.snd hx
theorem shut_hdr {H : Type} {enc : TypeId × Value → H} {W : World} {sp : Nat → Bool} (x0 x1 x2 x3 x4 x5 x6 x7 : Int)
    (w0 : (Lit.int .u32 x0).wf = true) (w1 : (Lit.int .u32 x1).wf = true) (w2 : (Lit.int .u32 x2).wf = true) (w3 : (Lit.int .u32 x3).wf = true) (w4 : (Lit.int .u32 x4).wf = true) (w5 : (Lit.int .u32 x5).wf = true) (w6 : (Lit.int .u32 x6).wf = true) (w7 : (Lit.int .u32 x7).wf = true) :
    DataW.Trod enc Try.prog W 0 sp true 27 (.agg #[.int .u32 x0, .int .u32 x1, .int .u32 x2, .int .u32 x3, .int .u32 x4, .int .u32 x5, .int .u32 x6, .int .u32 x7])
      (.agg [.lit (.int .u32 x0), .lit (.int .u32 x1), .lit (.int .u32 x2), .lit (.int .u32 x3), .lit (.int .u32 x4), .lit (.int .u32 x5), .lit (.int .u32 x6), .lit (.int .u32 x7)]) [] := by
  have e1 : Try.prog.cellsOf 25 = 1 := by kernel_rfl
  have e8 : Try.prog.cellsOf 27 = 8 := by kernel_rfl
  refine ⟨1 + 1, ?_⟩
  have hm := fun (x : Int) (hw : (Lit.int .u32 x).wf = true) => trod_int_mk (enc := enc) (P := Try.prog) (w := W) (base := 0) (spare := sp) (held := true) (n := x) 0 Try.underlying25 hw
  have := trod_struct_mk (enc := enc) (P := Try.prog) (w := W) (base := 0) (spare := sp) (held := true) (n := 1) (cs := [.int .u32 x0, .int .u32 x1, .int .u32 x2, .int .u32 x3, .int .u32 x4, .int .u32 x5, .int .u32 x6, .int .u32 x7])
    (xs := [(.lit (.int .u32 x0), []), (.lit (.int .u32 x1), []), (.lit (.int .u32 x2), []), (.lit (.int .u32 x3), []), (.lit (.int .u32 x4), []), (.lit (.int .u32 x5), []), (.lit (.int .u32 x6), []), (.lit (.int .u32 x7), [])]) Try.underlying27 (by rw [e8]; rfl)
    (by simp [e1, hm x0 w0, hm x1 w1, hm x2 w2, hm x3 w3, hm x4 w4, hm x5 w5, hm x6 w6, hm x7 w7])
  simpa [Value.cells] using this
theorem okH_of {x0 x1 x2 x3 x4 x5 x6 x7 : Int} (w0 : (Lit.int .u32 x0).wf = true) (w1 : (Lit.int .u32 x1).wf = true) (w2 : (Lit.int .u32 x2).wf = true) (w3 : (Lit.int .u32 x3).wf = true) (w4 : (Lit.int .u32 x4).wf = true) (w5 : (Lit.int .u32 x5).wf = true) (w6 : (Lit.int .u32 x6).wf = true) (w7 : (Lit.int .u32 x7).wf = true) : OkH ⟨x0, x1, x2, x3, x4, x5, x6, x7⟩ :=
  ⟨bounds_u32 w0, bounds_u32 w1, bounds_u32 w2, bounds_u32 w3, bounds_u32 w4, bounds_u32 w5, bounds_u32 w6, bounds_u32 w7⟩
end Go.Proofs.Ytcfmmkhfhbnmbaa
