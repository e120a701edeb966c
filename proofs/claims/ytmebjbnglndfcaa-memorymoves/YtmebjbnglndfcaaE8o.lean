/- An argument that is a slice of blocks, opened. -/
import Derived.Test.YtmebjbnglndfcaaE8n
import Derived.Deep.Slices
import Derived.Deep.SlicePairs
import Derived.ChangeSlices
import Derived.SizedLaws
import Derived.Lib.SmallJoins
namespace Go.Proofs.Ytmebjbnglndfcaa
open Go.RowKit Go.ChangeShapes Go.WideShapes
set_option maxHeartbeats 1000000
set_option maxRecDepth 100000
set_option linter.unusedVariables false

theorem bounds_u328 {n : Int} (h : (Lit.int .u32 n).wf = true) : 0 ≤ n ∧ n ≤ 4294967295 := by
  simp [Lit.wf, IntKind.min, IntKind.max, IntKind.signed, IntKind.bits] at h
  omega
theorem bounds_u16 {n : Int} (h : (Lit.int .u16 n).wf = true) : 0 ≤ n ∧ n ≤ 65535 := by
  simp [Lit.wf, IntKind.min, IntKind.max, IntKind.signed, IntKind.bits] at h
  omega
/-- blocks that came in -/
def IsBks (w : World) (a : Option Addr) (len cap : Nat) (bs : List Bk) : Prop := Bks w a len cap bs ∧ FitB bs
theorem open_blocks {H : Type} {enc : TypeId × Value → H} {W : World} {fuel : Nat} {a : Option Addr} {len cap : Nat} {x : DataW H × List MemPlace} (h : DataW.trod enc Try.prog W 0 (fun _ => true) true fuel 40 [.slice a len cap] = some x) :
    ∃ bs, IsBks W a len cap bs := by
  rcases Go.Deep.open_slice Try.underlying40 h with ⟨hcs, _⟩ | ⟨y, l, c, m, n, D, Pl, hcs, _, hl, hm, hmm, hx, hc⟩
  · simp only [List.cons.injEq, and_true, Value.slice.injEq] at hcs
    obtain ⟨rfl, rfl, rfl⟩ := hcs
    exact ⟨[], ⟨rfl, Nat.le_refl _, by decide, fun _ => ⟨rfl, rfl⟩, fun h => by omega⟩, fun b hb => by cases hb⟩
  · simp only [List.cons.injEq, and_true, Value.slice.injEq] at hcs
    obtain ⟨rfl, rfl, rfl⟩ := hcs
    simp only [if_true] at hmm
    subst hmm
    haveI : Inhabited Bk := ⟨⟨0, 0⟩⟩
    obtain ⟨q, hq⟩ := Go.Deep.choose_lt (α := Bk) (n := len) (p := fun i r => W.cell? (y.add (i * 2)) = some (.int .u32 r.a) ∧ W.cell? (y.add (i * 2 + 1)) = some (.int .u32 r.l) ∧ r.a < 4294967296 ∧ r.l < 4294967296) (fun i hi => by
      obtain ⟨cs', h1, h2⟩ := hc i (by omega)
      rw [show Try.prog.cellsOf 99 = 2 by kernel_rfl] at h1
      obtain ⟨_, hlen4, hcell⟩ := World.cells?_some h1
      obtain ⟨y0, y1, n', hxy, _, t0, t1⟩ := trod_struct2 Try.underlying99 h2
      match cs', hlen4 with
      | [v0, v1], _ =>
        have f0 := hcell 0 (by omega)
        have f1 := hcell 1 (by omega)
        rw [Go.Deep.add_add] at f0 f1
        replace t0 : DataW.trod enc Try.prog W 0 (fun _ => true) true n' 23 [v0] = some y0 := t0
        replace t1 : DataW.trod enc Try.prog W 0 (fun _ => true) true n' 23 [v1] = some y1 := t1
        obtain ⟨x0, e0, hx0, w0⟩ := DataW.trod_int Try.underlying23 t0
        obtain ⟨x1, e1, hx1, w1⟩ := DataW.trod_int Try.underlying23 t1
        simp only [List.cons.injEq, and_true] at e0 e1
        subst e0 e1
        have b0 := bounds_u328 w0
        have b1 := bounds_u328 w1
        obtain ⟨z0, rfl⟩ := Int.eq_ofNat_of_zero_le b0.1
        obtain ⟨z1, rfl⟩ := Int.eq_ofNat_of_zero_le b1.1
        exact ⟨⟨z0, z1⟩, by simpa using f0, by simpa using f1, by simp only; omega, by simp only; omega⟩)
    refine ⟨(List.range len).map q, ⟨by simp, hl, hm, (fun e => by cases e), fun h0 => ?_⟩, fun b hb => ?_⟩
    · obtain ⟨b, off, spot⟩ := y
      have hc0 := (hq 0 (by omega)).1
      have hspot : spot = none := by simpa [Addr.add] using World.cell?_spot hc0
      subst hspot
      refine ⟨b, off, rfl, fun j u hj => ?_⟩
      have hjl := (List.getElem?_eq_some_iff.1 hj).1
      rw [bksV_len] at hjl
      simp only [List.length_map, List.length_range] at hjl
      obtain ⟨i, r, hr, rfl⟩ : ∃ i r, r < 2 ∧ j = i * 2 + r := ⟨j / 2, j % 2, by omega, by omega⟩
      have hi : i < len := by omega
      have hat := bksV_at ((List.range len).map q) i (by simpa using hi)
      simp only [List.getElem_map, List.getElem_range] at hat
      obtain ⟨g0, g1, -, -⟩ := hq i hi
      rw [Addr.add_lit] at g0 g1
      by_cases hr0 : r = 0
      · subst hr0
        rw [Nat.add_zero] at hj ⊢
        rw [hat.1] at hj
        cases hj
        exact g0
      · obtain rfl : r = 1 := by omega
        rw [hat.2] at hj
        cases hj
        exact g1
    · obtain ⟨i, hi, rfl⟩ := List.mem_map.1 hb
      obtain ⟨-, -, g2, g3⟩ := hq i (List.mem_range.1 hi)
      exact ⟨g2, g3⟩
end Go.Proofs.Ytmebjbnglndfcaa
