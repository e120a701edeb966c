/- An argument that is a slice of resources, opened. -/
import Derived.Test.YtedihackifchcaaX6o
import Derived.Deep.Slices
import Derived.Deep.SlicePairs
import Derived.ChangeSlices
import Derived.SizedLaws
import Derived.Lib.SmallJoins
namespace Go.Proofs.Ytedihackifchcaa
open Go.RowKit Go.ChangeShapes Go.WideShapes
set_option maxHeartbeats 1000000
set_option maxRecDepth 100000
set_option linter.unusedVariables false

/-- what a walk is told of a slice of integers that came in: nil, or a row of cap cells -/
def IsRow (k : IntKind) (w : World) (a : Option Addr) (len cap : Nat) (zs : List Int) : Prop :=
  (a = none ∧ len = 0 ∧ cap = 0 ∧ zs = []) ∨
  ∃ x, a = some x ∧ len ≤ cap ∧ cap ≤ maxLen ∧ zs.length = cap ∧ (∀ i, i < zs.length → w.cell? (x.add i) = some (.int k (zs.getD i 0))) ∧ ∀ n ∈ zs, (Lit.int k n).wf = true
theorem reads_of_row {w : World} {a : Option Addr} {len cap : Nat} {zs : List Int} (h : IsRow .u8 w a len cap zs) : Reads w a len cap (zs.take len) ∧ OkB (zs.take len) ∧ len ≤ 9223372036854775807 := by
  rcases h with ⟨rfl, rfl, rfl, rfl⟩ | ⟨x, rfl, hl, hm, hz, hcell, hwz⟩
  · exact ⟨⟨rfl, Nat.le_refl _, .inl ⟨rfl, rfl, rfl⟩⟩, (fun c hc => by cases hc), by decide⟩
  · refine ⟨⟨by simp; omega, hl, .inr ⟨x, rfl, fun i hi => ?_⟩⟩, fun c hc => ?_, by unfold maxLen at hm; omega⟩
    · rw [hcell i (by omega)]
      simp [List.getD_eq_getElem?_getD, hi]
    · exact bounds_u8 (hwz c (List.mem_of_mem_take hc))
theorem weights_mem_all {H : Type} {P : Program} {e : TypeId} {d : DataW H} {n : Nat} : ∀ {ds : List (DataW H)}, d ∈ ds → n ∈ d.weights P e → n ∈ DataW.weightsAll P e ds
  | d0 :: ds, hd, hn => by
    simp only [DataW.weightsAll, List.mem_append]
    rcases List.mem_cons.1 hd with rfl | h
    · exact .inl hn
    · exact .inr (weights_mem_all h hn)
  | [], hd, _ => by cases hd
theorem open_data {H : Type} {enc : TypeId × Value → H} {W : World} {fuel : Nat} {v : Value} {x : DataW H × List MemPlace} (h : DataW.trod enc Try.prog W 0 (fun _ => true) true fuel 22 [v] = some x) (hw : ∀ n ∈ x.1.weights Try.prog 22, n ≤ reachBytes) :
    ∃ a l c d, v = .slice a l c ∧ Reads W a l c d ∧ OkB d ∧ l ≤ 281474976710656 := by
  rcases open_ints Try.underlying22 Try.underlying5 (by kernel_rfl) h with ⟨hcs, _⟩ | ⟨a, l, c, zs, hcs, _, hl, hm, hz, hx, hcell, hwz⟩
  · simp only [List.cons.injEq, and_true] at hcs
    exact ⟨none, 0, 0, [], hcs, ⟨rfl, Nat.le_refl _, .inl ⟨rfl, rfl, rfl⟩⟩, (fun c hc => by cases hc), by omega⟩
  · simp only [List.cons.injEq, and_true] at hcs
    simp only [if_true] at hz
    have hwt : (zs.length) * Try.prog.bytesOf 5 ≤ reachBytes := by
      refine hw _ ?_
      rw [hx]
      simp only [DataW.weights, Try.underlying22, lits, List.length_map, List.length_take, List.length_drop]
      rw [show min l zs.length + (zs.length - l) = zs.length by omega]
      exact List.mem_cons_self
    rw [show Try.prog.bytesOf 5 = 1 by kernel_rfl] at hwt
    have hr := reachBytes_lt
    refine ⟨some a, l, c, zs.take l, hcs, ⟨by simp; omega, hl, .inr ⟨a, rfl, fun i hi => ?_⟩⟩, fun c hc => ?_, by omega⟩
    · rw [hcell i (by omega)]
      simp [List.getD_eq_getElem?_getD, hi]
    · exact bounds_u8 (hwz c (List.mem_of_mem_take hc))
theorem bounds_u32 {n : Int} (h : (Lit.int .u32 n).wf = true) : 0 ≤ n ∧ n ≤ 4294967295 := by
  simp [Lit.wf, IntKind.min, IntKind.max, IntKind.signed, IntKind.bits] at h
  omega
theorem open_resources {H : Type} {enc : TypeId × Value → H} {W : World} {fuel : Nat} {a : Option Addr} {len cap : Nat} {x : DataW H × List MemPlace} (h : DataW.trod enc Try.prog W 0 (fun _ => true) true fuel 32 [.slice a len cap] = some x) (hw : ∀ n ∈ x.1.weights Try.prog 32, n ≤ reachBytes) :
    ∃ rs, IsRks W a len cap rs := by
  rcases Go.Deep.open_slice Try.underlying32 h with ⟨hcs, _⟩ | ⟨y, l, c, m, n, D, Pl, hcs, _, hl, hm, hmm, hx, hc⟩
  · simp only [List.cons.injEq, and_true, Value.slice.injEq] at hcs
    obtain ⟨rfl, rfl, rfl⟩ := hcs
    exact ⟨[], ⟨rfl, Nat.le_refl _, .inl rfl, fun k hk => by cases hk⟩, by omega, (fun k hk => by cases hk), fun _ => rfl⟩
  · simp only [List.cons.injEq, and_true, Value.slice.injEq] at hcs
    obtain ⟨rfl, rfl, rfl⟩ := hcs
    simp only [if_true] at hmm
    subst hmm
    have hr := reachBytes_lt
    have hlen : len * Try.prog.bytesOf 49 ≤ reachBytes := by
      refine Nat.le_trans (Nat.mul_le_mul_right _ ?_) (hw _ (by rw [hx]; simp only [DataW.weights, Try.underlying32]; exact List.mem_cons_self))
      simp
    rw [show Try.prog.bytesOf 49 = 64 by kernel_rfl] at hlen
    haveI : Inhabited Rk := ⟨⟨⟨#[]⟩, 0, ⟨#[]⟩, none, 0, 0, []⟩⟩
    obtain ⟨q, hq⟩ := Go.Deep.choose_lt (α := Rk) (n := len) (p := fun i r => W.cell? (y.add (i * 4)) = some (.string r.u) ∧ W.cell? (y.add (i * 4 + 1)) = some (.int .u32 r.x) ∧ W.cell? (y.add (i * 4 + 2)) = some (.string r.id) ∧ W.cell? (y.add (i * 4 + 3)) = some (.slice r.a r.l r.c) ∧
        Reads W r.a r.l r.c r.d ∧ OkB r.d ∧ 0 ≤ r.x ∧ r.x ≤ 4294967295 ∧ r.l ≤ 281474976710656 ∧ r.id.size ≤ 281474976710656 ∧ r.u.size ≤ 281474976710656) (fun i hi => by
      obtain ⟨cs', h1, h2⟩ := hc i (by omega)
      rw [show Try.prog.cellsOf 49 = 4 by kernel_rfl] at h1
      obtain ⟨_, hlen4, hcell⟩ := World.cells?_some h1
      obtain ⟨y0, y1, y2, y3, n', hxy, _, t0, t1, t2, t3⟩ := Go.Joins.trod_struct4 Try.underlying49 h2
      have hin : ∀ n ∈ (D i).weights Try.prog 49, n ≤ reachBytes := fun n hn => by
        refine hw n ?_
        rw [hx]
        simp only [DataW.weights, Try.underlying32]
        exact List.mem_cons_of_mem _ (List.mem_append.2 (.inl (weights_mem_all (List.mem_map.2 ⟨i, List.mem_range.2 hi, rfl⟩) hn)))
      have hDi : D i = .agg [y0.1, y1.1, y2.1, y3.1] := congrArg Prod.fst hxy
      have e : (DataW.agg [y0.1, y1.1, y2.1, y3.1]).weights Try.prog 49 = y0.1.weights Try.prog 9 ++ (y1.1.weights Try.prog 24 ++ (y2.1.weights Try.prog 9 ++ (y3.1.weights Try.prog 22 ++ []))) := by
        simp only [DataW.weights, Try.underlying49]
        rfl
      rw [hDi, e] at hin
      match cs', hlen4 with
      | [v0, v1, v2, v3], _ =>
        have f0 := hcell 0 (by omega)
        have f1 := hcell 1 (by omega)
        have f2 := hcell 2 (by omega)
        have f3 := hcell 3 (by omega)
        rw [Go.Deep.add_add] at f0 f1 f2 f3
        replace t0 : DataW.trod enc Try.prog W 0 (fun _ => true) true n' 9 [v0] = some y0 := t0
        replace t1 : DataW.trod enc Try.prog W 0 (fun _ => true) true n' 24 [v1] = some y1 := t1
        replace t2 : DataW.trod enc Try.prog W 0 (fun _ => true) true n' 9 [v2] = some y2 := t2
        replace t3 : DataW.trod enc Try.prog W 0 (fun _ => true) true n' 22 [v3] = some y3 := t3
        obtain ⟨s0, e0, hx0, _⟩ := DataW.trod_string Try.underlying9 t0
        obtain ⟨x1, e1, hx1, w1⟩ := DataW.trod_int Try.underlying24 t1
        obtain ⟨s2, e2, hx2, _⟩ := DataW.trod_string Try.underlying9 t2
        obtain ⟨a3, l3, c3, d3, e3, hr3, ho3, hl3⟩ := open_data t3 (fun n hn => hin n (List.mem_append.2 (.inr (List.mem_append.2 (.inr (List.mem_append.2 (.inr (List.mem_append.2 (.inl hn)))))))))
        have hs0 : s0.size ≤ reachBytes := hin _ (List.mem_append.2 (.inl (by
          rw [show y0.1 = .lit (.string s0.data.toList) from congrArg Prod.fst hx0]
          simp [DataW.weights])))
        have hs2 : s2.size ≤ reachBytes := hin _ (List.mem_append.2 (.inr (List.mem_append.2 (.inr (List.mem_append.2 (.inl (by
          rw [show y2.1 = .lit (.string s2.data.toList) from congrArg Prod.fst hx2]
          simp [DataW.weights])))))))
        simp only [List.cons.injEq, and_true] at e0 e1 e2
        subst e0 e1 e2 e3
        have b1 := bounds_u32 w1
        exact ⟨⟨s0, x1, s2, a3, l3, c3, d3⟩, by simpa using f0, by simpa using f1, by simpa using f2, by simpa using f3, hr3, ho3, b1.1, b1.2, hl3, (by show s2.size ≤ _; omega), (by show s0.size ≤ _; omega)⟩)
    have hmem : ∀ k ∈ (List.range len).map q, ∃ i, i < len ∧ k = q i := fun k hk => by
      obtain ⟨i, hi, e⟩ := List.mem_map.1 hk
      exact ⟨i, List.mem_range.1 hi, e.symm⟩
    refine ⟨(List.range len).map q, ⟨by simp, hl, ?_, fun k hk => ?_⟩, by omega, fun k hk => ?_, fun e => by cases e⟩
    · by_cases h0 : len = 0
      · exact .inl h0
      · obtain ⟨b, off, spot⟩ := y
        have hc0 := (hq 0 (by omega)).1
        have hspot : spot = none := by simpa [Addr.add] using World.cell?_spot hc0
        subst hspot
        refine .inr ⟨b, off, rfl, fun i hi => ?_⟩
        have hi2 : i < len := by simpa using hi
        obtain ⟨f0, f1, f2, f3, -⟩ := hq i hi2
        rw [plain_add] at f0 f1 f2 f3
        simp only [List.getElem_map, List.getElem_range]
        exact ⟨f0, by rwa [← Nat.add_assoc] at f1, by rwa [← Nat.add_assoc] at f2, by rwa [← Nat.add_assoc] at f3⟩
    · obtain ⟨i, hi, rfl⟩ := hmem k hk
      obtain ⟨-, -, -, -, g1, g2, g3, g4, -⟩ := hq i hi
      exact ⟨g1, g2, g3, g4⟩
    · obtain ⟨i, hi, rfl⟩ := hmem k hk
      obtain ⟨-, -, -, -, -, -, -, -, g5, g6, g7⟩ := hq i hi
      exact ⟨g5, g6, g7⟩
end Go.Proofs.Ytedihackifchcaa
