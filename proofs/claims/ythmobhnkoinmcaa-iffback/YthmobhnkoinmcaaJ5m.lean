/- An argument that is a slice of chunks, opened; the whole of IffBack. -/
import Derived.Test.YthmobhnkoinmcaaJ5l
import Derived.Deep.SlicePairs
import Derived.ChangeSlices
import Derived.SizedLaws
namespace Go.Proofs.Ythmobhnkoinmcaa
open Go.RowKit Go.ChangeShapes Go.WideShapes
set_option maxHeartbeats 1000000
set_option maxRecDepth 100000
set_option linter.unusedVariables false

/-- a slice of chunks as it comes in -/
def IsCks (w : World) (a : Option Addr) (len cap : Nat) (cs : List Ck) : Prop := Cks w a len cap cs ∧ len ≤ 281474976710656 ∧ ∀ k ∈ cs, k.l ≤ 281474976710656 ∧ k.id.size ≤ 281474976710656
theorem weights_mem_all {H : Type} {P : Program} {e : TypeId} {d : DataW H} {n : Nat} : ∀ {ds : List (DataW H)}, d ∈ ds → n ∈ d.weights P e → n ∈ DataW.weightsAll P e ds
  | d0 :: ds, hd, hn => by
    simp only [DataW.weightsAll, List.mem_append]
    rcases List.mem_cons.1 hd with rfl | h
    · exact .inl hn
    · exact .inr (weights_mem_all h hn)
  | [], hd, _ => by cases hd
theorem open_data {H : Type} {enc : TypeId × Value → H} {W : World} {fuel : Nat} {v : Value} {x : DataW H × List MemPlace} (h : DataW.trod enc Try.prog W 0 (fun _ => true) true fuel 25 [v] = some x) (hw : ∀ n ∈ x.1.weights Try.prog 25, n ≤ reachBytes) :
    ∃ a l c d, v = .slice a l c ∧ Reads W a l c d ∧ OkB d ∧ l ≤ 281474976710656 := by
  rcases open_ints Try.underlying25 Try.underlying5 (by kernel_rfl) h with ⟨hcs, _⟩ | ⟨a, l, c, zs, hcs, _, hl, hm, hz, hx, hcell, hwz⟩
  · simp only [List.cons.injEq, and_true] at hcs
    exact ⟨none, 0, 0, [], hcs, ⟨rfl, Nat.le_refl _, .inl ⟨rfl, rfl, rfl⟩⟩, (fun c hc => by cases hc), by omega⟩
  · simp only [List.cons.injEq, and_true] at hcs
    simp only [if_true] at hz
    have hwt : (zs.length) * Try.prog.bytesOf 5 ≤ reachBytes := by
      refine hw _ ?_
      rw [hx]
      simp only [DataW.weights, Try.underlying25, lits, List.length_map, List.length_take, List.length_drop]
      rw [show min l zs.length + (zs.length - l) = zs.length by omega]
      exact List.mem_cons_self
    rw [show Try.prog.bytesOf 5 = 1 by kernel_rfl] at hwt
    have hr := reachBytes_lt
    refine ⟨some a, l, c, zs.take l, hcs, ⟨by simp; omega, hl, .inr ⟨a, rfl, fun i hi => ?_⟩⟩, fun c hc => ?_, by omega⟩
    · rw [hcell i (by omega)]
      simp [List.getD_eq_getElem?_getD, hi]
    · exact bounds_u8 (hwz c (List.mem_of_mem_take hc))
theorem open_chunks {H : Type} {enc : TypeId × Value → H} {W : World} {fuel : Nat} {a : Option Addr} {len cap : Nat} {x : DataW H × List MemPlace} (h : DataW.trod enc Try.prog W 0 (fun _ => true) true fuel 22 [.slice a len cap] = some x) (hw : ∀ n ∈ x.1.weights Try.prog 22, n ≤ reachBytes) :
    ∃ cs, IsCks W a len cap cs := by
  rcases Go.Deep.open_slice_pairs Try.underlying22 Try.underlying59 (by kernel_rfl) rfl rfl (by kernel_rfl) (by kernel_rfl) h with ⟨hcs, _⟩ | ⟨y, l, c, m, n, V0, V1, D0, D1, P0, P1, hcs, _, hl, hm, hmm, hx, hc⟩
  · simp only [List.cons.injEq, and_true, Value.slice.injEq] at hcs
    obtain ⟨rfl, rfl, rfl⟩ := hcs
    exact ⟨[], ⟨rfl, Nat.le_refl _, .inl rfl, fun k hk => by cases hk⟩, by omega, fun k hk => by cases hk⟩
  · simp only [List.cons.injEq, and_true, Value.slice.injEq] at hcs
    obtain ⟨rfl, rfl, rfl⟩ := hcs
    simp only [if_true] at hmm
    subst hmm
    have hr := reachBytes_lt
    have hlen : len * Try.prog.bytesOf 59 ≤ reachBytes := by
      refine Nat.le_trans (Nat.mul_le_mul_right _ ?_) (hw _ (by rw [hx]; simp only [DataW.weights, Try.underlying22]; exact List.mem_cons_self))
      simp
    rw [show Try.prog.bytesOf 59 = 40 by kernel_rfl] at hlen
    have hel : ∀ i, i < len → (∀ n ∈ (D0 i).weights Try.prog 9, n ≤ reachBytes) ∧ (∀ n ∈ (D1 i).weights Try.prog 25, n ≤ reachBytes) := fun i hi => by
      have hin : ∀ n ∈ (DataW.agg [D0 i, D1 i]).weights Try.prog 59, n ≤ reachBytes := fun n hn => by
        refine hw n ?_
        rw [hx]
        simp only [DataW.weights, Try.underlying22]
        refine List.mem_cons_of_mem _ (List.mem_append.2 (.inl (weights_mem_all (List.mem_map.2 ⟨i, List.mem_range.2 hi, rfl⟩) ?_)))
        exact hn
      have e : (DataW.agg [D0 i, D1 i]).weights Try.prog 59 = (D0 i).weights Try.prog 9 ++ ((D1 i).weights Try.prog 25 ++ []) := by
        simp only [DataW.weights, Try.underlying59]
        rfl
      rw [e] at hin
      exact ⟨fun n hn => hin n (List.mem_append.2 (.inl hn)), fun n hn => hin n (List.mem_append.2 (.inr (List.mem_append.2 (.inl hn))))⟩
    haveI : Inhabited Ck := ⟨⟨⟨#[]⟩, none, 0, 0, []⟩⟩
    obtain ⟨q, hq⟩ := Go.Deep.choose_lt (α := Ck) (n := len) (p := fun i k => V0 i = .string k.id ∧ V1 i = .slice k.a k.l k.c ∧ Reads W k.a k.l k.c k.d ∧ OkB k.d ∧ k.l ≤ 281474976710656 ∧ k.id.size ≤ 281474976710656) (fun i hi => by
      obtain ⟨_, _, t0, t1⟩ := hc i (by omega)
      obtain ⟨s, e0, hx0, _⟩ := DataW.trod_string Try.underlying9 t0
      obtain ⟨a2, l2, c2, d2, e1, hr2, ho, hl2⟩ := open_data t1 (hel i hi).2
      have hs : s.size ≤ reachBytes := (hel i hi).1 _ (by
        rw [show D0 i = .lit (.string s.data.toList) from congrArg Prod.fst hx0]
        simp [DataW.weights])
      simp only [List.cons.injEq, and_true] at e0
      exact ⟨⟨s, a2, l2, c2, d2⟩, e0, e1, hr2, ho, hl2, by show s.size ≤ _; omega⟩)
    have hmem : ∀ k ∈ (List.range len).map q, ∃ i, i < len ∧ k = q i := fun k hk => by
      obtain ⟨i, hi, e⟩ := List.mem_map.1 hk
      exact ⟨i, List.mem_range.1 hi, e.symm⟩
    refine ⟨(List.range len).map q, ⟨by simp, hl, ?_, fun k hk => ?_⟩, by omega, fun k hk => ?_⟩
    · by_cases h0 : len = 0
      · exact .inl h0
      · obtain ⟨b, off, spot⟩ := y
        have hc0 := (hc 0 (by omega)).1
        have hspot : spot = none := by simpa [Addr.add] using World.cell?_spot hc0
        subst hspot
        refine .inr ⟨b, off, rfl, fun i hi => ?_⟩
        have hi2 : i < len := by simpa using hi
        obtain ⟨f0, f1, _, _⟩ := hc i (by omega)
        rw [plain_add] at f0 f1
        have hqi := hq i hi2
        simp only [List.getElem_map, List.getElem_range]
        rw [hqi.1] at f0
        rw [hqi.2.1, ← Nat.add_assoc] at f1
        exact ⟨f0, f1⟩
    · obtain ⟨i, hi, rfl⟩ := hmem k hk
      exact ⟨(hq i hi).2.2.1, (hq i hi).2.2.2.1⟩
    · obtain ⟨i, hi, rfl⟩ := hmem k hk
      exact ⟨(hq i hi).2.2.2.2.1, (hq i hi).2.2.2.2.2⟩
theorem iffBack_walk (s : ByteArray) (a : Option Addr) (len cap : Nat) (cs : List Ck) (w : World) (w1 : IsCks w a len cap cs) :
    Calls Try.prog 3 #[.string s, .slice a len cap] w fun e w' => e = .returned (.bool true) ∧ Below w.heap.size w w' := by
  by_cases h : 65536 < s.size
  · exact back_long s a len cap w h
  · exact back_any s a len cap cs w h w1.1 w1.2.1 w1.2.2
end Go.Proofs.Ythmobhnkoinmcaa
