/- An argument that is a slice of acts of layer 9, opened; contract of grottolaw09.huge. -/
import Derived.Test.YtmebjbnglndfcaaY9R
import Derived.Test.YtmebjbnglndfcaaE8o
import Derived.BigQuiet
import Derived.Deep.QuietTactic
namespace Go.Proofs.Ytmebjbnglndfcaa
open Go.RowKit Go.ChangeShapes Go.WideShapes
set_option maxHeartbeats 1000000
set_option maxRecDepth 100000
set_option linter.unusedVariables false

/-- an act as it lies in memory -/
structure Ac where
  k : Int
  a : Nat
  b : Nat
  n : Int
  x : Nat
  ro : Option Addr
  rl : Nat
  rc : Nat
  rz : List Int
  lo : Option Addr
  ll : Nat
  lc : Nat
  lb : List Bk
def AcOk (w : World) (r : Ac) : Prop := (-9223372036854775808 ≤ r.k ∧ r.k ≤ 9223372036854775807) ∧ r.a < 4294967296 ∧ r.b < 4294967296 ∧ (-9223372036854775808 ≤ r.n ∧ r.n ≤ 9223372036854775807) ∧ r.x < 4294967296 ∧ (Reads w r.ro r.rl r.rc r.rz ∧ OkB r.rz ∧ r.rl ≤ 281474976710656) ∧ IsBks w r.lo r.ll r.lc r.lb ∧ r.ll ≤ 281474976710656
def AcAt (w : World) (b p : Nat) (r : Ac) : Prop := w.cell? ⟨b, p, none⟩ = some (.int .i64 r.k) ∧ w.cell? ⟨b, p + 1, none⟩ = some (.int .u32 r.a) ∧ w.cell? ⟨b, p + 2, none⟩ = some (.int .u32 r.b) ∧ w.cell? ⟨b, p + 3, none⟩ = some (.int .i64 r.n) ∧ w.cell? ⟨b, p + 4, none⟩ = some (.int .u32 r.x) ∧ w.cell? ⟨b, p + 5, none⟩ = some (.slice r.ro r.rl r.rc) ∧ w.cell? ⟨b, p + 6, none⟩ = some (.slice r.lo r.ll r.lc)
def IsActs (w : World) (ao : Option Addr) (len cap : Nat) (rs : List Ac) : Prop :=
  rs.length = len ∧ len ≤ cap ∧ cap ≤ maxLen ∧ (0 < len → ∃ b off, ao = some ⟨b, off, none⟩ ∧ ∀ i (h : i < rs.length), AcAt w b (off + i * 7) rs[i]) ∧
  ∀ r ∈ rs, AcOk w r
theorem weights_mem_all {H : Type} {P : Program} {e : TypeId} {d : DataW H} {n : Nat} : ∀ {ds : List (DataW H)}, d ∈ ds → n ∈ d.weights P e → n ∈ DataW.weightsAll P e ds
  | d0 :: ds, hd, hn => by
    simp only [DataW.weightsAll, List.mem_append]
    rcases List.mem_cons.1 hd with rfl | h
    · exact .inl hn
    · exact .inr (weights_mem_all h hn)
  | [], hd, _ => by cases hd
theorem bounds_i64 {n : Int} (h : (Lit.int .i64 n).wf = true) : -9223372036854775808 ≤ n ∧ n ≤ 9223372036854775807 := by
  simp [Lit.wf, IntKind.min, IntKind.max, IntKind.signed, IntKind.bits] at h
  omega
theorem trod_struct7 {H : Type} {enc : TypeId × Value → H} {P : Program} {w : World} {base : Nat} {spare : Nat → Bool} {held : Bool} {t : TypeId} {f0 f1 f2 f3 f4 f5 f6 : Field} {fuel : Nat} {cs : List Value} {x : DataW H × List MemPlace} (ht : P.underlying t = some (.struct #[f0, f1, f2, f3, f4, f5, f6])) (h : DataW.trod enc P w base spare held fuel t cs = some x) :
    ∃ y0 y1 y2 y3 y4 y5 y6 n, x.1 = .agg [y0.1, y1.1, y2.1, y3.1, y4.1, y5.1, y6.1] ∧ cs.length = P.cellsOf t ∧ DataW.trod enc P w base spare held n f0.type ((cs.drop f0.offset).take (P.cellsOf f0.type)) = some y0 ∧ DataW.trod enc P w base spare held n f1.type ((cs.drop f1.offset).take (P.cellsOf f1.type)) = some y1 ∧ DataW.trod enc P w base spare held n f2.type ((cs.drop f2.offset).take (P.cellsOf f2.type)) = some y2 ∧ DataW.trod enc P w base spare held n f3.type ((cs.drop f3.offset).take (P.cellsOf f3.type)) = some y3 ∧ DataW.trod enc P w base spare held n f4.type ((cs.drop f4.offset).take (P.cellsOf f4.type)) = some y4 ∧ DataW.trod enc P w base spare held n f5.type ((cs.drop f5.offset).take (P.cellsOf f5.type)) = some y5 ∧ DataW.trod enc P w base spare held n f6.type ((cs.drop f6.offset).take (P.cellsOf f6.type)) = some y6 := by
  obtain ⟨xs, n, _, rfl, hl, hlen, hf⟩ := DataW.trod_struct ht h
  match xs, hlen with
  | [y0, y1, y2, y3, y4, y5, y6], _ => exact ⟨y0, y1, y2, y3, y4, y5, y6, n, by simp, hl, by simpa using hf 0 f0 rfl, by simpa using hf 1 f1 rfl, by simpa using hf 2 f2 rfl, by simpa using hf 3 f3 rfl, by simpa using hf 4 f4 rfl, by simpa using hf 5 f5 rfl, by simpa using hf 6 f6 rfl⟩
theorem open_list {H : Type} {enc : TypeId × Value → H} {W : World} {fuel : Nat} {v : Value} {x : DataW H × List MemPlace} (h : DataW.trod enc Try.prog W 0 (fun _ => true) true fuel 40 [v] = some x) (hw : ∀ n ∈ x.1.weights Try.prog 40, n ≤ reachBytes) :
    ∃ a l c bs, v = .slice a l c ∧ IsBks W a l c bs ∧ l ≤ 281474976710656 := by
  rcases Go.Deep.open_slice Try.underlying40 h with ⟨hcs, _⟩ | ⟨y, l, c, m, n, D, Pl, hcs, _, hl, hm, hmm, hx, hc⟩
  · simp only [List.cons.injEq, and_true] at hcs
    subst hcs
    obtain ⟨bs, hb⟩ := open_blocks h
    exact ⟨_, _, _, bs, rfl, hb, by omega⟩
  · simp only [List.cons.injEq, and_true] at hcs
    subst hcs
    obtain ⟨bs, hb⟩ := open_blocks h
    have hr := reachBytes_lt
    have hlen : l * Try.prog.bytesOf 99 ≤ reachBytes := by
      refine Nat.le_trans (Nat.mul_le_mul_right _ ?_) (hw _ (by rw [hx]; simp only [DataW.weights, Try.underlying40]; exact List.mem_cons_self))
      simp
    rw [show Try.prog.bytesOf 99 = 8 by kernel_rfl] at hlen
    exact ⟨_, _, _, bs, rfl, hb, by omega⟩
theorem open_data {H : Type} {enc : TypeId × Value → H} {W : World} {fuel : Nat} {v : Value} {x : DataW H × List MemPlace} (h : DataW.trod enc Try.prog W 0 (fun _ => true) true fuel 28 [v] = some x) (hw : ∀ n ∈ x.1.weights Try.prog 28, n ≤ reachBytes) :
    ∃ a l c d, v = .slice a l c ∧ Reads W a l c d ∧ OkB d ∧ l ≤ 281474976710656 := by
  rcases open_ints Try.underlying28 Try.underlying5 (by kernel_rfl) h with ⟨hcs, _⟩ | ⟨a, l, c, zs, hcs, _, hl, hm, hz, hx, hcell, hwz⟩
  · simp only [List.cons.injEq, and_true] at hcs
    exact ⟨none, 0, 0, [], hcs, ⟨rfl, Nat.le_refl _, .inl ⟨rfl, rfl, rfl⟩⟩, (fun c hc => by cases hc), by omega⟩
  · simp only [List.cons.injEq, and_true] at hcs
    simp only [if_true] at hz
    have hwt : (zs.length) * Try.prog.bytesOf 5 ≤ reachBytes := by
      refine hw _ ?_
      rw [hx]
      simp only [DataW.weights, Try.underlying28, lits, List.length_map, List.length_take, List.length_drop]
      rw [show min l zs.length + (zs.length - l) = zs.length by omega]
      exact List.mem_cons_self
    rw [show Try.prog.bytesOf 5 = 1 by kernel_rfl] at hwt
    have hr := reachBytes_lt
    refine ⟨some a, l, c, zs.take l, hcs, ⟨by simp; omega, hl, .inr ⟨a, rfl, fun i hi => ?_⟩⟩, fun c hc => ?_, by omega⟩
    · rw [hcell i (by omega)]
      simp [List.getD_eq_getElem?_getD, hi]
    · exact bounds_u8 (hwz c (List.mem_of_mem_take hc))
theorem open_acts {H : Type} {enc : TypeId × Value → H} {W : World} {fuel : Nat} {a : Option Addr} {len cap : Nat} {x : DataW H × List MemPlace} (h : DataW.trod enc Try.prog W 0 (fun _ => true) true fuel 22 [.slice a len cap] = some x) (hw : ∀ n ∈ x.1.weights Try.prog 22, n ≤ reachBytes) :
    ∃ rs, IsActs W a len cap rs := by
  rcases Go.Deep.open_slice Try.underlying22 h with ⟨hcs, _⟩ | ⟨y, l, c, m, n, D, Pl, hcs, _, hl, hm, hmm, hx, hc⟩
  · simp only [List.cons.injEq, and_true, Value.slice.injEq] at hcs
    obtain ⟨rfl, rfl, rfl⟩ := hcs
    exact ⟨[], rfl, Nat.le_refl _, by decide, fun h => by omega, fun k hk => by cases hk⟩
  · simp only [List.cons.injEq, and_true, Value.slice.injEq] at hcs
    obtain ⟨rfl, rfl, rfl⟩ := hcs
    simp only [if_true] at hmm
    subst hmm
    haveI : Inhabited Ac := ⟨⟨0, 0, 0, 0, 0, none, 0, 0, [], none, 0, 0, []⟩⟩
    obtain ⟨q, hq⟩ := Go.Deep.choose_lt (α := Ac) (n := len) (p := fun i r => (W.cell? (y.add (i * 7)) = some (.int .i64 r.k) ∧ W.cell? (y.add (i * 7 + 1)) = some (.int .u32 r.a) ∧ W.cell? (y.add (i * 7 + 2)) = some (.int .u32 r.b) ∧ W.cell? (y.add (i * 7 + 3)) = some (.int .i64 r.n) ∧ W.cell? (y.add (i * 7 + 4)) = some (.int .u32 r.x) ∧ W.cell? (y.add (i * 7 + 5)) = some (.slice r.ro r.rl r.rc) ∧ W.cell? (y.add (i * 7 + 6)) = some (.slice r.lo r.ll r.lc)) ∧ AcOk W r) (fun i hi => by
      obtain ⟨cs', h1, h2⟩ := hc i (by omega)
      rw [show Try.prog.cellsOf 51 = 7 by kernel_rfl] at h1
      obtain ⟨_, hlen5, hcell⟩ := World.cells?_some h1
      obtain ⟨y0, y1, y2, y3, y4, y5, y6, n', hxy, _, t0, t1, t2, t3, t4, t5, t6⟩ := trod_struct7 Try.underlying51 h2
      have hin : ∀ n ∈ (D i).weights Try.prog 51, n ≤ reachBytes := fun n hn => by
        refine hw n ?_
        rw [hx]
        simp only [DataW.weights, Try.underlying22]
        exact List.mem_cons_of_mem _ (List.mem_append.2 (.inl (weights_mem_all (List.mem_map.2 ⟨i, List.mem_range.2 hi, rfl⟩) hn)))
      have hDi : D i = .agg [y0.1, y1.1, y2.1, y3.1, y4.1, y5.1, y6.1] := hxy
      have e : (DataW.agg [y0.1, y1.1, y2.1, y3.1, y4.1, y5.1, y6.1]).weights Try.prog 51 = y0.1.weights Try.prog 3 ++ (y1.1.weights Try.prog 23 ++ (y2.1.weights Try.prog 23 ++ (y3.1.weights Try.prog 3 ++ (y4.1.weights Try.prog 23 ++ (y5.1.weights Try.prog 28 ++ (y6.1.weights Try.prog 40 ++ ([]))))))) := by
        simp only [DataW.weights, Try.underlying51]
        rfl
      rw [hDi, e] at hin
      match cs', hlen5 with
      | [v0, v1, v2, v3, v4, v5, v6], _ =>
        have f0 := hcell 0 (by omega)
        have f1 := hcell 1 (by omega)
        have f2 := hcell 2 (by omega)
        have f3 := hcell 3 (by omega)
        have f4 := hcell 4 (by omega)
        have f5 := hcell 5 (by omega)
        have f6 := hcell 6 (by omega)
        rw [Go.Deep.add_add] at f0 f1 f2 f3 f4 f5 f6
        replace t0 : DataW.trod enc Try.prog W 0 (fun _ => true) true n' 3 [v0] = some y0 := t0
        replace t1 : DataW.trod enc Try.prog W 0 (fun _ => true) true n' 23 [v1] = some y1 := t1
        replace t2 : DataW.trod enc Try.prog W 0 (fun _ => true) true n' 23 [v2] = some y2 := t2
        replace t3 : DataW.trod enc Try.prog W 0 (fun _ => true) true n' 3 [v3] = some y3 := t3
        replace t4 : DataW.trod enc Try.prog W 0 (fun _ => true) true n' 23 [v4] = some y4 := t4
        replace t5 : DataW.trod enc Try.prog W 0 (fun _ => true) true n' 28 [v5] = some y5 := t5
        replace t6 : DataW.trod enc Try.prog W 0 (fun _ => true) true n' 40 [v6] = some y6 := t6
        obtain ⟨x0, e0, hx0, w0⟩ := DataW.trod_int Try.underlying3 t0
        obtain ⟨x1, e1, hx1, w1⟩ := DataW.trod_int Try.underlying23 t1
        obtain ⟨x2, e2, hx2, w2⟩ := DataW.trod_int Try.underlying23 t2
        obtain ⟨x3, e3, hx3, w3⟩ := DataW.trod_int Try.underlying3 t3
        obtain ⟨x4, e4, hx4, w4⟩ := DataW.trod_int Try.underlying23 t4
        obtain ⟨a5, l5, c5, d5, e5, hr5, ho5, hl5⟩ := open_data t5 (fun n hn => hin n (List.mem_append.2 (.inr (List.mem_append.2 (.inr (List.mem_append.2 (.inr (List.mem_append.2 (.inr (List.mem_append.2 (.inr (List.mem_append.2 (.inl hn)))))))))))))
        obtain ⟨a6, l6, c6, bs6, e6, hb6, hl6⟩ := open_list t6 (fun n hn => hin n (List.mem_append.2 (.inr (List.mem_append.2 (.inr (List.mem_append.2 (.inr (List.mem_append.2 (.inr (List.mem_append.2 (.inr (List.mem_append.2 (.inr (List.mem_append.2 (.inl hn)))))))))))))))
        simp only [List.cons.injEq, and_true] at e0 e1 e2 e3 e4
        subst e0 e1 e2 e3 e4 e5 e6
        have b0 := bounds_i64 w0
        have b1 := bounds_u32 w1
        have b2 := bounds_u32 w2
        have b3 := bounds_i64 w3
        have b4 := bounds_u32 w4
        obtain ⟨z1, rfl⟩ := Int.eq_ofNat_of_zero_le b1.1
        obtain ⟨z2, rfl⟩ := Int.eq_ofNat_of_zero_le b2.1
        obtain ⟨z4, rfl⟩ := Int.eq_ofNat_of_zero_le b4.1
        exact ⟨⟨x0, z1, z2, x3, z4, a5, l5, c5, d5, a6, l6, c6, bs6⟩, ⟨by simpa using f0, by simpa using f1, by simpa using f2, by simpa using f3, by simpa using f4, by simpa using f5, by simpa using f6⟩, b0, by simp only; omega, by simp only; omega, b3, by simp only; omega, ⟨hr5, ho5, hl5⟩, hb6, hl6⟩)
    refine ⟨(List.range len).map q, by simp, hl, hm, fun h0 => ?_, fun b hb => ?_⟩
    · obtain ⟨b, off, spot⟩ := y
      have hc0 := (hq 0 (by omega)).1.1
      have hspot : spot = none := by simpa [Addr.add] using World.cell?_spot hc0
      subst hspot
      refine ⟨b, off, rfl, fun i hi => ?_⟩
      have hi2 : i < len := by simpa using hi
      obtain ⟨⟨g0, g1, g2, g3, g4, g5, g6⟩, -⟩ := hq i hi2
      rw [Addr.add_lit] at g0 g1 g2 g3 g4 g5 g6
      simp only [List.getElem_map, List.getElem_range]
      exact ⟨g0, by rwa [← Nat.add_assoc] at g1, by rwa [← Nat.add_assoc] at g2, by rwa [← Nat.add_assoc] at g3, by rwa [← Nat.add_assoc] at g4, by rwa [← Nat.add_assoc] at g5, by rwa [← Nat.add_assoc] at g6⟩
    · obtain ⟨i, hi, rfl⟩ := List.mem_map.1 hb
      exact (hq i (List.mem_range.1 hi)).2
/-- how many blocks the acts hold together -/
def sumL (rs : List Ac) : Nat := (rs.map (fun r => r.rl + r.ll)).sum
theorem sumL_snoc (rs : List Ac) (k : Nat) (h : k < rs.length) : sumL (rs.take (k + 1)) = sumL (rs.take k) + (rs[k].rl + rs[k].ll) := by
  unfold sumL
  rw [List.take_succ_eq_append_getElem h, List.map_append, List.sum_append_nat]
  simp only [List.map_cons, List.map_nil, List.sum_cons, List.sum_nil, Nat.add_zero]
def hugeB (rs : List Ac) : Bool := decide (120 < rs.length) || decide (65536 < sumL rs)
theorem huge_any (ao : Option Addr) (len cap : Nat) (rs : List Ac) (w : World) (ha : IsActs w ao len cap rs) :
    Calls Try.prog 8 #[.slice ao len cap] w fun e w' => e = .returned (.bool (hugeB rs)) ∧ Below w.heap.size w w' := by
  obtain ⟨h1, h2, h3, h4, h5⟩ := ha
  have HN := hidden h1
  have H4 := hidden h4
  have H5 := hidden h5
  have h3' : len ≤ 9223372036854775807 := by unfold maxLen at h3; omega
  have hR : 120 < len → hugeB rs = true := fun h => by simp [hugeB, h1, h]
  have hR2 : len ≤ 120 → hugeB rs = decide (65536 < sumL rs) := fun h => by
    rw [← h1] at h
    have : ¬ 120 < rs.length := by omega
    simp [hugeB, this]
  generalize hugeB rs = R at *
  have HR := hidden hR
  have HR2 := hidden hR2
  clear h1 h4 h5 hR hR2
  go_enter Try.func8, Try.ntmps8
  go_wp2
  go_loopw [3, 4] (fun n i w' => ∃ k : Nat, k ≤ len ∧ k ≤ 121 ∧ i = .int .i64 k ∧ n = .int .i64 ((sumL (rs.take k) : Nat) : Int) ∧ sumL (rs.take k) ≤ k * 562949953421312 ∧ Below w.heap.size w w') (fun _ i _ => len - (intOf i).toNat)
  case atStart => exact ⟨0, by omega, by omega, rfl, rfl, by simp [sumL], Below.refl _ _⟩
  case round =>
    obtain ⟨k, hk, hk2, rfl, rfl, hs, hbel⟩ := hrel
    by_cases hlt : k < len
    · have hkl : k < rs.length := by rw [HN.out]; exact hlt
      by_cases hk3 : k ≤ 120
      · obtain ⟨b, off, rfl, hcell⟩ := H4.out (by omega)
        obtain ⟨_, _, _, _, _, c5', c6'⟩ := hcell k hkl
        have c5 := cellLater hbel c5'
        have c6 := cellLater hbel c6'
        clear c5' c6'
        have hok := H5.out rs[k] (List.getElem_mem hkl)
        have hll := hok.2.2.2.2.2.2.2
        have hrl := hok.2.2.2.2.2.1.2.2
        clear hok
        have hsn := hidden (sumL_snoc rs k hkl)
        clear hcell
        generalize rs[k] = r at *
        have d1 : (k : Int) < (len : Int) := by omega
        have d2 : (k : Int) ≤ 120 := by omega
        generalize sumL (rs.take k) = S at *
        have w1 : IntKind.i64.wrap ((S : Int) + (r.rl : Int)) = (S : Int) + (r.rl : Int) := by rw [IntKind.wrap_i64]; omega
        have w2 : IntKind.i64.wrap ((S : Int) + (r.rl : Int) + (r.ll : Int)) = (S : Int) + (r.rl : Int) + (r.ll : Int) := by rw [IntKind.wrap_i64]; omega
        go_wp2
        go_quiet (fail)
        all_goals (try go_wp2)
        go_roundw
        case rel => exact ⟨k + 1, by omega, by omega, int_eq (by omega), int_eq (by rw [hsn.out]; omega), by rw [hsn.out]; omega, ⟨hbel.os, hbel.tape, hbel.output, hbel.size, hbel.block⟩⟩
        case measure => simp [intOf]; omega
      · have d1 : (k : Int) < (len : Int) := by omega
        have d2 : ¬ (k : Int) ≤ 120 := by omega
        have d3 : (120 : Int) < (len : Int) := by omega
        have e := HR.out (by omega)
        subst e
        generalize sumL (rs.take k) = S at *
        go_wp2
        go_ret
        exact ⟨rfl, hbel⟩
    · obtain rfl : k = len := by omega
      have e0 : rs.take k = rs := List.take_of_length_le (by rw [HN.out]; exact Nat.le_refl _)
      by_cases hk3 : k ≤ 120
      · have e := HR2.out hk3
        rw [e0] at hs ⊢
        have d3 : ¬ (120 : Int) < (k : Int) := by omega
        have hd : decide ((65536 : Int) < ((sumL rs : Nat) : Int)) = decide (65536 < sumL rs) := decide_eq_decide.2 (by omega)
        generalize sumL rs = S at *
        subst e
        go_wp2
        go_ret
        first | exact ⟨rfl, hbel⟩ | (refine ⟨?_, hbel⟩; simp_all)
      · have d3 : (120 : Int) < (k : Int) := by omega
        have e := HR.out (by omega)
        subst e
        generalize sumL (rs.take k) = S at *
        go_wp2
        go_ret
        exact ⟨rfl, hbel⟩
end Go.Proofs.Ytmebjbnglndfcaa
