/- Layer 15: an argument that is a slice of rows of words, opened; such a row appended. -/
import Derived.Test.YtmohnopegacahaaV15i
namespace Go.Proofs.Ytmohnopegacahaa
open Go.RowKit Go.ChangeShapes Go.WideShapes
set_option maxHeartbeats 1000000
set_option maxRecDepth 100000
set_option linter.unusedVariables false

/-- a piece that came in -/
structure Pc where
  a : Option Addr
  n : Nat
  c : Nat
  xs : List Nat
structure IsPcs (w : World) (a : Option Addr) (len cap : Nat) (ps : List Pc) : Prop where
  ln : ps.length = len
  row : ∀ p ∈ ps, VRow w p.a p.n p.xs ∧ (p.a = none → p.c = 0) ∧ p.n ≤ p.c
  cells : ∀ i (hi : i < ps.length), ∃ b o, a = some ⟨b, o, none⟩ ∧ w.cell? ⟨b, o + i, none⟩ = some (.slice ps[i].a ps[i].n ps[i].c)
theorem IsPcs.later {w w' : World} {a : Option Addr} {len cap : Nat} {ps : List Pc} (h : IsPcs w a len cap ps) (hb : Below w.heap.size w w') : IsPcs w' a len cap ps :=
  ⟨h.ln, fun p hp => ⟨(h.row p hp).1.later hb, (h.row p hp).2⟩, fun i hi => by
    obtain ⟨b, o, e, c0⟩ := h.cells i hi
    exact ⟨b, o, e, (World.cell?_of_block (hb.block b (cell_lt c0))).trans c0⟩⟩
theorem open_pcs {H : Type} {enc : TypeId × Value → H} {W : World} {fuel : Nat} {a : Option Addr} {len cap : Nat} {x : DataW H × List MemPlace} (h : DataW.trod enc Try.prog W 0 (fun _ => true) true fuel 22 [.slice a len cap] = some x) :
    ∃ ps, IsPcs W a len cap ps := by
  rcases Go.Deep.open_slice Try.underlying22 h with ⟨hcs, _⟩ | ⟨y, l, c, m, n, D, Pl, hcs, _, hl, hm, hmm, hx, hc⟩
  · simp only [List.cons.injEq, and_true, Value.slice.injEq] at hcs
    obtain ⟨rfl, rfl, rfl⟩ := hcs
    exact ⟨[], rfl, (fun b hb => by cases hb), fun i hi => by simp at hi⟩
  · simp only [List.cons.injEq, and_true, Value.slice.injEq] at hcs
    obtain ⟨rfl, rfl, rfl⟩ := hcs
    simp only [if_true] at hmm
    subst hmm
    haveI : Inhabited Pc := ⟨⟨none, 0, 0, []⟩⟩
    obtain ⟨q, hq⟩ := Go.Deep.choose_lt (α := Pc) (n := len) (p := fun i r => W.cell? (y.add (i * 1)) = some (.slice r.a r.n r.c) ∧ VRow W r.a r.n r.xs ∧ (r.a = none → r.c = 0) ∧ r.n ≤ r.c) (fun i hi => by
      obtain ⟨cs', h1, h2⟩ := hc i (by omega)
      rw [show Try.prog.cellsOf 23 = 1 by kernel_rfl] at h1
      obtain ⟨_, hlen1, hcell⟩ := World.cells?_some h1
      match cs', hlen1 with
      | [v0], _ =>
        have f0 := hcell 0 (by omega)
        rw [Go.Deep.add_add] at f0
        rcases open_ints Try.underlying23 Try.underlying32 (by kernel_rfl) h2 with ⟨hv, _⟩ | ⟨z, l2, c2, zs, hv, _, hl2, hm2, hz, _, hce, hwz⟩
        · simp only [List.cons.injEq, and_true] at hv
          subst hv
          exact ⟨⟨none, 0, 0, []⟩, by simpa using f0, ⟨rfl, (fun x hx => by cases hx), fun j hj => absurd hj (Nat.not_lt_zero _)⟩, fun _ => rfl, Nat.le_refl _⟩
        · simp only [List.cons.injEq, and_true] at hv
          subst hv
          obtain ⟨xs, hvr, hlc, _⟩ := vrow_of (w := W) (a := some z) (len := l2) (cap := c2) (zs := zs) (.inr ⟨_, rfl, hl2, hm2, by simpa using hz, hce, hwz⟩)
          exact ⟨⟨some z, l2, c2, xs⟩, by simpa using f0, hvr, (fun e => by cases e), hlc⟩)
    refine ⟨(List.range len).map q, by simp, fun b hb => ?_, fun i hi => ?_⟩
    · obtain ⟨i, hi, rfl⟩ := List.mem_map.1 hb
      exact (hq i (List.mem_range.1 hi)).2
    · have hi2 : i < len := by simpa using hi
      obtain ⟨b, off, spot⟩ := y
      obtain ⟨g0, _⟩ := hq i hi2
      have hc0 := (hq 0 (by omega)).1
      have hspot : spot = none := by simpa [Addr.add] using World.cell?_spot hc0
      subst hspot
      rw [Addr.add_lit, Nat.mul_one] at g0
      simp only [List.getElem_map, List.getElem_range]
      exact ⟨b, off, rfl, g0⟩
theorem run_app_nil (w : World) (n c : Nat) (v : Option Addr) (x : Option Addr) (c0 : Nat) (h : n ≤ c) (ty : TypeId) : (Builtin.append_ #[23, 23] ty #[.slice v n c, .slice x 0 c0]).run Try.prog w = .ok (.slice v n c) w := by
  obtain ⟨i0, hi, hz0, hz1, hz2⟩ := info_parts info32
  have hl : ∀ (a : Addr), (loadCells a 0).run Try.prog w = .ok #[] w := fun a => run_loadCells_list (P := Try.prog) w a [] (fun j v hj => by simp at hj)
  cases v <;> cases x <;> simp [Builtin.append_, run_underlying Try.underlying23, Builtin.lenOf, Builtin.firstCells, sizeOf, typeInfo, hi, hl, storeCells, h]
theorem wpList_appW {wr : World} {ops : Array Oper} {rest : List Oper} {o : Oper} {a : Act} {Q : Exit → Act → World → Prop} (hgd : o.guard = none) (s x : Operand)
    (ho : o.op = .call { callee := .builtin .append, args := #[s, x], argTypes := #[23, 23] })
    (base n m c c0 : Nat) (va sa : Option Addr) (zs : List Int) (xs : List Nat) (hs : a.eval s = .slice va n c) (hx : a.eval x = .slice sa m c0) (hown : wr.ownsRow base 32 1 (.slice va n c) n (w32V zs)) (hv : VRow wr sa m xs) (hbase : base ≤ wr.heap.size) (hk : n + m ≤ 4000000)
    (h : ∀ a' c' w', w'.ownsRow base 32 1 (.slice a' (n + m) c') (n + m) (w32V (zs ++ intsL xs)) → Hid (Fm wr w' (fun k => (Value.slice va n c).ownBlock = some k) (fun k => (Value.slice a' (n + m) c').ownBlock = some k)) → wpList Try.prog ops Q rest (a.put o.dst (.slice a' (n + m) c')) w') :
    wpList Try.prog ops Q (o :: rest) a wr := by
  have hln := hv.ln
  by_cases h0 : m = 0
  · subst h0
    obtain rfl : xs = [] := List.eq_nil_of_length_eq_zero hln
    have hnc : n ≤ c := by
      rcases hown.2 with ⟨q1, q2⟩ | ⟨g, cap, cur, q, _, _, q4, _⟩
      · omega
      · simp only [Value.slice.injEq] at q
        omega
    refine wpList_plain hgd fun K hK => ?_
    have hrun := run_app_nil wr n c va sa c0 hnc o.type
    unfold Oper.wp
    simp [execOp, ho, resolve, invoke, builtin, hs, hx, hrun, Result.andThen]
    exact hK _ _ (h va c wr (by simpa [intsL] using hown) (hidden (Fm.same (Below.refl _ _))))
  · obtain ⟨i0, hi, hz0, hz1, hz2⟩ := info_parts info32
    obtain ⟨b, off, rfl, _⟩ := hv.cells 0 (by omega)
    refine wpList_append_at hgd s x 23 ho base 32 i0 (.int .u32 0) 1 4 Try.underlying23 hi hz0 hz1 hz2 rfl (by decide) (.slice va n c) n (w32V zs) hs hown ⟨b, off, none⟩ m c0 (w32V (intsL xs)) hx (by simp [w32V, intsL, hln]) (fun j u hj => ?_) (by intro u hu; obtain ⟨z, _, rfl⟩ := List.mem_map.1 hu; rfl) (by unfold maxLen; omega) (by omega) hbase (by omega) ?_
    · have hjl := (List.getElem?_eq_some_iff.1 hj).1
      have hj2 : j < m := by simpa [w32V, intsL, hln] using hjl
      obtain ⟨b2, o2, e, hc⟩ := hv.cells j hj2
      injection e with e
      injection e with e1 e2
      subst e1 e2
      rw [Addr.add_lit, hc]
      have : (w32V (intsL xs))[j]? = some (.int .u32 (xs.getD j 0 : Nat)) := by simp [w32V, intsL, List.getD_eq_getElem?_getD, show j < xs.length by omega]
      rw [this] at hj
      exact hj
    · intro v4 w4 ho4 hg4 hat4
      obtain ⟨a', c', e⟩ := own_slice ho4
      subst e
      refine h a' c' w4 (by simpa [w32V] using ho4) (hidden (fm_grown hg4 hat4.out))
end Go.Proofs.Ytmohnopegacahaa
