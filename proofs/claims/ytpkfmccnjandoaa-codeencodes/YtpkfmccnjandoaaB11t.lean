/- The document's Encode of any instruction. -/
import Derived.Test.YtpkfmccnjandoaaB11r
import Derived.Test.YtpkfmccnjandoaaB11s
import Derived.Test.YtpkfmccnjandoaaB11g
namespace Go.Proofs.Ytpkfmccnjandoaa
open Go.RowKit
set_option maxHeartbeats 1000000
set_option maxRecDepth 100000
set_option linter.unusedVariables false

theorem denc_any (op : Int) (a : Option Addr) (n c : Nat) (l : List Od) (w : World) (h : Ops w a n c l) (hn : n ≤ 1000) (hv : ∀ p ∈ l, 0 ≤ p.2 ∧ p.2 ≤ 4294967295) :
    Calls Try.prog 17 #[.agg #[.int .u32 op, .slice a n c]] w fun e w' => ERet w w' op l e := by
  cases hr : opR op with
  | none => exact denc_few op a n c l w h hn (.inl hr)
  | some r =>
    have hm : r ∈ tab ∧ r.1 = op := by
      unfold opR at hr
      exact ⟨List.mem_of_find?_eq_some hr, by simpa using List.find?_some hr⟩
    by_cases hne : n = r.2.2.length
    · subst hne
      have hb : 0 ≤ r.1 ∧ r.1 ≤ 569 := of_decide_eq_true (List.all_eq_true.1 tab_bd r hm.1)
      have h8 := tab_short hm.1
      have hl : l.length = r.2.2.length := h.1
      have hlet := fun i hi => tab_letters hm.1 i hi
      have hvs : ∀ i, i < r.2.2.length → 0 ≤ (l.getD i (0, 0)).2 ∧ (l.getD i (0, 0)).2 ≤ 4294967295 := fun i hi => hv _ (by rw [List.getD_eq_getElem?_getD, List.getElem?_eq_getElem (by omega)]; exact List.getElem_mem _)
      have hE : encOk op l = okAll r.2.2 l := by
        unfold encOk
        rw [hr]
        simp only
        rw [show (l.length == r.2.2.length) = true by simp; omega]
        rfl
      have hsg := fun wx => dsig_any op wx
      rw [hr] at hsg
      by_cases h1 : op < 128
      · exact denc_go1 op r.2.2 a c l w h h8 (by omega) h1 hvs hlet hE hsg
      · exact denc_go2 op r.2.2 a c l w h h8 (by omega) h1 hvs hlet hE hsg
    · exact denc_few op a n c l w h hn (.inr ⟨r, hr, hne⟩)
theorem ops_news {w : World} {x : Addr} {n c : Nat} {l : List Od} (h : Ops w (some x) n c l) : ∀ j u, (opsC l)[j]? = some u → w.cell? (x.add j) = some u := by
  intro j u hj
  have hl := h.1
  have hlt : j < 2 * l.length := by
    have := (List.getElem?_eq_some_iff.1 hj).1
    rw [opsC_len] at this; exact this
  obtain ⟨g, o, hx, hc⟩ := h.2.2 (by omega)
  cases hx
  have h2 := hc (j / 2) (by omega)
  have h3 := opsC_at l (j / 2) (by omega)
  rw [plain_add]
  rcases (show j = 2 * (j / 2) ∨ j = 2 * (j / 2) + 1 by omega) with e | e
  · rw [e] at hj
    rw [h3.1] at hj
    rw [e, ← hj, Nat.mul_comm 2 (j / 2)]
    exact h2.1
  · rw [e] at hj
    rw [h3.2] at hj
    rw [e, ← hj, Nat.mul_comm 2 (j / 2), ← Nat.add_assoc]
    exact h2.2
theorem opsC_one (l : List Od) : ∀ u ∈ opsC l, u.oneCell' = true := by
  intro u hu
  obtain ⟨p, _, hp⟩ := List.mem_flatMap.1 hu
  simp [odC] at hp
  rcases hp with rfl | rfl <;> rfl
theorem wpList_ods_none {w : World} {ops : Array Oper} {rest : List Oper} {o : Oper} {a : Act} {Q : Exit → Act → World → Prop} (hgd : o.guard = none) (s x : Operand)
    (ho : o.op = .call { callee := .builtin .append, args := #[s, x], argTypes := #[26, 26] })
    (g c : Nat) (hs : a.eval s = .slice (some ⟨g, 0, none⟩) 0 0) (hx : a.eval x = .slice none 0 c)
    (h : wpList Try.prog ops Q rest (a.put o.dst (.slice (some ⟨g, 0, none⟩) 0 0)) w) : wpList Try.prog ops Q (o :: rest) a w := by
  refine wpList_plain hgd fun K hK => ?_
  obtain ⟨i0, hi, hz0, hz1, hz2⟩ := infoOd_parts
  have hrun : (Builtin.append_ #[26, 26] o.type #[.slice (some ⟨g, 0, none⟩) 0 0, .slice none 0 c]).run Try.prog w = .ok (.slice (some ⟨g, 0, none⟩) 0 0) w := by
    simp [Builtin.append_, run_underlying Try.underlying26, sizeOf, typeInfo, hi, Builtin.lenOf, Builtin.firstCells, storeCells]
  unfold Oper.wp
  simp [execOp, ho, resolve, invoke, builtin, hs, hx, hrun, Result.andThen]
  exact hK _ _ h
end Go.Proofs.Ytpkfmccnjandoaa
