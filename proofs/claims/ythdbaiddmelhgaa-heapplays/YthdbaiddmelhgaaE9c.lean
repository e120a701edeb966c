/- What the document's heap is behind the stores of Malloc; appending blocks out of any slice. -/
import Derived.Test.YthdbaiddmelhgaaE9a
import Derived.Laws.AppendOwnNone
namespace Go.Proofs.Ythdbaiddmelhgaa
open Go.RowKit
set_option maxHeartbeats 1000000
set_option maxRecDepth 100000
set_option linter.unusedVariables false

/-- append of a slice of blocks, nil or not, onto a row of the call's own -/
theorem wpList_append_bks {w : World} {ops : Array Oper} {rest : List Oper} {o : Oper} {a : Act} {Q : Exit → Act → World → Prop} (hgd : o.guard = none) (s x : Operand)
    (ho : o.op = .call { callee := .builtin .append, args := #[s, x], argTypes := #[29, 29] })
    (B : Nat) (v : Value) (n : Nat) (xs : List Value) (hs : a.eval s = v) (hown : w.ownsRow B 40 2 v n xs)
    (ao : Option Addr) (n2 c2 : Nat) (bs : List Bk) (hx : a.eval x = .slice ao n2 c2) (hb : Bks w ao n2 c2 bs) (hn : n + n2 ≤ 1000000000000) (hB : B ≤ w.heap.size)
    (hK : ∀ v' w', w'.ownsRow B 40 2 v' (n + n2) (xs ++ bksV bs) → w.grownBy w' v.ownBlock → wpList Try.prog ops Q rest (a.put o.dst v') w') : wpList Try.prog ops Q (o :: rest) a w := by
  obtain ⟨i0, hi, hz0, hz1, hz2⟩ := bk_parts
  obtain ⟨h1, h2, h3, h4, h5⟩ := hb
  cases ao with
  | none =>
    obtain ⟨rfl, rfl⟩ := h4 rfl
    obtain rfl : bs = [] := List.eq_nil_of_length_eq_zero h1
    refine wpList_append_own_none hgd s x 29 ho B 40 i0 2 Try.underlying29 hi v n xs hs hown hx ?_
    exact hK v w (by rw [Nat.add_zero, bksV_nil, List.append_nil]; exact hown) ⟨rfl, rfl, rfl, Nat.le_refl _, fun _ _ _ => rfl⟩
  | some y =>
    refine wpList_append_own w hgd s x 29 ho B 40 i0 _ 2 8 Try.underlying29 hi hz0 hz1 hz2 rfl (by decide) v n xs hs hown y n2 c2 (bksV bs) hx (by rw [bksV_len, h1]) ?_ (bksV_one bs) (by unfold maxLen; omega) (by omega) hB (fun v' w' q1 q2 _ => hK v' w' q1 q2)
    intro j u hj
    have hjl := (List.getElem?_eq_some_iff.1 hj).1
    rw [bksV_len] at hjl
    obtain ⟨b, off, e, hc⟩ := h5 (by omega)
    cases e
    rw [Addr.add_lit]
    exact hc j u hj
theorem set_fldD {w : World} {h : Nat} {cs : Array Value} (hh : w.heap[h]? = some (.cells cs 31 (0, 0))) (i : Nat) (u : Value) : (w.setCell ⟨h, i, none⟩ u).heap[h]? = some (.cells (cs.setIfInBounds i u) 31 (0, 0)) := by
  have := setCell_eq_setRow w h i cs 31 (0, 0) u hh
  rw [this]
  exact setRow_heap w h cs _ _ _ hh
theorem dp_set2 {B : Nat} {w : World} {h : Nat} {v : Value} {s : Hs} (hp : DpAt B w h v s) (x y : Nat) : DpAt B ((w.setCell ⟨h, 1, none⟩ (.int .i64 x)).setCell ⟨h, 2, none⟩ (.int .i64 y)) h v ⟨s.most, x, y, s.bs⟩ := by
  have h1 := set_fldD hp.2.1 1 (.int .i64 x)
  have h2 := set_fldD h1 2 (.int .i64 y)
  have hne := own_ne_dp hp.2.2 hp.2.1
  refine ⟨hp.1, ?_, ?_⟩
  · rw [h2]; simp
  · exact ownsRow_setCell_other (ownsRow_setCell_other hp.2.2 (by simpa using hne) _) (by simpa using hne) _
theorem dp_set3 {B : Nat} {w : World} {h : Nat} {v v' : Value} {m x y : Nat} {bs' : List Bk} (hB : B ≤ h) (hh : w.heap[h]? = some (.cells #[.int .i64 m, .int .i64 x, .int .i64 y, v] 31 (0, 0))) (ho : w.ownsRow B 40 2 v' bs'.length (bksV bs')) : DpAt B (w.setCell ⟨h, 3, none⟩ v') h v' ⟨m, x, y, bs'⟩ := by
  refine ⟨hB, ?_, ?_⟩
  · rw [set_fldD hh 3 v']; simp
  · exact ownsRow_setCell_other ho (by simpa using own_ne_dp ho hh) _
/-- a fresh row of blocks put into the document's heap, its bounds set ahead of it -/
theorem dp_new {B : Nat} {w wr w2 : World} {d : Nat} {u v2 : Value} {t : Hs} {bs' : List Bk} (hp : DpAt B w d u t) (hB : B ≤ w.heap.size) (hb : Below w.heap.size w wr) (X Y : Nat)
    (hg : ((wr.setCell ⟨d, 1, none⟩ (.int .i64 X)).setCell ⟨d, 2, none⟩ (.int .i64 Y)).grownBy w2 none) (ho : w2.ownsRow w.heap.size 40 2 v2 bs'.length (bksV bs')) :
    w2.cell? ⟨d, 3, none⟩ = some u ∧ w2.frozen? ⟨d, 3, none⟩ = false ∧ Hid (LeftD B w (w2.setCell ⟨d, 3, none⟩ v2) d u ⟨t.most, X, Y, bs'⟩) := by
  have hp1 := dp_set2 (hp.later hb) X Y
  have hlt : d < ((wr.setCell ⟨d, 1, none⟩ (.int .i64 X)).setCell ⟨d, 2, none⟩ (.int .i64 Y)).heap.size := (Array.getElem?_eq_some_iff.1 hp1.2.1).1
  have hh2 : w2.heap[d]? = some (.cells #[.int .i64 t.most, .int .i64 X, .int .i64 Y, u] 31 (0, 0)) := by
    rw [hg.block d hlt (by simp)]; exact hp1.2.1
  have f1 : Fr w ((wr.setCell ⟨d, 1, none⟩ (.int .i64 X)).setCell ⟨d, 2, none⟩ (.int .i64 Y)) d u u := fr_set (fr_set (Fr.same w wr d u hb) 1 _) 2 _
  have f2 : Fr w w2 d u v2 := ⟨hg.os.trans f1.os, hg.tape.trans f1.tape, hg.output.trans f1.output, Nat.le_trans f1.size hg.size, fun k hk hne hv => by rw [hg.block k (by have := f1.size; omega) (by simp)]; exact f1.block k hk hne hv, fun k hk => .inr (ho.lt k hk).1⟩
  refine ⟨by simp [World.cell?, hh2], by simp [World.frozen?, hh2], hidden ⟨v2, dp_set3 hp.1 hh2 (Joins.ownsRow_le ho hB), fr_set f2 3 _⟩⟩
/-- what the document's Malloc leaves, where the block's place is P -/
def DMRet (B : Nat) (w w' : World) (d : Nat) (u : Value) (t : Hs) (n P st en : Nat) (e : Ending) : Prop :=
  (P + n ≤ en ∧ e = .returned (.tuple #[.int .u32 P, .bool true]) ∧ LeftD B w w' d u ⟨t.most, st, en, t.bs ++ [⟨P, n⟩]⟩) ∨
  (en < P + n ∧ up (P + n) ≤ t.most ∧ e = .returned (.tuple #[.int .u32 P, .bool true]) ∧ LeftD B w w' d u ⟨t.most, st, up (P + n), t.bs ++ [⟨P, n⟩]⟩) ∨
  (en < P + n ∧ t.most < up (P + n) ∧ e = .returned (.tuple #[.int .u32 0, .bool false]) ∧ LeftD B w w' d u t)
theorem app_two {w wS w1 w2 : World} {v1 v2 : Value} {n : Nat} {bs : List Bk} {P m : Nat} (h1 : (wS.alloc (.cells #[] 40)).grownBy w1 (Value.slice (some ⟨wS.heap.size, 0, none⟩) 0 0).ownBlock) (o1 : w1.ownsRow wS.heap.size 40 2 v1 n (bksV bs))
    (h2 : (w1.alloc (.cells #[.int .u32 P, .int .u32 m] 40)).grownBy w2 v1.ownBlock) (o2 : w2.ownsRow wS.heap.size 40 2 v2 (n + 1) (bksV bs ++ [.int .u32 P, .int .u32 m])) (hn : bs.length = n) (hs : w.heap.size ≤ wS.heap.size) :
    wS.grownBy w2 none ∧ w2.ownsRow w.heap.size 40 2 v2 (bs ++ [(⟨P, m⟩ : Bk)]).length (bksV (bs ++ [⟨P, m⟩])) := by
  have hz1 := h1.size
  have hz2 := h2.size
  simp only [World.size_alloc] at hz1 hz2
  refine ⟨⟨h2.os.trans h1.os, h2.tape.trans h1.tape, h2.output.trans h1.output, by omega, fun k hk _ => ?_⟩, ?_⟩
  · rw [h2.block k (by simp; omega) (fun e => by have := (o1.lt k e.symm).1; omega), Go.heap_alloc_old _ _ (by omega), h1.block k (by simp; omega) (by simp [Value.ownBlock]; omega), Go.heap_alloc_old _ _ hk]
  · have e : bksV bs ++ [.int .u32 P, .int .u32 m] = bksV (bs ++ [⟨P, m⟩]) := by rw [bksV_app]; rfl
    rw [e] at o2
    rw [List.length_append, hn]
    exact Joins.ownsRow_le o2 hs
end Go.Proofs.Ythdbaiddmelhgaa
