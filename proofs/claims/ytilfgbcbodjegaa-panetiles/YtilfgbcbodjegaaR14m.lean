/- Layer 14, the document: rows of a call's own that Close makes. -/
import Derived.Test.YtilfgbcbodjegaaR14l
namespace Go.Proofs.Ytilfgbcbodjegaa
open Go.RowKit
set_option maxHeartbeats 1000000
set_option maxRecDepth 100000
set_option linter.unusedVariables false

/-- rows of two kinds are apart -/
theorem own_two {w : World} {B1 B2 E1 E2 s1 s2 n1 n2 : Nat} {v1 v2 : Value} {xs1 xs2 : List Value} (h1 : w.ownsRow B1 E1 s1 v1 n1 xs1) (h2 : w.ownsRow B2 E2 s2 v2 n2 xs2) (he : E1 ≠ E2) : ∀ k, v1.ownBlock = some k → ¬ v2.ownBlock = some k := by
  intro k e1 e2
  rcases h1.2 with ⟨a1, _⟩ | ⟨g, cap, cur, a1, a2, a3, _⟩
  · rw [a1] at e1; cases e1
  · rw [a1] at e1
    simp only [Value.ownBlock, Option.some.injEq] at e1
    subst e1
    exact own_neE h2 a3 he e2
def boolsV (bs : List Bool) : List Value := bs.map Value.bool
theorem boolsV_app (a b : List Bool) : boolsV (a ++ b) = boolsV a ++ boolsV b := by simp [boolsV]
theorem boolsV_one (bs : List Bool) : ∀ u ∈ boolsV bs, u.oneCell' = true := by
  intro u hu
  obtain ⟨b, _, rfl⟩ := List.mem_map.1 hu
  rfl
theorem info_boo : (Try.prog.info? 4).map (fun i => (i.zero, i.size, i.bytes)) = some (some (.bool false), 1, 1) := by kernel_rfl
theorem boo_parts : ∃ i, Try.prog.info? 4 = some i ∧ i.zero = some (.bool false) ∧ i.size = 1 ∧ i.bytes = 1 := by
  have h := info_boo
  cases hq : Try.prog.info? 4 with
  | none => rw [hq] at h; simp at h
  | some i => rw [hq] at h; simp at h; exact ⟨i, rfl, h.1, h.2.1, h.2.2⟩
theorem wpList_snocBF {base : Nat} {w : World} {ops : Array Oper} {rest : List Oper} {o : Oper} {a : Act} {Q : Exit → Act → World → Prop} (hgd : o.guard = none) (s x : Operand)
    (ho : o.op = .call { callee := .builtin .append, args := #[s, x], argTypes := #[112, 112] })
    (v : Value) (n : Nat) (zs : List Bool) (z : Bool) (ad : Addr) (hs : a.eval s = v) (hx : a.eval x = .slice (some ad) 1 1) (hown : w.ownsRow base 4 1 v n (boolsV zs)) (hc : w.cell? (ad.add 0) = some (.bool z)) (h63 : n ≤ 100000) (hb : base ≤ w.heap.size)
    (h : ∀ a' c' w', Hid (w'.ownsRow base 4 1 (.slice a' (n + 1) c') (n + 1) (boolsV (zs ++ [z]))) → Hid (Fm w w' (fun k => v.ownBlock = some k) (fun k => (Value.slice a' (n + 1) c').ownBlock = some k)) → wpList Try.prog ops Q rest (a.put o.dst (.slice a' (n + 1) c')) w') : wpList Try.prog ops Q (o :: rest) a w := by
  obtain ⟨i0, hi, hz0, hz1, hz2⟩ := boo_parts
  refine wpList_append_at hgd s x 112 ho base 4 i0 (.bool false) 1 1 Try.underlying112 hi hz0 hz1 hz2 rfl (by decide) v n (boolsV zs) hs hown ad 1 1 (boolsV [z]) hx (by simp [boolsV]) (fun j u hj => ?_) (boolsV_one _) (by unfold maxLen; omega) (by omega) hb (by omega) ?_
  · have : j = 0 := by
      have := (List.getElem?_eq_some_iff.1 hj).1
      simp [boolsV] at this
      omega
    subst this
    simp [boolsV] at hj
    rw [hc, ← hj]
  · intro v' w' h1 h2 h3
    rw [← boolsV_app] at h1
    obtain ⟨a', c', rfl⟩ := own_slice h1
    exact h a' c' w' h1 (fm_grown h2 h3.out)
theorem wpList_snocIF {base : Nat} {w : World} {ops : Array Oper} {rest : List Oper} {o : Oper} {a : Act} {Q : Exit → Act → World → Prop} (hgd : o.guard = none) (s x : Operand)
    (ho : o.op = .call { callee := .builtin .append, args := #[s, x], argTypes := #[33, 33] })
    (v : Value) (n : Nat) (zs : List Int) (z : Int) (ad : Addr) (hs : a.eval s = v) (hx : a.eval x = .slice (some ad) 1 1) (hown : w.ownsRow base 3 1 v n (intsV zs)) (hc : w.cell? (ad.add 0) = some (.int .i64 z)) (h63 : n ≤ 100000) (hb : base ≤ w.heap.size)
    (h : ∀ a' c' w', Hid (w'.ownsRow base 3 1 (.slice a' (n + 1) c') (n + 1) (intsV (zs ++ [z]))) → Hid (Fm w w' (fun k => v.ownBlock = some k) (fun k => (Value.slice a' (n + 1) c').ownBlock = some k)) → wpList Try.prog ops Q rest (a.put o.dst (.slice a' (n + 1) c')) w') : wpList Try.prog ops Q (o :: rest) a w := by
  obtain ⟨i0, hi, hz0, hz1, hz2⟩ := int_parts
  refine wpList_append_at hgd s x 33 ho base 3 i0 (.int .i64 0) 1 8 Try.underlying33 hi hz0 hz1 hz2 rfl (by decide) v n (intsV zs) hs hown ad 1 1 (intsV [z]) hx (by simp [intsV]) (fun j u hj => ?_) (intsV_one _) (by unfold maxLen; omega) (by omega) hb (by omega) ?_
  · have : j = 0 := by
      have := (List.getElem?_eq_some_iff.1 hj).1
      simp [intsV] at this
      omega
    subst this
    simp [intsV] at hj
    rw [hc, ← hj]
  · intro v' w' h1 h2 h3
    rw [← intsV_app] at h1
    obtain ⟨a', c', rfl⟩ := own_slice h1
    exact h a' c' w' h1 (fm_grown h2 h3.out)
/-- of a row of truths each -/
theorem brow_cell {B n : Nat} {w : World} {v : Value} {bs : List Bool} (h : w.ownsRow B 4 1 v n (boolsV bs)) (j : Nat) (hj : j < bs.length) : ∃ g c, v = .slice (some ⟨g, 0, none⟩) n c ∧ w.cell? ⟨g, j, none⟩ = some (.bool bs[j]) ∧ bs.length = n := by
  have hl : bs.length = n := by have := h.1; simpa [boolsV] using this
  rcases h.2 with ⟨a1, a2⟩ | ⟨g, cap, cur, a1, _⟩
  · omega
  · refine ⟨g, cap, a1, ?_, hl⟩
    have hc := (a1 ▸ h).cells (g := g) rfl j (.bool bs[j]) (by simp [boolsV, hj])
    rwa [Addr.add_lit, Nat.zero_add] at hc
/-- behind some rounds of Close's first loop: what goes, and of each whether it goes -/
structure Cl1 (w w' : World) (v7 v8 : Value) (n j : Nat) (zs : List Int) (bs : List Bool) : Prop where
  bel : Below w.heap.size w w'
  g : w'.ownsRow w.heap.size 3 1 v7 n (intsV zs)
  o : w'.ownsRow w.heap.size 4 1 v8 j (boolsV bs)
theorem Cl1.later {w w1 w2 : World} {v7 v8 : Value} {n j : Nat} {zs : List Int} {bs : List Bool} (h : Cl1 w w1 v7 v8 n j zs bs) (hb : Below w1.heap.size w1 w2) : Cl1 w w2 v7 v8 n j zs bs :=
  ⟨h.bel.trans (hb.mono h.bel.size), own_later h.g hb, own_later h.o hb⟩
theorem Cl1.snocB {w w1 w2 : World} {v7 v8 v8' : Value} {n j j' : Nat} {zs : List Int} {bs bs' : List Bool} (h : Cl1 w w1 v7 v8 n j zs bs) (ho : w2.ownsRow w.heap.size 4 1 v8' j' (boolsV bs')) (f : Fm w1 w2 (fun k => v8.ownBlock = some k) (fun k => v8'.ownBlock = some k)) : Cl1 w w2 v7 v8' n j' zs bs' :=
  ⟨h.bel.trans (f.below h.bel.size (fun k e => (h.o.lt k e).1)), own_fm f h.g (own_two h.g h.o (by decide)), ho⟩
theorem Cl1.snocI {w w1 w2 : World} {v7 v7' v8 : Value} {n n' j : Nat} {zs zs' : List Int} {bs : List Bool} (h : Cl1 w w1 v7 v8 n j zs bs) (ho : w2.ownsRow w.heap.size 3 1 v7' n' (intsV zs')) (f : Fm w1 w2 (fun k => v7.ownBlock = some k) (fun k => v7'.ownBlock = some k)) : Cl1 w w2 v7' v8 n' j zs' bs :=
  ⟨h.bel.trans (f.below h.bel.size (fun k e => (h.g.lt k e).1)), ho, own_fm f h.o (own_two h.o h.g (by decide))⟩
/-- behind some rounds of its second loop: the tree as it was turned, and what is left so far -/
structure Cl2 (B m : Nat) (v : Value) (s1 : Ps) (w w' : World) (v7 v8 v11 : Value) (n j k : Nat) (zs : List Int) (bs : List Bool) (K : List Wd) : Prop where
  q : QAt B w' m v s1
  f : Fm w w' (TP m v) (TP m v)
  g : w'.ownsRow w.heap.size 3 1 v7 n (intsV zs)
  o : w'.ownsRow w.heap.size 4 1 v8 j (boolsV bs)
  l : w'.ownsRow w.heap.size 66 8 v11 k (wdsV K)
  lo : ∀ k, TP m v k → k < w.heap.size
theorem Cl2.later {B m : Nat} {v : Value} {s1 : Ps} {w w1 w2 : World} {v7 v8 v11 : Value} {n j k : Nat} {zs : List Int} {bs : List Bool} {K : List Wd} (h : Cl2 B m v s1 w w1 v7 v8 v11 n j k zs bs K) (hb : Below w1.heap.size w1 w2) : Cl2 B m v s1 w w2 v7 v8 v11 n j k zs bs K :=
  ⟨h.q.later hb, h.f.trans (Fm.same hb), own_later h.g hb, own_later h.o hb, own_later h.l hb, h.lo⟩
theorem Cl2.snocW {B m : Nat} {v : Value} {s1 : Ps} {w w1 w2 : World} {v7 v8 v11 v11' : Value} {n j k k' : Nat} {zs : List Int} {bs : List Bool} {K K' : List Wd} (h : Cl2 B m v s1 w w1 v7 v8 v11 n j k zs bs K) (ho : w2.ownsRow w.heap.size 66 8 v11' k' (wdsV K')) (f : Fm w1 w2 (fun k => v11.ownBlock = some k) (fun k => v11'.ownBlock = some k)) : Cl2 B m v s1 w w2 v7 v8 v11' n j k' zs bs K' := by
  have hb : Below w.heap.size w1 w2 := f.below h.f.size (fun k e => (h.l.lt k e).1)
  have hno : ∀ k, v11.ownBlock = some k → ¬ TP m v k := fun k e q => by have := (h.l.lt k e).1; have := h.lo k q; omega
  refine ⟨⟨h.q.base, ?_, own_fm f h.q.row (fun k e q => hno k q (.inr e))⟩, ?_, own_fm f h.g (own_two h.g h.l (by decide)), own_fm f h.o (own_two h.o h.l (by decide)), ho, h.lo⟩
  · rw [f.block m h.q.lt (fun q => hno m q (.inl rfl))]; exact h.q.box
  · refine ⟨f.os.trans h.f.os, f.tape.trans h.f.tape, f.output.trans h.f.output, Nat.le_trans h.f.size f.size, fun k hk hn => ?_, fun k hk => .inl hk⟩
    rw [hb.block k hk, h.f.block k hk hn]
/-- what is left is the tree's row -/
theorem Cl2.done {B m : Nat} {v : Value} {s1 : Ps} {w w1 : World} {v7 v8 v11 : Value} {n j : Nat} {zs : List Int} {bs : List Bool} {K : List Wd} (h : Cl2 B m v s1 w w1 v7 v8 v11 n j K.length zs bs K) (hB : B ≤ w.heap.size) :
    (w1.cell? ⟨m, 2, none⟩ = some v ∧ w1.frozen? ⟨m, 2, none⟩ = false) ∧ (w1.setCell ⟨m, 2, none⟩ v11).ownsRow w.heap.size 3 1 v7 n (intsV zs) ∧ QAt B (w1.setCell ⟨m, 2, none⟩ v11) m v11 { s1 with L := K } ∧ Fm w (w1.setCell ⟨m, 2, none⟩ v11) (TP m v) (TP m v11) := by
  have hb := h.q.box
  refine ⟨⟨h.q.cells.2.2.1, h.q.cells.2.2.2.2 2⟩, ownsRow_setCell_other h.g (by simpa using own_neE h.g hb (by decide)) _, ⟨h.q.base, by rw [bkset hb]; simp, ownsRow_setCell_other (own_base h.l hB) (by simpa using own_neE h.l hb (by decide)) _⟩, ?_⟩
  have f2 : Fm w w1 (TP m v) (TP m v11) := ⟨h.f.os, h.f.tape, h.f.output, h.f.size, h.f.block, fun k hk => by
    rcases hk with e | e
    · exact .inl (.inl e)
    · exact .inr (h.l.lt k e).1⟩
  exact f2.set m 2 _ (.inl rfl)
theorem fil_snoc (g : Int → Bool) (L : List Wd) (j : Nat) (hj : j < L.length) : (L.take (j + 1)).filter (fun d => !g d.n) = if g L[j].n = true then (L.take j).filter (fun d => !g d.n) else (L.take j).filter (fun d => !g d.n) ++ [L[j]] := by
  rw [List.take_add_one, List.getElem?_eq_getElem hj, List.filter_append]
  cases hg : g L[j].n with
  | true => simp [hg]
  | false => simp [hg]
theorem gbs_snoc (g : Int → Bool) (L : List Wd) (j : Nat) (hj : j < L.length) : (L.take (j + 1)).map (fun d => g d.n) = (L.take j).map (fun d => g d.n) ++ [g L[j].n] := by
  rw [List.take_add_one, List.getElem?_eq_getElem hj, List.map_append]
  rfl
end Go.Proofs.Ytilfgbcbodjegaa
