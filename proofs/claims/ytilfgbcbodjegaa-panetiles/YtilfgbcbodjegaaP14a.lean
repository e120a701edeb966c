/- Layer 14: rows of windows (eight cells each) in memory of the call's own. -/
import Derived.WalkKit
import Derived.ProofKit
import Derived.OpenShut
import Derived.Below
import Derived.Laws.CopyOwn
import Derived.Laws.AppendOwn
import Derived.Lib.AppendZerosOnto
import Derived.Lib.SliceRun
import Derived.Maps.AppendAt
import Derived.Deep.RegionLaw
import Derived.Deep.RegionHeld3
import Derived.Deep.QuietTactic
import Derived.BigQuiet
import Derived.Deep.Cut
import Derived.Deep.CutRange
import Derived.Lib.SmallJoins
import Derived.OneCell
import Derived.Test.YtilfgbcbodjegaaRows
namespace Go.Proofs.Ytilfgbcbodjegaa
open Go.RowKit
set_option maxHeartbeats 1000000
set_option maxRecDepth 100000
set_option linter.unusedVariables false

theorem hidden {p : Prop} (h : p) : Hid p := h
theorem int_eq {k : IntKind} {a b : Int} (h : a = b) : Value.int k a = .int k b := by rw [h]
theorem own_later {w w' : World} {B e size n : Nat} {v : Value} {xs : List Value} (h : w.ownsRow B e size v n xs) (hb : Below w.heap.size w w') : w'.ownsRow B e size v n xs := by
  refine ⟨h.1, ?_⟩
  rcases h.2 with h1 | ⟨g, cap, cur, h1, h2, h3, h4⟩
  · exact .inl h1
  · exact .inr ⟨g, cap, cur, h1, h2, by rw [hb.block g (Array.getElem?_eq_some_iff.1 h3).1]; exact h3, h4⟩
theorem own_base {w : World} {B B' e size n : Nat} {v : Value} {xs : List Value} (h : w.ownsRow B' e size v n xs) (hB : B ≤ B') : w.ownsRow B e size v n xs := by
  refine ⟨h.1, ?_⟩
  rcases h.2 with h1 | ⟨g, cap, cur, h1, h2, h3⟩
  · exact .inl h1
  · exact .inr ⟨g, cap, cur, h1, by omega, h3⟩
/-- what a call leaves alone, but for the blocks T; behind it they are T' -/
structure Fm (w w' : World) (T T' : Nat → Prop) : Prop where
  os : w'.os = w.os
  tape : w'.tape = w.tape
  output : w'.output = w.output
  size : w.heap.size ≤ w'.heap.size
  block : ∀ k, k < w.heap.size → ¬ T k → w'.heap[k]? = w.heap[k]?
  row : ∀ k, T' k → T k ∨ w.heap.size ≤ k
theorem Fm.same {w w' : World} {T : Nat → Prop} (hb : Below w.heap.size w w') : Fm w w' T T := ⟨hb.os, hb.tape, hb.output, hb.size, fun k hk _ => hb.block k hk, fun k hk => .inl hk⟩
theorem Fm.trans {w w1 w2 : World} {T T1 T2 : Nat → Prop} (f : Fm w w1 T T1) (g : Fm w1 w2 T1 T2) : Fm w w2 T T2 :=
  ⟨g.os.trans f.os, g.tape.trans f.tape, g.output.trans f.output, Nat.le_trans f.size g.size, fun k hk hn => by
    rw [g.block k (by have := f.size; omega) (fun e => by rcases f.row k e with h' | h'; · exact hn h'
                                                          · omega), f.block k hk hn],
   fun k hk => by
    rcases g.row k hk with h' | h'
    · exact f.row k h'
    · exact .inr (by have := f.size; omega)⟩
theorem Fm.below {B : Nat} {w w' : World} {T T' : Nat → Prop} (f : Fm w w' T T') (hB : B ≤ w.heap.size) (hT : ∀ k, T k → B ≤ k) : Below B w w' :=
  ⟨f.os, f.tape, f.output, f.size, fun k hk => f.block k (by omega) (fun e => by have := hT k e; omega)⟩
theorem Fm.set {w w' : World} {T T' : Nat → Prop} (f : Fm w w' T T') (m i : Nat) (u : Value) (hm : T m) : Fm w (w'.setCell ⟨m, i, none⟩ u) T T' :=
  ⟨f.os, f.tape, f.output, by have := f.size; simpa using this, fun k hk hn => by rw [heap_setCell_other _ _ _ _ (show k ≠ m from fun e => hn (e ▸ hm))]; exact f.block k hk hn, f.row⟩
theorem Fm.to {w w' : World} {T T' U U' : Nat → Prop} (f : Fm w w' T T') (h : ∀ k, T k → U k) (h2 : ∀ k, U' k → U k ∨ T' k) : Fm w w' U U' :=
  ⟨f.os, f.tape, f.output, f.size, fun k hk hn => f.block k hk (fun e => hn (h k e)), fun k hk => by rcases h2 k hk with h' | h'; · exact .inl h'
                                                                                                     · rcases f.row k h' with h'' | h''; · exact .inl (h k h'')
                                                                                                       · exact .inr h''⟩
theorem own_fm {B : Nat} {w w' : World} {T T' : Nat → Prop} {v : Value} {n e size : Nat} {xs : List Value} (f : Fm w w' T T') (ho : w.ownsRow B e size v n xs) (hn : ∀ k, v.ownBlock = some k → ¬ T k) : w'.ownsRow B e size v n xs := by
  refine ⟨ho.1, ?_⟩
  rcases ho.2 with h1 | ⟨g, cap, cur, h1, h2, h3, h4⟩
  · exact .inl h1
  · refine .inr ⟨g, cap, cur, h1, h2, ?_, h4⟩
    rw [f.block g (Array.getElem?_eq_some_iff.1 h3).1 (hn g (by rw [h1]; rfl))]; exact h3
theorem own_neE {B E : Nat} {w : World} {v : Value} {n h sz : Nat} {xs : List Value} {cs : Array Value} {e : TypeId} (ho : w.ownsRow B E sz v n xs) (hh : w.heap[h]? = some (.cells cs e (0, 0))) (he : e ≠ E) : v.ownBlock ≠ some h := by
  intro e2
  rcases ho.2 with ⟨h1, _⟩ | ⟨g, cap, cur, h1, h2, h3, _⟩
  · rw [h1] at e2; cases e2
  · rw [h1] at e2
    simp only [Value.ownBlock, Option.some.injEq] at e2
    subst e2
    rw [hh] at h3
    simp at h3
    exact he h3.2
theorem fm_grown {w w' : World} {v v' : Value} (h : w.grownBy w' v.ownBlock) (hat : ∀ k, v'.ownBlock = some k → v.ownBlock = some k ∨ w.heap.size ≤ k) : Fm w w' (fun k => v.ownBlock = some k) (fun k => v'.ownBlock = some k) :=
  ⟨h.os, h.tape, h.output, h.size, fun k hk hn => h.block k hk (fun e => hn e.symm), hat⟩
theorem bkset {w : World} {m : Nat} {cs : Array Value} {e : TypeId} (hh : w.heap[m]? = some (.cells cs e (0, 0))) (i : Nat) (u : Value) : (w.setCell ⟨m, i, none⟩ u).heap[m]? = some (.cells (cs.setIfInBounds i u) e (0, 0)) := by
  have := setCell_eq_setRow w m i cs e (0, 0) u hh
  rw [this]
  exact setRow_heap w m cs _ _ _ hh
theorem own_slice {B E sz : Nat} {w : World} {v : Value} {n : Nat} {xs : List Value} (h : w.ownsRow B E sz v n xs) : ∃ ao c, v = .slice ao n c := by
  rcases h.2 with ⟨h1, h2⟩ | ⟨g, cap, cur, h1, _⟩
  · exact ⟨none, 0, by rw [h1, h2]⟩
  · exact ⟨_, _, h1⟩
theorem run_append_at {P : Program} {w : World} (base : Nat) (t ty e : TypeId) (i : TypeInfo) (z : Value) (size bytes : Nat) (ht : P.underlying t = some (.slice e)) (hi : P.info? e = some i) (hz : i.zero = some z)
    (hsize : i.size = size) (hby : i.bytes = bytes) (hzs : z.cells.size = size) (hsz : 0 < size)
    (v : Value) (n : Nat) (xs : List Value) (hown : w.ownsRow base e size v n xs)
    (a : Addr) (m c : Nat) (news : List Value) (hl : news.length = m * size) (hnews : ∀ j u, news[j]? = some u → w.cell? (a.add j) = some u) (h1 : ∀ u ∈ news, u.oneCell' = true)
    (h63 : n + m ≤ maxLen) (hbytes : (n + m) * bytes ≤ 140737488355328) (hbase : base ≤ w.heap.size) (hm : 0 < m) :
    ∃ v' w', (Builtin.append_ #[t, t] ty #[v, .slice (some a) m c]).run P w = .ok v' w' ∧ w'.ownsRow base e size v' (n + m) (xs ++ news) ∧ w.grownBy w' v.ownBlock ∧ (∀ k, v'.ownBlock = some k → v.ownBlock = some k ∨ w.heap.size ≤ k) := by
  obtain ⟨v', w', hr, h2, h3, _⟩ := run_append_own (P := P) w base t ty e i z size bytes ht hi hz hsize hby hzs hsz v n xs hown a m c news hl hnews h1 h63 hbytes hbase
  refine ⟨v', w', hr, h2, h3, ?_⟩
  subst hsize
  subst hby
  have hsmall : n + m ≤ 9223372036854775807 := by simp only [maxLen] at h63; omega
  rcases hown.2 with ⟨rfl, rfl⟩ | ⟨g, cap, cur, rfl, hbg, hg, hnc, hcm, hcs, htake⟩
  · have hx : xs = [] := List.eq_nil_of_length_eq_zero (by simpa using hown.1)
    subst hx
    have hr2 := run_append_nil (P := P) w t ty e i z ht hi hz a m c news hl hnews (by omega) (by omega) (by have hb := hbytes; simp only [Nat.zero_add] at hb; omega)
    rw [hr] at hr2
    simp only [Result.ok.injEq] at hr2
    rw [hr2.1]
    intro k hk
    simp only [Value.ownBlock, Option.some.injEq] at hk
    exact .inr (by omega)
  · by_cases hroom : n + m ≤ cap
    · have hfit : n * i.size + news.length ≤ cur.size := by rw [hl, hcs, ← Nat.add_mul]; exact Nat.mul_le_mul_right _ hroom
      have hr2 := run_append_room (P := P) w t ty e i ht hi g n cap cur hg a m c news hl hnews h1 hroom hfit
      rw [hr] at hr2
      simp only [Result.ok.injEq] at hr2
      rw [hr2.1]
      intro k hk
      exact .inl hk
    · have holds : ∀ j u, xs[j]? = some u → w.cell? ((⟨g, 0, none⟩ : Addr).add j) = some u := hown.cells (g := g) rfl
      have hr2 := run_append_grow (P := P) w t ty e i z ht hi hz ⟨g, 0, none⟩ n cap xs hown.1 holds a m c news hl hnews (by omega) (by omega) (growslice_fits (by omega) hbytes)
      rw [hr] at hr2
      simp only [Result.ok.injEq] at hr2
      rw [hr2.1]
      intro k hk
      simp only [Value.ownBlock, Option.some.injEq] at hk
      exact .inr (by omega)
theorem wpList_append_at {P : Program} {w : World} {ops : Array Oper} {rest : List Oper} {o : Oper} {a : Act} {Q : Exit → Act → World → Prop} (hgd : o.guard = none) (s x : Operand) (t : TypeId)
    (ho : o.op = .call { callee := .builtin .append, args := #[s, x], argTypes := #[t, t] })
    (base : Nat) (e : TypeId) (i : TypeInfo) (z : Value) (size bytes : Nat) (ht : P.underlying t = some (.slice e)) (hi : P.info? e = some i) (hz : i.zero = some z)
    (hsize : i.size = size) (hby : i.bytes = bytes) (hzs : z.cells.size = size) (hsz : 0 < size)
    (v : Value) (n : Nat) (xs : List Value) (hs : a.eval s = v) (hown : w.ownsRow base e size v n xs)
    (ad : Addr) (m c : Nat) (news : List Value) (hx : a.eval x = .slice (some ad) m c) (hl : news.length = m * size) (hnews : ∀ j u, news[j]? = some u → w.cell? (ad.add j) = some u) (h1 : ∀ u ∈ news, u.oneCell' = true)
    (h63 : n + m ≤ maxLen) (hbytes : (n + m) * bytes ≤ 140737488355328) (hbase : base ≤ w.heap.size) (hm : 0 < m)
    (h : ∀ v' w', w'.ownsRow base e size v' (n + m) (xs ++ news) → w.grownBy w' v.ownBlock → Hid (∀ k, v'.ownBlock = some k → v.ownBlock = some k ∨ w.heap.size ≤ k) → wpList P ops Q rest (a.put o.dst v') w') : wpList P ops Q (o :: rest) a w := by
  refine wpList_plain hgd fun K hK => ?_
  obtain ⟨v', w', hr, h2, h3, h4⟩ := run_append_at (P := P) (w := w) base t o.type e i z size bytes ht hi hz hsize hby hzs hsz v n xs hown ad m c news hl hnews h1 h63 hbytes hbase hm
  unfold Oper.wp execOp
  simp only [ho, resolve, invoke, builtin, Sem.run_bind, Sem.run_pure, Result.andThen_ok, List.map_toArray, List.map_cons, List.map_nil, hs, hx, hr]
  exact hK _ _ (h v' w' h2 h3 h4)
/-- a window: its number, its kind, its parent, its two children, its method, its size, its key -/
structure Wd where
  n : Int
  k : Int
  p : Int
  a : Int
  b : Int
  m : Int
  s : Int
  key : Int
def wd0 : Wd := ⟨0, 0, 0, 0, 0, 0, 0, 0⟩
def wdV (d : Wd) : List Value := [.int .i64 d.n, .int .i64 d.k, .int .i64 d.p, .int .i64 d.a, .int .i64 d.b, .int .i64 d.m, .int .u32 d.s, .int .i64 d.key]
def wdsV (L : List Wd) : List Value := L.flatMap wdV
theorem wdsV_cons (d : Wd) (L : List Wd) : wdsV (d :: L) = wdV d ++ wdsV L := rfl
theorem wdsV_app (K L : List Wd) : wdsV (K ++ L) = wdsV K ++ wdsV L := by simp [wdsV]
theorem wdsV_len (L : List Wd) : (wdsV L).length = L.length * 8 := by
  induction L with
  | nil => rfl
  | cons b bs ih => rw [wdsV_cons, List.length_append, ih, List.length_cons]; simp [wdV]; omega
theorem wdsV_take (L : List Wd) (i : Nat) : (wdsV L).take (i * 8) = wdsV (L.take i) := by
  induction L generalizing i with
  | nil => simp [wdsV]
  | cons b bs ih =>
    cases i with
    | zero => simp [wdsV]
    | succ i =>
      rw [wdsV_cons, List.take_succ_cons, wdsV_cons, List.take_append]
      have : (wdV b).length = 8 := rfl
      rw [this, show (i + 1) * 8 - 8 = i * 8 by omega, ih, List.take_of_length_le (by rw [this]; omega)]
theorem wdsV_drop (L : List Wd) (i : Nat) : (wdsV L).drop (i * 8) = wdsV (L.drop i) := by
  induction L generalizing i with
  | nil => simp [wdsV]
  | cons b bs ih =>
    cases i with
    | zero => simp
    | succ i =>
      rw [wdsV_cons, List.drop_succ_cons, List.drop_append]
      have : (wdV b).length = 8 := rfl
      rw [this, show (i + 1) * 8 - 8 = i * 8 by omega, ih, List.drop_of_length_le (by rw [this]; omega), List.nil_append]
theorem wdV_one (d : Wd) : ∀ u ∈ wdV d, u.oneCell' = true := by
  intro u hu
  simp [wdV] at hu
  rcases hu with rfl | rfl | rfl | rfl | rfl | rfl | rfl | rfl <;> rfl
theorem wdsV_one (L : List Wd) : ∀ u ∈ wdsV L, u.oneCell' = true := by
  intro u hu
  obtain ⟨b, _, hb⟩ := List.mem_flatMap.1 hu
  exact wdV_one b u hb
theorem wdsV_at (L : List Wd) (i : Nat) (h : i < L.length) (j : Nat) (hj : j < 8) : (wdsV L)[i * 8 + j]? = (wdV L[i])[j]? := by
  have h0 : (wdsV L).drop (i * 8) = wdV L[i] ++ wdsV (L.drop (i + 1)) := by rw [wdsV_drop, List.drop_eq_getElem_cons h, wdsV_cons]
  have := congrArg (·[j]?) h0
  simp only [List.getElem?_drop] at this
  rw [this, List.getElem?_append_left (by show j < 8; omega)]
theorem wdsV_set (L : List Wd) (i : Nat) (h : i < L.length) (j : Nat) (hj : j < 8) (u : Value) (d : Wd) (hd : wdV d = (wdV L[i]).set j u) : wdsV (L.set i d) = (wdsV L).set (i * 8 + j) u := by
  induction L generalizing i with
  | nil => simp at h
  | cons b bs ih =>
    cases i with
    | zero =>
      rw [List.set_cons_zero, wdsV_cons, wdsV_cons, List.set_append, if_pos (by show 0 * 8 + j < 8; omega), hd, Nat.zero_mul, Nat.zero_add]
      rfl
    | succ i =>
      have h8 : (wdV b).length = 8 := rfl
      rw [List.set_cons_succ, wdsV_cons, wdsV_cons, ih i (by simpa using h) (by simpa using hd), List.set_append, if_neg (by rw [h8]; omega), h8, show (i + 1) * 8 + j - 8 = i * 8 + j by omega]
/-- the cells of an owned row of windows -/
theorem wrow_cells {B E : Nat} {w : World} {g c : Nat} {L : List Wd} (h : w.ownsRow B E 8 (.slice (some ⟨g, 0, none⟩) L.length c) L.length (wdsV L)) (i : Nat) (hi : i < L.length) :
    w.cell? ⟨g, i * 8, none⟩ = some (.int .i64 L[i].n) ∧ w.cell? ⟨g, i * 8 + 1, none⟩ = some (.int .i64 L[i].k) ∧ w.cell? ⟨g, i * 8 + 2, none⟩ = some (.int .i64 L[i].p) ∧ w.cell? ⟨g, i * 8 + 3, none⟩ = some (.int .i64 L[i].a) ∧ w.cell? ⟨g, i * 8 + 4, none⟩ = some (.int .i64 L[i].b) ∧ w.cell? ⟨g, i * 8 + 5, none⟩ = some (.int .i64 L[i].m) ∧ w.cell? ⟨g, i * 8 + 6, none⟩ = some (.int .u32 L[i].s) ∧ w.cell? ⟨g, i * 8 + 7, none⟩ = some (.int .i64 L[i].key) := by
  have hc := h.cells (g := g) rfl
  have hk : ∀ j, j < 8 → ∀ u, (wdV L[i])[j]? = some u → w.cell? ⟨g, i * 8 + j, none⟩ = some u := fun j hj u hu => by
    have := hc (i * 8 + j) u (by rw [wdsV_at L i hi j hj]; exact hu)
    rwa [Addr.add_lit, Nat.zero_add] at this
  exact ⟨hk 0 (by omega) _ rfl, hk 1 (by omega) _ rfl, hk 2 (by omega) _ rfl, hk 3 (by omega) _ rfl, hk 4 (by omega) _ rfl, hk 5 (by omega) _ rfl, hk 6 (by omega) _ rfl, hk 7 (by omega) _ rfl⟩
theorem wrow_frozen {B E : Nat} {w : World} {g c n : Nat} {xs : List Value} (h : w.ownsRow B E 8 (.slice (some ⟨g, 0, none⟩) n c) n xs) (j : Nat) : w.frozen? ⟨g, j, none⟩ = false := by
  rcases h.2 with ⟨h1, _⟩ | ⟨g', cap, cur, h1, h2, h3, _⟩
  · cases h1
  · simp only [Value.slice.injEq, Option.some.injEq, Addr.mk.injEq, and_true] at h1
    obtain ⟨rfl, _⟩ := h1
    simp [World.frozen?, h3]
theorem wrow_pos {B E : Nat} {w : World} {v : Value} {L : List Wd} (h : w.ownsRow B E 8 v L.length (wdsV L)) (h0 : 0 < L.length) : ∃ g c, v = .slice (some ⟨g, 0, none⟩) L.length c ∧ B ≤ g ∧ g < w.heap.size ∧ L.length ≤ c ∧ c ≤ 9223372036854775807 := by
  rcases h.2 with ⟨h1, h2⟩ | ⟨g, cap, cur, h1, h2, h3, h4, h5, _⟩
  · omega
  · exact ⟨g, cap, h1, h2, (Array.getElem?_eq_some_iff.1 h3).1, h4, by simp only [maxLen] at h5; omega⟩
theorem wrow_set {B E : Nat} {w : World} {g c : Nat} {L : List Wd} (h : w.ownsRow B E 8 (.slice (some ⟨g, 0, none⟩) L.length c) L.length (wdsV L)) (i : Nat) (hi : i < L.length) (j : Nat) (hj : j < 8) (u : Value) (d : Wd) (hd : wdV d = (wdV L[i]).set j u) :
    (w.setCell ⟨g, i * 8 + j, none⟩ u).ownsRow B E 8 (.slice (some ⟨g, 0, none⟩) L.length c) L.length (wdsV (L.set i d)) := by
  refine ⟨by rw [wdsV_len, List.length_set], ?_⟩
  rcases h.2 with ⟨h1, _⟩ | ⟨g', cap, cur, h1, h2, h3, h4, h5, h6, h7⟩
  · cases h1
  · simp only [Value.slice.injEq, Option.some.injEq, Addr.mk.injEq, and_true] at h1
    obtain ⟨rfl, _, rfl⟩ := h1
    refine .inr ⟨g, c, cur.setIfInBounds (i * 8 + j) u, rfl, h2, bkset h3 _ _, h4, h5, by simpa using h6, ?_⟩
    rw [Array.toList_setIfInBounds, List.take_set, h7, ← wdsV_set L i hi j hj u d hd]
end Go.Proofs.Ytilfgbcbodjegaa
