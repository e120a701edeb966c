/- Rows of bytes that are owned; a stack as it lies in memory of the call's own, and what a call on it may change. -/
import Derived.Test.YthhkennomnmjkaaS10a
import Derived.Laws.CopyOwn
import Derived.Lib.SmallJoins
import Derived.Lib.SliceRun
import Derived.Lib.AppendZerosOnto
import Derived.Deep.RegionHeld3
import Derived.BigQuiet
import Derived.Deep.QuietTactic
namespace Go.Proofs.Ythhkennomnmjkaa
open Go.RowKit
set_option maxHeartbeats 1000000
set_option maxRecDepth 100000
set_option linter.unusedVariables false

theorem own_later {w w' : World} {B e size n : Nat} {v : Value} {xs : List Value} (h : w.ownsRow B e size v n xs) (hb : Below w.heap.size w w') : w'.ownsRow B e size v n xs := by
  refine ⟨h.1, ?_⟩
  rcases h.2 with h2 | ⟨g, cap, cur, h1, h2, h3, h4⟩
  · exact .inl h2
  · exact .inr ⟨g, cap, cur, h1, h2, (hb.block g (Array.getElem?_eq_some_iff.1 h3).1).trans h3, h4⟩
theorem own_base {w : World} {B B' e size n : Nat} {v : Value} {xs : List Value} (h : w.ownsRow B' e size v n xs) (hB : B ≤ B') : w.ownsRow B e size v n xs := by
  refine ⟨h.1, ?_⟩
  rcases h.2 with h2 | ⟨g, cap, cur, h1, h2, h3, h4⟩
  · exact .inl h2
  · exact .inr ⟨g, cap, cur, h1, Nat.le_trans hB h2, h3, h4⟩
theorem own_bs {w : World} {B g n cap : Nat} {zs : List Int} (h : w.ownsRow B 5 1 (.slice (some ⟨g, 0, none⟩) n cap) n (bytesV zs)) : Bs w g 0 n zs := by
  have hl : (bytesV zs).length = n * 1 := h.1
  exact ⟨by simpa [bytesV] using hl, fun i hi => owned_cells h i hi⟩
theorem bytesV_splice (zs ds : List Int) (off : Nat) : bytesV (splice zs off ds) = splice (bytesV zs) off (bytesV ds) := by
  simp [bytesV, splice, List.map_append, List.map_take, List.map_drop]
/-- an owned row over which bytes are laid -/
theorem own_splice {w : World} {B g n cap : Nat} {zs : List Int} (h : w.ownsRow B 5 1 (.slice (some ⟨g, 0, none⟩) n cap) n (bytesV zs)) :
    ∃ cur : List Value, w.heap[g]? = some (.cells cur.toArray 5 (0, 0)) ∧ n ≤ cur.length ∧ B ≤ g ∧ n ≤ cap ∧ cap ≤ maxLen ∧ ∀ (w' : World) (off : Nat) (ds : List Int), off + ds.length ≤ n → w'.heap[g]? = some (.cells (splice cur off (bytesV ds)).toArray 5 (0, 0)) →
      w'.ownsRow B 5 1 (.slice (some ⟨g, 0, none⟩) n cap) n (bytesV (splice zs off ds)) := by
  have hl : (bytesV zs).length = n * 1 := h.1
  have hzl : zs.length = n := by simpa [bytesV] using hl
  rcases h.2 with ⟨h2, _⟩ | ⟨g', cap', cur, h1, h2, h3, h4, h5, h6, h7⟩
  · cases h2
  · simp only [Value.slice.injEq, Option.some.injEq, Addr.mk.injEq, true_and, and_true] at h1
    obtain ⟨rfl, rfl⟩ := h1
    refine ⟨cur.toList, by simpa using h3, by simp; omega, h2, h4, h5, fun w' off ds ho hw => ?_⟩
    have hcl : cur.toList.length = cap := by simp; omega
    have hbl : (bytesV ds).length = ds.length := by simp [bytesV]
    have hsl : (splice cur.toList off (bytesV ds)).length = cap := by rw [length_splice _ _ _ (by omega)]; exact hcl
    refine ⟨by rw [bytesV_splice, length_splice _ _ _ (by omega)]; exact hl, .inr ⟨g, cap, _, rfl, h2, hw, h4, h5, by simpa using hsl, ?_⟩⟩
    rw [bytesV_splice, ← h7, Nat.mul_one]
    simp only [splice]
    rw [List.take_append, List.take_take, List.take_take, List.length_take, List.take_append, List.drop_take, hcl, hbl]
    rw [show min n off = off by omega, show min off n = off by omega, show min off cap = off by omega, List.take_of_length_le (show (bytesV ds).length ≤ n - off by omega)]
    rw [show n - (off + ds.length) = n - off - ds.length by omega]
theorem own8_cur {B : Nat} {w : World} {g n c : Nat} {zs : List Int} (h : w.ownsRow B 5 1 (.slice (some ⟨g, 0, none⟩) n c) n (bytesV zs)) :
    ∃ cur : List Value, B ≤ g ∧ w.heap[g]? = some (.cells cur.toArray 5 (0, 0)) ∧ n ≤ c ∧ c ≤ maxLen ∧ cur.length = c ∧ cur.take n = bytesV zs ∧ zs.length = n := by
  have hl : (bytesV zs).length = n * 1 := h.1
  rcases h.2 with ⟨h1, h2⟩ | ⟨g', cap, cur, h1, h2, h3, h4, h5, h6, h7⟩
  · cases h1
  · simp only [Value.slice.injEq, Option.some.injEq, Addr.mk.injEq, true_and, and_true] at h1
    obtain ⟨rfl, rfl⟩ := h1
    exact ⟨cur.toList, h2, by simpa using h3, h4, h5, by simpa using h6, by simpa using h7, by simpa [bytesV] using hl⟩
theorem own8_of {B : Nat} {w : World} {g n c : Nat} {zs : List Int} {cur : List Value} (hB : B ≤ g) (hg : w.heap[g]? = some (.cells cur.toArray 5 (0, 0))) (h1 : n ≤ c) (h2 : c ≤ maxLen) (h3 : cur.length = c) (h4 : cur.take n = bytesV zs) (h5 : zs.length = n) :
    w.ownsRow B 5 1 (.slice (some ⟨g, 0, none⟩) n c) n (bytesV zs) :=
  ⟨by simp [bytesV, h5], .inr ⟨g, c, cur.toArray, rfl, hB, hg, h1, h2, by simpa using h3, by simpa using h4⟩⟩
theorem own8_take {B : Nat} {w : World} {g n c : Nat} {zs : List Int} (h : w.ownsRow B 5 1 (.slice (some ⟨g, 0, none⟩) n c) n (bytesV zs)) (k : Nat) (hk : k ≤ n) : w.ownsRow B 5 1 (.slice (some ⟨g, 0, none⟩) k c) k (bytesV (zs.take k)) := by
  obtain ⟨cur, h1, h2, h3, h4, h5, h6, h7⟩ := own8_cur h
  refine own8_of h1 h2 (by omega) h4 h5 ?_ (by simp; omega)
  have := congrArg (List.take k) h6
  rw [List.take_take, Nat.min_eq_left hk] at this
  rw [this]; simp [bytesV, List.map_take]
def zer8 (k : Nat) : List Int := List.replicate k 0
theorem zer8_len (k : Nat) : (zer8 k).length = k := by simp [zer8]
theorem zc8 (k : Nat) : (Builtin.zeroCells (Value.int .u8 0).cells k).toList = bytesV (zer8 k) := by
  have hs : (Value.int .u8 0).cells.size = 1 := rfl
  apply List.ext_getElem
  · simp [Builtin.zeroCells, hs, bytesV, zer8]
  · intro i h1 h2
    simp only [Builtin.zeroCells, bytesV, zer8, Array.toList_map, List.getElem_map, List.getElem_replicate, hs, Nat.mod_one]
    rfl
theorem zc8a (k : Nat) : Builtin.zeroCells (Value.int .u8 0).cells k = (bytesV (zer8 k)).toArray := by rw [← zc8]
theorem run_app0_none (kq kn : IntKind) (tn ty : TypeId) (htn : Try.prog.underlying tn = some (.int kn)) (g n cap : Nat) (w : World) (h : n ≤ cap) :
    (Builtin.append_ #[24, tn] ty #[.slice (some ⟨g, 0, none⟩) n cap, .int kq (0 : Nat)]).run Try.prog w = .ok (.slice (some ⟨g, 0, none⟩) n cap) w := by
  obtain ⟨i0, hi, hz0, hz1, hz2⟩ := info_parts info8
  have hw : IntKind.i64.wrap ((0 : Nat) : Int) = ((0 : Nat) : Int) := by rw [IntKind.wrap_i64]; omega
  have hw2 : IntKind.i64.wrap 0 = 0 := by rw [IntKind.wrap_i64]; omega
  simp [Builtin.append_, run_underlying Try.underlying24, run_underlying htn, sizeOf, typeInfo, zeroValue, hi, hz0, asInt, asIntOf, hw2, h, storeCells]
theorem run_app0_room (kq kn : IntKind) (tn ty : TypeId) (htn : Try.prog.underlying tn = some (.int kn)) (g n cap k : Nat) (cur : List Value) (w : World) (hg : w.heap[g]? = some (.cells cur.toArray 5 (0, 0))) (hc : cur.length = cap) (h0 : 0 < k) (h : n + k ≤ cap) (hk : k ≤ 4294967296) :
    (Builtin.append_ #[24, tn] ty #[.slice (some ⟨g, 0, none⟩) n cap, .int kq k]).run Try.prog w = .ok (.slice (some ⟨g, 0, none⟩) (n + k) cap) (w.setRow g (splice cur n (bytesV (zer8 k))).toArray) := by
  obtain ⟨i0, hi, hz0, hz1, hz2⟩ := info_parts info8
  have hw : IntKind.i64.wrap (k : Int) = k := by rw [IntKind.wrap_i64]; omega
  have hlen : (bytesV (zer8 k)).length = k := by simp [bytesV, zer8]
  have hst := run_storeCells_at Try.prog g n 5 (bytesV (zer8 k)) 0 cur.toArray w hg (by simp [hlen, hc]; omega) (bytesV_one _)
  have hneg : ¬ ((k : Int) < 0) := by omega
  have h48i : ¬ (281474976710656 < (k : Int)) := by omega
  have hns : ¬ k = 0 := by omega
  simp [Builtin.append_, run_underlying Try.underlying24, run_underlying htn, sizeOf, typeInfo, zeroValue, hi, hz0, hz1, hz2, asInt, asIntOf, hw, hneg, h48i, hns, h, zc8, Addr.add_lit, hst, splice]
/-- what a call leaves alone, but for the blocks T; behind it they are T' -/
structure Fm (w w' : World) (T T' : Nat → Prop) : Prop where
  os : w'.os = w.os
  tape : w'.tape = w.tape
  output : w'.output = w.output
  size : w.heap.size ≤ w'.heap.size
  block : ∀ k, k < w.heap.size → ¬ T k → w'.heap[k]? = w.heap[k]?
  row : ∀ k, T' k → T k ∨ w.heap.size ≤ k
theorem Fm.same {w w' : World} {T : Nat → Prop} (hb : Below w.heap.size w w') : Fm w w' T T := ⟨hb.os, hb.tape, hb.output, hb.size, fun k hk _ => hb.block k hk, fun k hk => .inl hk⟩
theorem Fm.trans {w w1 w2 : World} {T T1 T2 : Nat → Prop} (f : Fm w w1 T T1) (g : Fm w1 w2 T1 T2) : Fm w w2 T T2 :=
  ⟨g.os.trans f.os, g.tape.trans f.tape, g.output.trans f.output, Nat.le_trans f.size g.size, fun k hk hn => by
    rw [g.block k (by have := f.size; omega) (fun e => by rcases f.row k e with h' | h'; · exact hn h'
                                                          · omega), f.block k hk hn],
   fun k hk => by
    rcases g.row k hk with h' | h'
    · exact f.row k h'
    · exact .inr (by have := f.size; omega)⟩
theorem Fm.below {B : Nat} {w w' : World} {T T' : Nat → Prop} (f : Fm w w' T T') (hB : B ≤ w.heap.size) (hT : ∀ k, T k → B ≤ k) : Below B w w' :=
  ⟨f.os, f.tape, f.output, f.size, fun k hk => f.block k (by omega) (fun e => by have := hT k e; omega)⟩
theorem Fm.set {w w' : World} {T T' : Nat → Prop} (f : Fm w w' T T') (m i : Nat) (u : Value) (hm : T m) : Fm w (w'.setCell ⟨m, i, none⟩ u) T T' :=
  ⟨f.os, f.tape, f.output, by have := f.size; simpa using this, fun k hk hn => by rw [heap_setCell_other _ _ _ _ (show k ≠ m from fun e => hn (e ▸ hm))]; exact f.block k hk hn, f.row⟩
theorem Fm.wide {w w' : World} {T T' U : Nat → Prop} (f : Fm w w' T T') (h : ∀ k, T k → U k) (h2 : ∀ k, U k → U k) : Fm w w' U (fun k => U k ∨ T' k) :=
  ⟨f.os, f.tape, f.output, f.size, fun k hk hn => f.block k hk (fun e => hn (h k e)), fun k hk => by rcases hk with h' | h'; · exact .inl h'
                                                                                                     · rcases f.row k h' with h'' | h''; · exact .inl (h k h'')
                                                                                                       · exact .inr h''⟩
theorem Fm.to {w w' : World} {T T' U U' : Nat → Prop} (f : Fm w w' T T') (h : ∀ k, T k → U k) (h2 : ∀ k, U' k → U k ∨ T' k) : Fm w w' U U' :=
  ⟨f.os, f.tape, f.output, f.size, fun k hk hn => f.block k hk (fun e => hn (h k e)), fun k hk => by rcases h2 k hk with h' | h'; · exact .inl h'
                                                                                                     · rcases f.row k h' with h'' | h''; · exact .inl (h k h'')
                                                                                                       · exact .inr h''⟩
theorem own8_fm {B : Nat} {w w' : World} {T T' : Nat → Prop} {v : Value} {n e size : Nat} {xs : List Value} (f : Fm w w' T T') (ho : w.ownsRow B e size v n xs) (hn : ∀ k, v.ownBlock = some k → ¬ T k) : w'.ownsRow B e size v n xs := by
  refine ⟨ho.1, ?_⟩
  rcases ho.2 with h1 | ⟨g, cap, cur, h1, h2, h3, h4⟩
  · exact .inl h1
  · refine .inr ⟨g, cap, cur, h1, h2, ?_, h4⟩
    rw [f.block g (Array.getElem?_eq_some_iff.1 h3).1 (hn g (by rw [h1]; rfl))]; exact h3
theorem app0_any (kq kn : IntKind) (tn : TypeId) (htn : Try.prog.underlying tn = some (.int kn)) (B g n cap k : Nat) (zs : List Int) (w : World) (ho : w.ownsRow B 5 1 (.slice (some ⟨g, 0, none⟩) n cap) n (bytesV zs)) (hB : B ≤ w.heap.size) (hk : n + k ≤ 4294967296) :
    ∃ g' cap' w', (∀ ty, (Builtin.append_ #[24, tn] ty #[.slice (some ⟨g, 0, none⟩) n cap, .int kq k]).run Try.prog w = .ok (.slice (some ⟨g', 0, none⟩) (n + k) cap') w') ∧ w'.ownsRow B 5 1 (.slice (some ⟨g', 0, none⟩) (n + k) cap') (n + k) (bytesV (zs ++ zer8 k)) ∧ Fm w w' (fun x => x = g) (fun x => x = g') := by
  obtain ⟨cur, h1, h2, h3, h4, h5, h6, h7⟩ := own8_cur ho
  by_cases h0 : k = 0
  · subst h0
    refine ⟨g, cap, w, fun ty => run_app0_none kq kn tn ty htn g n cap w h3, ?_, Fm.same (Below.refl _ _)⟩
    simpa [zer8] using ho
  by_cases hr : n + k ≤ cap
  · refine ⟨g, cap, _, fun ty => run_app0_room kq kn tn ty htn g n cap k cur w h2 h5 (by omega) hr (by omega), ?_, ?_⟩
    · have hs := setRow_heap w g cur.toArray (splice cur n (bytesV (zer8 k))).toArray 5 (0, 0) h2
      have hbl : (bytesV (zer8 k)).length = k := by simp [bytesV, zer8]
      refine own8_of h1 hs hr h4 (by rw [length_splice _ _ _ (by omega)]; exact h5) ?_ (by simp [zer8_len, h7])
      simp only [splice]
      have e : bytesV (zs ++ zer8 k) = bytesV zs ++ bytesV (zer8 k) := by simp [bytesV]
      rw [e, ← h6, ← List.append_assoc, List.take_append_of_le_length (by simp [hbl]; omega)]
      exact List.take_of_length_le (by simp [hbl]; omega)
    · exact ⟨rfl, rfl, rfl, by simp [World.setRow], fun x _ hx => setRow_other w g x _ (fun e => hx e), fun x hx => .inl hx⟩
  · obtain ⟨i0, hi, hz0, hz1, hz2⟩ := info_parts info8
    have hold : (Builtin.firstCells i0.size n (.slice (some ⟨g, 0, none⟩) n cap)).run Try.prog w.drew = .ok (bytesV zs).toArray w.drew := by
      have := run_firstCells_some (P := Try.prog) w.drew i0.size n ⟨g, 0, none⟩ n cap (bytesV zs) (by simp [bytesV, h7, hz1]) (fun j u hj => by
        have := ho.cells (g := g) rfl j u hj
        exact this)
      exact this
    have hrun := fun ty => Lib.run_append_grow_zeros (P := Try.prog) w 24 tn ty 5 i0 (.int .u8 0) kq kn Try.underlying24 htn hi hz0 (some ⟨g, 0, none⟩) n cap (bytesV zs) hold k (by omega) (by omega) (by omega) (by omega) (by rw [hz2]; omega) (growslice_fits (by omega) (by rw [hz2]; omega))
    have hge := grownCap_ge w (n + k) cap 5
    have hcm : grownCap w (n + k) cap 5 ≤ maxLen := grownCap_le_maxLen w (n + k) cap 5 (by unfold maxLen; omega)
    refine ⟨w.heap.size, _, _, hrun, ?_, ⟨rfl, rfl, rfl, by simp, fun x hx _ => Go.heap_alloc_old _ _ hx, fun x hx => .inr (by omega)⟩⟩
    have hh := heap_alloc_new w.drew (.cells ((bytesV zs).toArray ++ Builtin.zeroCells (Value.int .u8 0).cells k ++ Builtin.zeroCells (Value.int .u8 0).cells (grownCap w (n + k) cap 5 - (n + k))) 5)
    have hc : ((bytesV zs).toArray ++ Builtin.zeroCells (Value.int .u8 0).cells k ++ Builtin.zeroCells (Value.int .u8 0).cells (grownCap w (n + k) cap 5 - (n + k))) = (bytesV zs ++ bytesV (zer8 k) ++ bytesV (zer8 (grownCap w (n + k) cap 5 - (n + k)))).toArray := by
      rw [zc8a, zc8a]; simp
    rw [hc] at hh ⊢
    have hb1 : (bytesV zs).length = n := by simp [bytesV, h7]
    have hb2 : ∀ q, (bytesV (zer8 q)).length = q := fun q => by simp [bytesV, zer8]
    refine own8_of (by simpa using hB) hh hge hcm (by simp only [List.length_append, hb1, hb2]; omega) ?_ (by simp [zer8_len, h7])
    rw [List.take_left' (by simp only [List.length_append, hb1, hb2])]
    simp [bytesV]
/-- append onto an owned row: where the row lies behind it -/
theorem run_append_at {P : Program} {w : World} (base : Nat) (t ty e : TypeId) (i : TypeInfo) (z : Value) (size bytes : Nat) (ht : P.underlying t = some (.slice e)) (hi : P.info? e = some i) (hz : i.zero = some z)
    (hsize : i.size = size) (hby : i.bytes = bytes) (hzs : z.cells.size = size) (hsz : 0 < size)
    (v : Value) (n : Nat) (xs : List Value) (hown : w.ownsRow base e size v n xs)
    (a : Addr) (m c : Nat) (news : List Value) (hl : news.length = m * size) (hnews : ∀ j u, news[j]? = some u → w.cell? (a.add j) = some u) (h1 : ∀ u ∈ news, u.oneCell' = true)
    (h63 : n + m ≤ maxLen) (hbytes : (n + m) * bytes ≤ 140737488355328) (hbase : base ≤ w.heap.size) (hm : 0 < m) :
    ∃ v' w', (Builtin.append_ #[t, t] ty #[v, .slice (some a) m c]).run P w = .ok v' w' ∧ w'.ownsRow base e size v' (n + m) (xs ++ news) ∧ w.grownBy w' v.ownBlock ∧ (∀ k, v'.ownBlock = some k → v.ownBlock = some k ∨ w.heap.size ≤ k) := by
  obtain ⟨v', w', hr, h2, h3, _⟩ := run_append_own (P := P) w base t ty e i z size bytes ht hi hz hsize hby hzs hsz v n xs hown a m c news hl hnews h1 h63 hbytes hbase
  refine ⟨v', w', hr, h2, h3, ?_⟩
  subst hsize
  subst hby
  have hsmall : n + m ≤ 9223372036854775807 := by simp only [maxLen] at h63; omega
  rcases hown.2 with ⟨rfl, rfl⟩ | ⟨g, cap, cur, rfl, hbg, hg, hnc, hcm, hcs, htake⟩
  · have hx : xs = [] := List.eq_nil_of_length_eq_zero (by simpa using hown.1)
    subst hx
    have hr2 := run_append_nil (P := P) w t ty e i z ht hi hz a m c news hl hnews (by omega) (by omega) (by have hb := hbytes; simp only [Nat.zero_add] at hb; omega)
    rw [hr] at hr2
    simp only [Result.ok.injEq] at hr2
    rw [hr2.1]
    intro k hk
    simp only [Value.ownBlock, Option.some.injEq] at hk
    exact .inr (by omega)
  · by_cases hroom : n + m ≤ cap
    · have hfit : n * i.size + news.length ≤ cur.size := by rw [hl, hcs, ← Nat.add_mul]; exact Nat.mul_le_mul_right _ hroom
      have hr2 := run_append_room (P := P) w t ty e i ht hi g n cap cur hg a m c news hl hnews h1 hroom hfit
      rw [hr] at hr2
      simp only [Result.ok.injEq] at hr2
      rw [hr2.1]
      intro k hk
      exact .inl hk
    · have holds : ∀ j u, xs[j]? = some u → w.cell? ((⟨g, 0, none⟩ : Addr).add j) = some u := hown.cells (g := g) rfl
      have hr2 := run_append_grow (P := P) w t ty e i z ht hi hz ⟨g, 0, none⟩ n cap xs hown.1 holds a m c news hl hnews (by omega) (by omega) (growslice_fits (by omega) hbytes)
      rw [hr] at hr2
      simp only [Result.ok.injEq] at hr2
      rw [hr2.1]
      intro k hk
      simp only [Value.ownBlock, Option.some.injEq] at hk
      exact .inr (by omega)
theorem wpList_append_at {P : Program} {w : World} {ops : Array Oper} {rest : List Oper} {o : Oper} {a : Act} {Q : Exit → Act → World → Prop} (hgd : o.guard = none) (s x : Operand) (t : TypeId)
    (ho : o.op = .call { callee := .builtin .append, args := #[s, x], argTypes := #[t, t] })
    (base : Nat) (e : TypeId) (i : TypeInfo) (z : Value) (size bytes : Nat) (ht : P.underlying t = some (.slice e)) (hi : P.info? e = some i) (hz : i.zero = some z)
    (hsize : i.size = size) (hby : i.bytes = bytes) (hzs : z.cells.size = size) (hsz : 0 < size)
    (v : Value) (n : Nat) (xs : List Value) (hs : a.eval s = v) (hown : w.ownsRow base e size v n xs)
    (ad : Addr) (m c : Nat) (news : List Value) (hx : a.eval x = .slice (some ad) m c) (hl : news.length = m * size) (hnews : ∀ j u, news[j]? = some u → w.cell? (ad.add j) = some u) (h1 : ∀ u ∈ news, u.oneCell' = true)
    (h63 : n + m ≤ maxLen) (hbytes : (n + m) * bytes ≤ 140737488355328) (hbase : base ≤ w.heap.size) (hm : 0 < m)
    (h : ∀ v' w', w'.ownsRow base e size v' (n + m) (xs ++ news) → w.grownBy w' v.ownBlock → Hid (∀ k, v'.ownBlock = some k → v.ownBlock = some k ∨ w.heap.size ≤ k) → wpList P ops Q rest (a.put o.dst v') w') : wpList P ops Q (o :: rest) a w := by
  refine wpList_plain hgd fun K hK => ?_
  obtain ⟨v', w', hr, h2, h3, h4⟩ := run_append_at (P := P) (w := w) base t o.type e i z size bytes ht hi hz hsize hby hzs hsz v n xs hown ad m c news hl hnews h1 h63 hbytes hbase hm
  unfold Oper.wp execOp
  simp only [ho, resolve, invoke, builtin, Sem.run_bind, Sem.run_pure, Result.andThen_ok, List.map_toArray, List.map_cons, List.map_nil, hs, hx, hr]
  exact hK _ _ (h v' w' h2 h3 h4)
theorem bclone_any (a : Option Addr) (n c : Nat) (zs : List Int) (w : World) (h : Reads w a n c zs) (hn : n ≤ 2000000) :
    Calls Try.prog 24 #[.slice a n c] w fun e w' => ∃ a' c', e = .returned (.slice a' n c') ∧ w'.ownsRow w.heap.size 5 1 (.slice a' n c') n (bytesV zs) ∧ Below w.heap.size w w' := by
  obtain ⟨i0, hi, hz0, hz1, hz2⟩ := info_parts info8
  have hzl := h.1
  cases a with
  | none =>
    obtain ⟨h1, h2, h3⟩ := h
    rcases h3 with ⟨_, rfl, rfl⟩ | ⟨x, h4, _⟩
    · obtain rfl : zs = [] := List.eq_nil_of_length_eq_zero h1
      have heq : ∀ w, (binOp .eql 24 (.slice none 0 0) (.slice none 0 0)).run Try.prog w = .ok (.bool true) w := fun w => Lib.run_eql_slice_nil w _ _ none 0 0 0 0 Try.underlying24
      go_enter Try.func24, Try.ntmps24
      go_wp2
      go_ret
      exact ⟨none, 0, rfl, World.ownsRow_nil _ _ _ _, Below.refl _ _⟩
    · cases h4
  | some x =>
    have HN := hidden h.news
    have hb0 : Below w.heap.size w (w.alloc (.cells #[] 5)) := (Below.refl _ _).alloc (Nat.le_refl _) _
    have HM := hidden (World.ownsRow_made (base := w.heap.size) (e := 5) (size := 1) w #[] 0 (Nat.le_refl _) (Nat.zero_le _) (by simp))
    have HN1 : Hid (∀ j u, (bytesV zs)[j]? = some u → (w.alloc (.cells #[] 5)).cell? (x.add j) = some u) := hidden fun j u h => cellLater hb0 (HN.out j u h)
    have heq : ∀ w, (binOp .eql 24 (.slice (some x) n c) (.slice none 0 0)).run Try.prog w = .ok (.bool false) w := fun w => Lib.run_eql_slice_nil w _ _ (some x) n c 0 0 Try.underlying24
    have HZ := hidden hzl
    clear HN h hb0 hzl
    go_enter Try.func24, Try.ntmps24
    go_wp2_with (at_builtin; refine wpList_append_own _ rfl _ _ 24 rfl w.heap.size 5 i0 (.int .u8 0) 1 1 Try.underlying24 hi hz0 hz1 hz2 rfl (by decide) (.slice (some ⟨w.heap.size, 0, none⟩) 0 0) 0 [] rfl HM.out x n c (bytesV zs) rfl (by simp [bytesV, HZ.out]) HN1.out (bytesV_one zs) (by unfold maxLen; omega) (by omega) (by simp) ?_; intro v' w' hown' hgrow hnil)
    go_ret
    rw [Nat.zero_add, List.nil_append] at hown'
    have hb : Below w.heap.size w w' := (((Below.refl w.heap.size w).alloc (Nat.le_refl _) _)).grown hgrow (by simp) (fun j hj => by simp [Value.ownBlock] at hj; omega)
    rcases Joins.ownsRow_forms hown' with ⟨rfl, rfl⟩ | ⟨g, cap, rfl⟩
    · exact ⟨_, _, rfl, hown', hb⟩
    · exact ⟨_, _, rfl, hown', hb⟩
theorem own_reads {w : World} {B g n cap : Nat} {zs : List Int} (h : w.ownsRow B 5 1 (.slice (some ⟨g, 0, none⟩) n cap) n (bytesV zs)) : Reads w (some ⟨g, 0, none⟩) n cap zs := by
  obtain ⟨_, _, _, _, hc, _⟩ := own_splice h
  exact (own_bs h).reads cap hc
theorem info8s : (Try.prog.info? 5).map (·.size) = some 1 := by kernel_rfl
theorem mc8 (k : Nat) : madeCells (Value.int .u8 0).cells k = (bytesV (zer8 k)).toArray := by
  have hs : (Value.int .u8 0).cells.size = 1 := rfl
  apply Array.ext'
  apply List.ext_getElem
  · simp [madeCells, bytesV, zer8]
  · intro i h1 h2
    simp only [madeCells, bytesV, zer8, Array.toList_map, List.getElem_map, List.getElem_replicate, hs, Nat.mod_one]
    rfl
theorem mk8 (kd : IntKind) (k : Nat) (hk : k ≤ 4294967296) (w : World) : (Instr.makeSlice 24 (.int kd k) (.int kd k)).run Try.prog w = .ok (.slice (some ⟨w.heap.size, 0, none⟩) k k) (w.alloc (.cells (bytesV (zer8 k)).toArray 5)) := by
  obtain ⟨i0, hi, hz0, hz1, hz2⟩ := info_parts info8
  have := run_make (P := Try.prog) w 24 5 i0 (.int .u8 0) Try.underlying24 hi hz0 kd kd k k (by omega) (by omega) (by rw [hz2]; omega) (by omega)
  rw [this, hz1, Int.toNat_natCast, Nat.mul_one, mc8]
theorem splice_head (zs ys : List Int) (h : zs.length ≤ ys.length) : splice ys 0 zs = zs ++ ys.drop zs.length := by simp [splice]
theorem zer8_drop (k n : Nat) : (zer8 k).drop n = zer8 (k - n) := by simp [zer8]
theorem src8 {w : World} {B g n c : Nat} {zs : List Int} (h : w.ownsRow B 5 1 (.slice (some ⟨g, 0, none⟩) n c) n (bytesV zs)) : ∀ j v, (bytesV zs)[j]? = some v → w.cell? ((⟨g, 0, none⟩ : Addr).add j) = some v := (own_reads h).news
theorem run_copy0 (w : World) (ty : TypeId) (x y : Option Addr) (dl dc sl sc : Nat) (h : min sl dl = 0) :
    (Builtin.copy_ #[24, 24] ty #[.slice x dl dc, .slice y sl sc]).run Try.prog w = .ok (goInt 0) w := by
  obtain ⟨i0, hi, hz0, hz1, hz2⟩ := info_parts info8
  have hl : ∀ (a : Addr), (loadCells a 0).run Try.prog w = .ok #[] w := fun a => run_loadCells_list (P := Try.prog) w a [] (fun j v hj => by simp at hj)
  have h' : Nat.min sl dl = 0 := h
  cases x <;> cases y <;> simp [Builtin.copy_, run_underlying Try.underlying24, Builtin.lenOf, Builtin.firstCells, sizeOf, typeInfo, hi, h', hl, storeCells]
theorem step_copy0 {w : World} {ops : Array Oper} {o : Oper} {a : Act} {K : Act → World → Prop} {Q : Exit → Act → World → Prop} {E : Prop} (hgd : o.guard = none) (d s : Operand)
    (ho : o.op = .call { callee := .builtin .copy, args := #[d, s], argTypes := #[24, 24] }) (h6 : ∃ x dl dc y sl sc, a.eval d = .slice x dl dc ∧ a.eval s = .slice y sl sc ∧ min sl dl = 0)
    (h : K (a.put o.dst (goInt 0)) w) :
    if Region.wanted o (yielded ops a.tmps) = true then Oper.wp Try.prog o a w K Q else E := by
  have hw : Region.wanted o (yielded ops a.tmps) = true := by simp [Region.wanted, hgd]
  rw [if_pos hw]
  obtain ⟨x, dl, dc, y, sl, sc, hd, hs, hm⟩ := h6
  have hrun := run_copy0 w o.type x y dl dc sl sc hm
  unfold Oper.wp
  simp [execOp, ho, resolve, invoke, builtin, hd, hs, hrun, Result.andThen]
  exact h

/-- what a stack holds -/
structure Ks where
  size : Nat
  bs : List Int
  fr : Nat
  on : Bool
/-- a stack in memory of the call's own: its four fields, and the row of its bytes -/
structure KAt (B : Nat) (w : World) (m : Nat) (v : Value) (s : Ks) : Prop where
  base : B ≤ m
  box : w.heap[m]? = some (.cells #[.int .i64 s.size, v, .int .i64 s.fr, .bool s.on] 61 (0, 0))
  row : w.ownsRow B 5 1 v s.bs.length (bytesV s.bs)
/-- the blocks that a call on a stack may change -/
def TK (m : Nat) (v : Value) (k : Nat) : Prop := k = m ∨ v.ownBlock = some k
theorem KAt.lt {B : Nat} {w : World} {m : Nat} {v : Value} {s : Ks} (h : KAt B w m v s) : m < w.heap.size := (Array.getElem?_eq_some_iff.1 h.box).1
theorem own_slice8 {B : Nat} {w : World} {v : Value} {n : Nat} {xs : List Value} (h : w.ownsRow B 5 1 v n xs) : ∃ ao c, v = .slice ao n c := by
  rcases h.2 with ⟨h1, h2⟩ | ⟨g, cap, cur, h1, _⟩
  · exact ⟨none, 0, by rw [h1, h2]⟩
  · exact ⟨_, _, h1⟩
theorem own_ne {B : Nat} {w : World} {v : Value} {n h : Nat} {xs : List Value} {cs : Array Value} {e : TypeId} (ho : w.ownsRow B 5 1 v n xs) (hh : w.heap[h]? = some (.cells cs e (0, 0))) (he : e ≠ 5) : v.ownBlock ≠ some h := by
  intro e2
  rcases ho.2 with ⟨h1, _⟩ | ⟨g, cap, cur, h1, h2, h3, _⟩
  · rw [h1] at e2; cases e2
  · rw [h1] at e2
    simp only [Value.ownBlock, Option.some.injEq] at e2
    subst e2
    rw [hh] at h3
    simp at h3
    exact he h3.2
theorem KAt.ne {B : Nat} {w : World} {m : Nat} {v : Value} {s : Ks} (h : KAt B w m v s) : v.ownBlock ≠ some m := own_ne h.row h.box (by decide)
theorem KAt.later {B : Nat} {w w' : World} {m : Nat} {v : Value} {s : Ks} (h : KAt B w m v s) (hb : Below w.heap.size w w') : KAt B w' m v s :=
  ⟨h.base, (hb.block m h.lt).trans h.box, own_later h.row hb⟩
theorem KAt.cells {B : Nat} {w : World} {m : Nat} {v : Value} {s : Ks} (h : KAt B w m v s) : w.cell? ⟨m, 0, none⟩ = some (.int .i64 s.size) ∧ w.cell? ⟨m, 1, none⟩ = some v ∧ w.cell? ⟨m, 2, none⟩ = some (.int .i64 s.fr) ∧ w.cell? ⟨m, 3, none⟩ = some (.bool s.on) ∧ (∀ j, w.frozen? ⟨m, j, none⟩ = false) := by
  have hh := h.box
  refine ⟨by simp [World.cell?, hh], by simp [World.cell?, hh], by simp [World.cell?, hh], by simp [World.cell?, hh], fun j => by simp [World.frozen?, hh]⟩
theorem KAt.low {B : Nat} {w : World} {m : Nat} {v : Value} {s : Ks} (h : KAt B w m v s) : ∀ k, TK m v k → B ≤ k ∧ k < w.heap.size := by
  rintro k (rfl | e)
  · exact ⟨h.base, h.lt⟩
  · exact h.row.lt k e
theorem own_read8 {B : Nat} {w : World} {v : Value} {n c : Nat} {ao : Option Addr} {zs : List Int} (h : w.ownsRow B 5 1 (.slice ao n c) n (bytesV zs)) : Reads w ao n c zs := by
  rcases h.2 with ⟨h1, h2⟩ | ⟨g, cap, cur, h1, h2, h3, h4, h5, h6, h7⟩
  · simp only [Value.slice.injEq] at h1
    obtain ⟨rfl, rfl, rfl⟩ := h1
    have hl : (bytesV zs).length = 0 * 1 := h.1
    have : zs.length = 0 := by simpa [bytesV] using hl
    exact ⟨this, Nat.le_refl _, .inl ⟨rfl, rfl, rfl⟩⟩
  · simp only [Value.slice.injEq] at h1
    obtain ⟨rfl, _, rfl⟩ := h1
    exact own_reads h
/-- a store into one of the stack's own cells -/
theorem kset {w : World} {m : Nat} {cs : Array Value} (hh : w.heap[m]? = some (.cells cs 61 (0, 0))) (i : Nat) (u : Value) : (w.setCell ⟨m, i, none⟩ u).heap[m]? = some (.cells (cs.setIfInBounds i u) 61 (0, 0)) := by
  have := setCell_eq_setRow w m i cs 61 (0, 0) u hh
  rw [this]
  exact setRow_heap w m cs _ _ _ hh
/-- the row is another one -/
theorem KAt.grown {B : Nat} {w w' : World} {m : Nat} {v v' : Value} {s : Ks} {zs : List Int} (h : KAt B w m v s) (f : Fm w w' (fun k => v.ownBlock = some k) (fun k => v'.ownBlock = some k)) (ho : w'.ownsRow B 5 1 v' zs.length (bytesV zs)) :
    KAt B (w'.setCell ⟨m, 1, none⟩ v') m v' { s with bs := zs } ∧ Fm w (w'.setCell ⟨m, 1, none⟩ v') (TK m v) (TK m v') := by
  have hb : w'.heap[m]? = some (.cells #[.int .i64 s.size, v, .int .i64 s.fr, .bool s.on] 61 (0, 0)) := by
    rw [f.block m h.lt h.ne]; exact h.box
  refine ⟨⟨h.base, ?_, ownsRow_setCell_other ho (by simpa using own_ne ho hb (by decide)) _⟩, ?_⟩
  · rw [kset hb]; simp
  · refine (f.to (U := TK m v) (U' := TK m v') (fun k e => .inr e) (fun k e => ?_)).set m 1 _ (.inl rfl)
    rcases e with e | e
    · exact .inl (.inl e)
    · exact .inr e
/-- the same row, fewer or other bytes -/
theorem KAt.row' {B : Nat} {w : World} {m : Nat} {v v' : Value} {s : Ks} {zs : List Int} (h : KAt B w m v s) (ho : w.ownsRow B 5 1 v' zs.length (bytesV zs)) (hv : v'.ownBlock = v.ownBlock) :
    KAt B (w.setCell ⟨m, 1, none⟩ v') m v' { s with bs := zs } ∧ Fm w (w.setCell ⟨m, 1, none⟩ v') (TK m v) (TK m v') :=
  h.grown (Fm.to (Fm.same (T := fun k => v.ownBlock = some k) (Below.refl _ _)) (fun k e => e) (fun k e => .inl (by rw [← hv]; exact e))) ho
theorem KAt.inplace {B : Nat} {w w' : World} {m : Nat} {v : Value} {s : Ks} {zs : List Int} (h : KAt B w m v s) (f : Fm w w' (fun k => v.ownBlock = some k) (fun k => v.ownBlock = some k)) (hl : zs.length = s.bs.length) (ho : w'.ownsRow B 5 1 v s.bs.length (bytesV zs)) :
    KAt B w' m v { s with bs := zs } ∧ Fm w w' (TK m v) (TK m v) := by
  refine ⟨⟨h.base, by rw [f.block m h.lt h.ne]; exact h.box, by simp only; rw [hl]; exact ho⟩, f.to (fun k e => .inr e) (fun k e => .inl e)⟩
theorem KAt.set2 {B : Nat} {w : World} {m : Nat} {v : Value} {s : Ks} (h : KAt B w m v s) (x : Nat) : KAt B (w.setCell ⟨m, 2, none⟩ (.int .i64 x)) m v { s with fr := x } ∧ Fm w (w.setCell ⟨m, 2, none⟩ (.int .i64 x)) (TK m v) (TK m v) :=
  ⟨⟨h.base, by rw [kset h.box]; simp, ownsRow_setCell_other h.row (by simpa using h.ne) _⟩, (Fm.same (Below.refl _ _)).set m 2 _ (.inl rfl)⟩
theorem KAt.set3 {B : Nat} {w : World} {m : Nat} {v : Value} {s : Ks} (h : KAt B w m v s) (b : Bool) : KAt B (w.setCell ⟨m, 3, none⟩ (.bool b)) m v { s with on := b } ∧ Fm w (w.setCell ⟨m, 3, none⟩ (.bool b)) (TK m v) (TK m v) :=
  ⟨⟨h.base, by rw [kset h.box]; simp, ownsRow_setCell_other h.row (by simpa using h.ne) _⟩, (Fm.same (Below.refl _ _)).set m 3 _ (.inl rfl)⟩
theorem fm_grown {w w' : World} {v v' : Value} (h : w.grownBy w' v.ownBlock) (hat : ∀ k, v'.ownBlock = some k → v.ownBlock = some k ∨ w.heap.size ≤ k) : Fm w w' (fun k => v.ownBlock = some k) (fun k => v'.ownBlock = some k) :=
  ⟨h.os, h.tape, h.output, h.size, fun k hk hn => h.block k hk (fun e => hn e.symm), hat⟩
end Go.Proofs.Ythhkennomnmjkaa
