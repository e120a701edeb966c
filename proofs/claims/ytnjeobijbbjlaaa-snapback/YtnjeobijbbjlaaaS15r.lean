/- Layer 15: rows of bytes and of numbers that a call owns; what a call leaves alone (as in stage 12's text). -/
import Derived.Test.YtnjeobijbbjlaaaH7a
import Derived.Laws.CopyOwn
import Derived.Lib.SmallJoins
import Derived.Lib.SliceRun
import Derived.Lib.AppendZerosOnto
import Derived.Deep.RegionHeld3
import Derived.Deep.RegionLaw
import Derived.BigQuiet
import Derived.Deep.QuietTactic
namespace Go.Proofs.Ytnjeobijbbjlaaa
open Go.RowKit
set_option maxHeartbeats 1000000
set_option maxRecDepth 100000
set_option linter.unusedVariables false

theorem own_later {w w' : World} {B e size n : Nat} {v : Value} {xs : List Value} (h : w.ownsRow B e size v n xs) (hb : Below w.heap.size w w') : w'.ownsRow B e size v n xs := by
  refine ⟨h.1, ?_⟩
  rcases h.2 with h2 | ⟨g, cap, cur, h1, h2, h3, h4⟩
  · exact .inl h2
  · exact .inr ⟨g, cap, cur, h1, h2, (hb.block g (Array.getElem?_eq_some_iff.1 h3).1).trans h3, h4⟩
theorem own_base {w : World} {B B' e size n : Nat} {v : Value} {xs : List Value} (h : w.ownsRow B' e size v n xs) (hB : B ≤ B') : w.ownsRow B e size v n xs := by
  refine ⟨h.1, ?_⟩
  rcases h.2 with h2 | ⟨g, cap, cur, h1, h2, h3, h4⟩
  · exact .inl h2
  · exact .inr ⟨g, cap, cur, h1, Nat.le_trans hB h2, h3, h4⟩
theorem own_bs {w : World} {B g n cap : Nat} {zs : List Int} (h : w.ownsRow B 5 1 (.slice (some ⟨g, 0, none⟩) n cap) n (bytesV zs)) : Bs w g 0 n zs := by
  have hl : (bytesV zs).length = n * 1 := h.1
  exact ⟨by simpa [bytesV] using hl, fun i hi => owned_cells h i hi⟩
theorem bytesV_splice (zs ds : List Int) (off : Nat) : bytesV (splice zs off ds) = splice (bytesV zs) off (bytesV ds) := by
  simp [bytesV, splice, List.map_append, List.map_take, List.map_drop]
/-- an owned row over which bytes are laid -/
theorem own_splice {w : World} {B g n cap : Nat} {zs : List Int} (h : w.ownsRow B 5 1 (.slice (some ⟨g, 0, none⟩) n cap) n (bytesV zs)) :
    ∃ cur : List Value, w.heap[g]? = some (.cells cur.toArray 5 (0, 0)) ∧ n ≤ cur.length ∧ B ≤ g ∧ n ≤ cap ∧ cap ≤ maxLen ∧ ∀ (w' : World) (off : Nat) (ds : List Int), off + ds.length ≤ n → w'.heap[g]? = some (.cells (splice cur off (bytesV ds)).toArray 5 (0, 0)) →
      w'.ownsRow B 5 1 (.slice (some ⟨g, 0, none⟩) n cap) n (bytesV (splice zs off ds)) := by
  have hl : (bytesV zs).length = n * 1 := h.1
  have hzl : zs.length = n := by simpa [bytesV] using hl
  rcases h.2 with ⟨h2, _⟩ | ⟨g', cap', cur, h1, h2, h3, h4, h5, h6, h7⟩
  · cases h2
  · simp only [Value.slice.injEq, Option.some.injEq, Addr.mk.injEq, true_and, and_true] at h1
    obtain ⟨rfl, rfl⟩ := h1
    refine ⟨cur.toList, by simpa using h3, by simp; omega, h2, h4, h5, fun w' off ds ho hw => ?_⟩
    have hcl : cur.toList.length = cap := by simp; omega
    have hbl : (bytesV ds).length = ds.length := by simp [bytesV]
    have hsl : (splice cur.toList off (bytesV ds)).length = cap := by rw [length_splice _ _ _ (by omega)]; exact hcl
    refine ⟨by rw [bytesV_splice, length_splice _ _ _ (by omega)]; exact hl, .inr ⟨g, cap, _, rfl, h2, hw, h4, h5, by simpa using hsl, ?_⟩⟩
    rw [bytesV_splice, ← h7, Nat.mul_one]
    simp only [splice]
    rw [List.take_append, List.take_take, List.take_take, List.length_take, List.take_append, List.drop_take, hcl, hbl]
    rw [show min n off = off by omega, show min off n = off by omega, show min off cap = off by omega, List.take_of_length_le (show (bytesV ds).length ≤ n - off by omega)]
    rw [show n - (off + ds.length) = n - off - ds.length by omega]
theorem own8_cur {B : Nat} {w : World} {g n c : Nat} {zs : List Int} (h : w.ownsRow B 5 1 (.slice (some ⟨g, 0, none⟩) n c) n (bytesV zs)) :
    ∃ cur : List Value, B ≤ g ∧ w.heap[g]? = some (.cells cur.toArray 5 (0, 0)) ∧ n ≤ c ∧ c ≤ maxLen ∧ cur.length = c ∧ cur.take n = bytesV zs ∧ zs.length = n := by
  have hl : (bytesV zs).length = n * 1 := h.1
  rcases h.2 with ⟨h1, h2⟩ | ⟨g', cap, cur, h1, h2, h3, h4, h5, h6, h7⟩
  · cases h1
  · simp only [Value.slice.injEq, Option.some.injEq, Addr.mk.injEq, true_and, and_true] at h1
    obtain ⟨rfl, rfl⟩ := h1
    exact ⟨cur.toList, h2, by simpa using h3, h4, h5, by simpa using h6, by simpa using h7, by simpa [bytesV] using hl⟩
theorem own8_of {B : Nat} {w : World} {g n c : Nat} {zs : List Int} {cur : List Value} (hB : B ≤ g) (hg : w.heap[g]? = some (.cells cur.toArray 5 (0, 0))) (h1 : n ≤ c) (h2 : c ≤ maxLen) (h3 : cur.length = c) (h4 : cur.take n = bytesV zs) (h5 : zs.length = n) :
    w.ownsRow B 5 1 (.slice (some ⟨g, 0, none⟩) n c) n (bytesV zs) :=
  ⟨by simp [bytesV, h5], .inr ⟨g, c, cur.toArray, rfl, hB, hg, h1, h2, by simpa using h3, by simpa using h4⟩⟩
theorem own8_take {B : Nat} {w : World} {g n c : Nat} {zs : List Int} (h : w.ownsRow B 5 1 (.slice (some ⟨g, 0, none⟩) n c) n (bytesV zs)) (k : Nat) (hk : k ≤ n) : w.ownsRow B 5 1 (.slice (some ⟨g, 0, none⟩) k c) k (bytesV (zs.take k)) := by
  obtain ⟨cur, h1, h2, h3, h4, h5, h6, h7⟩ := own8_cur h
  refine own8_of h1 h2 (by omega) h4 h5 ?_ (by simp; omega)
  have := congrArg (List.take k) h6
  rw [List.take_take, Nat.min_eq_left hk] at this
  rw [this]; simp [bytesV, List.map_take]
def zer8 (k : Nat) : List Int := List.replicate k 0
theorem zer8_len (k : Nat) : (zer8 k).length = k := by simp [zer8]
theorem zc8 (k : Nat) : (Builtin.zeroCells (Value.int .u8 0).cells k).toList = bytesV (zer8 k) := by
  have hs : (Value.int .u8 0).cells.size = 1 := rfl
  apply List.ext_getElem
  · simp [Builtin.zeroCells, hs, bytesV, zer8]
  · intro i h1 h2
    simp only [Builtin.zeroCells, bytesV, zer8, Array.toList_map, List.getElem_map, List.getElem_replicate, hs, Nat.mod_one]
    rfl
theorem zc8a (k : Nat) : Builtin.zeroCells (Value.int .u8 0).cells k = (bytesV (zer8 k)).toArray := by rw [← zc8]
theorem run_app0_none (kq kn : IntKind) (tn ty : TypeId) (htn : Try.prog.underlying tn = some (.int kn)) (g n cap : Nat) (w : World) (h : n ≤ cap) :
    (Builtin.append_ #[22, tn] ty #[.slice (some ⟨g, 0, none⟩) n cap, .int kq (0 : Nat)]).run Try.prog w = .ok (.slice (some ⟨g, 0, none⟩) n cap) w := by
  obtain ⟨i0, hi, hz0, hz1, hz2⟩ := info_parts info8
  have hw : IntKind.i64.wrap ((0 : Nat) : Int) = ((0 : Nat) : Int) := by rw [IntKind.wrap_i64]; omega
  have hw2 : IntKind.i64.wrap 0 = 0 := by rw [IntKind.wrap_i64]; omega
  simp [Builtin.append_, run_underlying Try.underlying22, run_underlying htn, sizeOf, typeInfo, zeroValue, hi, hz0, asInt, asIntOf, hw2, h, storeCells]
theorem run_app0_room (kq kn : IntKind) (tn ty : TypeId) (htn : Try.prog.underlying tn = some (.int kn)) (g n cap k : Nat) (cur : List Value) (w : World) (hg : w.heap[g]? = some (.cells cur.toArray 5 (0, 0))) (hc : cur.length = cap) (h0 : 0 < k) (h : n + k ≤ cap) (hk : k ≤ 4294967296) :
    (Builtin.append_ #[22, tn] ty #[.slice (some ⟨g, 0, none⟩) n cap, .int kq k]).run Try.prog w = .ok (.slice (some ⟨g, 0, none⟩) (n + k) cap) (w.setRow g (splice cur n (bytesV (zer8 k))).toArray) := by
  obtain ⟨i0, hi, hz0, hz1, hz2⟩ := info_parts info8
  have hw : IntKind.i64.wrap (k : Int) = k := by rw [IntKind.wrap_i64]; omega
  have hlen : (bytesV (zer8 k)).length = k := by simp [bytesV, zer8]
  have hst := run_storeCells_at Try.prog g n 5 (bytesV (zer8 k)) 0 cur.toArray w hg (by simp [hlen, hc]; omega) (bytesV_one _)
  have hneg : ¬ ((k : Int) < 0) := by omega
  have h48i : ¬ (281474976710656 < (k : Int)) := by omega
  have hns : ¬ k = 0 := by omega
  simp [Builtin.append_, run_underlying Try.underlying22, run_underlying htn, sizeOf, typeInfo, zeroValue, hi, hz0, hz1, hz2, asInt, asIntOf, hw, hneg, h48i, hns, h, zc8, Addr.add_lit, hst, splice]
/-- what a call leaves alone, but for the blocks T; behind it they are T' -/
structure Fm (w w' : World) (T T' : Nat → Prop) : Prop where
  os : w'.os = w.os
  tape : w'.tape = w.tape
  output : w'.output = w.output
  size : w.heap.size ≤ w'.heap.size
  block : ∀ k, k < w.heap.size → ¬ T k → w'.heap[k]? = w.heap[k]?
  row : ∀ k, T' k → T k ∨ w.heap.size ≤ k
theorem Fm.same {w w' : World} {T : Nat → Prop} (hb : Below w.heap.size w w') : Fm w w' T T := ⟨hb.os, hb.tape, hb.output, hb.size, fun k hk _ => hb.block k hk, fun k hk => .inl hk⟩
theorem Fm.trans {w w1 w2 : World} {T T1 T2 : Nat → Prop} (f : Fm w w1 T T1) (g : Fm w1 w2 T1 T2) : Fm w w2 T T2 :=
  ⟨g.os.trans f.os, g.tape.trans f.tape, g.output.trans f.output, Nat.le_trans f.size g.size, fun k hk hn => by
    rw [g.block k (by have := f.size; omega) (fun e => by rcases f.row k e with h' | h'; · exact hn h'
                                                          · omega), f.block k hk hn],
   fun k hk => by
    rcases g.row k hk with h' | h'
    · exact f.row k h'
    · exact .inr (by have := f.size; omega)⟩
theorem Fm.below {B : Nat} {w w' : World} {T T' : Nat → Prop} (f : Fm w w' T T') (hB : B ≤ w.heap.size) (hT : ∀ k, T k → B ≤ k) : Below B w w' :=
  ⟨f.os, f.tape, f.output, f.size, fun k hk => f.block k (by omega) (fun e => by have := hT k e; omega)⟩
theorem Fm.set {w w' : World} {T T' : Nat → Prop} (f : Fm w w' T T') (m i : Nat) (u : Value) (hm : T m) : Fm w (w'.setCell ⟨m, i, none⟩ u) T T' :=
  ⟨f.os, f.tape, f.output, by have := f.size; simpa using this, fun k hk hn => by rw [heap_setCell_other _ _ _ _ (show k ≠ m from fun e => hn (e ▸ hm))]; exact f.block k hk hn, f.row⟩
theorem Fm.wide {w w' : World} {T T' U : Nat → Prop} (f : Fm w w' T T') (h : ∀ k, T k → U k) (h2 : ∀ k, U k → U k) : Fm w w' U (fun k => U k ∨ T' k) :=
  ⟨f.os, f.tape, f.output, f.size, fun k hk hn => f.block k hk (fun e => hn (h k e)), fun k hk => by rcases hk with h' | h'; · exact .inl h'
                                                                                                     · rcases f.row k h' with h'' | h''; · exact .inl (h k h'')
                                                                                                       · exact .inr h''⟩
theorem Fm.to {w w' : World} {T T' U U' : Nat → Prop} (f : Fm w w' T T') (h : ∀ k, T k → U k) (h2 : ∀ k, U' k → U k ∨ T' k) : Fm w w' U U' :=
  ⟨f.os, f.tape, f.output, f.size, fun k hk hn => f.block k hk (fun e => hn (h k e)), fun k hk => by rcases h2 k hk with h' | h'; · exact .inl h'
                                                                                                     · rcases f.row k h' with h'' | h''; · exact .inl (h k h'')
                                                                                                       · exact .inr h''⟩
theorem own8_fm {B : Nat} {w w' : World} {T T' : Nat → Prop} {v : Value} {n e size : Nat} {xs : List Value} (f : Fm w w' T T') (ho : w.ownsRow B e size v n xs) (hn : ∀ k, v.ownBlock = some k → ¬ T k) : w'.ownsRow B e size v n xs := by
  refine ⟨ho.1, ?_⟩
  rcases ho.2 with h1 | ⟨g, cap, cur, h1, h2, h3, h4⟩
  · exact .inl h1
  · refine .inr ⟨g, cap, cur, h1, h2, ?_, h4⟩
    rw [f.block g (Array.getElem?_eq_some_iff.1 h3).1 (hn g (by rw [h1]; rfl))]; exact h3
theorem app0_any (kq kn : IntKind) (tn : TypeId) (htn : Try.prog.underlying tn = some (.int kn)) (B g n cap k : Nat) (zs : List Int) (w : World) (ho : w.ownsRow B 5 1 (.slice (some ⟨g, 0, none⟩) n cap) n (bytesV zs)) (hB : B ≤ w.heap.size) (hk : n + k ≤ 4294967296) :
    ∃ g' cap' w', (∀ ty, (Builtin.append_ #[22, tn] ty #[.slice (some ⟨g, 0, none⟩) n cap, .int kq k]).run Try.prog w = .ok (.slice (some ⟨g', 0, none⟩) (n + k) cap') w') ∧ w'.ownsRow B 5 1 (.slice (some ⟨g', 0, none⟩) (n + k) cap') (n + k) (bytesV (zs ++ zer8 k)) ∧ Fm w w' (fun x => x = g) (fun x => x = g') := by
  obtain ⟨cur, h1, h2, h3, h4, h5, h6, h7⟩ := own8_cur ho
  by_cases h0 : k = 0
  · subst h0
    refine ⟨g, cap, w, fun ty => run_app0_none kq kn tn ty htn g n cap w h3, ?_, Fm.same (Below.refl _ _)⟩
    simpa [zer8] using ho
  by_cases hr : n + k ≤ cap
  · refine ⟨g, cap, _, fun ty => run_app0_room kq kn tn ty htn g n cap k cur w h2 h5 (by omega) hr (by omega), ?_, ?_⟩
    · have hs := setRow_heap w g cur.toArray (splice cur n (bytesV (zer8 k))).toArray 5 (0, 0) h2
      have hbl : (bytesV (zer8 k)).length = k := by simp [bytesV, zer8]
      refine own8_of h1 hs hr h4 (by rw [length_splice _ _ _ (by omega)]; exact h5) ?_ (by simp [zer8_len, h7])
      simp only [splice]
      have e : bytesV (zs ++ zer8 k) = bytesV zs ++ bytesV (zer8 k) := by simp [bytesV]
      rw [e, ← h6, ← List.append_assoc, List.take_append_of_le_length (by simp [hbl]; omega)]
      exact List.take_of_length_le (by simp [hbl]; omega)
    · exact ⟨rfl, rfl, rfl, by simp [World.setRow], fun x _ hx => setRow_other w g x _ (fun e => hx e), fun x hx => .inl hx⟩
  · obtain ⟨i0, hi, hz0, hz1, hz2⟩ := info_parts info8
    have hold : (Builtin.firstCells i0.size n (.slice (some ⟨g, 0, none⟩) n cap)).run Try.prog w.drew = .ok (bytesV zs).toArray w.drew := by
      have := run_firstCells_some (P := Try.prog) w.drew i0.size n ⟨g, 0, none⟩ n cap (bytesV zs) (by simp [bytesV, h7, hz1]) (fun j u hj => by
        have := ho.cells (g := g) rfl j u hj
        exact this)
      exact this
    have hrun := fun ty => Lib.run_append_grow_zeros (P := Try.prog) w 22 tn ty 5 i0 (.int .u8 0) kq kn Try.underlying22 htn hi hz0 (some ⟨g, 0, none⟩) n cap (bytesV zs) hold k (by omega) (by omega) (by omega) (by omega) (by rw [hz2]; omega) (growslice_fits (by omega) (by rw [hz2]; omega))
    have hge := grownCap_ge w (n + k) cap 5
    have hcm : grownCap w (n + k) cap 5 ≤ maxLen := grownCap_le_maxLen w (n + k) cap 5 (by unfold maxLen; omega)
    refine ⟨w.heap.size, _, _, hrun, ?_, ⟨rfl, rfl, rfl, by simp, fun x hx _ => Go.heap_alloc_old _ _ hx, fun x hx => .inr (by omega)⟩⟩
    have hh := heap_alloc_new w.drew (.cells ((bytesV zs).toArray ++ Builtin.zeroCells (Value.int .u8 0).cells k ++ Builtin.zeroCells (Value.int .u8 0).cells (grownCap w (n + k) cap 5 - (n + k))) 5)
    have hc : ((bytesV zs).toArray ++ Builtin.zeroCells (Value.int .u8 0).cells k ++ Builtin.zeroCells (Value.int .u8 0).cells (grownCap w (n + k) cap 5 - (n + k))) = (bytesV zs ++ bytesV (zer8 k) ++ bytesV (zer8 (grownCap w (n + k) cap 5 - (n + k)))).toArray := by
      rw [zc8a, zc8a]; simp
    rw [hc] at hh ⊢
    have hb1 : (bytesV zs).length = n := by simp [bytesV, h7]
    have hb2 : ∀ q, (bytesV (zer8 q)).length = q := fun q => by simp [bytesV, zer8]
    refine own8_of (by simpa using hB) hh hge hcm (by simp only [List.length_append, hb1, hb2]; omega) ?_ (by simp [zer8_len, h7])
    rw [List.take_left' (by simp only [List.length_append, hb1, hb2])]
    simp [bytesV]
/-- append onto an owned row: where the row lies behind it -/
theorem run_append_at {P : Program} {w : World} (base : Nat) (t ty e : TypeId) (i : TypeInfo) (z : Value) (size bytes : Nat) (ht : P.underlying t = some (.slice e)) (hi : P.info? e = some i) (hz : i.zero = some z)
    (hsize : i.size = size) (hby : i.bytes = bytes) (hzs : z.cells.size = size) (hsz : 0 < size)
    (v : Value) (n : Nat) (xs : List Value) (hown : w.ownsRow base e size v n xs)
    (a : Addr) (m c : Nat) (news : List Value) (hl : news.length = m * size) (hnews : ∀ j u, news[j]? = some u → w.cell? (a.add j) = some u) (h1 : ∀ u ∈ news, u.oneCell' = true)
    (h63 : n + m ≤ maxLen) (hbytes : (n + m) * bytes ≤ 140737488355328) (hbase : base ≤ w.heap.size) (hm : 0 < m) :
    ∃ v' w', (Builtin.append_ #[t, t] ty #[v, .slice (some a) m c]).run P w = .ok v' w' ∧ w'.ownsRow base e size v' (n + m) (xs ++ news) ∧ w.grownBy w' v.ownBlock ∧ (∀ k, v'.ownBlock = some k → v.ownBlock = some k ∨ w.heap.size ≤ k) := by
  obtain ⟨v', w', hr, h2, h3, _⟩ := run_append_own (P := P) w base t ty e i z size bytes ht hi hz hsize hby hzs hsz v n xs hown a m c news hl hnews h1 h63 hbytes hbase
  refine ⟨v', w', hr, h2, h3, ?_⟩
  subst hsize
  subst hby
  have hsmall : n + m ≤ 9223372036854775807 := by simp only [maxLen] at h63; omega
  rcases hown.2 with ⟨rfl, rfl⟩ | ⟨g, cap, cur, rfl, hbg, hg, hnc, hcm, hcs, htake⟩
  · have hx : xs = [] := List.eq_nil_of_length_eq_zero (by simpa using hown.1)
    subst hx
    have hr2 := run_append_nil (P := P) w t ty e i z ht hi hz a m c news hl hnews (by omega) (by omega) (by have hb := hbytes; simp only [Nat.zero_add] at hb; omega)
    rw [hr] at hr2
    simp only [Result.ok.injEq] at hr2
    rw [hr2.1]
    intro k hk
    simp only [Value.ownBlock, Option.some.injEq] at hk
    exact .inr (by omega)
  · by_cases hroom : n + m ≤ cap
    · have hfit : n * i.size + news.length ≤ cur.size := by rw [hl, hcs, ← Nat.add_mul]; exact Nat.mul_le_mul_right _ hroom
      have hr2 := run_append_room (P := P) w t ty e i ht hi g n cap cur hg a m c news hl hnews h1 hroom hfit
      rw [hr] at hr2
      simp only [Result.ok.injEq] at hr2
      rw [hr2.1]
      intro k hk
      exact .inl hk
    · have holds : ∀ j u, xs[j]? = some u → w.cell? ((⟨g, 0, none⟩ : Addr).add j) = some u := hown.cells (g := g) rfl
      have hr2 := run_append_grow (P := P) w t ty e i z ht hi hz ⟨g, 0, none⟩ n cap xs hown.1 holds a m c news hl hnews (by omega) (by omega) (growslice_fits (by omega) hbytes)
      rw [hr] at hr2
      simp only [Result.ok.injEq] at hr2
      rw [hr2.1]
      intro k hk
      simp only [Value.ownBlock, Option.some.injEq] at hk
      exact .inr (by omega)
theorem wpList_append_at {P : Program} {w : World} {ops : Array Oper} {rest : List Oper} {o : Oper} {a : Act} {Q : Exit → Act → World → Prop} (hgd : o.guard = none) (s x : Operand) (t : TypeId)
    (ho : o.op = .call { callee := .builtin .append, args := #[s, x], argTypes := #[t, t] })
    (base : Nat) (e : TypeId) (i : TypeInfo) (z : Value) (size bytes : Nat) (ht : P.underlying t = some (.slice e)) (hi : P.info? e = some i) (hz : i.zero = some z)
    (hsize : i.size = size) (hby : i.bytes = bytes) (hzs : z.cells.size = size) (hsz : 0 < size)
    (v : Value) (n : Nat) (xs : List Value) (hs : a.eval s = v) (hown : w.ownsRow base e size v n xs)
    (ad : Addr) (m c : Nat) (news : List Value) (hx : a.eval x = .slice (some ad) m c) (hl : news.length = m * size) (hnews : ∀ j u, news[j]? = some u → w.cell? (ad.add j) = some u) (h1 : ∀ u ∈ news, u.oneCell' = true)
    (h63 : n + m ≤ maxLen) (hbytes : (n + m) * bytes ≤ 140737488355328) (hbase : base ≤ w.heap.size) (hm : 0 < m)
    (h : ∀ v' w', w'.ownsRow base e size v' (n + m) (xs ++ news) → w.grownBy w' v.ownBlock → Hid (∀ k, v'.ownBlock = some k → v.ownBlock = some k ∨ w.heap.size ≤ k) → wpList P ops Q rest (a.put o.dst v') w') : wpList P ops Q (o :: rest) a w := by
  refine wpList_plain hgd fun K hK => ?_
  obtain ⟨v', w', hr, h2, h3, h4⟩ := run_append_at (P := P) (w := w) base t o.type e i z size bytes ht hi hz hsize hby hzs hsz v n xs hown ad m c news hl hnews h1 h63 hbytes hbase hm
  unfold Oper.wp execOp
  simp only [ho, resolve, invoke, builtin, Sem.run_bind, Sem.run_pure, Result.andThen_ok, List.map_toArray, List.map_cons, List.map_nil, hs, hx, hr]
  exact hK _ _ (h v' w' h2 h3 h4)
theorem own_reads {w : World} {B g n cap : Nat} {zs : List Int} (h : w.ownsRow B 5 1 (.slice (some ⟨g, 0, none⟩) n cap) n (bytesV zs)) : Reads w (some ⟨g, 0, none⟩) n cap zs := by
  obtain ⟨_, _, _, _, hc, _⟩ := own_splice h
  exact (own_bs h).reads cap hc
theorem info8s : (Try.prog.info? 5).map (·.size) = some 1 := by kernel_rfl
theorem mc8 (k : Nat) : madeCells (Value.int .u8 0).cells k = (bytesV (zer8 k)).toArray := by
  have hs : (Value.int .u8 0).cells.size = 1 := rfl
  apply Array.ext'
  apply List.ext_getElem
  · simp [madeCells, bytesV, zer8]
  · intro i h1 h2
    simp only [madeCells, bytesV, zer8, Array.toList_map, List.getElem_map, List.getElem_replicate, hs, Nat.mod_one]
    rfl
theorem mk8 (kd : IntKind) (k : Nat) (hk : k ≤ 4294967296) (w : World) : (Instr.makeSlice 22 (.int kd k) (.int kd k)).run Try.prog w = .ok (.slice (some ⟨w.heap.size, 0, none⟩) k k) (w.alloc (.cells (bytesV (zer8 k)).toArray 5)) := by
  obtain ⟨i0, hi, hz0, hz1, hz2⟩ := info_parts info8
  have := run_make (P := Try.prog) w 22 5 i0 (.int .u8 0) Try.underlying22 hi hz0 kd kd k k (by omega) (by omega) (by rw [hz2]; omega) (by omega)
  rw [this, hz1, Int.toNat_natCast, Nat.mul_one, mc8]
theorem splice_head (zs ys : List Int) (h : zs.length ≤ ys.length) : splice ys 0 zs = zs ++ ys.drop zs.length := by simp [splice]
theorem zer8_drop (k n : Nat) : (zer8 k).drop n = zer8 (k - n) := by simp [zer8]
theorem src8 {w : World} {B g n c : Nat} {zs : List Int} (h : w.ownsRow B 5 1 (.slice (some ⟨g, 0, none⟩) n c) n (bytesV zs)) : ∀ j v, (bytesV zs)[j]? = some v → w.cell? ((⟨g, 0, none⟩ : Addr).add j) = some v := (own_reads h).news
theorem run_copy0 (w : World) (ty : TypeId) (x y : Option Addr) (dl dc sl sc : Nat) (h : min sl dl = 0) :
    (Builtin.copy_ #[22, 22] ty #[.slice x dl dc, .slice y sl sc]).run Try.prog w = .ok (goInt 0) w := by
  obtain ⟨i0, hi, hz0, hz1, hz2⟩ := info_parts info8
  have hl : ∀ (a : Addr), (loadCells a 0).run Try.prog w = .ok #[] w := fun a => run_loadCells_list (P := Try.prog) w a [] (fun j v hj => by simp at hj)
  have h' : Nat.min sl dl = 0 := h
  cases x <;> cases y <;> simp [Builtin.copy_, run_underlying Try.underlying22, Builtin.lenOf, Builtin.firstCells, sizeOf, typeInfo, hi, h', hl, storeCells]
theorem step_copy0 {w : World} {ops : Array Oper} {o : Oper} {a : Act} {K : Act → World → Prop} {Q : Exit → Act → World → Prop} {E : Prop} (hgd : o.guard = none) (d s : Operand)
    (ho : o.op = .call { callee := .builtin .copy, args := #[d, s], argTypes := #[22, 22] }) (h6 : ∃ x dl dc y sl sc, a.eval d = .slice x dl dc ∧ a.eval s = .slice y sl sc ∧ min sl dl = 0)
    (h : K (a.put o.dst (goInt 0)) w) :
    if Region.wanted o (yielded ops a.tmps) = true then Oper.wp Try.prog o a w K Q else E := by
  have hw : Region.wanted o (yielded ops a.tmps) = true := by simp [Region.wanted, hgd]
  rw [if_pos hw]
  obtain ⟨x, dl, dc, y, sl, sc, hd, hs, hm⟩ := h6
  have hrun := run_copy0 w o.type x y dl dc sl sc hm
  unfold Oper.wp
  simp [execOp, ho, resolve, invoke, builtin, hd, hs, hrun, Result.andThen]
  exact h

theorem own_slice8 {B : Nat} {w : World} {v : Value} {n : Nat} {xs : List Value} (h : w.ownsRow B 5 1 v n xs) : ∃ ao c, v = .slice ao n c := by
  rcases h.2 with ⟨h1, h2⟩ | ⟨g, cap, cur, h1, _⟩
  · exact ⟨none, 0, by rw [h1, h2]⟩
  · exact ⟨_, _, h1⟩
theorem own_ne {B : Nat} {w : World} {v : Value} {n h : Nat} {xs : List Value} {cs : Array Value} {e : TypeId} (ho : w.ownsRow B 5 1 v n xs) (hh : w.heap[h]? = some (.cells cs e (0, 0))) (he : e ≠ 5) : v.ownBlock ≠ some h := by
  intro e2
  rcases ho.2 with ⟨h1, _⟩ | ⟨g, cap, cur, h1, h2, h3, _⟩
  · rw [h1] at e2; cases e2
  · rw [h1] at e2
    simp only [Value.ownBlock, Option.some.injEq] at e2
    subst e2
    rw [hh] at h3
    simp at h3
    exact he h3.2
theorem own_read8 {B : Nat} {w : World} {v : Value} {n c : Nat} {ao : Option Addr} {zs : List Int} (h : w.ownsRow B 5 1 (.slice ao n c) n (bytesV zs)) : Reads w ao n c zs := by
  rcases h.2 with ⟨h1, h2⟩ | ⟨g, cap, cur, h1, h2, h3, h4, h5, h6, h7⟩
  · simp only [Value.slice.injEq] at h1
    obtain ⟨rfl, rfl, rfl⟩ := h1
    have hl : (bytesV zs).length = 0 * 1 := h.1
    have : zs.length = 0 := by simpa [bytesV] using hl
    exact ⟨this, Nat.le_refl _, .inl ⟨rfl, rfl, rfl⟩⟩
  · simp only [Value.slice.injEq] at h1
    obtain ⟨rfl, _, rfl⟩ := h1
    exact own_reads h
theorem fm_grown {w w' : World} {v v' : Value} (h : w.grownBy w' v.ownBlock) (hat : ∀ k, v'.ownBlock = some k → v.ownBlock = some k ∨ w.heap.size ≤ k) : Fm w w' (fun k => v.ownBlock = some k) (fun k => v'.ownBlock = some k) :=
  ⟨h.os, h.tape, h.output, h.size, fun k hk hn => h.block k hk (fun e => hn e.symm), hat⟩
/-- the world but for its draws -/
def Dr (w w' : World) : Prop := ∃ m, w' = w.drewN m
theorem Dr.refl (w : World) : Dr w w := ⟨0, rfl⟩
theorem drewN_add (w : World) (a b : Nat) : (w.drewN a).drewN b = w.drewN (a + b) := by rw [World.drewN_drewN]
theorem Dr.more {w w1 : World} (h : Dr w w1) (n : Nat) : Dr w (w1.drewN n) := by
  obtain ⟨m, rfl⟩ := h
  exact ⟨m + n, drewN_add w m n⟩
theorem Dr.trans {w w1 w2 : World} (h : Dr w w1) (h' : Dr w1 w2) : Dr w w2 := by
  obtain ⟨n, rfl⟩ := h'
  exact h.more n
theorem Dr.below {w w1 : World} (h : Dr w w1) : Below w.heap.size w w1 := by
  obtain ⟨m, rfl⟩ := h
  exact ⟨rfl, rfl, rfl, Nat.le_refl _, fun _ _ => rfl⟩
theorem app_reads (base g n c m c0 : Nat) (sa : Option Addr) (zs ds : List Int) (w : World) (hown : w.ownsRow base 5 1 (.slice (some ⟨g, 0, none⟩) n c) n (bytesV zs)) (hr : Reads w sa m c0 ds) (h63 : n + m ≤ 4294967296) (hbase : base ≤ w.heap.size) :
    ∃ g' c' w', (∀ ty, (Builtin.append_ #[22, 22] ty #[.slice (some ⟨g, 0, none⟩) n c, .slice sa m c0]).run Try.prog w = .ok (.slice (some ⟨g', 0, none⟩) (n + m) c') w') ∧ w'.ownsRow base 5 1 (.slice (some ⟨g', 0, none⟩) (n + m) c') (n + m) (bytesV (zs ++ ds)) ∧ Fm w w' (fun k => (Value.slice (some ⟨g, 0, none⟩) n c).ownBlock = some k) (fun k => (Value.slice (some ⟨g', 0, none⟩) (n + m) c').ownBlock = some k) := by
  obtain ⟨i0, hi, hz0, hz1, hz2⟩ := info_parts info8
  have hl := hr.1
  by_cases hm : m = 0
  · subst hm
    obtain rfl : ds = [] := List.eq_nil_of_length_eq_zero hl
    cases sa with
    | none =>
      have h0 : c0 = 0 := by
        rcases hr.2.2 with ⟨_, _, h⟩ | ⟨x, h, _⟩
        · exact h
        · cases h
      subst h0
      exact ⟨g, c, w, fun ty => run_append_owned_none (P := Try.prog) (w := w) base 22 ty 5 i0 1 Try.underlying22 hi _ n _ hown, by simpa using hown, Fm.same (Below.refl _ _)⟩
    | some x =>
      obtain ⟨cur, h1, h2, h3, h4, h5, h6, h7⟩ := own8_cur hown
      refine ⟨g, c, _, fun ty => run_append_room (P := Try.prog) w 22 ty 5 i0 Try.underlying22 hi g n c cur.toArray h2 x 0 c0 [] (by simp) (by simp) (by simp) (by omega) (by simp [hz1]; omega), ?_, ?_⟩
      · have hs := setRow_heap w g cur.toArray (cur.toArray.toList.take (n * i0.size) ++ [] ++ cur.toArray.toList.drop (n * i0.size + ([] : List Value).length)).toArray 5 (0, 0) h2
        refine own8_of (zs := zs ++ []) h1 hs (by omega) h4 (by simp [hz1]; omega) ?_ (by simp [h7])
        simp only [List.append_nil, Nat.add_zero, List.length_nil]
        simpa using h6
      · exact ⟨rfl, rfl, rfl, by simp [World.setRow], fun k _ hk => setRow_other w g k _ (fun e => hk (by rw [e]; rfl)), fun k hk => .inl hk⟩
  · obtain ⟨x, rfl⟩ : ∃ x, sa = some x := by
      rcases hr.2.2 with ⟨_, h, _⟩ | ⟨x, h, _⟩
      · omega
      · exact ⟨x, h⟩
    have key : ∀ ty, ∃ v' w', (Builtin.append_ #[22, 22] ty #[.slice (some ⟨g, 0, none⟩) n c, .slice (some x) m c0]).run Try.prog w = .ok v' w' ∧ w'.ownsRow base 5 1 v' (n + m) (bytesV zs ++ bytesV ds) ∧ w.grownBy w' (Value.slice (some ⟨g, 0, none⟩) n c).ownBlock ∧ (∀ k, v'.ownBlock = some k → (Value.slice (some ⟨g, 0, none⟩) n c).ownBlock = some k ∨ w.heap.size ≤ k) := fun ty => run_append_at (P := Try.prog) (w := w) base 22 ty 5 i0 (.int .u8 0) 1 1 Try.underlying22 hi hz0 hz1 hz2 rfl (by decide) _ n (bytesV zs) hown x m c0 (bytesV ds) (by simp [bytesV, hl]) hr.news (bytesV_one ds) (by unfold maxLen; omega) (by omega) hbase (by omega)
    obtain ⟨v', w', hr1, h2, h3, h4⟩ := key 22
    rw [bytesV_append] at h2
    obtain ⟨g', c', rfl, _, _⟩ := owned_shape h2 (by omega)
    exact ⟨g', c', w', fun ty => hr1, h2, fm_grown h3 h4⟩
theorem wpList_appR {w : World} {ops : Array Oper} {rest : List Oper} {o : Oper} {a : Act} {Q : Exit → Act → World → Prop} (hgd : o.guard = none) (s x : Operand)
    (ho : o.op = .call { callee := .builtin .append, args := #[s, x], argTypes := #[22, 22] })
    (base g n c m c0 : Nat) (sa : Option Addr) (zs ds : List Int) (hs : a.eval s = .slice (some ⟨g, 0, none⟩) n c) (hx : a.eval x = .slice sa m c0) (hown : w.ownsRow base 5 1 (.slice (some ⟨g, 0, none⟩) n c) n (bytesV zs)) (hr : Reads w sa m c0 ds) (h63 : n + m ≤ 4294967296) (hbase : base ≤ w.heap.size)
    (h : ∀ g' c' w', w'.ownsRow base 5 1 (.slice (some ⟨g', 0, none⟩) (n + m) c') (n + m) (bytesV (zs ++ ds)) → Hid (Fm w w' (fun k => (Value.slice (some ⟨g, 0, none⟩) n c).ownBlock = some k) (fun k => (Value.slice (some ⟨g', 0, none⟩) (n + m) c').ownBlock = some k)) → wpList Try.prog ops Q rest (a.put o.dst (.slice (some ⟨g', 0, none⟩) (n + m) c')) w') : wpList Try.prog ops Q (o :: rest) a w := by
  refine wpList_plain hgd fun K hK => ?_
  obtain ⟨g', c', w', hrun, h1, h2⟩ := app_reads base g n c m c0 sa zs ds w hown hr h63 hbase
  unfold Oper.wp
  simp [execOp, ho, resolve, invoke, builtin, hs, hx, hrun, Result.andThen]
  exact hK _ _ (h g' c' w' h1 h2)
theorem wpList_copyOf {w0 : World} {ops : Array Oper} {rest : List Oper} {o : Oper} {a : Act} {Q : Exit → Act → World → Prop} (hgd : o.guard = none) (s x : Operand)
    (ho : o.op = .call { callee := .builtin .append, args := #[s, x], argTypes := #[22, 22] })
    (m c0 : Nat) (sa : Option Addr) (ds : List Int) (hs : a.eval s = .slice (some ⟨w0.heap.size, 0, none⟩) 0 0) (hx : a.eval x = .slice sa m c0) (hr : Reads w0 sa m c0 ds) (h63 : m ≤ 4294967296)
    (h : ∀ g' c' w', w'.ownsRow w0.heap.size 5 1 (.slice (some ⟨g', 0, none⟩) m c') m (bytesV ds) → Below w0.heap.size w0 w' → wpList Try.prog ops Q rest (a.put o.dst (.slice (some ⟨g', 0, none⟩) m c')) w') : wpList Try.prog ops Q (o :: rest) a (w0.alloc (.cells #[] 5)) := by
  have hb : Below w0.heap.size w0 (w0.alloc (.cells #[] 5)) := (Below.refl _ _).alloc (Nat.le_refl _) _
  have hm := World.ownsRow_made (base := w0.heap.size) (e := 5) (size := 1) w0 #[] 0 (Nat.le_refl _) (Nat.zero_le _) (by simp)
  refine wpList_appR hgd s x ho w0.heap.size w0.heap.size 0 0 m c0 sa [] ds hs hx hm (hr.later hb) (by omega) hb.size ?_
  intro g' c' w' ho' f
  rw [Nat.zero_add, List.nil_append] at ho'
  rw [Nat.zero_add]
  exact h g' c' w' ho' (hb.trans (f.out.below hb.size (fun k e => by simp only [Value.ownBlock, Option.some.injEq] at e; omega)))
theorem step_copyOf {w : World} {ops : Array Oper} {o : Oper} {a : Act} {K : Act → World → Prop} {Q : Exit → Act → World → Prop} {E : Prop} (hgd : o.guard = none) (s x : Operand)
    (ho : o.op = .call { callee := .builtin .append, args := #[s, x], argTypes := #[22, 22] })
    (base g m c0 : Nat) (sa : Option Addr) (ds : List Int) (hs : a.eval s = .slice (some ⟨g, 0, none⟩) 0 0) (hx : a.eval x = .slice sa m c0) (hown : w.ownsRow base 5 1 (.slice (some ⟨g, 0, none⟩) 0 0) 0 (bytesV [])) (hr : Reads w sa m c0 ds) (h63 : m ≤ 4294967296) (hbase : base ≤ w.heap.size)
    (h : ∀ g' c' w', w'.ownsRow base 5 1 (.slice (some ⟨g', 0, none⟩) m c') m (bytesV ds) → Below base w w' → K (a.put o.dst (.slice (some ⟨g', 0, none⟩) m c')) w') :
    if Region.wanted o (yielded ops a.tmps) = true then Oper.wp Try.prog o a w K Q else E := by
  have hw : Region.wanted o (yielded ops a.tmps) = true := by simp [Region.wanted, hgd]
  rw [if_pos hw]
  obtain ⟨g', c', w', hrun, h1, h2⟩ := app_reads base g 0 0 m c0 sa [] ds w hown hr (by omega) hbase
  rw [Nat.zero_add, List.nil_append] at h1
  rw [Nat.zero_add] at hrun
  have hK := h g' c' w' h1 (h2.below hbase (fun k e => (hown.lt k e).1))
  unfold Oper.wp
  simp [execOp, ho, resolve, invoke, builtin, hs, hx, hrun, Result.andThen]
  exact hK
theorem made0 (w : World) : (w.alloc (.cells #[] 5)).ownsRow w.heap.size 5 1 (.slice (some ⟨w.heap.size, 0, none⟩) 0 0) 0 (bytesV []) :=
  World.ownsRow_made (base := w.heap.size) (e := 5) (size := 1) w #[] 0 (Nat.le_refl _) (Nat.zero_le _) (by simp)
theorem info32 : (Try.prog.info? 35).map (fun i => (i.zero, i.size, i.bytes)) = some (some (.int .u32 0), 1, 4) := by kernel_rfl
def u32V (xs : List Nat) : List Value := xs.map (fun x : Nat => Value.int .u32 (x : Int))
theorem u32V_snoc (xs : List Nat) (x : Nat) : u32V xs ++ [.int .u32 (x : Int)] = u32V (xs ++ [x]) := by simp [u32V]
/-- a slice of words that came in -/
structure VRow (w : World) (a : Option Addr) (len : Nat) (xs : List Nat) : Prop where
  ln : xs.length = len
  bd : ∀ x ∈ xs, x < 4294967296
  cells : ∀ i, i < len → ∃ b o, a = some ⟨b, o, none⟩ ∧ w.cell? ⟨b, o + i, none⟩ = some (.int .u32 (xs.getD i 0 : Nat))
theorem bounds_u32' {n : Int} (h : (Lit.int .u32 n).wf = true) : 0 ≤ n ∧ n ≤ 4294967295 := bounds_u32 h
theorem vrow_of {w : World} {a : Option Addr} {len cap : Nat} {zs : List Int} (h : IsRow .u32 w a len cap zs) : ∃ xs, VRow w a len xs ∧ len ≤ cap ∧ len ≤ 9223372036854775807 := by
  rcases h with ⟨rfl, rfl, rfl, rfl⟩ | ⟨x, rfl, hl, hm, hz, hcell, hwz⟩
  · exact ⟨[], ⟨rfl, (fun x hx => by cases hx), fun i hi => by omega⟩, Nat.le_refl _, by omega⟩
  · refine ⟨(zs.take len).map Int.toNat, ⟨by simp; omega, fun y hy => ?_, fun i hi => ?_⟩, hl, by unfold maxLen at hm; omega⟩
    · obtain ⟨z, hz1, rfl⟩ := List.mem_map.1 hy
      have := bounds_u32 (hwz z (List.mem_of_mem_take hz1))
      omega
    · have hc := hcell i (by omega)
      obtain ⟨b, o, spot⟩ := x
      have hspot : spot = none := by simpa [Addr.add] using World.cell?_spot (hcell 0 (by omega))
      subst hspot
      rw [plain_add] at hc
      refine ⟨b, o, rfl, ?_⟩
      rw [hc]
      have hb := bounds_u32 (hwz (zs.getD i 0) (by rw [List.getD_eq_getElem?_getD]; simp [show i < zs.length by omega]))
      have e : ((zs.take len).map Int.toNat).getD i 0 = (zs.getD i 0).toNat := by
        simp [List.getD_eq_getElem?_getD, hi, show i < zs.length by omega]
      rw [e]
      congr 2
      omega
theorem int_eq {k : IntKind} {a b : Int} (h : a = b) : Value.int k a = .int k b := by rw [h]
theorem own_fm {B : Nat} {w w' : World} {T T' : Nat → Prop} {v : Value} {n e size : Nat} {xs : List Value} (f : Fm w w' T T') (ho : w.ownsRow B e size v n xs) (hn : ∀ k, v.ownBlock = some k → ¬ T k) : w'.ownsRow B e size v n xs := by
  refine ⟨ho.1, ?_⟩
  rcases ho.2 with h1 | ⟨g, cap, cur, h1, h2, h3, h4⟩
  · exact .inl h1
  · refine .inr ⟨g, cap, cur, h1, h2, ?_, h4⟩
    rw [f.block g (Array.getElem?_eq_some_iff.1 h3).1 (hn g (by rw [h1]; rfl))]; exact h3
theorem own_neE {B E : Nat} {w : World} {v : Value} {n h sz : Nat} {xs : List Value} {cs : Array Value} {e : TypeId} (ho : w.ownsRow B E sz v n xs) (hh : w.heap[h]? = some (.cells cs e (0, 0))) (he : e ≠ E) : v.ownBlock ≠ some h := by
  intro e2
  rcases ho.2 with ⟨h1, _⟩ | ⟨g, cap, cur, h1, h2, h3, _⟩
  · rw [h1] at e2; cases e2
  · rw [h1] at e2
    simp only [Value.ownBlock, Option.some.injEq] at e2
    subst e2
    rw [hh] at h3
    simp at h3
    exact he h3.2
theorem bkset {w : World} {m : Nat} {cs : Array Value} {e : TypeId} (hh : w.heap[m]? = some (.cells cs e (0, 0))) (i : Nat) (u : Value) : (w.setCell ⟨m, i, none⟩ u).heap[m]? = some (.cells (cs.setIfInBounds i u) e (0, 0)) := by
  have := setCell_eq_setRow w m i cs e (0, 0) u hh
  rw [this]
  exact setRow_heap w m cs _ _ _ hh
theorem own_slice {B E sz : Nat} {w : World} {v : Value} {n : Nat} {xs : List Value} (h : w.ownsRow B E sz v n xs) : ∃ ao c, v = .slice ao n c := by
  rcases h.2 with ⟨h1, h2⟩ | ⟨g, cap, cur, h1, _⟩
  · exact ⟨none, 0, by rw [h1, h2]⟩
  · exact ⟨_, _, h1⟩
end Go.Proofs.Ytnjeobijbbjlaaa
