/- Rows of bytes that are owned; formats and Locals of package stack; the document's Format. -/
import Derived.Test.YtpkfmccnjandoaaS10a
import Derived.Laws.CopyOwn
import Derived.Lib.SmallJoins
import Derived.Lib.SliceRun
import Derived.Lib.AppendZerosOnto
import Derived.Deep.RegionHeld3
import Derived.BigQuiet
import Derived.Deep.QuietTactic
namespace Go.Proofs.Ytpkfmccnjandoaa
open Go.RowKit
set_option maxHeartbeats 1000000
set_option maxRecDepth 100000
set_option linter.unusedVariables false

theorem own_later {w w' : World} {B e size n : Nat} {v : Value} {xs : List Value} (h : w.ownsRow B e size v n xs) (hb : Below w.heap.size w w') : w'.ownsRow B e size v n xs := by
  refine ⟨h.1, ?_⟩
  rcases h.2 with h2 | ⟨g, cap, cur, h1, h2, h3, h4⟩
  · exact .inl h2
  · exact .inr ⟨g, cap, cur, h1, h2, (hb.block g (Array.getElem?_eq_some_iff.1 h3).1).trans h3, h4⟩
theorem own_base {w : World} {B B' e size n : Nat} {v : Value} {xs : List Value} (h : w.ownsRow B' e size v n xs) (hB : B ≤ B') : w.ownsRow B e size v n xs := by
  refine ⟨h.1, ?_⟩
  rcases h.2 with h2 | ⟨g, cap, cur, h1, h2, h3, h4⟩
  · exact .inl h2
  · exact .inr ⟨g, cap, cur, h1, Nat.le_trans hB h2, h3, h4⟩
theorem own_bs {w : World} {B g n cap : Nat} {zs : List Int} (h : w.ownsRow B 5 1 (.slice (some ⟨g, 0, none⟩) n cap) n (bytesV zs)) : Bs w g 0 n zs := by
  have hl : (bytesV zs).length = n * 1 := h.1
  exact ⟨by simpa [bytesV] using hl, fun i hi => owned_cells h i hi⟩
theorem bytesV_splice (zs ds : List Int) (off : Nat) : bytesV (splice zs off ds) = splice (bytesV zs) off (bytesV ds) := by
  simp [bytesV, splice, List.map_append, List.map_take, List.map_drop]
/-- an owned row over which bytes are laid -/
theorem own_splice {w : World} {B g n cap : Nat} {zs : List Int} (h : w.ownsRow B 5 1 (.slice (some ⟨g, 0, none⟩) n cap) n (bytesV zs)) :
    ∃ cur : List Value, w.heap[g]? = some (.cells cur.toArray 5 (0, 0)) ∧ n ≤ cur.length ∧ B ≤ g ∧ n ≤ cap ∧ cap ≤ maxLen ∧ ∀ (w' : World) (off : Nat) (ds : List Int), off + ds.length ≤ n → w'.heap[g]? = some (.cells (splice cur off (bytesV ds)).toArray 5 (0, 0)) →
      w'.ownsRow B 5 1 (.slice (some ⟨g, 0, none⟩) n cap) n (bytesV (splice zs off ds)) := by
  have hl : (bytesV zs).length = n * 1 := h.1
  have hzl : zs.length = n := by simpa [bytesV] using hl
  rcases h.2 with ⟨h2, _⟩ | ⟨g', cap', cur, h1, h2, h3, h4, h5, h6, h7⟩
  · cases h2
  · simp only [Value.slice.injEq, Option.some.injEq, Addr.mk.injEq, true_and, and_true] at h1
    obtain ⟨rfl, rfl⟩ := h1
    refine ⟨cur.toList, by simpa using h3, by simp; omega, h2, h4, h5, fun w' off ds ho hw => ?_⟩
    have hcl : cur.toList.length = cap := by simp; omega
    have hbl : (bytesV ds).length = ds.length := by simp [bytesV]
    have hsl : (splice cur.toList off (bytesV ds)).length = cap := by rw [length_splice _ _ _ (by omega)]; exact hcl
    refine ⟨by rw [bytesV_splice, length_splice _ _ _ (by omega)]; exact hl, .inr ⟨g, cap, _, rfl, h2, hw, h4, h5, by simpa using hsl, ?_⟩⟩
    rw [bytesV_splice, ← h7, Nat.mul_one]
    simp only [splice]
    rw [List.take_append, List.take_take, List.take_take, List.length_take, List.take_append, List.drop_take, hcl, hbl]
    rw [show min n off = off by omega, show min off n = off by omega, show min off cap = off by omega, List.take_of_length_le (show (bytesV ds).length ≤ n - off by omega)]
    rw [show n - (off + ds.length) = n - off - ds.length by omega]
theorem own8_cur {B : Nat} {w : World} {g n c : Nat} {zs : List Int} (h : w.ownsRow B 5 1 (.slice (some ⟨g, 0, none⟩) n c) n (bytesV zs)) :
    ∃ cur : List Value, B ≤ g ∧ w.heap[g]? = some (.cells cur.toArray 5 (0, 0)) ∧ n ≤ c ∧ c ≤ maxLen ∧ cur.length = c ∧ cur.take n = bytesV zs ∧ zs.length = n := by
  have hl : (bytesV zs).length = n * 1 := h.1
  rcases h.2 with ⟨h1, h2⟩ | ⟨g', cap, cur, h1, h2, h3, h4, h5, h6, h7⟩
  · cases h1
  · simp only [Value.slice.injEq, Option.some.injEq, Addr.mk.injEq, true_and, and_true] at h1
    obtain ⟨rfl, rfl⟩ := h1
    exact ⟨cur.toList, h2, by simpa using h3, h4, h5, by simpa using h6, by simpa using h7, by simpa [bytesV] using hl⟩
theorem own8_of {B : Nat} {w : World} {g n c : Nat} {zs : List Int} {cur : List Value} (hB : B ≤ g) (hg : w.heap[g]? = some (.cells cur.toArray 5 (0, 0))) (h1 : n ≤ c) (h2 : c ≤ maxLen) (h3 : cur.length = c) (h4 : cur.take n = bytesV zs) (h5 : zs.length = n) :
    w.ownsRow B 5 1 (.slice (some ⟨g, 0, none⟩) n c) n (bytesV zs) :=
  ⟨by simp [bytesV, h5], .inr ⟨g, c, cur.toArray, rfl, hB, hg, h1, h2, by simpa using h3, by simpa using h4⟩⟩
theorem own8_take {B : Nat} {w : World} {g n c : Nat} {zs : List Int} (h : w.ownsRow B 5 1 (.slice (some ⟨g, 0, none⟩) n c) n (bytesV zs)) (k : Nat) (hk : k ≤ n) : w.ownsRow B 5 1 (.slice (some ⟨g, 0, none⟩) k c) k (bytesV (zs.take k)) := by
  obtain ⟨cur, h1, h2, h3, h4, h5, h6, h7⟩ := own8_cur h
  refine own8_of h1 h2 (by omega) h4 h5 ?_ (by simp; omega)
  have := congrArg (List.take k) h6
  rw [List.take_take, Nat.min_eq_left hk] at this
  rw [this]; simp [bytesV, List.map_take]
def zer8 (k : Nat) : List Int := List.replicate k 0
theorem zer8_len (k : Nat) : (zer8 k).length = k := by simp [zer8]
theorem zc8 (k : Nat) : (Builtin.zeroCells (Value.int .u8 0).cells k).toList = bytesV (zer8 k) := by
  have hs : (Value.int .u8 0).cells.size = 1 := rfl
  apply List.ext_getElem
  · simp [Builtin.zeroCells, hs, bytesV, zer8]
  · intro i h1 h2
    simp only [Builtin.zeroCells, bytesV, zer8, Array.toList_map, List.getElem_map, List.getElem_replicate, hs, Nat.mod_one]
    rfl
theorem zc8a (k : Nat) : Builtin.zeroCells (Value.int .u8 0).cells k = (bytesV (zer8 k)).toArray := by rw [← zc8]
theorem run_app0_none (kq kn : IntKind) (tn ty : TypeId) (htn : Try.prog.underlying tn = some (.int kn)) (g n cap : Nat) (w : World) (h : n ≤ cap) :
    (Builtin.append_ #[22, tn] ty #[.slice (some ⟨g, 0, none⟩) n cap, .int kq (0 : Nat)]).run Try.prog w = .ok (.slice (some ⟨g, 0, none⟩) n cap) w := by
  obtain ⟨i0, hi, hz0, hz1, hz2⟩ := info_parts info8
  have hw : IntKind.i64.wrap ((0 : Nat) : Int) = ((0 : Nat) : Int) := by rw [IntKind.wrap_i64]; omega
  have hw2 : IntKind.i64.wrap 0 = 0 := by rw [IntKind.wrap_i64]; omega
  simp [Builtin.append_, run_underlying Try.underlying22, run_underlying htn, sizeOf, typeInfo, zeroValue, hi, hz0, asInt, asIntOf, hw2, h, storeCells]
theorem run_app0_room (kq kn : IntKind) (tn ty : TypeId) (htn : Try.prog.underlying tn = some (.int kn)) (g n cap k : Nat) (cur : List Value) (w : World) (hg : w.heap[g]? = some (.cells cur.toArray 5 (0, 0))) (hc : cur.length = cap) (h0 : 0 < k) (h : n + k ≤ cap) (hk : k ≤ 4294967296) :
    (Builtin.append_ #[22, tn] ty #[.slice (some ⟨g, 0, none⟩) n cap, .int kq k]).run Try.prog w = .ok (.slice (some ⟨g, 0, none⟩) (n + k) cap) (w.setRow g (splice cur n (bytesV (zer8 k))).toArray) := by
  obtain ⟨i0, hi, hz0, hz1, hz2⟩ := info_parts info8
  have hw : IntKind.i64.wrap (k : Int) = k := by rw [IntKind.wrap_i64]; omega
  have hlen : (bytesV (zer8 k)).length = k := by simp [bytesV, zer8]
  have hst := run_storeCells_at Try.prog g n 5 (bytesV (zer8 k)) 0 cur.toArray w hg (by simp [hlen, hc]; omega) (bytesV_one _)
  have hneg : ¬ ((k : Int) < 0) := by omega
  have h48i : ¬ (281474976710656 < (k : Int)) := by omega
  have hns : ¬ k = 0 := by omega
  simp [Builtin.append_, run_underlying Try.underlying22, run_underlying htn, sizeOf, typeInfo, zeroValue, hi, hz0, hz1, hz2, asInt, asIntOf, hw, hneg, h48i, hns, h, zc8, Addr.add_lit, hst, splice]
/-- what a call leaves alone, but for the blocks T; behind it they are T' -/
structure Fm (w w' : World) (T T' : Nat → Prop) : Prop where
  os : w'.os = w.os
  tape : w'.tape = w.tape
  output : w'.output = w.output
  size : w.heap.size ≤ w'.heap.size
  block : ∀ k, k < w.heap.size → ¬ T k → w'.heap[k]? = w.heap[k]?
  row : ∀ k, T' k → T k ∨ w.heap.size ≤ k
theorem Fm.same {w w' : World} {T : Nat → Prop} (hb : Below w.heap.size w w') : Fm w w' T T := ⟨hb.os, hb.tape, hb.output, hb.size, fun k hk _ => hb.block k hk, fun k hk => .inl hk⟩
theorem Fm.trans {w w1 w2 : World} {T T1 T2 : Nat → Prop} (f : Fm w w1 T T1) (g : Fm w1 w2 T1 T2) : Fm w w2 T T2 :=
  ⟨g.os.trans f.os, g.tape.trans f.tape, g.output.trans f.output, Nat.le_trans f.size g.size, fun k hk hn => by
    rw [g.block k (by have := f.size; omega) (fun e => by rcases f.row k e with h' | h'; · exact hn h'
                                                          · omega), f.block k hk hn],
   fun k hk => by
    rcases g.row k hk with h' | h'
    · exact f.row k h'
    · exact .inr (by have := f.size; omega)⟩
theorem Fm.below {B : Nat} {w w' : World} {T T' : Nat → Prop} (f : Fm w w' T T') (hB : B ≤ w.heap.size) (hT : ∀ k, T k → B ≤ k) : Below B w w' :=
  ⟨f.os, f.tape, f.output, f.size, fun k hk => f.block k (by omega) (fun e => by have := hT k e; omega)⟩
theorem Fm.set {w w' : World} {T T' : Nat → Prop} (f : Fm w w' T T') (m i : Nat) (u : Value) (hm : T m) : Fm w (w'.setCell ⟨m, i, none⟩ u) T T' :=
  ⟨f.os, f.tape, f.output, by have := f.size; simpa using this, fun k hk hn => by rw [heap_setCell_other _ _ _ _ (show k ≠ m from fun e => hn (e ▸ hm))]; exact f.block k hk hn, f.row⟩
theorem Fm.wide {w w' : World} {T T' U : Nat → Prop} (f : Fm w w' T T') (h : ∀ k, T k → U k) (h2 : ∀ k, U k → U k) : Fm w w' U (fun k => U k ∨ T' k) :=
  ⟨f.os, f.tape, f.output, f.size, fun k hk hn => f.block k hk (fun e => hn (h k e)), fun k hk => by rcases hk with h' | h'; · exact .inl h'
                                                                                                     · rcases f.row k h' with h'' | h''; · exact .inl (h k h'')
                                                                                                       · exact .inr h''⟩
theorem Fm.to {w w' : World} {T T' U U' : Nat → Prop} (f : Fm w w' T T') (h : ∀ k, T k → U k) (h2 : ∀ k, U' k → U k ∨ T' k) : Fm w w' U U' :=
  ⟨f.os, f.tape, f.output, f.size, fun k hk hn => f.block k hk (fun e => hn (h k e)), fun k hk => by rcases h2 k hk with h' | h'; · exact .inl h'
                                                                                                     · rcases f.row k h' with h'' | h''; · exact .inl (h k h'')
                                                                                                       · exact .inr h''⟩
theorem own8_fm {B : Nat} {w w' : World} {T T' : Nat → Prop} {v : Value} {n e size : Nat} {xs : List Value} (f : Fm w w' T T') (ho : w.ownsRow B e size v n xs) (hn : ∀ k, v.ownBlock = some k → ¬ T k) : w'.ownsRow B e size v n xs := by
  refine ⟨ho.1, ?_⟩
  rcases ho.2 with h1 | ⟨g, cap, cur, h1, h2, h3, h4⟩
  · exact .inl h1
  · refine .inr ⟨g, cap, cur, h1, h2, ?_, h4⟩
    rw [f.block g (Array.getElem?_eq_some_iff.1 h3).1 (hn g (by rw [h1]; rfl))]; exact h3
theorem app0_any (kq kn : IntKind) (tn : TypeId) (htn : Try.prog.underlying tn = some (.int kn)) (B g n cap k : Nat) (zs : List Int) (w : World) (ho : w.ownsRow B 5 1 (.slice (some ⟨g, 0, none⟩) n cap) n (bytesV zs)) (hB : B ≤ w.heap.size) (hk : n + k ≤ 4294967296) :
    ∃ g' cap' w', (∀ ty, (Builtin.append_ #[22, tn] ty #[.slice (some ⟨g, 0, none⟩) n cap, .int kq k]).run Try.prog w = .ok (.slice (some ⟨g', 0, none⟩) (n + k) cap') w') ∧ w'.ownsRow B 5 1 (.slice (some ⟨g', 0, none⟩) (n + k) cap') (n + k) (bytesV (zs ++ zer8 k)) ∧ Fm w w' (fun x => x = g) (fun x => x = g') := by
  obtain ⟨cur, h1, h2, h3, h4, h5, h6, h7⟩ := own8_cur ho
  by_cases h0 : k = 0
  · subst h0
    refine ⟨g, cap, w, fun ty => run_app0_none kq kn tn ty htn g n cap w h3, ?_, Fm.same (Below.refl _ _)⟩
    simpa [zer8] using ho
  by_cases hr : n + k ≤ cap
  · refine ⟨g, cap, _, fun ty => run_app0_room kq kn tn ty htn g n cap k cur w h2 h5 (by omega) hr (by omega), ?_, ?_⟩
    · have hs := setRow_heap w g cur.toArray (splice cur n (bytesV (zer8 k))).toArray 5 (0, 0) h2
      have hbl : (bytesV (zer8 k)).length = k := by simp [bytesV, zer8]
      refine own8_of h1 hs hr h4 (by rw [length_splice _ _ _ (by omega)]; exact h5) ?_ (by simp [zer8_len, h7])
      simp only [splice]
      have e : bytesV (zs ++ zer8 k) = bytesV zs ++ bytesV (zer8 k) := by simp [bytesV]
      rw [e, ← h6, ← List.append_assoc, List.take_append_of_le_length (by simp [hbl]; omega)]
      exact List.take_of_length_le (by simp [hbl]; omega)
    · exact ⟨rfl, rfl, rfl, by simp [World.setRow], fun x _ hx => setRow_other w g x _ (fun e => hx e), fun x hx => .inl hx⟩
  · obtain ⟨i0, hi, hz0, hz1, hz2⟩ := info_parts info8
    have hold : (Builtin.firstCells i0.size n (.slice (some ⟨g, 0, none⟩) n cap)).run Try.prog w.drew = .ok (bytesV zs).toArray w.drew := by
      have := run_firstCells_some (P := Try.prog) w.drew i0.size n ⟨g, 0, none⟩ n cap (bytesV zs) (by simp [bytesV, h7, hz1]) (fun j u hj => by
        have := ho.cells (g := g) rfl j u hj
        exact this)
      exact this
    have hrun := fun ty => Lib.run_append_grow_zeros (P := Try.prog) w 22 tn ty 5 i0 (.int .u8 0) kq kn Try.underlying22 htn hi hz0 (some ⟨g, 0, none⟩) n cap (bytesV zs) hold k (by omega) (by omega) (by omega) (by omega) (by rw [hz2]; omega) (growslice_fits (by omega) (by rw [hz2]; omega))
    have hge := grownCap_ge w (n + k) cap 5
    have hcm : grownCap w (n + k) cap 5 ≤ maxLen := grownCap_le_maxLen w (n + k) cap 5 (by unfold maxLen; omega)
    refine ⟨w.heap.size, _, _, hrun, ?_, ⟨rfl, rfl, rfl, by simp, fun x hx _ => Go.heap_alloc_old _ _ hx, fun x hx => .inr (by omega)⟩⟩
    have hh := heap_alloc_new w.drew (.cells ((bytesV zs).toArray ++ Builtin.zeroCells (Value.int .u8 0).cells k ++ Builtin.zeroCells (Value.int .u8 0).cells (grownCap w (n + k) cap 5 - (n + k))) 5)
    have hc : ((bytesV zs).toArray ++ Builtin.zeroCells (Value.int .u8 0).cells k ++ Builtin.zeroCells (Value.int .u8 0).cells (grownCap w (n + k) cap 5 - (n + k))) = (bytesV zs ++ bytesV (zer8 k) ++ bytesV (zer8 (grownCap w (n + k) cap 5 - (n + k)))).toArray := by
      rw [zc8a, zc8a]; simp
    rw [hc] at hh ⊢
    have hb1 : (bytesV zs).length = n := by simp [bytesV, h7]
    have hb2 : ∀ q, (bytesV (zer8 q)).length = q := fun q => by simp [bytesV, zer8]
    refine own8_of (by simpa using hB) hh hge hcm (by simp only [List.length_append, hb1, hb2]; omega) ?_ (by simp [zer8_len, h7])
    rw [List.take_left' (by simp only [List.length_append, hb1, hb2])]
    simp [bytesV]
/-- append onto an owned row: where the row lies behind it -/
theorem run_append_at {P : Program} {w : World} (base : Nat) (t ty e : TypeId) (i : TypeInfo) (z : Value) (size bytes : Nat) (ht : P.underlying t = some (.slice e)) (hi : P.info? e = some i) (hz : i.zero = some z)
    (hsize : i.size = size) (hby : i.bytes = bytes) (hzs : z.cells.size = size) (hsz : 0 < size)
    (v : Value) (n : Nat) (xs : List Value) (hown : w.ownsRow base e size v n xs)
    (a : Addr) (m c : Nat) (news : List Value) (hl : news.length = m * size) (hnews : ∀ j u, news[j]? = some u → w.cell? (a.add j) = some u) (h1 : ∀ u ∈ news, u.oneCell' = true)
    (h63 : n + m ≤ maxLen) (hbytes : (n + m) * bytes ≤ 140737488355328) (hbase : base ≤ w.heap.size) (hm : 0 < m) :
    ∃ v' w', (Builtin.append_ #[t, t] ty #[v, .slice (some a) m c]).run P w = .ok v' w' ∧ w'.ownsRow base e size v' (n + m) (xs ++ news) ∧ w.grownBy w' v.ownBlock ∧ (∀ k, v'.ownBlock = some k → v.ownBlock = some k ∨ w.heap.size ≤ k) := by
  obtain ⟨v', w', hr, h2, h3, _⟩ := run_append_own (P := P) w base t ty e i z size bytes ht hi hz hsize hby hzs hsz v n xs hown a m c news hl hnews h1 h63 hbytes hbase
  refine ⟨v', w', hr, h2, h3, ?_⟩
  subst hsize
  subst hby
  have hsmall : n + m ≤ 9223372036854775807 := by simp only [maxLen] at h63; omega
  rcases hown.2 with ⟨rfl, rfl⟩ | ⟨g, cap, cur, rfl, hbg, hg, hnc, hcm, hcs, htake⟩
  · have hx : xs = [] := List.eq_nil_of_length_eq_zero (by simpa using hown.1)
    subst hx
    have hr2 := run_append_nil (P := P) w t ty e i z ht hi hz a m c news hl hnews (by omega) (by omega) (by have hb := hbytes; simp only [Nat.zero_add] at hb; omega)
    rw [hr] at hr2
    simp only [Result.ok.injEq] at hr2
    rw [hr2.1]
    intro k hk
    simp only [Value.ownBlock, Option.some.injEq] at hk
    exact .inr (by omega)
  · by_cases hroom : n + m ≤ cap
    · have hfit : n * i.size + news.length ≤ cur.size := by rw [hl, hcs, ← Nat.add_mul]; exact Nat.mul_le_mul_right _ hroom
      have hr2 := run_append_room (P := P) w t ty e i ht hi g n cap cur hg a m c news hl hnews h1 hroom hfit
      rw [hr] at hr2
      simp only [Result.ok.injEq] at hr2
      rw [hr2.1]
      intro k hk
      exact .inl hk
    · have holds : ∀ j u, xs[j]? = some u → w.cell? ((⟨g, 0, none⟩ : Addr).add j) = some u := hown.cells (g := g) rfl
      have hr2 := run_append_grow (P := P) w t ty e i z ht hi hz ⟨g, 0, none⟩ n cap xs hown.1 holds a m c news hl hnews (by omega) (by omega) (growslice_fits (by omega) hbytes)
      rw [hr] at hr2
      simp only [Result.ok.injEq] at hr2
      rw [hr2.1]
      intro k hk
      simp only [Value.ownBlock, Option.some.injEq] at hk
      exact .inr (by omega)
theorem wpList_append_at {P : Program} {w : World} {ops : Array Oper} {rest : List Oper} {o : Oper} {a : Act} {Q : Exit → Act → World → Prop} (hgd : o.guard = none) (s x : Operand) (t : TypeId)
    (ho : o.op = .call { callee := .builtin .append, args := #[s, x], argTypes := #[t, t] })
    (base : Nat) (e : TypeId) (i : TypeInfo) (z : Value) (size bytes : Nat) (ht : P.underlying t = some (.slice e)) (hi : P.info? e = some i) (hz : i.zero = some z)
    (hsize : i.size = size) (hby : i.bytes = bytes) (hzs : z.cells.size = size) (hsz : 0 < size)
    (v : Value) (n : Nat) (xs : List Value) (hs : a.eval s = v) (hown : w.ownsRow base e size v n xs)
    (ad : Addr) (m c : Nat) (news : List Value) (hx : a.eval x = .slice (some ad) m c) (hl : news.length = m * size) (hnews : ∀ j u, news[j]? = some u → w.cell? (ad.add j) = some u) (h1 : ∀ u ∈ news, u.oneCell' = true)
    (h63 : n + m ≤ maxLen) (hbytes : (n + m) * bytes ≤ 140737488355328) (hbase : base ≤ w.heap.size) (hm : 0 < m)
    (h : ∀ v' w', w'.ownsRow base e size v' (n + m) (xs ++ news) → w.grownBy w' v.ownBlock → Hid (∀ k, v'.ownBlock = some k → v.ownBlock = some k ∨ w.heap.size ≤ k) → wpList P ops Q rest (a.put o.dst v') w') : wpList P ops Q (o :: rest) a w := by
  refine wpList_plain hgd fun K hK => ?_
  obtain ⟨v', w', hr, h2, h3, h4⟩ := run_append_at (P := P) (w := w) base t o.type e i z size bytes ht hi hz hsize hby hzs hsz v n xs hown ad m c news hl hnews h1 h63 hbytes hbase hm
  unfold Oper.wp execOp
  simp only [ho, resolve, invoke, builtin, Sem.run_bind, Sem.run_pure, Result.andThen_ok, List.map_toArray, List.map_cons, List.map_nil, hs, hx, hr]
  exact hK _ _ (h v' w' h2 h3 h4)
theorem bclone_any (a : Option Addr) (n c : Nat) (zs : List Int) (w : World) (h : Reads w a n c zs) (hn : n ≤ 2000000) :
    Calls Try.prog 41 #[.slice a n c] w fun e w' => ∃ a' c', e = .returned (.slice a' n c') ∧ w'.ownsRow w.heap.size 5 1 (.slice a' n c') n (bytesV zs) ∧ Below w.heap.size w w' := by
  obtain ⟨i0, hi, hz0, hz1, hz2⟩ := info_parts info8
  have hzl := h.1
  cases a with
  | none =>
    obtain ⟨h1, h2, h3⟩ := h
    rcases h3 with ⟨_, rfl, rfl⟩ | ⟨x, h4, _⟩
    · obtain rfl : zs = [] := List.eq_nil_of_length_eq_zero h1
      have heq : ∀ w, (binOp .eql 22 (.slice none 0 0) (.slice none 0 0)).run Try.prog w = .ok (.bool true) w := fun w => Lib.run_eql_slice_nil w _ _ none 0 0 0 0 Try.underlying22
      go_enter Try.func41, Try.ntmps41
      go_wp2
      go_ret
      exact ⟨none, 0, rfl, World.ownsRow_nil _ _ _ _, Below.refl _ _⟩
    · cases h4
  | some x =>
    have HN := hidden h.news
    have hb0 : Below w.heap.size w (w.alloc (.cells #[] 5)) := (Below.refl _ _).alloc (Nat.le_refl _) _
    have HM := hidden (World.ownsRow_made (base := w.heap.size) (e := 5) (size := 1) w #[] 0 (Nat.le_refl _) (Nat.zero_le _) (by simp))
    have HN1 : Hid (∀ j u, (bytesV zs)[j]? = some u → (w.alloc (.cells #[] 5)).cell? (x.add j) = some u) := hidden fun j u h => cellLater hb0 (HN.out j u h)
    have heq : ∀ w, (binOp .eql 22 (.slice (some x) n c) (.slice none 0 0)).run Try.prog w = .ok (.bool false) w := fun w => Lib.run_eql_slice_nil w _ _ (some x) n c 0 0 Try.underlying22
    have HZ := hidden hzl
    clear HN h hb0 hzl
    go_enter Try.func41, Try.ntmps41
    go_wp2_with (at_builtin; refine wpList_append_own _ rfl _ _ 22 rfl w.heap.size 5 i0 (.int .u8 0) 1 1 Try.underlying22 hi hz0 hz1 hz2 rfl (by decide) (.slice (some ⟨w.heap.size, 0, none⟩) 0 0) 0 [] rfl HM.out x n c (bytesV zs) rfl (by simp [bytesV, HZ.out]) HN1.out (bytesV_one zs) (by unfold maxLen; omega) (by omega) (by simp) ?_; intro v' w' hown' hgrow hnil)
    go_ret
    rw [Nat.zero_add, List.nil_append] at hown'
    have hb : Below w.heap.size w w' := (((Below.refl w.heap.size w).alloc (Nat.le_refl _) _)).grown hgrow (by simp) (fun j hj => by simp [Value.ownBlock] at hj; omega)
    rcases Joins.ownsRow_forms hown' with ⟨rfl, rfl⟩ | ⟨g, cap, rfl⟩
    · exact ⟨_, _, rfl, hown', hb⟩
    · exact ⟨_, _, rfl, hown', hb⟩
theorem own_reads {w : World} {B g n cap : Nat} {zs : List Int} (h : w.ownsRow B 5 1 (.slice (some ⟨g, 0, none⟩) n cap) n (bytesV zs)) : Reads w (some ⟨g, 0, none⟩) n cap zs := by
  obtain ⟨_, _, _, _, hc, _⟩ := own_splice h
  exact (own_bs h).reads cap hc
theorem info8s : (Try.prog.info? 5).map (·.size) = some 1 := by kernel_rfl
theorem mc8 (k : Nat) : madeCells (Value.int .u8 0).cells k = (bytesV (zer8 k)).toArray := by
  have hs : (Value.int .u8 0).cells.size = 1 := rfl
  apply Array.ext'
  apply List.ext_getElem
  · simp [madeCells, bytesV, zer8]
  · intro i h1 h2
    simp only [madeCells, bytesV, zer8, Array.toList_map, List.getElem_map, List.getElem_replicate, hs, Nat.mod_one]
    rfl
theorem mk8 (kd : IntKind) (k : Nat) (hk : k ≤ 4294967296) (w : World) : (Instr.makeSlice 22 (.int kd k) (.int kd k)).run Try.prog w = .ok (.slice (some ⟨w.heap.size, 0, none⟩) k k) (w.alloc (.cells (bytesV (zer8 k)).toArray 5)) := by
  obtain ⟨i0, hi, hz0, hz1, hz2⟩ := info_parts info8
  have := run_make (P := Try.prog) w 22 5 i0 (.int .u8 0) Try.underlying22 hi hz0 kd kd k k (by omega) (by omega) (by rw [hz2]; omega) (by omega)
  rw [this, hz1, Int.toNat_natCast, Nat.mul_one, mc8]
theorem splice_head (zs ys : List Int) (h : zs.length ≤ ys.length) : splice ys 0 zs = zs ++ ys.drop zs.length := by simp [splice]
theorem zer8_drop (k n : Nat) : (zer8 k).drop n = zer8 (k - n) := by simp [zer8]
theorem src8 {w : World} {B g n c : Nat} {zs : List Int} (h : w.ownsRow B 5 1 (.slice (some ⟨g, 0, none⟩) n c) n (bytesV zs)) : ∀ j v, (bytesV zs)[j]? = some v → w.cell? ((⟨g, 0, none⟩ : Addr).add j) = some v := (own_reads h).news
theorem run_copy0 (w : World) (ty : TypeId) (x y : Option Addr) (dl dc sl sc : Nat) (h : min sl dl = 0) :
    (Builtin.copy_ #[22, 22] ty #[.slice x dl dc, .slice y sl sc]).run Try.prog w = .ok (goInt 0) w := by
  obtain ⟨i0, hi, hz0, hz1, hz2⟩ := info_parts info8
  have hl : ∀ (a : Addr), (loadCells a 0).run Try.prog w = .ok #[] w := fun a => run_loadCells_list (P := Try.prog) w a [] (fun j v hj => by simp at hj)
  have h' : Nat.min sl dl = 0 := h
  cases x <;> cases y <;> simp [Builtin.copy_, run_underlying Try.underlying22, Builtin.lenOf, Builtin.firstCells, sizeOf, typeInfo, hi, h', hl, storeCells]
theorem step_copy0 {w : World} {ops : Array Oper} {o : Oper} {a : Act} {K : Act → World → Prop} {Q : Exit → Act → World → Prop} {E : Prop} (hgd : o.guard = none) (d s : Operand)
    (ho : o.op = .call { callee := .builtin .copy, args := #[d, s], argTypes := #[22, 22] }) (h6 : ∃ x dl dc y sl sc, a.eval d = .slice x dl dc ∧ a.eval s = .slice y sl sc ∧ min sl dl = 0)
    (h : K (a.put o.dst (goInt 0)) w) :
    if Region.wanted o (yielded ops a.tmps) = true then Oper.wp Try.prog o a w K Q else E := by
  have hw : Region.wanted o (yielded ops a.tmps) = true := by simp [Region.wanted, hgd]
  rw [if_pos hw]
  obtain ⟨x, dl, dc, y, sl, sc, hd, hs, hm⟩ := h6
  have hrun := run_copy0 w o.type x y dl dc sl sc hm
  unfold Oper.wp
  simp [execOp, ho, resolve, invoke, builtin, hd, hs, hrun, Result.andThen]
  exact h

theorem own_slice8 {B : Nat} {w : World} {v : Value} {n : Nat} {xs : List Value} (h : w.ownsRow B 5 1 v n xs) : ∃ ao c, v = .slice ao n c := by
  rcases h.2 with ⟨h1, h2⟩ | ⟨g, cap, cur, h1, _⟩
  · exact ⟨none, 0, by rw [h1, h2]⟩
  · exact ⟨_, _, h1⟩
theorem own_ne {B : Nat} {w : World} {v : Value} {n h : Nat} {xs : List Value} {cs : Array Value} {e : TypeId} (ho : w.ownsRow B 5 1 v n xs) (hh : w.heap[h]? = some (.cells cs e (0, 0))) (he : e ≠ 5) : v.ownBlock ≠ some h := by
  intro e2
  rcases ho.2 with ⟨h1, _⟩ | ⟨g, cap, cur, h1, h2, h3, _⟩
  · rw [h1] at e2; cases e2
  · rw [h1] at e2
    simp only [Value.ownBlock, Option.some.injEq] at e2
    subst e2
    rw [hh] at h3
    simp at h3
    exact he h3.2
theorem own_read8 {B : Nat} {w : World} {v : Value} {n c : Nat} {ao : Option Addr} {zs : List Int} (h : w.ownsRow B 5 1 (.slice ao n c) n (bytesV zs)) : Reads w ao n c zs := by
  rcases h.2 with ⟨h1, h2⟩ | ⟨g, cap, cur, h1, h2, h3, h4, h5, h6, h7⟩
  · simp only [Value.slice.injEq] at h1
    obtain ⟨rfl, rfl, rfl⟩ := h1
    have hl : (bytesV zs).length = 0 * 1 := h.1
    have : zs.length = 0 := by simpa [bytesV] using hl
    exact ⟨this, Nat.le_refl _, .inl ⟨rfl, rfl, rfl⟩⟩
  · simp only [Value.slice.injEq] at h1
    obtain ⟨rfl, _, rfl⟩ := h1
    exact own_reads h
theorem fm_grown {w w' : World} {v v' : Value} (h : w.grownBy w' v.ownBlock) (hat : ∀ k, v'.ownBlock = some k → v.ownBlock = some k ∨ w.heap.size ≤ k) : Fm w w' (fun k => v.ownBlock = some k) (fun k => v'.ownBlock = some k) :=
  ⟨h.os, h.tape, h.output, h.size, fun k hk hn => h.block k hk (fun e => hn e.symm), hat⟩

def nu (zs : List Int) (p : Nat) : Nat := (beV zs p 4).toNat
theorem nu_of {zs : List Int} (hb : OkB zs) (p : Nat) : beV zs p 4 = (nu zs p : Int) := by
  have := (beV_bd zs p hb).1
  unfold nu; omega
theorem nu_lt {zs : List Int} (hb : OkB zs) (p : Nat) : nu zs p < 4294967296 := by
  have := beV_bd zs p hb
  unfold nu; omega
theorem int_eq {k : IntKind} {a b : Int} (h : a = b) : Value.int k a = Value.int k b := by rw [h]
theorem tmod_fix (x : Int) (n : Nat) (h : 0 < n) : (x.tmod n + n).tmod n = x % n := by
  have hn : (0 : Int) < n := by omega
  have h1 := Int.lt_tmod_of_pos x hn
  have h2 := Int.tmod_lt_of_pos x hn
  rw [Int.tmod_eq_emod_of_nonneg (by omega)]
  rw [Int.add_emod_right]
  rw [Int.tmod_eq_emod]
  split
  · simp
  · rw [Int.sub_emod]
    simp
theorem krest_any (x : Int) (n : Nat) (w : World) (h : 0 < n) (hn : n ≤ 4294967296) :
    Calls Try.prog 63 #[.int .i64 x, .int .i64 n] w fun e w' => e = .returned (.int .i64 (x % n)) ∧ w' = w := by
  have hn' : (0 : Int) < n := by omega
  have h1 := Int.lt_tmod_of_pos x hn'
  have h2 := Int.tmod_lt_of_pos x hn'
  have h3 := tmod_fix x n h
  have h4 := Int.emod_nonneg x (show (n : Int) ≠ 0 by omega)
  have h5 := Int.emod_lt_of_pos x hn'
  have hz : ¬ (n : Int) = 0 := by omega
  have hz2 : ((n : Int) == 0) = false := by simpa using hz
  have w1 : IntKind.i64.wrap (x.tmod n) = x.tmod n := by rw [IntKind.wrap_i64]; omega
  have w2 : IntKind.i64.wrap (x.tmod n + n) = x.tmod n + n := by rw [IntKind.wrap_i64]; omega
  have w3 : IntKind.i64.wrap (x % n) = x % n := by rw [IntKind.wrap_i64]; omega
  have w64 := hidden (show wrap64 (x.tmod n + n) = x.tmod n + n by unfold wrap64; omega)
  clear h1 h2 h4 h5
  have W2 := hidden w2
  have W3 := hidden w3
  have H3 := hidden h3
  clear w2 w3 h3 w1
  go_enter Try.func63, Try.ntmps63
  go_wp2
  go_ret
  refine ⟨ret_int ?_, rfl⟩
  rw [w64.out]
  exact H3.out
theorem kup_any (x n : Nat) (w : World) (h : n = 1 ∨ n = 2 ∨ n = 4) (hx : x ≤ 4294967296000) :
    Calls Try.prog 62 #[.int .i64 x, .int .i64 n] w fun e w' => e = .returned (.int .i64 (upN x n)) ∧ w' = w := by
  have hu := upN_bd x n h
  have HR := hidden (krest_any (-(x : Int)) n w (by omega) (by omega))
  have e : -(x : Int) % (n : Int) = (upN x n : Int) - x := by
    rcases h with rfl | rfl | rfl
    · rw [upN_one]; omega
    · rw [upN_two]; omega
    · rw [upN_four]; omega
  rw [e] at HR
  have w1 : IntKind.i64.wrap (-(x : Int)) = -(x : Int) := by rw [IntKind.wrap_i64]; omega
  have w2 : IntKind.i64.wrap ((x : Int) + ((upN x n : Int) - x)) = (upN x n : Int) := by rw [IntKind.wrap_i64]; omega
  clear e
  generalize upN x n = U at *
  go_enter Try.func62, Try.ntmps62
  go_wp2_with (go_at_call 63; refine HR.out.mono ?_; rintro e w1 ⟨rfl, rfl⟩)
  go_ret
  first | exact ⟨rfl, rfl⟩ | (refine ⟨?_, rfl⟩; first | (congr 2; omega) | simp_all)
theorem kwid_yes (n : Int) (w : World) (h : n = 1 ∨ n = 2 ∨ n = 4) : Calls Try.prog 59 #[.int .i64 n] w fun e w' => e = .returned (.bool true) ∧ w' = w := by
  rcases h with rfl | rfl | rfl
  all_goals (
    go_enter Try.func59, Try.ntmps59
    go_wp2
    go_ret
    exact ⟨rfl, rfl⟩)
theorem kwid_no (n : Int) (w : World) (h : ¬ (n = 1 ∨ n = 2 ∨ n = 4)) : Calls Try.prog 59 #[.int .i64 n] w fun e w' => e = .returned (.bool false) ∧ w' = w := by
  have h1 : (n == 1) = false := by simp; omega
  have h2 : (n == 2) = false := by simp; omega
  have h4 : (n == 4) = false := by simp; omega
  clear h
  go_enter Try.func59, Try.ntmps59
  go_wp2
  go_ret
  exact ⟨rfl, rfl⟩
/-- the world but for its draws -/
def Dr (w w' : World) : Prop := ∃ m, w' = w.drewN m
theorem Dr.refl (w : World) : Dr w w := ⟨0, rfl⟩
theorem drewN_add (w : World) (a b : Nat) : (w.drewN a).drewN b = w.drewN (a + b) := by rw [World.drewN_drewN]
theorem Dr.more {w w1 : World} (h : Dr w w1) (n : Nat) : Dr w (w1.drewN n) := by
  obtain ⟨m, rfl⟩ := h
  exact ⟨m + n, drewN_add w m n⟩
theorem Dr.trans {w w1 w2 : World} (h : Dr w w1) (h' : Dr w1 w2) : Dr w w2 := by
  obtain ⟨n, rfl⟩ := h'
  exact h.more n
theorem Dr.below {w w1 : World} (h : Dr w w1) : Below w.heap.size w w1 := by
  obtain ⟨m, rfl⟩ := h
  exact ⟨rfl, rfl, rfl, Nat.le_refl _, fun _ _ => rfl⟩
/-- what formatOf answers -/
def FoRet (w w' : World) (a : Option Addr) (c : Nat) (zs : List Int) (e : Ending) : Prop :=
  Dr w w' ∧ (if fmtL zs = 0 then e = .returned (.tuple #[.slice none 0 0, .bool false]) else e = .returned (.tuple #[.slice a (fmtL zs) c, .bool true]))
theorem kfmt_any (a : Option Addr) (n c : Nat) (zs : List Int) (w : World) (h : Reads w a n c zs) (hb : OkB zs) (hn : n ≤ 2000000) :
    Calls Try.prog 55 #[.slice a n c] w fun e w' => FoRet w w' a c zs e := by
  have hz := hidden h.1
  have hc : n ≤ c := h.2.1
  have HR := hidden h
  have HO := hidden hb
  clear h hb
  go_enter Try.func55, Try.ntmps55
  go_wp2
  go_loopw [4] (fun i w' => ∃ k : Nat, k ≤ n + 1 ∧ i = .int .i64 k ∧ Hid (fmtL zs = fmtF zs k) ∧ Hid (Dr w w')) (fun i _ => n + 2 - (intOf i).toNat)
  case atStart => exact ⟨0, by omega, rfl, (fmtF_zero zs).symm, Dr.refl _⟩
  case round =>
    obtain ⟨k, hk, rfl, HF, HB⟩ := hrel
    by_cases hlt : k + 1 < n
    · obtain ⟨g, o, rfl, hB⟩ := (HR.out.later HB.out.below).bs (by omega)
      have hl' : k + 1 < zs.length := by rw [hz.out]; exact hlt
      have c0 := hB.2 k (by omega)
      have c1 := hB.2 (k + 1) (by omega)
      have b0 := okb_at HO.out k
      have b1 := okb_at HO.out (k + 1)
      have fe := hidden (fmtF_end zs k hl')
      have fb := hidden (fmtF_bad zs k hl')
      have fn := hidden (fmtF_next zs k hl')
      generalize zs.getD k 0 = x at *
      generalize zs.getD (k + 1) 0 = y at *
      clear hB hl'
      have d1 : (k : Int) + 1 < (n : Int) := by omega
      have hw : IntKind.i64.wrap ((k : Int) + 1) = (k : Int) + 1 := by rw [IntKind.wrap_i64]; omega
      have hw2 : IntKind.i64.wrap ((k : Int) + 2) = (k : Int) + 2 := by rw [IntKind.wrap_i64]; omega
      have t1 : ((k : Int) + 1).toNat = k + 1 := by omega
      have t2 : ((k : Int) + 2).toNat = k + 2 := by omega
      have c1' : wr.cell? ⟨g, o + ((k : Int) + 1).toNat, none⟩ = some (.int .u8 y) := by rw [t1]; exact c1
      by_cases e0 : x = 0 ∧ y = 0
      · obtain ⟨rfl, rfl⟩ := e0
        have hF := HF.out.trans (fe.out rfl rfl)
        have k3 : ((k : Int) + 2) ≤ (c : Int) := by omega
        go_wp2
        go_quiet (fail)
        all_goals (try go_wp2)
        go_ret2
        refine ⟨HB.out.more _, ?_⟩
        rw [if_neg (by omega), hF]
        try rfl
      · by_cases e1 : (x = 1 ∨ x = 2 ∨ x = 4) ∧ ¬ y = 0
        · have e2 : ((x == 0) && (y == 0)) = false := by
            rw [show (y == 0) = false by simpa using e1.2]; simp
          have hF := HF.out.trans (fn.out e1)
          have HW := hidden fun wx => kwid_yes x wx e1.1
          have q1 : (x == 0) = false := by simp; omega
          have q2 : (y == 0) = false := by simpa using e1.2
          have wx8 : IntKind.i64.wrap x = x := by rw [IntKind.wrap_i64]; omega
          clear e2
          go_wp2
          go_quiet (fail)
          all_goals (try go_wp2_with (go_at_call 59; refine (HW.out _).mono ?_; rintro e w1 ⟨rfl, rfl⟩))
          go_roundw
          case rel => exact ⟨k + 2, by omega, int_eq (by omega), hF, HB.out.more _⟩
          case measure => simp [intOf]; omega
        · have hF := HF.out.trans (fb.out e0 e1)
          have wx8 : IntKind.i64.wrap x = x := by rw [IntKind.wrap_i64]; omega
          by_cases e2 : x = 1 ∨ x = 2 ∨ x = 4
          · have HW := hidden fun wx => kwid_yes x wx e2
            have q1 : (x == 0) = false := by simp; omega
            obtain rfl : y = 0 := by omega
            go_wp2
            go_quiet (fail)
            all_goals (try go_wp2_with (go_at_call 59; refine (HW.out _).mono ?_; rintro e w1 ⟨rfl, rfl⟩))
            go_ret2
            refine ⟨HB.out.more _, ?_⟩
            rw [if_pos hF]; rfl
          · have HW := hidden fun wx => kwid_no x wx e2
            have q1 : (x == 0) = false ∨ (y == 0) = false := by simp; omega
            rcases q1 with q1 | q1
            · go_wp2
              go_quiet (fail)
              all_goals (try go_wp2_with (go_at_call 59; refine (HW.out _).mono ?_; rintro e w1 ⟨rfl, rfl⟩))
              go_ret2
              refine ⟨HB.out.more _, ?_⟩
              rw [if_pos hF]; rfl
            · by_cases q2 : x = 0
              · subst q2
                go_wp2
                go_quiet (fail)
                all_goals (try go_wp2_with (go_at_call 59; refine (HW.out _).mono ?_; rintro e w1 ⟨rfl, rfl⟩))
                go_ret2
                refine ⟨HB.out.more _, ?_⟩
                rw [if_pos hF]; rfl
              · have q2' : (x == 0) = false := by simpa using q2
                go_wp2
                go_quiet (fail)
                all_goals (try go_wp2_with (go_at_call 59; refine (HW.out _).mono ?_; rintro e w1 ⟨rfl, rfl⟩))
                go_ret2
                refine ⟨HB.out.more _, ?_⟩
                rw [if_pos hF]; rfl
    · have hF := HF.out.trans (fmtF_none zs k (by rw [hz.out]; exact hlt))
      have d1 : ¬ (k : Int) + 1 < (n : Int) := by omega
      have hw : IntKind.i64.wrap ((k : Int) + 1) = (k : Int) + 1 := by rw [IntKind.wrap_i64]; omega
      go_wp2
      go_ret2
      refine ⟨HB.out, ?_⟩
      rw [if_pos hF]; rfl
theorem pre_mid {α : Type} {q A B all : List α} {p : α} (h : q ++ (p :: A ++ B) = all) : (q ++ [p]) <+: all ∧ (q ++ [p]) ++ (A ++ B) = all :=
  ⟨⟨A ++ B, by rw [← h]; simp⟩, by rw [← h]; simp⟩

theorem each_lay (J Jx : List (Nat × Nat) → World → Prop) (cv : Value) (a : Option Addr) (n c : Nat) (zs : List Int) (w : World) (hn : n ≤ 2000000) (hp : isPairs zs) (hl : zs.length = n) (hb : OkB zs)
    (hJ : ∀ pre wx, J pre wx → Reads wx a n c zs) (h0 : J [] w)
    (hS : ∀ pre p q wx, J pre wx → (q = 1 ∨ q = 2 ∨ q = 4) → p + q ≤ 893 * n + 3600 → (pre ++ [(p, q)]) <+: slL zs 0 → Calls Try.prog 61 #[.int .i64 (p : Nat), .int .i64 (q : Nat), cv] wx fun e w' => (e = .returned (.bool true) ∧ J (pre ++ [(p, q)]) w') ∨ (e = .returned (.bool false) ∧ Jx (pre ++ [(p, q)]) w')) :
    Calls Try.prog 60 #[.slice a n c, .func (.func 61) #[] #[cv]] w fun e w' => e = .returned (.tuple #[]) ∧ (J (slL zs 0) w' ∨ ∃ pre, pre <+: slL zs 0 ∧ Jx pre w') := by
  have HJ := hidden hJ
  have H0 := hidden h0
  have HS := hidden hS
  have HP := hidden hp
  have HL := hidden hl
  have HB := hidden hb
  clear hJ h0 hS hp hl hb
  go_enter Try.func60, Try.ntmps60
  go_wp2
  go_loopw [4, 5] (fun at_ i wr => ∃ (k p : Nat) (pre : List (Nat × Nat)), k ≤ n + 1 ∧ i = .int .i64 k ∧ at_ = .int .i64 p ∧ p ≤ 893 * k ∧ Hid (J pre wr) ∧ Hid (isPairs (zs.drop k)) ∧ Hid (pre ++ slL (zs.drop k) p = slL zs 0)) (fun _ i _ => n + 2 - (intOf i).toNat)
  case atStart => exact ⟨0, 0, [], by omega, rfl, rfl, by omega, H0, by rw [List.drop_zero]; exact HP, by rw [List.drop_zero]; rfl⟩
  case round =>
    clear H0 HP
    obtain ⟨k, p, pre, hk, rfl, rfl, hpk, HJ1, HP, HE⟩ := hrel
    by_cases hlt : k + 1 < n
    · have hrd := HJ.out _ _ HJ1.out
      obtain ⟨g, o, rfl, hB⟩ := hrd.bs (by omega)
      have hcn : n ≤ c := hrd.2.1
      have hl' : k + 1 < zs.length := by rw [HL.out]; exact hlt
      have c0 := hB.2 k (by omega)
      have c1 := hB.2 (k + 1) (by omega)
      have b0 := okb_at HB.out k
      have b1 := okb_at HB.out (k + 1)
      obtain ⟨e1, _⟩ := slL_two zs k p hl'
      have hpp := HP.out
      rw [drop_two zs k hl'] at hpp
      obtain ⟨hw, hk0, hk1, hpr⟩ := hpp
      have HE1 := hidden ((congrArg (pre ++ ·) e1).symm.trans HE.out)
      clear e1 HE hB hl' hrd HP
      generalize zs.getD k 0 = x at *
      generalize zs.getD (k + 1) 0 = y at *
      obtain ⟨x, rfl⟩ := Int.eq_ofNat_of_zero_le b0.1
      obtain ⟨y, rfl⟩ := Int.eq_ofNat_of_zero_le b1.1
      simp only [Int.toNat_natCast] at HE1
      have HPR := hidden hpr
      have d1 : (k : Int) + 1 < (n : Int) := by omega
      have hw1 : IntKind.i64.wrap ((k : Int) + 1) = (k : Int) + 1 := by rw [IntKind.wrap_i64]; omega
      have t1 : ((k : Int) + 1).toNat = k + 1 := by omega
      have c1' : wr.cell? ⟨g, o + ((k : Int) + 1).toNat, none⟩ = some (.int .u8 y) := by rw [t1]; exact c1
      have wx8 : IntKind.i64.wrap (x : Int) = x := by rw [IntKind.wrap_i64]; omega
      clear hpr
      go_wp2
      generalize hwq : wr = wq at *
      clear hwq
      go_loopw [4, 24] (fun at_ i wr => ∃ (j r : Nat) (qre : List (Nat × Nat)), j ≤ y ∧ i = .int .u8 j ∧ at_ = .int .i64 r ∧ r ≤ 893 * k + 7 * j ∧ Hid (J qre wr) ∧ Hid (qre ++ (slR x (y - j) r ++ slL (zs.drop (k + 2)) (enR x (y - j) r)) = slL zs 0)) (fun _ i _ => y - (intOf i).toNat)
      case atStart => exact ⟨0, p, pre, by omega, rfl, rfl, by omega, HJ1, by rw [Nat.sub_zero]; exact HE1⟩
      case round =>
        clear HJ1 HE1 c0 c1 c1'
        obtain ⟨j, r, qre, hj, rfl, rfl, hr, HJ2, HE2⟩ := hrel
        by_cases hjl : j < y
        · have hxw : x = 1 ∨ x = 2 ∨ x = 4 := by omega
          have hub := upN_bd r x hxw
          have HU := hidden fun wx => kup_any r x wx hxw (by omega)
          have e3 : y - j = (y - (j + 1)) + 1 := by omega
          rw [e3, slR, enR] at HE2
          have HC := hidden (HS.out qre (upN r x) x wr HJ2.out hxw (by omega) (pre_mid HE2.out).1)
          generalize upN r x = u at *
          have hw2 : IntKind.i64.wrap ((u : Int) + (x : Int)) = (u : Int) + (x : Int) := by rw [IntKind.wrap_i64]; omega
          have d2 : (j : Int) < (y : Int) := by omega
          have hw3 : IntKind.u8.wrap ((j : Int) + 1) = (j : Int) + 1 := by rw [IntKind.wrap_u8]; omega
          obtain ⟨hub0, hub1, _⟩ := hub
          have hx4 : x ≤ 4 := by omega
          clear hw e3 hub0
          go_wp2_with (first | (go_at_call 62; refine (HU.out _).mono ?_; rintro e w1 ⟨rfl, rfl⟩) | (go_at_call 61; refine HC.out.mono ?_; rintro e w2 (⟨rfl, hj2⟩ | ⟨rfl, hjx⟩)))
          · have HJ3 := hidden hj2
            clear hj2
            go_roundw
            case rel => exact ⟨j + 1, u + x, qre ++ [(u, x)], by omega, int_eq (by omega), int_eq (by omega), by omega, HJ3, (pre_mid HE2.out).2⟩
            case measure => simp [intOf]; omega
          · refine bodyPost_ret (v := .tuple #[]) (by simp [results, Try.results60, go_sem]) rfl ⟨rfl, .inr ⟨_, (pre_mid HE2.out).1, hjx⟩⟩
        · obtain rfl : j = y := by omega
          have d2 : ¬ (j : Int) < (j : Int) := by omega
          rw [Nat.sub_self] at HE2
          have hw4 : IntKind.i64.wrap ((k : Int) + 2) = (k : Int) + 2 := by rw [IntKind.wrap_i64]; omega
          go_wp2
          go_roundw
          case rel => exact ⟨k + 2, r, qre, by omega, int_eq (by omega), rfl, by omega, HJ2, HPR, HE2⟩
          case measure => simp [intOf]; omega
    · have d1 : ¬ (k : Int) + 1 < (n : Int) := by omega
      have hw1 : IntKind.i64.wrap ((k : Int) + 1) = (k : Int) + 1 := by rw [IntKind.wrap_i64]; omega
      have e := HE.out
      rw [(slL_few zs k p (by rw [HL.out]; exact hlt)).1, List.append_nil] at e
      subst e
      go_wp2
      refine bodyPost_end (v := .tuple #[]) (by simp [results, Try.results60, go_sem]) rfl ⟨rfl, .inl HJ1.out⟩
theorem kup4_any (x : Nat) (w : World) (hx : x ≤ 4294967296000) :
    Calls Try.prog 62 #[.int .i64 x, .int .i64 4] w fun e w' => e = .returned (.int .i64 (upN x 4)) ∧ w' = w := kup_any x 4 w (by simp) hx
theorem lay1_any (p q Bx : Nat) (x : Int) (w : World) (h : w.heap[Bx]? = some (.cells #[.int .i64 x] 3 (0, 0))) (hp : p + q ≤ 4294967296000) :
    Calls Try.prog 61 #[.int .i64 (p : Nat), .int .i64 (q : Nat), .pointer (some ⟨Bx, 0, none⟩)] w fun e w' => e = .returned (.bool true) ∧ w' = w.setCell ⟨Bx, 0, none⟩ (.int .i64 (p + q : Nat)) := by
  have hc := cell_of_one h
  have hf := free_of_one h
  have hw : IntKind.i64.wrap ((p : Int) + (q : Int)) = (p : Int) + (q : Int) := by rw [IntKind.wrap_i64]; omega
  clear h
  go_enter Try.func61, Try.ntmps61
  go_wp2
  go_ret
  exact ⟨rfl, by rw [Int.natCast_add]⟩
/-- where the last of some locals ends -/
def lastE (l : List (Nat × Nat)) : Nat := match l.getLast? with
  | some p => p.1 + p.2
  | none => 0
theorem lastE_snoc (l : List (Nat × Nat)) (p q : Nat) : lastE (l ++ [(p, q)]) = p + q := by simp [lastE]
theorem lastE_all (f : List Int) : lastE (slL f 0) = enL f 0 := by
  rcases slL_last f 0 with ⟨h1, h2⟩ | ⟨l, p, h1, h2⟩
  · rw [h1, h2]; rfl
  · obtain ⟨p, q⟩ := p
    rw [h1, lastE_snoc]; exact h2
theorem klay_any (a : Option Addr) (n c : Nat) (zs : List Int) (w : World) (h : Reads w a n c zs) (hb : OkB zs) (hn : n ≤ 2000000) (hp : isPairs zs) :
    Calls Try.prog 56 #[.slice a n c] w fun e w' => e = .returned (.tuple #[.int .i64 (posF zs), .int .i64 (szF zs)]) ∧ Below w.heap.size w w' := by
  have hl := h.1
  have hbd := (enL_mono zs 0 hp).2
  have hsz : szF zs ≤ 1785 * n + 3 := by have := upN_bd (enL zs 0) 4 (by simp); unfold szF; omega
  have e0 : posF zs = upN (8 + n) 4 := by unfold posF; rw [hl]
  have HE : Hid (∀ w1, Below w.heap.size w w1 → w1.heap[w.heap.size]? = some (.cells #[.int .i64 0] 3 (0, 0)) → Calls Try.prog 60 #[.slice a n c, .func (.func 61) #[] #[.pointer (some ⟨w.heap.size, 0, none⟩)]] w1 fun e w' => e = .returned (.tuple #[]) ∧ Below w.heap.size w w' ∧ w'.heap[w.heap.size]? = some (.cells #[.int .i64 (enL zs 0)] 3 (0, 0))) := fun w1 hb1 hc1 => by
    refine (each_lay (fun pre wx => Below w.heap.size w wx ∧ wx.heap[w.heap.size]? = some (.cells #[.int .i64 (lastE pre)] 3 (0, 0))) (fun _ _ => False) _ a n c zs w1 hn hp hl hb (fun pre wx hj => h.later hj.1) ⟨hb1, hc1⟩ (fun pre p q wx hj hq hpq _ => ?_)).mono ?_
    · refine (lay1_any p q w.heap.size _ wx hj.2 (by omega)).mono ?_
      rintro e w' ⟨rfl, rfl⟩
      refine .inl ⟨rfl, hj.1.setCell (p := ⟨w.heap.size, 0, none⟩) (Nat.le_refl _) _, ?_⟩
      rw [lastE_snoc]
      exact one_setCell hj.2
    · rintro e w' ⟨rfl, h' | ⟨_, _, hf⟩⟩
      · rw [lastE_all] at h'
        exact ⟨rfl, h'⟩
      · exact hf.elim
  have HU1 := hidden fun wx => kup4_any (8 + n) wx (by omega)
  have HU2 := hidden fun wx => kup4_any (enL zs 0) wx (by omega)
  have hmf : ∀ (fn : Fn) (first cap : Array Value) (w : World), (Instr.makeFunc fn first cap).run Try.prog w = .ok (.func fn first cap) w := fun _ _ _ _ => rfl
  rw [e0, show szF zs = upN (enL zs 0) 4 from rfl]
  clear h hb hp e0
  have hw : IntKind.i64.wrap (8 + (n : Int)) = 8 + (n : Int) := by rw [IntKind.wrap_i64]; omega
  have e8 : ((8 + n : Nat) : Int) = 8 + (n : Int) := by omega
  rw [e8] at HU1
  generalize upN (8 + n) 4 = P at *
  rw [show szF zs = upN (enL zs 0) 4 from rfl] at hsz
  generalize upN (enL zs 0) 4 = S at *
  generalize enL zs 0 = E at *
  clear e8
  have hb1 : Below w.heap.size w (w.alloc (.cells #[.int .i64 0] 3)) := (Below.refl _ _).alloc (Nat.le_refl _) _
  have hq1 : (w.alloc (.cells #[.int .i64 0] 3)).heap[w.heap.size]? = some (.cells #[.int .i64 0] 3 (0, 0)) := heap_alloc_new _ _
  have HE1 := hidden (HE.out _ hb1 hq1)
  clear HE hb1 hq1
  go_enter Try.func56, Try.ntmps56
  go_wp2_with (first | (go_at_call 60; refine HE1.out.mono ?_; rintro e w1 ⟨rfl, hb1, hq1⟩; have hc1 := cell_of_one hq1; have hf1 := free_of_one hq1; have HB1 := hidden hb1; have HQ1 := hidden hq1; clear hb1 hq1))
  go_region_with (first | (go_at_call 62; (with_reducible refine (HU1.out _).mono ?_); rintro e w2 ⟨rfl, rfl⟩) | (go_at_call 62; (with_reducible refine (HU2.out _).mono ?_); rintro e w2 ⟨rfl, rfl⟩) | fail)
  all_goals go_wp2
  all_goals (
    have hcs : (w1.setCell ⟨w.heap.size, 0, none⟩ (.int .i64 S)).cell? ⟨w.heap.size, 0, none⟩ = some (.int .i64 S) := World.cell?_setCell_same' _ _ _ (by rw [hc1]; rfl)
    refine bodyPost_ret (v := .tuple #[.int .i64 P, .int .i64 S]) (by simp [results, Try.results56, go_sem, hcs]) rfl ⟨rfl, (HB1.out.setCell (p := ⟨w.heap.size, 0, none⟩) (Nat.le_refl _) _).drew⟩)
/-- what Locals answers -/
def locR (zs : List Int) : Nat × Nat × Nat := if fmtL zs = 0 ∨ fmtL zs ≠ zs.length then (0, 0, 102) else (posF zs, szF zs, 0)
theorem kloc_any (a : Option Addr) (n c : Nat) (zs : List Int) (w : World) (h : Reads w a n c zs) (hb : OkB zs) (hn : n ≤ 2000000) :
    Calls Try.prog 40 #[.slice a n c] w fun e w' => e = .returned (.tuple #[.int .i64 (locR zs).1, .int .i64 (locR zs).2.1, .int .i64 (locR zs).2.2]) ∧ Below w.heap.size w w' := by
  have hl := h.1
  have HF := hidden (kfmt_any a n c zs w h hb hn)
  unfold locR
  by_cases h0 : fmtL zs = 0
  · rw [if_pos (.inl h0)]
    unfold FoRet at HF
    simp only [if_pos h0] at HF
    clear h hb
    go_enter Try.func40, Try.ntmps40
    go_wp2_with (go_at_call 55; refine HF.out.mono ?_; rintro e w1 ⟨hb1, rfl⟩; replace hb1 := hb1.below)
    go_ret3
    exact ⟨rfl, hb1⟩
  · unfold FoRet at HF
    simp only [if_neg h0] at HF
    by_cases h1 : fmtL zs = zs.length
    · rw [if_neg (fun h => h.elim h0 (fun h2 => h2 h1))]
      have hpr := pairs_of zs hb h0
      rw [h1, List.take_length] at hpr
      have HL : Hid (∀ wx, Below w.heap.size w wx → Calls Try.prog 56 #[.slice a n c] wx fun e w' => e = .returned (.tuple #[.int .i64 (posF zs), .int .i64 (szF zs)]) ∧ Below w.heap.size w w') := fun wx hbx => (klay_any a n c zs wx (h.later hbx) hb hn hpr).mono (fun e w' hh => ⟨hh.1, hbx.trans (hh.2.mono hbx.size)⟩)
      rw [h1, hl] at HF
      clear h hb hpr h0 h1
      generalize posF zs = P at *
      generalize szF zs = S at *
      have q : ((n : Int) == (n : Int)) = true := by simp
      go_enter Try.func40, Try.ntmps40
      go_wp2_with (first | (go_at_call 55; refine HF.out.mono ?_; rintro e w1 ⟨hb1, rfl⟩; replace hb1 := hb1.below) | (go_at_call 56; refine (HL.out _ hb1).mono ?_; rintro e w2 ⟨rfl, hb2⟩))
      go_ret3
      exact ⟨rfl, hb2⟩
    · rw [if_pos (.inr h1)]
      rw [hl] at h1
      clear h hb
      generalize fmtL zs = F at *
      have q : ((F : Int) == (n : Int)) = false := by simp; omega
      have q2 : ¬ (F : Int) = (n : Int) := by omega
      go_enter Try.func40, Try.ntmps40
      go_wp2_with (first | (go_at_call 55; refine HF.out.mono ?_; rintro e w1 ⟨hb1, rfl⟩; replace hb1 := hb1.below))
      go_ret3
      exact ⟨rfl, hb1⟩
theorem upN_iff (x k n : Nat) (h : n = 1 ∨ n = 2 ∨ n = 4) (h1 : x ≤ k) (h2 : k ≤ upN x n) : k % n = 0 ↔ k = upN x n := by
  rcases h with rfl | rfl | rfl
  · rw [upN_one] at *; omega
  · rw [upN_two] at *; omega
  · rw [upN_four] at *; omega
theorem dfmt_any (a : Option Addr) (n c : Nat) (zs : List Int) (w : World) (h : Reads w a n c zs) (hb : OkB zs) (hn : n ≤ 2000000) :
    Calls Try.prog 42 #[.slice a n c] w fun e w' => e = .returned (.int .i64 (fmtL zs)) ∧ Dr w w' := by
  have hz := hidden h.1
  have HR := hidden h
  have HO := hidden hb
  clear h hb
  go_enter Try.func42, Try.ntmps42
  go_wp2
  go_loopw [3] (fun i w' => ∃ k : Nat, 2 * k ≤ n + 1 ∧ i = .int .i64 k ∧ Hid (fmtL zs = fmtF zs (2 * k)) ∧ Hid (Dr w w')) (fun i _ => n + 2 - (intOf i).toNat)
  case atStart => exact ⟨0, by omega, rfl, (fmtF_zero zs).symm, Dr.refl _⟩
  case round =>
    obtain ⟨k, hk, rfl, HF, HB⟩ := hrel
    have hw0 : IntKind.i64.wrap (2 * (k : Int)) = 2 * (k : Int) := by rw [IntKind.wrap_i64]; omega
    have hw : IntKind.i64.wrap (2 * (k : Int) + 1) = 2 * (k : Int) + 1 := by rw [IntKind.wrap_i64]; omega
    by_cases hlt : 2 * k + 1 < n
    · obtain ⟨g, o, rfl, hB⟩ := (HR.out.later HB.out.below).bs (by omega)
      have hl' : 2 * k + 1 < zs.length := by rw [hz.out]; exact hlt
      have c0 := hB.2 (2 * k) (by omega)
      have c1 := hB.2 (2 * k + 1) (by omega)
      have b0 := okb_at HO.out (2 * k)
      have b1 := okb_at HO.out (2 * k + 1)
      have fe := hidden (fmtF_end zs (2 * k) hl')
      have fb := hidden (fmtF_bad zs (2 * k) hl')
      have fn := hidden (fmtF_next zs (2 * k) hl')
      generalize zs.getD (2 * k) 0 = x at *
      generalize zs.getD (2 * k + 1) 0 = y at *
      clear hB hl'
      have d1 : 2 * (k : Int) + 1 < (n : Int) := by omega
      have hw2 : IntKind.i64.wrap (2 * (k : Int) + 2) = 2 * (k : Int) + 2 := by rw [IntKind.wrap_i64]; omega
      have hw3 : IntKind.i64.wrap ((k : Int) + 1) = (k : Int) + 1 := by rw [IntKind.wrap_i64]; omega
      have t0 : (2 * (k : Int)).toNat = 2 * k := by omega
      have t1 : (2 * (k : Int) + 1).toNat = 2 * k + 1 := by omega
      have c0' : wr.cell? ⟨g, o + (2 * (k : Int)).toNat, none⟩ = some (.int .u8 x) := by rw [t0]; exact c0
      have c1' : wr.cell? ⟨g, o + (2 * (k : Int) + 1).toNat, none⟩ = some (.int .u8 y) := by rw [t1]; exact c1
      by_cases e0 : x = 0 ∧ y = 0
      · obtain ⟨rfl, rfl⟩ := e0
        have hF := HF.out.trans (fe.out rfl rfl)
        have e2 : ((fmtL zs : Nat) : Int) = 2 * (k : Int) + 2 := by omega
        have E2 := hidden e2
        clear hF e2
        go_wp2
        go_quiet (fail)
        all_goals (try go_wp2)
        go_ret
        exact ⟨ret_int (by rw [E2.out]), HB.out.more _⟩
      · by_cases e1 : (x = 1 ∨ x = 2 ∨ x = 4) ∧ ¬ y = 0
        · have hF := hidden (HF.out.trans (fn.out e1))
          have q1 : (x == 0) = false := by simp; omega
          have q2 : (y == 0) = false := by simpa using e1.2
          obtain ⟨e1, e1y⟩ := e1
          rcases e1 with rfl | rfl | rfl
          all_goals (
            go_wp2
            go_quiet (fail)
            all_goals (try go_wp2)
            go_roundw
            case rel => exact ⟨k + 1, by omega, int_eq (by omega), by rw [show 2 * (k + 1) = 2 * k + 2 by omega]; exact hF, HB.out.more _⟩
            case measure => simp [intOf]; omega)
        · have hF := hidden (HF.out.trans (fb.out e0 e1))
          by_cases e2 : x = 1 ∨ x = 2 ∨ x = 4
          · obtain rfl : y = 0 := Classical.byContradiction fun h => e1 ⟨e2, h⟩
            rcases e2 with rfl | rfl | rfl
            all_goals (
              go_wp2
              go_quiet (fail)
              all_goals (try go_wp2)
              go_ret
              exact ⟨ret_int (by rw [hF.out]; rfl), HB.out.more _⟩)
          · have q1 : (x == 1) = false := by simp; omega
            have q2 : (x == 2) = false := by simp; omega
            have q3 : (x == 4) = false := by simp; omega
            by_cases q4 : x = 0
            · subst q4
              have q5 : (y == 0) = false := by simp; omega
              go_wp2
              go_quiet (fail)
              all_goals (try go_wp2)
              go_ret
              exact ⟨ret_int (by rw [hF.out]; rfl), HB.out.more _⟩
            · have q5 : (x == 0) = false := by simpa using q4
              go_wp2
              go_quiet (fail)
              all_goals (try go_wp2)
              go_ret
              exact ⟨ret_int (by rw [hF.out]; rfl), HB.out.more _⟩
    · have hF := hidden (HF.out.trans (fmtF_none zs (2 * k) (by rw [hz.out]; exact hlt)))
      have d1 : ¬ 2 * (k : Int) + 1 < (n : Int) := by omega
      go_wp2
      go_ret
      exact ⟨ret_int (by rw [hF.out]; rfl), HB.out⟩
end Go.Proofs.Ytpkfmccnjandoaa
