/- Rows of blocks (an address and a length each) in memory of the call's own; copy and clear over a row whose elements take two cells. Contracts of slices.Clone, slices.Insert and slices.Delete over rows of blocks. Contracts of slices.Insert within a row of blocks, and of slices.Delete. Contract of slices.Delete over a row of blocks. A heap as it lies in memory, its frame, and the two functions that search its blocks. The first place among the blocks. Contracts of the small functions of package heap. What Malloc and Free leave of a heap: the stores into its fields, and the row of its blocks. Package heap's Malloc and Free, leaf by leaf. Package heap's Free leaf by leaf; Malloc and Free of any heap. Contracts of package heap's Load; of all of its functions on a nil heap. Package heap's mayBe and Load of any blocks. Heaps stay in order whatever is called; the page's example. -/
import Derived.WalkKit
import Derived.ProofKit
import Derived.OpenShut
import Derived.Below
import Derived.Laws.CopyOwn
import Derived.Laws.AppendOwn
import Derived.Lib.AppendZerosOnto
import Derived.Lib.Overlaps
import Derived.Lib.SliceRun
import Derived.Maps.AppendAt
import Derived.Deep.RegionLaw
import Derived.Lib.SmallJoins
import Derived.OneCell
import Derived.Test.YtpgppdkbkkljnaaRows
import Derived.Deep.Cut
import Derived.Deep.CutRange
namespace Go.Proofs.Ytpgppdkbkkljnaa
open Go.RowKit
set_option maxHeartbeats 1000000
set_option maxRecDepth 100000
set_option linter.unusedVariables false

theorem hidden8 {p : Prop} (h : p) : Hid p := h
theorem int_eq8 {k : IntKind} {a b : Int} (h : a = b) : Value.int k a = .int k b := by rw [h]
/-- a block: where it begins, how many bytes it has -/
structure Bk where
  a : Nat
  l : Nat
theorem Bk.same {x y : Bk} (h1 : x.a = y.a) (h2 : x.l = y.l) : x = y := by cases x; cases y; simp at h1 h2; subst h1; subst h2; rfl
def bkV (b : Bk) : List Value := [.int .u32 b.a, .int .u32 b.l]
def bksV (bs : List Bk) : List Value := bs.flatMap bkV
theorem bksV_nil : bksV [] = [] := rfl
theorem bksV_cons (b : Bk) (bs : List Bk) : bksV (b :: bs) = bkV b ++ bksV bs := rfl
theorem bksV_app (xs ys : List Bk) : bksV (xs ++ ys) = bksV xs ++ bksV ys := by simp [bksV]
theorem bksV_len (bs : List Bk) : (bksV bs).length = bs.length * 2 := by
  induction bs with
  | nil => rfl
  | cons b bs ih => rw [bksV_cons, List.length_append, ih, List.length_cons]; simp [bkV]; omega
theorem bksV_take (bs : List Bk) (i : Nat) : (bksV bs).take (i * 2) = bksV (bs.take i) := by
  induction bs generalizing i with
  | nil => simp [bksV]
  | cons b bs ih =>
    cases i with
    | zero => simp [bksV]
    | succ i =>
      rw [bksV_cons, List.take_succ_cons, bksV_cons, List.take_append]
      have : (bkV b).length = 2 := rfl
      rw [this, show (i + 1) * 2 - 2 = i * 2 by omega, ih, List.take_of_length_le (by rw [this]; omega)]
theorem bksV_drop (bs : List Bk) (i : Nat) : (bksV bs).drop (i * 2) = bksV (bs.drop i) := by
  induction bs generalizing i with
  | nil => simp [bksV]
  | cons b bs ih =>
    cases i with
    | zero => simp
    | succ i =>
      rw [bksV_cons, List.drop_succ_cons, List.drop_append]
      have : (bkV b).length = 2 := rfl
      rw [this, show (i + 1) * 2 - 2 = i * 2 by omega, ih, List.drop_of_length_le (by rw [this]; omega), List.nil_append]
theorem bksV_one (bs : List Bk) : ∀ u ∈ bksV bs, u.oneCell' = true := by
  intro u hu
  obtain ⟨b, _, hb⟩ := List.mem_flatMap.1 hu
  simp [bkV] at hb
  rcases hb with rfl | rfl <;> rfl
theorem bksV_at (bs : List Bk) (i : Nat) (h : i < bs.length) : (bksV bs)[i * 2]? = some (.int .u32 bs[i].a) ∧ (bksV bs)[i * 2 + 1]? = some (.int .u32 bs[i].l) := by
  have h0 : (bksV bs).drop (i * 2) = bkV bs[i] ++ bksV (bs.drop (i + 1)) := by rw [bksV_drop, List.drop_eq_getElem_cons h, bksV_cons]
  constructor
  · have := congrArg (·[0]?) h0; simpa [bkV, List.getElem?_drop] using this
  · have := congrArg (·[1]?) h0; simpa [bkV, List.getElem?_drop] using this
theorem bksV_inj {xs ys : List Bk} (h : bksV xs = bksV ys) : xs = ys := by
  induction xs generalizing ys with
  | nil =>
    cases ys with
    | nil => rfl
    | cons y ys => simp [bksV, bkV] at h
  | cons x xs ih =>
    cases ys with
    | nil => simp [bksV, bkV] at h
    | cons y ys =>
      simp only [bksV_cons, bkV, List.cons_append, List.nil_append, List.cons.injEq, Value.int.injEq, true_and] at h
      rw [ih h.2.2, Bk.same (Int.ofNat.inj h.1) (Int.ofNat.inj h.2.1)]

/-- copy over a row that is known whole, each element k cells -/
theorem run_copy_rowk {P : Program} (k : Nat) (w : World) (dT sT ty elem : TypeId) (g o dLen dCap : Nat) (a : Addr) (sLen sCap : Nat) (cur : List Value) (t : TypeId) (cs : List Value)
    (hu : P.underlying dT = some (.slice elem)) (hs : (P.info? elem).map (·.size) = some k)
    (hg : w.heap[g]? = some (.cells cur.toArray t (0, 0))) (m : Nat) (hm : Nat.min sLen dLen = m) (hn : cs.length = m * k)
    (hsrc : ∀ j v, cs[j]? = some v → w.cell? (a.add j) = some v) (hfit : o + cs.length ≤ cur.length) (h1 : ∀ v ∈ cs, v.oneCell' = true) :
    (Builtin.copy_ #[dT, sT] ty #[.slice (some ⟨g, o, none⟩) dLen dCap, .slice (some a) sLen sCap]).run P w =
      .ok (goInt m) (w.setRow g (splice cur o cs).toArray) := by
  have hl := run_loadCells_list (P := P) w a cs hsrc
  have hst := run_storeCells_at P g o t cs 0 cur.toArray w hg (by simpa using hfit) h1
  cases hq : P.info? elem with
  | none => simp [hq] at hs
  | some i =>
    have hi : i.size = k := by simpa [hq] using hs
    simp [Builtin.copy_, run_underlying hu, Builtin.lenOf, Builtin.firstCells, sizeOf, typeInfo, hq, hi, hm, ← hn, hl, hst, splice]
theorem grown_setRow (w : World) (g : Nat) (cs : Array Value) : w.grownBy (w.setRow g cs) (some g) :=
  ⟨rfl, rfl, rfl, by simp [World.setRow], fun k _ hk => setRow_other w g k cs (fun e => hk (by rw [e]))⟩
theorem grown_drew (w : World) (row : Option Nat) : w.grownBy w.drew row := ⟨rfl, rfl, rfl, Nat.le_refl _, fun _ _ _ => rfl⟩
theorem wpList_copyk {P : Program} (k : Nat) {w : World} {ops : Array Oper} {rest : List Oper} {o : Oper} {a : Act} {Q : Exit → Act → World → Prop} (hgd : o.guard = none) (d s : Operand) (dT sT : TypeId)
    (ho : o.op = .call { callee := .builtin .copy, args := #[d, s], argTypes := #[dT, sT] }) (elem : TypeId) (hu : P.underlying dT = some (.slice elem)) (hsz : (P.info? elem).map (·.size) = some k)
    (g off dLen dCap : Nat) (ad : Addr) (sLen sCap : Nat) (hd : a.eval d = .slice (some ⟨g, off, none⟩) dLen dCap) (hs : a.eval s = .slice (some ad) sLen sCap)
    (cur : List Value) (t : TypeId) (hg : w.heap[g]? = some (.cells cur.toArray t (0, 0))) (cs : List Value) (m : Nat) (hm : Nat.min sLen dLen = m) (hn : cs.length = m * k)
    (hsrc : ∀ j v, cs[j]? = some v → w.cell? (ad.add j) = some v) (hfit : off + cs.length ≤ cur.length) (h1 : ∀ v ∈ cs, v.oneCell' = true)
    (h : ∀ w', Hid (w'.heap[g]? = some (.cells (splice cur off cs).toArray t (0, 0))) → Hid (w.grownBy w' (some g)) → wpList P ops Q rest (a.put o.dst (goInt m)) w') : wpList P ops Q (o :: rest) a w := by
  refine wpList_plain hgd fun K hK => ?_
  have hrun := run_copy_rowk (P := P) k w dT sT o.type elem g off dLen dCap ad sLen sCap cur t cs hu hsz hg m hm hn hsrc hfit h1
  unfold Oper.wp
  simp [execOp, ho, resolve, invoke, builtin, hd, hs, hrun, Result.andThen]
  exact hK _ _ (h _ (setRow_heap w g _ _ t _ hg) (grown_setRow w g _))
theorem step_copyk {P : Program} (k : Nat) {w : World} {ops : Array Oper} {o : Oper} {a : Act} {K : Act → World → Prop} {Q : Exit → Act → World → Prop} {E : Prop} (hgd : o.guard = none) (d s : Operand) (dT sT : TypeId)
    (ho : o.op = .call { callee := .builtin .copy, args := #[d, s], argTypes := #[dT, sT] }) (elem : TypeId) (hu : P.underlying dT = some (.slice elem)) (hsz : (P.info? elem).map (·.size) = some k)
    (g off dLen dCap : Nat) (ad : Addr) (sLen sCap : Nat) (hd : a.eval d = .slice (some ⟨g, off, none⟩) dLen dCap) (hs : a.eval s = .slice (some ad) sLen sCap)
    (cur : List Value) (t : TypeId) (hg : w.heap[g]? = some (.cells cur.toArray t (0, 0))) (cs : List Value) (m : Nat) (hm : Nat.min sLen dLen = m) (hn : cs.length = m * k)
    (hsrc : ∀ j v, cs[j]? = some v → w.cell? (ad.add j) = some v) (hfit : off + cs.length ≤ cur.length) (h1 : ∀ v ∈ cs, v.oneCell' = true)
    (h : ∀ w', Hid (w'.heap[g]? = some (.cells (splice cur off cs).toArray t (0, 0))) → Hid (w.grownBy w' (some g)) → K (a.put o.dst (goInt m)) w') :
    if Region.wanted o (yielded ops a.tmps) = true then Oper.wp P o a w K Q else E := by
  have hw : Region.wanted o (yielded ops a.tmps) = true := by simp [Region.wanted, hgd]
  rw [if_pos hw]
  have hrun := run_copy_rowk (P := P) k w dT sT o.type elem g off dLen dCap ad sLen sCap cur t cs hu hsz hg m hm hn hsrc hfit h1
  unfold Oper.wp
  simp [execOp, ho, resolve, invoke, builtin, hd, hs, hrun, Result.andThen]
  exact h _ (setRow_heap w g _ _ t _ hg) (grown_setRow w g _)
/-- append onto a row with room, told as the row behind it -/
theorem step_appk {P : Program} (k : Nat) {w : World} {ops : Array Oper} {o : Oper} {a : Act} {K : Act → World → Prop} {Q : Exit → Act → World → Prop} {E : Prop} (hgd : o.guard = none) (s x : Operand) (t : TypeId)
    (ho : o.op = .call { callee := .builtin .append, args := #[s, x], argTypes := #[t, t] }) (e : TypeId) (i : TypeInfo) (hu : P.underlying t = some (.slice e)) (hi : P.info? e = some i) (hk : i.size = k)
    (g n cap : Nat) (ad : Addr) (m c : Nat) (hs : a.eval s = .slice (some ⟨g, 0, none⟩) n cap) (hx : a.eval x = .slice (some ad) m c)
    (cur : List Value) (hg : w.heap[g]? = some (.cells cur.toArray e (0, 0))) (cs : List Value) (hn : cs.length = m * k)
    (hsrc : ∀ j v, cs[j]? = some v → w.cell? (ad.add j) = some v) (hroom : n + m ≤ cap) (hfit : n * k + cs.length ≤ cur.length) (h1 : ∀ v ∈ cs, v.oneCell' = true)
    (h : ∀ w', Hid (w'.heap[g]? = some (.cells (splice cur (n * k) cs).toArray e (0, 0))) → Hid (w.grownBy w' (some g)) → K (a.put o.dst (.slice (some ⟨g, 0, none⟩) (n + m) cap)) w') :
    if Region.wanted o (yielded ops a.tmps) = true then Oper.wp P o a w K Q else E := by
  have hw : Region.wanted o (yielded ops a.tmps) = true := by simp [Region.wanted, hgd]
  rw [if_pos hw]
  subst hk
  have hrun := run_append_room (P := P) w t o.type e i hu hi g n cap cur.toArray hg ad m c cs hn hsrc h1 hroom (by simpa using hfit)
  unfold Oper.wp
  simp [execOp, ho, resolve, invoke, builtin, hs, hx, hrun, Result.andThen]
  refine h _ (show _ = _ from ?_) (grown_setRow w g _)
  have := setRow_heap w g cur.toArray (splice cur (n * i.size) cs).toArray e (0, 0) hg
  simpa [splice] using this
/-- clear over a row -/
theorem run_cleark {P : Program} (w : World) (t e ty : TypeId) (z : Value) (ht : P.underlying t = some (.slice e)) (hv : ∀ w, (zeroValue e).run P w = .ok z w) (g o n c : Nat) (hn : 0 < n)
    (cur : List Value) (et : TypeId) (hg : w.heap[g]? = some (.cells cur.toArray et (0, 0))) (cs : List Value) (hcs : (Builtin.zeroCells z.cells n).toList = cs) (hfit : o + cs.length ≤ cur.length) (h1 : ∀ v ∈ cs, v.oneCell' = true) :
    (Builtin.clear_ #[t] ty #[.slice (some ⟨g, o, none⟩) n c]).run P w = .ok (.tuple #[]) (w.setRow g (splice cur o cs).toArray) := by
  have hst := run_storeCells_at P g o et cs 0 cur.toArray w hg (by simpa using hfit) h1
  obtain ⟨m, rfl⟩ : ∃ m, n = m + 1 := ⟨n - 1, by omega⟩
  simp [Builtin.clear_, run_underlying ht, hv, hcs, hst, splice]
theorem info_bk : (Try.prog.info? 178).map (fun i => (i.zero, i.size, i.bytes)) = some (some (.agg #[.int .u32 0, .int .u32 0]), 2, 8) := by kernel_rfl
theorem info_bk2 : (Try.prog.info? 178).map (·.size) = some 2 := by kernel_rfl
theorem zero_bk (w : World) : (zeroValue 178).run Try.prog w = .ok (.agg #[.int .u32 0, .int .u32 0]) w := by kernel_rfl
theorem bk_parts : ∃ i, Try.prog.info? 178 = some i ∧ i.zero = some (.agg #[.int .u32 0, .int .u32 0]) ∧ i.size = 2 ∧ i.bytes = 8 := by
  have h := info_bk
  cases hq : Try.prog.info? 178 with
  | none => rw [hq] at h; simp at h
  | some i => rw [hq] at h; simp at h; exact ⟨i, rfl, h.1, h.2.1, h.2.2⟩
end Go.Proofs.Ytpgppdkbkkljnaa
namespace Go.Proofs.Ytpgppdkbkkljnaa
open Go.RowKit
set_option maxHeartbeats 1000000
set_option maxRecDepth 100000
set_option linter.unusedVariables false

/-- a slice that reads as these blocks -/
def Bks (w : World) (ao : Option Addr) (n c : Nat) (bs : List Bk) : Prop :=
  bs.length = n ∧ n ≤ c ∧ c ≤ maxLen ∧ (ao = none → n = 0 ∧ c = 0) ∧ (0 < n → ∃ b off, ao = some ⟨b, off, none⟩ ∧ ∀ j u, (bksV bs)[j]? = some u → w.cell? ⟨b, off + j, none⟩ = some u)
theorem own_bks {B : Nat} {w : World} {ao : Option Addr} {n c : Nat} {bs : List Bk} (h : w.ownsRow B 178 2 (.slice ao n c) n (bksV bs)) : Bks w ao n c bs := by
  have hl := h.1
  rw [bksV_len] at hl
  have hl' : bs.length = n := by omega
  rcases h.2 with ⟨h1, h2⟩ | ⟨g, cap, cur, h1, h2, h3, h4, h5, h6, h7⟩
  · cases h1
    exact ⟨hl', Nat.le_refl _, by decide, fun _ => ⟨rfl, rfl⟩, fun h0 => absurd h0 (by omega)⟩
  · cases h1
    refine ⟨hl', h4, h5, fun h0 => (by cases h0), fun h0 => ⟨g, 0, rfl, fun j u hj => ?_⟩⟩
    have := h.cells (g := g) rfl j u hj
    simpa [Addr.add_lit] using this
theorem Bks.later {w w' : World} {ao : Option Addr} {n c : Nat} {bs : List Bk} (h : Bks w ao n c bs) (hb : ∀ b off u, ao = some ⟨b, off, none⟩ → ∀ j, w.cell? ⟨b, j, none⟩ = some u → w'.cell? ⟨b, j, none⟩ = some u) : Bks w' ao n c bs := by
  obtain ⟨h1, h2, h3, h4, h5⟩ := h
  refine ⟨h1, h2, h3, h4, fun h0 => ?_⟩
  obtain ⟨b, off, rfl, hc⟩ := h5 h0
  exact ⟨b, off, rfl, fun j u hj => hb b off u rfl _ (hc j u hj)⟩
theorem Bks.below {w w' : World} {ao : Option Addr} {n c : Nat} {bs : List Bk} (h : Bks w ao n c bs) (hb : Below w.heap.size w w') : Bks w' ao n c bs := by
  refine h.later fun b off u _ j hj => ?_
  have hlt : b < w.heap.size := block_lt_of_cell hj
  rw [World.cell?_of_block (hb.block b hlt)]; exact hj

/-- an owned row that has cells, opened -/
theorem own_cur {B : Nat} {w : World} {ao : Option Addr} {n c : Nat} {bs : List Bk} (h : w.ownsRow B 178 2 (.slice ao n c) n (bksV bs)) (h0 : 0 < n) :
    ∃ (g : Nat) (cur : List Value), ao = some ⟨g, 0, none⟩ ∧ B ≤ g ∧ w.heap[g]? = some (.cells cur.toArray 178 (0, 0)) ∧ n ≤ c ∧ c ≤ maxLen ∧ cur.length = c * 2 ∧ cur.take (n * 2) = bksV bs ∧ bs.length = n := by
  have hl := h.1
  rw [bksV_len] at hl
  rcases h.2 with ⟨h1, h2⟩ | ⟨g, cap, cur, h1, h2, h3, h4, h5, h6, h7⟩
  · omega
  · cases h1
    exact ⟨g, cur.toList, rfl, h2, by simpa using h3, h4, h5, by simpa using h6, h7, by omega⟩
theorem own_of {B : Nat} {w : World} {g n c : Nat} {bs : List Bk} {cur : List Value} (hB : B ≤ g) (hg : w.heap[g]? = some (.cells cur.toArray 178 (0, 0))) (h1 : n ≤ c) (h2 : c ≤ maxLen) (h3 : cur.length = c * 2) (h4 : cur.take (n * 2) = bksV bs) (h5 : bs.length = n) :
    w.ownsRow B 178 2 (.slice (some ⟨g, 0, none⟩) n c) n (bksV bs) :=
  ⟨by rw [bksV_len, h5], .inr ⟨g, c, cur.toArray, rfl, hB, hg, h1, h2, by simpa using h3, by simpa using h4⟩⟩
/-- append onto an owned row: where the row lies behind it -/
theorem run_append_at {P : Program} {w : World} (base : Nat) (t ty e : TypeId) (i : TypeInfo) (z : Value) (size bytes : Nat) (ht : P.underlying t = some (.slice e)) (hi : P.info? e = some i) (hz : i.zero = some z)
    (hsize : i.size = size) (hby : i.bytes = bytes) (hzs : z.cells.size = size) (hsz : 0 < size)
    (v : Value) (n : Nat) (xs : List Value) (hown : w.ownsRow base e size v n xs)
    (a : Addr) (m c : Nat) (news : List Value) (hl : news.length = m * size) (hnews : ∀ j u, news[j]? = some u → w.cell? (a.add j) = some u) (h1 : ∀ u ∈ news, u.oneCell' = true)
    (h63 : n + m ≤ maxLen) (hbytes : (n + m) * bytes ≤ 140737488355328) (hbase : base ≤ w.heap.size) (hm : 0 < m) :
    ∃ v' w', (Builtin.append_ #[t, t] ty #[v, .slice (some a) m c]).run P w = .ok v' w' ∧ w'.ownsRow base e size v' (n + m) (xs ++ news) ∧ w.grownBy w' v.ownBlock ∧ (∀ k, v'.ownBlock = some k → v.ownBlock = some k ∨ w.heap.size ≤ k) := by
  obtain ⟨v', w', hr, h2, h3, _⟩ := run_append_own (P := P) w base t ty e i z size bytes ht hi hz hsize hby hzs hsz v n xs hown a m c news hl hnews h1 h63 hbytes hbase
  refine ⟨v', w', hr, h2, h3, ?_⟩
  subst hsize
  subst hby
  have hsmall : n + m ≤ 9223372036854775807 := by simp only [maxLen] at h63; omega
  rcases hown.2 with ⟨rfl, rfl⟩ | ⟨g, cap, cur, rfl, hbg, hg, hnc, hcm, hcs, htake⟩
  · have hx : xs = [] := List.eq_nil_of_length_eq_zero (by simpa using hown.1)
    subst hx
    have hr2 := run_append_nil (P := P) w t ty e i z ht hi hz a m c news hl hnews (by omega) (by omega) (by have hb := hbytes; simp only [Nat.zero_add] at hb; omega)
    rw [hr] at hr2
    simp only [Result.ok.injEq] at hr2
    rw [hr2.1]
    intro k hk
    simp only [Value.ownBlock, Option.some.injEq] at hk
    exact .inr (by omega)
  · by_cases hroom : n + m ≤ cap
    · have hfit : n * i.size + news.length ≤ cur.size := by rw [hl, hcs, ← Nat.add_mul]; exact Nat.mul_le_mul_right _ hroom
      have hr2 := run_append_room (P := P) w t ty e i ht hi g n cap cur hg a m c news hl hnews h1 hroom hfit
      rw [hr] at hr2
      simp only [Result.ok.injEq] at hr2
      rw [hr2.1]
      intro k hk
      exact .inl hk
    · have holds : ∀ j u, xs[j]? = some u → w.cell? ((⟨g, 0, none⟩ : Addr).add j) = some u := hown.cells (g := g) rfl
      have hr2 := run_append_grow (P := P) w t ty e i z ht hi hz ⟨g, 0, none⟩ n cap xs hown.1 holds a m c news hl hnews (by omega) (by omega) (growslice_fits (by omega) hbytes)
      rw [hr] at hr2
      simp only [Result.ok.injEq] at hr2
      rw [hr2.1]
      intro k hk
      simp only [Value.ownBlock, Option.some.injEq] at hk
      exact .inr (by omega)
theorem wpList_append_at {P : Program} {w : World} {ops : Array Oper} {rest : List Oper} {o : Oper} {a : Act} {Q : Exit → Act → World → Prop} (hgd : o.guard = none) (s x : Operand) (t : TypeId)
    (ho : o.op = .call { callee := .builtin .append, args := #[s, x], argTypes := #[t, t] })
    (base : Nat) (e : TypeId) (i : TypeInfo) (z : Value) (size bytes : Nat) (ht : P.underlying t = some (.slice e)) (hi : P.info? e = some i) (hz : i.zero = some z)
    (hsize : i.size = size) (hby : i.bytes = bytes) (hzs : z.cells.size = size) (hsz : 0 < size)
    (v : Value) (n : Nat) (xs : List Value) (hs : a.eval s = v) (hown : w.ownsRow base e size v n xs)
    (ad : Addr) (m c : Nat) (news : List Value) (hx : a.eval x = .slice (some ad) m c) (hl : news.length = m * size) (hnews : ∀ j u, news[j]? = some u → w.cell? (ad.add j) = some u) (h1 : ∀ u ∈ news, u.oneCell' = true)
    (h63 : n + m ≤ maxLen) (hbytes : (n + m) * bytes ≤ 140737488355328) (hbase : base ≤ w.heap.size) (hm : 0 < m)
    (h : ∀ v' w', w'.ownsRow base e size v' (n + m) (xs ++ news) → w.grownBy w' v.ownBlock → Hid (∀ k, v'.ownBlock = some k → v.ownBlock = some k ∨ w.heap.size ≤ k) → wpList P ops Q rest (a.put o.dst v') w') : wpList P ops Q (o :: rest) a w := by
  refine wpList_plain hgd fun K hK => ?_
  obtain ⟨v', w', hr, h2, h3, h4⟩ := run_append_at (P := P) (w := w) base t o.type e i z size bytes ht hi hz hsize hby hzs hsz v n xs hown ad m c news hl hnews h1 h63 hbytes hbase hm
  unfold Oper.wp execOp
  simp only [ho, resolve, invoke, builtin, Sem.run_bind, Sem.run_pure, Result.andThen_ok, List.map_toArray, List.map_cons, List.map_nil, hs, hx, hr]
  exact hK _ _ (h v' w' h2 h3 h4)
end Go.Proofs.Ytpgppdkbkkljnaa
namespace Go.Proofs.Ytpgppdkbkkljnaa
open Go.RowKit
set_option maxHeartbeats 1000000
set_option maxRecDepth 100000
set_option linter.unusedVariables false

theorem src_vb {w : World} {vb : Nat} {b : Bk} (hv : w.heap[vb]? = some (.cells #[.int .u32 b.a, .int .u32 b.l] 178 (0, 0))) : ∀ j u, (bkV b)[j]? = some u → w.cell? ((⟨vb, 0, none⟩ : Addr).add j) = some u := by
  intro j u hj
  rw [Addr.add_lit]
  simp only [World.cell?, hv, Nat.zero_add]
  simpa [bkV] using hj
theorem bkV_one (b : Bk) : ∀ u ∈ bkV b, u.oneCell' = true := by intro u hu; simp [bkV] at hu; rcases hu with rfl | rfl <;> rfl
theorem src_row {w : World} {g n i : Nat} {bs : List Bk} {cur : List Value} (hg : w.heap[g]? = some (.cells cur.toArray 178 (0, 0))) (htk : cur.take (n * 2) = bksV bs) : ∀ j u, (bksV (bs.drop i))[j]? = some u → w.cell? ((⟨g, i * 2, none⟩ : Addr).add j) = some u := by
  intro j u hj
  rw [Addr.add_lit]
  rw [← bksV_drop, List.getElem?_drop, ← htk, List.getElem?_take] at hj
  split at hj
  · simp only [World.cell?, hg]; simpa using hj
  · cases hj
theorem splice_two (cur X V : List Value) (p : Nat) (hV : V.length = 2) (hl : p + 2 + X.length ≤ cur.length) :
    splice (splice cur (p + 2) X) p V = cur.take p ++ (V ++ (X ++ cur.drop (p + 2 + X.length))) := by
  unfold splice
  rw [hV]
  have e1 : (cur.take (p + 2)).length = p + 2 := by rw [List.length_take]; omega
  have e2 : (cur.take (p + 2) ++ (X ++ cur.drop (p + 2 + X.length))).take p = cur.take p := by
    rw [List.take_append_of_le_length (by omega), List.take_take]; congr 1; omega
  have e3 : (cur.take (p + 2) ++ (X ++ cur.drop (p + 2 + X.length))).drop (p + 2) = X ++ cur.drop (p + 2 + X.length) := by
    rw [List.drop_append_of_le_length (by omega), List.drop_of_length_le (by omega), List.nil_append]
  rw [e2, e3]
theorem take_ins (cur X V R : List Value) (p : Nat) (hV : V.length = 2) (hp : p ≤ cur.length) : (cur.take p ++ (V ++ (X ++ R))).take (p + 2 + X.length) = cur.take p ++ (V ++ X) := by
  rw [← List.append_assoc V X R, ← List.append_assoc, List.take_append_of_le_length (by simp; omega), List.take_of_length_le (by simp; omega)]
theorem splice_two' (R X V : List Value) (p : Nat) (hV : V.length = 2) (hl : p + 2 + X.length ≤ R.length) :
    splice (splice R p V) (p + 2) X = R.take p ++ (V ++ (X ++ R.drop (p + 2 + X.length))) := by
  unfold splice
  rw [hV]
  have e1 : (R.take p).length = p := by rw [List.length_take]; omega
  have e2 : (R.take p ++ (V ++ R.drop (p + 2))).take (p + 2) = R.take p ++ V := by
    rw [← List.append_assoc, List.take_append_of_le_length (by simp; omega), List.take_of_length_le (by simp; omega)]
  have e3 : (R.take p ++ (V ++ R.drop (p + 2))).drop (p + 2 + X.length) = R.drop (p + 2 + X.length) := by
    rw [← List.append_assoc, List.drop_append, List.drop_of_length_le (by simp; omega), List.nil_append, List.drop_drop]
    congr 1; simp; omega
  rw [e2, e3, List.append_assoc]
end Go.Proofs.Ytpgppdkbkkljnaa
namespace Go.Proofs.Ytpgppdkbkkljnaa
open Go.RowKit
set_option maxHeartbeats 1000000
set_option maxRecDepth 100000
set_option linter.unusedVariables false

theorem take_splice (L cs : List Value) (off k : Nat) (h : k ≤ off) (h2 : off ≤ L.length) : (splice L off cs).take k = L.take k := by
  unfold splice
  rw [List.take_append_of_le_length (by rw [List.length_take]; omega), List.take_take]
  congr 1; omega
end Go.Proofs.Ytpgppdkbkkljnaa
namespace Go.Proofs.Ytpgppdkbkkljnaa
open Go.RowKit
set_option maxHeartbeats 1000000
set_option maxRecDepth 100000
set_option linter.unusedVariables false

/-- what a heap holds -/
structure Hs where
  most : Nat
  start : Nat
  en : Nat
  bs : List Bk
/-- a heap in memory of the call's own: its four fields, and the row of its blocks -/
def HpAt (B : Nat) (w : World) (h : Nat) (v : Value) (s : Hs) : Prop :=
  B ≤ h ∧ w.heap[h]? = some (.cells #[.int .u32 s.most, .int .u32 s.start, .int .u32 s.en, v] 136 (0, 0)) ∧ w.ownsRow B 178 2 v s.bs.length (bksV s.bs)
/-- what a call on a heap leaves alone -/
structure Fr (w w' : World) (h : Nat) (v v' : Value) : Prop where
  os : w'.os = w.os
  tape : w'.tape = w.tape
  output : w'.output = w.output
  size : w.heap.size ≤ w'.heap.size
  block : ∀ k, k < w.heap.size → k ≠ h → v.ownBlock ≠ some k → w'.heap[k]? = w.heap[k]?
  row : ∀ k, v'.ownBlock = some k → v.ownBlock = some k ∨ w.heap.size ≤ k
theorem Fr.same (w w' : World) (h : Nat) (v : Value) (hb : Below w.heap.size w w') : Fr w w' h v v := ⟨hb.os, hb.tape, hb.output, hb.size, fun k hk _ _ => hb.block k hk, fun k hk => .inl hk⟩
theorem Fr.below {B : Nat} {w w' : World} {h : Nat} {v v' : Value} {s : Hs} (hp : HpAt B w h v s) (hB : B ≤ w.heap.size) (f : Fr w w' h v v') : Below B w w' :=
  ⟨f.os, f.tape, f.output, f.size, fun k hk => f.block k (by omega) (by have := hp.1; omega) (fun e => by have := (hp.2.2.lt k e).1; omega)⟩
theorem own_slice2 {B : Nat} {w : World} {v : Value} {n : Nat} {xs : List Value} (h : w.ownsRow B 178 2 v n xs) : ∃ ao c, v = .slice ao n c := by
  rcases h.2 with ⟨h1, h2⟩ | ⟨g, cap, cur, h1, _⟩
  · exact ⟨none, 0, by rw [h1, h2]⟩
  · exact ⟨_, _, h1⟩
theorem HpAt.ne {B : Nat} {w : World} {h : Nat} {v : Value} {s : Hs} (hp : HpAt B w h v s) : v.ownBlock ≠ some h := by
  intro e
  rcases hp.2.2.2 with ⟨h1, _⟩ | ⟨g, cap, cur, h1, h2, h3, _⟩
  · rw [h1] at e; cases e
  · rw [h1] at e
    simp only [Value.ownBlock, Option.some.injEq] at e
    subst e
    rw [hp.2.1] at h3
    simp at h3
theorem own_ne_hp {B : Nat} {w : World} {u : Value} {n h : Nat} {xs : List Value} {cs : Array Value} (ho : w.ownsRow B 178 2 u n xs) (hh : w.heap[h]? = some (.cells cs 136 (0, 0))) : u.ownBlock ≠ some h := by
  intro e
  rcases ho.2 with ⟨h1, _⟩ | ⟨g, cap, cur, h1, h2, h3, _⟩
  · rw [h1] at e; cases e
  · rw [h1] at e
    simp only [Value.ownBlock, Option.some.injEq] at e
    subst e
    rw [hh] at h3
    simp at h3
/-- a row of blocks that is not the heap's stays as it is -/
theorem Fr.own {B B' : Nat} {w w' : World} {h : Nat} {v v' u : Value} {s : Hs} {n : Nat} {xs : List Value} (hp : HpAt B w h v s) (f : Fr w w' h v v') (ho : w.ownsRow B' 178 2 u n xs) (hne : ∀ k, u.ownBlock = some k → v.ownBlock ≠ some k) :
    w'.ownsRow B' 178 2 u n xs := by
  refine ⟨ho.1, ?_⟩
  rcases ho.2 with hn | ⟨g, cap, cur, h1, h2, h3, h4⟩
  · exact .inl hn
  · refine .inr ⟨g, cap, cur, h1, h2, ?_, h4⟩
    have e : u.ownBlock = some g := by rw [h1]; rfl
    rw [f.block g (Array.getElem?_eq_some_iff.1 h3).1 (fun e2 => own_ne_hp ho hp.2.1 (by rw [e, e2])) (hne g e)]
    exact h3
/-- another heap stays as it is -/
theorem Fr.other {B : Nat} {w w' : World} {h h2 : Nat} {v v' v2 : Value} {s s2 : Hs} (hp : HpAt B w h v s) (f : Fr w w' h v v') (hq : HpAt B w h2 v2 s2) (hh : h2 ≠ h) (hne : ∀ k, v2.ownBlock = some k → v.ownBlock ≠ some k) : HpAt B w' h2 v2 s2 :=
  ⟨hq.1, by rw [f.block h2 (Array.getElem?_eq_some_iff.1 hq.2.1).1 hh (fun e => own_ne_hp hp.2.2 hq.2.1 e)]; exact hq.2.1, f.own hp hq.2.2 hne⟩
theorem HpAt.later {B : Nat} {w w' : World} {h : Nat} {v : Value} {s : Hs} (hp : HpAt B w h v s) (hb : Below w.heap.size w w') : HpAt B w' h v s := by
  refine ⟨hp.1, by rw [hb.block h (Array.getElem?_eq_some_iff.1 hp.2.1).1]; exact hp.2.1, ?_⟩
  exact hp.2.2.kept (row := none) ⟨hb.os, hb.tape, hb.output, hb.size, fun k hk _ => hb.block k hk⟩ (by cases h : v.ownBlock <;> simp)
theorem HpAt.cells {B : Nat} {w : World} {h : Nat} {v : Value} {s : Hs} (hp : HpAt B w h v s) : w.cell? ⟨h, 0, none⟩ = some (.int .u32 s.most) ∧ w.cell? ⟨h, 1, none⟩ = some (.int .u32 s.start) ∧ w.cell? ⟨h, 2, none⟩ = some (.int .u32 s.en) ∧ w.cell? ⟨h, 3, none⟩ = some v ∧ (∀ j, w.frozen? ⟨h, j, none⟩ = false) := by
  have hh := hp.2.1
  refine ⟨by simp [World.cell?, hh], by simp [World.cell?, hh], by simp [World.cell?, hh], by simp [World.cell?, hh], fun j => by simp [World.frozen?, hh]⟩

theorem cellLater8 {w wx : World} {a : Addr} {v : Value} (hb : Below w.heap.size w wx) (h : w.cell? a = some v) : wx.cell? a = some v := (hb.cell (World.block_lt_of_cell? _ _ h)).trans h
theorem grown_set (w : World) (p : Nat) (u : Value) (o : Obj) : w.grownBy ((w.setCell ⟨p, 0, none⟩ u).alloc o) (some p) :=
  ⟨rfl, rfl, rfl, by simp, fun k hk hne => by
    rw [Go.heap_alloc_old _ _ (by simpa using hk), heap_setCell_other w ⟨p, 0, none⟩ k u (fun e => hne (by rw [e]))]⟩
/-- the place of the block that begins at x -/
def idxB (x : Nat) : List Bk → Nat
  | [] => 0
  | b :: bs => if b.a = x then 0 else idxB x bs + 1
theorem idxB_at (x : Nat) : ∀ (bs : List Bk) (k : Nat) (h : k < bs.length), (∀ j (hj : j < k), (bs[j]'(by omega)).a ≠ x) → bs[k].a = x → idxB x bs = k
  | [], k, h, _, _ => by simp at h
  | b :: bs, 0, h, _, hx => by simp at hx; simp [idxB, hx]
  | b :: bs, k + 1, h, hn, hx => by
    have h0 : b.a ≠ x := hn 0 (by omega)
    simp only [idxB, if_neg h0]
    rw [idxB_at x bs k (by simpa using h) (fun j hj => hn (j + 1) (by omega)) hx]
theorem idxB_none (x : Nat) : ∀ (bs : List Bk), (∀ j (hj : j < bs.length), bs[j].a ≠ x) → idxB x bs = bs.length
  | [], _ => rfl
  | b :: bs, hn => by
    have h0 : b.a ≠ x := hn 0 (by simp)
    simp only [idxB, if_neg h0, List.length_cons]
    rw [idxB_none x bs (fun j hj => hn (j + 1) (by simpa using hj))]
theorem own_cells {B : Nat} {w : World} {ao : Option Addr} {n c : Nat} {bs : List Bk} (h : w.ownsRow B 178 2 (.slice ao n c) n (bksV bs)) (h0 : 0 < n) : ∃ g, ao = some ⟨g, 0, none⟩ ∧ ∀ i (h : i < bs.length), w.cell? ⟨g, i * 2, none⟩ = some (.int .u32 bs[i].a) ∧ w.cell? ⟨g, i * 2 + 1, none⟩ = some (.int .u32 bs[i].l) := by
  obtain ⟨h1, h2, h3, h4, h5⟩ := own_bks h
  obtain ⟨g, cur, rfl, _⟩ := own_cur h h0
  obtain ⟨b, off, e, hc⟩ := h5 h0
  simp only [Option.some.injEq, Addr.mk.injEq, and_true] at e
  obtain ⟨rfl, rfl⟩ := e
  refine ⟨_, rfl, fun i hi => ?_⟩
  have := bksV_at bs i hi
  exact ⟨by simpa using hc _ _ this.1, by simpa using hc _ _ this.2⟩
end Go.Proofs.Ytpgppdkbkkljnaa
namespace Go.Proofs.Ytpgppdkbkkljnaa
open Go.RowKit
set_option maxHeartbeats 1000000
set_option maxRecDepth 100000
set_option linter.unusedVariables false

/-- the least place from f on at which n bytes touch none of the blocks, and how many blocks lie ahead of it -/
def place (n : Nat) : Nat → List Bk → Nat × Nat
  | f, [] => (0, f)
  | f, b :: bs => if n ≤ b.a - f then (0, f) else ((place n (b.a + b.l) bs).1 + 1, (place n (b.a + b.l) bs).2)
/-- blocks that rise from f on, touch one another nowhere and end at e at most -/
def Chain (e : Nat) : Nat → List Bk → Prop
  | f, [] => f ≤ e
  | f, b :: bs => 0 < b.l ∧ f ≤ b.a ∧ Chain e (b.a + b.l) bs
theorem Chain.le {e : Nat} : ∀ {f : Nat} {bs : List Bk}, Chain e f bs → f ≤ e
  | f, [], h => h
  | f, b :: bs, h => by have := Chain.le h.2.2; have := h.2.1; omega
theorem place_le (n : Nat) : ∀ (f : Nat) (bs : List Bk), (place n f bs).1 ≤ bs.length
  | f, [] => by simp [place]
  | f, b :: bs => by
    unfold place
    split
    · simp
    · have := place_le n (b.a + b.l) bs; simp; omega
theorem place_end (n e : Nat) : ∀ (f : Nat) (bs : List Bk), Chain e f bs → f ≤ (place n f bs).2 ∧ (place n f bs).2 ≤ e
  | f, [], h => ⟨Nat.le_refl _, h⟩
  | f, b :: bs, h => by
    unfold place
    split
    · exact ⟨Nat.le_refl _, Chain.le h⟩
    · have h1 := place_end n e (b.a + b.l) bs h.2.2; have h2 := h.2.1; exact ⟨by simp only; omega, h1.2⟩
theorem own_ne_u32 {B : Nat} {w : World} {u : Value} {n p : Nat} {xs : List Value} {cs : Array Value} (ho : w.ownsRow B 178 2 u n xs) (hh : w.heap[p]? = some (.cells cs 26 (0, 0))) : u.ownBlock ≠ some p := by
  intro e
  rcases ho.2 with ⟨h1, _⟩ | ⟨g, cap, cur, h1, h2, h3, _⟩
  · rw [h1] at e; cases e
  · rw [h1] at e
    simp only [Value.ownBlock, Option.some.injEq] at e
    subst e
    rw [hh] at h3
    simp at h3
end Go.Proofs.Ytpgppdkbkkljnaa
namespace Go.Proofs.Ytpgppdkbkkljnaa
open Go.RowKit
set_option maxHeartbeats 1000000
set_option maxRecDepth 100000
set_option linter.unusedVariables false

theorem new_any (m : Nat) (w : World) : Calls Try.prog 60 #[.int .u32 m] w fun e w' => e = .returned (.pointer (some ⟨w.heap.size, 0, none⟩)) ∧ HpAt w.heap.size w' w.heap.size (.slice none 0 0) ⟨m, 0, 0, []⟩ ∧ Below w.heap.size w w' := by
  go_enter Try.func60, Try.ntmps60
  go_wp2
  go_ret
  refine ⟨rfl, ⟨Nat.le_refl _, heap_alloc_new w _, World.ownsRow_nil _ _ _ _⟩, (Below.refl _ _).alloc (Nat.le_refl _) _⟩
def begR (m x : Nat) : Bool := decide (x ≠ 0) && decide (x % 256 = 0) && decide (x ≤ m)
/-- the least multiple of a page that is not below x -/
def up (x : Nat) : Nat := (x + 255) / 256 * 256
end Go.Proofs.Ytpgppdkbkkljnaa
namespace Go.Proofs.Ytpgppdkbkkljnaa
open Go.RowKit
set_option maxHeartbeats 1000000
set_option maxRecDepth 100000
set_option linter.unusedVariables false

theorem set_fld {w : World} {h : Nat} {cs : Array Value} (hh : w.heap[h]? = some (.cells cs 136 (0, 0))) (i : Nat) (u : Value) : (w.setCell ⟨h, i, none⟩ u).heap[h]? = some (.cells (cs.setIfInBounds i u) 136 (0, 0)) := by
  have := setCell_eq_setRow w h i cs 136 (0, 0) u hh
  rw [this]
  exact setRow_heap w h cs _ _ _ hh
theorem hp_set2 {B : Nat} {w : World} {h : Nat} {v : Value} {s : Hs} (hp : HpAt B w h v s) (x y : Nat) : HpAt B ((w.setCell ⟨h, 1, none⟩ (.int .u32 x)).setCell ⟨h, 2, none⟩ (.int .u32 y)) h v ⟨s.most, x, y, s.bs⟩ := by
  have h1 := set_fld hp.2.1 1 (.int .u32 x)
  have h2 := set_fld h1 2 (.int .u32 y)
  refine ⟨hp.1, ?_, ?_⟩
  · rw [h2]; simp
  · exact ownsRow_setCell_other (ownsRow_setCell_other hp.2.2 (by simpa using hp.ne) _) (by simpa using hp.ne) _
theorem hp_set3 {B : Nat} {w : World} {h : Nat} {v v' : Value} {m x y : Nat} {bs' : List Bk} (hB : B ≤ h) (hh : w.heap[h]? = some (.cells #[.int .u32 m, .int .u32 x, .int .u32 y, v] 136 (0, 0))) (ho : w.ownsRow B 178 2 v' bs'.length (bksV bs')) : HpAt B (w.setCell ⟨h, 3, none⟩ v') h v' ⟨m, x, y, bs'⟩ := by
  refine ⟨hB, ?_, ?_⟩
  · rw [set_fld hh 3 v']; simp
  · exact ownsRow_setCell_other ho (by simpa using own_ne_hp ho hh) _
theorem fr_set {w w' : World} {h : Nat} {v v' : Value} (f : Fr w w' h v v') (i : Nat) (u : Value) : Fr w (w'.setCell ⟨h, i, none⟩ u) h v v' :=
  ⟨f.os, f.tape, f.output, by have := f.size; simpa using this, fun k hk hne hv => by rw [heap_setCell_other _ _ _ _ (by simpa using hne)]; exact f.block k hk hne hv, f.row⟩
theorem Fr.trans {w w1 w2 : World} {h : Nat} {v v1 v2 : Value} (f : Fr w w1 h v v1) (g : Fr w1 w2 h v1 v2) : Fr w w2 h v v2 :=
  ⟨g.os.trans f.os, g.tape.trans f.tape, g.output.trans f.output, Nat.le_trans f.size g.size, fun k hk hne hv => by
    rw [g.block k (by have := f.size; omega) hne (fun e => by rcases f.row k e with h' | h'; · exact hv h'
                                                              · omega), f.block k hk hne hv],
   fun k hk => by
    rcases g.row k hk with h' | h'
    · exact f.row k h'
    · exact .inr (by have := f.size; omega)⟩
theorem fr_grown {w w' : World} {h : Nat} {v v' : Value} (g : w.grownBy w' v.ownBlock) (hr : ∀ k, v'.ownBlock = some k → v.ownBlock = some k ∨ w.heap.size ≤ k) : Fr w w' h v v' :=
  ⟨g.os, g.tape, g.output, g.size, fun k hk _ hv => g.block k hk (fun e => hv e.symm), hr⟩
/-- a heap whose blocks are in order, between its start and its end -/
structure OkS (s : Hs) : Prop where
  most : s.most < 4294967296
  len : s.bs.length ≤ 4096
  nil : s.bs.length = 0 → s.start = 0 ∧ s.en = 0
  some : 0 < s.bs.length → s.start ≠ 0 ∧ s.start % 256 = 0 ∧ s.en % 256 = 0 ∧ s.en ≤ s.most ∧ Chain s.en s.start s.bs
def stR (s : Hs) (x : Nat) : Nat := if s.bs.length = 0 then x else s.start
def enR (s : Hs) (x : Nat) : Nat := if s.bs.length = 0 then x else s.en
def insB (s : Hs) (n x : Nat) : List Bk := s.bs.take (place n (stR s x) s.bs).1 ++ ⟨(place n (stR s x) s.bs).2, n⟩ :: s.bs.drop (place n (stR s x) s.bs).1
/-- what Malloc does: the address and the heap behind it, or none -/
def mallocR (s : Hs) (n x : Nat) : Option (Nat × Hs) :=
  if n = 0 ∨ 4096 ≤ s.bs.length then none
  else if s.bs.length = 0 ∧ begR s.most x = false then none
  else if (place n (stR s x) s.bs).2 + n ≤ enR s x then some ((place n (stR s x) s.bs).2, ⟨s.most, stR s x, enR s x, insB s n x⟩)
  else if s.most < up ((place n (stR s x) s.bs).2 + n) then none
  else some ((place n (stR s x) s.bs).2, ⟨s.most, stR s x, up ((place n (stR s x) s.bs).2 + n), insB s n x⟩)
def mallocA (s : Hs) (n x : Nat) : Nat := match mallocR s n x with | none => 0 | some r => r.1
def mallocB (s : Hs) (n x : Nat) : Bool := (mallocR s n x).isSome
def mallocS (s : Hs) (n x : Nat) : Hs := match mallocR s n x with | none => s | some r => r.2
/-- what Free does -/
def freeE (s : Hs) (x : Nat) : Nat := if idxB x s.bs = s.bs.length then 5 else 0
def freeS (s : Hs) (x : Nat) : Hs :=
  if idxB x s.bs = s.bs.length then s
  else if s.bs.length = 1 then ⟨s.most, 0, 0, s.bs.take (idxB x s.bs) ++ s.bs.drop (idxB x s.bs + 1)⟩
  else ⟨s.most, s.start, s.en, s.bs.take (idxB x s.bs) ++ s.bs.drop (idxB x s.bs + 1)⟩
end Go.Proofs.Ytpgppdkbkkljnaa
namespace Go.Proofs.Ytpgppdkbkkljnaa
open Go.RowKit
set_option maxHeartbeats 1000000
set_option maxRecDepth 100000
set_option linter.unusedVariables false

/-- the heap behind a call, and what the call leaves alone -/
def Left (B : Nat) (w w' : World) (h : Nat) (v : Value) (s : Hs) : Prop := ∃ v', HpAt B w' h v' s ∧ Fr w w' h v v'
end Go.Proofs.Ytpgppdkbkkljnaa
namespace Go.Proofs.Ytpgppdkbkkljnaa
open Go.RowKit
set_option maxHeartbeats 1000000
set_option maxRecDepth 100000
set_option linter.unusedVariables false

theorem Left.same {B : Nat} {w w' : World} {h : Nat} {v : Value} {s : Hs} (hp : HpAt B w h v s) (hb : Below w.heap.size w w') : Left B w w' h v s := ⟨v, hp.later hb, Fr.same w w' h v hb⟩
theorem idxB_le (x : Nat) : ∀ bs : List Bk, idxB x bs ≤ bs.length
  | [] => by simp [idxB]
  | b :: bs => by
    unfold idxB
    split
    · omega
    · have := idxB_le x bs; simp; omega
theorem begR_true {m x : Nat} (h : begR m x = true) : x ≠ 0 ∧ x % 256 = 0 ∧ x ≤ m := by
  simp [begR] at h
  exact ⟨h.1.1, h.1.2, h.2⟩
end Go.Proofs.Ytpgppdkbkkljnaa
namespace Go.Proofs.Ytpgppdkbkkljnaa
open Go.RowKit
set_option maxHeartbeats 1000000
set_option maxRecDepth 100000
set_option linter.unusedVariables false

/-- do the blocks rise from f on, apart, and end at y at most? -/
def chainB (y : Nat) : Nat → List Bk → Bool
  | f, [] => decide (f ≤ y)
  | f, b :: bs => decide (0 < b.l) && decide (f ≤ b.a) && chainB y (b.a + b.l) bs
theorem chainB_iff (y : Nat) : ∀ (f : Nat) (bs : List Bk), chainB y f bs = true ↔ Chain y f bs
  | f, [] => by simp [chainB, Chain]
  | f, b :: bs => by simp [chainB, Chain, chainB_iff y _ bs, and_assoc]
theorem chainB_le {y f : Nat} {bs : List Bk} (h : y < f) : chainB y f bs = false := by
  cases hc : chainB y f bs with
  | false => rfl
  | true => have := ((chainB_iff y f bs).1 hc).le; omega
/-- can a heap have these bounds and blocks? -/
def mayR (m x y : Nat) (bs : List Bk) : Bool :=
  if bs.length = 0 then decide (x = 0) && decide (y = 0)
  else decide (x ≠ 0) && decide (x % 256 = 0) && decide (y % 256 = 0) && decide (y ≤ m) && chainB y x bs
/-- all numbers of the blocks are words -/
def FitB (bs : List Bk) : Prop := ∀ b ∈ bs, b.a < 4294967296 ∧ b.l < 4294967296
end Go.Proofs.Ytpgppdkbkkljnaa
namespace Go.Proofs.Ytpgppdkbkkljnaa
open Go.RowKit
set_option maxHeartbeats 1000000
set_option maxRecDepth 100000
set_option linter.unusedVariables false

theorem bks_cells {w : World} {ao : Option Addr} {n c : Nat} {bs : List Bk} (h : Bks w ao n c bs) (h0 : 0 < n) : ∃ g off, ao = some ⟨g, off, none⟩ ∧ ∀ i (h : i < bs.length), w.cell? ⟨g, off + i * 2, none⟩ = some (.int .u32 bs[i].a) ∧ w.cell? ⟨g, off + i * 2 + 1, none⟩ = some (.int .u32 bs[i].l) := by
  obtain ⟨h1, h2, h3, h4, h5⟩ := h
  obtain ⟨b, off, rfl, hc⟩ := h5 h0
  refine ⟨b, off, rfl, fun i hi => ?_⟩
  have := bksV_at bs i hi
  exact ⟨hc _ _ this.1, by simpa [Nat.add_assoc] using hc _ _ this.2⟩
def loadE (s : Hs) (x y : Nat) (bs : List Bk) : Nat := if 4096 < bs.length then 4 else if mayR s.most x y bs then 0 else 1
def loadS (s : Hs) (x y : Nat) (bs : List Bk) : Hs := if 4096 < bs.length then s else if mayR s.most x y bs then ⟨s.most, x, y, bs⟩ else s
end Go.Proofs.Ytpgppdkbkkljnaa
namespace Go.Proofs.Ytpgppdkbkkljnaa
open Go.RowKit
set_option maxHeartbeats 1000000
set_option maxRecDepth 100000
set_option linter.unusedVariables false

theorem Chain.mono {e e' : Nat} (h : e ≤ e') : ∀ {f : Nat} {bs : List Bk}, Chain e f bs → Chain e' f bs
  | f, [], hc => Nat.le_trans hc h
  | f, b :: bs, hc => ⟨hc.1, hc.2.1, Chain.mono h hc.2.2⟩
theorem Chain.from {e : Nat} : ∀ {f f' : Nat} {bs : List Bk}, f' ≤ f → Chain e f bs → Chain e f' bs
  | f, f', [], h, hc => Nat.le_trans h hc
  | f, f', b :: bs, h, hc => ⟨hc.1, Nat.le_trans h hc.2.1, hc.2.2⟩
theorem chain_ins {e e' n : Nat} (hn : 0 < n) (hee : e ≤ e') : ∀ {f : Nat} {bs : List Bk}, Chain e f bs → (place n f bs).2 + n ≤ e' → Chain e' f (bs.take (place n f bs).1 ++ ⟨(place n f bs).2, n⟩ :: bs.drop (place n f bs).1)
  | f, [], hc, ha => ⟨hn, Nat.le_refl _, ha⟩
  | f, b :: bs, hc, ha => by
    unfold place at ha ⊢
    split
    · rename_i h
      rw [if_pos h] at ha
      have h1 := hc.2.1
      exact ⟨hn, Nat.le_refl _, hc.1, (by show f + n ≤ b.a; omega), Chain.mono hee hc.2.2⟩
    · rename_i h
      rw [if_neg h] at ha
      exact ⟨hc.1, hc.2.1, chain_ins hn hee hc.2.2 ha⟩
theorem chain_del {e : Nat} : ∀ {f : Nat} {bs : List Bk} (i : Nat), Chain e f bs → Chain e f (bs.take i ++ bs.drop (i + 1))
  | f, [], i, hc => by simpa using hc
  | f, b :: bs, 0, hc => by
    simp only [List.take_zero, List.nil_append, Nat.zero_add, List.drop_succ_cons, List.drop_zero]
    exact hc.2.2.from (by have := hc.2.1; omega)
  | f, b :: bs, i + 1, hc => ⟨hc.1, hc.2.1, chain_del i hc.2.2⟩
theorem up_ge (x : Nat) : x ≤ up x := by unfold up; omega
theorem up_mod (x : Nat) : up x % 256 = 0 := by unfold up; omega
theorem insB_len (s : Hs) (n x : Nat) : (insB s n x).length = s.bs.length + 1 := by
  have := place_le n (stR s x) s.bs
  unfold insB
  simp; omega
theorem ok_malloc_to {s s' : Hs} {n x a : Nat} (ok : OkS s) (hr : mallocR s n x = some (a, s')) : OkS s' := by
  unfold mallocR at hr
  split at hr
  · cases hr
  · rename_i c1
    split at hr
    · cases hr
    · rename_i c2
      have hl := insB_len s n x
      have hch : ∃ e, Chain e (stR s x) s.bs ∧ e ≤ enR s x ∧ stR s x ≠ 0 ∧ stR s x % 256 = 0 ∧ enR s x % 256 = 0 ∧ enR s x ≤ s.most := by
        by_cases h0 : s.bs.length = 0
        · have hb : begR s.most x = true := by
            cases hq : begR s.most x with
            | true => rfl
            | false => exact absurd ⟨h0, hq⟩ c2
          obtain ⟨b1, b2, b3⟩ := begR_true hb
          have hbs : s.bs = [] := List.eq_nil_of_length_eq_zero h0
          have e1 : stR s x = x := by simp [stR, h0]
          have e2 : enR s x = x := by simp [enR, h0]
          rw [e1, e2, hbs]
          exact ⟨x, Nat.le_refl _, Nat.le_refl _, b1, b2, b2, b3⟩
        · obtain ⟨o1, o2, o3, o4, o5⟩ := ok.some (by omega)
          have e1 : stR s x = s.start := by simp [stR, h0]
          have e2 : enR s x = s.en := by simp [enR, h0]
          rw [e1, e2]
          exact ⟨s.en, o5, Nat.le_refl _, o1, o2, o3, o4⟩
      obtain ⟨e, h1, h2, h3, h4, h5, h6⟩ := hch
      split at hr
      · rename_i c3
        cases hr
        exact ⟨ok.most, by simp only; omega, fun h => by simp only at h; omega, fun _ => ⟨h3, h4, h5, h6, chain_ins (by omega) h2 h1 c3⟩⟩
      · rename_i c3
        split at hr
        · cases hr
        · rename_i c4
          cases hr
          have hu := up_ge ((place n (stR s x) s.bs).2 + n)
          exact ⟨ok.most, by simp only; omega, fun h => by simp only at h; omega, fun _ => ⟨h3, h4, up_mod _, (by show up _ ≤ s.most; omega), chain_ins (by omega) (by show e ≤ up _; omega) h1 hu⟩⟩
theorem ok_malloc {s : Hs} (n x : Nat) (ok : OkS s) : OkS (mallocS s n x) := by
  unfold mallocS
  cases hr : mallocR s n x with
  | none => exact ok
  | some r => exact ok_malloc_to ok hr
theorem most_malloc (s : Hs) (n x : Nat) : (mallocS s n x).most = s.most := by
  unfold mallocS mallocR
  split
  · rfl
  · rename_i r h
    split at h
    · cases h
    · split at h
      · cases h
      · split at h
        · cases h; rfl
        · split at h
          · cases h
          · cases h; rfl
theorem ok_free {s : Hs} (x : Nat) (ok : OkS s) : OkS (freeS s x) := by
  have hle := idxB_le x s.bs
  have hl := ok.len
  unfold freeS
  split
  · exact ok
  · rename_i c1
    have hd : (s.bs.take (idxB x s.bs) ++ s.bs.drop (idxB x s.bs + 1)).length = s.bs.length - 1 := by simp; omega
    split
    · rename_i c2
      exact ⟨ok.most, by simp only [hd]; omega, fun _ => ⟨rfl, rfl⟩, fun h => by simp only [hd] at h; omega⟩
    · rename_i c2
      obtain ⟨o1, o2, o3, o4, o5⟩ := ok.some (by omega)
      exact ⟨ok.most, by simp only [hd]; omega, fun h => by simp only [hd] at h; omega, fun _ => ⟨o1, o2, o3, o4, chain_del _ o5⟩⟩
theorem most_free (s : Hs) (x : Nat) : (freeS s x).most = s.most := by unfold freeS; split <;> (try split) <;> rfl
theorem ok_load {s : Hs} (x y : Nat) (bs : List Bk) (ok : OkS s) : OkS (loadS s x y bs) := by
  unfold loadS
  split
  · exact ok
  · split
    · rename_i c1 c2
      unfold mayR at c2
      split at c2
      · rename_i c3
        simp at c2
        exact ⟨ok.most, by simp only; omega, fun _ => c2, fun h => by simp only at h; omega⟩
      · rename_i c3
        simp only [Bool.and_eq_true, decide_eq_true_eq] at c2
        obtain ⟨⟨⟨⟨d1, d2⟩, d3⟩, d4⟩, d5⟩ := c2
        exact ⟨ok.most, by simp only; omega, fun h => by simp only at h; omega, fun _ => ⟨d1, d2, d3, d4, (chainB_iff _ _ _).1 d5⟩⟩
    · exact ok
theorem most_load (s : Hs) (x y : Nat) (bs : List Bk) : (loadS s x y bs).most = s.most := by unfold loadS; split <;> (try split) <;> rfl
theorem ok_new {m : Nat} (hm : m < 4294967296) : OkS ⟨m, 0, 0, []⟩ := ⟨hm, by simp, fun _ => ⟨rfl, rfl⟩, fun h => by simp at h⟩
theorem Left.below {B : Nat} {w w' : World} {h : Nat} {v : Value} {s s' : Hs} (hp : HpAt B w h v s) (hB : B ≤ w.heap.size) (l : Left B w w' h v s') : Below B w w' := by
  obtain ⟨v', _, f⟩ := l
  exact f.below hp hB
/-- a heap of the call's own, some calls on: it is there, in this state, and nothing below B has changed -/
def Run (B h : Nat) (w0 w : World) (s : Hs) : Prop := ∃ v, HpAt B w h v s ∧ Below B w0 w ∧ B ≤ w.heap.size
theorem Run.next {B h : Nat} {w0 w w' : World} {v : Value} {s s' : Hs} (hp : HpAt B w h v s) (hb : Below B w0 w) (hB : B ≤ w.heap.size) (l : Left B w w' h v s') : Run B h w0 w' s' := by
  obtain ⟨v', hp', f⟩ := l
  exact ⟨v', hp', hb.trans (f.below hp hB), Nat.le_trans hB f.size⟩
theorem Run.later {B h : Nat} {w0 w w' : World} {s : Hs} (r : Run B h w0 w s) (hb' : Below w.heap.size w w') : Run B h w0 w' s := by
  obtain ⟨v, hp, hb, hB⟩ := r
  exact ⟨v, hp.later hb', hb.trans (hb'.mono hB), Nat.le_trans hB hb'.size⟩
theorem Run.new (m : Nat) (w0 w : World) (B : Nat) (hb : Below B w0 w) (hB : B ≤ w.heap.size) : Calls Try.prog 60 #[.int .u32 m] w fun e w' => e = .returned (.pointer (some ⟨w.heap.size, 0, none⟩)) ∧ Run B w.heap.size w0 w' ⟨m, 0, 0, []⟩ :=
  (new_any m w).mono (fun e w' hh => ⟨hh.1, _, ⟨hB, hh.2.1.2.1, Joins.ownsRow_le hh.2.1.2.2 hB⟩, hb.trans (hh.2.2.mono hB), Nat.le_trans hB hh.2.2.size⟩)
end Go.Proofs.Ytpgppdkbkkljnaa
