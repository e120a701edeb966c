/- Contracts of slices.Clone, slices.Insert and slices.Delete over rows of blocks. -/
import Derived.Test.YtmebjbnglndfcaaE8a
namespace Go.Proofs.Ytmebjbnglndfcaa
open Go.RowKit
set_option maxHeartbeats 1000000
set_option maxRecDepth 100000
set_option linter.unusedVariables false

/-- a slice that reads as these blocks -/
def Bks (w : World) (ao : Option Addr) (n c : Nat) (bs : List Bk) : Prop :=
  bs.length = n ∧ n ≤ c ∧ c ≤ maxLen ∧ (ao = none → n = 0 ∧ c = 0) ∧ (0 < n → ∃ b off, ao = some ⟨b, off, none⟩ ∧ ∀ j u, (bksV bs)[j]? = some u → w.cell? ⟨b, off + j, none⟩ = some u)
theorem own_bks {B : Nat} {w : World} {ao : Option Addr} {n c : Nat} {bs : List Bk} (h : w.ownsRow B 99 2 (.slice ao n c) n (bksV bs)) : Bks w ao n c bs := by
  have hl := h.1
  rw [bksV_len] at hl
  have hl' : bs.length = n := by omega
  rcases h.2 with ⟨h1, h2⟩ | ⟨g, cap, cur, h1, h2, h3, h4, h5, h6, h7⟩
  · cases h1
    exact ⟨hl', Nat.le_refl _, by decide, fun _ => ⟨rfl, rfl⟩, fun h0 => absurd h0 (by omega)⟩
  · cases h1
    refine ⟨hl', h4, h5, fun h0 => (by cases h0), fun h0 => ⟨g, 0, rfl, fun j u hj => ?_⟩⟩
    have := h.cells (g := g) rfl j u hj
    simpa [Addr.add_lit] using this
theorem Bks.later {w w' : World} {ao : Option Addr} {n c : Nat} {bs : List Bk} (h : Bks w ao n c bs) (hb : ∀ b off u, ao = some ⟨b, off, none⟩ → ∀ j, w.cell? ⟨b, j, none⟩ = some u → w'.cell? ⟨b, j, none⟩ = some u) : Bks w' ao n c bs := by
  obtain ⟨h1, h2, h3, h4, h5⟩ := h
  refine ⟨h1, h2, h3, h4, fun h0 => ?_⟩
  obtain ⟨b, off, rfl, hc⟩ := h5 h0
  exact ⟨b, off, rfl, fun j u hj => hb b off u rfl _ (hc j u hj)⟩
theorem Bks.below {w w' : World} {ao : Option Addr} {n c : Nat} {bs : List Bk} (h : Bks w ao n c bs) (hb : Below w.heap.size w w') : Bks w' ao n c bs := by
  refine h.later fun b off u _ j hj => ?_
  have hlt : b < w.heap.size := block_lt_of_cell hj
  rw [World.cell?_of_block (hb.block b hlt)]; exact hj

theorem clone_any (ao : Option Addr) (n c : Nat) (bs : List Bk) (w : World) (h : Bks w ao n c bs) (hn : n ≤ 1000000) :
    Calls Try.prog 59 #[.slice ao n c] w fun e w' => ∃ ao' c', e = .returned (.slice ao' n c') ∧ w'.ownsRow w.heap.size 99 2 (.slice ao' n c') n (bksV bs) ∧ Below w.heap.size w w' := by
  obtain ⟨i0, hi, hz0, hz1, hz2⟩ := bk_parts
  obtain ⟨h1, h2, h3, h4, h5⟩ := h
  cases ao with
  | none =>
    obtain ⟨rfl, rfl⟩ := h4 rfl
    obtain rfl : bs = [] := List.eq_nil_of_length_eq_zero h1
    have heq : ∀ w, (binOp .eql 40 (.slice none 0 0) (.slice none 0 0)).run Try.prog w = .ok (.bool true) w := fun w => Lib.run_eql_slice_nil w _ _ none 0 0 0 0 Try.underlying40
    go_enter Try.func59, Try.ntmps59
    go_wp2
    go_ret
    exact ⟨none, 0, rfl, World.ownsRow_nil _ _ _ _, Below.refl _ _⟩
  | some a =>
    have hmade : (w.alloc (.cells #[] 99)).ownsRow w.heap.size 99 2 (.slice (some ⟨w.heap.size, 0, none⟩) 0 0) 0 [] := World.ownsRow_made w #[] 0 (Nat.le_refl _) (Nat.zero_le _) (by simp)
    have hsrc : ∀ j u, (bksV bs)[j]? = some u → (w.alloc (.cells #[] 99)).cell? (a.add j) = some u := by
      intro j u hj
      have hjl := (List.getElem?_eq_some_iff.1 hj).1
      rw [bksV_len] at hjl
      obtain ⟨b, off, e, hc⟩ := h5 (by omega)
      cases e
      rw [Addr.add_lit]
      have := hc j u hj
      rw [World.cell?_alloc_past _ _ _ (block_lt_of_cell this)]
      exact this
    have heq : ∀ w, (binOp .eql 40 (.slice (some a) n c) (.slice none 0 0)).run Try.prog w = .ok (.bool false) w := fun w => Lib.run_eql_slice_nil w _ _ (some a) n c 0 0 Try.underlying40
    have HM := hidden8 hmade
    have HS := hidden8 hsrc
    clear hmade hsrc h5 h4
    go_enter Try.func59, Try.ntmps59
    go_wp2_with (at_builtin; refine wpList_append_own _ rfl _ _ 40 rfl w.heap.size 99 i0 (.agg #[.int .u32 0, .int .u32 0]) 2 8 Try.underlying40 hi hz0 hz1 hz2 rfl (by decide) (.slice (some ⟨w.heap.size, 0, none⟩) 0 0) 0 [] rfl HM.out a n c (bksV bs) rfl (by rw [bksV_len, h1]) HS.out (bksV_one bs) (by unfold maxLen; omega) (by omega) (by simp) ?_; intro v' w' hown' hgrow hnil)
    go_ret
    rw [Nat.zero_add, List.nil_append] at hown'
    have hb : Below w.heap.size w w' := (((Below.refl w.heap.size w).alloc (Nat.le_refl _) _)).grown hgrow (by simp) (fun j hj => by simp [Value.ownBlock] at hj; omega)
    rcases Joins.ownsRow_forms hown' with ⟨rfl, rfl⟩ | ⟨g, cap, rfl⟩
    · exact ⟨_, _, rfl, hown', hb⟩
    · exact ⟨_, _, rfl, hown', hb⟩

/-- an owned row that has cells, opened -/
theorem own_cur {B : Nat} {w : World} {ao : Option Addr} {n c : Nat} {bs : List Bk} (h : w.ownsRow B 99 2 (.slice ao n c) n (bksV bs)) (h0 : 0 < n) :
    ∃ (g : Nat) (cur : List Value), ao = some ⟨g, 0, none⟩ ∧ B ≤ g ∧ w.heap[g]? = some (.cells cur.toArray 99 (0, 0)) ∧ n ≤ c ∧ c ≤ maxLen ∧ cur.length = c * 2 ∧ cur.take (n * 2) = bksV bs ∧ bs.length = n := by
  have hl := h.1
  rw [bksV_len] at hl
  rcases h.2 with ⟨h1, h2⟩ | ⟨g, cap, cur, h1, h2, h3, h4, h5, h6, h7⟩
  · omega
  · cases h1
    exact ⟨g, cur.toList, rfl, h2, by simpa using h3, h4, h5, by simpa using h6, h7, by omega⟩
theorem own_of {B : Nat} {w : World} {g n c : Nat} {bs : List Bk} {cur : List Value} (hB : B ≤ g) (hg : w.heap[g]? = some (.cells cur.toArray 99 (0, 0))) (h1 : n ≤ c) (h2 : c ≤ maxLen) (h3 : cur.length = c * 2) (h4 : cur.take (n * 2) = bksV bs) (h5 : bs.length = n) :
    w.ownsRow B 99 2 (.slice (some ⟨g, 0, none⟩) n c) n (bksV bs) :=
  ⟨by rw [bksV_len, h5], .inr ⟨g, c, cur.toArray, rfl, hB, hg, h1, h2, by simpa using h3, by simpa using h4⟩⟩
/-- append onto an owned row: where the row lies behind it -/
theorem run_append_at {P : Program} {w : World} (base : Nat) (t ty e : TypeId) (i : TypeInfo) (z : Value) (size bytes : Nat) (ht : P.underlying t = some (.slice e)) (hi : P.info? e = some i) (hz : i.zero = some z)
    (hsize : i.size = size) (hby : i.bytes = bytes) (hzs : z.cells.size = size) (hsz : 0 < size)
    (v : Value) (n : Nat) (xs : List Value) (hown : w.ownsRow base e size v n xs)
    (a : Addr) (m c : Nat) (news : List Value) (hl : news.length = m * size) (hnews : ∀ j u, news[j]? = some u → w.cell? (a.add j) = some u) (h1 : ∀ u ∈ news, u.oneCell' = true)
    (h63 : n + m ≤ maxLen) (hbytes : (n + m) * bytes ≤ 140737488355328) (hbase : base ≤ w.heap.size) (hm : 0 < m) :
    ∃ v' w', (Builtin.append_ #[t, t] ty #[v, .slice (some a) m c]).run P w = .ok v' w' ∧ w'.ownsRow base e size v' (n + m) (xs ++ news) ∧ w.grownBy w' v.ownBlock ∧ (∀ k, v'.ownBlock = some k → v.ownBlock = some k ∨ w.heap.size ≤ k) := by
  obtain ⟨v', w', hr, h2, h3, _⟩ := run_append_own (P := P) w base t ty e i z size bytes ht hi hz hsize hby hzs hsz v n xs hown a m c news hl hnews h1 h63 hbytes hbase
  refine ⟨v', w', hr, h2, h3, ?_⟩
  subst hsize
  subst hby
  have hsmall : n + m ≤ 9223372036854775807 := by simp only [maxLen] at h63; omega
  rcases hown.2 with ⟨rfl, rfl⟩ | ⟨g, cap, cur, rfl, hbg, hg, hnc, hcm, hcs, htake⟩
  · have hx : xs = [] := List.eq_nil_of_length_eq_zero (by simpa using hown.1)
    subst hx
    have hr2 := run_append_nil (P := P) w t ty e i z ht hi hz a m c news hl hnews (by omega) (by omega) (by have hb := hbytes; simp only [Nat.zero_add] at hb; omega)
    rw [hr] at hr2
    simp only [Result.ok.injEq] at hr2
    rw [hr2.1]
    intro k hk
    simp only [Value.ownBlock, Option.some.injEq] at hk
    exact .inr (by omega)
  · by_cases hroom : n + m ≤ cap
    · have hfit : n * i.size + news.length ≤ cur.size := by rw [hl, hcs, ← Nat.add_mul]; exact Nat.mul_le_mul_right _ hroom
      have hr2 := run_append_room (P := P) w t ty e i ht hi g n cap cur hg a m c news hl hnews h1 hroom hfit
      rw [hr] at hr2
      simp only [Result.ok.injEq] at hr2
      rw [hr2.1]
      intro k hk
      exact .inl hk
    · have holds : ∀ j u, xs[j]? = some u → w.cell? ((⟨g, 0, none⟩ : Addr).add j) = some u := hown.cells (g := g) rfl
      have hr2 := run_append_grow (P := P) w t ty e i z ht hi hz ⟨g, 0, none⟩ n cap xs hown.1 holds a m c news hl hnews (by omega) (by omega) (growslice_fits (by omega) hbytes)
      rw [hr] at hr2
      simp only [Result.ok.injEq] at hr2
      rw [hr2.1]
      intro k hk
      simp only [Value.ownBlock, Option.some.injEq] at hk
      exact .inr (by omega)
theorem wpList_append_at {P : Program} {w : World} {ops : Array Oper} {rest : List Oper} {o : Oper} {a : Act} {Q : Exit → Act → World → Prop} (hgd : o.guard = none) (s x : Operand) (t : TypeId)
    (ho : o.op = .call { callee := .builtin .append, args := #[s, x], argTypes := #[t, t] })
    (base : Nat) (e : TypeId) (i : TypeInfo) (z : Value) (size bytes : Nat) (ht : P.underlying t = some (.slice e)) (hi : P.info? e = some i) (hz : i.zero = some z)
    (hsize : i.size = size) (hby : i.bytes = bytes) (hzs : z.cells.size = size) (hsz : 0 < size)
    (v : Value) (n : Nat) (xs : List Value) (hs : a.eval s = v) (hown : w.ownsRow base e size v n xs)
    (ad : Addr) (m c : Nat) (news : List Value) (hx : a.eval x = .slice (some ad) m c) (hl : news.length = m * size) (hnews : ∀ j u, news[j]? = some u → w.cell? (ad.add j) = some u) (h1 : ∀ u ∈ news, u.oneCell' = true)
    (h63 : n + m ≤ maxLen) (hbytes : (n + m) * bytes ≤ 140737488355328) (hbase : base ≤ w.heap.size) (hm : 0 < m)
    (h : ∀ v' w', w'.ownsRow base e size v' (n + m) (xs ++ news) → w.grownBy w' v.ownBlock → Hid (∀ k, v'.ownBlock = some k → v.ownBlock = some k ∨ w.heap.size ≤ k) → wpList P ops Q rest (a.put o.dst v') w') : wpList P ops Q (o :: rest) a w := by
  refine wpList_plain hgd fun K hK => ?_
  obtain ⟨v', w', hr, h2, h3, h4⟩ := run_append_at (P := P) (w := w) base t o.type e i z size bytes ht hi hz hsize hby hzs hsz v n xs hown ad m c news hl hnews h1 h63 hbytes hbase hm
  unfold Oper.wp execOp
  simp only [ho, resolve, invoke, builtin, Sem.run_bind, Sem.run_pure, Result.andThen_ok, List.map_toArray, List.map_cons, List.map_nil, hs, hx, hr]
  exact hK _ _ (h v' w' h2 h3 h4)
theorem insert_end (B : Nat) (ao : Option Addr) (n c : Nat) (bs : List Bk) (b : Bk) (vb : Nat) (w : World) (hown : w.ownsRow B 99 2 (.slice ao n c) n (bksV bs)) (hB : B ≤ w.heap.size) (hn : n ≤ 4096)
    (hv : w.heap[vb]? = some (.cells #[.int .u32 b.a, .int .u32 b.l] 99 (0, 0))) :
    Calls Try.prog 67 #[.slice ao n c, .int .i64 n, .slice (some ⟨vb, 0, none⟩) 1 1] w fun e w' => ∃ ao' c', e = .returned (.slice ao' (n + 1) c') ∧ w'.ownsRow B 99 2 (.slice ao' (n + 1) c') (n + 1) (bksV (bs ++ [b])) ∧ w.grownBy w' (Value.slice ao n c).ownBlock ∧ (∀ k, (Value.slice ao' (n + 1) c').ownBlock = some k → (Value.slice ao n c).ownBlock = some k ∨ w.heap.size ≤ k) := by
  obtain ⟨i0, hi, hz0, hz1, hz2⟩ := bk_parts
  have hsrc : ∀ j u, (bkV b)[j]? = some u → w.cell? ((⟨vb, 0, none⟩ : Addr).add j) = some u := by
    intro j u hj
    rw [Addr.add_lit]
    simp only [World.cell?, hv, Nat.zero_add]
    simpa [bkV] using hj
  have h1v : ∀ u ∈ bkV b, u.oneCell' = true := by intro u hu; simp [bkV] at hu; rcases hu with rfl | rfl <;> rfl
  have hnc : n ≤ c := (own_bks hown).2.1
  have hcm : c ≤ 9223372036854775807 := (own_bks hown).2.2.1
  have HO := hidden8 hown
  have HS := hidden8 hsrc
  have H1 := hidden8 h1v
  clear hsrc hown hv h1v
  go_enter Try.func67, Try.ntmps67
  go_wp2_with (at_builtin; refine wpList_append_at rfl _ _ 40 rfl B 99 i0 (.agg #[.int .u32 0, .int .u32 0]) 2 8 Try.underlying40 hi hz0 hz1 hz2 rfl (by decide) (.slice ao n c) n (bksV bs) rfl HO.out ⟨vb, 0, none⟩ 1 1 (bkV b) rfl rfl HS.out H1.out (by unfold maxLen; omega) (by omega) hB (by omega) ?_; intro v' w' hown' hgrow hat)
  all_goals go_ret
  all_goals (
    have e : bksV bs ++ bkV b = bksV (bs ++ [b]) := by rw [bksV_app, bksV_cons, bksV_nil, List.append_nil]
    rw [e] at hown'
    rcases Joins.ownsRow_forms hown' with ⟨rfl, h0⟩ | ⟨g, cap, rfl⟩
    · omega
    · exact ⟨_, _, rfl, hown', by cases ao <;> exact hgrow, by cases ao <;> exact hat.out⟩)
end Go.Proofs.Ytmebjbnglndfcaa
