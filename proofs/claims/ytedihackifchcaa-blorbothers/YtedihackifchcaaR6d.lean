/- What the document's Read of a container stands on: where the index lies in the bytes, and the place of a chunk. -/
import Derived.Test.YtedihackifchcaaR6c
import Derived.Test.YtedihackifchcaaX6o
namespace Go.Proofs.Ytedihackifchcaa
open Go.RowKit
set_option maxHeartbeats 1000000
set_option linter.unusedVariables false

theorem seg_seg (zs : List Int) (a n b m : Nat) (h : b + m ≤ n) : seg (seg zs a n) b m = seg zs (a + b) m := by
  rw [seg_drop zs a b m]
  show seg ((zs.drop a).take n) b m = _
  exact seg_take _ _ _ _ h
theorem beV_seg (zs : List Int) (a n b : Nat) (h : b + 4 ≤ n) : beV (seg zs a n) b 4 = beV zs (a + b) 4 := by
  show beV ((zs.drop a).take n) b 4 = _
  rw [beV_take _ _ _ h, beV_drop, beV_drop zs (a + b), List.drop_drop]
/-- the first chunk stays the first -/
theorem pgo_head (zs : List Int) : ∀ (F p : Nat) (a : Sc) (acc : List Sc), (pgo zs F p (a :: acc)).2.1 = 0 → ∃ t, (pgo zs F p (a :: acc)).1 = a :: t
  | 0, p, a, acc, h => ⟨acc, rfl⟩
  | F + 1, p, a, acc, h => by
    unfold pgo at h ⊢
    split
    · exact ⟨acc, rfl⟩
    · rename_i h1
      rw [if_neg h1] at h
      split
      · rename_i h2
        rw [if_pos h2] at h
        simp at h
      · rename_i h2
        rw [if_neg h2] at h
        split
        · rename_i h3
          rw [if_pos h3] at h
          exact absurd h h3
        · rename_i h3
          rw [if_neg h3] at h
          exact pgo_head zs F _ a _ h
/-- the first chunk lies at 12 -/
theorem parse_first (zs : List Int) (hok : OkB zs) (c : Sc) (t : List Sc) (h0 : (parseR zs).2.1 = 0) (h : (parseR zs).1 = c :: t) : ∃ n, c.2 = seg zs 20 n ∧ c.2.length = n ∧ 20 + n ≤ zs.length := by
  unfold parseR at h0 h
  split at h
  · cases h
  · rename_i hh
    rw [if_neg hh] at h0
    unfold pgo at h0 h
    split at h
    · cases h
    · rename_i h1
      rw [if_neg h1] at h0
      split at h
      · cases h
      · rename_i h2
        rw [if_neg h2] at h0
        split at h
        · cases h
        · rename_i h3
          rw [if_neg h3] at h0
          obtain ⟨n, hce, hfit, hbe, hid⟩ := chunkR_ok zs 12 hok (Classical.not_not.1 h3)
          rw [hce] at h h0
          simp only [Int.toNat_natCast, List.nil_append] at h h0
          obtain ⟨t2, e⟩ := pgo_head zs _ _ _ _ h0
          rw [e] at h
          obtain ⟨rfl, -⟩ := List.cons.inj h
          exact ⟨n, rfl, seg_len zs 20 n (by omega), by omega⟩
/-- the chunk that begins at a place, sought from the first on: the last found so far -/
def ixT (cs : List Sc) (st : Int) (k : Nat) : Nat := if ixS cs st < k then ixS cs st else 0
theorem ixT_zero (cs : List Sc) (st : Int) : ixT cs st 0 = 0 := by simp [ixT]
theorem ixT_hit (cs : List Sc) (st : Int) (k : Nat) (h : k < cs.length) (e : ((12 + ssz (cs.take k) : Nat) : Int) = st) : ixT cs st (k + 1) = k := by
  unfold ixT
  rw [← e, ixS_at cs k h, if_pos (by omega)]
theorem ixT_miss (cs : List Sc) (st : Int) (k : Nat) (h : k < cs.length) (e : ((12 + ssz (cs.take k) : Nat) : Int) ≠ st) : ixT cs st (k + 1) = ixT cs st k := by
  unfold ixT
  by_cases hx : ixS cs st = k
  · by_cases hk : k = 0
    · subst hk; rw [if_pos (by omega), if_neg (by omega)]; exact hx
    · exfalso
      have hl := ixS_lt cs st (by omega)
      by_cases hy : ∃ i, ∃ _ : i < cs.length, ((12 + ssz (cs.take i) : Nat) : Int) = st
      · obtain ⟨i, hi, rfl⟩ := hy
        rw [ixS_at cs i hi] at hx
        subst hx
        exact e rfl
      · have := ixS_no cs st (fun i hi e => hy ⟨i, hi, e⟩)
        omega
  · by_cases hlt : ixS cs st < k
    · rw [if_pos hlt, if_pos (by omega)]
    · rw [if_neg hlt, if_neg (by omega)]
theorem ixT_all (cs : List Sc) (st : Int) : ixT cs st cs.length = ixS cs st := by
  unfold ixT
  split
  · rfl
  · by_cases h : ixS cs st = 0
    · exact h.symm
    · exact absurd (ixS_lt cs st h) ‹_›
theorem ssz_take_le (cs : List Sc) (k : Nat) : ssz (cs.take k) ≤ ssz cs := by
  have h : ssz cs = ssz (cs.take k) + ssz (cs.drop k) := by
    unfold ssz
    rw [← List.sum_append_nat, ← List.map_append, List.take_append_drop]
  omega
/-- behind the resource's append -/
theorem tailR {w1 wr w5 w6 : World} {v6 : Value} {ao a : Option Addr} {cv n c i : Nat} {u id : ByteArray} {x : Int} {ds : List Int} {rs : List Rk} (hil : rs.length = i) (hbl : Below w1.heap.size w1 wr) (hG : GotR w1.heap.size wr (.slice ao i cv) rs) (hd : w5.ownsRow wr.heap.size 5 1 (.slice a n c) n (bytesV ds)) (hb5 : Below wr.heap.size wr w5)
    (hown6 : w6.ownsRow w1.heap.size 49 4 v6 (i + 1) (rksV rs ++ [.string u, .int .u32 x, .string id, .slice a n c])) (hgrow6 : (w5.alloc (.cells #[.string u, .int .u32 x, .string id, .slice a n c] 49)).grownBy w6 (Value.slice ao i cv).ownBlock) :
    ∃ ao3 cv3, v6 = .slice ao3 (i + 1) cv3 ∧ GotR w1.heap.size w6 (.slice ao3 (i + 1) cv3) (rs ++ [⟨u, x, id, a, n, c, ds⟩]) ∧ Below w1.heap.size w1 w6 := by
  have hbw : Below w1.heap.size w1 w5 := hbl.trans (hb5.mono hbl.size)
  have hG2 := hG.below hb5
  have hO := hG2.1.alloc (.cells #[.string u, .int .u32 x, .string id, .slice a n c] 49)
  have hb3 : Below w1.heap.size w1 w6 := (hbw.alloc hbw.size _).grown hgrow6 (by have := hbw.size; simp; omega) (fun j hj => (hO.lt j hj).1)
  obtain ⟨ao3, cv3, rfl⟩ := own_slice hown6
  have hg3 := gotR_snoc (r := ⟨u, x, id, a, n, c, ds⟩) _ hG2 (own_base hd hbl.size) (by rw [hil]; exact hown6) hgrow6
  exact ⟨ao3, cv3, rfl, hg3, hb3⟩
theorem ownR_alloc_len {B : Nat} {w : World} {v : Value} {rs : List Rk} {i : Nat} (hil : rs.length = i) (h : GotR B w v rs) (o : Obj) : (w.alloc o).ownsRow B 49 4 v i (rksV rs) := hil ▸ h.1.alloc o
/-- an append of nothing at a step of a region that draws its order -/
theorem step_append_none {w : World} {ops : Array Oper} {o : Oper} {a : Act} {K : Act → World → Prop} {Q : Exit → Act → World → Prop} {E : Prop} (hgd : o.guard = none) (s x : Operand) (t : TypeId)
    (ho : o.op = .call { callee := .builtin .append, args := #[s, x], argTypes := #[t, t] })
    (base : Nat) (e : TypeId) (i : TypeInfo) (size : Nat) (ht : Try.prog.underlying t = some (.slice e)) (hi : Try.prog.info? e = some i)
    (v : Value) (n : Nat) (xs : List Value) (hs : a.eval s = v) (hown : w.ownsRow base e size v n xs) (hx : a.eval x = .slice none 0 0) (h : K (a.put o.dst v) w) :
    if Region.wanted o (yielded ops a.tmps) = true then Oper.wp Try.prog o a w K Q else E := by
  have hw : Region.wanted o (yielded ops a.tmps) = true := by simp [Region.wanted, hgd]
  rw [if_pos hw]
  have hrun := run_append_owned_none (P := Try.prog) (w := w) base t o.type e i size ht hi v n xs hown
  unfold Oper.wp
  simp [execOp, ho, resolve, invoke, builtin, hs, hx, hrun, Result.andThen]
  exact h
/-- an append of bytes, which may be none, at a step of a region that draws its order -/
theorem step_append_reads {w : World} {ops : Array Oper} {o : Oper} {a : Act} {K : Act → World → Prop} {Q : Exit → Act → World → Prop} {E : Prop} (hgd : o.guard = none) (s x : Operand)
    (ho : o.op = .call { callee := .builtin .append, args := #[s, x], argTypes := #[22, 22] })
    (base : Nat) (v : Value) (n : Nat) (xs : List Value) (hs : a.eval s = v) (hown : w.ownsRow base 5 1 v n xs)
    (ca : Option Addr) (cn cc : Nat) (cd : List Int) (hx : a.eval x = .slice ca cn cc) (hr : Reads w ca cn cc cd)
    (h63 : n + cn ≤ 100000000) (hbase : base ≤ w.heap.size)
    (h : ∀ v' w', w'.ownsRow base 5 1 v' (n + cn) (xs ++ bytesV cd) → w.grownBy w' v.ownBlock → K (a.put o.dst v') w') :
    if Region.wanted o (yielded ops a.tmps) = true then Oper.wp Try.prog o a w K Q else E := by
  obtain ⟨j0, ji, jz0, jz1, jz2⟩ := info_parts info8
  have hdl := hr.1
  cases ca with
  | none =>
    rcases hr.2.2 with ⟨-, rfl, rfl⟩ | ⟨y, hy, -⟩
    · obtain rfl := List.eq_nil_of_length_eq_zero hdl
      exact step_append_none hgd s x 22 ho base 5 j0 1 Try.underlying22 ji v n xs hs hown hx (h v w (by simpa [bytesV] using hown) ⟨rfl, rfl, rfl, Nat.le_refl _, fun _ _ _ => rfl⟩)
    · cases hy
  | some y =>
    exact step_append_own hgd s x 22 ho base 5 j0 (.int .u8 0) 1 1 Try.underlying22 ji jz0 jz1 jz2 rfl (by decide) v n xs hs hown y cn cc (bytesV cd) hx (by simp [bytesV, hdl]) hr.news (bytesV_one cd) (by unfold maxLen; omega) (by omega) hbase h
end Go.Proofs.Ytedihackifchcaa
