/- Layer 17: a row of states as cells; slices.Delete and slices.Clone over it. -/
import Derived.Test.YtnjeobijbbjlaaaZ17h
namespace Go.Proofs.Ytnjeobijbbjlaaa
open Go.RowKit
set_option maxHeartbeats 1000000
set_option maxRecDepth 100000
set_option linter.unusedVariables false

theorem grown_setRow (w : World) (g : Nat) (cs : Array Value) : w.grownBy (w.setRow g cs) (some g) :=
  ⟨rfl, rfl, rfl, by simp [World.setRow], fun k _ hk => setRow_other w g k cs (fun e => hk (by rw [e]))⟩
theorem grown_drew (w : World) (row : Option Nat) : w.grownBy w.drew row := ⟨rfl, rfl, rfl, Nat.le_refl _, fun _ _ _ => rfl⟩
theorem step_appk {P : Program} (k : Nat) {w : World} {ops : Array Oper} {o : Oper} {a : Act} {K : Act → World → Prop} {Q : Exit → Act → World → Prop} {E : Prop} (hgd : o.guard = none) (s x : Operand) (t : TypeId)
    (ho : o.op = .call { callee := .builtin .append, args := #[s, x], argTypes := #[t, t] }) (e : TypeId) (i : TypeInfo) (hu : P.underlying t = some (.slice e)) (hi : P.info? e = some i) (hk : i.size = k)
    (g n cap : Nat) (ad : Addr) (m c : Nat) (hs : a.eval s = .slice (some ⟨g, 0, none⟩) n cap) (hx : a.eval x = .slice (some ad) m c)
    (cur : List Value) (hg : w.heap[g]? = some (.cells cur.toArray e (0, 0))) (cs : List Value) (hn : cs.length = m * k)
    (hsrc : ∀ j v, cs[j]? = some v → w.cell? (ad.add j) = some v) (hroom : n + m ≤ cap) (hfit : n * k + cs.length ≤ cur.length) (h1 : ∀ v ∈ cs, v.oneCell' = true)
    (h : ∀ w', Hid (w'.heap[g]? = some (.cells (splice cur (n * k) cs).toArray e (0, 0))) → Hid (w.grownBy w' (some g)) → K (a.put o.dst (.slice (some ⟨g, 0, none⟩) (n + m) cap)) w') :
    if Region.wanted o (yielded ops a.tmps) = true then Oper.wp P o a w K Q else E := by
  have hw : Region.wanted o (yielded ops a.tmps) = true := by simp [Region.wanted, hgd]
  rw [if_pos hw]
  subst hk
  have hrun := run_append_room (P := P) w t o.type e i hu hi g n cap cur.toArray hg ad m c cs hn hsrc h1 hroom (by simpa using hfit)
  unfold Oper.wp
  simp [execOp, ho, resolve, invoke, builtin, hs, hx, hrun, Result.andThen]
  refine h _ (show _ = _ from ?_) (grown_setRow w g _)
  have := setRow_heap w g cur.toArray (splice cur (n * i.size) cs).toArray e (0, 0) hg
  simpa [splice] using this
theorem run_cleark {P : Program} (w : World) (t e ty : TypeId) (z : Value) (ht : P.underlying t = some (.slice e)) (hv : ∀ w, (zeroValue e).run P w = .ok z w) (g o n c : Nat) (hn : 0 < n)
    (cur : List Value) (et : TypeId) (hg : w.heap[g]? = some (.cells cur.toArray et (0, 0))) (cs : List Value) (hcs : (Builtin.zeroCells z.cells n).toList = cs) (hfit : o + cs.length ≤ cur.length) (h1 : ∀ v ∈ cs, v.oneCell' = true) :
    (Builtin.clear_ #[t] ty #[.slice (some ⟨g, o, none⟩) n c]).run P w = .ok (.tuple #[]) (w.setRow g (splice cur o cs).toArray) := by
  have hst := run_storeCells_at P g o et cs 0 cur.toArray w hg (by simpa using hfit) h1
  obtain ⟨m, rfl⟩ : ∃ m, n = m + 1 := ⟨n - 1, by omega⟩
  simp [Builtin.clear_, run_underlying ht, hv, hcs, hst, splice]

/-- a state as its cells -/
structure Sv where
  r : Value
  h : Int
  b : Value
  s : Value
def Sv.ok (x : Sv) : Prop := (∃ a n c, x.r = .slice a n c) ∧ (∃ a n c, x.b = .slice a n c) ∧ (∃ a n c, x.s = .slice a n c)
def svC (x : Sv) : List Value := [x.r, .int .u32 x.h, x.b, x.s]
def svA (x : Sv) : Value := .agg #[x.r, .int .u32 x.h, x.b, x.s]
def svV (L : List Sv) : List Value := L.flatMap svC
theorem svV_app (a b : List Sv) : svV (a ++ b) = svV a ++ svV b := by simp [svV]
theorem svV_len : ∀ L : List Sv, (svV L).length = L.length * 4
  | [] => rfl
  | x :: L => by
    have := svV_len L
    simp only [svV, List.flatMap_cons, List.length_append, List.length_cons] at this ⊢
    rw [this]
    simp [svC]
    omega
theorem svV_one {L : List Sv} (h : ∀ x ∈ L, x.ok) : ∀ u ∈ svV L, u.oneCell' = true := by
  intro u hu
  obtain ⟨x, hx, hv⟩ := List.mem_flatMap.1 hu
  obtain ⟨⟨a1, n1, c1, e1⟩, ⟨a2, n2, c2, e2⟩, ⟨a3, n3, c3, e3⟩⟩ := h x hx
  simp only [svC, e1, e2, e3, List.mem_cons, List.not_mem_nil, or_false] at hv
  rcases hv with rfl | rfl | rfl | rfl <;> rfl
theorem svV_take : ∀ (L : List Sv) (i : Nat), (svV L).take (i * 4) = svV (L.take i)
  | [], i => by simp [svV]
  | x :: L, 0 => by simp [svV]
  | x :: L, i + 1 => by
    have := svV_take L i
    simp only [svV, List.flatMap_cons, List.take_succ_cons] at this ⊢
    rw [show (i + 1) * 4 = i * 4 + 4 by omega]
    show (svC x ++ _).take _ = _
    rw [List.take_append, show i * 4 + 4 - (svC x).length = i * 4 from by simp [svC], this, List.take_of_length_le (by simp [svC])]
theorem svV_drop : ∀ (L : List Sv) (i : Nat), (svV L).drop (i * 4) = svV (L.drop i)
  | [], i => by simp [svV]
  | x :: L, 0 => by simp [svV]
  | x :: L, i + 1 => by
    have := svV_drop L i
    simp only [svV, List.flatMap_cons, List.drop_succ_cons] at this ⊢
    rw [show (i + 1) * 4 = i * 4 + 4 by omega]
    show (svC x ++ _).drop _ = _
    rw [List.drop_append, show i * 4 + 4 - (svC x).length = i * 4 from by simp [svC], this, List.drop_of_length_le (by simp [svC]), List.nil_append]
theorem info_st : (Try.prog.info? 38).map (fun i => (i.zero, i.size, i.bytes)) = some (some (.agg #[.slice none 0 0, .int .u32 0, .slice none 0 0, .slice none 0 0]), 4, 80) := by kernel_rfl
theorem zero_st (w : World) : (zeroValue 38).run Try.prog w = .ok (.agg #[.slice none 0 0, .int .u32 0, .slice none 0 0, .slice none 0 0]) w := by kernel_rfl
theorem st_parts : ∃ i, Try.prog.info? 38 = some i ∧ i.zero = some (.agg #[.slice none 0 0, .int .u32 0, .slice none 0 0, .slice none 0 0]) ∧ i.size = 4 ∧ i.bytes = 80 := by
  have h := info_st
  cases hq : Try.prog.info? 38 with
  | none => rw [hq] at h; simp at h
  | some i => rw [hq] at h; simp at h; exact ⟨i, rfl, h.1, h.2.1, h.2.2⟩
theorem sv_cur {B : Nat} {w : World} {ao : Option Addr} {n c : Nat} {L : List Sv} (h : w.ownsRow B 38 4 (.slice ao n c) n (svV L)) (h0 : 0 < n) :
    ∃ (g : Nat) (cur : List Value), ao = some ⟨g, 0, none⟩ ∧ B ≤ g ∧ w.heap[g]? = some (.cells cur.toArray 38 (0, 0)) ∧ n ≤ c ∧ c ≤ maxLen ∧ cur.length = c * 4 ∧ cur.take (n * 4) = svV L ∧ L.length = n := by
  have hl := h.1
  rw [svV_len] at hl
  rcases h.2 with ⟨h1, h2⟩ | ⟨g, cap, cur, h1, h2, h3, h4, h5, h6, h7⟩
  · omega
  · cases h1
    exact ⟨g, cur.toList, rfl, h2, by simpa using h3, h4, h5, by simpa using h6, h7, by omega⟩
theorem sv_of {B : Nat} {w : World} {g n c : Nat} {L : List Sv} {cur : List Value} (hB : B ≤ g) (hg : w.heap[g]? = some (.cells cur.toArray 38 (0, 0))) (h1 : n ≤ c) (h2 : c ≤ maxLen) (h3 : cur.length = c * 4) (h4 : cur.take (n * 4) = svV L) (h5 : L.length = n) :
    w.ownsRow B 38 4 (.slice (some ⟨g, 0, none⟩) n c) n (svV L) :=
  ⟨by rw [svV_len, h5], .inr ⟨g, c, cur.toArray, rfl, hB, hg, h1, h2, by simpa using h3, by simpa using h4⟩⟩
theorem sv_src {w : World} {g n i : Nat} {L : List Sv} {cur : List Value} (hg : w.heap[g]? = some (.cells cur.toArray 38 (0, 0))) (htk : cur.take (n * 4) = svV L) : ∀ j u, (svV (L.drop i))[j]? = some u → w.cell? ((⟨g, i * 4, none⟩ : Addr).add j) = some u := by
  intro j u hj
  rw [Addr.add_lit]
  rw [← svV_drop, List.getElem?_drop, ← htk, List.getElem?_take] at hj
  split at hj
  · simp only [World.cell?, hg]; simpa using hj
  · cases hj
theorem take_spl (L cs : List Value) (off k : Nat) (h : k ≤ off) (h2 : off ≤ L.length) : (splice L off cs).take k = L.take k := by
  unfold splice
  rw [List.take_append_of_le_length (by rw [List.length_take]; omega), List.take_take]
  congr 1; omega
set_option maxHeartbeats 4000000 in
theorem sdelete_any (B : Nat) (ao : Option Addr) (n c i : Nat) (L : List Sv) (w : World) (hok : ∀ x ∈ L, x.ok) (hown : w.ownsRow B 38 4 (.slice ao n c) n (svV L)) (hn : n ≤ 4096) (hi : i < n) :
    Calls Try.prog 31 #[.slice ao n c, .int .i64 i, .int .i64 ((i : Int) + 1)] w fun e w' => e = .returned (.slice ao (n - 1) c) ∧ Hid (w'.ownsRow B 38 4 (.slice ao (n - 1) c) (n - 1) (svV (L.take i ++ L.drop (i + 1)))) ∧ Hid (w.grownBy w' (Value.slice ao n c).ownBlock) := by
  obtain ⟨i0, hi0, hz0, hz1, hz2⟩ := st_parts
  obtain ⟨g, cur, rfl, hBg, hg, hnc, hcm, hcl, htk, hbl⟩ := sv_cur hown (by omega)
  have hcm' : c ≤ 9223372036854775807 := hcm
  have hX : (svV (L.drop (i + 1))).length = (n - (i + 1)) * 4 := by rw [svV_len, List.length_drop, hbl]
  obtain ⟨A, hA, hsrc⟩ : ∃ A : Addr, (if c = i + 1 then some (⟨g, 0, none⟩ : Addr) else some ⟨g, (i + 1) * 4, none⟩) = some A ∧ Hid (∀ j u, (svV (L.drop (i + 1)))[j]? = some u → w.drew.cell? (A.add j) = some u) := by
    by_cases h : c = i + 1
    · refine ⟨⟨g, 0, none⟩, by simp [h], fun j u hj => ?_⟩
      have hjl := (List.getElem?_eq_some_iff.1 hj).1
      omega
    · exact ⟨⟨g, (i + 1) * 4, none⟩, by simp [h], sv_src hg htk⟩
  have c1 : ¬ (i : Int) = (i : Int) + 1 := by omega
  have c2 : (i : Int) + 1 ≤ (n : Int) := by omega
  have c3 : (n : Int) ≤ (c : Int) := by omega
  have hb1 : (0 : Int) ≤ (i : Int) + 1 := by omega
  have htn : ((i : Int) + 1).toNat = i + 1 := by omega
  have c4 : (i : Int) ≤ (i : Int) + 1 := by omega
  have c5 : (i : Int) ≤ (c : Int) := by omega
  have c6 : (i : Int) + 1 ≤ (c : Int) := by omega
  have HG := hidden hg
  have HON : Hid (∀ u ∈ svV (L.drop (i + 1)), u.oneCell' = true) := hidden (svV_one (fun x hx => hok x (List.mem_of_mem_drop hx)))
  clear hown hg hok
  go_enter Try.func31, Try.ntmps31
  go_wp2_with fail
  go_region_law (refine step_appk 4 rfl (.tmp 22) (.tmp 25) 44 rfl 38 i0 Try.underlying44 hi0 hz1 g i c A (n - (i + 1)) (c - (i + 1)) (by simp [Act.eval, Act.put]) (by simp [Act.eval, Act.put]) cur HG.out (svV (L.drop (i + 1))) hX hsrc.out (by omega) (by rw [hX, hcl]; omega) HON.out ?_; intro w1 HG1 HW1)
  have hk : i + (n - (i + 1)) = n - 1 := by omega
  have hsl : (splice cur (i * 4) (svV (L.drop (i + 1)))).length = c * 4 := by rw [length_splice _ _ _ (by rw [hX, hcl]; omega), hcl]
  have hclr : ∀ ty, (Builtin.clear_ #[44] ty #[.slice (some ⟨g, (n - 1) * 4, none⟩) (n - (n - 1)) (c - (n - 1))]).run Try.prog w1 = .ok (.tuple #[]) (w1.setRow g (splice (splice cur (i * 4) (svV (L.drop (i + 1)))) ((n - 1) * 4) [.slice none 0 0, .int .u32 0, .slice none 0 0, .slice none 0 0]).toArray) := fun ty =>
    run_cleark w1 _ _ ty _ Try.underlying44 zero_st g ((n - 1) * 4) (n - (n - 1)) _ (by omega) _ 38 HG1.out _ (by rw [show n - (n - 1) = 1 by omega]; kernel_rfl) (by rw [hsl]; simp; omega) (by intro v hv; simp only [List.mem_cons, List.not_mem_nil, or_false] at hv; rcases hv with rfl | rfl | rfl | rfl <;> rfl)
  rw [hk]
  have d1 : ¬ c = n - 1 := by omega
  have d2 : ((n - 1 : Nat) : Int) ≤ (n : Int) := by omega
  have d3 : n - 1 ≤ n := by omega
  go_wp2
  go_ret
  refine ⟨rfl, hidden ?_, hidden ?_⟩
  · refine sv_of hBg (setRow_heap w1 g _ _ _ _ HG1.out) (by omega) hcm (by rw [length_splice _ _ _ (by rw [hsl]; simp; omega), hsl]) ?_ (by simp; omega)
    rw [take_spl _ _ _ _ (Nat.le_refl _) (by rw [hsl]; omega)]
    unfold splice
    rw [← List.append_assoc, List.take_append_of_le_length (by rw [List.length_append, List.length_take, hX]; omega), List.take_of_length_le (by rw [List.length_append, List.length_take, hX]; omega), svV_app]
    congr 1
    rw [← svV_take, ← htk, List.take_take]; congr 1; omega
  · exact ((grown_drew w _).trans HW1.out).trans (grown_setRow w1 g _)
end Go.Proofs.Ytnjeobijbbjlaaa
