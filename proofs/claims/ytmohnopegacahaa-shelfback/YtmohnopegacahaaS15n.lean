/- Layer 15, the program: Buffer. -/
import Derived.Test.YtmohnopegacahaaS15k
import Derived.Test.YtmohnopegacahaaS15i
namespace Go.Proofs.Ytmohnopegacahaa
open Go.RowKit
set_option maxHeartbeats 1000000
set_option maxRecDepth 100000
set_option linter.unusedVariables false

def mdB (m : Int) : Bool := decide (m = 1 ∨ m = 2 ∨ m = 3 ∨ m = 5)
theorem isMode_any (m : Int) (w : World) : Calls Try.prog 44 #[.int .i64 m] w fun e w' => e = .returned (.bool (mdB m)) ∧ w' = w := by
  by_cases h1 : m = 1
  · subst h1
    go_enter Try.func44, Try.ntmps44
    go_wp2
    go_ret
    exact ⟨rfl, rfl⟩
  by_cases h2 : m = 2
  · subst h2
    go_enter Try.func44, Try.ntmps44
    go_wp2
    go_ret
    exact ⟨rfl, rfl⟩
  by_cases h3 : m = 3
  · subst h3
    go_enter Try.func44, Try.ntmps44
    go_wp2
    go_ret
    exact ⟨rfl, rfl⟩
  by_cases h5 : m = 5
  · subst h5
    go_enter Try.func44, Try.ntmps44
    go_wp2
    go_ret
    exact ⟨rfl, rfl⟩
  rw [show mdB m = false by simp [mdB, h1, h2, h3, h5]]
  have q1 : (m == 1) = false := by simp [h1]
  have q2 : (m == 2) = false := by simp [h2]
  have q3 : (m == 3) = false := by simp [h3]
  have q5 : (m == 5) = false := by simp [h5]
  go_enter Try.func44, Try.ntmps44
  go_wp2
  go_ret
  exact ⟨rfl, rfl⟩
theorem mkC (k : Nat) (hk : k ≤ 4294967296) (w : World) : (Instr.makeSlice 23 (.int .i64 0) (.int .i64 k)).run Try.prog w = .ok (.slice (some ⟨w.heap.size, 0, none⟩) 0 k) (w.alloc (.cells (madeCells (Value.int .u32 0).cells k) 32)) := by
  obtain ⟨i0, hi, hz0, hz1, hz2⟩ := info_parts info32
  have := run_make (P := Try.prog) w 23 32 i0 (.int .u32 0) Try.underlying23 hi hz0 .i64 .i64 0 k (by omega) (by omega) (by rw [hz2]; omega) (by omega)
  rw [this, hz1, Int.toNat_natCast, Nat.mul_one]
  rfl
theorem step_app32 {w : World} {ops : Array Oper} {o : Oper} {a : Act} {K : Act → World → Prop} {Q : Exit → Act → World → Prop} {E : Prop} (hgd : o.guard = none) (s x : Operand)
    (ho : o.op = .call { callee := .builtin .append, args := #[s, x], argTypes := #[23, 23] })
    (base n : Nat) (v : Value) (zs : List Int) (V : Int) (ad : Addr) (hs : a.eval s = v) (hx : a.eval x = .slice (some ad) 1 1) (hown : w.ownsRow base 32 1 v n (w32V zs)) (hc : w.cell? ad = some (.int .u32 V))
    (hbase : base ≤ w.heap.size) (hk : n ≤ 4000000)
    (h : ∀ a' c' w', w'.ownsRow base 32 1 (.slice a' (n + 1) c') (n + 1) (w32V (zs ++ [V])) → Hid (Fm w w' (fun k => v.ownBlock = some k) (fun k => (Value.slice a' (n + 1) c').ownBlock = some k)) → K (a.put o.dst (.slice a' (n + 1) c')) w') :
    if Region.wanted o (yielded ops a.tmps) = true then Oper.wp Try.prog o a w K Q else E := by
  have hw : Region.wanted o (yielded ops a.tmps) = true := by simp [Region.wanted, hgd]
  rw [if_pos hw]
  obtain ⟨i0, hi, hz0, hz1, hz2⟩ := info_parts info32
  obtain ⟨v', w', hr, ho2, hg, hat⟩ := run_append_at (P := Try.prog) (w := w) base 23 o.type 32 i0 (.int .u32 0) 1 4 Try.underlying23 hi hz0 hz1 hz2 rfl (by decide) v n (w32V zs) hown ad 1 1 [.int .u32 V] rfl (fun j u hj => by
    cases j with
    | zero =>
      simp only [List.getElem?_cons_zero, Option.some.injEq] at hj
      subst hj
      exact hc
    | succ j => simp at hj) (by intro u hu; simp at hu; subst hu; rfl) (by unfold maxLen; omega) (by omega) hbase (by decide)
  obtain ⟨a', c', e⟩ := own_slice ho2
  subst e
  have hK := h a' c' w' (by simpa [w32V] using ho2) (fm_grown hg hat)
  unfold Oper.wp
  simp [execOp, ho, resolve, invoke, builtin, hs, hx, hr, Result.andThen]
  exact hK
/-- a buffer that a call made -/
def BuAt (w w' : World) (b : Nat) (zs : List Int) : Prop := ∃ v, BAt w.heap.size w' b v zs ∧ Below w.heap.size w w'
def bufS (s : Sh) (b : Nat) (v : Value) (k : Nat) (v' : Value) (md : Int) (wide : Bool) (zs : List Int) : Sh := addS { s with G := s.G ++ [⟨b, v, zs⟩] } ⟨k, 0, false, b, md, wide, 0, 0, 0⟩ v'
def BuR (B : Nat) (w : World) (m : Nat) (s : Sh) (md : Int) (wide : Bool) (zs : List Int) (w' : World) : Prop := ∃ b v k v', ShAt B w' m (bufS s b v k v' md wide zs) ∧ OkS (bufS s b v k v' md wide zs) ∧ Fm w w' (TS m s) (TS m (bufS s b v k v' md wide zs))
theorem sorted_snoc {L : List Sm} {d : Sm} (h : Sorted L) (hd : ∀ e ∈ L, e.n < d.n) : Sorted (L ++ [d]) := by
  refine ⟨fun i j hij hj hi => ?_⟩
  have hj2 : j < L.length + 1 := by simpa using hj
  by_cases e : j < L.length
  · rw [List.getElem_append_left (show i < L.length by omega), List.getElem_append_left e]
    exact h.rise i j hij e (by omega)
  · have e2 : j = L.length := by omega
    subst e2
    rw [List.getElem_append_left (show i < L.length by omega), List.getElem_append_right (Nat.le_refl _)]
    simpa using hd _ (List.getElem_mem (show i < L.length by omega))
/-- one stream more, on a ground that is there -/
theorem addS_ok {s : Sh} {d : Sm} {v' : Value} (ok : OkS s) (hn : s.S.length < 64) (hk : ∀ e ∈ s.S, e.k ≠ d.k) (hl : s.last < 1000000) (hon : (d.f = true → ∃ f ∈ s.F, f.b = d.g) ∧ (d.f = false → ∃ g ∈ s.G, g.b = d.g)) : OkS (addS s d v') := by
  have h0 := ok.last0
  refine ⟨?_, ⟨?_⟩, ?_, ok.fk, ok.gk, ?_, ⟨?_, ?_⟩, ?_, ok.most0⟩
  · show (s.S ++ [{ d with n := s.last + 1 }]).Pairwise _
    rw [List.pairwise_append]
    refine ⟨ok.sk, List.pairwise_singleton _ _, fun a ha b hb => ?_⟩
    rw [List.mem_singleton] at hb
    subst hb
    exact hk a ha
  · exact (sorted_snoc (d := { d with n := s.last + 1 }) ok.so (fun e he => by have := (ok.low e he).2; show e.n < s.last + 1; omega)).rise
  · show (s.S ++ [{ d with n := s.last + 1 }]).length ≤ 64
    simp
    omega
  · intro e he
    rcases List.mem_append.1 (show e ∈ s.S ++ [{ d with n := s.last + 1 }] from he) with q | q
    · exact ok.on e q
    · rw [List.mem_singleton] at q
      subst q
      exact hon
  · show 0 ≤ s.last + 1; omega
  · show s.last + 1 ≤ 1000000; omega
  · intro e he
    show 1 ≤ e.n ∧ e.n ≤ s.last + 1
    rcases List.mem_append.1 (show e ∈ s.S ++ [{ d with n := s.last + 1 }] from he) with q | q
    · have := ok.low e q; omega
    · rw [List.mem_singleton] at q
      subst q
      show 1 ≤ s.last + 1 ∧ s.last + 1 ≤ s.last + 1
      omega
/-- a buffer more -/
theorem withG {B m b : Nat} {w : World} {s : Sh} {v : Value} {zs : List Int} (h : ShAt B w m s) (ok : OkS s) (hb : BAt B w b v zs) (hf : ∀ g ∈ s.G, Apart g.b g.v b v) : ShAt B w m { s with G := s.G ++ [⟨b, v, zs⟩] } ∧ OkS { s with G := s.G ++ [⟨b, v, zs⟩] } := by
  refine ⟨⟨h.base, h.box, h.row, h.ss, h.fs, ?_, h.mp⟩, ⟨ok.sk, ok.so, ok.few, ok.fk, ?_, ?_, ok.last0, ok.low, ok.most0⟩⟩
  · intro g hg
    rcases List.mem_append.1 hg with q | q
    · exact h.gs g q
    · rw [List.mem_singleton] at q; subst q; exact hb
  · rw [List.pairwise_append]
    refine ⟨ok.gk, List.pairwise_singleton _ _, fun a ha c hc => ?_⟩
    rw [List.mem_singleton] at hc
    subst hc
    exact hf a ha
  · intro d hd
    refine ⟨(ok.on d hd).1, fun q => ?_⟩
    obtain ⟨g, hg, e⟩ := (ok.on d hd).2 q
    exact ⟨g, List.mem_append_left _ hg, e⟩
theorem buf_fin {B m b : Nat} {w w3 : World} {s : Sh} {v : Value} {zs : List Int} {md : Int} {wide : Bool} (h : ShAt B w m s) (ok : OkS s) (hB : B ≤ w.heap.size) (hn : s.S.length < 64) (hl : s.last < 1000000) (hg : BAt w.heap.size w3 b v zs) (hb : Below w.heap.size w w3) :
    Calls Try.prog 30 #[.pointer (some ⟨m, 0, none⟩), .pointer (some ⟨w3.heap.size, 0, none⟩)] (w3.alloc (.cells #[.int .i64 0, .iface 95 (.pointer (some ⟨b, 0, none⟩)), .int .i64 md, .bool wide, .int .i64 0, .int .u32 0, .int .u32 0] 80)) fun e w' => e = .returned (.int .i64 (s.last + 1)) ∧ Hid (BuR B w m s md wide zs w') := by
  have ha : Below w3.heap.size w3 (w3.alloc (.cells #[.int .i64 0, .iface 95 (.pointer (some ⟨b, 0, none⟩)), .int .i64 md, .bool wide, .int .i64 0, .int .u32 0, .int .u32 0] 80)) := (Below.refl _ _).alloc (Nat.le_refl _) _
  have hsb : SBox (w3.alloc (.cells #[.int .i64 0, .iface 95 (.pointer (some ⟨b, 0, none⟩)), .int .i64 md, .bool wide, .int .i64 0, .int .u32 0, .int .u32 0] 80)) ⟨w3.heap.size, 0, false, b, md, wide, 0, 0, 0⟩ := heap_alloc_new _ _
  generalize w3.alloc (.cells #[.int .i64 0, .iface 95 (.pointer (some ⟨b, 0, none⟩)), .int .i64 md, .bool wide, .int .i64 0, .int .u32 0, .int .u32 0] 80) = w4 at *
  have hb4 : Below w.heap.size w w4 := hb.trans (ha.mono hb.size)
  have h4 := h.later hb4
  have hg4 := hg.later ha
  have hlow := h.low
  have hgl : ∀ k, TF b v k → w.heap.size ≤ k := by
    rintro k (rfl | e)
    · exact hg.base
    · exact (row_lt hg.row e).1
  have hap : ∀ g ∈ s.G, Apart g.b g.v b v := fun g hgm => ⟨fun e => by
    have q1 := (hlow g.b (.inr (.inr (.inr (.inr (.inr ⟨g, hgm, .inl rfl⟩)))))).2
    have q2 := hgl b (.inl rfl)
    omega, fun k e1 e2 => by
    have q1 := (hlow k (.inr (.inr (.inr (.inr (.inr ⟨g, hgm, .inr e1⟩)))))).2
    have q2 := hgl k (.inr e2)
    omega⟩
  have hgB : BAt B w4 b v zs := ⟨Nat.le_trans hB hg4.base, hg4.box, own_base hg4.row hB, hg4.few, hg4.bd⟩
  obtain ⟨h5, ok5⟩ := withG h4 ok hgB hap
  have hkn : ∀ e ∈ s.S, e.k ≠ w3.heap.size := fun e he q => by
    have q1 := (hlow e.k (.inr (.inr (.inr (.inl ⟨e, he, rfl⟩))))).2
    have := hb.size
    omega
  refine (add_any (d := ⟨w3.heap.size, 0, false, b, md, wide, 0, 0, 0⟩) h5 ok5 (Nat.le_trans hB hb4.size) hsb (Nat.le_trans hB hb.size) hkn hl).mono ?_
  rintro e w' ⟨rfl, H⟩
  obtain ⟨v', g1, g2⟩ := H.out
  refine ⟨rfl, hidden ⟨b, v, w3.heap.size, v', g1, addS_ok ok5 hn hkn hl ⟨fun q => (by cases q), fun _ => ⟨⟨b, v, zs⟩, (by simp), rfl⟩⟩, ?_⟩⟩
  have f1 : Fm w w4 (TS m s) (fun k => TS m { s with G := s.G ++ [⟨b, v, zs⟩] } k ∨ k = w3.heap.size) := ⟨hb4.os, hb4.tape, hb4.output, hb4.size, fun k hk _ => hb4.block k hk, fun k hk => by
    rcases hk with (e | e | e | e | e | ⟨g, hg, e⟩) | e
    · exact .inl (.inl e)
    · exact .inl (.inr (.inl e))
    · exact .inl (.inr (.inr (.inl e)))
    · exact .inl (.inr (.inr (.inr (.inl e))))
    · exact .inl (.inr (.inr (.inr (.inr (.inl e)))))
    · rcases List.mem_append.1 hg with q | q
      · exact .inl (.inr (.inr (.inr (.inr (.inr ⟨g, q, e⟩)))))
      · rw [List.mem_singleton] at q
        subst q
        exact .inr (hgl k e)
    · exact .inr (by have := hb.size; omega)⟩
  refine f1.trans (g2.to (fun k e => e) (fun k e => ?_))
  rcases e with e | e | e | ⟨d, hd, e⟩ | e | e
  · exact .inr (.inl e)
  · exact .inl (.inl (.inr (.inl e)))
  · exact .inr (.inr (.inr e))
  · rcases List.mem_append.1 hd with q | q
    · exact .inl (.inl (.inr (.inr (.inr (.inl ⟨d, q, e⟩)))))
    · rw [List.mem_singleton] at q
      subst q
      exact .inr (.inr (.inl e))
  · exact .inl (.inl (.inr (.inr (.inr (.inr (.inl e))))))
  · exact .inl (.inl (.inr (.inr (.inr (.inr (.inr e))))))
end Go.Proofs.Ytmohnopegacahaa
