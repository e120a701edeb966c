/- Layer 14, the program: methods' bits, the screen, one window more. -/
import Derived.Test.YtilfgbcbodjegaaP14c
namespace Go.Proofs.Ytilfgbcbodjegaa
open Go.RowKit
set_option maxHeartbeats 1000000
set_option maxRecDepth 100000
set_option linter.unusedVariables false

theorem nat_andnot3 (x : Nat) (hx : x < 2 ^ 64) : x &&& (2 ^ 64 - (3 + 1)) = x / 4 * 4 := by
  have e : x / 4 * 4 = (x >>> 2) <<< 2 := by rw [Nat.shiftRight_eq_div_pow, Nat.shiftLeft_eq]
  rw [e]
  apply Nat.eq_of_testBit_eq
  intro j
  rw [Nat.testBit_and, Nat.testBit_two_pow_sub_succ (by decide), Nat.testBit_shiftLeft, Nat.testBit_shiftRight]
  by_cases h2 : 2 ≤ j
  · have h3 : Nat.testBit 3 j = false := Nat.testBit_lt_two_pow (Nat.lt_of_lt_of_le (show 3 < 2 ^ 2 by decide) (Nat.pow_le_pow_right (by decide) h2))
    rw [h3, show 2 + (j - 2) = j by omega]
    by_cases h64 : j < 64
    · simp [h2, h64]
    · have : Nat.testBit x j = false := Nat.testBit_lt_two_pow (Nat.lt_of_lt_of_le hx (Nat.pow_le_pow_right (by decide) (by omega)))
      simp [this]
  · rcases (show j = 0 ∨ j = 1 by omega) with rfl | rfl
    · simp
    · simp [show Nat.testBit 3 1 = true from rfl]
theorem andnot3 (m : Int) (h0 : -9223372036854775808 ≤ m) (h1 : m ≤ 9223372036854775807) : bits .andNot .i64 m 3 = m - m % 4 := by
  show IntKind.i64.wrap ((BitVec.ofInt 64 m &&& ~~~ BitVec.ofInt 64 3).toNat : Nat) = m - m % 4
  have e1 : (~~~ BitVec.ofInt 64 3).toNat = 2 ^ 64 - (3 + 1) := rfl
  rw [BitVec.toNat_and, e1, nat_andnot3 _ (BitVec.isLt _), BitVec.toNat_ofInt]
  have h2 : ((2 ^ 64 : Nat) : Int) = 18446744073709551616 := rfl
  rw [h2, IntKind.wrap_i64]
  omega
/-- is it a method? -/
def mtdB (m : Int) : Bool := decide (16 ≤ m ∧ m < 20 ∨ 32 ≤ m ∧ m < 36)
theorem isMethod_any (m : Int) (w : World) (h0 : -9223372036854775808 ≤ m) (h1 : m ≤ 9223372036854775807) : Calls Try.prog 49 #[.int .i64 m] w fun e w' => e = .returned (.bool (mtdB m)) ∧ w' = w := by
  obtain ⟨M4, hM⟩ : ∃ M4, m - m % 4 = M4 := ⟨_, rfl⟩
  have f1 : bits .andNot .i64 m 3 = M4 := by rw [andnot3 m h0 h1, hM]
  obtain ⟨D, hD⟩ : ∃ D, mtdB m = D := ⟨_, rfl⟩
  rw [hD]
  unfold mtdB at hD
  by_cases e1 : M4 = 16
  · have q1 : (M4 == 16) = true := by simp [e1]
    have : D = true := by rw [← hD]; simp; omega
    subst this
    clear hM e1 hD
    go_enter Try.func49, Try.ntmps49
    go_wp2
    go_ret
    exact ⟨rfl, rfl⟩
  · have q1 : (M4 == 16) = false := by simp [e1]
    obtain ⟨D2, q2⟩ : ∃ D2, (M4 == 32) = D2 := ⟨_, rfl⟩
    have : D = D2 := by
      rw [← hD, ← q2]
      by_cases e2 : M4 = 32
      · simp [e2]; omega
      · rw [show (M4 == 32) = false by simp [e2]]; simp; omega
    subst this
    clear hM e1 hD
    go_enter Try.func49, Try.ntmps49
    go_wp2
    go_ret
    exact ⟨rfl, rfl⟩
/-- a method, by its number -/
theorem mtd_cases {m : Int} (h : mtdB m = true) : m = 16 ∨ m = 17 ∨ m = 18 ∨ m = 19 ∨ m = 32 ∨ m = 33 ∨ m = 34 ∨ m = 35 := by
  unfold mtdB at h
  simp at h
  omega
theorem isBeside_any (m : Int) (w : World) (h : mtdB m = true) : Calls Try.prog 50 #[.int .i64 m] w fun e w' => e = .returned (.bool (decide (m % 4 < 2))) ∧ w' = w := by
  rcases mtd_cases h with rfl | rfl | rfl | rfl | rfl | rfl | rfl | rfl
  all_goals
    clear h
    go_enter Try.func50, Try.ntmps50
    go_wp2
    go_ret
    exact ⟨by first | rfl | decide, rfl⟩
theorem measuredChild_any (m : Int) (w : World) (h : mtdB m = true) : Calls Try.prog 63 #[.int .i64 m] w fun e w' => e = .returned (.int .i64 (m % 2)) ∧ w' = w := by
  rcases mtd_cases h with rfl | rfl | rfl | rfl | rfl | rfl | rfl | rfl
  all_goals
    clear h
    go_enter Try.func63, Try.ntmps63
    go_wp2
    go_ret
    exact ⟨by first | rfl | decide, rfl⟩
def scrB (x y : Int) : Bool := decide (0 ≤ x ∧ x ≤ 1000 ∧ 0 ≤ y ∧ y ≤ 1000)
theorem isScreen_any (x y : Int) (w : World) : Calls Try.prog 52 #[.int .i64 x, .int .i64 y] w fun e w' => e = .returned (.bool (scrB x y)) ∧ w' = w := by
  obtain ⟨D, hD⟩ : ∃ D, scrB x y = D := ⟨_, rfl⟩
  rw [hD]
  unfold scrB at hD
  by_cases e1 : 0 ≤ x
  · by_cases e2 : x ≤ 1000
    · by_cases e3 : 0 ≤ y
      · by_cases e4 : y ≤ 1000
        · have : D = true := by rw [← hD]; simp [*]
          subst this
          clear hD
          go_enter Try.func52, Try.ntmps52
          go_wp2
          go_ret
          exact ⟨rfl, rfl⟩
        · have : D = false := by rw [← hD]; exact decide_eq_false (by omega)
          subst this
          clear hD
          go_enter Try.func52, Try.ntmps52
          go_wp2
          go_ret
          exact ⟨rfl, rfl⟩
      · have : D = false := by rw [← hD]; exact decide_eq_false (by omega)
        subst this
        clear hD
        go_enter Try.func52, Try.ntmps52
        go_wp2
        go_ret
        exact ⟨rfl, rfl⟩
    · have : D = false := by rw [← hD]; exact decide_eq_false (by omega)
      subst this
      clear hD
      go_enter Try.func52, Try.ntmps52
      go_wp2
      go_ret
      exact ⟨rfl, rfl⟩
  · have : D = false := by rw [← hD]; exact decide_eq_false (by omega)
    subst this
    clear hD
    go_enter Try.func52, Try.ntmps52
    go_wp2
    go_ret
    exact ⟨rfl, rfl⟩
theorem new_bad (x y : Int) (w : World) (h : scrB x y = false) : Calls Try.prog 33 #[.int .i64 x, .int .i64 y] w fun e w' => e = .returned (.tuple #[.pointer none, .int .i64 1]) ∧ w' = w := by
  have HS := hidden (isScreen_any x y w)
  rw [h] at HS
  clear h
  go_enter Try.func33, Try.ntmps33
  go_wp2_with (first | (go_at_call 52; refine HS.out.mono ?_; rintro e w1 ⟨rfl, rfl⟩) | fail)
  go_ret2
  exact ⟨rfl, rfl⟩
theorem new_good (x y : Int) (w : World) (h : scrB x y = true) : Calls Try.prog 33 #[.int .i64 x, .int .i64 y] w fun e w' => e = .returned (.tuple #[.pointer (some ⟨w.heap.size, 0, none⟩), .int .i64 0]) ∧ PAt w.heap.size w' w.heap.size (.slice none 0 0) ⟨x, y, 0, 0, []⟩ ∧ Below w.heap.size w w' := by
  have HS := hidden (isScreen_any x y w)
  rw [h] at HS
  clear h
  have HF : Hid (PAt w.heap.size (w.alloc (.cells #[.int .i64 x, .int .i64 y, .int .i64 0, .int .i64 0, .slice none 0 0] 76)) w.heap.size (.slice none 0 0) ⟨x, y, 0, 0, []⟩) := hidden ⟨Nat.le_refl _, heap_alloc_new w _, ⟨rfl, .inl ⟨rfl, rfl⟩⟩⟩
  go_enter Try.func33, Try.ntmps33
  go_wp2_with (first | (go_at_call 52; refine HS.out.mono ?_; rintro e w1 ⟨rfl, rfl⟩) | fail)
  go_ret2
  exact ⟨rfl, HF.out, (Below.refl _ _).alloc (Nat.le_refl _) _⟩
theorem info_wd : (Try.prog.info? 79).map (fun i => (i.zero, i.size, i.bytes)) = some (some (.agg #[.int .i64 0, .int .i64 0, .int .i64 0, .int .i64 0, .int .i64 0, .int .i64 0, .int .u32 0, .int .i64 0]), 8, 64) := by kernel_rfl
theorem wd_parts : ∃ i, Try.prog.info? 79 = some i ∧ i.zero = some (.agg #[.int .i64 0, .int .i64 0, .int .i64 0, .int .i64 0, .int .i64 0, .int .i64 0, .int .u32 0, .int .i64 0]) ∧ i.size = 8 ∧ i.bytes = 64 := by
  have h := info_wd
  cases hq : Try.prog.info? 79 with
  | none => rw [hq] at h; simp at h
  | some i => rw [hq] at h; simp at h; exact ⟨i, rfl, h.1, h.2.1, h.2.2⟩
theorem step_appW {w : World} {ops : Array Oper} {o : Oper} {a : Act} {K : Act → World → Prop} {Q : Exit → Act → World → Prop} {E : Prop} (hgd : o.guard = none) (s x : Operand)
    (ho : o.op = .call { callee := .builtin .append, args := #[s, x], argTypes := #[74, 74] })
    (base : Nat) (v : Value) (L : List Wd) (hs : a.eval s = v) (hown : w.ownsRow base 79 8 v L.length (wdsV L))
    (ad : Addr) (c : Nat) (d : Wd) (hx : a.eval x = .slice (some ad) 1 c) (hnews : ∀ j u, (wdV d)[j]? = some u → w.cell? (ad.add j) = some u)
    (hn : L.length ≤ 1000) (hbase : base ≤ w.heap.size)
    (h : ∀ a' c' w', w'.ownsRow base 79 8 (.slice a' (L.length + 1) c') (L.length + 1) (wdsV (L ++ [d])) → Hid (Fm w w' (fun k => v.ownBlock = some k) (fun k => (Value.slice a' (L.length + 1) c').ownBlock = some k)) → K (a.put o.dst (.slice a' (L.length + 1) c')) w') :
    if Region.wanted o (yielded ops a.tmps) = true then Oper.wp Try.prog o a w K Q else E := by
  have hw : Region.wanted o (yielded ops a.tmps) = true := by simp [Region.wanted, hgd]
  rw [if_pos hw]
  obtain ⟨i0, hi, hz0, hz1, hz2⟩ := wd_parts
  obtain ⟨v', w', hr, h2, h3, h4⟩ := run_append_at (P := Try.prog) (w := w) base 74 o.type 79 i0 _ 8 64 Try.underlying74 hi hz0 hz1 hz2 rfl (by decide) v L.length (wdsV L) hown ad 1 c (wdV d) rfl hnews (wdV_one d) (by unfold maxLen; omega) (by omega) hbase (by omega)
  have e : wdsV L ++ wdV d = wdsV (L ++ [d]) := by rw [wdsV_app]; simp [wdsV]
  rw [e] at h2
  obtain ⟨a', c', rfl⟩ := own_slice h2
  have hK := h a' c' w' h2 (fm_grown h3 h4)
  unfold Oper.wp
  simp [execOp, ho, resolve, invoke, builtin, hs, hx, hr, Result.andThen]
  exact hK
theorem box_cells {w : World} {g : Nat} {d : Wd} (h : w.heap[g]? = some (.cells (wdV d).toArray 79 (0, 0))) : ∀ j u, (wdV d)[j]? = some u → w.cell? ((⟨g, 0, none⟩ : Addr).add j) = some u := by
  intro j u hj
  rw [Addr.add_lit, Nat.zero_add]
  simp only [World.cell?, h]
  simpa using hj
theorem box_eight {w : World} {g : Nat} {d : Wd} (h : w.heap[g]? = some (.cells (wdV d).toArray 79 (0, 0))) : w.cell? ⟨g, 0, none⟩ = some (.int .i64 d.n) ∧ w.cell? ⟨g, 1, none⟩ = some (.int .i64 d.k) ∧ w.cell? ⟨g, 2, none⟩ = some (.int .i64 d.p) ∧ w.cell? ⟨g, 3, none⟩ = some (.int .i64 d.a) ∧ w.cell? ⟨g, 4, none⟩ = some (.int .i64 d.b) ∧ w.cell? ⟨g, 5, none⟩ = some (.int .i64 d.m) ∧ w.cell? ⟨g, 6, none⟩ = some (.int .u32 d.s) ∧ w.cell? ⟨g, 7, none⟩ = some (.int .i64 d.key) := by
  have hc := box_cells h
  have hk : ∀ j, j < 8 → ∀ u, (wdV d)[j]? = some u → w.cell? ⟨g, j, none⟩ = some u := fun j hj u hu => by
    have := hc j u hu
    rwa [Addr.add_lit, Nat.zero_add] at this
  exact ⟨hk 0 (by omega) _ rfl, hk 1 (by omega) _ rfl, hk 2 (by omega) _ rfl, hk 3 (by omega) _ rfl, hk 4 (by omega) _ rfl, hk 5 (by omega) _ rfl, hk 6 (by omega) _ rfl, hk 7 (by omega) _ rfl⟩
set_option maxHeartbeats 8000000 in
theorem add_any {B m : Nat} {v : Value} {s : Ps} {w : World} (h : PAt B w m v s) (hB : B ≤ w.heap.size) (hl : 0 ≤ s.last ∧ s.last ≤ 1000000) (hn : s.L.length ≤ 1000) (d : Wd) :
    Calls Try.prog 39 #[.pointer (some ⟨m, 0, none⟩), wdA d] w fun e w' => e = .returned (.int .i64 (s.last + 1)) ∧ ∃ v', PAt B w' m v' { s with last := s.last + 1, L := s.L ++ [{ d with n := s.last + 1 }] } ∧ Fm w w' (TP m v) (TP m v') := by
  unfold wdA
  have HP := hidden h
  obtain ⟨d0, d1, d2, d3, d4, d5⟩ := h.cells
  have dl := h.lt
  have d53 := d5 3
  obtain ⟨l0, l1⟩ := hl
  have HW1 : Hid (PAt B ((w.setCell ⟨m, 3, none⟩ (.int .i64 (s.last + 1))).alloc (.cells #[.int .i64 (s.last + 1), .int .i64 d.k, .int .i64 d.p, .int .i64 d.a, .int .i64 d.b, .int .i64 d.m, .int .u32 d.s, .int .i64 d.key] 79)) m v { s with last := s.last + 1 }) := hidden ((h.set3 (s.last + 1)).1.later ((Below.refl _ _).alloc (Nat.le_refl _) _))
  have HW2 : Hid (Fm w ((w.setCell ⟨m, 3, none⟩ (.int .i64 (s.last + 1))).alloc (.cells #[.int .i64 (s.last + 1), .int .i64 d.k, .int .i64 d.p, .int .i64 d.a, .int .i64 d.b, .int .i64 d.m, .int .u32 d.s, .int .i64 d.key] 79)) (TP m v) (TP m v)) := hidden ((h.set3 (s.last + 1)).2.trans (Fm.same ((Below.refl _ _).alloc (Nat.le_refl _) _)))
  have hsz : (w.setCell ⟨m, 3, none⟩ (.int .i64 (s.last + 1))).heap.size = w.heap.size := by simp
  have HW3 : Hid (((w.setCell ⟨m, 3, none⟩ (.int .i64 (s.last + 1))).alloc (.cells #[.int .i64 (s.last + 1), .int .i64 d.k, .int .i64 d.p, .int .i64 d.a, .int .i64 d.b, .int .i64 d.m, .int .u32 d.s, .int .i64 d.key] 79)).heap[w.heap.size]? = some (.cells (wdV { d with n := s.last + 1 }).toArray 79 (0, 0))) := hidden (by
    have := heap_alloc_new (w.setCell ⟨m, 3, none⟩ (.int .i64 (s.last + 1))) (.cells #[.int .i64 (s.last + 1), .int .i64 d.k, .int .i64 d.p, .int .i64 d.a, .int .i64 d.b, .int .i64 d.m, .int .u32 d.s, .int .i64 d.key] 79)
    rw [hsz] at this
    exact this)
  obtain ⟨LA, hLA⟩ : ∃ LA, s.last = LA := ⟨_, rfl⟩
  rw [hLA] at d3 l0 l1 HW1 HW2 HW3
  rw [hLA]
  have HFIN : Hid (∀ w' v', PAt B w' m v' { s with last := LA + 1, L := s.L ++ [{ d with n := LA + 1 }] } → Fm w w' (TP m v) (TP m v') → ∃ v', PAt B w' m v' { s with last := LA + 1, L := s.L ++ [{ d with n := LA + 1 }] } ∧ Fm w w' (TP m v) (TP m v')) := hidden (fun w' v' h1 h2 => ⟨v', h1, h2⟩)
  generalize hPQ : (fun (w' : World) => ∃ v', PAt B w' m v' { s with last := LA + 1, L := s.L ++ [{ d with n := LA + 1 }] } ∧ Fm w w' (TP m v) (TP m v')) = PQ
  have HFIN : Hid (∀ w' v', PAt B w' m v' { s with last := LA + 1, L := s.L ++ [{ d with n := LA + 1 }] } → Fm w w' (TP m v) (TP m v') → PQ w') := hidden (fun w' v' h1 h2 => by rw [← hPQ]; exact ⟨v', h1, h2⟩)
  suffices hS : Calls Try.prog 39 #[.pointer (some ⟨m, 0, none⟩), .agg #[.int .i64 d.n, .int .i64 d.k, .int .i64 d.p, .int .i64 d.a, .int .i64 d.b, .int .i64 d.m, .int .u32 d.s, .int .i64 d.key]] w fun e w' => e = .returned (.int .i64 (LA + 1)) ∧ PQ w' by
    refine hS.mono (fun e w' hh => ⟨hh.1, ?_⟩)
    have := hh.2
    rw [← hPQ] at this
    exact this
  have hBs := hB
  clear hPQ h d0 d1 d2 d5 hLA hsz
  go_enter Try.func39, Try.ntmps39
  go_upto_region 3 with fail
  have hwl : w.heap.size ≤ w.heap.size := Nat.le_refl _
  generalize hW : (w.setCell ⟨m, 3, none⟩ (.int .i64 (LA + 1))).alloc (.cells #[.int .i64 (LA + 1), .int .i64 d.k, .int .i64 d.p, .int .i64 d.a, .int .i64 d.b, .int .i64 d.m, .int .u32 d.s, .int .i64 d.key] 79) = W at *
  have hg : w.heap.size < W.heap.size := (Array.getElem?_eq_some_iff.1 HW3.out).1
  obtain ⟨_, _, _, _, e4, e5⟩ := HW1.out.cells
  have e54 := e5 4
  have hm := HW1.out.lt
  obtain ⟨b0, b1, b2, b3, b4, b5, b6, b7⟩ := box_eight HW3.out
  have hmg : m ≠ w.heap.size := by omega
  have HNG : Hid (¬ v.ownBlock = some w.heap.size) := hidden (fun e => by
    have := (HP.out.row.lt _ e).2
    omega)
  generalize w.heap.size = G at *
  clear hW d3 d4 d53 e5
  have HOW : Hid (∀ wx : World, Below W.heap.size W wx → wx.ownsRow B 79 8 v s.L.length (wdsV s.L)) := hidden (fun wx hb => own_later HW1.out.row hb)
  have HST : Hid (∀ (wp w2 : World) (a' : Option Addr) (c' : Nat), Below W.heap.size W wp → w2.ownsRow B 79 8 (.slice a' (s.L.length + 1) c') (s.L.length + 1) (wdsV (s.L ++ [{ d with n := LA + 1 }])) → Fm wp w2 (fun j => v.ownBlock = some j) (fun j => (Value.slice a' (s.L.length + 1) c').ownBlock = some j) → (w2.cell? ⟨m, 4, none⟩ = some v ∧ w2.frozen? ⟨m, 4, none⟩ = false) ∧ Hid (PQ (w2.setCell ⟨m, 4, none⟩ (.slice a' (s.L.length + 1) c'))) ∧ (w2.setCell ⟨m, 4, none⟩ (.slice a' (s.L.length + 1) c')).cell? ⟨G, 0, none⟩ = some (.int .i64 (LA + 1))) := hidden (fun wp w2 a' c' hb ho f => by
    have f2 : Fm W w2 (fun k => v.ownBlock = some k) (fun k => (Value.slice a' (s.L.length + 1) c').ownBlock = some k) := (Fm.same hb).trans f
    have hl : (s.L ++ [{ d with n := LA + 1 }]).length = s.L.length + 1 := by simp
    obtain ⟨g1, g2⟩ := HW1.out.grown f2 (L := s.L ++ [{ d with n := LA + 1 }]) (by rw [hl]; exact ho)
    have hm2 : w2.heap[m]? = W.heap[m]? := f2.block m hm HW1.out.ne
    have hG2 : w2.heap[G]? = W.heap[G]? := f2.block G hg HNG.out
    refine ⟨⟨by rw [World.cell?_of_block hm2]; exact e4, by rw [World.frozen?_of_block hm2]; exact e54⟩, hidden (HFIN.out _ _ g1 (HW2.out.trans g2)), ?_⟩
    have : (w2.setCell ⟨m, 4, none⟩ (.slice a' (s.L.length + 1) c')).heap[G]? = W.heap[G]? := by rw [heap_setCell_other _ _ _ _ (Ne.symm hmg)]; exact hG2
    rw [World.cell?_of_block this]
    exact b0)
  have HNW : Hid (∀ wx : World, wx.heap = (W.alloc (.cells #[.int .i64 (LA + 1), .int .i64 d.k, .int .i64 d.p, .int .i64 d.a, .int .i64 d.b, .int .i64 d.m, .int .u32 d.s, .int .i64 d.key] 79)).heap → ∀ j u, (wdV { d with n := LA + 1 })[j]? = some u → wx.cell? ((⟨W.heap.size, 0, none⟩ : Addr).add j) = some u) := hidden (fun wx e j u hj => by
    have hh := heap_alloc_new W (.cells #[.int .i64 (LA + 1), .int .i64 d.k, .int .i64 d.p, .int .i64 d.a, .int .i64 d.b, .int .i64 d.m, .int .u32 d.s, .int .i64 d.key] 79)
    rw [← e] at hh
    exact box_cells (d := { d with n := LA + 1 }) hh j u hj)
  have hBW : B ≤ W.heap.size := by omega
  have HN := hidden hn
  clear HW1 HW2 HW3 HFIN HP hn
  go_region_law (first | (refine step_appW (by rfl) _ _ (by rfl) B v s.L (by rfl) (HOW.out _ (by repeat (first | exact Below.refl _ _ | apply Below.drew | (refine Below.alloc ?_ (by first | omega | (simp; omega) | simp) _)))) _ 1 { d with n := LA + 1 } (by rfl) (HNW.out _ (by rfl)) HN.out (by first | omega | (simp; omega) | simp) ?_; intro a2 c2 w2 ho2 f2; obtain ⟨⟨q1, q2⟩, HG, q3⟩ := HST.out _ _ _ _ (by repeat (first | exact Below.refl _ _ | apply Below.drew | (refine Below.alloc ?_ (by first | omega | (simp; omega) | simp) _))) ho2 f2.out; clear ho2 f2) | fail)
  all_goals (try go_wp2)
  all_goals go_ret
  all_goals exact ⟨rfl, HG.out⟩
end Go.Proofs.Ytilfgbcbodjegaa
