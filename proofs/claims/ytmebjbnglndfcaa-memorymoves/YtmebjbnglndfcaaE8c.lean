/- Contracts of slices.Insert within a row of blocks, and of slices.Delete. -/
import Derived.Test.YtmebjbnglndfcaaE8b
namespace Go.Proofs.Ytmebjbnglndfcaa
open Go.RowKit
set_option maxHeartbeats 1000000
set_option maxRecDepth 100000
set_option linter.unusedVariables false

theorem src_vb {w : World} {vb : Nat} {b : Bk} (hv : w.heap[vb]? = some (.cells #[.int .u32 b.a, .int .u32 b.l] 99 (0, 0))) : ∀ j u, (bkV b)[j]? = some u → w.cell? ((⟨vb, 0, none⟩ : Addr).add j) = some u := by
  intro j u hj
  rw [Addr.add_lit]
  simp only [World.cell?, hv, Nat.zero_add]
  simpa [bkV] using hj
theorem bkV_one (b : Bk) : ∀ u ∈ bkV b, u.oneCell' = true := by intro u hu; simp [bkV] at hu; rcases hu with rfl | rfl <;> rfl
theorem src_row {w : World} {g n i : Nat} {bs : List Bk} {cur : List Value} (hg : w.heap[g]? = some (.cells cur.toArray 99 (0, 0))) (htk : cur.take (n * 2) = bksV bs) : ∀ j u, (bksV (bs.drop i))[j]? = some u → w.cell? ((⟨g, i * 2, none⟩ : Addr).add j) = some u := by
  intro j u hj
  rw [Addr.add_lit]
  rw [← bksV_drop, List.getElem?_drop, ← htk, List.getElem?_take] at hj
  split at hj
  · simp only [World.cell?, hg]; simpa using hj
  · cases hj
theorem overlaps_no {w : World} {vb g : Nat} {cs cur : List Value} {t1 t2 : TypeId} (hv : w.heap[vb]? = some (.cells cs.toArray t1 (0, 0))) (hg : w.heap[g]? = some (.cells cur.toArray t2 (0, 0))) (hne : vb ≠ g) (h0 : 0 < cur.length) (off lb cb : Nat) :
    (callFunc 78 #[.slice (some ⟨vb, 0, none⟩) 1 1, .slice (some ⟨g, off, none⟩) lb cb]).run Try.prog w = .ok (.value (.bool false)) w := by
  have hz : ∀ w, (Go.sizeOf 99).run Try.prog w = .ok 2 w := fun w => by kernel_rfl
  rw [run_callFunc_extern Try.func78 (by kernel_rfl) (by kernel_rfl) (by kernel_rfl) (e := Extern.SlicesOverlaps.overlaps #[40, 40] #[4]) (by kernel_rfl),
    Lib.run_overlaps_apart w 40 4 99 Try.underlying40 2 hz ⟨vb, 0, none⟩ ⟨g, off, none⟩ 1 1 lb cb hne t1 t2 cs.length cur.length
      (by simp [World.shape?, hv]) (by simp [World.shape?, hg]) (by omega) (by simp [World.frozen?, hv]) (by simp [World.frozen?, hv])]
  rfl
theorem splice_two (cur X V : List Value) (p : Nat) (hV : V.length = 2) (hl : p + 2 + X.length ≤ cur.length) :
    splice (splice cur (p + 2) X) p V = cur.take p ++ (V ++ (X ++ cur.drop (p + 2 + X.length))) := by
  unfold splice
  rw [hV]
  have e1 : (cur.take (p + 2)).length = p + 2 := by rw [List.length_take]; omega
  have e2 : (cur.take (p + 2) ++ (X ++ cur.drop (p + 2 + X.length))).take p = cur.take p := by
    rw [List.take_append_of_le_length (by omega), List.take_take]; congr 1; omega
  have e3 : (cur.take (p + 2) ++ (X ++ cur.drop (p + 2 + X.length))).drop (p + 2) = X ++ cur.drop (p + 2 + X.length) := by
    rw [List.drop_append_of_le_length (by omega), List.drop_of_length_le (by omega), List.nil_append]
  rw [e2, e3]
theorem take_ins (cur X V R : List Value) (p : Nat) (hV : V.length = 2) (hp : p ≤ cur.length) : (cur.take p ++ (V ++ (X ++ R))).take (p + 2 + X.length) = cur.take p ++ (V ++ X) := by
  rw [← List.append_assoc V X R, ← List.append_assoc, List.take_append_of_le_length (by simp; omega), List.take_of_length_le (by simp; omega)]
set_option maxHeartbeats 2000000 in
theorem insert_shift (B : Nat) (ao : Option Addr) (n c i : Nat) (bs : List Bk) (b : Bk) (vb : Nat) (w : World) (hown : w.ownsRow B 99 2 (.slice ao n c) n (bksV bs)) (hB : B ≤ w.heap.size) (hn : n ≤ 4096) (hi : i < n) (hroom : n + 1 ≤ c)
    (hv : w.heap[vb]? = some (.cells #[.int .u32 b.a, .int .u32 b.l] 99 (0, 0))) (hne : (Value.slice ao n c).ownBlock ≠ some vb) :
    Calls Try.prog 67 #[.slice ao n c, .int .i64 i, .slice (some ⟨vb, 0, none⟩) 1 1] w fun e w' => ∃ ao' c', e = .returned (.slice ao' (n + 1) c') ∧ w'.ownsRow B 99 2 (.slice ao' (n + 1) c') (n + 1) (bksV (bs.take i ++ b :: bs.drop i)) ∧ w.grownBy w' (Value.slice ao n c).ownBlock ∧ (∀ k, (Value.slice ao' (n + 1) c').ownBlock = some k → (Value.slice ao n c).ownBlock = some k ∨ w.heap.size ≤ k) := by
  obtain ⟨i0, hi0, hz0, hz1, hz2⟩ := bk_parts
  obtain ⟨g, cur, rfl, hBg, hg, hnc, hcm, hcl, htk, hbl⟩ := own_cur hown (by omega)
  have hvg : vb ≠ g := fun e => hne (by simp [Value.ownBlock, e])
  have hov := fun off lb cb => overlaps_no (cs := [.int .u32 b.a, .int .u32 b.l]) (by simpa using hv) hg hvg (by omega) off lb cb
  have hcm' : c ≤ 9223372036854775807 := hcm
  have c1 : ¬ (i : Int) = (n : Int) := by omega
  have c2 : ¬ (c : Int) < (n : Int) + 1 := by omega
  have c3 : ¬ c = i := by omega
  have c4 : ¬ c = i + 1 := by omega
  have hw1 : IntKind.i64.wrap ((i : Int) + 1) = (i : Int) + 1 := by rw [IntKind.wrap_i64]; omega
  have hb1 : (0 : Int) ≤ (i : Int) + 1 := by omega
  have htn : ((i : Int) + 1).toNat = i + 1 := by omega
  have hb3 : (i : Int) ≤ (n : Int) + 1 := by omega
  have hin : i ≤ n := by omega
  have HG := hidden8 hg
  have HV := hidden8 hv
  clear hown hg hv hne
  go_enter Try.func67, Try.ntmps67
  go_wp2_with (simp only [hov])
  go_region_law (refine step_copyk 2 rfl (.tmp 73) (.tmp 76) 40 40 rfl 99 Try.underlying40 info_bk2 g ((i + 1) * 2) (n + 1 - (i + 1)) (c - (i + 1)) ⟨g, i * 2, none⟩ (n + 1 - i) (c - i) (by simp [Act.eval, Act.put]) (by simp [Act.eval, Act.put]) cur 99 HG.out (bksV (bs.drop i)) (n - i) (by show min _ _ = _; omega) (by rw [bksV_len, List.length_drop, hbl]) (src_row HG.out htk) (by rw [bksV_len, List.length_drop, hbl, hcl]; omega) (bksV_one _) ?_; intro w1 HG1 HW1)
  have hv1 : w1.heap[vb]? = some (.cells #[.int .u32 b.a, .int .u32 b.l] 99 (0, 0)) := by
    rw [HW1.out.block vb (by have := (Array.getElem?_eq_some_iff.1 HV.out).1; simpa using this) (by simpa using hvg)]; exact HV.out
  have HV1 := hidden8 hv1
  clear hv1
  go_wp2_with (first | (refine wpList_copyk 2 rfl (.tmp 80) (.tmp 81) 40 40 rfl 99 Try.underlying40 info_bk2 g (i * 2) (n + 1 - i) (c - i) ⟨vb, 0, none⟩ 1 1 rfl rfl (splice cur ((i + 1) * 2) (bksV (bs.drop i))) 99 HG1.out (bkV b) 1 (by show min _ _ = _; omega) rfl (src_vb HV1.out) (by rw [length_splice _ _ _ (by rw [bksV_len, List.length_drop, hbl, hcl]; omega), hcl]; simp [bkV]; omega) (bkV_one b) ?_; intro w2 HG2 HW2) | fail)
  go_ret
  have hX : (bksV (bs.drop i)).length = (n - i) * 2 := by rw [bksV_len, List.length_drop, hbl]
  have hV : (bkV b).length = 2 := rfl
  have hg2 := HG2.out
  rw [show (i + 1) * 2 = i * 2 + 2 by omega, splice_two _ _ _ _ hV (by rw [hX, hcl]; omega)] at hg2
  refine ⟨_, _, rfl, own_of hBg hg2 (by omega) hcm (by simp [hX, hV]; omega) ?_ (by simp; omega), ?_, fun k hk => .inl hk⟩
  · rw [show (n + 1) * 2 = i * 2 + 2 + (bksV (bs.drop i)).length by rw [hX]; omega, take_ins _ _ _ _ _ hV (by omega), bksV_app, bksV_cons]
    congr 1
    rw [← bksV_take, ← htk, List.take_take]; congr 1; omega
  · exact ((grown_drew w _).trans HW1.out).trans HW2.out
theorem splice_two' (R X V : List Value) (p : Nat) (hV : V.length = 2) (hl : p + 2 + X.length ≤ R.length) :
    splice (splice R p V) (p + 2) X = R.take p ++ (V ++ (X ++ R.drop (p + 2 + X.length))) := by
  unfold splice
  rw [hV]
  have e1 : (R.take p).length = p := by rw [List.length_take]; omega
  have e2 : (R.take p ++ (V ++ R.drop (p + 2))).take (p + 2) = R.take p ++ V := by
    rw [← List.append_assoc, List.take_append_of_le_length (by simp; omega), List.take_of_length_le (by simp; omega)]
  have e3 : (R.take p ++ (V ++ R.drop (p + 2))).drop (p + 2 + X.length) = R.drop (p + 2 + X.length) := by
    rw [← List.append_assoc, List.drop_append, List.drop_of_length_le (by simp; omega), List.nil_append, List.drop_drop]
    congr 1; simp; omega
  rw [e2, e3, List.append_assoc]
set_option maxHeartbeats 2000000 in
theorem insert_grow (B : Nat) (ao : Option Addr) (n c i : Nat) (bs : List Bk) (b : Bk) (vb : Nat) (w : World) (hown : w.ownsRow B 99 2 (.slice ao n c) n (bksV bs)) (hB : B ≤ w.heap.size) (hn : n ≤ 4096) (hi : i < n) (hroom : c < n + 1)
    (hv : w.heap[vb]? = some (.cells #[.int .u32 b.a, .int .u32 b.l] 99 (0, 0))) :
    Calls Try.prog 67 #[.slice ao n c, .int .i64 i, .slice (some ⟨vb, 0, none⟩) 1 1] w fun e w' => ∃ ao' c', e = .returned (.slice ao' (n + 1) c') ∧ w'.ownsRow B 99 2 (.slice ao' (n + 1) c') (n + 1) (bksV (bs.take i ++ b :: bs.drop i)) ∧ w.grownBy w' (Value.slice ao n c).ownBlock ∧ (∀ k, (Value.slice ao' (n + 1) c').ownBlock = some k → (Value.slice ao n c).ownBlock = some k ∨ w.heap.size ≤ k) := by
  obtain ⟨i0, hi0, hz0, hz1, hz2⟩ := bk_parts
  obtain ⟨g, cur, rfl, hBg, hg, hnc, hcm, hcl, htk, hbl⟩ := own_cur hown (by omega)
  have hgw : g < w.heap.size := (Array.getElem?_eq_some_iff.1 hg).1
  have hvw : vb < w.heap.size := (Array.getElem?_eq_some_iff.1 hv).1
  have hcm' : c ≤ 9223372036854775807 := hcm
  have c1 : ¬ (i : Int) = (n : Int) := by omega
  have c2 : (c : Int) < (n : Int) + 1 := by omega
  have c3 : ¬ c = i := by omega
  have htl : bksV (bs.take i) = cur.take (i * 2) := by rw [← bksV_take, ← htk, List.take_take]; congr 1; omega
  have hTl : (bksV (bs.take i)).length = i * 2 := by rw [bksV_len, List.length_take, hbl]; omega
  have hold : (Builtin.firstCells i0.size i (.slice (some ⟨g, 0, none⟩) i c)).run Try.prog w.drew = .ok (bksV (bs.take i)).toArray w.drew := by
    rw [hz1]
    exact run_firstCells_some w.drew 2 i ⟨g, 0, none⟩ i c (bksV (bs.take i)) hTl (fun j u hj => by
      rw [Addr.add_lit, Nat.zero_add]
      rw [htl, List.getElem?_take] at hj
      split at hj
      · show w.cell? _ = _
        simp only [World.cell?, hg]; simpa using hj
      · cases hj)
  obtain ⟨G, hG⟩ : ∃ G, G = grownCap w (n + 1) c 99 := ⟨_, rfl⟩
  have hGn : n + 1 ≤ G := by rw [hG]; exact grownCap_ge w _ _ _
  have hG63 : G ≤ maxLen := by rw [hG]; exact grownCap_le_maxLen w (n + 1) c _ (by unfold maxLen; omega)
  have hG63' : G ≤ 9223372036854775807 := hG63
  obtain ⟨ROW, hROW⟩ : ∃ ROW : List Value, ROW = ((bksV (bs.take i)).toArray ++ Builtin.zeroCells (Value.agg #[.int .u32 0, .int .u32 0]).cells (n + 1 - i) ++ Builtin.zeroCells (Value.agg #[.int .u32 0, .int .u32 0]).cells (G - (n + 1))).toList := ⟨_, rfl⟩
  have hRl : ROW.length = G * 2 := by
    have z2 : (Value.agg #[.int .u32 0, .int .u32 0]).cells.size = 2 := rfl
    rw [hROW]; simp only [Array.length_toList, Array.size_append, size_zeroCells, z2, List.size_toArray, hTl]; omega
  have hRt : ROW.take (i * 2) = bksV (bs.take i) := by
    rw [hROW]; simp only [Array.toList_append, List.append_assoc]; rw [List.take_append_of_le_length (by omega), List.take_of_length_le (by omega)]
  have hrz : ∀ ty, (Builtin.append_ #[40, 3] ty #[.slice (some ⟨g, 0, none⟩) i c, .int .i64 ((n : Int) + 1 - (i : Int))]).run Try.prog w = .ok (.slice (some ⟨w.heap.size, 0, none⟩) (n + 1) G) (w.drew.alloc (.cells ROW.toArray 99)) := fun ty => by
    have h := Lib.run_append_grow_zeros w 40 3 ty 99 i0 _ .i64 .i64 Try.underlying40 Try.underlying3 hi0 hz0 (some ⟨g, 0, none⟩) i c (bksV (bs.take i)) hold (n + 1 - i) (by omega) (by omega) (by omega) (by omega) (by rw [hz2]; omega) (by rw [hz2, show i + (n + 1 - i) = n + 1 by omega]; exact growslice_fits (by omega) (by omega))
    rw [show i + (n + 1 - i) = n + 1 by omega, ← hG] at h
    rw [show (n : Int) + 1 - (i : Int) = ((n + 1 - i : Nat) : Int) by omega, hROW, Array.toArray_toList]
    exact h
  have c4 : ¬ G = i + 1 := by omega
  have c5 : ¬ G = i := by omega
  have hw1 : IntKind.i64.wrap ((i : Int) + 1) = (i : Int) + 1 := by rw [IntKind.wrap_i64]; omega
  have hb1 : (0 : Int) ≤ (i : Int) + 1 := by omega
  have htn : ((i : Int) + 1).toNat = i + 1 := by omega
  have hb3 : (i : Int) ≤ (n : Int) + 1 := by omega
  have hin : i ≤ n := by omega
  have hb4 : (n : Int) + 1 ≤ (G : Int) := by omega
  have HW0 : Hid (w.grownBy (w.drew.alloc (.cells ROW.toArray 99)) none) := ⟨rfl, rfl, rfl, by simp, fun k hk _ => Go.heap_alloc_old w.drew _ hk⟩
  have HG0 : Hid ((w.drew.alloc (.cells ROW.toArray 99)).heap[w.heap.size]? = some (.cells ROW.toArray 99 (0, 0))) := heap_alloc_new w.drew _
  obtain ⟨W1, hW1⟩ : ∃ W1, W1 = w.drew.alloc (.cells ROW.toArray 99) := ⟨_, rfl⟩
  rw [← hW1] at hrz HW0 HG0
  have HG := hidden8 hg
  have HV := hidden8 hv
  have HROW := hidden8 hROW
  have HH := hidden8 hG
  have HOLD := hidden8 hold
  have HW1 := hidden8 hW1
  have HRZ := hidden8 hrz
  clear hown hg hv hROW hG hold hW1 hrz
  go_enter Try.func67, Try.ntmps67
  go_wp2_with (first | (at_builtin; refine Lib.wpList_append_run _ rfl (.tmp 34) (.tmp 39) 40 3 rfl _ _ rfl rfl _ _ (HRZ.out _) ?_) | (refine wpList_copyk 2 rfl (.tmp 43) (.tmp 44) 40 40 rfl 99 Try.underlying40 info_bk2 w.heap.size (i * 2) (n + 1 - i) (G - i) ⟨vb, 0, none⟩ 1 1 rfl rfl ROW 99 HG0.out (bkV b) 1 (by show min _ _ = _; omega) rfl (src_vb (by rw [HW0.out.block vb hvw (by simp)]; exact HV.out)) (by rw [hRl]; simp [bkV]; omega) (bkV_one b) ?_; intro w2 HG2 HW2) | fail)
  have hgN : g ≠ w.heap.size := by omega
  have hg2 : w2.heap[g]? = some (.cells cur.toArray 99 (0, 0)) := by
    rw [HW2.out.block g (by have := HW0.out.size; omega) (by simpa using hgN), HW0.out.block g hgw (by simp)]; exact HG.out
  have HGG := hidden8 hg2
  clear hg2
  have hX : (bksV (bs.drop i)).length = (n - i) * 2 := by rw [bksV_len, List.length_drop, hbl]
  have hV : (bkV b).length = 2 := rfl
  have hsl : (splice ROW (i * 2) (bkV b)).length = G * 2 := by rw [length_splice _ _ _ (by rw [hV, hRl]; omega), hRl]
  go_region_law (refine step_copyk 2 rfl (.tmp 50) (.tmp 53) 40 40 rfl 99 Try.underlying40 info_bk2 w.heap.size ((i + 1) * 2) (n + 1 - (i + 1)) (G - (i + 1)) ⟨g, i * 2, none⟩ (n - i) (c - i) (by simp [Act.eval, Act.put]) (by simp [Act.eval, Act.put]) (splice ROW (i * 2) (bkV b)) 99 HG2.out (bksV (bs.drop i)) (n - i) (by show min _ _ = _; omega) hX (src_row HGG.out htk) (by rw [hsl, hX]; omega) (bksV_one _) ?_; intro w3 HG3 HW3)
  go_wp2
  go_ret
  have hg3 := HG3.out
  rw [show (i + 1) * 2 = i * 2 + 2 by omega, splice_two' _ _ _ _ hV (by rw [hX, hRl]; omega)] at hg3
  refine ⟨_, _, rfl, own_of hB hg3 hGn hG63 (by simp [hX, hV, hRl]; omega) ?_ (by simp; omega), ?_, fun k hk => .inr (by simp only [Value.ownBlock, Option.some.injEq] at hk; omega)⟩
  · rw [show (n + 1) * 2 = i * 2 + 2 + (bksV (bs.drop i)).length by rw [hX]; omega, take_ins _ _ _ _ _ hV (by omega), bksV_app, bksV_cons, hRt]
  · have h1 := HW0.out
    have h2 := HW2.out
    have h3 := HW3.out
    have hs := h1.size
    have hs2 := h2.size
    refine ⟨h3.os.trans (h2.os.trans h1.os), h3.tape.trans (h2.tape.trans h1.tape), h3.output.trans (h2.output.trans h1.output), Nat.le_trans h1.size (Nat.le_trans h2.size h3.size), fun k hk _ => ?_⟩
    rw [h3.block k (by show k < w2.heap.size; omega) (by simp; omega)]
    show w2.heap[k]? = _
    rw [h2.block k (by omega) (by simp; omega), h1.block k hk (by simp)]
theorem insert_any (B : Nat) (ao : Option Addr) (n c i : Nat) (bs : List Bk) (b : Bk) (vb : Nat) (w : World) (hown : w.ownsRow B 99 2 (.slice ao n c) n (bksV bs)) (hB : B ≤ w.heap.size) (hn : n ≤ 4096) (hi : i ≤ n)
    (hv : w.heap[vb]? = some (.cells #[.int .u32 b.a, .int .u32 b.l] 99 (0, 0))) (hne : (Value.slice ao n c).ownBlock ≠ some vb) :
    Calls Try.prog 67 #[.slice ao n c, .int .i64 i, .slice (some ⟨vb, 0, none⟩) 1 1] w fun e w' => ∃ ao' c', e = .returned (.slice ao' (n + 1) c') ∧ w'.ownsRow B 99 2 (.slice ao' (n + 1) c') (n + 1) (bksV (bs.take i ++ b :: bs.drop i)) ∧ w.grownBy w' (Value.slice ao n c).ownBlock ∧ (∀ k, (Value.slice ao' (n + 1) c').ownBlock = some k → (Value.slice ao n c).ownBlock = some k ∨ w.heap.size ≤ k) := by
  by_cases h : i = n
  · subst h
    have hl := (own_bks hown).1
    have e : bs.take i ++ b :: bs.drop i = bs ++ [b] := by rw [List.take_of_length_le (by omega), List.drop_of_length_le (by omega)]
    rw [e]
    exact insert_end B ao i c bs b vb w hown hB hn hv
  · by_cases h2 : n + 1 ≤ c
    · exact insert_shift B ao n c i bs b vb w hown hB hn (by omega) h2 hv hne
    · exact insert_grow B ao n c i bs b vb w hown hB hn (by omega) (by omega) hv
end Go.Proofs.Ytmebjbnglndfcaa
