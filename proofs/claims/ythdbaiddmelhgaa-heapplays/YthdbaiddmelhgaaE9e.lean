/- The document's Load. -/
import Derived.Test.YthdbaiddmelhgaaE9d
namespace Go.Proofs.Ythdbaiddmelhgaa
open Go.RowKit
set_option maxHeartbeats 1000000
set_option maxRecDepth 100000
set_option linter.unusedVariables false

theorem dload_many (d : Nat) (x y : Nat) (ao : Option Addr) (n c : Nat) (w : World) (hn : 4096 < n) :
    Calls Try.prog 20 #[.pointer (some ⟨d, 0, none⟩), .int .u32 x, .int .u32 y, .slice ao n c] w fun e w' => e = .returned (.int .i64 4) ∧ w' = w := by
  have c1 : (4096 : Int) < (n : Int) := by omega
  go_enter Try.func20, Try.ntmps20
  go_wp2
  go_ret
  exact ⟨rfl, rfl⟩
theorem dload_nil (d : Nat) (x y : Nat) (ao : Option Addr) (c : Nat) (w : World) (hno : ¬ (x = 0 ∧ y = 0)) :
    Calls Try.prog 20 #[.pointer (some ⟨d, 0, none⟩), .int .u32 x, .int .u32 y, .slice ao 0 c] w fun e w' => e = .returned (.int .i64 1) ∧ w' = w := by
  by_cases q : x = 0
  · have d1 : ((x : Int) != 0) = false := by rw [bne_eq_false_iff_eq]; omega
    have d2 : ((y : Int) != 0) = true := by rw [bne_iff_ne]; omega
    have HQ := hidden (And.intro q hno)
    clear q hno
    go_enter Try.func20, Try.ntmps20
    go_wp2
    go_ret
    exact ⟨rfl, rfl⟩
  · have d1 : ((x : Int) != 0) = true := by rw [bne_iff_ne]; omega
    clear hno
    go_enter Try.func20, Try.ntmps20
    go_wp2
    go_ret
    exact ⟨rfl, rfl⟩
theorem dload_head (B d : Nat) (u : Value) (t : Hs) (x y : Nat) (ao : Option Addr) (n c : Nat) (w : World) (hp : DpAt B w d u t) (hn : 0 < n) (hn2 : n ≤ 4096) (hx : x < 4294967296) (hy : y < 4294967296) (hno : ¬ (x ≠ 0 ∧ x % 256 = 0 ∧ y % 256 = 0 ∧ y ≤ t.most)) :
    Calls Try.prog 20 #[.pointer (some ⟨d, 0, none⟩), .int .u32 x, .int .u32 y, .slice ao n c] w fun e w' => e = .returned (.int .i64 1) ∧ w' = w := by
  have h3 := hp.cells.1
  clear hp
  generalize t.most = m at *
  have c0 : ¬ (n : Int) = 0 := by omega
  have c9 : ((n : Int) == 0) = false := by rw [beq_eq_false_iff_ne]; exact c0
  have c8 : (0 : Int) < (n : Int) := by omega
  have c7 : ¬ (4096 : Int) < (n : Int) := by omega
  obtain ⟨q, hq⟩ : ∃ q, q = x % 256 := ⟨_, rfl⟩
  obtain ⟨r, hr⟩ : ∃ r, r = y % 256 := ⟨_, rfl⟩
  have hxq : (x : Int).tmod 256 = (q : Int) := by rw [Int.tmod_eq_emod_of_nonneg (by omega)]; omega
  have hyr : (y : Int).tmod 256 = (r : Int) := by rw [Int.tmod_eq_emod_of_nonneg (by omega)]; omega
  have hq2 : q < 256 := by omega
  have hr2 : r < 256 := by omega
  by_cases g1 : x = 0
  · have d1 : ((x : Int) == 0) = true := by rw [beq_iff_eq]; omega
    have HG := hidden (And.intro g1 (And.intro hno (And.intro hq hr)))
    clear g1 hno hq hr
    go_enter Try.func20, Try.ntmps20
    go_wp2
    go_ret
    exact ⟨rfl, rfl⟩
  · have d1 : ((x : Int) == 0) = false := by rw [beq_eq_false_iff_ne]; omega
    by_cases g2 : q = 0
    · have d2 : ((q : Int) != 0) = false := by rw [bne_eq_false_iff_eq]; omega
      by_cases g3 : r = 0
      · have d3 : ((r : Int) != 0) = false := by rw [bne_eq_false_iff_eq]; omega
        have d4 : (m : Int) < (y : Int) := by omega
        have HG := hidden (And.intro g2 (And.intro g3 (And.intro hno (And.intro hq hr))))
        clear g2 g3 hno hq hr
        go_enter Try.func20, Try.ntmps20
        go_wp2
        go_ret
        exact ⟨rfl, rfl⟩
      · have d3 : ((r : Int) != 0) = true := by rw [bne_iff_ne]; omega
        have HG := hidden (And.intro g2 (And.intro hno (And.intro hq hr)))
        clear g2 hno hq hr
        go_enter Try.func20, Try.ntmps20
        go_wp2
        go_ret
        exact ⟨rfl, rfl⟩
    · have d2 : ((q : Int) != 0) = true := by rw [bne_iff_ne]; omega
      clear hno hq hr
      go_enter Try.func20, Try.ntmps20
      go_wp2
      go_ret
      exact ⟨rfl, rfl⟩
theorem app_one {w wS w1 : World} {v1 : Value} {n : Nat} {bs : List Bk} (h1 : (wS.alloc (.cells #[] 40)).grownBy w1 (Value.slice (some ⟨wS.heap.size, 0, none⟩) 0 0).ownBlock) (o1 : w1.ownsRow wS.heap.size 40 2 v1 n (bksV bs)) (hn : bs.length = n) (hs : w.heap.size ≤ wS.heap.size) :
    wS.grownBy w1 none ∧ w1.ownsRow w.heap.size 40 2 v1 bs.length (bksV bs) := by
  have hz1 := h1.size
  simp only [World.size_alloc] at hz1
  refine ⟨⟨h1.os, h1.tape, h1.output, by omega, fun k hk _ => ?_⟩, by rw [hn]; exact Joins.ownsRow_le o1 hs⟩
  rw [h1.block k (by simp; omega) (by simp [Value.ownBlock]; omega), Go.heap_alloc_old _ _ hk]
/-- blocks that came in are not the document's heap itself -/
theorem bks_dp {B : Nat} {w : World} {d : Nat} {u : Value} {t : Hs} {ao : Option Addr} {n c : Nat} {bs : List Bk} (hp : DpAt B w d u t) (hk : Bks w ao n c bs) (X Y : Value) (o : Obj) : Bks (((w.setCell ⟨d, 1, none⟩ X).setCell ⟨d, 2, none⟩ Y).alloc o) ao n c bs := by
  obtain ⟨h1, h2, h3, h4, h5⟩ := hk
  refine ⟨h1, h2, h3, h4, fun h0 => ?_⟩
  obtain ⟨b, off, rfl, hc⟩ := h5 h0
  refine ⟨b, off, rfl, fun j v hj => ?_⟩
  have hcell := hc j v hj
  have hbd : b ≠ d := by
    intro e
    subst e
    have hone : ∃ z : Int, v = .int .u32 z := by
      have hm := List.mem_of_getElem? hj
      obtain ⟨bb, _, hb⟩ := List.mem_flatMap.1 hm
      simp [bkV] at hb
      rcases hb with rfl | rfl
      · exact ⟨_, rfl⟩
      · exact ⟨_, rfl⟩
    obtain ⟨z, rfl⟩ := hone
    obtain ⟨ao', c', e'⟩ := own_slice2 hp.2.2
    have hh := hp.2.1
    rw [e'] at hh
    simp only [World.cell?, hh] at hcell
    generalize off + j = q at hcell
    rcases q with _ | _ | _ | _ | q <;> simp at hcell
  have hlt : b < w.heap.size := block_lt_of_cell hcell
  rw [World.cell?_alloc_past _ _ _ (by simpa using hlt)]
  rw [World.cell?_of_block (w := w) (by rw [heap_setCell_other _ _ _ _ (by simpa using hbd), heap_setCell_other _ _ _ _ (by simpa using hbd)])]
  exact hcell
/-- what Load leaves: R tells whether the blocks fit -/
def DLRet (B : Nat) (w w' : World) (d : Nat) (u : Value) (t : Hs) (x y : Nat) (bs : List Bk) (R : Bool) (e : Ending) : Prop :=
  (R = true ∧ e = .returned (.int .i64 0) ∧ LeftD B w w' d u ⟨t.most, x, y, bs⟩) ∨ (R = false ∧ e = .returned (.int .i64 1) ∧ LeftD B w w' d u t)
set_option maxHeartbeats 4000000 in
theorem dload_loop (B d : Nat) (u : Value) (t : Hs) (x y : Nat) (ao : Option Addr) (n c : Nat) (bs : List Bk) (w : World) (hp : DpAt B w d u t) (hB : B ≤ w.heap.size) (hk : Bks w ao n c bs) (hf : FitB bs) (hn2 : n ≤ 4096) (hx : x < 4294967296) (hy : y < 4294967296)
    (hok : (n = 0 ∧ x = 0 ∧ y = 0) ∨ (0 < n ∧ x ≠ 0 ∧ x % 256 = 0 ∧ y % 256 = 0 ∧ y ≤ t.most)) :
    Calls Try.prog 20 #[.pointer (some ⟨d, 0, none⟩), .int .u32 x, .int .u32 y, .slice ao n c] w fun e w' => DLRet B w w' d u t x y bs (chainB y x bs) e := by
  have hcells := hp.cells
  have h3 := hcells.1
  have HCL : Hid (∀ w1, Below w.heap.size w w1 → w1.cell? ⟨d, 1, none⟩ = some (.int .i64 t.start) ∧ w1.cell? ⟨d, 2, none⟩ = some (.int .i64 t.en) ∧ w1.frozen? ⟨d, 1, none⟩ = false ∧ w1.frozen? ⟨d, 2, none⟩ = false ∧ d < w1.heap.size) := fun w1 hb1 => by
    have hq := hp.later hb1
    have hc := hq.cells
    exact ⟨hc.2.1, hc.2.2.1, hc.2.2.2.2 1, hc.2.2.2.2 2, (Array.getElem?_eq_some_iff.1 hq.2.1).1⟩
  have HSAME := hidden fun w1 (hb1 : Below w.heap.size w w1) => LeftD.same hp hb1
  have HSRC : Hid (∀ (wr : World), Below w.heap.size w wr → Bks (((wr.setCell ⟨d, 1, none⟩ (.int .i64 (x : Int))).setCell ⟨d, 2, none⟩ (.int .i64 (y : Int))).alloc (.cells #[] 40)) ao n c bs) := fun wr hb1 => bks_dp (hp.later hb1) (hk.below hb1) _ _ _
  have HFIN : Hid (∀ wr w1 v1, Below w.heap.size w wr → (((wr.setCell ⟨d, 1, none⟩ (.int .i64 (x : Int))).setCell ⟨d, 2, none⟩ (.int .i64 (y : Int))).alloc (.cells #[] 40)).grownBy w1 (Value.slice (some ⟨wr.heap.size, 0, none⟩) 0 0).ownBlock → w1.ownsRow wr.heap.size 40 2 v1 n (bksV bs) → w1.cell? ⟨d, 3, none⟩ = some u ∧ w1.frozen? ⟨d, 3, none⟩ = false ∧ Hid (LeftD B w (w1.setCell ⟨d, 3, none⟩ v1) d u ⟨t.most, x, y, bs⟩)) := fun wr w1 v1 hb g1 o1 => by
    have hsz : ((wr.setCell ⟨d, 1, none⟩ (.int .i64 (x : Int))).setCell ⟨d, 2, none⟩ (.int .i64 (y : Int))).heap.size = wr.heap.size := by simp
    have := app_one (w := w) (wS := (wr.setCell ⟨d, 1, none⟩ (.int .i64 (x : Int))).setCell ⟨d, 2, none⟩ (.int .i64 (y : Int))) (by rw [hsz]; exact g1) (by rw [hsz]; exact o1) hk.1 (by rw [hsz]; exact hb.size)
    exact dp_new hp hB hb x y this.1 this.2
  have HMAD : Hid (∀ wr : World, (((wr.setCell ⟨d, 1, none⟩ (.int .i64 (x : Int))).setCell ⟨d, 2, none⟩ (.int .i64 (y : Int))).alloc (.cells #[] 40)).ownsRow wr.heap.size 40 2 (.slice (some ⟨wr.heap.size, 0, none⟩) 0 0) 0 []) := fun wr => by
    have := World.ownsRow_made (base := wr.heap.size) (e := 40) (size := 2) ((wr.setCell ⟨d, 1, none⟩ (.int .i64 (x : Int))).setCell ⟨d, 2, none⟩ (.int .i64 (y : Int))) #[] 0 (by simp) (Nat.zero_le _) (by simp)
    simpa using this
  obtain ⟨au, cu, rfl⟩ := own_slice2 hp.2.2
  have HN := hidden hk.1
  have hnc := hk.2.1
  have HK := hidden hk
  have HF := hidden hf
  clear hcells
  generalize hR : chainB y x bs = R at *
  have HR := hidden hR
  clear hR hp hk hf
  have c7 : ¬ (4096 : Int) < (n : Int) := by omega
  obtain ⟨q, hq⟩ : ∃ q, q = x % 256 := ⟨_, rfl⟩
  obtain ⟨r, hr⟩ : ∃ r, r = y % 256 := ⟨_, rfl⟩
  have hxq : (x : Int).tmod 256 = (q : Int) := by rw [Int.tmod_eq_emod_of_nonneg (by omega)]; omega
  have hyr : (y : Int).tmod 256 = (r : Int) := by rw [Int.tmod_eq_emod_of_nonneg (by omega)]; omega
  have hq2 : q < 256 := by omega
  have hr2 : r < 256 := by omega
  -- the head: no refusal
  have hhead : (((n : Int) == 0) = true ∧ ((x : Int) != 0) = false ∧ ((y : Int) != 0) = false ∧ ¬ (0 : Int) < (n : Int)) ∨ (((n : Int) == 0) = false ∧ (0 : Int) < (n : Int) ∧ ((x : Int) == 0) = false ∧ ((q : Int) != 0) = false ∧ ((r : Int) != 0) = false ∧ ¬ (t.most : Int) < (y : Int)) := by
    rcases hok with ⟨g1, g2, g3⟩ | ⟨g1, g2, g3, g4, g5⟩
    · left
      exact ⟨by rw [beq_iff_eq]; omega, by rw [bne_eq_false_iff_eq]; omega, by rw [bne_eq_false_iff_eq]; omega, by omega⟩
    · right
      exact ⟨by rw [beq_eq_false_iff_ne]; omega, by omega, by rw [beq_eq_false_iff_ne]; omega, by rw [bne_eq_false_iff_eq]; omega, by rw [bne_eq_false_iff_eq]; omega, by omega⟩
  have HOK := hidden (And.intro hok (And.intro hq hr))
  clear hok hq hr
  have hb0 := Below.refl w.heap.size w
  rcases hhead with ⟨g1, g2, g3, g4⟩ | ⟨g1, g2, g3, g4, g5, g6⟩
  · go_enter Try.func20, Try.ntmps20
    go_wp2
    go_loopw [9, 10] (fun a9 i wr => ∃ k f : Nat, k ≤ n ∧ i = .int .i64 k ∧ a9 = .int .i64 f ∧ f < 8589934592 ∧ Below w.heap.size w wr ∧ Hid (R = chainB y f (bs.drop k))) (fun _ i _ => n - (intOf i).toNat)
    case atStart => exact ⟨0, x, by omega, rfl, rfl, by omega, hb0, hidden (by rw [List.drop_zero]; exact HR.out.symm)⟩
    case round =>
      obtain ⟨k, f, hk, rfl, rfl, hf, hb, HKK⟩ := hrel
      clear HR
      by_cases hkn : k < n
      · exact absurd (beq_iff_eq.1 g1) (by omega)
      · obtain rfl : k = n := by omega
        have e : R = decide (f ≤ y) := by
          rw [HKK.out, List.drop_of_length_le (by rw [HN.out]; exact Nat.le_refl _)]
          simp [chainB]
        obtain ⟨k1, k2, k3, k4, k5⟩ := HCL.out _ hb
        by_cases z : f ≤ y
        · have er : R = true := by rw [e]; simp [z]
          subst er
          have f1 : ¬ (y : Int) < (f : Int) := by omega
          clear e
          go_wp2_with (first | (at_builtin; refine wpList_append_bks rfl (.tmp 103) (.tmp 104) rfl wr.heap.size (.slice (some ⟨wr.heap.size, 0, none⟩) 0 0) 0 [] rfl (HMAD.out wr) ao k c bs rfl (HSRC.out wr hb) (by omega) (by simp) ?_; intro v1 w1 o1 g1; (try rw [Nat.zero_add] at o1); (try rw [List.nil_append] at o1); obtain ⟨a1, c1, rfl⟩ := own_slice2 o1; obtain ⟨r1, r2, HLF⟩ := HFIN.out wr w1 _ hb g1 o1))
          go_ret
          exact .inl ⟨rfl, rfl, HLF.out⟩
        · have er : R = false := by rw [e]; simp [z]
          subst er
          have f1 : (y : Int) < (f : Int) := by omega
          clear e
          go_wp2
          go_ret
          exact .inr ⟨rfl, rfl, HSAME.out _ hb⟩
  · go_enter Try.func20, Try.ntmps20
    go_wp2
    go_loopw [9, 10] (fun a9 i wr => ∃ k f : Nat, k ≤ n ∧ i = .int .i64 k ∧ a9 = .int .i64 f ∧ f < 8589934592 ∧ Below w.heap.size w wr ∧ Hid (R = chainB y f (bs.drop k))) (fun _ i _ => n - (intOf i).toNat)
    case atStart => exact ⟨0, x, by omega, rfl, rfl, by omega, hb0, hidden (by rw [List.drop_zero]; exact HR.out.symm)⟩
    case round =>
      obtain ⟨k, f, hk, rfl, rfl, hf, hb, HKK⟩ := hrel
      clear HR
      by_cases hkn : k < n
      · have hkl : k < bs.length := by rw [HN.out]; exact hkn
        obtain ⟨g, off, rfl, hcs⟩ := bks_cells HK.out (by omega)
        have ha := cellLater hb (hcs k hkl).1
        have hl' := cellLater hb (hcs k hkl).2
        have hfit := HF.out bs[k] (List.getElem_mem hkl)
        have hrr := HKK.out
        rw [List.drop_eq_getElem_cons hkl] at hrr
        clear hcs HKK HF HSRC HFIN HMAD
        generalize bs[k] = b at *
        obtain ⟨a, l⟩ := b
        simp only at ha hl' hfit
        have hk2 : (k : Int) < (n : Int) := by omega
        have HR2 := hidden hrr
        clear hrr
        by_cases q1 : l = 0
        · have d1 : ((l : Int) == 0) = true := by rw [beq_iff_eq]; omega
          have e : R = false := by rw [HR2.out]; simp [chainB, q1]
          subst e
          have HQ1 := hidden q1
          clear q1
          go_wp2
          go_ret
          exact .inr ⟨rfl, rfl, HSAME.out _ hb⟩
        · have d1 : ((l : Int) == 0) = false := by rw [beq_eq_false_iff_ne]; omega
          by_cases q2 : a < f
          · have d2 : (a : Int) < (f : Int) := by omega
            have e : R = false := by rw [HR2.out]; simp [chainB]; omega
            subst e
            go_wp2
            go_ret
            exact .inr ⟨rfl, rfl, HSAME.out _ hb⟩
          · have d2 : ¬ (a : Int) < (f : Int) := by omega
            have e : R = chainB y (a + l) (bs.drop (k + 1)) := by rw [HR2.out]; simp only [chainB]; rw [show decide (0 < l) = true by simp; omega, show decide (f ≤ a) = true by simp; omega]; simp
            have HE := hidden e
            clear HR2 e
            go_wp2_with fail
            go_quiet (fail)
            go_wp2
            go_roundw
            case rel => exact ⟨k + 1, a + l, by omega, int_eq (by omega), int_eq (by omega), by omega, ⟨hb.os, hb.tape, hb.output, hb.size, hb.block⟩, HE⟩
            case measure => simp [intOf]; omega
      · obtain rfl : k = n := by omega
        have e : R = decide (f ≤ y) := by
          rw [HKK.out, List.drop_of_length_le (by rw [HN.out]; exact Nat.le_refl _)]
          simp [chainB]
        obtain ⟨k1, k2, k3, k4, k5⟩ := HCL.out _ hb
        by_cases z : f ≤ y
        · have er : R = true := by rw [e]; simp [z]
          subst er
          have f1 : ¬ (y : Int) < (f : Int) := by omega
          clear e
          go_wp2_with (first | (at_builtin; refine wpList_append_bks rfl (.tmp 103) (.tmp 104) rfl wr.heap.size (.slice (some ⟨wr.heap.size, 0, none⟩) 0 0) 0 [] rfl (HMAD.out wr) ao k c bs rfl (HSRC.out wr hb) (by omega) (by simp) ?_; intro v1 w1 o1 g1; (try rw [Nat.zero_add] at o1); (try rw [List.nil_append] at o1); obtain ⟨a1, c1, rfl⟩ := own_slice2 o1; obtain ⟨r1, r2, HLF⟩ := HFIN.out wr w1 _ hb g1 o1))
          go_ret
          exact .inl ⟨rfl, rfl, HLF.out⟩
        · have er : R = false := by rw [e]; simp [z]
          subst er
          have f1 : (y : Int) < (f : Int) := by omega
          clear e
          go_wp2
          go_ret
          exact .inr ⟨rfl, rfl, HSAME.out _ hb⟩
end Go.Proofs.Ythdbaiddmelhgaa
