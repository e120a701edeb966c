/- Package heap's mayBe and Load of any blocks. -/
import Derived.Test.YtmebjbnglndfcaaE8k
namespace Go.Proofs.Ytmebjbnglndfcaa
open Go.RowKit
set_option maxHeartbeats 1000000
set_option maxRecDepth 100000
set_option linter.unusedVariables false

theorem bks_cells {w : World} {ao : Option Addr} {n c : Nat} {bs : List Bk} (h : Bks w ao n c bs) (h0 : 0 < n) : ∃ g off, ao = some ⟨g, off, none⟩ ∧ ∀ i (h : i < bs.length), w.cell? ⟨g, off + i * 2, none⟩ = some (.int .u32 bs[i].a) ∧ w.cell? ⟨g, off + i * 2 + 1, none⟩ = some (.int .u32 bs[i].l) := by
  obtain ⟨h1, h2, h3, h4, h5⟩ := h
  obtain ⟨b, off, rfl, hc⟩ := h5 h0
  refine ⟨b, off, rfl, fun i hi => ?_⟩
  have := bksV_at bs i hi
  exact ⟨hc _ _ this.1, by simpa [Nat.add_assoc] using hc _ _ this.2⟩
set_option maxHeartbeats 3000000 in
theorem may_loop (B h : Nat) (v : Value) (s : Hs) (x y : Nat) (ao : Option Addr) (n c : Nat) (bs : List Bk) (w : World) (hp : HpAt B w h v s) (hb : Bks w ao n c bs) (hf : FitB bs) (hn : 0 < n) (hn2 : n ≤ 1000000) (hx : x < 4294967296) (hy : y < 4294967296) (h1 : x ≠ 0) (h2 : x % 256 = 0) (h4 : y % 256 = 0) (h5 : y ≤ s.most) :
    Calls Try.prog 80 #[.pointer (some ⟨h, 0, none⟩), .int .u32 x, .int .u32 y, .slice ao n c] w fun e w' => e = .returned (.bool (chainB y x bs)) ∧ Below w.heap.size w w' := by
  have h3 := hp.cells.1
  clear hp
  generalize s.most = m at *
  have c0 : ¬ (n : Int) = 0 := by omega
  have HX := hidden8 (whole_any x w hx)
  have HY := hidden8 (whole_any y w hy)
  rw [show decide (x % 256 = 0) = true by simp [h2]] at HX
  rw [show decide (y % 256 = 0) = true by simp [h4]] at HY
  have c1 : ¬ (x : Int) = 0 := by omega
  have c5 : ¬ (m : Int) < (y : Int) := by omega
  have cx : ((x : Int) == 0) = false := by rw [beq_eq_false_iff_ne]; exact c1
  have cm : decide (m < y) = false := by simp; omega
  have hbl := hb.1
  have hnc := hb.2.1
  obtain ⟨g, off, rfl, hcells⟩ := bks_cells hb hn
  have HN := hidden8 hbl
  have HC := hidden8 hcells
  have HF := hidden8 hf
  clear hb hf hbl hcells h1 h2 h4
  generalize hR : chainB y x bs = R at *
  have HR := hidden8 hR
  clear hR
  go_enter Try.func80, Try.ntmps80
  go_wp2_with (first | (go_at_call_of 76 (Value.int .u32 (x : Int)); refine HX.out.mono ?_; rintro e w1 ⟨rfl, e1⟩; obtain rfl := e1.symm) | (go_at_call_of 76 (Value.int .u32 (y : Int)); refine HY.out.mono ?_; rintro e w1 ⟨rfl, e1⟩; obtain rfl := e1.symm))
  clear HX HY
  go_loopw [9, 44] (fun u i wr => ∃ k f : Nat, k ≤ n ∧ i = .int .i64 k ∧ u = .int .u32 f ∧ f < 4294967296 ∧ (k = 0 ∨ f ≤ y) ∧ Below w.heap.size w wr ∧ Hid (R = chainB y f (bs.drop k))) (fun _ i _ => n - (intOf i).toNat)
  case atStart => exact ⟨0, x, by omega, rfl, rfl, hx, .inl rfl, Below.refl _ _, hidden8 (by rw [List.drop_zero]; exact HR.out.symm)⟩
  case round =>
    obtain ⟨k, f, hk, rfl, rfl, hf, hfy, hb, HK⟩ := hrel
    clear HR
    by_cases hkn : k < n
    · have hkl : k < bs.length := by rw [HN.out]; exact hkn
      have ha := cellLater8 hb (HC.out k hkl).1
      have hl' := cellLater8 hb (HC.out k hkl).2
      have hfit := HF.out bs[k] (List.getElem_mem hkl)
      have hrr := HK.out
      rw [List.drop_eq_getElem_cons hkl] at hrr
      clear HC HK HF
      generalize bs[k] = b at *
      obtain ⟨a, l⟩ := b
      simp only at ha hl' hfit
      have hsz := hb.size
      have hk2 : (k : Int) < (n : Int) := by omega
      have HR2 := hidden8 hrr
      clear hrr
      by_cases q1 : l = 0
      · have d1 : (l : Int) = 0 := by omega
        have e : R = false := by rw [HR2.out]; simp [chainB, q1]
        subst e
        clear q1
        go_wp2
        go_ret
        exact ⟨rfl, hb.alloc hb.size _⟩
      · have d1 : ¬ (l : Int) = 0 := by omega
        by_cases q2 : a < f
        · have d2 : (a : Int) < (f : Int) := by omega
          have e : R = false := by rw [HR2.out]; simp [chainB]; omega
          subst e
          clear q1
          go_wp2
          go_ret
          exact ⟨rfl, hb.alloc hb.size _⟩
        · have d2 : ¬ (a : Int) < (f : Int) := by omega
          by_cases q3 : y < a
          · have d3 : (y : Int) < (a : Int) := by omega
            have e : R = false := by rw [HR2.out]; simp only [chainB]; rw [chainB_le (show y < a + l by omega)]; simp
            subst e
            clear q1
            go_wp2
            go_ret
            exact ⟨rfl, hb.alloc hb.size _⟩
          · have d3 : ¬ (y : Int) < (a : Int) := by omega
            have hw1 : IntKind.u32.wrap ((y : Int) - (a : Int)) = (y : Int) - (a : Int) := by rw [IntKind.wrap_u32]; omega
            by_cases q4 : y - a < l
            · have d4 : (y : Int) - (a : Int) < (l : Int) := by omega
              have e : R = false := by rw [HR2.out]; simp only [chainB]; rw [chainB_le (show y < a + l by omega)]; simp
              subst e
              clear q1
              go_wp2
              go_ret
              exact ⟨rfl, hb.alloc hb.size _⟩
            · have d4 : ¬ (y : Int) - (a : Int) < (l : Int) := by omega
              have hw2 : IntKind.u32.wrap ((a : Int) + (l : Int)) = (a : Int) + (l : Int) := by rw [IntKind.wrap_u32]; omega
              have e : R = chainB y (a + l) (bs.drop (k + 1)) := by rw [HR2.out]; simp only [chainB]; rw [show decide (0 < l) = true by simp; omega, show decide (f ≤ a) = true by simp; omega]; simp
              have HE := hidden8 e
              clear q1 HR2 e
              go_wp2
              go_roundw
              case rel => exact ⟨k + 1, a + l, by omega, int_eq8 (by omega), int_eq8 (by omega), by omega, .inr (by omega), hb.alloc hb.size _, HE⟩
              case measure => simp [intOf]; omega
    · obtain rfl : k = n := by omega
      have e : R = true := by
        rw [HK.out, List.drop_of_length_le (by rw [HN.out]; exact Nat.le_refl _)]
        simp [chainB]; omega
      subst e
      go_wp2
      go_ret
      exact ⟨rfl, hb⟩
theorem may_any (B h : Nat) (v : Value) (s : Hs) (x y : Nat) (ao : Option Addr) (n c : Nat) (bs : List Bk) (w : World) (hp : HpAt B w h v s) (hb : Bks w ao n c bs) (hf : FitB bs) (hn2 : n ≤ 1000000) (hx : x < 4294967296) (hy : y < 4294967296) :
    Calls Try.prog 80 #[.pointer (some ⟨h, 0, none⟩), .int .u32 x, .int .u32 y, .slice ao n c] w fun e w' => e = .returned (.bool (mayR s.most x y bs)) ∧ Below w.heap.size w w' := by
  have hbl := hb.1
  unfold mayR
  by_cases h0 : n = 0
  · subst h0
    rw [if_pos hbl]
    exact (may_nil h x y ao c w).mono (fun e w' hh => ⟨hh.1, by rw [hh.2]; exact Below.refl _ _⟩)
  · rw [if_neg (by omega)]
    by_cases h1 : x ≠ 0 ∧ x % 256 = 0 ∧ y % 256 = 0 ∧ y ≤ s.most
    · obtain ⟨h1, h2, h3, h4⟩ := h1
      have e : (decide (x ≠ 0) && decide (x % 256 = 0) && decide (y % 256 = 0) && decide (y ≤ s.most) && chainB y x bs) = chainB y x bs := by simp [h1, h2, h3, h4]
      rw [e]
      exact may_loop B h v s x y ao n c bs w hp hb hf (by omega) hn2 hx hy h1 h2 h3 h4
    · have e : (decide (x ≠ 0) && decide (x % 256 = 0) && decide (y % 256 = 0) && decide (y ≤ s.most) && chainB y x bs) = false := by
        by_cases q1 : x ≠ 0 <;> by_cases q2 : x % 256 = 0 <;> by_cases q3 : y % 256 = 0 <;> by_cases q4 : y ≤ s.most <;> simp [q1, q2, q3, q4] <;> exact absurd ⟨q1, q2, q3, q4⟩ h1
      rw [e]
      exact (may_head B h v s x y ao n c w hp (by omega) hx hy h1).mono (fun e w' hh => ⟨hh.1, by rw [hh.2]; exact Below.refl _ _⟩)
theorem load_many (h : Nat) (x y : Nat) (ao : Option Addr) (n c : Nat) (w : World) (hn : 4096 < n) :
    Calls Try.prog 71 #[.pointer (some ⟨h, 0, none⟩), .int .u32 x, .int .u32 y, .slice ao n c] w fun e w' => e = .returned (.int .i64 4) ∧ w' = w := by
  have c1 : (4096 : Int) < (n : Int) := by omega
  go_enter Try.func71, Try.ntmps71
  go_wp2
  go_ret
  exact ⟨rfl, rfl⟩
theorem load_bad (h : Nat) (x y : Nat) (ao : Option Addr) (n c : Nat) (w : World) (hn : n ≤ 4096)
    (hm : Calls Try.prog 80 #[.pointer (some ⟨h, 0, none⟩), .int .u32 x, .int .u32 y, .slice ao n c] w fun e w' => e = .returned (.bool false) ∧ Below w.heap.size w w') :
    Calls Try.prog 71 #[.pointer (some ⟨h, 0, none⟩), .int .u32 x, .int .u32 y, .slice ao n c] w fun e w' => e = .returned (.int .i64 1) ∧ Below w.heap.size w w' := by
  have c1 : ¬ (4096 : Int) < (n : Int) := by omega
  have HM := hidden8 hm
  clear hm
  go_enter Try.func71, Try.ntmps71
  go_wp2_with (go_at_call 80; refine HM.out.mono ?_; rintro e w1 ⟨rfl, hb1⟩)
  go_ret
  exact ⟨rfl, hb1⟩
theorem load_ok (B h : Nat) (v : Value) (s : Hs) (x y : Nat) (ao : Option Addr) (n c : Nat) (bs : List Bk) (w : World) (hp : HpAt B w h v s) (hB : B ≤ w.heap.size) (hb : Bks w ao n c bs) (hn : n ≤ 4096)
    (hm : Calls Try.prog 80 #[.pointer (some ⟨h, 0, none⟩), .int .u32 x, .int .u32 y, .slice ao n c] w fun e w' => e = .returned (.bool true) ∧ Below w.heap.size w w') :
    Calls Try.prog 71 #[.pointer (some ⟨h, 0, none⟩), .int .u32 x, .int .u32 y, .slice ao n c] w fun e w' => e = .returned (.int .i64 0) ∧ Left B w w' h v ⟨s.most, x, y, bs⟩ := by
  have c1 : ¬ (4096 : Int) < (n : Int) := by omega
  have HM := hidden8 hm
  have hbl := hb.1
  have HK : Hid (∀ w1, Below w.heap.size w w1 → Calls Try.prog 59 #[.slice ao n c] w1 fun e w2 => ∃ ao' c', e = .returned (.slice ao' n c') ∧ w2.cell? ⟨h, 1, none⟩ = some (.int .u32 s.start) ∧ w2.cell? ⟨h, 2, none⟩ = some (.int .u32 s.en) ∧ w2.cell? ⟨h, 3, none⟩ = some v ∧ w2.frozen? ⟨h, 1, none⟩ = false ∧ w2.frozen? ⟨h, 2, none⟩ = false ∧ w2.frozen? ⟨h, 3, none⟩ = false ∧
      Hid (Left B w (((w2.setCell ⟨h, 1, none⟩ (.int .u32 x)).setCell ⟨h, 2, none⟩ (.int .u32 y)).setCell ⟨h, 3, none⟩ (.slice ao' n c')) h v ⟨s.most, x, y, bs⟩)) := fun w1 hb1 => by
    refine (clone_any ao n c bs w1 (hb.below hb1) (by omega)).mono ?_
    rintro e w2 ⟨ao', c', rfl, ho, hb2⟩
    have hb3 : Below w.heap.size w w2 := hb1.trans (hb2.mono hb1.size)
    have hq := hp.later hb3
    have hc := hq.cells
    have hq2 := hp_set2 hq x y
    have hsz := hb1.size
    have ho2 : ((w2.setCell ⟨h, 1, none⟩ (.int .u32 x)).setCell ⟨h, 2, none⟩ (.int .u32 y)).ownsRow B 99 2 (.slice ao' n c') bs.length (bksV bs) := by
      rw [hbl]
      exact ownsRow_setCell_other (ownsRow_setCell_other (Joins.ownsRow_le ho (by omega)) (by simpa using own_ne_hp ho hq.2.1) _) (by simpa using own_ne_hp ho hq.2.1) _
    refine ⟨ao', c', rfl, hc.2.1, hc.2.2.1, hc.2.2.2.1, hc.2.2.2.2 1, hc.2.2.2.2 2, hc.2.2.2.2 3, hidden8 ⟨_, hp_set3 hp.1 hq2.2.1 ho2, ?_⟩⟩
    refine fr_set (fr_set (fr_set (v' := .slice ao' n c') ⟨hb3.os, hb3.tape, hb3.output, hb3.size, fun k hk _ _ => hb3.block k hk, fun k hk => .inr ?_⟩ 1 _) 2 _) 3 _
    have := (ho.lt k hk).1
    omega
  clear hm hb hp hbl
  go_enter Try.func71, Try.ntmps71
  go_wp2_with (first | (go_at_call 80; refine HM.out.mono ?_; rintro e w1 ⟨rfl, hb1⟩) | (go_at_call 59; refine (HK.out _ hb1).mono ?_; rintro e w2 ⟨ao2, c2, rfl, k1, k2, k3, k4, k5, k6, HL⟩))
  go_ret
  exact ⟨rfl, HL.out⟩
def loadE (s : Hs) (x y : Nat) (bs : List Bk) : Nat := if 4096 < bs.length then 4 else if mayR s.most x y bs then 0 else 1
def loadS (s : Hs) (x y : Nat) (bs : List Bk) : Hs := if 4096 < bs.length then s else if mayR s.most x y bs then ⟨s.most, x, y, bs⟩ else s
theorem load_any (B h : Nat) (v : Value) (s : Hs) (x y : Nat) (ao : Option Addr) (n c : Nat) (bs : List Bk) (w : World) (hp : HpAt B w h v s) (hB : B ≤ w.heap.size) (hb : Bks w ao n c bs) (hf : FitB bs) (hx : x < 4294967296) (hy : y < 4294967296) :
    Calls Try.prog 71 #[.pointer (some ⟨h, 0, none⟩), .int .u32 x, .int .u32 y, .slice ao n c] w fun e w' => e = .returned (.int .i64 (loadE s x y bs : Nat)) ∧ Left B w w' h v (loadS s x y bs) := by
  have hbl := hb.1
  unfold loadE loadS
  by_cases h1 : 4096 < bs.length
  · rw [if_pos h1, if_pos h1]
    exact (load_many h x y ao n c w (by omega)).mono (fun e w' hh => ⟨hh.1, by rw [hh.2]; exact Left.same hp (Below.refl _ _)⟩)
  · rw [if_neg h1, if_neg h1]
    have hm := may_any B h v s x y ao n c bs w hp hb hf (by omega) hx hy
    by_cases h2 : mayR s.most x y bs = true
    · rw [if_pos h2, if_pos h2]
      rw [h2] at hm
      exact load_ok B h v s x y ao n c bs w hp hB hb (by omega) hm
    · rw [if_neg h2, if_neg h2]
      rw [show mayR s.most x y bs = false by simpa using h2] at hm
      exact (load_bad h x y ao n c w (by omega) hm).mono (fun e w' hh => ⟨hh.1, Left.same hp hh.2⟩)
end Go.Proofs.Ytmebjbnglndfcaa
