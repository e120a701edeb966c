/- Contract of package code's modeBytes. -/
import Derived.Test.YtpkfmccnjandoaaC11w
namespace Go.Proofs.Ytpkfmccnjandoaa
open Go.RowKit
set_option maxHeartbeats 1000000
set_option maxRecDepth 100000
set_option linter.unusedVariables false

def ByRow (w : World) (G : Nat) (l : List Int) : Prop := w.heap[G]? = some (.cells (bytesV l).toArray 5 (0, 0))
theorem ByRow.at_ {w : World} {G : Nat} {l : List Int} (h : ByRow w G l) (i : Nat) (hi : i < l.length) : w.cell? ⟨G, i, none⟩ = some (.int .u8 (l.getD i 0)) ∧ w.frozen? ⟨G, i, none⟩ = false := by
  have h' : w.heap[G]? = _ := h
  simp [World.cell?, World.frozen?, h', bytesV, hi, List.getD_eq_getElem?_getD]
theorem ByRow.set {w : World} {G : Nat} {l : List Int} (h : ByRow w G l) (i : Nat) (x : Int) : ByRow (w.setCell ⟨G, i, none⟩ (.int .u8 x)) G (l.set i x) := by
  have h' : w.heap[G]? = _ := h
  unfold ByRow
  simp [World.setCell, Array.getElem?_modify, h', bytesV]
theorem ByRow.lt {w : World} {G : Nat} {l : List Int} (h : ByRow w G l) : G < w.heap.size := (Array.getElem?_eq_some_iff.1 h).1
theorem ByRow.later {w w' : World} {G : Nat} {l : List Int} (h : ByRow w G l) (hb : Below w.heap.size w w') : ByRow w' G l := (hb.block G h.lt).trans h
theorem ByRow.own {w : World} {B G : Nat} {l : List Int} (h : ByRow w G l) (hB : B ≤ G) (hl : l.length ≤ 1000) (n : Nat) (hn : l.length = n) : w.ownsRow B 5 1 (.slice (some ⟨G, 0, none⟩) n n) n (bytesV l) := by
  subst hn
  refine own8_of hB h (Nat.le_refl _) ?_ ?_ ?_ rfl
  · unfold maxLen; omega
  · simp [bytesV]
  · rw [List.take_of_length_le (by simp [bytesV])]
/-- what the byte j is behind i modes -/
def pmd (l : List Od) (i j : Nat) : Int := (if 2 * j < i then (l.getD (2 * j) (0, 0)).1 else 0) + 16 * (if 2 * j + 1 < i then (l.getD (2 * j + 1) (0, 0)).1 else 0)
def prow (l : List Od) (i : Nat) : List Int := (List.range ((l.length + 1) / 2)).map (pmd l i)
theorem prow_len (l : List Od) (i : Nat) : (prow l i).length = (l.length + 1) / 2 := by simp [prow]
theorem prow_at (l : List Od) (i j : Nat) (h : j < (l.length + 1) / 2) : (prow l i).getD j 0 = pmd l i j := by simp [prow, List.getD_eq_getElem?_getD, h]
theorem prow_zero (l : List Od) : prow l 0 = zer8 ((l.length + 1) / 2) := by
  unfold prow zer8
  apply List.ext_getElem
  · simp
  · intro i h1 h2
    simp [pmd]
theorem prow_end (l : List Od) : prow l l.length = mdB l := by
  unfold prow mdB
  refine List.map_congr_left fun j _ => ?_
  unfold pmd mdAt
  have g : ∀ k, ¬ k < l.length → (l.getD k (0, 0)).1 = 0 := fun k hk => by simp [List.getD_eq_getElem?_getD, List.getElem?_eq_none (by omega : l.length ≤ k)]
  have e1 : (if 2 * j < l.length then (l.getD (2 * j) (0, 0)).1 else 0) = (l.getD (2 * j) (0, 0)).1 := by split; rfl; rw [g _ (by assumption)]
  have e2 : (if 2 * j + 1 < l.length then (l.getD (2 * j + 1) (0, 0)).1 else 0) = (l.getD (2 * j + 1) (0, 0)).1 := by split; rfl; rw [g _ (by assumption)]
  rw [e1, e2]
theorem prow_set (l : List Od) (i : Nat) (hi : i < l.length) : (prow l i).set (i / 2) (pmd l (i + 1) (i / 2)) = prow l (i + 1) := by
  apply List.ext_getElem
  · simp [prow]
  · intro j h1 h2
    rw [List.getElem_set]
    simp only [prow, List.getElem_map, List.getElem_range]
    by_cases e : i / 2 = j
    · rw [if_pos e, e]
    · rw [if_neg e]
      unfold pmd
      have a1 : (2 * j < i) = (2 * j < i + 1) := by simp; omega
      have a2 : (2 * j + 1 < i) = (2 * j + 1 < i + 1) := by simp; omega
      simp only [a1, a2]
theorem pmd_even (l : List Od) (i : Nat) (h : i % 2 = 0) : pmd l i (i / 2) = 0 ∧ pmd l (i + 1) (i / 2) = (l.getD i (0, 0)).1 := by
  have e : 2 * (i / 2) = i := by omega
  unfold pmd
  rw [e, if_neg (by omega), if_neg (by omega), if_pos (by omega), if_neg (by omega)]
  omega
theorem pmd_odd (l : List Od) (i : Nat) (h : i % 2 = 1) : pmd l i (i / 2) = (l.getD (i - 1) (0, 0)).1 ∧ pmd l (i + 1) (i / 2) = (l.getD (i - 1) (0, 0)).1 + 16 * (l.getD i (0, 0)).1 := by
  have e : 2 * (i / 2) = i - 1 := by omega
  have e2 : i - 1 + 1 = i := by omega
  unfold pmd
  rw [e, e2, if_pos (by omega), if_neg (by omega), if_pos (by omega), if_pos (by omega)]
  omega
theorem or16 : ∀ x : Fin 16, ∀ m : Fin 16, bits .or .u8 (x.val : Int) (((m.val : Int) * 16) % 256) = (x.val : Int) + 16 * m.val := by decide +kernel
theorem or16_any (x m : Int) (hx : 0 ≤ x ∧ x ≤ 15) (hm : 0 ≤ m ∧ m ≤ 15) : bits .or .u8 x (m * 16 % 256) = x + 16 * m := by
  have := or16 ⟨x.toNat, by omega⟩ ⟨m.toNat, by omega⟩
  simp only at this
  rw [show ((x.toNat : Nat) : Int) = x by omega, show ((m.toNat : Nat) : Int) = m by omega] at this
  exact this
theorem or16_0 (m : Int) (hm : 0 ≤ m ∧ m ≤ 15) : bits .or .u8 0 (m % 256) = m := by
  have h := or16 ⟨0, by omega⟩
  have : ∀ m : Fin 16, bits .or .u8 0 ((m.val : Int) % 256) = m.val := by decide +kernel
  have := this ⟨m.toNat, by omega⟩
  simp only at this
  rw [show ((m.toNat : Nat) : Int) = m by omega] at this
  exact this
theorem Ops.cells {w : World} {a : Option Addr} {n c : Nat} {l : List Od} (h : Ops w a n c l) (h0 : 0 < n) : ∃ g o, a = some ⟨g, o, none⟩ ∧ ∀ i, i < n → w.cell? ⟨g, o + i * 2, none⟩ = some (.int .i64 (l.getD i (0, 0)).1) ∧ w.cell? ⟨g, o + i * 2 + 1, none⟩ = some (.int .u32 (l.getD i (0, 0)).2) := by
  exact h.2.2 h0
theorem kmdb_any (a : Option Addr) (n c : Nat) (l : List Od) (w : World) (h : Ops w a n c l) (hn : n ≤ 1000) (hm : ∀ i, i < n → 0 ≤ (l.getD i (0, 0)).1 ∧ (l.getD i (0, 0)).1 ≤ 15) :
    Calls Try.prog 38 #[.slice a n c] w fun e w' => ∃ a' c', e = .returned (.slice a' ((n + 1) / 2) c') ∧ w'.ownsRow w.heap.size 5 1 (.slice a' ((n + 1) / 2) c') ((n + 1) / 2) (bytesV (mdB l)) ∧ Below w.heap.size w w' := by
  have hl : l.length = n := h.1
  have hcn : n ≤ c := h.2.1
  have HSz := hidden fun wx => kmsz_any n wx hn
  have HMk := hidden fun wx => mk8 .i64 ((n + 1) / 2) (by omega) wx
  have HOp := hidden h
  have HM := hidden hm
  have HL := hidden hl
  have HK2 := hidden (show ∀ i, i < n → i / 2 < (n + 1) / 2 by omega)
  have hMK : (n + 1) / 2 ≤ 501 := by omega
  have HEnd := hidden (prow_end l)
  have HZ := hidden (prow_zero l)
  rw [hl] at HEnd HZ
  have HPl := hidden (prow_len l)
  rw [hl] at HPl
  clear h hm hl
  generalize (n + 1) / 2 = MK at *
  go_enter Try.func38, Try.ntmps38
  have hmk := HMk.out
  go_wp2_with (first | (go_at_call 54; refine (HSz.out _).mono ?_; rintro e w1 ⟨rfl, hw⟩; obtain rfl := hw.symm))
  have hb0 : Below w.heap.size w (w.alloc (.cells (bytesV (zer8 MK)).toArray 5)) := (Below.refl _ _).alloc (Nat.le_refl _) _
  have HB0 := hidden hb0
  have HR0 : Hid (ByRow (w.alloc (.cells (bytesV (zer8 MK)).toArray 5)) w.heap.size (prow l 0)) := by
    rw [HZ.out]; exact heap_alloc_new _ _
  clear hb0
  generalize hw3 : w.alloc (.cells (bytesV (zer8 MK)).toArray 5) = w3 at *
  clear hw3
  go_loopw [12] (fun i wr => ∃ k : Nat, k ≤ n ∧ i = .int .i64 k ∧ Hid (ByRow wr w.heap.size (prow l k)) ∧ Hid (Below w.heap.size w wr)) (fun i _ => n - (intOf i).toNat)
  case atStart => exact ⟨0, by omega, rfl, HR0, HB0⟩
  case round =>
    clear HR0 HB0
    obtain ⟨k, hk, rfl, HR, HB⟩ := hrel
    by_cases hlt : k < n
    · obtain ⟨g, o, rfl, hc⟩ := HOp.out.cells (by omega)
      have hg : g < w.heap.size := World.block_lt_of_cell? _ _ (hc k hlt).1
      have cm := cellLater HB.out (hc k hlt).1
      have cv := cellLater HB.out (hc k hlt).2
      have hmk := HM.out k hlt
      have hk2 := HK2.out k hlt
      obtain ⟨cb, fb⟩ := HR.out.at_ (k / 2) (by rw [HPl.out]; exact hk2)
      rw [prow_at l k (k / 2) (by have := HPl.out k; rw [prow_len] at this; omega)] at cb
      have HSet : Hid (∀ wx : World, ByRow wx w.heap.size (prow l k) → ByRow (wx.setCell ⟨w.heap.size, k / 2, none⟩ (.int .u8 (pmd l (k + 1) (k / 2)))) w.heap.size (prow l (k + 1))) := fun wx hx => by
        have := hx.set (k / 2) (pmd l (k + 1) (k / 2))
        rw [prow_set l k (by rw [HL.out]; exact hlt)] at this
        exact this
      have d1 : (k : Int) < (n : Int) := by omega
      have t1 : (k : Int).tdiv 2 = ((k / 2 : Nat) : Int) := by rw [Int.tdiv_eq_ediv_of_nonneg (by omega)]; omega
      have t2 : (k : Int).tmod 2 = ((k % 2 : Nat) : Int) := by rw [Int.tmod_eq_emod_of_nonneg (by omega)]; omega
      have hw1 : IntKind.i64.wrap ((k / 2 : Nat) : Int) = ((k / 2 : Nat) : Int) := by rw [IntKind.wrap_i64]; omega
      have hw2 : IntKind.i64.wrap ((k % 2 : Nat) : Int) = ((k % 2 : Nat) : Int) := by rw [IntKind.wrap_i64]; omega
      have hw3 : IntKind.i64.wrap ((k : Int) + 1) = (k : Int) + 1 := by rw [IntKind.wrap_i64]; omega
      have HEv := hidden (pmd_even l k)
      have HOd := hidden (pmd_odd l k)
      have hbk : k % 2 = 1 → 0 ≤ (l.getD (k - 1) (0, 0)).1 ∧ (l.getD (k - 1) (0, 0)).1 ≤ 15 := fun h => HM.out (k - 1) (by omega)
      generalize (l.getD (k - 1) (0, 0)).1 = MP at *
      generalize (l.getD k (0, 0)).1 = M at *
      generalize (l.getD k (0, 0)).2 = V at *
      rcases (show k % 2 = 0 ∨ k % 2 = 1 by omega) with hpar | hpar
      · obtain ⟨e1, e2⟩ := HEv.out hpar
        rw [e1] at cb
        rw [e2] at HSet
        rw [hpar] at t2 hw2
        have HOr := hidden (or16_0 M hmk)
        rw [show M % 256 = M by omega] at HOr
        clear e1 e2 HEv HOd hpar hc hbk
        generalize k / 2 = K2 at *
        go_wp2
        have hbq : Below wr.heap.size wr (wr.alloc (.cells #[.int .i64 M, .int .u32 V] 54)) := (Below.refl _ _).alloc (Nat.le_refl _) _
        have HRq := hidden (HR.out.later hbq)
        have HBq := hidden (HB.out.trans (hbq.mono HB.out.size))
        have hwl : w.heap.size < wr.heap.size := HR.out.lt
        have cbq := cellLater hbq cb
        have fbq := (HRq.out.at_ K2 (by rw [HPl.out]; exact hk2)).2
        have ca : (wr.alloc (.cells #[.int .i64 M, .int .u32 V] 54)).cell? ⟨wr.heap.size, 0, none⟩ = some (.int .i64 M) := cell_of_row _ _ 0 _ _ (0, 0) (heap_alloc_new _ _)
        have hq1 : (K2 : Int) < (MK : Int) := by omega
        clear HR HB hbq cb fb cm cv
        generalize hwq : wr.alloc (.cells #[.int .i64 M, .int .u32 V] 54) = wq at *
        clear hwq
        have hne : ¬ wr.heap.size = w.heap.size := by omega
        have hne2 : ¬ w.heap.size = wr.heap.size := by omega
        generalize wr.heap.size = AB at *
        go_region
        all_goals (try go_wp2)
        all_goals (
          go_roundw
          case rel => exact ⟨k + 1, by omega, int_eq (by omega), by rw [HOr.out]; exact HSet.out _ HRq.out, by exact (HBq.out.setCell (p := ⟨w.heap.size, K2, none⟩) (Nat.le_refl _) _).drew⟩
          case measure => simp [intOf]; omega)
      · obtain ⟨e1, e2⟩ := HOd.out hpar
        rw [e1] at cb
        rw [e2] at HSet
        have HOr := hidden (or16_any MP M (hbk hpar) hmk)
        rw [show M * 16 % 256 = M * 16 by omega] at HOr
        have hmp := hbk hpar
        rw [hpar] at t2 hw2
        clear e1 e2 HEv HOd hpar hc hbk
        generalize k / 2 = K2 at *
        go_wp2
        have hbq : Below wr.heap.size wr (wr.alloc (.cells #[.int .i64 M, .int .u32 V] 54)) := (Below.refl _ _).alloc (Nat.le_refl _) _
        have HRq := hidden (HR.out.later hbq)
        have HBq := hidden (HB.out.trans (hbq.mono HB.out.size))
        have hwl : w.heap.size < wr.heap.size := HR.out.lt
        have cbq := cellLater hbq cb
        have fbq := (HRq.out.at_ K2 (by rw [HPl.out]; exact hk2)).2
        have ca : (wr.alloc (.cells #[.int .i64 M, .int .u32 V] 54)).cell? ⟨wr.heap.size, 0, none⟩ = some (.int .i64 M) := cell_of_row _ _ 0 _ _ (0, 0) (heap_alloc_new _ _)
        have hq1 : (K2 : Int) < (MK : Int) := by omega
        clear HR HB hbq cb fb cm cv
        generalize hwq : wr.alloc (.cells #[.int .i64 M, .int .u32 V] 54) = wq at *
        clear hwq
        have hne : ¬ wr.heap.size = w.heap.size := by omega
        have hne2 : ¬ w.heap.size = wr.heap.size := by omega
        generalize wr.heap.size = AB at *
        go_region
        all_goals (try go_wp2)
        all_goals (
          go_roundw
          case rel => exact ⟨k + 1, by omega, int_eq (by omega), by rw [HOr.out]; exact HSet.out _ HRq.out, by exact (HBq.out.setCell (p := ⟨w.heap.size, K2, none⟩) (Nat.le_refl _) _).drew⟩
          case measure => simp [intOf]; omega)
    · obtain rfl : k = n := by omega
      have d1 : ¬ (k : Int) < (k : Int) := by omega
      go_wp2
      go_ret
      have hO := HR.out
      rw [HEnd.out] at hO
      exact ⟨_, _, rfl, hO.own (Nat.le_refl _) (by rw [← HEnd.out, HPl.out]; omega) MK (by rw [← HEnd.out, HPl.out]), HB.out⟩
end Go.Proofs.Ytpkfmccnjandoaa
