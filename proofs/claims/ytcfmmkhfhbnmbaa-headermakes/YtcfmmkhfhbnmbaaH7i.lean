/- Contract of package header's layHeader: the bytes of a header. -/
import Derived.Test.YtcfmmkhfhbnmbaaH7g
import Derived.Lib.AppendStr
import Derived.Laws.MakeOwn
namespace Go.Proofs.Ytcfmmkhfhbnmbaa
open Go.RowKit
set_option maxHeartbeats 1000000
set_option maxRecDepth 100000
set_option linter.unusedVariables false

/-- a text's bytes as numbers -/
def idI (s : ByteArray) : List Int := s.data.toList.map fun b => (b.toNat : Int)
theorem idI_cells (s : ByteArray) : Lib.strCells s = bytesV (idI s) := by simp [Lib.strCells, idI, bytesV]
/-- words as bytes -/
def putsL (l : List Int) : List Int := l.flatMap fun x => putL x 4
/-- a header's bytes -/
def hdrL (h : Hd) : List Int := glul ++ putsL [h.v, h.ram, h.ext, h.en, h.st, h.start, h.tab, h.sum]
/-- a box that holds a header -/
def HBox (w : World) (g : Nat) (h : Hd) : Prop := w.heap[g]? = some (.cells #[.int .u32 h.v, .int .u32 h.ram, .int .u32 h.ext, .int .u32 h.en, .int .u32 h.st, .int .u32 h.start, .int .u32 h.tab, .int .u32 h.sum] 27 (0, 0))
theorem HBox.new (w : World) (h : Hd) : HBox (w.alloc (.cells #[.int .u32 h.v, .int .u32 h.ram, .int .u32 h.ext, .int .u32 h.en, .int .u32 h.st, .int .u32 h.start, .int .u32 h.tab, .int .u32 h.sum] 27)) w.heap.size h := heap_alloc_new _ _
theorem HBox.lt {w : World} {g : Nat} {h : Hd} (H : HBox w g h) : g < w.heap.size := by
  unfold HBox at H
  exact (Array.getElem?_eq_some_iff.1 H).1
theorem HBox.grown {w w' : World} {g : Nat} {h : Hd} {row : Option Nat} (H : HBox w g h) (hg : w.grownBy w' row) (hne : row ≠ some g) : HBox w' g h :=
  (hg.block g H.lt (fun e => hne e.symm)).trans H
theorem HBox.alloc {w : World} {g : Nat} {h : Hd} (H : HBox w g h) (o : Obj) : HBox (w.alloc o) g h :=
  H.grown (World.grownBy_alloc w o none) (by simp)
theorem HBox.later {w w' : World} {g : Nat} {h : Hd} (H : HBox w g h) (hb : Below w.heap.size w w') : HBox w' g h := (hb.block g H.lt).trans H
theorem HBox.ne {w : World} {g : Nat} {h : Hd} (H : HBox w g h) {base n : Nat} {v : Value} {xs : List Value} (ho : w.ownsRow base 5 1 v n xs) : v.ownBlock ≠ some g := by
  intro e
  rcases ho.2 with ⟨rfl, _⟩ | ⟨g', cap, cur, rfl, _, hg, _⟩
  · cases e
  · have e' : g' = g := by simpa [Value.ownBlock] using e
    subst e'
    unfold HBox at H
    rw [H] at hg
    simp at hg
theorem HBox.cells {w : World} {g : Nat} {h : Hd} (H : HBox w g h) : w.cell? ⟨g, 0, none⟩ = some (.int .u32 h.v) ∧ w.cell? ⟨g, 1, none⟩ = some (.int .u32 h.ram) ∧ w.cell? ⟨g, 2, none⟩ = some (.int .u32 h.ext) ∧ w.cell? ⟨g, 3, none⟩ = some (.int .u32 h.en) ∧ w.cell? ⟨g, 4, none⟩ = some (.int .u32 h.st) ∧ w.cell? ⟨g, 5, none⟩ = some (.int .u32 h.start) ∧ w.cell? ⟨g, 6, none⟩ = some (.int .u32 h.tab) ∧ w.cell? ⟨g, 7, none⟩ = some (.int .u32 h.sum) := by
  unfold HBox at H
  simp [World.cell?, H]
/-- what one word more leaves -/
theorem puts_snoc (l : List Int) (k : Nat) (x : Int) (h : l[k]? = some x) : putsL (l.take (k + 1)) = putsL (l.take k) ++ putL x 4 := by
  unfold putsL
  rw [List.take_add_one, h]
  simp
theorem layh_any (h : Hd) (w : World) :
    Calls Try.prog 27 #[.agg #[.int .u32 h.v, .int .u32 h.ram, .int .u32 h.ext, .int .u32 h.en, .int .u32 h.st, .int .u32 h.start, .int .u32 h.tab, .int .u32 h.sum]] w fun e w' => ∃ r, e = .returned r ∧ w'.ownsRow w.heap.size 5 1 r 36 (bytesV (hdrL h)) ∧ Below w.heap.size w w' := by
  obtain ⟨i0, hi, hz0, hz1, hz2⟩ := info_parts info8
  have HX := hidden (HBox.new w h)
  have hb1 : Below w.heap.size w (w.alloc (.cells #[.int .u32 h.v, .int .u32 h.ram, .int .u32 h.ext, .int .u32 h.en, .int .u32 h.st, .int .u32 h.start, .int .u32 h.tab, .int .u32 h.sum] 27)) := (Below.refl _ _).alloc (Nat.le_refl _) _
  unfold hdrL
  obtain ⟨v, ram, ext, en, st, start, tab, sm⟩ := h
  dsimp only at *
  go_enter Try.func27, Try.ntmps27
  go_upto_region 1 with fail
  generalize hw1 : w.alloc (.cells #[.int .u32 v, .int .u32 ram, .int .u32 ext, .int .u32 en, .int .u32 st, .int .u32 start, .int .u32 tab, .int .u32 sm] 27) = w1 at *
  clear hw1
  have hs1 := hb1.size
  obtain ⟨w3, hmk, hown, hgrow⟩ := run_make_own (P := Try.prog) w1 w.heap.size 22 5 i0 (.int .u8 0) 1 Try.underlying22 hi hz0 hz1 .i64 .i64 36 (by rw [hz2]; omega) (by decide) hs1
  have hmk2 : (Instr.makeSlice 22 (.int .i64 0) (.int .i64 36)).run Try.prog w1 = .ok (.slice (some ⟨w1.heap.size, 0, none⟩) 0 36) w3 := hmk
  have hb4 : Below w.heap.size w w3 := hb1.grown hgrow hs1 (by intro k hk; cases hk)
  replace HX := hidden (HX.out.grown hgrow (by simp))
  have hs4 := hb4.size
  have HO := hidden hown
  clear hown hgrow hb1 hs1 hmk
  go_wp2_with (at_builtin; refine Lib.wpList_append_own_string _ rfl (.tmp 7) (.const (.string ⟨#[71, 108, 117, 108]⟩)) 22 9 rfl w.heap.size 5 i0 Try.underlying22 Try.underlying9 hi hz0 hz1 hz2 _ _ _ rfl HO.out ⟨#[71, 108, 117, 108]⟩ rfl (by decide) (by decide) (by omega) ?_; intro v1 w4 hown1 hgrow1 hiff1; clear hiff1; refine Hid.out ?_)
  replace hgrow1 : w3.grownBy w4 (Value.slice (some ⟨w1.heap.size, 0, none⟩) 0 36).ownBlock := hgrow1
  have hb5 : Below w.heap.size w w4 := hb4.grown hgrow1 hs4 (fun k hk => (HO.out.lt k hk).1)
  replace HX := hidden (HX.out.grown hgrow1 (HX.out.ne HO.out))
  have hown2 : w4.ownsRow w.heap.size 5 1 v1 (4 + 4 * 0) (bytesV (glul ++ putsL ([v, ram, ext, en, st, start, tab, sm].take 0))) := hown1
  have HO1 := hidden hown2
  have hs5 := hb5.size
  obtain ⟨c0, c1, c2, c3, c4, c5, c6, c7⟩ := HX.out.cells
  dsimp only at c0 c1 c2 c3 c4 c5 c6 c7
  clear hown1 hown2 hgrow1 HO hb4 hs4 hmk2
  refine hidden ?_
  go_wp2
  clear c0 c1 c2 c3 c4 c5 c6 c7
  go_loopw [3, 26] (fun v' i w' => ∃ k : Nat, k ≤ 8 ∧ i = .int .i64 k ∧ w'.ownsRow w.heap.size 5 1 v' (4 + 4 * k) (bytesV (glul ++ putsL ([v, ram, ext, en, st, start, tab, sm].take k))) ∧ Below w.heap.size w w') (fun _ i _ => 8 - (intOf i).toNat)
  case atStart => exact ⟨0, by omega, rfl, HO1.out, hb5⟩
  case round =>
    obtain ⟨k, hk, rfl, hown, hbl⟩ := hrel
    have HO := hidden hown
    clear hown HO1 hb5 hs5 HX
    have hs1 := hbl.size
    by_cases hlt : k < 8
    · have hlt2 : (k : Int) < 8 := by omega
      obtain ⟨X, hX⟩ : ∃ X, [v, ram, ext, en, st, start, tab, sm][k]? = some X := ⟨_, List.getElem?_eq_getElem (show k < 8 by omega)⟩
      have hix : ∀ w, (Instr.index 58 (.agg #[.int .u32 v, .int .u32 ram, .int .u32 ext, .int .u32 en, .int .u32 st, .int .u32 start, .int .u32 tab, .int .u32 sm]) (.int .i64 (k : Int))).run Try.prog w = .ok (.int .u32 X) w := by
        intro w
        obtain rfl | rfl | rfl | rfl | rfl | rfl | rfl | rfl : k = 0 ∨ k = 1 ∨ k = 2 ∨ k = 3 ∨ k = 4 ∨ k = 5 ∨ k = 6 ∨ k = 7 := by omega
        all_goals
          have e := Option.some.inj hX
          subst e
          first | rfl | (show _ = _; kernel_rfl)
      have HP := hidden (puts_snoc _ k X hX)
      have HXX := hidden hX
      clear hX
      have hk0 : (0 : Int) ≤ (k : Int) := by omega
      have HO1 := hidden (HO.out.alloc (.cells (bytesV (putL X 4)).toArray 5))
      have hb6 := hbl.alloc hs1 (.cells (bytesV (putL X 4)).toArray 5)
      have HN2 := hidden (new_cell wr (putL X 4) (show 4 ≤ maxLen by decide))
      go_wp2_with (first | (go_at_call 28; refine (putn_4 _ _).mono ?_; rintro e w9 ⟨rfl, hw⟩; subst hw) | (at_builtin; refine wpList_append_own _ rfl (.tmp 29) (.tmp 31) 22 rfl w.heap.size 5 i0 (.int .u8 0) 1 1 Try.underlying22 hi hz0 hz1 hz2 rfl (by decide) _ _ _ rfl HO1.out ⟨wr.heap.size, 0, none⟩ 4 4 (bytesV (putL X 4)) rfl rfl HN2.out (bytesV_one _) (by unfold maxLen; omega) (by omega) (by simp; omega) ?_; intro v2 w5 hown2 hgrow2 hiff2; clear hiff2; refine Hid.out ?_))
      replace hgrow2 : (wr.alloc (.cells (bytesV (putL X 4)).toArray 5)).grownBy w5 u3.ownBlock := hgrow2
      have hb7 : Below w.heap.size w w5 := hb6.grown hgrow2 hb6.size (fun k hk => (HO1.out.lt k hk).1)
      rw [bytesV_append, List.append_assoc, ← HP.out] at hown2
      have HO2 := hidden hown2
      clear hown2 hgrow2 HO1 hb6 HN2 hix
      refine hidden ?_
      go_wp2
      go_roundw
      case rel => exact ⟨k + 1, by omega, by go_num, HO2.out, hb7⟩
      case measure => simp [intOf]; omega
    · obtain rfl : k = 8 := by omega
      go_wp2
      go_ret
      exact ⟨_, rfl, HO.out, hbl⟩
end Go.Proofs.Ytcfmmkhfhbnmbaa
