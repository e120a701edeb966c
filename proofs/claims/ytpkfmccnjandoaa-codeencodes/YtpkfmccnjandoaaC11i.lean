/- Contract of package code's reader's args. -/
import Derived.Test.YtpkfmccnjandoaaC11h
namespace Go.Proofs.Ytpkfmccnjandoaa
open Go.RowKit
set_option maxHeartbeats 1000000
set_option maxRecDepth 100000
set_option linter.unusedVariables false

abbrev Od := Int × Int
def odC (p : Od) : List Value := [.int .i64 p.1, .int .u32 p.2]
def opsC (l : List Od) : List Value := l.flatMap odC
def OpRow (w : World) (G : Nat) (l : List Od) : Prop := w.heap[G]? = some (.cells (opsC l).toArray 54 (0, 0))
theorem opsC_len (l : List Od) : (opsC l).length = 2 * l.length := by
  induction l with
  | nil => rfl
  | cons p l ih =>
    show (odC p ++ opsC l).length = _
    rw [List.length_append, ih, List.length_cons]
    simp only [odC, List.length_cons, List.length_nil]; omega
theorem opsC_at (l : List Od) : ∀ i, i < l.length → (opsC l)[2 * i]? = some (.int .i64 (l.getD i (0, 0)).1) ∧ (opsC l)[2 * i + 1]? = some (.int .u32 (l.getD i (0, 0)).2) := by
  induction l with
  | nil => intro i h; simp at h
  | cons p l ih =>
    intro i h
    cases i with
    | zero => exact ⟨rfl, rfl⟩
    | succ i =>
      have := ih i (by simpa using h)
      rw [List.getD_cons_succ]
      show (odC p ++ opsC l)[2 * (i + 1)]? = _ ∧ (odC p ++ opsC l)[2 * (i + 1) + 1]? = _
      rw [List.getElem?_append_right (by simp [odC]; omega), List.getElem?_append_right (by simp [odC]; omega)]
      exact this
theorem opsC_set (l : List Od) : ∀ i (m v : Int), i < l.length → ((opsC l).set (2 * i) (.int .i64 m)).set (2 * i + 1) (.int .u32 v) = opsC (l.set i (m, v)) := by
  induction l with
  | nil => intro i m v h; simp at h
  | cons p l ih =>
    intro i m v h
    cases i with
    | zero => rfl
    | succ i =>
      have := ih i m v (by simpa using h)
      rw [List.set_cons_succ]
      show ((odC p ++ opsC l).set (2 * (i + 1)) _).set (2 * (i + 1) + 1) _ = odC p ++ opsC (l.set i (m, v))
      rw [List.set_append_right _ _ (by simp [odC]; omega), List.set_append_right _ _ (by simp [odC]; omega), ← this]
      rfl
theorem OpRow.lt {w : World} {G : Nat} {l : List Od} (h : OpRow w G l) : G < w.heap.size := (Array.getElem?_eq_some_iff.1 h).1
theorem OpRow.at_ {w : World} {G : Nat} {l : List Od} (h : OpRow w G l) (i : Nat) (hi : i < l.length) : (w.cell? ⟨G, i * 2, none⟩ = some (.int .i64 (l.getD i (0, 0)).1) ∧ w.frozen? ⟨G, i * 2, none⟩ = false) ∧ (w.cell? ⟨G, i * 2 + 1, none⟩ = some (.int .u32 (l.getD i (0, 0)).2) ∧ w.frozen? ⟨G, i * 2 + 1, none⟩ = false) := by
  have h' : w.heap[G]? = _ := h
  have := opsC_at l i hi
  rw [Nat.mul_comm 2 i] at this
  refine ⟨⟨?_, by simp [World.frozen?, h']⟩, ?_, by simp [World.frozen?, h']⟩
  · simp only [World.cell?, h']
    rw [List.getElem?_toArray]
    exact this.1
  · simp only [World.cell?, h']
    rw [List.getElem?_toArray]
    exact this.2
theorem OpRow.set {w : World} {G : Nat} {l : List Od} (h : OpRow w G l) (i : Nat) (hi : i < l.length) (m v : Int) : OpRow ((w.setCell ⟨G, i * 2, none⟩ (.int .i64 m)).setCell ⟨G, i * 2 + 1, none⟩ (.int .u32 v)) G (l.set i (m, v)) := by
  have h' : w.heap[G]? = _ := h
  unfold OpRow
  rw [← opsC_set l i m v hi, Nat.mul_comm 2 i]
  simp [World.setCell, Array.getElem?_modify, h']
theorem OpRow.fr {R G : Nat} {w w' : World} {l : List Od} (h : OpRow w G l) (hG : G ≠ R) (f : FR R w w') : OpRow w' G l := (f.block G h.lt hG).trans h
theorem OpRow.drew {w : World} {G : Nat} {l : List Od} (h : OpRow w G l) (m : Nat) : OpRow (w.drewN m) G l := h
theorem mkOps (k : Nat) (h : k ≤ 8) (w : World) : (Instr.makeSlice 26 (.int .i64 k) (.int .i64 k)).run Try.prog w = .ok (.slice (some ⟨w.heap.size, 0, none⟩) k k) (w.alloc (.cells (opsC (List.replicate k (0, 0))).toArray 54)) := by
  rcases le8 h with rfl | rfl | rfl | rfl | rfl | rfl | rfl | rfl | rfl
  all_goals kernel_rfl
/-- the operands with these modes, one behind the other from q on, and the place behind them -/
def argsO (zs : List Int) : List Int → Nat → Option (List Od × Nat)
  | [], q => some ([], q)
  | m :: ms, q => if zs.length < q + widN m then none else match argsO zs ms (q + widN m) with
    | none => none
    | some r => some ((m, toldV m (seg zs q (widN m))) :: r.1, r.2)
theorem argsO_cons (zs : List Int) (m : Int) (ms : List Int) (q : Nat) : argsO zs (m :: ms) q = if zs.length < q + widN m then none else match argsO zs ms (q + widN m) with
    | none => none
    | some r => some ((m, toldV m (seg zs q (widN m))) :: r.1, r.2) := rfl
/-- the modes and the operands of the letters -/
def argR (zs : List Int) (ls : List UInt8) (p : Nat) : Int × List Od × Nat := if mdsE zs ls p ≠ 0 then (mdsE zs ls p, [], 0) else match argsO zs (nibL zs p ls.length) (p + (ls.length + 1) / 2) with
  | none => (90, [], 0)
  | some r => (0, r.1, r.2)
theorem args_len (zs : List Int) : ∀ (ms : List Int) (q : Nat) (r : List Od × Nat), argsO zs ms q = some r → r.1.length = ms.length ∧ q ≤ r.2 ∧ (q ≤ zs.length → r.2 ≤ zs.length)
  | [], q, r, h => by simp [argsO] at h; subst h; simp
  | m :: ms, q, r, h => by
    unfold argsO at h
    split at h
    · cases h
    · split at h
      · cases h
      · rename_i hlt r' hr'
        simp only [Option.some.injEq] at h
        subst h
        have := args_len zs ms _ r' hr'
        simp only [List.length_cons]
        exact ⟨by omega, by omega, fun _ => this.2.2 (by omega)⟩
theorem FR.new2 {R H i j : Nat} {w w' : World} {u v : Value} (h : FR R w w') (hH : w.heap.size ≤ H) : FR R w ((w'.setCell ⟨H, i, none⟩ u).setCell ⟨H, j, none⟩ v) := by
  refine ⟨h.os, h.tape, h.output, ?_, fun b hb hn => ?_, h.row⟩
  · have := h.size; simpa using this
  · rw [heap_setCell_other _ _ _ _ (show b ≠ H by omega), heap_setCell_other _ _ _ _ (show b ≠ H by omega)]; exact h.block b hb hn
theorem kargs_any (R g o n c p : Nat) (zs : List Int) (ls : List UInt8) (w : World) (hbx : RdBox w R (some ⟨g, o, none⟩) n c p) (hB : Bs w g o n zs) (hb : OkB zs) (hgR : g ≠ R) (hc : n ≤ c) (hp : p ≤ n) (hn : n ≤ 2000000) (hls : ls.length ≤ 8) :
    Calls Try.prog 27 #[.pointer (some ⟨R, 0, none⟩), strV ls] w fun e w' => FR R w w' ∧ ((argR zs ls p).1 ≠ 0 → e = .returned (.tuple #[.slice none 0 0, .int .i64 (argR zs ls p).1])) ∧
      ((argR zs ls p).1 = 0 → ∃ G, e = .returned (.tuple #[.slice (some ⟨G, 0, none⟩) ls.length ls.length, .int .i64 0]) ∧ OpRow w' G (argR zs ls p).2.1 ∧ w.heap.size ≤ G ∧ RdBox w' R (some ⟨g, o, none⟩) n c (argR zs ls p).2.2) := by
  have hl : zs.length = n := hB.1
  have hRlt : R < w.heap.size := (Array.getElem?_eq_some_iff.1 hbx).1
  have hglt : 0 < n → g < w.heap.size := fun h0 => World.block_lt_of_cell? _ _ (hB.2 0 h0)
  have HMd := hidden (kmodes_any R g o n c p zs ls w hbx hB hb hgR hc hp hn hls)
  unfold argR
  by_cases hE : mdsE zs ls p = 0
  · rw [if_neg (fun h => h hE)]
    have hmk2 : p + (ls.length + 1) / 2 ≤ n := by
      unfold mdsE at hE
      by_cases h : zs.length < p + (ls.length + 1) / 2
      · rw [if_pos h] at hE; cases hE
      · omega
    have HA0 : Hid (argsO zs (nibL zs p ls.length) (p + (ls.length + 1) / 2) = none → (match argsO zs (nibL zs p ls.length) (p + (ls.length + 1) / 2) with
      | none => ((90 : Int), ([] : List Od), 0)
      | some r => (0, r.1, r.2)) = (90, [], 0)) := fun h => by rw [h]
    have HA1 : Hid (∀ r, argsO zs (nibL zs p ls.length) (p + (ls.length + 1) / 2) = some r → (match argsO zs (nibL zs p ls.length) (p + (ls.length + 1) / 2) with
      | none => ((90 : Int), ([] : List Od), 0)
      | some r => (0, r.1, r.2)) = (0, r.1, r.2)) := fun r h => by rw [h]
    generalize (match argsO zs (nibL zs p ls.length) (p + (ls.length + 1) / 2) with
      | none => ((90 : Int), ([] : List Od), 0)
      | some r => (0, r.1, r.2)) = RES at *
    have hml : (nibL zs p ls.length).length = ls.length := by simp [nibL]
    rw [hE] at HMd
    have HB := hidden hB
    have HOB := hidden hb
    have HMk := hidden fun wx => mkOps ls.length hls wx
    have HWd := hidden fun (m : Int) wx => kwidth_any m wx
    clear hbx hB hb hE
    generalize nibL zs p ls.length = ms at *
    generalize p + (ls.length + 1) / 2 = Q0 at *
    go_enter Try.func27, Try.ntmps27
    go_wp2_with (first | (go_at_call 48; refine HMd.out.mono ?_; rintro e w1 ⟨hf, _, hm⟩; obtain ⟨G, rfl, hi, hg, hx⟩ := hm rfl; have HI1 := hidden hi; have HX1 := hidden hx; have HF1 := hidden hf; clear hi hx hf hm; have hmk := HMk.out))
    have HO0 : Hid (OpRow (w1.alloc (.cells (opsC (List.replicate ls.length (0, 0))).toArray 54)) w1.heap.size (List.replicate ls.length (0, 0))) := heap_alloc_new _ _
    have hb0 : Below w1.heap.size w1 (w1.alloc (.cells (opsC (List.replicate ls.length (0, 0))).toArray 54)) := (Below.refl _ _).alloc (Nat.le_refl _) _
    have HF0 : Hid (FR R w (w1.alloc (.cells (opsC (List.replicate ls.length (0, 0))).toArray 54))) := HF1.out.trans (Fm.same hb0)
    have HX0 : Hid (RdBox (w1.alloc (.cells (opsC (List.replicate ls.length (0, 0))).toArray 54)) R (some ⟨g, o, none⟩) n c Q0) := (hb0.block R (Array.getElem?_eq_some_iff.1 HX1.out).1).trans HX1.out
    have HI0 : Hid (IntRow (w1.alloc (.cells (opsC (List.replicate ls.length (0, 0))).toArray 54)) G ms) := (hb0.block G HI1.out.lt).trans HI1.out
    have hGR : w1.heap.size ≠ R := by have := (Array.getElem?_eq_some_iff.1 HX1.out).1; omega
    have hGG : G < w1.heap.size := HI1.out.lt
    have hws : w.heap.size ≤ w1.heap.size := HF1.out.size
    clear HX1 HI1 HF1 hb0 HMd HMk
    generalize hw3 : w1.alloc (.cells (opsC (List.replicate ls.length (0, 0))).toArray 54) = w3 at *
    clear hw3
    generalize w1.heap.size = H at *
    go_loopw [29] (fun i wr => ∃ (k q : Nat) (acc : List Od), k ≤ ls.length ∧ i = .int .i64 k ∧ q ≤ n ∧ acc.length = k ∧ Hid (argsO zs ms Q0 = (argsO zs (ms.drop k) q).map fun r => (acc ++ r.1, r.2)) ∧ Hid (OpRow wr H (acc ++ List.replicate (ls.length - k) (0, 0))) ∧ Hid (FR R w wr) ∧ Hid (RdBox wr R (some ⟨g, o, none⟩) n c q) ∧ Hid (IntRow wr G ms)) (fun i _ => ls.length - (intOf i).toNat)
    case atStart =>
      refine ⟨0, Q0, [], by omega, rfl, hmk2, rfl, ?_, by rw [Nat.sub_zero]; exact HO0, HF0, HX0, HI0⟩
      rw [List.drop_zero]
      show argsO zs ms Q0 = _
      cases argsO zs ms Q0 <;> simp
    case round =>
      clear HO0 HF0 HX0 HI0
      obtain ⟨k, q, acc, hkl, rfl, hqn, hacc, HAR, HO, HF, HX, HI⟩ := hrel
      have HACC := hidden hacc
      clear hacc
      by_cases hlt : k < ls.length
      · have cm := (HI.out.at_ k (by omega)).1
        have HDr : Hid (ms.drop k = ms.getD k 0 :: ms.drop (k + 1)) := by
          show _ = _
          rw [List.drop_eq_getElem_cons (by omega), List.getD_eq_getElem?_getD, List.getElem?_eq_getElem (by omega)]; rfl
        rw [HDr.out] at HAR
        generalize ms.getD k 0 = M at *
        have HW1 := hidden fun wx => HWd.out M wx
        have hwc := widN_cases M
        rw [widI_nat] at HW1
        generalize okM M = OK at *
        have d1 : (k : Int) < (ls.length : Int) := by omega
        have hw3 : IntKind.i64.wrap ((k : Int) + 1) = (k : Int) + 1 := by rw [IntKind.wrap_i64]; omega
        have HBr : Hid (Bs wr g o n zs) := HB.out.fr hgR HF.out
        by_cases hs : n < q + widN M
        · have HT := hidden (ktake_no R g o n c q (widN M) wr HX.out hqn hs hn (by omega))
          have HAN : Hid (argsO zs ms Q0 = none) := by
            refine HAR.out.trans ?_
            rw [argsO_cons, hl, if_pos hs]; rfl
          clear HAR
          generalize widN M = WN at *
          go_wp2_with (first | (go_at_call 49; refine (HW1.out _).mono ?_; rintro e w4 ⟨rfl, rfl⟩) | (go_at_call 46; refine HT.out.mono ?_; rintro e w5 ⟨rfl, hd⟩))
          go_ret2
          have hE := HA0.out HAN.out
          rw [hE]
          exact ⟨HF.out.trans (Fm.same hd.below), fun _ => rfl, fun h => by simp at h⟩
        · have HT := hidden (ktake_yes R g o n c q (widN M) zs wr HX.out HBr.out hgR hc (by omega) hn (by omega))
          have HTo := hidden fun A c' wx (h : Reads wx (some A) (widN M) c' (seg zs q (widN M))) => ktold_any M (some A) (widN M) c' _ wx h (seg_okb HOB.out _ _) hwc
          have HA2 : Hid (argsO zs ms Q0 = (argsO zs (ms.drop (k + 1)) (q + widN M)).map fun r => ((acc ++ [(M, toldV M (seg zs q (widN M)))]) ++ r.1, r.2)) := by
            refine HAR.out.trans ?_
            rw [argsO_cons, hl, if_neg hs]
            cases argsO zs (ms.drop (k + 1)) (q + widN M) <;> simp
          clear HAR
          have HOs : Hid (∀ wx v, OpRow wx H (acc ++ List.replicate (ls.length - k) (0, 0)) → OpRow ((wx.setCell ⟨H, k * 2, none⟩ (.int .i64 M)).setCell ⟨H, k * 2 + 1, none⟩ (.int .u32 v)) H ((acc ++ [(M, v)]) ++ List.replicate (ls.length - (k + 1)) (0, 0))) := fun wx v h => by
            have e : ls.length - k = (ls.length - (k + 1)) + 1 := by omega
            have := h.set k (by have := HACC.out; simp; omega) M v
            have hacc := HACC.out
            rw [e, List.replicate_succ, List.set_append_right _ _ (by omega), show k - acc.length = 0 by omega, List.set_cons_zero] at this
            rw [List.append_assoc]
            exact this
          generalize toldV M (seg zs q (widN M)) = V at *
          generalize widN M = WN at *
          go_wp2_with (first | (go_at_call 49; refine (HW1.out _).mono ?_; rintro e w4 ⟨rfl, rfl⟩) | (go_at_call 46; refine HT.out.mono ?_; rintro e w5 ⟨A, c', rfl, hr, hx, hf⟩; have HO5 := hidden (HO.out.fr hGR hf); have HI5 := hidden (HI.out.fr (by omega) hf); have HF5 := hidden (HF.out.trans hf); have HX5 := hidden hx; have HTo5 := hidden (HTo.out _ _ _ hr); have hcell := HO5.out.at_ k (by have := HACC.out; simp; omega); obtain ⟨⟨cm1, fm1⟩, cm2, fm2⟩ := hcell; clear hr hx hf cm) | (go_at_call 35; refine HTo5.out.mono ?_; rintro e w6 ⟨rfl, rfl⟩))
          have HO6 := hidden (HOs.out _ V HO5.out)
          have HF6 : Hid (FR R w ((w6.setCell ⟨H, k * 2, none⟩ (.int .i64 M)).setCell ⟨H, k * 2 + 1, none⟩ (.int .u32 V))) := FR.new2 HF5.out hws
          have HX6 : Hid (RdBox ((w6.setCell ⟨H, k * 2, none⟩ (.int .i64 M)).setCell ⟨H, k * 2 + 1, none⟩ (.int .u32 V)) R (some ⟨g, o, none⟩) n c (q + WN)) := ((heap_setCell_other _ _ _ _ (show R ≠ H by omega)).trans (heap_setCell_other _ _ _ _ (show R ≠ H by omega))).trans HX5.out
          have HI6 : Hid (IntRow ((w6.setCell ⟨H, k * 2, none⟩ (.int .i64 M)).setCell ⟨H, k * 2 + 1, none⟩ (.int .u32 V)) G ms) := ((heap_setCell_other _ _ _ _ (show G ≠ H by omega)).trans (heap_setCell_other _ _ _ _ (show G ≠ H by omega))).trans HI5.out
          go_roundw
          case rel => exact ⟨k + 1, q + WN, acc ++ [(M, V)], by omega, int_eq (by omega), by omega, by rw [List.length_append, HACC.out]; rfl, HA2, HO6, HF6, HX6, HI6⟩
          case measure => simp [intOf]; omega
      · obtain rfl : k = ls.length := by omega
        have HAE : Hid (argsO zs ms Q0 = some (acc, q)) := by
          refine HAR.out.trans ?_
          rw [List.drop_eq_nil_of_le (by omega)]
          simp [argsO]
        have d1 : ¬ (ls.length : Int) < (ls.length : Int) := by omega
        go_wp2
        go_ret2
        have hE := HA1.out _ HAE.out
        rw [hE]
        exact ⟨HF.out, fun h => (h rfl).elim, fun _ => ⟨H, rfl, by have := HO.out; simpa using this, hws, HX.out⟩⟩
  · rw [if_pos hE]
    clear hbx hB hb
    generalize mdsE zs ls p = E at *
    have q1 : ¬ E = 0 := hE
    have q2 : (E == 0) = false := by simpa using hE
    go_enter Try.func27, Try.ntmps27
    go_wp2_with (first | (go_at_call 48; refine HMd.out.mono ?_; rintro e w1 ⟨hf, hm, _⟩; obtain rfl := hm hE))
    go_ret2
    exact ⟨hf, fun _ => rfl, fun h => (hE h).elim⟩
end Go.Proofs.Ytpkfmccnjandoaa
