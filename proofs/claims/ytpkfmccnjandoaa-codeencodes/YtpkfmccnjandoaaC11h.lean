/- Contract of package code's reader's modes. -/
import Derived.Test.YtpkfmccnjandoaaC11g
namespace Go.Proofs.Ytpkfmccnjandoaa
open Go.RowKit
set_option maxHeartbeats 1000000
set_option maxRecDepth 100000
set_option linter.unusedVariables false

def intC (l : List Int) : List Value := l.map (Value.int .i64)
def IntRow (w : World) (G : Nat) (l : List Int) : Prop := w.heap[G]? = some (.cells (intC l).toArray 3 (0, 0))
theorem IntRow.at_ {w : World} {G : Nat} {l : List Int} (h : IntRow w G l) (i : Nat) (hi : i < l.length) : w.cell? ⟨G, i, none⟩ = some (.int .i64 (l.getD i 0)) ∧ w.frozen? ⟨G, i, none⟩ = false := by
  have h' : w.heap[G]? = _ := h
  simp [World.cell?, World.frozen?, h', intC, hi, List.getD_eq_getElem?_getD]
theorem IntRow.set {w : World} {G : Nat} {l : List Int} (h : IntRow w G l) (i : Nat) (x : Int) : IntRow (w.setCell ⟨G, i, none⟩ (.int .i64 x)) G (l.set i x) := by
  have h' : w.heap[G]? = _ := h
  show (w.setCell _ _).heap[G]? = _
  simp [World.setCell, Array.getElem?_modify, h', intC]
theorem IntRow.lt {w : World} {G : Nat} {l : List Int} (h : IntRow w G l) : G < w.heap.size := (Array.getElem?_eq_some_iff.1 h).1
theorem IntRow.fr {R G : Nat} {w w' : World} {l : List Int} (h : IntRow w G l) (hG : G ≠ R) (f : FR R w w') : IntRow w' G l := (f.block G h.lt hG).trans h
theorem IntRow.drew {w : World} {G : Nat} {l : List Int} (h : IntRow w G l) (m : Nat) : IntRow (w.drewN m) G l := h
theorem le8 {k : Nat} (h : k ≤ 8) : k = 0 ∨ k = 1 ∨ k = 2 ∨ k = 3 ∨ k = 4 ∨ k = 5 ∨ k = 6 ∨ k = 7 ∨ k = 8 := by omega
theorem mkInt (k : Nat) (h : k ≤ 8) (w : World) : (Instr.makeSlice 87 (.int .i64 k) (.int .i64 k)).run Try.prog w = .ok (.slice (some ⟨w.heap.size, 0, none⟩) k k) (w.alloc (.cells (intC (List.replicate k 0)).toArray 3)) := by
  rcases le8 h with rfl | rfl | rfl | rfl | rfl | rfl | rfl | rfl | rfl
  all_goals kernel_rfl
/-- the mode number i of the bytes behind q -/
def nib (zs : List Int) (q i : Nat) : Int := if i % 2 = 0 then zs.getD (q + i / 2) 0 % 16 else zs.getD (q + i / 2) 0 / 16
def nibL (zs : List Int) (q k : Nat) : List Int := (List.range k).map (nib zs q)
def mrow (zs : List Int) (q k i : Nat) : List Int := nibL zs q i ++ List.replicate (k - i) 0
theorem mrow_len (zs : List Int) (q k i : Nat) (h : i ≤ k) : (mrow zs q k i).length = k := by simp [mrow, nibL]; omega
theorem mrow_set (zs : List Int) (q k i : Nat) (h : i < k) : (mrow zs q k i).set i (nib zs q i) = mrow zs q k (i + 1) := by
  have e : k - i = (k - (i + 1)) + 1 := by omega
  unfold mrow nibL
  rw [e, List.replicate_succ, List.range_succ, List.map_append, List.append_assoc, List.set_append_right _ _ (by simp)]
  simp
theorem mrow_end (zs : List Int) (q k : Nat) : mrow zs q k k = nibL zs q k := by simp [mrow]
theorem mrow_at (zs : List Int) (q k i : Nat) (h : i < k) : (mrow zs q k (i + 1)).getD i 0 = nib zs q i := by
  simp [mrow, nibL, List.getD_eq_getElem?_getD, List.getElem?_append]
theorem nib_bd (zs : List Int) (hb : OkB zs) (q i : Nat) : 0 ≤ nib zs q i ∧ nib zs q i ≤ 15 := by
  have := okb_at hb (q + i / 2)
  unfold nib
  split <;> omega
def allMay (ls : List UInt8) (ms : List Int) : Bool := (List.range ls.length).all fun i => mayB ((ls.getD i 0).toNat : Int) (ms.getD i 0)
/-- all modes of the letters -/
def mdsE (zs : List Int) (ls : List UInt8) (p : Nat) : Int := if zs.length < p + (ls.length + 1) / 2 then 90 else if allMay ls (nibL zs p ls.length) then 0 else 111
theorem nibL_at (zs : List Int) (q k i : Nat) (h : i < k) : (nibL zs q k).getD i 0 = nib zs q i := by simp [nibL, List.getD_eq_getElem?_getD, h]
theorem may_no {zs : List Int} {ls : List UInt8} {q i : Nat} (hi : i < ls.length) (h : mayB ((ls.getD i 0).toNat : Int) (nib zs q i) = false) : allMay ls (nibL zs q ls.length) = false := by
  unfold allMay
  rw [List.all_eq_false]
  exact ⟨i, by simpa using hi, by rw [nibL_at _ _ _ _ hi, h]; simp⟩
theorem may_yes {zs : List Int} {ls : List UInt8} {q : Nat} (h : ∀ i, i < ls.length → mayB ((ls.getD i 0).toNat : Int) (nib zs q i) = true) : allMay ls (nibL zs q ls.length) = true := by
  unfold allMay
  rw [List.all_eq_true]
  intro i hi
  have hi' : i < ls.length := by simpa using hi
  rw [nibL_at _ _ _ _ hi', h i hi']
theorem addr_block (x : Addr) (i : Nat) : (x.add i).block = x.block := by unfold Addr.add; split <;> rfl
theorem Reads.other {w w' : World} {a : Option Addr} {n c k : Nat} {zs : List Int} (h : Reads w a n c zs) (ha : ∀ x, a = some x → x.block ≠ k) (hb : ∀ b, b ≠ k → w'.heap[b]? = w.heap[b]?) : Reads w' a n c zs := by
  obtain ⟨h1, h2, h3⟩ := h
  refine ⟨h1, h2, ?_⟩
  rcases h3 with h3 | ⟨x, rfl, hc⟩
  · exact .inl h3
  · refine .inr ⟨x, rfl, fun i hi => ?_⟩
    rw [← hc i hi]
    simp only [World.cell?]
    rw [hb (x.add i).block (by have := ha x rfl; rwa [addr_block])]
theorem idx_str (ls : List UInt8) (k : Nat) (h : k < ls.length) (wx : World) : (Instr.index 9 (strV ls) (.int .i64 (k : Int))).run Try.prog wx = .ok (.int .u8 ((ls.getD k 0).toNat : Int)) wx := by
  have hs : (⟨ls.toArray⟩ : ByteArray).size = ls.length := by simp [ByteArray.size]
  rw [run_index_string wx 9 _ .i64 (k : Int) Try.underlying9, dif_pos (by rw [hs]; omega)]
  have e : ∀ (i : Nat) (hi : i < (⟨ls.toArray⟩ : ByteArray).size), i = k → (⟨ls.toArray⟩ : ByteArray)[i]'hi = ls.getD k 0 := fun i hi hk => by
    subst hk
    show ls.toArray[i]'_ = _
    simp [List.getD_eq_getElem?_getD, h]
  rw [e _ _ (by omega)]
theorem kmodes_any (R g o n c p : Nat) (zs : List Int) (ls : List UInt8) (w : World) (hbx : RdBox w R (some ⟨g, o, none⟩) n c p) (hB : Bs w g o n zs) (hb : OkB zs) (hgR : g ≠ R) (hc : n ≤ c) (hp : p ≤ n) (hn : n ≤ 2000000) (hls : ls.length ≤ 8) :
    Calls Try.prog 48 #[.pointer (some ⟨R, 0, none⟩), strV ls] w fun e w' => FR R w w' ∧ (mdsE zs ls p ≠ 0 → e = .returned (.tuple #[.slice none 0 0, .int .i64 (mdsE zs ls p)])) ∧
      (mdsE zs ls p = 0 → ∃ G, e = .returned (.tuple #[.slice (some ⟨G, 0, none⟩) ls.length ls.length, .int .i64 0]) ∧ IntRow w' G (nibL zs p ls.length) ∧ w.heap.size ≤ G ∧ RdBox w' R (some ⟨g, o, none⟩) n c (p + (ls.length + 1) / 2)) := by
  have hl : zs.length = n := hB.1
  have HSz := hidden fun wx => kmsz_any ls.length wx (by omega)
  have hRlt : R < w.heap.size := (Array.getElem?_eq_some_iff.1 hbx).1
  have hsz : (⟨ls.toArray⟩ : ByteArray).size = ls.length := by simp [ByteArray.size]
  unfold mdsE
  rw [hl]
  by_cases hk : n < p + (ls.length + 1) / 2
  · rw [if_pos hk]
    have HT := hidden ((ktake_no R g o n c p ((ls.length + 1) / 2) w hbx hp hk hn (by omega)).mono (fun e w' hh => (⟨hh.1, Fm.same hh.2.below⟩ : _ ∧ FR R w w')))
    clear hbx hB hb
    generalize hMK : (ls.length + 1) / 2 = MK at *
    clear hMK
    go_enter Try.func48, Try.ntmps48
    go_wp2_with (first | (go_at_call 54; refine (HSz.out _).mono ?_; rintro e w1 ⟨rfl, rfl⟩) | (go_at_call 46; refine HT.out.mono ?_; rintro e w2 ⟨rfl, hf⟩))
    go_ret2
    exact ⟨hf, fun _ => rfl, fun h => by simp at h⟩
  · rw [if_neg hk]
    have HE0 : Hid (allMay ls (nibL zs p ls.length) = true → (if allMay ls (nibL zs p ls.length) = true then (0 : Int) else 111) = 0) := fun h => by rw [if_pos h]
    have HE1 : Hid (allMay ls (nibL zs p ls.length) = false → (if allMay ls (nibL zs p ls.length) = true then (0 : Int) else 111) = 111) := fun h => by rw [h]; rfl
    generalize (if allMay ls (nibL zs p ls.length) = true then (0 : Int) else 111) = E at *
    have HT := hidden (ktake_yes R g o n c p ((ls.length + 1) / 2) zs w hbx hB hgR hc (by omega) hn (by omega))
    have HM := hidden fun (i m : Int) wx => kmay_any i m wx
    have HMk := hidden fun wx => mkInt ls.length hls wx
    have hmkc : (ls.length + 1) / 2 ≤ 4 := by omega
    have HOB := hidden hb
    have HMK2 := hidden (show ∀ i, i < ls.length → i / 2 < (ls.length + 1) / 2 by omega)
    clear hbx hB hb
    have HTL : Hid (zs.length = n ∧ p + (ls.length + 1) / 2 ≤ n) := ⟨hl, by omega⟩
    generalize hMK : (ls.length + 1) / 2 = MK at *
    clear hMK
    go_enter Try.func48, Try.ntmps48
    go_wp2_with (first | (go_at_call 54; refine (HSz.out _).mono ?_; rintro e w1 ⟨rfl, rfl⟩) | (go_at_call 46; refine HT.out.mono ?_; rintro e w2 ⟨A, c', rfl, hr, hx, hf⟩; have HR2 := hidden hr; have HX2 := hidden hx; have HF2 := hidden hf; clear hr hx hf; have hmk := HMk.out))
    have HI0 : Hid (IntRow (w2.alloc (.cells (intC (List.replicate ls.length 0)).toArray 3)) w2.heap.size (mrow zs p ls.length 0)) := by
      refine (heap_alloc_new _ _).trans ?_
      simp [mrow, nibL]
    have hb0 : Below w2.heap.size w2 (w2.alloc (.cells (intC (List.replicate ls.length 0)).toArray 3)) := (Below.refl _ _).alloc (Nat.le_refl _) _
    have HF0 : Hid (FR R w1 (w2.alloc (.cells (intC (List.replicate ls.length 0)).toArray 3))) := HF2.out.trans (Fm.same hb0)
    have HX0 : Hid (RdBox (w2.alloc (.cells (intC (List.replicate ls.length 0)).toArray 3)) R (some ⟨g, o, none⟩) n c (p + MK)) := (hb0.block R (Array.getElem?_eq_some_iff.1 HX2.out).1).trans HX2.out
    have HR0 := hidden (HR2.out.later hb0)
    have hGR : w2.heap.size ≠ R := by have := (Array.getElem?_eq_some_iff.1 HX2.out).1; omega
    have hGs : w1.heap.size ≤ w2.heap.size := HF2.out.size
    have HAG : Hid (∀ x : Addr, A = x → 0 < MK → x.block < w2.heap.size) := fun x hx h0 => by
      obtain ⟨g', o', hA, hB'⟩ := HR2.out.bs h0
      have hc0 := hB'.2 0 h0
      have := World.block_lt_of_cell? _ _ hc0
      cases hA
      rw [← hx]; exact this
    clear HX2 HR2 HF2 hb0 HT HSz HMk
    generalize hw3 : w2.alloc (.cells (intC (List.replicate ls.length 0)).toArray 3) = w3 at *
    clear hw3
    generalize w2.heap.size = G at *
    go_loopw [26] (fun i wr => ∃ k : Nat, k ≤ ls.length ∧ i = .int .i64 k ∧ Hid (∀ j, j < k → mayB ((ls.getD j 0).toNat : Int) (nib zs p j) = true) ∧ Hid (IntRow wr G (mrow zs p ls.length k)) ∧ Hid (FR R w1 wr) ∧ Hid (RdBox wr R (some ⟨g, o, none⟩) n c (p + MK)) ∧ Hid (Reads wr (some A) MK c' (seg zs p MK))) (fun i _ => ls.length - (intOf i).toNat)
    case atStart => exact ⟨0, by omega, rfl, fun j hj => by omega, HI0, HF0, HX0, HR0⟩
    case round =>
      clear HI0 HF0 HX0 HR0
      obtain ⟨k, hkl, rfl, HJ, HI, HF, HX, HR⟩ := hrel
      by_cases hlt : k < ls.length
      · have hk2 := HMK2.out k hlt
        obtain ⟨g', o', hA, hB'⟩ := HR.out.bs (by omega)
        cases hA
        have hgG : g' < G := HAG.out _ rfl (by omega)
        have cb := hB'.2 (k / 2) hk2
        rw [seg_at zs p MK (k / 2) hk2 (by rw [HTL.out.1]; exact HTL.out.2)] at cb
        have bx := okb_at HOB.out (p + k / 2)
        obtain ⟨cg, fg⟩ := HI.out.at_ k (by rw [mrow_len _ _ _ _ hkl]; exact hlt)
        have HIs := hidden (HI.out.set k (nib zs p k))
        rw [mrow_set zs p _ k hlt] at HIs
        have d1 : (k : Int) < (ls.length : Int) := by omega
        have t1 : (k : Int).tdiv 2 = ((k / 2 : Nat) : Int) := by rw [Int.tdiv_eq_ediv_of_nonneg (by omega)]; omega
        have t2 : (k : Int).tmod 2 = ((k % 2 : Nat) : Int) := by rw [Int.tmod_eq_emod_of_nonneg (by omega)]; omega
        have hw1 : IntKind.i64.wrap ((k / 2 : Nat) : Int) = ((k / 2 : Nat) : Int) := by rw [IntKind.wrap_i64]; omega
        have hw2 : IntKind.i64.wrap ((k % 2 : Nat) : Int) = ((k % 2 : Nat) : Int) := by rw [IntKind.wrap_i64]; omega
        have hw3 : IntKind.i64.wrap ((k : Int) + 1) = (k : Int) + 1 := by rw [IntKind.wrap_i64]; omega
        have hix := idx_str ls k hlt
        have HNBe : Hid (nib zs p k = nib zs p k) := rfl
        have HNb := hidden (show nib zs p k = if k % 2 = 0 then zs.getD (p + k / 2) 0 % 16 else zs.getD (p + k / 2) 0 / 16 from rfl)
        clear hB'
        generalize zs.getD (p + k / 2) 0 = X at *
        obtain ⟨NB, hNB⟩ : ∃ NB, nib zs p k = NB := ⟨_, rfl⟩
        replace HNBe : Hid (nib zs p k = NB) := hNB
        rw [hNB] at HNb HIs
        clear hNB
        generalize (mrow zs p ls.length k).getD k 0 = OLD at *
        rcases (show k % 2 = 0 ∨ k % 2 = 1 by omega) with hpar | hpar
        · rw [hpar] at t2 hw2
          rw [if_pos hpar] at HNb
          generalize k / 2 = K2 at *
          clear hpar
          have hv : X % 16 = NB := HNb.out.symm
          have hv2 := eq_true hv
          clear hv
          go_wp2
          rw [of_eq_true hv2]
          clear hv2
          have HF1 : Hid (FR R w1 (wr.setCell ⟨G, k, none⟩ (.int .i64 NB))) := by
            refine ⟨HF.out.os, HF.out.tape, HF.out.output, ?_, fun b hb hn => ?_, HF.out.row⟩
            · have := HF.out.size; simpa using this
            · rw [heap_setCell_other _ _ _ _ (show b ≠ G by omega)]; exact HF.out.block b hb hn
          have HX1 : Hid (RdBox (wr.setCell ⟨G, k, none⟩ (.int .i64 NB)) R (some ⟨g, o, none⟩) n c (p + MK)) := (heap_setCell_other _ _ _ _ (show R ≠ G by omega)).trans HX.out
          have HR1 : Hid (Reads (wr.setCell ⟨G, k, none⟩ (.int .i64 NB)) (some ⟨g', o', none⟩) MK c' (seg zs p MK)) := by
            refine HR.out.other (k := G) (fun x hx => by cases hx; show g' ≠ G; omega) ?_
            exact fun b hb => heap_setCell_other _ _ _ _ hb
          have hcn := (HIs.out.at_ k (by rw [mrow_len _ _ _ _ (by omega)]; exact hlt)).1
          rw [mrow_at zs p _ k hlt, HNBe.out] at hcn
          clear HI HF HX HR cb cg fg
          generalize wr.setCell ⟨G, k, none⟩ (.int .i64 NB) = wq at *
          cases hmay : mayB ((ls.getD k 0).toNat : Int) NB
          · have HMf := hidden (may_no (zs := zs) (q := p) hlt (by rw [HNBe.out]; exact hmay))
            have HMy := hidden fun wx => HM.out ((ls.getD k 0).toNat : Int) NB wx
            rw [hmay] at HMy
            clear hmay HM
            generalize ((ls.getD k 0).toNat : Int) = LC at *
            go_quiet (first | (go_at_call 34; exact Calls.quiet_of_same (HMy.out _)))
            all_goals (try go_wp2)
            go_ret2
            have hE := HE1.out HMf.out
            exact ⟨HF1.out.drew _, fun _ => by rw [hE]; rfl, fun h => by omega⟩
          · have HJ1 : Hid (∀ j, j < k + 1 → mayB ((ls.getD j 0).toNat : Int) (nib zs p j) = true) := fun j hj => by
              by_cases e : j < k
              · exact HJ.out j e
              · obtain rfl : j = k := by omega
                rw [HNBe.out]; exact hmay
            have HMy := hidden fun wx => HM.out ((ls.getD k 0).toNat : Int) NB wx
            rw [hmay] at HMy
            clear hmay HM
            generalize ((ls.getD k 0).toNat : Int) = LC at *
            go_quiet (first | (go_at_call 34; exact Calls.quiet_of_same (HMy.out _)))
            all_goals (try go_wp2)
            go_roundw
            case rel => exact ⟨k + 1, by omega, int_eq (by omega), HJ1, HIs.out.drew _, HF1.out.drew _, HX1.out.drew _, HR1.out.later (Dr.below ⟨_, rfl⟩)⟩
            case measure => simp [intOf]; omega
        · rw [hpar] at t2 hw2
          rw [if_neg (by omega)] at HNb
          generalize k / 2 = K2 at *
          clear hpar
          have hv : Hid (X / 16 % 16 = NB) := by rw [HNb.out]; show _ = _; omega
          go_wp2
          rw [hv.out]
          clear hv
          have HF1 : Hid (FR R w1 (wr.setCell ⟨G, k, none⟩ (.int .i64 NB))) := by
            refine ⟨HF.out.os, HF.out.tape, HF.out.output, ?_, fun b hb hn => ?_, HF.out.row⟩
            · have := HF.out.size; simpa using this
            · rw [heap_setCell_other _ _ _ _ (show b ≠ G by omega)]; exact HF.out.block b hb hn
          have HX1 : Hid (RdBox (wr.setCell ⟨G, k, none⟩ (.int .i64 NB)) R (some ⟨g, o, none⟩) n c (p + MK)) := (heap_setCell_other _ _ _ _ (show R ≠ G by omega)).trans HX.out
          have HR1 : Hid (Reads (wr.setCell ⟨G, k, none⟩ (.int .i64 NB)) (some ⟨g', o', none⟩) MK c' (seg zs p MK)) := by
            refine HR.out.other (k := G) (fun x hx => by cases hx; show g' ≠ G; omega) ?_
            exact fun b hb => heap_setCell_other _ _ _ _ hb
          have hcn := (HIs.out.at_ k (by rw [mrow_len _ _ _ _ (by omega)]; exact hlt)).1
          rw [mrow_at zs p _ k hlt, HNBe.out] at hcn
          clear HI HF HX HR cb cg fg
          generalize wr.setCell ⟨G, k, none⟩ (.int .i64 NB) = wq at *
          cases hmay : mayB ((ls.getD k 0).toNat : Int) NB
          · have HMf := hidden (may_no (zs := zs) (q := p) hlt (by rw [HNBe.out]; exact hmay))
            have HMy := hidden fun wx => HM.out ((ls.getD k 0).toNat : Int) NB wx
            rw [hmay] at HMy
            clear hmay HM
            generalize ((ls.getD k 0).toNat : Int) = LC at *
            go_quiet (first | (go_at_call 34; exact Calls.quiet_of_same (HMy.out _)))
            all_goals (try go_wp2)
            go_ret2
            have hE := HE1.out HMf.out
            exact ⟨HF1.out.drew _, fun _ => by rw [hE]; rfl, fun h => by omega⟩
          · have HJ1 : Hid (∀ j, j < k + 1 → mayB ((ls.getD j 0).toNat : Int) (nib zs p j) = true) := fun j hj => by
              by_cases e : j < k
              · exact HJ.out j e
              · obtain rfl : j = k := by omega
                rw [HNBe.out]; exact hmay
            have HMy := hidden fun wx => HM.out ((ls.getD k 0).toNat : Int) NB wx
            rw [hmay] at HMy
            clear hmay HM
            generalize ((ls.getD k 0).toNat : Int) = LC at *
            go_quiet (first | (go_at_call 34; exact Calls.quiet_of_same (HMy.out _)))
            all_goals (try go_wp2)
            go_roundw
            case rel => exact ⟨k + 1, by omega, int_eq (by omega), HJ1, HIs.out.drew _, HF1.out.drew _, HX1.out.drew _, HR1.out.later (Dr.below ⟨_, rfl⟩)⟩
            case measure => simp [intOf]; omega
      · obtain rfl : k = ls.length := by omega
        have HMt := hidden (may_yes HJ.out)
        have d1 : ¬ (ls.length : Int) < (ls.length : Int) := by omega
        go_wp2
        go_ret2
        have hE := HE0.out HMt.out
        exact ⟨HF.out, fun h => (h hE).elim, fun _ => ⟨G, rfl, by rw [← mrow_end]; exact HI.out, hGs, HX.out⟩⟩
end Go.Proofs.Ytpkfmccnjandoaa
