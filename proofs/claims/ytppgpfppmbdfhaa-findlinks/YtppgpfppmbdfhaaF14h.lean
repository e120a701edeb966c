/- Layer 13: the walk of FindLinks. -/
import Derived.Test.YtppgpfppmbdfhaaF14g
import Derived.Test.YtppgpfppmbdfhaaF14c
import Derived.Deep.RegionHeld3
namespace Go.Proofs.Ytppgpfppmbdfhaa
open Go.RowKit
set_option maxHeartbeats 1000000
set_option maxRecDepth 100000
set_option linter.unusedVariables false

theorem infoB : (Try.prog.info? 4).map (fun i => (i.zero, i.size, i.bytes)) = some (some (.bool false), 1, 1) := by kernel_rfl
/-- which ones were met -/
def metA (n : Nat) (C : List Nat) : Array Value := ((List.range n).map (fun k => Value.bool (decide (k ∈ C)))).toArray
theorem mcB (k : Nat) : madeCells (Value.bool false).cells k = metA k [] := by
  have hs : (Value.bool false).cells.size = 1 := rfl
  apply Array.ext'
  apply List.ext_getElem
  · simp [madeCells, metA]
  · intro i h1 h2
    simp only [madeCells, metA, Array.toList_map, List.getElem_map, hs, Nat.mod_one]
    simp
    rfl
theorem mkB (k : Nat) (hk : k ≤ 100000) (w : World) : (Instr.makeSlice 42 (.int .i64 k) (.int .i64 k)).run Try.prog w = .ok (.slice (some ⟨w.heap.size, 0, none⟩) k k) (w.alloc (.cells (metA k []) 4)) := by
  obtain ⟨i0, hi, hz0, hz1, hz2⟩ := info_parts infoB
  have := run_make (P := Try.prog) w 42 4 i0 (.bool false) Try.underlying42 hi hz0 .i64 .i64 k k (by omega) (by omega) (by rw [hz2]; omega) (by omega)
  rw [this, hz1, Int.toNat_natCast, Nat.mul_one, mcB]
def MetR (w : World) (gm n : Nat) (C : List Nat) : Prop := w.heap[gm]? = some (.cells (metA n C) 4 (0, 0))
theorem MetR.lt {w : World} {gm n : Nat} {C : List Nat} (h : MetR w gm n C) : gm < w.heap.size := (Array.getElem?_eq_some_iff.1 h).1
theorem MetR.cell {w : World} {gm n : Nat} {C : List Nat} (h : MetR w gm n C) (k : Nat) (hk : k < n) : w.cell? ⟨gm, k, none⟩ = some (.bool (decide (k ∈ C))) ∧ w.frozen? ⟨gm, k, none⟩ = false := by
  unfold MetR at h
  exact ⟨by simp [World.cell?, h, metA, hk], by simp [World.frozen?, h]⟩
theorem MetR.set {w : World} {gm n : Nat} {C : List Nat} (h : MetR w gm n C) (k : Nat) (hk : k < n) : MetR (w.setCell ⟨gm, k, none⟩ (.bool true)) gm n (C ++ [k]) := by
  unfold MetR at *
  simp only [World.setCell, Array.getElem?_modify, h, if_pos, Option.map_some]
  congr 2
  apply Array.ext'
  apply List.ext_getElem
  · simp [metA]
  · intro i h1 h2
    simp [metA, List.getElem_set]
    by_cases e : k = i
    · simp [e]
    · have : ¬ i = k := fun q => e q.symm
      simp [e, this]
theorem MetR.fm {w w' : World} {gm n : Nat} {C : List Nat} {g g' : Nat} (h : MetR w gm n C) (f : Fm w w' (fun k => k = g) (fun k => k = g')) (hne : gm ≠ g) : MetR w' gm n C := (f.block gm h.lt hne).trans h
theorem MetR.later {w w' : World} {gm n : Nat} {C : List Nat} (h : MetR w gm n C) (hb : Below w.heap.size w w') : MetR w' gm n C := (hb.block gm h.lt).trans h
theorem rowB_other {w : World} {B g n cap gm R : Nat} {zs : List Int} {u : Value} (h : w.ownsRow B 5 1 (.slice (some ⟨g, 0, none⟩) n cap) n (bytesV zs)) (hne : gm ≠ g) : (w.setCell ⟨gm, R, none⟩ u).ownsRow B 5 1 (.slice (some ⟨g, 0, none⟩) n cap) n (bytesV zs) := by
  have f : Fm w (w.setCell ⟨gm, R, none⟩ u) (fun k => k = gm) (fun k => k = gm) := (Fm.same (Below.refl _ _)).set gm R u rfl
  refine own8_fm f h (fun k e1 e2 => ?_)
  simp only [Value.ownBlock, Option.some.injEq] at e1
  exact hne (e2.symm.trans e1.symm)
theorem chn_cases (C : List Nat) : C = [] ∨ ∃ C0 l, C = C0 ++ [l] := by
  rcases List.eq_nil_or_concat C with h | ⟨C0, l, h⟩
  · exact .inl h
  · exact .inr ⟨C0, l, by simpa using h⟩
structure L1 (xs W : List Nat) (k : Nat) : Prop where
  ln : W.length = 2 * xs.length
  ky : ∀ i, i < k → W.getD (2 * i) 0 = xs.getD i 0
  bd : ∀ y ∈ W, y < 4294967296
  free : ∀ j, j < xs.length → W.getD (2 * j + 1) 0 = 0
theorem L1.start (xs : List Nat) : L1 xs (List.replicate (2 * xs.length) 0) 0 :=
  ⟨by simp, fun i hi => by omega, fun y hy => by rw [(List.mem_replicate.1 hy).2]; omega, fun j hj => by rw [List.getD_eq_getElem?_getD, List.getElem?_replicate]; split <;> rfl⟩
theorem L1.more {xs W : List Nat} {k : Nat} (h : L1 xs W k) (hk : k < xs.length) (hb : xs.getD k 0 < 4294967296) : L1 xs (W.set (2 * k) (xs.getD k 0)) (k + 1) := by
  have hl : 2 * k < W.length := by rw [h.ln]; omega
  refine ⟨by rw [List.length_set]; exact h.ln, fun i hi => ?_, fun y hy => ?_, fun j hj => ?_⟩
  · rw [getD_set _ _ _ _ hl]
    by_cases e : i = k
    · rw [if_pos (by omega), e]
    · rw [if_neg (by omega)]; exact h.ky i (by omega)
  · rcases List.mem_or_eq_of_mem_set hy with q | q
    · exact h.bd y q
    · omega
  · rw [getD_set _ _ _ _ hl, if_neg (by omega)]; exact h.free j hj
theorem L1.lk {xs W : List Nat} (h : L1 xs W xs.length) : Lk xs W [] :=
  ⟨h.ln, h.ky, h.bd, by simp, by simp, trivial, fun k hk _ => h.free k hk⟩
set_option maxHeartbeats 16000000 in
theorem links_main (a : Option Addr) (len cap : Nat) (xs : List Nat) (a1 : Option Addr) (ol oc : Nat) (ys : List Nat) (key : Nat) (w : World) (h : VRow w a len xs) (h2 : HRow w a1 ol ys) (hk : key < 4294967296) (hl : len ≤ 400) (hl2 : ol ≤ 400) :
    Calls Try.prog 5 #[.slice a len cap, .slice a1 ol oc, .int .u32 key] w fun e w' => e = .returned (.bool true) ∧ Below w.heap.size w w' := by
  have hln := h.ln
  have hln2 := h2.ln
  have g1 : ¬ ((len : Int) > 400) := by omega
  have g2 : ¬ ((ol : Int) > 400) := by omega
  have HV := hidden h
  have HO := hidden h2
  obtain ⟨M, hM⟩ : ∃ M : Nat, M = 8 * len := ⟨_, rfl⟩
  have f1 : IntKind.i64.wrap (8 * (len : Int)) = (M : Int) := by rw [IntKind.wrap_i64]; omega
  have hmk : ∀ w, (Instr.makeSlice 29 (.int .i64 M) (.int .i64 M)).run Try.prog w = .ok (.slice (some ⟨w.heap.size, 0, none⟩) M M) (w.alloc (.cells (bytesV (zer8 M)).toArray 5)) := fun w => mk8 .i64 M (by omega) w
  have HZ : Hid (zer8 M = putsL (intsL (List.replicate (2 * len) 0))) := hidden (by rw [← zer_puts, hM]; congr 1; omega)
  have hMb : M ≤ 3200 := by omega
  have HM := hidden hM
  clear h h2 hM
  go_enter Try.func5, Try.ntmps5
  go_upto_region 4 with fail
  have HR0 := hidden (zer_own w w.heap.size M (Nat.le_refl _) (by omega))
  rw [HZ.out] at HR0
  have HB0 : Hid (Below w.heap.size w (w.alloc (.cells (bytesV (zer8 M)).toArray 5))) := hidden ((Below.refl _ _).alloc (Nat.le_refl _) _)
  rw [HZ.out] at HB0
  rw [HZ.out]
  clear hmk
  generalize w.alloc (.cells (bytesV (putsL (intsL (List.replicate (2 * len) 0)))).toArray 5) = w1 at *
  obtain ⟨g, hg⟩ : ∃ g, g = w.heap.size := ⟨_, rfl⟩
  rw [← hg]
  have HR1 : Hid (w1.ownsRow w.heap.size 5 1 (.slice (some ⟨g, 0, none⟩) M M) M (bytesV (putsL (intsL (List.replicate (2 * len) 0))))) := hidden (by rw [hg]; exact HR0.out)
  have HG := hidden hg
  clear hg HR0
  have HL1 := hidden (L1.start xs)
  rw [hln] at HL1
  clear HZ
  go_upto_region 5 with fail
  go_loopw [8] (fun i w' => ∃ (k : Nat) (W : List Nat), k ≤ len ∧ i = .int .i64 k ∧ Hid (L1 xs W k) ∧ Hid (w'.ownsRow w.heap.size 5 1 (.slice (some ⟨g, 0, none⟩) M M) M (bytesV (putsL (intsL W)))) ∧ Hid (Below w.heap.size w w')) (fun i _ => len - (intOf i).toNat)
  case atStart => exact ⟨0, _, by omega, rfl, HL1, HR1, HB0⟩
  case round =>
    clear HL1 HR1 HB0
    obtain ⟨k, W, hkl, rfl, hL, hR, hB⟩ := hrel
    by_cases hlt : k < len
    · have l1 : (k : Int) < len := by omega
      have l2 : (0 : Int) ≤ k := by omega
      have l3 : ((k : Int)).toNat = k := by omega
      obtain ⟨P, hP⟩ : ∃ P : Nat, P = 8 * k := ⟨_, rfl⟩
      have hMl := HM.out
      have f2 : IntKind.i64.wrap (8 * (k : Int)) = (P : Int) := by rw [IntKind.wrap_i64]; omega
      have q1 : ¬ M = P := by omega
      have q2 : P ≤ M := by omega
      have q3 : (P : Int) ≤ (M : Int) := by omega
      have q4 : P + 8 ≤ M := by omega
      have q5 : (0 : Int) ≤ (P : Int) := by omega
      have q6 : ((P : Int)).toNat = P := by omega
      have HP := hidden hP
      clear hP hMl
      obtain ⟨b, o, ha, hc0⟩ := (HV.out.later hB.out).cells k hlt
      subst ha
      have HXB := hidden (show xs.getD k 0 < 4294967296 from HV.out.bd _ (by rw [List.getD_eq_getElem?_getD, List.getElem?_eq_getElem (by omega)]; simp))
      have HL2 := hidden (hL.out.more (by omega) HXB.out)
      have HCL : Hid (∀ wx, Below w.heap.size w wx → wx.cell? ⟨b, o + k, none⟩ = some (.int .u32 ((xs.getD k 0 : Nat) : Int))) := hidden (fun wx hb => by
        obtain ⟨b', o', ha', hc'⟩ := (HV.out.later hb).cells k hlt
        cases ha'
        exact hc')
      generalize xs.getD k 0 = X at *
      have x0 : (0 : Int) ≤ (X : Int) := by omega
      have HX1 := hidden (show (X : Int) ≤ 4294967295 by have := HXB.out; omega)
      have HSP : Hid (splice (putsL (intsL W)) P (putL (X : Int) 4) = putsL (intsL (W.set (2 * k) X))) := hidden (by
        rw [HP.out, ints_set, ← splice_puts _ _ _ (by rw [ints_len, hL.out.ln]; omega)]
        congr 1; omega)
      have HPt : Hid (∀ wx, Below wr.heap.size wr wx → Calls Try.prog 15 #[.int .u32 (X : Int), .int .i64 4] wx fun e w' => ∃ gp cp, e = .returned (.slice (some ⟨gp, 0, none⟩) 4 cp) ∧ Hid (∀ j u, (bytesV (putL (X : Int) 4))[j]? = some u → w'.cell? ((⟨gp, 0, none⟩ : Addr).add j) = some u) ∧ Hid (w'.ownsRow w.heap.size 5 1 (.slice (some ⟨g, 0, none⟩) M M) M (bytesV (putsL (intsL W)))) ∧ Hid (Below w.heap.size w w')) := hidden (fun wx hwx => (rput_4 X wx x0 HX1.out).mono (by
        rintro e w' ⟨pv, rfl, hop, hb4⟩
        obtain ⟨gp, cp, rfl, hcp, hgp⟩ := owned_shape hop (by omega)
        have hb5 := hwx.trans (hb4.mono hwx.size)
        exact ⟨gp, cp, rfl, hidden ((own_bs hop).reads cp hcp).news, hidden (own_later (own_later hR.out hwx) hb4), hidden (hB.out.trans (hb5.mono hB.out.size))⟩))
      have hsz := hB.out.size
      clear hL hR
      go_upto_region 7 with fail
      go_region_held3 (fun w' => w'.cell? ⟨b, o + k, none⟩ = some (.int .u32 (X : Int))) (first | assumption | go_keep) (first | (go_at_call 15; refine (HPt.out _ (by first | exact (Below.refl _ _).drew | exact Below.refl _ _)).mono ?_; rintro e w5 ⟨gp, cp, rfl, HN5, HR5, HB5⟩; have c5 := HCL.out _ HB5.out) | (refine step_copy4 rfl (.tmp 42) (.tmp 47) rfl w.heap.size g M M P (M - P) (M - P) cp (putsL (intsL W)) (putL (X : Int) 4) HR5.out ⟨gp, 0, none⟩ (by simp [Act.eval]) (by simp [Act.eval]) rfl (by omega) HN5.out (by omega) ?_; intro w6 hr6 hf6; have HB6 := hidden (HB5.out.trans (hf6.below HB5.out.size (fun k e => by rw [e, HG.out]; exact Nat.le_refl _))); have HR6 := hidden hr6; clear hr6 hf6; have c6 := HCL.out _ HB6.out) | fail)
      all_goals (rw [HSP.out] at HR6)
      clear c5 c6 hc0
      go_wp2
      go_roundw
      case rel => exact ⟨k + 1, _, by omega, by first | rfl | go_num, HL2, HR6, HB6⟩
      case measure => simp [intOf]; omega
    · obtain rfl : k = len := by omega
      have l1 : ¬ ((k : Int) < k) := by omega
      have HK0 := hidden ((show L1 xs W xs.length by rw [hln]; exact hL.out).lk)
      clear hL
      have hmb := mkB k (by omega)
      go_upto_region 10 with fail
      have HT0 : Hid (MetR (wr.alloc (.cells (metA k []) 4)) wr.heap.size k []) := hidden (heap_alloc_new _ _)
      have HR1 := hidden (hR.out.alloc (.cells (metA k []) 4))
      have HB1 : Hid (Below w.heap.size w (wr.alloc (.cells (metA k []) 4))) := hidden (hB.out.alloc hB.out.size _)
      have HGM : Hid (w.heap.size ≤ wr.heap.size ∧ wr.heap.size ≠ g) := hidden ⟨hB.out.size, fun e => by obtain ⟨cur, x1, _⟩ := own_splice hR.out; have := (Array.getElem?_eq_some_iff.1 x1).1; omega⟩
      clear hmb hR hB
      generalize wr.alloc (.cells (metA k []) 4) = wm at *
      generalize wr.heap.size = gm at *
      clear l1 hlt hkl f1
      obtain ⟨len, hlen⟩ : ∃ len, len = k := ⟨_, rfl⟩
      subst hlen
      have HMB := hidden hMb
      clear hMb
      go_upto_region 11 with fail
      go_loopw [10, 11, 12, 13] (fun st la wa i w' => ∃ (j : Nat) (W C : List Nat), j ≤ ol ∧ i = .int .i64 j ∧ st = .int .u32 (staF C : Nat) ∧ la = .int .i64 (lasF C) ∧ wa = .int .u32 (wanF xs key C : Nat) ∧ Hid (Lk xs W C) ∧ Hid (w'.ownsRow w.heap.size 5 1 (.slice (some ⟨g, 0, none⟩) M M) M (bytesV (putsL (intsL W)))) ∧ Hid (MetR w' gm len C) ∧ Hid (Below w.heap.size w w')) (fun _ _ _ i _ => ol - (intOf i).toNat)
      case atStart => exact ⟨0, W, [], by omega, rfl, rfl, rfl, rfl, HK0, HR1, HT0, HB1⟩
      case round =>
        clear HK0 HR1 HT0 HB1
        clear W
        obtain ⟨j, W, C, hjl, rfl, rfl, rfl, rfl, hK, hR, hT, hB⟩ := hrel
        have HST := hidden (Eq.refl (staF C))
        have HLA := hidden (Eq.refl (lasF C))
        have HWA := hidden (Eq.refl (wanF xs key C))
        obtain ⟨ST, hST⟩ : ∃ ST, ST = staF C := ⟨_, rfl⟩
        obtain ⟨LA, hLA⟩ : ∃ LA, LA = lasF C := ⟨_, rfl⟩
        obtain ⟨WA, hWA⟩ : ∃ WA, WA = wanF xs key C := ⟨_, rfl⟩
        rw [← hST, ← hLA, ← hWA]
        replace HST := hidden hST
        replace HLA := hidden hLA
        replace HWA := hidden hWA
        clear hST hLA hWA
        by_cases hlt : j < ol
        · have l1 : (j : Int) < ol := by omega
          have l2 : (0 : Int) ≤ j := by omega
          have l3 : ((j : Int)).toNat = j := by omega
          obtain ⟨b2, o2, ha2, hc2⟩ := (HO.out.later hB.out).cells j hlt
          subst ha2
          have HYB := hidden (show ys.getD j 0 < 65536 from HO.out.bd _ (by rw [List.getD_eq_getElem?_getD, List.getElem?_eq_getElem (by omega)]; simp))
          generalize ys.getD j 0 = Y at *
          by_cases hl0 : len = 0
          · have g0 : ((len : Int) == 0) = true := by simp [hl0]
            clear hl0
            go_wp2
            go_roundw
            case rel => exact ⟨j + 1, W, C, by omega, by first | rfl | go_num, by rw [HST.out], by rw [HLA.out], by rw [HWA.out], hK, hR, hT, hB⟩
            case measure => simp [intOf]; omega
          · have g0 : ((len : Int) == 0) = false := by simp; omega
            have g3 : ¬ ((len : Int) = 0) := by omega
            obtain ⟨R, hRm⟩ : ∃ R : Nat, R = Y % len := ⟨_, rfl⟩
            have hRl : R < len := by rw [hRm]; exact Nat.mod_lt _ (by omega)
            have e6 : IntKind.i64.wrap (Y : Int) = Y := by have := HYB.out; rw [IntKind.wrap_i64]; omega
            have e7 : ((Y : Int)).tmod len = (R : Int) := by rw [Int.tmod_eq_emod_of_nonneg (by omega), ← Int.natCast_emod, hRm]
            have e8 : IntKind.i64.wrap (R : Int) = R := by rw [IntKind.wrap_i64]; omega
            have r1 : (R : Int) < len := by omega
            have r2 : (0 : Int) ≤ R := by omega
            have r3 : ((R : Int)).toNat = R := by omega
            clear hRm
            obtain ⟨m1, m2⟩ := hT.out.cell R hRl
            by_cases hm : R ∈ C
            · rw [decide_eq_true hm] at m1
              go_wp2
              go_roundw
              case rel => exact ⟨j + 1, W, C, by omega, by first | rfl | go_num, by rw [HST.out], by rw [HLA.out], by rw [HWA.out], hK, hR, hT, hB⟩
              case measure => simp [intOf]; omega
            · rw [decide_eq_false hm] at m1
              have HNM := hidden hm
              clear hm
              go_upto_region 16 with fail
              have HT1 : Hid (MetR (wr.setCell ⟨gm, R, none⟩ (.bool true)) gm len (C ++ [R])) := hidden (hT.out.set R hRl)
              have HR1 : Hid ((wr.setCell ⟨gm, R, none⟩ (.bool true)).ownsRow w.heap.size 5 1 (.slice (some ⟨g, 0, none⟩) M M) M (bytesV (putsL (intsL W)))) := hidden (rowB_other hR.out HGM.out.2)
              have HB1 : Hid (Below w.heap.size w (wr.setCell ⟨gm, R, none⟩ (.bool true))) := hidden (hB.out.setCell (p := ⟨gm, R, none⟩) HGM.out.1 _)
              clear m1 m2 hc2 hR hT hB e6 e7 e8
              generalize wr.setCell ⟨gm, R, none⟩ (.bool true) = ws at *
              obtain ⟨A, hA⟩ : ∃ A : Nat, A = 256 + 8 * R := ⟨_, rfl⟩
              have a1 : IntKind.i64.wrap (8 * (R : Int)) = 8 * (R : Int) := by rw [IntKind.wrap_i64]; omega
              have a2 : IntKind.i64.wrap (256 + 8 * (R : Int)) = 256 + 8 * (R : Int) := by rw [IntKind.wrap_i64]; omega
              have a3 : IntKind.u32.wrap (256 + 8 * (R : Int)) = (A : Int) := by rw [IntKind.wrap_u32]; omega
              have HAB := hidden (show (A : Int) ≤ 4294967295 by omega)
              have HA := hidden hA
              clear hA
              have HWN : Hid (∀ X, xs.getD R 0 = X → wanF xs key (C ++ [R]) = if WA = 0 then (if X = key then A else 0) else WA) := hidden (fun X e => by rw [wanF_snoc, ← HWA.out, HA.out, e])
              have HLN := hidden (lasF_snoc C R)
              have HSN : Hid (staF (C ++ [R]) = if C = [] then A else ST) := hidden (by rw [staF_snoc, HA.out, HST.out])
              rcases chn_cases C with hC | ⟨C0, l, hC⟩
              · subst hC
                have t1 : LA = -1 := by rw [HLA.out, lasF_nil]
                subst t1
                have HKN := hidden (hK.out.one R (by omega))
                replace HSN : Hid (staF ([] ++ [R]) = A) := hidden (by rw [HSN.out, if_pos rfl])
                clear hK
                go_upto_region 21 with fail
                have HTE := HT1
                have HRE := HR1
                have HBE := HB1
                clear HT1 HR1 HB1
                generalize ws = wt at *
                obtain ⟨b1, o1, ha1, hc1⟩ := (HV.out.later HBE.out).cells R hRl
                subst ha1
                have HWX := hidden (HWN.out _ rfl)
                clear HWN
                generalize xs.getD R 0 = X at *
                by_cases hw0 : WA = 0
                · have v1 : ((WA : Int) == 0) = true := by simp; omega
                  by_cases hxk : X = key
                  · have v2 : ((X : Int) == (key : Int)) = true := by simp; omega
                    have HWF : Hid (wanF xs key ([] ++ [R]) = A) := hidden (by rw [HWX.out, if_pos hw0, if_pos hxk])
                    clear hw0 hxk HWX
                    go_wp2
                    go_roundw
                    case rel => exact ⟨j + 1, W, [] ++ [R], by omega, by first | rfl | go_num, by rw [HSN.out], by rw [HLN.out], by rw [HWF.out], HKN, HRE, HTE, HBE⟩
                    case measure => simp [intOf]; omega
                  · have v2 : ((X : Int) == (key : Int)) = false := by simp; omega
                    have HWF : Hid (wanF xs key ([] ++ [R]) = WA) := hidden (by rw [HWX.out, if_pos hw0, if_neg hxk, hw0])
                    clear hw0 hxk HWX
                    go_wp2
                    go_roundw
                    case rel => exact ⟨j + 1, W, [] ++ [R], by omega, by first | rfl | go_num, by rw [HSN.out], by rw [HLN.out], by rw [HWF.out], HKN, HRE, HTE, HBE⟩
                    case measure => simp [intOf]; omega
                · have v1 : ((WA : Int) == 0) = false := by simp; omega
                  have HWF : Hid (wanF xs key ([] ++ [R]) = WA) := hidden (by rw [HWX.out, if_neg hw0])
                  clear hw0 HWX
                  go_wp2
                  go_roundw
                  case rel => exact ⟨j + 1, W, [] ++ [R], by omega, by first | rfl | go_num, by rw [HSN.out], by rw [HLN.out], by rw [HWF.out], HKN, HRE, HTE, HBE⟩
                  case measure => simp [intOf]; omega
              · have HKM := hidden ((show Lk xs W (C0 ++ [l]) by rw [← hC]; exact hK.out).more R (by omega) (by rw [← hC]; exact HNM.out) (by omega))
                have HCn := hidden (show C0 ++ [l] ++ [R] = C ++ [R] by rw [hC])
                have t1 : LA = (l : Int) := by rw [HLA.out, hC, lasF_snoc]
                subst t1
                have hll := hK.out.lt l (by rw [hC]; simp)
                have HKN : Hid (Lk xs (W.set (2 * l + 1) A) (C ++ [R])) := hidden (by rw [HA.out, ← HCn.out]; exact HKM.out)
                replace HSN : Hid (staF (C ++ [R]) = ST) := hidden (by rw [HSN.out, if_neg (by rw [hC]; simp)])
                have t2 : ¬ ((l : Int) < 0) := by omega
                obtain ⟨P, hP⟩ : ∃ P : Nat, P = 8 * l + 4 := ⟨_, rfl⟩
                have hMl := HM.out
                have f2 : IntKind.i64.wrap (8 * (l : Int)) = 8 * (l : Int) := by rw [IntKind.wrap_i64]; omega
                have f3 : IntKind.i64.wrap (8 * (l : Int) + 4) = (P : Int) := by rw [IntKind.wrap_i64]; omega
                have q1 : ¬ M = P := by omega
                have q2 : P ≤ M := by omega
                have q3 : (P : Int) ≤ (M : Int) := by omega
                have q4 : P + 4 ≤ M := by omega
                have q5 : (0 : Int) ≤ (P : Int) := by omega
                have q6 : ((P : Int)).toNat = P := by omega
                have HSP : Hid (splice (putsL (intsL W)) P (putL (A : Int) 4) = putsL (intsL (W.set (2 * l + 1) A))) := hidden (by
                  rw [hP, ints_set, ← splice_puts _ _ _ (by rw [ints_len, hK.out.ln]; omega)]
                  congr 1; omega)
                clear hP hMl hK HKM hC
                have x0 : (0 : Int) ≤ (A : Int) := by omega
                have HPt : Hid (∀ wx, Below ws.heap.size ws wx → Calls Try.prog 15 #[.int .u32 (A : Int), .int .i64 4] wx fun e w' => ∃ gp cp, e = .returned (.slice (some ⟨gp, 0, none⟩) 4 cp) ∧ Hid (∀ j u, (bytesV (putL (A : Int) 4))[j]? = some u → w'.cell? ((⟨gp, 0, none⟩ : Addr).add j) = some u) ∧ Hid (w'.ownsRow w.heap.size 5 1 (.slice (some ⟨g, 0, none⟩) M M) M (bytesV (putsL (intsL W)))) ∧ Hid (MetR w' gm len (C ++ [R])) ∧ Hid (Below w.heap.size w w')) := hidden (fun wx hwx => (rput_4 A wx x0 HAB.out).mono (by
                  rintro e w' ⟨pv, rfl, hop, hb4⟩
                  obtain ⟨gp, cp, rfl, hcp, hgp⟩ := owned_shape hop (by omega)
                  have hb5 := hwx.trans (hb4.mono hwx.size)
                  exact ⟨gp, cp, rfl, hidden ((own_bs hop).reads cp hcp).news, hidden (own_later HR1.out hb5), hidden (HT1.out.later hb5), hidden (HB1.out.trans (hb5.mono HB1.out.size))⟩))
                go_upto_region 19 with fail
                go_region_held3 (fun w' => True) (exact trivial) (first | (go_at_call 15; refine (HPt.out _ (by first | exact (Below.refl _ _).drew | exact Below.refl _ _)).mono ?_; rintro e w5 ⟨gp, cp, rfl, HN5, HR5, HT5, HB5⟩) | (refine step_copy4 rfl (.tmp 96) (.tmp 98) rfl w.heap.size g M M P (M - P) (M - P) cp (putsL (intsL W)) (putL (A : Int) 4) HR5.out ⟨gp, 0, none⟩ (by simp [Act.eval]) (by simp [Act.eval]) rfl (by omega) HN5.out (by omega) ?_; intro w6 hr6 hf6; have HBE := hidden (HB5.out.trans (hf6.below HB5.out.size (fun k e => by rw [e, HG.out]; exact Nat.le_refl _))); have HRE := hidden hr6; have HTE := hidden (HT5.out.fm hf6 HGM.out.2); clear hr6 hf6) | fail)
                rw [HSP.out] at HRE
                clear HR1 HT1 HB1 HPt HN5 HR5 HT5 HB5
                go_upto_region 21 with fail
                generalize w6 = wt at *
                obtain ⟨b1, o1, ha1, hc1⟩ := (HV.out.later HBE.out).cells R hRl
                subst ha1
                have HWX := hidden (HWN.out _ rfl)
                clear HWN
                generalize xs.getD R 0 = X at *
                by_cases hw0 : WA = 0
                · have v1 : ((WA : Int) == 0) = true := by simp; omega
                  by_cases hxk : X = key
                  · have v2 : ((X : Int) == (key : Int)) = true := by simp; omega
                    have HWF : Hid (wanF xs key (C ++ [R]) = A) := hidden (by rw [HWX.out, if_pos hw0, if_pos hxk])
                    clear hw0 hxk HWX
                    go_wp2
                    go_roundw
                    case rel => exact ⟨j + 1, W.set (2 * l + 1) A, C ++ [R], by omega, by first | rfl | go_num, by rw [HSN.out], by rw [HLN.out], by rw [HWF.out], HKN, HRE, HTE, HBE⟩
                    case measure => simp [intOf]; omega
                  · have v2 : ((X : Int) == (key : Int)) = false := by simp; omega
                    have HWF : Hid (wanF xs key (C ++ [R]) = WA) := hidden (by rw [HWX.out, if_pos hw0, if_neg hxk, hw0])
                    clear hw0 hxk HWX
                    go_wp2
                    go_roundw
                    case rel => exact ⟨j + 1, W.set (2 * l + 1) A, C ++ [R], by omega, by first | rfl | go_num, by rw [HSN.out], by rw [HLN.out], by rw [HWF.out], HKN, HRE, HTE, HBE⟩
                    case measure => simp [intOf]; omega
                · have v1 : ((WA : Int) == 0) = false := by simp; omega
                  have HWF : Hid (wanF xs key (C ++ [R]) = WA) := hidden (by rw [HWX.out, if_neg hw0])
                  clear hw0 HWX
                  go_wp2
                  go_roundw
                  case rel => exact ⟨j + 1, W.set (2 * l + 1) A, C ++ [R], by omega, by first | rfl | go_num, by rw [HSN.out], by rw [HLN.out], by rw [HWF.out], HKN, HRE, HTE, HBE⟩
                  case measure => simp [intOf]; omega
        · obtain rfl : j = ol := by omega
          have l1 : ¬ ((j : Int) < j) := by omega
          have hMB := HMB.out
          have HRD : Hid (Reads wr (some ⟨g, 0, none⟩) M M (putsL (intsL W))) := hidden ((own_bs hR.out).reads M (Nat.le_refl _))
          have HLD := hidden (laid_any (some ⟨g, 0, none⟩) M M _ wr HRD.out (puts_ok _))
          have HCV := hidden (link_chn xs W C key hK.out HV.out.bd (by omega) hk)
          have hSB : ST < 4294967296 := by rw [HST.out]; exact staF_lt C (fun c hc => by have := hK.out.lt c hc; omega)
          rw [← HST.out, ← HWA.out] at HCV
          clear hK hR hT
          go_upto_region 24 with (first | (go_at_call 10; refine HLD.out.mono ?_; rintro e w2 ⟨m, d, g, rfl, hL2, hb2⟩; skip) | fail)
          have HM2 := hidden (hL2.mrd (by rw [lay_len2]; omega) (lay_ok _ (puts_ok _) _))
          have HB2 := hidden (hB.out.trans (hb2.mono hB.out.size))
          have HC := hidden (chn_c m _ key ST hk hSB _ HCV.out w2 HM2.out 4 (ST : Int) 0 rfl rfl rfl)
          clear hL2 hb2 HLD HRD
          go_wp2_with (first | (go_at_call 16; refine HC.out.mono ?_; rintro e w3 ⟨rfl, hb3⟩; have HB3 := hidden (HB2.out.trans (hb3.mono HB2.out.size)); clear hb3; skip) | (go_at_call 13; refine (num13 _ _).mono ?_; rintro e w12 ⟨rfl, e9⟩; rw [e9]; clear e9) | (go_at_call 9; refine (live_any _).mono ?_; rintro e w13 ⟨rfl, hb13⟩) | fail)
          go_ret
          exact ⟨rfl, HB3.out.trans (hb13.mono HB3.out.size)⟩
theorem findLinks_walk (a : Option Addr) (len cap : Nat) (zs : List Int) (a1 : Option Addr) (ol oc : Nat) (vs : List Int) (key : Int) (w : World) (h : IsRow .u32 w a len cap zs) (h2 : IsRow .u16 w a1 ol oc vs) (hk : (Lit.int .u32 key).wf = true) :
    Calls Try.prog 5 #[.slice a len cap, .slice a1 ol oc, .int .u32 key] w fun e w' => e = .returned (.bool true) ∧ Below w.heap.size w w' := by
  obtain ⟨xs, hv, hlc, hlm⟩ := vrow_of h
  obtain ⟨ys, hv2, hlc2, hlm2⟩ := hrow_of h2
  have hb1 := bounds_u32 hk
  obtain ⟨K, rfl⟩ : ∃ K : Nat, key = K := ⟨key.toNat, by omega⟩
  by_cases hl : len ≤ 400
  · by_cases hl2 : ol ≤ 400
    · exact links_main a len cap xs a1 ol oc ys K w hv hv2 (by omega) hl hl2
    · have g0 : ¬ ((len : Int) > 400) := by omega
      have g1 : (ol : Int) > 400 := by omega
      clear h hv h2 hv2 hk hl hl2
      go_enter Try.func5, Try.ntmps5
      go_wp2_with (go_at_call 9; refine (live_any _).mono ?_; rintro e w13 ⟨rfl, hb13⟩)
      go_ret
      exact ⟨rfl, hb13⟩
  · have g1 : (len : Int) > 400 := by omega
    clear h hv h2 hv2 hk hl
    go_enter Try.func5, Try.ntmps5
    go_wp2_with (go_at_call 9; refine (live_any _).mono ?_; rintro e w13 ⟨rfl, hb13⟩)
    go_ret
    exact ⟨rfl, hb13⟩
end Go.Proofs.Ytppgpfppmbdfhaa
