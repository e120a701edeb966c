/- Layer 14, the program: slices.DeleteFunc over windows. -/
import Derived.Test.YtilfgbcbodjegaaP14r
namespace Go.Proofs.Ytilfgbcbodjegaa
open Go.RowKit
set_option maxHeartbeats 1000000
set_option maxRecDepth 100000
set_option linter.unusedVariables false

/-- those that are not gone -/
def keepL (gs : List Int) (L : List Wd) : List Wd := L.filter (fun d => !gs.contains d.n)
theorem keep_snoc (gs : List Int) (L : List Wd) (j : Nat) (hj : j < L.length) : keepL gs (L.take (j + 1)) = if gs.contains L[j].n = true then keepL gs (L.take j) else keepL gs (L.take j) ++ [L[j]] := by
  have e : L.take (j + 1) = L.take j ++ [L[j]] := by rw [List.take_add_one, List.getElem?_eq_getElem hj]; rfl
  unfold keepL
  rw [e, List.filter_append]
  by_cases h : gs.contains L[j].n = true
  · have q : (!gs.contains L[j].n) = false := by rw [h]; rfl
    rw [if_pos h]
    simp only [List.filter_cons, List.filter_nil, q]
    simp
  · have q : (!gs.contains L[j].n) = true := by rw [Bool.not_eq_true] at h; rw [h]; rfl
    rw [if_neg h]
    simp only [List.filter_cons, List.filter_nil, q]
    simp
theorem keep_all (gs : List Int) (L : List Wd) (h : ∀ d ∈ L, gs.contains d.n = false) : keepL gs L = L := by
  unfold keepL
  exact List.filter_eq_self.2 (fun d hd => by show (!gs.contains d.n) = true; rw [h d hd]; rfl)
def DlR (B : Nat) (w : World) (g c : Nat) (K : List Wd) (e : Ending) (w' : World) : Prop := e = .returned (.slice (some ⟨g, 0, none⟩) K.length c) ∧ w'.ownsRow B 79 8 (.slice (some ⟨g, 0, none⟩) K.length c) K.length (wdsV K) ∧ Fm w w' (fun k => k = g) (fun k => k = g)
theorem wrow_cut {B : Nat} {w : World} {g c : Nat} {M K : List Wd} {cur : Array Value} (hB : B ≤ g) (hg : w.heap[g]? = some (.cells cur 79 (0, 0))) (hK : K.length ≤ c) (hc : c ≤ maxLen) (hs : cur.size = c * 8) (ht : cur.toList.take (K.length * 8) = wdsV K) : w.ownsRow B 79 8 (.slice (some ⟨g, 0, none⟩) K.length c) K.length (wdsV K) :=
  ⟨wdsV_len K, .inr ⟨g, c, cur, rfl, hB, hg, hK, hc, hs, ht⟩⟩
theorem ix_or {w w' : World} {L : List Wd} {gs : List Int} {e : Ending} (h : IxR w L gs e w') : ∃ iv : Int, e = .returned (.int .i64 iv) ∧ Hid (Below w.heap.size w w') ∧ Hid ((∃ i : Nat, iv = (i : Int) ∧ ∃ hi : i < L.length, gs.contains L[i].n = true ∧ ∀ j (hj : j < L.length), j < i → gs.contains L[j].n = false) ∨ (iv = -1 ∧ ∀ d ∈ L, gs.contains d.n = false)) := by
  obtain ⟨hb, ⟨i, q1, q2⟩ | ⟨q1, q2⟩⟩ := h
  · exact ⟨i, q1, hidden hb, hidden (.inl ⟨i, rfl, q2⟩)⟩
  · exact ⟨-1, q1, hidden hb, hidden (.inr ⟨rfl, q2⟩)⟩
set_option maxHeartbeats 8000000 in
theorem deleteFunc_any {B g c fc gb gg n cc : Nat} {L : List Wd} {gs : List Int} {w : World} (h : w.ownsRow B 79 8 (.slice (some ⟨g, 0, none⟩) L.length c) L.length (wdsV L)) (hG : GnAt w fc gb gg n cc gs) (hn : L.length ≤ 1000) (h1 : fc ≠ g) (h2 : gb ≠ g) (h3 : gg ≠ g) :
    Calls Try.prog 69 #[.slice (some ⟨g, 0, none⟩) L.length c, .func (.func 70) #[] #[.pointer (some ⟨fc, 0, none⟩)]] w (DlR B w g c (keepL gs L)) := by
  have HIX := hidden (indexFunc_any h hG hn)
  have hgw : g < w.heap.size := by
    obtain ⟨q1, q2⟩ := h.lt g rfl
    exact q2
  have HFI : Hid (∀ w', w'.ownsRow B 79 8 (.slice (some ⟨g, 0, none⟩) (keepL gs L).length c) (keepL gs L).length (wdsV (keepL gs L)) → Fm w w' (fun k => k = g) (fun k => k = g) → DlR B w g c (keepL gs L) (.returned (.slice (some ⟨g, 0, none⟩) (keepL gs L).length c)) w') := hidden (fun w' a b => ⟨rfl, a, b⟩)
  have HSAME : Hid ((∀ d ∈ L, gs.contains d.n = false) → ∀ w', Below w.heap.size w w' → DlR B w g c (keepL gs L) (.returned (.slice (some ⟨g, 0, none⟩) L.length c)) w') := hidden (fun ha w' hb => by
    rw [keep_all gs L ha]
    exact ⟨rfl, own_later h hb, Fm.same hb⟩)
  have HDROP : Hid (∀ w1, GnAt w1 fc gb gg n cc gs → ∀ d : Wd, Calls Try.prog 70 #[.agg #[.int .i64 d.n, .int .i64 d.k, .int .i64 d.p, .int .i64 d.a, .int .i64 d.b, .int .i64 d.m, .int .u32 d.s, .int .i64 d.key], .pointer (some ⟨fc, 0, none⟩)] w1 fun e w' => e = .returned (.bool (gs.contains d.n)) ∧ Hid (Below w1.heap.size w1 w')) := hidden (fun w1 hg d => drop2_any hg d)
  have HROW := hidden h
  have HGN := hidden hG
  have hBg : B ≤ g := (h.lt g rfl).1
  have hlc : L.length ≤ c ∧ c ≤ 9223372036854775807 := by
    obtain ⟨g', c', hv', _, _, q1, q2⟩ : ∃ g' c', Value.slice (some ⟨g, 0, none⟩) L.length c = .slice (some ⟨g', 0, none⟩) L.length c' ∧ B ≤ g' ∧ g' < w.heap.size ∧ L.length ≤ c' ∧ c' ≤ 9223372036854775807 := by
      rcases h.2 with ⟨q, _⟩ | ⟨g', cap, cur, q, q2, q3, q4, q5, _⟩
      · cases q
      · exact ⟨g', cap, q, q2, (Array.getElem?_eq_some_iff.1 q3).1, q4, by simp only [maxLen] at q5; omega⟩
    simp only [Value.slice.injEq] at hv'
    rw [hv'.2.2]
    exact ⟨q1, q2⟩
  obtain ⟨hlc1, hlc2⟩ := hlc
  generalize hPQ : DlR B w g c (keepL gs L) = PQ at *
  obtain ⟨N, hN⟩ : ∃ N, L.length = N := ⟨_, rfl⟩
  have HN := hidden hN
  rw [hN] at HIX HSAME hn hlc1
  rw [hN]
  clear h hG hN hPQ
  go_enter Try.func69, Try.ntmps69
  go_upto_region 2 with (first | (go_at_call 91; refine HIX.out.mono ?_; intro e w1 hix; obtain ⟨iv, rfl, HB1, HOR⟩ := ix_or hix; clear hix) | fail)
  rcases HOR.out with ⟨i0, rfl, hi0, hyes, hno⟩ | ⟨rfl, hall⟩
  · have q1 : ((i0 : Int) == -1) = false := by rw [beq_eq_false_iff_ne]; omega
    have HST : Hid (L.take i0 = keepL gs (L.take (i0 + 1))) := hidden (by
      rw [keep_snoc gs L i0 hi0, if_pos hyes]
      refine (keep_all gs (L.take i0) (fun d hd => ?_)).symm
      obtain ⟨k, hk, rfl⟩ := List.getElem_of_mem hd
      rw [List.length_take] at hk
      rw [List.getElem_take]
      exact hno k (by omega) (by omega))
    have hi1 : i0 < N := by rw [← HN.out]; exact hi0
    have HR1 := hidden (own_later HROW.out HB1.out)
    have HG1 := hidden (HGN.out.later HB1.out)
    have HF1 : Hid (Fm w w1 (fun k => k = g) (fun k => k = g)) := hidden (Fm.same HB1.out)
    clear HOR HSAME HIX hyes hno HROW HGN
    go_upto_region 5 with fail
    go_loopw [5, 6] (fun a b w' => ∃ (i j : Nat) (M : List Wd), i < j ∧ j ≤ N ∧ a = .int .i64 i ∧ b = .int .i64 j ∧ Hid (M.length = N) ∧ Hid (M.take i = keepL gs (L.take j)) ∧ Hid (∀ k (hk : k < L.length) (hm : k < M.length), j ≤ k → M[k] = L[k]) ∧ Hid (w'.ownsRow B 79 8 (.slice (some ⟨g, 0, none⟩) M.length c) M.length (wdsV M)) ∧ Hid (GnAt w' fc gb gg n cc gs) ∧ Hid (Fm w w' (fun k => k = g) (fun k => k = g))) (fun _ b _ => N - (intOf b).toNat)
    case atStart => exact ⟨i0, i0 + 1, L, by omega, by omega, rfl, by first | rfl | go_num, HN, HST, hidden (fun k hk hm q => rfl), HR1, HG1, HF1⟩
    case round =>
      clear HR1 HG1 HF1 HST HB1
      obtain ⟨i, j, M, hij, hj, rfl, rfl, HML, HMT, HMD, HO, HG, HF⟩ := hrel
      by_cases hlt : j < N
      · have hjM : j < M.length := by rw [HML.out]; exact hlt
        have hjL : j < L.length := by rw [HN.out]; exact hlt
        have hiM : i < M.length := by rw [HML.out]; omega
        have l1 : (j : Int) < N := by omega
        have l2 : (0 : Int) ≤ j := by omega
        have l3 : (i : Int) < N := by omega
        have l4 : (0 : Int) ≤ i := by omega
        obtain ⟨c0, c1, c2, c3, c4, c5, c6, c7⟩ := wrow_cells HO.out j hjM
        have hMj := HMD.out j hjL hjM (Nat.le_refl _)
        rw [hMj] at c0 c1 c2 c3 c4 c5 c6 c7
        have HKS := hidden (keep_snoc gs L j hjL)
        obtain ⟨d, HDD⟩ : ∃ d, Hid (L[j] = d) := ⟨_, hidden rfl⟩
        rw [HDD.out] at c0 c1 c2 c3 c4 c5 c6 c7 HKS
        have hbx : Below wr.heap.size wr (wr.alloc (.cells #[.int .i64 d.n, .int .i64 d.k, .int .i64 d.p, .int .i64 d.a, .int .i64 d.b, .int .i64 d.m, .int .u32 d.s, .int .i64 d.key] 79)) := (Below.refl _ _).alloc (Nat.le_refl _) _
        have HWB := hidden hbx
        have HBX : Hid ((wr.alloc (.cells #[.int .i64 d.n, .int .i64 d.k, .int .i64 d.p, .int .i64 d.a, .int .i64 d.b, .int .i64 d.m, .int .u32 d.s, .int .i64 d.key] 79)).heap[wr.heap.size]? = some (.cells (wdV d).toArray 79 (0, 0))) := hidden (heap_alloc_new wr _)
        have HGb := hidden (HG.out.later hbx)
        have HOb := hidden (own_later HO.out hbx)
        have hgG : g ≠ wr.heap.size := by have := (HO.out.lt g rfl).2; omega
        obtain ⟨D, hD⟩ : ∃ D, gs.contains d.n = D := ⟨_, rfl⟩
        rw [hD] at HKS
        have HDe := hidden hD
        clear hD hMj hbx
        go_upto_region 8 with fail
        generalize wr.alloc (.cells #[.int .i64 d.n, .int .i64 d.k, .int .i64 d.p, .int .i64 d.a, .int .i64 d.b, .int .i64 d.m, .int .u32 d.s, .int .i64 d.key] 79) = W at *
        have HFW : Hid (Fm w W (fun k => k = g) (fun k => k = g)) := hidden (HF.out.trans (Fm.same HWB.out))
        generalize wr.heap.size = G at *
        have HDR := hidden (HDROP.out W HGb.out d)
        rw [HDe.out] at HDR
        obtain ⟨b0, b1, b2, b3, b4, b5, b6, b7⟩ := box_eight HBX.out
        have hGW : G < W.heap.size := (Array.getElem?_eq_some_iff.1 HBX.out).1
        clear c0 c1 c2 c3 c4 c5 c6 c7 HO HG HF HWB HDD
        cases D with
        | true =>
          rw [if_pos rfl] at HKS
          go_wp2_with (first | (go_at_call 70; refine HDR.out.mono ?_; rintro e w2 ⟨rfl, HB2⟩) | fail)
          go_roundw
          case rel => exact ⟨i, j + 1, M, by omega, by omega, rfl, by first | rfl | go_num, HML, hidden (by rw [HKS.out]; exact HMT.out), hidden (fun k hk hm q => HMD.out k hk hm (by omega)), hidden (own_later HOb.out HB2.out), hidden (HGb.out.later HB2.out), hidden (HFW.out.trans (Fm.same HB2.out))⟩
          case measure => simp [intOf]; omega
        | false =>
          rw [if_neg (by simp)] at HKS
          have HFR : Hid (∀ w2, Below W.heap.size W w2 → ∀ q, w2.frozen? ⟨g, q, none⟩ = false) := hidden (fun w2 hb q => wrow_frozen (own_later HOb.out hb) q)
          have HNI : Hid ((M.set i d).take (i + 1) = keepL gs (L.take (j + 1))) := hidden (by
            rw [HKS.out, ← HMT.out, List.take_add_one, List.getElem?_eq_getElem (by rw [List.length_set]; exact hiM), List.getElem_set_self, List.take_set_of_le (Nat.le_refl _)]
            rfl)
          go_wp2_with (first | (go_at_call 70; refine HDR.out.mono ?_; rintro e w2 ⟨rfl, HB2⟩; have HBX2 := hidden (show w2.heap[G]? = some (.cells (wdV d).toArray 79 (0, 0)) by rw [HB2.out.block G hGW]; exact HBX.out); obtain ⟨b0, b1, b2, b3, b4, b5, b6, b7⟩ := box_eight HBX2.out; have z0 := HFR.out _ HB2.out (i * 8); have z1 := HFR.out _ HB2.out (i * 8 + 1); have z2 := HFR.out _ HB2.out (i * 8 + 2); have z3 := HFR.out _ HB2.out (i * 8 + 3); have z4 := HFR.out _ HB2.out (i * 8 + 4); have z5 := HFR.out _ HB2.out (i * 8 + 5); have z6 := HFR.out _ HB2.out (i * 8 + 6); have z7 := HFR.out _ HB2.out (i * 8 + 7); obtain ⟨y0, y1, y2, y3, y4, y5, y6, y7⟩ := wrow_cells (own_later HOb.out HB2.out) i hiM) | fail)
          have HO3 := hidden (wrow_put (own_later HOb.out HB2.out) i hiM d)
          have HG3 := hidden ((HGb.out.later HB2.out).fm (put8_fm w2 g i d) h1 h2 h3)
          have HF3 := hidden ((HFW.out.trans (Fm.same HB2.out)).trans (put8_fm w2 g i d))
          go_roundw
          case rel => exact ⟨i + 1, j + 1, M.set i d, by omega, by omega, by first | rfl | go_num, by first | rfl | go_num, hidden (by rw [List.length_set]; exact HML.out), HNI, hidden (fun k hk hm q => by rw [List.getElem_set_ne (by omega)]; exact HMD.out k hk (by rw [List.length_set] at hm; exact hm) (by omega)), hidden (by rw [List.length_set]; exact HO3.out), HG3, HF3⟩
          case measure => simp [intOf]; omega
      · obtain rfl : j = N := by omega
        have l1 : ¬ ((j : Int) < j) := by omega
        have HTL : Hid (L.take j = L) := hidden (List.take_of_length_le (by rw [HN.out]; exact Nat.le_refl _))
        rw [HTL.out] at HMT
        have hiM : i ≤ M.length := by rw [HML.out]; omega
        have HKL : Hid ((keepL gs L).length = i) := hidden (by rw [← HMT.out, List.length_take]; omega)
        obtain ⟨cur, hcur, hcs, hct⟩ : ∃ cur : Array Value, wr.heap[g]? = some (.cells cur 79 (0, 0)) ∧ cur.size = c * 8 ∧ cur.toList.take (M.length * 8) = wdsV M := by
          rcases HO.out.2 with ⟨q, _⟩ | ⟨g', cap, cur, q, _, q3, _, _, q6, q7⟩
          · cases q
          · simp only [Value.slice.injEq, Option.some.injEq, Addr.mk.injEq, and_true] at q
            obtain ⟨rfl, _, rfl⟩ := q
            exact ⟨cur, q3, q6, q7⟩
        obtain ⟨W9, hclr, ⟨cur', k1, k2, k3⟩, hgr⟩ := run_clearW wr g i (j - i) (c - i) (by omega) cur hcur (by rw [hcs]; omega)
        have HFIN : Hid (PQ (.returned (.slice (some ⟨g, 0, none⟩) i c)) W9) := hidden (by
          have hK : cur'.toList.take ((keepL gs L).length * 8) = wdsV (keepL gs L) := by
            rw [HKL.out, k3, ← HMT.out, ← wdsV_take, ← hct, List.take_take, Nat.min_eq_left (by omega)]
          have ho := wrow_cut (B := B) (c := c) (M := M) (K := keepL gs L) hBg k1 (by rw [HKL.out]; omega) (by unfold maxLen; omega) (by rw [k2, hcs]) hK
          have hfm : Fm wr W9 (fun k => k = g) (fun k => k = g) := ⟨hgr.os, hgr.tape, hgr.output, hgr.size, fun k hk hne => hgr.block k hk (fun e => hne (Option.some.inj e)), fun k hk => .inl hk⟩
          have := HFI.out W9 ho (HF.out.trans hfm)
          rwa [HKL.out] at this)
        have d1 : ¬ c = i := by omega
        have d2 : (i : Int) ≤ (j : Int) := by omega
        have d3 : i ≤ j := by omega
        have d4 : (0 : Int) ≤ (i : Int) := by omega
        have d5 : (i : Int) ≤ (c : Int) := by omega
        clear hcur hcs hct k1 k2 k3 hgr HO HG HF HMT HMD HFI HDROP HKL HTL
        go_wp2
        exact HFIN.out
  · have HF := hidden (HSAME.out hall _ HB1.out)
    clear HOR HSAME HFI HDROP hall HIX
    go_wp2
    exact HF.out
end Go.Proofs.Ytilfgbcbodjegaa
