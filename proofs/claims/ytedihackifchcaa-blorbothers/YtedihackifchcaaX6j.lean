/- Contract of blorb.layIndex: the index of resources whose chunks begin at given places. -/
import Derived.Test.YtedihackifchcaaX6i
namespace Go.Proofs.Ytedihackifchcaa
open Go.RowKit Go.Maps
set_option maxHeartbeats 1000000
set_option maxRecDepth 100000
set_option linter.unusedVariables false

/-- a box that holds four values -/
def Box4 (w : World) (g : Nat) (x y z u : Value) (t : TypeId) : Prop := w.heap[g]? = some (.cells #[x, y, z, u] t (0, 0))
theorem Box4.new (w : World) (x y z u : Value) (t : TypeId) : Box4 (w.alloc (.cells #[x, y, z, u] t)) w.heap.size x y z u t := heap_alloc_new _ _
theorem Box4.lt {w : World} {g : Nat} {x y z u : Value} {t : TypeId} (h : Box4 w g x y z u t) : g < w.heap.size := by
  unfold Box4 at h
  exact (Array.getElem?_eq_some_iff.1 h).1
theorem Box4.grown {w w' : World} {g : Nat} {x y z u : Value} {t : TypeId} {row : Option Nat} (h : Box4 w g x y z u t) (hg : w.grownBy w' row) (hne : row ≠ some g) : Box4 w' g x y z u t :=
  (hg.block g h.lt (fun e => hne e.symm)).trans h
theorem Box4.alloc {w : World} {g : Nat} {x y z u : Value} {t : TypeId} (h : Box4 w g x y z u t) (o : Obj) : Box4 (w.alloc o) g x y z u t := h.grown (World.grownBy_alloc w o none) (by simp)
theorem Box4.cells {w : World} {g : Nat} {x y z u : Value} {t : TypeId} (h : Box4 w g x y z u t) : w.cell? ⟨g, 0, none⟩ = some x ∧ w.cell? ⟨g, 1, none⟩ = some y ∧ w.cell? ⟨g, 2, none⟩ = some z ∧ w.cell? ⟨g, 3, none⟩ = some u := by
  unfold Box4 at h
  simp [World.cell?, h]
theorem Box4.ne {w : World} {g : Nat} {x y z u : Value} {t : TypeId} (h : Box4 w g x y z u t) {base n e size : Nat} {v : Value} {xs : List Value} (ho : w.ownsRow base e size v n xs) (hne : e ≠ t) : v.ownBlock ≠ some g := by
  intro e'
  rcases ho.2 with ⟨rfl, _⟩ | ⟨g', cap, cur, rfl, _, hg, _⟩
  · cases e'
  · have e2 : g' = g := by simpa [Value.ownBlock] using e'
    subst e2
    unfold Box4 at h
    rw [h] at hg
    simp at hg
    exact hne hg.2.symm
/-- one entry's bytes -/
def entL (q : Rk × Int) : List Int := idI q.1.u ++ (putL q.1.x 4 ++ putL q.2 4)
def entsL (qs : List (Rk × Int)) : List Int := (qs.map entL).flatten
/-- an index' bytes -/
def idxL (rs : List Rk) (pl : List Int) : List Int := putL rs.length 4 ++ entsL (rs.zip pl)
theorem entsL_snoc (qs : List (Rk × Int)) (k : Nat) (h : k < qs.length) : entsL (qs.take (k + 1)) = entsL (qs.take k) ++ entL qs[k] := by
  unfold entsL
  rw [List.take_succ_eq_append_getElem h, List.map_append, List.flatten_append]
  simp
def IdxRet (w : World) (n : Nat) (zs : List Int) (e : Ending) (w' : World) : Prop := ∃ v, e = .returned v ∧ w'.ownsRow w.heap.size 5 1 v n (bytesV zs) ∧ Below w.heap.size w w'
theorem indexBytes_any (n : Nat) (w : World) (h : n ≤ 1000000) :
    Calls Try.prog 36 #[.int .i64 (n : Int)] w fun e w' => e = .returned (.int .i64 (4 + (n : Int) * 12)) ∧ w' = w := by
  have h1 : (n : Int) ≤ 1000000 := by omega
  go_enter Try.func36, Try.ntmps36
  go_wp2
  go_ret
  exact ⟨rfl, rfl⟩
set_option maxHeartbeats 2000000 in
theorem layIndex_any (a : Option Addr) (len cap : Nat) (rs : List Rk) (gp op pc : Nat) (pl : List Int) (w : World) (hc : Rks w a len cap rs) (hall : AllIdR rs) (hl : len ≤ 512) (hpl : pl.length = len) (hpc : len ≤ pc)
    (hcp : ∀ i, i < len → w.cell? ⟨gp, op + i, none⟩ = some (.int .i64 (pl.getD i 0))) (hpb : ∀ i, i < len → 0 ≤ pl.getD i 0 ∧ pl.getD i 0 ≤ 10000000) :
    Calls Try.prog 37 #[.slice a len cap, .slice (some ⟨gp, op, none⟩) len pc] w (IdxRet w (4 + 12 * len) (idxL rs pl)) := by
  obtain ⟨i0, hi, hz0, hz1, hz2⟩ := info_parts info8
  have hlen := hc.1
  have hcap := hc.2.1
  have HC := hidden hc
  have HALL := hidden hall
  have HCP := hidden hcp
  have HPB := hidden hpb
  have hli : (len : Int) ≤ 512 := by omega
  have hzl : (rs.zip pl).length = len := by rw [List.length_zip, hlen, hpl]; omega
  have HZA : Hid (∀ k (h : k < rs.length) (h' : k < (rs.zip pl).length), (rs.zip pl)[k] = (rs[k], pl.getD k 0)) := hidden fun k h h' => by
    rw [List.getElem_zip]
    simp [List.getD_eq_getElem?_getD, show k < pl.length by omega]
  clear hc hall hcp hpb
  unfold idxL
  rw [hlen]
  obtain ⟨w3, hmk, hown, hgrow⟩ := run_make_own (P := Try.prog) w w.heap.size 22 5 i0 (.int .u8 0) 1 Try.underlying22 hi hz0 hz1 .i64 .i64 (4 + len * 12) (by rw [hz2]; omega) (by unfold maxLen; omega) (Nat.le_refl _)
  have hmk2 : (Instr.makeSlice 22 (.int .i64 0) (.int .i64 (4 + (len : Int) * 12))).run Try.prog w = .ok (.slice (some ⟨w.heap.size, 0, none⟩) 0 (4 + len * 12)) w3 := by
    rw [← hmk]; congr 2
  have hb3 : Below w.heap.size w w3 := (Below.refl _ _).grown hgrow (Nat.le_refl _) (by intro k hk; cases hk)
  have hs3 := hb3.size
  have HO0 := hidden (hown.alloc (.cells (bytesV (putL (len : Int) 4)).toArray 5))
  have hb4 := hb3.alloc hs3 (.cells (bytesV (putL (len : Int) 4)).toArray 5)
  have HN0 := hidden (new_cell w3 (putL (len : Int) 4) (show 4 ≤ maxLen by decide))
  clear hown hgrow hmk hb3
  go_enter Try.func37, Try.ntmps37
  go_wp2_with (first | (go_at_call 36; refine (indexBytes_any len _ (by omega)).mono ?_; rintro e w9 ⟨rfl, hw⟩; obtain rfl := hw.symm) | (go_at_call 48; refine (putn_4 _ _).mono ?_; rintro e w9 ⟨rfl, hw⟩; subst hw) | (at_builtin; refine wpList_append_own _ rfl (.tmp 12) (.tmp 16) 22 rfl w.heap.size 5 i0 (.int .u8 0) 1 1 Try.underlying22 hi hz0 hz1 hz2 rfl (by decide) _ _ _ rfl HO0.out ⟨w3.heap.size, 0, none⟩ 4 4 (bytesV (putL (len : Int) 4)) rfl rfl HN0.out (bytesV_one _) (by decide) (by decide) (by simp; omega) ?_; intro v1 w4 hown1 hgrow1 hiff1; clear hiff1; refine Hid.out ?_))
  replace hgrow1 : (w3.alloc (.cells (bytesV (putL (len : Int) 4)).toArray 5)).grownBy w4 (Value.slice (some ⟨w.heap.size, 0, none⟩) 0 (4 + len * 12)).ownBlock := hgrow1
  have hb5 : Below w.heap.size w w4 := hb4.grown hgrow1 hb4.size (fun k hk => (HO0.out.lt k hk).1)
  have hown2 : w4.ownsRow w.heap.size 5 1 v1 (4 + 12 * 0) (bytesV (putL (len : Int) 4 ++ entsL ((rs.zip pl).take 0))) := by
    simpa [entsL] using hown1
  have HO1 := hidden hown2
  clear hown1 hgrow1 hown2 HO0 HN0 hb4 hs3 hmk2
  refine hidden ?_
  go_wp2
  go_loopw [5, 20] (fun v i w' => ∃ k : Nat, k ≤ len ∧ i = .int .i64 k ∧ w'.ownsRow w.heap.size 5 1 v (4 + 12 * k) (bytesV (putL (len : Int) 4 ++ entsL ((rs.zip pl).take k))) ∧ Below w.heap.size w w') (fun _ i _ => len - (intOf i).toNat)
  case atStart => exact ⟨0, by omega, rfl, HO1.out, hb5⟩
  case round =>
    obtain ⟨k, hk, rfl, hown, hbl⟩ := hrel
    have HO := hidden hown
    have hs1 := hbl.size
    clear hown HO1 hb5
    by_cases hlt : k < len
    · have hlt2 : (k : Int) < (len : Int) := by omega
      have hkc : k < rs.length := by omega
      obtain ⟨b, off, rfl, hcell⟩ := HC.out.at (by omega)
      obtain ⟨q0, q1, q2, q3⟩ := hcell k hkc
      have c0 := cellLater hbl q0
      have c1 := cellLater hbl q1
      have c2 := cellLater hbl q2
      have c3 := cellLater hbl q3
      have hp0 := HPB.out k hlt
      have hsn : entsL ((rs.zip pl).take (k + 1)) = entsL ((rs.zip pl).take k) ++ entL (rs[k], pl.getD k 0) := by
        rw [entsL_snoc _ k (by omega), HZA.out k hkc (by omega)]
      have HSN := hidden hsn
      have hu4 := (HALL.out _ (List.getElem_mem hkc)).1.1
      have hxx := (HC.out.2.2.2 _ (List.getElem_mem hkc)).2.2
      have HPC : Hid (∀ wx, Below w.heap.size w wx → wx.cell? ⟨gp, op + k, none⟩ = some (.int .i64 (pl.getD k 0))) := hidden fun wx hb => cellLater hb (HCP.out k hlt)
      clear hcell q0 q1 q2 q3 hsn
      generalize rs[k] = r at *
      generalize pl.getD k 0 = P at *
      obtain ⟨ru, rx, ri, ra, rl, rc, rd⟩ := r
      simp only at *
      have hPw : IntKind.u32.wrap P = P := by rw [IntKind.wrap_u32]; omega
      generalize entsL ((rs.zip pl).take k) = E0 at *
      generalize hL0 : putL (len : Int) 4 ++ E0 = Z at *
      have hX := Box4.new wr (.string ru) (.int .u32 rx) (.string ri) (.slice ra rl rc) 49
      have HX := hidden hX
      have HO2 := hidden (HO.out.alloc (.cells #[.string ru, .int .u32 rx, .string ri, .slice ra rl rc] 49))
      have hb2 := hbl.alloc hs1 (.cells #[.string ru, .int .u32 rx, .string ri, .slice ra rl rc] 49)
      clear HO hX
      go_wp2_with (at_builtin; refine Lib.wpList_append_own_string _ rfl (.tmp 25) (.tmp 27) 22 9 rfl w.heap.size 5 i0 Try.underlying22 Try.underlying9 hi hz0 hz1 hz2 _ _ _ rfl HO2.out ru rfl (by unfold maxLen; omega) (by omega) (by simp; omega) ?_; intro v1 w5 hown1 hgrow1 hiff1; clear hiff1; refine Hid.out ?_)
      replace hgrow1 : (wr.alloc (.cells #[.string ru, .int .u32 rx, .string ri, .slice ra rl rc] 49)).grownBy w5 u5.ownBlock := hgrow1
      have hX1 := HX.out.grown hgrow1 (HX.out.ne HO2.out (by decide))
      have hb5 : Below w.heap.size w w5 := hb2.grown hgrow1 hb2.size (fun j hj => (HO2.out.lt j hj).1)
      rw [idI_cells, bytesV_append] at hown1
      obtain ⟨d0, d1, d2, d3⟩ := hX1.cells
      have hs5 := hb5.size
      have HX1 := hidden (hX1.alloc (.cells (bytesV (putL rx 4)).toArray 5))
      have HO3 := hidden (hown1.alloc (.cells (bytesV (putL rx 4)).toArray 5))
      have hb6 := hb5.alloc hs5 (.cells (bytesV (putL rx 4)).toArray 5)
      have HN3 := hidden (new_cell w5 (putL rx 4) (show 4 ≤ maxLen by decide))
      clear hown1 hgrow1 HO2 HX hX1 hb2 hb5 c0 c1 c2 c3
      generalize wr.heap.size = gb at *
      refine hidden ?_
      go_wp2_with (first | (go_at_call 48; refine (putn_4 _ _).mono ?_; rintro e w9 ⟨rfl, hw⟩; subst hw) | (at_builtin; refine wpList_append_own _ rfl (.tmp 29) (.tmp 32) 22 rfl w.heap.size 5 i0 (.int .u8 0) 1 1 Try.underlying22 hi hz0 hz1 hz2 rfl (by decide) _ _ _ rfl HO3.out ⟨w5.heap.size, 0, none⟩ 4 4 (bytesV (putL rx 4)) rfl rfl HN3.out (bytesV_one _) (by unfold maxLen; omega) (by omega) (by simp; omega) ?_; intro v2 w6 hown2 hgrow2 hiff2; clear hiff2; refine Hid.out ?_))
      replace hgrow2 : (w5.alloc (.cells (bytesV (putL rx 4)).toArray 5)).grownBy w6 v1.ownBlock := hgrow2
      have hb7 : Below w.heap.size w w6 := hb6.grown hgrow2 hb6.size (fun j hj => (HO3.out.lt j hj).1)
      rw [bytesV_append] at hown2
      have hs7 := hb7.size
      have p0 := HPC.out w6 hb7
      have HO4 := hidden (hown2.alloc (.cells (bytesV (putL P 4)).toArray 5))
      have hb8 := hb7.alloc hs7 (.cells (bytesV (putL P 4)).toArray 5)
      have HN4 := hidden (new_cell w6 (putL P 4) (show 4 ≤ maxLen by decide))
      clear hown2 hgrow2 HO3 HN3 HX1 hb6 hb7 d0 d1 d2 d3
      refine hidden ?_
      go_wp2_with (first | (go_at_call 48; refine (putn_4 _ _).mono ?_; rintro e w9 ⟨rfl, hw⟩; subst hw) | (at_builtin; refine wpList_append_own _ rfl (.tmp 34) (.tmp 40) 22 rfl w.heap.size 5 i0 (.int .u8 0) 1 1 Try.underlying22 hi hz0 hz1 hz2 rfl (by decide) _ _ _ rfl HO4.out ⟨w6.heap.size, 0, none⟩ 4 4 (bytesV (putL P 4)) rfl rfl HN4.out (bytesV_one _) (by unfold maxLen; omega) (by omega) (by simp; omega) ?_; intro v3 w7 hown3 hgrow3 hiff3; clear hiff3; refine Hid.out ?_))
      replace hgrow3 : (w6.alloc (.cells (bytesV (putL P 4)).toArray 5)).grownBy w7 v2.ownBlock := hgrow3
      have hb9 : Below w.heap.size w w7 := hb8.grown hgrow3 hb8.size (fun j hj => (HO4.out.lt j hj).1)
      rw [bytesV_append] at hown3
      have HO5 := hidden hown3
      have HL0 := hidden hL0
      clear hown3 hgrow3 HO4 HN4 hb8 p0 hL0
      refine hidden ?_
      go_wp2
      go_roundw
      case rel =>
        refine ⟨k + 1, by omega, by go_num, ?_, hb9⟩
        have := HO5.out
        rw [hu4] at this
        rw [HSN.out, show 4 + 12 * (k + 1) = 4 + 12 * k + 4 + 4 + 4 by omega]
        rw [← HL0.out] at this
        unfold entL
        simp only [List.append_assoc] at this ⊢
        exact this
      case measure => simp [intOf]; omega
    · obtain rfl : k = len := by omega
      have hse : (rs.zip pl).take k = rs.zip pl := List.take_of_length_le (by omega)
      rw [hse] at HO
      go_wp2
      go_ret
      exact ⟨u5, rfl, HO.out, hbl⟩
end Go.Proofs.Ytedihackifchcaa
