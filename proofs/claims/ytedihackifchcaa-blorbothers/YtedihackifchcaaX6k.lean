/- Contract of blorb.Lay: the container of resources, or the first fault. -/
import Derived.Test.YtedihackifchcaaX6j
import Derived.Deep.OwnRows
namespace Go.Proofs.Ytedihackifchcaa
open Go.RowKit Go.Maps
set_option maxHeartbeats 1000000
set_option maxRecDepth 100000
set_option linter.unusedVariables false

def flatS (cs : List Sc) : List Int := (cs.map fun c => ckL c.1 c.2.length c.2).flatten
/-- a form's bytes -/
def formS (s : ByteArray) (cs : List Sc) : List Int := headL s (12 + ssz cs) ++ flatS cs
theorem formL_S (s : ByteArray) (ks : List Ck) (h : ∀ k ∈ ks, k.d.length = k.l) : formL s ks = formS s (ks.map scOf) := by
  unfold formL formS
  rw [sizes_ssz ks h]
  congr 1
  unfold flat flatS
  rw [List.map_map]
  congr 1
  refine List.map_congr_left fun k hk => ?_
  show ckL k.id k.l k.d = ckL k.id k.d.length k.d
  rw [h k hk]
abbrev RIDX : ByteArray := ⟨#[82, 73, 100, 120]⟩
def entS (q : Sr × Int) : List Int := idI q.1.1 ++ (putL q.1.2.1 4 ++ putL q.2 4)
/-- an index' bytes -/
def idxS (ss : List Sr) (pl : List Int) : List Int := putL ss.length 4 ++ ((ss.zip pl).map entS).flatten
def ckS (s : Sr) : Sc := (s.2.2.1, s.2.2.2)
/-- where resources' chunks begin -/
def plR (ss : List Sr) : List Int := (plS ((RIDX, List.replicate (4 + 12 * ss.length) 0) :: ss.map ckS)).tail
/-- a container's chunks -/
def layCs (ss : List Sr) : List Sc := (RIDX, idxS ss (plR ss)) :: ss.map ckS
/-- a container's bytes -/
def layS (ss : List Sr) : List Int := formS IFRS (layCs ss)
theorem idxL_S (rs : List Rk) (pl : List Int) : idxL rs pl = idxS (rs.map srOf) pl := by
  unfold idxL idxS entsL
  rw [List.length_map]
  congr 2
  rw [List.zip_map_left, List.map_map]
  refine List.map_congr_left fun q hq => ?_
  rfl
theorem flat4 : ∀ (l : List (List Int)), (∀ x ∈ l, x.length = 12) → l.flatten.length = 12 * l.length
  | [], _ => rfl
  | x :: l, h => by
    rw [List.flatten_cons, List.length_append, h x List.mem_cons_self, flat4 l (fun y hy => h y (List.mem_cons_of_mem _ hy)), List.length_cons]
    omega
theorem idxS_len (ss : List Sr) (pl : List Int) (h : ∀ s ∈ ss, s.1.size = 4) (hl : pl.length = ss.length) : (idxS ss pl).length = 4 + 12 * ss.length := by
  unfold idxS
  rw [List.length_append, putL_len4, flat4, List.length_map, List.length_zip, hl]
  · omega
  · intro x hx
    obtain ⟨q, hq, rfl⟩ := List.mem_map.1 hx
    unfold entS
    rw [List.length_append, List.length_append, putL_len4, putL_len4, idI_len, h _ (List.of_mem_zip hq).1]
theorem plR_len (ss : List Sr) : (plR ss).length = ss.length := by
  unfold plR
  rw [List.length_tail, plS_len]
  simp
/-- a slice of chunks, read -/
theorem own_cks {B n : Nat} {w : World} {ao : Option Addr} {cv : Nat} {ks : List Ck} (h1 : w.ownsRow B 56 2 (.slice ao n cv) n (cksV ks)) (hn : ks.length = n) (hr : ∀ k ∈ ks, Reads w k.a k.l k.c k.d ∧ OkB k.d) : Cks w ao n cv ks := by
  refine ⟨hn, ?_, ?_, hr⟩
  · rcases h1.2 with ⟨e, h0⟩ | ⟨g, cap, cur, e, hb, hg, hnc, hm, hs, ht⟩
    · simp only [Value.slice.injEq] at e; omega
    · simp only [Value.slice.injEq] at e; omega
  · rcases h1.2 with ⟨e, h0⟩ | ⟨g, cap, cur, e, hb, hg, hnc, hm, hs, ht⟩
    · exact .inl (by omega)
    · simp only [Value.slice.injEq] at e
      obtain ⟨rfl, -, -⟩ := e
      refine .inr ⟨g, 0, rfl, fun i hi => ?_⟩
      have hc := cksV_at ks i hi
      have e1 := h1.cells (g := g) rfl (i * 2) _ hc.1
      have e2 := h1.cells (g := g) rfl (i * 2 + 1) _ hc.2
      rw [plain_add] at e1 e2
      exact ⟨e1, by rwa [← Nat.add_assoc] at e2⟩
def ckOf (r : Rk) : Ck := ⟨r.id, r.a, r.l, r.c, r.d⟩
theorem zeros_own (w : World) (B n : Nat) (hB : B ≤ w.heap.size) (hn : n ≤ maxLen) : (w.alloc (.cells (madeCells #[.int .u8 0] n) 5)).ownsRow B 5 1 (.slice (some ⟨w.heap.size, 0, none⟩) n n) n (bytesV (List.replicate n 0)) := by
  have e : bytesV (List.replicate n 0) = List.replicate n (.int .u8 0) := by simp [bytesV]
  rw [e]
  exact ⟨by simp, .inr ⟨w.heap.size, n, madeCells #[.int .u8 0] n, rfl, hB, heap_alloc_new _ _, Nat.le_refl _, hn, by simp [madeCells], by rw [toList_madeCells_one, Nat.mul_one, List.take_of_length_le (by simp)]⟩⟩
theorem two_new_at (w : World) (x y : Value) (t : TypeId) (g : Nat) (hg : g = w.heap.size) : ∀ j u, [x, y][j]? = some u → (w.alloc (.cells #[x, y] t)).cell? ((⟨g, 0, none⟩ : Addr).add j) = some u := by
  subst hg; exact cell_two_new w x y t
theorem zeros_ok (n : Nat) : OkB (List.replicate n 0) := fun c hc => by rw [(List.mem_replicate.1 hc).2]; decide
/-- what Lay answers -/
def LRet (w : World) (E : Int) (zs : List Int) (e : Ending) (w' : World) : Prop :=
  Below w.heap.size w w' ∧ ((E ≠ 0 ∧ e = .returned (.tuple #[.slice none 0 0, .int .i64 E])) ∨ (E = 0 ∧ ∃ v, e = .returned (.tuple #[v, .int .i64 0]) ∧ w'.ownsRow w.heap.size 5 1 v zs.length (bytesV zs)))
theorem checkR_zero (rs : List Rk) (h : checkR rs = 0) : AllIdR rs ∧ rs.length ≤ 512 ∧ ApartR rs := by
  unfold checkR at h
  by_cases c1 : ¬ AllIdR rs
  · rw [if_pos c1] at h; exact absurd h (by simp)
  rw [if_neg c1] at h
  by_cases c2 : 512 < rs.length
  · rw [if_pos c2] at h; exact absurd h (by simp)
  rw [if_neg c2] at h
  by_cases c3 : ¬ ApartR rs
  · rw [if_pos c3] at h; exact absurd h (by simp)
  exact ⟨Classical.not_not.1 c1, by omega, Classical.not_not.1 c3⟩
theorem id_ifrs : IsId IFRS := ⟨rfl, by decide⟩
theorem id_ridx : IsId RIDX := ⟨rfl, by decide⟩
theorem idxL_ok (rs : List Rk) (pl : List Int) : OkB (idxL rs pl) := by
  unfold idxL entsL
  refine append_bd _ _ (putL_bd _ _) ?_
  intro c hc
  obtain ⟨l, hl, h⟩ := List.mem_flatten.1 hc
  obtain ⟨q, -, rfl⟩ := List.mem_map.1 hl
  exact append_bd _ _ (idI_ok _) (append_bd _ _ (putL_bd _ _) (putL_bd _ _)) c h
set_option maxHeartbeats 2000000 in
theorem lay_any (a : Option Addr) (len cap : Nat) (rs : List Rk) (w : World) (hc : Rks w a len cap rs) (hm : len ≤ 1000000) (hsz : sizes (rs.map ckOf) ≤ 900000) :
    Calls Try.prog 13 #[.slice a len cap] w (LRet w (checkR rs) (layS (rs.map srOf))) := by
  obtain ⟨i0, hi, hz0, hz1, hz2⟩ := info_parts info59
  have HCh := hidden (checkResources_any a len cap rs w hc hm)
  have hlen := hc.1
  have hcap := hc.2.1
  have HC := hidden hc
  clear hc
  by_cases hE : checkR rs ≠ 0
  · have hE2 : (checkR rs != 0) = true := by simpa using hE
    generalize checkR rs = E at *
    generalize layS (rs.map srOf) = ZS at *
    go_enter Try.func13, Try.ntmps13
    go_wp2_with (go_at_call 35; refine HCh.out.mono ?_; rintro e w1 ⟨rfl, hb1⟩)
    go_ret2
    exact ⟨hb1, .inl ⟨hE, rfl⟩⟩
  have hE0 : checkR rs = 0 := Classical.not_not.1 hE
  obtain ⟨hall, h512, hap⟩ := checkR_zero rs hE0
  rw [hE0] at HCh ⊢
  have HALL := hidden hall
  clear hE hE0 hap
  rw [hlen] at h512
  have hli : (len : Int) ≤ 512 := by omega
  go_enter Try.func13, Try.ntmps13
  go_wp2_with (go_at_call 35; refine HCh.out.mono ?_; rintro e w1 ⟨rfl, hb1⟩; obtain ⟨w2, hmk, hown, hgrow⟩ := run_make_own (P := Try.prog) w1 w.heap.size 50 56 i0 (.agg #[.string ⟨#[]⟩, .slice none 0 0]) 2 Try.underlying50 hi hz0 hz1 .i64 .i64 (len + 1) (by rw [hz2]; omega) (by unfold maxLen; omega) hb1.size; have hmk2 : (Instr.makeSlice 50 (.int .i64 0) (.int .i64 ((len : Int) + 1))).run Try.prog w1 = .ok (.slice (some ⟨w1.heap.size, 0, none⟩) 0 (len + 1)) w2 := (by rw [← hmk]; congr 2); have hmr := (by have := run_make_row' (P := Try.prog) 22 5 (.int .u8 0) 1 Try.underlying22 info8 rfl .i64 .i64 (4 + len * 12) (by omega) (by omega) w2; exact this : (Instr.makeSlice 22 (.int .i64 (4 + (len : Int) * 12)) (.int .i64 (4 + (len : Int) * 12))).run Try.prog w2 = .ok (.slice (some ⟨w2.heap.size, 0, none⟩) (4 + len * 12) (4 + len * 12)) (w2.alloc (.cells (madeCells #[.int .u8 0] (4 + len * 12)) 5))))
  refine (indexBytes_any len w2 (by omega)).mono ?_
  rintro e w9 ⟨rfl, hw⟩
  obtain rfl := hw.symm
  clear hw
  have hb2 : Below w.heap.size w w2 := hb1.grown hgrow hb1.size (by intro k hk; cases hk)
  have hs2 := hb2.size
  generalize hN : 4 + len * 12 = N at *
  have hN2 : N ≤ 6148 := by omega
  have HZ := hidden ((zeros_own w2 w.heap.size N hs2 (by unfold maxLen; omega)).alloc (.cells #[.string RIDX, .slice (some ⟨w2.heap.size, 0, none⟩) N N] 56))
  have HO := hidden ((hown.alloc (.cells (madeCells #[.int .u8 0] N) 5)).alloc (.cells #[.string RIDX, .slice (some ⟨w2.heap.size, 0, none⟩) N N] 56))
  have HNw := hidden (two_new_at (w2.alloc (.cells (madeCells #[.int .u8 0] N) 5)) (.string RIDX) (.slice (some ⟨w2.heap.size, 0, none⟩) N N) 56 (w2.heap.size + 1) (by simp))
  have hb4 := (hb2.alloc hs2 (.cells (madeCells #[.int .u8 0] N) 5)).alloc (by simp; omega) (.cells #[.string RIDX, .slice (some ⟨w2.heap.size, 0, none⟩) N N] 56)
  have HB4 := hidden hb4
  have HHN := hidden hN
  clear hown hgrow hmk hmk2 hb4 hN HCh
  go_wp2_with (at_builtin; refine wpList_append_own _ rfl (.tmp 17) (.tmp 23) 50 rfl w.heap.size 56 i0 (.agg #[.string ⟨#[]⟩, .slice none 0 0]) 2 40 Try.underlying50 hi hz0 hz1 hz2 rfl (by decide) _ _ _ rfl HO.out ⟨w2.heap.size + 1, 0, none⟩ 1 1 [.string RIDX, .slice (some ⟨w2.heap.size, 0, none⟩) N N] rfl rfl HNw.out (by intro u hu; simp at hu; rcases hu with rfl | rfl <;> rfl) (by decide) (by decide) (by simp; omega) ?_; intro v5 w5 hown5 hgrow5 hiff5; clear hiff5; refine Hid.out ?_)
  replace hgrow5 : ((w2.alloc (.cells (madeCells #[.int .u8 0] N) 5)).alloc (.cells #[.string RIDX, .slice (some ⟨w2.heap.size, 0, none⟩) N N] 56)).grownBy w5 (Value.slice (some ⟨w1.heap.size, 0, none⟩) 0 (len + 1)).ownBlock := hgrow5
  have hb5 : Below w.heap.size w w5 := HB4.out.grown hgrow5 HB4.out.size (fun k hk => (HO.out.lt k hk).1)
  have hZ5 := HZ.out.kept hgrow5 (own_apart HZ.out HO.out (by decide))
  obtain ⟨c0, hc0⟩ : ∃ c0 : Ck, c0 = ⟨RIDX, some ⟨w2.heap.size, 0, none⟩, N, N, List.replicate N 0⟩ := ⟨_, rfl⟩
  have hown6 : w5.ownsRow w.heap.size 56 2 v5 (0 + 1) (cksV (c0 :: (rs.take 0).map ckOf)) := by
    rw [hc0]
    simpa [cksV, ckV] using hown5
  have HO5 := hidden hown6
  have HZ5 := hidden hZ5
  have HC0 := hidden hc0
  generalize w2.heap.size = gz at *
  clear hown5 hgrow5 hown6 hZ5 HO HZ HNw HB4 hc0 hmr hb2 hs2 hb1
  refine hidden ?_
  go_wp2
  go_loopw [5, 27] (fun v i w' => ∃ k : Nat, k ≤ len ∧ i = .int .i64 k ∧ w'.ownsRow w.heap.size 56 2 v (k + 1) (cksV (c0 :: (rs.take k).map ckOf)) ∧ w'.ownsRow w.heap.size 5 1 (.slice (some ⟨gz, 0, none⟩) N N) N (bytesV (List.replicate N 0)) ∧ Below w.heap.size w w') (fun _ i _ => len - (intOf i).toNat)
  case atStart => exact ⟨0, by omega, rfl, HO5.out, HZ5.out, hb5⟩
  case round =>
    obtain ⟨k, hk, rfl, hown, hzr, hbl⟩ := hrel
    have HO := hidden hown
    have HZR := hidden hzr
    have hs1 := hbl.size
    clear hown hzr HO5 HZ5 hb5
    by_cases hlt : k < len
    · have hlt2 : (k : Int) < (len : Int) := by omega
      have hkc : k < rs.length := by omega
      obtain ⟨b, off, rfl, hcell⟩ := HC.out.at (by omega)
      obtain ⟨q0, q1, q2, q3⟩ := hcell k hkc
      have d0 := cellLater hbl q0
      have d1 := cellLater hbl q1
      have d2 := cellLater hbl q2
      have d3 := cellLater hbl q3
      have HSN : Hid (cksV (c0 :: (rs.take (k + 1)).map ckOf) = cksV (c0 :: (rs.take k).map ckOf) ++ [.string rs[k].id, .slice rs[k].a rs[k].l rs[k].c]) := hidden (by
        rw [List.take_succ_eq_append_getElem hkc, List.map_append, ← List.cons_append]
        exact cksV_snoc _ _)
      clear hcell q0 q1 q2 q3
      generalize rs[k] = r at *
      obtain ⟨ru, rx, ri, ra, rl, rc, rd⟩ := r
      simp only at *
      generalize cksV (c0 :: (rs.take k).map ckOf) = CV at *
      have HO2 := hidden ((HO.out.alloc (.cells #[.string ru, .int .u32 rx, .string ri, .slice ra rl rc] 49)).alloc (.cells #[.string ri, .slice ra rl rc] 56))
      have HZ2 := hidden ((HZR.out.alloc (.cells #[.string ru, .int .u32 rx, .string ri, .slice ra rl rc] 49)).alloc (.cells #[.string ri, .slice ra rl rc] 56))
      have HN2' := hidden (two_new_at (wr.alloc (.cells #[.string ru, .int .u32 rx, .string ri, .slice ra rl rc] 49)) (.string ri) (.slice ra rl rc) 56 (wr.heap.size + 1) (by simp))
      have hb2 := (hbl.alloc hs1 (.cells #[.string ru, .int .u32 rx, .string ri, .slice ra rl rc] 49)).alloc (by simp; omega) (.cells #[.string ri, .slice ra rl rc] 56)
      have HB2 := hidden hb2
      clear hb2 HO HZR
      go_wp2_with (at_builtin; refine wpList_append_own _ rfl (.tmp 31) (.tmp 37) 50 rfl w.heap.size 56 i0 (.agg #[.string ⟨#[]⟩, .slice none 0 0]) 2 40 Try.underlying50 hi hz0 hz1 hz2 rfl (by decide) _ _ _ rfl HO2.out ⟨wr.heap.size + 1, 0, none⟩ 1 1 [.string ri, .slice ra rl rc] rfl rfl HN2'.out (by intro u hu; simp at hu; rcases hu with rfl | rfl <;> rfl) (by unfold maxLen; omega) (by omega) (by simp; omega) ?_; intro v3 w6 hown3 hgrow3 hiff3; clear hiff3; refine Hid.out ?_)
      replace hgrow3 : ((wr.alloc (.cells #[.string ru, .int .u32 rx, .string ri, .slice ra rl rc] 49)).alloc (.cells #[.string ri, .slice ra rl rc] 56)).grownBy w6 u5.ownBlock := hgrow3
      have hb6 : Below w.heap.size w w6 := HB2.out.grown hgrow3 HB2.out.size (fun j hj => (HO2.out.lt j hj).1)
      have HZ6 := hidden (HZ2.out.kept hgrow3 (own_apart HZ2.out HO2.out (by decide)))
      have HO6 := hidden hown3
      clear hown3 hgrow3 HO2 HZ2 HN2' HB2
      refine hidden ?_
      go_wp2
      go_roundw
      case rel => exact ⟨k + 1, by omega, by go_num, by rw [HSN.out]; exact HO6.out, HZ6.out, hb6⟩
      case measure => simp [intOf]; omega
    · obtain rfl : k = len := by omega
      have hse : rs.take k = rs := List.take_of_length_le (by omega)
      rw [hse] at HO
      obtain ⟨ao, cv, rfl⟩ := own_slice HO.out
      obtain ⟨g, cv2, hge, hgc, hgb⟩ : ∃ g cap, (Value.slice ao (k + 1) cv) = .slice (some ⟨g, 0, none⟩) (k + 1) cap ∧ k + 1 ≤ cap ∧ w.heap.size ≤ g := by
        rcases HO.out.2 with ⟨_, h0⟩ | ⟨g, cap, cur, e, hbg, _, hnc, _⟩
        · omega
        · exact ⟨g, cap, e, hnc, hbg⟩
      simp only [Value.slice.injEq] at hge
      obtain ⟨rfl, -, rfl⟩ := hge
      have hcl : (c0 :: rs.map ckOf).length = k + 1 := by simp [hlen]
      have hrd : ∀ (W : World), Below w.heap.size w W → ∀ c ∈ rs.map ckOf, Reads W c.a c.l c.c c.d ∧ OkB c.d := fun W hW c hc => by
        obtain ⟨r, hr, rfl⟩ := List.mem_map.1 hc
        have := (HC.out.2.2.2 r hr)
        exact ⟨this.1.later hW, this.2.1⟩
      have hck : Cks wr (some ⟨g, 0, none⟩) (k + 1) cv (c0 :: rs.map ckOf) := own_cks HO.out hcl (fun c hc => by
        rcases List.mem_cons.1 hc with rfl | h
        · rw [HC0.out]; exact ⟨(reads_own HZR.out).1, zeros_ok N⟩
        · exact hrd wr hbl c h)
      have hdl : ∀ c ∈ c0 :: rs.map ckOf, c.d.length = c.l := fun c hc => (hck.2.2.2 c hc).1.1
      have hsz2 : sizes (c0 :: rs.map ckOf) ≤ 1000000 := by
        have : sizes (c0 :: rs.map ckOf) = ckSize c0 + sizes (rs.map ckOf) := by simp [sizes]
        rw [this, HC0.out]; unfold ckSize; simp only; omega
      have hplE : plK (c0 :: rs.map ckOf) (k + 1) = plS ((c0 :: rs.map ckOf).map scOf) := by rw [← hcl]; exact plK_plS _ hdl
      have hss : (c0 :: rs.map ckOf).map scOf = (RIDX, List.replicate (4 + 12 * (rs.map srOf).length) 0) :: (rs.map srOf).map ckS := by
        rw [List.map_cons, HC0.out, List.map_map, List.map_map, List.length_map, hlen, ← HHN.out, Nat.mul_comm 12 k]
        rfl
      have HPl := hidden (places_any (some ⟨g, 0, none⟩) (k + 1) cv (c0 :: rs.map ckOf) wr hck (by omega) (by omega))
      rw [hplE, hss] at HPl
      have htl : (plS ((RIDX, List.replicate (4 + 12 * (rs.map srOf).length) 0) :: (rs.map srOf).map ckS)).tail = plR (rs.map srOf) := rfl
      have hpl1 : (plS ((RIDX, List.replicate (4 + 12 * (rs.map srOf).length) 0) :: (rs.map srOf).map ckS)).length = k + 1 := by rw [plS_len, ← hss, List.length_map]; exact hcl
      have HBD : Hid (∀ i, i < k + 1 → 0 ≤ (plS ((RIDX, List.replicate (4 + 12 * (rs.map srOf).length) 0) :: (rs.map srOf).map ckS)).getD i 0 ∧ (plS ((RIDX, List.replicate (4 + 12 * (rs.map srOf).length) 0) :: (rs.map srOf).map ckS)).getD i 0 ≤ 10000000) := hidden fun i hi => by
        rw [← hss, ← hplE]
        have e : (plK (c0 :: rs.map ckOf) (k + 1)).getD i 0 = ((12 + sizes ((c0 :: rs.map ckOf).take i) : Nat) : Int) := by simp [plK, List.getD_eq_getElem?_getD, hi]
        rw [e]
        have := sizes_le (c0 :: rs.map ckOf) i
        omega
      clear hplE hss hse hdl
      go_wp2_with fail
      refine HPl.out.mono ?_
      rintro e w6 ⟨vp, rfl, hop, hbp⟩
      obtain ⟨gp, cp, hpe, hpc, hpb⟩ : ∃ g cap, vp = .slice (some ⟨g, 0, none⟩) (k + 1) cap ∧ k + 1 ≤ cap ∧ wr.heap.size ≤ g := by
        rcases hop.2 with ⟨_, h0⟩ | ⟨g, cap, cur, e, hbg, _, hnc, _⟩
        · omega
        · exact ⟨g, cap, e, hnc, hbg⟩
      subst hpe
      obtain ⟨op, hop1, hop2⟩ : ∃ op, (if cp = 1 then some (⟨gp, 0, none⟩ : Addr) else some ⟨gp, 1, none⟩) = some ⟨gp, op, none⟩ ∧ (cp ≠ 1 → op = 1) := by
        by_cases h1 : cp = 1
        · exact ⟨0, by simp [h1], fun h => absurd h1 h⟩
        · exact ⟨1, by simp [h1], fun _ => rfl⟩
      have hpcell : ∀ i, i < k → w6.cell? ⟨gp, op + i, none⟩ = some (.int .i64 ((plR (rs.map srOf)).getD i 0)) := fun i hi => by
        have e1 := hop.cells (g := gp) rfl (i + 1) _ (intsV_at _ (i + 1) (by omega))
        rw [plain_add, Nat.zero_add] at e1
        rw [hop2 (by omega), Nat.add_comm 1 i, e1, ← htl]
        congr 2
        simp [List.getD_eq_getElem?_getD]
      have hb6 := hbl.trans (hbp.mono hs1)
      have hrl : (plR (rs.map srOf)).length = k := by rw [plR_len, List.length_map]; exact hlen
      have HLI := hidden (layIndex_any a k cap rs gp op (cp - 1) (plR (rs.map srOf)) w6 (HC.out.later hb6) HALL.out (by omega) hrl (by omega) hpcell (fun i hi => by
        have := HBD.out (i + 1) (by omega)
        rw [← htl]
        simpa [List.getD_eq_getElem?_getD] using this))
      have hsl : ∀ w, (Instr.sliceAt 53 (.slice (some ⟨gp, 0, none⟩) (k + 1) cp) (some (.int .i64 1)) none none).run Try.prog w = .ok (.slice (some ⟨gp, op, none⟩) k (cp - 1)) w := fun w => by
        have z1 : (1 : Int) ≤ (k : Int) + 1 := by omega
        have z2 : (k : Int) + 1 ≤ (cp : Int) := by omega
        go_simp
      have ho6 := own_later HO.out hbp
      have HO6 := hidden ho6
      have hs6 := hb6.size
      clear hop hop1 hop2 hpcell HBD htl hpl1 HPl HZR
      go_wp2_with fail
      refine HLI.out.mono ?_
      rintro e w7 ⟨vi, rfl, hoi, hbi⟩
      obtain ⟨ai, ci, rfl⟩ := own_slice hoi
      have ho7 := own_later HO6.out hbi
      have hb7 := hb6.trans (hbi.mono hs6)
      have hcv7 : (cksV (c0 :: rs.map ckOf)).length = (k + 1) * 2 := ho7.1
      have x1 : w7.cell? ⟨g, 1, none⟩ = some (.slice c0.a c0.l c0.c) := by
        rw [ho7.cellAt 1 (by omega)]; rfl
      have x2 : w7.frozen? ⟨g, 1, none⟩ = false := ho7.frozenAt 1
      obtain ⟨ho8, hg8⟩ := ho7.stored 1 (.slice ai (4 + 12 * k) ci)
      have hb8 : Below w.heap.size w (w7.setCell ⟨g, 1, none⟩ (.slice ai (4 + 12 * k) ci)) := hb7.setCell hgb _
      have hoi8 := hoi.kept hg8 (by
        have := own_apart hoi ho7 (by decide)
        simpa [Value.ownBlock] using this)
      have hcks8 : (cksV (c0 :: rs.map ckOf)).set 1 (.slice ai (4 + 12 * k) ci) = cksV (⟨RIDX, ai, 4 + 12 * k, ci, idxL rs (plR (rs.map srOf))⟩ :: rs.map ckOf) := by
        rw [HC0.out]; rfl
      rw [hcks8] at ho8
      have hck8 : Cks (w7.setCell ⟨g, 1, none⟩ (.slice ai (4 + 12 * k) ci)) (some ⟨g, 0, none⟩) (k + 1) cv (⟨RIDX, ai, 4 + 12 * k, ci, idxL rs (plR (rs.map srOf))⟩ :: rs.map ckOf) := own_cks ho8 (by simp [hlen]) (fun c hc => by
        rcases List.mem_cons.1 hc with rfl | h
        · refine ⟨(reads_own hoi8).1, ?_⟩
          exact idxL_ok _ _
        · exact hrd _ hb8 c h)
      have hall8 : AllId (⟨RIDX, ai, 4 + 12 * k, ci, idxL rs (plR (rs.map srOf))⟩ :: rs.map ckOf) := fun c hc => by
        rcases List.mem_cons.1 hc with rfl | h
        · exact id_ridx
        · obtain ⟨r, hr, rfl⟩ := List.mem_map.1 h
          exact (HALL.out r hr).2
      have hsz8 : sizes (⟨RIDX, ai, 4 + 12 * k, ci, idxL rs (plR (rs.map srOf))⟩ :: rs.map ckOf) ≤ 1000000 := by
        have : sizes (⟨RIDX, ai, 4 + 12 * k, ci, idxL rs (plR (rs.map srOf))⟩ :: rs.map ckOf) = ckSize ⟨RIDX, ai, 4 + 12 * k, ci, idxL rs (plR (rs.map srOf))⟩ + sizes (rs.map ckOf) := by simp [sizes]
        rw [this]; unfold ckSize; simp only; omega
      have hBu := build_good IFRS (some ⟨g, 0, none⟩) (k + 1) cv _ _ id_ifrs hck8 hall8 (by omega) hsz8
      have hdl8 : ∀ c ∈ (⟨RIDX, ai, 4 + 12 * k, ci, idxL rs (plR (rs.map srOf))⟩ :: rs.map ckOf : List Ck), c.d.length = c.l := fun c hc => (hck8.2.2.2 c hc).1.1
      have hform : formL IFRS (⟨RIDX, ai, 4 + 12 * k, ci, idxL rs (plR (rs.map srOf))⟩ :: rs.map ckOf) = layS (rs.map srOf) := by
        rw [formL_S _ _ hdl8]
        unfold layS layCs
        congr 1
        rw [List.map_cons, List.map_map, List.map_map]
        show (RIDX, idxL rs (plR (rs.map srOf))) :: _ = _
        rw [idxL_S]
        rfl
      have hflen : 12 + sizes (⟨RIDX, ai, 4 + 12 * k, ci, idxL rs (plR (rs.map srOf))⟩ :: rs.map ckOf) = (layS (rs.map srOf)).length := by
        rw [← hform, form_len _ _ rfl (fun c hc => ⟨(hall8 c hc).1, hdl8 c hc⟩)]
      rw [hform, hflen] at hBu
      have HBu := hidden hBu
      have HB8 := hidden hb8
      clear ho8 hg8 hb8 hoi8 hcks8 hck8 hall8 hsz8 hBu hdl8 hform hflen hoi ho7 hrd hcl hck hsz2 HO6 ho6 HLI hcv7
      go_wp2_with fail
      refine HBu.out.mono ?_
      rintro e w9 ⟨v9, rfl, ho9, hb9⟩
      have hbf := HB8.out.trans (hb9.mono HB8.out.size)
      have hof := own_base ho9 HB8.out.size
      clear HBu HB8
      go_wp2
      refine bodyPost_ret (v := .tuple #[v9, .int .i64 0]) (by simp [results, Try.results13, go_sem]) rfl ?_
      exact ⟨hbf, .inr ⟨rfl, v9, rfl, hof⟩⟩
end Go.Proofs.Ytedihackifchcaa
