/- Contract of blorb.Read for any bytes. -/
import Derived.Test.YtedihackifchcaaX6f
namespace Go.Proofs.Ytedihackifchcaa
open Go.RowKit Go.Maps
set_option maxHeartbeats 1000000
set_option maxRecDepth 100000
set_option linter.unusedVariables false

/-- a resource as it lies in memory -/
structure Rk where
  u : ByteArray
  x : Int
  id : ByteArray
  a : Option Addr
  l : Nat
  c : Nat
  d : List Int
/-- a resource as the page speaks of it -/
abbrev Sr := ByteArray × Int × ByteArray × List Int
def srOf (r : Rk) : Sr := (r.u, r.x, r.id, r.d)
def rkV (r : Rk) : List Value := [.string r.u, .int .u32 r.x, .string r.id, .slice r.a r.l r.c]
def rksV (rs : List Rk) : List Value := rs.flatMap rkV
theorem rksV_snoc (rs : List Rk) (r : Rk) : rksV (rs ++ [r]) = rksV rs ++ rkV r := by simp [rksV]
theorem infoRs : (Try.prog.info? 49).map (fun i => (i.zero, i.size, i.bytes)) = some (some (.agg #[.string ⟨#[]⟩, .int .u32 0, .string ⟨#[]⟩, .slice none 0 0]), 4, 64) := by kernel_rfl
/-- resources in memory of the call's own -/
def GotR (B : Nat) (w : World) (v : Value) (rs : List Rk) : Prop := w.ownsRow B 49 4 v rs.length (rksV rs) ∧ ∀ r ∈ rs, w.ownsRow B 5 1 (.slice r.a r.l r.c) r.l (bytesV r.d)
theorem GotR.below {B : Nat} {w w' : World} {v : Value} {rs : List Rk} (h : GotR B w v rs) (hb : Below w.heap.size w w') : GotR B w' v rs :=
  ⟨own_later h.1 hb, fun r hr => own_later (h.2 r hr) hb⟩
theorem gotR_snoc {B : Nat} {w w3 : World} {v v3 : Value} {rs : List Rk} {r : Rk} (o : Obj) (h : GotR B w v rs) (hd : w.ownsRow B 5 1 (.slice r.a r.l r.c) r.l (bytesV r.d)) (h3 : w3.ownsRow B 49 4 v3 (rs.length + 1) (rksV rs ++ rkV r)) (hg : (w.alloc o).grownBy w3 v.ownBlock) : GotR B w3 v3 (rs ++ [r]) := by
  refine ⟨?_, fun k hk => ?_⟩
  · rw [List.length_append, rksV_snoc]; exact h3
  · have hk2 : w.ownsRow B 5 1 (.slice k.a k.l k.c) k.l (bytesV k.d) := by
      rcases List.mem_append.1 hk with h' | h'
      · exact h.2 k h'
      · rw [List.mem_singleton.1 h']; exact hd
    exact (hk2.alloc o).kept hg (own_apart hk2 h.1 (by decide))
theorem cell_four_new (w : World) (x y z u : Value) (t : TypeId) : ∀ j v, [x, y, z, u][j]? = some v → (w.alloc (.cells #[x, y, z, u] t)).cell? ((⟨w.heap.size, 0, none⟩ : Addr).add j) = some v := by
  intro j v hj
  match j, hj with
  | 0, hj => simp at hj; subst hj; simp [Addr.add]
  | 1, hj => simp at hj; subst hj; simp [Addr.add]
  | 2, hj => simp at hj; subst hj; simp [Addr.add]
  | 3, hj => simp at hj; subst hj; simp [Addr.add]
  | (j + 4), hj => simp at hj
/-- the resource that an entry tells -/
def resS (cs : List Sc) (e : En) : Sr := (e.1, e.2.1, (cs.getD e.2.2 (⟨#[]⟩, [])).1, (cs.getD e.2.2 (⟨#[]⟩, [])).2)
/-- any bytes as a container: its resources, or the first fault and its place -/
def readR (zs : List Int) : List Sr × Int × Int := if (openR zs).2.1 ≠ 0 then ([], (openR zs).2.1, (openR zs).2.2) else ((openR zs).1.map (resS (parseR zs).1), 0, zs.length)
/-- what Read answers -/
def RRet (w : World) (R : List Sr × Int × Int) (e : Ending) (w' : World) : Prop :=
  Below w.heap.size w w' ∧ ((R.2.1 ≠ 0 ∧ e = .returned (.tuple #[.slice none 0 0, .int .i64 R.2.1, .int .i64 R.2.2])) ∨
    (R.2.1 = 0 ∧ ∃ ao cv rs, e = .returned (.tuple #[.slice ao rs.length cv, .int .i64 0, .int .i64 R.2.2]) ∧ GotR w.heap.size w' (.slice ao rs.length cv) rs ∧ rs.map srOf = R.1 ∧ (∀ r ∈ rs, OkB r.d) ∧ rs.length ≤ 512))
theorem clone_any (a : Option Addr) (l c : Nat) (d : List Int) (B : Nat) (w : World) (h : w.ownsRow B 5 1 (.slice a l c) l (bytesV d)) (hl : l ≤ 10000000) :
    Calls Try.prog 42 #[.slice a l c] w fun e w' => ∃ a2 c2, e = .returned (.slice a2 l c2) ∧ w'.ownsRow w.heap.size 5 1 (.slice a2 l c2) l (bytesV d) ∧ Below w.heap.size w w' := by
  have hdl : d.length = l := by have := h.1; simpa [bytesV] using this
  rcases h.2 with ⟨e, h0⟩ | ⟨g, cap, cur, e, hb, hg, hn, hm, hs, ht⟩
  · simp only [Value.slice.injEq] at e
    obtain ⟨rfl, rfl, rfl⟩ := e
    refine (Try.bytes_Clone_nil 0 0 w).mono ?_
    rintro e w' ⟨rfl, rfl⟩
    obtain rfl := List.eq_nil_of_length_eq_zero hdl
    exact ⟨none, 0, rfl, World.ownsRow_nil _ _ _ _, Below.refl _ _⟩
  · have e' := e
    simp only [Value.slice.injEq] at e'
    obtain ⟨rfl, -, rfl⟩ := e'
    refine (Try.bytes_Clone_at ⟨g, 0, none⟩ l c d w hdl (by omega) (fun i hi => ?_)).mono ?_
    · exact h.cells (g := g) rfl i _ (bytesV_at d i (by omega))
    · rintro e w' ⟨v', rfl, ho, -, hb'⟩
      obtain ⟨ao, cv, rfl⟩ := own_slice ho
      exact ⟨ao, cv, rfl, ho, hb'⟩
theorem nmsV_at : ∀ (acc : List En) (i : Nat) (h : i < acc.length), (nmsV acc)[i * 2]? = some (.string acc[i].1) ∧ (nmsV acc)[i * 2 + 1]? = some (.int .u32 acc[i].2.1)
  | k :: ks, 0, _ => ⟨rfl, rfl⟩
  | k :: ks, i + 1, h => by
    have e : nmsV (k :: ks) = .string k.1 :: .int .u32 k.2.1 :: nmsV ks := rfl
    have := nmsV_at ks i (by simpa using h)
    rw [e, show (i + 1) * 2 = i * 2 + 1 + 1 by omega]
    simpa using this
theorem names_at {w : World} {B : Nat} {an : Option Addr} {cn : Nat} {acc : List En} (h : w.ownsRow B 88 2 (.slice an acc.length cn) acc.length (nmsV acc)) (h0 : 0 < acc.length) : ∃ g, an = some ⟨g, 0, none⟩ ∧ acc.length ≤ cn ∧ ∀ i (hi : i < acc.length), w.cell? ⟨g, i * 2, none⟩ = some (.string acc[i].1) ∧ w.cell? ⟨g, i * 2 + 1, none⟩ = some (.int .u32 acc[i].2.1) := by
  rcases h.2 with ⟨e, h1⟩ | ⟨g, cap, cur, e, hb, hg, hnc, hm, hs, ht⟩
  · omega
  · have e' := e
    simp only [Value.slice.injEq] at e'
    obtain ⟨rfl, -, rfl⟩ := e'
    refine ⟨g, rfl, hnc, fun i hi => ?_⟩
    have hc := nmsV_at acc i hi
    have e1 := h.cells (g := g) rfl (i * 2) _ hc.1
    have e2 := h.cells (g := g) rfl (i * 2 + 1) _ hc.2
    rw [plain_add, Nat.zero_add] at e1 e2
    exact ⟨e1, e2⟩
theorem read_any (g o L cap : Nat) (zs : List Int) (w : World) (h : Bs w g o L zs) (hok : OkB zs) (hm : L ≤ 1000012) (hcap : L ≤ cap) :
    Calls Try.prog 28 #[.slice (some ⟨g, o, none⟩) L cap] w (RRet w (readR zs)) := by
  obtain ⟨i0, hi, hz0, hz1, hz2⟩ := info_parts infoRs
  have hlen := h.1
  have HO := hidden (open_any g o L cap zs w h hok hm hcap)
  obtain ⟨R, hR⟩ : ∃ R, R = readR zs := ⟨_, rfl⟩
  rw [← hR]
  unfold readR at hR
  rw [hlen] at hR
  have HR := hidden hR
  clear h hR
  generalize openR zs = Q at *
  generalize (parseR zs).1 = cs at *
  have hLi : (L : Int) ≤ 1000012 := by omega
  go_enter Try.func28, Try.ntmps28
  go_wp2_with fail
  refine HO.out.mono ?_
  rintro e w1 ⟨hb1, ⟨hne, rfl⟩ | ⟨hz, ao, cv, ks, an, cn, bm, D, rfl, hgk, hks, hall, hk1024, hon, hom, hmi, heo, hlt, h512, hown⟩⟩
  · rw [if_pos hne] at HR
    obtain rfl := HR.out
    have hne2 : (Q.2.1 != 0) = true := by simpa using hne
    generalize Q.2.1 = E at *
    generalize Q.2.2 = A at *
    clear HR HO
    go_wp2
    refine bodyPost_ret (v := .tuple #[.slice none 0 0, .int .i64 E, .int .i64 A]) (by simp [results, Try.results28, go_sem]) rfl ?_
    exact ⟨hb1.alloc hb1.size _, .inl ⟨hne, rfl⟩⟩
  rw [if_neg (not_not_intro hz)] at HR
  obtain rfl := HR.out
  clear HR HO
  generalize hA : Q.1 = acc at *
  clear hA hz
  have hs1 := hb1.size
  have hb2 := hb1.alloc hs1 (.cells #[.slice ao ks.length cv, .slice an acc.length cn, .map (some bm)] 84)
  have hB := Box3.new w1 (.slice ao ks.length cv) (.slice an acc.length cn) (.map (some bm)) 84
  have hst : Below w1.heap.size w1 (w1.alloc (.cells #[.slice ao ks.length cv, .slice an acc.length cn, .map (some bm)] 84)) := (Below.refl _ _).alloc (Nat.le_refl _) _
  have HGK := hidden (hgk.later hst)
  have HON := hidden (own_later hon hst)
  have HOM := hidden (hom.alloc (.cells #[.slice ao ks.length cv, .slice an acc.length cn, .map (some bm)] 84))
  have HOW : Hid (∀ k ∈ ks, (w1.alloc (.cells #[.slice ao ks.length cv, .slice an acc.length cn, .map (some bm)] 84)).ownsRow w.heap.size 5 1 (.slice k.a k.l k.c) k.l (bytesV k.d)) := hidden fun k hk => own_later (hown k hk) hst
  have HMI := hidden hmi
  have HEO := hidden heo
  have HLT := hidden hlt
  have HALL := hidden hall
  have HKS := hidden hks
  have HB := hidden hB
  have HB2 := hidden hb2
  have hs2 : w.heap.size ≤ (w1.alloc (.cells #[.slice ao ks.length cv, .slice an acc.length cn, .map (some bm)] 84)).heap.size := hb2.size
  have hbl2 := hB.lt
  obtain ⟨t0, t1, t2, -⟩ := hB.cells
  clear hgk hon hom hown hmi heo hlt hall hks hB hb1 hst hb2
  generalize hw2 : w1.alloc (.cells #[.slice ao ks.length cv, .slice an acc.length cn, .map (some bm)] 84) = w2 at *
  generalize hbc : w1.heap.size = bc at *
  have hli : (acc.length : Int) ≤ 512 := by omega
  obtain ⟨w3, hmk, hmo, hgrow⟩ := run_make_own (P := Try.prog) w2 w2.heap.size 32 49 i0 (.agg #[.string ⟨#[]⟩, .int .u32 0, .string ⟨#[]⟩, .slice none 0 0]) 4 Try.underlying32 hi hz0 hz1 .i64 .i64 acc.length (by rw [hz2]; omega) (by unfold maxLen; omega) (Nat.le_refl _)
  have hb3 : Below w2.heap.size w2 w3 := (Below.refl _ _).grown hgrow (Nat.le_refl _) (by intro k hk; cases hk)
  have HMO := hidden hmo
  have s0 := cellLater hb3 t0
  have s1 := cellLater hb3 t1
  have s2 := cellLater hb3 t2
  clear hmo hgrow
  generalize hkn : ks.length = kn at *
  clear hs1
  go_wp2
  go_loopw [2, 27] (fun v i w' => ∃ (k : Nat) (rs : List Rk) (ar : Option Addr) (cr : Nat), k ≤ acc.length ∧ i = .int .i64 k ∧ rs.length = k ∧ v = .slice ar k cr ∧ GotR w2.heap.size w' v rs ∧ Hid (rs.map srOf = (acc.take k).map (resS cs)) ∧ (∀ r ∈ rs, OkB r.d) ∧ Below w2.heap.size w2 w') (fun _ i _ => acc.length - (intOf i).toNat)
  case atStart => exact ⟨0, [], _, _, by omega, rfl, rfl, rfl, ⟨HMO.out, fun r hr => by cases hr⟩, hidden rfl, (fun r hr => by cases hr), hb3⟩
  case round =>
    obtain ⟨k, rs, ar, cr, hk, rfl, hrl, rfl, hgot, hmap, hrok, hbl⟩ := hrel
    have HG := hidden hgot
    have HRO := hidden hrok
    have HRL := hidden hrl
    have hs3 := hbl.size
    clear hgot hrok HMO hb3 hmk s0 s1 s2 hrl
    by_cases hlt : k < acc.length
    · have hlt2 : (k : Int) < (acc.length : Int) := by omega
      obtain ⟨gn, hgn, hcn, hcell⟩ := names_at HON.out (by omega)
      subst hgn
      have n0 := cellLater hbl (hcell k hlt).1
      have n1 := cellLater hbl (hcell k hlt).2
      have s0 := cellLater hbl t0
      have s1 := cellLater hbl t1
      have s2 := cellLater hbl t2
      have hmem : acc[k] ∈ acc := List.getElem_mem hlt
      obtain ⟨hc0, hcn2⟩ := HLT.out _ hmem
      have hkey := HEO.out _ hmem
      obtain ⟨b, off, hao, hck⟩ := HGK.out.1.at (by omega)
      subst hao
      have hci : acc[k].2.2 < ks.length := by omega
      have m0 := cellLater hbl (hck _ hci).1
      have m1 := cellLater hbl (hck _ hci).2
      have hcap2 := HGK.out.1.2.1
      have hkmem : ks[acc[k].2.2] ∈ ks := List.getElem_mem hci
      have hko := HALL.out _ hkmem
      have HRES : Hid (resS cs acc[k] = (acc[k].1, acc[k].2.1, ks[acc[k].2.2].id, ks[acc[k].2.2].d)) := hidden (by
        unfold resS
        rw [← HKS.out]
        simp [List.getD_eq_getElem?_getD, hci, scOf])
      have HSN : Hid ((acc.take (k + 1)).map (resS cs) = (acc.take k).map (resS cs) ++ [resS cs acc[k]]) := hidden (by rw [List.take_succ_eq_append_getElem hlt, List.map_append]; rfl)
      have HCL : Hid (∀ wx, Below w2.heap.size w2 wx → Calls Try.prog 42 #[.slice ks[acc[k].2.2].a ks[acc[k].2.2].l ks[acc[k].2.2].c] wx fun e w' => ∃ a2 c2, e = .returned (.slice a2 ks[acc[k].2.2].l c2) ∧ w'.ownsRow wx.heap.size 5 1 (.slice a2 ks[acc[k].2.2].l c2) ks[acc[k].2.2].l (bytesV ks[acc[k].2.2].d) ∧ Below wx.heap.size wx w') := hidden fun wx hb => clone_any _ _ _ _ w.heap.size wx (own_later (HOW.out _ hkmem) hb) (by omega)
      have HLK : Hid (∀ wx, Below w2.heap.size w2 wx → (Instr.lookup 82 (.map (some bm)) (.agg #[.string acc[k].1, .int .u32 acc[k].2.1]) false).run Try.prog wx = .ok (.int .i64 (acc[k].2.2 : Nat)) wx) := hidden fun wx hb => by
        obtain ⟨c, hrun, hat, hwc⟩ := (HOM.out.kept (below_grown hb) (by simp)).lookup_int nameLaw Try.underlying82 Try.underlying3 (zero3 _) (keyOf_name _ _ hkey)
        rw [HMI.out.2.2 _ hmem] at hat
        simp at hat
        rw [hrun, ← hat]
      have hwf := HALL.out _ hkmem
      clear hcell hck hkmem hmem
      generalize ks[acc[k].2.2] = c at *
      generalize hak : acc[k] = a at *
      obtain ⟨U, X, ix⟩ := a
      simp only at *
      clear hak
      have hix : (ix : Int) < (kn : Int) := by omega
      have hix0 : (0 : Int) ≤ (ix : Int) := by omega
      have hkn2 : (kn : Int) ≤ 1024 := by omega
      obtain ⟨cid, ca, cl, cc, cd⟩ := c
      simp only at *
      have hb4 := hbl.alloc hs3 (.cells #[.string U, .int .u32 X] 88)
      have hl1 := HLK.out _ (hb4.drew)
      have hl2 := HLK.out _ ((hb4.alloc hb4.size (.cells #[.string ⟨#[]⟩, .slice none 0 0] 56)).drew)
      have hNB := Box2.new wr (.string U) (.int .u32 X) 88
      obtain ⟨nb0, nb1⟩ := hNB.cells
      have HNB := hidden hNB
      have hst4 : Below wr.heap.size wr (wr.alloc (.cells #[.string U, .int .u32 X] 88)) := (Below.refl _ _).alloc (Nat.le_refl _) _
      have v0 := cellLater hst4 s0
      have v2 := cellLater hst4 s2
      have p0 := cellLater hst4 m0
      have p1 := cellLater hst4 m1
      have HG4 := hidden (HG.out.below hst4)
      have HB4 := hidden hb4
      have hs4 := hb4.size
      go_upto_region 8 with fail
      clear hNB hst4 s0 s1 s2 m0 m1 n0 n1 HG
      generalize hw4 : wr.alloc (.cells #[.string U, .int .u32 X] 88) = w4 at *
      generalize hnb : wr.heap.size = nb at *
      clear hw4 hnb
      have hz4 : Below w4.heap.size w4 (w4.alloc (.cells #[.string ⟨#[]⟩, .slice none 0 0] 56)) := (Below.refl _ _).alloc (Nat.le_refl _) _
      have v0z := cellLater hz4 v0
      have v2z := cellLater hz4 v2
      have p0z := cellLater hz4 p0
      have p1z := cellLater hz4 p1
      have nb0z := cellLater hz4 nb0
      have nb1z := cellLater hz4 nb1
      clear hz4
      go_cut [8] from 29 to 53 (fun cp wx => ∃ (gb : Nat), cp = .pointer (some ⟨gb, 0, none⟩) ∧ w4.heap.size ≤ gb ∧ Box2 wx gb (.string cid) (.slice ca cl cc) 56 ∧ Below w4.heap.size w4 wx)
      case first =>
        go_region
        all_goals (try go_wp2_with fail)
        all_goals go_meet
        all_goals exact ⟨w4.heap.size, rfl, Nat.le_refl _, Box2.new _ _ _ _, ((Below.refl _ _).alloc (Nat.le_refl _) _).drew⟩
      case rest =>
        obtain ⟨gb, rfl, hgb, hbox, hb5⟩ := hcut
        have hb6 := HB4.out.trans (hb5.mono hs4)
        obtain ⟨z0, z1⟩ := hbox.cells
        obtain ⟨y0, y1⟩ := (HNB.out.later hb5).cells
        have HNB5 := hidden (HNB.out.later hb5)
        have HBX := hidden hbox
        have HG5 := hidden (HG4.out.below hb5)
        have HCL2 := hidden (HCL.out wc hb6)
        have hs6 := hb6.size
        clear hbox hb5 HCL HLK hl1 hl2 HG4 v0 v2 p0 p1 nb0 nb1 v0z v2z p0z p1z nb0z nb1z
        go_wp2_with fail
        refine HCL2.out.mono ?_
        rintro e w7 ⟨a2, c2, rfl, ho7, hb7⟩
        have hb8 := hb6.trans (hb7.mono hs6)
        have hs8 := hb8.size
        obtain ⟨z0', z1'⟩ := (HBX.out.later hb7).cells
        obtain ⟨y0', y1'⟩ := (HNB5.out.later hb7).cells
        have hG7 := HG5.out.below hb7
        have HO7 := hidden (hG7.1.alloc (.cells #[.string U, .int .u32 X, .string cid, .slice a2 cl c2] 49))
        have HN7 := hidden (cell_four_new w7 (.string U) (.int .u32 X) (.string cid) (.slice a2 cl c2) 49)
        have HG7 := hidden hG7
        have HD7 := hidden (own_base ho7 hs6)
        rw [HRL.out] at HO7
        clear hG7 ho7 HG5 HCL2 z0 z1 y0 y1
        go_wp2_with (at_builtin; refine wpList_append_own _ rfl (.tmp 42) (.tmp 51) 32 rfl w2.heap.size 49 i0 (.agg #[.string ⟨#[]⟩, .int .u32 0, .string ⟨#[]⟩, .slice none 0 0]) 4 64 Try.underlying32 hi hz0 hz1 hz2 rfl (by decide) _ _ _ rfl HO7.out ⟨w7.heap.size, 0, none⟩ 1 1 [.string U, .int .u32 X, .string cid, .slice a2 cl c2] rfl rfl HN7.out (by intro u hu; simp at hu; rcases hu with rfl | rfl | rfl | rfl <;> rfl) (by unfold maxLen; omega) (by omega) (by simp; omega) ?_; intro v3 w9 hown3 hgrow3 hiff3; clear hiff3; refine Hid.out ?_)
        replace hgrow3 : (w7.alloc (.cells #[.string U, .int .u32 X, .string cid, .slice a2 cl c2] 49)).grownBy w9 (Value.slice ar k cr).ownBlock := hgrow3
        have hb9 : Below w2.heap.size w2 w9 := (hb8.alloc hs8 _).grown hgrow3 (by simp; omega) (fun j hj => (HO7.out.lt j hj).1)
        obtain ⟨ar3, cr3, rfl⟩ := own_slice hown3
        have hrl := HRL.out
        have HG9 := hidden (gotR_snoc (r := ⟨U, X, cid, a2, cl, c2, cd⟩) _ HG7.out HD7.out (by rw [hrl]; exact hown3) hgrow3)
        clear hown3 hgrow3 HO7 HN7 HG7 HD7 hrl
        refine hidden ?_
        go_wp2
        go_roundw
        case rel =>
          refine ⟨k + 1, rs ++ [⟨U, X, cid, a2, cl, c2, cd⟩], ar3, cr3, by omega, by go_num, by rw [List.length_append, HRL.out]; rfl, rfl, HG9.out, hidden ?_, ?_, hb9⟩
          · rw [HSN.out, HRES.out, List.map_append, hmap.out]; rfl
          · intro r hr
            rcases List.mem_append.1 hr with h' | h'
            · exact HRO.out r h'
            · rw [List.mem_singleton.1 h']; exact hko.2.1
        case measure => simp [intOf]; omega
    · obtain rfl : k = acc.length := by omega
      have hse : acc.take acc.length = acc := List.take_of_length_le (Nat.le_refl _)
      rw [hse] at hmap
      clear hse
      go_wp2
      refine bodyPost_ret (v := .tuple #[.slice ar acc.length cr, .int .i64 0, .int .i64 L]) (by simp [results, Try.results28, go_sem]) rfl ?_
      have hrl := HRL.out
      refine ⟨HB2.out.trans (hbl.mono hs2), .inr ⟨rfl, ar, cr, rs, by rw [hrl], ?_, hmap.out, HRO.out, by omega⟩⟩
      rw [hrl]
      exact ⟨own_base HG.out.1 hs2, fun r hr => own_base (HG.out.2 r hr) hs2⟩
end Go.Proofs.Ytedihackifchcaa
