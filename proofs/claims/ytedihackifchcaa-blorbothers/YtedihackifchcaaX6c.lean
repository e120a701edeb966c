/- Where chunks begin: contracts of iff.Places, blorb.numberAt, blorb.chunkAt and blorb.checkIndex. -/
import Derived.Test.YtedihackifchcaaX6b
import Derived.Test.YtedihackifchcaaJ5j
import Derived.Maps.AppendAt
import Derived.WideShapes
namespace Go.Proofs.Ytedihackifchcaa
open Go.RowKit
set_option maxHeartbeats 1000000
set_option maxRecDepth 100000
set_option linter.unusedVariables false

/-- the room that chunks take -/
def ssz (cs : List Sc) : Nat := (cs.map fun c => 8 + c.2.length + c.2.length % 2).sum
/-- where chunks begin -/
def plS (cs : List Sc) : List Int := (List.range cs.length).map fun i => ((12 + ssz (cs.take i) : Nat) : Int)
theorem sizes_ssz (ks : List Ck) (h : ∀ k ∈ ks, k.d.length = k.l) : sizes ks = ssz (ks.map scOf) := by
  unfold sizes ssz
  rw [List.map_map]
  congr 1
  refine List.map_congr_left fun k hk => ?_
  show ckSize k = 8 + k.d.length + k.d.length % 2
  rw [h k hk]
  rfl
def plK (ks : List Ck) (n : Nat) : List Int := (List.range n).map fun i => ((12 + sizes (ks.take i) : Nat) : Int)
theorem plK_snoc (ks : List Ck) (n : Nat) : plK ks (n + 1) = plK ks n ++ [((12 + sizes (ks.take n) : Nat) : Int)] := by
  unfold plK
  rw [List.range_succ, List.map_append]
  rfl
theorem plK_len (ks : List Ck) (n : Nat) : (plK ks n).length = n := by simp [plK]
theorem plK_plS (ks : List Ck) (h : ∀ k ∈ ks, k.d.length = k.l) : plK ks ks.length = plS (ks.map scOf) := by
  unfold plK plS
  rw [List.length_map]
  refine List.map_congr_left fun i hi => ?_
  rw [← List.map_take, sizes_ssz _ (fun k hk => h k (List.mem_of_mem_take hk))]
theorem info3 : (Try.prog.info? 3).map (fun i => (i.zero, i.size, i.bytes)) = some (some (.int .i64 0), 1, 8) := by kernel_rfl
def intsV (zs : List Int) : List Value := zs.map (Value.int .i64)
theorem one_new_at (w : World) (x : Value) (t : TypeId) (g : Nat) (hg : g = w.heap.size) : ∀ j u, [x][j]? = some u → (w.alloc (.cells #[x] t)).cell? ((⟨g, 0, none⟩ : Addr).add j) = some u := by
  subst hg; exact cell_one_new w x t
def PlRet (w : World) (n : Nat) (zs : List Int) (e : Ending) (w' : World) : Prop := ∃ v, e = .returned v ∧ w'.ownsRow w.heap.size 3 1 v n (intsV zs) ∧ Below w.heap.size w w'
theorem places_any (a : Option Addr) (len cap : Nat) (cs : List Ck) (w : World) (hc : Cks w a len cap cs) (hs : sizes cs ≤ 10000000) (hl : len ≤ 2000) :
    Calls Try.prog 38 #[.slice a len cap] w (PlRet w len (plK cs len)) := by
  obtain ⟨i0, hi, hz0, hz1, hz2⟩ := info_parts info3
  have hlen := hc.1
  have hcap := hc.2.1
  have hle : ∀ k : Nat, sizes (cs.take k) ≤ 10000000 := fun k => Nat.le_trans (sizes_le cs k) hs
  have hck : ∀ k (h : k < cs.length), cs[k].l ≤ 10000000 := fun k h => by
    have h1 := hle (k + 1)
    rw [sizes_snoc cs k h] at h1
    unfold ckSize at h1
    omega
  have HC := hidden hc
  have HLE := hidden hle
  have HCK := hidden hck
  have hli : (len : Int) ≤ 2000 := by omega
  clear hc hle hck
  obtain ⟨w3, hmk, hown, hgrow⟩ := run_make_own (P := Try.prog) w w.heap.size 53 3 i0 (.int .i64 0) 1 Try.underlying53 hi hz0 hz1 .i64 .i64 len (by rw [hz2]; omega) (by unfold maxLen; omega) (Nat.le_refl _)
  have hb3 : Below w.heap.size w w3 := (Below.refl _ _).grown hgrow (Nat.le_refl _) (by intro k hk; cases hk)
  have HO := hidden hown
  clear hown hgrow
  go_enter Try.func38, Try.ntmps38
  go_wp2
  go_loopw [3, 4, 12] (fun v pv i w' => ∃ k : Nat, k ≤ len ∧ i = .int .i64 k ∧ pv = .int .i64 ((12 + sizes (cs.take k) : Nat) : Int) ∧ w'.ownsRow w.heap.size 3 1 v k (intsV (plK cs k)) ∧ Below w.heap.size w w') (fun _ _ i _ => len - (intOf i).toNat)
  case atStart => exact ⟨0, by omega, rfl, rfl, HO.out, hb3⟩
  case round =>
    obtain ⟨k, hk, rfl, rfl, hown, hbl⟩ := hrel
    have HO1 := hidden hown
    have hs1 := hbl.size
    clear hb3 hown HO
    by_cases hlt : k < len
    · have hlt2 : (k : Int) < (len : Int) := by omega
      have hkc : k < cs.length := by omega
      obtain ⟨b, off, rfl, hcell⟩ := HC.out.at (by omega)
      have c0 := cellLater hbl (hcell k hkc).1
      have c1 := cellLater hbl (hcell k hkc).2
      clear hcell
      have hsn := hidden (sizes_snoc cs k hkc)
      have hsp := hidden (plK_snoc cs k)
      have hl1 := HCK.out k hkc
      have hls := HLE.out k
      generalize hck : cs[k] = c at *
      clear hck
      generalize hp : 12 + sizes (cs.take k) = p at *
      have hp2 : (p : Int) ≤ 10000012 := by omega
      have HP := hidden hp
      clear hp hls
      have HX := hidden ((Box.new wr c.id c.a c.l c.c).alloc (.cells #[.int .i64 (p : Int)] 3))
      have HO2 := hidden ((HO1.out.alloc (.cells #[.string c.id, .slice c.a c.l c.c] 56)).alloc (.cells #[.int .i64 (p : Int)] 3))
      have HN := hidden (one_new_at (wr.alloc (.cells #[.string c.id, .slice c.a c.l c.c] 56)) (.int .i64 (p : Int)) 3 (wr.heap.size + 1) (by simp))
      have hb2 := (hbl.alloc hs1 (.cells #[.string c.id, .slice c.a c.l c.c] 56)).alloc (by simp; omega) (.cells #[.int .i64 (p : Int)] 3)
      have HB2 := hidden hb2
      have HGB : Hid (u3.ownBlock ≠ some wr.heap.size) := hidden fun e => by have := (HO1.out.lt wr.heap.size e).2; omega
      clear hb2 HO1
      go_wp2_with (at_builtin; refine wpList_append_own _ rfl (.tmp 16) (.tmp 18) 53 rfl w.heap.size 3 i0 (.int .i64 0) 1 8 Try.underlying53 hi hz0 hz1 hz2 rfl (by decide) _ _ _ rfl HO2.out ⟨wr.heap.size + 1, 0, none⟩ 1 1 [.int .i64 (p : Int)] rfl rfl HN.out (by intro u hu; simp at hu; subst hu; rfl) (by unfold maxLen; omega) (by omega) (by simp; omega) ?_; intro v3 w5 hown3 hgrow3 hiff3; clear hiff3; refine Hid.out ?_)
      replace hgrow3 : ((wr.alloc (.cells #[.string c.id, .slice c.a c.l c.c] 56)).alloc (.cells #[.int .i64 (p : Int)] 3)).grownBy w5 u3.ownBlock := hgrow3
      have hb5 : Below w.heap.size w w5 := HB2.out.grown hgrow3 (by simp; omega) (fun j hj => (HO2.out.lt j hj).1)
      obtain ⟨y0, y1⟩ := (HX.out.grown hgrow3 HGB.out).cells
      have HO3 := hidden hown3
      have hs5 := hb5.size
      clear hown3 hgrow3 HO2 HN HX HB2 c0 c1
      refine hidden ?_
      go_wp2
      go_roundw
      case rel =>
        refine ⟨k + 1, by omega, by go_num, int_eq ?_, ?_, hb5.alloc hs5 _⟩
        · have e1 := hsn.out
          have e2 := HP.out
          rw [e1]; unfold ckSize; omega
        · rw [hsp.out]
          have := HO3.out.alloc (.cells #[.string c.id, .slice c.a c.l c.c] 56)
          unfold intsV at this ⊢
          rw [List.map_append]
          exact this
      case measure => simp [intOf]; omega
    · obtain rfl : k = len := by omega
      go_wp2
      go_ret
      exact ⟨u3, rfl, HO1.out, hbl⟩
theorem bnumberAt_any (g o L cap p : Nat) (zs : List Int) (w : World) (h : Bs w g o L zs) (hb : OkB zs) (hp : p + 4 ≤ L) (hcap : L ≤ cap) (hm : L ≤ 100000000) :
    Calls Try.prog 64 #[.slice (some ⟨g, o, none⟩) L cap, .int .i64 (p : Int)] w fun e w' => e = .returned (.int .u32 (beV zs p 4)) ∧ w' = w := by
  have HB := hidden (be_any g o L cap zs p 4 w (Or.inr (Or.inr rfl)) (by omega) (by omega) (by omega) hcap h.2 hb)
  rw [Int.toNat_natCast] at HB
  clear h
  go_enter Try.func64, Try.ntmps64
  go_wp2_with (go_at_call 60; refine HB.out.mono ?_; rintro e w9 ⟨rfl, hw⟩; obtain rfl := hw.symm)
  go_ret
  exact ⟨rfl, rfl⟩
/-- the number of the chunk that begins at st (0: none, or the first) -/
def ixS (cs : List Sc) (st : Int) : Nat := if (plS cs).contains st then (plS cs).countP (· < st) else 0
theorem ssz_snoc (cs : List Sc) (i : Nat) (h : i < cs.length) : ssz (cs.take (i + 1)) = ssz (cs.take i) + (8 + cs[i].2.length + cs[i].2.length % 2) := by
  unfold ssz
  rw [List.take_succ_eq_append_getElem h, List.map_append, List.sum_append_nat]
  simp only [List.map_cons, List.map_nil, List.sum_cons, List.sum_nil, Nat.add_zero]
theorem ssz_lt (cs : List Sc) (i j : Nat) (hij : i < j) (hj : j ≤ cs.length) : ssz (cs.take i) < ssz (cs.take j) := by
  induction j with
  | zero => omega
  | succ j ih =>
    have h1 := ssz_snoc cs j (by omega)
    by_cases e : i = j
    · subst e; omega
    · have := ih (by omega) (by omega); omega
theorem plS_len (cs : List Sc) : (plS cs).length = cs.length := by simp [plS]
theorem plS_at (cs : List Sc) (i : Nat) (h : i < cs.length) : (plS cs)[i]'(by rw [plS_len]; exact h) = ((12 + ssz (cs.take i) : Nat) : Int) := by simp [plS]
theorem plS_sorted (cs : List Sc) : (plS cs).Pairwise (· < ·) := by
  rw [List.pairwise_iff_getElem]
  intro i j hi hj hij
  rw [plS_len] at hi hj
  rw [plS_at cs i hi, plS_at cs j hj]
  have := ssz_lt cs i j hij (by omega)
  omega
theorem countP_lt : ∀ (l : List Int) (i : Nat) (h : i < l.length), l.Pairwise (· < ·) → l.countP (· < l[i]) = i
  | a :: l, 0, _, hp => by
    have h1 := (List.pairwise_cons.1 hp).1
    simp only [List.getElem_cons_zero]
    rw [List.countP_eq_zero]
    intro x hx
    rcases List.mem_cons.1 hx with rfl | hx
    · simp
    · have := h1 x hx; simp; omega
  | a :: l, i + 1, h, hp => by
    have h1 := (List.pairwise_cons.1 hp).1
    have hi : i < l.length := by simpa using h
    have ih := countP_lt l i hi (List.pairwise_cons.1 hp).2
    simp only [List.getElem_cons_succ]
    rw [List.countP_cons, ih]
    have := h1 l[i] (List.getElem_mem hi)
    simp [this]
/-- what ixS says -/
theorem ixS_at (cs : List Sc) (i : Nat) (h : i < cs.length) : ixS cs ((12 + ssz (cs.take i) : Nat) : Int) = i := by
  unfold ixS
  have hi : i < (plS cs).length := by rw [plS_len]; exact h
  have e := plS_at cs i h
  rw [if_pos (by rw [List.contains_iff_mem, ← e]; exact List.getElem_mem hi), ← e]
  exact countP_lt (plS cs) i hi (plS_sorted cs)
theorem ixS_no (cs : List Sc) (st : Int) (h : ∀ i, i < cs.length → ((12 + ssz (cs.take i) : Nat) : Int) ≠ st) : ixS cs st = 0 := by
  unfold ixS
  rw [if_neg]
  intro hc
  obtain ⟨i, hi, e⟩ := List.getElem_of_mem (List.contains_iff_mem.1 hc)
  have hi2 : i < cs.length := by rw [← plS_len]; exact hi
  rw [plS_at cs i hi2] at e
  exact h i hi2 e
theorem ixS_lt (cs : List Sc) (st : Int) (h : ixS cs st ≠ 0) : ixS cs st < cs.length := by
  by_cases hx : ∃ i, ∃ _ : i < cs.length, ((12 + ssz (cs.take i) : Nat) : Int) = st
  · obtain ⟨i, hi, rfl⟩ := hx
    rw [ixS_at cs i hi]; exact hi
  · exact absurd (ixS_no cs st (fun i hi e => hx ⟨i, hi, e⟩)) h
theorem intsV_at (zs : List Int) (j : Nat) (h : j < zs.length) : (intsV zs)[j]? = some (.int .i64 (zs.getD j 0)) := by
  simp [intsV, h]
theorem chunkAt_any (v : Value) (B : Nat) (cs : List Sc) (st : Int) (w : World) (ho : w.ownsRow B 3 1 v cs.length (intsV (plS cs))) (h0 : 0 < cs.length) (hn : cs.length ≤ 2000) (s0 : 0 ≤ st) (s1 : st ≤ 4294967295) :
    Calls Try.prog 65 #[v, .int .u32 st] w fun e w' => e = .returned (.tuple #[.int .i64 (ixS cs st : Nat), .bool (decide (ixS cs st ≠ 0))]) ∧ Below w.heap.size w w' := by
  have hlen := plS_len cs
  obtain ⟨g, cp, cur, rfl, hb, hg, hnc, hm, hsz, ht⟩ : ∃ g cap cur, v = .slice (some ⟨g, 0, none⟩) cs.length cap ∧ B ≤ g ∧ w.heap[g]? = some (.cells cur 3 (0, 0)) ∧ cs.length ≤ cap ∧ cap ≤ maxLen ∧ cur.size = cap * 1 ∧ cur.toList.take (cs.length * 1) = intsV (plS cs) := by
    rcases ho.2 with ⟨_, h⟩ | h
    · omega
    · exact h
  have HS := hidden (Try.slices_BinarySearch_int g 0 cs.length cp (plS cs) st w (by omega) (by omega) (fun j hj => by
    have := ho.cells (g := g) rfl j _ (intsV_at (plS cs) j hj)
    rw [plain_add] at this
    exact this) (by
      rw [List.take_of_length_le (by omega)]
      exact (plS_sorted cs).imp (fun h => by omega)))
  rw [List.take_of_length_le (by omega)] at HS
  have hIx : ixS cs st = if (plS cs).contains st then (plS cs).countP (· < st) else 0 := rfl
  clear ho hg ht hsz
  rw [hIx]
  clear hIx
  generalize hC : (plS cs).contains st = C at *
  generalize hK : List.countP (fun x => decide (x < st)) (plS cs) = K at *
  clear hC
  have hK2 : K ≤ 2000 := by rw [← hK]; have := List.countP_le_length (p := fun x => decide (x < st)) (l := plS cs); omega
  clear hK
  have hKi : (K : Int) ≤ 2000 := by omega
  cases C with
  | false =>
    go_enter Try.func65, Try.ntmps65
    go_wp2_with (go_at_call 68; refine HS.out.mono ?_; rintro e w9 ⟨rfl, q, hw⟩; obtain rfl := hw)
    go_ret2
    exact ⟨rfl, (Below.refl w.heap.size w) |> fun h => ⟨h.os, h.tape, h.output, h.size, h.block⟩⟩
  | true =>
    by_cases h0' : K = 0
    · subst h0'
      go_enter Try.func65, Try.ntmps65
      go_wp2_with (go_at_call 68; refine HS.out.mono ?_; rintro e w9 ⟨rfl, q, hw⟩; obtain rfl := hw)
      go_ret2
      exact ⟨rfl, (Below.refl w.heap.size w) |> fun h => ⟨h.os, h.tape, h.output, h.size, h.block⟩⟩
    · have k1 : ((K : Int) == 0) = false := by simp; omega
      have k2 : decide (K ≠ 0) = true := by simp [h0']
      simp only [if_true, k2]
      clear h0' k2
      go_enter Try.func65, Try.ntmps65
      go_wp2_with (go_at_call 68; refine HS.out.mono ?_; rintro e w9 ⟨rfl, q, hw⟩; obtain rfl := hw)
      go_ret2
      exact ⟨rfl, (Below.refl w.heap.size w) |> fun h => ⟨h.os, h.tape, h.output, h.size, h.block⟩⟩
/-- a slice of chunks whose data lie at plain places -/
def Gks (w : World) (a : Option Addr) (n c : Nat) (ks : List Ck) : Prop := Cks w a n c ks ∧ ∀ k ∈ ks, 0 < k.l → ∃ g, k.a = some ⟨g, 0, none⟩ ∧ Bs w g 0 k.l k.d ∧ k.l ≤ k.c
theorem Gks.later {w w' : World} {a : Option Addr} {n c : Nat} {ks : List Ck} (h : Gks w a n c ks) (hb : Below w.heap.size w w') : Gks w' a n c ks :=
  ⟨h.1.later hb, fun k hk h0 => by obtain ⟨g, e, h1, h2⟩ := h.2 k hk h0; exact ⟨g, e, h1.later hb, h2⟩⟩
theorem got_gks {B n : Nat} {w : World} {ao : Option Addr} {cv : Nat} {ks : List Ck} (h : Got B w (.slice ao n cv) ks) (hn : ks.length = n) (hok : ∀ k ∈ ks, OkB k.d) : Gks w ao n cv ks := by
  refine ⟨got_cks h hn hok, fun k hk h0 => ?_⟩
  obtain ⟨g, cap, e, hc, -⟩ := owned_shape (h.2 k hk) h0
  have ho := h.2 k hk
  simp only [Value.slice.injEq] at e
  obtain ⟨e1, -, e2⟩ := e
  rw [e1] at ho
  refine ⟨g, e1, ⟨?_, fun i hi => owned_cells ho i hi⟩, by rw [e2]; exact hc⟩
  have hl : (bytesV k.d).length = k.l * 1 := ho.1
  simpa [bytesV] using hl
theorem strlit_f {a : ByteArray} (l : List UInt8) (h : a ≠ ⟨l.toArray⟩) : (a.toList == l) = false := by
  rw [ByteArray.toList_eq]
  simp only [beq_eq_false_iff_ne, ne_eq]
  intro e
  exact h (WideShapes.bytes_inj (by simpa using e))
theorem str_f {a b : ByteArray} (h : a ≠ b) : (a.toList == b.toList) = false := by
  rw [ByteArray.toList_eq, ByteArray.toList_eq]
  simp only [beq_eq_false_iff_ne, ne_eq]
  intro e
  exact h (WideShapes.bytes_inj e)
/-- the first fault of the index as a whole -/
def idxR (cs : List Sc) : Int := match cs with
  | [] => 61
  | c :: _ => if c.1 ≠ ⟨#[82, 73, 100, 120]⟩ then 61 else if c.2.length < 4 then 61 else if (c.2.length : Int) ≠ 4 + 12 * beV c.2 0 4 then 61 else if 512 < beV c.2 0 4 then 4 else 0
theorem checkIndex_none (a : Option Addr) (cap : Nat) (w : World) :
    Calls Try.prog 57 #[.slice a 0 cap] w fun e w' => e = .returned (.int .i64 61) ∧ w' = w := by
  go_enter Try.func57, Try.ntmps57
  go_wp2
  go_ret
  exact ⟨rfl, rfl⟩
theorem checkIndex_some (a : Option Addr) (n cap : Nat) (k : Ck) (ks : List Ck) (w : World) (h : Gks w a n cap (k :: ks)) (hd : k.d.length = k.l) (hok : OkB k.d) (hl : k.l ≤ 10000000) :
    Calls Try.prog 57 #[.slice a n cap] w fun e w' => e = .returned (.int .i64 (idxR ((k :: ks).map scOf))) ∧ w' = w := by
  have hn := h.1.1
  simp only [List.length_cons] at hn
  obtain ⟨b, off, rfl, hcell⟩ := h.1.at (by omega)
  have c0 := (hcell 0 (by simp)).1
  have c1 := (hcell 0 (by simp)).2
  simp only [List.getElem_cons_zero, Nat.zero_mul, Nat.add_zero] at c0 c1
  have hcap := h.1.2.1
  have hn1 : ((n : Int) == 0) = false := by simp; omega
  have hn0 : (0 : Int) < (n : Int) := by omega
  obtain ⟨R, hR⟩ : ∃ R, R = idxR ((k :: ks).map scOf) := ⟨_, rfl⟩
  rw [← hR]
  have hR2 : R = if k.id ≠ ⟨#[82, 73, 100, 120]⟩ then 61 else if k.l < 4 then 61 else if (k.l : Int) ≠ 4 + 12 * beV k.d 0 4 then 61 else if 512 < beV k.d 0 4 then 4 else 0 := by
    rw [hR]; unfold idxR scOf; simp only [List.map_cons, hd]
  have HR := hidden hR2
  have HG := hidden (h.2 k List.mem_cons_self)
  have hv := beV_bd k.d 0 hok
  clear hcell h hR hR2
  obtain ⟨kid, ka, kl, kc, kd⟩ := k
  simp only at *
  have hli : (kl : Int) ≤ 10000000 := by omega
  by_cases i1 : kid ≠ ⟨#[82, 73, 100, 120]⟩
  · have e : R = 61 := by rw [HR.out, if_pos i1]
    subst e
    have i2 := strlit_f [82, 73, 100, 120] i1
    clear HR HG i1
    go_enter Try.func57, Try.ntmps57
    go_wp2
    go_ret
    exact ⟨rfl, rfl⟩
  rw [if_neg i1] at HR
  have i2 : kid = ⟨#[82, 73, 100, 120]⟩ := by simpa using i1
  subst i2
  clear i1
  by_cases j1 : kl < 4
  · have e : R = 61 := by rw [HR.out, if_pos j1]
    subst e
    have j2 : (kl : Int) < 4 := by omega
    clear HR HG
    go_enter Try.func57, Try.ntmps57
    go_wp2
    go_ret
    exact ⟨rfl, rfl⟩
  rw [if_neg j1] at HR
  have j2 : (4 : Int) ≤ (kl : Int) := by omega
  obtain ⟨g, rfl, hBs, hkc⟩ := HG.out (by omega)
  have HN := hidden (bnumberAt_any g 0 kl kc 0 kd w hBs hok (by omega) hkc (by omega))
  clear hBs HG
  generalize beV kd 0 4 = V at *
  have k0 : IntKind.u64.wrap V = V := by rw [u64_of _ (by omega) (by omega)]
  by_cases q1 : (kl : Int) ≠ 4 + 12 * V
  · have e : R = 61 := by rw [HR.out, if_pos q1]
    subst e
    have q2 : ((kl : Int) != 4 + 12 * V) = true := by simpa using q1
    clear HR q1
    go_enter Try.func57, Try.ntmps57
    go_wp2_with (go_at_call 64; refine HN.out.mono ?_; rintro e w9 ⟨rfl, hw⟩; obtain rfl := hw.symm)
    go_ret
    exact ⟨rfl, rfl⟩
  rw [if_neg q1] at HR
  have q2 : ((kl : Int) != 4 + 12 * V) = false := by simpa using q1
  by_cases r1 : 512 < V
  · have e : R = 4 := by rw [HR.out, if_pos r1]
    subst e
    clear HR q1
    go_enter Try.func57, Try.ntmps57
    go_wp2_with (go_at_call 64; refine HN.out.mono ?_; rintro e w9 ⟨rfl, hw⟩; obtain rfl := hw.symm)
    go_ret
    exact ⟨rfl, rfl⟩
  · have e : R = 0 := by rw [HR.out, if_neg r1]
    subst e
    clear HR q1
    go_enter Try.func57, Try.ntmps57
    go_wp2_with (go_at_call 64; refine HN.out.mono ?_; rintro e w9 ⟨rfl, hw⟩; obtain rfl := hw.symm)
    go_ret
    exact ⟨rfl, rfl⟩
end Go.Proofs.Ytedihackifchcaa
