/- Contract of package text's bitRow.add. -/
import Derived.Test.YtbifolpahmeaeaaB12c
import Derived.Deep.Cut
import Derived.Deep.CutRange
namespace Go.Proofs.Ytbifolpahmeaeaa
open Go.RowKit
set_option maxHeartbeats 1000000
set_option maxRecDepth 100000
set_option linter.unusedVariables false

/-- a row of bits as it lies: its bytes, which bit of a byte the next one is -/
structure BRow (B : Nat) (w : World) (R : Nat) (v : Value) (zs : List Int) (nx : Nat) : Prop where
  box : w.heap[R]? = some (.cells #[v, .int .u64 nx] 62 (0, 0))
  row : w.ownsRow B 5 1 v zs.length (bytesV zs)
  nx8 : nx < 8
  last : nx ≠ 0 → ∃ ys z, zs = ys ++ [z] ∧ 0 ≤ z ∧ z < 2 ^ nx
  base : B ≤ R
/-- a bit more -/
def stepB (zs : List Int) (nx bit : Nat) : List Int := if nx = 0 then zs ++ [(bit : Int)] else zs.dropLast ++ [zs.getLastD 0 + (bit : Int) * 2 ^ nx]
theorem or_u8 (a b : Nat) (ha : a < 256) (hb : b < 256) : Go.bits .or .u8 (a : Int) (b : Int) = ((a ||| b : Nat) : Int) := by
  have hx : a ||| b < 2 ^ 8 := Nat.or_lt_two_pow (by omega) (by omega)
  have h1 : (BitVec.ofInt 8 (a : Int)).toNat = a := by
    rw [BitVec.ofInt_natCast, BitVec.toNat_ofNat]; exact Nat.mod_eq_of_lt (by omega)
  have h2 : (BitVec.ofInt 8 (b : Int)).toNat = b := by
    rw [BitVec.ofInt_natCast, BitVec.toNat_ofNat]; exact Nat.mod_eq_of_lt (by omega)
  show IntKind.u8.wrap ((BitVec.ofInt 8 (a : Int) ||| BitVec.ofInt 8 (b : Int)).toNat : Int) = _
  rw [BitVec.toNat_or, h1, h2, IntKind.wrap_u8]
  omega
theorem or_bit (z bit nx : Nat) (hz : z < 2 ^ nx) (hb : bit ≤ 1) (hn : nx < 8) : z ||| (bit * 2 ^ nx) = z + bit * 2 ^ nx := by
  rcases (show bit = 0 ∨ bit = 1 by omega) with rfl | rfl
  · simp
  · rw [Nat.one_mul, Nat.or_comm]
    have := Nat.two_pow_add_eq_or_of_lt hz 1
    rw [Nat.mul_one] at this
    rw [← this]; omega
theorem own8_set {B : Nat} {w : World} {g m c : Nat} {zs : List Int} (h : w.ownsRow B 5 1 (.slice (some ⟨g, 0, none⟩) m c) m (bytesV zs)) (l : Nat) (hl : l < m) (V : Int) : (w.setCell ⟨g, l, none⟩ (.int .u8 V)).ownsRow B 5 1 (.slice (some ⟨g, 0, none⟩) m c) m (bytesV (zs.set l V)) := by
  obtain ⟨cur, h1, h2, h3, h4, h5, h6, h7⟩ := own8_cur h
  refine own8_of (cur := cur.set l (.int .u8 V)) h1 ?_ h3 h4 (by simp [h5]) ?_ (by simp [h7])
  · simp [World.setCell, Array.getElem?_modify, h2]
  · rw [List.take_set, h6]
    simp [bytesV, List.map_set]
theorem set_last (ys : List Int) (z V : Int) : (ys ++ [z]).set ys.length V = ys ++ [V] := by simp
/-- the last byte written, the next bit's place one more -/
theorem add_fin {B R g c nx : Nat} {w : World} {ys : List Int} {z : Int} (hbx : w.heap[R]? = some (.cells #[.slice (some ⟨g, 0, none⟩) (ys.length + 1) c, .int .u64 nx] 62 (0, 0))) (hrow : w.ownsRow B 5 1 (.slice (some ⟨g, 0, none⟩) (ys.length + 1) c) (ys.length + 1) (bytesV (ys ++ [z]))) (hne : g ≠ R) (hB : B ≤ R) (V : Nat) (nx' : Nat) (h8 : nx' < 8) (hV : nx' ≠ 0 → V < 2 ^ nx') :
    BRow B ((w.setCell ⟨g, ys.length, none⟩ (.int .u8 V)).setCell ⟨R, 1, none⟩ (.int .u64 nx')) R (.slice (some ⟨g, 0, none⟩) (ys.length + 1) c) (ys ++ [(V : Int)]) nx' ∧ Fm w ((w.setCell ⟨g, ys.length, none⟩ (.int .u8 V)).setCell ⟨R, 1, none⟩ (.int .u64 nx')) (fun k => k = R ∨ (Value.slice (some ⟨g, 0, none⟩) (ys.length + 1) c).ownBlock = some k) (fun k => k = R ∨ (Value.slice (some ⟨g, 0, none⟩) (ys.length + 1) c).ownBlock = some k) := by
  have h1 := own8_set hrow ys.length (by omega) (V : Int)
  rw [set_last] at h1
  have hs : ∀ (w1 : World) (q j k : Nat) (u : Value), k ≠ q → (w1.setCell ⟨q, j, none⟩ u).heap[k]? = w1.heap[k]? := fun w1 q j k u h => by simp [World.setCell, Array.getElem?_modify, h.symm]
  refine ⟨⟨?_, ?_, h8, fun hn => ⟨ys, V, rfl, by omega, ?_⟩, hB⟩, ?_⟩
  · have h2 : (w.setCell ⟨g, ys.length, none⟩ (.int .u8 V)).heap[R]? = some (.cells #[.slice (some ⟨g, 0, none⟩) (ys.length + 1) c, .int .u64 nx] 62 (0, 0)) := by rw [hs _ _ _ _ _ (fun e => hne e.symm)]; exact hbx
    generalize w.setCell ⟨g, ys.length, none⟩ (.int .u8 V) = w1 at *
    simp [World.setCell, Array.getElem?_modify, h2]
  · have h2 : Fm (w.setCell ⟨g, ys.length, none⟩ (.int .u8 V)) ((w.setCell ⟨g, ys.length, none⟩ (.int .u8 V)).setCell ⟨R, 1, none⟩ (.int .u64 nx')) (fun k => k = R) (fun k => k = R) := (Fm.same (Below.refl _ _)).set R 1 _ rfl
    have := own8_fm h2 h1 (fun k e1 e2 => by simp only [Value.ownBlock, Option.some.injEq] at e1; exact hne (e1.trans e2))
    simpa using this
  · have := hV hn
    exact_mod_cast this
  · exact ((Fm.same (Below.refl _ _)).set g ys.length _ (.inr rfl)).set R 1 _ (.inl rfl)
theorem BRow.drew {B R nx : Nat} {w : World} {v : Value} {zs : List Int} (h : BRow B w R v zs nx) : BRow B w.drew R v zs nx := ⟨h.box, own_later h.row (Below.refl _ _).drew, h.nx8, h.last, h.base⟩
theorem or_val (Z bit nx : Nat) (hz : Z < 2 ^ nx) (hb : bit ≤ 1) (hn : nx < 8) : Go.bits BinOp.or IntKind.u8 (Z : Int) ((bit : Int) * 2 ^ nx % 256) = ((Z + bit * 2 ^ nx : Nat) : Int) ∧ Z + bit * 2 ^ nx < 2 ^ (nx + 1) ∧ Z + bit * 2 ^ nx < 256 := by
  have hp : 2 ^ nx ≤ 128 := by
    have : 2 ^ nx ≤ 2 ^ 7 := Nat.pow_le_pow_right (by omega) (by omega)
    simpa using this
  have hle : bit * 2 ^ nx ≤ 2 ^ nx := by rcases (show bit = 0 ∨ bit = 1 by omega) with rfl | rfl <;> simp
  have h2 : ((bit : Int) * 2 ^ nx % 256) = ((bit * 2 ^ nx : Nat) : Int) := by
    have : ((bit * 2 ^ nx : Nat) : Int) = (bit : Int) * 2 ^ nx := by simp
    rw [← this]
    generalize bit * 2 ^ nx = X at *
    omega
  rw [h2, or_u8 Z _ (by omega) (by omega), or_bit Z bit nx hz hb hn, Nat.pow_succ]
  exact ⟨rfl, by omega, by omega⟩
theorem tadd_any (B R : Nat) (v : Value) (zs : List Int) (nx bit : Nat) (w : World) (h : BRow B w R v zs nx) (hB : B ≤ w.heap.size) (hbit : bit ≤ 1) (hl : zs.length ≤ 10000000) :
    Calls Try.prog 26 #[.pointer (some ⟨R, 0, none⟩), .int .u8 bit] w fun r w' => r = .returned (.tuple #[]) ∧ Hid (∃ v', BRow B w' R v' (stepB zs nx bit) ((nx + 1) % 8) ∧ Fm w w' (fun k => k = R ∨ v.ownBlock = some k) (fun k => k = R ∨ v'.ownBlock = some k)) := by
  obtain ⟨ao, c, rfl⟩ := own_slice8 h.row
  have hbx := h.box
  have c0 : w.cell? ⟨R, 0, none⟩ = some (.slice ao zs.length c) := by simp [World.cell?, hbx]
  have c1 : w.cell? ⟨R, 1, none⟩ = some (.int .u64 nx) := by simp [World.cell?, hbx]
  have f0 : w.frozen? ⟨R, 0, none⟩ = false := by simp [World.frozen?, hbx]
  have f1 : w.frozen? ⟨R, 1, none⟩ = false := by simp [World.frozen?, hbx]
  have hnx : nx < 8 := h.nx8
  have hwn : IntKind.u64.wrap ((nx : Int) + 1) = (nx : Int) + 1 := by rw [IntKind.wrap_u64]; omega
  have hrm : ((nx : Int) + 1) % 8 = (((nx + 1) % 8 : Nat) : Int) := by omega
  by_cases hn : nx = 0
  · subst hn
    have c1' : w.cell? ⟨R, 1, none⟩ = some (.int .u64 0) := c1
    obtain ⟨i0, hi, hz0, hz1, hz2⟩ := info_parts info8
    have HAP : Hid (∀ v' w2, w2.ownsRow B 5 1 v' (zs.length + 1) (bytesV zs ++ [.int .u8 0]) → (w.alloc (.cells #[.int .u8 0] 5)).grownBy w2 (Value.slice ao zs.length c).ownBlock → (∀ k, v'.ownBlock = some k → (Value.slice ao zs.length c).ownBlock = some k ∨ (w.alloc (.cells #[.int .u8 0] 5)).heap.size ≤ k) → ∃ g c', v' = .slice (some ⟨g, 0, none⟩) (zs.length + 1) c' ∧ g ≠ R ∧ w2.cell? ⟨R, 0, none⟩ = some (.slice ao zs.length c) ∧ w2.frozen? ⟨R, 0, none⟩ = false ∧ Hid ((w2.setCell ⟨R, 0, none⟩ (.slice (some ⟨g, 0, none⟩) (zs.length + 1) c')).heap[R]? = some (.cells #[.slice (some ⟨g, 0, none⟩) (zs.length + 1) c', .int .u64 0] 62 (0, 0)) ∧ (w2.setCell ⟨R, 0, none⟩ (.slice (some ⟨g, 0, none⟩) (zs.length + 1) c')).ownsRow B 5 1 (.slice (some ⟨g, 0, none⟩) (zs.length + 1) c') (zs.length + 1) (bytesV (zs ++ [0])) ∧ Fm w (w2.setCell ⟨R, 0, none⟩ (.slice (some ⟨g, 0, none⟩) (zs.length + 1) c')) (fun k => k = R ∨ (Value.slice ao zs.length c).ownBlock = some k) (fun k => k = R ∨ (Value.slice (some ⟨g, 0, none⟩) (zs.length + 1) c').ownBlock = some k))) := fun v' w2 ho hg hat => by
      obtain ⟨g, c', rfl, _, _⟩ := owned_shape ho (by omega)
      have hRl : R < w.heap.size := (Array.getElem?_eq_some_iff.1 hbx).1
      have hb0 : Below w.heap.size w (w.alloc (.cells #[.int .u8 0] 5)) := (Below.refl _ _).alloc (Nat.le_refl _) _
      have hno : (Value.slice ao zs.length c).ownBlock ≠ some R := own_ne h.row hbx (by decide)
      have hgr : g ≠ R := by
        intro e
        rcases hat g rfl with h1 | h1
        · exact hno (e ▸ h1)
        · have := hb0.size; omega
      have hf : Fm w w2 (fun k => (Value.slice ao zs.length c).ownBlock = some k) (fun k => (Value.slice (some ⟨g, 0, none⟩) (zs.length + 1) c').ownBlock = some k) := (Fm.same hb0).trans (fm_grown hg hat)
      have hb2 : w2.heap[R]? = _ := (hf.block R hRl hno).trans hbx
      have ho' : w2.ownsRow B 5 1 (.slice (some ⟨g, 0, none⟩) (zs.length + 1) c') (zs.length + 1) (bytesV (zs ++ [0])) := by simpa [bytesV] using ho
      refine ⟨g, c', rfl, hgr, by simp [World.cell?, hb2], by simp [World.frozen?, hb2], by simp [World.setCell, Array.getElem?_modify, hb2], ?_, ?_⟩
      · have h2 : Fm w2 (w2.setCell ⟨R, 0, none⟩ (.slice (some ⟨g, 0, none⟩) (zs.length + 1) c')) (fun k => k = R) (fun k => k = R) := (Fm.same (Below.refl _ _)).set R 0 _ rfl
        exact own8_fm h2 ho' (fun k e1 e2 => by simp only [Value.ownBlock, Option.some.injEq] at e1; exact hgr (e1.trans e2))
      · have h3 : Fm w w2 (fun k => k = R ∨ (Value.slice ao zs.length c).ownBlock = some k) (fun k => k = R ∨ (Value.slice (some ⟨g, 0, none⟩) (zs.length + 1) c').ownBlock = some k) := hf.to (fun k hk => .inr hk) (fun k hk => hk.elim (fun e => .inl (.inl e)) .inr)
        exact h3.set R 0 _ (.inl rfl)
    have HOA : Hid ((w.alloc (.cells #[.int .u8 0] 5)).ownsRow B 5 1 (.slice ao zs.length c) zs.length (bytesV zs)) := h.row.alloc _
    have HNW : Hid (∀ jj uu, [Value.int .u8 0][jj]? = some uu → (w.alloc (.cells #[.int .u8 0] 5)).cell? ((⟨w.heap.size, 0, none⟩ : Addr).add jj) = some uu) := fun jj uu hjj => by
      have hh := heap_alloc_new w (.cells #[.int .u8 0] 5)
      rw [plain_add]
      unfold World.cell?
      simp only
      rw [hh]
      simpa using hjj
    have HONE : Hid (∀ u ∈ [Value.int .u8 0], u.oneCell' = true) := fun u hu => by simp at hu; subst hu; rfl
    have HBB : Hid (B ≤ (w.alloc (.cells #[.int .u8 0] 5)).heap.size) := by show _ ≤ _; simp; omega
    have HBR := hidden h.base
    have HSB : Hid (stepB zs 0 bit = zs ++ [(bit : Int)]) := rfl
    clear h hbx c1
    generalize hm : zs.length = m at *
    have HML := hidden hm
    clear hm
    go_enter Try.func26, Try.ntmps26
    go_upto_region 2 with (first | (at_builtin; refine wpList_append_at rfl _ _ 25 rfl B 5 i0 (.int .u8 0) 1 1 Try.underlying25 hi hz0 hz1 hz2 rfl (by decide) (.slice ao m c) m _ rfl HOA.out ⟨w.heap.size, 0, none⟩ 1 1 [.int .u8 0] rfl rfl HNW.out HONE.out (by unfold maxLen; omega) (by omega) HBB.out (by omega) ?_; intro v' w2 hown' hgrow hat; obtain ⟨g, c', e', hgr, k0, k1, HW⟩ := HAP.out v' w2 hown' hgrow hat.out; subst e'; clear hown' hgrow hat))
    generalize w2.setCell ⟨R, 0, none⟩ (.slice (some ⟨g, 0, none⟩) (m + 1) c') = w3 at *
    obtain ⟨hbx3, hrow3, hF3⟩ := HW.out
    have c0 : w3.cell? ⟨R, 0, none⟩ = some (.slice (some ⟨g, 0, none⟩) (m + 1) c') := by simp [World.cell?, hbx3]
    have c1 : w3.cell? ⟨R, 1, none⟩ = some (.int .u64 0) := by simp [World.cell?, hbx3]
    have f1 : w3.frozen? ⟨R, 1, none⟩ = false := by simp [World.frozen?, hbx3]
    have hcg : w3.cell? ⟨g, m, none⟩ = some (.int .u8 0) := by
      have := owned_cells hrow3 m (by omega)
      rw [Nat.zero_add] at this
      rw [this, ← HML.out]
      simp
    have hfg : w3.frozen? ⟨g, m, none⟩ = false := hrow3.frozenAt _
    have hne1 : ¬ g = R := hgr
    have hne2 : ¬ R = g := fun e => hgr e.symm
    have hwl : IntKind.i64.wrap (((m + 1 : Nat) : Int) - 1) = (m : Int) := by rw [IntKind.wrap_i64]; omega
    have il1 : (0 : Int) ≤ (m : Int) := by omega
    have il2 : (m : Int) < ((m + 1 : Nat) : Int) := by omega
    have hor : Go.bits BinOp.or IntKind.u8 0 (bit : Int) = (bit : Int) := by
      have := or_u8 0 bit (by omega) (by omega)
      simpa using this
    have hb256 : (bit : Int) % 256 = (bit : Int) := by omega
    have HFIN : Hid (∃ v', BRow B ((w3.setCell ⟨g, m, none⟩ (.int .u8 (bit : Int))).setCell ⟨R, 1, none⟩ (.int .u64 1)).drew R v' (stepB zs 0 bit) ((0 + 1) % 8) ∧ Fm w ((w3.setCell ⟨g, m, none⟩ (.int .u8 (bit : Int))).setCell ⟨R, 1, none⟩ (.int .u64 1)).drew (fun k => k = R ∨ (Value.slice ao m c).ownBlock = some k) (fun k => k = R ∨ v'.ownBlock = some k)) := by
      have hml := HML.out
      subst hml
      obtain ⟨f1, f2⟩ := add_fin (nx := 0) hbx3 hrow3 hgr HBR.out bit 1 (by omega) (fun h0 => by omega)
      rw [HSB.out]
      exact ⟨_, f1.drew, hF3.trans (f2.trans (Fm.same (Below.refl _ _).drew))⟩
    clear HW hbx3 hrow3 hF3 HAP HOA HNW k0 k1
    go_region
    go_wp2
    first
      | (refine bodyPost_end (v := .tuple #[]) (by simp [results, Try.results26, go_sem]) rfl ⟨rfl, ?_⟩; exact HFIN)
      | (go_show; sorry)
  · obtain ⟨ys, z, hzs, hz0, hz1⟩ := h.last hn
    have hlen : zs.length = ys.length + 1 := by rw [hzs]; simp
    have hrow := h.row
    rcases hrow.2 with ⟨-, h2⟩ | ⟨g, cap, cur, h1, h2, h3, h4, h5, h6, h7⟩
    · omega
    simp only [Value.slice.injEq] at h1
    obtain ⟨rfl, -, rfl⟩ := h1
    obtain ⟨Z, rfl⟩ := Int.eq_ofNat_of_zero_le hz0
    have hcg : w.cell? ⟨g, ys.length, none⟩ = some (.int .u8 (Z : Int)) := by
      have := owned_cells hrow ys.length (by omega)
      rw [Nat.zero_add] at this
      rw [this, hzs]
      simp
    have hfg : w.frozen? ⟨g, ys.length, none⟩ = false := h.row.frozenAt _
    have hne : g ≠ R := fun e => by subst e; rw [h3] at hbx; simp at hbx
    have hne1 : ¬ g = R := hne
    have hne2 : ¬ R = g := fun e => hne e.symm
    have hwl : IntKind.i64.wrap ((zs.length : Int) - 1) = (ys.length : Int) := by rw [IntKind.wrap_i64]; omega
    have hnb : ((nx : Int) == 0) = false := by simp; omega
    have il1 : (0 : Int) ≤ (ys.length : Int) := by omega
    have il2 : (ys.length : Int) < (zs.length : Int) := by omega
    have hZ : Z < 2 ^ nx := by exact_mod_cast hz1
    obtain ⟨hor, hV1, hV2⟩ := or_val Z bit nx hZ hbit hnx
    have HFIN : Hid (∃ v', BRow B ((w.setCell ⟨g, ys.length, none⟩ (.int .u8 ((Z + bit * 2 ^ nx : Nat) : Int))).setCell ⟨R, 1, none⟩ (.int .u64 (((nx + 1) % 8 : Nat) : Int))).drew R v' (stepB zs nx bit) ((nx + 1) % 8) ∧ Fm w ((w.setCell ⟨g, ys.length, none⟩ (.int .u8 ((Z + bit * 2 ^ nx : Nat) : Int))).setCell ⟨R, 1, none⟩ (.int .u64 (((nx + 1) % 8 : Nat) : Int))).drew (fun k => k = R ∨ (Value.slice (some ⟨g, 0, none⟩) zs.length c).ownBlock = some k) (fun k => k = R ∨ v'.ownBlock = some k)) := by
      rw [hlen, hzs] at hrow
      rw [hlen] at hbx
      obtain ⟨f1, f2⟩ := add_fin hbx hrow hne h.base (Z + bit * 2 ^ nx) ((nx + 1) % 8) (by omega) (fun h0 => by
        have : (nx + 1) % 8 = nx + 1 := by omega
        rw [this]; exact hV1)
      have hst : stepB zs nx bit = ys ++ [((Z + bit * 2 ^ nx : Nat) : Int)] := by
        unfold stepB
        rw [if_neg hn, hzs]
        simp
      rw [hst, hlen]
      exact ⟨_, f1.drew, f2.trans (Fm.same (Below.refl _ _).drew)⟩
    clear h hrow h2 h3 h4 h5 h6 h7 hbx hzs hz0 hlen hV1 hV2 hz1
    generalize hVV : Z + bit * 2 ^ nx = V at *
    clear hVV
    generalize hNN : (nx + 1) % 8 = NN at *
    clear hNN
    generalize stepB zs nx bit = SB at *
    generalize zs.length = m at *
    generalize ys.length = l at *
    go_enter Try.func26, Try.ntmps26
    go_upto_region 2 with fail
    go_region
    go_wp2
    refine bodyPost_end (v := .tuple #[]) (by simp [results, Try.results26, go_sem]) rfl ⟨rfl, ?_⟩
    exact HFIN
end Go.Proofs.Ytbifolpahmeaeaa
