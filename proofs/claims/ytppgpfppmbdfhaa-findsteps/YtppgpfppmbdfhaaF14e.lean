/- Layer 13: structures of any size, upwards or downwards: lists. -/
import Derived.Test.YtppgpfppmbdfhaaF13E
import Derived.Test.YtppgpfppmbdfhaaF13F
namespace Go.Proofs.Ytppgpfppmbdfhaa
open Go.RowKit
set_option maxHeartbeats 1000000
set_option maxRecDepth 100000
set_option linter.unusedVariables false

def tSr (key start sz cnt opt : Nat) : Sr := ⟨key, 1, start, sz, cnt, 0, 0, opt⟩
/-- a memory with one byte in it -/
def oneB (addr : Nat) (key : Int) : List Int := splice baseF addr [key]
theorem oneB_len (addr : Nat) (key : Int) (h : addr < 4096) : (oneB addr key).length = 4096 := by
  have := baseF_len
  unfold oneB
  rw [splice_len _ _ _ (by simp; omega), this]
theorem oneB_ok (addr : Nat) (key : Int) (hk : 0 ≤ key ∧ key ≤ 255) : OkB (oneB addr key) := by
  intro c hc
  unfold oneB at hc
  simp only [splice, List.mem_append] at hc
  rcases hc with hc | hc | hc
  · exact baseF_ok c (List.mem_of_mem_take hc)
  · simp at hc; omega
  · exact baseF_ok c (List.mem_of_mem_drop hc)
theorem baseF_at (p : Nat) (h : 256 ≤ p) (h2 : p < 4096) : baseF.getD p 0 = 0 := by
  unfold baseF
  rw [List.getD_eq_getElem?_getD, List.getElem?_append_right (by rw [gameL_len]; omega), gameL_len, ← List.getD_eq_getElem?_getD]
  unfold zer8
  rw [List.getD_eq_getElem?_getD, List.getElem?_replicate, if_pos (by omega)]
  rfl
theorem oneB_at (addr p : Nat) (key : Int) (ha : addr < 4096) (h : 256 ≤ p) (h2 : p < 4096) : (oneB addr key).getD p 0 = if p = addr then key else 0 := by
  have hb := baseF_len
  unfold oneB
  rw [← set_splice _ _ _ (by omega), List.getD_eq_getElem?_getD]
  by_cases e : p = addr
  · subst e
    rw [if_pos rfl, List.getElem?_set_self (by omega)]; rfl
  · rw [if_neg e, List.getElem?_set_ne (fun q => e q.symm), ← List.getD_eq_getElem?_getD, baseF_at p h h2]
theorem seg_one (zs : List Int) (p : Nat) (h : p < zs.length) : seg zs p 1 = [zs.getD p 0] := by
  unfold seg
  rw [List.drop_eq_getElem_cons h, List.getD_eq_getElem?_getD, List.getElem?_eq_getElem h]
  rfl
/-- how a step goes: sz is the step modulo 2^32 -/
structure Stp (start sz i addr : Nat) (d : Int) : Prop where
  szd : (sz : Int) = d ∨ (sz : Int) = d + 4294967296
  szl : sz < 4294967296
  d0 : d ≠ 0
  dlo : -2147483648 ≤ d
  lo : 256 ≤ start
  hi : start < 4096
  ad : (addr : Int) = start + i * d
  alo : 256 ≤ addr
  ahi : addr < 4096
theorem Stp.at_ {start sz i addr : Nat} {d : Int} (h : Stp start sz i addr d) (j : Nat) (hj : j ≤ i) : ∃ p : Nat, (p : Int) = start + j * d ∧ 256 ≤ p ∧ p < 4096 ∧ (j < i → p ≠ addr) := by
  have had := h.ad
  have h1 := h.lo
  have h2 := h.hi
  have h3 := h.alo
  have h4 := h.ahi
  have hd := h.d0
  obtain ⟨e, rfl⟩ : ∃ e, i = j + e := ⟨i - j, by omega⟩
  have hm : ((j + e : Nat) : Int) * d = j * d + e * d := by rw [Int.natCast_add, Int.add_mul]
  rw [hm] at had
  rcases Int.lt_or_gt_of_ne hd with hneg | hpos
  · have q1 : (j : Int) * d ≤ 0 := Int.mul_nonpos_of_nonneg_of_nonpos (by omega) (by omega)
    have q2 : (e : Int) * d ≤ 0 := Int.mul_nonpos_of_nonneg_of_nonpos (by omega) (by omega)
    refine ⟨(start + j * d : Int).toNat, by omega, by omega, by omega, fun hlt => ?_⟩
    have q3 : (e : Int) * d < 0 := Int.mul_neg_of_pos_of_neg (by omega) hneg
    omega
  · have q1 : 0 ≤ (j : Int) * d := Int.mul_nonneg (by omega) (by omega)
    have q2 : 0 ≤ (e : Int) * d := Int.mul_nonneg (by omega) (by omega)
    refine ⟨(start + j * d : Int).toNat, by omega, by omega, by omega, fun hlt => ?_⟩
    have q3 : 0 < (e : Int) * d := Int.mul_pos (by omega) hpos
    omega
theorem Stp.spA {start sz i addr : Nat} {d : Int} (h : Stp start sz i addr d) (key cnt opt j p : Nat) (hp : (p : Int) = start + j * d) (hl : p < 4096) : spA (tSr key start sz cnt opt) j = p := by
  show wr32 (start + wr32 (j * sz)) = p
  have hmod : wr32 (start + wr32 (j * sz)) = (start + j * sz) % 4294967296 := by unfold wr32; omega
  rw [hmod]
  rcases h.szd with q | q
  · have : ((j * sz : Nat) : Int) = j * d := by rw [Int.natCast_mul, q]
    omega
  · have : ((j * sz : Nat) : Int) = j * d + j * 4294967296 := by rw [Int.natCast_mul, q, Int.mul_add]
    omega
theorem t_ky (key start sz cnt opt p L : Nat) (h : p < 4096) : kyE (tSr key start sz cnt opt) 4096 p = 0 ∧ ∀ bs : List Int, bs.length = 4096 → kyL (tSr key start sz cnt opt) bs p = [bs.getD p 0] := by
  constructor
  · show tkE 4096 (wr32 (p + 0)) 1 = 0
    rw [wr32_id _ (by omega)]
    unfold tkE
    rw [if_pos (.inr (by omega))]
  · intro bs hb
    show seg bs (wr32 (p + 0)) 1 = _
    rw [wr32_id _ (by omega), Nat.add_zero, seg_one _ _ (by omega)]
theorem Stp.skip {start sz i addr : Nat} {d : Int} (h : Stp start sz i addr d) (key cnt opt : Nat) (hk : key ≠ 0) (ho : optB opt 2 = false) : ∀ j, j ≤ i → j ≤ cnt → linF (oneB addr key) (tSr key start sz cnt opt) [(key : Int)] cnt 0 = linF (oneB addr key) (tSr key start sz cnt opt) [(key : Int)] (cnt - j) j
  | 0, _, _ => by rw [Nat.sub_zero]
  | j + 1, h1, h2 => by
    rw [h.skip key cnt opt hk ho j (by omega) (by omega)]
    obtain ⟨p, hp, hp1, hp2, hp3⟩ := h.at_ j (by omega)
    have hlen := oneB_len addr key h.ahi
    rw [linF_step _ _ _ _ _ (by omega), h.spA key cnt opt j p hp hp2, hlen, (t_ky key start sz cnt opt p 0 hp2).1, if_neg (by simp), (t_ky key start sz cnt opt p 0 hp2).2 _ hlen, oneB_at addr p key h.ahi hp1 hp2, if_neg (hp3 (by omega)), if_neg (by simp; omega)]
    have hz : (tSr key start sz cnt opt).size ≠ 0 := by
      show sz ≠ 0
      have := h.d0
      have := h.szl
      have := h.dlo
      rcases h.szd with q | q <;> omega
    rw [if_neg (by
      rintro (q | q)
      · have : endZ (tSr key start sz cnt opt) [(0 : Int)] = false := by
          show (optB opt 2 && _) = false
          rw [ho]; rfl
        rw [this] at q; cases q
      · exact hz q)]
theorem Stp.found {start sz i addr : Nat} {d : Int} (h : Stp start sz i addr d) (key cnt opt : Nat) (hk : key ≠ 0) (ho : optB opt 2 = false) (hc : i < cnt) : linF (oneB addr key) (tSr key start sz cnt opt) [(key : Int)] cnt 0 = .at_ i addr := by
  rw [h.skip key cnt opt hk ho i (Nat.le_refl _) (by omega)]
  have hlen := oneB_len addr key h.ahi
  rw [linF_step _ _ _ _ _ hc, h.spA key cnt opt i addr h.ad h.ahi, hlen, (t_ky key start sz cnt opt addr 0 h.ahi).1, if_neg (by simp), (t_ky key start sz cnt opt addr 0 h.ahi).2 _ hlen, oneB_at addr addr key h.ahi h.alo h.ahi, if_pos rfl, if_pos rfl]
theorem Stp.not {start sz i addr : Nat} {d : Int} (h : Stp start sz i addr d) (key opt : Nat) (hk : key ≠ 0) (ho : optB opt 2 = false) : linF (oneB addr key) (tSr key start sz i opt) [(key : Int)] i 0 = .no := by
  rw [h.skip key i opt hk ho i (Nat.le_refl _) (Nat.le_refl _), Nat.sub_self]
  rfl
theorem t_lin (bs : List Int) (key start sz cnt opt : Nat) (hk : key < 256) (h1 : optB opt 1 = false) : linV bs (tSr key start sz cnt opt) = tellR (tSr key start sz cnt opt) (linF bs (tSr key start sz cnt opt) [(key : Int)] cnt 0) := by
  have hkE : keyE (tSr key start sz cnt opt) bs.length = 0 := by
    unfold keyE mayK
    rw [show (tSr key start sz cnt opt).opt = opt from rfl, h1]
    rfl
  have hkL : keyL (tSr key start sz cnt opt) bs = [(key : Int)] := by
    unfold keyL
    rw [show (tSr key start sz cnt opt).opt = opt from rfl, h1]
    show putL (key : Int) 1 = _
    simp only [putL, if_pos]
    congr 1
    omega
  unfold linV
  rw [hkE, if_neg (by simp), hkL]
  rfl
/-- the three searches of FindSteps -/
theorem steps_lin {start sz i addr : Nat} {d : Int} (h : Stp start sz i addr d) (key : Nat) (hk0 : key ≠ 0) (hk : key < 256) (hi : i < 256) : linV (oneB addr key) (tSr key start sz (i + 1) 0) = (addr, 0) ∧ linV (oneB addr key) (tSr key start sz i 0) = (0, 0) ∧ linV (oneB addr key) (tSr key start sz 4294967295 4) = (i, 0) := by
  have o0 : optB 0 1 = false ∧ optB 0 2 = false ∧ optB 0 4 = false := by decide
  have o4 : optB 4 1 = false ∧ optB 4 2 = false ∧ optB 4 4 = true := by decide
  refine ⟨?_, ?_, ?_⟩
  · rw [t_lin _ _ _ _ _ _ hk o0.1, h.found key (i + 1) 0 hk0 o0.2.1 (by omega)]
    show ((if optB 0 4 then i else addr), (0 : Int)) = _
    rw [o0.2.2]; rfl
  · rw [t_lin _ _ _ _ _ _ hk o0.1, h.not key 0 hk0 o0.2.1]
    show ((if optB 0 4 then 4294967295 else 0), (0 : Int)) = _
    rw [o0.2.2]; rfl
  · rw [t_lin _ _ _ _ _ _ hk o4.1, h.found key 4294967295 4 hk0 o4.2.1 (by omega)]
    show ((if optB 4 4 then i else addr), (0 : Int)) = _
    rw [o4.2.2]; rfl
end Go.Proofs.Ytppgpfppmbdfhaa
