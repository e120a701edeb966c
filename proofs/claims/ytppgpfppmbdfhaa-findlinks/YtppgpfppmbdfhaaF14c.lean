/- Layer 13: in a row that rises, by halves is found what is found one by one: lists. -/
import Derived.Test.YtppgpfppmbdfhaaF13F
namespace Go.Proofs.Ytppgpfppmbdfhaa
open Go.RowKit
set_option maxHeartbeats 1000000
set_option maxRecDepth 100000
set_option linter.unusedVariables false

theorem u8lt (a b : Int) (ha : 0 ≤ a ∧ a ≤ 255) (hb : 0 ≤ b ∧ b ≤ 255) : (UInt8.ofNat a.toNat < UInt8.ofNat b.toNat) ↔ a < b := by
  rw [UInt8.lt_iff_toNat_lt]
  simp
  omega
theorem cmp_put4 (x y : Int) (hx : 0 ≤ x ∧ x ≤ 4294967295) (hy : 0 ≤ y ∧ y ≤ 4294967295) : cmpI (putL x 4) (putL y 4) < 0 ↔ x < y := by
  have h3 := u8lt (x / 16777216 % 256) (y / 16777216 % 256) (by omega) (by omega)
  have h3' := u8lt (y / 16777216 % 256) (x / 16777216 % 256) (by omega) (by omega)
  have h2 := u8lt (x / 65536 % 256) (y / 65536 % 256) (by omega) (by omega)
  have h2' := u8lt (y / 65536 % 256) (x / 65536 % 256) (by omega) (by omega)
  have h1 := u8lt (x / 256 % 256) (y / 256 % 256) (by omega) (by omega)
  have h1' := u8lt (y / 256 % 256) (x / 256 % 256) (by omega) (by omega)
  have h0 := u8lt (x % 256) (y % 256) (by omega) (by omega)
  have h0' := u8lt (y % 256) (x % 256) (by omega) (by omega)
  show Lib.compareBytes [UInt8.ofNat (x / 16777216 % 256).toNat, UInt8.ofNat (x / 65536 % 256).toNat, UInt8.ofNat (x / 256 % 256).toNat, UInt8.ofNat (x % 256).toNat] [UInt8.ofNat (y / 16777216 % 256).toNat, UInt8.ofNat (y / 65536 % 256).toNat, UInt8.ofNat (y / 256 % 256).toNat, UInt8.ofNat (y % 256).toNat] < 0 ↔ _
  simp only [Lib.compareBytes, h3, h3', h2, h2', h1, h1', h0, h0']
  split
  · simp; omega
  · split
    · simp; omega
    · split
      · simp; omega
      · split
        · simp; omega
        · split
          · simp; omega
          · split
            · simp; omega
            · split
              · simp; omega
              · split
                · simp; omega
                · simp; omega
theorem at_spec (K : Nat) : ∀ (xs : List Nat) (i : Nat), (∃ t, t < xs.length ∧ xs.getD t 0 = K ∧ atF false K xs i = ((i + t : Nat) : Int)) ∨ ((∀ t, t < xs.length → xs.getD t 0 ≠ K) ∧ atF false K xs i = -1)
  | [], i => .inr ⟨fun t h => by simp at h, rfl⟩
  | x :: xs, i => by
    unfold atF
    by_cases h : x = K
    · exact .inl ⟨0, by simp, by simpa using h, by rw [if_pos h]; simp⟩
    · rw [if_neg h, if_neg (by simp)]
      rcases at_spec K xs (i + 1) with ⟨t, h1, h2, h3⟩ | ⟨h1, h2⟩
      · exact .inl ⟨t + 1, by simp; omega, by simpa using h2, by rw [h3]; congr 1; omega⟩
      · refine .inr ⟨fun t ht => ?_, h2⟩
        cases t with
        | zero => simpa using h
        | succ t => simpa using h1 t (by simpa using ht)
/-- each one is above the one ahead of it -/
def Rises (xs : List Nat) : Prop := ∀ i j, i < j → j < xs.length → xs.getD i 0 < xs.getD j 0
theorem at_of {xs : List Nat} (hr : Rises xs) (j : Nat) (hj : j < xs.length) : atF false (xs.getD j 0) xs 0 = (j : Int) := by
  rcases at_spec (xs.getD j 0) xs 0 with ⟨t, h1, h2, h3⟩ | ⟨h1, h2⟩
  · have : t = j := by
      rcases Nat.lt_trichotomy t j with h | h | h
      · have := hr t j h hj; omega
      · exact h
      · have := hr j t h h1; omega
    rw [h3, this, Nat.zero_add]
  · exact absurd rfl (h1 j hj)
theorem bin_words (xs : List Nat) (K o : Nat) (hx : ∀ x ∈ xs, x < 4294967296) (hk : K < 4294967296) (hn : xs.length ≤ 900) (hr : Rises xs) : ∀ (f lo hi : Nat), hi ≤ xs.length → hi - lo ≤ f → (∀ j, j < lo → j < xs.length → xs.getD j 0 < K) → (∀ j, hi ≤ j → j < xs.length → K < xs.getD j 0) →
    binF (layB (putsL (intsL xs))) (wSr K xs.length o) (putL (K : Int) 4) f lo hi = rsOf (atF false K xs 0)
  | f, lo, hi, h1, h2, h3, h4 => by
    by_cases hlt : lo < hi
    · match f, h2 with
      | 0, h2 => omega
      | f + 1, h2 =>
        have hm : lo + (hi - lo) / 2 < xs.length := by omega
        have hxm : xs.getD (lo + (hi - lo) / 2) 0 < 4294967296 := hx _ (by rw [List.getD_eq_getElem?_getD, List.getElem?_eq_getElem hm]; simp)
        rw [binF_step _ _ _ _ _ _ hlt h2, Nat.add_sub_cancel, w_spA _ _ _ _ (by omega), lay_len2, w_kyE _ _ _ _ (by omega), w_kyL _ _ _ _ _ hm hn, if_neg (by simp)]
        have ih1 := bin_words xs K o hx hk hn hr f (lo + (hi - lo) / 2 + 1) hi h1 (by omega)
        have ih2 := bin_words xs K o hx hk hn hr f lo (lo + (hi - lo) / 2) (by omega) (by omega)
        generalize hM : lo + (hi - lo) / 2 = M at *
        by_cases he : xs.getD M 0 = K
        · rw [if_pos (by rw [he])]
          have := at_of hr M hm
          rw [he] at this
          rw [this]
          unfold rsOf
          rw [if_neg (by omega), Int.toNat_natCast]
        · rw [if_neg (fun e => he (by have := putL4_inj (x := ((xs.getD M 0 : Nat) : Int)) (y := (K : Int)) (by omega) (by omega) e; omega))]
          have hcmp := cmp_put4 ((xs.getD M 0 : Nat) : Int) (K : Int) (by omega) (by omega)
          by_cases hc : xs.getD M 0 < K
          · rw [if_pos (hcmp.2 (by omega))]
            refine ih1 (fun j hj hjl => ?_) h4
            rcases Nat.lt_or_ge j M with h | h
            · have := hr j M h hm; omega
            · have : j = M := by omega
              subst this; exact hc
          · rw [if_neg (fun e => by have := hcmp.1 e; omega)]
            refine ih2 h3 (fun j hj hjl => ?_)
            rcases Nat.lt_or_ge M j with h | h
            · have := hr M j h hjl; omega
            · have : j = M := by omega
              subst this; omega
    · rw [binF_end _ _ _ _ _ _ hlt]
      rcases at_spec K xs 0 with ⟨t, q1, q2, q3⟩ | ⟨q1, q2⟩
      · rcases Nat.lt_or_ge t lo with h | h
        · have := h3 t h q1; omega
        · have := h4 t (by omega) q1; omega
      · rw [q2]; rfl
theorem binV_words2 (xs : List Nat) (K o n : Nat) (hx : ∀ x ∈ xs, x < 4294967296) (hk : K < 4294967296) (hn : xs.length ≤ 900) (hr : Rises xs) (h1 : optB o 1 = false) (hl : xs.length = n) : binV (layB (putsL (intsL xs))) (wSr K n o) = tellR (wSr K n o) (rsOf (atF false K xs 0)) := by
  subst hl
  have hkE : keyE (wSr K xs.length o) (layB (putsL (intsL xs))).length = 0 := by
    unfold keyE mayK
    rw [show (wSr K xs.length o).opt = o from rfl, h1]
    rfl
  have hkL : keyL (wSr K xs.length o) (layB (putsL (intsL xs))) = putL (K : Int) 4 := by
    unfold keyL
    rw [show (wSr K xs.length o).opt = o from rfl, h1]
    rfl
  unfold binV
  rw [hkE, if_neg (by simp), hkL, show (wSr K xs.length o).cnt = xs.length from rfl, bin_words xs K o hx hk hn hr xs.length 0 xs.length (Nat.le_refl _) (by omega) (fun j hj => by omega) (fun j hj hjl => by omega)]
theorem bin_w (m : Nat) (bs : List Int) (key n o : Nat) (hk : key < 4294967296) (hn : n < 4294967296) (ho : o < 4294967296) (V : Nat × Int) (hV : binV bs (wSr key n o) = V) (w : World) (M : MRd w m bs) (k4 k256 k0 oo : Int) (e4 : k4 = 4) (e256 : k256 = 256) (e0 : k0 = 0) (eo : oo = o) :
    Calls Try.prog 14 #[.pointer (some ⟨m, 0, none⟩), .agg #[.int .u32 (key : Int), .int .u32 k4, .int .u32 k256, .int .u32 k4, .int .u32 (n : Int), .int .u32 k0, .int .u32 k0, .int .u32 oo]] w fun e w' => e = .returned (.tuple #[.int .u32 (V.1 : Nat), .int .i64 V.2]) ∧ Below w.heap.size w w' := by
  subst e4 e256 e0 eo hV
  exact bin_any m bs (wSr key n o) ⟨hk, by show 4 < _; omega, by show 256 < _; omega, by show 4 < _; omega, hn, by show 0 < _; omega, by show 0 < _; omega, ho⟩ w M
/-- steps added up -/
def sumK (ys : List Nat) : Nat → Nat
  | 0 => 0
  | k + 1 => sumK ys k + 1 + ys.getD k 0
def kyR (ys : List Nat) : Nat → List Nat
  | 0 => []
  | k + 1 => kyR ys k ++ [sumK ys (k + 1)]
theorem kyR_len (ys : List Nat) : ∀ k, (kyR ys k).length = k
  | 0 => rfl
  | k + 1 => by rw [kyR, List.length_append, kyR_len]; rfl
theorem kyR_at (ys : List Nat) : ∀ k i, i < k → (kyR ys k).getD i 0 = sumK ys (i + 1)
  | 0, i, h => by omega
  | k + 1, i, h => by
    rw [kyR, List.getD_eq_getElem?_getD]
    by_cases hi : i < k
    · rw [List.getElem?_append_left (by rw [kyR_len]; omega), ← List.getD_eq_getElem?_getD, kyR_at ys k i hi]
    · obtain rfl : i = k := by omega
      rw [List.getElem?_append_right (by rw [kyR_len]; omega), kyR_len, Nat.sub_self]
      rfl
theorem sumK_mono (ys : List Nat) : ∀ (d i : Nat), sumK ys i + d ≤ sumK ys (i + d)
  | 0, i => Nat.le_refl _
  | d + 1, i => by
    have := sumK_mono ys d i
    show _ ≤ sumK ys (i + d + 1)
    rw [sumK]; omega
theorem sumK_le (ys : List Nat) (hy : ∀ y ∈ ys, y < 65536) : ∀ k, k ≤ ys.length → sumK ys k ≤ 65536 * k
  | 0, _ => Nat.le_refl _
  | k + 1, h => by
    have ih := sumK_le ys hy k (by omega)
    have : ys.getD k 0 < 65536 := by rw [List.getD_eq_getElem?_getD, List.getElem?_eq_getElem (by omega)]; exact hy _ (by simp)
    rw [sumK]; omega
theorem kyR_rises (ys : List Nat) (k : Nat) : Rises (kyR ys k) := by
  intro i j h1 h2
  rw [kyR_len] at h2
  rw [kyR_at ys k i (by omega), kyR_at ys k j h2]
  have := sumK_mono ys (j - i) (i + 1)
  rw [show i + 1 + (j - i) = j + 1 by omega] at this
  omega
theorem kyR_bd (ys : List Nat) (hy : ∀ y ∈ ys, y < 65536) (hn : ys.length ≤ 900) (k : Nat) (hk : k ≤ ys.length) : ∀ x ∈ kyR ys k, x < 4294967296 := by
  intro x hx
  obtain ⟨i, hi, rfl⟩ := List.getElem_of_mem hx
  have h1 : (kyR ys k).getD i 0 = (kyR ys k)[i] := by rw [List.getD_eq_getElem?_getD, List.getElem?_eq_getElem hi]; rfl
  rw [kyR_len] at hi
  rw [← h1, kyR_at ys k i hi]
  have := sumK_le ys hy (i + 1) (by omega)
  omega
/-- a slice of small numbers that came in -/
structure HRow (w : World) (a : Option Addr) (len : Nat) (xs : List Nat) : Prop where
  ln : xs.length = len
  bd : ∀ x ∈ xs, x < 65536
  cells : ∀ i, i < len → ∃ b o, a = some ⟨b, o, none⟩ ∧ w.cell? ⟨b, o + i, none⟩ = some (.int .u16 (xs.getD i 0 : Nat))
theorem bounds_h {n : Int} (h : (Lit.int .u16 n).wf = true) : 0 ≤ n ∧ n ≤ 65535 := by
  simp [Lit.wf, IntKind.min, IntKind.max, IntKind.signed, IntKind.bits] at h
  omega
theorem hrow_of {w : World} {a : Option Addr} {len cap : Nat} {zs : List Int} (h : IsRow .u16 w a len cap zs) : ∃ xs, HRow w a len xs ∧ len ≤ cap ∧ len ≤ 9223372036854775807 := by
  rcases h with ⟨rfl, rfl, rfl, rfl⟩ | ⟨x, rfl, hl, hm, hz, hcell, hwz⟩
  · exact ⟨[], ⟨rfl, (fun x hx => by cases hx), fun i hi => by omega⟩, Nat.le_refl _, by omega⟩
  · refine ⟨(zs.take len).map Int.toNat, ⟨by simp; omega, fun y hy => ?_, fun i hi => ?_⟩, hl, by unfold maxLen at hm; omega⟩
    · obtain ⟨z, hz1, rfl⟩ := List.mem_map.1 hy
      have := bounds_h (hwz z (List.mem_of_mem_take hz1))
      omega
    · have hc := hcell i (by omega)
      obtain ⟨b, o, spot⟩ := x
      have hspot : spot = none := by simpa [Addr.add] using World.cell?_spot (hcell 0 (by omega))
      subst hspot
      rw [plain_add] at hc
      refine ⟨b, o, rfl, ?_⟩
      rw [hc]
      have hb := bounds_h (hwz (zs.getD i 0) (by rw [List.getD_eq_getElem?_getD]; simp [show i < zs.length by omega]))
      have e : ((zs.take len).map Int.toNat).getD i 0 = (zs.getD i 0).toNat := by
        simp [List.getD_eq_getElem?_getD, hi, show i < zs.length by omega]
      rw [e]
      congr 2
      omega
theorem HRow.later {w w' : World} {a : Option Addr} {len : Nat} {xs : List Nat} (h : HRow w a len xs) (hb : Below w.heap.size w w') : HRow w' a len xs :=
  ⟨h.ln, h.bd, fun i hi => by obtain ⟨b, o, e, hc⟩ := h.cells i hi; exact ⟨b, o, e, cellLater hb hc⟩⟩
end Go.Proofs.Ytppgpfppmbdfhaa
