/- Layer 7: bytes in memory, and what a game says of itself (lists and numbers alone). -/
import Derived.Test.YtpgppdkbkkljnaaLent
import Derived.ProofKit
namespace Go.Proofs.Ytpgppdkbkkljnaa
open Go.RowKit Go.ChangeShapes Go.WideShapes
set_option maxHeartbeats 1000000
set_option maxRecDepth 100000
set_option linter.unusedVariables false

/-- bytes at a place in memory -/
def Bs (w : World) (g o L : Nat) (zs : List Int) : Prop := zs.length = L ∧ ∀ i, i < L → w.cell? ⟨g, o + i, none⟩ = some (.int .u8 (zs.getD i 0))
def seg (zs : List Int) (p n : Nat) : List Int := (zs.drop p).take n
theorem seg_okb {zs : List Int} (h : OkB zs) (p n : Nat) : OkB (seg zs p n) := fun c hc => h c (List.mem_of_mem_drop (List.mem_of_mem_take hc))
theorem seg_at (zs : List Int) (p n i : Nat) (h : i < n) (h2 : p + n ≤ zs.length) : (seg zs p n).getD i 0 = zs.getD (p + i) 0 := by
  unfold seg
  simp [List.getD_eq_getElem?_getD, h]
theorem seg_len (zs : List Int) (p n : Nat) (h2 : p + n ≤ zs.length) : (seg zs p n).length = n := by
  unfold seg
  simp; omega
theorem Bs.sub {w : World} {g o L : Nat} {zs : List Int} (h : Bs w g o L zs) (p n c : Nat) (hp : p + n ≤ L) (hc : n ≤ c) : Reads w (some ⟨g, o + p, none⟩) n c (seg zs p n) := by
  obtain ⟨h1, h2⟩ := h
  refine ⟨seg_len zs p n (by omega), hc, .inr ⟨_, rfl, fun i hi => ?_⟩⟩
  rw [plain_add, seg_at zs p n i hi (by omega), Nat.add_assoc]
  exact h2 (p + i) (by omega)
theorem Bs.later {w w' : World} {g o L : Nat} {zs : List Int} (h : Bs w g o L zs) (hb : Below w.heap.size w w') : Bs w' g o L zs := ⟨h.1, fun i hi => cellLater hb (h.2 i hi)⟩
theorem Reads.later {w w' : World} {a : Option Addr} {len cap : Nat} {zs : List Int} (h : Reads w a len cap zs) (hb : Below w.heap.size w w') : Reads w' a len cap zs := by
  obtain ⟨h1, h2, h3⟩ := h
  refine ⟨h1, h2, ?_⟩
  rcases h3 with h3 | ⟨x, rfl, hc⟩
  · exact .inl h3
  · exact .inr ⟨x, rfl, fun i hi => cellLater hb (hc i hi)⟩
/-- a row that is not empty lies at a plain place -/
theorem Reads.bs {w : World} {a : Option Addr} {len cap : Nat} {zs : List Int} (h : Reads w a len cap zs) (h0 : 0 < len) : ∃ g o, a = some ⟨g, o, none⟩ ∧ Bs w g o len zs := by
  obtain ⟨h1, h2, h3⟩ := h
  rcases h3 with ⟨_, h3, _⟩ | ⟨x, rfl, hc⟩
  · omega
  · obtain ⟨b, off, spot⟩ := x
    have hc0 := hc 0 h0
    have hspot : spot = none := by simpa [Addr.add] using World.cell?_spot hc0
    subst hspot
    exact ⟨b, off, rfl, h1, fun i hi => by have := hc i hi; rwa [plain_add] at this⟩
theorem Bs.reads {w : World} {g o L : Nat} {zs : List Int} (h : Bs w g o L zs) (cap : Nat) (hc : L ≤ cap) : Reads w (some ⟨g, o, none⟩) L cap zs :=
  ⟨h.1, hc, .inr ⟨_, rfl, fun i hi => by rw [plain_add]; exact h.2 i hi⟩⟩
/-- what a walk is told of a slice of integers that came in: nil, or a row of cap cells -/
def IsRow (k : IntKind) (w : World) (a : Option Addr) (len cap : Nat) (zs : List Int) : Prop :=
  (a = none ∧ len = 0 ∧ cap = 0 ∧ zs = []) ∨
  ∃ x, a = some x ∧ len ≤ cap ∧ cap ≤ maxLen ∧ zs.length = cap ∧ (∀ i, i < zs.length → w.cell? (x.add i) = some (.int k (zs.getD i 0))) ∧ ∀ n ∈ zs, (Lit.int k n).wf = true
theorem reads_of_row {w : World} {a : Option Addr} {len cap : Nat} {zs : List Int} (h : IsRow .u8 w a len cap zs) : Reads w a len cap (zs.take len) ∧ OkB (zs.take len) ∧ len ≤ 9223372036854775807 := by
  rcases h with ⟨rfl, rfl, rfl, rfl⟩ | ⟨x, rfl, hl, hm, hz, hcell, hwz⟩
  · exact ⟨⟨rfl, Nat.le_refl _, .inl ⟨rfl, rfl, rfl⟩⟩, (fun c hc => by cases hc), by decide⟩
  · refine ⟨⟨by simp; omega, hl, .inr ⟨x, rfl, fun i hi => ?_⟩⟩, fun c hc => ?_, by unfold maxLen at hm; omega⟩
    · rw [hcell i (by omega)]
      simp [List.getD_eq_getElem?_getD, hi]
    · exact bounds_u8 (hwz c (List.mem_of_mem_take hc))
theorem bounds_u32 {n : Int} (h : (Lit.int .u32 n).wf = true) : 0 ≤ n ∧ n ≤ 4294967295 := by
  simp [Lit.wf, IntKind.min, IntKind.max, IntKind.signed, IntKind.bits] at h
  omega
theorem okb_at {zs : List Int} (hb : OkB zs) (i : Nat) : 0 ≤ zs.getD i 0 ∧ zs.getD i 0 ≤ 255 := by
  rw [List.getD_eq_getElem?_getD]
  cases h : zs[i]? with
  | none => simp
  | some c => exact hb c (List.mem_of_getElem? h)
theorem beV4 (zs : List Int) (p : Nat) : beV zs p 4 = 16777216 * zs.getD p 0 + 65536 * zs.getD (p + 1) 0 + 256 * zs.getD (p + 2) 0 + zs.getD (p + 3) 0 := by
  simp only [beV, if_neg (show ¬ (4 : Int) = 1 by decide), if_neg (show ¬ (4 : Int) = 2 by decide)]
theorem beV_bd (zs : List Int) (p : Nat) (hb : OkB zs) : 0 ≤ beV zs p 4 ∧ beV zs p 4 ≤ 4294967295 := by
  have h0 := okb_at hb p
  have h1 := okb_at hb (p + 1)
  have h2 := okb_at hb (p + 2)
  have h3 := okb_at hb (p + 3)
  rw [beV4]
  omega
/-! ### sums -/
/-- the first k words of a row added up, the ninth aside -/
def sumTo (zs : List Int) : Nat → Int
  | 0 => 0
  | k + 1 => if k = 8 then sumTo zs k else (sumTo zs k + beV zs (4 * k) 4) % 4294967296
theorem sumTo_succ (zs : List Int) (k : Nat) : sumTo zs (k + 1) = if k = 8 then sumTo zs k else (sumTo zs k + beV zs (4 * k) 4) % 4294967296 := rfl
def sumV (zs : List Int) : Int := sumTo zs (zs.length / 4)
theorem sumTo_bd (zs : List Int) : ∀ k, 0 ≤ sumTo zs k ∧ sumTo zs k ≤ 4294967295
  | 0 => by simp [sumTo]
  | k + 1 => by
    unfold sumTo
    split
    · exact sumTo_bd zs k
    · omega
/-- the first i bytes, each by its weight -/
def bsum (zs : List Int) : Nat → Int
  | 0 => 0
  | i + 1 => if i < 32 ∨ 36 ≤ i then (bsum zs i + zs.getD i 0 * 256 ^ (3 - i % 4)) % 4294967296 else bsum zs i
theorem bsum_succ (zs : List Int) (i : Nat) : bsum zs (i + 1) = if i < 32 ∨ 36 ≤ i then (bsum zs i + zs.getD i 0 * 256 ^ (3 - i % 4)) % 4294967296 else bsum zs i := rfl
theorem bsum_bd (zs : List Int) : ∀ k, 0 ≤ bsum zs k ∧ bsum zs k ≤ 4294967295
  | 0 => by simp [bsum]
  | k + 1 => by
    unfold bsum
    split
    · omega
    · exact bsum_bd zs k
theorem bsum_sum (zs : List Int) : ∀ k, bsum zs (4 * k) = sumTo zs k
  | 0 => rfl
  | k + 1 => by
    have ih := bsum_sum zs k
    have hb := sumTo_bd zs k
    show bsum zs (4 * k + 3 + 1) = _
    have m0 : 4 * k % 4 = 0 := by omega
    have m1 : (4 * k + 1) % 4 = 1 := by omega
    have m2 : (4 * k + 2) % 4 = 2 := by omega
    have m3 : (4 * k + 3) % 4 = 3 := by omega
    by_cases h : k = 8
    · subst h
      rw [sumTo_succ, if_pos rfl, ← ih, bsum_succ, if_neg (by omega), bsum_succ, if_neg (by omega), bsum_succ, if_neg (by omega), bsum_succ, if_neg (by omega)]
    · have e0 : 4 * k < 32 ∨ 36 ≤ 4 * k := by omega
      have e1 : 4 * k + 1 < 32 ∨ 36 ≤ 4 * k + 1 := by omega
      have e2 : 4 * k + 2 < 32 ∨ 36 ≤ 4 * k + 2 := by omega
      have e3 : 4 * k + 3 < 32 ∨ 36 ≤ 4 * k + 3 := by omega
      have hs : sumTo zs (k + 1) = (sumTo zs k + beV zs (4 * k) 4) % 4294967296 := by rw [sumTo_succ, if_neg h]
      rw [hs, ← ih, beV4]
      rw [bsum_succ, if_pos e3, m3, bsum_succ, if_pos e2, m2, bsum_succ, if_pos e1, m1, bsum_succ, if_pos e0, m0]
      generalize zs.getD (4 * k) 0 = a
      generalize zs.getD (4 * k + 1) 0 = b
      generalize zs.getD (4 * k + 2) 0 = c
      generalize zs.getD (4 * k + 3) 0 = d
      generalize bsum zs (4 * k) = s
      simp only [Nat.sub_self, Nat.sub_zero, Int.pow_zero, show (3 - 1 : Nat) = 2 from rfl, show (3 - 2 : Nat) = 1 from rfl, show (256 : Int) ^ 3 = 16777216 from rfl, show (256 : Int) ^ 2 = 65536 from rfl, show (256 : Int) ^ 1 = 256 from rfl]
      omega
theorem sum_append (a b : List Int) (n : Nat) (ha : a.length = 4 * n) (hn : 9 ≤ n) : ∀ k, 4 * k ≤ b.length → sumTo (a ++ b) (n + k) = (sumTo a n + (sumTo b k + if 9 ≤ k then beV b 32 4 else 0)) % 4294967296
  | 0, _ => by
    have h1 : ∀ m, m ≤ n → sumTo (a ++ b) m = sumTo a m := by
      intro m hm
      induction m with
      | zero => rfl
      | succ m ih =>
        unfold sumTo
        rw [ih (by omega), beV4, beV4]
        have e : ∀ j, j < 4 → (a ++ b).getD (4 * m + j) 0 = a.getD (4 * m + j) 0 := by
          intro j hj
          simp [List.getD_eq_getElem?_getD, List.getElem?_append_left (show 4 * m + j < a.length by omega)]
        have e0 := e 0 (by omega)
        rw [Nat.add_zero] at e0
        rw [e0, e 1 (by omega), e 2 (by omega), e 3 (by omega)]
    have hb := sumTo_bd a n
    rw [Nat.add_zero, h1 n (Nat.le_refl _)]
    simp [sumTo]
    omega
  | k + 1, hk => by
    have ih := sum_append a b n ha hn k (by omega)
    have e : ∀ j, j < 4 → (a ++ b).getD (4 * (n + k) + j) 0 = b.getD (4 * k + j) 0 := by
      intro j hj
      simp only [List.getD_eq_getElem?_getD]
      rw [List.getElem?_append_right (by omega), show 4 * (n + k) + j - a.length = 4 * k + j by omega]
    have hv : beV (a ++ b) (4 * (n + k)) 4 = beV b (4 * k) 4 := by
      have e0 := e 0 (by omega)
      rw [Nat.add_zero, Nat.add_zero] at e0
      rw [beV4, beV4, e0, e 1 (by omega), e 2 (by omega), e 3 (by omega)]
    show sumTo (a ++ b) (n + k + 1) = _
    have hl : sumTo (a ++ b) (n + k + 1) = (sumTo (a ++ b) (n + k) + beV (a ++ b) (4 * (n + k)) 4) % 4294967296 := by
      rw [sumTo_succ, if_neg (by omega)]
    rw [hl, ih, hv]
    have hb := sumTo_bd b k
    by_cases h8 : k = 8
    · subst h8
      have : sumTo b (8 + 1) = sumTo b 8 := by rw [sumTo_succ, if_pos rfl]
      rw [this, if_neg (by omega), if_pos (by omega), show 4 * 8 = 32 from rfl]
      omega
    · have : sumTo b (k + 1) = (sumTo b k + beV b (4 * k) 4) % 4294967296 := by
        rw [sumTo_succ, if_neg h8]
      rw [this]
      by_cases h9 : 9 ≤ k
      · rw [if_pos h9, if_pos (by omega)]
        omega
      · rw [if_neg h9, if_neg (by omega)]
        omega
/-! ### the numbers -/
/-- the first fault of a game's numbers, and its place -/
def numR (v ram ext en st start tab size : Int) : Int × Int :=
  if v < 131072 ∨ 197119 < v then (70, 4)
  else if ram < 256 ∨ ram % 256 ≠ 0 then (71, 8)
  else if ext < ram ∨ ext ≠ size ∨ ext % 256 ≠ 0 then (71, 12)
  else if en < ext ∨ 1048576 < en ∨ en % 256 ≠ 0 then (71, 16)
  else if st = 0 ∨ 65536 < st ∨ st % 256 ≠ 0 then (72, 20)
  else if start < 36 ∨ en ≤ start then (71, 24)
  else if en ≤ tab then (71, 28)
  else (0, 0)
structure Hd where
  v : Int
  ram : Int
  ext : Int
  en : Int
  st : Int
  start : Int
  tab : Int
  sum : Int
def hd0 : Hd := ⟨0, 0, 0, 0, 0, 0, 0, 0⟩
def numH (h : Hd) (size : Int) : Int × Int := numR h.v h.ram h.ext h.en h.st h.start h.tab size
/-- the numbers that stand in a header's bytes -/
def readH (zs : List Int) : Hd := ⟨beV zs 4 4, beV zs 8 4, beV zs 12 4, beV zs 16 4, beV zs 20 4, beV zs 24 4, beV zs 28 4, beV zs 32 4⟩
def glul : List Int := [71, 108, 117, 108]
/-- what any bytes say of themselves as a game -/
def parseH (zs : List Int) : Hd × Int × Int :=
  if 1048576 < zs.length then (hd0, 3, 0)
  else if zs.take 4 ≠ glul.take zs.length then (hd0, 63, 0)
  else if zs.length < 36 then (hd0, 2, zs.length)
  else if (numH (readH zs) zs.length).1 ≠ 0 then (hd0, (numH (readH zs) zs.length).1, (numH (readH zs) zs.length).2)
  else if beV zs 32 4 ≠ sumV zs then (hd0, 73, 32)
  else (readH zs, 0, 36)
end Go.Proofs.Ytpgppdkbkkljnaa
