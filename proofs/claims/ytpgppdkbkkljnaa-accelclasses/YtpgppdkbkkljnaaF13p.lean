/- Layer 13 (find): searches, their options, and what is found, as plain functions of a memory's bytes. -/
import Derived.Test.YtpgppdkbkkljnaaH7a
import Derived.Lib.Bytealg
import Derived.Lib.BytesEntry
namespace Go.Proofs.Ytpgppdkbkkljnaa
open Go.RowKit
set_option maxHeartbeats 1000000
set_option maxRecDepth 100000
set_option linter.unusedVariables false

/-- a search -/
structure Sr where
  key : Nat
  ks : Nat
  start : Nat
  size : Nat
  cnt : Nat
  off : Nat
  nxt : Nat
  opt : Nat
structure Sr.ok (s : Sr) : Prop where
  key : s.key < 4294967296
  ks : s.ks < 4294967296
  start : s.start < 4294967296
  size : s.size < 4294967296
  cnt : s.cnt < 4294967296
  off : s.off < 4294967296
  nxt : s.nxt < 4294967296
  opt : s.opt < 4294967296
/-- is an option among them? -/
def optB (x o : Nat) : Bool := decide (x / o % 2 = 1)
theorem and_u32 (a b : Nat) (ha : a < 4294967296) (hb : b < 4294967296) : Go.bits .and .u32 (a : Int) (b : Int) = ((a &&& b : Nat) : Int) := by
  have hx : a &&& b < 2 ^ 32 := Nat.and_lt_two_pow _ (by omega)
  have h1 : (BitVec.ofInt 32 (a : Int)).toNat = a := by
    rw [BitVec.ofInt_natCast, BitVec.toNat_ofNat]; exact Nat.mod_eq_of_lt (by omega)
  have h2 : (BitVec.ofInt 32 (b : Int)).toNat = b := by
    rw [BitVec.ofInt_natCast, BitVec.toNat_ofNat]; exact Nat.mod_eq_of_lt (by omega)
  show IntKind.u32.wrap ((BitVec.ofInt 32 (a : Int) &&& BitVec.ofInt 32 (b : Int)).toNat : Int) = _
  rw [BitVec.toNat_and, h1, h2, IntKind.wrap_u32]
  omega
theorem and_pow (a i : Nat) : a &&& 2 ^ i = (a / 2 ^ i % 2) * 2 ^ i := by
  have h6 : a / 2 ^ i % 2 = (a.testBit i).toNat := by rw [Nat.testBit_eq_decide_div_mod_eq]; rcases Nat.mod_two_eq_zero_or_one (a / 2 ^ i) with h | h <;> simp [h]
  rw [h6]
  apply Nat.eq_of_testBit_eq; intro j
  rw [Nat.testBit_and, Nat.testBit_two_pow]
  by_cases hj : i = j
  · subst hj; cases h : a.testBit i <;> simp
  · cases h : a.testBit i <;> simp [hj]
theorem opt_bits (x o : Nat) (hx : x < 4294967296) (ho : o = 1 ∨ o = 2 ∨ o = 4) : Go.bits .and .u32 (x : Int) (o : Int) = if optB x o then (o : Int) else 0 := by
  rw [and_u32 x o hx (by omega)]
  obtain ⟨i, rfl⟩ : ∃ i, o = 2 ^ i := by
    rcases ho with rfl | rfl | rfl
    · exact ⟨0, rfl⟩
    · exact ⟨1, rfl⟩
    · exact ⟨2, rfl⟩
  rw [and_pow]
  unfold optB
  rcases Nat.mod_two_eq_zero_or_one (x / 2 ^ i) with e | e <;> simp [e]
def clr4 (x : Nat) : Nat := x &&& 4294967291
theorem clr4_lt (x : Nat) : clr4 x < 4294967296 := Nat.lt_of_le_of_lt Nat.and_le_right (by omega)
theorem optB_bit (x i : Nat) : optB x (2 ^ i) = x.testBit i := by
  unfold optB
  rw [Nat.testBit_eq_decide_div_mod_eq]
theorem clr4_1 (x : Nat) : optB (clr4 x) 1 = optB x 1 := by
  have h1 := optB_bit (clr4 x) 0
  have h2 := optB_bit x 0
  rw [Nat.pow_zero] at h1 h2
  rw [h1, h2, clr4, Nat.testBit_and, show Nat.testBit 4294967291 0 = true by decide, Bool.and_true]
theorem clr4_2 (x : Nat) : optB (clr4 x) 2 = optB x 2 := by
  have h1 := optB_bit (clr4 x) 1
  have h2 := optB_bit x 1
  rw [Nat.pow_one] at h1 h2
  rw [h1, h2, clr4, Nat.testBit_and, show Nat.testBit 4294967291 1 = true by decide, Bool.and_true]
theorem clr4_4 (x : Nat) : optB (clr4 x) 4 = false := by
  have h1 := optB_bit (clr4 x) 2
  rw [show 2 ^ 2 = 4 from rfl] at h1
  rw [h1, clr4, Nat.testBit_and, show Nat.testBit 4294967291 2 = false by decide, Bool.and_false]
theorem clr4_bits (x : Nat) (hx : x < 4294967296) : bits .andNot .u32 (x : Int) 4 = (clr4 x : Int) := by
  rw [u32_andNot _ _ (by omega) (by omega) (by decide) (by decide)]
  rfl
/-- can a key be so long? -/
def mayK (s : Sr) : Bool := if optB s.opt 1 then decide (s.ks ≤ 256) else decide (s.ks = 1 ∨ s.ks = 2 ∨ s.ks = 4)
/-- are so many bytes there? -/
def tkE (L a n : Nat) : Int := if n = 0 ∨ a + n ≤ L then 0 else 90
def keyE (s : Sr) (L : Nat) : Int := if mayK s then (if optB s.opt 1 then tkE L s.key s.ks else 0) else 130
def keyL (s : Sr) (bs : List Int) : List Int := if optB s.opt 1 then seg bs s.key s.ks else putL s.key s.ks
/-- of a way through the structures: an error, none, or which one and where -/
inductive Rs where
  | bad (e : Int)
  | no
  | at_ (i a : Nat)
def wr32 (x : Nat) : Nat := x % 4294967296
def spA (s : Sr) (i : Nat) : Nat := wr32 (s.start + wr32 (i * s.size))
def kyE (s : Sr) (L a : Nat) : Int := tkE L (wr32 (a + s.off)) s.ks
def kyL (s : Sr) (bs : List Int) (a : Nat) : List Int := seg bs (wr32 (a + s.off)) s.ks
def allZ (l : List Int) : Bool := l.all (fun x => decide (x = 0))
def endZ (s : Sr) (l : List Int) : Bool := optB s.opt 2 && allZ l
def linF (bs : List Int) (s : Sr) (key : List Int) : Nat → Nat → Rs
  | 0, _ => .no
  | f + 1, i => if kyE s bs.length (spA s i) ≠ 0 then .bad 90
    else if kyL s bs (spA s i) = key then .at_ i (spA s i)
    else if endZ s (kyL s bs (spA s i)) = true ∨ s.size = 0 then .no
    else linF bs s key f (i + 1)
/-- how two rows of bytes compare -/
def cmpI (xs ys : List Int) : Int := Lib.compareBytes (Lib.bytesOf xs) (Lib.bytesOf ys)
def binF (bs : List Int) (s : Sr) (key : List Int) : Nat → Nat → Nat → Rs
  | 0, _, _ => .no
  | f + 1, lo, hi => if lo < hi then
      (if kyE s bs.length (spA s (lo + (hi - lo) / 2)) ≠ 0 then .bad 90
       else if kyL s bs (spA s (lo + (hi - lo) / 2)) = key then .at_ (lo + (hi - lo) / 2) (spA s (lo + (hi - lo) / 2))
       else if cmpI (kyL s bs (spA s (lo + (hi - lo) / 2))) key < 0 then binF bs s key f (lo + (hi - lo) / 2 + 1) hi
       else binF bs s key f lo (lo + (hi - lo) / 2))
      else .no
def nxA (s : Sr) (a : Nat) : Nat := wr32 (a + s.nxt)
def chF (bs : List Int) (s : Sr) (key : List Int) : Nat → Nat → Nat → Rs
  | f, i, a => if a = 0 then .no else match f with
    | 0 => .bad 131
    | f + 1 => if kyE s bs.length a ≠ 0 then .bad 90
      else if kyL s bs a = key then .at_ i a
      else if endZ s (kyL s bs a) = true then .no
      else if bs.length < nxA s a + 4 then .bad 90
      else chF bs s key f (i + 1) (beV bs (nxA s a) 4).toNat
/-- what is told -/
def tellR (s : Sr) : Rs → Nat × Int
  | .bad e => (0, e)
  | .no => (if optB s.opt 4 then 4294967295 else 0, 0)
  | .at_ i a => (if optB s.opt 4 then i else a, 0)
def linV (bs : List Int) (s : Sr) : Nat × Int := if keyE s bs.length ≠ 0 then (0, keyE s bs.length) else tellR s (linF bs s (keyL s bs) s.cnt 0)
def binV (bs : List Int) (s : Sr) : Nat × Int := if keyE s bs.length ≠ 0 then (0, keyE s bs.length) else tellR s (binF bs s (keyL s bs) s.cnt 0 s.cnt)
def s4 (s : Sr) : Sr := { s with opt := clr4 s.opt }
def chnV (bs : List Int) (s : Sr) : Nat × Int := if keyE (s4 s) bs.length ≠ 0 then (0, keyE (s4 s) bs.length) else tellR (s4 s) (chF bs (s4 s) (keyL (s4 s) bs) 65536 0 s.start)
theorem compare_zero : ∀ (a b : List UInt8), a.length = b.length → (Lib.compareBytes a b = 0 ↔ a = b)
  | [], [], _ => by simp [Lib.compareBytes]
  | [], _ :: _, h => by simp at h
  | _ :: _, [], h => by simp at h
  | x :: a, y :: b, h => by
    have ih := compare_zero a b (by simpa using h)
    unfold Lib.compareBytes
    by_cases h1 : x < y
    · have : x ≠ y := fun e => by subst e; exact UInt8.lt_irrefl x h1
      simp [h1, this]
    · by_cases h2 : y < x
      · have : x ≠ y := fun e => by subst e; exact UInt8.lt_irrefl x h2
        simp [h1, h2, this]
      · have : x = y := UInt8.le_antisymm (UInt8.not_lt.1 h2) (UInt8.not_lt.1 h1)
        subst this; simp [h1, ih]
theorem bytesOf_inj : ∀ (xs ys : List Int), OkB xs → OkB ys → Lib.bytesOf xs = Lib.bytesOf ys → xs = ys
  | [], [], _, _, _ => rfl
  | [], _ :: _, _, _, h => by simp [Lib.bytesOf] at h
  | _ :: _, [], _, _, h => by simp [Lib.bytesOf] at h
  | x :: xs, y :: ys, hx, hy, h => by
    simp only [Lib.bytesOf, List.map_cons, List.cons.injEq] at h
    have h1 := hx x (by simp)
    have h2 := hy y (by simp)
    have h3 := congrArg UInt8.toNat h.1
    have e1 : x = y := by
      simp at h3
      omega
    rw [e1, bytesOf_inj xs ys (fun c hc => hx c (by simp [hc])) (fun c hc => hy c (by simp [hc])) h.2]
theorem cmpI_zero (xs ys : List Int) (hx : OkB xs) (hy : OkB ys) (hl : xs.length = ys.length) : cmpI xs ys = 0 ↔ xs = ys := by
  unfold cmpI
  rw [compare_zero _ _ (by simp [Lib.bytesOf, hl])]
  exact ⟨bytesOf_inj xs ys hx hy, fun e => by rw [e]⟩
theorem wr32_lt (x : Nat) : wr32 x < 4294967296 := Nat.mod_lt _ (by omega)
theorem wr32_id (x : Nat) (h : x < 4294967296) : wr32 x = x := Nat.mod_eq_of_lt h
theorem seg_zero (zs : List Int) (a : Nat) : seg zs a 0 = [] := by simp [seg]
theorem tk_len {zs : List Int} {a n : Nat} (h : tkE zs.length a n = 0) : (seg zs a n).length = n := by
  unfold tkE at h
  split at h
  · rename_i h1
    rcases h1 with rfl | h1
    · simp [seg]
    · exact seg_len _ _ _ h1
  · exact absurd h (by decide)
theorem seg_ok {zs : List Int} (h : OkB zs) (a n : Nat) : OkB (seg zs a n) := fun c hc => h c (List.mem_of_mem_drop (List.mem_of_mem_take hc))
theorem tkE_or (L a n : Nat) : tkE L a n = 0 ∨ tkE L a n = 90 := by unfold tkE; split <;> simp
end Go.Proofs.Ytpgppdkbkkljnaa
