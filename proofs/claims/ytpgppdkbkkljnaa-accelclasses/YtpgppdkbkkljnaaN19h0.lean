/- Layer 18: AccelRegions. -/
import Derived.Test.YtpgppdkbkkljnaaA18I
namespace Go.Proofs.Ytpgppdkbkkljnaa
open Go.RowKit
set_option maxHeartbeats 1000000
set_option maxRecDepth 100000
set_option linter.unusedVariables false

/-- a memory of the statements, a row of words beside it -/
def LayP (B : Nat) (w : World) (m : Nat) (bs : List Int) (p : Nat) (xs : List Nat) : Prop := B ≤ w.heap.size ∧ (∃ gb gc bb bc h hv, MAt B w m gb gc bb bc h hv (msF bs) ∧ ¬ Tch m h bb hv p) ∧ PRow w p xs
theorem Lay.withP {B : Nat} {w w1 : World} {m d g p : Nat} {bs : List Int} {xs : List Nat} (h : Lay B w m d g bs) (hb : Below w.heap.size w w1) (hp : w.heap.size ≤ p) (P : PRow w1 p xs) : LayP B w1 m bs p xs := by
  obtain ⟨h0, gb, gc, bb, bc, hh, hv, c, h1, h2, h3⟩ := h
  exact ⟨Nat.le_trans h0 hb.size, ⟨gb, gc, bb, bc, hh, hv, h1.later hb, fun e => by have := (h1.low p e).2; omega⟩, P⟩
theorem LayP.later {B : Nat} {w w' : World} {m p : Nat} {bs : List Int} {xs : List Nat} (h : LayP B w m bs p xs) (hb : Below w.heap.size w w') : LayP B w' m bs p xs := by
  obtain ⟨h0, ⟨gb, gc, bb, bc, hh, hv, h1, h2⟩, h3⟩ := h
  exact ⟨Nat.le_trans h0 hb.size, ⟨gb, gc, bb, bc, hh, hv, h1.later hb, h2⟩, h3.later hb⟩
theorem LayP.memr {B : Nat} {w : World} {m p : Nat} {bs : List Int} {xs : List Nat} (h : LayP B w m bs p xs) (hb : OkB bs) (hl : bs.length ≤ 1048576) : MemR w m bs 256 := by
  obtain ⟨h0, ⟨gb, gc, bb, bc, hh, hv, h1, h2⟩, h3⟩ := h
  exact ⟨⟨B, gb, gc, bb, bc, hh, hv, msF bs, h1, rfl, rfl⟩, hb, hl, by decide⟩
def wr1 (bs : List Int) (a : Nat) (x : Int) : List Int := if 256 ≤ a ∧ a < bs.length then splice bs a [x] else bs
theorem LayP.write {B : Nat} {w : World} {m p : Nat} {bs : List Int} {xs : List Nat} (h : LayP B w m bs p xs) (a : Nat) (x : Int) (ha : a < 4294967296) (hb : bs.length ≤ 1048576) (x0 : 0 ≤ x) (x1 : x ≤ 255) :
    Calls Try.prog 17 #[.pointer (some ⟨m, 0, none⟩), .int .u32 a, .int .i64 1, .int .u32 x] w fun e w' => (∃ v, e = .returned v) ∧ LayP B w' m (wr1 bs a x) p xs ∧ Below B w w' := by
  obtain ⟨h0, ⟨gb, gc, bb, bc, hh, hv, h1, h2⟩, h3⟩ := h
  by_cases hin : 256 ≤ a ∧ a < bs.length
  · have hc : chgR (msF bs).ram (msF bs).bytes.length a 1 = true := by
      show chgR 256 bs.length a 1 = true
      simp [chgR, hasR]; omega
    refine (write_ok B m gb gc bb bc hh hv (msF bs) a 1 x w h1 (.inl rfl) ha hb hc).mono ?_
    rintro e w' ⟨rfl, bb', bc', h', hv', H', f⟩
    have hp : putL x (1 : Nat) = [x] := by simp [putL]; omega
    have H2 : MAt B w' m gb gc bb' bc' h' hv' (msF (splice bs a [x])) := by
      have : { msF bs with bytes := splice (msF bs).bytes a (putL x (1 : Nat)) } = msF (splice bs a [x]) := by rw [hp]; rfl
      rw [this] at H'
      exact H'
    have hBl : Below B w w' := f.below h0 (fun k e => (h1.low k e).1)
    refine ⟨⟨_, rfl⟩, ?_, hBl⟩
    unfold wr1
    rw [if_pos hin]
    exact ⟨Nat.le_trans h0 hBl.size, ⟨gb, gc, bb', bc', h', hv', H2, fun e => by rcases f.row p e with e1 | e1; exact h2 e1; have := h3.lt; omega⟩, (f.block p h3.lt h2).trans h3⟩
  · have hc : chgR (msF bs).ram (msF bs).bytes.length a 1 = false := by
      show chgR 256 bs.length a 1 = false
      simp [chgR, hasR]; omega
    refine (write_no B m gb gc bb bc hh hv (msF bs) a 1 x w h1 (.inl rfl) ha (by show bs.length < _; omega) hc).mono ?_
    rintro e w' ⟨rfl, rfl⟩
    refine ⟨⟨_, rfl⟩, ?_, Below.refl _ _⟩
    unfold wr1
    rw [if_neg hin]
    exact ⟨h0, ⟨gb, gc, bb, bc, hh, hv, h1, h2⟩, h3⟩
theorem wr1_ok {bs : List Int} (h : OkB bs) (a : Nat) (x : Int) (x0 : 0 ≤ x) (x1 : x ≤ 255) : OkB (wr1 bs a x) := by
  unfold wr1
  split
  · exact okb_splice h (by intro c hc; simp at hc; omega) _
  · exact h
theorem wr1_len (bs : List Int) (a : Nat) (x : Int) : (wr1 bs a x).length = bs.length := by
  unfold wr1
  split
  · rw [splice_len _ _ _ (by simp; omega)]
  · rfl
theorem vrow1 (w : World) (x : Nat) (hx : x < 4294967296) : VRow (w.alloc (.cells #[.int .u32 (x : Int)] 26)) (some ⟨w.heap.size, 0, none⟩) 1 [x] := by
  have h : PRow (w.alloc (.cells (wdV [x]).toArray 26)) w.heap.size [x] := PRow.new w _
  exact h.row (by intro z hz; simp at hz; omega) 1 (by simp)
theorem doA_reg (bs : List Int) (a : Nat) : doA bs 256 z9 1 [a] = ⟨regJ ⟨bs, 256, z9, 7⟩ a, 0, 0⟩ := rfl
theorem par9_nil : par9 [] = z9 := rfl
theorem MemR.read {w : World} {m ram : Nat} {bs : List Int} (h : MemR w m bs ram) (a n : Nat) (hn : n = 1 ∨ n = 2 ∨ n = 4) (ha : a < 4294967296) :
    Calls Try.prog 18 #[.pointer (some ⟨m, 0, none⟩), .int .u32 a, .int .i64 n] w fun e w' => e = .returned (.tuple #[.int .u32 (rdA bs a n).x, .int .i64 (rdA bs a n).e]) ∧ w' = w := by
  obtain ⟨⟨B, gb, gc, bb, bc, hh, hv, s, H, h1, h2⟩, h3, h4, h5⟩ := h
  unfold rdA
  by_cases hc : a + n ≤ bs.length
  · rw [if_pos hc, ← (rdN_cast h3 a n hn).1]
    have := read_ok B m gb gc bb bc hh hv s a n w H hn ha (by rw [h1]; exact h4) (by rw [h1]; exact h3) (by rw [h1]; exact hc)
    rw [h1] at this
    exact this
  · rw [if_neg hc]
    exact read_no B m gb gc bb bc hh hv s a n w H hn ha (by rw [h1]; exact h4) (by rw [h1]; omega)
end Go.Proofs.Ytpgppdkbkkljnaa
