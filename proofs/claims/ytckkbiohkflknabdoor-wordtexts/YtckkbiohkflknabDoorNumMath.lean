/- Plain facts on texts of digits (no program in it). -/
import Derived.Test.YtckkbiohkflknabDoorDigits
import Derived.Test.YtckkbiohkflknabDoorMath
import Derived.Laws.Strings
namespace Go.Proofs.YtckkbiohkflknabDoor
open Go.RowKit
set_option maxHeartbeats 1000000

/-- what reading a text comes to -/
def NumPost (l : List UInt8) (e : Ending) : Prop :=
  (∃ v : Int, -2147483648 ≤ v ∧ v ≤ 2147483647 ∧ Lib.itoa v = l ∧ e = .returned (.tuple #[.int .u32 (v % 4294967296), .bool true])) ∨
  ((∀ v : Int, -2147483648 ≤ v → v ≤ 2147483647 → Lib.itoa v ≠ l) ∧ e = .returned (.tuple #[.int .u32 0, .bool false]))
theorem int_eq {k : IntKind} {a b : Int} (h : a = b) : Value.int k a = Value.int k b := by rw [h]
theorem itoa_len (v : Int) (h0 : -2147483648 ≤ v) (h1 : v ≤ 2147483647) : (Lib.itoa v).length ≤ 11 := by
  unfold Lib.itoa
  split
  · have := dec_len v.natAbs (by omega)
    simp; omega
  · have := dec_len v.toNat (by omega)
    omega
theorem itoa_minus (v : Int) (r : List UInt8) (h : Lib.itoa v = 45 :: r) : v < 0 ∧ r = Lib.decDigits v.natAbs := by
  unfold Lib.itoa at h
  split at h
  · exact ⟨by assumption, ((List.cons.inj h).2).symm⟩
  · obtain ⟨c, r', hcr, hc1, hc2⟩ := dec_head v.toNat
    rw [hcr] at h
    have e := (List.cons.inj h).1
    subst e
    have e45 : (45 : UInt8).toNat = 45 := rfl
    omega
theorem itoa_plain (v : Int) (c : UInt8) (r : List UInt8) (hc : c ≠ 45) (h : Lib.itoa v = c :: r) : 0 ≤ v ∧ c :: r = Lib.decDigits v.toNat := by
  unfold Lib.itoa at h
  split at h
  · exact absurd (List.cons.inj h).1.symm hc
  · exact ⟨by omega, h.symm⟩
/-- the bytes from place a up to place k -/
def seg (s : ByteArray) (a k : Nat) : List UInt8 := (s.data.toList.take k).drop a
theorem seg_snoc (s : ByteArray) (a k : Nat) (ha : a ≤ k) (h : k < s.size) : seg s a (k + 1) = seg s a k ++ [s[k]] := by
  unfold seg
  have hl : s.data.toList.length = s.size := by simp
  rw [List.take_succ_eq_append_getElem (by simpa using h), List.drop_append_of_le_length (by rw [List.length_take]; omega)]
  rfl
theorem seg_start (s : ByteArray) (a : Nat) : seg s a a = [] := by
  unfold seg
  exact List.drop_eq_nil_of_le (List.length_take_le _ _)
theorem seg_end (s : ByteArray) (a : Nat) : seg s a s.size = s.data.toList.drop a := by
  unfold seg
  rw [List.take_of_length_le (by simp)]
theorem seg_len (s : ByteArray) (a k : Nat) : (seg s a k).length ≤ k := by
  unfold seg
  simp; omega
theorem seg_mem (s : ByteArray) (a k : Nat) (ha : a ≤ k) (h : k < s.size) : s[k] ∈ s.data.toList.drop a := by
  rw [← seg_end]
  have hh : ∀ m, k + 1 + m ≤ s.size → s[k] ∈ seg s a (k + 1 + m) := by
    intro m
    induction m with
    | zero => intro _; rw [Nat.add_zero, seg_snoc s a k ha h]; simp
    | succ m ih =>
      intro hm
      rw [← Nat.add_assoc, seg_snoc s a (k + 1 + m) (by omega) (by omega)]
      exact List.mem_append_left _ (ih (by omega))
  have := hh (s.size - (k + 1)) (by omega)
  rwa [show k + 1 + (s.size - (k + 1)) = s.size by omega] at this
theorem pow_step (A B p : Nat) (h : A ≤ B * 10) : A * p ≤ B * (p * 10) := by
  rw [Nat.mul_comm p 10, ← Nat.mul_assoc]
  exact Nat.mul_le_mul_right _ h
theorem dval_lt (l : List UInt8) : ∀ acc : Nat, allDig l → dval acc l < (acc + 1) * 10 ^ l.length := by
  induction l with
  | nil => intro acc _; show acc < (acc + 1) * 10 ^ 0; omega
  | cons c r ih =>
    intro acc hd
    have hc := hd c (List.mem_cons_self ..)
    have h1 := ih (acc * 10 + (c.toNat - 48)) (fun x hx => hd x (List.mem_cons_of_mem _ hx))
    have h2 := pow_step (acc * 10 + (c.toNat - 48) + 1) (acc + 1) (10 ^ r.length) (by omega)
    have h3 : dval acc (c :: r) = dval (acc * 10 + (c.toNat - 48)) r := rfl
    rw [h3, List.length_cons, Nat.pow_succ]
    exact Nat.lt_of_lt_of_le h1 h2
theorem ten11 : (10 : Nat) ^ 11 = 100000000000 := by decide +kernel
theorem seg_bd (s : ByteArray) (a k : Nat) (hd : allDig (seg s a k)) (hk : k ≤ 11) : dval 0 (seg s a k) < 100000000000 := by
  have h1 := dval_lt (seg s a k) 0 hd
  have h2 := seg_len s a k
  have h3 : 10 ^ (seg s a k).length ≤ 10 ^ 11 := Nat.pow_le_pow_right (by decide) (by omega)
  rw [ten11] at h3
  rw [Nat.zero_add, Nat.one_mul] at h1
  exact Nat.lt_of_lt_of_le h1 h3
theorem allDig_nil : allDig [] := fun _ hc => by cases hc
theorem snoc_dig (s : ByteArray) (a k : Nat) (ha : a ≤ k) (h : k < s.size) (hd : allDig (seg s a k)) (hc : 48 ≤ s[k].toNat ∧ s[k].toNat ≤ 57) : allDig (seg s a (k + 1)) := by
  rw [seg_snoc s a k ha h]
  intro c hm
  rcases List.mem_append.1 hm with hm | hm
  · exact hd c hm
  · simp only [List.mem_singleton] at hm
    subst hm; exact hc
/-- if the text is an integer's digits, what stands behind the sign are that integer's digits -/
theorem shape (s : ByteArray) (hpos : 0 < s.size) (v : Int) (h : Lib.itoa v = s.data.toList) :
    (((s[0].toNat : Int) == 45) = true → v < 0 ∧ s.data.toList.drop 1 = Lib.decDigits v.natAbs) ∧
    (((s[0].toNat : Int) == 45) = false → 0 ≤ v ∧ s.data.toList.drop 0 = Lib.decDigits v.natAbs) := by
  have hl : s.data.toList = s[0] :: s.data.toList.drop 1 := by
    have h := List.drop_eq_getElem_cons (l := s.data.toList) (i := 0) (by simpa using hpos)
    rw [List.drop_zero] at h
    exact h
  constructor
  · intro h45
    have e : s[0] = 45 := by
      have h1 : (s[0].toNat : Int) = 45 := by simpa using h45
      have h2 : s[0].toNat = (45 : UInt8).toNat := by have : (45 : UInt8).toNat = 45 := rfl; omega
      exact UInt8.toNat_inj.1 h2
    rw [hl, e] at h
    exact itoa_minus v _ h
  · intro h45
    have e : s[0] ≠ 45 := by
      intro e
      rw [e] at h45
      simp at h45
    have h2 := h
    rw [hl] at h2
    obtain ⟨h3, h4⟩ := itoa_plain v _ _ e h2
    refine ⟨h3, ?_⟩
    rw [List.drop_zero, ← h]
    unfold Lib.itoa
    rw [if_neg (by omega)]
    congr 1; omega
theorem not_long (s : ByteArray) (h : 11 < s.size) : ∀ v : Int, -2147483648 ≤ v → v ≤ 2147483647 → Lib.itoa v ≠ s.data.toList := by
  intro v h0 h1 e
  have := itoa_len v h0 h1
  rw [e] at this
  simp at this
  omega
theorem tl (s : ByteArray) : s.toList = s.data.toList := Go.ByteArray.toList_eq s
end Go.Proofs.YtckkbiohkflknabDoor
