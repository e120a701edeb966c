/- Contracts of the document's own Decimal (package grottoref01): for every word it tells the same digits as package word's; at most new memory is made. -/
import Derived.Test.YtckkbiohkflknabDoorNumber
import Derived.WalkLawsBesides
import Derived.Laws.BytesArg
namespace Go.Proofs.YtckkbiohkflknabDoor
open Go.RowKit
set_option maxHeartbeats 1000000

theorem of_any (n : Int) (w : World) :
    Calls Tryd.prog 21 #[.int .i64 n] w fun e w' => e = .returned (.int .u32 (n % 4294967296)) ∧ w' = w := by
  go_enter Tryd.func21, Tryd.ntmps21
  go_wp2
  go_ret
  refine ⟨ret_int ?_, rfl⟩
  rw [and32]; omega
theorem int_any (n : Int) (w : World) (h0 : 0 ≤ n) (h1 : n ≤ 4294967295) :
    Calls Tryd.prog 23 #[.int .u32 n] w fun e w' => e = .returned (.int .i64 (wrap32 n)) ∧ w' = w := by
  go_enter Tryd.func23, Tryd.ntmps23
  go_wp2
  all_goals
    go_ret
    refine ⟨ret_int ?_, rfl⟩
    unfold wrap32; omega
theorem abs_any (n : Int) (w : World) (h0 : -9223372036854775807 ≤ n) (h1 : n ≤ 9223372036854775807) :
    Calls Tryd.prog 24 #[.int .i64 n] w fun e w' => e = .returned (.int .i64 n.natAbs) ∧ w' = w := by
  go_enter Tryd.func24, Tryd.ntmps24
  go_wp2
  all_goals
    go_ret
    refine ⟨ret_int ?_, rfl⟩
    omega
theorem ret_str {a b : List UInt8} (h : a = b) : Ending.returned (.string ⟨a.toArray⟩) = .returned (.string ⟨b.toArray⟩) := by rw [h]
theorem str_cons (c : UInt8) (l : List UInt8) : (⟨#[c]⟩ : ByteArray) ++ (⟨l.toArray⟩ : ByteArray) = ⟨(c :: l).toArray⟩ := by
  apply Go.WideShapes.bytes_inj
  rw [Go.Joins.data_append]
  simp
/-- the digits that are still to come in front, ahead of those that are there -/
def decOf (m : Nat) : List UInt8 := if m = 0 then [] else Lib.decDigits m
theorem decOf_step (m : Nat) (h : 0 < m) (l : List UInt8) : decOf m ++ l = decOf (m / 10) ++ (UInt8.ofNat (48 + m % 10) :: l) := by
  unfold decOf
  rw [if_neg (by omega)]
  by_cases h10 : m < 10
  · rw [if_pos (by omega), Lib.decDigits, dif_pos h10, Nat.mod_eq_of_lt h10]; rfl
  · rw [if_neg (by omega), Lib.decDigits, dif_neg h10]; simp
theorem decR_any (x : Int) (w : World) (x0 : 0 ≤ x) (x1 : x ≤ 4294967295) :
    Calls Tryd.prog 10 #[.int .u32 x] w fun e w' => e = .returned (.string ⟨(Lib.itoa (wrap32 x)).toArray⟩) ∧ Below w.heap.size w w' := by
  have hr := wrap32_range x
  by_cases hz : wrap32 x = 0
  · have hz2 : (wrap32 x == 0) = true := by simpa using hz
    have e : Hid (Lib.itoa (wrap32 x) = [48]) := hidden (by rw [hz]; decide +kernel)
    clear hz
    go_enter Tryd.func10, Tryd.ntmps10
    go_wp2_with (go_at_call 23; refine (int_any _ _ x0 x1).mono ?_; rintro e w' ⟨rfl, rfl⟩)
    go_ret
    exact ⟨ret_str e.out.symm, Below.refl _ _⟩
  · have hz2 : (wrap32 x == 0) = false := by simpa using hz
    have hm : 0 < (wrap32 x).natAbs := by omega
    have hmb : (wrap32 x).natAbs ≤ 2147483648 := by omega
    have hll := hidden (dec_len (wrap32 x).natAbs (by omega))
    have hend : Hid (∀ l : List UInt8, l = Lib.decDigits (wrap32 x).natAbs → Lib.itoa (wrap32 x) = if wrap32 x < 0 then 45 :: l else l) := hidden fun l hl => by
      subst hl
      unfold Lib.itoa
      split
      · rfl
      · congr 1; omega
    clear hz
    go_enter Tryd.func10, Tryd.ntmps10
    go_wp2_with (first | (go_at_call 23; refine (int_any _ _ x0 x1).mono ?_; rintro e w1 ⟨rfl, hw⟩; obtain rfl := hw.symm) | (go_at_call 24; refine (abs_any _ _ (by omega) (by omega)).mono ?_; rintro e w1 ⟨rfl, hw⟩; obtain rfl := hw.symm))
    go_loopw [4, 5] (fun m s w' => ∃ (k : Nat) (l : List UInt8), k ≤ 2147483648 ∧ m = .int .i64 k ∧ s = .string ⟨l.toArray⟩ ∧ decOf k ++ l = Lib.decDigits (wrap32 x).natAbs ∧ Below w.heap.size w w') (fun m _ _ => (intOf m).toNat)
    case atStart => exact ⟨_, [], hmb, rfl, rfl, by rw [decOf, if_neg (by omega)]; simp, Below.refl _ _⟩
    case round =>
      obtain ⟨k, l, hk, rfl, rfl, hd, hbl⟩ := hrel
      have HD := hidden hd
      have hlen : l.length ≤ 10 := by
        have h1 := congrArg List.length hd
        have h2 := hll.out
        simp only [List.length_append] at h1
        omega
      clear hd
      by_cases hp : 0 < k
      · have hp2 : (0 : Int) < (k : Int) := by omega
        have hcv := run_convert_bytes_arg (P := Tryd.prog) (wr.alloc (.cells #[.int .u8 (48 + (k : Int) % 10)] 5)) 33 5 Tryd.underlying33 Tryd.underlying5 wr.heap.size 0 1 1 [48 + (k : Int) % 10] rfl (fun i hi => by
          obtain rfl : i = 0 := by omega
          simp) 9 Tryd.underlying9
        have hst : strOfNums [48 + (k : Int) % 10] = ⟨#[UInt8.ofNat (48 + k % 10)]⟩ := by
          have e : (48 + (k : Int) % 10).toNat = 48 + k % 10 := by omega
          simp [strOfNums, e]
        rw [hst] at hcv
        clear hst
        have hds := hidden (decOf_step k hp l)
        generalize UInt8.ofNat (48 + k % 10) = c at hcv hds
        go_wp2
        go_roundw
        case rel => exact ⟨k / 10, c :: l, by omega, by go_num, by rw [str_cons], by rw [← hds.out]; exact HD.out, hbl.alloc hbl.size _⟩
        case measure => simp [intOf]; omega
      · obtain rfl : k = 0 := by omega
        have hl2 : l = Lib.decDigits (wrap32 x).natAbs := by simpa [decOf, Hid] using HD
        have hit := hidden (hend.out l hl2)
        clear hl2 hend HD
        by_cases hn : wrap32 x < 0
        · go_wp2
          go_ret
          refine ⟨?_, hbl⟩
          have := hit.out
          rw [if_pos hn] at this
          rw [this, ← str_cons]
          rfl
        · go_wp2
          go_ret
          refine ⟨?_, hbl⟩
          have := hit.out
          rw [if_neg (by omega)] at this
          rw [this]
          rfl
end Go.Proofs.YtckkbiohkflknabDoor
