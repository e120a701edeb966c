/- Contract of iff.Id: whether a text has four bytes, each from 20 to 7e. -/
import Derived.Test.YtedihackifchcaaLent
namespace Go.Proofs.Ytedihackifchcaa
open Go.RowKit
set_option maxHeartbeats 1000000
set_option linter.unusedVariables false

def IsId (s : ByteArray) : Prop := s.size = 4 ∧ ∀ k (h : k < s.size), 32 ≤ s[k].toNat ∧ s[k].toNat ≤ 126
def decId (s : ByteArray) : Decidable (IsId s) := by unfold IsId; infer_instance
theorem id_len (s : ByteArray) (w : World) (h : s.size ≠ 4) :
    Calls Try.prog 51 #[.string s] w fun e w' => e = .returned (.bool false) ∧ w' = w := by
  have h1 : ((s.size : Int) != 4) = true := by simp; omega
  go_enter Try.func51, Try.ntmps51
  go_wp2
  go_ret
  exact ⟨rfl, rfl⟩
theorem id_four (s : ByteArray) (w : World) (h : s.size = 4) :
    Calls Try.prog 51 #[.string s] w fun e w' => ((IsId s ∧ e = .returned (.bool true)) ∨ (¬ IsId s ∧ e = .returned (.bool false))) ∧ w' = w := by
  have h1 : ((s.size : Int) != 4) = false := by simp; omega
  go_enter Try.func51, Try.ntmps51
  go_wp2
  go_loop [7] (fun i => ∃ k : Nat, k ≤ 4 ∧ i = .int .i64 k ∧ ∀ j (h : j < s.size), j < k → 32 ≤ s[j].toNat ∧ s[j].toNat ≤ 126) (fun i => 4 - (intOf i).toNat)
  case atStart => exact ⟨0, by omega, rfl, fun j _ h => by omega⟩
  case round =>
    obtain ⟨k, hk, rfl, hd⟩ := hrel
    have HD := hidden hd
    clear hd
    by_cases hlt : k < 4
    · have hlt2 : k < s.size := by omega
      have hlt3 : (k : Int) < 4 := by omega
      have hbyte : s[k].toNat < 256 := s[k].toNat_lt
      have HE : Hid (¬ (32 ≤ s[k].toNat ∧ s[k].toNat ≤ 126) → ¬ IsId s) := hidden fun h h' => h (h'.2 k hlt2)
      by_cases c1 : (s[k].toNat : Int) < 32
      · go_wp2
        go_ret
        exact ⟨.inr ⟨HE.out (by omega), rfl⟩, rfl⟩
      · by_cases c2 : (126 : Int) < (s[k].toNat : Int)
        · go_wp2
          go_ret
          exact ⟨.inr ⟨HE.out (by omega), rfl⟩, rfl⟩
        · go_wp2
          go_round
          case rel =>
            refine ⟨k + 1, by omega, by go_num, fun j hj hjk => ?_⟩
            by_cases e : j = k
            · subst e; omega
            · exact HD.out j hj (by omega)
          case measure => simp [intOf]; omega
    · obtain rfl : k = 4 := by omega
      have HI : Hid (IsId s) := hidden ⟨h, fun j hj => HD.out j hj (by omega)⟩
      go_wp2
      go_ret
      exact ⟨.inl ⟨HI.out, rfl⟩, rfl⟩
theorem id_yes (s : ByteArray) (w : World) (h : IsId s) : Calls Try.prog 51 #[.string s] w fun e w' => e = .returned (.bool true) ∧ w' = w := by
  refine (id_four s w h.1).mono ?_
  rintro e w' ⟨h' | h', hw⟩
  · exact ⟨h'.2, hw⟩
  · exact absurd h h'.1
theorem id_no (s : ByteArray) (w : World) (h : ¬ IsId s) : Calls Try.prog 51 #[.string s] w fun e w' => e = .returned (.bool false) ∧ w' = w := by
  by_cases h4 : s.size = 4
  · refine (id_four s w h4).mono ?_
    rintro e w' ⟨h' | h', hw⟩
    · exact absurd h'.1 h
    · exact ⟨h'.2, hw⟩
  · exact id_len s w h4
end Go.Proofs.Ytedihackifchcaa
