/- The small game of the statements of layer 9, and its memory. -/
import Derived.Test.YtpgppdkbkkljnaaY9M
import Derived.Test.YtpgppdkbkkljnaaH7m
namespace Go.Proofs.Ytpgppdkbkkljnaa
open Go.RowKit
set_option maxHeartbeats 1000000
set_option maxRecDepth 100000
set_option linter.unusedVariables false

def hdN : Hd := ⟨196867, 256, 512, 768, 256, 36, 0, 0⟩
def smallL : List Int := makeL hdN (zer8 476)
theorem smallL_sum : sumV (hdrL hdN ++ zer8 476) = 1198488979 := by kernel_rfl
theorem smallL_ok : OkH hdN := by unfold OkH hdN; decide
theorem smallL_parse : parseH smallL = (⟨196867, 256, 512, 768, 256, 36, 0, 1198488979⟩, 0, 36) := by
  unfold smallL
  rw [make_parse hdN (zer8 476) smallL_ok (by decide) (by decide), smallL_sum]
  rfl
theorem smallL_len : smallL.length = 512 := by unfold smallL; rw [makeL_len, zer8_len]
theorem zer8_okb (k : Nat) : OkB (zer8 k) := fun c hc => by rw [List.eq_of_mem_replicate hc]; decide
theorem smallL_okb : OkB smallL := makeL_ok _ _ (zer8_okb _)
end Go.Proofs.Ytpgppdkbkkljnaa
