/- Layer 7, lists alone: what is made says what it was made of. -/
import Derived.Test.YtpgppdkbkkljnaaH7j
namespace Go.Proofs.Ytpgppdkbkkljnaa
open Go.RowKit
set_option maxHeartbeats 1000000
set_option maxRecDepth 100000
set_option linter.unusedVariables false

def OkH (h : Hd) : Prop := (0 ≤ h.v ∧ h.v ≤ 4294967295) ∧ (0 ≤ h.ram ∧ h.ram ≤ 4294967295) ∧ (0 ≤ h.ext ∧ h.ext ≤ 4294967295) ∧ (0 ≤ h.en ∧ h.en ≤ 4294967295) ∧ (0 ≤ h.st ∧ h.st ≤ 4294967295) ∧ (0 ≤ h.start ∧ h.start ≤ 4294967295) ∧ (0 ≤ h.tab ∧ h.tab ≤ 4294967295) ∧ (0 ≤ h.sum ∧ h.sum ≤ 4294967295)
theorem read_hdr (h : Hd) (zs : List Int) (ok : OkH h) : readH (hdrL h ++ zs) = h := by
  obtain ⟨v, ram, ext, en, st, start, tab, sm⟩ := h
  obtain ⟨h0, h1, h2, h3, h4, h5, h6, h7⟩ := ok
  dsimp only at h0 h1 h2 h3 h4 h5 h6 h7
  have key : ∀ x : Int, 0 ≤ x ∧ x ≤ 4294967295 → 16777216 * (x / 16777216 % 256) + 65536 * (x / 65536 % 256) + 256 * (x / 256 % 256) + x % 256 = x := by intro x hx; omega
  unfold readH
  simp only [beV4]
  rw [Hd.mk.injEq]
  exact ⟨key v h0, key ram h1, key ext h2, key en h3, key st h4, key start h5, key tab h6, key sm h7⟩
theorem sum_congr (a b : List Int) : ∀ k, (∀ i, (i < 32 ∨ 36 ≤ i) → a.getD i 0 = b.getD i 0) → sumTo a k = sumTo b k
  | 0, _ => rfl
  | k + 1, h => by
    rw [sumTo_succ, sumTo_succ, sum_congr a b k h]
    by_cases h8 : k = 8
    · rw [if_pos h8, if_pos h8]
    · rw [if_neg h8, if_neg h8, beV4, beV4, h (4 * k) (by omega), h (4 * k + 1) (by omega), h (4 * k + 2) (by omega), h (4 * k + 3) (by omega)]
theorem hdr_far (h : Hd) (zs : List Int) (i : Nat) (hi : 36 ≤ i) : (hdrL h ++ zs).getD i 0 = zs.getD (i - 36) 0 := by
  simp only [List.getD_eq_getElem?_getD]
  rw [List.getElem?_append_right (by rw [hdrL_len]; exact hi), hdrL_len]
theorem hdr_near (h : Hd) (zs : List Int) (i : Nat) (hi : i < 32) : (hdrL h ++ zs).getD i 0 = (hd32 h).getD i 0 := by
  rw [hdr_parts, List.append_assoc]
  simp only [List.getD_eq_getElem?_getD]
  rw [List.getElem?_append_left (by rw [hd32_len]; exact hi)]
theorem hdr_getD (h : Hd) (zs : List Int) (S : Int) (i : Nat) (hi : i < 32 ∨ 36 ≤ i) : (hdrL h ++ zs).getD i 0 = (hdrL { h with sum := S } ++ zs).getD i 0 := by
  rcases hi with hi | hi
  · rw [hdr_near h zs i hi, hdr_near _ zs i hi]
    rfl
  · rw [hdr_far h zs i hi, hdr_far _ zs i hi]
theorem make_sum (h : Hd) (zs : List Int) : sumV (makeL h zs) = sumV (hdrL h ++ zs) := by
  unfold makeL sumV
  rw [List.length_append, List.length_append, hdrL_len, hdrL_len]
  exact (sum_congr _ _ _ (fun i hi => hdr_getD h zs _ i hi)).symm
theorem make_parse (h : Hd) (zs : List Int) (ok : OkH h) (hz : zs.length ≤ 1048540) (hn : (numH h (36 + zs.length)).1 = 0) : parseH (makeL h zs) = ({ h with sum := sumV (hdrL h ++ zs) }, 0, 36) := by
  have hbd := sumTo_bd (hdrL h ++ zs) ((hdrL h ++ zs).length / 4)
  have ok' : OkH { h with sum := sumV (hdrL h ++ zs) } := ⟨ok.1, ok.2.1, ok.2.2.1, ok.2.2.2.1, ok.2.2.2.2.1, ok.2.2.2.2.2.1, ok.2.2.2.2.2.2.1, hbd⟩
  have hr : readH (makeL h zs) = { h with sum := sumV (hdrL h ++ zs) } := read_hdr _ zs ok'
  have hl := makeL_len h zs
  have hl2 : ((makeL h zs).length : Int) = 36 + (zs.length : Int) := by rw [hl]; omega
  have hg : (makeL h zs).take 4 = glul.take (makeL h zs).length := by
    rw [hl, glul_min, show min (36 + zs.length) 4 = 4 by omega]
    rfl
  have hs : beV (makeL h zs) 32 4 = sumV (makeL h zs) := by
    rw [make_sum]
    exact congrArg Hd.sum hr
  unfold parseH
  rw [if_neg (by omega), if_neg (not_not_intro hg), if_neg (by omega), hr, hl2]
  have hn' : (numH { h with sum := sumV (hdrL h ++ zs) } (36 + (zs.length : Int))).1 = 0 := hn
  rw [if_neg (not_not_intro hn'), if_neg (not_not_intro hs)]
/-- the page's small game -/
def hdS : Hd := ⟨196867, 256, 256, 512, 256, 36, 0, 0⟩
def zer : List Int := List.replicate 220 0
theorem small_sum : sumV (hdrL hdS ++ zer) = 1198488467 := by kernel_rfl
theorem small_num : numR 196867 256 256 512 256 36 0 (36 + (220 : Nat)) = (0, 0) := by decide
theorem small_ok : OkH hdS := by unfold OkH hdS; decide
theorem zer_ok : OkB zer := fun c hc => by rw [List.eq_of_mem_replicate hc]; decide
theorem small_parse : parseH (makeL hdS zer) = (⟨196867, 256, 256, 512, 256, 36, 0, 1198488467⟩, 0, 36) := by
  rw [make_parse hdS zer small_ok (by decide) (by decide), small_sum]
  rfl
theorem small_sumV : sumV (makeL hdS zer) = 1198488467 := by rw [make_sum, small_sum]
theorem glux_parse : parseH [71, 108, 117, 120] = (hd0, 63, 0) := by
  unfold parseH
  rw [if_neg (by decide), if_pos (by decide)]
end Go.Proofs.Ytpgppdkbkkljnaa
