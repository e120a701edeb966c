/- The document's Decode of any bytes at any place. -/
import Derived.Test.YtpkfmccnjandoaaB11h
import Derived.Test.YtpkfmccnjandoaaB11i
import Derived.Test.YtpkfmccnjandoaaB11j
namespace Go.Proofs.Ytpkfmccnjandoaa
open Go.RowKit
set_option maxHeartbeats 1000000
set_option maxRecDepth 100000
set_option linter.unusedVariables false

theorem ddec_any (a : Option Addr) (n c : Nat) (at_ : Int) (zs : List Int) (w : World) (hr : Reads w a n c zs) (hb : OkB zs) (hn : n ≤ 1000000) (ha : at_ ≤ 9223372036854775807) :
    Calls Try.prog 12 #[.slice a n c, .int .i64 at_] w fun e w' => DRet w w' (decR zs at_) e := by
  have hl := hr.1
  have hc := hr.2.1
  unfold decR
  by_cases h0 : at_ < 0
  · rw [if_pos h0]
    exact ddec_neg _ at_ w h0
  rw [if_neg h0]
  obtain ⟨p, rfl⟩ := Int.eq_ofNat_of_zero_le (by omega : 0 ≤ at_)
  rw [Int.toNat_natCast]
  by_cases hp : n ≤ p
  · have e : numO zs p = none := by unfold numO; rw [if_pos (by omega)]
    rw [e]
    exact ddec_far a n c p w hn hp ha
  obtain ⟨g, o, rfl, hB⟩ := hr.bs (by omega)
  have bx := okb_at hb p
  have nb := num_bd zs hb p
  have hF := form_cases (zs.getD p 0)
  obtain ⟨F, OFF, hfr⟩ : ∃ F OFF, formR (zs.getD p 0) = (F, OFF) := ⟨_, _, rfl⟩
  have hnum : numO zs p = if n < p + F then none else some (beV zs p F - OFF, p + F) := by
    unfold numO
    rw [if_neg (by omega), hl, hfr]
  rw [hfr] at nb hF
  simp only at nb hF
  rw [hnum]
  by_cases hcut : n < p + F
  · rw [if_pos hcut]
    exact ddec_cut g o n c p F _ w hn (by omega) bx (by rw [hfr]) hcut (hB.2 p (by omega))
  rw [if_neg hcut]
  have hbe : ∀ wx, Below w.heap.size w wx → Calls Try.prog 29 #[.slice (some ⟨g, o, none⟩) n c, .int .i64 p, .int .i64 F] wx fun e w' => e = .returned (.tuple #[.int .u32 (beV zs p F), .int .i64 0]) ∧ w' = wx := fun wx hx => dbe_any g o n c p F zs wx (hB.later hx) hb hc hn hF (by omega)
  have hsg := fun wx => dsig_any (beV zs p F - OFF) wx
  simp only
  cases hsig : opR (beV zs p F - OFF) with
  | none =>
    rw [hsig] at hsg
    exact ddec_sig g o n c p F _ (beV zs p F) OFF _ _ false w hn (by omega) bx hfr nb (hB.2 p (by omega)) hbe hsg rfl (by decide) (fun h => by cases h)
  | some r =>
    rw [hsig] at hsg
    have hm : r ∈ tab := by unfold opR at hsig; exact List.mem_of_find?_eq_some hsig
    have hr8 : r.2.2.length ≤ 8 := tab_short hm
    have hlet := fun i hi => tab_letters hm i hi
    have hsz : (⟨r.2.2.toArray⟩ : ByteArray).size = r.2.2.length := by simp [ByteArray.size]
    simp only
    generalize hMK : (r.2.2.length + 1) / 2 = MK at *
    by_cases hmk : n < p + F + MK
    · have e : argR zs r.2.2 (p + F) = (90, [], 0) := by
        have h : mdsE zs r.2.2 (p + F) = 90 := by unfold mdsE; rw [hl, hMK, if_pos hmk]
        unfold argR
        rw [h, if_pos (by decide)]
      rw [e, if_neg (by decide)]
      exact ddec_sig g o n c p F _ (beV zs p F) OFF ⟨r.2.2.toArray⟩ MK true w hn (by omega) bx hfr nb (hB.2 p (by omega)) hbe hsg (by rw [hsz]; exact hMK) (by rw [hsz]; exact hr8) (fun _ => hmk)
    · have hmd : mdsE zs r.2.2 (p + F) = if allMay r.2.2 (nibL zs (p + F) r.2.2.length) then 0 else 111 := by unfold mdsE; rw [hl, hMK, if_neg hmk]
      obtain ⟨RES, hRES⟩ : ∃ RES, (if (argR zs r.2.2 (p + F)).1 = 0 then ((0 : Int), beV zs p F - OFF, (argR zs r.2.2 (p + F)).2.1, ((argR zs r.2.2 (p + F)).2.2 : Int) - (p : Int)) else ((argR zs r.2.2 (p + F)).1, 0, [], 0)) = RES := ⟨_, rfl⟩
      rw [hRES]
      have hr0 : allMay r.2.2 (nibL zs (p + F) r.2.2.length) = false → RES = (111, 0, [], 0) := fun h => by
        rw [← hRES]
        have e : argR zs r.2.2 (p + F) = (111, [], 0) := by
          unfold argR
          rw [hmd, h, if_pos (by decide)]; rfl
        rw [e, if_neg (by decide)]
      have hr1 : allMay r.2.2 (nibL zs (p + F) r.2.2.length) = true → argsO zs (nibL zs (p + F) r.2.2.length) (p + F + MK) = none → RES = (90, 0, [], 0) := fun h h2 => by
        rw [← hRES]
        have e : argR zs r.2.2 (p + F) = (90, [], 0) := by
          unfold argR
          rw [hmd, h, if_neg (by decide), hMK, h2]
        rw [e, if_neg (by decide)]
      have hr2 : ∀ l q, allMay r.2.2 (nibL zs (p + F) r.2.2.length) = true → argsO zs (nibL zs (p + F) r.2.2.length) (p + F + MK) = some (l, q) → RES = (0, beV zs p F - OFF, l, (q : Int) - p) := fun l q h h2 => by
        rw [← hRES]
        have e : argR zs r.2.2 (p + F) = (0, l, q) := by
          unfold argR
          rw [hmd, h, if_neg (by decide), hMK, h2]
        rw [e, if_pos rfl]
      clear hRES hmd hnum hsig
      have hf2 := hfr
      unfold formR at hf2
      by_cases h1 : zs.getD p 0 < 128
      · rw [if_pos h1] at hf2
        cases hf2
        rw [Int.sub_zero] at nb hr2 hsg
        exact ddec_go1 g o n c p _ (beV zs p (1 : Nat)) zs r.2.2 MK RES w hn hc (by omega) bx h1 nb hB hb rfl hbe hsg hMK hr8 hlet hr0 hr1 hr2
      · rw [if_neg h1] at hf2
        by_cases h2 : zs.getD p 0 < 192
        · rw [if_pos h2] at hf2
          cases hf2
          exact ddec_go2 g o n c p _ (beV zs p (2 : Nat)) zs r.2.2 MK RES w hn hc (by omega) bx h1 h2 nb hB hb rfl hbe hsg hMK hr8 hlet hr0 hr1 hr2
        · rw [if_neg h2] at hf2
          cases hf2
          exact ddec_go4 g o n c p _ (beV zs p (4 : Nat)) zs r.2.2 MK RES w hn hc (by omega) bx h1 h2 nb hB hb rfl hbe hsg hMK hr8 hlet hr0 hr1 hr2
end Go.Proofs.Ytpkfmccnjandoaa
