/- Contract of carry of package memory, for any two rows. -/
import Derived.Test.YtpgppdkbkkljnaaY9e
namespace Go.Proofs.Ytpgppdkbkkljnaa
open Go.RowKit
set_option maxHeartbeats 1000000
set_option maxRecDepth 100000
set_option linter.unusedVariables false

/-- the bytes of a row, with a span of another row's laid over them -/
def carL (pf pt : Nat) (zs ys : List Int) : List Int := splice ys (min pf (min zs.length ys.length)) (seg zs (min pf (min zs.length ys.length)) (min pt (min zs.length ys.length) - min pf (min zs.length ys.length)))
theorem carL_same (pf pt : Nat) (zs ys : List Int) (h : min pt (min zs.length ys.length) ≤ min pf (min zs.length ys.length)) : carL pf pt zs ys = ys := by
  unfold carL
  rw [Nat.sub_eq_zero_of_le h]
  simp [seg, splice]
theorem carry_any (b o L c g L2 c2 pf pt : Nat) (zs ys : List Int) (B : Nat) (w : World) (hr : Bs w b o L zs) (hc : L ≤ c) (ho : w.ownsRow B 5 1 (.slice (some ⟨g, 0, none⟩) L2 c2) L2 (bytesV ys)) (hL : L ≤ 4294967296) (hL2 : L2 ≤ 4294967296) (hpp : pf ≤ pt) (hp : pt ≤ 8589934592) :
    Calls Try.prog 75 #[.agg #[.int .u64 pf, .int .u64 pt], .slice (some ⟨b, o, none⟩) L c, .slice (some ⟨g, 0, none⟩) L2 c2] w fun e w' => e = .returned (.tuple #[]) ∧ w'.ownsRow B 5 1 (.slice (some ⟨g, 0, none⟩) L2 c2) L2 (bytesV (carL pf pt zs ys)) ∧ Fm w w' (fun x => x = g) (fun x => x = g) := by
  have hzl := hr.1
  have hyl : ys.length = L2 := (own8_cur ho).choose_spec.2.2.2.2.2.2
  by_cases hz : min pt (min L L2) ≤ min pf (min L L2)
  · rw [carL_same pf pt zs ys (by rw [hzl, hyl]; exact hz)]
    have fin : Calls Try.prog 75 #[.agg #[.int .u64 pf, .int .u64 pt], .slice (some ⟨b, o, none⟩) L c, .slice (some ⟨g, 0, none⟩) L2 c2] w (fun e w' => e = .returned (.tuple #[]) ∧ w'.ownsRow B 5 1 (.slice (some ⟨g, 0, none⟩) L2 c2) L2 (bytesV ys) ∧ Below w.heap.size w w') := by
      rcases Nat.lt_or_ge L2 L with hlt | hge
      · have hl' : L2 < L := by omega
        by_cases ha : L2 < pf
        · by_cases n1 : c2 = L2
          · by_cases n2 : c = L2
            · exact absurd n2 (by omega)
            · rw [n1] at ho ⊢; exact carry_z1ayn ⟨b, o, none⟩ L2 L pf pt c g ys B w (by omega) ho hL hL2 hl' (by omega) hpp hp n2
          · by_cases n2 : c = L2
            · exact absurd n2 (by omega)
            · exact carry_z1ann ⟨b, o, none⟩ L2 L pf pt c2 c g ys B w (by omega) ho hL hL2 hl' (by omega) hpp hp n1 n2
        · by_cases hb : pt = pf
          · rw [hb]
            by_cases n1 : c2 = pf
            · by_cases n2 : c = pf
              · exact absurd n2 (by omega)
              · rw [n1] at ho ⊢; exact carry_z1byn ⟨b, o, none⟩ L2 L pf c g ys B w (by omega) ho hL hL2 hl' (by omega) n2
            · by_cases n2 : c = pf
              · exact absurd n2 (by omega)
              · exact carry_z1bnn ⟨b, o, none⟩ L2 L pf c2 c g ys B w (by omega) ho hL hL2 hl' (by omega) n1 n2
          · obtain hbb : pf = L2 := by omega
            rw [hbb]
            have hpE : L2 < pt := by omega
            by_cases n1 : c2 = L2
            · by_cases n2 : c = L2
              · exact absurd n2 (by omega)
              · rw [n1] at ho ⊢; exact carry_z1cyn ⟨b, o, none⟩ L2 L pt c g ys B w (by omega) ho hL hL2 hl' (by omega) hp n2
            · by_cases n2 : c = L2
              · exact absurd n2 (by omega)
              · exact carry_z1cnn ⟨b, o, none⟩ L2 L pt c2 c g ys B w (by omega) ho hL hL2 hl' (by omega) hp n1 n2
      · have hl' : L ≤ L2 := by omega
        by_cases ha : L < pf
        · by_cases n1 : c2 = L
          · by_cases n2 : c = L
            · rw [n1] at ho ⊢; rw [n2]; exact carry_z0ayy ⟨b, o, none⟩ L L2 pf pt g ys B w (by omega) ho hL hL2 hl' (by omega) hpp hp
            · rw [n1] at ho ⊢; exact carry_z0ayn ⟨b, o, none⟩ L L2 pf pt c g ys B w (by omega) ho hL hL2 hl' (by omega) hpp hp n2
          · by_cases n2 : c = L
            · rw [n2]; exact carry_z0any ⟨b, o, none⟩ L L2 pf pt c2 g ys B w (by omega) ho hL hL2 hl' (by omega) hpp hp n1
            · exact carry_z0ann ⟨b, o, none⟩ L L2 pf pt c2 c g ys B w (by omega) ho hL hL2 hl' (by omega) hpp hp n1 n2
        · by_cases hb : pt = pf
          · rw [hb]
            by_cases n1 : c2 = pf
            · by_cases n2 : c = pf
              · rw [n1] at ho ⊢; rw [n2]; exact carry_z0byy ⟨b, o, none⟩ L L2 pf g ys B w (by omega) ho hL hL2 hl' (by omega)
              · rw [n1] at ho ⊢; exact carry_z0byn ⟨b, o, none⟩ L L2 pf c g ys B w (by omega) ho hL hL2 hl' (by omega) n2
            · by_cases n2 : c = pf
              · rw [n2]; exact carry_z0bny ⟨b, o, none⟩ L L2 pf c2 g ys B w (by omega) ho hL hL2 hl' (by omega) n1
              · exact carry_z0bnn ⟨b, o, none⟩ L L2 pf c2 c g ys B w (by omega) ho hL hL2 hl' (by omega) n1 n2
          · obtain hbb : pf = L := by omega
            rw [hbb]
            have hpE : L < pt := by omega
            by_cases n1 : c2 = L
            · by_cases n2 : c = L
              · rw [n1] at ho ⊢; rw [n2]; exact carry_z0cyy ⟨b, o, none⟩ L L2 pt g ys B w (by omega) ho hL hL2 hl' (by omega) hp
              · rw [n1] at ho ⊢; exact carry_z0cyn ⟨b, o, none⟩ L L2 pt c g ys B w (by omega) ho hL hL2 hl' (by omega) hp n2
            · by_cases n2 : c = L
              · rw [n2]; exact carry_z0cny ⟨b, o, none⟩ L L2 pt c2 g ys B w (by omega) ho hL hL2 hl' (by omega) hp n1
              · exact carry_z0cnn ⟨b, o, none⟩ L L2 pt c2 c g ys B w (by omega) ho hL hL2 hl' (by omega) hp n1 n2
    refine fin.mono ?_
    rintro e w' ⟨rfl, h1, h2⟩
    exact ⟨rfl, h1, Fm.same h2⟩
  · have hpf : min pf (min L L2) = pf := by omega
    unfold carL
    rw [hzl, hyl, hpf]
    rcases Nat.lt_or_ge L2 L with hlt | hge
    · have e1 : min L L2 = L2 := by omega
      rw [e1]
      rcases Nat.lt_or_ge L2 pt with h2 | h2
      · rw [show min pt L2 = L2 by omega]; exact carry_3 b o L2 L pt c g c2 pf zs ys B w hr hc ho hL hL2 hlt h2 (by omega) hp
      · rw [show min pt L2 = pt by omega]; exact carry_2 b o L2 L pt c g c2 pf zs ys B w hr hc ho hL hL2 hlt h2 (by omega) hp
    · have e1 : min L L2 = L := by omega
      rw [e1]
      rcases Nat.lt_or_ge L pt with h2 | h2
      · rw [show min pt L = L by omega]; exact carry_1 b o L L2 pt c g c2 pf zs ys B w hr hc ho hL hL2 hge h2 (by omega) hp
      · rw [show min pt L = pt by omega]; exact carry_0 b o L L2 pt c g c2 pf zs ys B w hr hc ho hL hL2 hge h2 (by omega) hp

end Go.Proofs.Ytpgppdkbkkljnaa
