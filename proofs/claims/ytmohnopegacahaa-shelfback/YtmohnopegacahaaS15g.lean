/- Layer 15, the program: a stream found by its number. -/
import Derived.Test.YtmohnopegacahaaS15e
namespace Go.Proofs.Ytmohnopegacahaa
open Go.RowKit
set_option maxHeartbeats 1000000
set_option maxRecDepth 100000
set_option linter.unusedVariables false

def ptrsV (L : List Sm) : List Value := L.map (fun d => Value.pointer (some ⟨d.k, 0, none⟩))
theorem prow_cell {B E : Nat} {w : World} {g c : Nat} {L : List Sm} (h : w.ownsRow B E 1 (.slice (some ⟨g, 0, none⟩) L.length c) L.length (ptrsV L)) (i : Nat) (hi : i < L.length) : w.cell? ⟨g, i, none⟩ = some (.pointer (some ⟨L[i].k, 0, none⟩)) := by
  have := h.cells (g := g) rfl i (.pointer (some ⟨L[i].k, 0, none⟩)) (by simp [ptrsV, hi])
  rwa [Addr.add_lit, Nat.zero_add] at this
def cmpI (x y : Int) : Int := if x < y then -1 else if y < x then 1 else 0
theorem isNaN_any (x : Int) (w : World) : Calls Try.prog 63 #[.int .i64 x] w fun e w' => e = .returned (.bool false) ∧ w' = w := by
  go_enter Try.func63, Try.ntmps63
  go_wp2
  go_ret
  exact ⟨by simp, rfl⟩
theorem compare_any (x y : Int) (w : World) : Calls Try.prog 52 #[.int .i64 x, .int .i64 y] w fun e w' => e = .returned (.int .i64 (cmpI x y)) ∧ w' = w := by
  unfold cmpI
  rcases (show x < y ∨ y < x ∨ x = y by omega) with h | h | h
  · rw [if_pos h]
    go_enter Try.func52, Try.ntmps52
    go_wp2_with (go_at_call 63; refine (isNaN_any _ _).mono ?_; rintro e w' ⟨rfl, rfl⟩)
    go_ret
    exact ⟨rfl, rfl⟩
  · have h' : ¬ x < y := by omega
    rw [if_neg h', if_pos h]
    go_enter Try.func52, Try.ntmps52
    go_wp2_with (go_at_call 63; refine (isNaN_any _ _).mono ?_; rintro e w' ⟨rfl, rfl⟩)
    go_ret
    exact ⟨rfl, rfl⟩
  · subst h
    rw [if_neg (by omega), if_neg (by omega)]
    have h' : ¬ x < x := by omega
    go_enter Try.func52, Try.ntmps52
    go_wp2_with (go_at_call 63; refine (isNaN_any _ _).mono ?_; rintro e w' ⟨rfl, rfl⟩)
    go_ret
    exact ⟨rfl, rfl⟩
theorem at1_any (d : Sm) (x : Int) (w : World) (hs : SBox w d) : Calls Try.prog 51 #[.pointer (some ⟨d.k, 0, none⟩), .int .i64 x] w fun e w' => e = .returned (.int .i64 (cmpI d.n x)) ∧ w' = w := by
  obtain ⟨c0, c1, c2, c3, c4, c5, c6, z0⟩ := hs.cells
  clear hs c1 c2 c3 c4 c5 c6
  go_enter Try.func51, Try.ntmps51
  go_wp2_with (go_at_call 52; refine (compare_any _ _ _).mono ?_; rintro e w' ⟨rfl, rfl⟩)
  go_ret
  exact ⟨rfl, rfl⟩
structure Sorted (L : List Sm) : Prop where
  rise : ∀ i j, i < j → ∀ (hj : j < L.length) (hi : i < L.length), L[i].n < L[j].n
def SRet (w : World) (L : List Sm) (x : Int) (e : Ending) (w' : World) : Prop := ∃ (i : Nat) (b : Bool), e = .returned (.tuple #[.int .i64 i, .bool b]) ∧ ((b = true ∧ ∃ h : i < L.length, L[i].n = x) ∨ (b = false ∧ ∀ d ∈ L, d.n ≠ x)) ∧ Below w.heap.size w w'
set_option maxHeartbeats 4000000 in
theorem search_any (g c : Nat) (L : List Sm) (x : Int) (w : World) (B : Nat) (h : w.ownsRow B 76 1 (.slice (some ⟨g, 0, none⟩) L.length c) L.length (ptrsV L)) (hbx : ∀ d ∈ L, SBox w d) (hs : Sorted L) (hn : L.length ≤ 1000) :
    Calls Try.prog 50 #[.slice (some ⟨g, 0, none⟩) L.length c, .int .i64 x, .func (.func 51) #[] #[]] w (SRet w L x) := by
  have HO := hidden h
  have HX := hidden hbx
  clear h hbx
  go_enter Try.func50, Try.ntmps50
  go_upto_region 3 with fail
  go_loopw [9, 10] (fun a b w' => ∃ i j : Nat, i ≤ j ∧ j ≤ L.length ∧ a = .int .i64 i ∧ b = .int .i64 j ∧ Hid (∀ k (hk : k < L.length), k < i → L[k].n < x) ∧ Hid (∀ k (hk : k < L.length), j ≤ k → x ≤ L[k].n) ∧ Hid (Below w.heap.size w w')) (fun a b _ => (intOf b - intOf a).toNat)
  case atStart => exact ⟨0, L.length, by omega, by omega, rfl, rfl, hidden (fun k hk h => by omega), hidden (fun k hk h => by omega), hidden (Below.refl _ _)⟩
  case round =>
    obtain ⟨i, j, hij, hj, rfl, rfl, hlo, hhi, hB⟩ := hrel
    by_cases hlt : i < j
    · have l1 : (i : Int) < j := by omega
      obtain ⟨H, hH⟩ : ∃ H, H = (i + j) / 2 := ⟨_, rfl⟩
      have e1 : ((i : Int) + (j : Int)) / 2 = (H : Int) := by omega
      have hHl : H < L.length := by omega
      have HH1 := hidden (show i ≤ H ∧ H < j by omega)
      have c0 := prow_cell (own_later HO.out hB.out) H hHl
      have HBX := hidden ((HX.out _ (List.getElem_mem hHl)).later hB.out)
      have HD : Hid (∀ k (hk : k < L.length), (k < H → L[k].n < L[H].n) ∧ (H < k → L[H].n < L[k].n)) := hidden (fun k hk => ⟨fun q => hs.rise k H q hHl hk, fun q => hs.rise H k q hk hHl⟩)
      obtain ⟨d, HDE⟩ : ∃ d, Hid (L[H] = d) := ⟨_, hidden rfl⟩
      rw [HDE.out] at c0 HBX
      have HD0 := HD
      clear HD
      have HD : Hid (∀ k (hk : k < L.length), (k < H → L[k].n < d.n) ∧ (H < k → d.n < L[k].n)) := by rw [← HDE.out]; exact HD0
      clear HD0
      clear hH
      obtain ⟨CC, hCC⟩ : ∃ CC, cmpI d.n x = CC := ⟨_, rfl⟩
      have HC : Hid (∀ w1 : World, SBox w1 d → Calls Try.prog 51 #[.pointer (some ⟨d.k, 0, none⟩), .int .i64 x] w1 fun e w' => e = .returned (.int .i64 CC) ∧ Below w1.heap.size w1 w') := hidden (fun w1 hq => by rw [← hCC]; exact (at1_any d x w1 hq).mono (fun e w' hh => ⟨hh.1, by rw [hh.2]; exact Below.refl _ _⟩))
      have HHI : Hid (¬ d.n < x → ∀ k (hk : k < L.length), H ≤ k → x ≤ L[k].n) := hidden (fun q k hk q2 => by
        by_cases e : H = k
        · subst e; rw [HDE.out]; omega
        · have := (HD.out k hk).2 (by omega); omega)
      have HLO : Hid (d.n < x → ∀ k (hk : k < L.length), k < H + 1 → L[k].n < x) := hidden (fun q k hk q2 => by
        by_cases e : H = k
        · subst e; rw [HDE.out]; exact q
        · have := (HD.out k hk).1 (by omega); omega)
      by_cases hc : d.n < x
      · have l2 : CC < 0 := by rw [← hCC]; unfold cmpI; rw [if_pos hc]; omega
        have HL1 := hidden (HLO.out hc)
        clear hCC hc HHI HLO HD HDE
        go_wp2_with (first | (go_at_call 51; refine (HC.out _ (by first | exact HBX.out | exact HBX.out.later ((Below.refl _ _).drew))).mono ?_; rintro e w2 ⟨rfl, hb2⟩; have HB2 := hidden (hB.out.trans (hb2.mono hB.out.size)); clear hb2) | fail)
        go_roundw
        case rel => exact ⟨H + 1, j, by have := HH1.out; omega, hj, by first | rfl | go_num, rfl, HL1, hhi, HB2⟩
        case measure => have := HH1.out; simp [intOf]; omega
      · have l2 : ¬ CC < 0 := by rw [← hCC]; unfold cmpI; rw [if_neg hc]; split <;> omega
        have HL1 := hidden (HHI.out hc)
        clear hCC hc HHI HLO HD HDE
        go_wp2_with (first | (go_at_call 51; refine (HC.out _ (by first | exact HBX.out | exact HBX.out.later ((Below.refl _ _).drew))).mono ?_; rintro e w2 ⟨rfl, hb2⟩; have HB2 := hidden (hB.out.trans (hb2.mono hB.out.size)); clear hb2) | fail)
        go_roundw
        case rel => exact ⟨i, H, by have := HH1.out; omega, by omega, rfl, by first | rfl | go_num, hlo, HL1, HB2⟩
        case measure => have := HH1.out; simp [intOf]; omega
    · obtain rfl : i = j := by omega
      have l1 : ¬ ((i : Int) < i) := by omega
      by_cases hi : i < L.length
      · have l2 : (i : Int) < L.length := by omega
        have c0 := prow_cell (own_later HO.out hB.out) i hi
        have HBX := hidden ((HX.out _ (List.getElem_mem hi)).later hB.out)
        have HXX := hidden (hhi.out i hi (Nat.le_refl _))
        have HNE : Hid (L[i].n ≠ x → ∀ d ∈ L, d.n ≠ x) := hidden (fun q d hd => by
          obtain ⟨k, hk, rfl⟩ := List.getElem_of_mem hd
          rcases (show k < i ∨ k = i ∨ i < k by omega) with e | e | e
          · have := hlo.out k hk e; omega
          · subst e; exact q
          · have h1 := hs.rise i k e hk hi
            have h2 := hhi.out i hi (Nat.le_refl _)
            omega)
        have HEQ : Hid (L[i].n = x → ∃ h : i < L.length, L[i].n = x) := hidden (fun q => ⟨hi, q⟩)
        obtain ⟨d, HDE⟩ : ∃ d, Hid (L[i] = d) := ⟨_, hidden rfl⟩
        rw [HDE.out] at c0 HXX HNE HEQ HBX
        obtain ⟨CC, hCC⟩ : ∃ CC, cmpI d.n x = CC := ⟨_, rfl⟩
        have HC : Hid (∀ w1 : World, SBox w1 d → Calls Try.prog 51 #[.pointer (some ⟨d.k, 0, none⟩), .int .i64 x] w1 fun e w' => e = .returned (.int .i64 CC) ∧ Below w1.heap.size w1 w') := hidden (fun w1 hq => by rw [← hCC]; exact (at1_any d x w1 hq).mono (fun e w' hh => ⟨hh.1, by rw [hh.2]; exact Below.refl _ _⟩))
        obtain ⟨BB, hBB⟩ : ∃ BB, (CC == 0) = BB := ⟨_, rfl⟩
        have HR : Hid ((BB = true ∧ ∃ h : i < L.length, L[i].n = x) ∨ (BB = false ∧ ∀ d ∈ L, d.n ≠ x)) := hidden (by
          by_cases q : d.n = x
          · refine .inl ⟨?_, hi, by rw [HDE.out]; exact q⟩
            rw [← hBB, ← hCC, q]; simp [cmpI]
          · refine .inr ⟨?_, HNE.out q⟩
            rw [← hBB, ← hCC]
            have hx := HXX.out
            unfold cmpI
            rw [if_neg (by omega), if_pos (by omega)]; rfl)
        clear hCC HNE HEQ HXX HX HDE hlo hhi hlt hij hj hs
        go_wp2_with (first | (go_at_call 51; refine (HC.out _ (by first | exact HBX.out | exact HBX.out.later ((Below.refl _ _).drew))).mono ?_; rintro e w2 ⟨rfl, hb2⟩; have HB2 := hidden (hB.out.trans (hb2.mono hB.out.size)); clear hb2) | fail)
        go_ret2
        exact ⟨i, BB, rfl, HR.out, HB2.out⟩
      · have l2 : ¬ ((i : Int) < L.length) := by omega
        have HR : Hid (∀ d ∈ L, d.n ≠ x) := hidden (fun d hd => by
          obtain ⟨k, hk, rfl⟩ := List.getElem_of_mem hd
          have := hlo.out k hk (by omega)
          omega)
        clear hlo hhi hlt hij hj hs
        go_wp2_with fail
        go_ret2
        exact ⟨i, false, rfl, .inr ⟨rfl, HR.out⟩, hB.out⟩
end Go.Proofs.Ytmohnopegacahaa
