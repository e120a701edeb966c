/- Layer 15, the program: Write. -/
import Derived.Test.YtmohnopegacahaaS15u
namespace Go.Proofs.Ytmohnopegacahaa
open Go.RowKit
set_option maxHeartbeats 1000000
set_option maxRecDepth 100000
set_option linter.unusedVariables false

set_option maxHeartbeats 4000000 in
theorem write_any {B m : Nat} {w : World} {s : Sh} (h : ShAt B w m s) (ok : OkS s) (hB : B ≤ w.heap.size) (hsum : sumF s.F ≤ 4000000) (i : Nat) (hi : i < s.S.length) (x : Int) (hx : s.S[i].n = x) (hw : wrB s.S[i].md = true) (hpl : s.S[i].pl ≤ gsz s.S[i].f s.S[i].wd (zsOf s s.S[i]))
    (a : Option Addr) (xs : List Nat) (c : Nat) (hr : VRow w a xs.length xs) (hna : ∀ y : Addr, a = some y → ¬ TS m s y.block) (hroom : s.S[i].f = true → roomB s s.S[i] xs.length = true) (hbd : s.S[i].pl + xs.length ≤ 900000) :
    Calls Try.prog 14 #[.pointer (some ⟨m, 0, none⟩), .int .i64 x, .slice a xs.length c] w fun e w' => e = .returned (.int .i64 0) ∧ Hid (WrAt B w m s i s.S[i] (wrAll s.S[i].f s.S[i].wd ⟨s.S[i].pl, s.S[i].wr, zsOf s s.S[i]⟩ xs) w') := by
  have hmem := List.getElem_mem hi
  have HA := hidden (at_some h ok i hi x hx)
  have HWR : Hid (∀ w1, Below w.heap.size w w1 → Calls Try.prog 35 #[.pointer (some ⟨s.S[i].k, 0, none⟩)] w1 fun e w' => e = .returned (.bool true) ∧ w' = w1) := hidden (fun w1 hb => by
    have := writes_any s.S[i] w1 ((h.later hb).ss _ hmem).2
    rw [hw] at this
    exact this)
  have HRM : Hid (∀ w1, Below w.heap.size w w1 → Calls Try.prog 36 #[.pointer (some ⟨m, 0, none⟩), .pointer (some ⟨s.S[i].k, 0, none⟩), .int .i64 xs.length] w1 fun e w' => e = .returned (.bool true) ∧ Hid (Below w.heap.size w w')) := hidden (fun w1 hb => by
    rcases (show s.S[i].f = false ∨ s.S[i].f = true by cases s.S[i].f <;> simp) with hf | hf
    · exact (hasRoom_buf s.S[i] ((h.later hb).ss _ hmem).2 hf xs.length).mono (fun e w' hh => ⟨hh.1, hidden (hb.trans (hh.2.mono hb.size))⟩)
    · have := hasRoom_file (h.later hb) ok hsum s.S[i] hmem hf xs.length (by omega)
      rw [hroom hf] at this
      exact this.mono (fun e w' hh => ⟨hh.1, hidden (hb.trans (hh.2.mono hb.size))⟩))
  have HST : Hid (∀ w1, Below w.heap.size w w1 → WrAt B w m s i s.S[i] (wrAll s.S[i].f s.S[i].wd ⟨s.S[i].pl, s.S[i].wr, zsOf s s.S[i]⟩ (xs.take 0)) w1) := hidden (fun w1 hb => WrAt.start (h.later hb) ok hb i hi)
  have hw4 : wdN s.S[i].wd ≤ 4 := by cases s.S[i].wd <;> decide
  have HSP : Hid (∀ w5 j, j < xs.length → WrAt B w m s i s.S[i] (wrAll s.S[i].f s.S[i].wd ⟨s.S[i].pl, s.S[i].wr, zsOf s s.S[i]⟩ (xs.take j)) w5 → Calls Try.prog 37 #[.pointer (some ⟨s.S[i].k, 0, none⟩), .int .u32 ((xs.getD j 0 : Nat) : Int)] w5 fun e w' => e = .returned (.tuple #[]) ∧ Hid (WrAt B w m s i s.S[i] (wrAll s.S[i].f s.S[i].wd ⟨s.S[i].pl, s.S[i].wr, zsOf s s.S[i]⟩ (xs.take (j + 1))) w')) := hidden (fun w5 j hj hW => by
    rw [wrAll_snoc _ _ _ _ _ hj]
    have h1 := wrAll_pl s.S[i].f s.S[i].wd ⟨s.S[i].pl, s.S[i].wr, zsOf s s.S[i]⟩ (xs.take j) hpl
    have h2 : (wrAll s.S[i].f s.S[i].wd ⟨s.S[i].pl, s.S[i].wr, zsOf s s.S[i]⟩ (xs.take j)).pl ≤ 900000 := by
      refine Nat.le_trans h1.2 ?_
      rw [List.length_take]
      show s.S[i].pl + min j xs.length ≤ 900000
      omega
    refine WrAt.step hi hW hB h1.1 ?_ _ ?_
    · refine Nat.le_trans (Nat.mul_le_mul_left _ hw4) ?_
      omega
    · have : xs.getD j 0 ∈ xs := by
        rw [List.getD_eq_getElem?_getD, List.getElem?_eq_getElem hj]
        exact List.getElem_mem hj
      have := hr.bd _ this
      omega)
  have HVR : Hid (∀ w1 j, WrAt B w m s i s.S[i] (wrAll s.S[i].f s.S[i].wd ⟨s.S[i].pl, s.S[i].wr, zsOf s s.S[i]⟩ (xs.take j)) w1 → VRow w1 a xs.length xs) := hidden (fun w1 j hW => by
    obtain ⟨s5, v5, h5, ok5, f5, _⟩ := hW
    exact hr.fm f5 hna)
  have HXL := hidden (List.take_length (l := xs))
  have hxl : xs.length ≤ 900000 := by omega
  clear h ok hB hsum hx hw hpl hr hna hroom hbd hmem hw4
  generalize hWW : wrAll s.S[i].f s.S[i].wd ⟨s.S[i].pl, s.S[i].wr, zsOf s s.S[i]⟩ = WW at *
  clear hWW
  generalize s.S[i].k = KK at *
  obtain ⟨N, hN⟩ : ∃ N, xs.length = N := ⟨_, rfl⟩
  have HN := hidden hN
  rw [hN] at HRM HSP HVR hxl ⊢
  clear hN
  go_enter Try.func14, Try.ntmps14
  go_upto_region 9 with (first | (go_at_call 31; refine HA.out.mono ?_; rintro e w2 ⟨rfl, hb2⟩; have HB2 := hidden hb2; clear hb2) | (go_at_call 35; refine (HWR.out _ HB2.out).mono ?_; rintro e w3 ⟨rfl, e3⟩; rw [e3]; clear e3) | (go_at_call 36; refine (HRM.out _ HB2.out).mono ?_; rintro e w4 ⟨rfl, HB4⟩) | fail)
  have HS0 := hidden (HST.out w4 HB4.out)
  clear HA HWR HRM HST HB2 HB4
  go_loopw [34] (fun q w' => ∃ j : Nat, j ≤ N ∧ q = .int .i64 j ∧ Hid (WrAt B w m s i s.S[i] (WW (xs.take j)) w')) (fun q _ => N - (intOf q).toNat)
  case atStart => exact ⟨0, by omega, rfl, HS0⟩
  case round =>
    clear HS0
    obtain ⟨j, hj, rfl, HW⟩ := hrel
    by_cases hlt : j < N
    · have l1 : (j : Int) < N := by omega
      have l0 : (0 : Int) ≤ j := by omega
      obtain ⟨ab, ao, ea, e2⟩ := (HVR.out wr j HW.out).cells j hlt
      have HC := hidden (HSP.out wr j hlt HW.out)
      generalize xs.getD j 0 = X at *
      subst ea
      clear HVR HSP HW
      go_wp2_with (first | (go_at_call 37; refine HC.out.mono ?_; rintro e w5 ⟨rfl, H5⟩) | fail)
      go_roundw
      case rel => exact ⟨j + 1, by omega, by first | rfl | go_num, H5⟩
      case measure => simp [intOf]; omega
    · obtain rfl : j = N := by omega
      have l1 : ¬ ((j : Int) < j) := by omega
      have HF : Hid (WrAt B w m s i s.S[i] (WW xs) wr) := hidden (by have := HW.out; rw [List.take_of_length_le (by rw [HN.out]; exact Nat.le_refl _)] at this; exact this)
      clear HVR HSP HW
      go_wp2
      go_ret
      exact ⟨rfl, HF⟩
end Go.Proofs.Ytmohnopegacahaa
