/- Layer 15, the program: Seek. -/
import Derived.Test.YtmohnopegacahaaW15d
namespace Go.Proofs.Ytmohnopegacahaa
open Go.RowKit
set_option maxHeartbeats 1000000
set_option maxRecDepth 100000
set_option linter.unusedVariables false

theorem PtR.of_str {B m i : Nat} {w w1 w' : World} {s : Sh} (h : ShAt B w m s) (ok : OkS s) (hi : i < s.S.length) (hb : Below w.heap.size w w1) (d : Sm) (hk : d.k = s.S[i].k) (hs : StR w1 d w') : PtR B w m s i d w' :=
  ⟨(h.later hb).setS ok i hi d hk hs, hs.1, (Fm.same hb).trans hs.2⟩
/-- where a place is counted from -/
def frmN (d : Sm) (size : Nat) (frm : Int) : Nat := if frm = 0 then 0 else if frm = 1 then d.pl else size
def skD (s : Sh) (d : Sm) (place frm : Int) : Sm := { d with pl := mvN (gsz d.f d.wd (zsOf s d)) (frmN d (gsz d.f d.wd (zsOf s d)) frm : Nat) place }
theorem seek_bad {B m : Nat} {s : Sh} {w : World} (h : ShAt B w m s) (ok : OkS s) (i : Nat) (hi : i < s.S.length) (x : Int) (hx : s.S[i].n = x) (place frm : Int) (hf : frm ≠ 0 ∧ frm ≠ 1 ∧ frm ≠ 2) :
    Calls Try.prog 19 #[.pointer (some ⟨m, 0, none⟩), .int .i64 x, .int .i64 place, .int .i64 frm] w fun e w' => e = .returned (.int .i64 1) ∧ Below w.heap.size w w' := by
  have HA := hidden (at_some h ok i hi x hx)
  obtain ⟨f0, f1, f2⟩ := hf
  have q0 : (frm == 0) = false := by simp [f0]
  have q1 : (frm == 1) = false := by simp [f1]
  have q2 : (frm == 2) = false := by simp [f2]
  clear h ok hx f0 f1 f2
  generalize s.S[i].k = KK at *
  go_enter Try.func19, Try.ntmps19
  go_wp2_with (first | (go_at_call 31; refine HA.out.mono ?_; rintro e w2 ⟨rfl, hb2⟩; have HB2 := hidden hb2; clear hb2) | fail)
  go_ret
  exact ⟨rfl, HB2.out⟩
theorem seek_none {B m : Nat} {s : Sh} {w : World} (h : ShAt B w m s) (ok : OkS s) (x : Int) (hx : ∀ d ∈ s.S, d.n ≠ x) (place frm : Int) :
    Calls Try.prog 19 #[.pointer (some ⟨m, 0, none⟩), .int .i64 x, .int .i64 place, .int .i64 frm] w fun e w' => e = .returned (.int .i64 5) ∧ Below w.heap.size w w' := by
  have HA := hidden (at_none h ok x hx)
  clear h ok hx
  go_enter Try.func19, Try.ntmps19
  go_wp2_with (first | (go_at_call 31; refine HA.out.mono ?_; rintro e w2 ⟨rfl, hb2⟩; have HB2 := hidden hb2; clear hb2) | fail)
  go_ret
  exact ⟨rfl, HB2.out⟩
theorem mvAt {B m : Nat} {s : Sh} {w w1 : World} (h : ShAt B w m s) (ok : OkS s) (i : Nat) (hi : i < s.S.length) (hb : Below w.heap.size w w1) (frm by_ : Int) (h0 : 0 ≤ frm) (h1 : frm ≤ gsz s.S[i].f s.S[i].wd (zsOf s s.S[i])) (hp : -9223372036854775808 ≤ by_ ∧ by_ ≤ 9223372036854775807) :
    Calls Try.prog 43 #[.pointer (some ⟨s.S[i].k, 0, none⟩), .int .i64 frm, .int .i64 by_] w1 fun e w' => e = .returned (.tuple #[]) ∧ Hid (PtR B w m s i { s.S[i] with pl := mvN (gsz s.S[i].f s.S[i].wd (zsOf s s.S[i])) frm by_ } w') := by
  obtain ⟨v, hg, _⟩ := (h.later hb).ground ok (List.getElem_mem hi)
  exact (move_any s.S[i] ((h.later hb).ss _ (List.getElem_mem hi)).2 hg frm by_ h0 h1 hp.1 hp.2).mono (fun e w' hh => ⟨hh.1, hidden (PtR.of_str h ok hi hb { s.S[i] with pl := mvN (gsz s.S[i].f s.S[i].wd (zsOf s s.S[i])) frm by_ } rfl hh.2)⟩)
theorem seek_some {B m : Nat} {s : Sh} {w : World} (h : ShAt B w m s) (ok : OkS s) (i : Nat) (hi : i < s.S.length) (x : Int) (hx : s.S[i].n = x) (place frm : Int) (hf : frm = 0 ∨ frm = 1 ∨ frm = 2) (hpl : s.S[i].pl ≤ gsz s.S[i].f s.S[i].wd (zsOf s s.S[i])) (hp : -9223372036854775808 ≤ place ∧ place ≤ 9223372036854775807) :
    Calls Try.prog 19 #[.pointer (some ⟨m, 0, none⟩), .int .i64 x, .int .i64 place, .int .i64 frm] w fun e w' => e = .returned (.int .i64 0) ∧ Hid (PtR B w m s i (skD s s.S[i] place frm) w') := by
  have HA := hidden (at_some h ok i hi x hx)
  have HC : Hid (∀ w1, Below w.heap.size w w1 → w1.cell? ⟨s.S[i].k, 4, none⟩ = some (.int .i64 s.S[i].pl)) := hidden (fun w1 hb => ((h.ss _ (List.getElem_mem hi)).2.later hb).cells.2.2.2.2.1)
  have HZ : Hid (∀ w1, Below w.heap.size w w1 → Calls Try.prog 29 #[.pointer (some ⟨s.S[i].k, 0, none⟩)] w1 fun e w' => e = .returned (.int .i64 (gsz s.S[i].f s.S[i].wd (zsOf s s.S[i]) : Nat)) ∧ Hid (Below w.heap.size w w')) := hidden (fun w1 hb => by
    obtain ⟨v, hg, _⟩ := (h.later hb).ground ok (List.getElem_mem hi)
    exact (osize_any _ ((h.ss _ (List.getElem_mem hi)).2.later hb) hg).mono (fun e w' hh => ⟨hh.1, hidden (hb.trans (hh.2.below.mono hb.size))⟩))
  have HMV : Hid (∀ w1, Below w.heap.size w w1 → ∀ frm : Int, 0 ≤ frm → frm ≤ gsz s.S[i].f s.S[i].wd (zsOf s s.S[i]) → _) := hidden (fun w1 hb frm h0 h1 => mvAt h ok i hi hb frm place h0 h1 hp)
  unfold skD
  rcases hf with rfl | rfl | rfl
  · have HM : Hid (∀ w1, Below w.heap.size w w1 → _) := hidden (fun w1 hb => HMV.out w1 hb 0 (by omega) (by omega))
    rw [show frmN s.S[i] (gsz s.S[i].f s.S[i].wd (zsOf s s.S[i])) 0 = 0 from rfl]
    rw [Int.natCast_zero]
    clear h ok hx hpl hp HMV
    generalize hD : ({ s.S[i] with pl := mvN (gsz s.S[i].f s.S[i].wd (zsOf s s.S[i])) 0 place } : Sm) = D at *
    clear hD
    generalize gsz s.S[i].f s.S[i].wd (zsOf s s.S[i]) = N at *
    generalize s.S[i].k = KK at *
    generalize s.S[i].pl = PP at *
    go_enter Try.func19, Try.ntmps19
    go_wp2_with (first | (go_at_call 31; refine HA.out.mono ?_; rintro e w2 ⟨rfl, hb2⟩; have HB2 := hidden hb2; have e4 := HC.out _ hb2; clear hb2) | (go_at_call 29; refine (HZ.out _ HB2.out).mono ?_; rintro e w3 ⟨rfl, HB3⟩) | (go_at_call 43; (first | refine (HM.out _ HB3.out).mono ?_ | refine (HM.out _ HB2.out).mono ?_); rintro e w4 ⟨rfl, H4⟩) | fail)
    go_ret
    exact ⟨rfl, H4⟩
  · have HM : Hid (∀ w1, Below w.heap.size w w1 → _) := hidden (fun w1 hb => HMV.out w1 hb (s.S[i].pl : Nat) (by omega) (by omega))
    rw [show frmN s.S[i] (gsz s.S[i].f s.S[i].wd (zsOf s s.S[i])) 1 = s.S[i].pl from rfl]
    clear h ok hx hpl hp HMV
    generalize hD : ({ s.S[i] with pl := mvN (gsz s.S[i].f s.S[i].wd (zsOf s s.S[i])) ((s.S[i].pl : Nat) : Int) place } : Sm) = D at *
    clear hD
    generalize gsz s.S[i].f s.S[i].wd (zsOf s s.S[i]) = N at *
    generalize s.S[i].k = KK at *
    generalize s.S[i].pl = PP at *
    go_enter Try.func19, Try.ntmps19
    go_wp2_with (first | (go_at_call 31; refine HA.out.mono ?_; rintro e w2 ⟨rfl, hb2⟩; have HB2 := hidden hb2; have e4 := HC.out _ hb2; clear hb2) | (go_at_call 29; refine (HZ.out _ HB2.out).mono ?_; rintro e w3 ⟨rfl, HB3⟩) | (go_at_call 43; (first | refine (HM.out _ HB3.out).mono ?_ | refine (HM.out _ HB2.out).mono ?_); rintro e w4 ⟨rfl, H4⟩) | fail)
    go_ret
    exact ⟨rfl, H4⟩
  · have HM : Hid (∀ w1, Below w.heap.size w w1 → _) := hidden (fun w1 hb => HMV.out w1 hb (gsz s.S[i].f s.S[i].wd (zsOf s s.S[i]) : Nat) (by omega) (by omega))
    rw [show frmN s.S[i] (gsz s.S[i].f s.S[i].wd (zsOf s s.S[i])) 2 = gsz s.S[i].f s.S[i].wd (zsOf s s.S[i]) from rfl]
    clear h ok hx hpl hp HMV
    generalize hD : ({ s.S[i] with pl := mvN (gsz s.S[i].f s.S[i].wd (zsOf s s.S[i])) ((gsz s.S[i].f s.S[i].wd (zsOf s s.S[i]) : Nat) : Int) place } : Sm) = D at *
    clear hD
    generalize gsz s.S[i].f s.S[i].wd (zsOf s s.S[i]) = N at *
    generalize s.S[i].k = KK at *
    generalize s.S[i].pl = PP at *
    go_enter Try.func19, Try.ntmps19
    go_wp2_with (first | (go_at_call 31; refine HA.out.mono ?_; rintro e w2 ⟨rfl, hb2⟩; have HB2 := hidden hb2; have e4 := HC.out _ hb2; clear hb2) | (go_at_call 29; refine (HZ.out _ HB2.out).mono ?_; rintro e w3 ⟨rfl, HB3⟩) | (go_at_call 43; (first | refine (HM.out _ HB3.out).mono ?_ | refine (HM.out _ HB2.out).mono ?_); rintro e w4 ⟨rfl, H4⟩) | fail)
    go_ret
    exact ⟨rfl, H4⟩
end Go.Proofs.Ytmohnopegacahaa
