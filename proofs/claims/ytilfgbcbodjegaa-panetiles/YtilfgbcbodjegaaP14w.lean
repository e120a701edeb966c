/- Layer 14, the program: Close of a window that has a parent. -/
import Derived.Test.YtilfgbcbodjegaaP14v
namespace Go.Proofs.Ytilfgbcbodjegaa
open Go.RowKit
set_option maxHeartbeats 1000000
set_option maxRecDepth 100000
set_option linter.unusedVariables false

theorem row_some {b n c : Nat} {w : World} {a : Option Addr} {xs : List Value} (h : w.ownsRow b 3 1 (.slice a (n + 1) c) (n + 1) xs) : ∃ g, a = some ⟨g, 0, none⟩ := by
  rcases h.2 with ⟨q, q2⟩ | ⟨gg, cap, cur, q, _⟩
  · omega
  · simp only [Value.slice.injEq] at q
    exact ⟨gg, q.1⟩
set_option maxHeartbeats 8000000 in
theorem close_kid {B m : Nat} {v : Value} {s : Ps} {w : World} (h : PAt B w m v s) (ho : OkP s) (hB : B ≤ w.heap.size) (x : Int) (hx : hasW s.L x) (k : Nat) (he : ∀ d ∈ s.L, Ends s.L k d.p) (hp : (ofW s.L x).p ≠ 0) (hsb : hasW s.L (sibW s.L x)) (hq : (ofW s.L (ofW s.L x).p).p ≠ 0 → hasW s.L (ofW s.L (ofW s.L x).p).p ∧ ((ofW s.L (ofW s.L (ofW s.L x).p).p).a = (ofW s.L x).p ∨ (ofW s.L (ofW s.L (ofW s.L x).p).p).b = (ofW s.L x).p)) :
    Calls Try.prog 23 #[.pointer (some ⟨m, 0, none⟩), .int .i64 x] w fun e w' => ∃ gg cc, e = .returned (.tuple #[.slice (some ⟨gg, 0, none⟩) ((goneL s k x).length + 1) cc, .int .i64 0]) ∧ Hid (ClR B m v w (goneL s k x ++ [(ofW s.L x).p]) (putS s (ofW s.L x).p (sibW s.L x)) gg cc w') := by
  obtain ⟨i, hi, hix⟩ := has_ix hx
  obtain ⟨g, c, hv, hBg, hgw, hlc, hcm⟩ := wrow_pos h.row (by omega)
  subst hv
  have hfew := ho.few
  have HA := hidden (at_some h ho.so (by omega) i hi g c rfl x hix)
  have hml := h.lt
  have HW : Hid (∀ w1, Below w.heap.size w w1 → Calls Try.prog 42 #[.pointer (some ⟨m, 0, none⟩), .int .i64 x] w1 fun e w' => ∃ gg cc, e = .returned (.slice (some ⟨gg, 0, none⟩) (goneL s k x).length cc) ∧ Hid (w'.ownsRow w.heap.size 3 1 (.slice (some ⟨gg, 0, none⟩) (goneL s k x).length cc) (goneL s k x).length (intsV (goneL s k x))) ∧ Hid (Below w.heap.size w w')) := hidden (fun w1 hb => (withAll_any (h.later hb) ho (by omega) x k he).mono (by
    rintro e w' ⟨ao, n, cc, rfl, H1, hn, H2⟩
    have hln : (goneL s k x).length = n := by have := H1.out.1; simpa [intsV, goneL] using this
    subst hln
    have hpos := gone_pos ho hx k
    rcases H1.out.2 with ⟨q, q2⟩ | ⟨gg, cap, cur, q, _⟩
    · omega
    · simp only [Value.slice.injEq] at q
      obtain ⟨rfl, _, rfl⟩ := q
      exact ⟨gg, _, rfl, hidden (own_base H1.out hb.size), hidden (hb.trans (H2.out.mono hb.size))⟩))
  have hgl : (goneL s k x).length ≤ 900 := by
    unfold goneL numsF
    rw [List.length_map]
    exact Nat.le_trans (List.length_filter_le _ _) (by omega)
  have HPA : Hid (∀ w1, Below w.heap.size w w1 → Calls Try.prog 21 #[.pointer (some ⟨m, 0, none⟩), .int .i64 x] w1 fun e w' => e = .returned (.int .i64 (ofW s.L x).p) ∧ Hid (Below w1.heap.size w1 w')) := hidden (fun w1 hb => (parent_any (h.later hb) ho x).mono (fun e w' hh => ⟨hh.1, hidden hh.2⟩))
  have HSB : Hid (∀ w1, Below w.heap.size w w1 → Calls Try.prog 26 #[.pointer (some ⟨m, 0, none⟩), .int .i64 x] w1 fun e w' => e = .returned (.int .i64 (sibW s.L x)) ∧ Hid (Below w1.heap.size w1 w')) := hidden (fun w1 hb => (sibling_any (h.later hb) ho x).mono (fun e w' hh => ⟨hh.1, hidden hh.2⟩))
  have HPU : Hid (∀ w1, Below w.heap.size w w1 → Calls Try.prog 40 #[.pointer (some ⟨m, 0, none⟩), .int .i64 (ofW s.L x).p, .int .i64 (sibW s.L x)] w1 fun e w' => e = .returned (.tuple #[]) ∧ Hid (PAt B w' m (.slice (some ⟨g, 0, none⟩) s.L.length c) (putS s (ofW s.L x).p (sibW s.L x))) ∧ Hid (Fm w1 w' (TP m (.slice (some ⟨g, 0, none⟩) s.L.length c)) (TP m (.slice (some ⟨g, 0, none⟩) s.L.length c)))) := hidden (fun w1 hb => (putAt_any (h.later hb) ho (ofW s.L x).p (sibW s.L x) hsb hq).mono (fun e w' hh => ⟨hh.1, hidden hh.2.1, hidden hh.2.2⟩))
  have hpl : (putS s (ofW s.L x).p (sibW s.L x)).L.length = s.L.length := by unfold putS; split <;> simp [upd_len]
  have HT : Hid (∀ w1 w2 gg cc, Below w.heap.size w w1 → w1.ownsRow w.heap.size 3 1 (.slice (some ⟨gg, 0, none⟩) ((goneL s k x).length + 1) cc) ((goneL s k x).length + 1) (intsV (goneL s k x ++ [(ofW s.L x).p])) → PAt B w2 m (.slice (some ⟨g, 0, none⟩) s.L.length c) (putS s (ofW s.L x).p (sibW s.L x)) → Fm w1 w2 (TP m (.slice (some ⟨g, 0, none⟩) s.L.length c)) (TP m (.slice (some ⟨g, 0, none⟩) s.L.length c)) → _) := hidden (fun w1 w2 gg cc hb hr h2 f2 => by
    have hgg := (hr.lt gg rfl).1
    have hr1 := own_fm f2 hr (fun k' e => by
      have e1 : gg = k' := Option.some.inj e
      rintro (q | q)
      · omega
      · have : g = k' := Option.some.inj q
        omega)
    have hla : (goneL s k x).length + 1 = (goneL s k x ++ [(ofW s.L x).p]).length := by simp
    rw [hla] at hr1
    have T := close_tail (s := s) (s1 := putS s (ofW s.L x).p (sibW s.L x)) (c := c) hml hgw hpl hB h2 ((Fm.same hb).trans f2) hr1 (by rw [← hla]; omega) (by omega)
    rw [← hla] at T
    exact T)
  generalize goneL s k x = Z at *
  generalize sibW s.L x = SB at *
  obtain ⟨P, hP⟩ : ∃ P, (ofW s.L x).p = P := ⟨_, rfl⟩
  rw [hP] at hp HPA HPU HT
  rw [hP]
  have q1 : (P != 0) = true := by rw [bne_iff_ne]; exact hp
  have HAP : Hid (∀ w3 gg cc, Below w.heap.size w w3 → w3.ownsRow w.heap.size 3 1 (.slice (some ⟨gg, 0, none⟩) Z.length cc) Z.length (intsV Z) → Hid ((w3.alloc (.cells #[.int .i64 P] 3)).ownsRow w.heap.size 3 1 (.slice (some ⟨gg, 0, none⟩) Z.length cc) Z.length (intsV Z)) ∧ Hid ((w3.alloc (.cells #[.int .i64 P] 3)).cell? ((⟨w3.heap.size, 0, none⟩ : Addr).add 0) = some (.int .i64 P)) ∧ Hid (Below w.heap.size w (w3.alloc (.cells #[.int .i64 P] 3)))) := hidden (fun w3 gg cc hb hr => by
    refine ⟨hidden (hr.alloc _), hidden ?_, hidden (hb.alloc hb.size _)⟩
    rw [Addr.add_lit]
    have hh := heap_alloc_new w3 (.cells #[.int .i64 P] 3)
    unfold World.cell?
    simp only
    rw [hh]
    rfl)
  clear h ho hx he hp hi hix hsb hq hP hpl
  go_enter Try.func23, Try.ntmps23
  go_wp2_with (first
    | (go_at_call 36; refine HA.out.mono ?_; rintro e w1 ⟨rfl, hb1⟩; have HB1 := hidden hb1; clear hb1)
    | (go_at_call 42; refine (HW.out _ HB1.out).mono ?_; rintro e w2 ⟨gg, cc, rfl, HR2, HB2⟩)
    | (go_at_call 21; refine (HPA.out _ HB2.out).mono ?_; rintro e w3 ⟨rfl, HB23⟩; have HB3 := hidden (HB2.out.trans (HB23.out.mono HB2.out.size)); have HR3 := hidden (own_later HR2.out HB23.out); obtain ⟨HA1, HA2, HA3⟩ := HAP.out _ _ _ HB3.out HR3.out)
    | (at_builtin; refine wpList_snocI (w0 := w) rfl (.tmp 22) (.tmp 24) rfl _ Z.length Z P ⟨w3.heap.size, 0, none⟩ rfl rfl HA1.out HA2.out (by omega) HA3.out ?_; intro a4 c4 w4 HO4 HB4; obtain ⟨g4, q4⟩ := row_some HO4.out; subst q4)
    | (go_at_call 26; refine (HSB.out _ HB4.out).mono ?_; rintro e w5 ⟨rfl, HB45⟩; have HB5 := hidden (HB4.out.trans (HB45.out.mono HB4.out.size)); have HO5 := hidden (own_later HO4.out HB45.out))
    | (go_at_call 40; refine (HPU.out _ HB5.out).mono ?_; rintro e w6 ⟨rfl, HP6, HF6⟩)
    | (go_at_call 43; refine (HT.out _ _ g4 c4 HB5.out HO5.out HP6.out HF6.out).mono ?_; rintro e w7 ⟨rfl, HD7⟩)
    | (go_at_call 44; refine HD7.out.mono ?_; rintro e w8 ⟨rfl, HE8⟩)
    | fail)
  go_ret2
  exact ⟨g4, c4, rfl, HE8⟩
end Go.Proofs.Ytilfgbcbodjegaa
