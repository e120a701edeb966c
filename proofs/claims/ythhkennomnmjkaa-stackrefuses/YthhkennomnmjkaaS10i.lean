/- Contracts of package stack's inner methods: the locals. -/
import Derived.Test.YthhkennomnmjkaaS10h
namespace Go.Proofs.Ythhkennomnmjkaa
open Go.RowKit
set_option maxHeartbeats 1000000
set_option maxRecDepth 100000
set_option linter.unusedVariables false

/-- where the current frame's locals begin, and how many bytes they have -/
def posK (s : Ks) : Nat := s.fr + nu s.bs (s.fr + 4)
def lszK (s : Ks) : Nat := endK s - posK s
theorem OkK.loc {s : Ks} (ok : OkK s) (h : s.on = true) : posK s ≤ endK s ∧ posK s = s.fr + posF (frF s.bs s.fr) ∧ endK s = s.fr + posF (frF s.bs s.fr) + szF (frF s.bs s.fr) ∧ lszK s = szF (frF s.bs s.fr) ∧ s.fr + 12 ≤ posK s := by
  have h1 := (ok.cur h).fr
  have h2 := h1.len
  have h3 := h1.pos
  have h4 := h1.bd
  unfold lszK endK posK
  omega
theorem klocals_any (m g c : Nat) (s : Ks) (w : World) (h : KC w m (some ⟨g, 0, none⟩) c s) (ok : OkK s) (on : s.on = true) :
    Calls Try.prog 61 #[.pointer (some ⟨m, 0, none⟩)] w fun e w' => (∃ p, e = .returned (.slice (some ⟨g, p, none⟩) (lszK s) (c - posK s)) ∧ (0 < lszK s → p = posK s)) ∧ Dr w w' := by
  obtain ⟨b1, b2, b3, b4, b5, b6⟩ := ok.bd on
  have l1 := (ok.loc on).1
  have l5 := (ok.loc on).2.2.2.2
  have hsz := ok.sz
  have hmo := ok.most
  have HN : Hid (∀ n, Calls Try.prog 54 #[.slice (some ⟨g, 0, none⟩) s.bs.length c, .int .i64 ((s.fr + 4 : Nat) : Int)] (w.drewN n) fun e w' => e = .returned (.int .u32 (nu s.bs (s.fr + 4))) ∧ w' = w.drewN n) := fun n => knum_any _ _ c (s.fr + 4) s.bs _ (h.later (Dr.below ⟨n, rfl⟩)).rd ok.okb (by omega) (by omega)
  have HF : Hid (∀ n, Calls Try.prog 84 #[.slice (some ⟨g, 0, none⟩) s.bs.length c, .int .i64 s.fr] (w.drewN n) fun e w' => e = .returned (.int .i64 (endK s)) ∧ w' = w.drewN n) := fun n => kfend_any _ _ c s.fr s.bs _ (h.later (Dr.below ⟨n, rfl⟩)).rd ok.okb (by omega) (by omega)
  have hp : posK s = s.fr + nu s.bs (s.fr + 4) := rfl
  have hL : lszK s = endK s - posK s := rfl
  have hc : s.bs.length ≤ c := h.rd.2.1
  obtain ⟨c0, c1, c2, c3, _⟩ := h
  rw [show ((s.fr + 4 : Nat) : Int) = (s.fr : Int) + 4 by omega] at HN
  clear ok on c0 c3
  generalize nu s.bs (s.fr + 4) = N at *
  generalize s.bs.length = L at *
  generalize endK s = E at *
  generalize lszK s = Z at *
  generalize posK s = P at *
  generalize s.fr = f at *
  have hw1 : IntKind.i64.wrap ((f : Int) + 4) = (f : Int) + 4 := by rw [IntKind.wrap_i64]; omega
  have hw2 : IntKind.i64.wrap (N : Int) = (N : Int) := by rw [IntKind.wrap_i64]; omega
  have hw3 : IntKind.i64.wrap ((f : Int) + (N : Int)) = (P : Int) := by rw [IntKind.wrap_i64]; omega
  obtain ⟨p, hif, hpn⟩ : ∃ p, (if c = P then some (⟨g, 0, none⟩ : Addr) else some ⟨g, P, none⟩) = some ⟨g, p, none⟩ ∧ (0 < Z → p = P) := by
    by_cases e : c = P
    · exact ⟨0, if_pos e, fun h => by omega⟩
    · exact ⟨P, if_neg e, fun _ => rfl⟩
  subst hL
  have HPN := hidden hpn
  have HP := hidden hp
  clear hpn hp b1 b2 b4 b5 b6 l5
  have hec : E ≤ c := by omega
  go_enter Try.func61, Try.ntmps61
  go_wp2
  go_quiet (first | (go_at_call 54; exact Calls.quiet_of_same (HN.out _)))
  all_goals (try go_wp2)
  have HF1 : Hid (∀ n, Calls Try.prog 84 #[.slice (some ⟨g, 0, none⟩) L c, .int .i64 f] ((w.drewN nq).drewN n) fun e w' => e = .returned (.int .i64 E) ∧ w' = (w.drewN nq).drewN n) := fun n => by have := HF.out (nq + n); rw [← World.drewN_drewN] at this; exact this
  have hd1 : Dr w (w.drewN nq) := ⟨nq, rfl⟩
  have c1q : (w.drewN nq).cell? ⟨m, 1, none⟩ = some (.slice (some ⟨g, 0, none⟩) L c) := c1
  have c2q : (w.drewN nq).cell? ⟨m, 2, none⟩ = some (.int .i64 f) := c2
  generalize w.drewN nq = w1 at *
  go_quiet (first | (go_at_call 84; exact Calls.quiet_of_same (HF1.out _)))
  all_goals (try go_wp2)
  go_ret
  exact ⟨⟨p, rfl, HPN.out⟩, hd1.more _⟩
def locE (s : Ks) (at_ : Nat) (n : Int) : Nat := if ¬ (n = 1 ∨ n = 2 ∨ n = 4) then 1 else if s.on = false then 102 else if (lszK s : Int) < at_ + n then 103 else 0
theorem klacksL_nil (x n : Int) (w : World) : Calls Try.prog 69 #[.pointer none, .int .u32 x, .int .i64 n] w fun e w' => e = .returned (.int .i64 8) ∧ w' = w := by
  go_enter Try.func69, Try.ntmps69
  go_wp2
  go_ret
  exact ⟨rfl, rfl⟩
theorem KC.isSome {w : World} {m : Nat} {a : Option Addr} {c : Nat} {s : Ks} {B : Nat} {n : Nat} (h : KAt B w m (.slice a n c) s) (h0 : 0 < s.bs.length) : ∃ g, a = some ⟨g, 0, none⟩ := by
  rcases h.row.2 with ⟨_, h2⟩ | ⟨g, cap, cur, h1, _⟩
  · omega
  · simp only [Value.slice.injEq] at h1
    exact ⟨g, h1.1⟩
theorem klacksL_any (m : Nat) (a : Option Addr) (c : Nat) (s : Ks) (x : Nat) (n : Int) (w : World) (h : KC w m a c s) (ok : OkK s) (ha : s.on = true → ∃ g, a = some ⟨g, 0, none⟩) (hx : x < 4294967296) :
    Calls Try.prog 69 #[.pointer (some ⟨m, 0, none⟩), .int .u32 x, .int .i64 n] w fun e w' => e = .returned (.int .i64 (locE s x n)) ∧ Dr w w' := by
  have hkc := h
  obtain ⟨c0, c1, c2, c3, _⟩ := h
  unfold locE
  by_cases hn : n = 1 ∨ n = 2 ∨ n = 4
  · rw [if_neg (fun h => h hn)]
    have HW := hidden fun wx => kwid_yes n wx hn
    cases hon : s.on with
    | false =>
      rw [if_pos rfl]
      rw [hon] at c3
      clear c0 c1 c2 ok hkc hn
      go_enter Try.func69, Try.ntmps69
      go_wp2_with (go_at_call 80; refine (HW.out _).mono ?_; rintro e w1 ⟨rfl, rfl⟩)
      go_ret
      exact ⟨rfl, Dr.refl _⟩
    | true =>
      rw [if_neg (by simp)]
      obtain ⟨g, rfl⟩ := ha hon
      have HL := hidden (klocals_any m g c s w hkc ok hon)
      have hsz := ok.sz
      have hmo := ok.most
      have hlz : lszK s ≤ 65536 := by have := (ok.bd hon).2.2.1; unfold lszK; omega
      rw [hon] at c3
      clear c0 c1 c2 ok hkc
      generalize lszK s = Z at *
      generalize posK s = P at *
      have hw1 : IntKind.i64.wrap (x : Int) = (x : Int) := by rw [IntKind.wrap_i64]; omega
      have hw2 : IntKind.i64.wrap ((x : Int) + n) = (x : Int) + n := by rw [IntKind.wrap_i64]; omega
      by_cases h1 : (Z : Int) < x + n
      · rw [if_pos h1]
        have d : (x : Int) + n > (Z : Int) := by omega
        clear hn
        go_enter Try.func69, Try.ntmps69
        go_wp2_with (first | (go_at_call 80; refine (HW.out _).mono ?_; rintro e w1 ⟨rfl, rfl⟩) | (go_at_call 61; refine HL.out.mono ?_; rintro e w2 ⟨⟨p, rfl, _⟩, hd⟩))
        go_ret
        exact ⟨rfl, hd⟩
      · rw [if_neg h1]
        have d : ¬ (x : Int) + n > (Z : Int) := by omega
        clear hn
        go_enter Try.func69, Try.ntmps69
        go_wp2_with (first | (go_at_call 80; refine (HW.out _).mono ?_; rintro e w1 ⟨rfl, rfl⟩) | (go_at_call 61; refine HL.out.mono ?_; rintro e w2 ⟨⟨p, rfl, _⟩, hd⟩))
        go_ret
        exact ⟨rfl, hd⟩
  · rw [if_pos hn]
    have HW := hidden fun wx => kwid_no n wx hn
    clear c0 c1 c2 c3 ok hkc hn
    go_enter Try.func69, Try.ntmps69
    go_wp2_with (go_at_call 80; refine (HW.out _).mono ?_; rintro e w1 ⟨rfl, rfl⟩)
    go_ret
    exact ⟨rfl, Dr.refl _⟩
end Go.Proofs.Ythhkennomnmjkaa
