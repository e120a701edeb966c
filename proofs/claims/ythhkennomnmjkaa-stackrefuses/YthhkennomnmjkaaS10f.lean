/- Contracts of package stack's inner methods: what a stack has and lacks. -/
import Derived.Test.YthhkennomnmjkaaS10e
namespace Go.Proofs.Ythhkennomnmjkaa
open Go.RowKit
set_option maxHeartbeats 1000000
set_option maxRecDepth 100000
set_option linter.unusedVariables false

/-- what the walks ask of a stack's cells -/
structure KC (w : World) (m : Nat) (a : Option Addr) (c : Nat) (s : Ks) : Prop where
  c0 : w.cell? ⟨m, 0, none⟩ = some (.int .i64 s.size)
  c1 : w.cell? ⟨m, 1, none⟩ = some (.slice a s.bs.length c)
  c2 : w.cell? ⟨m, 2, none⟩ = some (.int .i64 s.fr)
  c3 : w.cell? ⟨m, 3, none⟩ = some (.bool s.on)
  rd : Reads w a s.bs.length c s.bs
theorem KAt.kc {B : Nat} {w : World} {m : Nat} {a : Option Addr} {n c : Nat} {s : Ks} (h : KAt B w m (.slice a n c) s) : KC w m a c s := by
  obtain ⟨a', c', e⟩ := own_slice8 h.row
  simp only [Value.slice.injEq] at e
  obtain ⟨rfl, rfl, rfl⟩ := e
  obtain ⟨h0, h1, h2, h3, _⟩ := h.cells
  exact ⟨h0, h1, h2, h3, own_read8 (v := .slice a s.bs.length c) h.row⟩
theorem KC.later {w w' : World} {m : Nat} {a : Option Addr} {c : Nat} {s : Ks} (h : KC w m a c s) (hb : Below w.heap.size w w') : KC w' m a c s :=
  ⟨cellLater hb h.c0, cellLater hb h.c1, cellLater hb h.c2, cellLater hb h.c3, h.rd.later hb⟩
theorem kcount_any (m : Nat) (a : Option Addr) (c : Nat) (s : Ks) (w : World) (h : KC w m a c s) (ok : OkK s) (on : s.on = true) :
    Calls Try.prog 55 #[.pointer (some ⟨m, 0, none⟩)] w fun e w' => e = .returned (.int .i64 (cnt s)) ∧ Dr w w' := by
  obtain ⟨b1, b2, b3, b4, b5, b6⟩ := ok.bd on
  have hsz := ok.sz
  have hmo := ok.most
  have HF : Hid (∀ n, Calls Try.prog 84 #[.slice a s.bs.length c, .int .i64 s.fr] (w.drewN n) fun e w' => e = .returned (.int .i64 (endK s)) ∧ w' = w.drewN n) := fun n => kfend_any a _ c s.fr s.bs _ (h.later (Dr.below ⟨n, rfl⟩)).rd ok.okb (by omega) (by omega)
  obtain ⟨c0, c1, c2, c3, _⟩ := h
  clear ok on c0 c3
  generalize s.bs.length = L at *
  generalize endK s = E at *
  generalize cnt s = C at *
  generalize s.fr = f at *
  have hw1 : IntKind.i64.wrap ((L : Int) - (E : Int)) = (4 * C : Nat) := by rw [IntKind.wrap_i64]; omega
  have hd : ((4 * C : Nat) : Int).tdiv 4 = (C : Int) := by rw [Int.tdiv_eq_ediv_of_nonneg (by omega)]; omega
  have hw2 : IntKind.i64.wrap (C : Int) = (C : Int) := by rw [IntKind.wrap_i64]; omega
  generalize hX : ((4 * C : Nat) : Int) = X at *
  have HX := hidden hX
  have HB := hidden b5
  clear hX b5 b6
  go_enter Try.func55, Try.ntmps55
  go_wp2
  go_quiet (first | (go_at_call 84; exact Calls.quiet_of_same (HF.out _)))
  all_goals (try go_wp2)
  go_ret
  exact ⟨rfl, (Dr.refl _).more _⟩
theorem klacks_nil (n : Int) (w : World) : Calls Try.prog 51 #[.pointer none, .int .i64 n] w fun e w' => e = .returned (.int .i64 8) ∧ w' = w := by
  go_enter Try.func51, Try.ntmps51
  go_wp2
  go_ret
  exact ⟨rfl, rfl⟩
theorem klacks_any (m : Nat) (a : Option Addr) (c : Nat) (s : Ks) (n : Nat) (w : World) (h : KC w m a c s) (ok : OkK s) :
    Calls Try.prog 51 #[.pointer (some ⟨m, 0, none⟩), .int .i64 n] w fun e w' => e = .returned (.int .i64 (lackE s n)) ∧ Dr w w' := by
  have hkc := h
  obtain ⟨c0, c1, c2, c3, _⟩ := h
  unfold lackE
  cases hon : s.on with
  | false =>
    rw [if_pos rfl]
    rw [hon] at c3
    clear c0 c1 c2 ok hkc
    go_enter Try.func51, Try.ntmps51
    go_wp2
    go_ret
    exact ⟨rfl, Dr.refl _⟩
  | true =>
    rw [if_neg (by simp)]
    have HC := hidden (kcount_any m a c s w hkc ok hon)
    rw [hon] at c3
    clear c0 c1 c2 ok hkc
    generalize cnt s = C at *
    by_cases h1 : C < n
    · rw [if_pos h1]
      have d : (n : Int) > (C : Int) := by omega
      go_enter Try.func51, Try.ntmps51
      go_wp2_with (go_at_call 55; refine HC.out.mono ?_; rintro e w1 ⟨rfl, hd⟩)
      go_ret
      exact ⟨rfl, hd⟩
    · rw [if_neg h1]
      have d : ¬ (n : Int) > (C : Int) := by omega
      go_enter Try.func51, Try.ntmps51
      go_wp2_with (go_at_call 55; refine HC.out.mono ?_; rintro e w1 ⟨rfl, hd⟩)
      go_ret
      exact ⟨rfl, hd⟩
theorem kroom_any (m : Nat) (a : Option Addr) (c : Nat) (s : Ks) (n : Nat) (w : World) (h : KC w m a c s) (ok : OkK s) :
    Calls Try.prog 48 #[.pointer (some ⟨m, 0, none⟩), .int .i64 n] w fun e w' => e = .returned (.int .i64 (roomE s n)) ∧ Dr w w' := by
  obtain ⟨c0, c1, c2, c3, _⟩ := h
  have hsz := ok.sz
  have hmo := ok.most
  unfold roomE
  clear c2 c3 ok
  generalize s.bs.length = L at *
  generalize s.size = S at *
  have hw : IntKind.i64.wrap ((S : Int) - (L : Int)) = (S : Int) - (L : Int) := by rw [IntKind.wrap_i64]; omega
  by_cases h1 : S < L + n
  · rw [if_pos h1]
    have d : (n : Int) > (S : Int) - (L : Int) := by omega
    go_enter Try.func48, Try.ntmps48
    go_wp2
    go_quiet (fail)
    all_goals (try go_wp2)
    go_ret
    exact ⟨rfl, (Dr.refl _).more _⟩
  · rw [if_neg h1]
    have d : ¬ (n : Int) > (S : Int) - (L : Int) := by omega
    go_enter Try.func48, Try.ntmps48
    go_wp2
    go_quiet (fail)
    all_goals (try go_wp2)
    go_ret
    exact ⟨rfl, (Dr.refl _).more _⟩
theorem lack_bd (s : Ks) (n : Nat) : lackE s n = 0 ∨ lackE s n = 101 ∨ lackE s n = 102 := by
  unfold lackE
  split
  · simp
  · split <;> simp
theorem kroomf_nil (n k : Int) (w : World) : Calls Try.prog 50 #[.pointer none, .int .i64 n, .int .i64 k] w fun e w' => e = .returned (.int .i64 8) ∧ w' = w := by
  go_enter Try.func50, Try.ntmps50
  go_wp2_with (go_at_call 51; refine (klacks_nil _ _).mono ?_; rintro e w1 ⟨rfl, rfl⟩)
  go_ret
  exact ⟨rfl, rfl⟩
theorem kroomf_any (m : Nat) (a : Option Addr) (c : Nat) (s : Ks) (n k : Nat) (w : World) (h : KC w m a c s) (ok : OkK s) (hk : k ≤ 4294967296) :
    Calls Try.prog 50 #[.pointer (some ⟨m, 0, none⟩), .int .i64 n, .int .i64 k] w fun e w' => e = .returned (.int .i64 (roomForE s n k)) ∧ Dr w w' := by
  have HL := hidden (klacks_any m a c s n w h ok)
  have HR : Hid (∀ w1, Dr w w1 → Calls Try.prog 48 #[.pointer (some ⟨m, 0, none⟩), .int .i64 (4 * k : Nat)] w1 fun e w' => e = .returned (.int .i64 (roomE s (4 * k))) ∧ Dr w w') := fun w1 hd => (kroom_any m a c s (4 * k) w1 (h.later hd.below) ok).mono (fun e w' hh => ⟨hh.1, hd.trans hh.2⟩)
  have e4 : ((4 * k : Nat) : Int) = 4 * (k : Int) := by omega
  have hw : IntKind.i64.wrap (4 * (k : Int)) = 4 * (k : Int) := by rw [IntKind.wrap_i64]; omega
  rw [e4] at HR
  have hb := lack_bd s n
  unfold roomForE
  clear h ok e4
  generalize lackE s n = E at *
  generalize roomE s (4 * k) = R at *
  by_cases h0 : E = 0
  · subst h0
    rw [if_pos rfl]
    go_enter Try.func50, Try.ntmps50
    go_wp2_with (first | (go_at_call 51; refine HL.out.mono ?_; rintro e w1 ⟨rfl, hd⟩) | (go_at_call 48; refine (HR.out _ hd).mono ?_; rintro e w2 ⟨rfl, hd2⟩))
    go_ret
    exact ⟨rfl, hd2⟩
  · rw [if_neg h0]
    have q : ((E : Int) == 0) = false := by simpa using h0
    have q2 : ¬ (E : Int) = 0 := by omega
    go_enter Try.func50, Try.ntmps50
    go_wp2_with (first | (go_at_call 51; refine HL.out.mono ?_; rintro e w1 ⟨rfl, hd⟩))
    go_ret
    exact ⟨rfl, hd⟩
end Go.Proofs.Ythhkennomnmjkaa
