/- Contracts of a stack's methods: Peek, Pop, Leave, Unstub. -/
import Derived.Test.YthhkennomnmjkaaS10j
namespace Go.Proofs.Ythhkennomnmjkaa
open Go.RowKit
set_option maxHeartbeats 1000000
set_option maxRecDepth 100000
set_option linter.unusedVariables false

theorem nu_seg (zs : List Int) (p n i : Nat) (h : i + 4 ≤ n) (h2 : p + n ≤ zs.length) : nu (seg zs p n) i = nu zs (p + i) := by
  unfold nu
  rw [beV4, beV4, seg_at zs p n i (by omega) h2, seg_at zs p n (i + 1) (by omega) h2, seg_at zs p n (i + 2) (by omega) h2, seg_at zs p n (i + 3) (by omega) h2]
  simp only [Nat.add_assoc]
theorem KAt.isSome {B : Nat} {w : World} {m : Nat} {v : Value} {s : Ks} (h : KAt B w m v s) (h0 : 0 < s.bs.length) : ∃ g c, v = .slice (some ⟨g, 0, none⟩) s.bs.length c ∧ KC w m (some ⟨g, 0, none⟩) c s := by
  obtain ⟨a, c, rfl, kc⟩ := h.kc'
  obtain ⟨g, rfl⟩ := KC.isSome h h0
  exact ⟨g, c, rfl, kc⟩
theorem top_reads {w : World} {m g c n : Nat} {s : Ks} (h : KC w m (some ⟨g, 0, none⟩) c s) (hn : n ≤ s.bs.length) : Reads w (some ⟨g, s.bs.length - n, none⟩) n (c - (s.bs.length - n)) (seg s.bs (s.bs.length - n) n) := by
  have hc := h.rd.2.1
  by_cases h0 : n = 0
  · subst h0
    exact ⟨by simp [seg], by omega, .inr ⟨_, rfl, fun i hi => by omega⟩⟩
  · obtain ⟨g', o, e, hB⟩ := h.rd.bs (by omega)
    simp only [Option.some.injEq, Addr.mk.injEq, and_true] at e
    obtain ⟨rfl, rfl⟩ := e
    have := hB.sub (s.bs.length - n) n (c - (s.bs.length - n)) (by omega) (by omega)
    rwa [Nat.zero_add] at this
theorem kPeek_nil (x : Int) (w : World) (hx : 0 ≤ x) (hx2 : x ≤ 4294967295) : Calls Try.prog 18 #[.pointer none, .int .u32 x] w fun e w' => e = .returned (.tuple #[.int .u32 0, .int .i64 8]) ∧ w' = w := by
  go_enter Try.func18, Try.ntmps18
  go_wp2_with (go_at_call 51; refine (klacks_nil _ _).mono ?_; rintro e w1 ⟨rfl, rfl⟩)
  go_ret2
  exact ⟨rfl, rfl⟩
theorem kPeek_any (m x : Nat) (a : Option Addr) (c : Nat) (s : Ks) (w : World) (h : KC w m a c s) (ha : s.on = true → ∃ g, a = some ⟨g, 0, none⟩) (ok : OkK s) (hx : x < 4294967296) :
    Calls Try.prog 18 #[.pointer (some ⟨m, 0, none⟩), .int .u32 x] w fun e w' => e = .returned (.tuple #[.int .u32 (peekV s x), .int .i64 (peekE s x)]) ∧ Dr w w' := by
  have HL := hidden (klacks_any m a c s (x + 1) w h ok)
  have e1 : ((x + 1 : Nat) : Int) = (x : Int) + 1 := by omega
  rw [e1] at HL
  have hw : IntKind.i64.wrap (x : Int) = (x : Int) := by rw [IntKind.wrap_i64]; omega
  have hw2 : IntKind.i64.wrap ((x : Int) + 1) = (x : Int) + 1 := by rw [IntKind.wrap_i64]; omega
  unfold peekV peekE
  by_cases h0 : lackE s (x + 1) = 0
  · rw [if_pos h0, h0]
    rw [h0] at HL
    obtain ⟨hon, hcn⟩ := lack_zero h0
    obtain ⟨g, rfl⟩ := ha hon
    obtain ⟨b1, b2, b3, b4, b5, b6⟩ := ok.bd hon
    have hsz := ok.sz
    have hmo := ok.most
    have hn4 : 4 * (x + 1) ≤ s.bs.length := by omega
    have HT : Hid (∀ w1, Dr w w1 → Calls Try.prog 52 #[.pointer (some ⟨m, 0, none⟩), .int .i64 ((x : Int) + 1)] w1 fun e w' => e = .returned (.slice (some ⟨g, s.bs.length - 4 * (x + 1), none⟩) (4 * (x + 1)) (c - (s.bs.length - 4 * (x + 1)))) ∧ Dr w w') := fun w1 hd => by
      have := ktop_any m g c (x + 1) s w1 (h.later hd.below) ok hn4
      rw [e1] at this
      exact this.mono (fun e w' hh => by
        obtain ⟨⟨p, he, hp⟩, hd2⟩ := hh
        rw [hp (by omega)] at he
        exact ⟨he, hd.trans hd2⟩)
    have HN : Hid (∀ w1, Dr w w1 → Calls Try.prog 54 #[.slice (some ⟨g, s.bs.length - 4 * (x + 1), none⟩) (4 * (x + 1)) (c - (s.bs.length - 4 * (x + 1))), .int .i64 0] w1 fun e w' => e = .returned (.int .u32 (nu s.bs (s.bs.length - 4 * (x + 1)))) ∧ w' = w1) := fun w1 hd => by
      have := knum_any _ (4 * (x + 1)) _ 0 _ w1 (top_reads (h.later hd.below) hn4) (seg_okb ok.okb _ _) (by omega) (by omega)
      rw [nu_seg _ _ _ _ (by omega) (by omega), Nat.add_zero] at this
      exact this
    clear h ok ha h0 hon hcn b1 b2 b3 b4 b5 b6 e1
    generalize s.bs.length - 4 * (x + 1) = P at *
    generalize 4 * (x + 1) = M at *
    generalize nu s.bs P = N at *
    go_enter Try.func18, Try.ntmps18
    go_wp2_with (first | (go_at_call 51; refine HL.out.mono ?_; rintro e w1 ⟨rfl, hd⟩) | (go_at_call 52; refine (HT.out _ hd).mono ?_; rintro e w2 ⟨rfl, hd2⟩) | (go_at_call 54; refine (HN.out _ hd2).mono ?_; rintro e w3 ⟨rfl, rfl⟩))
    go_ret2
    exact ⟨rfl, hd2⟩
  · rw [if_neg h0]
    generalize lackE s (x + 1) = E at *
    have q : ((E : Int) == 0) = false := by simpa using h0
    have q2 : ¬ (E : Int) = 0 := by omega
    clear h ok e1
    go_enter Try.func18, Try.ntmps18
    go_wp2_with (first | (go_at_call 51; refine HL.out.mono ?_; rintro e w1 ⟨rfl, hd⟩))
    go_ret2
    exact ⟨rfl, hd⟩
/-- the row's first k bytes are what is left -/
theorem KAt.cut {B : Nat} {w : World} {m g c : Nat} {s : Ks} (h : KAt B w m (.slice (some ⟨g, 0, none⟩) s.bs.length c) s) (k : Nat) (hk : k ≤ s.bs.length) :
    KAt B (w.setCell ⟨m, 1, none⟩ (.slice (some ⟨g, 0, none⟩) k c)) m (.slice (some ⟨g, 0, none⟩) k c) { s with bs := s.bs.take k } ∧ Fm w (w.setCell ⟨m, 1, none⟩ (.slice (some ⟨g, 0, none⟩) k c)) (TK m (.slice (some ⟨g, 0, none⟩) s.bs.length c)) (TK m (.slice (some ⟨g, 0, none⟩) k c)) := by
  refine h.row' ?_ rfl
  have := own8_take h.row k hk
  have e : (s.bs.take k).length = k := by simp; omega
  rw [e]; exact this
theorem kLeave_nil (w : World) : Calls Try.prog 36 #[.pointer none] w fun e w' => e = .returned (.int .i64 8) ∧ w' = w := by
  go_enter Try.func36, Try.ntmps36
  go_wp2_with (go_at_call 51; refine (klacks_nil _ _).mono ?_; rintro e w1 ⟨rfl, rfl⟩)
  go_ret
  exact ⟨rfl, rfl⟩
theorem kLeave_any (B m : Nat) (v : Value) (s : Ks) (w : World) (h : KAt B w m v s) (ok : OkK s) :
    Calls Try.prog 36 #[.pointer (some ⟨m, 0, none⟩)] w fun e w' => e = .returned (.int .i64 (leaveE s)) ∧ LeftK B w w' m v (leaveS s) := by
  obtain ⟨a, c, rfl, kc⟩ := h.kc'
  have HL := hidden (klacks_any m a c s 0 w kc ok)
  unfold leaveS leaveE
  by_cases h0 : lackE s 0 = 0
  · rw [if_pos h0, h0]
    rw [h0] at HL
    obtain ⟨hon, hcn⟩ := lack_zero h0
    obtain ⟨b1, b2, b3, b4, b5, b6⟩ := ok.bd hon
    obtain ⟨g, rfl⟩ := KC.isSome h (show 0 < s.bs.length by omega)
    have hcp : s.bs.length ≤ c := kc.rd.2.1
    have HS : Hid (∀ w1, Dr w w1 → (w1.cell? ⟨m, 1, none⟩ = some (.slice (some ⟨g, 0, none⟩) s.bs.length c) ∧ w1.cell? ⟨m, 2, none⟩ = some (.int .i64 s.fr) ∧ w1.cell? ⟨m, 3, none⟩ = some (.bool s.on) ∧ (∀ j, w1.frozen? ⟨m, j, none⟩ = false)) ∧ LeftK B w (((w1.setCell ⟨m, 1, none⟩ (.slice (some ⟨g, 0, none⟩) s.fr c)).setCell ⟨m, 2, none⟩ (.int .i64 (0 : Nat))).setCell ⟨m, 3, none⟩ (.bool false)) m (.slice (some ⟨g, 0, none⟩) s.bs.length c) ⟨s.size, s.bs.take s.fr, 0, false⟩) := fun w1 hd => by
      have h1 := h.later hd.below
      obtain ⟨_, k1, k2, k3, kf⟩ := h1.cells
      obtain ⟨g1, g2⟩ := h1.cut s.fr (by omega)
      obtain ⟨g3, g4⟩ := g1.set2 0
      obtain ⟨g5, g6⟩ := g3.set3 false
      exact ⟨⟨k1, k2, k3, kf⟩, _, g5, (((Fm.same hd.below).trans g2).trans g4).trans g6⟩
    clear h kc ok h0 hcn
    have hfc : s.fr ≤ c := by omega
    have hfl : s.fr ≤ s.bs.length := by omega
    clear b1 b2 b3 b4 b5 b6
    go_enter Try.func36, Try.ntmps36
    go_wp2_with (first | (go_at_call 51; refine HL.out.mono ?_; rintro e w1 ⟨rfl, hd⟩; obtain ⟨⟨k1, k2, k3, kf⟩, -⟩ := HS.out _ hd; have f1 := kf 1; have f2 := kf 2; have f3 := kf 3; have HLL := hidden (HS.out w1.drew (hd.more 1)).2; clear kf))
    go_region
    all_goals (try go_wp2)
    all_goals go_ret
    all_goals exact ⟨rfl, HLL.out⟩
  · rw [if_neg h0]
    have HK := hidden h
    generalize lackE s 0 = E at *
    have q : ((E : Int) == 0) = false := by simpa using h0
    have q2 : ¬ (E : Int) = 0 := by omega
    clear h kc ok
    go_enter Try.func36, Try.ntmps36
    go_wp2_with (first | (go_at_call 51; refine HL.out.mono ?_; rintro e w1 ⟨rfl, hd⟩))
    go_ret
    exact ⟨rfl, LeftK.dr HK.out hd⟩
theorem kPop_nil (w : World) : Calls Try.prog 26 #[.pointer none] w fun e w' => e = .returned (.tuple #[.int .u32 0, .int .i64 8]) ∧ w' = w := by
  go_enter Try.func26, Try.ntmps26
  go_wp2_with (go_at_call 18; refine (kPeek_nil _ _ (by omega) (by omega)).mono ?_; rintro e w1 ⟨rfl, rfl⟩)
  go_ret2
  exact ⟨rfl, rfl⟩
theorem peek_bd {s : Ks} (ok : OkK s) (x : Nat) : peekV s x < 4294967296 := by
  unfold peekV
  split
  · exact nu_lt ok.okb _
  · omega
theorem kPop_any (B m : Nat) (v : Value) (s : Ks) (w : World) (h : KAt B w m v s) (ok : OkK s) :
    Calls Try.prog 26 #[.pointer (some ⟨m, 0, none⟩)] w fun e w' => e = .returned (.tuple #[.int .u32 (peekV s 0), .int .i64 (peekE s 0)]) ∧ LeftK B w w' m v (popS s) := by
  obtain ⟨a, c, rfl, kc⟩ := h.kc'
  have ha : s.on = true → ∃ g, a = some ⟨g, 0, none⟩ := fun hon => KC.isSome h (show 0 < s.bs.length by have := (ok.bd hon).1; omega)
  have HL := hidden (kPeek_any m 0 a c s w kc ha ok (by omega))
  unfold popS
  by_cases h0 : peekE s 0 = 0
  · rw [if_pos h0, h0]
    rw [h0] at HL
    obtain ⟨hon, hcn⟩ := lack_zero h0
    obtain ⟨b1, b2, b3, b4, b5, b6⟩ := ok.bd hon
    have hsz := ok.sz
    have hmo := ok.most
    obtain ⟨g, rfl⟩ := ha hon
    have hcp : s.bs.length ≤ c := kc.rd.2.1
    have HS : Hid (∀ w1, Dr w w1 → (w1.cell? ⟨m, 1, none⟩ = some (.slice (some ⟨g, 0, none⟩) s.bs.length c) ∧ w1.frozen? ⟨m, 1, none⟩ = false) ∧ LeftK B w (w1.setCell ⟨m, 1, none⟩ (.slice (some ⟨g, 0, none⟩) (s.bs.length - 4) c)) m (.slice (some ⟨g, 0, none⟩) s.bs.length c) { s with bs := s.bs.take (s.bs.length - 4) }) := fun w1 hd => by
      have h1 := h.later hd.below
      obtain ⟨_, k1, k2, k3, kf⟩ := h1.cells
      obtain ⟨g1, g2⟩ := h1.cut (s.bs.length - 4) (by omega)
      exact ⟨⟨k1, kf 1⟩, _, g1, (Fm.same hd.below).trans g2⟩
    have hl4 : 4 ≤ s.bs.length := by omega
    clear h kc ok h0 hcn ha
    generalize peekV s 0 = X at *
    generalize hLL : s.bs.length = L at *
    have hw : IntKind.i64.wrap ((L : Int) - 4) = (L : Int) - 4 := by rw [IntKind.wrap_i64]; omega
    have ht : ((L : Int) - 4).toNat = L - 4 := by omega
    have h5 : (0 : Int) ≤ (L : Int) - 4 := by omega
    have h6 : (L : Int) - 4 ≤ (c : Int) := by omega
    clear b1 b2 b3 b4 b5 b6 hLL
    go_enter Try.func26, Try.ntmps26
    go_wp2_with (first | (go_at_call 18; refine HL.out.mono ?_; rintro e w1 ⟨rfl, hd⟩; obtain ⟨⟨k1, f1⟩, -⟩ := HS.out _ hd; have HLL := hidden (HS.out w1.drew (hd.more 1)).2))
    go_region
    all_goals (try go_wp2)
    all_goals go_ret2
    all_goals exact ⟨rfl, HLL.out⟩
  · have HV := hidden (show peekV s 0 = 0 by unfold peekV; rw [if_neg h0])
    rw [if_neg h0]
    have HK := hidden h
    generalize peekE s 0 = E at *
    have q : ((E : Int) == 0) = false := by simpa using h0
    have q2 : ¬ (E : Int) = 0 := by omega
    have hv : peekV s 0 = 0 := HV.out
    rw [hv] at HL ⊢
    clear h kc ok
    go_enter Try.func26, Try.ntmps26
    go_wp2_with (first | (go_at_call 18; refine HL.out.mono ?_; rintro e w1 ⟨rfl, hd⟩))
    go_ret2
    exact ⟨rfl, LeftK.dr HK.out hd⟩
theorem kUnstub_nil (w : World) : Calls Try.prog 20 #[.pointer none] w fun e w' => e = .returned (.tuple #[.int .u32 0, .int .u32 0, .int .u32 0, .int .i64 8]) ∧ w' = w := by
  go_enter Try.func20, Try.ntmps20
  go_wp2_with (go_at_call 47; refine (kstub_nil _).mono ?_; rintro e w1 ⟨rfl, rfl⟩)
  refine bodyPost_ret (v := .tuple #[.int .u32 0, .int .u32 0, .int .u32 0, .int .i64 8]) (by simp [results, Try.results20, go_sem]) rfl ⟨rfl, rfl⟩
end Go.Proofs.Ythhkennomnmjkaa
