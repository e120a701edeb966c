/- Contracts of package text's args, far, leaf. -/
import Derived.Test.YtbifolpahmeaeaaB12c
namespace Go.Proofs.Ytbifolpahmeaeaa
open Go.RowKit
set_option maxHeartbeats 1000000
set_option maxRecDepth 100000
set_option linter.unusedVariables false

/-- the error behind a number and so many numbers more -/
def agE (zs : List Int) (p e : Nat) : Nat := if e = 0 then (if p + 4 ≤ zs.length then (if p + 4 + 4 * nuV zs p 4 ≤ zs.length then 0 else 90) else 90) else e
/-- the error behind the number that lies where a number tells -/
def faE (zs : List Int) (p e : Nat) : Nat := if tkE zs p e 4 = 0 then tkE zs (nuV zs p 4) 0 4 else tkE zs p e 4
theorem tk_err {zs : List Int} {p e k : Nat} (h : e ≠ 0) : tkE zs p e k = e ∧ tkV zs p e k = 0 ∧ tkP zs p e k = p := by
  have h1 : tkE zs p e k = e := by unfold tkE; rw [if_neg h]
  unfold tkV tkP
  rw [h1, if_neg h, if_neg h]
  exact ⟨rfl, rfl, rfl⟩
theorem ttake4 (R : Nat) (a : Option Addr) (n c p e : Nat) (zs : List Int) (w : World) (hbx : TBox w R a n c p e) (hm : Mem w a n c zs) (hp : p < 4294967296) :
    Calls Try.prog 34 #[.pointer (some ⟨R, 0, none⟩), .int .i64 4] w fun r w' => r = .returned (.int .u32 (tkV zs p e 4)) ∧ TBox w' R a n c (tkP zs p e 4) (tkE zs p e 4) ∧ FR R w w' := ttake_any R a n c p e 4 zs w hbx hm (.inr rfl) hp
theorem ttake1 (R : Nat) (a : Option Addr) (n c p e : Nat) (zs : List Int) (w : World) (hbx : TBox w R a n c p e) (hm : Mem w a n c zs) (hp : p < 4294967296) :
    Calls Try.prog 34 #[.pointer (some ⟨R, 0, none⟩), .int .i64 1] w fun r w' => r = .returned (.int .u32 (tkV zs p e 1)) ∧ TBox w' R a n c (tkP zs p e 1) (tkE zs p e 1) ∧ FR R w w' := ttake_any R a n c p e 1 zs w hbx hm (.inl rfl) hp
theorem targs_any (R : Nat) (a : Option Addr) (n c p e : Nat) (zs : List Int) (w : World) (hbx : TBox w R a n c p e) (hm : Mem w a n c zs) (hR : 0 < n → ∀ x, a = some x → x.block ≠ R) (hp : p ≤ n) :
    Calls Try.prog 43 #[.pointer (some ⟨R, 0, none⟩)] w fun r w' => (∃ a' l' c', r = .returned (.slice a' l' c')) ∧ (∃ p', TBox w' R a n c p' (agE zs p e)) ∧ FR R w w' := by
  have hl := hm.len
  have hle := hm.le
  have hRl := hbx.lt
  have HOK := hidden hm.ok
  have HT0 := hidden (ttake_any R a n c p e 4 zs w hbx hm (.inr rfl) (by omega))
  have HT : Hid (∀ wx q, FR R w wx → TBox wx R a n c q 0 → q ≤ n → Calls Try.prog 34 #[.pointer (some ⟨R, 0, none⟩), .int .i64 4] wx fun r w' => r = .returned (.int .u32 (tkV zs q 0 4)) ∧ TBox w' R a n c (tkP zs q 0 4) (tkE zs q 0 4) ∧ FR R wx w') := fun wx q f hx hq =>
    ttake_any R a n c q 0 4 zs wx hx (hm.fr hR f) (.inr rfl) (by omega)
  clear hm hbx
  by_cases hrd : e = 0 ∧ p + 4 ≤ n
  · obtain ⟨rfl, hp4⟩ := hrd
    have hz : p + 4 ≤ zs.length := by omega
    rw [tkV_ok hz, tkE_ok hz, tkP_ok hz] at HT0
    have HAG : Hid (agE zs p 0 = if p + 4 + 4 * nuV zs p 4 ≤ n then 0 else 90) := by
      show agE zs p 0 = _
      unfold agE
      rw [if_pos rfl, if_pos hz, hl]
    obtain ⟨hN0, hNb⟩ := nuV_bd zs HOK.out p 4 (.inr rfl)
    clear hN0
    generalize agE zs p 0 = EE at *
    generalize nuV zs p 4 = N at *
    go_enter Try.func43, Try.ntmps43
    go_wp2_with (first | (go_at_call 34; refine HT0.out.mono ?_; rintro r w1 ⟨rfl, hx1, hf1⟩; have HX1 := hidden hx1; have HF1 := hidden hf1; clear hx1 hf1))
    go_loopw [3, 4] (fun v x wr => ∃ (j : Nat) (xs : List Nat) (a' : Option Addr) (c' P E : Nat), j ≤ N ∧ v = .slice a' j c' ∧ x = .int .u32 ((N - j : Nat) : Int) ∧ j ≤ n + 1 ∧ Hid ((E = 0 ∧ P = p + 4 + 4 * j ∧ P ≤ n) ∨ (E = 90 ∧ ¬ p + 4 + 4 * N ≤ n)) ∧ Hid (wr.ownsRow w.heap.size 22 1 (.slice a' j c') j (u32V xs)) ∧ Hid (TBox wr R a n c P E) ∧ Hid (FR R w wr)) (fun _ x _ => (intOf x).toNat)
    case atStart => exact ⟨0, [], none, 0, _, _, by omega, rfl, by simp, by omega, .inl ⟨rfl, rfl, by omega⟩, World.ownsRow_nil _ _ _ _, HX1, HF1⟩
    case round =>
      obtain ⟨j, xs, a', c', P, E, hj, rfl, rfl, hjn, HI, HO, HX, HF⟩ := hrel
      clear HX1 HF1
      obtain ⟨c0, c1, c2, _⟩ := tb_box HX.out
      have HIO := HI.out
      by_cases hE : E = 0
      · subst hE
        have hP : P = p + 4 + 4 * j ∧ P ≤ n := by
          rcases HIO with h | h
          · exact h.2
          · omega
        have c2' : wr.cell? ⟨R, 2, none⟩ = some (.int .i64 0) := c2
        clear c2 HIO
        by_cases hjN : j < N
        · have d1 : ((N - j : Nat) : Int) > 0 := by omega
          have hw : IntKind.u32.wrap (((N - j : Nat) : Int) - 1) = ((N - (j + 1) : Nat) : Int) := by rw [IntKind.wrap_u32]; omega
          have HTK : Hid (Calls Try.prog 34 #[.pointer (some ⟨R, 0, none⟩), .int .i64 4] wr fun r w' => r = .returned (.int .u32 (tkV zs P 0 4)) ∧ Hid (TBox w' R a n c (tkP zs P 0 4) (tkE zs P 0 4)) ∧ Hid (FR R w w') ∧ Hid (w'.ownsRow w.heap.size 22 1 (.slice a' j c') j (u32V xs)) ∧ w.heap.size ≤ w'.heap.size) := (HT.out wr P HF.out HX.out hP.2).mono (fun r w' hh => ⟨hh.1, hh.2.1, HF.out.trans hh.2.2, own8_fm hh.2.2 HO.out (fun j e1 e2 => by have := (HO.out.lt j e1).1; omega), Nat.le_trans HF.out.size hh.2.2.size⟩)
          have hVb : tkV zs P 0 4 < 4294967296 := by
            unfold tkV
            split
            · exact (nuV_bd zs HOK.out P 4 (.inr rfl)).2
            · omega
          have HI2 : Hid ((tkE zs P 0 4 = 0 ∧ tkP zs P 0 4 = p + 4 + 4 * (j + 1) ∧ tkP zs P 0 4 ≤ n) ∨ (tkE zs P 0 4 = 90 ∧ ¬ p + 4 + 4 * N ≤ n)) := by
            by_cases h : P + 4 ≤ zs.length
            · exact .inl ⟨tkE_ok h, by rw [tkP_ok h]; omega, by rw [tkP_ok h]; omega⟩
            · exact .inr ⟨tkE_no h, by omega⟩
          generalize tkV zs P 0 4 = V at *
          generalize tkE zs P 0 4 = E2 at *
          generalize tkP zs P 0 4 = P2 at *
          generalize hXX : ((N - j : Nat) : Int) = X at *
          have HXX := hidden hXX
          clear hXX
          go_wp2_with (first | (go_at_call 34; refine HTK.out.mono ?_; rintro r w3 ⟨rfl, HX3, HF3, HO3, hs3⟩) | (at_builtin; refine wpList_snoc32 (wr := w3) rfl _ _ rfl w.heap.size j c' V a' xs rfl rfl HO3.out hVb hs3 (by omega) ?_; intro a2 c2 w4 ho4 hb4; have HO4 := hidden ho4; have HX4 := hidden (HX3.out.low hb4 hRl); have HF4 := hidden (HF3.out.low hb4); clear ho4 hb4))
          go_roundw
          case rel => exact ⟨j + 1, xs ++ [V], a2, c2, _, _, by omega, rfl, rfl, by omega, HI2, HO4, HX4, HF4⟩
          case measure => have := HXX.out; simp [intOf]; omega
        · have d1 : ¬ ((N - j : Nat) : Int) > 0 := by omega
          obtain rfl : j = N := by omega
          have hEE : EE = 0 := by rw [HAG.out, if_pos (by omega)]
          subst hEE
          generalize ((j - j : Nat) : Int) = X at *
          go_wp2
          go_ret
          exact ⟨⟨a', j, c', rfl⟩, ⟨P, HX.out⟩, HF.out⟩
      · have hE2 : E = 90 ∧ ¬ p + 4 + 4 * N ≤ n := by
          rcases HIO with h | h
          · omega
          · exact h
        obtain ⟨rfl, hn2⟩ := hE2
        have c2' : wr.cell? ⟨R, 2, none⟩ = some (.int .i64 90) := c2
        have hEE : EE = 90 := by rw [HAG.out, if_neg hn2]
        subst hEE
        clear c2 HIO hE
        by_cases hX : ((N - j : Nat) : Int) > 0
        · generalize ((N - j : Nat) : Int) = X at *
          go_wp2
          go_ret
          exact ⟨⟨a', j, c', rfl⟩, ⟨P, HX.out⟩, HF.out⟩
        · generalize ((N - j : Nat) : Int) = X at *
          go_wp2
          go_ret
          exact ⟨⟨a', j, c', rfl⟩, ⟨P, HX.out⟩, HF.out⟩
  · have hE : tkE zs p e 4 ≠ 0 ∧ tkV zs p e 4 = 0 ∧ agE zs p e = tkE zs p e 4 := by
      by_cases h : e = 0
      · subst h
        have h2 : ¬ p + 4 ≤ zs.length := by omega
        exact ⟨by rw [tkE_no h2]; omega, tkV_no h2, by rw [tkE_no h2]; unfold agE; rw [if_pos rfl, if_neg h2]⟩
      · obtain ⟨h1, h2, _⟩ := tk_err (zs := zs) (p := p) (k := 4) h
        exact ⟨by rw [h1]; exact h, h2, by rw [h1]; unfold agE; rw [if_neg h]⟩
    obtain ⟨hE0, hV, hA⟩ := hE
    rw [hA]
    rw [hV] at HT0
    clear hA hV HT
    generalize tkE zs p e 4 = E at *
    generalize tkP zs p e 4 = P at *
    go_enter Try.func43, Try.ntmps43
    go_wp2_with (first | (go_at_call 34; refine HT0.out.mono ?_; rintro r w1 ⟨rfl, hx1, hf1⟩; have HX1 := hidden hx1; have HF1 := hidden hf1; clear hx1 hf1))
    go_loopw [3, 4] (fun v x wr => v = .slice none 0 0 ∧ x = .int .u32 0 ∧ wr = w1) (fun _ _ _ => 0)
    case atStart => exact ⟨rfl, rfl, rfl⟩
    case round =>
      obtain ⟨rfl, rfl, rfl⟩ := hrel
      go_wp2
      go_ret
      exact ⟨⟨none, 0, 0, rfl⟩, ⟨P, HX1.out⟩, HF1.out⟩
theorem tfar_any (R : Nat) (a : Option Addr) (n c p e : Nat) (zs : List Int) (w : World) (hbx : TBox w R a n c p e) (hm : Mem w a n c zs) (hR : 0 < n → ∀ x, a = some x → x.block ≠ R) (hp : p ≤ n) :
    Calls Try.prog 42 #[.pointer (some ⟨R, 0, none⟩)] w fun r w' => (∃ V : Nat, r = .returned (.int .u32 V)) ∧ TBox w' R a n c (tkP zs p e 4) (faE zs p e) ∧ FR R w w' := by
  have hl := hm.len
  have hle := hm.le
  have hRl := hbx.lt
  have HT0 := hidden (ttake4 R a n c p e zs w hbx hm (by omega))
  have hVb : tkV zs p e 4 < 4294967296 := by
    unfold tkV
    split
    · exact (nuV_bd zs hm.ok p 4 (.inr rfl)).2
    · omega
  have HT2 : Hid (∀ w1, TBox w1 R a n c (tkP zs p e 4) (tkE zs p e 4) → FR R w w1 → Calls Try.prog 34 #[.pointer (some ⟨w1.heap.size, 0, none⟩), .int .i64 4] (w1.alloc (.cells #[.slice a n c, .int .u32 (tkV zs p e 4), .int .i64 ((0 : Nat) : Int)] 77)) fun r w' => r = .returned (.int .u32 (tkV zs (tkV zs p e 4) 0 4)) ∧ Hid (TBox w' w1.heap.size a n c (tkP zs (tkV zs p e 4) 0 4) (tkE zs (tkV zs p e 4) 0 4)) ∧ Hid (TBox w' R a n c (tkP zs p e 4) (tkE zs p e 4)) ∧ Hid (FR R w w')) := fun w1 hx f => by
    have hb : Below w1.heap.size w1 (w1.alloc (.cells #[.slice a n c, .int .u32 (tkV zs p e 4), .int .i64 ((0 : Nat) : Int)] 77)) := (Below.refl _ _).alloc (Nat.le_refl _) _
    have hm1 := hm.fr hR f
    refine (ttake4 w1.heap.size a n c (tkV zs p e 4) 0 zs _ (tb_new w1 a n c _ 0) (hm1.later hb) hVb).mono ?_
    rintro r w' ⟨h1, h2, h3⟩
    have hbw : Below w1.heap.size w1 w' := hb.trans (h3.below hb.size (fun k e => by omega))
    exact ⟨h1, h2, hx.later hbw, f.later hbw⟩
  have HFL : Hid (∀ w2, TBox w2 R a n c (tkP zs p e 4) (tkE zs p e 4) → FR R w w2 → Calls Try.prog 39 #[.pointer (some ⟨R, 0, none⟩), .int .i64 (tkE zs (tkV zs p e 4) 0 4)] w2 fun r w' => r = .returned (.tuple #[]) ∧ Hid (TBox w' R a n c (tkP zs p e 4) (faE zs p e)) ∧ Hid (FR R w w')) := fun w2 hx f => by
    refine (tfail_any R a n c _ _ _ w2 hx).mono ?_
    rintro r w' ⟨h1, h2, h3⟩
    refine ⟨h1, ?_, f.trans h3⟩
    unfold faE
    by_cases h : tkE zs p e 4 = 0
    · rw [if_pos h] at h2 ⊢
      unfold tkV at h2
      rw [if_pos h] at h2
      exact h2
    · rw [if_neg h] at h2 ⊢
      exact h2
  clear hm hbx
  have hz0 : ((0 : Nat) : Int) = 0 := rfl
  rw [hz0] at HT2
  generalize faE zs p e = FE at *
  generalize tkE zs (tkV zs p e 4) 0 4 = E2 at *
  generalize tkP zs (tkV zs p e 4) 0 4 = P2 at *
  generalize tkV zs (tkV zs p e 4) 0 4 = V2 at *
  generalize tkV zs p e 4 = V at *
  generalize tkE zs p e 4 = E at *
  generalize tkP zs p e 4 = P at *
  go_enter Try.func42, Try.ntmps42
  go_wp2_with (first | (go_at_call 34; (with_reducible refine HT0.out.mono ?_); rintro r w1 ⟨rfl, hx1, hf1⟩; obtain ⟨q0, q1, q2, _⟩ := tb_box hx1; have HK := hidden (HT2.out _ hx1 hf1); clear hx1 hf1) | (go_at_call 34; refine HK.out.mono ?_; rintro r w2 ⟨rfl, HY2, HX2, HF2⟩; obtain ⟨y0, y1, y2, _⟩ := tb_box HY2.out) | (go_at_call 39; refine (HFL.out _ HX2.out HF2.out).mono ?_; rintro r w3 ⟨rfl, HX3, HF3⟩))
  go_ret
  exact ⟨⟨_, rfl⟩, HX3.out, HF3.out⟩
end Go.Proofs.Ytbifolpahmeaeaa
