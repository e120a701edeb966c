/- Layer 17, the program: Stretch. -/
import Derived.Test.YtnjeobijbbjlaaaZ17d
namespace Go.Proofs.Ytnjeobijbbjlaaa
open Go.RowKit
set_option maxHeartbeats 1000000
set_option maxRecDepth 100000
set_option linter.unusedVariables false

theorem drewN_below {B : Nat} {w w' : World} (h : Below B w w') (n : Nat) : Below B w (w'.drewN n) := ⟨h.os, h.tape, h.output, h.size, h.block⟩
def lenOf : Value → Nat
  | .slice _ n _ => n
  | _ => 0
theorem next_byte (x : Addr) (n c : Nat) (z : Int) (w : World) (h0 : 0 < n) (hz : z ≠ 0) (hc : w.cell? x = some (.int .u8 z)) :
    Calls Try.prog 26 #[.slice (some x) n c] w fun e w' => e = .returned (.tuple #[.int .i64 1, .int .i64 1, .int .i64 0]) ∧ w' = w := by
  have hze : (z == 0) = false := by rw [beq_eq_false_iff_ne]; exact hz
  have l1 : (0 : Int) < n := by omega
  go_enter Try.func26, Try.ntmps26
  go_wp2
  go_ret3
  exact ⟨rfl, rfl⟩
theorem next_short (x : Addr) (c : Nat) (w : World) (hc : w.cell? x = some (.int .u8 0)) :
    Calls Try.prog 26 #[.slice (some x) 1 c] w fun e w' => e = .returned (.tuple #[.int .i64 0, .int .i64 0, .int .i64 2]) ∧ w' = w := by
  go_enter Try.func26, Try.ntmps26
  go_wp2
  go_ret3
  exact ⟨rfl, rfl⟩
theorem next_run (x : Addr) (n c : Nat) (d : Int) (w : World) (h0 : 2 ≤ n) (hd : 0 ≤ d ∧ d ≤ 255) (hc : w.cell? x = some (.int .u8 0)) (hc1 : w.cell? (x.add 1) = some (.int .u8 d)) :
    Calls Try.prog 26 #[.slice (some x) n c] w fun e w' => e = .returned (.tuple #[.int .i64 2, .int .i64 (d + 1), .int .i64 0]) ∧ Hid (Below w.heap.size w w') := by
  have l1 : (0 : Int) < n := by omega
  have l2 : (1 : Int) < n := by omega
  have hc2 : w.cell? ⟨x.block, x.off + 1, none⟩ = some (.int .u8 d) := by rw [← Addr.add_succ' x 0]; exact hc1
  clear hc1
  have ln : ((n : Int) == 1) = false := by rw [beq_eq_false_iff_ne]; omega
  have hw1 : IntKind.i64.wrap d = d := by rw [IntKind.wrap_i64]; omega
  have hw2 : IntKind.i64.wrap (1 + d) = d + 1 := by rw [IntKind.wrap_i64]; omega
  go_enter Try.func26, Try.ntmps26
  go_upto_region 5 with fail
  go_quiet (fail)
  go_wp2
  go_ret3
  exact ⟨by first | rfl | simp [hw2], hidden (drewN_below (Below.refl _ _) _)⟩
/-- what Stretch answers -/
def StR (w : World) (zs : List Int) (er : Int) (e : Ending) (w' : World) : Prop := ∃ a n c, e = .returned (.tuple #[.slice a n c, .int .i64 er]) ∧ Hid (w'.ownsRow w.heap.size 5 1 (.slice a n c) n (bytesV zs)) ∧ Hid (Below w.heap.size w w')
theorem stretch_bad (a b : Option Addr) (la ca lb cb : Nat) (size : Int) (w : World) (hs : size < 0 ∨ 1048576 < size) :
    Calls Try.prog 13 #[.slice a la ca, .int .i64 size, .slice b lb cb] w (StR w [] 1) := by
  have HF := hidden (World.ownsRow_nil w w.heap.size 5 1)
  by_cases h0 : size < 0
  · go_enter Try.func13, Try.ntmps13
    go_wp2
    go_ret2
    exact ⟨_, _, _, rfl, HF, hidden (Below.refl _ _)⟩
  · have h1 : size > 1048576 := by omega
    clear hs
    go_enter Try.func13, Try.ntmps13
    go_wp2
    go_ret2
    exact ⟨_, _, _, rfl, HF, hidden (Below.refl _ _)⟩
/-- what stands behind a slice's first bytes -/
theorem Stays.cut {B : Nat} {w : World} {x : Addr} {m mc : Nat} {ys : List Int} (h : Stays B w (some x) m mc ys) (k : Nat) (hk : k ≤ m) : Stays B w (some (x.add k)) (m - k) (mc - k) (ys.drop k) := by
  intro wx hx
  obtain ⟨h1, h2, h3⟩ := h wx hx
  rcases h3 with ⟨h4, _⟩ | ⟨y, h4, h5⟩
  · cases h4
  · cases h4
    refine ⟨by simp; omega, by omega, .inr ⟨_, rfl, fun i hi => ?_⟩⟩
    have := h5 (k + i) (by omega)
    rw [Addr.add_add]
    simpa [List.getD_eq_getElem?_getD, List.getElem?_drop] using this
theorem Stays.none0 {B : Nat} {w : World} {x : Addr} {m mc : Nat} {ys : List Int} (h : Stays B w (some x) m mc ys) (k : Nat) (hk : k = m) (c : Nat) : Stays B w (some x) (m - k) c (ys.drop k) := by
  intro wx hx
  obtain ⟨h1, h2, h3⟩ := h wx hx
  exact ⟨by simp; omega, by omega, .inr ⟨_, rfl, fun i hi => by omega⟩⟩
theorem row_set (told : List Int) (n t q : Nat) (C : Int) (ht : told.length = t) (hq : 1 ≤ q) (hn : q ≤ n - t) : (told ++ zer8 (n - t)).set t C = (told ++ C :: zer8 (q - 1)) ++ zer8 (n - (t + q)) := by
  subst ht
  rw [List.set_append_right (h := Nat.le_refl _), Nat.sub_self]
  have e : zer8 (n - told.length) = 0 :: (zer8 (q - 1) ++ zer8 (n - (told.length + q))) := by
    unfold zer8
    rw [List.replicate_append_replicate, ← List.replicate_succ]
    congr 1
    omega
  rw [e]
  simp
/-- the first part of what is left -/
theorem part_any {B : Nat} {w : World} {x : Addr} {lb p cq : Nat} {bs : List Int} (hS : Stays B w (some x) (lb - p) cq (bs.drop p)) (hl : bs.length = lb) (hbd : OkB bs) (hp : p < lb) (r : Nat) :
    ∃ (kb q : Nat) (er : Int), (∀ wx, Below B w wx → Calls Try.prog 26 #[.slice (some x) (lb - p) cq] wx fun e w' => e = .returned (.tuple #[.int .i64 kb, .int .i64 q, .int .i64 er]) ∧ Hid (Below wx.heap.size wx w')) ∧
      ((er = 2 ∧ unE (bs.drop p) r = 2) ∨ (er = 0 ∧ 1 ≤ kb ∧ p + kb ≤ lb ∧ 1 ≤ q ∧ q ≤ 256 ∧ (r < q → unE (bs.drop p) r = 3) ∧ (q ≤ r → unE (bs.drop p) r = unE (bs.drop (p + kb)) (r - q)) ∧ unL (bs.drop p) = (bs.getD p 0 :: zer8 (q - 1)) ++ unL (bs.drop (p + kb)))) := by
  have hp2 : p < bs.length := by omega
  obtain ⟨y, hy, hx⟩ := stays_cell hS (by omega)
  cases hy
  have hd : bs.drop p = bs.getD p 0 :: bs.drop (p + 1) := by
    rw [← List.getElem_cons_drop hp2]
    simp [List.getD_eq_getElem?_getD, hp2]
  have g0 : ∀ wx, Below B w wx → wx.cell? x = some (.int .u8 (bs.getD p 0)) := fun wx h => by
    have := hx wx h 0 (by omega)
    rw [Addr.add_zero'] at this
    rw [this, hd]; rfl
  by_cases hc : bs.getD p 0 = 0
  · by_cases h1 : lb - p = 1
    · have hd1 : bs.drop (p + 1) = [] := by rw [List.drop_eq_nil_iff]; omega
      refine ⟨0, 0, 2, fun wx h => ?_, .inl ⟨rfl, by rw [hd, hd1, hc, unE_short]⟩⟩
      rw [h1]
      exact (next_short x cq wx (by rw [g0 wx h, hc])).mono (fun e w' hh => ⟨hh.1, hidden (by rw [hh.2]; exact Below.refl _ _)⟩)
    · have hp3 : p + 1 < bs.length := by omega
      have hd1 : bs.drop (p + 1) = bs.getD (p + 1) 0 :: bs.drop (p + 2) := by
        rw [← List.getElem_cons_drop hp3]
        simp [List.getD_eq_getElem?_getD, hp3]
      have hdb := okb_at hbd (p + 1)
      have g1 : ∀ wx, Below B w wx → wx.cell? (x.add 1) = some (.int .u8 (bs.getD (p + 1) 0)) := fun wx h => by
        have := hx wx h 1 (by omega)
        rw [this, hd, hd1]; rfl
      obtain ⟨D, hD⟩ : ∃ D : Nat, bs.getD (p + 1) 0 = D := ⟨(bs.getD (p + 1) 0).toNat, by omega⟩
      refine ⟨2, D + 1, 0, fun wx h => ?_, .inr ⟨rfl, by omega, by omega, by omega, by omega, fun hr => ?_, fun hr => ?_, ?_⟩⟩
      · have := next_run x (lb - p) cq (bs.getD (p + 1) 0) wx (by omega) hdb (by rw [g0 wx h, hc]) (g1 wx h)
        rw [hD] at this
        exact this
      · rw [hd, hd1, hc, unE_run, hD, if_pos (by simpa using hr)]
      · rw [hd, hd1, hc, unE_run, hD, if_neg (by simp; omega)]; rfl
      · rw [hd, hd1, hc, unL_run, hD]
        simp [zer8, List.replicate_succ]
  · refine ⟨1, 1, 0, fun wx h => ?_, .inr ⟨rfl, by omega, by omega, by omega, by omega, fun hr => ?_, fun hr => ?_, ?_⟩⟩
    · exact (next_byte x (lb - p) cq _ wx (by omega) hc (g0 wx h)).mono (fun e w' hh => ⟨hh.1, hidden (by rw [hh.2]; exact Below.refl _ _)⟩)
    · rw [hd, unE_byte _ _ _ hc, if_pos hr]
    · rw [hd, unE_byte _ _ _ hc, if_neg (by omega)]
    · rw [hd, unL_byte _ _ hc]; rfl
set_option maxHeartbeats 8000000 in
theorem stretch_good (a b : Option Addr) (la ca lb cb n : Nat) (ws bs : List Int) (w : World) (ha : Reads w a la ca ws) (hb : Reads w b lb cb bs) (hbd : OkB bs) (hla : la ≤ 2000000) (hlb : lb ≤ 2000000) (hn : n ≤ 1048576) :
    Calls Try.prog 13 #[.slice a la ca, .int .i64 n, .slice b lb cb] w (StR w (stL ws n bs) (stE n bs)) := by
  have hmk : ∀ w, (Instr.makeSlice 22 (.int .i64 n) (.int .i64 n)).run Try.prog w = .ok (.slice (some ⟨w.heap.size, 0, none⟩) n n) (w.alloc (.cells (bytesV (zer8 n)).toArray 5)) := fun w => mk8 .i64 n (by omega) w
  have hb1 : Below w.heap.size w (w.alloc (.cells (bytesV (zer8 n)).toArray 5)) := (Below.refl _ _).alloc (Nat.le_refl _) _
  have HO1 : Hid ((w.alloc (.cells (bytesV (zer8 n)).toArray 5)).ownsRow w.heap.size 5 1 (.slice (some ⟨w.heap.size, 0, none⟩) n n) n (bytesV (zer8 n))) := hidden (by
    have := owns_new w w.heap.size (zer8 n) (Nat.le_refl _) (by rw [zer8_len]; unfold maxLen; omega)
    rwa [zer8_len] at this)
  have HSB := hidden (stays_of hb)
  have HMX : Hid (∀ zs w1, w1.ownsRow w.heap.size 5 1 (.slice (some ⟨w.heap.size, 0, none⟩) n n) n (bytesV zs) → Below w.heap.size w w1 → Calls Try.prog 23 #[.slice (some ⟨w.heap.size, 0, none⟩) n n, .slice a la ca] w1 fun e w' => e = .returned (.tuple #[]) ∧ Hid (w'.ownsRow w.heap.size 5 1 (.slice (some ⟨w.heap.size, 0, none⟩) n n) n (bytesV (rowL ws zs))) ∧ Hid (Below w.heap.size w1 w')) := hidden (fun zs w1 h1 h2 => mix_any w.heap.size n n la ca _ a zs ws w1 h1 ((stays_of ha).later h2) (by omega) (by omega))
  have n0 : ¬ ((n : Int) < 0) := by omega
  have n1 : ¬ ((n : Int) > 1048576) := by omega
  have HEQ : Hid (stE n bs = unE bs n) := hidden (by unfold stE; rw [if_neg (by omega)]; rfl)
  have HLQ : Hid (unE bs n = 0 → stL ws n bs = rowL ws (unL bs ++ zer8 (n - (unL bs).length))) := hidden (fun h => by unfold stL; rw [HEQ.out, if_pos h]; rfl)
  have HLN : Hid (unE bs n ≠ 0 → stL ws n bs = []) := hidden (fun h => by unfold stL; rw [HEQ.out, if_neg h])
  rw [HEQ.out]
  have HBD := hidden hbd
  have HLB := hidden hb.1
  generalize stL ws n bs = RES at *
  clear ha hb hbd HEQ
  have HB1 := hidden hb1
  clear hb1
  go_enter Try.func13, Try.ntmps13
  go_upto_region 5 with fail
  generalize w.alloc (.cells (bytesV (zer8 n)).toArray 5) = w1 at *
  clear hmk
  go_loopw [2, 9] (fun v i w' => ∃ (p t cq : Nat) (A : Option Addr) (told : List Int), p ≤ lb ∧ t ≤ n ∧ v = .slice A (lb - p) cq ∧ i = .int .i64 t ∧ Hid (told.length = t ∧ told ++ unL (bs.drop p) = unL bs ∧ unE (bs.drop p) (n - t) = unE bs n) ∧ Hid (w'.ownsRow w.heap.size 5 1 (.slice (some ⟨w.heap.size, 0, none⟩) n n) n (bytesV (told ++ zer8 (n - t)))) ∧ Hid (Stays w.heap.size w A (lb - p) cq (bs.drop p)) ∧ Hid (Below w.heap.size w w')) (fun v _ _ => (lenOf v))
  case atStart => exact ⟨0, 0, cb, b, [], by omega, by omega, rfl, rfl, hidden ⟨rfl, by simp, rfl⟩, HO1, hidden (by simpa using HSB.out), HB1⟩
  case round =>
    obtain ⟨p, t, cq, A, told, hp, ht, rfl, rfl, HT, HO, HS, HB⟩ := hrel
    clear HO1 HSB HB1
    by_cases hlt : p < lb
    · have l1 : ((lb - p : Nat) : Int) > 0 := by omega
      obtain ⟨x, rfl, hx⟩ := stays_cell HS.out (by omega)
      obtain ⟨kb, q, er, HNP, hcase⟩ := part_any HS.out HLB.out HBD.out hlt (n - t)
      have hx0 : Hid (∀ wx, Below w.heap.size w wx → wx.cell? x = some (.int .u8 (bs.getD p 0))) := hidden (fun wx h => by
        have := hx wx h 0 (by omega)
        rw [Addr.add_zero'] at this
        rw [this]
        simp [List.getD_eq_getElem?_getD, List.getElem?_drop])
      have HNQ := hidden HNP
      clear HNP hx
      rcases hcase with ⟨rfl, h2⟩ | ⟨rfl, k1, k2, q1, q2, e1, e2, e3⟩
      · have HU : Hid (unE bs n = 2) := hidden (by rw [← HT.out.2.2]; exact h2)
        have HR0 := hidden (HLN.out (by rw [HU.out]; decide))
        clear h2 HLN HLQ HMX HS HT HO
        go_wp2_with (first
          | (go_at_call 26; refine (HNQ.out _ HB.out).mono ?_; rintro e w3 ⟨rfl, HB3⟩)
          | fail)
        go_ret2
        exact ⟨none, 0, 0, by rw [HU.out]; rfl, by rw [HR0.out]; exact hidden (World.ownsRow_nil _ _ _ _), hidden (HB.out.trans (HB3.out.mono HB.out.size))⟩
      · by_cases hq : n - t < q
        · have HU : Hid (unE bs n = 3) := hidden (by rw [← HT.out.2.2]; exact e1 hq)
          have HR0 := hidden (HLN.out (by rw [HU.out]; decide))
          have hgt : (q : Int) > (n : Int) - t := by omega
          clear e1 e2 e3 HLN HLQ HMX HS HT HO
          go_wp2_with (first
            | (go_at_call 26; refine (HNQ.out _ HB.out).mono ?_; rintro e w3 ⟨rfl, HB3⟩)
            | fail)
          go_ret2
          exact ⟨none, 0, 0, by rw [HU.out]; rfl, by rw [HR0.out]; exact hidden (World.ownsRow_nil _ _ _ _), hidden (HB.out.trans (HB3.out.mono HB.out.size))⟩
        · have hgt : ¬ ((q : Int) > (n : Int) - t) := by omega
          have HT2 : Hid ((told ++ bs.getD p 0 :: zer8 (q - 1)).length = t + q ∧ (told ++ bs.getD p 0 :: zer8 (q - 1)) ++ unL (bs.drop (p + kb)) = unL bs ∧ unE (bs.drop (p + kb)) (n - (t + q)) = unE bs n) := hidden ⟨by simp [zer8_len, HT.out.1]; omega, by rw [← HT.out.2.1, e3]; simp, by rw [← HT.out.2.2, e2 (by omega), show n - t - q = n - (t + q) by omega]⟩
          have HSE := hidden (row_set told n t q (bs.getD p 0) HT.out.1 q1 (by omega))
          have tn : (t : Int) < n := by omega
          have t0 : (0 : Int) ≤ t := by omega
          have kl : (kb : Int) ≤ ((lb - p : Nat) : Int) := by omega
          have HO3 : Hid (∀ wx, Below wr.heap.size wr wx → wx.ownsRow w.heap.size 5 1 (.slice (some ⟨w.heap.size, 0, none⟩) n n) n (bytesV (told ++ zer8 (n - t)))) := hidden (fun wx h => own_later HO.out h)
          generalize bs.getD p 0 = C at *
          clear e1 e2 e3 HT HO
          go_upto_region 11 with (first
            | (go_at_call 26; refine (HNQ.out _ HB.out).mono ?_; rintro e w3 ⟨rfl, HB3⟩)
            | fail)
          have HB4 := hidden (HB.out.trans (HB3.out.mono HB.out.size))
          have c0 := hx0.out _ HB4.out
          have HO4 := hidden (HO3.out _ HB3.out)
          have c1 := owned_cells HO4.out t (by omega)
          have c1f := HO4.out.frozenAt t
          have HO5 := hidden (row_put HO4.out t C)
          rw [HSE.out] at HO5
          clear HO3 HO4 HNQ hx0 HB3 HB
          rw [Nat.zero_add] at c1
          have HB5 := hidden (HB4.out.setCell (p := ⟨w.heap.size, t, none⟩) (Nat.le_refl _) (.int .u8 C))
          go_wp2
          go_roundw
          case rel =>
            have hcap := (HS.out w3 HB4.out).2.1
            have e1 : lb - p - kb = lb - (p + kb) := by omega
            have e2 : bs.drop (p + kb) = (bs.drop p).drop kb := by rw [List.drop_drop]
            refine ⟨p + kb, t + q, cq - kb, _, _, by omega, by omega, by rw [e1], by first | rfl | go_num, HT2, HO5, ?_, HB5⟩
            rw [e2, ← e1]
            by_cases hcq : cq = kb
            · rw [if_pos hcq]
              exact hidden (HS.out.none0 kb (by omega) _)
            · rw [if_neg hcq]
              exact hidden (HS.out.cut kb (by omega))
          case measure => simp [lenOf]; omega
    · obtain rfl : p = lb := by omega
      have hd0 : bs.drop p = [] := by rw [List.drop_eq_nil_iff, HLB.out]; omega
      have l1 : ¬ (((p - p : Nat) : Int) > 0) := by omega
      rw [hd0] at HT
      have HU : Hid (unE bs n = 0 ∧ told = unL bs) := hidden ⟨by rw [← HT.out.2.2]; rfl, by rw [← HT.out.2.1]; simp [unL]⟩
      have HR0 := hidden (HLQ.out HU.out.1)
      have HML := hidden (HMX.out _ _ HO.out HB.out)
      have HTL := hidden HT.out.1
      clear hd0 HT HO HS HMX HLN HLQ
      go_wp2_with (first
        | (go_at_call 23; refine HML.out.mono ?_; rintro e w5 ⟨rfl, HO5, HB5⟩)
        | fail)
      go_ret2
      exact ⟨_, _, _, by rw [HU.out.1]; rfl, by rw [HR0.out, ← HU.out.2, HTL.out]; exact HO5, hidden (HB.out.trans HB5.out)⟩
end Go.Proofs.Ytnjeobijbbjlaaa
