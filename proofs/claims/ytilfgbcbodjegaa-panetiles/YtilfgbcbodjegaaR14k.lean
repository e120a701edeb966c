/- Layer 14, the document: where any window lies. -/
import Derived.Test.YtilfgbcbodjegaaR14j
import Derived.Test.YtilfgbcbodjegaaR14f
namespace Go.Proofs.Ytilfgbcbodjegaa
open Go.RowKit
set_option maxHeartbeats 1000000
set_option maxRecDepth 100000
set_option linter.unusedVariables false

theorem tmod2 {m : Int} (h : mtdB m = true) : m.tmod 2 = m % 2 := by
  rcases mtd_cases h with rfl | rfl | rfl | rfl | rfl | rfl | rfl | rfl <;> rfl
theorem drect_any {B m : Nat} {v : Value} {s : Ps} (ho : Iv s) : ∀ (k : Nat) (x : Int), hasW s.L x → Upk s k x → ∀ w, QAt B w m v s →
    Calls Try.prog 71 #[.pointer (some ⟨m, 0, none⟩), .int .i64 x] w fun e w' => e = .returned (.tuple #[r4A (rctF s k x), .bool true]) ∧ Hid (Below w.heap.size w w') := by
  intro k
  induction k with
  | zero => intro x hx hu w h; exact drect_root h ho x hx hu
  | succ k ih =>
    intro x hx hu w h
    by_cases hp : (ofW s.L x).p = 0
    · have e : rctF s (k + 1) x = ⟨0, 0, s.w, s.h⟩ := by unfold rctF; rw [if_pos hp]
      rw [e]
      exact drect_root h ho x hx hp
    · have hn : s.L.length ≤ 1000 := by have := ho.f63; omega
      obtain ⟨hpa, hpw, hab, hu2⟩ := hu.resolve_left hp
      obtain ⟨q1, q4, _⟩ := ho.par x hx hp
      obtain ⟨_, _, kne, _, _⟩ := ho.kid _ q1 q4
      have hr := rct_ok ho.scr k _ hu2
      have hml := h.lt
      obtain ⟨i, hi, hix⟩ : ∃ i : Nat, i < s.L.length ∧ ixW s.L x = i := ixW_has (hasB_iff.2 hx)
      have HA : Hid (∀ w1, Below w.heap.size w w1 → Calls Try.prog 53 #[.pointer (some ⟨m, 0, none⟩), .int .i64 x] w1 fun e w' => e = .returned (.int .i64 i) ∧ w' = w1) := hidden (fun w1 hb => by rw [← hix]; exact dat_any (h.later hb) hn x)
      have HO1 : Hid (∀ w1, Below w.heap.size w w1 → Calls Try.prog 32 #[.pointer (some ⟨m, 0, none⟩), .int .i64 x] w1 fun e w' => e = .returned (wdA (ofW s.L x)) ∧ Hid (Below w1.heap.size w1 w')) := hidden (fun w1 hb => dof_any (h.later hb) hn x)
      have HO2 : Hid (∀ w1, Below w.heap.size w w1 → Calls Try.prog 32 #[.pointer (some ⟨m, 0, none⟩), .int .i64 (ofW s.L x).p] w1 fun e w' => e = .returned (wdA (ofW s.L (ofW s.L x).p)) ∧ Hid (Below w1.heap.size w1 w')) := hidden (fun w1 hb => dof_any (h.later hb) hn _)
      have HRC : Hid (∀ w1, Below w.heap.size w w1 → Calls Try.prog 71 #[.pointer (some ⟨m, 0, none⟩), .int .i64 (ofW s.L x).p] w1 fun e w' => e = .returned (.tuple #[r4A (rctF s k (ofW s.L x).p), .bool true]) ∧ Hid (Below w1.heap.size w1 w')) := hidden (fun w1 hb => ih _ hpa hu2 w1 (h.later hb))
      have hpn := (of_mem hpa).2
      have hkey : (ofW s.L (ofW s.L x).p).key = 0 ∨ (ofW s.L (ofW s.L (ofW s.L x).p).key).k ≠ 0 := (ho.ky _ hpa).imp id (fun z => by have := (ho.kd _ z).1; omega)
      have HCL := hidden (fun w1 => dcolumns_any (ofW s.L (ofW s.L x).p).m w1)
      rw [colB_mtd hpw.mt] at HCL
      have ht := tmod2 hpw.mt
      have HPT : ∀ n, 0 ≤ n → n ≤ 1000 → Hid (∀ w1, Below w.heap.size w w1 → Calls Try.prog 92 #[.pointer (some ⟨m, 0, none⟩), wdA (ofW s.L (ofW s.L x).p), .int .i64 n] w1 fun e w' => e = .returned (.int .i64 (msdV s.L (ofW s.L (ofW s.L x).p) n)) ∧ Hid (Below w1.heap.size w1 w')) := fun n n0 n1 => hidden (fun w1 hb => dpart_any (h.later hb) hn _ hpw ho.of_zero hkey n n0 n1)
      have hM : ∀ n, 0 ≤ n → 0 ≤ msdV s.L (ofW s.L (ofW s.L x).p) n ∧ msdV s.L (ofW s.L (ofW s.L x).p) n ≤ n := fun n n0 => msd_bd s.L _ n n0 hpw.s0
      have hR : rctF s (k + 1) x = if (ofW s.L (ofW s.L x).p).a = x then fstR (ofW s.L (ofW s.L x).p) (rctF s k (ofW s.L x).p) (fstV s.L (ofW s.L (ofW s.L x).p) (lenR (ofW s.L (ofW s.L x).p) (rctF s k (ofW s.L x).p))) else sndR (ofW s.L (ofW s.L x).p) (rctF s k (ofW s.L x).p) (fstV s.L (ofW s.L (ofW s.L x).p) (lenR (ofW s.L (ofW s.L x).p) (rctF s k (ofW s.L x).p))) := by
        conv => lhs; unfold rctF
        rw [if_neg hp]
      rw [hR]
      generalize rctF s k (ofW s.L x).p = r at *
      generalize hd : ofW s.L (ofW s.L x).p = d at *
      have bw := hM r.w hr.w0
      have bh := hM r.h hr.h0
      have xw := hr.xw
      have yh := hr.yh
      have xx := hr.x0
      have yy := hr.y0
      have HW := HPT r.w hr.w0 (by omega)
      have HH := HPT r.h hr.h0 (by omega)
      have m2 : d.m % 2 = 0 ∨ d.m % 2 = 1 := by omega
      by_cases c : d.m % 4 < 2
      · rw [decide_eq_true c] at HCL
        by_cases ha : d.a = x
        · have hb : (x == d.b) = false := by rw [beq_eq_false_iff_ne]; intro e; exact kne (by rw [ha, e])
          rw [if_pos ha]
          unfold fstR lenR
          rw [if_pos c, if_pos c]
          rcases m2 with e | e
          · rw [show fstV s.L d r.w = msdV s.L d r.w by unfold fstV; rw [if_pos e]]
            exact rk_100 hml x _ i d _ r _ hpn hp rfl HA HO1 HO2 HRC HCL HW (by rw [ht, e]) hb hr bw.1 bw.2
          · rw [show fstV s.L d r.w = r.w - msdV s.L d r.w by unfold fstV; rw [if_neg (by omega)]]
            exact rk_110 hml x _ i d _ r _ hpn hp rfl HA HO1 HO2 HRC HCL HW (by rw [ht, e]) hb hr bw.1 bw.2
        · have hb : (x == d.b) = true := by rw [beq_iff_eq]; exact (hab.resolve_left ha).symm
          rw [if_neg ha]
          unfold sndR lenR
          rw [if_pos c, if_pos c]
          rcases m2 with e | e
          · rw [show fstV s.L d r.w = msdV s.L d r.w by unfold fstV; rw [if_pos e]]
            exact rk_101 hml x _ i d _ r _ hpn hp rfl HA HO1 HO2 HRC HCL HW (by rw [ht, e]) hb hr bw.1 bw.2
          · rw [show fstV s.L d r.w = r.w - msdV s.L d r.w by unfold fstV; rw [if_neg (by omega)]]
            exact rk_111 hml x _ i d _ r _ hpn hp rfl HA HO1 HO2 HRC HCL HW (by rw [ht, e]) hb hr bw.1 bw.2
      · rw [decide_eq_false c] at HCL
        by_cases ha : d.a = x
        · have hb : (x == d.b) = false := by rw [beq_eq_false_iff_ne]; intro e; exact kne (by rw [ha, e])
          rw [if_pos ha]
          unfold fstR lenR
          rw [if_neg c, if_neg c]
          rcases m2 with e | e
          · rw [show fstV s.L d r.h = msdV s.L d r.h by unfold fstV; rw [if_pos e]]
            exact rk_000 hml x _ i d _ r _ hpn hp rfl HA HO1 HO2 HRC HCL HH (by rw [ht, e]) hb hr bh.1 bh.2
          · rw [show fstV s.L d r.h = r.h - msdV s.L d r.h by unfold fstV; rw [if_neg (by omega)]]
            exact rk_010 hml x _ i d _ r _ hpn hp rfl HA HO1 HO2 HRC HCL HH (by rw [ht, e]) hb hr bh.1 bh.2
        · have hb : (x == d.b) = true := by rw [beq_iff_eq]; exact (hab.resolve_left ha).symm
          rw [if_neg ha]
          unfold sndR lenR
          rw [if_neg c, if_neg c]
          rcases m2 with e | e
          · rw [show fstV s.L d r.h = msdV s.L d r.h by unfold fstV; rw [if_pos e]]
            exact rk_001 hml x _ i d _ r _ hpn hp rfl HA HO1 HO2 HRC HCL HH (by rw [ht, e]) hb hr bh.1 bh.2
          · rw [show fstV s.L d r.h = r.h - msdV s.L d r.h by unfold fstV; rw [if_neg (by omega)]]
            exact rk_011 hml x _ i d _ r _ hpn hp rfl HA HO1 HO2 HRC HCL HH (by rw [ht, e]) hb hr bh.1 bh.2
end Go.Proofs.Ytilfgbcbodjegaa
