/- The document's stack: its Enter, where there is a stub on top, or no frame. -/
import Derived.Test.YthhkennomnmjkaaT10f
namespace Go.Proofs.Ythhkennomnmjkaa
open Go.RowKit
set_option maxHeartbeats 1000000
set_option maxRecDepth 100000
set_option linter.unusedVariables false

/-- what Enter's look at the values asks -/
structure EntV (w : World) (m : Nat) (s : Ks) (C : Nat) (a' : Option Addr) (c' : Nat) : Prop where
  k2 : w.cell? ⟨m, 2, none⟩ = some (.int .i64 s.fr)
  k3 : w.cell? ⟨m, 3, none⟩ = some (.bool s.on)
  v : s.on = true → 4 ≤ C ∧ ∃ g, a' = some ⟨g, 0, none⟩ ∧ C ≤ c' ∧ w.cell? ⟨g, C - 1, none⟩ = some (.int .u32 s.fr)
theorem dvals_ent (m : Nat) (a : Option Addr) (c : Nat) (s : Ks) (w : World) (h : DC w m a c s) (ok : OkK s) (hs : s.on = true → stubE s = 0) :
    Calls Try.prog 57 #[.pointer (some ⟨m, 0, none⟩)] w fun e w' => ∃ C a' c', e = .returned (.slice a' C c') ∧ C ≤ 65536 ∧ EntV w' m s C a' c' ∧ Below w.heap.size w w' := by
  cases hon : s.on with
  | false =>
    refine (dvals_off m a c s w h hon).mono ?_
    rintro e w' ⟨rfl, rfl⟩
    exact ⟨0, none, 0, rfl, by omega, ⟨h.c2, h.c3, fun e => by rw [hon] at e; cases e⟩, Below.refl _ _⟩
  | true =>
    refine (dvals_on m a c s w h ok hon).mono ?_
    rintro e w' ⟨a', c', rfl, ho, hb⟩
    have hbd := ok.bd hon
    have hcb : cnt s ≤ 65536 := by have := ok.sz; have := ok.most; omega
    obtain ⟨h4, hl⟩ := (stubE_on hon).1 (hs hon)
    refine ⟨cnt s, a', c', rfl, hcb, ⟨(h.later hb).c2, (h.later hb).c3, fun _ => ⟨h4, ?_⟩⟩, hb⟩
    obtain ⟨g, rfl, hc, _⟩ := row32 ho (by omega)
    refine ⟨g, rfl, hc, ?_⟩
    rw [cell32 ho (cnt s - 1) (by omega), vals_last ok hon (by omega), hl]
theorem dEnter_over (B m : Nat) (v : Value) (s : Ks) (fa : Option Addr) (n fc : Nat) (zs : List Int) (w : World) (h : DAt B w m v s) (ok : OkK s) (hr : Reads w fa n fc zs) (hz : OkB zs) (hn : n ≤ 100000) (h0 : (locR zs).2.2 = 0) (hs : s.on = true → stubE s = 0) (hro : ¬ s.bs.length + (posF zs + szF zs) ≤ s.size) :
    Calls Try.prog 23 #[.pointer (some ⟨m, 0, none⟩), .slice fa n fc] w fun e w' => e = .returned (.int .i64 100) ∧ LeftD B w w' m v s := by
  obtain ⟨e1, e2, e3⟩ := loc_zero h0
  have HL := hidden (dloc_any fa n fc zs w hr hz hn)
  rw [e1] at HL
  simp only at HL
  have hpr := pairs_of zs hz e2
  rw [e3, List.take_length] at hpr
  have hbd := (enL_mono zs 0 hpr).2
  have hps := (posF_mod zs).2.2
  have hss := upN_bd (enL zs 0) 4 (by simp)
  have hss2 : szF zs = upN (enL zs 0) 4 := rfl
  have hzl := hr.1
  obtain ⟨a, c, rfl, dc⟩ := h.dc
  have hsz := ok.sz
  have hmo := ok.most
  have HV : Hid (∀ w1, Below w.heap.size w w1 → Calls Try.prog 57 #[.pointer (some ⟨m, 0, none⟩)] w1 fun e w' => ∃ C a' c', e = .returned (.slice a' C c') ∧ C ≤ 65536 ∧ EntV w' m s C a' c' ∧ (w'.cell? ⟨m, 0, none⟩ = some (.slice a s.bs.length c) ∧ w'.cell? ⟨m, 1, none⟩ = some (.int .i64 s.size)) ∧ Below w.heap.size w w') := fun w1 hb => (dvals_ent m a c s w1 (dc.later hb) ok hs).mono (fun e w' hh => by
    obtain ⟨C, a', c', he, hC, hv, hb2⟩ := hh
    have hbb := hb.trans (hb2.mono hb.size)
    exact ⟨C, a', c', he, hC, hv, ⟨(dc.later hbb).c0, (dc.later hbb).c1⟩, hbb⟩)
  have HK := hidden h
  have hfb : s.on = true → s.fr ≤ 65536 := fun hon => by have := (ok.bd hon).1; omega
  clear h ok hr hz dc e1 e2 e3 hpr h0 hs
  have hw1 : IntKind.i64.wrap ((s.bs.length : Int) + (posF zs : Int)) = (s.bs.length : Int) + (posF zs : Int) := by rw [IntKind.wrap_i64]; omega
  have hw2 : IntKind.i64.wrap ((s.bs.length : Int) + (posF zs : Int) + (szF zs : Int)) = (s.bs.length : Int) + (posF zs : Int) + (szF zs : Int) := by rw [IntKind.wrap_i64]; omega
  have d9 : (s.bs.length : Int) + (posF zs : Int) + (szF zs : Int) > (s.size : Int) := by omega
  clear hbd hps hss hss2 hzl hro
  generalize posF zs = P at *
  generalize szF zs = S at *
  generalize s.bs.length = L at *
  generalize s.size = Z at *
  cases hon : s.on with
  | false =>
    go_enter Try.func23, Try.ntmps23
    go_wp2_with (first | (go_at_call 56; refine HL.out.mono ?_; rintro e w1 ⟨rfl, hb⟩) | (go_at_call 57; refine (HV.out _ hb).mono ?_; rintro e w2 ⟨C, a', c', rfl, hC, hv, ⟨k0, k1⟩, hb2⟩; obtain ⟨k2, k3, -⟩ := hv; rw [hon] at k3))
    go_quiet (fail)
    all_goals (try go_wp2)
    have hdd : Below w.heap.size w (w2.drewN nq) := hb2.trans ((Dr.below ⟨_, rfl⟩).mono hb2.size)
    have k0q : (w2.drewN nq).cell? ⟨m, 0, none⟩ = some (.slice a L c) := k0
    have k1q : (w2.drewN nq).cell? ⟨m, 1, none⟩ = some (.int .i64 Z) := k1
    generalize w2.drewN nq = w3 at *
    go_quiet (fail)
    all_goals (try go_wp2)
    go_ret
    exact ⟨rfl, LeftD.same HK.out (hdd.trans ((Dr.below ⟨_, rfl⟩).mono hdd.size))⟩
  | true =>
    have hfb1 := hfb hon
    generalize hff : s.fr = f at *
    have hwf : IntKind.i64.wrap (f : Int) = (f : Int) := by rw [IntKind.wrap_i64]; omega
    go_enter Try.func23, Try.ntmps23
    go_wp2_with (first | (go_at_call 56; refine HL.out.mono ?_; rintro e w1 ⟨rfl, hb⟩) | (go_at_call 57; refine (HV.out _ hb).mono ?_; rintro e w2 ⟨C, a', c', rfl, hC, hv, ⟨k0, k1⟩, hb2⟩; obtain ⟨k2, k3, kv⟩ := hv; obtain ⟨h4, g, rfl, hcc, kc⟩ := kv hon; rw [hon] at k3; rw [hff] at k2 kc; clear kv; have dd : decide ((C : Int) < 4) = false := by (simp; omega)))
    have hwc : IntKind.i64.wrap ((C : Int) - 1) = (C : Int) - 1 := by rw [IntKind.wrap_i64]; omega
    have tc : ((C : Int) - 1).toNat = C - 1 := by omega
    have hc1 : (0 : Int) ≤ (C : Int) - 1 := by omega
    have hc2 : (C : Int) - 1 < (C : Int) := by omega
    have kc' : w2.cell? ⟨g, ((C : Int) - 1).toNat, none⟩ = some (.int .u32 f) := by rw [tc]; exact kc
    go_quiet (fail)
    all_goals (try go_wp2)
    have hdd : Below w.heap.size w (w2.drewN nq) := hb2.trans ((Dr.below ⟨_, rfl⟩).mono hb2.size)
    have k0q : (w2.drewN nq).cell? ⟨m, 0, none⟩ = some (.slice a L c) := k0
    have k1q : (w2.drewN nq).cell? ⟨m, 1, none⟩ = some (.int .i64 Z) := k1
    generalize w2.drewN nq = w3 at *
    go_quiet (fail)
    all_goals (try go_wp2)
    go_ret
    exact ⟨rfl, LeftD.same HK.out (hdd.trans ((Dr.below ⟨_, rfl⟩).mono hdd.size))⟩
end Go.Proofs.Ythhkennomnmjkaa
