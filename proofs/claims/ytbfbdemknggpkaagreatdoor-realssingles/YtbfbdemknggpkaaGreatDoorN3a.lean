/- Contract of the document's Near (package grottoref02): the pattern that is nearest to a quotient. -/
import Derived.Test.YtbfbdemknggpkaaGreatDoorN2
import Derived.Test.YtbfbdemknggpkaaGreatDoorN3m
import Derived.Test.YtbfbdemknggpkaaGreatDoorR2
import Derived.Deep.Cut
import Derived.Deep.CutRange
import Derived.Deep.LoopGhost
namespace Go.Proofs.YtbfbdemknggpkaaGreatDoor
open Go.RowKit
set_option maxHeartbeats 4000000
set_option linter.unusedVariables false

abbrev fmtR (m x : Nat) : Obj := .cells #[.int .i64 m, .int .i64 x] 37
/-- what Near answers -/
def NearRet (w : World) (m x : Nat) (neg : Bool) (A B e : Int) (r : Ending) (w' : World) : Prop :=
  ∃ P, r = .returned (.int .u64 (P + sgnW neg (m + x))) ∧ ((A = 0 ∧ P = 0) ∨ (0 < A ∧ IsNear m x A B e P)) ∧ Below w.heap.size w w'
theorem bits_bl {w : World} {a : Option Addr} {l c : Nat} {ds : List Int} {N : Int} (h : HasNat w a l c ds N) (hl : (l : Int) ≤ 100000) :
    Calls Tryz.prog 39 #[.slice a l c] w fun r w' => r = .returned (.int .i64 (bl N)) ∧ w' = w := by
  refine (bits_any a l c ds w h.rd h.ok hl).mono ?_
  rintro r w1 ⟨⟨b, rfl, hb, _⟩, rfl⟩
  rw [h.val] at hb
  rw [bl_of hb]
  exact ⟨rfl, rfl⟩
theorem bl_len {w : World} {a : Option Addr} {l c : Nat} {ds : List Int} {N : Int} (h : HasNat w a l c ds N) : bl N ≤ 16 * l := by
  have h1 := nv_lt ds h.ok
  rw [h.val, h.rd.1, pow16] at h1
  exact bl_le h.nonneg h1
/-- what stands behind Near's loop: the unit, the quotient, what is left, and the divisor -/
def NearAt (w : World) (m x : Nat) (A B e : Int) (s11 s12 s13 s14 : Value) (wc : World) : Prop :=
  ∃ (U Q R : Int) (aq ar ad : Option Addr) (lq cq lr cr ld cd : Nat) (dq dr dd : List Int), s11 = .int .i64 U ∧ s12 = .slice aq lq cq ∧ s13 = .slice ar lr cr ∧ s14 = .slice ad ld cd ∧
    HasNat wc aq lq cq dq Q ∧ HasNat wc ar lr cr dr R ∧ HasNat wc ad ld cd dd (denI B e U) ∧ least m x ≤ U ∧ U ≤ 20000 ∧ Q * denI B e U + R = numI A e U ∧ R < denI B e U ∧ Q < p2 (m + 1) ∧ (U = least m x ∨ p2 m ≤ Q) ∧ lq ≤ 50000 ∧ lr ≤ 1500 ∧ ld ≤ 1500 ∧
    wc.cell? ⟨w.heap.size, 0, none⟩ = some (.int .i64 m) ∧ wc.cell? ⟨w.heap.size, 1, none⟩ = some (.int .i64 x) ∧ Below w.heap.size w wc
theorem near_enough {D Q R N : Int} {m : Nat} (hD : 0 < D) (hE : Q * D + R = N) (hR : R < D) (h : p2 m * D ≤ N) : p2 m ≤ Q := by
  rcases Int.lt_or_le Q (p2 m) with h1 | h1
  · have h2 : (Q + 1) * D ≤ p2 m * D := Int.mul_le_mul_of_nonneg_right (by omega) (by omega)
    rw [Int.add_mul, Int.one_mul] at h2
    omega
  · exact h1
set_option maxRecDepth 100000 in
theorem near_any (m x : Nat) (neg : Bool) (a1 a2 : Option Addr) (l1 c1 l2 c2 : Nat) (d1 d2 : List Int) (A B e : Int) (w : World) (hok : okF m x) (h1 : HasNat w a1 l1 c1 d1 A) (h2 : HasNat w a2 l2 c2 d2 B) (hB : 0 < B) (hl1 : (l1 : Int) ≤ 400) (hl2 : (l2 : Int) ≤ 400) (e0 : -8192 ≤ e) (e1 : e ≤ 8192) :
    Calls Tryz.prog 40 #[.agg #[.int .i64 m, .int .i64 x], .bool neg, .slice a1 l1 c1, .slice a2 l2 c2, .int .i64 e] w fun r w' => NearRet w m x neg A B e r w' := by
  have hm52 := hok.2.1
  have hm2 := hok.1
  have hx11 := hok.2.2.2
  have hx2 := hok.2.2.1
  have hbb := bias_bd x hx2 hx11
  have hlb : -2000 ≤ least m x ∧ least m x ≤ 0 := by unfold least; omega
  have hA0 := h1.nonneg
  have HZ := hidden (fun w => zero_any m x neg w (by omega) (by omega))
  have HLe : Hid (∀ w, Calls Tryz.prog 75 #[.agg #[.int .i64 m, .int .i64 x]] w fun r w' => r = .returned (.int .i64 (least m x)) ∧ w' = (al2 w (fmtR m x)).drew) := hidden fun w => least_any m x w hok
  have hbox : Below w.heap.size w (w.alloc (fmtR m x)) := (Below.refl _ _).alloc (Nat.le_refl _) _
  have H1 := hidden (h1.later hbox)
  have H2 := hidden (h2.later hbox)
  have hba := bl_len h1
  have hbb2 := bl_len h2
  clear h1 h2
  go_enter Tryz.func40, Tryz.ntmps40
  go_wp2_with fail
  refine (trim_any a1 l1 c1 d1 _ H1.out.rd (by omega)).mono ?_
  rintro r w1 ⟨n, rfl, ht, hw⟩
  obtain rfl := hw.symm
  have hn : n ≤ l1 := by have := ht.1; have := H1.out.rd.1; omega
  have hT : HasNat (w.alloc (fmtR m x)) a1 n c1 (d1.take n) A := ⟨H1.out.rd.take hn, H1.out.ok.take n, ht.2.1.trans H1.out.val, trimmed_or ht⟩
  by_cases hA : A = 0
  · have hn0 : n = 0 := by
      have := hT.len_le (has_nil w) (by omega)
      omega
    subst hn0
    go_wp2_with (go_at_call 36; refine (HZ.out _).mono ?_; rintro r w2 ⟨rfl, hw⟩; subst hw)
    go_ret
    refine ⟨0, by rw [Int.zero_add]; rfl, .inl ⟨hA, rfl⟩, ?_⟩
    repeat (first | exact Below.refl _ _ | apply Below.drew | (refine Below.alloc ?_ (by simp; try omega) _))
  · have hAp : 0 < A := by omega
    have hn0 : 0 < (n : Int) := by
      rcases Nat.eq_zero_or_pos n with h | h
      · exfalso
        have h3 := ht.2.1
        rw [h, H1.out.val] at h3
        exact hA h3.symm
      · omega
    clear ht hT
    have HBa := hidden (fun w (h : HasNat w a1 l1 c1 d1 A) => bits_bl h (by omega))
    have HBb := hidden (fun w (h : HasNat w a2 l2 c2 d2 B) => bits_bl h (by omega))
    have BA := hidden (bl_bd A hAp)
    have BB := hidden (bl_bd B hB)
    generalize bl A = ba at *
    generalize bl B = bb at *
    have k1 : IntKind.i64.wrap ((ba : Int) - bb) = (ba : Int) - bb := wrapi _ (by omega) (by omega)
    have k2 : IntKind.i64.wrap ((ba : Int) - bb + e) = (ba : Int) - bb + e := wrapi _ (by omega) (by omega)
    have k3 : IntKind.i64.wrap ((ba : Int) - bb + e - m) = (ba : Int) - bb + e - m := wrapi _ (by omega) (by omega)
    have k4 : IntKind.i64.wrap ((ba : Int) - bb + e - m - 1) = (ba : Int) - bb + e - m - 1 := wrapi _ (by omega) (by omega)
    go_wp2_with fail
    go_region_held3 (fun w' => w'.cell? ⟨w.heap.size, 0, none⟩ = some (.int .i64 m) ∧ w'.cell? ⟨w.heap.size, 1, none⟩ = some (.int .i64 x)) (simp [*, al2_cell]) (first | (go_at_call_of 39 (Value.slice a1 l1 c1); refine (HBa.out _ (H1.out.later ((Below.refl _ _).drew))).mono ?_; rintro r w2 ⟨rfl, hw⟩; obtain rfl := hw.symm) | (go_at_call_of 39 (Value.slice a2 l2 c2); refine (HBb.out _ (H2.out.later ((Below.refl _ _).drew))).mono ?_; rintro r w2 ⟨rfl, hw⟩; obtain rfl := hw.symm) | (go_at_call 75; refine (HLe.out _).mono ?_; rintro r w2 ⟨rfl, hw⟩; subst hw))
    all_goals
      have hW0 : ((al2 (w.alloc (fmtR m x)).drew (fmtR m x)).drew).cell? ⟨w.heap.size, 0, none⟩ = some (.int .i64 m) := by simp [*]
      have hW1 : ((al2 (w.alloc (fmtR m x)).drew (fmtR m x)).drew).cell? ⟨w.heap.size, 1, none⟩ = some (.int .i64 x) := by simp [*]
      have hWb : Below (w.alloc (fmtR m x)).heap.size (w.alloc (fmtR m x)) ((al2 (w.alloc (fmtR m x)).drew (fmtR m x)).drew) := by
        unfold al2
        repeat (first | exact Below.refl _ _ | apply Below.drew | (refine Below.alloc ?_ (by simp; try omega) _))
      replace H1 := hidden (H1.out.later hWb)
      replace H2 := hidden (H2.out.later hWb)
      replace hbox := hbox.trans (hWb.mono (by simp))
      clear hWb
      generalize (al2 (w.alloc (fmtR m x)).drew (fmtR m x)).drew = w2 at *
      have hU : least m x ≤ (if (ba : Int) - bb + e - m - 1 < least m x then least m x else (ba : Int) - bb + e - m - 1) ∧ ((if (ba : Int) - bb + e - m - 1 < least m x then least m x else (ba : Int) - bb + e - m - 1) = least m x ∨ (if (ba : Int) - bb + e - m - 1 < least m x then least m x else (ba : Int) - bb + e - m - 1) = (ba : Int) - bb + e - m - 1) := by
        split <;> omega
      generalize (if (ba : Int) - bb + e - m - 1 < least m x then least m x else (ba : Int) - bb + e - m - 1) = U0 at *
      have HU0 : Hid (U0 = least m x ∨ p2 m * denI B e U0 ≤ numI A e U0) := hidden (by
        rcases hU.2 with h | h
        · exact .inl h
        · exact .inr (nd_low A B e U0 ba bb m BA.out.1 BA.out.2.1 (Int.le_of_lt BB.out.2.2) hB h))
      have hUb : U0 ≤ least m x ∨ U0 ≤ (ba : Int) - bb + e - m := by omega
      have hUl := hU.1
      clear hU k1 k2 k3 k4
      go_step
      go_step
      go_step
      go_step
      go_step
      go_step
      go_step
      go_step
      go_step
      go_step
      go_step
      go_step
      go_step
      go_step
      go_step
      go_step
      go_step
      go_cut [11, 12, 13, 14, 15] from 40 to 68 (fun s11 s12 s13 s14 s15 wc => NearAt w m x A B e s11 s12 s13 s14 wc)
      case first =>
        go_wp2_with fail
        go_loopw [11, 12, 13, 14, 15] (fun u q r d n wr => ∃ U : Int, u = .int .i64 U ∧ least m x ≤ U ∧ (U ≤ least m x ∨ U ≤ (ba : Int) - bb + e - m) ∧ (U = least m x ∨ p2 m * denI B e U ≤ numI A e U) ∧ wr.cell? ⟨w.heap.size, 0, none⟩ = some (.int .i64 m) ∧ wr.cell? ⟨w.heap.size, 1, none⟩ = some (.int .i64 x) ∧ HasNat wr a1 l1 c1 d1 A ∧ HasNat wr a2 l2 c2 d2 B ∧ Below w.heap.size w wr) (fun u _ _ _ _ _ => (40000 - intOf u).toNat)
        case atStart => exact ⟨U0, rfl, hUl, hUb, HU0.out, hW0, hW1, H1.out, H2.out, hbox⟩
        case round =>
          obtain ⟨U, rfl, hu0, hu1, hu2, g0, g1, hh1, hh2, hbr⟩ := hrel
          have G1 := hidden hh1
          have G2 := hidden hh2
          have GU := hidden hu2
          clear hh1 hh2 hu2
          by_cases hue : e < U
          · obtain ⟨k, hk⟩ := Int.eq_ofNat_of_zero_le (show 0 ≤ U - e by omega)
            have hkb : k ≤ 16384 := by omega
            go_wp2_with fail
            refine (up_any a2 l2 c2 d2 k _ G2.out.rd G2.out.ok (by omega) (by omega)).mono ?_
            rintro r w4 ⟨at_, lt, ct, dt, rfl, rt, kt, vt, lbt, tt, hb4, -⟩
            have HD : Hid (HasNat w4 at_ lt ct dt (denI B e U)) := hidden ⟨rt, kt, by rw [vt, G2.out.val]; unfold denI; rw [hk]; rfl, tt⟩
            have hlt : lt ≤ 1500 := by omega
            clear rt kt vt tt lbt
            have HN : Hid (HasNat w4 a1 l1 c1 d1 (numI A e U)) := hidden (by
              have h := G1.out.later hb4
              have e9 : numI A e U = A := by unfold numI; rw [show (e - U).toNat = 0 by omega, show p2 0 = 1 by rfl, Int.mul_one]
              rw [e9]
              exact h)
            have hln : l1 ≤ 1500 := by omega
            go_wp2_with fail
            refine (quo_any a1 at_ l1 c1 lt ct d1 dt _ _ _ HN.out HD.out (den_pos B e U hB) (by omega) (by omega)).mono ?_
            rintro r w5 ⟨aq, lq, cq, dq, ar, lr, cr, dr, Q, R, rfl, hq, hr, hqr, hrl, hlq, hlr, hb5⟩
            have HQ := hidden hq
            have HR := hidden hr
            have HE := hidden hqr
            have HRL := hidden hrl
            have HD5 := hidden (HD.out.later hb5)
            have HB45 := hidden (hb4.trans (hb5.mono hb4.size))
            have HBB := hidden ((hbr.trans (hb4.mono hbr.size)).trans (hb5.mono (hbr.trans (hb4.mono hbr.size)).size))
            have f0 := cellLater hb5 (cellLater hb4 g0)
            have f1 := cellLater hb5 (cellLater hb4 g1)
            clear hq hr hqr hrl hb4 hb5 HN HD g0 g1
            have HBq := hidden (bits_bl HQ.out (by omega))
            have hQ0 := HQ.out.nonneg
            have hlrb : lr ≤ 1500 := by omega
            go_wp2_with fail
            go_region_held3 (fun w' => w'.cell? ⟨w.heap.size, 0, none⟩ = some (.int .i64 m) ∧ w'.cell? ⟨w.heap.size, 1, none⟩ = some (.int .i64 x)) (simp [*]) (first | (go_at_call 39; refine (bits_bl (HQ.out.later ((Below.refl _ _).drew)) (by omega)).mono ?_; rintro r w6 ⟨rfl, hw⟩; obtain rfl := hw.symm))
            all_goals
              have k5 : IntKind.i64.wrap ((m : Int) + 1) = (m : Int) + 1 := wrapi _ (by omega) (by omega)
              have hdr : Below w5.heap.size w5 w5.drew := (Below.refl _ _).drew
              by_cases hqb : (bl Q : Int) ≤ (m : Int) + 1
              · have hq1 : Hid (Q < p2 (m + 1)) := hidden (by
                  rcases isBits_bl Q hQ0 with ⟨h, _⟩ | ⟨_, _, h⟩
                  · have := p2_pos (m + 1); omega
                  · exact Int.lt_of_lt_of_le h (p2_mono (by omega)))
                go_wp2
                go_meet
                case rel =>
                  refine ⟨U, Q, R, aq, ar, at_, lq, cq, lr, cr, lt, ct, dq, dr, dt, rfl, rfl, rfl, rfl, HQ.out.later hdr, HR.out.later hdr, HD5.out.later hdr, hu0, by omega, HE.out, HRL.out, hq1.out, ?_, hlq, hlrb, by omega, f0, f1, HBB.out.drew⟩
                  rcases GU.out with h | h
                  · exact .inl h
                  · exact .inr (near_enough (den_pos B e U hB) HE.out HRL.out h)
              · have hq1 : Hid (p2 (m + 1) * denI B e U ≤ numI A e U) := hidden (by
                  have h1 : p2 (m + 1) ≤ Q := by
                    rcases Int.lt_or_le Q (p2 (m + 1)) with h | h
                    · have := bl_le hQ0 h; omega
                    · exact h
                  have h2 := Int.mul_le_mul_of_nonneg_right h1 (Int.le_of_lt (den_pos B e U hB))
                  have h3 := HE.out
                  have h4 := HR.out.nonneg
                  omega)
                have hup := nd_high A B e U ba bb m BA.out.2.2 BB.out.2.1 BB.out.1 hq1.out
                go_wp2
                go_roundw
                case rel => exact ⟨U + 1, rfl, by omega, by omega, .inr (nd_step A B e U m hq1.out), f0, f1, (G1.out.later HB45.out).later hdr, (G2.out.later HB45.out).later hdr, HBB.out.drew⟩
                case measure => simp [intOf]; omega
          · obtain ⟨k, hk⟩ := Int.eq_ofNat_of_zero_le (show 0 ≤ e - U by omega)
            have hkb : k ≤ 10200 := by omega
            go_wp2_with fail
            refine (up_any a1 l1 c1 d1 k _ G1.out.rd G1.out.ok (by omega) (by omega)).mono ?_
            rintro r w4 ⟨at_, lt, ct, dt, rfl, rt, kt, vt, lbt, tt, hb4, -⟩
            have HN : Hid (HasNat w4 at_ lt ct dt (numI A e U)) := hidden ⟨rt, kt, by rw [vt, G1.out.val]; unfold numI; rw [hk]; rfl, tt⟩
            have hlt : lt ≤ 1500 := by omega
            clear rt kt vt tt lbt
            have HD : Hid (HasNat w4 a2 l2 c2 d2 (denI B e U)) := hidden (by
              have h := G2.out.later hb4
              have e9 : denI B e U = B := by unfold denI; rw [show (U - e).toNat = 0 by omega, show p2 0 = 1 by rfl, Int.mul_one]
              rw [e9]
              exact h)
            go_wp2_with fail
            refine (quo_any at_ a2 lt ct l2 c2 dt d2 _ _ _ HN.out HD.out (den_pos B e U hB) (by omega) (by omega)).mono ?_
            rintro r w5 ⟨aq, lq, cq, dq, ar, lr, cr, dr, Q, R, rfl, hq, hr, hqr, hrl, hlq, hlr, hb5⟩
            have HQ := hidden hq
            have HR := hidden hr
            have HE := hidden hqr
            have HRL := hidden hrl
            have HD5 := hidden (HD.out.later hb5)
            have HB45 := hidden (hb4.trans (hb5.mono hb4.size))
            have HBB := hidden ((hbr.trans (hb4.mono hbr.size)).trans (hb5.mono (hbr.trans (hb4.mono hbr.size)).size))
            have f0 := cellLater hb5 (cellLater hb4 g0)
            have f1 := cellLater hb5 (cellLater hb4 g1)
            clear hq hr hqr hrl hb4 hb5 HN HD g0 g1
            have HBq := hidden (bits_bl HQ.out (by omega))
            have hQ0 := HQ.out.nonneg
            have hlrb : lr ≤ 1500 := by omega
            go_wp2_with fail
            go_region_held3 (fun w' => w'.cell? ⟨w.heap.size, 0, none⟩ = some (.int .i64 m) ∧ w'.cell? ⟨w.heap.size, 1, none⟩ = some (.int .i64 x)) (simp [*]) (first | (go_at_call 39; refine (bits_bl (HQ.out.later ((Below.refl _ _).drew)) (by omega)).mono ?_; rintro r w6 ⟨rfl, hw⟩; obtain rfl := hw.symm))
            all_goals
              have k5 : IntKind.i64.wrap ((m : Int) + 1) = (m : Int) + 1 := wrapi _ (by omega) (by omega)
              have hdr : Below w5.heap.size w5 w5.drew := (Below.refl _ _).drew
              by_cases hqb : (bl Q : Int) ≤ (m : Int) + 1
              · have hq1 : Hid (Q < p2 (m + 1)) := hidden (by
                  rcases isBits_bl Q hQ0 with ⟨h, _⟩ | ⟨_, _, h⟩
                  · have := p2_pos (m + 1); omega
                  · exact Int.lt_of_lt_of_le h (p2_mono (by omega)))
                go_wp2
                go_meet
                case rel =>
                  refine ⟨U, Q, R, aq, ar, a2, lq, cq, lr, cr, l2, c2, dq, dr, d2, rfl, rfl, rfl, rfl, HQ.out.later hdr, HR.out.later hdr, HD5.out.later hdr, hu0, by omega, HE.out, HRL.out, hq1.out, ?_, hlq, hlrb, by omega, f0, f1, HBB.out.drew⟩
                  rcases GU.out with h | h
                  · exact .inl h
                  · exact .inr (near_enough (den_pos B e U hB) HE.out HRL.out h)
              · have hq1 : Hid (p2 (m + 1) * denI B e U ≤ numI A e U) := hidden (by
                  have h1 : p2 (m + 1) ≤ Q := by
                    rcases Int.lt_or_le Q (p2 (m + 1)) with h | h
                    · have := bl_le hQ0 h; omega
                    · exact h
                  have h2 := Int.mul_le_mul_of_nonneg_right h1 (Int.le_of_lt (den_pos B e U hB))
                  have h3 := HE.out
                  have h4 := HR.out.nonneg
                  omega)
                have hup := nd_high A B e U ba bb m BA.out.2.2 BB.out.2.1 BB.out.1 hq1.out
                go_wp2
                go_roundw
                case rel => exact ⟨U + 1, rfl, by omega, by omega, .inr (nd_step A B e U m hq1.out), f0, f1, (G1.out.later HB45.out).later hdr, (G2.out.later HB45.out).later hdr, HBB.out.drew⟩
                case measure => simp [intOf]; omega
      case rest =>
        obtain ⟨U, Q, R, aq, ar, ad, lq, cq, lr, cr, ld, cd, dq, dr, dd, rfl, rfl, rfl, rfl, hQ, hR, hD, hu0, hu1, hE, hRL, hQ1, hUQ, hlq, hlr, hld, f0, f1, hbc⟩ := hcut
        have HQ := hidden hQ
        have HR := hidden hR
        have HD := hidden hD
        have HE := hidden hE
        have HRL := hidden hRL
        have HUQ := hidden hUQ
        have HBc := hidden hbc
        have hQ0 := hQ.nonneg
        have hR0 := hR.nonneg
        have hp53 : p2 (m + 1) ≤ 9007199254740992 := by rw [show (9007199254740992 : Int) = p2 53 by decide +kernel]; exact p2_mono (by omega)
        have hQ2 : Q ≤ 9007199254740991 := by omega
        clear hQ hR hD hE hRL hUQ hbc
        go_wp2_with fail
        refine (small_any aq lq cq dq _ HQ.out.rd HQ.out.ok (by omega) (by rw [HQ.out.val]; omega)).mono ?_
        rintro r w3 ⟨rfl, hw⟩
        obtain rfl := hw.symm
        rw [HQ.out.val]
        go_wp2_with fail
        refine (up_any ar lr cr dr 1 _ HR.out.rd HR.out.ok (by omega) (by omega)).mono ?_
        rintro r w4 ⟨au, lu, cu, du, rfl, ru, ku, vu, lbu, tu, hb4, -⟩
        rw [HR.out.val] at vu
        have HU2 : Hid (HasNat w4 au lu cu du (R * p2 1)) := hidden ⟨ru, ku, vu, tu⟩
        have hlu : lu ≤ 3000 := by omega
        have HD4 := hidden (HD.out.later hb4)
        clear ru ku vu tu lbu
        go_wp2_with fail
        refine (cmp_any au ad lu cu ld cd du dd _ HU2.out.rd HD4.out.rd HU2.out.ok HD4.out.ok (by omega) (by omega)).mono ?_
        rintro r w5 ⟨rfl, hb5⟩
        rw [HU2.out.val, HD4.out.val, show R * p2 1 = 2 * R by rw [show p2 1 = 2 by rfl]; omega]
        have g0 := cellLater hb5 (cellLater hb4 f0)
        have g1 := cellLater hb5 (cellLater hb4 f1)
        have HB5 := hidden (HBc.out.trans ((hb4.trans (hb5.mono hb4.size)).mono HBc.out.size))
        clear hb4 hb5 HU2 HD4 HD HQ HR f0 f1
        dsimp only
        go_step
        go_step
        go_step
        go_step
        go_step
        go_step
        go_step
        go_step
        have HNr : Hid (∀ P, P = nearP m x U Q R (denI B e U) → IsNear m x A B e P) := hidden fun P h => ⟨U, Q, R, hu0, HE.out, hR0, HRL.out, hQ0, hQ1, HUQ.out, h⟩
        clear HE HRL
        generalize denI B e U = D at *
        go_cut [16, 17] from 74 (fun s16 s17 wx => s16 = .int .u64 (upI Q R D) ∧ wx = w5)
        case first =>
          rcases Int.lt_trichotomy (2 * R) D with h | h | h
          · have hc : cmpI (2 * R) D = -1 := by unfold cmpI; rw [if_pos h]
            have hup : upI Q R D = Q := by unfold upI; rw [if_neg (by omega), Int.add_zero]
            replace hup := hidden hup
            rw [hc]
            clear hc h hp53 hQ1 hR0
            go_wp2
            go_meet
            case rel => exact ⟨int_eq hup.out.symm, rfl⟩
          · have hc : cmpI (2 * R) D = 0 := by unfold cmpI; rw [if_neg (by omega), if_neg (by omega)]
            rw [hc]
            by_cases ho : Q % 2 = 1
            · have ho' : (Q % 2 == 1) = true := by simp [ho]
              have hup : upI Q R D = Q + 1 := by unfold upI; rw [if_pos (by omega)]
              replace hup := hidden hup
              clear ho h hc hp53 hQ1 hR0
              go_wp2
              go_meet
              case rel => exact ⟨int_eq hup.out.symm, rfl⟩
            · have ho' : (Q % 2 == 1) = false := by simp [ho]
              have hup : upI Q R D = Q := by unfold upI; rw [if_neg (by omega), Int.add_zero]
              replace hup := hidden hup
              clear ho h hc hp53 hQ1 hR0
              go_wp2
              go_meet
              case rel => exact ⟨int_eq hup.out.symm, rfl⟩
          · have hc : cmpI (2 * R) D = 1 := by unfold cmpI; rw [if_neg (by omega), if_pos h]
            have hup : upI Q R D = Q + 1 := by unfold upI; rw [if_pos (by omega)]
            replace hup := hidden hup
            rw [hc]
            clear hc h hp53 hQ1 hR0
            go_wp2
            go_meet
            case rel => exact ⟨int_eq hup.out.symm, rfl⟩
        case rest =>
          obtain ⟨rfl, rfl⟩ := hcut
          have hmm : Q ≤ upI Q R D ∧ upI Q R D ≤ Q + 1 := by unfold upI; split <;> omega
          have HPm := hidden (fun w => power_any m w (by omega))
          have HPx := hidden (fun w => power_any x w (by omega))
          have HPm1 : Hid (∀ w, Calls Tryz.prog 72 #[.int .i64 ((m : Int) + 1)] w fun r w' => r = .returned (.int .u64 (p2 (m + 1))) ∧ w' = w) := hidden fun w => power_any (m + 1) w (by omega)
          have HV : Hid (nearP m x U Q R D = min ((U - least m x) * p2 m + upI Q R D) ((p2 x - 1) * p2 m)) := hidden rfl
          have hpm := p2_pos m
          have hps := p2_succ m
          have hx4 : 4 ≤ p2 x ∧ p2 x ≤ 2048 := by
            constructor
            · rw [show (4 : Int) = p2 2 by rfl]; exact p2_mono (by omega)
            · rw [← p2_11]; exact p2_mono (by omega)
          generalize upI Q R D = mm at *
          generalize nearP m x U Q R D = PP at *
          go_step
          go_step
          go_cut [11, 16] from 88 (fun s11 s16 wx => ∃ M' U' : Int, s16 = .int .u64 M' ∧ s11 = .int .i64 U' ∧ wx = wc ∧ ((mm < p2 (m + 1) ∧ M' = mm ∧ U' = U) ∨ (mm = p2 (m + 1) ∧ M' = p2 m ∧ U' = U + 1)))
          case first =>
            by_cases hfull : mm = p2 (m + 1)
            · have hf' : (mm == p2 (m + 1)) = true := by simp [hfull]
              have HF := hidden hfull
              clear hfull hps
              go_wp2_with (go_at_call 72; refine (HPm1.out _).mono ?_; rintro r w8 ⟨rfl, hw⟩; obtain rfl := hw.symm)
              go_meet
              case rel =>
                have h := HF.out
                have hps := p2_succ m
                exact ⟨p2 m, U + 1, int_eq (by omega), rfl, rfl, .inr ⟨h, rfl, rfl⟩⟩
            · have hf' : (mm == p2 (m + 1)) = false := by simp [hfull]
              have HF := hidden hfull
              clear hfull hps
              go_wp2_with (go_at_call 72; refine (HPm1.out _).mono ?_; rintro r w8 ⟨rfl, hw⟩; obtain rfl := hw.symm)
              go_meet
              case rel =>
                have h := HF.out
                exact ⟨mm, U, rfl, rfl, rfl, .inl ⟨by omega, rfl, rfl⟩⟩
          case rest =>
            obtain ⟨M', U', rfl, rfl, hwc, hM⟩ := hcut
            subst hwc
            have hM1 : 0 ≤ M' ∧ M' < p2 (m + 1) ∧ least m x ≤ U' ∧ U' ≤ 20001 := by
              rcases hM with ⟨h1, h2, h3⟩ | ⟨h1, h2, h3⟩ <;> subst h2 h3 <;> omega
            have HV2 : Hid (PP = min ((U' - least m x) * p2 m + M') ((p2 x - 1) * p2 m)) := hidden (by
              rw [HV.out]
              rcases hM with ⟨h1, h2, h3⟩ | ⟨h1, h2, h3⟩
              · rw [h2, h3]
              · rw [h1, h2, h3, hps, show U + 1 - least m x = U - least m x + 1 by omega, Int.add_mul, Int.one_mul]
                congr 1
                omega)
            have HUL : Hid (M' < p2 m → U' = least m x) := hidden (fun hlt => by
              rcases hM with ⟨h1, h2, h3⟩ | ⟨h1, h2, h3⟩
              · rcases HUQ.out with h | h
                · omega
                · omega
              · omega)
            clear hM HV hmm hQ1 hp53 HUQ
            have hm63 : p2 (m + 1) ≤ 9007199254740992 := by rw [show (9007199254740992 : Int) = p2 53 by decide +kernel]; exact p2_mono (by omega)
            have HPS := hidden hps
            clear hps
            by_cases c1 : M' < p2 m
            · have HWh := hidden (fun w => whole_any m x neg 0 M' w (by omega) (by omega) (by omega) (by omega) hM1.1 (by omega))
              go_wp2_with fail
              refine (HPm.out _).mono ?_
              rintro r w8 ⟨rfl, hw⟩
              obtain rfl := hw.symm
              go_wp2_with fail
              refine (HWh.out _).mono ?_
              rintro r w8 ⟨rfl, hw⟩
              subst hw
              go_wp2
              go_ret
              refine ⟨PP, ret_int ?_, .inr ⟨hAp, HNr.out PP rfl⟩, HB5.out.alloc HB5.out.size _⟩
              rw [HV2.out, HUL.out c1]
              have h1 : p2 m ≤ (p2 x - 1) * p2 m := by
                have := Int.mul_le_mul_of_nonneg_right (show (1 : Int) ≤ p2 x - 1 by omega) (Int.le_of_lt hpm)
                omega
              rw [Int.sub_self, Int.zero_mul]
              omega
            · go_wp2_with fail
              refine (HPm.out _).mono ?_
              rintro r w8 ⟨rfl, hw⟩
              obtain rfl := hw.symm
              go_wp2_with fail
              refine (HLe.out _).mono ?_
              rintro r w9 ⟨rfl, hw⟩
              have hb9 : Below wc.heap.size wc w9 := by
                subst hw
                unfold al2
                repeat (first | exact Below.refl _ _ | apply Below.drew | (refine Below.alloc ?_ (by simp; try omega) _))
              have e0 := cellLater hb9 g0
              have e1 := cellLater hb9 g1
              have HB9 := hidden (HB5.out.trans (hb9.mono HB5.out.size))
              clear hw hb9
              go_wp2_with fail
              refine (HPx.out _).mono ?_
              rintro r w8 ⟨rfl, hw⟩
              obtain rfl := hw.symm
              have k7 : IntKind.i64.wrap (p2 x) = p2 x := wrapi _ (by omega) (by omega)
              have HBIG : Hid ((U' - least m x) * p2 m + p2 m = (U' - least m x + 1) * p2 m) := hidden (by rw [Int.add_mul, Int.one_mul])
              by_cases c9 : p2 x - 1 ≤ U' - least m x + 1
              · have HI := hidden (fun w => inf_any m x neg w (by omega) (by omega))
                have HFin : Hid ((p2 x - 1) * p2 m + sgnW neg (m + x) = PP + sgnW neg (m + x)) := hidden (by
                  rw [HV2.out]
                  have h1 := Int.mul_le_mul_of_nonneg_right c9 (Int.le_of_lt hpm)
                  have h2 := HBIG.out
                  omega)
                generalize (p2 x - 1) * p2 m + sgnW neg (m + x) = SS at *
                go_wp2_with fail
                refine (HI.out _).mono ?_
                rintro r w10 ⟨rfl, hb10⟩
                have HB10 := hidden (HB9.out.trans (hb10.mono HB9.out.size))
                clear hb10
                go_wp2
                go_ret
                exact ⟨PP, ret_int HFin.out, .inr ⟨hAp, HNr.out PP rfl⟩, HB10.out⟩
              · have HWh := hidden (fun w => whole_any m x neg (U' - least m x + 1) (M' - p2 m) w (by omega) (by omega) (by omega) (by omega) (by omega) (by have := HPS.out; omega))
                have HFin : Hid ((U' - least m x + 1) * p2 m + (M' - p2 m) + sgnW neg (m + x) = PP + sgnW neg (m + x)) := hidden (by
                  rw [HV2.out]
                  have h1 : (U' - least m x + 1 + 1) * p2 m ≤ (p2 x - 1) * p2 m := Int.mul_le_mul_of_nonneg_right (by omega) (Int.le_of_lt hpm)
                  rw [Int.add_mul _ 1, Int.one_mul] at h1
                  have h2 := HBIG.out
                  have h3 := HPS.out
                  omega)
                generalize (U' - least m x + 1) * p2 m + (M' - p2 m) + sgnW neg (m + x) = SS at *
                have k8 : IntKind.u64.wrap (U' - least m x + 1) = U' - least m x + 1 := by rw [IntKind.wrap_u64]; omega
                have k9 : IntKind.u64.wrap (M' - p2 m) = M' - p2 m := by rw [IntKind.wrap_u64]; omega
                go_wp2_with fail
                go_region_held3 (fun w' => w'.cell? ⟨w.heap.size, 0, none⟩ = some (.int .i64 m) ∧ w'.cell? ⟨w.heap.size, 1, none⟩ = some (.int .i64 x)) (simp [*, World.cell?_alloc_some]) (first | (go_at_call 72; refine (HPm.out _).mono ?_; rintro r w10 ⟨rfl, hw⟩; obtain rfl := hw.symm) | (go_at_call 71; refine (HWh.out _).mono ?_; rintro r w10 ⟨rfl, hw⟩; subst hw))
                all_goals
                  go_wp2
                  go_ret
                  exact ⟨PP, ret_int HFin.out, .inr ⟨hAp, HNr.out PP rfl⟩, (HB9.out.drew).alloc HB9.out.drew.size _⟩
end Go.Proofs.YtbfbdemknggpkaaGreatDoor
