/- Contract of the document's Times (package grottoref02): the product of two numbers. -/
import Derived.Test.YtbfbdemknggpkaaGreatDoorN2
namespace Go.Proofs.YtbfbdemknggpkaaGreatDoor
open Go.RowKit
set_option maxRecDepth 100000
set_option maxHeartbeats 400000
set_option linter.unusedVariables false

theorem nv_set (os : List Int) (j : Nat) (u : Int) (h : j < os.length) : nv (os.set j u) = nv os + 65536 ^ j * (u - os.getD j 0) := by
  induction os generalizing j with
  | nil => simp at h
  | cons d r ih =>
    cases j with
    | zero =>
      show u + 65536 * nv r = d + 65536 * nv r + 65536 ^ 0 * (u - (d :: r).getD 0 0)
      simp
      omega
    | succ j =>
      have h1 := ih j (by simpa using h)
      show d + 65536 * nv (r.set j u) = d + 65536 * nv r + 65536 ^ (j + 1) * (u - (d :: r).getD (j + 1) 0)
      rw [h1, Int.pow_succ, Int.mul_add, Int.mul_comm (65536 ^ j) 65536, Int.mul_assoc]
      simp
      omega
theorem OkD.set {os : List Int} (h : OkD os) (j : Nat) (u : Int) (u0 : 0 ≤ u) (u1 : u ≤ 65535) : OkD (os.set j u) := by
  intro d hd
  rcases List.mem_or_eq_of_mem_set hd with h1 | h1
  · exact h d h1
  · subst h1; exact ⟨u0, u1⟩
/-- what the inner loop of Times holds ahead of its round k -/
def TimesAt (A B : List Int) (L i k : Nat) (os : List Int) (c : Int) : Prop :=
  OkD os ∧ os.length = L ∧ 0 ≤ c ∧ c ≤ 65535 ∧ nv os + 65536 ^ (i + k) * c = nv (A.take i) * nv B + 65536 ^ i * (A.getD i 0 * nv (B.take k))
theorem digit_mul (x y : Int) (x0 : 0 ≤ x) (x1 : x ≤ 65535) (y0 : 0 ≤ y) (y1 : y ≤ 65535) : 0 ≤ x * y ∧ x * y ≤ 4294836225 := by
  refine ⟨Int.mul_nonneg x0 y0, ?_⟩
  have h1 := Int.mul_le_mul_of_nonneg_right x1 y0
  have h2 := Int.mul_le_mul_of_nonneg_left y1 (show (0 : Int) ≤ 65535 by omega)
  omega
theorem times_step (P Q os o c s x y b t : Int) (h : os + P * Q * c = s + P * (x * b)) (ht : t = o + c + x * y) :
    os + P * Q * (t % 65536 - o) + P * (Q * 65536) * (t / 65536) = s + P * (x * (b + Q * y)) := by
  have e : t % 65536 + 65536 * (t / 65536) = t := by omega
  have e2 : os + P * Q * (t % 65536 - o) + P * (Q * 65536) * (t / 65536) = os + P * Q * (t % 65536 + 65536 * (t / 65536) - o) := by
    rw [Int.mul_sub, Int.mul_sub, Int.mul_add, ← Int.mul_assoc P Q 65536, Int.mul_assoc (P * Q) 65536]
    omega
  rw [e2, e, ht, show o + c + x * y - o = c + x * y by omega, Int.mul_add, ← Int.add_assoc, h, Int.mul_add x b, Int.mul_add P, Int.mul_left_comm x Q y, ← Int.mul_assoc P Q]
  omega
theorem TimesAt.step {A B : List Int} {L i k : Nat} {os : List Int} {c t : Int} (h : TimesAt A B L i k os c) (ha : OkD A) (hb : OkD B) (hj : i + k < L) (ht : t = os.getD (i + k) 0 + c + A.getD i 0 * B.getD k 0) :
    TimesAt A B L i (k + 1) (os.set (i + k) (t % 65536)) (t / 65536) := by
  obtain ⟨h1, h2, h3, h4, h5⟩ := h
  have a1 := ha.at i
  have b1 := hb.at k
  have o1 := h1.at (i + k)
  have m1 := digit_mul _ _ a1.1 a1.2 b1.1 b1.2
  refine ⟨h1.set _ _ (by omega) (by omega), by simp [h2], by omega, by omega, ?_⟩
  rw [nv_set os (i + k) _ (by omega), nv_take_step, show i + (k + 1) = i + k + 1 by omega, Int.pow_succ, Int.pow_add, Int.mul_assoc (65536 ^ i) (65536 ^ k) 65536]
  rw [Int.pow_add] at h5
  exact times_step _ _ _ _ _ _ _ _ _ _ h5 ht
theorem TimesAt.done {A B : List Int} {L i k : Nat} {os : List Int} {c : Int} (h : TimesAt A B L i k os c) (hk : B.length ≤ k) : nv os + 65536 ^ (i + k) * c = nv (A.take (i + 1)) * nv B := by
  obtain ⟨h1, h2, h3, h4, h5⟩ := h
  rw [List.take_of_length_le hk] at h5
  rw [h5, nv_take_step, Int.add_mul, Int.mul_assoc]
theorem TimesAt.few {A B : List Int} {L i k : Nat} {os : List Int} {c : Int} (h : TimesAt A B L i k os c) (ha : OkD A) (hb : OkD B) (hc : 0 < c) : k ≤ B.length := by
  rcases Nat.lt_or_ge B.length k with hk | hk
  · exfalso
    have h1 := h.done (by omega)
    have h2 := nv_nonneg _ h.1
    have l1 := nv_lt _ (ha.take (i + 1))
    have l2 := nv_lt B hb
    have n1 := nv_nonneg _ (ha.take (i + 1))
    have n2 := nv_nonneg B hb
    have hl : (A.take (i + 1)).length ≤ i + 1 := by simp; omega
    have p1 : (65536 : Int) ^ (A.take (i + 1)).length ≤ 65536 ^ (i + 1) := by rw [pow16, pow16]; exact p2_mono (by omega)
    have p0 : (0 : Int) < 65536 ^ B.length := Int.pow_pos (by decide)
    have p3 : (0 : Int) < 65536 ^ (i + 1) := Int.pow_pos (by decide)
    have q1 : nv (A.take (i + 1)) * nv B ≤ nv (A.take (i + 1)) * 65536 ^ B.length := Int.mul_le_mul_of_nonneg_left (by omega) n1
    have q2 : nv (A.take (i + 1)) * 65536 ^ B.length < 65536 ^ (i + 1) * 65536 ^ B.length := Int.mul_lt_mul_of_pos_right (by omega) p0
    rw [← Int.pow_add] at q2
    have p4 : (65536 : Int) ^ (i + 1 + B.length) ≤ 65536 ^ (i + k) := by rw [pow16, pow16]; exact p2_mono (by omega)
    have p5 : (0 : Int) < 65536 ^ (i + k) := Int.pow_pos (by decide)
    have q3 : (65536 : Int) ^ (i + k) * 1 ≤ 65536 ^ (i + k) * c := Int.mul_le_mul_of_nonneg_left (by omega) (by omega)
    omega
  · exact hk
theorem digV_set (os : List Int) (j : Nat) (u : Int) : (digV os).set j (.int .i64 u) = digV (os.set j u) := by simp [digV]
theorem times_put {w wr : World} {L : Nat} {ps : List Int} (ho : wr.ownsRow w.heap.size 3 1 (.slice (some ⟨w.heap.size, 0, none⟩) L L) L (digV ps)) (hb : Below w.heap.size w wr) (hs : w.heap.size ≤ wr.heap.size) (j : Nat) (u : Int) :
    (wr.setCell ⟨w.heap.size, j, none⟩ (.int .i64 u)).ownsRow w.heap.size 3 1 (.slice (some ⟨w.heap.size, 0, none⟩) L L) L (digV (ps.set j u)) ∧ Below w.heap.size w (wr.setCell ⟨w.heap.size, j, none⟩ (.int .i64 u)) := by
  obtain ⟨h1, h2⟩ := ho.stored j (.int .i64 u)
  rw [digV_set] at h1
  exact ⟨h1, hb.grown h2 hs (by intro k hk; cases hk; exact Nat.le_refl _)⟩
theorem times_any (a1 a2 : Option Addr) (l1 c1 l2 c2 : Nat) (d1 d2 : List Int) (w : World) (r1 : RdD w a1 l1 c1 d1) (r2 : RdD w a2 l2 c2 d2) (k1 : OkD d1) (k2 : OkD d2) (hl1 : (l1 : Int) ≤ 20000) (hl2 : (l2 : Int) ≤ 20000) :
    Calls Tryz.prog 44 #[.slice a1 l1 c1, .slice a2 l2 c2] w fun r w' => NatRet w (nv d1 * nv d2) (l1 + l2 + 1) r w' := by
  obtain ⟨i0, hi, hz0, hz1, hz2⟩ := info_parts infoI
  have R1 := hidden r1
  have R2 := hidden r2
  have K1 := hidden k1
  have K2 := hidden k2
  have e1 := hidden r1.1
  have e2 := hidden r2.1
  clear r1 r2 k1 k2
  obtain ⟨L, hL⟩ : ∃ L : Nat, L = l1 + l2 + 1 := ⟨_, rfl⟩
  have hLi : (l1 : Int) + (l2 : Int) + 1 = (L : Int) := by omega
  have HL0 := hidden hL
  rw [← hL]
  clear hL
  have hLb : (L : Int) ≤ 40001 := by omega
  go_enter Tryz.func44, Tryz.ntmps44
  go_wp2_with (refine wpList_make_full _ rfl _ _ 59 rfl w.heap.size 3 i0 (.int .i64 0) 1 Tryz.underlying59 hi hz0 hz1 .i64 .i64 _ _ L rfl rfl (by omega) (by omega) (by rw [hz2]; omega) (by unfold maxLen; omega) (Nat.le_refl _) ?_; intro w1 hown1 hgrow1; refine Hid.out ?_)
  rw [made_zeros] at hown1
  have hb1 : Below w.heap.size w w1 := (Below.refl _ _).grown hgrow1 (Nat.le_refl _) (by intro k hk; cases hk)
  have HO1 := hidden hown1
  clear hown1 hgrow1
  refine hidden ?_
  clear hLi
  go_wp2
  go_loopw [6, 7, 8, 9] (fun i cc kk tt wr => ∃ (j : Nat) (os : List Int), j ≤ l1 ∧ i = .int .i64 j ∧ OkD os ∧ os.length = L ∧ nv os = nv (d1.take j) * nv d2 ∧ wr.ownsRow w.heap.size 3 1 (.slice (some ⟨w.heap.size, 0, none⟩) L L) L (digV os) ∧ Below w.heap.size w wr) (fun i _ _ _ _ => l1 - (intOf i).toNat)
  case atStart => exact ⟨0, List.replicate L 0, by omega, rfl, (fun d hd => by rw [(List.mem_replicate.1 hd).2]; omega), by simp, by have h := nv_zeros L []; rw [List.append_nil] at h; rw [h]; simp [nv], HO1.out, hb1⟩
  case round =>
    obtain ⟨j, os, hj, rfl, hok, hlen, hv, hown, hbl⟩ := hrel
    by_cases g1 : j < l1
    · have i1 : (j : Int) < (l1 : Int) := by omega
      have HT : Hid (TimesAt d1 d2 L j 0 os 0) := hidden ⟨hok, hlen, by omega, by omega, by rw [hv]; simp [nv]⟩
      have HO := hidden hown
      have HBL := hidden hbl
      clear hok hlen hv hown hbl
      obtain ⟨wo, rfl⟩ : ∃ wo : World, wo = wr := ⟨_, rfl⟩
      go_wp2
      go_loopw [7, 8, 9] (fun cc kk tt wr => ∃ (k : Nat) (ps : List Int) (c : Int), k ≤ l2 + 1 ∧ kk = .int .i64 k ∧ cc = .int .i64 c ∧ TimesAt d1 d2 L j k ps c ∧ wr.ownsRow w.heap.size 3 1 (.slice (some ⟨w.heap.size, 0, none⟩) L L) L (digV ps) ∧ Below w.heap.size w wr) (fun _ kk _ _ => l2 + 2 - (intOf kk).toNat)
      case atStart => exact ⟨0, os, 0, by omega, rfl, rfl, HT.out, HO.out, HBL.out⟩
      case round =>
        obtain ⟨k, ps, c, hk, rfl, rfl, ht, hown, hbl⟩ := hrel
        have HP := hidden ht
        have HQ := hidden hown
        have hc0 := ht.2.2.1
        have hc1 := ht.2.2.2.1
        have hfew : Hid (0 < c → k ≤ l2) := hidden fun h => by have := ht.few K1.out K2.out h; have := e2.out; omega
        clear ht hown
        have hs := hbl.size
        have hkb : (k : Int) ≤ 20001 := by omega
        have x1 := K1.out.at j
        have x2 := K2.out.at k
        by_cases g2 : k < l2
        · have i2 : (k : Int) < (l2 : Int) := by omega
          rcases R1.out.2.2 with ⟨_, h, _⟩ | ⟨b1, o1, rfl, hcc1⟩
          · omega
          rcases R2.out.2.2 with ⟨_, h, _⟩ | ⟨b2, o2, rfl, hcc2⟩
          · omega
          have q1 := cellLater hbl (hcc1 j g1)
          have q2 := cellLater hbl (hcc2 k g2)
          have hjk : j + k < L := by have := HL0.out; omega
          have hnt : ((j : Int) + (k : Int)).toNat = j + k := by omega
          have hge : (0 : Int) ≤ (j : Int) + (k : Int) := by omega
          have hlt : (j : Int) + (k : Int) < (L : Int) := by omega
          have q3 : wr.cell? ⟨w.heap.size, j + k, none⟩ = some (.int .i64 (ps.getD (j + k) 0)) := by
            rw [HQ.out.cellAt (j + k) (by omega), digV_at ps (j + k) (by have := HP.out.2.1; omega)]
          have q4 := HQ.out.frozenAt (j + k)
          have x3 := HP.out.1.at (j + k)
          have HST := hidden (fun t h => HP.out.step (t := t) K1.out K2.out hjk h)
          have hm := digit_mul _ _ x1.1 x1.2 x2.1 x2.2
          clear hcc1 hcc2
          generalize d1.getD j 0 = X at *
          generalize d2.getD k 0 = Y at *
          generalize ps.getD (j + k) 0 = Z at *
          have HT2 := hidden (HST.out (Z + c + X * Y) rfl)
          have hdb : 0 ≤ (Z + c + X * Y) / 65536 ∧ (Z + c + X * Y) / 65536 ≤ 65536 := by omega
          clear HST
          go_wp2
          go_quiet (fail)
          go_wp2
          go_roundw
          case rel =>
            obtain ⟨o1, o2⟩ := times_put (show (wr.drewN nq).ownsRow w.heap.size 3 1 (.slice (some ⟨w.heap.size, 0, none⟩) L L) L (digV ps) from HQ.out) (below_drewN hbl nq) hs (j + k) ((Z + c + X * Y) % 65536)
            exact ⟨k + 1, _, _, by omega, by go_num, rfl, HT2.out, o1, o2⟩
          case measure => simp [intOf]; omega
        · have i2 : ¬ (k : Int) < (l2 : Int) := by omega
          by_cases g3 : 0 < c
          · have hk2 : k = l2 := by have := hfew.out g3; omega
            have hjk : j + k < L := by have := HL0.out; omega
            have hnt : ((j : Int) + (k : Int)).toNat = j + k := by omega
            have hge : (0 : Int) ≤ (j : Int) + (k : Int) := by omega
            have hlt : (j : Int) + (k : Int) < (L : Int) := by omega
            have q3 : wr.cell? ⟨w.heap.size, j + k, none⟩ = some (.int .i64 (ps.getD (j + k) 0)) := by
              rw [HQ.out.cellAt (j + k) (by omega), digV_at ps (j + k) (by have := HP.out.2.1; omega)]
            have q4 := HQ.out.frozenAt (j + k)
            have x3 := HP.out.1.at (j + k)
            have HST := hidden (fun t h => HP.out.step (t := t) K1.out K2.out hjk h)
            have hY0 : d2.getD k 0 = 0 := by rw [List.getD_eq_getElem?_getD, List.getElem?_eq_none (by have := e2.out; omega)]; rfl
            rw [hY0, Int.mul_zero] at HST
            generalize ps.getD (j + k) 0 = Z at *
            have HT2 := hidden (HST.out (Z + c) (by omega))
            have hdb : 0 ≤ (Z + c) / 65536 ∧ (Z + c) / 65536 ≤ 65536 := by omega
            have HK2 := hidden hk2
            clear HST hY0 x2 hk2
            go_wp2
            go_roundw
            case rel =>
              obtain ⟨o1, o2⟩ := times_put HQ.out hbl hs (j + k) ((Z + c) % 65536)
              exact ⟨k + 1, _, _, by have := HK2.out; omega, by go_num, rfl, HT2.out, o1, o2⟩
            case measure => simp [intOf]; have := HK2.out; omega
          · obtain rfl : c = 0 := by omega
            have HD := hidden (HP.out.done (by have := e2.out; omega))
            have HF : Hid (OkD ps ∧ ps.length = L ∧ nv ps = nv (d1.take (j + 1)) * nv d2) := hidden ⟨HP.out.1, HP.out.2.1, by have h := HD.out; rw [Int.mul_zero, Int.add_zero] at h; exact h⟩
            clear HP HD hfew x1 x2
            go_wp2
            go_roundw
            case rel => exact ⟨j + 1, ps, by omega, by go_num, HF.out.1, HF.out.2.1, HF.out.2.2, HQ.out, hbl⟩
            case measure => simp [intOf]; omega
    · obtain rfl : j = l1 := by omega
      have i1 : ¬ (j : Int) < (j : Int) := by omega
      have HF : Hid (OkD os ∧ os.length = L ∧ nv os = nv d1 * nv d2) := hidden ⟨hok, hlen, by rw [hv, List.take_of_length_le (by have := e1.out; omega)]⟩
      obtain ⟨a, cp, hsl, hrd, hnw⟩ := rdD_owned hown
      cases hsl
      have HNW := hidden hnw
      have HR := hidden hrd
      clear hok hlen hv hown hrd hnw R1 R2 K1 K2 e1 e2
      go_wp2_with fail
      refine (trim_any _ L L os _ HR.out (by omega)).mono ?_
      rintro r w3 ⟨n, rfl, ht, hw⟩
      subst hw
      have hn : n ≤ L := by have := ht.1; have := HF.out.2.1; omega
      have HA : Hid (RdD w3 (some ⟨w.heap.size, 0, none⟩) n L (os.take n) ∧ OkD (os.take n) ∧ nv (os.take n) = nv d1 * nv d2 ∧ (n = 0 ∨ (os.take n).getD (n - 1) 0 ≠ 0)) := ⟨HR.out.take hn, HF.out.1.take n, ht.2.1.trans HF.out.2.2, trimmed_or ht⟩
      clear ht HF HR
      go_wp2
      go_ret
      exact ⟨_, n, L, _, rfl, HA.out.1, HA.out.2.1, HA.out.2.2.1, hn, HA.out.2.2.2, hbl, HNW.out⟩
theorem times_has {a1 a2 : Option Addr} {l1 c1 l2 c2 : Nat} {d1 d2 : List Int} {A B : Int} (w' : World) (h1 : HasNat w' a1 l1 c1 d1 A) (h2 : HasNat w' a2 l2 c2 d2 B) (hl1 : (l1 : Int) ≤ 20000) (hl2 : (l2 : Int) ≤ 20000) :
    Calls Tryz.prog 44 #[.slice a1 l1 c1, .slice a2 l2 c2] w' fun r w'' => ∃ a l c ds, r = .returned (.slice a l c) ∧ HasNat w'' a l c ds (A * B) ∧ l ≤ l1 + l2 + 1 ∧ Below w'.heap.size w' w'' := by
  obtain ⟨x1, x2, x3, x4⟩ := h1
  obtain ⟨y1, y2, y3, y4⟩ := h2
  refine (times_any a1 a2 l1 c1 l2 c2 d1 d2 w' x1 y1 x2 y2 hl1 hl2).mono ?_
  rintro r w'' ⟨a, l, c, ds, rfl, z1, z2, z3, z4, z5, z6, -⟩
  exact ⟨a, l, c, ds, rfl, ⟨z1, z2, by rw [z3, x3, y3], z5⟩, z4, z6⟩
end Go.Proofs.YtbfbdemknggpkaaGreatDoor
