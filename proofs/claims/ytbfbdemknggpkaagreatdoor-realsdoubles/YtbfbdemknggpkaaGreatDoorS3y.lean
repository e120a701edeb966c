/- The document's Sqrt (package grottoref03): the root of a finite number, bit by bit. -/
import Derived.Test.YtbfbdemknggpkaaGreatDoorS3e
import Derived.Test.YtbfbdemknggpkaaGreatDoorS3r
import Derived.Test.YtbfbdemknggpkaaGreatDoorM3c
namespace Go.Proofs.YtbfbdemknggpkaaGreatDoor
open Go.RowKit
set_option maxRecDepth 100000
set_option maxHeartbeats 2000000
set_option linter.unusedVariables false

theorem below_join2 {a X w7 : World} (h2 : Below X.heap.size X w7) (h1 : Below a.heap.size a X) : Below a.heap.size a w7 := h1.trans (h2.mono h1.size)
theorem p2_zero' : p2 0 = 1 := rfl
theorem bl_shift (M : Int) (k : Nat) (h : 0 < M) : bl (M * p2 k) = bl M + k := by
  obtain ⟨b0, b1, b2⟩ := bl_bd M h
  have hP := p2_pos k
  have h1 : p2 (bl M + k - 1) ≤ M * p2 k := by
    have := Int.mul_le_mul_of_nonneg_right b1 (Int.le_of_lt hP)
    rw [← p2_add, show bl M - 1 + k = bl M + k - 1 by omega] at this
    exact this
  have h2 : M * p2 k < p2 (bl M + k) := by
    have := Int.mul_lt_mul_of_pos_right b2 hP
    rw [← p2_add] at this
    exact this
  have l1 := lt_bl h1
  have l2 := bl_le (Int.le_of_lt (Int.mul_pos h hP)) h2
  omega
theorem len_bl {w : World} {a : Option Addr} {l c : Nat} {ds : List Int} {N : Int} (h : HasNat w a l c ds N) : l ≤ bl N / 16 + 1 := by
  rcases h.top with h0 | h0
  · omega
  · rcases Nat.eq_zero_or_pos l with h1 | h1
    · omega
    · have hl := h.rd.1
      have e := nv_split ds (l - 1) (by omega)
      have n1 := nv_nonneg _ (h.ok.take (l - 1))
      have s := nv_drop_step ds (l - 1) (by omega)
      have n2 := nv_nonneg _ (h.ok.drop (l - 1 + 1))
      have d := h.ok.at (l - 1)
      have h2 : 1 ≤ nv (ds.drop (l - 1)) := by omega
      have hp : (0 : Int) < 65536 ^ (l - 1) := Int.pow_pos (by decide)
      have h3 := Int.mul_le_mul_of_nonneg_left h2 (Int.le_of_lt hp)
      rw [pow16] at h3 e
      have h4 : p2 (16 * (l - 1)) ≤ N := by rw [← h.val]; omega
      have := lt_bl h4
      omega
theorem ropen_box3 (m x K E M : Int) (n : Bool) (w w1 : World) (hb : Below (w.alloc (.cells #[.int .i64 m, .int .i64 x] 37)).heap.size (w.alloc (.cells #[.int .i64 m, .int .i64 x] 37)) w1) :
    ∃ w5, w5 = w1.alloc (.cells #[.int .i64 K, .bool n, .int .i64 E, .int .u64 M] 53) ∧ Below w.heap.size w w5 ∧ w5.cell? ⟨w.heap.size, 0, none⟩ = some (.int .i64 m) ∧ w5.cell? ⟨w.heap.size, 1, none⟩ = some (.int .i64 x) ∧
      w5.cell? ⟨w1.heap.size, 0, none⟩ = some (.int .i64 K) ∧ w5.cell? ⟨w1.heap.size, 1, none⟩ = some (.bool n) ∧ w5.cell? ⟨w1.heap.size, 2, none⟩ = some (.int .i64 E) ∧ w5.cell? ⟨w1.heap.size, 3, none⟩ = some (.int .u64 M) := by
  have hB := box_below _ hb
  have d0 : w1.cell? ⟨w.heap.size, 0, none⟩ = some (.int .i64 m) := cellLater hb (by simp)
  have d1 : w1.cell? ⟨w.heap.size, 1, none⟩ = some (.int .i64 x) := cellLater hb (by simp)
  have hZ : Below w1.heap.size w1 (w1.alloc (.cells #[.int .i64 K, .bool n, .int .i64 E, .int .u64 M] 53)) := (Below.refl _ _).alloc (Nat.le_refl _) _
  obtain ⟨p0, p1, p2, p3, -⟩ := ps_fresh w1 K E M n
  exact ⟨_, rfl, hB.trans (hZ.mono hB.size), cellLater hZ d0, cellLater hZ d1, p0, p1, p2, p3⟩
theorem up_hasN {w : World} {a : Option Addr} {l c : Nat} {ds : List Int} {N : Int} (h : HasNat w a l c ds N) (n : Nat) (hl : (l : Int) ≤ 20000) (hn : (n : Int) ≤ 100000) :
    Calls Tryz.prog 48 #[.slice a l c, .int .i64 n] w fun r w' => ∃ a2 l2 c2 d2, r = .returned (.slice a2 l2 c2) ∧ HasNat w' a2 l2 c2 d2 (N * p2 n) ∧ Below w.heap.size w w' := by
  refine (up_any a l c ds n w h.rd h.ok hl hn).mono ?_
  rintro r w' ⟨a2, l2, c2, d2, rfl, h1, h2, h3, h4, h5, h6, -⟩
  exact ⟨a2, l2, c2, d2, rfl, ⟨h1, h2, by rw [h3, h.val], h5⟩, h6⟩
theorem plus_hasN {w : World} {a a' : Option Addr} {l c l' c' : Nat} {ds ds' : List Int} {N N' : Int} (h : HasNat w a l c ds N) (h' : HasNat w a' l' c' ds' N') (hl : (l : Int) ≤ 20000) (hl' : (l' : Int) ≤ 20000) :
    Calls Tryz.prog 49 #[.slice a l c, .slice a' l' c'] w fun r w' => ∃ a2 l2 c2 d2, r = .returned (.slice a2 l2 c2) ∧ HasNat w' a2 l2 c2 d2 (N + N') ∧ Below w.heap.size w w' := by
  refine (plus_any a a' l c l' c' ds ds' w h.rd h'.rd h.ok h'.ok (by omega) (by omega)).mono ?_
  rintro r w' ⟨a2, l2, c2, d2, rfl, h1, h2, h3, h4, h5, h6, -⟩
  exact ⟨a2, l2, c2, d2, rfl, ⟨h1, h2, by rw [h3, h.val, h'.val], h5⟩, h6⟩
theorem cmp_hasN {w : World} {a a' : Option Addr} {l c l' c' : Nat} {ds ds' : List Int} {N N' : Int} (h : HasNat w a l c ds N) (h' : HasNat w a' l' c' ds' N') (hl : (l : Int) ≤ 20000) (hl' : (l' : Int) ≤ 20000) :
    Calls Tryz.prog 50 #[.slice a l c, .slice a' l' c'] w fun r w' => r = .returned (.int .i64 (cmpI N N')) ∧ Below w.heap.size w w' := by
  have e := cmp_any a a' l c l' c' ds ds' w h.rd h'.rd h.ok h'.ok (by omega) (by omega)
  rw [h.val, h'.val] at e
  exact e
theorem rsqrt_fin (m x : Nat) (a E M : Int) (w : World) (hok : okF m x) (hM0 : 0 < M) (hM1 : M < 9007199254740992) (hblm : bl M ≤ m + 1) (e0 : -1100 ≤ E) (e1 : E ≤ 1100)
    (HO : Hid (∀ w, Calls Tryz.prog 42 #[.agg #[.int .i64 (m : Int), .int .i64 (x : Int)], .int .u64 a] w fun r w' => r = .returned (.tuple #[partsV 2 false E M, .int .i64 0]) ∧ Below w.heap.size w w')) :
    Calls Tryz.prog 17 #[.agg #[.int .i64 (m : Int), .int .i64 (x : Int)], .int .u64 a] w fun r w' => ∃ (k : Nat) (rt P : Int), IsRoot (M * p2 k) rt ∧ (E - k) % 2 = 0 ∧ 2 * m + 8 ≤ bl M + k ∧ bl M + k ≤ 2 * m + 9 ∧ IsNear m x (2 * rt + (if rt * rt < M * p2 k then 1 else 0)) 1 ((E - k) / 2 - 1) P ∧ r = .returned (.tuple #[.int .u64 (P + sgnW false (m + x)), .int .i64 0]) ∧ Below w.heap.size w w' := by
  have hm : m ≤ 52 := by have := hok.2.1; omega
  have hblM : bl M ≤ 53 := bl_le (by omega) (by rw [show p2 53 = 9007199254740992 by decide +kernel]; exact hM1)
  go_enter Tryz.func17, Tryz.ntmps17
  go_wp2_with fail
  refine (HO.out _).mono ?_
  rintro r w1 ⟨rfl, hb1⟩
  obtain ⟨w5, hw5, hx, c0, c1, p0, p1, p2', p3⟩ := ropen_box3 m x 2 E M false w w1 hb1
  have HB := hidden hx
  clear hx hb1
  go_upto_region 2 with fail
  change Code.wp _ _ _ _ (w1.alloc (.cells #[.int .i64 2, .bool false, .int .i64 E, .int .u64 M] 53))
  rw [← hw5]
  clear hw5
  go_upto_region 8 with fail
  go_region_held3 (fun w' => w'.cell? ⟨w.heap.size, 0, none⟩ = some (.int .i64 m) ∧ w'.cell? ⟨w.heap.size, 1, none⟩ = some (.int .i64 x) ∧ w'.cell? ⟨w1.heap.size, 2, none⟩ = some (.int .i64 E) ∧ w'.cell? ⟨w1.heap.size, 3, none⟩ = some (.int .u64 M)) (go_keep) (first | (go_at_call 45; refine (natOf_any M _ (by omega) (by omega)).mono ?_; rintro r w6 ⟨ah, lh, ch, dh, rfl, rh, kh, vh, lbh, th, hb6, -⟩; have c0 : w6.cell? ⟨w.heap.size, 0, none⟩ = some (.int .i64 m) := cellLater hb6 (by go_keep); have c1 : w6.cell? ⟨w.heap.size, 1, none⟩ = some (.int .i64 x) := cellLater hb6 (by go_keep); have p2' : w6.cell? ⟨w1.heap.size, 2, none⟩ = some (.int .i64 E) := cellLater hb6 (by go_keep); have p3 : w6.cell? ⟨w1.heap.size, 3, none⟩ = some (.int .u64 M) := cellLater hb6 (by go_keep); have HA := hidden (has_of3 rh kh vh th)))
  all_goals
    have h0 := HB.out.drew
    have HB6 := hidden (h0.trans (hb6.mono h0.size))
    clear h0 hb6 rh kh vh th
    go_wp2
  go_loopw [8, 9] (fun v xx wr => ∃ (k : Nat) (a1 : Option Addr) (l1 c1 : Nat) (d1 : List Int), v = .slice a1 l1 c1 ∧ xx = .int .i64 (E - k) ∧ HasNat wr a1 l1 c1 d1 (M * p2 k) ∧ bl M + k ≤ 2 * m + 9 ∧ (k = 0 ∨ bl M + k ≤ 2 * m + 8 ∨ (E - k) % 2 = 0) ∧ wr.cell? ⟨w.heap.size, 0, none⟩ = some (.int .i64 m) ∧ wr.cell? ⟨w.heap.size, 1, none⟩ = some (.int .i64 x) ∧ Below w.heap.size w wr) (fun _ xx _ => 2 * (2 * m + 8 - (bl M + (E - intOf xx).toNat)) + (intOf xx % 2).toNat)
  case atStart => exact ⟨0, ah, lh, ch, dh, rfl, by simp, by rw [p2_zero', Int.mul_one]; exact HA.out, by omega, .inl rfl, c0, c1, HB6.out⟩
  case round =>
    obtain ⟨k, a1, l1, c1', d1, rfl, rfl, hN, hk, hpar, g0, g1, hbl⟩ := hrel
    have HN := hidden hN
    have HPAR := hidden hpar
    have hN0 : 0 < M * p2 k := Int.mul_pos hM0 (p2_pos k)
    have hbs := bl_shift M k hM0
    have hlen := len_bl hN
    rw [hbs] at hlen
    have hlenb : (l1 : Int) ≤ 100 := by omega
    obtain ⟨L, hL⟩ : ∃ L : Nat, L = bl M + k := ⟨_, rfl⟩
    rw [← hL] at hbs hlen
    have HL := hidden hbs
    have HLL := hidden hL
    have hLb : (L : Int) ≤ 200 := by omega
    have hEk : -1300 ≤ E - (k : Int) ∧ E - (k : Int) ≤ 1100 := by omega
    have HBT : Hid (∀ X, Below wr.heap.size wr X → Calls Tryz.prog 39 #[.slice a1 l1 c1'] X fun r w' => r = .returned (.int .i64 (L : Int)) ∧ w' = X) := hidden fun X hX => by
      have h := bits_bl (hN.later hX) (by omega)
      rw [hbs] at h
      exact h
    clear hN hpar hbs hL
    obtain ⟨Y, hY⟩ : ∃ Y : Int, E - (k : Int) = Y := ⟨_, rfl⟩
    rw [hY] at hEk
    rw [hY]
    have HY := hidden hY
    clear hY
    obtain ⟨T, hT⟩ : ∃ T : Int, Y.tmod 2 = T := ⟨_, rfl⟩
    have hTw : IntKind.i64.wrap (Y.tmod 2) = T := by
      rw [hT]
      have h1 := Int.tmod_lt_of_pos Y (show (0 : Int) < 2 by decide)
      have h2 : -2 < Y.tmod 2 := by
        have := Int.lt_tmod_of_pos Y (show (0 : Int) < 2 by decide)
        omega
      exact wrapi _ (by omega) (by omega)
    have hpY : Hid (T = 0 ↔ Y % 2 = 0) := hidden (by
      rw [← hT]
      constructor
      · intro h; have := Int.tmod_add_mul_tdiv Y 2; omega
      · intro h; exact Int.tmod_eq_zero_of_dvd (Int.dvd_of_emod_eq_zero h))
    by_cases hlt : L < 2 * m + 8
    · have hlt2 : (L : Int) < 2 * (m : Int) + 8 := by omega
      go_wp2
      go_quiet (first | (go_at_call 39; exact Calls.quiet_of_same (HBT.out _ (by first | exact Below.refl _ _ | exact below_drewN (Below.refl _ _) _ | exact (Below.refl _ _).drew))))
      go_wp2_with fail
      refine (up_hasN (HN.out.later (below_drewN (Below.refl _ _) nq)) 1 (by omega) (by decide)).mono ?_
      rintro r w8 ⟨a8, l8, c8, d8, rfl, h8, hb8⟩
      have hd : Below wr.heap.size wr w8 := (below_drewN (Below.refl _ _) nq).trans hb8
      have g0 := cellLater hd g0
      have g1 := cellLater hd g1
      have HB8 := hidden (hbl.trans (hd.mono hbl.size))
      have H8 := hidden h8
      clear h8 hb8 hd
      go_wp2
      go_roundw
      case rel =>
        have e9 := HY.out
        have e8 := HLL.out
        refine ⟨k + 1, a8, l8, c8, d8, rfl, int_eq (by omega), ?_, ?_, ?_, g0, g1, HB8.out⟩
        · have h := H8.out
          rw [Int.mul_assoc, ← p2_add] at h
          exact h
        · omega
        · right; left; omega
      case measure =>
        have e9 := HY.out
        have e8 := HLL.out
        simp [intOf]
        omega
    · obtain ⟨G, hG⟩ : ∃ G : Int, 2 * (m : Int) + 8 = G := ⟨_, rfl⟩
      have hG1 : IntKind.i64.wrap (2 * (m : Int) + 8) = G := by rw [hG]; exact wrapi _ (by omega) (by omega)
      have hG2 : IntKind.i64.wrap (2 * (m : Int)) = 2 * (m : Int) := wrapi _ (by omega) (by omega)
      have hlt2 : ¬ (L : Int) < G := by omega
      have hlt4 : decide ((L : Int) < G) = false := decide_eq_false hlt2
      by_cases hT0 : T = 0
      · subst hT0
        have hev := hpY.out.1 rfl
        have hdiv : Y.tdiv 2 = Y / 2 := Int.tdiv_eq_ediv_of_dvd (Int.dvd_of_emod_eq_zero hev)
        obtain ⟨H, hH⟩ : ∃ H : Int, Y / 2 = H := ⟨_, rfl⟩
        have hdw : IntKind.i64.wrap (Y.tdiv 2) = H := by rw [hdiv, hH]; exact wrapi _ (by omega) (by omega)
        have hdv : Y.tdiv 2 = H := by rw [hdiv, hH]
        have hHb : -700 ≤ H ∧ H ≤ 700 := by omega
        have HH := hidden hH
        have HEV := hidden hev
        clear hdiv hH hev
        go_wp2
        go_quiet (first | (go_at_call 39; exact Calls.quiet_of_same (HBT.out _ (by first | exact Below.refl _ _ | exact below_drewN (Below.refl _ _) _ | exact (Below.refl _ _).drew))))
        go_wp2_with (go_at_call 39; refine (HBT.out _ (by first | exact Below.refl _ _ | exact below_drewN (Below.refl _ _) _ | exact (Below.refl _ _).drew)).mono ?_; rintro r w9 ⟨rfl, hw9⟩; obtain rfl := hw9.symm)
        have hs0 : Below wr.heap.size wr (wr.drewN nq) := below_drewN (Below.refl _ _) nq
        have N0 := hidden (HN.out.later hs0)
        have hBq := hidden (below_drewN hbl nq)
        have gq0 := cellLater hs0 g0
        have gq1 := cellLater hs0 g1
        generalize wr.drewN nq = wn at *
        have hNL : Hid (M * p2 k < p2 L) := hidden (by
          have h := (bl_bd (M * p2 k) hN0).2.2
          rw [HL.out] at h
          exact h)
        have HFIN : Hid (L = bl M + k ∧ bl M + k ≤ 2 * m + 9 ∧ 2 * m + 8 ≤ L ∧ E - (k : Int) = Y ∧ Y % 2 = 0 ∧ Y / 2 = H) := hidden ⟨HLL.out, hk, by omega, HY.out, HEV.out, HH.out⟩
        clear HN HBT hs0 hbl g0 g1 HPAR HLL hlt hlt2 hlt4 hG hG1 hG2 hT hTw hpY HEV HH HY hk HL
        generalize hNk : M * p2 k = N at *
        have HNK := hidden hNk
        clear hNk
        go_loopw [10, 11, 12] (fun rv iv tv wq => ∃ (j : Nat) (R : Int) (a2 : Option Addr) (l2 c2 : Nat) (d2 : List Int), j ≤ L / 2 + 2 ∧ iv = .int .i64 ((j : Int) - 1) ∧ rv = .slice a2 l2 c2 ∧ HasNat wq a2 l2 c2 d2 R ∧ RootAt N R j ∧ HasNat wq a1 l1 c1' d1 N ∧ wq.cell? ⟨w.heap.size, 0, none⟩ = some (.int .i64 m) ∧ wq.cell? ⟨w.heap.size, 1, none⟩ = some (.int .i64 x) ∧ Below w.heap.size w wq) (fun _ iv _ _ => (intOf iv + 1).toNat)
        case atStart =>
          refine ⟨L / 2 + 2, 0, none, 0, 0, [], Nat.le_refl _, int_eq (by omega), rfl, has_nil _, ⟨Int.le_refl _, Int.zero_emod _, by simp; omega, ?_⟩, N0.out, gq0, gq1, hBq.out⟩
          have h1 := p2_mono (show L ≤ (L / 2 + 2) + (L / 2 + 2) by omega)
          rw [p2_add] at h1
          have h2 := hNL.out
          rw [Int.zero_add]
          omega
        case round =>
          obtain ⟨j, R, a2, l2, c2, d2, hj, rfl, rfl, hR, hroot, hNn, q0, q1, hbq⟩ := hrel
          have HR := hidden hR
          have HRT := hidden hroot
          have HNN := hidden hNn
          have hR0 := hroot.1
          have hRN : R ≤ N := by
            have h1 := hroot.2.2.1
            rcases Int.lt_or_le 0 R with h | h
            · have := Int.mul_le_mul_of_nonneg_left (show 1 ≤ R by omega) hR0
              omega
            · omega
          have hlR : (l2 : Int) ≤ 100 := by
            have h1 := len_bl hR
            have h2 := bl_mono hR0 hRN
            have h3 := bl_le (Int.le_of_lt hN0) hNL.out
            omega
          clear hR hroot hNn
          rcases Nat.eq_zero_or_pos j with rfl | hj0
          · have hneg : ¬ (0 : Int) ≤ ((0 : Nat) : Int) - 1 := by decide
            have HIS := hidden HRT.out.done
            clear HRT
            have hHw : IntKind.i64.wrap (H - 1) = H - 1 := wrapi _ (by omega) (by omega)
            have hHH : IntKind.i64.wrap H = H := wrapi _ (by omega) (by omega)
            go_wp2_with fail
            refine (up_hasN HR.out 1 (by omega) (by decide)).mono ?_
            rintro r w10 ⟨an, ln, cn, dn, rfl, hn, hb10⟩
            rw [show p2 1 = 2 from rfl] at hn
            have hln : (ln : Int) ≤ 100 := by
              have h1 := len_bl hn
              have h2 : R * 2 < p2 (L + 1) := by rw [p2_succ]; have := hNL.out; omega
              have h3 := bl_le (by omega) h2
              omega
            have HR1 := hidden (HR.out.later hb10)
            have HN1 := hidden (HNN.out.later hb10)
            have q0 := cellLater hb10 q0
            have q1 := cellLater hb10 q1
            have HBa := hidden (hbq.trans (hb10.mono hbq.size))
            have HU1 := hidden hn
            clear hn hb10
            go_wp2_with fail
            refine (times_has _ HR1.out HR1.out (by omega) (by omega)).mono ?_
            rintro r w13 ⟨as', ls', cs', ds', rfl, hs, hls, hb13⟩
            have HU2 := hidden (HU1.out.later hb13)
            have HN4 := hidden (HN1.out.later hb13)
            have q0 := cellLater hb13 q0
            have q1 := cellLater hb13 q1
            have HBd := hidden (HBa.out.trans (hb13.mono HBa.out.size))
            have HS1 := hidden hs
            clear hs hb13
            go_wp2_with fail
            refine (cmp_hasN HS1.out HN4.out (by omega) (by omega)).mono ?_
            rintro r w14 ⟨rfl, hb14⟩
            have HU3 := hidden (HU2.out.later hb14)
            have q0 := cellLater hb14 q0
            have q1 := cellLater hb14 q1
            have HBe := hidden (HBd.out.trans (hb14.mono HBd.out.size))
            clear hb14
            by_cases hc : R * R < N
            · have hci : cmpI (R * R) N < 0 := by unfold cmpI; rw [if_pos hc]; decide
              have HC := hidden hc
              clear hc
              generalize cmpI (R * R) N = CC at *
              go_wp2_with fail
              refine (one_has2 _).mono ?_
              rintro r w15 ⟨ao, lo, co, do', rfl, ho, hlo, hb15⟩
              have HU4 := hidden (HU3.out.later hb15)
              have q0 := cellLater hb15 q0
              have q1 := cellLater hb15 q1
              have HBf := hidden (HBe.out.trans (hb15.mono HBe.out.size))
              have HO1 := hidden ho
              clear ho hb15
              go_wp2_with fail
              refine (plus_hasN HU4.out HO1.out (by omega) (by omega)).mono ?_
              rintro r w16 ⟨am, lm, cm, dm, rfl, hm2, hb16⟩
              have hlm : (lm : Int) ≤ 100 := by
                have h1 := len_bl hm2
                have h2 : R * 2 + 1 < p2 (L + 2) := by rw [show L + 2 = (L + 1) + 1 by omega, p2_succ, p2_succ]; have := hNL.out; omega
                have h3 := bl_le (by omega) h2
                omega
              have q0 := cellLater hb16 q0
              have q1 := cellLater hb16 q1
              have HBN := hidden (HBf.out.trans (hb16.mono HBf.out.size))
              have HM2 := hidden hm2
              clear hm2 hb16
              go_upto_region 22 with fail
              go_region_held3 (fun w' => w'.cell? ⟨w.heap.size, 0, none⟩ = some (.int .i64 m) ∧ w'.cell? ⟨w.heap.size, 1, none⟩ = some (.int .i64 x)) (go_keep) (first | (go_at_call 41; refine (one_has2 _).mono ?_; rintro r w20 ⟨ao, lo, co, do', rfl, ho, hlo, hb20⟩; have q0 : w20.cell? ⟨w.heap.size, 0, none⟩ = some (.int .i64 m) := cellLater hb20 (by go_keep); have q1 : w20.cell? ⟨w.heap.size, 1, none⟩ = some (.int .i64 x) := cellLater hb20 (by go_keep); have HO9 := hidden ho; have hj20 := below_join2 (a := w16) hb20 (by first | exact Below.refl _ _ | exact (Below.refl _ _).drew); have HX9 := hidden (HM2.out.later hj20); have HB20 := hidden (HBN.out.trans (hj20.mono HBN.out.size)); clear ho hb20 hj20) | (go_at_call 40; refine (near_any m x false _ _ _ _ _ _ _ _ (R * 2 + 1) 1 (H - 1) _ hok HX9.out HO9.out (by omega) (by omega) (by omega) (by omega) (by omega)).mono ?_; rintro r w21 ⟨P, rfl, hP, hb21⟩; have q0 : w21.cell? ⟨w.heap.size, 0, none⟩ = some (.int .i64 m) := cellLater hb21 (by go_keep); have q1 : w21.cell? ⟨w.heap.size, 1, none⟩ = some (.int .i64 x) := cellLater hb21 (by go_keep); have HB21 := hidden (HB20.out.trans (hb21.mono HB20.out.size)); have HP := hidden hP; clear hb21 hP))
              all_goals
                go_wp2
                go_ret2
                obtain ⟨f1, f2, f3, f4, f5, f6⟩ := HFIN.out
                refine ⟨k, R, P, by rw [HNK.out]; exact HIS.out, by rw [f4]; exact f5, by omega, f2, ?_, rfl, HB21.out⟩
                rw [HNK.out, if_pos HC.out, f4, f6, Int.mul_comm 2 R]
                rcases HP.out with h | h
                · omega
                · exact h.2
            · have hci : ¬ cmpI (R * R) N < 0 := by unfold cmpI; rw [if_neg hc]; split <;> decide
              have HC := hidden hc
              clear hc
              generalize cmpI (R * R) N = CC at *
              have HBN := HBe
              go_upto_region 22 with fail
              go_region_held3 (fun w' => w'.cell? ⟨w.heap.size, 0, none⟩ = some (.int .i64 m) ∧ w'.cell? ⟨w.heap.size, 1, none⟩ = some (.int .i64 x)) (go_keep) (first | (go_at_call 41; refine (one_has2 _).mono ?_; rintro r w20 ⟨ao, lo, co, do', rfl, ho, hlo, hb20⟩; have q0 : w20.cell? ⟨w.heap.size, 0, none⟩ = some (.int .i64 m) := cellLater hb20 (by go_keep); have q1 : w20.cell? ⟨w.heap.size, 1, none⟩ = some (.int .i64 x) := cellLater hb20 (by go_keep); have HO9 := hidden ho; have hj20 := below_join2 (a := w14) hb20 (by first | exact Below.refl _ _ | exact (Below.refl _ _).drew); have HX9 := hidden (HU3.out.later hj20); have HB20 := hidden (HBN.out.trans (hj20.mono HBN.out.size)); clear ho hb20 hj20) | (go_at_call 40; refine (near_any m x false _ _ _ _ _ _ _ _ (R * 2) 1 (H - 1) _ hok HX9.out HO9.out (by omega) (by omega) (by omega) (by omega) (by omega)).mono ?_; rintro r w21 ⟨P, rfl, hP, hb21⟩; have q0 : w21.cell? ⟨w.heap.size, 0, none⟩ = some (.int .i64 m) := cellLater hb21 (by go_keep); have q1 : w21.cell? ⟨w.heap.size, 1, none⟩ = some (.int .i64 x) := cellLater hb21 (by go_keep); have HB21 := hidden (HB20.out.trans (hb21.mono HB20.out.size)); have HP := hidden hP; clear hb21 hP))
              all_goals
                go_wp2
                go_ret2
                obtain ⟨f1, f2, f3, f4, f5, f6⟩ := HFIN.out
                refine ⟨k, R, P, by rw [HNK.out]; exact HIS.out, by rw [f4]; exact f5, by omega, f2, ?_, rfl, HB21.out⟩
                rw [HNK.out, if_neg (Int.not_lt.2 HC.out), f4, f6, Int.mul_comm 2 R, Int.add_zero]
                rcases HP.out with h | h
                · exfalso
                  have h1 := HIS.out.2.2
                  have h2 : R = 0 := by omega
                  rw [h2] at h1
                  have h3 := HC.out
                  rw [h2] at h3
                  omega
                · exact h.2
          · obtain ⟨i, rfl⟩ : ∃ i, j = i + 1 := ⟨j - 1, by omega⟩
            have hji : ((i + 1 : Nat) : Int) - 1 = (i : Int) := by omega
            rw [hji]
            have hi0 : (0 : Int) ≤ (i : Int) := by omega
            have hib : (i : Int) ≤ 102 := by omega
            have hpi := p2_pos i
            have htb : Hid (∀ X : World, ∀ at' lt' ct' dt', HasNat X at' lt' ct' dt' (R + p2 i) → (lt' : Int) ≤ 100) := hidden fun X at' lt' ct' dt' h => by
              have h1 := len_bl h
              have h2 : R + p2 i < p2 (L + 103) := by
                have h3 := hNL.out
                have h4 := p2_mono (show i ≤ L + 102 by omega)
                have h5 := p2_mono (show L ≤ L + 102 by omega)
                rw [show L + 103 = (L + 102) + 1 by omega, p2_succ]
                omega
              have h6 := bl_le (by omega) h2
              omega
            go_wp2_with fail
            refine (one_has2 _).mono ?_
            rintro r w10 ⟨ao, lo, co, do', rfl, ho, hlo, hb10⟩
            have HR1 := hidden (HR.out.later hb10)
            have HN1 := hidden (HNN.out.later hb10)
            have q0 := cellLater hb10 q0
            have q1 := cellLater hb10 q1
            have HBa := hidden (hbq.trans (hb10.mono hbq.size))
            have HO1 := hidden ho
            clear ho hb10
            go_wp2_with fail
            refine (up_hasN HO1.out i (by omega) (by omega)).mono ?_
            rintro r w11 ⟨au, lu, cu, du, rfl, hu, hb11⟩
            rw [Int.one_mul] at hu
            have hlu : (lu : Int) ≤ 100 := by
              have h1 := len_bl hu
              have h2 := bl_le (Int.le_of_lt hpi) (show p2 i < p2 (i + 1) by rw [p2_succ]; omega)
              omega
            have HR2 := hidden (HR1.out.later hb11)
            have HN2 := hidden (HN1.out.later hb11)
            have q0 := cellLater hb11 q0
            have q1 := cellLater hb11 q1
            have HBb := hidden (HBa.out.trans (hb11.mono HBa.out.size))
            have HU1 := hidden hu
            clear hu hb11
            go_wp2_with fail
            refine (plus_hasN HR2.out HU1.out (by omega) (by omega)).mono ?_
            rintro r w12 ⟨at', lt', ct', dt', rfl, ht, hb12⟩
            have hlt' := htb.out _ _ _ _ _ ht
            have HR3 := hidden (HR2.out.later hb12)
            have HN3 := hidden (HN2.out.later hb12)
            have q0 := cellLater hb12 q0
            have q1 := cellLater hb12 q1
            have HBc := hidden (HBb.out.trans (hb12.mono HBb.out.size))
            have HT1 := hidden ht
            clear ht hb12
            go_wp2_with fail
            refine (times_has _ HT1.out HT1.out (by omega) (by omega)).mono ?_
            rintro r w13 ⟨as', ls', cs', ds', rfl, hs, hls, hb13⟩
            have HR4 := hidden (HR3.out.later hb13)
            have HN4 := hidden (HN3.out.later hb13)
            have HT2 := hidden (HT1.out.later hb13)
            have q0 := cellLater hb13 q0
            have q1 := cellLater hb13 q1
            have HBd := hidden (HBc.out.trans (hb13.mono HBc.out.size))
            have HS1 := hidden hs
            clear hs hb13
            go_wp2_with fail
            refine (cmp_hasN HS1.out HN4.out (by omega) (by omega)).mono ?_
            rintro r w14 ⟨rfl, hb14⟩
            have HR5 := hidden (HR4.out.later hb14)
            have HN5 := hidden (HN4.out.later hb14)
            have HT3 := hidden (HT2.out.later hb14)
            have q0 := cellLater hb14 q0
            have q1 := cellLater hb14 q1
            have HBe := hidden (HBd.out.trans (hb14.mono HBd.out.size))
            clear hb14
            by_cases hc : (R + p2 i) * (R + p2 i) ≤ N
            · have hci : cmpI ((R + p2 i) * (R + p2 i)) N ≤ 0 := by unfold cmpI; split; decide; rw [if_neg (by omega)]; decide
              have HY2 := hidden (HRT.out.yes hc)
              clear hc HRT
              generalize cmpI ((R + p2 i) * (R + p2 i)) N = CC at *
              go_wp2
              go_roundw
              case rel => exact ⟨i, R + p2 i, at', lt', ct', dt', by omega, rfl, rfl, HT3.out, HY2.out, HN5.out, q0, q1, HBe.out⟩
              case measure => simp [intOf]
            · have hci : ¬ cmpI ((R + p2 i) * (R + p2 i)) N ≤ 0 := by unfold cmpI; rw [if_neg (by omega), if_pos (by omega)]; decide
              have HY2 := hidden (HRT.out.no hc)
              clear hc HRT
              generalize cmpI ((R + p2 i) * (R + p2 i)) N = CC at *
              go_wp2
              go_roundw
              case rel => exact ⟨i, R, a2, l2, c2, d2, by omega, rfl, rfl, HR5.out, HY2.out, HN5.out, q0, q1, HBe.out⟩
              case measure => simp [intOf]
      · have hT1 : (T == 0) = false := by simpa using hT0
        have hodd : Hid (¬ Y % 2 = 0) := hidden fun h => hT0 (hpY.out.2 h)
        go_wp2
        go_quiet (first | (go_at_call 39; exact Calls.quiet_of_same (HBT.out _ (by first | exact Below.refl _ _ | exact below_drewN (Below.refl _ _) _ | exact (Below.refl _ _).drew))))
        go_wp2_with fail
        refine (up_hasN (HN.out.later (below_drewN (Below.refl _ _) nq)) 1 (by omega) (by decide)).mono ?_
        rintro r w8 ⟨a8, l8, c8, d8, rfl, h8, hb8⟩
        have hd : Below wr.heap.size wr w8 := (below_drewN (Below.refl _ _) nq).trans hb8
        have g0 := cellLater hd g0
        have g1 := cellLater hd g1
        have HB8 := hidden (hbl.trans (hd.mono hbl.size))
        have H8 := hidden h8
        clear h8 hb8 hd
        go_wp2
        go_roundw
        case rel =>
          have e9 := HY.out
          have e8 := HLL.out
          refine ⟨k + 1, a8, l8, c8, d8, rfl, int_eq (by omega), ?_, ?_, ?_, g0, g1, HB8.out⟩
          · have h := H8.out
            rw [Int.mul_assoc, ← p2_add] at h
            exact h
          · have := HPAR.out
            have := hodd.out
            omega
          · right; right
            have := hodd.out
            omega
        case measure =>
          have e9 := HY.out
          have e7 := hodd.out
          have e8 := HLL.out
          simp [intOf]
          omega
theorem rsqrt_err (m x a : Int) (w : World)
    (HO : Hid (∀ w, Calls Tryz.prog 42 #[.agg #[.int .i64 m, .int .i64 x], .int .u64 a] w fun r w' => r = .returned (.tuple #[partsV 0 false 0 0, .int .i64 1]) ∧ Below w.heap.size w w')) :
    Calls Tryz.prog 17 #[.agg #[.int .i64 m, .int .i64 x], .int .u64 a] w fun r w' => r = .returned (.tuple #[.int .u64 0, .int .i64 1]) ∧ Below w.heap.size w w' := by
  go_enter Tryz.func17, Tryz.ntmps17
  go_wp2_with fail
  refine (HO.out _).mono ?_
  rintro r w1 ⟨rfl, hb1⟩
  have HB1 := hidden (box_below _ hb1)
  clear hb1
  go_wp2
  go_ret2
  exact ⟨rfl, HB1.out.alloc HB1.out.size _⟩
theorem rsqrt_nan (m x a K E M R : Int) (n : Bool) (w : World) (hc : (K == 4) = true ∨ ((K == 4) = false ∧ n = true ∧ (K != 1) = true))
    (HO : Hid (∀ w, Calls Tryz.prog 42 #[.agg #[.int .i64 m, .int .i64 x], .int .u64 a] w fun r w' => r = .returned (.tuple #[partsV K n E M, .int .i64 0]) ∧ Below w.heap.size w w'))
    (HN : Hid (∀ w, Calls Tryz.prog 34 #[.agg #[.int .i64 m, .int .i64 x]] w fun r w' => r = .returned (.int .u64 R) ∧ Below w.heap.size w w')) :
    Calls Tryz.prog 17 #[.agg #[.int .i64 m, .int .i64 x], .int .u64 a] w fun r w' => r = .returned (.tuple #[.int .u64 R, .int .i64 0]) ∧ Below w.heap.size w w' := by
  rcases hc with k4 | ⟨k4, rfl, k1⟩
  · go_enter Tryz.func17, Tryz.ntmps17
    go_wp2_with fail
    refine (HO.out _).mono ?_
    rintro r w1 ⟨rfl, hb1⟩
    obtain ⟨w5, hw5, hx, c0, c1, p0, p1, p2', p3⟩ := ropen_box3 m x K E M n w w1 hb1
    have HB := hidden hx
    clear hx hb1
    go_upto_region 2 with fail
    change Code.wp _ _ _ _ (w1.alloc (.cells #[.int .i64 K, .bool n, .int .i64 E, .int .u64 M] 53))
    rw [← hw5]
    clear hw5
    go_wp2_with (go_at_call 34; refine (HN.out _).mono ?_; rintro r w9 ⟨rfl, hb⟩; have HB := hidden (HB.out.trans (hb.mono HB.out.size)); clear hb)
    go_ret2
    exact ⟨rfl, HB.out⟩
  · go_enter Tryz.func17, Tryz.ntmps17
    go_wp2_with fail
    refine (HO.out _).mono ?_
    rintro r w1 ⟨rfl, hb1⟩
    obtain ⟨w5, hw5, hx, c0, c1, p0, p1, p2', p3⟩ := ropen_box3 m x K E M true w w1 hb1
    have HB := hidden hx
    clear hx hb1
    go_upto_region 2 with fail
    change Code.wp _ _ _ _ (w1.alloc (.cells #[.int .i64 K, .bool true, .int .i64 E, .int .u64 M] 53))
    rw [← hw5]
    clear hw5
    go_wp2_with (go_at_call 34; refine (HN.out _).mono ?_; rintro r w9 ⟨rfl, hb⟩; have HB := hidden (HB.out.trans (hb.mono HB.out.size)); clear hb)
    go_ret2
    exact ⟨rfl, HB.out⟩
theorem rsqrt_self (m x a K E M : Int) (n : Bool) (w : World) (k4 : (K == 4) = false) (hc : n = false ∨ (n = true ∧ (K != 1) = false)) (k2 : (K != 2) = true)
    (HO : Hid (∀ w, Calls Tryz.prog 42 #[.agg #[.int .i64 m, .int .i64 x], .int .u64 a] w fun r w' => r = .returned (.tuple #[partsV K n E M, .int .i64 0]) ∧ Below w.heap.size w w')) :
    Calls Tryz.prog 17 #[.agg #[.int .i64 m, .int .i64 x], .int .u64 a] w fun r w' => r = .returned (.tuple #[.int .u64 a, .int .i64 0]) ∧ Below w.heap.size w w' := by
  rcases hc with rfl | ⟨rfl, k1⟩
  · go_enter Tryz.func17, Tryz.ntmps17
    go_wp2_with fail
    refine (HO.out _).mono ?_
    rintro r w1 ⟨rfl, hb1⟩
    obtain ⟨w5, hw5, hx, c0, c1, p0, p1, p2', p3⟩ := ropen_box3 m x K E M false w w1 hb1
    have HB := hidden hx
    clear hx hb1
    go_upto_region 2 with fail
    change Code.wp _ _ _ _ (w1.alloc (.cells #[.int .i64 K, .bool false, .int .i64 E, .int .u64 M] 53))
    rw [← hw5]
    clear hw5
    go_wp2
    go_ret2
    exact ⟨rfl, HB.out⟩
  · go_enter Tryz.func17, Tryz.ntmps17
    go_wp2_with fail
    refine (HO.out _).mono ?_
    rintro r w1 ⟨rfl, hb1⟩
    obtain ⟨w5, hw5, hx, c0, c1, p0, p1, p2', p3⟩ := ropen_box3 m x K E M true w w1 hb1
    have HB := hidden hx
    clear hx hb1
    go_upto_region 2 with fail
    change Code.wp _ _ _ _ (w1.alloc (.cells #[.int .i64 K, .bool true, .int .i64 E, .int .u64 M] 53))
    rw [← hw5]
    clear hw5
    go_wp2
    go_ret2
    exact ⟨rfl, HB.out⟩
end Go.Proofs.YtbfbdemknggpkaaGreatDoor
