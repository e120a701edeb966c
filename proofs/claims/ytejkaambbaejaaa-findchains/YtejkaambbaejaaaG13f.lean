/- Layer 13: the document's Read of four bytes, and Linked. -/
import Derived.Test.YtejkaambbaejaaaG13d
namespace Go.Proofs.Ytejkaambbaejaaa
open Go.RowKit
set_option maxHeartbeats 1000000
set_option maxRecDepth 100000
set_option linter.unusedVariables false

theorem dsized4 (w : World) : Calls Try.prog 50 #[.int .i64 4] w fun e w' => e = .returned (.bool true) ∧ w' = w := by
  go_enter Try.func50, Try.ntmps50
  go_wp2
  go_ret
  exact ⟨rfl, rfl⟩
def rdE (L a : Nat) : Int := if a + 4 ≤ L then 0 else 90
def rdV (bs : List Int) (a : Nat) : Int := if a + 4 ≤ bs.length then beV bs a 4 else 0
theorem dread4 (d : Nat) (bs : List Int) (a : Nat) (w : World) (D : DRd w d bs) (ha : a < 4294967296) :
    Calls Try.prog 42 #[.pointer (some ⟨d, 0, none⟩), .int .u32 a, .int .i64 4] w fun e w' => e = .returned (.tuple #[.int .u32 (rdV bs a), .int .i64 (rdE bs.length a)]) ∧ w' = w := by
  obtain ⟨g, c, c0, cc⟩ := D.cells
  have hle := D.le
  have HCC := hidden cc
  have HOB := hidden D.okb
  clear D cc
  have e1 : IntKind.i64.wrap (a : Int) = a := by rw [IntKind.wrap_i64]; omega
  obtain ⟨V, hV⟩ : ∃ V, rdV bs a = V := ⟨_, rfl⟩
  obtain ⟨E, hE⟩ : ∃ E, rdE bs.length a = E := ⟨_, rfl⟩
  rw [hV, hE]
  have HV := hidden hV
  have HE := hidden hE
  clear hV hE
  generalize hLL : bs.length = LL at *
  have HLL := hidden hLL
  clear hLL
  go_enter Try.func42, Try.ntmps42
  go_upto_region 5 with (go_at_call 50; refine (dsized4 _).mono ?_; rintro e w1 ⟨rfl, e9⟩; rw [e9]; clear e9)
  go_loopw [8, 9] (fun x i w' => w' = w ∧ ∃ k : Nat, k ≤ 4 ∧ i = .int .i64 k ∧ x = .int .i64 (rb bs a k) ∧ (k = 0 ∨ a + k ≤ LL)) (fun _ i _ => 4 - (intOf i).toNat)
  case atStart => exact ⟨rfl, 0, by omega, rfl, rfl, .inl rfl⟩
  case round =>
    obtain ⟨rfl, k, hk, rfl, rfl, hak⟩ := hrel
    have hrb := rb_bd bs a k HOB.out hk
    by_cases hlt : k < 4
    · have l1 : (k : Int) < 4 := by omega
      have m5 : IntKind.i64.wrap ((a : Int) + k) = (a : Int) + k := by rw [IntKind.wrap_i64]; omega
      by_cases hin : a + k < LL
      · have m1 : ¬ ((a : Int) + k ≥ LL) := by omega
        have m2 : (a : Int) + k < LL := by omega
        have m3 : (0 : Int) ≤ (a : Int) + k := by omega
        have m4 : ((a : Int) + (k : Int)).toNat = a + k := by omega
        have hc := HCC.out (a + k) hin
        have hv := HOB.out.at (a + k)
        have HRS : Hid (rb bs a (k + 1) = rb bs a k * 256 + bs.getD (a + k) 0) := hidden (by show 256 * rb bs a k + _ = _; rw [Int.mul_comm])
        have hrb3 := hrb.2.2 (by omega)
        generalize bs.getD (a + k) 0 = Z at *
        generalize rb bs a k = X at *
        have q1 : IntKind.i64.wrap (X * 256) = X * 256 := by rw [IntKind.wrap_i64]; omega
        have q2 : IntKind.i64.wrap Z = Z := by rw [IntKind.wrap_i64]; omega
        have q3 : IntKind.i64.wrap (X * 256 + Z) = X * 256 + Z := by rw [IntKind.wrap_i64]; omega
        have hin2 : a + (k + 1) ≤ LL := by omega
        clear hak hin
        go_wp2
        go_roundw
        case rel => exact ⟨by trivial, k + 1, by omega, by first | rfl | go_num, by rw [HRS.out], .inr hin2⟩
        case measure => simp [intOf]; omega
      · have m1 : (a : Int) + k ≥ LL := by omega
        have HEV : Hid (E = 90 ∧ V = 0) := hidden (by
          constructor
          · rw [← HE.out]; unfold rdE; rw [if_neg (by omega)]
          · rw [← HV.out]; unfold rdV; rw [HLL.out, if_neg (by omega)])
        clear hak hin
        go_wp2
        go_ret2
        rw [HEV.out.1, HEV.out.2]
        exact ⟨rfl, rfl⟩
    · obtain rfl : k = 4 := by omega
      have HEV : Hid (E = 0 ∧ V = rb bs a 4) := hidden (by
        constructor
        · rw [← HE.out]; unfold rdE; rw [if_pos (by omega)]
        · rw [← HV.out]; unfold rdV; rw [HLL.out, if_pos (by omega)]
          exact (rb_beV bs a 4 (.inr (.inr rfl))).symm)
      have q1 : IntKind.u32.wrap (rb bs a 4) = rb bs a 4 := by rw [IntKind.wrap_u32]; omega
      generalize rb bs a 4 = X at *
      clear hak
      go_wp2
      go_ret2
      rw [HEV.out.1, HEV.out.2]
      exact ⟨rfl, rfl⟩
/-- what Linked tells -/
def telC : Rs → Nat × Int
  | .bad e => (0, e)
  | .no => (0, 0)
  | .at_ _ a => (a, 0)
theorem s4_endZ (s : Sr) (l : List Int) : endZ (s4 s) l = endZ s l := by
  show (optB (clr4 s.opt) 2 && allZ l) = _
  rw [clr4_2]; rfl
theorem s4_chF (bs : List Int) (s : Sr) (key : List Int) : ∀ (f i a : Nat), chF bs (s4 s) key f i a = chF bs s key f i a
  | 0, i, a => by
    by_cases ha : a = 0
    · subst ha; rw [chF_end, chF_end]
    · rw [chF_loop _ _ _ _ _ ha, chF_loop _ _ _ _ _ ha]
  | f + 1, i, a => by
    by_cases ha : a = 0
    · subst ha; rw [chF_end, chF_end]
    · rw [chF_step _ _ _ _ _ _ ha, chF_step _ _ _ _ _ _ ha, s4_endZ, s4_chF bs s key f]
      rfl
theorem chnV_eq (bs : List Int) (s : Sr) : chnV bs s = if keyE s bs.length ≠ 0 then (0, keyE s bs.length) else telC (chF bs s (keyL s bs) 65536 0 s.start) := by
  have h1 : keyE (s4 s) bs.length = keyE s bs.length := by
    have e : optB (s4 s).opt 1 = optB s.opt 1 := clr4_1 _
    unfold keyE mayK
    rw [e]; rfl
  have h2 : keyL (s4 s) bs = keyL s bs := by
    have e : optB (s4 s).opt 1 = optB s.opt 1 := clr4_1 _
    unfold keyL
    rw [e]; rfl
  unfold chnV
  rw [h1, h2, s4_chF]
  split
  · rfl
  · cases chF bs s (keyL s bs) 65536 0 s.start with
    | bad e => rfl
    | no => show ((if optB (clr4 s.opt) 4 then 4294967295 else 0), (0 : Int)) = _; rw [clr4_4]; rfl
    | at_ i a => show ((if optB (clr4 s.opt) 4 then i else a), (0 : Int)) = _; rw [clr4_4]; rfl
set_option maxHeartbeats 4000000 in
theorem dchn_any (d : Nat) (bs : List Int) (s : Sr) (ok : s.ok) (w : World) (D : DRd w d bs) :
    Calls Try.prog 21 #[.pointer (some ⟨d, 0, none⟩), .agg #[.int .u32 s.key, .int .u32 s.ks, .int .u32 s.start, .int .u32 s.size, .int .u32 s.cnt, .int .u32 s.off, .int .u32 s.nxt, .int .u32 s.opt]] w fun e w' => e = .returned (.tuple #[.int .u32 (chnV bs s).1, .int .i64 (chnV bs s).2]) ∧ Below w.heap.size w w' := by
  have HX := hidden (SBox.new w s)
  have hb1 : Below w.heap.size w (w.alloc (.cells #[.int .u32 s.key, .int .u32 s.ks, .int .u32 s.start, .int .u32 s.size, .int .u32 s.cnt, .int .u32 s.off, .int .u32 s.nxt, .int .u32 s.opt] 25)) := (Below.refl _ _).alloc (Nat.le_refl _) _
  have HB := hidden hb1
  have HK := hidden (dkey_any d bs s ok _ (D.later hb1))
  have HD := hidden (D.later hb1)
  have HOB := hidden D.okb
  have HLE := hidden D.le
  clear hb1 D
  obtain ⟨V, hV⟩ : ∃ V, chnV bs s = V := ⟨_, rfl⟩
  rw [hV]
  rw [chnV_eq] at hV
  have HV := hidden hV
  clear hV
  have hst := ok.start
  go_enter Try.func21, Try.ntmps21
  go_upto_region 1 with fail
  generalize w.alloc (.cells #[.int .u32 s.key, .int .u32 s.ks, .int .u32 s.start, .int .u32 s.size, .int .u32 s.cnt, .int .u32 s.off, .int .u32 s.nxt, .int .u32 s.opt] 25) = w1 at *
  obtain ⟨c0, c1, c2, c3, c4, c5, c6, c7⟩ := HX.out.cells
  go_wp2_with fail
  refine HK.out.mono ?_
  rintro e w2 ⟨hb2, hcase⟩
  have HX2 := hidden (HX.out.later hb2)
  have HB2 := hidden (HB.out.trans (hb2.mono HB.out.size))
  have HD2 := hidden (HD.out.later hb2)
  clear c0 c1 c2 c3 c4 c5 c6 c7 HX HK HD
  rcases hcase with ⟨hne, rfl⟩ | ⟨he, hk, hkl, hok, v, rfl, hown⟩
  · have HVV : Hid (V = (0, keyE s bs.length)) := hidden (by rw [← HV.out, if_pos hne])
    have hq : (keyE s bs.length != 0) = true := by simpa using hne
    clear hne hb2
    generalize keyE s bs.length = E at *
    go_wp2
    go_ret2
    have h := HVV.out
    subst h
    exact ⟨rfl, HB2.out⟩
  · have HVV : Hid (V = telC (chF bs s (keyL s bs) 65536 0 s.start)) := hidden (by rw [← HV.out, if_neg (by rw [he]; simp)])
    obtain ⟨ak, ck, rfl, hrk⟩ := own_reads_v hown
    have HRK := hidden hrk
    have HOK := hidden hok
    have HKL := hidden hkl
    generalize keyL s bs = key at *
    obtain ⟨R, hR⟩ : ∃ R, chF bs s key 65536 0 s.start = R := ⟨_, rfl⟩
    rw [hR] at HVV
    have HR := hidden hR
    have HQ2 := hidden (fun w => dhas_2 s.key s.ks s.start s.size s.cnt s.off s.nxt s.opt w ok.opt)
    obtain ⟨c0, c1, c2, c3, c4, c5, c6, c7⟩ := HX2.out.cells
    clear hR hown hrk hok hkl he hb2
    go_upto_region 6 with fail
    clear c0 c1 c2 c3 c4 c5 c6 c7
    go_loopw [8, 9] (fun x i w' => ∃ (k A0 : Nat), k ≤ 65536 ∧ A0 < 4294967296 ∧ x = .int .u32 A0 ∧ i = .int .i64 k ∧ Hid (chF bs s key (65536 - k) k A0 = R) ∧ Hid (Below w2.heap.size w2 w')) (fun _ i _ => 65537 - (intOf i).toNat)
    case atStart => exact ⟨0, s.start, by omega, hst, rfl, rfl, HR, hidden (Below.refl _ _)⟩
    case round =>
      clear HR
      obtain ⟨k, A0, hkc, hA0, rfl, rfl, hRk, hN⟩ := hrel
      have HX3 := hidden (HX2.out.later hN.out)
      have HB3 := hidden (HB2.out.trans (hN.out.mono HB2.out.size))
      obtain ⟨c0, c1, c2, c3, c4, c5, c6, c7⟩ := HX3.out.cells
      by_cases hz0 : A0 = 0
      · subst hz0
        have HVB : Hid (V = (0, 0)) := hidden (by
          have h1 := hRk.out
          rw [chF_end] at h1
          rw [HVV.out, ← h1]; rfl)
        clear hRk
        go_wp2
        go_ret2
        have h := HVB.out
        subst h
        exact ⟨rfl, HB3.out⟩
      · have hab : ((A0 : Int) != 0) = true := by simp; omega
        by_cases hkm : k = 65536
        · subst hkm
          have HVB : Hid (V = (0, 131)) := hidden (by
            have h1 := hRk.out
            rw [Nat.sub_self, chF_loop _ _ _ _ _ hz0] at h1
            rw [HVV.out, ← h1]; rfl)
          clear hRk hz0
          go_wp2
          go_ret2
          have h := HVB.out
          subst h
          exact ⟨rfl, HB3.out⟩
        · have hkb : ((k : Int) == 65536) = false := by simp; omega
          have hrk2 : chF bs s key (65535 - k + 1) k A0 = R := by have := hRk.out; rwa [show 65536 - k = 65535 - k + 1 by omega] at this
          have HST := hidden ((chF_step bs s key (65535 - k) k A0 hz0).symm.trans hrk2)
          have e3 : IntKind.u32.wrap ((A0 : Int) + (s.off : Int)) = (wr32 (A0 + s.off) : Int) := by
            rw [IntKind.wrap_u32]; unfold wr32; rw [← Int.natCast_add]; omega
          have e4 : IntKind.u32.wrap ((A0 : Int) + (s.nxt : Int)) = (nxA s A0 : Int) := by
            rw [IntKind.wrap_u32]; unfold nxA wr32; rw [← Int.natCast_add]; omega
          have HSP := hidden (span_any d bs (wr32 (A0 + s.off)) s.ks wr (HD2.out.later hN.out) (wr32_lt _) hk)
          have HAK0 : Hid (kyE s bs.length A0 = tkE bs.length (wr32 (A0 + s.off)) s.ks ∧ kyL s bs A0 = seg bs (wr32 (A0 + s.off)) s.ks) := hidden ⟨rfl, rfl⟩
          generalize hA : wr32 (A0 + s.off) = A at *
          have HAK := HAK0
          clear hA hRk hrk2 hz0 HAK0
          go_wp2_with fail
          refine HSP.out.mono ?_
          rintro e w4 ⟨hb4, hcase⟩
          have HX4 := hidden (HX3.out.later hb4)
          have HB4 := hidden (HB3.out.trans (hb4.mono HB3.out.size))
          have HN4 := hidden (hN.out.trans (hb4.mono hN.out.size))
          clear c0 c1 c2 c3 c4 c5 c6 c7 HX3 HB3 hN HSP hb4
          rcases hcase with ⟨hne, rfl⟩ | ⟨he, v2, rfl, hown2⟩
          · have HVB : Hid (V = (0, 90)) := hidden (by
              have h1 := HST.out
              rw [HAK.out.1, if_pos hne] at h1
              rw [HVV.out, ← h1]; rfl)
            clear hne HST
            go_wp2
            go_ret2
            have h := HVB.out
            subst h
            exact ⟨rfl, HB4.out⟩
          · obtain ⟨a2, cq2, rfl, hr2⟩ := own_reads_v hown2
            have HR2 := hidden hr2
            have HTK := hidden he
            have hcv1 := conv_reads w4 a2 s.ks cq2 (seg bs A s.ks) (seg_ok HOB.out _ _) hr2
            have hcv2 := conv_reads w4 ak s.ks ck key HOK.out (HRK.out.later HN4.out)
            have HSE := hidden (fun h => str_ne (xs := seg bs A s.ks) (ys := key) (seg_ok HOB.out _ _) HOK.out h)
            obtain ⟨SA, hSA⟩ : ∃ SA, (⟨(strB (seg bs A s.ks)).toArray⟩ : ByteArray) = SA := ⟨_, rfl⟩
            obtain ⟨SB, hSB⟩ : ∃ SB, (⟨(strB key).toArray⟩ : ByteArray) = SB := ⟨_, rfl⟩
            rw [hSA] at hcv1 HSE
            rw [hSB] at hcv2 HSE
            have HSA := hidden hSA
            have HSB := hidden hSB
            clear hSA hSB hown2 hr2 he
            have HST2 : Hid ((if seg bs A s.ks = key then Rs.at_ k A0 else if endZ s (seg bs A s.ks) = true then Rs.no else if bs.length < nxA s A0 + 4 then Rs.bad 90 else chF bs s key (65535 - k) (k + 1) (beV bs (nxA s A0) 4).toNat) = R) := hidden (by
              have h1 := HST.out
              rw [HAK.out.1, HAK.out.2, HTK.out, if_neg (by simp)] at h1
              exact h1)
            clear HST
            obtain ⟨c0, c1, c2, c3, c4, c5, c6, c7⟩ := HX4.out.cells
            by_cases hfound : seg bs A s.ks = key
            · have hS : SA = SB := by rw [← HSA.out, ← HSB.out, hfound]
              subst hS
              have hSr := ba_eq SA
              have HVB : Hid (V = (A0, 0)) := hidden (by
                have h1 := HST2.out
                rw [if_pos hfound] at h1
                rw [HVV.out, ← h1]; rfl)
              clear hfound HST2 HSE HSA HSB
              go_wp2
              go_ret2
              have h := HVB.out
              subst h
              exact ⟨rfl, HB4.out⟩
            · have hS1 := ba_ne (HSE.out hfound)
              have HST4 : Hid ((if endZ s (seg bs A s.ks) = true then Rs.no else if bs.length < nxA s A0 + 4 then Rs.bad 90 else chF bs s key (65535 - k) (k + 1) (beV bs (nxA s A0) 4).toNat) = R) := hidden (by
                have h1 := HST2.out
                rwa [if_neg hfound] at h1)
              clear hfound HST2 HSE HSA HSB
              have HNG := hidden (fun wx (hx : Below w4.heap.size w4 wx) => noughts_any a2 s.ks cq2 (seg bs A s.ks) wx (HR2.out.later hx) hk)
              unfold endZ at HST4
              have HQ := hidden (HQ2.out w4)
              cases hop : optB s.opt 2
              · rw [hop] at HST4 HQ
                have HST3 : Hid ((if bs.length < nxA s A0 + 4 then Rs.bad 90 else chF bs s key (65535 - k) (k + 1) (beV bs (nxA s A0) 4).toNat) = R) := hidden (by have h1 := HST4.out; rwa [if_neg (by simp)] at h1)
                clear hop HST4
                go_upto_region 17 with (first | (go_at_call 32; refine HQ.out.mono ?_; rintro e w5 ⟨rfl, hb5⟩; have HX5 := hidden (HX4.out.later hb5); have HN5 := hidden (HN4.out.trans (hb5.mono HN4.out.size)); have HB5 := hidden (HB4.out.trans (hb5.mono HB4.out.size)); obtain ⟨d0, d1, d2, d3, d4, d5, d6, d7⟩ := HX5.out.cells; have HN1 := hidden (HNG.out w5 hb5); have HRD := hidden (dread4 d bs (nxA s A0) w5 (HD2.out.later HN5.out) (wr32_lt _)); clear hb5; skip) | (go_at_call 38; refine HN1.out.mono ?_; rintro e w6 ⟨rfl, hw6⟩; subst hw6; skip) | fail)
                have HRV : Hid (rdE bs.length (nxA s A0) = 0 ∨ rdE bs.length (nxA s A0) = 90) := hidden (by unfold rdE; split <;> simp)
                by_cases hin : bs.length < nxA s A0 + 4
                · have hE90 : rdE bs.length (nxA s A0) = 90 := by unfold rdE; rw [if_neg (by omega)]
                  have HVB : Hid (V = (0, 90)) := hidden (by
                    have h1 := HST3.out
                    rw [if_pos hin] at h1
                    rw [HVV.out, ← h1]; rfl)
                  rw [hE90] at HRD
                  generalize rdV bs (nxA s A0) = NV at *
                  clear hE90 hin HST3 HRV
                  go_wp2_with (go_at_call 42; refine HRD.out.mono ?_; rintro e w7 ⟨rfl, hw7⟩; rw [hw7]; clear hw7)
                  go_ret2
                  have h := HVB.out
                  subst h
                  exact ⟨rfl, HB5.out⟩
                · have hE0 : rdE bs.length (nxA s A0) = 0 := by unfold rdE; rw [if_pos (by omega)]
                  obtain ⟨NX, hNX⟩ : ∃ NX : Nat, beV bs (nxA s A0) 4 = NX := ⟨(beV bs (nxA s A0) 4).toNat, by have := beV_bd bs (nxA s A0) HOB.out; omega⟩
                  have hNXl : NX < 4294967296 := by have := beV_bd bs (nxA s A0) HOB.out; omega
                  have hRV : rdV bs (nxA s A0) = (NX : Int) := by unfold rdV; rw [if_pos (by omega), hNX]
                  have HRN : Hid (chF bs s key (65536 - (k + 1)) (k + 1) NX = R) := hidden (by
                    have h1 := HST3.out
                    rw [if_neg hin, hNX, Int.toNat_natCast, show 65535 - k = 65536 - (k + 1) by omega] at h1
                    exact h1)
                  have hw1 : IntKind.i64.wrap ((k : Int) + 1) = (k : Int) + 1 := by rw [IntKind.wrap_i64]; omega
                  rw [hE0, hRV] at HRD
                  clear hE0 hin HST3 HRV hRV hNX
                  go_wp2_with (go_at_call 42; refine HRD.out.mono ?_; rintro e w7 ⟨rfl, hw7⟩; rw [hw7]; clear hw7)
                  go_roundw
                  case rel => exact ⟨k + 1, NX, by omega, hNXl, rfl, by first | rfl | go_num, HRN, HN5⟩
                  case measure => simp [intOf]; omega
              · rw [hop] at HST4 HQ
                cases haz : allZ (seg bs A s.ks)
                · rw [haz] at HST4 HNG
                  have HST3 : Hid ((if bs.length < nxA s A0 + 4 then Rs.bad 90 else chF bs s key (65535 - k) (k + 1) (beV bs (nxA s A0) 4).toNat) = R) := hidden (by have h1 := HST4.out; rwa [if_neg (by simp)] at h1)
                  clear hop haz HST4
                  go_upto_region 17 with (first | (go_at_call 32; refine HQ.out.mono ?_; rintro e w5 ⟨rfl, hb5⟩; have HX5 := hidden (HX4.out.later hb5); have HN5 := hidden (HN4.out.trans (hb5.mono HN4.out.size)); have HB5 := hidden (HB4.out.trans (hb5.mono HB4.out.size)); obtain ⟨d0, d1, d2, d3, d4, d5, d6, d7⟩ := HX5.out.cells; have HN1 := hidden (HNG.out w5 hb5); have HRD := hidden (dread4 d bs (nxA s A0) w5 (HD2.out.later HN5.out) (wr32_lt _)); clear hb5; skip) | (go_at_call 38; refine HN1.out.mono ?_; rintro e w6 ⟨rfl, hw6⟩; subst hw6; skip) | fail)
                  have HRV : Hid (rdE bs.length (nxA s A0) = 0 ∨ rdE bs.length (nxA s A0) = 90) := hidden (by unfold rdE; split <;> simp)
                  by_cases hin : bs.length < nxA s A0 + 4
                  · have hE90 : rdE bs.length (nxA s A0) = 90 := by unfold rdE; rw [if_neg (by omega)]
                    have HVB : Hid (V = (0, 90)) := hidden (by
                      have h1 := HST3.out
                      rw [if_pos hin] at h1
                      rw [HVV.out, ← h1]; rfl)
                    rw [hE90] at HRD
                    generalize rdV bs (nxA s A0) = NV at *
                    clear hE90 hin HST3 HRV
                    go_wp2_with (go_at_call 42; refine HRD.out.mono ?_; rintro e w7 ⟨rfl, hw7⟩; rw [hw7]; clear hw7)
                    go_ret2
                    have h := HVB.out
                    subst h
                    exact ⟨rfl, HB5.out⟩
                  · have hE0 : rdE bs.length (nxA s A0) = 0 := by unfold rdE; rw [if_pos (by omega)]
                    obtain ⟨NX, hNX⟩ : ∃ NX : Nat, beV bs (nxA s A0) 4 = NX := ⟨(beV bs (nxA s A0) 4).toNat, by have := beV_bd bs (nxA s A0) HOB.out; omega⟩
                    have hNXl : NX < 4294967296 := by have := beV_bd bs (nxA s A0) HOB.out; omega
                    have hRV : rdV bs (nxA s A0) = (NX : Int) := by unfold rdV; rw [if_pos (by omega), hNX]
                    have HRN : Hid (chF bs s key (65536 - (k + 1)) (k + 1) NX = R) := hidden (by
                      have h1 := HST3.out
                      rw [if_neg hin, hNX, Int.toNat_natCast, show 65535 - k = 65536 - (k + 1) by omega] at h1
                      exact h1)
                    have hw1 : IntKind.i64.wrap ((k : Int) + 1) = (k : Int) + 1 := by rw [IntKind.wrap_i64]; omega
                    rw [hE0, hRV] at HRD
                    clear hE0 hin HST3 HRV hRV hNX
                    go_wp2_with (go_at_call 42; refine HRD.out.mono ?_; rintro e w7 ⟨rfl, hw7⟩; rw [hw7]; clear hw7)
                    go_roundw
                    case rel => exact ⟨k + 1, NX, by omega, hNXl, rfl, by first | rfl | go_num, HRN, HN5⟩
                    case measure => simp [intOf]; omega
                · rw [haz] at HST4 HNG
                  have HVB : Hid (V = (0, 0)) := hidden (by
                    have h1 := HST4.out
                    rw [if_pos (by simp)] at h1
                    rw [HVV.out, ← h1]; rfl)
                  clear hop haz HST4
                  go_wp2_with (first | (go_at_call 32; refine HQ.out.mono ?_; rintro e w5 ⟨rfl, hb5⟩; have HX5 := hidden (HX4.out.later hb5); have HN5 := hidden (HN4.out.trans (hb5.mono HN4.out.size)); have HB5 := hidden (HB4.out.trans (hb5.mono HB4.out.size)); obtain ⟨d0, d1, d2, d3, d4, d5, d6, d7⟩ := HX5.out.cells; have HN1 := hidden (HNG.out w5 hb5); have HRD := hidden (dread4 d bs (nxA s A0) w5 (HD2.out.later HN5.out) (wr32_lt _)); clear hb5; skip) | (go_at_call 38; refine HN1.out.mono ?_; rintro e w6 ⟨rfl, hw6⟩; subst hw6; skip) | fail)
                  go_ret2
                  have h := HVB.out
                  subst h
                  exact ⟨rfl, HB5.out⟩
end Go.Proofs.Ytejkaambbaejaaa
