/- Layer 13: the document's Binary. -/
import Derived.Test.YtejkaambbaejaaaG13d
namespace Go.Proofs.Ytejkaambbaejaaa
open Go.RowKit
set_option maxHeartbeats 1000000
set_option maxRecDepth 100000
set_option linter.unusedVariables false

set_option maxHeartbeats 4000000 in
theorem dbin_any (d : Nat) (bs : List Int) (s : Sr) (ok : s.ok) (w : World) (D : DRd w d bs) :
    Calls Try.prog 19 #[.pointer (some ⟨d, 0, none⟩), .agg #[.int .u32 s.key, .int .u32 s.ks, .int .u32 s.start, .int .u32 s.size, .int .u32 s.cnt, .int .u32 s.off, .int .u32 s.nxt, .int .u32 s.opt]] w fun e w' => e = .returned (.tuple #[.int .u32 (binV bs s).1, .int .i64 (binV bs s).2]) ∧ Below w.heap.size w w' := by
  have HX := hidden (SBox.new w s)
  have hb1 : Below w.heap.size w (w.alloc (.cells #[.int .u32 s.key, .int .u32 s.ks, .int .u32 s.start, .int .u32 s.size, .int .u32 s.cnt, .int .u32 s.off, .int .u32 s.nxt, .int .u32 s.opt] 25)) := (Below.refl _ _).alloc (Nat.le_refl _) _
  have HB := hidden hb1
  have HK := hidden (dkey_any d bs s ok _ (D.later hb1))
  have HD := hidden (D.later hb1)
  have HOB := hidden D.okb
  have HLE := hidden D.le
  clear hb1 D
  obtain ⟨V, hV⟩ : ∃ V, binV bs s = V := ⟨_, rfl⟩
  rw [hV]
  have HV := hidden hV
  clear hV
  have hcn := ok.cnt
  have hsz := ok.size
  have hst := ok.start
  have e9 : IntKind.i64.wrap (s.cnt : Int) = s.cnt := by rw [IntKind.wrap_i64]; omega
  go_enter Try.func19, Try.ntmps19
  go_upto_region 1 with fail
  generalize w.alloc (.cells #[.int .u32 s.key, .int .u32 s.ks, .int .u32 s.start, .int .u32 s.size, .int .u32 s.cnt, .int .u32 s.off, .int .u32 s.nxt, .int .u32 s.opt] 25) = w1 at *
  obtain ⟨c0, c1, c2, c3, c4, c5, c6, c7⟩ := HX.out.cells
  go_wp2_with fail
  refine HK.out.mono ?_
  rintro e w2' ⟨hb2, hcase⟩
  have HX2' := hidden (HX.out.later hb2)
  have HB2' := hidden (HB.out.trans (hb2.mono HB.out.size))
  have HD2' := hidden (HD.out.later hb2)
  clear c0 c1 c2 c3 c4 c5 c6 c7 HX HK HD
  rcases hcase with ⟨hne, rfl⟩ | ⟨he, hk, hkl, hok, v, rfl, hown⟩
  · have HVV : Hid (V = (0, keyE s bs.length)) := hidden (by rw [← HV.out]; unfold binV; rw [if_pos hne])
    have hq : (keyE s bs.length != 0) = true := by simpa using hne
    clear hne hb2
    generalize keyE s bs.length = E at *
    go_wp2
    go_ret2
    have h := HVV.out
    subst h
    exact ⟨rfl, HB2'.out⟩
  · have HVV : Hid (V = tellR s (binF bs s (keyL s bs) s.cnt 0 s.cnt)) := hidden (by rw [← HV.out]; unfold binV; rw [if_neg (by rw [he]; simp)])
    obtain ⟨ak, ck, rfl, hrk⟩ := own_reads_v hown
    have hbd : Below w2'.heap.size w2' w2'.drew := (Below.refl _ _).drew
    have HRK := hidden (hrk.later hbd)
    have HX2 := hidden (HX2'.out.later hbd)
    have HB2 := hidden (HB2'.out.drew)
    have HD2 := hidden (HD2'.out.later hbd)
    have HOK := hidden hok
    have HKL := hidden hkl
    generalize keyL s bs = key at *
    obtain ⟨R, hR⟩ : ∃ R, binF bs s key s.cnt 0 s.cnt = R := ⟨_, rfl⟩
    rw [hR] at HVV
    have HR := hidden hR
    have HT0 := hidden (told_no s ok)
    have HTA := hidden (told_at s ok)
    obtain ⟨c0, c1, c2, c3, c4, c5, c6, c7⟩ := HX2'.out.cells
    clear hR hown hrk hok hkl he hb2
    go_upto_region 4 with fail
    go_region
    go_upto_region 5 with fail
    clear c0 c1 c2 c3 c4 c5 c6 c7 HX2' HB2' HD2' hbd
    generalize w2'.drew = w2 at *
    go_loopw [8, 9] (fun i j w' => ∃ (lo hi f : Nat), hi ≤ s.cnt ∧ lo ≤ s.cnt ∧ hi - lo ≤ f ∧ i = .int .i64 lo ∧ j = .int .i64 hi ∧ Hid (binF bs s key f lo hi = R) ∧ Hid (Below w2.heap.size w2 w')) (fun i j _ => (intOf j).toNat - (intOf i).toNat)
    case atStart => exact ⟨0, s.cnt, s.cnt, by omega, by omega, by omega, rfl, rfl, HR, hidden (Below.refl _ _)⟩
    case round =>
      clear HR
      obtain ⟨lo, hi, f, hhi, hlo, hfu, rfl, rfl, hRk, hN⟩ := hrel
      have HX3 := hidden (HX2.out.later hN.out)
      have HB3 := hidden (HB2.out.trans (hN.out.mono HB2.out.size))
      obtain ⟨c0, c1, c2, c3, c4, c5, c6, c7⟩ := HX3.out.cells
      by_cases hlt : lo < hi
      · have l1 : (lo : Int) < hi := by omega
        have HST := hidden ((binF_step bs s key f lo hi hlt hfu).symm.trans hRk.out)
        obtain ⟨k, hkd⟩ : ∃ k, k = lo + (hi - lo) / 2 := ⟨_, rfl⟩
        rw [← hkd] at HST
        have q1 : IntKind.i64.wrap ((lo : Int) + hi) = ((lo + hi : Nat) : Int) := by rw [IntKind.wrap_i64]; omega
        have q2 : ((lo + hi : Nat) : Int).tdiv 2 = (k : Int) := by rw [Int.tdiv_eq_ediv_of_nonneg (by omega)]; omega
        have q3 : IntKind.i64.wrap (k : Int) = k := by rw [IntKind.wrap_i64]; omega
        have hk1 : k < hi := by omega
        have hk2 : lo ≤ k := by omega
        have hf1 : hi - (k + 1) ≤ f - 1 := by omega
        have hf2 : k - lo ≤ f - 1 := by omega
        generalize lo + hi = SS at *
        have e0 : IntKind.u32.wrap (k : Int) = k := by rw [IntKind.wrap_u32]; omega
        have e1 : IntKind.u32.wrap ((k : Int) * (s.size : Int)) = (wr32 (k * s.size) : Int) := by
          rw [IntKind.wrap_u32]; unfold wr32; rw [← Int.natCast_mul]; omega
        have e2 : IntKind.u32.wrap ((s.start : Int) + (wr32 (k * s.size) : Int)) = (spA s k : Int) := by
          rw [IntKind.wrap_u32]; unfold spA; rw [← Int.natCast_add]; unfold wr32; omega
        have e3 : IntKind.u32.wrap ((spA s k : Int) + (s.off : Int)) = (kyA s k : Int) := by
          rw [IntKind.wrap_u32]; unfold kyA wr32; rw [← Int.natCast_add]; omega
        have HSP := hidden (span_any d bs (kyA s k) s.ks wr (HD2.out.later hN.out) (wr32_lt _) hk)
        generalize hW : wr32 (k * s.size) = WW at *
        clear hW hRk hkd
        go_upto_region 7 with fail
        generalize hY : spA s k = Y at *
        generalize hA : kyA s k = A at *
        go_wp2_with fail
        refine HSP.out.mono ?_
        rintro e w4 ⟨hb4, hcase⟩
        have HX4 := hidden (HX3.out.later hb4)
        have HB4 := hidden (HB3.out.trans (hb4.mono HB3.out.size))
        have HN4 := hidden (hN.out.trans (hb4.mono hN.out.size))
        have HAK : Hid (kyE s bs.length Y = tkE bs.length A s.ks ∧ kyL s bs Y = seg bs A s.ks) := hidden (by rw [← hY, ← hA]; exact ⟨rfl, rfl⟩)
        have HYY := hidden hY
        clear hY hA c0 c1 c2 c3 c4 c5 c6 c7 HX3 HB3 hN HSP hb4
        rcases hcase with ⟨hne, rfl⟩ | ⟨he, v2, rfl, hown2⟩
        · have HVB : Hid (V = (0, 90)) := hidden (by
            have h1 := HST.out
            rw [HAK.out.1, if_pos hne] at h1
            rw [HVV.out, ← h1]; rfl)
          clear hne HST
          go_wp2
          go_ret2
          have h := HVB.out
          subst h
          exact ⟨rfl, HB4.out⟩
        · obtain ⟨a2, cq2, rfl, hr2⟩ := own_reads_v hown2
          have HBE := hidden (below_any a2 ak s.ks cq2 ck (seg bs A s.ks) key w4 hr2 (HRK.out.later HN4.out) (seg_ok HOB.out _ _) HOK.out hk)
          have HTK := hidden he
          have hcv1 := conv_reads w4 a2 s.ks cq2 (seg bs A s.ks) (seg_ok HOB.out _ _) hr2
          have hcv2 := conv_reads w4 ak s.ks ck key HOK.out (HRK.out.later HN4.out)
          have HSE := hidden (fun h => str_ne (xs := seg bs A s.ks) (ys := key) (seg_ok HOB.out _ _) HOK.out h)
          obtain ⟨SA, hSA⟩ : ∃ SA, (⟨(strB (seg bs A s.ks)).toArray⟩ : ByteArray) = SA := ⟨_, rfl⟩
          obtain ⟨SB, hSB⟩ : ∃ SB, (⟨(strB key).toArray⟩ : ByteArray) = SB := ⟨_, rfl⟩
          rw [hSA] at hcv1 HSE
          rw [hSB] at hcv2 HSE
          have HSA := hidden hSA
          have HSB := hidden hSB
          clear hSA hSB hown2 hr2 he
          have HST2 : Hid ((if seg bs A s.ks = key then Rs.at_ k Y else if cmpI (seg bs A s.ks) key < 0 then binF bs s key (f - 1) (k + 1) hi else binF bs s key (f - 1) lo k) = R) := hidden (by
            have h1 := HST.out
            rw [HAK.out.1, HAK.out.2, HTK.out, if_neg (by simp)] at h1
            exact h1)
          clear HST
          obtain ⟨c0, c1, c2, c3, c4, c5, c6, c7⟩ := HX4.out.cells
          by_cases hfound : seg bs A s.ks = key
          · have hS : SA = SB := by rw [← HSA.out, ← HSB.out, hfound]
            subst hS
            have hSr := ba_eq SA
            have HVB : Hid (V = (tolN s k, 0)) := hidden (by
              have h1 := HST2.out
              rw [if_pos hfound] at h1
              rw [HVV.out, ← h1]
              unfold tolN
              rw [HYY.out]; rfl)
            clear hfound HST2 HSE HSA HSB HBE
            have HT1 := hidden (HTA.out k (by omega) w4)
            go_wp2_with (go_at_call 37; refine HT1.out.mono ?_; rintro e w5 ⟨rfl, hb5⟩)
            go_ret2
            have h := HVB.out
            subst h
            exact ⟨rfl, HB4.out.trans (hb5.mono HB4.out.size)⟩
          · have hS1 := ba_ne (HSE.out hfound)
            have HST3 : Hid ((if cmpI (seg bs A s.ks) key < 0 then binF bs s key (f - 1) (k + 1) hi else binF bs s key (f - 1) lo k) = R) := hidden (by
              have h1 := HST2.out
              rwa [if_neg hfound] at h1)
            have hw1 : IntKind.i64.wrap ((k : Int) + 1) = (k : Int) + 1 := by rw [IntKind.wrap_i64]; omega
            clear hfound HST2 HSE HSA HSB
            by_cases hc : cmpI (seg bs A s.ks) key < 0
            · rw [decide_eq_true hc] at HBE
              have HRN : Hid (binF bs s key (f - 1) (k + 1) hi = R) := hidden (by have h1 := HST3.out; rwa [if_pos hc] at h1)
              clear hc HST3
              go_wp2_with (go_at_call 40; refine HBE.out.mono ?_; rintro e w5 ⟨rfl, hb5⟩; have HN5 := hidden (HN4.out.trans (hb5.mono HN4.out.size)); clear hb5; skip)
              go_roundw
              case rel => exact ⟨k + 1, hi, f - 1, by omega, by omega, hf1, by first | rfl | go_num, rfl, HRN, HN5⟩
              case measure => simp [intOf]; omega
            · rw [decide_eq_false hc] at HBE
              have HRN : Hid (binF bs s key (f - 1) lo k = R) := hidden (by have h1 := HST3.out; rwa [if_neg hc] at h1)
              clear hc HST3
              go_wp2_with (go_at_call 40; refine HBE.out.mono ?_; rintro e w5 ⟨rfl, hb5⟩; have HN5 := hidden (HN4.out.trans (hb5.mono HN4.out.size)); clear hb5; skip)
              go_roundw
              case rel => exact ⟨lo, k, f - 1, by omega, by omega, hf2, rfl, rfl, HRN, HN5⟩
              case measure => simp [intOf]; omega
      · have l1 : ¬ ((lo : Int) < hi) := by omega
        have HVB : Hid (V = (tolZ s, 0)) := hidden (by
          have h1 := hRk.out
          rw [binF_end _ _ _ _ _ _ hlt] at h1
          rw [HVV.out, ← h1]; rfl)
        clear hRk
        have HT1 := hidden (HT0.out wr)
        go_wp2_with (go_at_call 37; refine HT1.out.mono ?_; rintro e w5 ⟨rfl, hb5⟩)
        go_ret2
        have h := HVB.out
        subst h
        exact ⟨rfl, HB3.out.trans (hb5.mono HB3.out.size)⟩
end Go.Proofs.Ytejkaambbaejaaa
