/- Layer 13: the document's Linear. -/
import Derived.Test.YtejkaambbaejaaaG13c
import Derived.Test.YtejkaambbaejaaaH7f
namespace Go.Proofs.Ytejkaambbaejaaa
open Go.RowKit
set_option maxHeartbeats 1000000
set_option maxRecDepth 100000
set_option linter.unusedVariables false

theorem own_reads_v {w : World} {B n : Nat} {v : Value} {zs : List Int} (h : w.ownsRow B 5 1 v n (bytesV zs)) : ∃ a c, v = .slice a n c ∧ Reads w a n c zs := by
  by_cases h0 : 0 < n
  · obtain ⟨g, c, rfl, _, _⟩ := owned_shape h h0
    exact ⟨_, _, rfl, own_reads h⟩
  · obtain rfl : n = 0 := by omega
    have hl : zs.length = 0 := by have := h.1; simpa [bytesV] using this
    obtain rfl := List.eq_nil_of_length_eq_zero hl
    rcases h.2 with ⟨h1, _⟩ | ⟨g, cap, cur, h1, _, _, h4, _⟩
    · exact ⟨none, 0, h1, rfl, Nat.le_refl _, .inl ⟨rfl, rfl, rfl⟩⟩
    · subst h1
      exact ⟨_, _, rfl, own_reads h⟩
/-- where a structure's key lies -/
def kyA (s : Sr) (j : Nat) : Nat := wr32 (spA s j + s.off)
theorem kyA_mod (s : Sr) (j : Nat) : kyA s j = (s.start + j * s.size + s.off) % 4294967296 := by
  unfold kyA spA wr32
  omega
theorem kyA_succ (s : Sr) (j : Nat) : kyA s (j + 1) = (kyA s j + s.size) % 4294967296 := by
  rw [kyA_mod, kyA_mod, Nat.add_mul, Nat.one_mul]
  omega
/-- how far a row can have been gone through -/
def Pos (s : Sr) (k : Nat) : Prop := k = 0 ∨ (kyA s (k - 1) < 1048576 ∧ ((s.size ≤ 2147483648 ∧ k - 1 ≤ kyA s (k - 1)) ∨ (2147483648 < s.size ∧ kyA s (k - 1) + (k - 1) < 1048576)))
theorem Pos.le {s : Sr} {k : Nat} (h : Pos s k) : k ≤ 1048576 := by
  rcases h with h | ⟨h, h2 | h2⟩ <;> omega
theorem Pos.step {s : Sr} {k : Nat} (h : Pos s k) (h0 : s.size ≠ 0) (hs : s.size < 4294967296) (hk : kyA s k < 1048576) : Pos s (k + 1) := by
  right
  rw [Nat.add_sub_cancel]
  refine ⟨hk, ?_⟩
  rcases h with rfl | ⟨h1, h2⟩
  · by_cases hz : s.size ≤ 2147483648
    · exact .inl ⟨hz, by omega⟩
    · exact .inr ⟨by omega, by omega⟩
  · by_cases hk0 : k = 0
    · subst hk0
      by_cases hz : s.size ≤ 2147483648
      · exact .inl ⟨hz, by omega⟩
      · exact .inr ⟨by omega, by omega⟩
    · obtain ⟨j, rfl⟩ : ∃ j, k = j + 1 := ⟨k - 1, by omega⟩
      rw [Nat.add_sub_cancel] at h1 h2
      have hs2 := kyA_succ s j
      rcases h2 with ⟨h2, h3⟩ | ⟨h2, h3⟩
      · exact .inl ⟨h2, by omega⟩
      · exact .inr ⟨h2, by omega⟩
theorem tk_in {L a n : Nat} (h : tkE L a n = 0) (hn : n ≠ 0) : a + n ≤ L := by
  unfold tkE at h
  split at h
  · omega
  · exact absurd h (by decide)
theorem ba_ne {a b : ByteArray} (h : a ≠ b) : (a.toList == b.toList) = false := by
  rw [beq_eq_false_iff_ne]
  intro e
  apply h
  rw [ByteArray.toList_eq, ByteArray.toList_eq] at e
  obtain ⟨⟨x⟩⟩ := a
  obtain ⟨⟨y⟩⟩ := b
  simp at e
  rw [e]
theorem ba_eq (a : ByteArray) : (a.toList == a.toList) = true := by simp
/-- two rows of bytes as strings -/
theorem str_ne {xs ys : List Int} (hx : OkB xs) (hy : OkB ys) (h : xs ≠ ys) : (⟨(strB xs).toArray⟩ : ByteArray) ≠ ⟨(strB ys).toArray⟩ := fun e => h (strB_inj xs ys hx hy (by
  have := congrArg (fun b : ByteArray => b.data.toList) e
  simpa using this))
set_option maxHeartbeats 4000000 in
theorem dlin_any (d : Nat) (bs : List Int) (s : Sr) (ok : s.ok) (w : World) (D : DRd w d bs) :
    Calls Try.prog 17 #[.pointer (some ⟨d, 0, none⟩), .agg #[.int .u32 s.key, .int .u32 s.ks, .int .u32 s.start, .int .u32 s.size, .int .u32 s.cnt, .int .u32 s.off, .int .u32 s.nxt, .int .u32 s.opt]] w fun e w' => e = .returned (.tuple #[.int .u32 (linV bs s).1, .int .i64 (linV bs s).2]) ∧ Below w.heap.size w w' := by
  have HX := hidden (SBox.new w s)
  have hb1 : Below w.heap.size w (w.alloc (.cells #[.int .u32 s.key, .int .u32 s.ks, .int .u32 s.start, .int .u32 s.size, .int .u32 s.cnt, .int .u32 s.off, .int .u32 s.nxt, .int .u32 s.opt] 25)) := (Below.refl _ _).alloc (Nat.le_refl _) _
  have HB := hidden hb1
  have HK := hidden (dkey_any d bs s ok _ (D.later hb1))
  have HD := hidden (D.later hb1)
  have HOB := hidden D.okb
  have HLE := hidden D.le
  clear hb1 D
  obtain ⟨V, hV⟩ : ∃ V, linV bs s = V := ⟨_, rfl⟩
  rw [hV]
  have HV := hidden hV
  clear hV
  have hcn := ok.cnt
  have hsz := ok.size
  have hst := ok.start
  have e9 : IntKind.i64.wrap (s.cnt : Int) = s.cnt := by rw [IntKind.wrap_i64]; omega
  go_enter Try.func17, Try.ntmps17
  go_upto_region 1 with fail
  generalize w.alloc (.cells #[.int .u32 s.key, .int .u32 s.ks, .int .u32 s.start, .int .u32 s.size, .int .u32 s.cnt, .int .u32 s.off, .int .u32 s.nxt, .int .u32 s.opt] 25) = w1 at *
  obtain ⟨c0, c1, c2, c3, c4, c5, c6, c7⟩ := HX.out.cells
  go_wp2_with fail
  refine HK.out.mono ?_
  rintro e w2 ⟨hb2, hcase⟩
  have HX2 := hidden (HX.out.later hb2)
  have HB2 := hidden (HB.out.trans (hb2.mono HB.out.size))
  have HD2 := hidden (HD.out.later hb2)
  clear c0 c1 c2 c3 c4 c5 c6 c7 HX HK HD
  rcases hcase with ⟨hne, rfl⟩ | ⟨he, hk, hkl, hok, v, rfl, hown⟩
  · have HVV : Hid (V = (0, keyE s bs.length)) := hidden (by rw [← HV.out]; unfold linV; rw [if_pos hne])
    have hq : (keyE s bs.length != 0) = true := by simpa using hne
    clear hne hb2
    generalize keyE s bs.length = E at *
    go_wp2
    go_ret2
    have h := HVV.out
    subst h
    exact ⟨rfl, HB2.out⟩
  · have HVV : Hid (V = tellR s (linF bs s (keyL s bs) s.cnt 0)) := hidden (by rw [← HV.out]; unfold linV; rw [if_neg (by rw [he]; simp)])
    obtain ⟨ak, ck, rfl, hrk⟩ := own_reads_v hown
    have HRK := hidden hrk
    have HOK := hidden hok
    have HKL := hidden hkl
    generalize keyL s bs = key at *
    obtain ⟨R, hR⟩ : ∃ R, linF bs s key s.cnt 0 = R := ⟨_, rfl⟩
    rw [hR] at HVV
    have HR := hidden hR
    have HQ2 := hidden (fun w => dhas_2 s.key s.ks s.start s.size s.cnt s.off s.nxt s.opt w ok.opt)
    have HT0 := hidden (told_no s ok)
    have HTA := hidden (told_at s ok)
    clear hR hown hrk hok hkl he hb2
    go_upto_region 5 with fail
    go_loopw [8] (fun i w' => ∃ k : Nat, k ≤ s.cnt ∧ i = .int .i64 k ∧ Hid (Pos s k) ∧ Hid (linF bs s key (s.cnt - k) k = R) ∧ Hid (Below w2.heap.size w2 w')) (fun i _ => 1048577 - (intOf i).toNat)
    case atStart => exact ⟨0, by omega, rfl, hidden (.inl rfl), HR, hidden (Below.refl _ _)⟩
    case round =>
      clear HR
      obtain ⟨k, hkc, rfl, hP, hRk, hN⟩ := hrel
      have hpl := hP.out.le
      have HX3 := hidden (HX2.out.later hN.out)
      have HB3 := hidden (HB2.out.trans (hN.out.mono HB2.out.size))
      obtain ⟨c0, c1, c2, c3, c4, c5, c6, c7⟩ := HX3.out.cells
      by_cases hlt : k < s.cnt
      · have l1 : (k : Int) < s.cnt := by omega
        have HST := hidden ((linF_step bs s key s.cnt k hlt).symm.trans hRk.out)
        have e0 : IntKind.u32.wrap (k : Int) = k := by rw [IntKind.wrap_u32]; omega
        have e1 : IntKind.u32.wrap ((k : Int) * (s.size : Int)) = (wr32 (k * s.size) : Int) := by
          rw [IntKind.wrap_u32]; unfold wr32; rw [← Int.natCast_mul]; omega
        have e2 : IntKind.u32.wrap ((s.start : Int) + (wr32 (k * s.size) : Int)) = (spA s k : Int) := by
          rw [IntKind.wrap_u32]; unfold spA; rw [← Int.natCast_add]; unfold wr32; omega
        have e3 : IntKind.u32.wrap ((spA s k : Int) + (s.off : Int)) = (kyA s k : Int) := by
          rw [IntKind.wrap_u32]; unfold kyA wr32; rw [← Int.natCast_add]; omega
        have HSP := hidden (span_any d bs (kyA s k) s.ks wr (HD2.out.later hN.out) (wr32_lt _) hk)
        generalize hW : wr32 (k * s.size) = WW at *
        clear hW hRk
        go_upto_region 7 with fail
        generalize hY : spA s k = Y at *
        generalize hA : kyA s k = A at *
        go_wp2_with fail
        refine HSP.out.mono ?_
        rintro e w4 ⟨hb4, hcase⟩
        have HX4 := hidden (HX3.out.later hb4)
        have HB4 := hidden (HB3.out.trans (hb4.mono HB3.out.size))
        have HN4 := hidden (hN.out.trans (hb4.mono hN.out.size))
        have HAK : Hid (kyE s bs.length Y = tkE bs.length A s.ks ∧ kyL s bs Y = seg bs A s.ks) := hidden (by rw [← hY, ← hA]; exact ⟨rfl, rfl⟩)
        have HYY := hidden hY
        have HAA := hidden hA
        clear hY hA c0 c1 c2 c3 c4 c5 c6 c7 HX3 HB3 hN HSP hb4
        rcases hcase with ⟨hne, rfl⟩ | ⟨he, v2, rfl, hown2⟩
        · have HVB : Hid (V = (0, 90)) := hidden (by
            have h1 := HST.out
            rw [HAK.out.1, if_pos hne] at h1
            rw [HVV.out, ← h1]; rfl)
          clear hne HST
          go_wp2
          go_ret2
          have h := HVB.out
          subst h
          exact ⟨rfl, HB4.out⟩
        · obtain ⟨a2, cq2, rfl, hr2⟩ := own_reads_v hown2
          have HR2 := hidden hr2
          have HTK := hidden he
          have hcv1 := conv_reads w4 a2 s.ks cq2 (seg bs A s.ks) (seg_ok HOB.out _ _) hr2
          have hcv2 := conv_reads w4 ak s.ks ck key HOK.out (HRK.out.later HN4.out)
          have HSE := hidden (fun h => str_ne (xs := seg bs A s.ks) (ys := key) (seg_ok HOB.out _ _) HOK.out h)
          obtain ⟨SA, hSA⟩ : ∃ SA, (⟨(strB (seg bs A s.ks)).toArray⟩ : ByteArray) = SA := ⟨_, rfl⟩
          obtain ⟨SB, hSB⟩ : ∃ SB, (⟨(strB key).toArray⟩ : ByteArray) = SB := ⟨_, rfl⟩
          rw [hSA] at hcv1 HSE
          rw [hSB] at hcv2 HSE
          have HSA := hidden hSA
          have HSB := hidden hSB
          clear hSA hSB hown2 hr2 he
          have HST2 : Hid ((if seg bs A s.ks = key then Rs.at_ k Y else if endZ s (seg bs A s.ks) = true ∨ s.size = 0 then Rs.no else linF bs s key (s.cnt - (k + 1)) (k + 1)) = R) := hidden (by
            have h1 := HST.out
            rw [HAK.out.1, HAK.out.2, HTK.out, if_neg (by simp)] at h1
            exact h1)
          clear HST
          by_cases hfound : seg bs A s.ks = key
          · have hS : SA = SB := by rw [← HSA.out, ← HSB.out, hfound]
            subst hS
            have hSr := ba_eq SA
            have HVB : Hid (V = (tolN s k, 0)) := hidden (by
              have h1 := HST2.out
              rw [if_pos hfound] at h1
              rw [HVV.out, ← h1]
              unfold tolN
              rw [HYY.out]; rfl)
            clear hfound HST2 HSE HSA HSB
            obtain ⟨c0, c1, c2, c3, c4, c5, c6, c7⟩ := HX4.out.cells
            have HT1 := hidden (HTA.out k (by omega) w4)
            go_wp2_with (go_at_call 37; refine HT1.out.mono ?_; rintro e w5 ⟨rfl, hb5⟩)
            go_ret2
            have h := HVB.out
            subst h
            exact ⟨rfl, HB4.out.trans (hb5.mono HB4.out.size)⟩
          · have hS1 := ba_ne (HSE.out hfound)
            have HST3 : Hid ((if endZ s (seg bs A s.ks) = true ∨ s.size = 0 then Rs.no else linF bs s key (s.cnt - (k + 1)) (k + 1)) = R) := hidden (by
              have h1 := HST2.out
              rwa [if_neg hfound] at h1)
            have HKS : Hid (s.ks ≠ 0) := hidden (fun h0 => hfound (by
              have h1 := HKL.out
              rw [h0] at h1
              rw [h0, seg_zero, List.eq_nil_of_length_eq_zero h1]))
            have HKA : Hid (kyA s k < 1048576) := hidden (by
              have h1 := tk_in HTK.out HKS.out
              have h2 := HLE.out
              rw [HAA.out]
              have h3 := HKS.out
              omega)
            clear hfound HST2 HSE HSA HSB
            obtain ⟨c0, c1, c2, c3, c4, c5, c6, c7⟩ := HX4.out.cells
            have HNG := hidden (fun wx (hx : Below w4.heap.size w4 wx) => noughts_any a2 s.ks cq2 (seg bs A s.ks) wx (HR2.out.later hx) hk)
            unfold endZ at HST3
            have HQ := hidden (HQ2.out w4)
            cases hop : optB s.opt 2
            · rw [hop] at HST3 HQ
              clear hop
              by_cases hz : s.size = 0
              · have hzb : ((s.size : Int) == 0) = true := by simp [hz]
                have HVB : Hid (V = (tolZ s, 0)) := hidden (by
                  have h1 := HST3.out
                  rw [if_pos (.inr hz)] at h1
                  rw [HVV.out, ← h1]; rfl)
                clear HST3 hz
                go_wp2_with (first | (go_at_call 32; refine HQ.out.mono ?_; rintro e w5 ⟨rfl, hb5⟩; have HX5 := hidden (HX4.out.later hb5); have HN5 := hidden (HN4.out.trans (hb5.mono HN4.out.size)); have HB5 := hidden (HB4.out.trans (hb5.mono HB4.out.size)); obtain ⟨d0, d1, d2, d3, d4, d5, d6, d7⟩ := HX5.out.cells; have HT1 := hidden (HT0.out w5); have HN1 := hidden (HNG.out w5 hb5); clear hb5; skip) | (go_at_call 38; refine HN1.out.mono ?_; rintro e w6 ⟨rfl, hw6⟩; subst hw6; skip) | (go_at_call 37; refine HT1.out.mono ?_; rintro e w7 ⟨rfl, hb7⟩) | fail)
                go_ret2
                have h := HVB.out
                subst h
                exact ⟨rfl, HB5.out.trans (hb7.mono HB5.out.size)⟩
              · skip
                have hzb : ((s.size : Int) == 0) = false := by simp; omega
                have HRN : Hid (linF bs s key (s.cnt - (k + 1)) (k + 1) = R) := hidden (by have h1 := HST3.out; rwa [if_neg (by simp [hz])] at h1)
                have HPN := hidden (hP.out.step hz hsz HKA.out)
                have hw1 : IntKind.i64.wrap ((k : Int) + 1) = (k : Int) + 1 := by rw [IntKind.wrap_i64]; omega
                have hpl2 := HPN.out.le
                clear hz HST3
                go_wp2_with (first | (go_at_call 32; refine HQ.out.mono ?_; rintro e w5 ⟨rfl, hb5⟩; have HX5 := hidden (HX4.out.later hb5); have HN5 := hidden (HN4.out.trans (hb5.mono HN4.out.size)); have HB5 := hidden (HB4.out.trans (hb5.mono HB4.out.size)); obtain ⟨d0, d1, d2, d3, d4, d5, d6, d7⟩ := HX5.out.cells; have HT1 := hidden (HT0.out w5); have HN1 := hidden (HNG.out w5 hb5); clear hb5; skip) | (go_at_call 38; refine HN1.out.mono ?_; rintro e w6 ⟨rfl, hw6⟩; subst hw6; skip) | fail)
                go_roundw
                case rel => exact ⟨k + 1, by omega, by first | rfl | go_num, HPN, HRN, HN5⟩
                case measure => simp [intOf]; omega
            · rw [hop] at HST3 HQ
              cases haz : allZ (seg bs A s.ks)
              · rw [haz] at HST3 HNG
                clear haz hop
                by_cases hz : s.size = 0
                · have hzb : ((s.size : Int) == 0) = true := by simp [hz]
                  have HVB : Hid (V = (tolZ s, 0)) := hidden (by
                    have h1 := HST3.out
                    rw [if_pos (.inr hz)] at h1
                    rw [HVV.out, ← h1]; rfl)
                  clear HST3 hz
                  go_wp2_with (first | (go_at_call 32; refine HQ.out.mono ?_; rintro e w5 ⟨rfl, hb5⟩; have HX5 := hidden (HX4.out.later hb5); have HN5 := hidden (HN4.out.trans (hb5.mono HN4.out.size)); have HB5 := hidden (HB4.out.trans (hb5.mono HB4.out.size)); obtain ⟨d0, d1, d2, d3, d4, d5, d6, d7⟩ := HX5.out.cells; have HT1 := hidden (HT0.out w5); have HN1 := hidden (HNG.out w5 hb5); clear hb5; skip) | (go_at_call 38; refine HN1.out.mono ?_; rintro e w6 ⟨rfl, hw6⟩; subst hw6; skip) | (go_at_call 37; refine HT1.out.mono ?_; rintro e w7 ⟨rfl, hb7⟩) | fail)
                  go_ret2
                  have h := HVB.out
                  subst h
                  exact ⟨rfl, HB5.out.trans (hb7.mono HB5.out.size)⟩
                · skip
                  have hzb : ((s.size : Int) == 0) = false := by simp; omega
                  have HRN : Hid (linF bs s key (s.cnt - (k + 1)) (k + 1) = R) := hidden (by have h1 := HST3.out; rwa [if_neg (by simp [hz])] at h1)
                  have HPN := hidden (hP.out.step hz hsz HKA.out)
                  have hw1 : IntKind.i64.wrap ((k : Int) + 1) = (k : Int) + 1 := by rw [IntKind.wrap_i64]; omega
                  have hpl2 := HPN.out.le
                  clear hz HST3
                  go_wp2_with (first | (go_at_call 32; refine HQ.out.mono ?_; rintro e w5 ⟨rfl, hb5⟩; have HX5 := hidden (HX4.out.later hb5); have HN5 := hidden (HN4.out.trans (hb5.mono HN4.out.size)); have HB5 := hidden (HB4.out.trans (hb5.mono HB4.out.size)); obtain ⟨d0, d1, d2, d3, d4, d5, d6, d7⟩ := HX5.out.cells; have HT1 := hidden (HT0.out w5); have HN1 := hidden (HNG.out w5 hb5); clear hb5; skip) | (go_at_call 38; refine HN1.out.mono ?_; rintro e w6 ⟨rfl, hw6⟩; subst hw6; skip) | fail)
                  go_roundw
                  case rel => exact ⟨k + 1, by omega, by first | rfl | go_num, HPN, HRN, HN5⟩
                  case measure => simp [intOf]; omega
              · rw [haz] at HST3 HNG
                clear haz hop
                have HVB : Hid (V = (tolZ s, 0)) := hidden (by
                  have h1 := HST3.out
                  rw [if_pos (.inl rfl)] at h1
                  rw [HVV.out, ← h1]; rfl)
                clear HST3
                go_wp2_with (first | (go_at_call 32; refine HQ.out.mono ?_; rintro e w5 ⟨rfl, hb5⟩; have HX5 := hidden (HX4.out.later hb5); have HN5 := hidden (HN4.out.trans (hb5.mono HN4.out.size)); have HB5 := hidden (HB4.out.trans (hb5.mono HB4.out.size)); obtain ⟨d0, d1, d2, d3, d4, d5, d6, d7⟩ := HX5.out.cells; have HT1 := hidden (HT0.out w5); have HN1 := hidden (HNG.out w5 hb5); clear hb5; skip) | (go_at_call 38; refine HN1.out.mono ?_; rintro e w6 ⟨rfl, hw6⟩; subst hw6; skip) | (go_at_call 37; refine HT1.out.mono ?_; rintro e w7 ⟨rfl, hb7⟩) | fail)
                go_ret2
                have h := HVB.out
                subst h
                exact ⟨rfl, HB5.out.trans (hb7.mono HB5.out.size)⟩
      · obtain rfl : k = s.cnt := by omega
        have l1 : ¬ ((s.cnt : Int) < s.cnt) := by omega
        have l2 : ((s.cnt : Int) == 4294967295) = false := by simp; omega
        have HVB : Hid (V = (tolZ s, 0)) := hidden (by
          have h1 := hRk.out
          rw [Nat.sub_self] at h1
          rw [HVV.out, ← h1]; rfl)
        clear hRk
        have HT1 := hidden (HT0.out wr)
        go_wp2_with (go_at_call 37; refine HT1.out.mono ?_; rintro e w5 ⟨rfl, hb5⟩)
        go_ret2
        have h := HVB.out
        subst h
        exact ⟨rfl, HB3.out.trans (hb5.mono HB3.out.size)⟩
end Go.Proofs.Ytejkaambbaejaaa
