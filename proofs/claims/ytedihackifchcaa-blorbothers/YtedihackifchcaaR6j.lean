/- Contract of the document's Lay (package grottoref06): the container of resources, or the first fault. -/
import Derived.Test.YtedihackifchcaaR6i
import Derived.Test.YtedihackifchcaaR6e
import Derived.BigQuiet
namespace Go.Proofs.Ytedihackifchcaa
open Go.RowKit
set_option maxHeartbeats 2000000
set_option maxRecDepth 100000
set_option linter.unusedVariables false

theorem plR_pos (rs : List Rk) (h : ∀ r ∈ rs, r.d.length = r.l) (k : Nat) (hk : k < rs.length) : (plR (rs.map srOf))[k]? = some (((24 + 12 * rs.length + sizes ((rs.map ckOf).take k) : Nat)) : Int) := by
  unfold plR
  rw [List.getElem?_tail]
  have hk2 : k + 1 < ((RIDX, List.replicate (4 + 12 * (rs.map srOf).length) (0 : Int)) :: (rs.map srOf).map ckS).length := by simp; omega
  rw [List.getElem?_eq_getElem (by rw [plS_len]; exact hk2), plS_at _ _ hk2]
  have e : (rs.map srOf).map ckS = (rs.map ckOf).map scOf := by rw [List.map_map, List.map_map]; rfl
  rw [e, List.take_succ_cons, ← List.map_take]
  have hs := sizes_ssz ((rs.map ckOf).take k) (fun c hc => by obtain ⟨r, hr, rfl⟩ := List.mem_map.1 (List.mem_of_mem_take hc); exact h r hr)
  rw [hs]
  have e2 : ∀ (c : Sc) cs, ssz (c :: cs) = (8 + c.2.length + c.2.length % 2) + ssz cs := fun c cs => by unfold ssz; simp
  rw [e2]
  simp only [List.length_replicate, List.length_map]
  congr 2
  omega
/-- an index' bytes of the first k resources -/
def ixP (rs : List Rk) (k : Nat) : List Int := putL rs.length 4 ++ ((((rs.map srOf).zip (plR (rs.map srOf))).take k).map entS).flatten
theorem ixP_zero (rs : List Rk) : ixP rs 0 = putL rs.length 4 := by simp [ixP]
theorem ixP_snoc (rs : List Rk) (h : ∀ r ∈ rs, r.d.length = r.l) (k : Nat) (hk : k < rs.length) : ixP rs (k + 1) = ixP rs k ++ idI rs[k].u ++ putL rs[k].x 4 ++ putL (((24 + 12 * rs.length + sizes ((rs.map ckOf).take k) : Nat)) : Int) 4 := by
  unfold ixP
  have hz : k < ((rs.map srOf).zip (plR (rs.map srOf))).length := by rw [List.length_zip, plR_len]; simp; exact hk
  rw [List.take_succ_eq_append_getElem hz, List.map_append, List.flatten_append]
  have e : ((rs.map srOf).zip (plR (rs.map srOf)))[k] = (srOf rs[k], (((24 + 12 * rs.length + sizes ((rs.map ckOf).take k) : Nat)) : Int)) := by
    have := plR_pos rs h k hk
    rw [List.getElem_zip]
    congr 1
    · simp
    · exact (List.getElem?_eq_some_iff.1 this).2
  rw [e]
  simp only [List.map_cons, List.map_nil, List.flatten_cons, List.flatten_nil, List.append_nil, entS, srOf, List.append_assoc]
theorem ixP_all (rs : List Rk) : ixP rs rs.length = idxL rs (plR (rs.map srOf)) := by
  rw [idxL_S]
  unfold ixP idxS
  rw [List.take_of_length_le (by rw [List.length_zip]; simp; omega), List.length_map]
theorem ridc_any (s : ByteArray) (hs : s.size ≤ 281474976710656) : ∃ b : Bool, RIdC s b ∧ (b = true ↔ IsId s) := by
  by_cases h : IsId s
  · exact ⟨true, ridc_t h, by simp [h]⟩
  · exact ⟨false, ridc_f h hs, by simp [h]⟩
theorem allId_snoc (rs : List Rk) (k : Nat) (hk : k < rs.length) : AllIdR (rs.take (k + 1)) ↔ AllIdR (rs.take k) ∧ IsId rs[k].u ∧ IsId rs[k].id := by
  unfold AllIdR
  rw [List.take_succ_eq_append_getElem hk]
  constructor
  · intro h
    exact ⟨fun r hr => h r (List.mem_append.2 (.inl hr)), h _ (List.mem_append.2 (.inr (List.mem_singleton.2 rfl)))⟩
  · rintro ⟨h1, h2⟩ r hr
    rcases List.mem_append.1 hr with h | h
    · exact h1 r h
    · rw [List.mem_singleton.1 h]; exact h2
theorem apart_snoc (rs : List Rk) (k : Nat) (hk : k < rs.length) (h : ApartR (rs.take k)) (h2 : ∀ t r, t < k → rs[t]? = some r → ¬ (r.u = rs[k].u ∧ r.x = rs[k].x)) : ApartR (rs.take (k + 1)) := by
  unfold ApartR at *
  rw [List.take_succ_eq_append_getElem hk, List.pairwise_append]
  refine ⟨h, by simp, fun a ha b hb => ?_⟩
  rw [List.mem_singleton.1 hb]
  obtain ⟨t, ht, e⟩ := List.getElem_of_mem ha
  have ht2 : t < k := by rw [List.length_take] at ht; omega
  exact h2 t a ht2 (by rw [← e, List.getElem_take]; exact List.getElem?_eq_getElem _)
theorem apart_not (rs : List Rk) (j k : Nat) (hj : j < k) (hk : k < rs.length) (h : rs[j].u = rs[k].u ∧ rs[j].x = rs[k].x) : ¬ ApartR rs := fun hA => by
  unfold ApartR at hA
  exact List.pairwise_iff_getElem.1 hA j k (by omega) hk hj h
/-- the length of the last chunk of an own row -/
theorem len_last {w : World} {B g k cap : Nat} {ks : List Ck} (h : w.ownsRow B 56 2 (.slice (some ⟨g, 0, none⟩) (k + 1) cap) (k + 1) (cksV ks)) (hk : ks.length = k + 1) (c : Ck) (hc : ks[k]? = some c) (hr : Reads w c.a c.l c.c c.d ∧ OkB c.d) (hs : c.l ≤ 1000012) :
    Calls Try.prog 41 #[.slice (some ⟨g, k * 2, none⟩) 1 (cap - k)] w fun e w' => e = .returned (.int .i64 ((8 + c.l + c.l % 2 : Nat) : Int)) ∧ Below w.heap.size w w' := by
  obtain ⟨hkl, hke⟩ := List.getElem?_eq_some_iff.1 hc
  have hcap : k + 1 ≤ cap := by
    rcases h.2 with ⟨_, h0⟩ | ⟨g, cap, cur, e, hbg, _, hnc, _⟩
    · omega
    · simp only [Value.slice.injEq] at e; omega
  have hv := cksV_at ks k hkl
  have e1 := h.cells (g := g) rfl (k * 2) _ hv.1
  have e2 := h.cells (g := g) rfl (k * 2 + 1) _ hv.2
  rw [plain_add, Nat.zero_add] at e1 e2
  rw [hke] at e1 e2
  refine (rlen_any _ 1 (cap - k) [c] w ⟨rfl, by omega, .inr ⟨g, k * 2, rfl, fun i h => ?_⟩, fun x hx => by rw [List.mem_singleton.1 hx]; exact hr⟩ (by simp [sizes, ckSize]; omega) (by omega)).mono ?_
  · have hi : i = 0 := by simp at h; omega
    subst hi
    simpa using ⟨e1, e2⟩
  · rintro e w' ⟨rfl, h⟩
    refine ⟨?_, h⟩
    simp [sizes, ckSize]
theorem cksV_one (ks : List Ck) : ∀ u ∈ cksV ks, u.oneCell' = true := by
  intro u hu
  unfold cksV at hu
  obtain ⟨c, hc, h⟩ := List.mem_flatMap.1 hu
  simp [ckV] at h
  rcases h with rfl | rfl <;> rfl
theorem rlay_any (a : Option Addr) (len cap : Nat) (rs : List Rk) (w : World) (hc : Rks w a len cap rs) (hm : len ≤ 600) (hst : ∀ r ∈ rs, r.u.size ≤ 281474976710656 ∧ r.id.size ≤ 281474976710656) (hsz : sizes (rs.map ckOf) ≤ 900000) :
    Calls Try.prog 14 #[.slice a len cap] w (LRet w (checkR rs) (layS (rs.map srOf))) := by
  obtain ⟨i0, hi, hz0, hz1, hz2⟩ := info_parts info8
  obtain ⟨j0, ji, jz0, jz1, jz2⟩ := info_parts info59
  have hlen := hc.1
  have hcap := hc.2.1
  have HC := hidden hc
  have HST := hidden hst
  have hli : (len : Int) ≤ 600 := by omega
  obtain ⟨E, hE⟩ : ∃ E, E = checkR rs := ⟨_, rfl⟩
  rw [← hE]
  unfold checkR at hE
  rw [hlen] at hE
  have HE := hidden hE
  clear hc hst hE
  go_enter Try.func14, Try.ntmps14
  go_wp2
  go_loop [4, 5] (fun ok i => ∃ (k : Nat) (b : Bool), k ≤ len ∧ i = .int .i64 k ∧ ok = .bool b ∧ Hid (b = true ↔ AllIdR (rs.take k))) (fun _ i => len - (intOf i).toNat)
  case atStart => exact ⟨0, true, by omega, rfl, rfl, hidden (by simp [AllIdR])⟩
  case round =>
    obtain ⟨k, b, hk, rfl, rfl, HB⟩ := hrel
    by_cases hlt : k < len
    · have hlt2 : (k : Int) < (len : Int) := by omega
      have hk0 : (0 : Int) ≤ (k : Int) := by omega
      have hkc : k < rs.length := by omega
      have HSN := hidden (allId_snoc rs k hkc)
      cases b with
      | false =>
        go_wp2
        go_round
        case rel => exact ⟨k + 1, false, by omega, by go_num, rfl, hidden ⟨fun h => (by cases h), fun h => absurd (HB.out.2 (HSN.out.1 h).1) (by decide)⟩⟩
        case measure => simp [intOf]; omega
      | true =>
        obtain ⟨bb, off, rfl, hcell⟩ := HC.out.at (by omega)
        obtain ⟨c0, -, c2, -⟩ := hcell k hkc
        obtain ⟨s1, s2⟩ := HST.out _ (List.getElem_mem hkc)
        obtain ⟨bu, HU, hbu⟩ := ridc_any _ s1
        obtain ⟨bi, HI, hbi⟩ := ridc_any _ s2
        have HBU := hidden hbu
        have HBI := hidden hbi
        clear hcell s1 s2 hbu hbi
        generalize rs[k] = r at *
        obtain ⟨ru, rx, ri, ra, rl, rc, rd⟩ := r
        simp only at *
        have hrel2 : Hid ((bu && bi) = true ↔ AllIdR (rs.take (k + 1))) := hidden (by
          rw [HSN.out, ← HBU.out, ← HBI.out, ← HB.out]; cases bu <;> cases bi <;> simp)
        clear HSN HBU HBI HB
        cases bu with
        | false =>
          go_wp2_with (first | (go_at_call_of 40 (Value.string ru); (with_reducible refine (HU.out _).mono ?_); rintro e w9 ⟨rfl, hw⟩; obtain rfl := hw.symm) | fail)
          go_round
          case rel => exact ⟨k + 1, false, by omega, by go_num, rfl, hrel2⟩
          case measure => simp [intOf]; omega
        | true =>
          go_wp2_with (first | (go_at_call_of 40 (Value.string ru); (with_reducible refine (HU.out _).mono ?_); rintro e w9 ⟨rfl, hw⟩; obtain rfl := hw.symm) | (go_at_call_of 40 (Value.string ri); (with_reducible refine (HI.out _).mono ?_); rintro e w9 ⟨rfl, hw⟩; obtain rfl := hw.symm) | fail)
          go_round
          case rel => exact ⟨k + 1, bi, by omega, by go_num, by first | rfl | (cases bi <;> rfl), by simpa using hrel2⟩
          case measure => simp [intOf]; omega
    · obtain rfl : len = k := by omega
      rw [List.take_of_length_le (by omega)] at HB
      cases b with
      | false =>
        have hE : E = 1 := by rw [HE.out, if_pos (fun h => by have := HB.out.2 h; cases this)]
        subst hE
        clear HE HB
        go_wp2
        refine bodyPost_ret (v := .tuple #[.slice none 0 0, .int .i64 1]) (by simp [results, Try.results14, go_sem]) rfl ?_
        exact ⟨Below.refl _ _, .inl ⟨by simp, rfl⟩⟩
      | true =>
        have HALL := hidden (HB.out.1 rfl)
        rw [if_neg (not_not_intro HALL.out)] at HE
        clear HB
        by_cases h512 : 512 < len
        · have hE : E = 4 := by rw [HE.out, if_pos h512]
          subst hE
          have h5 : (512 : Int) < (len : Int) := by omega
          clear HE
          go_wp2
          refine bodyPost_ret (v := .tuple #[.slice none 0 0, .int .i64 4]) (by simp [results, Try.results14, go_sem]) rfl ?_
          exact ⟨Below.refl _ _, .inl ⟨by simp, rfl⟩⟩
        rw [if_neg h512] at HE
        have h5 : (len : Int) ≤ 512 := by omega
        have h5' : ¬ (512 : Int) < (len : Int) := by omega
        have hl0 : (0 : Int) ≤ (len : Int) := by omega
        go_wp2_with (first | (go_at_call 25; refine (rput_4 (len : Int) _ (by omega) (by omega)).mono ?_; rintro e w1 ⟨pv, rfl, hop, hb1⟩; refine Hid.out ?_) | fail)
        have HO0 := hidden hop
        have hs1 := hb1.size
        clear hop
        refine hidden ?_
        go_wp2
        go_loopw [6, 7, 8, 9] (fun pl dv cv i w' => ∃ k : Nat, k ≤ len ∧ i = .int .i64 k ∧ pl = .int .i64 ((24 + 12 * len + sizes ((rs.map ckOf).take k) : Nat) : Int) ∧ w'.ownsRow w.heap.size 5 1 dv (4 + 12 * k) (bytesV (ixP rs k)) ∧ w'.ownsRow w.heap.size 56 2 cv k (cksV ((rs.take k).map ckOf)) ∧ Hid (ApartR (rs.take k)) ∧ Below w.heap.size w w') (fun _ _ _ i _ => len - (intOf i).toNat)
        case atStart => exact ⟨0, by omega, rfl, int_eq (by simp [sizes]), by rw [ixP_zero, hlen]; exact HO0.out, World.ownsRow_nil _ _ _ _, hidden (by simp [ApartR]), hb1⟩
        case round =>
          obtain ⟨k, hk, rfl, rfl, hdo, hco, HAP, hbl⟩ := hrel
          generalize hwq : wr = wq at *
          clear hwq
          have HD := hidden hdo
          have HK := hidden hco
          have hsq := hbl.size
          clear hdo hco HO0 hb1 hs1
          by_cases hlt : k < len
          · have hlt2 : (k : Int) < (len : Int) := by omega
            have hk0 : (0 : Int) ≤ (k : Int) := by omega
            have hkc : k < rs.length := by omega
            obtain ⟨b, off, rfl, hcell⟩ := HC.out.at (by omega)
            have HCELL := hidden hcell
            have HSN := hidden (sizes_snoc (rs.map ckOf) k (by simpa using hkc))
            have HIX := hidden (ixP_snoc rs (fun r hr => (HC.out.2.2.2 r hr).1.1) k hkc)
            have HCK : Hid (cksV ((rs.take (k + 1)).map ckOf) = cksV ((rs.take k).map ckOf) ++ [.string rs[k].id, .slice rs[k].a rs[k].l rs[k].c]) := hidden (by
              rw [List.take_succ_eq_append_getElem hkc, List.map_append]
              exact cksV_snoc _ _)
            have HRD := hidden (HC.out.2.2.2 _ (List.getElem_mem hkc))
            have HEL : Hid (((rs.take (k + 1)).map ckOf)[k]? = some ⟨rs[k].id, rs[k].a, rs[k].l, rs[k].c, rs[k].d⟩) := hidden (by
              rw [List.getElem?_map, List.getElem?_take_of_lt (by omega), List.getElem?_eq_getElem hkc]
              rfl)
            have HID := hidden (HALL.out _ (List.getElem_mem hkc))
            have HAS := hidden (apart_snoc rs k hkc HAP.out)
            have HAN := hidden (fun j hj => apart_not rs j k hj hkc)
            have hps := sizes_le (rs.map ckOf) k
            have hps1 := sizes_le (rs.map ckOf) (k + 1)
            rw [hlen] at HIX
            rw [HSN.out] at hps1
            obtain ⟨P, hP⟩ : ∃ P, P = 24 + 12 * len + sizes ((rs.map ckOf).take k) := ⟨_, rfl⟩
            rw [← hP] at HIX ⊢
            have HPE := hidden hP
            have hP1 : P ≤ 1000000 := by omega
            have hP2 : (P : Int) ≤ 1000000 := by omega
            have hP0 : (0 : Int) ≤ (P : Int) := by omega
            clear hcell hP hps
            rw [List.getElem_map] at HSN hps1
            have HQ : Hid (∀ wx, Below w.heap.size w wx → wx.cell? ⟨b, off + k * 4, none⟩ = some (.string rs[k].u) ∧ wx.cell? ⟨b, off + k * 4 + 1, none⟩ = some (.int .u32 rs[k].x) ∧ wx.cell? ⟨b, off + k * 4 + 2, none⟩ = some (.string rs[k].id) ∧ wx.cell? ⟨b, off + k * 4 + 3, none⟩ = some (.slice rs[k].a rs[k].l rs[k].c)) := hidden fun wx hx => ⟨cellLater hx (HCELL.out k hkc).1, cellLater hx (HCELL.out k hkc).2.1, cellLater hx (HCELL.out k hkc).2.2.1, cellLater hx (HCELL.out k hkc).2.2.2⟩
            generalize rs[k] = r at *
            obtain ⟨ru, rx, ri, ra, rl, rc, rd⟩ := r
            simp only at *
            have hszr : ckSize (ckOf ⟨ru, rx, ri, ra, rl, rc, rd⟩) = 8 + rl + rl % 2 := rfl
            rw [hszr] at HSN hps1
            clear hszr
            have hrl : rl ≤ 900000 := by omega
            have hru : ru.size = 4 := HID.out.1.1
            clear hps1
            go_wp2
            go_loopw [10] (fun i w'' => ∃ j : Nat, j ≤ k ∧ i = .int .i64 (j : Int) ∧ Hid (∀ t r, t < j → rs[t]? = some r → ¬ (r.u = ru ∧ r.x = rx)) ∧ Below wq.heap.size wq w'') (fun i _ => k - (intOf i).toNat)
            case atStart => exact ⟨0, by omega, rfl, hidden (fun t r ht => by omega), Below.refl _ _⟩
            case round =>
              obtain ⟨j, hj, rfl, HNO, hbj⟩ := hrel
              by_cases hjk : j < k
              · have hjk2 : (j : Int) < (k : Int) := by omega
                have hj0 : (0 : Int) ≤ (j : Int) := by omega
                have hjl : (j : Int) < (len : Int) := by omega
                have hjc : j < rs.length := by omega
                have hbw := hbl.trans (hbj.mono hsq)
                obtain ⟨q0, q1, -, -⟩ := HCELL.out j hjc
                have c0 := cellLater hbw q0
                have c1 := cellLater hbw q1
                obtain ⟨d0, d1, -, -⟩ := HQ.out _ hbw
                have HAT : Hid (rs[j]? = some rs[j]) := hidden (List.getElem?_eq_getElem hjc)
                have HNA := hidden (HAN.out j hjk)
                clear q0 q1
                generalize rs[j] = r at *
                obtain ⟨su, sx, si, sa, sl, sc, sd⟩ := r
                simp only at *
                by_cases g1 : su = ru
                · subst g1
                  by_cases g2 : sx = rx
                  · subst g2
                    have hE : E = 6 := by rw [HE.out, if_pos (HNA.out ⟨rfl, rfl⟩)]
                    subst hE
                    clear HE HNA HAN HAS HIX HSN HCK HRD HID HCELL HQ HAT HNO
                    go_upto_region 19 with fail
                    go_quiet (fail)
                    go_wp2
                    refine bodyPost_ret (v := .tuple #[.slice none 0 0, .int .i64 6]) (by simp [results, Try.results14, go_sem]) rfl ?_
                    exact ⟨below_drewN hbw _, .inl ⟨by simp, rfl⟩⟩
                  · have HNO2 : Hid (∀ t r, t < j + 1 → rs[t]? = some r → ¬ (r.u = su ∧ r.x = rx)) := hidden fun t r' ht hr' => by
                      by_cases e : t = j
                      · subst e
                        rw [HAT.out] at hr'
                        obtain rfl := Option.some.inj hr'
                        exact fun hh => g2 hh.2
                      · exact HNO.out t r' (by omega) hr'
                    have g3 : (sx == rx) = false := by simpa using g2
                    clear HE HNA HAN HAS HIX HSN HCK HRD HID HCELL HQ HAT HNO g2
                    go_upto_region 19 with fail
                    go_quiet (fail)
                    go_wp2
                    go_roundw
                    case rel => exact ⟨j + 1, by omega, by go_num, HNO2, below_drewN hbj _⟩
                    case measure => simp [intOf]; omega
                · have HNO2 : Hid (∀ t r, t < j + 1 → rs[t]? = some r → ¬ (r.u = ru ∧ r.x = rx)) := hidden fun t r' ht hr' => by
                    by_cases e : t = j
                    · subst e
                      rw [HAT.out] at hr'
                      obtain rfl := Option.some.inj hr'
                      exact fun hh => g1 hh.1
                    · exact HNO.out t r' (by omega) hr'
                  have g3 := str_f g1
                  clear HE HNA HAN HAS HIX HSN HCK HRD HID HCELL HQ HAT HNO g1
                  go_upto_region 19 with fail
                  go_quiet (fail)
                  go_wp2
                  go_roundw
                  case rel => exact ⟨j + 1, by omega, by go_num, HNO2, below_drewN hbj _⟩
                  case measure => simp [intOf]; omega
              · obtain rfl : k = j := by omega
                have hkk : ¬ (k : Int) < (k : Int) := by omega
                have HAPN := hidden (HAS.out fun t r ht hr => HNO.out t r ht hr)
                have hxx := HRD.out.2.2
                have hbw := hbl.trans (hbj.mono hsq)
                have HD0 := hidden (own_later HD.out hbj)
                have HK0 := hidden (own_later HK.out hbj)
                have hs0 := hbw.size
                obtain ⟨c0, -, -, -⟩ := HQ.out _ hbw
                clear HAS HNO HAN HE hbj HD HK hbl hsq hj HCELL
                go_wp2_with (at_builtin; refine Lib.wpList_append_own_string _ rfl (.tmp 82) (.tmp 87) 22 9 rfl w.heap.size 5 i0 Try.underlying22 Try.underlying9 hi hz0 hz1 hz2 _ _ _ rfl HD0.out ru rfl (by unfold maxLen; omega) (by omega) (by omega) ?_; intro v1 w1 hown1 hgrow1 hiff1; clear hiff1; refine Hid.out ?_)
                have hb1 : Below w.heap.size w w1 := hbw.grown hgrow1 hs0 (fun k hk => (HD0.out.lt k hk).1)
                have HK1 := hidden (HK0.out.kept hgrow1 (own_apart HK0.out HD0.out (by decide)))
                rw [idI_cells, bytesV_append, hru] at hown1
                have HD1 := hidden hown1
                have hs1 := hb1.size
                obtain ⟨-, c1, -, -⟩ := HQ.out _ hb1
                clear hown1 hgrow1 HD0 HK0 hbw hs0 c0
                refine hidden ?_
                go_wp2_with (first | (go_at_call 25; refine (rput_4 rx _ (by omega) (by omega)).mono ?_; rintro e w2 ⟨pv, rfl, hop, hb2⟩; refine Hid.out ?_) | fail)
                obtain ⟨gp, cp, rfl, hcp, hgp⟩ := owned_shape hop (by omega)
                have HNp : Hid (∀ j u, (bytesV (putL rx 4))[j]? = some u → w2.cell? ((⟨gp, 0, none⟩ : Addr).add j) = some u) := hidden (bs_news (own_bs hop) hcp)
                have hb3 : Below w.heap.size w w2 := hb1.trans (hb2.mono hs1)
                have HD2 := hidden (own_later HD1.out hb2)
                have HK2 := hidden (own_later HK1.out hb2)
                have hs2 := hb3.size
                clear hop hb2 HD1 HK1 hb1 hs1 c1
                refine hidden ?_
                go_wp2_with (at_builtin; refine wpList_append_own _ rfl (.tmp 89) (.tmp 95) 22 rfl w.heap.size 5 i0 (.int .u8 0) 1 1 Try.underlying22 hi hz0 hz1 hz2 rfl (by decide) _ _ _ rfl HD2.out ⟨gp, 0, none⟩ 4 cp (bytesV (putL rx 4)) rfl rfl HNp.out (bytesV_one _) (by unfold maxLen; omega) (by omega) (by first | omega | (simp; omega)) ?_; intro v3 w3 hown3 hgrow3 hiff3; clear hiff3; refine Hid.out ?_)
                have hb4 : Below w.heap.size w w3 := hb3.grown hgrow3 hs2 (fun k hk => (HD2.out.lt k hk).1)
                have HK3 := hidden (HK2.out.kept hgrow3 (own_apart HK2.out HD2.out (by decide)))
                rw [bytesV_append] at hown3
                have HD3 := hidden hown3
                have hs3 := hb4.size
                clear hown3 hgrow3 HD2 HK2 HNp hb3 hs2 hgp
                refine hidden ?_
                go_wp2_with (first | (go_at_call 25; refine (rput_4 (P : Int) _ (by omega) (by omega)).mono ?_; rintro e w4 ⟨pv, rfl, hop, hb5⟩; refine Hid.out ?_) | fail)
                obtain ⟨gp, cp, rfl, hcp, hgp⟩ := owned_shape hop (by omega)
                have HNp : Hid (∀ j u, (bytesV (putL (P : Int) 4))[j]? = some u → w4.cell? ((⟨gp, 0, none⟩ : Addr).add j) = some u) := hidden (bs_news (own_bs hop) hcp)
                have hb6 : Below w.heap.size w w4 := hb4.trans (hb5.mono hs3)
                have HD4 := hidden (own_later HD3.out hb5)
                have HK4 := hidden (own_later HK3.out hb5)
                have hs4 := hb6.size
                clear hop hb5 HD3 HK3 hb4 hs3
                refine hidden ?_
                go_wp2_with (at_builtin; refine wpList_append_own _ rfl (.tmp 97) (.tmp 100) 22 rfl w.heap.size 5 i0 (.int .u8 0) 1 1 Try.underlying22 hi hz0 hz1 hz2 rfl (by decide) _ _ _ rfl HD4.out ⟨gp, 0, none⟩ 4 cp (bytesV (putL (P : Int) 4)) rfl rfl HNp.out (bytesV_one _) (by unfold maxLen; omega) (by omega) (by first | omega | (simp; omega)) ?_; intro v5 w5 hown5 hgrow5 hiff5; clear hiff5; refine Hid.out ?_)
                have hb7 : Below w.heap.size w w5 := hb6.grown hgrow5 hs4 (fun k hk => (HD4.out.lt k hk).1)
                have HK5 := hidden (HK4.out.kept hgrow5 (own_apart HK4.out HD4.out (by decide)))
                rw [bytesV_append, ← HIX.out] at hown5
                have HD5 := hidden (own_len_eq hown5 (show 4 + 12 * k + 4 + 4 + 4 = 4 + 12 * (k + 1) by omega))
                have hs5 := hb7.size
                clear hown5 hgrow5 HD4 HK4 HNp hb6 hs4 hgp
                refine hidden ?_
                obtain ⟨-, -, c2, c3⟩ := HQ.out _ hb7
                have HS : Hid (∀ wx, Below w5.heap.size w5 wx → wx.cell? ⟨b, off + k * 4 + 2, none⟩ = some (.string ri) ∧ wx.cell? ⟨b, off + k * 4 + 3, none⟩ = some (.slice ra rl rc)) := hidden fun wx hx => (HQ.out wx (hb7.trans (hx.mono hs5))).2.2
                go_upto_region 24 with fail
                have HKL : Hid (((w5.alloc (.cells #[.string ri, .slice ra rl rc] 56)).drew).ownsRow w.heap.size 56 2 u8 k (cksV ((rs.take k).map ckOf))) := hidden (own_later HK5.out (((Below.refl _ _).alloc (Nat.le_refl _) _).drew))
                go_region_held3 (fun w' => w'.cell? ⟨b, off + k * 4 + 2, none⟩ = some (.string ri) ∧ w'.cell? ⟨b, off + k * 4 + 3, none⟩ = some (.slice ra rl rc)) (first | assumption | exact HS.out _ (by first | exact Below.refl _ _ | exact (Below.refl _ _).drew | exact (Below.refl _ _).alloc (Nat.le_refl _) _ | exact ((Below.refl _ _).drew).alloc (Nat.le_refl _) _ | exact ((Below.refl _ _).alloc (Nat.le_refl _) _).drew)) (first | (refine step_append_own (by rfl) (.tmp 102) (.tmp 114) 50 (by rfl) w.heap.size 56 j0 (.agg #[.string ⟨#[]⟩, .slice none 0 0]) 2 40 Try.underlying50 ji jz0 jz1 jz2 rfl (by decide) u8 k (cksV ((rs.take k).map ckOf)) (by rfl) (by first | exact HKL.out | exact own_later HK5.out ((Below.refl _ _).alloc (Nat.le_refl _) _) | exact own_later HK5.out (((Below.refl _ _).drew).alloc (Nat.le_refl _) _)) ⟨w5.heap.size, 0, none⟩ 1 1 [.string ri, .slice ra rl rc] (by rfl) rfl (by first | exact cell_two_new w5 _ _ _ | exact cell_two_new w5.drew _ _ _) (by intro u hu; simp at hu; rcases hu with rfl | rfl <;> rfl) (by unfold maxLen; omega) (by omega) (by simp; omega) ?_; intro v6 w6 hown6 hgrow6; have hb8 : Below w.heap.size w w6 := ((hb7.alloc hs5 _).drew).grown hgrow6 (by simp; omega) (fun j hj => (HKL.out.lt j hj).1); have hcd6 := (HQ.out w6 hb8).2.2; have HH6 := hidden hown6; have HG6 := hidden hgrow6; clear hown6 hgrow6) | fail)
                have HD6 := hidden ((own_later HD5.out (((Below.refl _ _).alloc (Nat.le_refl _) (.cells #[.string ri, .slice ra rl rc] 56)).drew)).kept HG6.out (own_apart (own_later HD5.out (((Below.refl _ _).alloc (Nat.le_refl _) (.cells #[.string ri, .slice ra rl rc] 56)).drew)) HKL.out (by decide)))
                have hK6 := HH6.out
                rw [← HCK.out] at hK6
                have HK6 := hidden hK6
                obtain ⟨gk, ck, hke, hkcap, hkb⟩ : ∃ g cap, v6 = .slice (some ⟨g, 0, none⟩) (k + 1) cap ∧ k + 1 ≤ cap ∧ w.heap.size ≤ g := by
                  rcases HH6.out.2 with ⟨_, h0⟩ | ⟨g, cap, cur, e, hbg, _, hnc, _⟩
                  · omega
                  · exact ⟨g, cap, e, hnc, hbg⟩
                subst hke
                have hs6 := hb8.size
                have HLe := hidden (len_last HK6.out (by simp; omega) ⟨ri, ra, rl, rc, rd⟩ HEL.out ⟨HRD.out.1.later hb8, HRD.out.2.1⟩ (by show rl ≤ 1000012; omega))
                clear hcd6 HG6 HH6 HD5 HK5 hK6 HKL HS hb7 hs5 HCK HQ c2 c3
                have z1 : (k : Int) ≤ (k : Int) + 1 := by omega
                have z2 : (k : Int) + 1 ≤ (ck : Int) := by omega
                have z3 : ¬ k = ck := by omega
                obtain ⟨Y, hY⟩ : ∃ Y, Y = 8 + rl + rl % 2 := ⟨_, rfl⟩
                simp only at HLe
                rw [← hY] at HLe HSN
                have hY1 : (Y : Int) ≤ 1000000 := by omega
                have hY0 : (0 : Int) ≤ (Y : Int) := by omega
                clear hY
                go_wp2_with (first | (go_at_call 41; refine HLe.out.mono ?_; rintro e w7 ⟨rfl, hb9⟩) | fail)
                go_roundw
                case rel => exact ⟨k + 1, by omega, by go_num, int_eq (by rw [HSN.out]; have := HPE.out; omega), own_later HD6.out hb9, own_later HK6.out hb9, HAPN, hb8.trans (hb9.mono hs6)⟩
                case measure => simp [intOf]; omega
          · obtain rfl : len = k := by omega
            rw [List.take_of_length_le (by omega)] at HK HAP
            have hE : E = 0 := by rw [HE.out, if_neg (not_not_intro HAP.out)]
            subst hE
            have HIA := ixP_all rs
            rw [hlen] at HIA
            rw [HIA] at HD
            clear HE HAP HIA
            obtain ⟨gd, cd, hde, hdc, hdb⟩ := owned_shape HD.out (by omega)
            subst hde
            obtain ⟨ak, ck, hke⟩ := own_slice HK.out
            subst hke
            have hst : Below wq.heap.size wq (wq.alloc (.cells #[.string RIDX, .slice (some ⟨gd, 0, none⟩) (4 + 12 * len) cd] 56)) := (Below.refl _ _).alloc (Nat.le_refl _) _
            have hlnn : ¬ (len : Int) < (len : Int) := by omega
            obtain ⟨c0, hc0⟩ : ∃ c0 : Ck, c0 = ⟨RIDX, some ⟨gd, 0, none⟩, 4 + 12 * len, cd, idxL rs (plR (rs.map srOf))⟩ := ⟨_, rfl⟩
            have hO : (wq.alloc (.cells #[.string RIDX, .slice (some ⟨gd, 0, none⟩) (4 + 12 * len) cd] 56)).ownsRow wq.heap.size 56 2 (.slice (some ⟨wq.heap.size, 0, none⟩) 1 1) 1 (cksV [c0]) := by
              rw [hc0]
              exact ⟨rfl, .inr ⟨wq.heap.size, 1, _, rfl, Nat.le_refl _, heap_alloc_new _ _, Nat.le_refl _, by decide, rfl, rfl⟩⟩
            have HO := hidden (own_base hO hsq)
            clear hO
            have HK1 := hidden (own_later HK.out hst)
            have HD1 := hidden (own_later HD.out hst)
            have hb1 := hbl.trans (hst.mono hsq)
            have HC0 := hidden hc0
            clear hc0 HK HD hst
            have FIN : Hid (∀ v8 w8, w8.ownsRow w.heap.size 56 2 v8 (1 + len) (cksV [c0] ++ cksV (rs.map ckOf)) → w8.ownsRow w.heap.size 5 1 (.slice (some ⟨gd, 0, none⟩) (4 + 12 * len) cd) (4 + 12 * len) (bytesV (idxL rs (plR (rs.map srOf)))) → Below w.heap.size w w8 → Calls Try.prog 27 #[.string IFRS, v8] w8 (BuildRet w8 (layS (rs.map srOf)).length (layS (rs.map srOf)))) := hidden fun v8 w8 ho hd hb => by
              obtain ⟨ao, cv, rfl⟩ := own_slice ho
              rw [show cksV [c0] ++ cksV (rs.map ckOf) = cksV (c0 :: rs.map ckOf) by simp [cksV]] at ho
              have hck : Cks w8 ao (1 + len) cv (c0 :: rs.map ckOf) := own_cks ho (by simp [hlen]; omega) (fun c hc => by
                rcases List.mem_cons.1 hc with rfl | h
                · rw [HC0.out]; exact ⟨(reads_own hd).1, idxL_ok _ _⟩
                · obtain ⟨r, hr, rfl⟩ := List.mem_map.1 h
                  have := (HC.out.2.2.2 r hr)
                  exact ⟨this.1.later hb, this.2.1⟩)
              have hall : AllId (c0 :: rs.map ckOf) := fun c hc => by
                rcases List.mem_cons.1 hc with rfl | h
                · rw [HC0.out]; exact id_ridx
                · obtain ⟨r, hr, rfl⟩ := List.mem_map.1 h
                  exact (HALL.out r hr).2
              have hsz2 : sizes (c0 :: rs.map ckOf) ≤ 1000000 := by
                have : sizes (c0 :: rs.map ckOf) = ckSize c0 + sizes (rs.map ckOf) := by simp [sizes]
                rw [this, HC0.out]; unfold ckSize; simp only; omega
              have hBu := rbuild_good IFRS ao (1 + len) cv _ _ id_ifrs hck hall (by omega) hsz2
              have hdl : ∀ c ∈ c0 :: rs.map ckOf, c.d.length = c.l := fun c hc => (hck.2.2.2 c hc).1.1
              have hform : formL IFRS (c0 :: rs.map ckOf) = layS (rs.map srOf) := by
                rw [formL_S _ _ hdl]
                unfold layS layCs
                congr 1
                rw [List.map_cons, List.map_map, List.map_map, HC0.out]
                show (RIDX, idxL rs (plR (rs.map srOf))) :: _ = _
                rw [idxL_S]
                rfl
              have hflen : 12 + sizes (c0 :: rs.map ckOf) = (layS (rs.map srOf)).length := by
                rw [← hform, form_len _ _ rfl (fun c hc => ⟨(hall c hc).1, hdl c hc⟩)]
              rw [hform, hflen] at hBu
              exact hBu
            have hs1 := hb1.size
            generalize layS (rs.map srOf) = ZS at *
            rcases HK1.out.2 with ⟨hke, hl0⟩ | ⟨gk, ck', cur, hke, hgb, -, hnc, -⟩
            · simp only [Value.slice.injEq] at hke
              obtain ⟨rfl, -, rfl⟩ := hke
              obtain rfl : len = 0 := by omega
              obtain rfl := List.eq_nil_of_length_eq_zero hlen
              have HBu := hidden (FIN.out _ _ HO.out HD1.out hb1)
              clear FIN HK1 HD1 HC HST HALL
              go_wp2_with (first | (at_builtin; refine wpList_append_own_none rfl (.tmp 124) (.tmp 125) 50 rfl w.heap.size 56 j0 2 Try.underlying50 ji _ _ _ rfl HO.out rfl ?_) | (go_at_call 27; refine HBu.out.mono ?_; rintro e w9 ⟨v9, rfl, ho9, hb9⟩) | fail)
              refine bodyPost_ret (v := .tuple #[v9, .int .i64 0]) (by simp [results, Try.results14, go_sem]) rfl ?_
              exact ⟨hb1.trans (hb9.mono hs1), .inr ⟨rfl, v9, rfl, own_base ho9 hs1⟩⟩
            · simp only [Value.slice.injEq] at hke
              obtain ⟨rfl, -, rfl⟩ := hke
              have HNk := hidden (HK1.out.cells (g := gk) rfl)
              have hkl := HK1.out.1
              go_wp2_with (first | (at_builtin; refine wpList_append_own _ rfl (.tmp 124) (.tmp 125) 50 rfl w.heap.size 56 j0 (.agg #[.string ⟨#[]⟩, .slice none 0 0]) 2 40 Try.underlying50 ji jz0 jz1 jz2 rfl (by decide) _ _ _ rfl HO.out ⟨gk, 0, none⟩ len ck (cksV (rs.map ckOf)) rfl hkl HNk.out (cksV_one _) (by unfold maxLen; omega) (by omega) (by first | omega | (simp; omega)) ?_; intro v8 w8 hown8 hgrow8 hiff8; clear hiff8; refine Hid.out ?_) | fail)
              have hb2 : Below w.heap.size w w8 := hb1.grown hgrow8 hs1 (fun j hj => (HO.out.lt j hj).1)
              have hd8 := HD1.out.kept hgrow8 (own_apart HD1.out HO.out (by decide))
              have HBu := hidden (FIN.out _ _ hown8 hd8 hb2)
              have hs2 := hb2.size
              clear FIN HK1 HD1 HC HST HALL hown8 hd8 hgrow8 HNk HO hkl
              refine hidden ?_
              go_wp2_with (first | (go_at_call 27; refine HBu.out.mono ?_; rintro e w9 ⟨v9, rfl, ho9, hb9⟩) | fail)
              refine bodyPost_ret (v := .tuple #[v9, .int .i64 0]) (by simp [results, Try.results14, go_sem]) rfl ?_
              exact ⟨hb2.trans (hb9.mono hs2), .inr ⟨rfl, v9, rfl, own_base ho9 hs2⟩⟩
end Go.Proofs.Ytedihackifchcaa
