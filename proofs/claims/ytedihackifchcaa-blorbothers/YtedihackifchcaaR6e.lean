/- Contract of the document's Read (package grottoref06), for any bytes. -/
import Derived.Test.YtedihackifchcaaR6d
namespace Go.Proofs.Ytedihackifchcaa
open Go.RowKit
set_option maxHeartbeats 1000000
set_option maxRecDepth 100000
set_option linter.unusedVariables false

theorem among_iff {rs : List Rk} {acc : List En} {cs : List Sc} (h : rs.map srOf = acc.map (resS cs)) (u : ByteArray) (x : Int) : Among acc u x ↔ ∃ r ∈ rs, r.u = u ∧ r.x = x := by
  have h1 : Among acc u x ↔ ∃ s ∈ acc.map (resS cs), s.1 = u ∧ s.2.1 = x := by
    unfold Among
    constructor
    · rintro ⟨a, ha, h1, h2⟩
      exact ⟨_, List.mem_map_of_mem ha, h1, h2⟩
    · rintro ⟨s, hs, h1, h2⟩
      obtain ⟨a, ha, rfl⟩ := List.mem_map.1 hs
      exact ⟨a, ha, h1, h2⟩
  rw [h1, ← h]
  constructor
  · rintro ⟨s, hs, h1, h2⟩
    obtain ⟨r, hr, rfl⟩ := List.mem_map.1 hs
    exact ⟨r, hr, h1, h2⟩
  · rintro ⟨r, hr, h1, h2⟩
    exact ⟨_, List.mem_map_of_mem hr, h1, h2⟩
/-- one chunk's length, in the form -/
theorem len_one {w1 wx : World} {b off kl cv : Nat} {KS : List Ck} (hG : Gks w1 (some ⟨b, off, none⟩) kl cv KS) (hb : Below w1.heap.size w1 wx) (j : Nat) (c : Ck) (hj : KS[j]? = some c) (hs : c.l ≤ 1000012) :
    Calls Try.prog 41 #[.slice (some ⟨b, off + j * 2, none⟩) 1 (cv - j)] wx fun e w' => e = .returned (.int .i64 ((8 + c.l + c.l % 2 : Nat) : Int)) ∧ Below wx.heap.size wx w' := by
  have hG' := hG.later hb
  obtain ⟨hjl, hje⟩ := List.getElem?_eq_some_iff.1 hj
  have hkl := hG'.1.1
  have hcv := hG'.1.2.1
  obtain ⟨b', off', e, hc⟩ := hG'.1.at (by omega)
  cases e
  have hcj := hc j hjl
  rw [hje] at hcj
  have hm : c ∈ KS := by rw [← hje]; exact List.getElem_mem hjl
  refine (rlen_any _ 1 (cv - j) [c] wx ⟨rfl, by omega, .inr ⟨b, off + j * 2, rfl, fun i h => ?_⟩, fun k hk => by rw [List.mem_singleton.1 hk]; exact hG'.1.2.2.2 c hm⟩ (by simp [sizes, ckSize]; omega) (by omega)).mono ?_
  · have hi : i = 0 := by simp at h; omega
    subst hi
    simpa using hcj
  · rintro e w' ⟨rfl, h⟩
    refine ⟨?_, h⟩
    simp [sizes, ckSize]
theorem readR_fault {zs : List Int} (h : (openR zs).2.1 ≠ 0) : readR zs = ([], (openR zs).2.1, (openR zs).2.2) := by unfold readR; rw [if_pos h]
/-- the document's Read of no bytes -/
theorem rread_nil (a : Option Addr) (cap : Nat) (w : World) : Calls Try.prog 44 #[.slice a 0 cap] w (RRet w (readR [])) := by
  have hP : parseR [] = ([], 2, 0) := by
    have h : headR [] = (2, 0) := by
      unfold headR
      rw [if_neg (by decide), if_pos (by decide)]
      rfl
    rw [parse_head (by rw [h]; decide), h]
  have hO : openR [] = ([], 2, 0) := by unfold openR; rw [hP]; simp
  have hR : readR [] = ([], 2, 0) := by rw [readR_fault (by rw [hO]; simp), hO]
  rw [hR]
  have HP := hidden (rparse_nil a cap w)
  rw [hP] at HP
  clear hR hO hP
  generalize strA (seg [] 8 4) = S8 at *
  go_enter Try.func44, Try.ntmps44
  go_wp2_with fail
  refine HP.out.mono ?_
  rintro e w1 ⟨hb1, ⟨hne, rfl⟩ | ⟨hz, -⟩⟩
  · go_wp2
    refine bodyPost_ret (v := .tuple #[.slice none 0 0, .int .i64 2, .int .i64 0]) (by simp [results, Try.results44, go_sem]) rfl ?_
    exact ⟨hb1, .inl ⟨by simp, rfl⟩⟩
  · simp at hz
set_option maxHeartbeats 4000000 in
theorem rread_any (g o L cap : Nat) (zs : List Int) (w : World) (h : Bs w g o L zs) (hok : OkB zs) (hm : L ≤ 1000012) (hcap : L ≤ cap) :
    Calls Try.prog 44 #[.slice (some ⟨g, o, none⟩) L cap] w (RRet w (readR zs)) := by
  obtain ⟨i0, hi, hz0, hz1, hz2'⟩ := info_parts infoRs
  have hlen := h.1
  have HBs := hidden h
  have hLi : (L : Int) ≤ 1000012 := by omega
  have HOK := hidden hok
  have HP := hidden (rparse_any g o L cap zs w h hok hm hcap)
  have hsz := parseR_sz zs hok
  have HF := hidden (parse_first zs hok)
  obtain ⟨R, hR⟩ : ∃ R, R = readR zs := ⟨_, rfl⟩
  rw [← hR]
  unfold readR at hR
  have HR := hidden hR
  obtain ⟨O, hO⟩ : ∃ O, O = openR zs := ⟨_, rfl⟩
  rw [← hO] at HR
  unfold openR at hO
  have HO := hidden hO
  have HRF : Hid (∀ E A, E ≠ 0 → O = ([], E, A) → R = ([], E, A)) := hidden fun E A hE e => by rw [HR.out, e]; simp [hE]
  clear h hR hok hO
  generalize parseR zs = P at *
  generalize strA (seg zs 8 4) = S8 at *
  go_enter Try.func44, Try.ntmps44
  go_wp2_with fail
  refine HP.out.mono ?_
  rintro e w1 ⟨hb1, ⟨hne, rfl⟩ | ⟨hz, hz2, ao, cv, ks, rfl, hgot, hks, hall, hk1024⟩⟩
  · have hRR : R = ([], P.2.1, P.2.2) := HRF.out _ _ hne (by rw [HO.out, if_pos hne])
    subst hRR
    have hne2 : (P.2.1 != 0) = true := by simpa using hne
    generalize P.2.1 = E at *
    generalize P.2.2 = A at *
    clear HR HO HRF HP HF HBs
    go_wp2
    refine bodyPost_ret (v := .tuple #[.slice none 0 0, .int .i64 E, .int .i64 A]) (by simp [results, Try.results44, go_sem]) rfl ?_
    exact ⟨hb1, .inl ⟨hne, rfl⟩⟩
  have HG := hidden hgot
  have hs1 := hb1.size
  have HALL := hidden hall
  have HKS := hidden hks
  have hsz2 : sizes ks ≤ 1000012 := by
    rw [sizes_ssz ks (fun k hk => (hall k hk).1), hks]; omega
  rw [if_neg (not_not_intro hz)] at HO
  clear HP hall hks hgot
  by_cases hkd : S8 ≠ IFRS
  · have hRR : R = ([], 60, 8) := HRF.out _ _ (by decide) (by rw [HO.out, if_pos hkd])
    subst hRR
    have hkd2 := strlit_f [73, 70, 82, 83] hkd
    clear HR HO HRF HG hkd HF HBs
    generalize ks.length = kl at *
    go_wp2
    refine bodyPost_ret (v := .tuple #[.slice none 0 0, .int .i64 60, .int .i64 8]) (by simp [results, Try.results44, go_sem]) rfl ?_
    exact ⟨hb1, .inl ⟨by simp, rfl⟩⟩
  have hkd2 : S8 = IFRS := Classical.not_not.1 hkd
  subst hkd2
  rw [if_neg hkd] at HO
  clear hkd
  rcases ks with _ | ⟨k, ks⟩
  · have hRR : R = ([], 61, 12) := HRF.out _ _ (by decide) (by rw [HO.out, ← HKS.out]; simp [idxR])
    subst hRR
    clear HR HO HRF HG HF HBs
    go_wp2
    refine bodyPost_ret (v := .tuple #[.slice none 0 0, .int .i64 61, .int .i64 12]) (by simp [results, Try.results44, go_sem]) rfl ?_
    exact ⟨hb1, .inl ⟨by simp, rfl⟩⟩
  have hGks := got_gks HG.out rfl (fun c hc => (HALL.out c hc).2.1)
  obtain ⟨b, off, hao, hcell⟩ := hGks.1.at (by simp)
  subst hao
  have c0 := (hcell 0 (by simp)).1
  have c1 := (hcell 0 (by simp)).2
  simp only [List.getElem_cons_zero, Nat.zero_mul, Nat.add_zero] at c0 c1
  have HCL : Hid (∀ i c, (k :: ks)[i]? = some c → w1.cell? ⟨b, off + i * 2, none⟩ = some (.string c.id) ∧ w1.cell? ⟨b, off + i * 2 + 1, none⟩ = some (.slice c.a c.l c.c)) := hidden fun i c hi => by
    obtain ⟨h1, rfl⟩ := List.getElem?_eq_some_iff.1 hi
    exact hcell i h1
  have hkd := HALL.out k List.mem_cons_self
  have hkm := sizes_mem (ks := k :: ks) (k := k) List.mem_cons_self
  have hR2 : O = if idxR ((k :: ks).map scOf) ≠ 0 then ([], idxR ((k :: ks).map scOf), 12) else ego ((k :: ks).map scOf) k.d (beV k.d 0 4).toNat 0 [] := by
    rw [HO.out, ← HKS.out]; rfl
  have hid : idxR ((k :: ks).map scOf) = if k.id ≠ ⟨#[82, 73, 100, 120]⟩ then 61 else if k.l < 4 then 61 else if (k.l : Int) ≠ 4 + 12 * beV k.d 0 4 then 61 else if 512 < beV k.d 0 4 then 4 else 0 := by
    unfold idxR scOf; simp only [List.map_cons, hkd.1]
  have HID := hidden hid
  have HR2 := hidden hR2
  have hkn : ((((k :: ks).length : Nat) : Int) == 0) = false := by simp; omega
  have hkp : (0 : Int) < (((k :: ks).length : Nat) : Int) := by simp only [List.length_cons]; omega
  have hkc : (k :: ks).length ≤ cv := hGks.1.2.1
  have HG2 := hidden hGks
  have HSP : Hid (0 < k.l → ∃ g, k.a = some ⟨g, 0, none⟩ ∧ Bs w1 g 0 k.l k.d ∧ k.l ≤ k.c) := hidden (hGks.2 k List.mem_cons_self)
  have hli : (k.l : Int) ≤ 1000012 := by omega
  have hv := beV_bd k.d 0 hkd.2.1
  have HKD := hidden hkd
  have HF2 : Hid (∃ n, k.d = seg zs 20 n ∧ k.l = n ∧ 20 + n ≤ L) := hidden (by
    obtain ⟨n, h1, h2, h3⟩ := HF.out (scOf k) (ks.map scOf) hz (HKS.out.symm)
    have h2' : k.d.length = n := h2
    exact ⟨n, h1, by rw [← hkd.1]; exact h2', by rw [← hlen]; exact h3⟩)
  rw [← HKS.out] at HR
  have hssz : ssz ((k :: ks).map scOf) ≤ 1000012 := by rw [HKS.out]; omega
  clear hR2 hid HO HKS hcell hkd hGks HF hkm
  generalize hCS : (k :: ks).map scOf = cs at *
  generalize hKL : (k :: ks).length = kl at *
  have HCS := hidden hCS
  have HKL := hidden hKL
  clear hCS hKL
  obtain ⟨kid, ka, kn, kc, kd⟩ := k
  simp only at c0 c1 hli hv HID HR2 HSP HKD HF2
  by_cases i1 : kid ≠ ⟨#[82, 73, 100, 120]⟩
  · have hRR : R = ([], 61, 12) := HRF.out _ _ (by decide) (by rw [HR2.out, HID.out, if_pos i1, if_pos (by decide)])
    subst hRR
    have i2 := strlit_f [82, 73, 100, 120] i1
    clear HR HRF HR2 HID i1 HSP HF2 HG HG2 HCL HBs
    go_wp2
    refine bodyPost_ret (v := .tuple #[.slice none 0 0, .int .i64 61, .int .i64 12]) (by simp [results, Try.results44, go_sem]) rfl ?_
    exact ⟨hb1, .inl ⟨by simp, rfl⟩⟩
  rw [if_neg i1] at HID
  have i2 : kid = ⟨#[82, 73, 100, 120]⟩ := by simpa using i1
  subst i2
  clear i1
  by_cases j1 : kn < 4
  · have hRR : R = ([], 61, 12) := HRF.out _ _ (by decide) (by rw [HR2.out, HID.out, if_pos j1, if_pos (by decide)])
    subst hRR
    have j2 : (kn : Int) < 4 := by omega
    clear HR HRF HR2 HID HSP HF2 HG HG2 HCL HBs
    go_wp2
    refine bodyPost_ret (v := .tuple #[.slice none 0 0, .int .i64 61, .int .i64 12]) (by simp [results, Try.results44, go_sem]) rfl ?_
    exact ⟨hb1, .inl ⟨by simp, rfl⟩⟩
  rw [if_neg j1] at HID
  have j2 : (4 : Int) ≤ (kn : Int) := by omega
  have j3 : ¬ (kn : Int) < 4 := by omega
  obtain ⟨g1, rfl, hBs, hkc2⟩ := HSP.out (by omega)
  have HN := hidden (rbe4 g1 0 kn kc 0 kd w1 hBs HKD.out.2.1 (by omega) hkc2 (by omega))
  clear hBs HSP
  generalize hV : beV kd 0 4 = V at *
  have HV := hidden hV
  clear hV
  have k0 : IntKind.i64.wrap V = V := by rw [IntKind.wrap_i64]; omega
  have t1 : ((kn : Int) - 4).tmod 12 = ((kn - 4) % 12 : Nat) := by rw [Int.tmod_eq_emod_of_nonneg (by omega)]; omega
  have t2 : ((kn : Int) - 4).tdiv 12 = ((kn - 4) / 12 : Nat) := by rw [Int.tdiv_eq_ediv_of_nonneg (by omega)]; omega
  by_cases q0 : (kn - 4) % 12 ≠ 0
  · have hRR : R = ([], 61, 12) := HRF.out _ _ (by decide) (by have e61 : idxR cs = 61 := by {rw [HID.out, if_pos (by omega)]}; rw [HR2.out, e61, if_pos (by decide)])
    subst hRR
    have q1 : ((((kn - 4) % 12 : Nat) : Int) != 0) = true := by simp; omega
    clear HR HRF HR2 HID HF2 HG HG2 HCL HBs
    go_wp2_with (go_at_call 26; refine HN.out.mono ?_; rintro e w9 ⟨rfl, hw⟩; obtain rfl := hw.symm)
    refine bodyPost_ret (v := .tuple #[.slice none 0 0, .int .i64 61, .int .i64 12]) (by simp [results, Try.results44, go_sem]) rfl ?_
    exact ⟨hb1, .inl ⟨by simp, rfl⟩⟩
  have q1 : ((((kn - 4) % 12 : Nat) : Int) != 0) = false := by simp; omega
  by_cases q3 : (((kn - 4) / 12 : Nat) : Int) ≠ V
  · have hRR : R = ([], 61, 12) := HRF.out _ _ (by decide) (by have e61 : idxR cs = 61 := by {rw [HID.out, if_pos (by omega)]}; rw [HR2.out, e61, if_pos (by decide)])
    subst hRR
    have q4 : ((((kn - 4) / 12 : Nat) : Int) != V) = true := by simpa using q3
    clear HR HRF HR2 HID HF2 HG HG2 HCL HBs q3
    go_wp2_with (go_at_call 26; refine HN.out.mono ?_; rintro e w9 ⟨rfl, hw⟩; obtain rfl := hw.symm)
    refine bodyPost_ret (v := .tuple #[.slice none 0 0, .int .i64 61, .int .i64 12]) (by simp [results, Try.results44, go_sem]) rfl ?_
    exact ⟨hb1, .inl ⟨by simp, rfl⟩⟩
  have q4 : ((((kn - 4) / 12 : Nat) : Int) != V) = false := by simpa using q3
  have hKV : (kn : Int) = 4 + 12 * V := by omega
  rw [if_neg (not_not_intro hKV)] at HID
  by_cases r1 : 512 < V
  · have hRR : R = ([], 4, 12) := HRF.out _ _ (by decide) (by have e61 : idxR cs = 4 := by {rw [HID.out, if_pos r1]}; rw [HR2.out, e61, if_pos (by decide)])
    subst hRR
    clear HR HRF HR2 HID HF2 HG HG2 HCL HBs q3 hKV
    go_wp2_with (go_at_call 26; refine HN.out.mono ?_; rintro e w9 ⟨rfl, hw⟩; obtain rfl := hw.symm)
    refine bodyPost_ret (v := .tuple #[.slice none 0 0, .int .i64 4, .int .i64 12]) (by simp [results, Try.results44, go_sem]) rfl ?_
    exact ⟨hb1, .inl ⟨by simp, rfl⟩⟩
  rw [if_neg r1] at HID
  obtain ⟨N, rfl⟩ := Int.eq_ofNat_of_zero_le hv.1
  have hN : N ≤ 512 := by omega
  have hNi : (N : Int) ≤ 512 := by omega
  obtain ⟨n0, hd0, hn0, hL0⟩ := HF2.out
  obtain rfl := hn0
  have hO2 : O = ego cs kd N 0 [] := by
    have e0 := HID.out
    rw [HR2.out, e0, if_neg (by simp), Int.toNat_natCast]
  have HOE := hidden hO2.symm
  have HD0 := hidden hd0
  have HKV := hidden hKV
  have hL24 : 24 + 12 * N ≤ L := by omega
  clear HID HR2 HF2 hO2 hd0 q3 hKV HRF
  go_upto_region 15 with (go_at_call 26; refine HN.out.mono ?_; rintro e w9 ⟨rfl, hw⟩; obtain rfl := hw.symm)
  go_cut [13] from 24 to 79 (fun v wx => v = .int .i64 0 ∧ wx = w1)
  case first =>
    go_wp2
    go_meet
    exact ⟨rfl, rfl⟩
  obtain ⟨hv13, hwc⟩ := hcut
  subst hv13
  obtain rfl := hwc.symm
  go_wp2
  generalize hKSd : ((⟨⟨#[82, 73, 100, 120]⟩, some ⟨g1, 0, none⟩, kn, kc, kd⟩ : Ck) :: ks) = KS at *
  clear hKSd c0 c1 t1 t2 q1 q4 HN hkn q0 k0 j1 j2 j3 hz
  have hKL1 : kl ≤ 1024 := by have := HKL.out; omega
  go_loopw [12, 13] (fun ov iv w' => ∃ (i : Nat) (rs : List Rk) (acc : List En) (ao2 : Option Addr) (cv2 : Nat), i ≤ N ∧ iv = .int .i64 (i : Int) ∧ ov = .slice ao2 i cv2 ∧ Hid (rs.length = i ∧ acc.length = i) ∧ GotR w1.heap.size w' (.slice ao2 i cv2) rs ∧ Hid (ego cs kd (N - i) i acc = O) ∧ Hid (rs.map srOf = acc.map (resS cs)) ∧ (∀ r ∈ rs, OkB r.d ∧ 0 ≤ r.x ∧ r.x ≤ 4294967295) ∧ Below w1.heap.size w1 w') (fun _ iv _ => N - (intOf iv).toNat)
  case atStart => exact ⟨0, [], [], none, 0, by omega, rfl, rfl, hidden ⟨rfl, rfl⟩, ⟨World.ownsRow_nil _ _ _ _, fun r hr => by cases hr⟩, HOE, hidden rfl, (fun r hr => by cases hr), Below.refl _ _⟩
  case round =>
    obtain ⟨i, rs, acc, ao2, cv2, hiN, rfl, rfl, HIL, hgr, HE, HMP, hokr, hbl⟩ := hrel
    generalize hwq : wr = wq at *
    clear hwq
    have hs2 := hbl.size
    have HGR := hidden hgr
    have HOR := hidden hokr
    clear hgr hokr HOE
    by_cases hlt : i < N
    · obtain ⟨F', hF'⟩ : ∃ F', N - i = F' + 1 := ⟨N - i - 1, by omega⟩
      obtain ⟨p, hp⟩ : ∃ p, p = 24 + 12 * i := ⟨_, rfl⟩
      have hst := HE.out
      rw [hF'] at hst
      unfold ego at hst
      have hkn : kn = 4 + 12 * N := by have := HKV.out; omega
      rw [HD0.out, seg_seg zs 20 kn (4 + 12 * i) 4 (by omega), beV_seg zs 20 kn (8 + 12 * i) (by omega), beV_seg zs 20 kn (12 + 12 * i) (by omega), ← HD0.out, show 20 + (4 + 12 * i) = p by omega, show 20 + (8 + 12 * i) = p + 4 by omega, show 20 + (12 + 12 * i) = p + 8 by omega] at hst
      have HST := hidden hst
      have ep : (24 : Int) + 12 * (i : Int) = (p : Int) := by omega
      have hpL : p + 12 ≤ L := by omega
      have hpi : (p : Int) ≤ 1000012 := by omega
      have hii : (i : Int) < (N : Int) := by omega
      have HFI := hidden hF'
      have HPI := hidden hp
      clear hst HE hkn hF' hp
      have hbw : Below w.heap.size w wq := hb1.trans (hbl.mono hs1)
      have HB := hidden (HBs.out.later hbw)
      have hcvp := conv_reads wq _ _ _ _ (seg_okb HOK.out p 4) (HB.out.sub p 4 (cap - p) (by omega) (by omega))
      have hcvp' : (convert 22 9 (.slice (some ⟨g, o + p, none⟩) 4 (cap - p))).run Try.prog wq = .ok (.string (strA (seg zs p 4))) wq := hcvp
      have HN1 := hidden (rbe4 g o L cap (p + 4) zs wq HB.out HOK.out (by omega) hcap (by omega))
      have HN2 := hidden (rbe4 g o L cap (p + 8) zs wq HB.out HOK.out (by omega) hcap (by omega))
      rw [show ((p + 4 : Nat) : Int) = (p : Int) + 4 by omega] at HN1
      rw [show ((p + 8 : Nat) : Int) = (p : Int) + 8 by omega] at HN2
      have hvX := beV_bd zs (p + 4) HOK.out
      have hvS := beV_bd zs (p + 8) HOK.out
      have hsp : (strA (seg zs p 4)).size = 4 := by
        show (strB _).toArray.size = _
        have := seg_len zs p 4 (by omega)
        simp [strB, this]
      have n1 : ¬ cap = p := by omega
      have e2 : ((p : Int) + 4).toNat = p + 4 := by omega
      have e3 : p + 4 - p = 4 := by omega
      have e4 : (p : Int) + 4 ≤ (cap : Int) := by omega
      have e5 : (p : Int) + 4 ≤ 9223372036854775807 := by omega
      have z1 : (0 : Int) ≤ (p : Int) + 4 := by omega
      have w2 : IntKind.i64.wrap (12 * (i : Int)) = 12 * (i : Int) := by rw [IntKind.wrap_i64]; omega
      have w3 : IntKind.i64.wrap ((p : Int) + 8) = (p : Int) + 8 := by rw [IntKind.wrap_i64]; omega
      have w4 : IntKind.i64.wrap ((p : Int) + 4) = (p : Int) + 4 := by rw [IntKind.wrap_i64]; omega
      have w5 : IntKind.i64.wrap (p : Int) = (p : Int) := by rw [IntKind.wrap_i64]; omega
      clear hcvp
      have HRF : Hid (∀ E A, E ≠ 0 → O = ([], E, A) → R = ([], E, A)) := hidden fun E A hE e => by rw [HR.out, e]; simp [hE]
      generalize hX : beV zs (p + 4) 4 = X at *
      generalize hS : beV zs (p + 8) 4 = ST at *
      generalize hU : strA (seg zs p 4) = sU at *
      clear hX hS hU
      by_cases c2 : ¬ IsId sU
      · have hRR : R = ([], 61, (p : Int)) := HRF.out _ _ (by decide) (by rw [← HST.out, if_pos c2]; congr 2)
        subst hRR
        have HT := ridc_f c2 (by omega)
        clear HST HR HRF c2 HG HG2 HGR HCL HALL HCS HMP HOR HIL
        go_wp2_with (first | (go_at_call 26; (with_reducible refine HN1.out.mono ?_); rintro e w9 ⟨rfl, hw⟩; obtain rfl := hw.symm) | (go_at_call 26; (with_reducible refine HN2.out.mono ?_); rintro e w9 ⟨rfl, hw⟩; obtain rfl := hw.symm) | (go_at_call 40; refine (HT.out _).mono ?_; rintro e w9 ⟨rfl, hw⟩; obtain rfl := hw.symm))
        refine bodyPost_ret (v := .tuple #[.slice none 0 0, .int .i64 61, .int .i64 p]) (by simp [results, Try.results44, go_sem]) rfl ?_
        exact ⟨hbw, .inl ⟨by simp, rfl⟩⟩
      rw [if_neg c2] at HST
      have HT := ridc_t (Classical.not_not.1 c2)
      clear c2
      go_wp2_with (first | (go_at_call 26; (with_reducible refine HN1.out.mono ?_); rintro e w9 ⟨rfl, hw⟩; obtain rfl := hw.symm) | (go_at_call 26; (with_reducible refine HN2.out.mono ?_); rintro e w9 ⟨rfl, hw⟩; obtain rfl := hw.symm) | (go_at_call 40; refine (HT.out _).mono ?_; rintro e w9 ⟨rfl, hw⟩; obtain rfl := hw.symm))
      clear HN1 HN2 HT hcvp'
      have HRk : Hid (Rks wq ao2 i cv2 rs) := hidden (by
        have hh := HIL.out.1
        have hg := HGR.out
        rw [← hh] at hg ⊢
        exact rks_own hg (fun r hr => (HOR.out r hr).1) (fun r hr => (HOR.out r hr).2))
      have HAM := hidden (among_iff HMP.out sU X)
      go_loopw [20] (fun kv w'' => ∃ j : Nat, j ≤ i ∧ kv = .int .i64 (j : Int) ∧ Hid (∀ t r, t < j → rs[t]? = some r → ¬ (r.u = sU ∧ r.x = X)) ∧ w'' = wq) (fun kv _ => i - (intOf kv).toNat)
      case atStart => exact ⟨0, by omega, rfl, hidden (fun t r ht => by omega), rfl⟩
      case round =>
        obtain ⟨j, hj, rfl, HNO, hwe⟩ := hrel
        obtain rfl := hwe.symm
        by_cases hji : j < i
        · have hjc : j < rs.length := by have := HIL.out.1; omega
          obtain ⟨b2, off2, hao2, hc2⟩ : ∃ b off, ao2 = some ⟨b, off, none⟩ ∧ ∀ t (h : t < rs.length), wq.cell? ⟨b, off + t * 4, none⟩ = some (.string rs[t].u) ∧ wq.cell? ⟨b, off + t * 4 + 1, none⟩ = some (.int .u32 rs[t].x) ∧ wq.cell? ⟨b, off + t * 4 + 2, none⟩ = some (.string rs[t].id) ∧ wq.cell? ⟨b, off + t * 4 + 3, none⟩ = some (.slice rs[t].a rs[t].l rs[t].c) := by
            rcases HRk.out.2.2.1 with h0 | h0
            · omega
            · exact h0
          subst hao2
          have c0 := (hc2 j hjc).1
          have c1 := (hc2 j hjc).2.1
          have hx := HOR.out rs[j] (List.getElem_mem hjc)
          have HMEM := hidden (List.getElem_mem hjc)
          have HAT : Hid (rs[j]? = some rs[j]) := hidden (List.getElem?_eq_getElem hjc)
          have hcv2 : i ≤ cv2 := HRk.out.2.1
          generalize rs[j] = r at *
          have hji2 : (j : Int) < (i : Int) := by omega
          have hj0 : (0 : Int) ≤ (j : Int) := by omega
          have hii9 : (i : Int) ≤ 512 := by omega
          clear hc2
          by_cases d1 : r.u = sU
          · by_cases d2 : r.x = X
            · have hRR : R = ([], 6, (p : Int)) := HRF.out _ _ (by decide) (by rw [← HST.out, if_pos (HAM.out.2 ⟨r, HMEM.out, d1, d2⟩)]; congr 2)
              subst hRR
              rw [d1] at c0
              rw [d2] at c1
              clear HST HR HRF d1 d2 HG HG2 HGR HCL HALL HCS HMP HOR HIL HRk HAM HNO HMEM HAT
              go_wp2
              refine bodyPost_ret (v := .tuple #[.slice none 0 0, .int .i64 6, .int .i64 p]) (by simp [results, Try.results44, go_sem]) rfl ?_
              exact ⟨hbw, .inl ⟨by simp, rfl⟩⟩
            · have HNO2 : Hid (∀ t r, t < j + 1 → rs[t]? = some r → ¬ (r.u = sU ∧ r.x = X)) := hidden fun t r' ht hr' => by
                by_cases e : t = j
                · subst e
                  rw [HAT.out] at hr'
                  obtain rfl := Option.some.inj hr'
                  exact fun hh => d2 hh.2
                · exact HNO.out t r' (by omega) hr'
              rw [d1] at c0
              have d3 : (r.x == X) = false := by simpa using d2
              clear HST HR HRF d1 d2 HG HG2 HGR HCL HALL HCS HMP HOR HIL HRk HAM HNO HMEM HAT
              generalize r.x = Y at *
              go_wp2
              go_roundw
              case rel => exact ⟨j + 1, by omega, by go_num, HNO2, by first | trivial | rfl⟩
              case measure => simp [intOf]; omega
          · have HNO2 : Hid (∀ t r, t < j + 1 → rs[t]? = some r → ¬ (r.u = sU ∧ r.x = X)) := hidden fun t r' ht hr' => by
              by_cases e : t = j
              · subst e
                rw [HAT.out] at hr'
                obtain rfl := Option.some.inj hr'
                exact fun hh => d1 hh.1
              · exact HNO.out t r' (by omega) hr'
            have d3 := str_f d1
            clear HST HR HRF d1 HG HG2 HGR HCL HALL HCS HMP HOR HIL HRk HAM HNO HMEM HAT
            generalize r.u = Y at *
            go_wp2
            go_roundw
            case rel => exact ⟨j + 1, by omega, by go_num, HNO2, by first | trivial | rfl⟩
            case measure => simp [intOf]; omega
        · obtain rfl : j = i := by omega
          have hna : ¬ Among acc sU X := fun hh => by
            obtain ⟨r, hr, h1, h2⟩ := HAM.out.1 hh
            obtain ⟨t, ht, e⟩ := List.getElem_of_mem hr
            have := HIL.out.1
            exact HNO.out t r (by omega) (by rw [List.getElem?_eq_getElem ht, e]) ⟨h1, h2⟩
          rw [if_neg hna] at HST
          clear hna HAM HNO
          have hjj : ¬ (j : Int) < (j : Int) := by omega
          go_wp2
          have k1 : IntKind.i64.wrap ST = ST := by rw [IntKind.wrap_i64]; omega
          have HLN : Hid (∀ wx, Below w1.heap.size w1 wx → ∀ t c, KS[t]? = some c → c.l ≤ 1000012 → Calls Try.prog 41 #[.slice (some ⟨b, off + t * 2, none⟩) 1 (cv - t)] wx fun e w' => e = .returned (.int .i64 ((8 + c.l + c.l % 2 : Nat) : Int)) ∧ Below wx.heap.size wx w') := hidden fun wx hb t c ht hl => len_one HG2.out hb t c ht hl
          go_loopw [21, 22, 23] (fun cvv pv kv w'' => ∃ t : Nat, t ≤ kl ∧ cvv = .int .i64 ((ixT cs ST t : Nat) : Int) ∧ pv = .int .i64 ((12 + ssz (cs.take t) : Nat) : Int) ∧ kv = .int .i64 (t : Int) ∧ Below wq.heap.size wq w'') (fun _ _ kv _ => kl - (intOf kv).toNat)
          case atStart => exact ⟨0, by omega, by rw [ixT_zero]; rfl, rfl, rfl, Below.refl _ _⟩
          case round =>
            obtain ⟨t, ht, rfl, rfl, rfl, hbt⟩ := hrel
            by_cases htk : t < kl
            · have htc : t < cs.length := by have := HCS.out; have := HKL.out; rw [← HCS.out, List.length_map]; omega
              obtain ⟨c, hc⟩ : ∃ c, KS[t]? = some c := ⟨_, List.getElem?_eq_getElem (by have := HKL.out; omega)⟩
              have hcm : c ∈ KS := List.mem_of_getElem? hc
              have hcs : cs[t] = scOf c := by
                have h1 := HCS.out
                have h2 : cs[t]? = some (scOf c) := by rw [← h1, List.getElem?_map, hc]; rfl
                exact (List.getElem?_eq_some_iff.1 h2).2
              have hcl : c.l ≤ 1000012 := Nat.le_trans (sizes_mem hcm) hsz2
              have HSN : Hid (12 + ssz (cs.take (t + 1)) = 12 + ssz (cs.take t) + (8 + c.l + c.l % 2)) := hidden (by
                have h1 := ssz_snoc cs t htc
                have h2 : (scOf c).2.length = c.l := (HALL.out c hcm).1
                rw [hcs, h2] at h1
                omega)
              have hsm : 12 + ssz (cs.take t) ≤ 1000024 := by have := ssz_take_le cs t; omega
              have HHT := hidden (ixT_hit cs ST t htc)
              have HMS := hidden (ixT_miss cs ST t htc)
              have HL1 := hidden (HLN.out wr (hbl.trans (hbt.mono hs2)) t c hc hcl)
              have hktl : t + 1 ≤ kl := by omega
              clear hc hcm hcs htc
              generalize 12 + ssz (cs.take t) = Q at *
              generalize ixT cs ST t = D at *
              generalize c.l = cn at *
              have u1 : ¬ cv = t := by omega
              have u2 : ((t : Int) + 1).toNat = t + 1 := by omega
              have u3 : t + 1 - t = 1 := by omega
              have u4 : (t : Int) + 1 ≤ (cv : Int) := by omega
              have u5 : (0 : Int) ≤ (t : Int) + 1 := by omega
              have u6 : IntKind.i64.wrap ((t : Int) + 1) = (t : Int) + 1 := by rw [IntKind.wrap_i64]; omega
              have u7 : (t : Int) < (kl : Int) := by omega
              have u8 : IntKind.i64.wrap ((Q : Int) + ((8 + cn + cn % 2 : Nat) : Int)) = (Q : Int) + ((8 + cn + cn % 2 : Nat) : Int) := by rw [IntKind.wrap_i64]; omega
              have HU8 : Hid ((Q : Int) + ((8 + cn + cn % 2 : Nat) : Int) = ((Q + (8 + cn + cn % 2) : Nat) : Int)) := hidden (by omega)
              generalize 8 + cn + cn % 2 = CN at *
              by_cases f1 : (Q : Int) = ST
              · have f2 : ((Q : Int) == ST) = true := by simpa using f1
                have HD := hidden (HHT.out f1)
                clear HHT HMS HST HR HRF HG HG2 HGR HCL HALL HCS HMP HOR HIL HRk f1
                go_wp2_with (go_at_call 41; refine HL1.out.mono ?_; rintro e w9 ⟨rfl, hb9⟩)
                go_roundw
                case rel => exact ⟨t + 1, hktl, by rw [HD.out], by rw [HSN.out]; exact int_eq HU8.out, by go_num, hbt.trans (hb9.mono hbt.size)⟩
                case measure => simp [intOf]; omega
              · have f2 : ((Q : Int) == ST) = false := by simpa using f1
                have HD := hidden (HMS.out f1)
                clear HHT HMS HST HR HRF HG HG2 HGR HCL HALL HCS HMP HOR HIL HRk f1
                go_wp2_with (go_at_call 41; refine HL1.out.mono ?_; rintro e w9 ⟨rfl, hb9⟩)
                go_roundw
                case rel => exact ⟨t + 1, hktl, by rw [HD.out], by rw [HSN.out]; exact int_eq HU8.out, by go_num, hbt.trans (hb9.mono hbt.size)⟩
                case measure => simp [intOf]; omega
            · obtain rfl : t = kl := by omega
              have hcl0 : cs.length = t := by have := HKL.out; rw [← HCS.out, List.length_map]; exact this
              have hix : ixT cs ST t = ixS cs ST := by rw [← hcl0]; exact ixT_all cs ST
              rw [hix]
              have HIX := hidden (ixS_lt cs ST)
              rw [hcl0] at HIX
              have htt : ¬ (t : Int) < (t : Int) := by omega
              generalize 12 + ssz (cs.take t) = Q at *
              have hbw2 : Below w.heap.size w wr := hbw.trans (hbt.mono (by omega))
              clear hix hcl0 HLN
              by_cases f1 : ixS cs ST = 0
              · have hRR : R = ([], 61, (p : Int) + 8) := HRF.out _ _ (by decide) (by rw [← HST.out, if_pos f1]; congr 2; have := HPI.out; omega)
                subst hRR
                rw [f1]
                clear HST HR HRF f1 HG HG2 HGR HCL HALL HCS HMP HOR HIL HRk HIX
                go_wp2
                refine bodyPost_ret (v := .tuple #[.slice none 0 0, .int .i64 61, .int .i64 ((p : Int) + 8)]) (by simp [results, Try.results44, go_sem]) rfl ?_
                exact ⟨hbw2, .inl ⟨by simp, rfl⟩⟩
              rw [if_neg f1] at HST
              have hit := HIX.out f1
              generalize hXI : ixS cs ST = xi at *
              clear hXI HIX
              have f2 : ((xi : Int) == 0) = false := by simpa using f1
              go_upto_region 39 with fail
              have hil := HIL.out.1
              obtain ⟨c, hcx⟩ : ∃ c, KS[xi]? = some c := ⟨_, List.getElem?_eq_getElem (by have := HKL.out; omega)⟩
              have hcm : c ∈ KS := List.mem_of_getElem? hcx
              have hcsx : cs.getD xi (⟨#[]⟩, []) = (c.id, c.d) := by
                have h2 : cs[xi]? = some (scOf c) := by rw [← HCS.out, List.getElem?_map, hcx]; rfl
                rw [List.getD_eq_getElem?_getD, h2]; rfl
              have hcl : c.l ≤ 1000012 := Nat.le_trans (sizes_mem hcm) hsz2
              have hca := HALL.out c hcm
              have HCA := hidden hca
              have hb19 : Below w1.heap.size w1 wr := hbl.trans (hbt.mono hs2)
              have HSL : Hid (∀ wx, Below w1.heap.size w1 wx → wx.cell? ⟨b, off + xi * 2, none⟩ = some (.string c.id) ∧ wx.cell? ⟨b, off + xi * 2 + 1, none⟩ = some (.slice c.a c.l c.c)) := hidden fun wx hb => ⟨cellLater hb (HCL.out xi c hcx).1, cellLater hb (HCL.out xi c hcx).2⟩
              have HOW : Hid (w1.ownsRow w.heap.size 5 1 (.slice c.a c.l c.c) c.l (bytesV c.d)) := hidden (HG.out.2 c hcm)
              have HGR2 := hidden (HGR.out.below hbt)
              have HB19 := hidden hb19
              have HCX := hidden hcsx
              have HHL := hidden hil
              have hs9 := hb19.size
              clear hil hcx hcm hcsx hca HCL HG HG2 HGR HRk HALL HCS hb19
              have hxi0 : (0 : Int) ≤ (xi : Int) := by omega
              have hxit : (xi : Int) < (t : Int) := by omega
              have HS0 := HSL.out wr.drew (HB19.out.trans (((Below.refl wr.heap.size wr).drew).mono hs9))
              have HS1 := HSL.out (wr.alloc (.cells #[] 5)).drew (HB19.out.trans ((((Below.refl wr.heap.size wr).alloc (Nat.le_refl _) _).drew).mono hs9))
              have HO1 := hidden (tail_made wr)
              obtain ⟨cid, ca, cn, cc, cd⟩ := c
              simp only at HS0 HS1 HCX HOW HSL HCA hcl
              have hbytes : (j : Int) < 512 := by omega
              have HRD1 := hidden (((reads_own HOW.out).1.later HB19.out).later (((Below.refl wr.heap.size wr).alloc (Nat.le_refl _) (.cells #[] 5)).drew))
              clear HBs HB HR HRF n1 e2 e3 e4 e5 z1 w2 w3 w4 w5 k1 htt hjj hssz hpL hpi ep hvS hsp hii f2 hbw2 hbw
              go_region_held3 (fun w' => w'.cell? ⟨b, off + xi * 2, none⟩ = some (.string cid) ∧ w'.cell? ⟨b, off + xi * 2 + 1, none⟩ = some (.slice ca cn cc)) (first | assumption | (dsimp only; assumption)) (first | (refine step_append_reads (by rfl) _ _ (by rfl) wr.heap.size _ 0 [] (by rfl) HO1.out ca cn cc cd (by rfl) HRD1.out (by omega) (by simp) ?_; intro v5 w5 hown5 hgrow5; obtain ⟨a5, c5, rfl, ho5, hb5⟩ := tail1 hown5 hgrow5; have hcd5 := HSL.out w5 (HB19.out.trans (hb5.mono hs9)); have hcd5' := HSL.out (w5.alloc (.cells #[.string sU, .int .u32 X, .string cid, .slice a5 cn c5] 49)) (HB19.out.trans ((hb5.alloc hb5.size _).mono hs9)); have HH5 := hidden (And.intro ho5 hb5); clear hown5 hgrow5 ho5 hb5) | (refine step_append_own (by rfl) _ _ 32 (by rfl) w1.heap.size 49 i0 (.agg #[.string ⟨#[]⟩, .int .u32 0, .string ⟨#[]⟩, .slice none 0 0]) 4 64 Try.underlying32 hi hz0 hz1 hz2' rfl (by decide) _ j (rksV rs) (by rfl) (ownR_alloc_len HHL.out (HGR2.out.below HH5.out.2) _) ⟨w5.heap.size, 0, none⟩ 1 1 [.string sU, .int .u32 X, .string cid, .slice a5 cn c5] (by rfl) rfl (cell_four_new w5 _ _ _ _ _) (by intro u hu; simp at hu; rcases hu with rfl | rfl | rfl | rfl <;> rfl) (by unfold maxLen; omega) (by omega) (by have := HH5.out.2.size; simp; omega) ?_; intro v6 w6 hown6 hgrow6; obtain ⟨ao3, cv3, rfl, hg6, hb6⟩ := tailR HHL.out HB19.out HGR2.out HH5.out.1 HH5.out.2 hown6 hgrow6; have hcd6 := HSL.out w6 hb6; have HG6 := hidden hg6; clear hg6 hown6 hgrow6))
              go_wp2
              go_roundw
              case rel =>
                have hil := HHL.out
                have hac := HIL.out.2
                refine ⟨j + 1, rs ++ [⟨sU, X, cid, a5, cn, c5, cd⟩], acc ++ [(sU, X, xi)], ao3, cv3, by omega, by go_num, rfl, hidden ⟨by simp [hil], by simp [hac]⟩, HG6.out, hidden ?_, hidden ?_, ?_, hb6⟩
                · have := HST.out
                  rw [show N - (j + 1) = F' by have := HFI.out; omega]
                  exact this
                · rw [List.map_append, List.map_append, HMP.out]
                  show _ ++ [(sU, X, cid, cd)] = _ ++ [(sU, X, (cs.getD xi (⟨#[]⟩, [])).1, (cs.getD xi (⟨#[]⟩, [])).2)]
                  rw [HCX.out]
                · intro r hr
                  rcases List.mem_append.1 hr with h' | h'
                  · exact HOR.out r h'
                  · rw [List.mem_singleton.1 h']; exact ⟨HCA.out.2.1, hvX⟩
              case measure => simp [intOf]; omega
    · obtain rfl : i = N := by omega
      have hR3 : R = (rs.map srOf, 0, (L : Int)) := by
        have hE := HE.out
        rw [Nat.sub_self] at hE
        have hE' : O = (acc, 0, 0) := hE.symm
        rw [HR.out, hE', HMP.out, hlen]
        simp
      subst hR3
      have hbw : Below w.heap.size w wq := hb1.trans (hbl.mono hs1)
      have hii : ¬ (i : Int) < (i : Int) := by omega
      clear HR HG HG2 HCL HBs
      go_wp2
      refine bodyPost_ret (v := .tuple #[.slice ao2 i cv2, .int .i64 0, .int .i64 L]) (by simp [results, Try.results44, go_sem]) rfl ?_
      have hil := HIL.out.1
      refine ⟨hbw, .inr ⟨rfl, ao2, cv2, rs, by rw [hil], by rw [hil]; exact ⟨own_base HGR.out.1 hs1, fun r hr => own_base (HGR.out.2 r hr) hs1⟩, rfl, fun r hr => (HOR.out r hr).1, by omega⟩⟩
end Go.Proofs.Ytedihackifchcaa
