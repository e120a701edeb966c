/- The walk of BlorbOthers: a chunk that no entry has is passed over; an entry more for a chunk that is there tells it again. -/
import Derived.Test.YtedihackifchcaaR6m
import Derived.Test.YtedihackifchcaaX6t
namespace Go.Proofs.Ytedihackifchcaa
open Go.RowKit
set_option maxHeartbeats 2000000
set_option maxRecDepth 100000
set_option linter.unusedVariables false

/-- what the copy is -/
def Copied (w10 : World) (rs : List Rk) (len : Nat) (w11 : World) (ao3 : Option Addr) (cv3 : Nat) (rs3 : List Rk) : Prop :=
  rs3.map srOf = rs.map srOf ∧ rs3.length = len ∧ w11.ownsRow w10.heap.size 49 4 (.slice ao3 len cv3) len (rksV rs3) ∧ (∀ r ∈ rs3, w11.ownsRow w10.heap.size 5 1 (.slice r.a r.l r.c) r.l (bytesV r.d)) ∧ Below w10.heap.size w10 w11
theorem want_row {w10 w11 wa w12 : World} {rs rs3 : List Rk} {len cv3 : Nat} {ao3 : Option Addr} (h : Copied w10 rs len w11 ao3 cv3 rs3) (hba : Below w11.heap.size w11 wa) (hg : wa.grownBy w12 (Value.slice ao3 len cv3).ownBlock) :
    (∀ r ∈ rs3, w12.ownsRow w10.heap.size 5 1 (.slice r.a r.l r.c) r.l (bytesV r.d)) ∧ Below w10.heap.size w10 w12 := by
  obtain ⟨-, -, h1, h2, h3⟩ := h
  have ho := own_later h1 hba
  have hb := h3.trans (hba.mono h3.size)
  refine ⟨fun r hr => ?_, hb.grown hg hb.size (fun j hj => (ho.lt j hj).1)⟩
  have h4 := own_later (h2 r hr) hba
  exact h4.kept hg (own_apart h4 ho (by decide))
theorem others_any (a : Option Addr) (len cap : Nat) (rs : List Rk) (a1 : Option Addr) (n1 c1 : Nat) (ex : List Int) (x : Int) (w : World) (h : IsRks w a len cap rs) (hr : Reads w a1 n1 c1 ex) (hok : OkB ex) (hb63 : n1 ≤ 9223372036854775807) (x0 : 0 ≤ x) (x1 : x ≤ 4294967295) :
    Calls Try.prog 6 #[.slice a len cap, .slice a1 n1 c1, .int .u32 x] w fun e w' => e = .returned (.bool true) ∧ Below w.heap.size w w' := by
  obtain ⟨i0, hi, hz0, hz1, hz2⟩ := info_parts info8
  obtain ⟨j0, ji, jz0, jz1, jz2⟩ := info_parts info59
  have HL := hidden live_any
  have HH := hidden (huge6 200 a len cap rs w h (by decide))
  have HC := hidden h.1
  have hlen := h.1.1
  have HST : Hid (∀ r ∈ rs, r.u.size ≤ 281474976710656 ∧ r.id.size ≤ 281474976710656) := hidden fun r hr => ⟨(h.2.2.1 r hr).2.2, (h.2.2.1 r hr).2.1⟩
  have HEX := hidden (And.intro hr hok)
  have hn63 : (n1 : Int) ≤ 9223372036854775807 := by omega
  have hcap := h.1.2.1
  clear h hr hok
  go_enter Try.func6, Try.ntmps6
  go_wp2_with fail
  refine HH.out.mono ?_
  rintro e w1 ⟨rfl | ⟨rfl, hl2, ht2⟩, hb1⟩
  · have HB := hidden hb1
    clear hb1
    go_wp2_with (first | (go_at_call 11; refine (HL.out _).mono ?_; rintro e w9 ⟨rfl, hb⟩) | fail)
    go_ret
    exact ⟨rfl, HB.out.trans (hb.mono HB.out.size)⟩
  have HB1 := hidden hb1
  clear hb1 HH
  by_cases hbig : 65536 < n1
  · have hbi : (65536 : Int) < (n1 : Int) := by omega
    go_wp2_with (first | (go_at_call 11; refine (HL.out _).mono ?_; rintro e w9 ⟨rfl, hb⟩) | fail)
    go_ret
    exact ⟨rfl, HB1.out.trans (hb.mono HB1.out.size)⟩
  have hbi : ¬ (65536 : Int) < (n1 : Int) := by omega
  by_cases hl0 : len = 0
  · subst hl0
    go_wp2_with (first | (go_at_call 11; refine (HL.out _).mono ?_; rintro e w9 ⟨rfl, hb⟩) | fail)
    go_ret
    exact ⟨rfl, HB1.out.trans (hb.mono HB1.out.size)⟩
  have hl0' : ((len : Int) == 0) = false := by simp; omega
  have hlp : 0 < len := by omega
  have hli : (len : Int) ≤ 200 := by omega
  have hl00 : (0 : Int) < (len : Int) := by omega
  have hsz : sizes (rs.map ckOf) ≤ 100000 := by have := totR_sizes rs; omega
  clear ht2
  go_wp2
  go_loop [7] (fun i => ∃ k : Nat, k ≤ len ∧ i = .int .i64 k ∧ Hid (∀ j (h : j < rs.length), j < k → rs[j].u ≠ ZZZZ)) (fun i => len - (intOf i).toNat)
  case atStart => exact ⟨0, by omega, rfl, hidden (fun j _ h => by omega)⟩
  case round =>
    obtain ⟨k, hk, rfl, HZ⟩ := hrel
    obtain ⟨b, off, rfl, hcell⟩ := HC.out.at (by omega)
    by_cases hlt : k < len
    · have hlt2 : (k : Int) < (len : Int) := by omega
      have hk0 : (0 : Int) ≤ (k : Int) := by omega
      have hkc : k < rs.length := by omega
      have c0 := cellLater HB1.out (hcell k hkc).1
      by_cases hz : rs[k].u = ZZZZ
      · rw [hz] at c0
        clear hcell hz
        go_wp2_with (first | (go_at_call 11; refine (HL.out _).mono ?_; rintro e w9 ⟨rfl, hb⟩) | fail)
        go_ret
        exact ⟨rfl, HB1.out.trans (hb.mono HB1.out.size)⟩
      · have HZ2 : Hid (∀ j (h : j < rs.length), j < k + 1 → rs[j].u ≠ ZZZZ) := hidden fun j hj hjk => by
          by_cases e : j = k
          · subst e; exact hz
          · exact HZ.out j hj (by omega)
        have g3 := strlit_f [122, 122, 122, 122] hz
        clear hcell hz HZ
        generalize rs[k].u = ru at *
        go_wp2
        go_round
        case rel => exact ⟨k + 1, by omega, by go_num, HZ2⟩
        case measure => simp [intOf]; omega
    · obtain rfl : len = k := by omega
      have hzz : ∀ s ∈ rs.map srOf, s.1 ≠ ZZZZ := fun s hs => by
        obtain ⟨r, hr, rfl⟩ := List.mem_map.1 hs
        obtain ⟨j, hj, rfl⟩ := List.getElem_of_mem hr
        exact HZ.out j hj (by omega)
      have HZZ := hidden hzz
      clear hzz HZ
      have HRL := hidden (rlay_any (some ⟨b, off, none⟩) len cap rs w1 (HC.out.later HB1.out) (by omega) HST.out (by omega))
      go_wp2_with fail
      refine HRL.out.mono ?_
      rintro e w2 ⟨hb2, ⟨hne, rfl⟩ | ⟨hz, v, rfl, ho⟩⟩
      · have hB2 := HB1.out.trans (hb2.mono HB1.out.size)
        have hne2 : (checkR rs != 0) = true := by simpa using hne
        generalize checkR rs = E at *
        clear HRL hb2 hcell
        go_wp2_with (first | (go_at_call 11; refine (HL.out _).mono ?_; rintro e w9 ⟨rfl, hb⟩) | fail)
        go_ret
        exact ⟨rfl, hB2.trans (hb.mono hB2.size)⟩
      have hlo := layOk_of HC.out hz (by omega)
      have HLO := hidden hlo
      have hZl := layS_len hlo
      have hssz : sizes (rs.map ckOf) = ssz ((rs.map srOf).map ckS) := by
        rw [sizes_ssz _ (fun c hc => by obtain ⟨r, hr, rfl⟩ := List.mem_map.1 hc; exact (HC.out.2.2.2 r hr).1.1)]
        congr 1
        rw [List.map_map, List.map_map]; rfl
      have hsl : (rs.map srOf).length = len := by simpa using hlen
      rw [hsl, ← hssz] at hZl
      obtain ⟨g, c, rfl, hgc, hgb⟩ := owned_shape ho (by omega)
      have hB := own_bs ho
      have HB2 := hidden (HB1.out.trans (hb2.mono HB1.out.size))
      have HP := hidden (rparse_any g 0 (layS (rs.map srOf)).length c (layS (rs.map srOf)) w2 hB (layS_ok hlo) (by omega) hgc)
      rw [parse_lay hlo, kind_lay hlo] at HP
      have HSS := hidden hssz
      have hL9 : (layS (rs.map srOf)).length ≤ 1000012 := by omega
      clear ho hb2 hB HRL HB1 hz hZl hlo hssz hcell HST
      generalize (layS (rs.map srOf)).length = T at *
      have hTi : (T : Int) ≤ 1000012 := by omega
      obtain ⟨ss, hss⟩ : ∃ ss, ss = rs.map srOf := ⟨_, rfl⟩
      have HSE := hidden hss
      rw [← hss] at HZZ HLO hsl HP HSS
      clear hss
      go_wp2_with fail
      refine HP.out.mono ?_
      rintro e w3 ⟨hb3, ⟨hne, -⟩ | ⟨-, -, ao, cv, ks, rfl, hgot, hkm, hkd, hk1⟩⟩
      · exact absurd rfl hne
      have hkl : ks.length = len + 1 := by
        have := congrArg List.length hkm
        simp [layCs, hsl] at this
        omega
      have hB3 := HB2.out.trans (hb3.mono HB2.out.size)
      have HB3 := hidden hB3
      have HG := hidden hgot
      have HKM := hidden hkm
      have HKD := hidden hkd
      have hck : Cks w3 ao ks.length cv ks := got_cks hgot rfl (fun k hk => (hkd k hk).2.1)
      have hksz : sizes ks ≤ 10000000 := by
        rw [sizes_ssz ks (fun k hk => (hkd k hk).1), hkm, layCs_ssz HLO.out, ← HSS.out, hsl]; omega
      have HPl := hidden (rplaces_any ao ks.length cv ks w3 hck hksz (by omega))
      rw [plK_plS ks (fun k hk => (hkd k hk).1), hkm] at HPl
      rw [hkl] at HPl ⊢
      have HS2W := hidden HB2.out.size
      clear hgot hkm hkd hck hksz hb3 hB3 HP HB2
      go_wp2_with fail
      refine HPl.out.mono ?_
      rintro e w4 ⟨vp, rfl, hop, hbp⟩
      have hB4 := HB3.out.trans (hbp.mono HB3.out.size)
      have HB4 := hidden hB4
      -- the chunks
      obtain ⟨k0, kt, rfl⟩ : ∃ k0 kt, ks = k0 :: kt := by
        cases ks with
        | nil => simp at hkl
        | cons k0 kt => exact ⟨k0, kt, rfl⟩
      have hkm := HKM.out
      unfold layCs at hkm
      rw [List.map_cons, List.cons.injEq] at hkm
      obtain ⟨hk0s, hkts⟩ := hkm
      have hk0d : k0.d = idxS ss (plR ss) := congrArg Prod.snd hk0s
      have hk0i : k0.id = RIDX := congrArg Prod.fst hk0s
      have hk0l : k0.l = 4 + 12 * len := by rw [← (HKD.out k0 List.mem_cons_self).1, hk0d, lay_idx_len HLO.out, hsl]
      obtain ⟨gk, ck, hke, hkc, hkb⟩ : ∃ g c, (Value.slice ao (k0 :: kt).length cv) = .slice (some ⟨g, 0, none⟩) (k0 :: kt).length c ∧ (k0 :: kt).length ≤ c ∧ w2.heap.size ≤ g := by
        rcases HG.out.1.2 with ⟨_, h0⟩ | ⟨g, c, cur, e, hbg, _, hnc, _⟩
        · simp at h0
        · exact ⟨g, c, e, hnc, hbg⟩
      simp only [Value.slice.injEq, true_and] at hke
      obtain ⟨rfl, rfl⟩ := hke
      have ho0 := HG.out.2 k0 List.mem_cons_self
      obtain ⟨g0, q0, hge, hq0, hg0b⟩ := owned_shape ho0 (by omega)
      have hk0a : k0.a = some ⟨g0, 0, none⟩ := by simp only [Value.slice.injEq] at hge; exact hge.1
      have hk0c : k0.l ≤ k0.c := by simp only [Value.slice.injEq] at hge; omega
      clear hge
      have hcell1 : w3.cell? ⟨gk, 1, none⟩ = some (.slice k0.a k0.l k0.c) := by
        have e1 := HG.out.1.cells (g := gk) rfl 1 (.slice k0.a k0.l k0.c) rfl
        rw [plain_add] at e1
        exact e1
      rw [hk0a, hk0l] at hcell1
      have hread0 : Reads w3 (some ⟨g0, 0, none⟩) (4 + 12 * len) k0.c (idxS ss (plR ss)) := by
        have := (reads_own ho0).1
        rw [hk0a, hk0l, hk0d] at this
        exact this
      have hKC : 4 + 12 * len ≤ k0.c := by omega
      generalize k0.c = kc0 at *
      -- the places
      obtain ⟨gp, cp, hpe, hpc, hpb⟩ : ∃ g c, vp = .slice (some ⟨g, 0, none⟩) (len + 1) c ∧ len + 1 ≤ c ∧ w3.heap.size ≤ g := by
        rcases hop.2 with ⟨_, h0⟩ | ⟨g, c, cur, e, hbg, _, hnc, _⟩
        · omega
        · exact ⟨g, c, e, hnc, hbg⟩
      subst hpe
      obtain ⟨P, hP⟩ : ∃ P : Int, P = (plR ss).getD 0 0 := ⟨_, rfl⟩
      have hpcell : w4.cell? ⟨gp, 1, none⟩ = some (.int .i64 P) := by
        have hcl : (layCs ss).length = len + 1 := by simp [layCs, hsl]
        have e1 := hop.cells (g := gp) rfl 1 _ (intsV_at _ 1 (by rw [plS_len]; omega))
        rw [plain_add, Nat.zero_add] at e1
        rw [e1, hP, plR_lay HLO.out]
        simp [List.getD_eq_getElem?_getD]
      have hPb : 0 ≤ P ∧ P ≤ 1000000 := by
        have := qAll_bd HLO.out x (by omega) (zRes ss x, (plR ss).getD 0 0) (List.mem_append.2 (.inr (List.mem_singleton.2 rfl)))
        rw [hP]; exact this
      obtain ⟨hP0, hP1⟩ := hPb
      have hPw : IntKind.u32.wrap P = P := by rw [IntKind.wrap_u32]; omega
      have HPE := hidden hP
      have HK0I := hidden hk0i
      have HKTS := hidden hkts
      clear hP hop hk0s hk0d hk0i hk0l hk0a hk0c ho0 hq0 hg0b HPl hkts
      -- a copy of the index
      have hbd0 : Below w4.heap.size w4 (w4.alloc (.cells #[] 5)) := (Below.refl _ _).alloc (Nat.le_refl _) _
      have HO := hidden (World.ownsRow_made (base := w4.heap.size) (e := 5) (size := 1) w4 #[] 0 (Nat.le_refl _) (Nat.zero_le _) (by simp))
      have cc1 := cellLater hbd0 (cellLater hbp hcell1)
      have HCE := hidden hcell1
      have HIL := hidden (lay_idx_len HLO.out)
      rw [hsl] at HIL
      have HN1 := hidden ((hread0.later hbp).later hbd0).news
      have HNL : Hid ((bytesV (idxS ss (plR ss))).length = (4 + 12 * len) * 1) := hidden (by simp [bytesV, HIL.out])
      have HPC : Hid (∀ wx, Below w4.heap.size w4 wx → wx.cell? ⟨gp, 1, none⟩ = some (.int .i64 P)) := hidden fun wx hx => cellLater hx hpcell
      have HBP := hidden hbp
      have hlc : (len : Int) + 1 ≤ (cp : Int) := by omega
      have hlk : (0 : Int) < (len : Int) + 1 := by omega
      have hlk1 : (1 : Int) < (len : Int) + 1 := by omega
      have HKL := hidden hkl
      clear hcell1 hpcell hread0 hB4 hbp
      go_wp2_with (at_builtin; refine wpList_append_own _ rfl (.tmp 70) (.tmp 74) 22 rfl w4.heap.size 5 i0 (.int .u8 0) 1 1 Try.underlying22 hi hz0 hz1 hz2 rfl (by decide) _ _ _ rfl HO.out ⟨g0, 0, none⟩ (4 + 12 * len) kc0 (bytesV (idxS ss (plR ss))) rfl HNL.out HN1.out (bytesV_one _) (by unfold maxLen; omega) (by omega) (by first | omega | (simp; done) | (simp; omega)) ?_; intro v1 w5 hown1 hgrow1 hiff1; clear hiff1; refine Hid.out ?_)
      have hb5 : Below w4.heap.size w4 w5 := hbd0.grown hgrow1 (by simp) (by intro k hk; have e : some w4.heap.size = some k := hk; simp at e; omega)
      simp only [Nat.zero_add, List.nil_append] at hown1
      have HD1 := hidden hown1
      have hs5 := hb5.size
      clear hown1 hgrow1 HO HN1 HNL hbd0 cc1
      refine hidden ?_
      go_wp2_with (at_builtin; refine Lib.wpList_append_own_string _ rfl (.tmp 76) (.const (.string ZZZZ)) 22 9 rfl w4.heap.size 5 i0 Try.underlying22 Try.underlying9 hi hz0 hz1 hz2 _ _ _ rfl HD1.out ZZZZ rfl (by show 4 + 12 * len + 4 ≤ maxLen; unfold maxLen; omega) (by show 4 + 12 * len + 4 ≤ _; omega) (by omega) ?_; intro v2 w6 hown2 hgrow2 hiff2; clear hiff2; refine Hid.out ?_)
      have hb6 : Below w4.heap.size w4 w6 := hb5.grown hgrow2 hs5 (fun k hk => (HD1.out.lt k hk).1)
      rw [idI_cells, bytesV_append] at hown2
      replace hown2 := own_len_eq hown2 (show 4 + 12 * len + ZZZZ.size = 8 + 12 * len by show 4 + 12 * len + 4 = _; omega)
      have HD2 := hidden hown2
      have hs6 := hb6.size
      clear hown2 hgrow2 HD1 hb5 hs5
      refine hidden ?_
      go_wp2_with (first | (go_at_call 25; refine (rput_4 x _ (by omega) (by omega)).mono ?_; rintro e w7 ⟨pv, rfl, hop, hb7⟩; refine Hid.out ?_) | fail)
      obtain ⟨gq, cq, rfl, hcq, -⟩ := owned_shape hop (by omega)
      have HNp : Hid (∀ j u, (bytesV (putL x 4))[j]? = some u → w7.cell? ((⟨gq, 0, none⟩ : Addr).add j) = some u) := hidden (bs_news (own_bs hop) hcq)
      have hb8 : Below w4.heap.size w4 w7 := hb6.trans (hb7.mono hs6)
      have HD3 := hidden (own_later HD2.out hb7)
      have hs7 := hb8.size
      clear hop hb7 HD2 hb6 hs6
      refine hidden ?_
      go_wp2_with (at_builtin; refine wpList_append_own _ rfl (.tmp 78) (.tmp 80) 22 rfl w4.heap.size 5 i0 (.int .u8 0) 1 1 Try.underlying22 hi hz0 hz1 hz2 rfl (by decide) _ _ _ rfl HD3.out ⟨gq, 0, none⟩ 4 cq (bytesV (putL x 4)) rfl rfl HNp.out (bytesV_one _) (by unfold maxLen; omega) (by omega) (by first | omega | (simp; done) | (simp; omega)) ?_; intro v3 w8 hown3 hgrow3 hiff3; clear hiff3; refine Hid.out ?_)
      have hb9 : Below w4.heap.size w4 w8 := hb8.grown hgrow3 hs7 (fun k hk => (HD3.out.lt k hk).1)
      rw [bytesV_append] at hown3
      replace hown3 := own_len_eq hown3 (show 8 + 12 * len + 4 = 12 + 12 * len by omega)
      have HD4 := hidden hown3
      have hs8 := hb9.size
      have pc := HPC.out w8 hb9
      clear hown3 hgrow3 HD3 HNp hb8 hs7
      refine hidden ?_
      go_wp2_with (first | (go_at_call 25; refine (rput_4 P _ (by omega) (by omega)).mono ?_; rintro e w9 ⟨pv, rfl, hop, hb10⟩; refine Hid.out ?_) | fail)
      obtain ⟨gr, cr, rfl, hcr, -⟩ := owned_shape hop (by omega)
      have HNp : Hid (∀ j u, (bytesV (putL P 4))[j]? = some u → w9.cell? ((⟨gr, 0, none⟩ : Addr).add j) = some u) := hidden (bs_news (own_bs hop) hcr)
      have hb11 : Below w4.heap.size w4 w9 := hb9.trans (hb10.mono hs8)
      have HD5 := hidden (own_later HD4.out hb10)
      have hs9 := hb11.size
      clear hop hb10 HD4 hb9 hs8 pc
      refine hidden ?_
      go_wp2_with (at_builtin; refine wpList_append_own _ rfl (.tmp 82) (.tmp 87) 22 rfl w4.heap.size 5 i0 (.int .u8 0) 1 1 Try.underlying22 hi hz0 hz1 hz2 rfl (by decide) _ _ _ rfl HD5.out ⟨gr, 0, none⟩ 4 cr (bytesV (putL P 4)) rfl rfl HNp.out (bytesV_one _) (by unfold maxLen; omega) (by omega) (by first | omega | (simp; done) | (simp; omega)) ?_; intro v4 w10 hown4 hgrow4 hiff4; clear hiff4; refine Hid.out ?_)
      have hb12 : Below w4.heap.size w4 w10 := hb11.grown hgrow4 hs9 (fun k hk => (HD5.out.lt k hk).1)
      rw [bytesV_append] at hown4
      replace hown4 := own_len_eq hown4 (show 12 + 12 * len + 4 = 16 + 12 * len by omega)
      have hdeq : idxS ss (plR ss) ++ idI ZZZZ ++ putL x 4 ++ putL P 4 = idxE (ss.zip (plR ss)) ++ entS (zRes ss x, P) := by
        rw [idxE_S ss _ (plR_len ss)]
        simp only [entS, zRes, List.append_assoc]
      rw [hdeq] at hown4
      obtain ⟨gd, cd, rfl, hdc, hdb⟩ := owned_shape hown4 (by omega)
      have hzl : (ss.zip (plR ss)).length = len := by rw [List.length_zip, plR_len, Nat.min_self]; exact hsl
      have hnum := idxE_num (ss.zip (plR ss)) (entS (zRes ss x, P)) (by omega)
      rw [hzl] at hnum
      have hokd : OkB (idxE (ss.zip (plR ss)) ++ entS (zRes ss x, P)) := by
        rw [← hdeq]
        exact append_bd _ _ (append_bd _ _ (append_bd _ _ (idxS_ok _ _) (idI_ok _)) (putL_bd _ _)) (putL_bd _ _)
      have HBe := hidden (rbe4 gd 0 (16 + 12 * len) cd 0 _ w10 (own_bs hown4) hokd (by omega) hdc (by omega))
      rw [hnum] at HBe
      have HD6 := hidden hown4
      have hs10 := hb12.size
      clear hown4 hgrow4 HD5 HNp hb11 hs9 hdeq hnum hokd
      refine hidden ?_
      go_wp2_with (first | (go_at_call 26; refine HBe.out.mono ?_; rintro e w11 ⟨rfl, hw⟩; obtain rfl := hw.symm; refine Hid.out ?_) | fail)
      clear HBe
      refine hidden ?_
      go_wp2_with (first | (go_at_call 25; refine (rput_4 ((len : Int) + 1) _ (by omega) (by omega)).mono ?_; rintro e w11 ⟨pv, rfl, hop, hb13⟩; refine Hid.out ?_) | fail)
      obtain ⟨gt, ct, rfl, hct, -⟩ := owned_shape hop (by omega)
      have HNp : Hid (∀ j u, (bytesV (putL ((len : Int) + 1) 4))[j]? = some u → w11.cell? ((⟨gt, 0, none⟩ : Addr).add j) = some u) := hidden (bs_news (own_bs hop) hct)
      have hb14 : Below w4.heap.size w4 w11 := hb12.trans (hb13.mono hs10)
      obtain ⟨cur, hcu, hcl, hBg, hnc, hcm, HSP⟩ := own_splice (own_later HD6.out hb13)
      have HCU := hidden hcu
      have HS2 := hidden HSP
      have hs8 : (Try.prog.info? 5).map (·.size) = some 1 := by kernel_rfl
      clear hop hb13 HD6 hb12 hs10 hcu HSP
      refine hidden ?_
      go_wp2_with (first | (refine wpList_copy_splice rfl (.tmp 94) (.tmp 97) 22 22 rfl 5 Try.underlying22 hs8 (some ⟨gd, 0, none⟩) (some ⟨gt, 0, none⟩) (16 + 12 * len) cd 4 ct rfl rfl gd 0 cur 5 HCU.out (bytesV (putL ((len : Int) + 1) 4)) (by show 4 = min 4 (16 + 12 * len); omega) (fun _ => ⟨rfl, _, rfl, HNp.out⟩) (by show 0 + 4 ≤ cur.length; omega) (bytesV_one _) w4.heap.size w4 hb14 hBg ?_; intro w12 hg12 hb15; refine Hid.out ?_) | fail)
      have hd7 := HS2.out w12 0 (putL ((len : Int) + 1) 4) (by show 0 + 4 ≤ _; omega) hg12.out
      have hfirst := idxE_first (ss.zip (plR ss)) (zRes ss x, P)
      rw [hzl, show ((len + 1 : Nat) : Int) = (len : Int) + 1 by omega] at hfirst
      rw [hfirst] at hd7
      have hqe : ss.zip (plR ss) ++ [(zRes ss x, P)] = qAll ss x := by rw [HPE.out]; rfl
      rw [hqe, ← ups_zero (qAll ss x)] at hd7
      have HD7 := hidden hd7
      have hql := qAll_len ss x
      rw [hsl] at hql
      have HQ4 := hidden (qAll_four HLO.out x)
      have HQB := hidden (qAll_bd HLO.out x (by omega))
      clear hd7 hfirst hqe hg12 HS2 HCU HNp hb14 hcl hnc hcm hzl
      refine hidden ?_
      go_wp2
      generalize hQe : qAll ss x = Q at *
      go_loopw [18] (fun i w' => ∃ k : Nat, k ≤ len + 1 ∧ i = .int .i64 (k : Int) ∧ w'.ownsRow w4.heap.size 5 1 (.slice (some ⟨gd, 0, none⟩) (16 + 12 * len) cd) (16 + 12 * len) (bytesV (idxE (ups Q k))) ∧ Below w4.heap.size w4 w') (fun i _ => len + 1 - (intOf i).toNat)
      case atStart => exact ⟨0, by omega, rfl, HD7.out, hb15⟩
      case round =>
        obtain ⟨k, hk, rfl, hown, hbl⟩ := hrel
        have HD := hidden hown
        have hsr := hbl.size
        clear hown HD7 hb15
        by_cases hlt : k < len + 1
        · have hlt2 : (k : Int) < (len : Int) + 1 := by omega
          have hk0 : (0 : Int) ≤ (k : Int) := by omega
          have hkq : k < Q.length := by omega
          have hbe := ups_be Q HQ4.out k hkq (HQB.out _ (List.getElem_mem hkq)).1 (by have := (HQB.out _ (List.getElem_mem hkq)).2; omega)
          have HSt := hidden (ups_step Q HQ4.out k hkq)
          have hVb := HQB.out _ (List.getElem_mem hkq)
          generalize Q[k].2 = V at *
          have hoku : OkB (idxE (ups Q k)) := fun c hc => by
            unfold idxE at hc
            refine append_bd _ _ (putL_bd _ _) ?_ c hc
            intro c hc
            obtain ⟨l, hl, h⟩ := List.mem_flatten.1 hc
            obtain ⟨q, -, rfl⟩ := List.mem_map.1 hl
            exact append_bd _ _ (idI_ok _) (append_bd _ _ (putL_bd _ _) (putL_bd _ _)) c h
          have HBe := hidden (rbe4 gd 0 (16 + 12 * len) cd (12 + 12 * k) _ wr (own_bs HD.out) hoku (by omega) hdc (by omega))
          rw [hbe, show ((12 + 12 * k : Nat) : Int) = 12 + 12 * (k : Int) by omega] at HBe
          obtain ⟨hV0, hV1⟩ := hVb
          have m1 : IntKind.i64.wrap (12 * (k : Int)) = 12 * (k : Int) := by rw [IntKind.wrap_i64]; omega
          have m2 : IntKind.i64.wrap (12 + 12 * (k : Int)) = 12 + 12 * (k : Int) := by rw [IntKind.wrap_i64]; omega
          have m3 : IntKind.u32.wrap (V + 12) = V + 12 := by rw [IntKind.wrap_u32]; omega
          clear hbe hoku
          go_upto_region 23 with (first | (go_at_call 26; refine HBe.out.mono ?_; rintro e w11 ⟨rfl, hw⟩; obtain rfl := hw.symm) | fail)
          have HP0 : Hid (∀ wx, Below wr.heap.size wr wx → Calls Try.prog 25 #[.int .u32 (V + 12), .int .i64 4] wx fun e w' => ∃ g8 c8, e = .returned (.slice (some ⟨g8, 0, none⟩) 4 c8) ∧ Below wr.heap.size wr w' ∧ ∀ j u, (bytesV (putL (V + 12) 4))[j]? = some u → w'.cell? ((⟨g8, 0, none⟩ : Addr).add j) = some u) := hidden fun wx hb => (rput_4 (V + 12) wx (by omega) (by omega)).mono (by
            rintro e w' ⟨pv, rfl, hop, hb2⟩
            obtain ⟨g8, c8, rfl, h8, -⟩ := owned_shape hop (by omega)
            exact ⟨g8, c8, rfl, hb.trans (hb2.mono hb.size), bs_news (own_bs hop) h8⟩)
          obtain ⟨cur, hcu, hcl, hBg, hnc, hcm, HSP⟩ := own_splice HD.out
          have HCU := hidden hcu
          have hgd : gd < wr.heap.size := (Array.getElem?_eq_some_iff.1 hcu).1
          obtain ⟨q, hq⟩ : ∃ q, q = 12 + 12 * k := ⟨_, rfl⟩
          have HS2 := hidden (fun w' hw => HSP w' (12 + 12 * k) (putL (V + 12) 4) (by show 12 + 12 * k + 4 ≤ _; omega) hw)
          rw [HSt.out, ← hq] at HS2
          have n1' : ¬ cd = q := by omega
          have n2 : (q : Int) ≤ (cd : Int) := by omega
          have n3 : (q : Int) ≤ ((16 + 12 * len : Nat) : Int) := by omega
          have n4 : ((16 + 12 * len : Nat) : Int) ≤ (cd : Int) := by omega
          have n3' : (q : Int) ≤ 16 + 12 * (len : Int) := by omega
          have n4' : 16 + 12 * (len : Int) ≤ (cd : Int) := by omega
          have n5 : q + 4 ≤ 16 + 12 * len := by omega
          have hqk : (12 : Int) + 12 * (k : Int) = (q : Int) := by omega
          rw [hqk] at m2
          generalize hPL : bytesV (putL (V + 12) 4) = PL at *
          have hpl : PL.length = 4 := by rw [← hPL]; rfl
          have hpo : ∀ u ∈ PL, u.oneCell' = true := by rw [← hPL]; exact bytesV_one _
          have HPO := hidden hpo
          have HPLN := hidden hpl
          have hcl2 : q + 4 ≤ cur.length := by omega
          have HBL := hidden hbl
          clear hpo hpl hPL hcu HSP HBe hcl hnc hcm HD hbl HSt hq
          go_region_held3 (fun w' => True) (trivial) (first | (go_at_call 25; refine (HP0.out _ (by first | exact Below.refl _ _ | exact (Below.refl _ _).drew)).mono ?_; rintro e w8 ⟨g8, c8, rfl, hb8', hc8⟩) | (refine step_copy_splice (by rfl) (.tmp 118) (.tmp 121) 22 22 (by rfl) 5 Try.underlying22 hs8 (some ⟨gd, q, none⟩) (some ⟨g8, 0, none⟩) (16 + 12 * len - q) (cd - q) 4 c8 (by first | rfl | simp) (by rfl) gd q cur 5 ((hb8'.block gd hgd).trans HCU.out) PL (by rw [HPLN.out]; show 4 = min 4 (16 + 12 * len - q); omega) (fun _ => ⟨rfl, _, rfl, hc8⟩) (by rw [HPLN.out]; omega) HPO.out w4.heap.size w4 (HBL.out.trans (hb8'.mono HBL.out.size)) hBg ?_; intro w9 hg9 hb9) | fail)
          go_wp2
          go_roundw
          case rel => exact ⟨k + 1, by omega, by go_num, HS2.out w9 hg9.out, hb9⟩
          case measure => simp [intOf]; omega
        · obtain rfl : k = len + 1 := by omega
          have hua : ups Q (len + 1) = Q.map up := by rw [← hql]; exact ups_all Q
          rw [hua] at HD
          have hb16 := HBP.out.trans (hbl.mono HBP.out.size)
          have hK := own_base (own_later HG.out.1 hb16) HS2W.out
          have hB16 := HB3.out.trans (hb16.mono HB3.out.size)
          have hkk : (k0 :: kt).length = len + 1 := HKL.out
          rw [hkk] at hK
          have y1 : wr.cell? ⟨gk, 1, none⟩ = some (.slice k0.a k0.l k0.c) := by
            have e1 := hK.cells (g := gk) rfl 1 (.slice k0.a k0.l k0.c) rfl
            rw [plain_add] at e1
            exact e1
          have y2 : wr.frozen? ⟨gk, 1, none⟩ = false := hK.frozenAt 1
          have hgk : w.heap.size ≤ gk := by have := HS2W.out; omega
          obtain ⟨ho8, hg8⟩ := hK.stored 1 (.slice (some ⟨gd, 0, none⟩) (16 + 12 * len) cd)
          have hcks : (cksV (k0 :: kt)).set 1 (.slice (some ⟨gd, 0, none⟩) (16 + 12 * len) cd) = cksV (⟨RIDX, some ⟨gd, 0, none⟩, 16 + 12 * len, cd, idxE (Q.map up)⟩ :: kt) := by
            show Value.string k0.id :: _ = _
            rw [HK0I.out]; rfl
          rw [hcks] at ho8
          have hd8 := HD.out.kept hg8 (by have := own_apart HD.out hK (by decide); simpa [Value.ownBlock] using this)
          have hkt8 : ∀ k ∈ kt, (wr.setCell ⟨gk, 1, none⟩ (.slice (some ⟨gd, 0, none⟩) (16 + 12 * len) cd)).ownsRow w2.heap.size 5 1 (.slice k.a k.l k.c) k.l (bytesV k.d) := fun k hk => by
            have h1 := own_later (HG.out.2 k (List.mem_cons_of_mem _ hk)) hb16
            exact h1.kept hg8 (by have := own_apart h1 hK (by decide); simpa [Value.ownBlock] using this)
          have hbS : Below w.heap.size w (wr.setCell ⟨gk, 1, none⟩ (.slice (some ⟨gd, 0, none⟩) (16 + 12 * len) cd)) := hB16.setCell hgk _
          have HKTD : Hid (∀ k ∈ kt, k.d.length = k.l ∧ OkB k.d) := hidden fun k hk => ⟨(HKD.out k (List.mem_cons_of_mem _ hk)).1, (HKD.out k (List.mem_cons_of_mem _ hk)).2.1⟩
          generalize hc0e : (⟨RIDX, some ⟨gd, 0, none⟩, 16 + 12 * len, cd, idxE (Q.map up)⟩ : Ck) = c0 at *
          have HC0 := hidden hc0e
          have HOK8 := hidden (ho8.alloc (.cells #[.string MORE, .slice a1 n1 c1] 56))
          have HD8 := hidden (hd8.alloc (.cells #[.string MORE, .slice a1 n1 c1] 56))
          have HT8 := hidden (fun k hk => (hkt8 k hk).alloc (.cells #[.string MORE, .slice a1 n1 c1] 56))
          have HNM := hidden (two_new_at (wr.setCell ⟨gk, 1, none⟩ (.slice (some ⟨gd, 0, none⟩) (16 + 12 * len) cd)) (.string MORE) (.slice a1 n1 c1) 56 wr.heap.size (by simp))
          have HBS := hidden (hbS.alloc hbS.size (.cells #[.string MORE, .slice a1 n1 c1] 56))
          have z0 : ¬ ((len : Int) + 1 < (len : Int) + 1) := by omega
          clear hc0e ho8 hd8 hkt8 hcks hg8 hK hua hB16 hbS hb16 HD hbl hsr HKL HBP HPC HQ4 HQB
          go_wp2_with (at_builtin; refine wpList_append_own _ rfl (.tmp 128) (.tmp 131) 50 rfl w.heap.size 56 j0 (.agg #[.string ⟨#[]⟩, .slice none 0 0]) 2 40 Try.underlying50 ji jz0 jz1 jz2 rfl (by decide) _ _ _ rfl HOK8.out ⟨wr.heap.size, 0, none⟩ 1 1 [.string MORE, .slice a1 n1 c1] rfl rfl HNM.out (by intro u hu; simp at hu; rcases hu with rfl | rfl <;> rfl) (by unfold maxLen; omega) (by omega) (by first | omega | exact HBS.out.size) ?_; intro v8 w8 hown8 hgrow8 hiff8; clear hiff8; refine Hid.out ?_)
          have hb8 : Below w.heap.size w w8 := HBS.out.grown hgrow8 HBS.out.size (fun j hj => (HOK8.out.lt j hj).1)
          have hd9 := HD8.out.kept hgrow8 (own_apart HD8.out HOK8.out (by decide))
          have ht9 : ∀ k ∈ kt, w8.ownsRow w2.heap.size 5 1 (.slice k.a k.l k.c) k.l (bytesV k.d) := fun k hk => (HT8.out k hk).kept hgrow8 (own_apart (HT8.out k hk) HOK8.out (by decide))
          have hil : (idxE (Q.map up)).length = 16 + 12 * len := (reads_own hd9).1.1
          rw [show cksV (c0 :: kt) ++ [.string MORE, .slice a1 n1 c1] = cksV (c0 :: kt ++ [⟨MORE, a1, n1, c1, ex⟩]) from (cksV_snoc (c0 :: kt) ⟨MORE, a1, n1, c1, ex⟩).symm] at hown8
          obtain ⟨a8, c8, rfl⟩ := own_slice hown8
          have hktl : kt.length = len := by simpa using hkk
          have hoke : OkB (idxE (Q.map up)) := fun c hc => by
            unfold idxE at hc
            refine append_bd _ _ (putL_bd _ _) ?_ c hc
            intro c hc
            obtain ⟨l, hl, h⟩ := List.mem_flatten.1 hc
            obtain ⟨q, -, rfl⟩ := List.mem_map.1 hl
            exact append_bd _ _ (idI_ok _) (append_bd _ _ (putL_bd _ _) (putL_bd _ _)) c h
          have hck : Cks w8 a8 (len + 1 + 1) c8 (c0 :: kt ++ [⟨MORE, a1, n1, c1, ex⟩]) := own_cks hown8 (by simp [hktl]) (fun c hc => by
            rcases List.mem_append.1 hc with h | h
            · rcases List.mem_cons.1 h with rfl | h
              · rw [← HC0.out]; exact ⟨(reads_own hd9).1, hoke⟩
              · exact ⟨(reads_own (ht9 c h)).1, (HKTD.out c h).2⟩
            · rw [List.mem_singleton.1 h]; exact ⟨HEX.out.1.later hb8, HEX.out.2⟩)
          have hall : AllId (c0 :: kt ++ [⟨MORE, a1, n1, c1, ex⟩]) := fun c hc => by
            rcases List.mem_append.1 hc with h | h
            · rcases List.mem_cons.1 h with rfl | h
              · rw [← HC0.out]; exact id_ridx
              · have hm : scOf c ∈ kt.map scOf := List.mem_map.2 ⟨c, h, rfl⟩
                rw [HKTS.out] at hm
                obtain ⟨s, hs, e⟩ := List.mem_map.1 hm
                have e2 : s.2.2.1 = c.id := congrArg Prod.fst e
                rw [← e2]
                exact (HLO.out.1 s hs).2.1
            · rw [List.mem_singleton.1 h]; exact id_more
          have hdl : ∀ c ∈ c0 :: kt ++ [(⟨MORE, a1, n1, c1, ex⟩ : Ck)], c.d.length = c.l := fun c hc => (hck.2.2.2 c hc).1.1
          have hsc : (c0 :: kt ++ [(⟨MORE, a1, n1, c1, ex⟩ : Ck)]).map scOf = (RIDX, idxE (Q.map up)) :: (ss.map ckS ++ [(MORE, ex)]) := by
            rw [List.map_append, List.map_cons, HKTS.out, ← HC0.out]
            rfl
          have hexl : ex.length ≤ 65536 := by have := HEX.out.1.1; omega
          have hsz8 : sizes (c0 :: kt ++ [⟨MORE, a1, n1, c1, ex⟩]) ≤ 1000000 := by
            rw [sizes_ssz _ hdl, hsc, ssz_cons, ssz_app, ssz_cons]
            have h3 := HSS.out
            have h4 : ssz ([] : List Sc) = 0 := rfl
            simp only [hil]
            omega
          have hform : formL IFRS (c0 :: kt ++ [⟨MORE, a1, n1, c1, ex⟩]) = formS IFRS ((RIDX, idxE (Q.map up)) :: (ss.map ckS ++ [(MORE, ex)])) := by rw [formL_S _ _ hdl, hsc]
          have hflen : 12 + sizes (c0 :: kt ++ [⟨MORE, a1, n1, c1, ex⟩]) = (formS IFRS ((RIDX, idxE (Q.map up)) :: (ss.map ckS ++ [(MORE, ex)]))).length := by
            rw [← hform, form_len _ _ rfl (fun c hc => ⟨(hall c hc).1, hdl c hc⟩)]
          have hBu := rbuild_good IFRS a8 (len + 1 + 1) c8 _ w8 id_ifrs hck hall (by omega) hsz8
          rw [hform, hflen] at hBu
          have HBu := hidden hBu
          have hRR := others_read HLO.out (by omega) (by omega) HZZ.out x x0 x1 ex hexl (by have := HSS.out; omega)
          rw [hQe] at hRR
          have hFok : OkB (formS IFRS ((RIDX, idxE (Q.map up)) :: (ss.map ckS ++ [(MORE, ex)]))) := formS_ok _ _ (fun c hc => by
            rw [← hsc] at hc
            obtain ⟨k, hk, rfl⟩ := List.mem_map.1 hc
            exact (hck.2.2.2 k hk).2)
          obtain ⟨FL, hFL⟩ : ∃ FL, FL = formS IFRS ((RIDX, idxE (Q.map up)) :: (ss.map ckS ++ [(MORE, ex)])) := ⟨_, rfl⟩
          rw [← hFL] at hRR hFok hflen HBu
          have HRR := hidden hRR
          have HFok := hidden hFok
          have hFl1 : FL.length ≤ 1000012 := by omega
          have hFl0 : 12 ≤ FL.length := by omega
          have HB8 := hidden hb8
          clear hFL hRR hFok hBu hform hflen hsz8 hsc hdl hall hck hoke hown8 hgrow8 hd9 ht9 hil HOK8 HD8 HT8 HNM HBS HKTD HC0 HKTS HK0I HG HKM HKD hexl hb8
          generalize hFLn : FL.length = N at *
          refine hidden ?_
          go_wp2_with (first | (go_at_call 27; refine HBu.out.mono ?_; rintro e w9 ⟨v9, rfl, ho9, hb9⟩; refine Hid.out ?_) | fail)
          obtain ⟨g9, c9, rfl, hc9, -⟩ := owned_shape ho9 (by omega)
          have HB9 := hidden (HB8.out.trans (hb9.mono HB8.out.size))
          have HRd := hidden (read_any g9 0 N c9 FL w9 (own_bs ho9) HFok.out (by omega) hc9)
          rw [HRR.out] at HRd
          clear ho9 hb9 HBu HB8 HRR HFok
          refine hidden ?_
          go_wp2_with fail
          refine HRd.out.mono ?_
          rintro e w10 ⟨hb10, ⟨hne, -⟩ | ⟨-, ao2, cv2, rs2, rfl, hgr, hmap, hrok, -⟩⟩
          · exact absurd rfl hne
          have hl2' : rs2.length = len + 1 := by have := congrArg List.length hmap; simp [hsl] at this; omega
          have hlo1 := HLO.out.1
          have hx2 : ∀ r ∈ rs2, 0 ≤ r.x ∧ r.x ≤ 4294967295 := fun r hr => by
            have hm : srOf r ∈ rs2.map srOf := List.mem_map.2 ⟨r, hr, rfl⟩
            rw [hmap] at hm
            rcases List.mem_append.1 hm with hm | hm
            · exact ⟨(hlo1 _ hm).2.2.1, (hlo1 _ hm).2.2.2.1⟩
            · have e := List.mem_singleton.1 hm
              have e2 : r.x = x := congrArg (fun s : Sr => s.2.1) e
              rw [e2]; exact ⟨x0, x1⟩
          have hrk := rks_own hgr hrok hx2
          rw [hl2'] at hrk
          have HM := hidden hrk
          have HMP := hidden hmap
          have hB10 := HB9.out.trans (hb10.mono HB9.out.size)
          have HB10 := hidden hB10
          obtain ⟨b', off', e', hcell⟩ := HC.out.at (by omega)
          cases e'
          have h0l : 0 < rs.length := by omega
          have hc0 := hcell 0 h0l
          rw [Nat.zero_mul, Nat.add_zero] at hc0
          have HCP : Hid (∀ wx, Below w10.heap.size w10 wx → Calls Try.prog 12 #[.slice (some ⟨b, off, none⟩) len cap] wx fun e w' => ∃ ao3 cv3 rs3, e = .returned (.slice ao3 len cv3) ∧ Hid (Copied w10 rs len w' ao3 cv3 rs3 ∧ Below wx.heap.size wx w')) := hidden fun wx hx => (copy_any _ len cap rs wx (HC.out.later (hB10.trans (hx.mono hB10.size))) (by omega) (by omega)).mono (by
            rintro e w' ⟨hbc, ao3, cv3, rs3, rfl, hgot, hm3⟩
            have hl3 : rs3.length = len := by have := congrArg List.length hm3; simp at this; omega
            refine ⟨ao3, cv3, rs3, by rw [hl3], hidden ⟨⟨hm3, hl3, ?_, fun r hr => own_base (hgot.2 r hr) hx.size, hx.trans (hbc.mono hx.size)⟩, hbc⟩⟩
            have := own_base hgot.1 hx.size
            rw [hl3] at this
            exact this)
          have HR0 := hidden (HC.out.2.2.2 _ (List.getElem_mem h0l))
          have HZR : Hid (zRes ss x = srOf ⟨ZZZZ, x, rs[0].id, rs[0].a, rs[0].l, rs[0].c, rs[0].d⟩) := hidden (by
            rw [HSE.out]
            simp [zRes, srOf, List.getD_eq_getElem?_getD, h0l])
          have HS : Hid (∀ wx, Below w10.heap.size w10 wx → wx.cell? ⟨b, off + 2, none⟩ = some (.string rs[0].id) ∧ wx.cell? ⟨b, off + 3, none⟩ = some (.slice rs[0].a rs[0].l rs[0].c)) := hidden fun wx hx => ⟨cellLater (hB10.trans (hx.mono hB10.size)) hc0.2.2.1, cellLater (hB10.trans (hx.mono hB10.size)) hc0.2.2.2⟩
          rw [hl2']
          clear hgr hmap hrok hrk hx2 hb10 hB10 HRd hcell hc0 hlo1 HB9
          generalize rs[0] = r0 at *
          obtain ⟨ru, rx, ri, ra, rl, rc, rd⟩ := r0
          simp only at HR0 HZR HS
          obtain ⟨l0, li, lz0, lz1, lz2⟩ := info_parts infoRs
          go_upto_region 27 with fail
          have HS0 := HS.out w10 (Below.refl _ _)
          have HS1 := HS.out w10.drew (Below.refl _ _).drew
          have HS2 := HS.out (w10.alloc (.cells #[.string ZZZZ, .int .u32 x, .string ri, .slice ra rl rc] 49)) ((Below.refl _ _).alloc (Nat.le_refl _) _)
          have HS3 := HS.out (w10.alloc (.cells #[.string ZZZZ, .int .u32 x, .string ri, .slice ra rl rc] 49)).drew (((Below.refl _ _).alloc (Nat.le_refl _) _).drew)
          have HS4 := HS.out (w10.drew.alloc (.cells #[.string ZZZZ, .int .u32 x, .string ri, .slice ra rl rc] 49)) (((Below.refl _ _).drew).alloc (Nat.le_refl _) _)
          go_region_held3 (fun w' => w'.cell? ⟨b, off + 2, none⟩ = some (.string ri) ∧ w'.cell? ⟨b, off + 3, none⟩ = some (.slice ra rl rc)) (first | assumption | (dsimp only; assumption) | exact HS.out _ (by first | exact hb11 | exact hb11.drew | exact hb11.alloc hb11.size _ | exact (hb11.alloc hb11.size _).drew | exact (hb11.drew).alloc hb11.size _ | fail)) (first | (go_at_call 12; refine (HCP.out _ (by first | exact Below.refl _ _ | exact (Below.refl _ _).drew | exact (Below.refl _ _).alloc (Nat.le_refl _) _ | exact ((Below.refl _ _).alloc (Nat.le_refl _) _).drew | exact ((Below.refl _ _).drew).alloc (Nat.le_refl _) _)).mono ?_; rintro e w11 ⟨ao3, cv3, rs3, rfl, H3⟩; have hb11 := H3.out.1.2.2.2.2; have hS11 := HS.out w11 hb11; have hS11' := HS.out w11.drew hb11.drew) | (refine step_append_own (by rfl) (.tmp 143) (.tmp 154) 32 (by rfl) w10.heap.size 49 l0 (.agg #[.string ⟨#[]⟩, .int .u32 0, .string ⟨#[]⟩, .slice none 0 0]) 4 64 Try.underlying32 li lz0 lz1 lz2 rfl (by decide) _ len (rksV rs3) (by rfl) (own_later H3.out.1.2.2.1 (by first | exact (Below.refl _ _).alloc (Nat.le_refl _) _ | exact ((Below.refl _ _).alloc (Nat.le_refl _) _).drew | exact ((Below.refl _ _).drew).alloc (Nat.le_refl _) _)) ⟨w11.heap.size, 0, none⟩ 1 1 [.string ZZZZ, .int .u32 x, .string ri, .slice ra rl rc] (by rfl) rfl (by first | exact cell_four_new w11 _ _ _ _ _ | exact cell_four_new w11.drew _ _ _ _ _) (by intro u hu; simp at hu; rcases hu with rfl | rfl | rfl | rfl <;> rfl) (by unfold maxLen; omega) (by omega) (by have := hb11.size; first | omega | (simp; omega)) ?_; intro v12 w12 hown12 hgrow12; have HW := hidden (And.intro hown12 (want_row H3.out.1 (by first | exact (Below.refl _ _).alloc (Nat.le_refl _) _ | exact ((Below.refl _ _).alloc (Nat.le_refl _) _).drew | exact ((Below.refl _ _).drew).alloc (Nat.le_refl _) _) hgrow12)); have hS12 := HS.out w12 HW.out.2.2; clear hown12 hgrow12) | (refine step_append_own (by rfl) (.tmp 143) (.tmp 154) 32 (by rfl) w10.heap.size 49 l0 (.agg #[.string ⟨#[]⟩, .int .u32 0, .string ⟨#[]⟩, .slice none 0 0]) 4 64 Try.underlying32 li lz0 lz1 lz2 rfl (by decide) _ len (rksV rs3) (by rfl) (own_later H3.out.1.2.2.1 (by first | exact Below.refl _ _ | exact (Below.refl _ _).drew)) ⟨w10.heap.size, 0, none⟩ 1 1 [.string ZZZZ, .int .u32 x, .string ri, .slice ra rl rc] (by rfl) rfl (fun j u h => cellLater H3.out.2 (by first | exact cell_four_new w10 _ _ _ _ _ j u h | exact cell_four_new w10.drew _ _ _ _ _ j u h)) (by intro u hu; simp at hu; rcases hu with rfl | rfl | rfl | rfl <;> rfl) (by unfold maxLen; omega) (by omega) (by have := hb11.size; first | omega | (simp; omega)) ?_; intro v12 w12 hown12 hgrow12; have HW := hidden (And.intro hown12 (want_row H3.out.1 (by first | exact Below.refl _ _ | exact (Below.refl _ _).drew) hgrow12)); have hS12 := HS.out w12 HW.out.2.2; clear hown12 hgrow12) | fail)
          all_goals
            obtain ⟨a12, c12, rfl⟩ := own_slice HW.out.1
            have hb12 := HW.out.2.2
            have hB12 := HB10.out.trans (hb12.mono HB10.out.size)
            have hrow := HW.out.1
            rw [show rksV rs3 ++ [.string ZZZZ, .int .u32 x, .string ri, .slice ra rl rc] = rksV (rs3 ++ [(⟨ZZZZ, x, ri, ra, rl, rc, rd⟩ : Rk)]) from (rksV_snoc rs3 ⟨ZZZZ, x, ri, ra, rl, rc, rd⟩).symm] at hrow
            have h3 := H3.out.1
            have hwant : Rks w12 a12 (len + 1) c12 (rs3 ++ [(⟨ZZZZ, x, ri, ra, rl, rc, rd⟩ : Rk)]) := own_rks hrow (by simp [h3.2.1]) (fun r hr => by
              rcases List.mem_append.1 hr with h | h
              · have hm : srOf r ∈ rs3.map srOf := List.mem_map.2 ⟨r, h, rfl⟩
                rw [h3.1] at hm
                obtain ⟨r', hr', e⟩ := List.mem_map.1 hm
                have h5 := HC.out.2.2.2 r' hr'
                have e1 : r'.d = r.d := congrArg (fun s : Sr => s.2.2.2) e
                have e2 : r'.x = r.x := congrArg (fun s : Sr => s.2.1) e
                rw [e1, e2] at h5
                exact ⟨(reads_own (HW.out.2.1 r h)).1, h5.2.1, h5.2.2⟩
              · rw [List.mem_singleton.1 h]; exact ⟨HR0.out.1.later hB12, HR0.out.2.1, x0, x1⟩)
            have hmm : (rs3 ++ [(⟨ZZZZ, x, ri, ra, rl, rc, rd⟩ : Rk)]).map srOf = rs2.map srOf := by
              rw [HMP.out, HZR.out, List.map_append, h3.1, ← HSE.out]
              rfl
            have HSm := hidden (rsame6 ao2 a12 (len + 1) cv2 c12 rs2 _ w12 (HM.out.later hb12) hwant (by omega) hmm)
            have HB12 := hidden hB12
            clear hmm hwant h3 hrow hB12 hb12 HW H3 hS12 HS HCP HM HMP HZR HR0 HC HB10
            go_wp2_with (first | (go_at_call 17; refine HSm.out.mono ?_; rintro e w13 ⟨rfl, hb13⟩) | (go_at_call 16; refine (num6 _ _).mono ?_; rintro e w9 ⟨rfl, hw⟩; obtain rfl := hw.symm) | (go_at_call 11; refine (HL.out _).mono ?_; rintro e w14 ⟨rfl, hb14⟩) | fail)
            go_ret
            have hb15 := HB12.out.trans (hb13.mono HB12.out.size)
            exact ⟨rfl, hb15.trans (hb14.mono hb15.size)⟩
theorem blorbOthers_walk (a0 : Option Addr) (n0 c0 : Nat) (rs0 : List Rk) (a1 : Option Addr) (n1 c1 : Nat) (z1 : List Int) (x : Int) (w : World) (h0 : IsRks w a0 n0 c0 rs0) (h1 : IsRow .u8 w a1 n1 c1 z1) (h2 : (Lit.int .u32 x).wf = true) :
    Calls Try.prog 6 #[.slice a0 n0 c0, .slice a1 n1 c1, .int .u32 x] w fun e w' => e = .returned (.bool true) ∧ Below w.heap.size w w' := by
  obtain ⟨r1, r2, r3⟩ := reads_of_row h1
  have hx : 0 ≤ x ∧ x ≤ 4294967295 := bounds_u32 h2
  exact others_any a0 n0 c0 rs0 a1 n1 c1 _ x w h0 r1 r2 r3 hx.1 hx.2
end Go.Proofs.Ytedihackifchcaa
