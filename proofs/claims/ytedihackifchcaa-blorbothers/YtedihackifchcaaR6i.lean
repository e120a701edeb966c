/- Contract of the document's Build (package grottoref05) where it finds no fault. -/
import Derived.Test.YtedihackifchcaaR6b
import Derived.Lib.SlFresh
namespace Go.Proofs.Ytedihackifchcaa
open Go.RowKit
set_option maxHeartbeats 2000000
set_option maxRecDepth 100000
set_option linter.unusedVariables false

/-- the letters FORM as a constant row -/
def FRow (w : World) (G : Nat) : Prop := w.heap[G]? = some (.cells #[.int .u8 70, .int .u8 79, .int .u8 82, .int .u8 77] 5 (4, 5))
theorem FRow.lt {w : World} {G : Nat} (h : FRow w G) : G < w.heap.size := (Array.getElem?_eq_some_iff.1 h).1
theorem FRow.later {w w' : World} {G : Nat} (h : FRow w G) (hb : Below w.heap.size w w') : FRow w' G := (hb.block G h.lt).trans h
abbrev F4 : List Int := [70, 79, 82, 77]
theorem FRow.cells {w : World} {G : Nat} (h : FRow w G) (j : Nat) (v : Value) (hj : (bytesV F4)[j]? = some v) : w.cell? ((⟨G, 0, none⟩ : Addr).add j) = some v := by
  rw [plain_add, Nat.zero_add]
  unfold FRow at h
  unfold World.cell?
  simp only
  rw [h]
  simpa [bytesV] using hj
theorem grow_form (w : World) (ty : TypeId) (G : Nat) (hG : FRow w G) (x : Addr) (c : Nat) (ps : List Int) (hp : ps.length = 4) (hn : ∀ j v, (bytesV ps)[j]? = some v → w.cell? (x.add j) = some v) :
    ∃ v w', (Builtin.append_ #[22, 22] ty #[.slice (some ⟨G, 0, none⟩) 4 4, .slice (some x) 4 c]).run Try.prog w = .ok v w' ∧ w'.ownsRow w.heap.size 5 1 v 8 (bytesV (F4 ++ ps)) ∧ Below w.heap.size w w' := by
  obtain ⟨i0, hi, hz0, hz1, hz2⟩ := info_parts info8
  have hr := run_append_grow (P := Try.prog) w 22 ty 5 i0 (.int .u8 0) Try.underlying22 hi hz0 ⟨G, 0, none⟩ 4 4 (bytesV F4) (by rw [hz1]; rfl) hG.cells x 4 c (bytesV ps) (by rw [hz1]; simp [bytesV, hp]) hn (by omega) (by omega) (growslice_fits (by omega) (by rw [hz2]; omega))
  have hlen : (bytesV (F4 ++ ps)).length = 8 := by simp [bytesV, hp]
  refine ⟨_, _, hr, ⟨by rw [hlen], .inr ⟨w.heap.size, _, _, rfl, Nat.le_refl _, heap_alloc_new w.drew _, grownCap_ge _ _ _ _, grownCap_le_maxLen _ _ _ _ (by decide), ?_, ?_⟩⟩, ?_⟩
  · have := grownCap_ge w 8 4 5
    rw [Array.size_append, Array.size_append, size_zeroCells]
    simp [bytesV, hp, Value.cells]
    omega
  · rw [Array.toList_append, Array.toList_append, List.toList_toArray, List.toList_toArray, bytesV_append, Nat.mul_one, List.take_left' (by rw [hlen])]
  · exact ((Below.refl _ _).drew).alloc (Nat.le_refl _) _
theorem own_base0 {w : World} {B B' e size n : Nat} {v : Value} {xs : List Value} (h : w.ownsRow B' e size v n xs) (hB : B ≤ B') : w.ownsRow B e size v n xs := own_base h hB
theorem bs_news {w : World} {g n cap : Nat} {zs : List Int} (h : Bs w g 0 n zs) (hc : n ≤ cap) : ∀ j u, (bytesV zs)[j]? = some u → w.cell? ((⟨g, 0, none⟩ : Addr).add j) = some u :=
  Reads.news (cap := cap) ⟨h.1, hc, .inr ⟨_, rfl, fun i hi => by rw [plain_add]; exact h.2 i hi⟩⟩
theorem own_len_eq {w : World} {B n n' : Nat} {v : Value} {xs : List Value} (h : w.ownsRow B 5 1 v n xs) (e : n = n') : w.ownsRow B 5 1 v n' xs := by subst e; exact h
theorem rbuild_good (s : ByteArray) (a : Option Addr) (len cap : Nat) (cs : List Ck) (w : World) (h : IsId s) (hc : Cks w a len cap cs) (h2 : AllId cs) (h3 : len ≤ 1024) (hz : sizes cs ≤ 1000000) :
    Calls Try.prog 27 #[.string s, .slice a len cap] w (BuildRet w (12 + sizes cs) (formL s cs)) := by
  obtain ⟨i0, hi, hz0, hz1, hz2⟩ := info_parts info8
  have HT := ridc_t h
  have hs4 : s.size = 4 := h.1
  have hlen := hc.1
  have hcap := hc.2.1
  have h4 : (len : Int) ≤ 1024 := by omega
  have HC := hidden hc
  have H2 := hidden h2
  have HLn : Hid (∀ wx, Below w.heap.size w wx → Calls Try.prog 41 #[.slice a len cap] wx fun e w' => e = .returned (.int .i64 ((sizes cs : Nat) : Int)) ∧ Below wx.heap.size wx w') := hidden fun wx hx => rlen_any a len cap cs wx (hc.later hx) (by omega) (by omega)
  have HLE := hidden (fun k => sizes_le cs k)
  clear hc h2 h
  unfold formL
  obtain ⟨Z, hZ⟩ : ∃ Z, Z = sizes cs := ⟨_, rfl⟩
  have HZ := hidden hZ
  have hz' : Z ≤ 1000000 := by omega
  have hzi : (Z : Int) ≤ 1000000 := by omega
  rw [← hZ] at HLn HLE ⊢
  clear hZ hz
  go_enter Try.func27, Try.ntmps27
  go_wp2_with (first | (go_at_call 40; refine (HT.out _).mono ?_; rintro e w9 ⟨rfl, hw⟩; obtain rfl := hw.symm) | fail)
  go_loop [6, 7] (fun ok i => ∃ k : Nat, k ≤ len ∧ i = .int .i64 k ∧ ok = .bool true) (fun _ i => len - (intOf i).toNat)
  case atStart => exact ⟨0, by omega, rfl, rfl⟩
  case round =>
    obtain ⟨k, hk, rfl, rfl⟩ := hrel
    by_cases hlt : k < len
    · have hlt2 : (k : Int) < (len : Int) := by omega
      have hk0 : (0 : Int) ≤ (k : Int) := by omega
      have hkc : k < cs.length := by omega
      obtain ⟨b, off, rfl, hcell⟩ := HC.out.at (by omega)
      have c0 := (hcell k hkc).1
      have HTk := ridc_t (H2.out _ (List.getElem_mem hkc))
      clear hcell
      go_wp2_with (first | (go_at_call 40; refine (HTk.out _).mono ?_; rintro e w9 ⟨rfl, hw⟩; obtain rfl := hw.symm) | fail)
      go_round
      case rel => exact ⟨k + 1, by omega, by go_num, rfl⟩
      case measure => simp [intOf]; omega
    · obtain rfl : len = k := by omega
      have y1 : ((len : Int) > 1024) = False := by simp; omega
      have y2 : ((Z : Int) + 12 > 4194304) = False := by simp; omega
      have y3 : (0 : Int) ≤ (Z : Int) := by omega
      have HLen := hidden hlen
      clear hlen
      go_wp2_with (first | (go_at_call 41; refine (HLn.out _ (Below.refl _ _)).mono ?_; rintro e w1 ⟨rfl, hb1⟩; refine Hid.out ?_) | fail)
      have hcv := Lib.run_convert_bytes_const (P := Try.prog) w1 22 5 #[.int .u8 70, .int .u8 79, .int .u8 82, .int .u8 77] 4 4 Try.underlying22 Try.underlying5
      have hsz : (#[.int .u8 70, .int .u8 79, .int .u8 82, .int .u8 77] : Array Value).size = 4 := rfl
      rw [hsz] at hcv
      clear hsz
      have hbg : Below w1.heap.size w1 (w1.alloc (.cells #[.int .u8 70, .int .u8 79, .int .u8 82, .int .u8 77] 5 (4, 4 + 1))) := (Below.refl _ _).alloc (Nat.le_refl _) _
      have HG : Hid (FRow (w1.alloc (.cells #[.int .u8 70, .int .u8 79, .int .u8 82, .int .u8 77] 5 (4, 4 + 1))) w1.heap.size) := hidden (heap_alloc_new _ _)
      have hb2 := hb1.trans (hbg.mono hb1.size)
      refine hidden ?_
      go_wp2_with (first | (go_at_call 41; refine (HLn.out _ hb2).mono ?_; rintro e w3 ⟨rfl, hb3⟩; refine Hid.out ?_) | fail)
      have hb4 := hb2.trans (hb3.mono hb2.size)
      replace HG := hidden (HG.out.later hb3)
      clear hbg hb1 hb2 hb3 hcv
      generalize w1.heap.size = G at *
      refine hidden ?_
      go_wp2_with (first | (go_at_call 25; refine (rput_4 ((Z : Int) + 4) _ (by omega) (by omega)).mono ?_; rintro e w4 ⟨pv, rfl, hop, hb5⟩; refine Hid.out ?_) | fail)
      obtain ⟨gp, cp, rfl, hcp, hgp⟩ := owned_shape hop (by omega)
      have hb6 := hb4.trans (hb5.mono hb4.size)
      obtain ⟨v5, w5, hap, ho5, hb7⟩ := grow_form w4 22 G (HG.out.later hb5) ⟨gp, 0, none⟩ cp (putL ((Z : Int) + 4) 4) rfl (bs_news (own_bs hop) hcp)
      have hb8 := hb6.trans (hb7.mono hb6.size)
      have HO5 := hidden (own_base ho5 hb6.size)
      clear ho5 hb7 hb6 hb5 hb4 hop HG
      refine hidden ?_
      go_wp2_with (at_builtin; refine Lib.wpList_append_run_sl _ rfl (.tmp 40) (.tmp 45) 22 rfl _ _ rfl rfl hap ?_; refine Hid.out ?_)
      clear hap
      have hs8 := hb8.size
      refine hidden ?_
      go_wp2_with (at_builtin; refine Lib.wpList_append_own_string _ rfl (.tmp 47) (.tmp 48) 22 9 rfl w.heap.size 5 i0 Try.underlying22 Try.underlying9 hi hz0 hz1 hz2 _ _ _ rfl HO5.out s rfl (by unfold maxLen; omega) (by omega) (by omega) ?_; intro v6 w6 hown6 hgrow6 hiff6; clear hiff6; refine Hid.out ?_)
      have hb9 : Below w.heap.size w w6 := hb8.grown hgrow6 hs8 (fun k hk => (HO5.out.lt k hk).1)
      have hown7 : w6.ownsRow w.heap.size 5 1 v6 (12 + sizes (cs.take 0)) (bytesV (headL s (12 + Z) ++ flat (cs.take 0))) := by
        rw [idI_cells, bytesV_append, hs4] at hown6
        have e : headL s (12 + Z) ++ flat (cs.take 0) = F4 ++ putL ((Z : Int) + 4) 4 ++ idI s := by
          unfold headL
          rw [show (((12 + Z : Nat) : Int) - 8) = (Z : Int) + 4 by omega]
          simp [flat, idI]
        rw [e]
        simpa only [List.take_zero, sizes, List.map_nil, List.sum_nil, Nat.add_zero] using hown6
      have HO7 := hidden hown7
      clear hown6 hown7 hgrow6 HO5 hb8 hs8
      refine hidden ?_
      go_wp2
      go_loopw [8, 9] (fun v i w' => ∃ k : Nat, k ≤ len ∧ i = .int .i64 k ∧ w'.ownsRow w.heap.size 5 1 v (12 + sizes (cs.take k)) (bytesV (headL s (12 + Z) ++ flat (cs.take k))) ∧ Below w.heap.size w w') (fun _ i _ => len - (intOf i).toNat)
      case atStart => exact ⟨0, by omega, rfl, HO7.out, hb9⟩
      case round =>
        obtain ⟨k, hk, rfl, hown, hbl⟩ := hrel
        have HO := hidden hown
        clear hown HO7 hb9
        have hs1 := hbl.size
        by_cases hlt : k < len
        · have hlt2 : (k : Int) < (len : Int) := by omega
          have hk0 : (0 : Int) ≤ (k : Int) := by omega
          have hkc : k < cs.length := by have := HLen.out; omega
          obtain ⟨b, off, rfl, hcell⟩ := HC.out.at (by omega)
          have c0 := cellLater hbl (hcell k hkc).1
          have c1 := cellLater hbl (hcell k hkc).2
          have HD1 : Hid (∀ wx, Below w.heap.size w wx → wx.cell? ⟨b, off + k * 2 + 1, none⟩ = some (.slice cs[k].a cs[k].l cs[k].c)) := hidden fun wx hx => cellLater hx (hcell k hkc).2
          have hsn := hidden (sizes_snoc cs k hkc)
          have hfl := hidden (flat_snoc cs k hkc)
          have hz1' := HLE.out (k + 1)
          have hz0' := HLE.out k
          have hid := (H2.out _ (List.getElem_mem hkc)).1
          obtain ⟨hrd, hokd⟩ := HC.out.2.2.2 _ (List.getElem_mem hkc)
          have HRd := hidden hrd
          have hcdl := hrd.1
          rw [hsn.out] at hz1'
          clear hcell hrd hokd
          generalize cs[k] = ck at *
          obtain ⟨cid, ca, cl, cc, cd⟩ := ck
          dsimp only at *
          have hcl1 : cl ≤ 1000000 := by unfold ckSize at hz1'; dsimp only at hz1'; omega
          have hcl : (cl : Int) ≤ 1000000 := by omega
          have hck : ckSize ⟨cid, ca, cl, cc, cd⟩ = 8 + cl + cl % 2 := rfl
          rw [hck] at hsn
          clear hz1'
          cases ca with
          | none =>
            obtain ⟨-, -, hq | ⟨x, hx, -⟩⟩ := HRd.out
            · obtain ⟨-, rfl, rfl⟩ := hq
              obtain rfl := List.eq_nil_of_length_eq_zero hcdl
              -- letters
              go_wp2_with (at_builtin; refine Lib.wpList_append_own_string _ rfl (.tmp 56) (.tmp 61) 22 9 rfl w.heap.size 5 i0 Try.underlying22 Try.underlying9 hi hz0 hz1 hz2 _ _ _ rfl HO.out cid rfl (by unfold maxLen; omega) (by omega) (by omega) ?_; intro v1 w1 hown1 hgrow1 hiff1; clear hiff1; refine Hid.out ?_)
              have hb1 : Below w.heap.size w w1 := hbl.grown hgrow1 hs1 (fun k hk => (HO.out.lt k hk).1)
              rw [idI_cells, bytesV_append] at hown1
              have HO1 := hidden hown1
              have hs2 := hb1.size
              have e1 := HD1.out w1 hb1
              clear hown1 hgrow1 HO hbl c0 c1
              refine hidden ?_
              go_wp2_with (first | (go_at_call 25; refine (rput_4 ((0 : Nat) : Int) _ (by omega) (by omega)).mono ?_; rintro e w2 ⟨pv, rfl, hop, hb2⟩; refine Hid.out ?_) | fail)
              obtain ⟨gp, cp, rfl, hcp, hgp⟩ := owned_shape hop (by omega)
              have HNp : Hid (∀ j u, (bytesV (putL ((0 : Nat) : Int) 4))[j]? = some u → w2.cell? ((⟨gp, 0, none⟩ : Addr).add j) = some u) := hidden (bs_news (own_bs hop) hcp)
              have hb3 : Below w.heap.size w w2 := hb1.trans (hb2.mono hs2)
              have HO2 := hidden (own_later HO1.out hb2)
              have hs3 := hb3.size
              clear hop hb2 HO1 hb1 hs2 e1
              refine hidden ?_
              go_wp2_with (at_builtin; refine wpList_append_own _ rfl (.tmp 63) (.tmp 71) 22 rfl w.heap.size 5 i0 (.int .u8 0) 1 1 Try.underlying22 hi hz0 hz1 hz2 rfl (by decide) _ _ _ rfl HO2.out ⟨gp, 0, none⟩ 4 cp (bytesV (putL ((0 : Nat) : Int) 4)) rfl rfl HNp.out (bytesV_one _) (by unfold maxLen; omega) (by omega) (by first | omega | (simp; omega)) ?_; intro v3 w3 hown3 hgrow3 hiff3; clear hiff3; refine Hid.out ?_)
              have hb4 : Below w.heap.size w w3 := hb3.grown hgrow3 hs3 (fun k hk => (HO2.out.lt k hk).1)
              rw [bytesV_append] at hown3
              have HO3 := hidden hown3
              have hs4 := hb4.size
              have e1 := HD1.out w3 hb4
              have e2 := HD1.out w3 hb4
              clear hown3 hgrow3 HO2 HNp hb3 hs3
              refine hidden ?_
              go_wp2_with (at_builtin; refine wpList_append_own_none rfl (.tmp 73) (.tmp 78) 22 rfl w.heap.size 5 i0 1 Try.underlying22 hi _ _ _ rfl HO3.out rfl ?_)
              go_roundw
              case rel =>
                refine ⟨k + 1, by omega, by go_num, ?_, hb4⟩
                rw [hsn.out, hfl.out]
                have hq := HO3.out
                unfold ckL
                rw [if_neg (by decide)]
                rw [hid] at hq
                simp only [List.append_assoc, List.append_nil] at hq ⊢
                exact own_len_eq hq (by omega)
              case measure => simp [intOf]; omega
            · cases hx
          | some xd =>
            -- letters
            go_wp2_with (at_builtin; refine Lib.wpList_append_own_string _ rfl (.tmp 56) (.tmp 61) 22 9 rfl w.heap.size 5 i0 Try.underlying22 Try.underlying9 hi hz0 hz1 hz2 _ _ _ rfl HO.out cid rfl (by unfold maxLen; omega) (by omega) (by omega) ?_; intro v1 w1 hown1 hgrow1 hiff1; clear hiff1; refine Hid.out ?_)
            have hb1 : Below w.heap.size w w1 := hbl.grown hgrow1 hs1 (fun k hk => (HO.out.lt k hk).1)
            rw [idI_cells, bytesV_append] at hown1
            have HO1 := hidden hown1
            have hs2 := hb1.size
            have e1 := HD1.out w1 hb1
            clear hown1 hgrow1 HO hbl c0 c1
            refine hidden ?_
            go_wp2_with (first | (go_at_call 25; refine (rput_4 (cl : Int) _ (by omega) (by omega)).mono ?_; rintro e w2 ⟨pv, rfl, hop, hb2⟩; refine Hid.out ?_) | fail)
            obtain ⟨gp, cp, rfl, hcp, hgp⟩ := owned_shape hop (by omega)
            have HNp : Hid (∀ j u, (bytesV (putL (cl : Int) 4))[j]? = some u → w2.cell? ((⟨gp, 0, none⟩ : Addr).add j) = some u) := hidden (bs_news (own_bs hop) hcp)
            have hb3 : Below w.heap.size w w2 := hb1.trans (hb2.mono hs2)
            have HO2 := hidden (own_later HO1.out hb2)
            have hs3 := hb3.size
            clear hop hb2 HO1 hb1 hs2 e1
            refine hidden ?_
            go_wp2_with (at_builtin; refine wpList_append_own _ rfl (.tmp 63) (.tmp 71) 22 rfl w.heap.size 5 i0 (.int .u8 0) 1 1 Try.underlying22 hi hz0 hz1 hz2 rfl (by decide) _ _ _ rfl HO2.out ⟨gp, 0, none⟩ 4 cp (bytesV (putL (cl : Int) 4)) rfl rfl HNp.out (bytesV_one _) (by unfold maxLen; omega) (by omega) (by first | omega | (simp; omega)) ?_; intro v3 w3 hown3 hgrow3 hiff3; clear hiff3; refine Hid.out ?_)
            have hb4 : Below w.heap.size w w3 := hb3.grown hgrow3 hs3 (fun k hk => (HO2.out.lt k hk).1)
            rw [bytesV_append] at hown3
            have HO3 := hidden hown3
            have hs4 := hb4.size
            have e1 := HD1.out w3 hb4
            have e2 := HD1.out w3 hb4
            clear hown3 hgrow3 HO2 HNp hb3 hs3
            refine hidden ?_
            have HNd : Hid (∀ j u, (bytesV cd)[j]? = some u → w3.cell? (xd.add j) = some u) := hidden (HRd.out.later hb4).news
            go_wp2_with (at_builtin; refine wpList_append_own _ rfl (.tmp 73) (.tmp 78) 22 rfl w.heap.size 5 i0 (.int .u8 0) 1 1 Try.underlying22 hi hz0 hz1 hz2 rfl (by decide) _ _ _ rfl HO3.out xd cl cc (bytesV cd) rfl (by simp [bytesV, hcdl]) HNd.out (bytesV_one _) (by unfold maxLen; omega) (by omega) (by first | omega | (simp; omega)) ?_; intro v4 w4 hown4 hgrow4 hiff4; clear hiff4; refine Hid.out ?_)
            have hb5 : Below w.heap.size w w4 := hb4.grown hgrow4 hs4 (fun k hk => (HO3.out.lt k hk).1)
            rw [bytesV_append] at hown4
            have HO4 := hidden hown4
            have hs5 := hb5.size
            have e1 := HD1.out w4 hb5
            clear hown4 hgrow4 HO3 HNd hb4 hs4
            by_cases hodd : cl % 2 = 1
            · have hod : ((cl : Int) % 2 == 1) = true := by simp; omega
              have HO5 := hidden (HO4.out.alloc (.cells #[.int .u8 0] 5))
              have HN5 := hidden (new_cell w4 [0] (by decide))
              have hb6 := hb5.alloc hs5 (.cells #[.int .u8 0] 5)
              have HOD := hidden hodd
              clear hodd
              refine hidden ?_
              go_wp2_with (at_builtin; refine wpList_append_own _ rfl (.tmp 88) (.tmp 89) 22 rfl w.heap.size 5 i0 (.int .u8 0) 1 1 Try.underlying22 hi hz0 hz1 hz2 rfl (by decide) _ _ _ rfl HO5.out ⟨w4.heap.size, 0, none⟩ 1 1 (bytesV [0]) rfl rfl HN5.out (bytesV_one _) (by unfold maxLen; omega) (by omega) (by simp; omega) ?_; intro v6 w6 hown6 hgrow6 hiff6; clear hiff6; refine Hid.out ?_)
              have hb7 : Below w.heap.size w w6 := hb6.grown hgrow6 hb6.size (fun k hk => (HO5.out.lt k hk).1)
              rw [bytesV_append] at hown6
              have HO6 := hidden hown6
              clear hown6 hgrow6 HO5 HN5 HO4 hb5 hb6 e1
              refine hidden ?_
              go_wp2
              go_roundw
              case rel =>
                refine ⟨k + 1, by omega, by go_num, ?_, hb7⟩
                rw [hsn.out, hfl.out]
                have hq := HO6.out
                unfold ckL
                rw [if_pos HOD.out, HOD.out]
                rw [hid] at hq
                simp only [List.append_assoc] at hq ⊢
                exact own_len_eq hq (by omega)
              case measure => simp [intOf]; omega
            · have hod : ((cl : Int) % 2 == 1) = false := by simp; omega
              have HOD := hidden hodd
              clear hodd
              refine hidden ?_
              go_wp2
              go_roundw
              case rel =>
                refine ⟨k + 1, by omega, by go_num, ?_, hb5⟩
                rw [hsn.out, hfl.out]
                have hq := HO4.out
                have hev : cl % 2 = 0 := by have := HOD.out; omega
                unfold ckL
                rw [if_neg HOD.out, hev, List.append_nil]
                rw [hid] at hq
                simp only [List.append_assoc] at hq ⊢
                exact own_len_eq hq (by omega)
              case measure => simp [intOf]; omega
        · obtain rfl : len = k := by omega
          have hse : cs.take len = cs := List.take_of_length_le (by have := HLen.out; omega)
          rw [hse] at HO
          rw [← HZ.out] at HO
          go_wp2
          go_ret2
          exact ⟨_, rfl, HO.out, hbl⟩
end Go.Proofs.Ytedihackifchcaa
