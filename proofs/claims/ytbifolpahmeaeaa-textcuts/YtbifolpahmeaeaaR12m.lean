/- Layer 12: a packed text whose bits end too early: lists, and the walk of TextCuts. -/
import Derived.Test.YtbifolpahmeaeaaR12l
namespace Go.Proofs.Ytbifolpahmeaeaa
open Go.RowKit
set_option maxHeartbeats 1000000
set_option maxRecDepth 100000
set_option linter.unusedVariables false

theorem tb_root' {zs : List Int} {T : Nat} {A : List Nat} (h : InAt zs (tbL T A) T) (hT : T + (tbL T A).length < 4294967296) : nuV zs (T + 12) 1 = 0 ∧ T + 12 + 1 ≤ zs.length := by
  obtain ⟨r1, r2, r3, r4, r5⟩ := tb_root h hT
  have hfit := r3.fit
  have hrl : (rtL T A).length = 10 + (ndL A.length (rtA T) A).length := by unfold rtL; simp [putL]; omega
  unfold rtL at r3
  exact ⟨r3.first, by omega⟩
/-- where the bits end -/
theorem far_end {zs : List Int} {T : Nat} {A : List Nat} {t : Ta} (h : InAt zs (tbL T A) T) (hT : T + (tbL T A).length < 4294967296) (h0 : T ≠ 0) (hb : t.bit ≤ 7) (hk : t.k = 225) (ht : ¬ t.ad + 1 ≤ zs.length) : (nxN zs T t).e = 90 := by
  obtain ⟨r1, r2, r3, r4, r5⟩ := tb_root h hT
  obtain ⟨q0, q1⟩ := tb_root' h hT
  have hd : dsR zs 256 (T + 12) t = (90, 0, ta0) := by
    unfold dsR
    rw [if_pos q1, q0, if_neg (by simp)]
    show (if _ then if _ then dsR zs 255 _ _ else _ else _) = _
    rw [if_neg ht]
  unfold nxN
  rw [if_neg (by rw [hk]; omega), if_neg (by rw [hk]; omega), if_pos hk]
  unfold pkN
  rw [if_neg h0, if_pos r1, if_pos hb, r2, hd]
  rfl
theorem cut_run {N N' : Ta → Nx} (Tk : Nat → Ta) (xs : List Nat) (most : Nat) (hm : xs.length < most) (h1 : ∀ k, k < xs.length → N (Tk k) = ⟨0, 2, [xs.getD k 0], Tk (k + 1)⟩) (hN : ∀ t, (N' t).e ≠ 90 → N t = N' t) (h2 : (N' (Tk xs.length)).e = 90) : ∀ (d k : Nat), k + d = xs.length → PlRun N' most (xs.take k) (Tk k) 0 [] false 90
  | 0, k, h => by
    have hk : k = xs.length := by omega
    subst hk
    have := PlRun.err (N := N') (most := most) (l := xs.take xs.length) (t := Tk xs.length) (em := 0) (by omega) (by rw [h2]; omega)
    rwa [h2] at this
  | d + 1, k, h => by
    by_cases he : (N' (Tk k)).e = 90
    · have := PlRun.err (N := N') (most := most) (l := xs.take k) (t := Tk k) (em := 0) (by omega) (by rw [he]; omega)
      rwa [he] at this
    · have hN1 := hN (Tk k) he
      rw [h1 k (by omega)] at hN1
      have ih := cut_run Tk xs most hm h1 hN h2 d (k + 1) (by omega)
      have hl : (xs.take k).length = k := by rw [List.length_take]; omega
      refine .more (by omega) (by rw [← hN1]) (by rw [← hN1]; show 2 ≠ 1; omega) (by omega) (by rw [← hN1]; show 2 ≠ 3; omega) (by rw [← hN1, hl]; show k + 1 ≤ _; omega) (by rw [← hN1]; show 1 ≠ 0; omega) ?_
      rw [← hN1]
      show PlRun N' most (xs.take k ++ [xs.getD k 0]) (Tk (k + 1)) 0 [] false 90
      have e : xs.take (k + 1) = xs.take k ++ [xs.getD k 0] := by
        rw [List.take_add_one, List.getElem?_eq_getElem (by omega), List.getD_eq_getElem?_getD, List.getElem?_eq_getElem (by omega)]; rfl
      rw [← e]
      exact ih
/-- a packed text that is cut -/
theorem packed_cut {ys us : List Int} {T P : Nat} {A l : List Nat} (h : InAt (ys ++ us) (tbL T A) T) (hT : T + (tbL T A).length ≤ P) (h0 : T ≠ 0) (hz : InAt (ys ++ us) (pkL A l) P) (hend : (ys ++ us).length = P + (pkL A l).length) (hok : OkB (ys ++ us)) (hl : (ys ++ us).length < 4294967296) (hA : A.length ≤ 1024) (hx : ∀ x ∈ A, x < 4294967296) (hc : ∀ c ∈ l, c ∈ A) (hP : P ≤ ys.length) (hu : 0 < us.length) (most : Nat) (hm : l.length < most) : PlR ys T P most [] false 90 := by
  have hy : InAt ys (tbL T A) T := ⟨by omega, fun i hi => by
    rw [← h.eq i hi, List.getD_eq_getElem?_getD, List.getD_eq_getElem?_getD, List.getElem?_append_left (by omega)]⟩
  have hll : (ys ++ us).length = ys.length + us.length := List.length_append
  by_cases hb : ¬ (bgN ys P).1 = 0
  · refine .inl ⟨hb, rfl, rfl, ?_⟩
    by_cases h9 : (bgN ys P).1 = 90
    · exact h9.symm
    · have := bgN_app ys us P h9
      rw [(packed_begin hz hl).1] at this
      rw [← this] at hb
      exact absurd rfl hb
  · replace hb : (bgN ys P).1 = 0 := Decidable.not_not.1 hb
    have hbe := bgN_app ys us P (by omega)
    obtain ⟨b1, b2⟩ := packed_begin hz hl
    rw [b1] at hbe
    refine .inr ⟨hb, ?_⟩
    rw [← hbe]
    have hlen : (stepS (pkS A l l.length) 0).1.length = ((l.flatMap (chB A) ++ [0]).length + 7) / 8 := (pk_row A l).ln
    have hpl : (pkL A l).length = 1 + (stepS (pkS A l l.length) 0).1.length := by unfold pkL; simp; omega
    rw [List.length_append] at hlen
    refine cut_run (N := nxN (ys ++ us) T) (N' := nxN ys T) (tkP2 A l (P + 1)) l most hm (packed_next h (by omega) h0 b2 hok hl hA hx hc) (fun t ht => nxN_app ys us T t ht) (far_end hy (by omega) h0 (by show _ % 8 ≤ 7; omega) rfl ?_) l.length 0 (by omega)
    show ¬ (P + 1 + ((l.take l.length).flatMap (chB A)).length / 8) + 1 ≤ ys.length
    rw [List.take_length]
    simp only [List.length_cons, List.length_nil] at hlen
    omega
set_option maxHeartbeats 16000000 in
theorem cuts_main (al : Option Addr) (nl lc : Nat) (A : List Nat) (bl : Option Addr) (ml mc : Nat) (l : List Nat) (cut : Int) (w : World)
    (hv : VRow w al nl A) (hv2 : VRow w bl ml l) (hnl : nl ≤ 300) (hml : ml ≤ 300) (hlc : nl ≤ lc) (hlm : lc ≤ 9223372036854775807) :
    Calls Try.prog 5 #[.slice al nl lc, .slice bl ml mc, .int .i64 cut] w fun e w' => e = .returned (.bool true) ∧ Below w.heap.size w w' := by
  have hr0 : Reads w none 0 0 [] := ⟨rfl, Nat.le_refl _, .inl ⟨rfl, rfl, rfl⟩⟩
  have HLD := hidden (laid_any none 0 0 [] al nl lc A none 0 0 [] bl ml mc l none 0 0 [] w hr0 hv hr0 hv2 hr0 (by omega) hnl hml hlc hlm 1 rfl)
  have HLV : Hid (∀ w1, Below w.heap.size w w1 → Calls Try.prog 6 #[] w1 fun e w' => e = .returned (.bool true) ∧ Below w.heap.size w w') := fun w1 hb => (live_any w1).mono (fun e w' hh => ⟨hh.1, hb.trans (hh.2.mono hb.size)⟩)
  have HDV : Hid (∀ (w' : World) (g N cc P : Nat) (X Y : List Int), w'.ownsRow w.heap.size 5 1 (.slice (some ⟨g, 0, none⟩) N cc) N (bytesV (([7] ++ [] ++ X ++ []) ++ Y ++ [])) → ([7] ++ [] ++ X ++ []).length = P → N ≤ 500000 → OkB X → OkB Y → (plE A = 0 ∧ pkE A l = 0 ∧ X = tbL 1 A ∧ Y = pkL A l) → ∀ cu : Nat, P ≤ cu → cu < N →
      Hid (Calls Try.prog 15 #[.slice (some ⟨g, 0, none⟩) cu cc, .int .u32 1, .int .u32 P, .int .i64 301] w' (PartRet w' 0 [] false 90))) := hidden (fun w' g N cc P X Y h1 h2 h3 h4 h5 h6 cu hc1 hc2 => by
    have hll := hv2.ln
    have hx := hv.bd
    have hoe : OkB ([] : List Int) := fun c hc => by simp at hc
    have q := ld_at (w := w) (zs := []) (ys := []) (xs := []) (T := 1) h1 h2 h3 h4 h5 hoe hoe hoe (by simp) h6
    have hZ : (([7] ++ [] ++ X ++ []) ++ Y ++ []).length = N := q.rd.1
    have hpe : (([7] ++ [] ++ X ++ []) ++ Y ++ []).length = P + (pkL A l).length := by
      rw [h6.2.2.2, List.length_append, List.length_append, h2]; simp
    obtain ⟨Z, hZe⟩ : ∃ Z, Z = ([7] ++ [] ++ X ++ []) ++ Y ++ [] := ⟨_, rfl⟩
    rw [← hZe] at q hZ hpe
    have hsp : Z.take cu ++ Z.drop cu = Z := List.take_append_drop cu Z
    have htb := q.tb
    have hpk := q.pk
    have hokZ := q.ok
    rw [← hsp] at htb hpk hokZ hpe
    have hlt : (Z.take cu).length = cu := by rw [List.length_take]; omega
    have hld : (Z.drop cu).length = N - cu := by rw [List.length_drop, hZ]
    have hla : (Z.take cu ++ Z.drop cu).length = N := by rw [hsp]; exact hZ
    have hcut := packed_cut htb q.tl (by omega) hpk hpe hokZ (by rw [hla]; omega) q.nd hx q.mem (by rw [hlt]; exact hc1) (by rw [hld]; omega) 301 (by omega)
    have hrd : Reads w' (some ⟨g, 0, none⟩) cu cc (Z.take cu) := by
      have := q.rd
      refine ⟨hlt, by have := this.2.1; omega, .inr ?_⟩
      rcases this.2.2 with ⟨e, _⟩ | ⟨x, e, hcell⟩
      · cases e
      · refine ⟨x, e, fun i hi => ?_⟩
        rw [hcell i (by omega), List.getD_eq_getElem?_getD, List.getD_eq_getElem?_getD, List.getElem?_take, if_pos hi]
    have htl := q.tl
    exact hidden (plain_at w' (some ⟨g, 0, none⟩) cu cc 301 1 P _ [] false 90 0 hrd (fun c hc => hokZ c (List.mem_append_left _ hc)) (by omega) (by omega) (by omega) (by omega) rfl hcut))
  have g2 : ¬ (300 : Int) < (nl : Int) := by omega
  have g3 : ¬ (300 : Int) < (ml : Int) := by omega
  clear hv hv2 hr0
  go_enter Try.func5, Try.ntmps5
  go_upto_region 4 with (first | (go_at_call 14; refine HLD.out.mono ?_; rintro r w1 ⟨hb1, g, N, cc, P, X, Y, b, rfl, h1, h2, h3, h4, h5, h6⟩; have HB1 := hidden hb1; have hNc : N ≤ cc := (own_reads h1).2.1; have hPb : P ≤ 500000 := (by have q := (own_reads h1).1; rw [List.length_append, List.length_append, h2] at q; omega); have HDV1 := hidden (fun q : b = true => HDV.out w1 g N cc P X Y h1 h2 h3 h4 h5 (h6 q)); clear hb1 h1 h2 h4 h5 h6) | fail)
  clear HLD HDV
  cases b with
  | false =>
    go_wp2_with (first | (go_at_call 6; refine (HLV.out _ HB1.out).mono ?_; rintro x wl ⟨rfl, hbl⟩) | fail)
    go_ret
    exact ⟨rfl, hbl⟩
  | true =>
    have HDV2 := hidden (HDV1.out rfl)
    clear HDV1
    by_cases hc1 : cut < P
    · go_wp2_with (first | (go_at_call 6; refine (HLV.out _ HB1.out).mono ?_; rintro x wl ⟨rfl, hbl⟩) | fail)
      go_ret
      exact ⟨rfl, hbl⟩
    · by_cases hc2 : cut ≥ N
      · go_wp2_with (first | (go_at_call 6; refine (HLV.out _ HB1.out).mono ?_; rintro x wl ⟨rfl, hbl⟩) | fail)
        go_ret
        exact ⟨rfl, hbl⟩
      · obtain ⟨cu, rfl⟩ := Int.eq_ofNat_of_zero_le (show 0 ≤ cut by omega)
        have HP1 := hidden (HDV2.out cu (by omega) (by omega)).out
        have hcc : (cu : Int) ≤ cc := by omega
        clear HDV2
        go_wp2_with (first | (go_at_call 15; refine HP1.out.mono ?_; rintro x w2 ⟨a4, c4, rfl, hv4, hb4⟩; have HB4 := hidden (HB1.out.trans (hb4.mono HB1.out.size)); clear hv4 hb4) | (go_at_call 12; refine (num12 _ _).mono ?_; rintro x w9 ⟨rfl, e9⟩; rw [e9]; clear e9) | (go_at_call 6; refine (HLV.out _ HB4.out).mono ?_; rintro x wl ⟨rfl, hbl⟩) | fail)
        go_ret
        exact ⟨rfl, hbl⟩
theorem textCuts_walk (al : Option Addr) (nl lc : Nat) (vs : List Int) (bl : Option Addr) (ml mc : Nat) (us : List Int) (cut : Int) (w : World) (hv0 : IsRow .u32 w al nl lc vs) (hu0 : IsRow .u32 w bl ml mc us) (hcw : (Lit.int .i64 cut).wf = true) :
    Calls Try.prog 5 #[.slice al nl lc, .slice bl ml mc, .int .i64 cut] w fun e w' => e = .returned (.bool true) ∧ Below w.heap.size w w' := by
  obtain ⟨A, hv, hlc, hlm⟩ := vrow_of hv0
  obtain ⟨l, hv2, hmc, hmm⟩ := vrow_of hu0
  have hlcm := row_cap hv0
  clear hv0 hu0
  have HLV := hidden (live_any w)
  by_cases hnl : nl ≤ 300
  · have g2 : ¬ (300 : Int) < (nl : Int) := by omega
    by_cases hml : ml ≤ 300
    · exact cuts_main al nl lc A bl ml mc l cut w hv hv2 hnl hml hlc hlcm
    · have g3 : (300 : Int) < (ml : Int) := by omega
      clear hv hv2
      go_enter Try.func5, Try.ntmps5
      go_wp2_with (first | (go_at_call 6; refine HLV.out.mono ?_; rintro e wl ⟨rfl, hbl⟩))
      go_ret
      exact ⟨rfl, hbl⟩
  · have g2 : (300 : Int) < (nl : Int) := by omega
    clear hv hv2
    go_enter Try.func5, Try.ntmps5
    go_wp2_with (first | (go_at_call 6; refine HLV.out.mono ?_; rintro e wl ⟨rfl, hbl⟩))
    go_ret
    exact ⟨rfl, hbl⟩
end Go.Proofs.Ytbifolpahmeaeaa
