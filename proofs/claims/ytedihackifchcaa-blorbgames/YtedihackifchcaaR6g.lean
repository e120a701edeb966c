/- Contracts of the document's Game (package grottoref06) for any bytes, and of Spoil. -/
import Derived.Test.YtedihackifchcaaR6f
namespace Go.Proofs.Ytedihackifchcaa
open Go.RowKit
set_option maxHeartbeats 1000000
set_option maxRecDepth 100000
set_option linter.unusedVariables false

def isGS (s : Sr) : Bool := decide (s.1 = EXEC ∧ s.2.1 = 0)
/-- the game among resources -/
def pickS (l : List Sr) (L : Int) : List Int × Int × Int := match l.find? isGS with
  | none => ([], 62, 12)
  | some s => if s.2.2.1 ≠ GLUL then ([], 62, 12) else (s.2.2.2, 0, L)
theorem pick_map (cs : List Sc) (es : List En) (L : Int) : pickR cs L (es.find? isGame) = pickS (es.map (resS cs)) L := by
  unfold pickS
  rw [List.find?_map]
  have e : (isGS ∘ resS cs) = isGame := by funext a; rfl
  rw [e]
  cases es.find? isGame with
  | none => rfl
  | some a => rfl
theorem within_read (zs : List Int) : withinR zs = if (readR zs).2.1 ≠ 0 then ([], (readR zs).2.1, (readR zs).2.2) else pickS (readR zs).1 zs.length := by
  unfold withinR readR
  by_cases h : (openR zs).2.1 ≠ 0
  · rw [if_pos h, if_pos h, if_pos h]
  · rw [if_neg h, if_neg h, if_neg (by simp), pick_map]
theorem pick_some (rs : List Rk) (k : Nat) (hk : k < rs.length) (L : Int) (h1 : ∀ j (hj : j < k), ¬ (rs[j].u = EXEC ∧ rs[j].x = 0)) (h2 : rs[k].u = EXEC) (h3 : rs[k].x = 0) :
    pickS (rs.map srOf) L = if rs[k].id ≠ GLUL then ([], 62, 12) else (rs[k].d, 0, L) := by
  have hf : (rs.map srOf).find? isGS = some (srOf rs[k]) := by
    rw [List.find?_eq_some_iff_getElem]
    refine ⟨by unfold isGS srOf; simp [h2, h3], k, by simpa using hk, by simp, fun j hj => ?_⟩
    have := h1 j hj
    unfold isGS srOf
    simp only [List.getElem_map]
    by_cases q : rs[j].u = EXEC
    · have q2 : ¬ rs[j].x = 0 := fun e => this ⟨q, e⟩
      simp [q2]
    · simp [q]
  unfold pickS
  rw [hf]
  rfl
theorem pick_none (rs : List Rk) (L : Int) (h1 : ∀ j (hj : j < rs.length), ¬ (rs[j].u = EXEC ∧ rs[j].x = 0)) : pickS (rs.map srOf) L = ([], 62, 12) := by
  have hf : (rs.map srOf).find? isGS = none := by
    rw [List.find?_eq_none]
    intro s hs
    obtain ⟨r, hr, rfl⟩ := List.mem_map.1 hs
    obtain ⟨j, hj, rfl⟩ := List.getElem_of_mem hr
    have := h1 j hj
    unfold isGS srOf
    simpa using this
  unfold pickS
  rw [hf]
theorem strA_short (zs : List Int) (L : Nat) (h : L < 4) (B : ByteArray) (hB : B.size = 4) : strA (seg zs 0 L) ≠ B := by
  intro e
  have h1 := congrArg ByteArray.size e
  rw [hB] at h1
  have h2 : (strA (seg zs 0 L)).size = (seg zs 0 L).length := by simp [strA, strB, ByteArray.size]
  rw [h2] at h1
  unfold seg at h1
  simp at h1
  omega
theorem rgame_few (a : Option Addr) (L cap : Nat) (zs : List Int) (w : World) (hl : zs.length = L) (h4 : L < 4) :
    Calls Try.prog 20 #[.slice a L cap] w (GRet w (gameR zs)) := by
  have hR : gameR zs = ([], 63, 0) := by
    unfold gameR
    rw [hl, Nat.min_eq_left (by omega), if_neg (strA_short zs L h4 _ rfl), if_neg (strA_short zs L h4 _ rfl)]
  rw [hR]
  have c1 : (L : Int) < 4 := by omega
  go_enter Try.func20, Try.ntmps20
  go_wp2
  refine bodyPost_ret (v := .tuple #[.slice none 0 0, .int .i64 63, .int .i64 0]) (by simp [results, Try.results20, go_sem]) rfl ?_
  exact ⟨Below.refl _ _, .inl ⟨by simp, rfl⟩⟩
theorem rgame_any (g o L cap : Nat) (zs : List Int) (w : World) (h : Bs w g o L zs) (hok : OkB zs) (hm : L ≤ 1000000) (hcap : L ≤ cap) (h4 : 4 ≤ L) :
    Calls Try.prog 20 #[.slice (some ⟨g, o, none⟩) L cap] w (GRet w (gameR zs)) := by
  obtain ⟨i0, hi, hz0, hz1, hz2⟩ := info_parts info8
  have hlen := h.1
  have hr := h.sub 0 4 cap (by omega) (by omega)
  rw [Nat.add_zero] at hr
  have e2 : (convert 22 9 (.slice (some ⟨g, o, none⟩) 4 cap)).run Try.prog w = .ok (.string (strA (seg zs 0 4))) w := conv_reads w _ _ _ _ (seg_okb hok 0 4) hr
  have g1 : (L : Int) ≤ 1000000 := by omega
  have g2 : (4 : Int) ≤ (L : Int) := by omega
  have g4 : (4 : Int) ≤ (cap : Int) := by omega
  have HRD := hidden (rread_any g o L cap zs w h hok (by omega) hcap)
  have HBs := hidden h
  have hd : gameR zs = if strA (seg zs 0 4) = GlulB then (zs, 0, (L : Int)) else if strA (seg zs 0 4) = FORMB then (if (readR zs).2.1 ≠ 0 then ([], (readR zs).2.1, (readR zs).2.2) else pickS (readR zs).1 L) else ([], 63, 0) := by
    unfold gameR
    rw [hlen, Nat.min_eq_right h4, within_read, hlen]
  rw [hd]
  clear hr hd h
  generalize strA (seg zs 0 4) = S at *
  by_cases c1 : S = GlulB
  · rw [if_pos c1]
    subst c1
    have hb0 : Below w.heap.size w (w.alloc (.cells #[] 5)) := (Below.refl _ _).alloc (Nat.le_refl _) _
    have HO := hidden (World.ownsRow_made (base := w.heap.size) (e := 5) (size := 1) w #[] 0 (Nat.le_refl _) (Nat.zero_le _) (by simp))
    have hrd : Reads w (some ⟨g, o, none⟩) L cap zs := ⟨HBs.out.1, hcap, .inr ⟨_, rfl, fun i hi => by rw [plain_add]; exact HBs.out.2 i hi⟩⟩
    have HN1 := hidden (hrd.later hb0).news
    clear hrd
    clear HRD
    go_enter Try.func20, Try.ntmps20
    go_wp2_with (at_builtin; refine wpList_append_own _ rfl (.tmp 18) (.tmp 19) 22 rfl w.heap.size 5 i0 (.int .u8 0) 1 1 Try.underlying22 hi hz0 hz1 hz2 rfl (by decide) _ _ _ rfl HO.out ⟨g, o, none⟩ L cap (bytesV zs) rfl (by simp [bytesV, hlen]) HN1.out (bytesV_one zs) (by unfold maxLen; omega) (by omega) (by simp) ?_; intro v1 w1 hown1 hgrow1 hiff1; clear hiff1; refine Hid.out ?_)
    have hb1 : Below w.heap.size w w1 := hb0.grown hgrow1 (by simp) (by intro k hk; have e : some w.heap.size = some k := hk; simp at e; omega)
    simp only [Nat.zero_add, List.nil_append] at hown1
    obtain ⟨ao, cv, rfl⟩ := own_slice hown1
    have HO1 := hidden hown1
    clear hown1 hgrow1 HO HN1 hb0
    refine hidden ?_
    go_wp2
    refine bodyPost_ret (v := .tuple #[.slice ao L cv, .int .i64 0, .int .i64 L]) (by simp [results, Try.results20, go_sem]) rfl ?_
    exact ⟨hb1, .inr ⟨rfl, ao, L, cv, rfl, HO1.out, hok⟩⟩
  rw [if_neg c1]
  have c1' := strlit_f [71, 108, 117, 108] c1
  by_cases c2 : S = FORMB
  · rw [if_pos c2]
    subst c2
    clear c1 HBs
    have hRX := readR_x zs hok
    generalize hRR : readR zs = RR at *
    clear hRR
    by_cases hne0 : RR.2.1 ≠ 0
    · rw [if_pos hne0]
      have d1 : (RR.2.1 != 0) = true := by simpa using hne0
      go_enter Try.func20, Try.ntmps20
      go_wp2_with fail
      refine HRD.out.mono ?_
      rintro e w1 ⟨hb, ⟨hne, rfl⟩ | ⟨hz, ao, cv, rs, rfl, hg, hmp, hdd, hll⟩⟩
      · go_wp2
        refine bodyPost_ret (v := .tuple #[.slice none 0 0, .int .i64 RR.2.1, .int .i64 RR.2.2]) (by simp [results, Try.results20, go_sem]) rfl ?_
        exact ⟨hb, .inl ⟨hne, rfl⟩⟩
      · exact absurd hz hne0
    · rw [if_neg hne0]
      have hz0' := Classical.not_not.1 hne0
      go_enter Try.func20, Try.ntmps20
      go_wp2_with fail
      refine HRD.out.mono ?_
      rintro e w1 ⟨hb, ⟨hne, rfl⟩ | ⟨hz, ao, cv, rs, rfl, hg, hmp, hdd, hll⟩⟩
      · exact absurd hz0' hne
      have HP : Hid (RR.1 = rs.map srOf) := hidden hmp.symm
      have HG := hidden hg
      have HDD := hidden hdd
      have HB := hidden hb
      have hrk := rks_own hg hdd (fun r hr => hRX (srOf r) (by rw [HP.out]; exact List.mem_map_of_mem hr))
      have HRK := hidden hrk
      have hn5 : (rs.length : Int) ≤ 512 := by omega
      have hcv := hrk.2.1
      clear hrk hg hmp hdd hb hRX HRD hne0
      have d1 : (RR.2.1 != 0) = false := by simpa using hz0'
      clear hz hz0'
      have HPS := hidden (fun k hk h1 h2 h3 => pick_some rs k hk L h1 h2 h3)
      have HPN := hidden (pick_none rs L)
      go_wp2
      go_loop [8] (fun i => ∃ k : Nat, k ≤ rs.length ∧ i = .int .i64 k ∧ Hid (∀ j (hj : j < k) (hl : j < rs.length), ¬ (rs[j].u = EXEC ∧ rs[j].x = 0))) (fun i => rs.length - (intOf i).toNat)
      case atStart => exact ⟨0, by omega, rfl, hidden (fun j hj => by omega)⟩
      case round =>
        obtain ⟨k, hk, rfl, hno⟩ := hrel
        by_cases hlt : k < rs.length
        · have hlt2 : (k : Int) < (rs.length : Int) := by omega
          have hk0 : (0 : Int) ≤ (k : Int) := by omega
          obtain ⟨b, off, rfl, hc⟩ := HRK.out.at (by omega)
          obtain ⟨m0, m1, m2, m3⟩ := hc k hlt
          have HOw := hidden (HG.out.2 _ (List.getElem_mem hlt))
          have HOd := hidden (HDD.out _ (List.getElem_mem hlt))
          have HPk := hidden (HPS.out k hlt (fun j hj => hno.out j hj (by omega)))
          have HNx : Hid (¬ (rs[k].u = EXEC ∧ rs[k].x = 0) → ∀ j (hj : j < k + 1) (hl : j < rs.length), ¬ (rs[j].u = EXEC ∧ rs[j].x = 0)) := hidden fun h j hj hl => by
            by_cases e : j = k
            · subst e; exact h
            · exact hno.out j (by omega) hl
          clear hc
          generalize rs[k] = r at *
          obtain ⟨u, x, id, ra, rl, rc, rd⟩ := r
          dsimp only at m0 m1 m2 m3 HOw HOd HPk HNx
          by_cases hu : u = EXEC
          · subst hu
            by_cases hx : x = 0
            · subst hx
              have hpk := HPk.out rfl rfl
              by_cases hid : id = GLUL
              · subst hid
                rw [if_neg (by simp)] at hpk
                have HPP := hidden hpk
                clear hpk HPk HNx hno
                go_wp2
                refine bodyPost_ret (v := .tuple #[.slice ra rl rc, .int .i64 0, .int .i64 L]) (by simp [results, Try.results20, go_sem]) rfl ?_
                rw [HP.out, HPP.out]
                exact ⟨HB.out, .inr ⟨rfl, ra, rl, rc, rfl, HOw.out, HOd.out⟩⟩
              · rw [if_pos hid] at hpk
                have HPP := hidden hpk
                have hid' := strlit_f [71, 76, 85, 76] hid
                clear hpk HPk HNx hno hid
                go_wp2
                refine bodyPost_ret (v := .tuple #[.slice none 0 0, .int .i64 62, .int .i64 12]) (by simp [results, Try.results20, go_sem]) rfl ?_
                rw [HP.out, HPP.out]
                exact ⟨HB.out, .inl ⟨by simp, rfl⟩⟩
            · have hx' : (x == 0) = false := by simpa using hx
              have HN2 := hidden (HNx.out (fun q => hx q.2))
              clear HNx hx HPk hno
              go_wp2
              go_round
              case rel => exact ⟨k + 1, by omega, by go_num, HN2⟩
              case measure => simp [intOf]; omega
          · have hu' := strlit_f [69, 120, 101, 99] hu
            have HN2 := hidden (HNx.out (fun q => hu q.1))
            clear HNx hu HPk hno
            go_wp2
            go_round
            case rel => exact ⟨k + 1, by omega, by go_num, HN2⟩
            case measure => simp [intOf]; omega
        · obtain rfl : k = rs.length := by omega
          have HPP := hidden (HPN.out (fun j hj => hno.out j hj hj))
          clear hno
          go_wp2
          refine bodyPost_ret (v := .tuple #[.slice none 0 0, .int .i64 62, .int .i64 12]) (by simp [results, Try.results20, go_sem]) rfl ?_
          rw [HP.out, HPP.out]
          exact ⟨HB.out, .inl ⟨by simp, rfl⟩⟩
  · rw [if_neg c2]
    have c2' := strlit_f [70, 79, 82, 77] c2
    clear c1 c2 HRD HBs
    go_enter Try.func20, Try.ntmps20
    go_wp2
    refine bodyPost_ret (v := .tuple #[.slice none 0 0, .int .i64 63, .int .i64 0]) (by simp [results, Try.results20, go_sem]) rfl ?_
    exact ⟨Below.refl _ _, .inl ⟨by simp, rfl⟩⟩
/-- bytes of an owned row written over: nothing older turns -/
theorem spoil_any (a : Option Addr) (l c B : Nat) (xs : List Int) (w : World) (h : w.ownsRow B 5 1 (.slice a l c) l (bytesV xs)) (hl : l ≤ 9223372036854775807) :
    Calls Try.prog 21 #[.slice a l c] w fun e w' => e = .returned (.tuple #[]) ∧ Below B w w' := by
  by_cases h0 : l = 0
  · subst h0
    clear h
    go_enter Try.func21, Try.ntmps21
    go_wp2
    go_rounds 1
    refine bodyPost_end (v := .tuple #[]) (by simp [results, Try.results21, go_sem]) rfl ⟨rfl, Below.refl _ _⟩
  · obtain ⟨g, cap, e, hc, hg⟩ := owned_shape h (by omega)
    simp only [Value.slice.injEq] at e
    obtain ⟨rfl, -, rfl⟩ := e
    have HF : Hid (∀ i, w.frozen? ⟨g, i, none⟩ = false) := hidden fun i => h.frozenAt i
    have HC : Hid (∀ i, i < l → ∃ u, w.cell? ⟨g, i, none⟩ = some u) := hidden fun i hi => ⟨_, by have := owned_cells h i hi; rwa [Nat.zero_add] at this⟩
    have hl2 : (l : Int) ≤ 9223372036854775807 := by omega
    clear h
    go_enter Try.func21, Try.ntmps21
    go_wp2
    go_loopw [2] (fun i w' => ∃ k : Nat, k ≤ l ∧ i = .int .i64 k ∧ Hid (∀ i, w'.frozen? ⟨g, i, none⟩ = false) ∧ Hid (∀ i, i < l → ∃ u, w'.cell? ⟨g, i, none⟩ = some u) ∧ Below B w w') (fun i _ => l - (intOf i).toNat)
    case atStart => exact ⟨0, by omega, rfl, HF, HC, Below.refl _ _⟩
    case round =>
      obtain ⟨k, hk, rfl, hF, hC, hb⟩ := hrel
      by_cases hlt : k < l
      · have hlt2 : (k : Int) < (l : Int) := by omega
        have hk0 : (0 : Int) ≤ (k : Int) := by omega
        obtain ⟨u, hu⟩ := hC.out k hlt
        have hf := hF.out k
        have HB := hidden hb
        clear hb
        go_wp2
        go_roundw
        case rel =>
          refine ⟨k + 1, by omega, by go_num, hidden (fun i => ?_), hidden (fun i hi => ?_), HB.out.setCell (p := ⟨g, k, none⟩) hg _⟩
          · rw [World.frozen?_setCell]; exact hF.out i
          · by_cases e : i = k
            · subst e
              exact ⟨_, World.cell?_setCell_same _ _ _ hu⟩
            · obtain ⟨u', hu'⟩ := hC.out i hi
              exact ⟨u', by rw [World.cell?_setCell_other _ _ _ _ (fun q => e (congrArg Addr.off q).symm)]; exact hu'⟩
        case measure => simp [intOf]; omega
      · obtain rfl : k = l := by omega
        go_wp2
        refine bodyPost_end (v := .tuple #[]) (by simp [results, Try.results21, go_sem]) rfl ⟨rfl, hb⟩
end Go.Proofs.Ytedihackifchcaa
