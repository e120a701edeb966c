/- Contract of package header's Make: the game of a header, or why none. -/
import Derived.Test.YtcfmmkhfhbnmbaaH7i
import Derived.Laws.CopyOwn
namespace Go.Proofs.Ytcfmmkhfhbnmbaa
open Go.RowKit
set_option maxHeartbeats 1000000
set_option maxRecDepth 100000
set_option linter.unusedVariables false

theorem own_later {w w' : World} {B e size n : Nat} {v : Value} {xs : List Value} (h : w.ownsRow B e size v n xs) (hb : Below w.heap.size w w') : w'.ownsRow B e size v n xs := by
  refine ⟨h.1, ?_⟩
  rcases h.2 with h2 | ⟨g, cap, cur, h1, h2, h3, h4⟩
  · exact .inl h2
  · exact .inr ⟨g, cap, cur, h1, h2, (hb.block g (Array.getElem?_eq_some_iff.1 h3).1).trans h3, h4⟩
theorem own_base {w : World} {B B' e size n : Nat} {v : Value} {xs : List Value} (h : w.ownsRow B' e size v n xs) (hB : B ≤ B') : w.ownsRow B e size v n xs := by
  refine ⟨h.1, ?_⟩
  rcases h.2 with h2 | ⟨g, cap, cur, h1, h2, h3, h4⟩
  · exact .inl h2
  · exact .inr ⟨g, cap, cur, h1, Nat.le_trans hB h2, h3, h4⟩
theorem own_bs {w : World} {B g n cap : Nat} {zs : List Int} (h : w.ownsRow B 5 1 (.slice (some ⟨g, 0, none⟩) n cap) n (bytesV zs)) : Bs w g 0 n zs := by
  have hl : (bytesV zs).length = n * 1 := h.1
  exact ⟨by simpa [bytesV] using hl, fun i hi => owned_cells h i hi⟩
theorem bytesV_splice (zs ds : List Int) (off : Nat) : bytesV (splice zs off ds) = splice (bytesV zs) off (bytesV ds) := by
  simp [bytesV, splice, List.map_append, List.map_take, List.map_drop]
/-- an owned row over which bytes are laid -/
theorem own_splice {w : World} {B g n cap : Nat} {zs : List Int} (h : w.ownsRow B 5 1 (.slice (some ⟨g, 0, none⟩) n cap) n (bytesV zs)) :
    ∃ cur : List Value, w.heap[g]? = some (.cells cur.toArray 5 (0, 0)) ∧ n ≤ cur.length ∧ B ≤ g ∧ n ≤ cap ∧ cap ≤ maxLen ∧ ∀ (w' : World) (off : Nat) (ds : List Int), off + ds.length ≤ n → w'.heap[g]? = some (.cells (splice cur off (bytesV ds)).toArray 5 (0, 0)) →
      w'.ownsRow B 5 1 (.slice (some ⟨g, 0, none⟩) n cap) n (bytesV (splice zs off ds)) := by
  have hl : (bytesV zs).length = n * 1 := h.1
  have hzl : zs.length = n := by simpa [bytesV] using hl
  rcases h.2 with ⟨h2, _⟩ | ⟨g', cap', cur, h1, h2, h3, h4, h5, h6, h7⟩
  · cases h2
  · simp only [Value.slice.injEq, Option.some.injEq, Addr.mk.injEq, true_and, and_true] at h1
    obtain ⟨rfl, rfl⟩ := h1
    refine ⟨cur.toList, by simpa using h3, by simp; omega, h2, h4, h5, fun w' off ds ho hw => ?_⟩
    have hcl : cur.toList.length = cap := by simp; omega
    have hbl : (bytesV ds).length = ds.length := by simp [bytesV]
    have hsl : (splice cur.toList off (bytesV ds)).length = cap := by rw [length_splice _ _ _ (by omega)]; exact hcl
    refine ⟨by rw [bytesV_splice, length_splice _ _ _ (by omega)]; exact hl, .inr ⟨g, cap, _, rfl, h2, hw, h4, h5, by simpa using hsl, ?_⟩⟩
    rw [bytesV_splice, ← h7, Nat.mul_one]
    simp only [splice]
    rw [List.take_append, List.take_take, List.take_take, List.length_take, List.take_append, List.drop_take, hcl, hbl]
    rw [show min n off = off by omega, show min off n = off by omega, show min off cap = off by omega, List.take_of_length_le (show (bytesV ds).length ≤ n - off by omega)]
    rw [show n - (off + ds.length) = n - off - ds.length by omega]
/-- a header's bytes ahead of its sum -/
def hd32 (h : Hd) : List Int := glul ++ putsL [h.v, h.ram, h.ext, h.en, h.st, h.start, h.tab]
theorem hdr_parts (h : Hd) : hdrL h = hd32 h ++ putL h.sum 4 := by
  unfold hdrL hd32 putsL
  simp [List.append_assoc]
theorem hd32_len (h : Hd) : (hd32 h).length = 32 := rfl
theorem put4_len (x : Int) : (putL x 4).length = 4 := rfl
theorem hdrL_len (h : Hd) : (hdrL h).length = 36 := rfl
/-- the game of a header and what stands behind it -/
def makeL (h : Hd) (zs : List Int) : List Int := hdrL { h with sum := sumV (hdrL h ++ zs) } ++ zs
theorem makeL_len (h : Hd) (zs : List Int) : (makeL h zs).length = 36 + zs.length := by
  unfold makeL; rw [List.length_append, hdrL_len]
theorem make_splice (h : Hd) (zs : List Int) (S : Int) : splice (hdrL h ++ zs) 32 (putL S 4) = hdrL { h with sum := S } ++ zs := by
  rw [hdr_parts, hdr_parts]
  unfold splice
  have e1 : (hd32 h ++ putL h.sum 4 ++ zs).take 32 = hd32 h := by rw [List.append_assoc]; exact List.take_left' (hd32_len h)
  have e2 : (hd32 h ++ putL h.sum 4 ++ zs).drop (32 + 4) = zs := List.drop_left' (by rw [List.length_append, hd32_len, put4_len])
  rw [put4_len, e1, e2, ← List.append_assoc]
  rfl
theorem okb_app {a b : List Int} (ha : OkB a) (hb : OkB b) : OkB (a ++ b) := append_bd a b ha hb
theorem hdrL_ok (h : Hd) : OkB (hdrL h) := by
  intro c hc
  unfold hdrL at hc
  rcases List.mem_append.1 hc with hc | hc
  · exact glul_ok 4 c (by simpa [glul] using hc)
  · obtain ⟨x, _, hx⟩ := List.mem_flatMap.1 hc
    exact putL_bd x 4 c hx
theorem makeL_ok (h : Hd) (zs : List Int) (hz : OkB zs) : OkB (makeL h zs) := okb_app (hdrL_ok _) hz
theorem make_bad (v ram ext en st start tab sm : Int) (a : Option Addr) (L cap : Nat) (w : World) (hL : L ≤ 1048540) (E AT : Int) (eR : numR v ram ext en st start tab (36 + L) = (E, AT)) (hE : E ≠ 0) :
    Calls Try.prog 17 #[.agg #[.int .u32 v, .int .u32 ram, .int .u32 ext, .int .u32 en, .int .u32 st, .int .u32 start, .int .u32 tab, .int .u32 sm], .slice a L cap] w fun e w' => e = .returned (.tuple #[.slice none 0 0, .int .i64 E]) ∧ Below w.heap.size w w' := by
  have g1 : (L : Int) ≤ 1048540 := by omega
  have HN := hidden fun w2 => cnum_any v ram ext en st start tab sm (36 + L) w2 (by omega) (by omega)
  rw [eR] at HN
  have hb1 : Below w.heap.size w (w.alloc (.cells #[.int .u32 v, .int .u32 ram, .int .u32 ext, .int .u32 en, .int .u32 st, .int .u32 start, .int .u32 tab, .int .u32 sm] 27)) := (Below.refl _ _).alloc (Nat.le_refl _) _
  have hE' : (E != 0) = true := by simpa using hE
  clear eR hE
  go_enter Try.func17, Try.ntmps17
  go_wp2_with (go_at_call 24; refine (HN.out _).mono ?_; rintro e w2 ⟨rfl, hb2⟩)
  go_ret2
  exact ⟨rfl, hb1.trans (hb2.mono (by simp))⟩
theorem make_good (v ram ext en st start tab sm : Int) (a : Option Addr) (L cap : Nat) (zs : List Int) (w : World) (h : Reads w a L cap zs) (hz : OkB zs) (hL : L ≤ 1048540) (AT : Int) (eR : numR v ram ext en st start tab (36 + L) = (0, AT)) :
    Calls Try.prog 17 #[.agg #[.int .u32 v, .int .u32 ram, .int .u32 ext, .int .u32 en, .int .u32 st, .int .u32 start, .int .u32 tab, .int .u32 sm], .slice a L cap] w fun e w' => ∃ r, e = .returned (.tuple #[r, .int .i64 0]) ∧ w'.ownsRow w.heap.size 5 1 r (36 + L) (bytesV (makeL ⟨v, ram, ext, en, st, start, tab, sm⟩ zs)) ∧ Below w.heap.size w w' := by
  obtain ⟨i0, hi, hz0, hz1, hz2⟩ := info_parts info8
  have g1 : (L : Int) ≤ 1048540 := by omega
  have HN := hidden fun w2 => cnum_any v ram ext en st start tab sm (36 + L) w2 (by omega) (by omega)
  rw [eR] at HN
  have hb1 : Below w.heap.size w (w.alloc (.cells #[.int .u32 v, .int .u32 ram, .int .u32 ext, .int .u32 en, .int .u32 st, .int .u32 start, .int .u32 tab, .int .u32 sm] 27)) := (Below.refl _ _).alloc (Nat.le_refl _) _
  have HX := hidden (HBox.new w ⟨v, ram, ext, en, st, start, tab, sm⟩)
  have HR := hidden h
  have hzl := h.1
  clear eR h
  go_enter Try.func17, Try.ntmps17
  go_wp2_with (go_at_call 24; refine (HN.out _).mono ?_; rintro e w2 ⟨rfl, hb2⟩; refine Hid.out ?_)
  replace HX : Hid (HBox w2 w.heap.size ⟨v, ram, ext, en, st, start, tab, sm⟩) := hidden (HX.out.later hb2)
  have hb3 : Below w.heap.size w w2 := hb1.trans (hb2.mono (by simp))
  clear hb1 hb2 HN
  have hs3 := hb3.size
  obtain ⟨w3, hmk, hown, hgrow⟩ := run_make_own (P := Try.prog) w2 w.heap.size 22 5 i0 (.int .u8 0) 1 Try.underlying22 hi hz0 hz1 .i64 .i64 (36 + L) (by rw [hz2]; omega) (by unfold maxLen; omega) hs3
  rw [show ((36 + L : Nat) : Int) = 36 + (L : Int) by omega] at hmk
  have hb4 : Below w.heap.size w w3 := hb3.grown hgrow hs3 (by intro k hk; cases hk)
  replace HX := hidden (HX.out.grown hgrow (by simp))
  have hs4 := hb4.size
  have HO := hidden hown
  have HLH := hidden (layh_any ⟨v, ram, ext, en, st, start, tab, sm⟩ w3)
  obtain ⟨c0, c1, c2, c3, c4, c5, c6, c7⟩ := HX.out.cells
  dsimp only at c0 c1 c2 c3 c4 c5 c6 c7 HLH
  clear hown hgrow hb3 hs3
  refine hidden ?_
  go_wp2_with (go_at_call 27; refine HLH.out.mono ?_; rintro e w4 ⟨r, rfl, hor, hb5⟩; refine Hid.out ?_)
  obtain ⟨gr, cr, rfl, hcr, hgr⟩ := owned_shape hor (by omega)
  have hb6 : Below w.heap.size w w4 := hb4.trans (hb5.mono hs4)
  have HO4 := hidden (own_later HO.out hb5)
  have HN4 : Hid (∀ j u, (bytesV (hdrL ⟨v, ram, ext, en, st, start, tab, sm⟩))[j]? = some u → w4.cell? ((⟨gr, 0, none⟩ : Addr).add j) = some u) := hidden ((own_bs hor).reads cr hcr).news
  have hs6 := hb6.size
  clear hor hb5 hb4 hs4 HO HLH c0 c1 c2 c3 c4 c5 c6 c7 hmk HX
  have HLL : Hid ((bytesV (hdrL ⟨v, ram, ext, en, st, start, tab, sm⟩)).length = 36) := hidden rfl
  refine hidden ?_
  go_wp2_with (at_builtin; refine wpList_append_own _ rfl (.tmp 27) (.tmp 29) 22 rfl w.heap.size 5 i0 (.int .u8 0) 1 1 Try.underlying22 hi hz0 hz1 hz2 rfl (by decide) _ _ _ rfl HO4.out ⟨gr, 0, none⟩ 36 cr (bytesV (hdrL ⟨v, ram, ext, en, st, start, tab, sm⟩)) rfl rfl HN4.out (bytesV_one _) (by unfold maxLen; omega) (by omega) (by omega) ?_; intro v5 w5 hown5 hgrow5 hiff5; clear hiff5; refine Hid.out ?_)
  have hb7 : Below w.heap.size w w5 := hb6.grown hgrow5 hs6 (fun k hk => (HO4.out.lt k hk).1)
  replace hown5 : w5.ownsRow w.heap.size 5 1 v5 36 (bytesV (hdrL ⟨v, ram, ext, en, st, start, tab, sm⟩)) := by simpa using hown5
  have HO5 := hidden hown5
  have hs7 := hb7.size
  have HRd := hidden (HR.out.later hb7)
  clear hown5 hgrow5 HO4 HN4 hb6 hs6 HR HLL
  have hfin : Hid (∃ v6 w6, True) := hidden ⟨undef, w, trivial⟩
  clear hfin
  have HG : Hid (∀ (g6 c6 : Nat) (w6 : World), w6.ownsRow w.heap.size 5 1 (.slice (some ⟨g6, 0, none⟩) (36 + L) c6) (36 + L) (bytesV (hdrL ⟨v, ram, ext, en, st, start, tab, sm⟩ ++ zs)) → Below w.heap.size w w6 → True) := hidden fun _ _ _ _ _ => trivial
  clear HG
  generalize hY : hdrL ⟨v, ram, ext, en, st, start, tab, sm⟩ = Y at *
  have HY := hidden hY
  clear hY
  refine hidden ?_
  cases a with
  | none =>
    obtain ⟨-, -, h3 | ⟨x, hx, -⟩⟩ := HRd.out
    · obtain ⟨-, rfl, rfl⟩ := h3
      obtain rfl := List.eq_nil_of_length_eq_zero hzl
      go_wp2_with (at_builtin; refine wpList_append_own_none rfl (.tmp 31) (.tmp 32) 22 rfl w.heap.size 5 i0 1 Try.underlying22 hi _ _ _ rfl HO5.out rfl ?_)
      have hown6 : w5.ownsRow w.heap.size 5 1 v5 36 (bytesV (Y ++ [])) := by rw [List.append_nil]; exact HO5.out
      have hb8 := hb7
      clear HO5 hb7
      generalize hzz : ([] : List Int) = zs at *
      obtain ⟨g6, c6, rfl, hc6, hg6⟩ := owned_shape hown6 (by omega)
      obtain ⟨cur, hcur, hcl, hBg, hc1, hc2, hcf⟩ := own_splice hown6
      have HBs := hidden (own_bs hown6)
      have hokY : OkB (Y ++ zs) := by rw [← HY.out]; exact okb_app (hdrL_ok _) hz
      have HS0 : Hid (∀ wx, Below w5.heap.size w5 wx → Calls Try.prog 15 #[.slice (some ⟨g6, 0, none⟩) (36) c6] wx fun e w' => e = .returned (.int .u32 (sumV (Y ++ zs))) ∧ Below w5.heap.size w5 w') := hidden fun wx hb => (hsum_some g6 0 (36) c6 (Y ++ zs) wx (HBs.out.later hb) hokY hc1 (by unfold maxLen at hc2; omega)).mono (by rintro e w' ⟨rfl, rfl⟩; exact ⟨rfl, hb⟩)
      have HML : Hid (makeL ⟨v, ram, ext, en, st, start, tab, sm⟩ zs = splice (Y ++ zs) 32 (putL (sumV (Y ++ zs)) 4)) := hidden (by rw [← HY.out, make_splice]; rfl)
      generalize sumV (Y ++ zs) = S at *
      have HP0 : Hid (∀ wx, Below w5.heap.size w5 wx → Calls Try.prog 28 #[.int .u32 S, .int .i64 4] wx fun e w' => ∃ g8, e = .returned (.slice (some ⟨g8, 0, none⟩) 4 4) ∧ Below w5.heap.size w5 w' ∧ ∀ j u, (bytesV (putL S 4))[j]? = some u → w'.cell? ((⟨g8, 0, none⟩ : Addr).add j) = some u) := hidden fun wx hb => (putn_4 S wx).mono (by
        rintro e w' ⟨rfl, rfl⟩
        exact ⟨_, rfl, hb.alloc hb.size _, new_cell wx (putL S 4) (show 4 ≤ maxLen by decide)⟩)
      have HCF := hidden fun w' hw => hcf w' 32 (putL S 4) (by show 32 + 4 ≤ _; omega) hw
      have HCU := hidden hcur
      have HB8 := hidden hb8
      have hg7 : g6 < w5.heap.size := (Array.getElem?_eq_some_iff.1 hcur).1
      have n1 : ¬ c6 = 32 := by omega
      have n2 : (32 : Int) ≤ (c6 : Int) := by omega
      clear hown6 HBs hokY hcf hcur hb8
      have hnn : 36 = 36 := rfl
      have n3 : (32 : Int) ≤ (36 : Int) := by omega
      have n4 : (36 : Int) ≤ (c6 : Int) := by omega
      have n5 : (36 : Int) ≤ (36 : Int) := by omega
      generalize hPL : bytesV (putL S 4) = PL at *
      have hpl : PL.length = 4 := by rw [← hPL]; rfl
      have hpo : ∀ u ∈ PL, u.oneCell' = true := by rw [← hPL]; exact bytesV_one _
      have HPO := hidden hpo
      have HPL := hidden hpl
      clear hpo hpl hPL
      have hs8 : (Try.prog.info? 5).map (·.size) = some 1 := by rw [hi]; simp [hz1]
      go_wp2_with fail
      go_region_held3 (fun w' => True) (trivial) (first | (go_at_call 15; refine (HS0.out _ (by first | exact Below.refl _ _ | exact (Below.refl _ _).drew)).mono ?_; rintro e w7 ⟨rfl, hb7'⟩) | (go_at_call 28; refine (HP0.out _ (by first | exact hb7' | exact hb7'.drew)).mono ?_; rintro e w8 ⟨g8, rfl, hb8', hc8⟩) | (refine step_copy_splice (by rfl) (.tmp 35) (.tmp 38) 22 22 (by rfl) 5 Try.underlying22 hs8 (some ⟨g6, 32, none⟩) (some ⟨g8, 0, none⟩) (4) (c6 - 32) 4 4 (by first | rfl | simp) (by rfl) g6 32 cur 5 ((hb8'.block g6 hg7).trans HCU.out) PL (by rw [HPL.out]; show 4 = min 4 (4); omega) (fun _ => ⟨rfl, _, rfl, hc8⟩) (by rw [HPL.out]; omega) HPO.out w.heap.size w (HB8.out.trans (hb8'.mono HB8.out.size)) hBg ?_; intro w9 hg9 hb9) | fail)
      all_goals (clear HS0 HP0)
      go_wp2
      go_ret2
      refine ⟨_, rfl, ?_, hb9⟩
      subst hzz; rw [HML.out]
      first | exact hnn ▸ HCF.out _ hg9.out | simpa using HCF.out _ hg9.out
    · cases hx
  | some x =>
    have HN5 := hidden HRd.out.news
    go_wp2_with (at_builtin; refine wpList_append_own _ rfl (.tmp 31) (.tmp 32) 22 rfl w.heap.size 5 i0 (.int .u8 0) 1 1 Try.underlying22 hi hz0 hz1 hz2 rfl (by decide) _ _ _ rfl HO5.out x L cap (bytesV zs) rfl (by simp [bytesV, hzl]) HN5.out (bytesV_one _) (by unfold maxLen; omega) (by omega) (by omega) ?_; intro v6 w6 hown6 hgrow6 hiff6; clear hiff6; refine Hid.out ?_)
    have hb8 : Below w.heap.size w w6 := hb7.grown hgrow6 hs7 (fun k hk => (HO5.out.lt k hk).1)
    rw [bytesV_append] at hown6
    clear hgrow6 HO5 hb7 hs7 HN5 HRd
    refine hidden ?_
    obtain ⟨g6, c6, rfl, hc6, hg6⟩ := owned_shape hown6 (by omega)
    obtain ⟨cur, hcur, hcl, hBg, hc1, hc2, hcf⟩ := own_splice hown6
    have HBs := hidden (own_bs hown6)
    have hokY : OkB (Y ++ zs) := by rw [← HY.out]; exact okb_app (hdrL_ok _) hz
    have HS0 : Hid (∀ wx, Below w6.heap.size w6 wx → Calls Try.prog 15 #[.slice (some ⟨g6, 0, none⟩) (36 + L) c6] wx fun e w' => e = .returned (.int .u32 (sumV (Y ++ zs))) ∧ Below w6.heap.size w6 w') := hidden fun wx hb => (hsum_some g6 0 (36 + L) c6 (Y ++ zs) wx (HBs.out.later hb) hokY hc1 (by unfold maxLen at hc2; omega)).mono (by rintro e w' ⟨rfl, rfl⟩; exact ⟨rfl, hb⟩)
    have HML : Hid (makeL ⟨v, ram, ext, en, st, start, tab, sm⟩ zs = splice (Y ++ zs) 32 (putL (sumV (Y ++ zs)) 4)) := hidden (by rw [← HY.out, make_splice]; rfl)
    generalize sumV (Y ++ zs) = S at *
    have HP0 : Hid (∀ wx, Below w6.heap.size w6 wx → Calls Try.prog 28 #[.int .u32 S, .int .i64 4] wx fun e w' => ∃ g8, e = .returned (.slice (some ⟨g8, 0, none⟩) 4 4) ∧ Below w6.heap.size w6 w' ∧ ∀ j u, (bytesV (putL S 4))[j]? = some u → w'.cell? ((⟨g8, 0, none⟩ : Addr).add j) = some u) := hidden fun wx hb => (putn_4 S wx).mono (by
      rintro e w' ⟨rfl, rfl⟩
      exact ⟨_, rfl, hb.alloc hb.size _, new_cell wx (putL S 4) (show 4 ≤ maxLen by decide)⟩)
    have HCF := hidden fun w' hw => hcf w' 32 (putL S 4) (by show 32 + 4 ≤ _; omega) hw
    have HCU := hidden hcur
    have HB8 := hidden hb8
    have hg7 : g6 < w6.heap.size := (Array.getElem?_eq_some_iff.1 hcur).1
    have n1 : ¬ c6 = 32 := by omega
    have n2 : (32 : Int) ≤ (c6 : Int) := by omega
    clear hown6 HBs hokY hcf hcur hb8
    generalize hnn : 36 + L = n at *
    have n3 : (32 : Int) ≤ (n : Int) := by omega
    have n4 : (n : Int) ≤ (c6 : Int) := by omega
    have n5 : (36 : Int) ≤ (n : Int) := by omega
    generalize hPL : bytesV (putL S 4) = PL at *
    have hpl : PL.length = 4 := by rw [← hPL]; rfl
    have hpo : ∀ u ∈ PL, u.oneCell' = true := by rw [← hPL]; exact bytesV_one _
    have HPO := hidden hpo
    have HPL := hidden hpl
    clear hpo hpl hPL
    have hs8 : (Try.prog.info? 5).map (·.size) = some 1 := by rw [hi]; simp [hz1]
    go_wp2_with fail
    go_region_held3 (fun w' => True) (trivial) (first | (go_at_call 15; refine (HS0.out _ (by first | exact Below.refl _ _ | exact (Below.refl _ _).drew)).mono ?_; rintro e w7 ⟨rfl, hb7'⟩) | (go_at_call 28; refine (HP0.out _ (by first | exact hb7' | exact hb7'.drew)).mono ?_; rintro e w8 ⟨g8, rfl, hb8', hc8⟩) | (refine step_copy_splice (by rfl) (.tmp 35) (.tmp 38) 22 22 (by rfl) 5 Try.underlying22 hs8 (some ⟨g6, 32, none⟩) (some ⟨g8, 0, none⟩) (n - 32) (c6 - 32) 4 4 (by first | rfl | simp) (by rfl) g6 32 cur 5 ((hb8'.block g6 hg7).trans HCU.out) PL (by rw [HPL.out]; show 4 = min 4 (n - 32); omega) (fun _ => ⟨rfl, _, rfl, hc8⟩) (by rw [HPL.out]; omega) HPO.out w.heap.size w (HB8.out.trans (hb8'.mono HB8.out.size)) hBg ?_; intro w9 hg9 hb9) | fail)
    all_goals (clear HS0 HP0)
    go_wp2
    go_ret2
    refine ⟨_, rfl, ?_, hb9⟩
    rw [HML.out, ← hnn]
    first | exact hnn ▸ HCF.out _ hg9.out | simpa using HCF.out _ hg9.out
end Go.Proofs.Ytcfmmkhfhbnmbaa
