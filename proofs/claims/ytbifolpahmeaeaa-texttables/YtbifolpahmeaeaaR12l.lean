/- Layer 12: the walk of TextBack. -/
import Derived.Test.YtbifolpahmeaeaaR12k
namespace Go.Proofs.Ytbifolpahmeaeaa
open Go.RowKit
set_option maxHeartbeats 1000000
set_option maxRecDepth 100000
set_option linter.unusedVariables false

theorem in_mid (a b c : List Int) (P : Nat) (h : a.length = P) : InAt (a ++ b ++ c) b P := by
  subst h
  refine ⟨by simp only [List.length_append]; omega, fun i hi => ?_⟩
  rw [List.append_assoc, List.getD_eq_getElem?_getD, List.getElem?_append_right (by omega), Nat.add_sub_cancel_left, List.getElem?_append_left hi, ← List.getD_eq_getElem?_getD]
def PartRet (w : World) (n : Nat) (xs : List Nat) (wh : Bool) (e : Nat) (x : Ending) (w' : World) : Prop := ∃ a3 c3, x = .returned (.tuple #[.slice a3 n c3, .bool wh, .int .i64 e]) ∧ VRow w' a3 n xs ∧ Below w.heap.size w w'
theorem plain_at (w : World) (a : Option Addr) (L cc n T P : Nat) (bs : List Int) (xs : List Nat) (wh : Bool) (e k : Nat) (hr : Reads w a L cc bs) (hok : OkB bs) (hL : L ≤ 2000000) (hn : n ≤ 100000) (hT : T < 4294967296) (hP : P < 4294967296) (hx : xs.length = k) (hp : PlR bs T P n xs wh e) :
    Calls Try.prog 15 #[.slice a L cc, .int .u32 T, .int .u32 P, .int .i64 n] w (PartRet w k xs wh e) := by
  have h := tplainT_any (n : Int) P T a L cc bs w ⟨hr, hok, hL⟩ hP hT (by omega) (by omega)
  rw [Int.toNat_natCast] at h
  refine h.mono ?_
  rintro x w' ⟨r, wh', e', a', c', hx1, hr', ho', hb, hxb⟩
  obtain ⟨h1, h2, h3⟩ := plr_det hr' hp
  subst h1 h2 h3
  rw [hx] at hx1 ho'
  exact ⟨a', c', hx1, own32_v ho' hxb, hb⟩
/-- what is laid, and where -/
structure LdAt (w : World) (g N cc P T : Nat) (A l : List Nat) (Z : List Int) : Prop where
  rd : Reads w (some ⟨g, 0, none⟩) N cc Z
  ok : OkB Z
  le : N ≤ 500000
  tb : InAt Z (tbL T A) T
  pk : InAt Z (pkL A l) P
  nd : A.length ≤ 1024
  mem : ∀ c ∈ l, c ∈ A
  tl : T + (tbL T A).length ≤ P
theorem ld_at {w w' : World} {T : Nat} {zs ys xs : List Int} {A l : List Nat} {g N cc P : Nat} {X Y : List Int} (ho : w'.ownsRow w.heap.size 5 1 (.slice (some ⟨g, 0, none⟩) N cc) N (bytesV (([7] ++ zs ++ X ++ ys) ++ Y ++ xs))) (hp : ([7] ++ zs ++ X ++ ys).length = P) (hN : N ≤ 500000) (h1 : OkB X) (h2 : OkB Y) (hz : OkB zs) (hy : OkB ys) (hx : OkB xs) (hT : ([7] ++ zs).length = T) (hE : plE A = 0 ∧ pkE A l = 0 ∧ X = tbL T A ∧ Y = pkL A l) :
    LdAt w' g N cc P T A l (([7] ++ zs ++ X ++ ys) ++ Y ++ xs) := by
  obtain ⟨e1, e2, rfl, rfl⟩ := hE
  refine ⟨own_reads ho, ok_app2 (ok_app2 (ok_app2 (ok_app2 (ok_app2 (ok_one 7 (by omega) (by omega)) hz) h1) hy) h2) hx, hN, ?_, ?_, (plE_ok e1).2, ?_, ?_⟩
  · have := in_mid ([7] ++ zs) (tbL T A) (ys ++ pkL A l ++ xs) T hT
    simpa only [List.append_assoc] using this
  · exact in_mid _ _ _ P hp
  · unfold pkE at e2
    rw [if_neg (by omega)] at e2
    split at e2
    · assumption
    · omega
  · rw [← hp]
    simp only [List.length_append] at hT ⊢
    omega
set_option maxHeartbeats 16000000 in
theorem back_main (a : Option Addr) (n c : Nat) (zs : List Int) (al : Option Addr) (nl lc : Nat) (A : List Nat) (a2 : Option Addr) (n2 c2 : Nat) (ys : List Int) (bl : Option Addr) (ml mc : Nat) (l : List Nat) (a3 : Option Addr) (n3 c3 : Nat) (xs : List Int) (w : World)
    (hr : Reads w a n c zs) (hv : VRow w al nl A) (hs : Reads w a2 n2 c2 ys) (hv2 : VRow w bl ml l) (ht : Reads w a3 n3 c3 xs) (ho1 : OkB zs) (ho2 : OkB ys) (ho3 : OkB xs) (hn : n + n2 + n3 ≤ 16384) (hnl : nl ≤ 300) (hml : ml ≤ 300) (hlc : nl ≤ lc) (hlm : lc ≤ 9223372036854775807) (hmc : ml ≤ mc) (hmm : mc ≤ 9223372036854775807) :
    Calls Try.prog 4 #[.slice a n c, .slice al nl lc, .slice a2 n2 c2, .slice bl ml mc, .slice a3 n3 c3] w fun e w' => e = .returned (.bool true) ∧ Below w.heap.size w w' := by
  obtain ⟨T, hT⟩ : ∃ T, 1 + n = T := ⟨_, rfl⟩
  have HLD := hidden (laid_any a n c zs al nl lc A a2 n2 c2 ys bl ml mc l a3 n3 c3 xs w hr hv hs hv2 ht hn hnl hml hlc hlm T hT)
  have HLV : Hid (∀ w1, Below w.heap.size w w1 → Calls Try.prog 6 #[] w1 fun e w' => e = .returned (.bool true) ∧ Below w.heap.size w w') := fun w1 hb => (live_any w1).mono (fun e w' hh => ⟨hh.1, hb.trans (hh.2.mono hb.size)⟩)
  obtain ⟨M2, hM2⟩ : ∃ M2, M2 = ml / 2 := ⟨_, rfl⟩
  have HDV : Hid (∀ (w' : World) (g N cc P : Nat) (X Y : List Int), w'.ownsRow w.heap.size 5 1 (.slice (some ⟨g, 0, none⟩) N cc) N (bytesV (([7] ++ zs ++ X ++ ys) ++ Y ++ xs)) → ([7] ++ zs ++ X ++ ys).length = P → N ≤ 500000 → OkB X → OkB Y → (plE A = 0 ∧ pkE A l = 0 ∧ X = tbL T A ∧ Y = pkL A l) → Below w.heap.size w w' →
      Hid (∀ w1, Below w'.heap.size w' w1 → Calls Try.prog 15 #[.slice (some ⟨g, 0, none⟩) N cc, .int .u32 T, .int .u32 P, .int .i64 ml] w1 (PartRet w1 ml l true 0)) ∧ Hid (∀ w1, Below w'.heap.size w' w1 → Calls Try.prog 15 #[.slice (some ⟨g, 0, none⟩) N cc, .int .u32 T, .int .u32 P, .int .i64 M2] w1 (PartRet w1 M2 (l.take M2) (decide (ml = 0)) 0))) := hidden (fun w' g N cc P X Y h1 h2 h3 h4 h5 h6 hb => by
    have hzl := hr.1
    have hll := hv2.ln
    have hx := hv.bd
    have q := ld_at (w := w) (zs := zs) (ys := ys) (xs := xs) (T := T) h1 h2 h3 h4 h5 ho1 ho2 ho3 (by simp [hzl]; omega) h6
    have hZ : (([7] ++ zs ++ X ++ ys) ++ Y ++ xs).length = N := q.rd.1
    have hT1 := q.tb.fit
    have hP1 := q.pk.fit
    rw [hZ] at hT1 hP1
    have hw := packed_whole q.tb (by omega) (by omega) q.pk q.ok (by omega) q.nd hx q.mem
    rw [hll] at hw
    constructor
    · exact hidden (fun w1 hb1 => plain_at w1 (some ⟨g, 0, none⟩) N cc ml T P _ l true 0 ml (q.rd.later hb1) q.ok (by omega) (by omega) (by omega) (by omega) hll hw)
    · refine hidden (fun w1 hb1 => ?_)
      by_cases h0 : ml = 0
      · have e0 : M2 = 0 := by omega
        rw [e0, List.take_zero]
        have el : l = [] := List.length_eq_zero_iff.1 (by omega)
        have hw0 := hw
        rw [el, h0] at hw0
        have := plain_at w1 (some ⟨g, 0, none⟩) N cc 0 T P _ [] true 0 0 (q.rd.later hb1) q.ok (by omega) (by omega) (by omega) (by omega) rfl hw0
        rw [show decide (ml = 0) = true by simp [h0]]
        exact this
      · have hw2 := packed_part q.tb (by omega) (by omega) q.pk q.ok (by omega) q.nd hx q.mem M2 (by omega)
        rw [show decide (ml = 0) = false by simp [h0]]
        exact plain_at w1 (some ⟨g, 0, none⟩) N cc M2 T P _ (l.take M2) false 0 M2 (q.rd.later hb1) q.ok (by omega) (by omega) (by omega) (by omega) (by rw [List.length_take]; omega) hw2)
  have hw : IntKind.i64.wrap ((n : Int) + (n2 : Int)) = (n : Int) + (n2 : Int) := by rw [IntKind.wrap_i64]; omega
  have hw2 : IntKind.i64.wrap ((n : Int) + (n2 : Int) + (n3 : Int)) = (n : Int) + (n2 : Int) + (n3 : Int) := by rw [IntKind.wrap_i64]; omega
  have g1 : ¬ (16384 : Int) < (n : Int) + (n2 : Int) + (n3 : Int) := by omega
  have g2 : ¬ (300 : Int) < (nl : Int) := by omega
  have g3 : ¬ (300 : Int) < (ml : Int) := by omega
  have t1 : (ml : Int).tdiv 2 = (M2 : Int) := by rw [Int.tdiv_eq_ediv_of_nonneg (by omega)]; omega
  have t2 : (ml : Int) / 2 = (M2 : Int) := by omega
  have HV2 := hidden hv2
  have HVT : Hid (∀ w1, Below w.heap.size w w1 → VRow w1 bl M2 (l.take M2)) := hidden (fun w1 hb => by
    have q := hv2.later hb
    have hl := q.ln
    refine ⟨by rw [List.length_take]; omega, fun x hx => q.bd x (List.mem_of_mem_take hx), fun i hi => ?_⟩
    obtain ⟨b, o, e, hc⟩ := q.cells i (by omega)
    refine ⟨b, o, e, ?_⟩
    rw [List.getD_eq_getElem?_getD, List.getElem?_take, if_pos hi, ← List.getD_eq_getElem?_getD]
    exact hc)
  have hM2l : (M2 : Int) ≤ mc := by omega
  have hM20 : (0 : Int) ≤ M2 := by omega
  have HM2 := hidden hM2
  clear hr hs ht hv hv2 ho1 ho2 ho3 hT hM2
  go_enter Try.func4, Try.ntmps4
  go_upto_region 4 with (first | (go_at_call 14; refine HLD.out.mono ?_; rintro r w1 ⟨hb1, g, N, cc, P, X, Y, b, rfl, h1, h2, h3, h4, h5, h6⟩; have HB1 := hidden hb1; have HDV1 := hidden (fun q : b = true => HDV.out w1 g N cc P X Y h1 h2 h3 h4 h5 (h6 q) hb1); clear hb1 h1 h2 h3 h4 h5 h6) | fail)
  clear HLD HDV
  cases b with
  | false =>
    go_wp2_with (first | (go_at_call 6; refine (HLV.out _ HB1.out).mono ?_; rintro x wl ⟨rfl, hbl⟩) | fail)
    go_ret
    exact ⟨rfl, hbl⟩
  | true =>
    obtain ⟨HP1, HP2⟩ := HDV1.out rfl
    clear HDV1
    obtain ⟨BZ, hBZ⟩ : ∃ BZ, ((ml : Int) == 0) = BZ := ⟨_, rfl⟩
    have HBZ : Hid (decide (ml = 0) = BZ) := hidden (by rw [← hBZ]; by_cases h : ml = 0 <;> simp [h])
    rw [HBZ.out] at HP2
    go_upto_region 7 with (first | (go_at_call 15; refine (HP1.out _ (Below.refl _ _)).mono ?_; rintro x w2 ⟨a4, c4, rfl, hv4, hb4⟩; have HV4 := hidden hv4; have HB4 := hidden hb4; clear hv4 hb4) | fail)
    go_upto_region 8 with (first | (go_at_call 15; refine (HP2.out _ HB4.out).mono ?_; rintro x w3 ⟨a5, c5, rfl, hv5, hb5⟩; have HV5 := hidden hv5; have HB5 := hidden (HB1.out.trans ((HB4.out.trans (hb5.mono HB4.out.size)).mono HB1.out.size)); have HV4b := hidden (HV4.out.later hb5); clear hv5 hb5) | fail)
    clear HP1 HP2 HV4
    have HW1 : Hid (Calls Try.prog 13 #[.slice a4 ml c4, .slice bl ml mc] w3 fun x w' => x = .returned (.bool true) ∧ Hid (Below w.heap.size w w') ∧ Hid (Below w3.heap.size w3 w')) := hidden ((words_any a4 bl ml ml c4 mc l l w3 HV4b.out (HV2.out.later HB5.out) (by omega)).mono (fun x w' hh => ⟨by rw [hh.1]; simp, hidden (HB5.out.trans (hh.2.below.mono HB5.out.size)), hidden hh.2.below⟩))
    have HW2 : Hid (∀ w4, Below w.heap.size w w4 → Below w3.heap.size w3 w4 → Calls Try.prog 13 #[.slice a5 M2 c5, .slice bl M2 mc] w4 fun x w' => x = .returned (.bool true) ∧ Hid (Below w.heap.size w w')) := hidden (fun w4 h1 h2 => (words_any a5 bl M2 M2 c5 mc _ _ w4 (HV5.out.later h2) (HVT.out w4 h1) (by omega)).mono (fun x w' hh => ⟨by rw [hh.1]; simp, hidden (h1.trans (hh.2.below.mono h1.size))⟩))
    go_wp2_with (first | (go_at_call 12; refine (num12 _ _).mono ?_; rintro x w9 ⟨rfl, e9⟩; rw [e9]; clear e9) | (go_at_call_of 13 (Value.slice a4 ml c4); refine HW1.out.mono ?_; rintro x w7 ⟨rfl, HB7, HB37⟩) | (go_at_call_of 13 (Value.slice a5 M2 c5); refine (HW2.out _ HB7.out HB37.out).mono ?_; rintro x w8 ⟨rfl, HB8⟩) | (go_at_call 6; refine (HLV.out _ HB8.out).mono ?_; rintro x wl ⟨rfl, hbl⟩) | fail)
    go_ret
    exact ⟨rfl, hbl⟩
theorem row_cap {k : IntKind} {w : World} {a : Option Addr} {len cap : Nat} {zs : List Int} (h : IsRow k w a len cap zs) : cap ≤ 9223372036854775807 := by
  rcases h with ⟨_, _, rfl, _⟩ | ⟨x, _, hl, hm, _⟩
  · omega
  · unfold maxLen at hm; omega
theorem textBack_walk (a : Option Addr) (n c : Nat) (zs0 : List Int) (al : Option Addr) (nl lc : Nat) (vs : List Int) (a2 : Option Addr) (n2 c2 : Nat) (ys0 : List Int) (bl : Option Addr) (ml mc : Nat) (us : List Int) (a3 : Option Addr) (n3 c3 : Nat) (xs0 : List Int) (w : World) (hr0 : IsRow .u8 w a n c zs0 ∧ n ≤ 281474976710656) (hv0 : IsRow .u32 w al nl lc vs) (hs0 : IsRow .u8 w a2 n2 c2 ys0 ∧ n2 ≤ 281474976710656) (hu0 : IsRow .u32 w bl ml mc us) (ht0 : IsRow .u8 w a3 n3 c3 xs0 ∧ n3 ≤ 281474976710656) :
    Calls Try.prog 4 #[.slice a n c, .slice al nl lc, .slice a2 n2 c2, .slice bl ml mc, .slice a3 n3 c3] w fun e w' => e = .returned (.bool true) ∧ Below w.heap.size w w' := by
  obtain ⟨hr, hok, hl63⟩ := reads_of_row hr0.1
  obtain ⟨hs, hok2, hl632⟩ := reads_of_row hs0.1
  obtain ⟨ht, hok3, hl633⟩ := reads_of_row ht0.1
  obtain ⟨A, hv, hlc, hlm⟩ := vrow_of hv0
  obtain ⟨l, hv2, hmc, hmm⟩ := vrow_of hu0
  have hlcm := row_cap hv0
  have hmcm := row_cap hu0
  have hrl := hr0.2
  have hsl := hs0.2
  have htl := ht0.2
  clear hr0 hs0 ht0 hv0 hu0
  have HLV := hidden (live_any w)
  have hw : IntKind.i64.wrap ((n : Int) + (n2 : Int)) = (n : Int) + (n2 : Int) := by rw [IntKind.wrap_i64]; omega
  have hw2 : IntKind.i64.wrap ((n : Int) + (n2 : Int) + (n3 : Int)) = (n : Int) + (n2 : Int) + (n3 : Int) := by rw [IntKind.wrap_i64]; omega
  by_cases hbig : 16384 < n + n2 + n3
  · have g1 : (16384 : Int) < (n : Int) + (n2 : Int) + (n3 : Int) := by omega
    clear hr hs ht hv hv2 hok hok2 hok3
    go_enter Try.func4, Try.ntmps4
    go_wp2_with (first | (go_at_call 6; refine HLV.out.mono ?_; rintro e wl ⟨rfl, hbl⟩))
    go_ret
    exact ⟨rfl, hbl⟩
  · have g1 : ¬ (16384 : Int) < (n : Int) + (n2 : Int) + (n3 : Int) := by omega
    by_cases hnl : nl ≤ 300
    · have g2 : ¬ (300 : Int) < (nl : Int) := by omega
      by_cases hml : ml ≤ 300
      · exact back_main a n c _ al nl lc A a2 n2 c2 _ bl ml mc l a3 n3 c3 _ w hr hv hs hv2 ht hok hok2 hok3 (by omega) hnl hml hlc hlcm hmc hmcm
      · have g3 : (300 : Int) < (ml : Int) := by omega
        clear hr hs ht hv hv2 hok hok2 hok3
        go_enter Try.func4, Try.ntmps4
        go_wp2_with (first | (go_at_call 6; refine HLV.out.mono ?_; rintro e wl ⟨rfl, hbl⟩))
        go_ret
        exact ⟨rfl, hbl⟩
    · have g2 : (300 : Int) < (nl : Int) := by omega
      clear hr hs ht hv hv2 hok hok2 hok3
      go_enter Try.func4, Try.ntmps4
      go_wp2_with (first | (go_at_call 6; refine HLV.out.mono ?_; rintro e wl ⟨rfl, hbl⟩))
      go_ret
      exact ⟨rfl, hbl⟩
end Go.Proofs.Ytbifolpahmeaeaa
