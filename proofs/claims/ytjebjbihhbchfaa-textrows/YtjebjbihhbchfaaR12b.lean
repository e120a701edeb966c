/- Layer 12: the walk of TextRows. -/
import Derived.Test.YtjebjbihhbchfaaR12a
import Derived.Test.YtjebjbihhbchfaaB12s
import Derived.Test.YtjebjbihhbchfaaH7r
import Derived.Deep.Cut
import Derived.Deep.RegionHeld3
namespace Go.Proofs.Ytjebjbihhbchfaa
open Go.RowKit
set_option maxHeartbeats 1000000
set_option maxRecDepth 100000
set_option linter.unusedVariables false

def XRet (w : World) (n : Nat) (xs : List Nat) (x : Ending) (w' : World) : Prop := ∃ a3 c3, x = .returned (.tuple #[.slice a3 n c3, .bool true, .int .i64 0]) ∧ VRow w' a3 n xs ∧ Below w.heap.size w w'
theorem plain_of (w : World) (g L cc n B : Nat) (bs : List Int) (xs : List Nat) (ho : w.ownsRow B 5 1 (.slice (some ⟨g, 0, none⟩) L cc) L (bytesV bs)) (hok : OkB bs) (hL : L ≤ 2000000) (hn : n ≤ 100000) (hx : xs.length = n) (hp : PlR bs 0 0 n xs true 0) :
    Calls Try.prog 16 #[.slice (some ⟨g, 0, none⟩) L cc, .int .u32 0, .int .u32 0, .int .i64 n] w (XRet w n xs) := by
  have h := tplainT_any (n : Int) 0 0 (some ⟨g, 0, none⟩) L cc bs w ⟨own_reads ho, hok, hL⟩ (by omega) (by omega) (by omega) (by omega)
  have e0 : ((0 : Nat) : Int) = 0 := rfl
  rw [e0, Int.toNat_natCast] at h
  refine h.mono ?_
  rintro x w' ⟨r, wh, e, a', c', hx1, hr, ho', hb, hxb⟩
  obtain ⟨h1, h2, h3⟩ := plr_det hr hp
  subst h1 h2 h3
  rw [hx] at hx1 ho'
  exact ⟨a', c', hx1, own32_v ho' hxb, hb⟩
theorem map_getD (zs : List Int) (k : Nat) (h : 0 ≤ zs.getD k 0) : (((zs.map Int.toNat).getD k 0 : Nat) : Int) = zs.getD k 0 := by
  have e : (zs.map Int.toNat).getD k 0 = (zs.getD k 0).toNat := by
    rw [List.getD_eq_getElem?_getD, List.getD_eq_getElem?_getD, List.getElem?_map]
    cases zs[k]? <;> rfl
  rw [e]
  omega
theorem ok_app {a b : List Int} (h : OkB a) (h2 : OkB b) : OkB (a ++ b) := fun c hc => by
  rcases List.mem_append.1 hc with q | q
  · exact h c q
  · exact h2 c q
theorem plain_bytes (w : World) (g cc n n2 B : Nat) (zs ys : List Int) (hz : zs.length = n) (ho : w.ownsRow B 5 1 (.slice (some ⟨g, 0, none⟩) (1 + n + 1 + n2) cc) (1 + n + 1 + n2) (bytesV ([224] ++ zs ++ [0] ++ ys))) (h1 : OkB zs) (h2 : OkB ys) (hp : ∀ x ∈ zs, 0 < x) (hn : n + n2 ≤ 16384) :
    Calls Try.prog 16 #[.slice (some ⟨g, 0, none⟩) (1 + n + 1 + n2) cc, .int .u32 0, .int .u32 0, .int .i64 n] w (XRet w n (zs.map Int.toNat)) := by
  have hq := rows_bytes zs ys hp (by omega)
  rw [hz, show 224 :: (zs ++ 0 :: ys) = [224] ++ zs ++ [0] ++ ys by simp] at hq
  exact plain_of w g _ cc n B _ _ ho (ok_app (ok_app (ok_app (fun c hc => by simp at hc; omega) h1) (fun c hc => by simp at hc; omega)) h2) (by omega) (by omega) (by simp [hz]) hq
theorem wdL_ok (l : List Nat) : OkB (wdL l) := fun c hc => by
  simp only [wdL, List.mem_flatMap] at hc
  obtain ⟨x, _, hx⟩ := hc
  exact putL_bd _ _ c hx
theorem plain_words (w : World) (g cc n n2 B : Nat) (l : List Nat) (ys : List Int) (hz : l.length = n) (ho : w.ownsRow B 5 1 (.slice (some ⟨g, 0, none⟩) (4 + 4 * n + 4 + n2) cc) (4 + 4 * n + 4 + n2) (bytesV ([226, 1, 2, 3] ++ wdL l ++ [0, 0, 0, 0] ++ ys))) (h2 : OkB ys) (hp : ∀ x ∈ l, 0 < x ∧ x < 4294967296) (hn : n2 ≤ 16384) (hn' : n ≤ 300) :
    Calls Try.prog 16 #[.slice (some ⟨g, 0, none⟩) (4 + 4 * n + 4 + n2) cc, .int .u32 0, .int .u32 0, .int .i64 n] w (XRet w n l) := by
  have hq := rows_words l ys hp (by omega)
  rw [hz, show 226 :: 1 :: 2 :: 3 :: (wdL l ++ 0 :: 0 :: 0 :: 0 :: ys) = [226, 1, 2, 3] ++ wdL l ++ [0, 0, 0, 0] ++ ys by simp] at hq
  exact plain_of w g _ cc n B _ _ ho (ok_app (ok_app (ok_app (fun c hc => by simp at hc; omega) (wdL_ok l)) (fun c hc => by simp at hc; omega)) h2) (by omega) (by omega) hz hq
set_option maxHeartbeats 16000000 in
theorem rows_main (a : Option Addr) (n c : Nat) (zs : List Int) (al : Option Addr) (ll lc : Nat) (xs : List Nat) (a2 : Option Addr) (n2 c2 : Nat) (ys : List Int) (w : World) (hr : Reads w a n c zs) (hok : OkB zs) (hv : VRow w al ll xs) (hs : Reads w a2 n2 c2 ys) (hok2 : OkB ys) (hn : n + n2 ≤ 16384) (hl : ll ≤ 300) :
    Calls Try.prog 5 #[.slice a n c, .slice al ll lc, .slice a2 n2 c2] w fun e w' => e = .returned (.bool true) ∧ Below w.heap.size w w' := by
  have HLV : Hid (∀ w1, Below w.heap.size w w1 → Calls Try.prog 7 #[] w1 fun e w' => e = .returned (.bool true) ∧ Below w.heap.size w w') := fun w1 hb => (live_any w1).mono (fun e w' hh => ⟨hh.1, hb.trans (hh.2.mono hb.size)⟩)
  have hw : IntKind.i64.wrap ((n : Int) + (n2 : Int)) = (n : Int) + (n2 : Int) := by rw [IntKind.wrap_i64]; omega
  have g1 : ¬ (16384 : Int) < (n : Int) + (n2 : Int) := by omega
  have g2 : ¬ (300 : Int) < (ll : Int) := by omega
  have hzl : zs.length = n := hr.1
  have hxl := hv.ln
  have HZL := hidden hzl
  have HXL := hidden hxl
  have HR := hidden hr
  have HS := hidden hs
  have HV := hidden hv
  have HOK := hidden hok
  have HOK2 := hidden hok2
  clear hr hs hv hok hok2 hzl hxl
  have HA1 := hidden (owns_new w w.heap.size [224] (Nat.le_refl _) (by decide))
  have HB1 := hidden (al_below w (.cells #[.int .u8 224] 5))
  have HR1 := hidden (HR.out.later HB1.out)
  go_enter Try.func5, Try.ntmps5
  go_upto_region 4 with (at_builtin; refine wpList_appR rfl (.tmp 30) (.tmp 31) rfl w.heap.size w.heap.size 1 1 n c a [224] zs rfl rfl HA1.out HR1.out (by omega) HB1.out.size ?_; intro g4 c4 w4 ho4 f4; have HB4 := hidden (HB1.out.trans (f4.out.below HB1.out.size (fun k e => (HA1.out.lt k e).1))); have HO4 := hidden ho4; clear ho4 f4)
  have HR4 := hidden (HR.out.later HB4.out)
  have HS4 := hidden (HS.out.later HB4.out)
  have HV4 := hidden (HV.out.later HB4.out)
  clear HA1 HB1 HR1
  go_upto_region 5 with fail
  go_loopw [8] (fun i w' => ∃ k : Nat, k ≤ n ∧ i = .int .i64 k ∧ Hid (∀ j, j < k → 0 < zs.getD j 0) ∧ w' = w4) (fun i _ => n - (intOf i).toNat)
  case atStart => exact ⟨0, by omega, rfl, hidden (fun j hj => by omega), rfl⟩
  case round =>
    obtain ⟨k, hk, rfl, hZ, rfl⟩ := hrel
    by_cases hlt : k < n
    · have l1 : (k : Int) < n := by omega
      have l2 : (0 : Int) ≤ k := by omega
      have l3 : ((k : Int)).toNat = k := by omega
      obtain ⟨b, o, ha, hb⟩ := HR4.out.bs (by omega)
      subst ha
      have hc := hb.2 k hlt
      have HZB := hidden (HOK.out.at k)
      have HZ1 : Hid (0 < zs.getD k 0 → ∀ j, j < k + 1 → 0 < zs.getD j 0) := hidden (fun h j hj => by
        by_cases e : j = k
        · subst e; exact h
        · exact hZ.out j (by omega))
      generalize zs.getD k 0 = Z at *
      clear hb
      by_cases h0 : Z = 0
      · have q1 : (Z == 0) = true := by simp [h0]
        have HLB := hidden (HLV.out wr HB4.out)
        clear h0
        go_wp2_with (go_at_call 7; refine HLB.out.mono ?_; rintro x wl ⟨rfl, hbl⟩)
        go_ret
        exact ⟨rfl, hbl⟩
      · have q1 : (Z == 0) = false := by simp [h0]
        have HZ2 := hidden (HZ1.out (by have := HZB.out; omega))
        clear h0
        go_wp2
        go_roundw
        case rel => exact ⟨k + 1, by omega, by first | rfl | go_num, HZ2, by first | rfl | trivial⟩
        case measure => simp [intOf]; omega
    · obtain rfl : k = n := by omega
      have l1 : ¬ ((k : Int) < k) := by omega
      have HPZ : Hid (∀ x ∈ zs, 0 < x) := hidden (fun x hx => by
        obtain ⟨j, hj, rfl⟩ := List.getElem_of_mem hx
        have := hZ.out j (by rw [HZL.out] at hj; exact hj)
        rwa [List.getD_eq_getElem?_getD, List.getElem?_eq_getElem hj] at this)
      clear hZ hk hlt
      obtain ⟨n, hnn⟩ : ∃ n, n = k := ⟨_, rfl⟩
      subst hnn
      generalize wr = w5 at *
      have HA5 := hidden (HO4.out.alloc (.cells #[.int .u8 0] 5))
      have HL5 : Hid (Reads (w5.alloc (.cells #[.int .u8 0] 5)) (some ⟨w5.heap.size, 0, none⟩) 1 1 [0]) := hidden (own_reads (owns_new w5 w5.heap.size [0] (Nat.le_refl _) (by decide)))
      have HB5 : Hid (Below w.heap.size w (w5.alloc (.cells #[.int .u8 0] 5))) := hidden (HB4.out.alloc HB4.out.size _)
      clear HO4 HR4 HS4 HV4
      go_upto_region 11 with (first
        | (at_builtin; refine wpList_appR rfl (.tmp 45) (.tmp 46) rfl w.heap.size g4 (1 + n) c4 1 1 (some ⟨w5.heap.size, 0, none⟩) ([224] ++ zs) [0] rfl rfl HA5.out HL5.out (by omega) HB5.out.size ?_; intro g6 c6 w6 ho6 f6; have HB6 := hidden (HB5.out.trans (f6.out.below HB5.out.size (fun k e => (HA5.out.lt k e).1))); have HO6 := hidden ho6; have HS6 := hidden (HS.out.later HB6.out); clear ho6 f6)
        | (at_builtin; refine wpList_appR rfl (.tmp 47) (.tmp 48) rfl w.heap.size g6 (1 + n + 1) c6 n2 c2 a2 ([224] ++ zs ++ [0]) ys rfl rfl HO6.out HS6.out (by omega) HB6.out.size ?_; intro g7 c7 w7 ho7 f7; have HB7 := hidden (HB6.out.trans (f7.out.below HB6.out.size (fun k e => (HO6.out.lt k e).1))); have HP7 := hidden (plain_bytes w7 g7 c7 n n2 _ zs ys HZL.out ho7 HOK.out HOK2.out HPZ.out hn); clear ho7 f7)
        | (go_at_call 16; refine HP7.out.mono ?_; rintro x w8 ⟨a8, c8, rfl, hv8, hb8⟩; have HV8 := hidden hv8; have HB8 := hidden (HB7.out.trans (hb8.mono HB7.out.size)); clear hv8 hb8)
        | fail)
      clear HA5 HL5 HB5 HB6 HO6 HS6 HB7 HP7 HB4
      go_upto_region 13 with (first | (go_at_call 13; refine (num12 _ _).mono ?_; rintro x w9 ⟨rfl, e9⟩; rw [e9]; clear e9) | fail)
      go_upto_region 14 with fail
      have HR8 := hidden (HR.out.later HB8.out)
      go_loopw [12] (fun i w' => ∃ k : Nat, k ≤ n ∧ i = .int .i64 k ∧ Hid (Below w8.heap.size w8 w')) (fun i _ => n - (intOf i).toNat)
      case atStart => exact ⟨0, by omega, rfl, hidden (Below.refl _ _)⟩
      case round =>
        obtain ⟨k, hk, rfl, hB⟩ := hrel
        by_cases hlt : k < n
        · clear l1
          have l1 : (k : Int) < n := by omega
          have l2 : (0 : Int) ≤ k := by omega
          have l3 : ((k : Int)).toNat = k := by omega
          obtain ⟨b, o, ha, hb⟩ := (HR8.out.later hB.out).bs (by omega)
          subst ha
          have hc := hb.2 k hlt
          obtain ⟨b8, o8, ha8, hc8⟩ := (HV8.out.later hB.out).cells k hlt
          subst ha8
          have HZB := hidden (HOK.out.at k)
          have hze := map_getD zs k HZB.out.1
          rw [hze] at hc8
          clear hze hb
          generalize zs.getD k 0 = Z at *
          have q1 : IntKind.u32.wrap Z = Z := by have := HZB.out; rw [IntKind.wrap_u32]; omega
          go_upto_region 16 with fail
          go_region_held3 (fun w' => w'.cell? ⟨b8, o8 + k, none⟩ = some (.int .u32 Z) ∧ w'.cell? ⟨b, o + k, none⟩ = some (.int .u8 Z)) (first | assumption | exact ⟨by assumption, by assumption⟩ | go_keep) (fail)
          go_wp2
          go_roundw
          case rel => exact ⟨k + 1, by omega, by first | rfl | go_num, hidden (by first | exact hB.out.drew | exact hB.out)⟩
          case measure => simp [intOf]; omega
        · obtain rfl : k = n := by omega
          have l1 : ¬ ((k : Int) < k) := by omega
          have HBx := hidden (HB8.out.trans (hB.out.mono HB8.out.size))
          clear HB8 HV8 HR8 hB
          replace HB8 := HBx
          generalize wr = w8 at *
          have HO0 : Hid ((w8.alloc (.cells #[.int .u8 226, .int .u8 1, .int .u8 2, .int .u8 3] 5)).ownsRow w.heap.size 5 1 (.slice (some ⟨w8.heap.size, 0, none⟩) 4 4) 4 (bytesV [226, 1, 2, 3])) := hidden (owns_new w8 w.heap.size [226, 1, 2, 3] HB8.out.size (by decide))
          have HB0 : Hid (Below w.heap.size w (w8.alloc (.cells #[.int .u8 226, .int .u8 1, .int .u8 2, .int .u8 3] 5))) := hidden (HB8.out.alloc HB8.out.size _)
          clear hk hlt
          go_upto_region 20 with fail
          have HZN : Hid ([226, 1, 2, 3] ++ wdL (xs.take 0) = [226, 1, 2, 3]) := hidden (by simp [wdL])
          generalize w8.alloc (.cells #[.int .u8 226, .int .u8 1, .int .u8 2, .int .u8 3] 5) = w0 at *
          generalize w8.heap.size = g0 at *
          go_loopw [13, 14] (fun v i w' => ∃ (k g c : Nat), k ≤ ll ∧ i = .int .i64 k ∧ v = .slice (some ⟨g, 0, none⟩) (4 + 4 * k) c ∧ Hid (∀ j, j < k → 0 < xs.getD j 0) ∧ Hid (w'.ownsRow w.heap.size 5 1 (.slice (some ⟨g, 0, none⟩) (4 + 4 * k) c) (4 + 4 * k) (bytesV ([226, 1, 2, 3] ++ wdL (xs.take k)))) ∧ Hid (Below w.heap.size w w')) (fun _ i _ => ll - (intOf i).toNat)
          case atStart => exact ⟨0, g0, 4, by omega, rfl, rfl, hidden (fun j hj => by omega), hidden (by rw [HZN.out]; exact HO0.out), HB0⟩
          case round =>
            clear HO0 HB0 HZN
            obtain ⟨j, g, cc, hj, rfl, rfl, hZ, hO, hB⟩ := hrel
            by_cases hlt : j < ll
            · have l1 : (j : Int) < ll := by omega
              have l2 : (0 : Int) ≤ j := by omega
              have l3 : ((j : Int)).toNat = j := by omega
              obtain ⟨b, o, ha, hc⟩ := (HV.out.later hB.out).cells j hlt
              subst ha
              have HXB := hidden (show xs.getD j 0 < 4294967296 from HV.out.bd _ (by rw [List.getD_eq_getElem?_getD, List.getElem?_eq_getElem (by rw [HXL.out]; exact hlt)]; simp))
              have HWS := hidden (wdL_snoc xs j (by rw [HXL.out]; exact hlt))
              have HZ1 : Hid (0 < xs.getD j 0 → ∀ i, i < j + 1 → 0 < xs.getD i 0) := hidden (fun h i hi => by
                by_cases e : i = j
                · subst e; exact h
                · exact hZ.out i (by omega))
              generalize xs.getD j 0 = X at *
              by_cases h0 : X = 0
              · have q1 : ((X : Int) == 0) = true := by simp [h0]
                have HLB := hidden (HLV.out wr hB.out)
                clear h0
                go_wp2_with (go_at_call 7; refine HLB.out.mono ?_; rintro x wl ⟨rfl, hbl⟩)
                go_ret
                exact ⟨rfl, hbl⟩
              · have q1 : ((X : Int) == 0) = false := by simp [h0]
                have HZ2 := hidden (HZ1.out (by omega))
                have x0 : (0 : Int) ≤ (X : Int) := by omega
                have HX1 := hidden (show (X : Int) ≤ 4294967295 by have := HXB.out; omega)
                have HPT := hidden (rput_4 (X : Int) wr x0 HX1.out)
                clear h0
                go_upto_region 21 with (first
                  | (go_at_call 17; refine HPT.out.mono ?_; rintro e w9 ⟨pv, rfl, hop, hb9⟩; obtain ⟨gp, cp, rfl, hcp, hgp⟩ := owned_shape hop (by omega); have HN9 := hidden (own_reads hop); have HO9 := hidden (own_later hO.out hb9); have HB9 := hidden (hB.out.trans (hb9.mono hB.out.size)); clear hop hb9)
                  | (at_builtin; refine wpList_appR rfl (.tmp 101) (.tmp 106) rfl w.heap.size g (4 + 4 * j) cc 4 cp (some ⟨gp, 0, none⟩) ([226, 1, 2, 3] ++ wdL (xs.take j)) (putL (X : Int) 4) rfl rfl HO9.out HN9.out (by omega) HB9.out.size ?_; intro g10 c10 w10 ho10 f10; have HB10 := hidden (HB9.out.trans (f10.out.below HB9.out.size (fun k e => (HO9.out.lt k e).1))); have HO10 := hidden ho10; clear ho10 f10)
                  | fail)
                rw [List.append_assoc, ← HWS.out] at HO10
                clear HO9 HB9 HN9 hO hB HPT hc
                go_wp2
                go_roundw
                case rel => exact ⟨j + 1, g10, c10, by omega, by first | rfl | go_num, by rfl, HZ2, HO10, HB10⟩
                case measure => simp [intOf]; omega
            · obtain rfl : j = ll := by omega
              have l1 : ¬ ((j : Int) < j) := by omega
              have HPX : Hid (∀ x ∈ xs, 0 < x ∧ x < 4294967296) := hidden (fun x hx => by
                refine ⟨?_, HV.out.bd x hx⟩
                obtain ⟨i, hi, rfl⟩ := List.getElem_of_mem hx
                have := hZ.out i (by rw [HXL.out] at hi; exact hi)
                rwa [List.getD_eq_getElem?_getD, List.getElem?_eq_getElem hi] at this)
              have HTK : Hid (xs.take j = xs) := hidden (List.take_of_length_le (by rw [HXL.out]; exact Nat.le_refl _))
              rw [HTK.out] at hO
              have hn2 : n2 ≤ 16384 := by omega
              have HA5 := hidden (hO.out.alloc (.cells #[.int .u8 0, .int .u8 0, .int .u8 0, .int .u8 0] 5))
              have HL5 : Hid (Reads (wr.alloc (.cells #[.int .u8 0, .int .u8 0, .int .u8 0, .int .u8 0] 5)) (some ⟨wr.heap.size, 0, none⟩) 4 4 [0, 0, 0, 0]) := hidden (own_reads (owns_new wr wr.heap.size [0, 0, 0, 0] (Nat.le_refl _) (by decide)))
              have HB5 : Hid (Below w.heap.size w (wr.alloc (.cells #[.int .u8 0, .int .u8 0, .int .u8 0, .int .u8 0] 5))) := hidden (hB.out.alloc hB.out.size _)
              clear hO hZ hB hj hlt
              go_upto_region 27 with (first
                | (at_builtin; refine wpList_appR rfl (.tmp 108) (.tmp 109) rfl w.heap.size g (4 + 4 * j) cc 4 4 (some ⟨wr.heap.size, 0, none⟩) ([226, 1, 2, 3] ++ wdL xs) [0, 0, 0, 0] rfl rfl HA5.out HL5.out (by omega) HB5.out.size ?_; intro g16 c16 w16 ho6 f6; have HB6 := hidden (HB5.out.trans (f6.out.below HB5.out.size (fun k e => (HA5.out.lt k e).1))); have HO6 := hidden ho6; have HS6 := hidden (HS.out.later HB6.out); clear ho6 f6)
                | (at_builtin; refine wpList_appR rfl (.tmp 110) (.tmp 111) rfl w.heap.size g16 (4 + 4 * j + 4) c16 n2 c2 a2 ([226, 1, 2, 3] ++ wdL xs ++ [0, 0, 0, 0]) ys rfl rfl HO6.out HS6.out (by omega) HB6.out.size ?_; intro g17 c17 w17 ho7 f7; have HB7 := hidden (HB6.out.trans (f7.out.below HB6.out.size (fun k e => (HO6.out.lt k e).1))); have HP7 := hidden (plain_words w17 g17 c17 j n2 _ xs ys HXL.out ho7 HOK2.out HPX.out hn2 (by omega)); clear ho7 f7)
                | (go_at_call 16; refine HP7.out.mono ?_; rintro x w18 ⟨a18, c18, rfl, hv8, hb8⟩; have HV18 := hidden hv8; have HB18 := hidden (HB7.out.trans (hb8.mono HB7.out.size)); clear hv8 hb8)
                | fail)
              clear HA5 HL5 HB5 HB6 HO6 HS6 HB7 HP7
              have HWD : Hid (Calls Try.prog 14 #[.slice a18 j c18, .slice al j lc] w18 fun x w' => x = .returned (.bool true) ∧ Hid (Below w.heap.size w w')) := hidden ((words_any a18 al j j c18 lc xs xs w18 HV18.out (HV.out.later HB18.out) (by omega)).mono (fun x w' hh => ⟨by rw [hh.1]; simp, hidden (HB18.out.trans (hh.2.below.mono HB18.out.size))⟩))
              go_wp2_with (first | (go_at_call 13; refine (num12 _ _).mono ?_; rintro x w9 ⟨rfl, e9⟩; rw [e9]; clear e9) | (go_at_call 14; refine HWD.out.mono ?_; rintro x w7 ⟨rfl, HB7⟩) | (go_at_call 7; refine (HLV.out _ HB7.out).mono ?_; rintro x wl ⟨rfl, hbl⟩) | fail)
              go_ret
              exact ⟨rfl, hbl⟩
theorem textRows_walk (a : Option Addr) (n c : Nat) (zs0 : List Int) (al : Option Addr) (ll lc : Nat) (vs : List Int) (a2 : Option Addr) (n2 c2 : Nat) (ys0 : List Int) (w : World) (hr0 : IsRow .u8 w a n c zs0 ∧ n ≤ 281474976710656) (hv0 : IsRow .u32 w al ll lc vs) (hs0 : IsRow .u8 w a2 n2 c2 ys0 ∧ n2 ≤ 281474976710656) :
    Calls Try.prog 5 #[.slice a n c, .slice al ll lc, .slice a2 n2 c2] w fun e w' => e = .returned (.bool true) ∧ Below w.heap.size w w' := by
  obtain ⟨hr, hok, hl63⟩ := reads_of_row hr0.1
  obtain ⟨hs, hok2, hl632⟩ := reads_of_row hs0.1
  obtain ⟨xs, hv, hlc, hlm⟩ := vrow_of hv0
  have hrl := hr0.2
  have hsl := hs0.2
  clear hr0 hs0 hv0
  have HLV := hidden (live_any w)
  have hw : IntKind.i64.wrap ((n : Int) + (n2 : Int)) = (n : Int) + (n2 : Int) := by rw [IntKind.wrap_i64]; omega
  by_cases hbig : 16384 < n + n2
  · have g1 : (16384 : Int) < (n : Int) + (n2 : Int) := by omega
    clear hr hs hv hok hok2
    go_enter Try.func5, Try.ntmps5
    go_wp2_with (first | (go_at_call 7; refine HLV.out.mono ?_; rintro e wl ⟨rfl, hbl⟩))
    go_ret
    exact ⟨rfl, hbl⟩
  · by_cases hl : ll ≤ 300
    · exact rows_main a n c _ al ll lc xs a2 n2 c2 _ w hr hok hv hs hok2 (by omega) hl
    · have g1 : ¬ (16384 : Int) < (n : Int) + (n2 : Int) := by omega
      have g2 : (300 : Int) < (ll : Int) := by omega
      clear hr hs hv hok hok2
      go_enter Try.func5, Try.ntmps5
      go_wp2_with (first | (go_at_call 7; refine HLV.out.mono ?_; rintro e wl ⟨rfl, hbl⟩))
      go_ret
      exact ⟨rfl, hbl⟩
end Go.Proofs.Ytjebjbihhbchfaa
