/- The walk of MemoryGrows. -/
import Derived.Test.YtmebjbnglndfcaaY9x
import Derived.Deep.RegionHeld3
namespace Go.Proofs.Ytmebjbnglndfcaa
open Go.RowKit
set_option maxHeartbeats 8000000
set_option maxRecDepth 100000
set_option linter.unusedVariables false

theorem take_ends (zs : List Int) (n k L : Nat) (hl : zs.length = L) (h1 : k ≤ L) (h2 : k ≤ n) : (zs.take n ++ zer8 (n - L)).take k = zs.take k := by
  subst hl
  rw [List.take_append_of_le_length (by simp; omega), List.take_take, Nat.min_eq_left h2]
theorem drop_ends (zs : List Int) (n L : Nat) (hl : zs.length = L) (h : L ≤ n) : (zs.take n ++ zer8 (n - L)).drop L = zer8 (n - L) := by
  subst hl
  rw [List.take_of_length_le h]
  exact List.drop_left' rfl
theorem memoryGrows_walk (ao : Option Addr) (len cap : Nat) (rs : List Ac) (pg xx : Int) (w : World) (hA : IsActs w ao len cap rs) (h1 : (Lit.int .u16 pg).wf = true) (h2 : (Lit.int .u32 xx).wf = true) :
    Calls Try.prog 7 #[.slice ao len cap, .int .u16 pg, .int .u32 xx] w fun e w' => e = .returned (.bool true) ∧ Below w.heap.size w w' := by
  have b1 := bounds_u16 h1
  have b2 := bounds_u32 h2
  obtain ⟨p, rfl⟩ := Int.eq_ofNat_of_zero_le b1.1
  obtain ⟨x, rfl⟩ := Int.eq_ofNat_of_zero_le b2.1
  clear h1 h2
  have HL : Hid (∀ w1, Below w.heap.size w w1 → Calls Try.prog 9 #[] w1 fun e w' => e = .returned (.bool true) ∧ Below w.heap.size w w') := fun w1 hb1 => (live_any w1).mono (fun e w' hh => ⟨hh.1, hb1.trans (hh.2.mono hb1.size)⟩)
  have HH := hidden (huge_any ao len cap rs w hA)
  have HA := hidden hA
  clear hA
  cases hg : hugeB rs with
  | true =>
    rw [hg] at HH
    clear hg
    go_enter Try.func7, Try.ntmps7
    go_wp2_with (first | (go_at_call 8; refine HH.out.mono ?_; rintro e w1 ⟨rfl, hb1⟩) | (go_at_call 9; refine (HL.out _ hb1).mono ?_; rintro e w2 ⟨rfl, hb2⟩) | fail)
    go_ret
    exact ⟨rfl, hb2⟩
  | false =>
    rw [hg] at HH
    clear hg
    go_enter Try.func7, Try.ntmps7
    go_wp2_with fail
    refine HH.out.mono ?_
    rintro e w1 ⟨rfl, hb1⟩
    have HBG := hidden (begin_any ao len cap rs w1 (acts_later HA.out hb1))
    have HB1 := hidden hb1
    have hs1 := hb1.size
    clear hb1 HH HA
    go_wp2_with fail
    refine HBG.out.mono ?_
    rintro e w2 ⟨m, rfl, B, s, hB, M2, hs, hb2⟩
    have HB2 := hidden (HB1.out.trans (hb2.mono hs1))
    have hBw : w.heap.size ≤ B := Nat.le_trans hs1 hB
    have HM2 := hidden M2
    have HSm := hidden hs
    have hLm := M2.ok.bm
    have hL0 : 0 < s.bytes.length := by have := M2.ok.bl; have := M2.ok.r0; omega
    clear hs hb2 HB1 HBG hB hs1 M2
    have hpm : (p : Int).tmod 64 = ((p % 64 : Nat) : Int) := by rw [Int.tmod_eq_emod_of_nonneg (by omega)]; omega
    have hw1 : IntKind.u16.wrap ((p % 64 : Nat) : Int) = ((p % 64 : Nat) : Int) := by simp [IntKind.wrap, IntKind.signed, IntKind.bits]; omega
    have hw2 : IntKind.u32.wrap ((p % 64 : Nat) : Int) = ((p % 64 : Nat) : Int) := by rw [IntKind.wrap_u32]; omega
    have hw3 : IntKind.u32.wrap (256 * ((p % 64 : Nat) : Int)) = ((256 * (p % 64) : Nat) : Int) := by rw [IntKind.wrap_u32]; omega
    have hN : 256 * (p % 64) ≤ 16128 ∧ (256 * (p % 64)) % 256 = 0 := by omega
    generalize hNN : 256 * (p % 64) = N at *
    generalize p % 64 = P at *
    have HHP := hidden HM2.out.heap
    go_wp2_with fail
    refine HHP.out.mono ?_
    rintro e w2b ⟨⟨bo, bcap, rfl⟩, M2b, k2b⟩
    have HB2b := hidden (HB2.out.trans (k2b.below.mono hBw))
    have HBY := hidden M2b.bytes
    clear M2b k2b HHP HM2 HB2
    go_wp2_with fail
    refine HBY.out.mono ?_
    rintro e w3 ⟨g1, c1, rfl, ho1, M3, k3, hb3⟩
    have HO1 := hidden ho1
    have HM3 := hidden M3
    have HB3 := hidden (HB2b.out.trans (k3.below.mono hBw))
    clear ho1 M3 k3 hb3 HBY HB2b
    have hLN : N < 4294967296 := by omega
    have hen := HSm.out.en
    have hwn : IntKind.u32.wrap ((N : Int) + 1) = ((N + 1 : Nat) : Int) := by rw [IntKind.wrap_u32]; omega
    have hno : ∀ y, y = N ∨ y = N + 1 → (0 < s.hp.bs.length ∨ N < 768) → Calls Try.prog 24 #[.pointer (some ⟨m, 0, none⟩), .int .u32 y] w3 fun e w' => e = .returned (.bool false) ∧ w' = w3 := fun y hy h => by
      by_cases hl : 0 < s.hp.bs.length
      · exact HM3.out.resize_act y hl
      · refine HM3.out.resize_no y (by omega) (by omega) ?_
        rw [hen]
        unfold endR
        have : ¬ 768 ≤ y := by omega
        simp [this]
    by_cases hcase : 0 < s.hp.bs.length ∨ N < 768
    · have HR1 := hidden (hno N (.inl rfl) hcase)
      have HR2 := hidden (fun w' (h : w' = w3) => h ▸ hno (N + 1) (.inr rfl) hcase)
      have HBY2 := hidden HM3.out.bytes
      have HOK := hidden HM3.out.ok.okb
      have hR2b : ∀ w5 : World, Below w3.heap.size w3 w5 → Calls Try.prog 24 #[.pointer (some ⟨m, 0, none⟩), .int .u32 (N + 1 : Nat)] w5 fun e w' => e = .returned (.bool false) ∧ w' = w5 := fun w5 hb => by
        have M5 := HM3.out.later hb
        by_cases hl : 0 < s.hp.bs.length
        · exact M5.resize_act (N + 1) hl
        · refine M5.resize_no (N + 1) (by omega) (by omega) ?_
          rw [hen]
          unfold endR
          have : ¬ 768 ≤ N + 1 := by omega
          simp [this]
      have HRB := hidden hR2b
      have hcs : (s.hp.bs.length = 0 ∧ N < 768) ∨ 0 < s.hp.bs.length := by omega
      clear hcase hno hR2b HR2
      generalize hLL : s.bytes.length = L at *
      generalize s.hp.bs.length = NB at *
      have HLL := hidden hLL
      clear hLL hNN
      rcases hcs with ⟨rfl, hn⟩ | hn
      · have d1 : ¬ (N : Int) ≥ 768 := by omega
        have d2 : ¬ (768 : Int) ≤ (N : Int) := by omega
        go_wp2_with fail
        refine HR1.out.mono ?_
        rintro e w4 ⟨rfl, e4⟩
        rw [e4]; clear e4 w4 HR1
        go_wp2_with fail
        refine HBY2.out.mono ?_
        rintro e w5 ⟨g2, c2, rfl, ho2, M5, k5, hb5⟩
        have HB5 := hidden (HB3.out.trans (k5.below.mono hBw))
        have HSA := hidden (same_eq (some ⟨g2, 0, none⟩) (some ⟨g1, 0, none⟩) L c2 L c1 s.bytes w5 HOK.out (own_reads ho2) (own_reads (own_later HO1.out hb5)))
        have HR := hidden (HRB.out w5 hb5)
        clear ho2 M5 k5 hb5 HBY2
        go_wp2_with (first | (go_at_call 14; refine HSA.out.mono ?_; rintro e w9 ⟨rfl, e9⟩; rw [e9]; clear e9) | (go_at_call 24; refine HR.out.mono ?_; rintro e w9 ⟨rfl, e9⟩; rw [e9]; clear e9) | (go_at_call 9; refine (HL.out _ HB5.out).mono ?_; rintro e w6 ⟨rfl, hb6⟩) | fail)
        go_ret
        exact ⟨rfl, hb6⟩
      · have d1 : ((NB : Int) == 0) = false := by rw [beq_eq_false_iff_ne]; omega
        go_wp2_with fail
        refine HR1.out.mono ?_
        rintro e w4 ⟨rfl, e4⟩
        rw [e4]; clear e4 w4 HR1
        go_wp2_with fail
        refine HBY2.out.mono ?_
        rintro e w5 ⟨g2, c2, rfl, ho2, M5, k5, hb5⟩
        have HB5 := hidden (HB3.out.trans (k5.below.mono hBw))
        have HSA := hidden (same_eq (some ⟨g2, 0, none⟩) (some ⟨g1, 0, none⟩) L c2 L c1 s.bytes w5 HOK.out (own_reads ho2) (own_reads (own_later HO1.out hb5)))
        have HR := hidden (HRB.out w5 hb5)
        clear ho2 M5 k5 hb5 HBY2
        go_wp2_with (first | (go_at_call 14; refine HSA.out.mono ?_; rintro e w9 ⟨rfl, e9⟩; rw [e9]; clear e9) | (go_at_call 24; refine HR.out.mono ?_; rintro e w9 ⟨rfl, e9⟩; rw [e9]; clear e9) | (go_at_call 9; refine (HL.out _ HB5.out).mono ?_; rintro e w6 ⟨rfl, hb6⟩) | fail)
        go_ret
        exact ⟨rfl, hb6⟩
    · have hl0 : s.hp.bs.length = 0 := by omega
      have hN7 : 768 ≤ N := by omega
      have heN : endR s.en N = true := by rw [hen]; unfold endR; simp; omega
      have hram := HSm.out.ram
      have HR1 := hidden (HM3.out.resize_ok N hl0 hLN heN)
      have HOKS := hidden HM3.out.ok.okb
      have hel := ends_len s.bytes N
      clear hcase hno hNN
      refine Hid.out ?_
      refine hidden ?_
      go_wp2_with fail
      refine HR1.out.mono ?_
      rintro e w4 ⟨rfl, M4, k4⟩
      have HB4 := hidden (HB3.out.trans (k4.below.mono hBw))
      have HO4 := hidden (k4.own HO1.out (fun g e => by simp only [Value.ownBlock, Option.some.injEq] at e; subst e; exact List.mem_cons_self))
      have HBY2 := hidden M4.bytes
      simp only [hel] at HBY2
      have HM4 := hidden M4
      have HOK4 := hidden M4.ok.okb
      clear M4 k4 HR1 HB3 HM3 HO1 heN
      have d1 : (N : Int) ≥ 768 := by omega
      have d2 : (768 : Int) ≤ (N : Int) := by omega
      go_wp2_with fail
      refine HBY2.out.mono ?_
      rintro e w5 ⟨g2, c2, rfl, ho2, M5, k5, hb5⟩
      have HB5 := hidden (HB4.out.trans (k5.below.mono hBw))
      have ho1' := own_later HO4.out hb5
      obtain ⟨_, _, _, hk1, _, _, _, hzl1⟩ := own8_cur ho1'
      obtain ⟨_, _, _, hk2, _, _, _, hzl2⟩ := own8_cur ho2
      have HO1 := hidden ho1'
      have HO2 := hidden ho2
      have HM5 := hidden M5
      have hwN : IntKind.i64.wrap (N : Int) = N := by rw [IntKind.wrap_i64]; omega
      have hbd : Below w5.heap.size w5 w5.drew := ⟨rfl, rfl, rfl, Nat.le_refl _, fun _ _ => rfl⟩
      have HBD := hidden hbd
      have hwm : IntKind.u32.wrap ((N : Int) - 4) = ((N - 4 : Nat) : Int) := by rw [IntKind.wrap_u32]; omega
      -- what follows the region
      have hW := HM5.out.write_ok (N - 4) 4 x (by decide) (by omega) (by
        show chgR s.ram (s.bytes.take N ++ zer8 (N - s.bytes.length)).length (N - 4) 4 = true
        rw [hel, hram]; simp [chgR, hasR]; omega)
      clear ho2 M5 k5 hb5 HBY2 ho1' hbd HO4
      generalize hLs : s.bytes.length = L at *
      clear hW
      rcases Nat.lt_trichotomy L N with hlt | heq | hgt
      · skip
        have o1 : (L : Int) ≤ (N : Int) := by omega
        have hwk : IntKind.i64.wrap ((N : Int) - (L : Int)) = ((N - L : Nat) : Int) := by rw [IntKind.wrap_i64]; omega
        have hmk := mk8 .i64 (N - L) (by omega)
        have hba : Below w5.heap.size w5 ((w5.alloc (.cells (bytesV (zer8 (N - L))).toArray 5)).drew) := ⟨rfl, rfl, rfl, by simp, fun k hk => Go.heap_alloc_old _ _ hk⟩
        have hH1 := head_reads HO1.out L (by omega)
        have hH2 := head_reads HO2.out L (by omega)
        rw [take_ends s.bytes N L L hLs (by omega) (by omega)] at hH2
        have HSA1 := hidden (fun w1 (hb : Below w5.heap.size w5 w1) => same_eq (some ⟨g2, 0, none⟩) (some ⟨g1, 0, none⟩) L c2 L c1 (s.bytes.take L) w1 (fun c hc => HOKS.out c (List.mem_of_mem_take hc)) (hH2.later hb) (hH1.later hb))
        have hT2 := tail_n HO2.out L (by omega) (by omega)
        rw [drop_ends s.bytes N L hLs (by omega)] at hT2
        have hmr : Reads ((w5.alloc (.cells (bytesV (zer8 (N - L))).toArray 5)).drew) (some ⟨w5.heap.size, 0, none⟩) (N - L) (N - L) (zer8 (N - L)) := own_reads (B := w5.heap.size) (own8_of (Nat.le_refl _) (heap_alloc_new w5 _) (Nat.le_refl _) (by unfold maxLen; omega) (by simp [bytesV, zer8]) (List.take_of_length_le (by simp [bytesV, zer8])) (zer8_len _))
        have HSA2 := hidden (same_eq (some ⟨g2, L, none⟩) (some ⟨w5.heap.size, 0, none⟩) (N - L) (c2 - L) (N - L) (N - L) (zer8 (N - L)) ((w5.alloc (.cells (bytesV (zer8 (N - L))).toArray 5)).drew) (zer8_okb _) (hT2.later hba) hmr)
        have HM6 := hidden (HM5.out.later hba)
        have HB6 := hidden (HB5.out.trans (hba.mono HB5.out.size))
        have hw0 : IntKind.i64.wrap 0 = 0 := by rw [IntKind.wrap_i64]; omega
        have p1 : L ≤ c1 := by omega
        have hmin : min (L : Int) (N : Int) = (L : Int) := by omega
        have p2 : L ≤ c2 := by omega
        have p3 : (L : Int) ≤ (N : Int) := by omega
        have p4 : L ≤ N := by omega
        have p5 : ¬ c2 = L := by omega
        have p6 : L ≤ L := by omega
        clear hba hH1 hH2 HM5 HO1 HO2 hzl1 hzl2
        skip
        skip
        go_wp2_with fail
        go_region_held3 (fun w' => True) (first | trivial) (first | (go_at_call 14; (with_reducible refine (HSA1.out _ HBD.out).mono ?_); rintro e w9 ⟨rfl, e9⟩; rw [e9]; clear e9) | (go_at_call 14; (with_reducible refine HSA2.out.mono ?_); rintro e w9 ⟨rfl, e9⟩; rw [e9]; clear e9) | fail)
        all_goals (try go_wp2_with fail)
        have HW := hidden (HM6.out.write_ok (N - 4) 4 x (by decide) (by omega) (by
          show chgR s.ram (s.bytes.take N ++ zer8 (N - L)).length (N - 4) 4 = true
          rw [hel, hram]; simp [chgR, hasR]; omega))
        clear HM6
        refine HW.out.mono ?_
        rintro e w7 ⟨rfl, M7, k7⟩
        have HB7 := hidden (HB6.out.trans (k7.below.mono hBw))
        have hl7 : (splice (s.bytes.take N ++ zer8 (N - L)) (N - 4) (putL x (4 : Nat))).length = N := by rw [splice_len _ _ _ (by rw [hel]; have : (putL x (4 : Nat)).length = 4 := rfl; omega), hel]
        have hbe := be_put (s.bytes.take N ++ zer8 (N - L)) (N - 4) 4 x (by decide) (by rw [hel]; omega) (by omega)
        rw [show (256 : Nat) ^ 4 = 4294967296 from rfl, Nat.mod_eq_of_lt (by omega)] at hbe
        generalize hZS : splice (s.bytes.take N ++ zer8 (N - L)) (N - 4) (putL x (4 : Nat)) = zs at *
        have HR7 := hidden (M7.resize_ok 768 hl0 (by decide) (by show endR s.en 768 = true; rw [hen]; rfl))
        clear M7 k7 HW hZS
        go_wp2_with fail
        refine HR7.out.mono ?_
        rintro e w8 ⟨rfl, M8, k8⟩
        have HB8 := hidden (HB7.out.trans (k8.below.mono hBw))
        have HR8 := hidden (M8.resize_ok N hl0 hLN (by show endR s.en N = true; rw [hen]; unfold endR; simp; omega))
        clear M8 k8 HR7
        go_wp2_with fail
        refine HR8.out.mono ?_
        rintro e w10 ⟨rfl, M10, k10⟩
        have HB10 := hidden (HB8.out.trans (k10.below.mono hBw))
        have hl8 : (zs.take 768 ++ zer8 (768 - zs.length)).length = 768 := ends_len zs 768
        have HRD := hidden (M10.read_ok (N - 4) 4 (by decide) (by omega) (by show N - 4 + 4 ≤ ((zs.take 768 ++ zer8 (768 - zs.length)).take N ++ zer8 (N - (zs.take 768 ++ zer8 (768 - zs.length)).length)).length; rw [ends_len]; omega))
        clear M10 k10 HR8
        by_cases h768 : N = 768
        · have hval : beV ((zs.take 768 ++ zer8 (768 - zs.length)).take N ++ zer8 (N - (zs.take 768 ++ zer8 (768 - zs.length)).length)) (N - 4) (4 : Nat) = (x : Int) := by
            have e1 : zs.take 768 = zs := List.take_of_length_le (by omega)
            have e2 : zer8 (768 - zs.length) = [] := by rw [show 768 - zs.length = 0 by omega]; rfl
            rw [e1, e2, List.append_nil, List.take_of_length_le (by omega), show N - zs.length = 0 by omega]
            rw [show zer8 0 = [] from rfl, List.append_nil]
            exact hbe
          simp only [hval] at HRD
          clear hval hbe
          have q1 : ((N : Int) == 768) = true := by rw [beq_iff_eq]; omega
          have H768 := hidden h768
          clear h768
          go_wp2_with (first | (go_at_call 13; refine (num9 _ _).mono ?_; rintro e w9 ⟨rfl, e9⟩; rw [e9]; clear e9) | (go_at_call 15; refine HRD.out.mono ?_; rintro e w9 ⟨rfl, e9⟩; rw [e9]; clear e9) | (go_at_call 9; refine (HL.out _ HB10.out).mono ?_; rintro e w11 ⟨rfl, hb11⟩) | fail)
          go_ret
          exact ⟨rfl, hb11⟩
        · have hval : beV ((zs.take 768 ++ zer8 (768 - zs.length)).take N ++ zer8 (N - (zs.take 768 ++ zer8 (768 - zs.length)).length)) (N - 4) (4 : Nat) = 0 := by
            rw [hl8]
            have h : ∀ i, 768 ≤ i → ((zs.take 768 ++ zer8 (768 - zs.length)).take N ++ zer8 (N - 768)).getD i 0 = 0 := fun i hi => by
              rw [List.take_of_length_le (by rw [hl8]; omega), List.getD_eq_getElem?_getD, List.getElem?_append_right (by rw [hl8]; omega)]
              simp only [zer8, List.getElem?_replicate]
              split <;> rfl
            unfold beV
            rw [if_neg (by decide), if_neg (by decide), h (N - 4) (by omega), h (N - 4 + 1) (by omega), h (N - 4 + 2) (by omega), h (N - 4 + 3) (by omega)]
            rfl
          simp only [hval] at HRD
          clear hval hbe
          have q1 : ((N : Int) == 768) = false := by rw [beq_eq_false_iff_ne]; omega
          have q2 : (N : Int) > 768 := by omega
          have q3 : (768 : Int) < (N : Int) := by omega
          go_wp2_with (first | (go_at_call 13; refine (num9 _ _).mono ?_; rintro e w9 ⟨rfl, e9⟩; rw [e9]; clear e9) | (go_at_call 15; refine HRD.out.mono ?_; rintro e w9 ⟨rfl, e9⟩; rw [e9]; clear e9) | (go_at_call 9; refine (HL.out _ HB10.out).mono ?_; rintro e w11 ⟨rfl, hb11⟩) | fail)
          go_ret
          exact ⟨rfl, hb11⟩
      · have heq' := heq.symm
        subst heq'
        by_cases hcy : c2 = N
        · skip
          skip
          skip
          have hmk : ∀ w, (Instr.makeSlice 28 (.int .i64 0) (.int .i64 0)).run Try.prog w = .ok (.slice (some ⟨w.heap.size, 0, none⟩) 0 0) (w.alloc (.cells #[] 5)) := fun w => mk8 .i64 0 (by omega) w
          have hba : Below w5.heap.size w5 ((w5.alloc (.cells #[] 5)).drew) := ⟨rfl, rfl, rfl, by simp, fun k hk => Go.heap_alloc_old _ _ hk⟩
          have hH1 := head_reads HO1.out N (by omega)
          have hH2 := head_reads HO2.out N (by omega)
          rw [take_ends s.bytes N N N hLs (by omega) (by omega)] at hH2
          have HSA1 := hidden (fun w1 (hb : Below w5.heap.size w5 w1) => same_eq (some ⟨g2, 0, none⟩) (some ⟨g1, 0, none⟩) N c2 N c1 (s.bytes.take N) w1 (fun c hc => HOKS.out c (List.mem_of_mem_take hc)) (hH2.later hb) (hH1.later hb))
          have HSA2 := hidden (same_eq (some ⟨g2, 0, none⟩) (some ⟨w5.heap.size, 0, none⟩) 0 (c2 - N) 0 0 [] ((w5.alloc (.cells #[] 5)).drew) (fun c hc => by cases hc) (reads_zero _ _ _) (reads_zero _ _ _))
          have HM6 := hidden (HM5.out.later hba)
          have HB6 := hidden (HB5.out.trans (hba.mono HB5.out.size))
          have hw0 : IntKind.i64.wrap 0 = 0 := by rw [IntKind.wrap_i64]; omega
          have p1 : N ≤ c1 := by omega
          skip
          have p2 : N ≤ c2 := by omega
          have p3 : (N : Int) ≤ (N : Int) := by omega
          have p4 : N ≤ N := by omega
          skip
          skip
          clear hba hH1 hH2 HM5 HO1 HO2 hzl1 hzl2
          have hcT := eq_true hcy
          have HCY := hidden hcy; clear hcy
          go_wp2_with fail
          go_region_held3 (fun w' => True) (first | trivial) (first | (go_at_call 14; (with_reducible refine (HSA1.out _ HBD.out).mono ?_); rintro e w9 ⟨rfl, e9⟩; rw [e9]; clear e9) | (go_at_call 14; (with_reducible refine HSA2.out.mono ?_); rintro e w9 ⟨rfl, e9⟩; rw [e9]; clear e9) | fail)
          all_goals (try go_wp2_with fail)
          have HW := hidden (HM6.out.write_ok (N - 4) 4 x (by decide) (by omega) (by
            show chgR s.ram (s.bytes.take N ++ zer8 (N - N)).length (N - 4) 4 = true
            rw [hel, hram]; simp [chgR, hasR]; omega))
          clear HM6
          refine HW.out.mono ?_
          rintro e w7 ⟨rfl, M7, k7⟩
          have HB7 := hidden (HB6.out.trans (k7.below.mono hBw))
          have hl7 : (splice (s.bytes.take N ++ zer8 (N - N)) (N - 4) (putL x (4 : Nat))).length = N := by rw [splice_len _ _ _ (by rw [hel]; have : (putL x (4 : Nat)).length = 4 := rfl; omega), hel]
          have hbe := be_put (s.bytes.take N ++ zer8 (N - N)) (N - 4) 4 x (by decide) (by rw [hel]; omega) (by omega)
          rw [show (256 : Nat) ^ 4 = 4294967296 from rfl, Nat.mod_eq_of_lt (by omega)] at hbe
          generalize hZS : splice (s.bytes.take N ++ zer8 (N - N)) (N - 4) (putL x (4 : Nat)) = zs at *
          have HR7 := hidden (M7.resize_ok 768 hl0 (by decide) (by show endR s.en 768 = true; rw [hen]; rfl))
          clear M7 k7 HW hZS
          go_wp2_with fail
          refine HR7.out.mono ?_
          rintro e w8 ⟨rfl, M8, k8⟩
          have HB8 := hidden (HB7.out.trans (k8.below.mono hBw))
          have HR8 := hidden (M8.resize_ok N hl0 hLN (by show endR s.en N = true; rw [hen]; unfold endR; simp; omega))
          clear M8 k8 HR7
          go_wp2_with fail
          refine HR8.out.mono ?_
          rintro e w10 ⟨rfl, M10, k10⟩
          have HB10 := hidden (HB8.out.trans (k10.below.mono hBw))
          have hl8 : (zs.take 768 ++ zer8 (768 - zs.length)).length = 768 := ends_len zs 768
          have HRD := hidden (M10.read_ok (N - 4) 4 (by decide) (by omega) (by show N - 4 + 4 ≤ ((zs.take 768 ++ zer8 (768 - zs.length)).take N ++ zer8 (N - (zs.take 768 ++ zer8 (768 - zs.length)).length)).length; rw [ends_len]; omega))
          clear M10 k10 HR8
          by_cases h768 : N = 768
          · have hval : beV ((zs.take 768 ++ zer8 (768 - zs.length)).take N ++ zer8 (N - (zs.take 768 ++ zer8 (768 - zs.length)).length)) (N - 4) (4 : Nat) = (x : Int) := by
              have e1 : zs.take 768 = zs := List.take_of_length_le (by omega)
              have e2 : zer8 (768 - zs.length) = [] := by rw [show 768 - zs.length = 0 by omega]; rfl
              rw [e1, e2, List.append_nil, List.take_of_length_le (by omega), show N - zs.length = 0 by omega]
              rw [show zer8 0 = [] from rfl, List.append_nil]
              exact hbe
            simp only [hval] at HRD
            clear hval hbe
            have q1 : ((N : Int) == 768) = true := by rw [beq_iff_eq]; omega
            have H768 := hidden h768
            clear h768
            go_wp2_with (first | (go_at_call 13; refine (num9 _ _).mono ?_; rintro e w9 ⟨rfl, e9⟩; rw [e9]; clear e9) | (go_at_call 15; refine HRD.out.mono ?_; rintro e w9 ⟨rfl, e9⟩; rw [e9]; clear e9) | (go_at_call 9; refine (HL.out _ HB10.out).mono ?_; rintro e w11 ⟨rfl, hb11⟩) | fail)
            go_ret
            exact ⟨rfl, hb11⟩
          · have hval : beV ((zs.take 768 ++ zer8 (768 - zs.length)).take N ++ zer8 (N - (zs.take 768 ++ zer8 (768 - zs.length)).length)) (N - 4) (4 : Nat) = 0 := by
              rw [hl8]
              have h : ∀ i, 768 ≤ i → ((zs.take 768 ++ zer8 (768 - zs.length)).take N ++ zer8 (N - 768)).getD i 0 = 0 := fun i hi => by
                rw [List.take_of_length_le (by rw [hl8]; omega), List.getD_eq_getElem?_getD, List.getElem?_append_right (by rw [hl8]; omega)]
                simp only [zer8, List.getElem?_replicate]
                split <;> rfl
              unfold beV
              rw [if_neg (by decide), if_neg (by decide), h (N - 4) (by omega), h (N - 4 + 1) (by omega), h (N - 4 + 2) (by omega), h (N - 4 + 3) (by omega)]
              rfl
            simp only [hval] at HRD
            clear hval hbe
            have q1 : ((N : Int) == 768) = false := by rw [beq_eq_false_iff_ne]; omega
            have q2 : (N : Int) > 768 := by omega
            have q3 : (768 : Int) < (N : Int) := by omega
            go_wp2_with (first | (go_at_call 13; refine (num9 _ _).mono ?_; rintro e w9 ⟨rfl, e9⟩; rw [e9]; clear e9) | (go_at_call 15; refine HRD.out.mono ?_; rintro e w9 ⟨rfl, e9⟩; rw [e9]; clear e9) | (go_at_call 9; refine (HL.out _ HB10.out).mono ?_; rintro e w11 ⟨rfl, hb11⟩) | fail)
            go_ret
            exact ⟨rfl, hb11⟩
        · skip
          skip
          skip
          have hmk : ∀ w, (Instr.makeSlice 28 (.int .i64 0) (.int .i64 0)).run Try.prog w = .ok (.slice (some ⟨w.heap.size, 0, none⟩) 0 0) (w.alloc (.cells #[] 5)) := fun w => mk8 .i64 0 (by omega) w
          have hba : Below w5.heap.size w5 ((w5.alloc (.cells #[] 5)).drew) := ⟨rfl, rfl, rfl, by simp, fun k hk => Go.heap_alloc_old _ _ hk⟩
          have hH1 := head_reads HO1.out N (by omega)
          have hH2 := head_reads HO2.out N (by omega)
          rw [take_ends s.bytes N N N hLs (by omega) (by omega)] at hH2
          have HSA1 := hidden (fun w1 (hb : Below w5.heap.size w5 w1) => same_eq (some ⟨g2, 0, none⟩) (some ⟨g1, 0, none⟩) N c2 N c1 (s.bytes.take N) w1 (fun c hc => HOKS.out c (List.mem_of_mem_take hc)) (hH2.later hb) (hH1.later hb))
          have HSA2 := hidden (same_eq (some ⟨g2, N, none⟩) (some ⟨w5.heap.size, 0, none⟩) 0 (c2 - N) 0 0 [] ((w5.alloc (.cells #[] 5)).drew) (fun c hc => by cases hc) (reads_zero _ _ _) (reads_zero _ _ _))
          have HM6 := hidden (HM5.out.later hba)
          have HB6 := hidden (HB5.out.trans (hba.mono HB5.out.size))
          have hw0 : IntKind.i64.wrap 0 = 0 := by rw [IntKind.wrap_i64]; omega
          have p1 : N ≤ c1 := by omega
          skip
          have p2 : N ≤ c2 := by omega
          have p3 : (N : Int) ≤ (N : Int) := by omega
          have p4 : N ≤ N := by omega
          skip
          skip
          clear hba hH1 hH2 HM5 HO1 HO2 hzl1 hzl2
          skip
          skip
          go_wp2_with fail
          go_region_held3 (fun w' => True) (first | trivial) (first | (go_at_call 14; (with_reducible refine (HSA1.out _ HBD.out).mono ?_); rintro e w9 ⟨rfl, e9⟩; rw [e9]; clear e9) | (go_at_call 14; (with_reducible refine HSA2.out.mono ?_); rintro e w9 ⟨rfl, e9⟩; rw [e9]; clear e9) | fail)
          all_goals (try go_wp2_with fail)
          have HW := hidden (HM6.out.write_ok (N - 4) 4 x (by decide) (by omega) (by
            show chgR s.ram (s.bytes.take N ++ zer8 (N - N)).length (N - 4) 4 = true
            rw [hel, hram]; simp [chgR, hasR]; omega))
          clear HM6
          refine HW.out.mono ?_
          rintro e w7 ⟨rfl, M7, k7⟩
          have HB7 := hidden (HB6.out.trans (k7.below.mono hBw))
          have hl7 : (splice (s.bytes.take N ++ zer8 (N - N)) (N - 4) (putL x (4 : Nat))).length = N := by rw [splice_len _ _ _ (by rw [hel]; have : (putL x (4 : Nat)).length = 4 := rfl; omega), hel]
          have hbe := be_put (s.bytes.take N ++ zer8 (N - N)) (N - 4) 4 x (by decide) (by rw [hel]; omega) (by omega)
          rw [show (256 : Nat) ^ 4 = 4294967296 from rfl, Nat.mod_eq_of_lt (by omega)] at hbe
          generalize hZS : splice (s.bytes.take N ++ zer8 (N - N)) (N - 4) (putL x (4 : Nat)) = zs at *
          have HR7 := hidden (M7.resize_ok 768 hl0 (by decide) (by show endR s.en 768 = true; rw [hen]; rfl))
          clear M7 k7 HW hZS
          go_wp2_with fail
          refine HR7.out.mono ?_
          rintro e w8 ⟨rfl, M8, k8⟩
          have HB8 := hidden (HB7.out.trans (k8.below.mono hBw))
          have HR8 := hidden (M8.resize_ok N hl0 hLN (by show endR s.en N = true; rw [hen]; unfold endR; simp; omega))
          clear M8 k8 HR7
          go_wp2_with fail
          refine HR8.out.mono ?_
          rintro e w10 ⟨rfl, M10, k10⟩
          have HB10 := hidden (HB8.out.trans (k10.below.mono hBw))
          have hl8 : (zs.take 768 ++ zer8 (768 - zs.length)).length = 768 := ends_len zs 768
          have HRD := hidden (M10.read_ok (N - 4) 4 (by decide) (by omega) (by show N - 4 + 4 ≤ ((zs.take 768 ++ zer8 (768 - zs.length)).take N ++ zer8 (N - (zs.take 768 ++ zer8 (768 - zs.length)).length)).length; rw [ends_len]; omega))
          clear M10 k10 HR8
          by_cases h768 : N = 768
          · have hval : beV ((zs.take 768 ++ zer8 (768 - zs.length)).take N ++ zer8 (N - (zs.take 768 ++ zer8 (768 - zs.length)).length)) (N - 4) (4 : Nat) = (x : Int) := by
              have e1 : zs.take 768 = zs := List.take_of_length_le (by omega)
              have e2 : zer8 (768 - zs.length) = [] := by rw [show 768 - zs.length = 0 by omega]; rfl
              rw [e1, e2, List.append_nil, List.take_of_length_le (by omega), show N - zs.length = 0 by omega]
              rw [show zer8 0 = [] from rfl, List.append_nil]
              exact hbe
            simp only [hval] at HRD
            clear hval hbe
            have q1 : ((N : Int) == 768) = true := by rw [beq_iff_eq]; omega
            have H768 := hidden h768
            clear h768
            go_wp2_with (first | (go_at_call 13; refine (num9 _ _).mono ?_; rintro e w9 ⟨rfl, e9⟩; rw [e9]; clear e9) | (go_at_call 15; refine HRD.out.mono ?_; rintro e w9 ⟨rfl, e9⟩; rw [e9]; clear e9) | (go_at_call 9; refine (HL.out _ HB10.out).mono ?_; rintro e w11 ⟨rfl, hb11⟩) | fail)
            go_ret
            exact ⟨rfl, hb11⟩
          · have hval : beV ((zs.take 768 ++ zer8 (768 - zs.length)).take N ++ zer8 (N - (zs.take 768 ++ zer8 (768 - zs.length)).length)) (N - 4) (4 : Nat) = 0 := by
              rw [hl8]
              have h : ∀ i, 768 ≤ i → ((zs.take 768 ++ zer8 (768 - zs.length)).take N ++ zer8 (N - 768)).getD i 0 = 0 := fun i hi => by
                rw [List.take_of_length_le (by rw [hl8]; omega), List.getD_eq_getElem?_getD, List.getElem?_append_right (by rw [hl8]; omega)]
                simp only [zer8, List.getElem?_replicate]
                split <;> rfl
              unfold beV
              rw [if_neg (by decide), if_neg (by decide), h (N - 4) (by omega), h (N - 4 + 1) (by omega), h (N - 4 + 2) (by omega), h (N - 4 + 3) (by omega)]
              rfl
            simp only [hval] at HRD
            clear hval hbe
            have q1 : ((N : Int) == 768) = false := by rw [beq_eq_false_iff_ne]; omega
            have q2 : (N : Int) > 768 := by omega
            have q3 : (768 : Int) < (N : Int) := by omega
            go_wp2_with (first | (go_at_call 13; refine (num9 _ _).mono ?_; rintro e w9 ⟨rfl, e9⟩; rw [e9]; clear e9) | (go_at_call 15; refine HRD.out.mono ?_; rintro e w9 ⟨rfl, e9⟩; rw [e9]; clear e9) | (go_at_call 9; refine (HL.out _ HB10.out).mono ?_; rintro e w11 ⟨rfl, hb11⟩) | fail)
            go_ret
            exact ⟨rfl, hb11⟩
      · by_cases hcy : c2 = N
        · skip
          have o1 : (N : Int) ≤ (L : Int) := by omega
          skip
          have hmk : ∀ w, (Instr.makeSlice 28 (.int .i64 0) (.int .i64 0)).run Try.prog w = .ok (.slice (some ⟨w.heap.size, 0, none⟩) 0 0) (w.alloc (.cells #[] 5)) := fun w => mk8 .i64 0 (by omega) w
          have hba : Below w5.heap.size w5 ((w5.alloc (.cells #[] 5)).drew) := ⟨rfl, rfl, rfl, by simp, fun k hk => Go.heap_alloc_old _ _ hk⟩
          have hH1 := head_reads HO1.out N (by omega)
          have hH2 := head_reads HO2.out N (by omega)
          rw [take_ends s.bytes N N L hLs (by omega) (by omega)] at hH2
          have HSA1 := hidden (fun w1 (hb : Below w5.heap.size w5 w1) => same_eq (some ⟨g2, 0, none⟩) (some ⟨g1, 0, none⟩) N c2 N c1 (s.bytes.take N) w1 (fun c hc => HOKS.out c (List.mem_of_mem_take hc)) (hH2.later hb) (hH1.later hb))
          have HSA2 := hidden (same_eq (some ⟨g2, 0, none⟩) (some ⟨w5.heap.size, 0, none⟩) 0 (c2 - N) 0 0 [] ((w5.alloc (.cells #[] 5)).drew) (fun c hc => by cases hc) (reads_zero _ _ _) (reads_zero _ _ _))
          have HM6 := hidden (HM5.out.later hba)
          have HB6 := hidden (HB5.out.trans (hba.mono HB5.out.size))
          have hw0 : IntKind.i64.wrap 0 = 0 := by rw [IntKind.wrap_i64]; omega
          have p1 : N ≤ c1 := by omega
          have hmin : min (L : Int) (N : Int) = (N : Int) := by omega
          have p2 : N ≤ c2 := by omega
          have p3 : (N : Int) ≤ (N : Int) := by omega
          have p4 : N ≤ N := by omega
          skip
          skip
          clear hba hH1 hH2 HM5 HO1 HO2 hzl1 hzl2
          have hcT := eq_true hcy
          have HCY := hidden hcy; clear hcy
          go_wp2_with fail
          go_region_held3 (fun w' => True) (first | trivial) (first | (go_at_call 14; (with_reducible refine (HSA1.out _ HBD.out).mono ?_); rintro e w9 ⟨rfl, e9⟩; rw [e9]; clear e9) | (go_at_call 14; (with_reducible refine HSA2.out.mono ?_); rintro e w9 ⟨rfl, e9⟩; rw [e9]; clear e9) | fail)
          all_goals (try go_wp2_with fail)
          have HW := hidden (HM6.out.write_ok (N - 4) 4 x (by decide) (by omega) (by
            show chgR s.ram (s.bytes.take N ++ zer8 (N - L)).length (N - 4) 4 = true
            rw [hel, hram]; simp [chgR, hasR]; omega))
          clear HM6
          refine HW.out.mono ?_
          rintro e w7 ⟨rfl, M7, k7⟩
          have HB7 := hidden (HB6.out.trans (k7.below.mono hBw))
          have hl7 : (splice (s.bytes.take N ++ zer8 (N - L)) (N - 4) (putL x (4 : Nat))).length = N := by rw [splice_len _ _ _ (by rw [hel]; have : (putL x (4 : Nat)).length = 4 := rfl; omega), hel]
          have hbe := be_put (s.bytes.take N ++ zer8 (N - L)) (N - 4) 4 x (by decide) (by rw [hel]; omega) (by omega)
          rw [show (256 : Nat) ^ 4 = 4294967296 from rfl, Nat.mod_eq_of_lt (by omega)] at hbe
          generalize hZS : splice (s.bytes.take N ++ zer8 (N - L)) (N - 4) (putL x (4 : Nat)) = zs at *
          have HR7 := hidden (M7.resize_ok 768 hl0 (by decide) (by show endR s.en 768 = true; rw [hen]; rfl))
          clear M7 k7 HW hZS
          go_wp2_with fail
          refine HR7.out.mono ?_
          rintro e w8 ⟨rfl, M8, k8⟩
          have HB8 := hidden (HB7.out.trans (k8.below.mono hBw))
          have HR8 := hidden (M8.resize_ok N hl0 hLN (by show endR s.en N = true; rw [hen]; unfold endR; simp; omega))
          clear M8 k8 HR7
          go_wp2_with fail
          refine HR8.out.mono ?_
          rintro e w10 ⟨rfl, M10, k10⟩
          have HB10 := hidden (HB8.out.trans (k10.below.mono hBw))
          have hl8 : (zs.take 768 ++ zer8 (768 - zs.length)).length = 768 := ends_len zs 768
          have HRD := hidden (M10.read_ok (N - 4) 4 (by decide) (by omega) (by show N - 4 + 4 ≤ ((zs.take 768 ++ zer8 (768 - zs.length)).take N ++ zer8 (N - (zs.take 768 ++ zer8 (768 - zs.length)).length)).length; rw [ends_len]; omega))
          clear M10 k10 HR8
          by_cases h768 : N = 768
          · have hval : beV ((zs.take 768 ++ zer8 (768 - zs.length)).take N ++ zer8 (N - (zs.take 768 ++ zer8 (768 - zs.length)).length)) (N - 4) (4 : Nat) = (x : Int) := by
              have e1 : zs.take 768 = zs := List.take_of_length_le (by omega)
              have e2 : zer8 (768 - zs.length) = [] := by rw [show 768 - zs.length = 0 by omega]; rfl
              rw [e1, e2, List.append_nil, List.take_of_length_le (by omega), show N - zs.length = 0 by omega]
              rw [show zer8 0 = [] from rfl, List.append_nil]
              exact hbe
            simp only [hval] at HRD
            clear hval hbe
            have q1 : ((N : Int) == 768) = true := by rw [beq_iff_eq]; omega
            have H768 := hidden h768
            clear h768
            go_wp2_with (first | (go_at_call 13; refine (num9 _ _).mono ?_; rintro e w9 ⟨rfl, e9⟩; rw [e9]; clear e9) | (go_at_call 15; refine HRD.out.mono ?_; rintro e w9 ⟨rfl, e9⟩; rw [e9]; clear e9) | (go_at_call 9; refine (HL.out _ HB10.out).mono ?_; rintro e w11 ⟨rfl, hb11⟩) | fail)
            go_ret
            exact ⟨rfl, hb11⟩
          · have hval : beV ((zs.take 768 ++ zer8 (768 - zs.length)).take N ++ zer8 (N - (zs.take 768 ++ zer8 (768 - zs.length)).length)) (N - 4) (4 : Nat) = 0 := by
              rw [hl8]
              have h : ∀ i, 768 ≤ i → ((zs.take 768 ++ zer8 (768 - zs.length)).take N ++ zer8 (N - 768)).getD i 0 = 0 := fun i hi => by
                rw [List.take_of_length_le (by rw [hl8]; omega), List.getD_eq_getElem?_getD, List.getElem?_append_right (by rw [hl8]; omega)]
                simp only [zer8, List.getElem?_replicate]
                split <;> rfl
              unfold beV
              rw [if_neg (by decide), if_neg (by decide), h (N - 4) (by omega), h (N - 4 + 1) (by omega), h (N - 4 + 2) (by omega), h (N - 4 + 3) (by omega)]
              rfl
            simp only [hval] at HRD
            clear hval hbe
            have q1 : ((N : Int) == 768) = false := by rw [beq_eq_false_iff_ne]; omega
            have q2 : (N : Int) > 768 := by omega
            have q3 : (768 : Int) < (N : Int) := by omega
            go_wp2_with (first | (go_at_call 13; refine (num9 _ _).mono ?_; rintro e w9 ⟨rfl, e9⟩; rw [e9]; clear e9) | (go_at_call 15; refine HRD.out.mono ?_; rintro e w9 ⟨rfl, e9⟩; rw [e9]; clear e9) | (go_at_call 9; refine (HL.out _ HB10.out).mono ?_; rintro e w11 ⟨rfl, hb11⟩) | fail)
            go_ret
            exact ⟨rfl, hb11⟩
        · skip
          have o1 : (N : Int) ≤ (L : Int) := by omega
          skip
          have hmk : ∀ w, (Instr.makeSlice 28 (.int .i64 0) (.int .i64 0)).run Try.prog w = .ok (.slice (some ⟨w.heap.size, 0, none⟩) 0 0) (w.alloc (.cells #[] 5)) := fun w => mk8 .i64 0 (by omega) w
          have hba : Below w5.heap.size w5 ((w5.alloc (.cells #[] 5)).drew) := ⟨rfl, rfl, rfl, by simp, fun k hk => Go.heap_alloc_old _ _ hk⟩
          have hH1 := head_reads HO1.out N (by omega)
          have hH2 := head_reads HO2.out N (by omega)
          rw [take_ends s.bytes N N L hLs (by omega) (by omega)] at hH2
          have HSA1 := hidden (fun w1 (hb : Below w5.heap.size w5 w1) => same_eq (some ⟨g2, 0, none⟩) (some ⟨g1, 0, none⟩) N c2 N c1 (s.bytes.take N) w1 (fun c hc => HOKS.out c (List.mem_of_mem_take hc)) (hH2.later hb) (hH1.later hb))
          have HSA2 := hidden (same_eq (some ⟨g2, N, none⟩) (some ⟨w5.heap.size, 0, none⟩) 0 (c2 - N) 0 0 [] ((w5.alloc (.cells #[] 5)).drew) (fun c hc => by cases hc) (reads_zero _ _ _) (reads_zero _ _ _))
          have HM6 := hidden (HM5.out.later hba)
          have HB6 := hidden (HB5.out.trans (hba.mono HB5.out.size))
          have hw0 : IntKind.i64.wrap 0 = 0 := by rw [IntKind.wrap_i64]; omega
          have p1 : N ≤ c1 := by omega
          have hmin : min (L : Int) (N : Int) = (N : Int) := by omega
          have p2 : N ≤ c2 := by omega
          have p3 : (N : Int) ≤ (N : Int) := by omega
          have p4 : N ≤ N := by omega
          skip
          skip
          clear hba hH1 hH2 HM5 HO1 HO2 hzl1 hzl2
          skip
          skip
          go_wp2_with fail
          go_region_held3 (fun w' => True) (first | trivial) (first | (go_at_call 14; (with_reducible refine (HSA1.out _ HBD.out).mono ?_); rintro e w9 ⟨rfl, e9⟩; rw [e9]; clear e9) | (go_at_call 14; (with_reducible refine HSA2.out.mono ?_); rintro e w9 ⟨rfl, e9⟩; rw [e9]; clear e9) | fail)
          all_goals (try go_wp2_with fail)
          have HW := hidden (HM6.out.write_ok (N - 4) 4 x (by decide) (by omega) (by
            show chgR s.ram (s.bytes.take N ++ zer8 (N - L)).length (N - 4) 4 = true
            rw [hel, hram]; simp [chgR, hasR]; omega))
          clear HM6
          refine HW.out.mono ?_
          rintro e w7 ⟨rfl, M7, k7⟩
          have HB7 := hidden (HB6.out.trans (k7.below.mono hBw))
          have hl7 : (splice (s.bytes.take N ++ zer8 (N - L)) (N - 4) (putL x (4 : Nat))).length = N := by rw [splice_len _ _ _ (by rw [hel]; have : (putL x (4 : Nat)).length = 4 := rfl; omega), hel]
          have hbe := be_put (s.bytes.take N ++ zer8 (N - L)) (N - 4) 4 x (by decide) (by rw [hel]; omega) (by omega)
          rw [show (256 : Nat) ^ 4 = 4294967296 from rfl, Nat.mod_eq_of_lt (by omega)] at hbe
          generalize hZS : splice (s.bytes.take N ++ zer8 (N - L)) (N - 4) (putL x (4 : Nat)) = zs at *
          have HR7 := hidden (M7.resize_ok 768 hl0 (by decide) (by show endR s.en 768 = true; rw [hen]; rfl))
          clear M7 k7 HW hZS
          go_wp2_with fail
          refine HR7.out.mono ?_
          rintro e w8 ⟨rfl, M8, k8⟩
          have HB8 := hidden (HB7.out.trans (k8.below.mono hBw))
          have HR8 := hidden (M8.resize_ok N hl0 hLN (by show endR s.en N = true; rw [hen]; unfold endR; simp; omega))
          clear M8 k8 HR7
          go_wp2_with fail
          refine HR8.out.mono ?_
          rintro e w10 ⟨rfl, M10, k10⟩
          have HB10 := hidden (HB8.out.trans (k10.below.mono hBw))
          have hl8 : (zs.take 768 ++ zer8 (768 - zs.length)).length = 768 := ends_len zs 768
          have HRD := hidden (M10.read_ok (N - 4) 4 (by decide) (by omega) (by show N - 4 + 4 ≤ ((zs.take 768 ++ zer8 (768 - zs.length)).take N ++ zer8 (N - (zs.take 768 ++ zer8 (768 - zs.length)).length)).length; rw [ends_len]; omega))
          clear M10 k10 HR8
          by_cases h768 : N = 768
          · have hval : beV ((zs.take 768 ++ zer8 (768 - zs.length)).take N ++ zer8 (N - (zs.take 768 ++ zer8 (768 - zs.length)).length)) (N - 4) (4 : Nat) = (x : Int) := by
              have e1 : zs.take 768 = zs := List.take_of_length_le (by omega)
              have e2 : zer8 (768 - zs.length) = [] := by rw [show 768 - zs.length = 0 by omega]; rfl
              rw [e1, e2, List.append_nil, List.take_of_length_le (by omega), show N - zs.length = 0 by omega]
              rw [show zer8 0 = [] from rfl, List.append_nil]
              exact hbe
            simp only [hval] at HRD
            clear hval hbe
            have q1 : ((N : Int) == 768) = true := by rw [beq_iff_eq]; omega
            have H768 := hidden h768
            clear h768
            go_wp2_with (first | (go_at_call 13; refine (num9 _ _).mono ?_; rintro e w9 ⟨rfl, e9⟩; rw [e9]; clear e9) | (go_at_call 15; refine HRD.out.mono ?_; rintro e w9 ⟨rfl, e9⟩; rw [e9]; clear e9) | (go_at_call 9; refine (HL.out _ HB10.out).mono ?_; rintro e w11 ⟨rfl, hb11⟩) | fail)
            go_ret
            exact ⟨rfl, hb11⟩
          · have hval : beV ((zs.take 768 ++ zer8 (768 - zs.length)).take N ++ zer8 (N - (zs.take 768 ++ zer8 (768 - zs.length)).length)) (N - 4) (4 : Nat) = 0 := by
              rw [hl8]
              have h : ∀ i, 768 ≤ i → ((zs.take 768 ++ zer8 (768 - zs.length)).take N ++ zer8 (N - 768)).getD i 0 = 0 := fun i hi => by
                rw [List.take_of_length_le (by rw [hl8]; omega), List.getD_eq_getElem?_getD, List.getElem?_append_right (by rw [hl8]; omega)]
                simp only [zer8, List.getElem?_replicate]
                split <;> rfl
              unfold beV
              rw [if_neg (by decide), if_neg (by decide), h (N - 4) (by omega), h (N - 4 + 1) (by omega), h (N - 4 + 2) (by omega), h (N - 4 + 3) (by omega)]
              rfl
            simp only [hval] at HRD
            clear hval hbe
            have q1 : ((N : Int) == 768) = false := by rw [beq_eq_false_iff_ne]; omega
            have q2 : (N : Int) > 768 := by omega
            have q3 : (768 : Int) < (N : Int) := by omega
            go_wp2_with (first | (go_at_call 13; refine (num9 _ _).mono ?_; rintro e w9 ⟨rfl, e9⟩; rw [e9]; clear e9) | (go_at_call 15; refine HRD.out.mono ?_; rintro e w9 ⟨rfl, e9⟩; rw [e9]; clear e9) | (go_at_call 9; refine (HL.out _ HB10.out).mono ?_; rintro e w11 ⟨rfl, hb11⟩) | fail)
            go_ret
            exact ⟨rfl, hb11⟩
end Go.Proofs.Ytmebjbnglndfcaa
