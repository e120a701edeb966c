/- The document's Malloc. -/
import Derived.Test.YthdbaiddmelhgaaE9c
namespace Go.Proofs.Ythdbaiddmelhgaa
open Go.RowKit
set_option maxHeartbeats 1000000
set_option maxRecDepth 100000
set_option linter.unusedVariables false

theorem two_new (w : World) (a b : Value) : ∀ j u, [a, b][j]? = some u → (w.alloc (.cells #[a, b] 40)).cell? ((⟨w.heap.size, 0, none⟩ : Addr).add j) = some u := by
  intro j u hj
  rw [Addr.add_lit, Nat.zero_add, World.cell?_alloc_at _ _ _ _ rfl]
  simpa using hj
theorem dmal_zero (B d : Nat) (u : Value) (t : Hs) (n x : Nat) (w : World) (hp : DpAt B w d u t) (hn : n = 0) :
    Calls Try.prog 17 #[.pointer (some ⟨d, 0, none⟩), .int .u32 n, .int .u32 x] w fun e w' => e = .returned (.tuple #[.int .u32 0, .bool false]) ∧ w' = w := by
  subst hn
  clear hp
  go_enter Try.func17, Try.ntmps17
  go_wp2
  go_ret2
  exact ⟨rfl, rfl⟩
theorem dmal_many (B d : Nat) (u : Value) (t : Hs) (n x : Nat) (w : World) (hp : DpAt B w d u t) (hn : n ≠ 0) (hl : 4096 ≤ t.bs.length) :
    Calls Try.prog 17 #[.pointer (some ⟨d, 0, none⟩), .int .u32 n, .int .u32 x] w fun e w' => e = .returned (.tuple #[.int .u32 0, .bool false]) ∧ w' = w := by
  obtain ⟨ao, c, rfl⟩ := own_slice2 hp.2.2
  have h3 := hp.cells.2.2.2.1
  clear hp
  generalize t.bs.length = nb at *
  have c1 : ¬ (n : Int) = 0 := by omega
  have c2 : (4096 : Int) ≤ (nb : Int) := by omega
  go_enter Try.func17, Try.ntmps17
  go_wp2
  go_ret2
  exact ⟨rfl, rfl⟩
theorem dmal_bad0 (B d : Nat) (u : Value) (t : Hs) (n x : Nat) (w : World) (hp : DpAt B w d u t) (hn : n ≠ 0) (hl : t.bs.length = 0) (hx : x < 4294967296)  (hc : x = 0) :
    Calls Try.prog 17 #[.pointer (some ⟨d, 0, none⟩), .int .u32 n, .int .u32 x] w fun e w' => e = .returned (.tuple #[.int .u32 0, .bool false]) ∧ Below w.heap.size w w' := by
  obtain ⟨ao, c, rfl⟩ := own_slice2 hp.2.2
  obtain ⟨h0, h1, h2, h3, h4⟩ := hp.cells
  clear hp h4
  rw [hl] at h3
  clear hl
  generalize t.most = m at *
  generalize t.start = ss at *
  generalize t.en = se at *
  have c1 : ¬ (n : Int) = 0 := by omega
  obtain ⟨q, hq⟩ : ∃ q, q = x % 256 := ⟨_, rfl⟩
  have hxq : (x : Int).tmod 256 = (q : Int) := by rw [Int.tmod_eq_emod_of_nonneg (by omega)]; omega
  have hq2 : q < 256 := by omega
  have d0 : ((x : Int) == 0) = true := by rw [beq_iff_eq]; omega
  clear hq hc 
  go_enter Try.func17, Try.ntmps17
  go_wp2_with fail
  go_region
  go_wp2
  go_ret2
  exact ⟨rfl, (Below.refl _ _).drew⟩
theorem dmal_bad1 (B d : Nat) (u : Value) (t : Hs) (n x : Nat) (w : World) (hp : DpAt B w d u t) (hn : n ≠ 0) (hl : t.bs.length = 0) (hx : x < 4294967296) (g0 : x ≠ 0) (hc : x % 256 ≠ 0) :
    Calls Try.prog 17 #[.pointer (some ⟨d, 0, none⟩), .int .u32 n, .int .u32 x] w fun e w' => e = .returned (.tuple #[.int .u32 0, .bool false]) ∧ Below w.heap.size w w' := by
  obtain ⟨ao, c, rfl⟩ := own_slice2 hp.2.2
  obtain ⟨h0, h1, h2, h3, h4⟩ := hp.cells
  clear hp h4
  rw [hl] at h3
  clear hl
  generalize t.most = m at *
  generalize t.start = ss at *
  generalize t.en = se at *
  have c1 : ¬ (n : Int) = 0 := by omega
  obtain ⟨q, hq⟩ : ∃ q, q = x % 256 := ⟨_, rfl⟩
  have hxq : (x : Int).tmod 256 = (q : Int) := by rw [Int.tmod_eq_emod_of_nonneg (by omega)]; omega
  have hq2 : q < 256 := by omega
  have d0 : ((x : Int) == 0) = false := by rw [beq_eq_false_iff_ne]; omega
  have d1 : ¬ (q : Int) = 0 := by omega
  clear hq hc g0
  go_enter Try.func17, Try.ntmps17
  go_wp2_with fail
  go_region
  go_wp2
  go_ret2
  exact ⟨rfl, (Below.refl _ _).drew⟩
theorem dmal_bad2 (B d : Nat) (u : Value) (t : Hs) (n x : Nat) (w : World) (hp : DpAt B w d u t) (hn : n ≠ 0) (hl : t.bs.length = 0) (hx : x < 4294967296) (g0 : x ≠ 0) (g1 : x % 256 = 0) (hc : t.most < x) :
    Calls Try.prog 17 #[.pointer (some ⟨d, 0, none⟩), .int .u32 n, .int .u32 x] w fun e w' => e = .returned (.tuple #[.int .u32 0, .bool false]) ∧ Below w.heap.size w w' := by
  obtain ⟨ao, c, rfl⟩ := own_slice2 hp.2.2
  obtain ⟨h0, h1, h2, h3, h4⟩ := hp.cells
  clear hp h4
  rw [hl] at h3
  clear hl
  generalize t.most = m at *
  generalize t.start = ss at *
  generalize t.en = se at *
  have c1 : ¬ (n : Int) = 0 := by omega
  obtain ⟨q, hq⟩ : ∃ q, q = x % 256 := ⟨_, rfl⟩
  have hxq : (x : Int).tmod 256 = (q : Int) := by rw [Int.tmod_eq_emod_of_nonneg (by omega)]; omega
  have hq2 : q < 256 := by omega
  have d0 : ((x : Int) == 0) = false := by rw [beq_eq_false_iff_ne]; omega
  have d1 : (q : Int) = 0 := by omega
  have d2 : (m : Int) < (x : Int) := by omega
  clear hq hc g0 g1
  go_enter Try.func17, Try.ntmps17
  go_wp2_with fail
  go_region
  go_wp2
  go_ret2
  exact ⟨rfl, (Below.refl _ _).drew⟩
set_option maxHeartbeats 8000000 in
theorem dmal_new (B d : Nat) (u : Value) (t : Hs) (n x P : Nat) (w : World) (hp : DpAt B w d u t) (hB : B ≤ w.heap.size) (hn : n ≠ 0) (hl : t.bs.length = 0) (hx0 : x ≠ 0) (hx1 : x % 256 = 0) (hx2 : x ≤ t.most) (hl2 : t.bs.length < 4096) (hx : x < 4294967296) (hm : t.most < 4294967296) (hen2 : x < 4294967296) (hst2 : x < 4294967296) (hP : P < 4294967296) (hn2 : n < 4294967296) (hf : FitB t.bs)
    (hcand : P = x ∨ ∃ b ∈ t.bs, P = b.a + b.l) (hfree : freeAt t.bs P n = true) (hleast : ∀ c, (c = x ∨ ∃ b ∈ t.bs, c = b.a + b.l) → freeAt t.bs c n = true → P ≤ c) :
    Calls Try.prog 17 #[.pointer (some ⟨d, 0, none⟩), .int .u32 n, .int .u32 x] w fun e w' => DMRet B w w' d u t n P x x e := by
  obtain ⟨cands, hcs⟩ : ∃ cands : List Nat, cands = x :: t.bs.map (fun b => b.a + b.l) := ⟨_, rfl⟩
  have hmem : ∀ c, c ∈ cands ↔ (c = x ∨ ∃ b ∈ t.bs, c = b.a + b.l) := fun c => by
    rw [hcs]; simp only [List.mem_cons, List.mem_map]
    constructor
    · rintro (h | ⟨b, hb, rfl⟩)
      · exact .inl h
      · exact .inr ⟨b, hb, rfl⟩
    · rintro (h | ⟨b, hb, rfl⟩)
      · exact .inl h
      · exact .inr ⟨b, hb, rfl⟩
  have HTK : Hid (∀ j C, cands[j]? = some C → P ∈ cands.take (j + 1) → P ∉ cands.take j → P = C) := fun j C hC h1 h2 => by
    rw [List.take_add_one, hC] at h1
    rcases List.mem_append.1 h1 with h | h
    · exact absurd h h2
    · simpa using h
  have HLE : Hid (∀ j C, cands[j]? = some C → freeAt t.bs C n = true → P ≤ C) := fun j C hC hfa => hleast C ((hmem C).1 (List.mem_of_getElem? hC)) hfa
  have HNO : Hid (∀ C, freeAt t.bs C n = false → P ≠ C) := fun C hfa e => by rw [← e, hfree] at hfa; cases hfa
  have HALL : Hid (P ∈ cands.take (t.bs.length + 1)) := by
    rw [List.take_of_length_le (by rw [hcs]; simp)]
    exact (hmem P).2 hcand
  have HCN : Hid (∀ k (h : k < t.bs.length), cands[k + 1]? = some (t.bs[k].a + t.bs[k].l)) := fun k h => by rw [hcs]; simp [h]
  have HC0 : Hid (cands[0]? = some x) := by rw [hcs]; rfl
  clear hmem hcs hcand hfree hleast
  obtain ⟨ao, c, rfl⟩ := own_slice2 hp.2.2
  obtain ⟨h0, h1, h2, h3, h4⟩ := hp.cells
  have hnc : t.bs.length ≤ c := (own_bks hp.2.2).2.1
  have HCL : Hid (∀ w1, Below w.heap.size w w1 → w1.cell? ⟨d, 0, none⟩ = some (.int .i64 t.most) ∧ w1.cell? ⟨d, 1, none⟩ = some (.int .i64 t.start) ∧ w1.cell? ⟨d, 2, none⟩ = some (.int .i64 t.en) ∧ w1.cell? ⟨d, 3, none⟩ = some (.slice ao t.bs.length c) ∧ w1.frozen? ⟨d, 1, none⟩ = false ∧ w1.frozen? ⟨d, 2, none⟩ = false ∧ d < w1.heap.size) := fun w1 hb1 => by
    have hq := hp.later hb1
    have hc := hq.cells
    exact ⟨hc.1, hc.2.1, hc.2.2.1, hc.2.2.2.1, hc.2.2.2.2 1, hc.2.2.2.2 2, (Array.getElem?_eq_some_iff.1 hq.2.1).1⟩
  have HO := hidden hp.2.2
  have HF := hidden hf
  have HFRE : Hid (∀ (C : Nat) w1, C < 8589934592 → Below w.heap.size w w1 → Calls Try.prog 30 #[.pointer (some ⟨d, 0, none⟩), .int .i64 C, .int .i64 n] w1 fun e w' => e = .returned (.bool (freeAt t.bs C n)) ∧ Below w1.heap.size w1 w') := fun C w1 hC hb1 => dfree_any B d _ t C n w1 (hp.later hb1) (by omega) hf hC hn2
  have HPUT : Hid (∀ (wr w2 : World) (v2 : Value) (X Y : Nat), Below w.heap.size w wr → ((wr.setCell ⟨d, 1, none⟩ (.int .i64 (X : Nat))).setCell ⟨d, 2, none⟩ (.int .i64 (Y : Nat))).grownBy w2 none → w2.ownsRow w.heap.size 40 2 v2 (t.bs ++ [(⟨P, n⟩ : Bk)]).length (bksV (t.bs ++ [(⟨P, n⟩ : Bk)])) → w2.cell? ⟨d, 3, none⟩ = some (.slice ao t.bs.length c) ∧ w2.frozen? ⟨d, 3, none⟩ = false ∧ Hid (LeftD B w (w2.setCell ⟨d, 3, none⟩ v2) d (.slice ao t.bs.length c) ⟨t.most, X, Y, t.bs ++ [⟨P, n⟩]⟩)) := fun wr w2 v2 X Y hb hg ho => dp_new hp hB hb X Y hg ho
  have HSAME := hidden fun w1 (hb1 : Below w.heap.size w w1) => LeftD.same hp hb1
  have HBR : Hid (∀ (wr : World) (X Y : Nat), Below w.heap.size w wr → Bks (((wr.setCell ⟨d, 1, none⟩ (.int .i64 (X : Int))).setCell ⟨d, 2, none⟩ (.int .i64 (Y : Int))).alloc (.cells #[] 40)) ao t.bs.length c t.bs) := fun wr X Y hb1 => own_bks ((dp_set2 (hp.later hb1) X Y).later ((Below.refl _ _).alloc (Nat.le_refl _) _)).2.2
  clear hp hf h4
  have d0 : ((x : Int) == 0) = false := by rw [beq_eq_false_iff_ne]; omega
  have d1 : (x : Int).tmod 256 = 0 := by rw [Int.tmod_eq_emod_of_nonneg (by omega)]; omega
  have d2 : ¬ (t.most : Int) < (x : Int) := by omega
  have d3 : ((t.bs.length : Int) == 0) = true := by rw [beq_iff_eq]; omega
  have HX := hidden (And.intro hx0 (And.intro hx1 hl))
  clear hx0 hx1 hl
  have c1 : ¬ (n : Int) = 0 := by omega
  have c2 : ¬ (4096 : Int) ≤ (t.bs.length : Int) := by omega
  go_enter Try.func17, Try.ntmps17
  go_wp2_with fail
  go_region
  go_upto_region 8 with fail
  go_cut [8, 9, 10] from 13 to 56 (fun s8 s9 s10 wx => s8 = .int .i64 x ∧ s9 = .int .i64 x ∧ s10 = .int .i64 (-1) ∧ Below w.heap.size w wx)
  case first =>
    go_wp2_with fail
    go_meet
    exact ⟨rfl, rfl, rfl, (Below.refl _ _).drew⟩
  case rest =>
    obtain ⟨rfl, rfl, rfl, hbc⟩ := hcut
    clear h0 h1 h2 h3
    obtain ⟨h0, h1, h2, h3, h5, h6, h7⟩ := HCL.out _ hbc
    go_wp2
    go_loopw [10, 11] (fun a10 i wr => ∃ j : Nat, j ≤ t.bs.length + 1 ∧ i = .int .i64 ((j : Int) - 1) ∧ Below w.heap.size w wr ∧ ((a10 = .int .i64 (-1) ∧ Hid (P ∉ cands.take j)) ∨ (∃ q : Nat, a10 = .int .i64 q ∧ P ≤ q ∧ q < 8589934592 ∧ Hid (P ∈ cands.take j → q = P)))) (fun _ i _ => t.bs.length + 1 - (intOf i + 1).toNat)
    case atStart => exact ⟨0, by omega, rfl, hbc, .inl ⟨rfl, hidden (by simp)⟩⟩
    case round =>
      obtain ⟨j, hj, rfl, hb, hat⟩ := hrel
      have HBD : Hid (∀ k, Below w.heap.size w (wr.drewN k)) := fun k => ⟨hb.os, hb.tape, hb.output, hb.size, hb.block⟩
      obtain ⟨k0, k1, k2, k3, k4, k5, k6⟩ := HCL.out _ hb
      by_cases hjn : j ≤ t.bs.length
      · by_cases hj0 : j = 0
        · subst hj0
          have HCC := HC0
          have hC2 : x < 8589934592 := by omega
          have HFR := hidden fun w1 hb1 => HFRE.out x w1 hC2 hb1
          have e1 : ((0 : Nat) : Int) - 1 = -1 := by omega
          rw [e1]
          have dk : (-1 : Int) < (t.bs.length : Int) := by omega
          rcases hat with ⟨rfl, HA⟩ | ⟨q, rfl, hq1, hq2, HA⟩
          · by_cases hfa : freeAt t.bs x n = true
            · have HNEW : Hid (P ∈ cands.take (0 + 1) → x = P) := fun hm => (HTK.out _ _ HCC.out hm HA.out).symm
              have hPC := HLE.out _ _ HCC.out hfa
              have HFR0 : Hid (∀ w1, Below w.heap.size w w1 → Calls Try.prog 30 #[.pointer (some ⟨d, 0, none⟩), .int .i64 x, .int .i64 n] w1 fun e w' => e = .returned (.bool true) ∧ Below w.heap.size w w') := fun w1 hb1 => by
                have := HFR.out w1 hb1
                rw [hfa] at this
                exact this.mono (fun e w' hh => ⟨hh.1, hb1.trans (hh.2.mono hb1.size)⟩)
              clear HFR
              go_wp2_with (first | (go_at_call 30; (first | (refine (HFR0.out _ (HBD.out _)).mono ?_) | (refine (HFR0.out _ hb).mono ?_)); rintro e w9 ⟨rfl, hb9⟩))
              go_roundw
              case rel => exact ⟨0 + 1, by omega, int_eq (by omega), hb9, .inr ⟨x, rfl, hPC, hC2, HNEW⟩⟩
              case measure => first | (simp [intOf]; done) | (simp [intOf]; omega)
            · replace hfa : freeAt t.bs x n = false := by simpa using hfa
              have HNEW : Hid (P ∉ cands.take (0 + 1)) := fun hm => HNO.out _ hfa (HTK.out _ _ HCC.out hm HA.out)
              have HFR0 : Hid (∀ w1, Below w.heap.size w w1 → Calls Try.prog 30 #[.pointer (some ⟨d, 0, none⟩), .int .i64 x, .int .i64 n] w1 fun e w' => e = .returned (.bool false) ∧ Below w.heap.size w w') := fun w1 hb1 => by
                have := HFR.out w1 hb1
                rw [hfa] at this
                exact this.mono (fun e w' hh => ⟨hh.1, hb1.trans (hh.2.mono hb1.size)⟩)
              clear HFR
              go_wp2_with (first | (go_at_call 30; (first | (refine (HFR0.out _ (HBD.out _)).mono ?_) | (refine (HFR0.out _ hb).mono ?_)); rintro e w9 ⟨rfl, hb9⟩))
              go_roundw
              case rel => exact ⟨0 + 1, by omega, int_eq (by omega), hb9, .inl ⟨rfl, HNEW⟩⟩
              case measure => first | (simp [intOf]; done) | (simp [intOf]; omega)
          · have dq : ¬ (q : Int) < 0 := by omega
            by_cases hcq : x < q
            · have dc : ((x : Nat) : Int) < (q : Int) := by omega
              by_cases hfa : freeAt t.bs x n = true
              · have hPC := HLE.out _ _ HCC.out hfa
                have HNEW : Hid (P ∈ cands.take (0 + 1) → x = P) := fun hm => by
                  by_cases hin : P ∈ cands.take (0)
                  · have := HA.out hin; omega
                  · exact (HTK.out _ _ HCC.out hm hin).symm
                have HFR0 : Hid (∀ w1, Below w.heap.size w w1 → Calls Try.prog 30 #[.pointer (some ⟨d, 0, none⟩), .int .i64 x, .int .i64 n] w1 fun e w' => e = .returned (.bool true) ∧ Below w.heap.size w w') := fun w1 hb1 => by
                  have := HFR.out w1 hb1
                  rw [hfa] at this
                  exact this.mono (fun e w' hh => ⟨hh.1, hb1.trans (hh.2.mono hb1.size)⟩)
                clear HFR
                go_wp2_with (first | (go_at_call 30; (first | (refine (HFR0.out _ (HBD.out _)).mono ?_) | (refine (HFR0.out _ hb).mono ?_)); rintro e w9 ⟨rfl, hb9⟩))
                go_roundw
                case rel => exact ⟨0 + 1, by omega, int_eq (by omega), hb9, .inr ⟨x, rfl, hPC, hC2, HNEW⟩⟩
                case measure => first | (simp [intOf]; done) | (simp [intOf]; omega)
              · replace hfa : freeAt t.bs x n = false := by simpa using hfa
                have HNEW : Hid (P ∈ cands.take (0 + 1) → q = P) := fun hm => by
                  by_cases hin : P ∈ cands.take (0)
                  · exact HA.out hin
                  · exact absurd (HTK.out _ _ HCC.out hm hin) (HNO.out _ hfa)
                have HFR0 : Hid (∀ w1, Below w.heap.size w w1 → Calls Try.prog 30 #[.pointer (some ⟨d, 0, none⟩), .int .i64 x, .int .i64 n] w1 fun e w' => e = .returned (.bool false) ∧ Below w.heap.size w w') := fun w1 hb1 => by
                  have := HFR.out w1 hb1
                  rw [hfa] at this
                  exact this.mono (fun e w' hh => ⟨hh.1, hb1.trans (hh.2.mono hb1.size)⟩)
                clear HFR
                go_wp2_with (first | (go_at_call 30; (first | (refine (HFR0.out _ (HBD.out _)).mono ?_) | (refine (HFR0.out _ hb).mono ?_)); rintro e w9 ⟨rfl, hb9⟩))
                go_roundw
                case rel => exact ⟨0 + 1, by omega, int_eq (by omega), hb9, .inr ⟨q, rfl, hq1, hq2, HNEW⟩⟩
                case measure => first | (simp [intOf]; done) | (simp [intOf]; omega)
            · have dc : ¬ ((x : Nat) : Int) < (q : Int) := by omega
              have HNEW : Hid (P ∈ cands.take (0 + 1) → q = P) := fun hm => by
                by_cases hin : P ∈ cands.take (0)
                · exact HA.out hin
                · have e := HTK.out _ _ HCC.out hm hin
                  omega
              clear HFR
              go_wp2
              go_roundw
              case rel => exact ⟨0 + 1, by omega, int_eq (by omega), ⟨hb.os, hb.tape, hb.output, hb.size, hb.block⟩, .inr ⟨q, rfl, hq1, hq2, HNEW⟩⟩
              case measure => first | (simp [intOf]; done) | (simp [intOf]; omega)
        · obtain ⟨k, rfl⟩ : ∃ k, j = k + 1 := ⟨j - 1, by omega⟩
          have hkl : k < t.bs.length := by omega
          obtain ⟨g, rfl, hcells⟩ := own_cells HO.out (by omega)
          have ha := cellLater hb (hcells k hkl).1
          have hl' := cellLater hb (hcells k hkl).2
          have hfit := HF.out t.bs[k] (List.getElem_mem hkl)
          have hcc := HCN.out k hkl
          clear hcells
          generalize t.bs[k] = bb at *
          obtain ⟨ba, bl⟩ := bb
          simp only at ha hl' hfit hcc
          obtain ⟨C, hC⟩ : ∃ C, C = ba + bl := ⟨_, rfl⟩
          have hC2 : C < 8589934592 := by omega
          have HCC : Hid (cands[k + 1]? = some C) := by rw [hC]; exact hcc
          have e1 : ((k + 1 : Nat) : Int) - 1 = (k : Int) := by omega
          rw [e1]
          have hsum : (ba : Int) + (bl : Int) = (C : Int) := by omega
          clear hcc hC
          have dk : (0 : Int) ≤ (k : Int) := by omega
          have dk2 : (k : Int) < (t.bs.length : Int) := by omega
          have HFR := hidden fun w1 hb1 => HFRE.out C w1 hC2 hb1
          rcases hat with ⟨rfl, HA⟩ | ⟨q, rfl, hq1, hq2, HA⟩
          · by_cases hfa : freeAt t.bs C n = true
            · have HNEW : Hid (P ∈ cands.take (k + 1 + 1) → C = P) := fun hm => (HTK.out _ _ HCC.out hm HA.out).symm
              have hPC := HLE.out _ _ HCC.out hfa
              have HFR0 : Hid (∀ w1, Below w.heap.size w w1 → Calls Try.prog 30 #[.pointer (some ⟨d, 0, none⟩), .int .i64 C, .int .i64 n] w1 fun e w' => e = .returned (.bool true) ∧ Below w.heap.size w w') := fun w1 hb1 => by
                have := HFR.out w1 hb1
                rw [hfa] at this
                exact this.mono (fun e w' hh => ⟨hh.1, hb1.trans (hh.2.mono hb1.size)⟩)
              clear HFR
              go_wp2_with fail
              go_quiet (fail)
              go_wp2_with (first | (go_at_call 30; (first | (refine (HFR0.out _ (HBD.out _)).mono ?_) | (refine (HFR0.out _ hb).mono ?_)); rintro e w9 ⟨rfl, hb9⟩))
              go_roundw
              case rel => exact ⟨k + 1 + 1, by omega, int_eq (by omega), hb9, .inr ⟨C, rfl, hPC, hC2, HNEW⟩⟩
              case measure => first | (simp [intOf]; done) | (simp [intOf]; omega)
            · replace hfa : freeAt t.bs C n = false := by simpa using hfa
              have HNEW : Hid (P ∉ cands.take (k + 1 + 1)) := fun hm => HNO.out _ hfa (HTK.out _ _ HCC.out hm HA.out)
              have HFR0 : Hid (∀ w1, Below w.heap.size w w1 → Calls Try.prog 30 #[.pointer (some ⟨d, 0, none⟩), .int .i64 C, .int .i64 n] w1 fun e w' => e = .returned (.bool false) ∧ Below w.heap.size w w') := fun w1 hb1 => by
                have := HFR.out w1 hb1
                rw [hfa] at this
                exact this.mono (fun e w' hh => ⟨hh.1, hb1.trans (hh.2.mono hb1.size)⟩)
              clear HFR
              go_wp2_with fail
              go_quiet (fail)
              go_wp2_with (first | (go_at_call 30; (first | (refine (HFR0.out _ (HBD.out _)).mono ?_) | (refine (HFR0.out _ hb).mono ?_)); rintro e w9 ⟨rfl, hb9⟩))
              go_roundw
              case rel => exact ⟨k + 1 + 1, by omega, int_eq (by omega), hb9, .inl ⟨rfl, HNEW⟩⟩
              case measure => first | (simp [intOf]; done) | (simp [intOf]; omega)
          · have dq : ¬ (q : Int) < 0 := by omega
            by_cases hcq : C < q
            · have dc : ((C : Nat) : Int) < (q : Int) := by omega
              by_cases hfa : freeAt t.bs C n = true
              · have hPC := HLE.out _ _ HCC.out hfa
                have HNEW : Hid (P ∈ cands.take (k + 1 + 1) → C = P) := fun hm => by
                  by_cases hin : P ∈ cands.take (k + 1)
                  · have := HA.out hin; omega
                  · exact (HTK.out _ _ HCC.out hm hin).symm
                have HFR0 : Hid (∀ w1, Below w.heap.size w w1 → Calls Try.prog 30 #[.pointer (some ⟨d, 0, none⟩), .int .i64 C, .int .i64 n] w1 fun e w' => e = .returned (.bool true) ∧ Below w.heap.size w w') := fun w1 hb1 => by
                  have := HFR.out w1 hb1
                  rw [hfa] at this
                  exact this.mono (fun e w' hh => ⟨hh.1, hb1.trans (hh.2.mono hb1.size)⟩)
                clear HFR
                go_wp2_with fail
                go_quiet (fail)
                go_wp2_with (first | (go_at_call 30; (first | (refine (HFR0.out _ (HBD.out _)).mono ?_) | (refine (HFR0.out _ hb).mono ?_)); rintro e w9 ⟨rfl, hb9⟩))
                go_roundw
                case rel => exact ⟨k + 1 + 1, by omega, int_eq (by omega), hb9, .inr ⟨C, rfl, hPC, hC2, HNEW⟩⟩
                case measure => first | (simp [intOf]; done) | (simp [intOf]; omega)
              · replace hfa : freeAt t.bs C n = false := by simpa using hfa
                have HNEW : Hid (P ∈ cands.take (k + 1 + 1) → q = P) := fun hm => by
                  by_cases hin : P ∈ cands.take (k + 1)
                  · exact HA.out hin
                  · exact absurd (HTK.out _ _ HCC.out hm hin) (HNO.out _ hfa)
                have HFR0 : Hid (∀ w1, Below w.heap.size w w1 → Calls Try.prog 30 #[.pointer (some ⟨d, 0, none⟩), .int .i64 C, .int .i64 n] w1 fun e w' => e = .returned (.bool false) ∧ Below w.heap.size w w') := fun w1 hb1 => by
                  have := HFR.out w1 hb1
                  rw [hfa] at this
                  exact this.mono (fun e w' hh => ⟨hh.1, hb1.trans (hh.2.mono hb1.size)⟩)
                clear HFR
                go_wp2_with fail
                go_quiet (fail)
                go_wp2_with (first | (go_at_call 30; (first | (refine (HFR0.out _ (HBD.out _)).mono ?_) | (refine (HFR0.out _ hb).mono ?_)); rintro e w9 ⟨rfl, hb9⟩))
                go_roundw
                case rel => exact ⟨k + 1 + 1, by omega, int_eq (by omega), hb9, .inr ⟨q, rfl, hq1, hq2, HNEW⟩⟩
                case measure => first | (simp [intOf]; done) | (simp [intOf]; omega)
            · have dc : ¬ ((C : Nat) : Int) < (q : Int) := by omega
              have HNEW : Hid (P ∈ cands.take (k + 1 + 1) → q = P) := fun hm => by
                by_cases hin : P ∈ cands.take (k + 1)
                · exact HA.out hin
                · have e := HTK.out _ _ HCC.out hm hin
                  omega
              clear HFR
              go_wp2_with fail
              go_quiet (fail)
              go_wp2
              go_roundw
              case rel => exact ⟨k + 1 + 1, by omega, int_eq (by omega), ⟨hb.os, hb.tape, hb.output, hb.size, hb.block⟩, .inr ⟨q, rfl, hq1, hq2, HNEW⟩⟩
              case measure => first | (simp [intOf]; done) | (simp [intOf]; omega)
      · obtain rfl : j = t.bs.length + 1 := by omega
        obtain ⟨q, rfl, hq1, hq2, HA⟩ : ∃ q : Nat, u10 = .int .i64 q ∧ P ≤ q ∧ q < 8589934592 ∧ Hid (P ∈ cands.take (t.bs.length + 1) → q = P) := by
          rcases hat with ⟨rfl, HA⟩ | h
          · exact absurd (HALL.out) HA.out
          · exact h
        have hqP := HA.out HALL.out
        obtain rfl : P = q := hqP.symm
        have e1 : ((t.bs.length + 1 : Nat) : Int) - 1 = (t.bs.length : Int) := by omega
        rw [e1]
        clear HA hat HTK HLE HNO HALL HCN HC0 HFRE hq1 hq2
        have f0 : ¬ (t.bs.length : Int) < (t.bs.length : Int) := by omega
        have HAPP : Hid (∀ X Y w1 v1 w2 v2, (((wr.setCell ⟨d, 1, none⟩ (.int .i64 ((X : Nat) : Int))).setCell ⟨d, 2, none⟩ (.int .i64 ((Y : Nat) : Int))).alloc (.cells #[] 40)).grownBy w1 (Value.slice (some ⟨wr.heap.size, 0, none⟩) 0 0).ownBlock → w1.ownsRow wr.heap.size 40 2 v1 t.bs.length (bksV t.bs) → (w1.alloc (.cells #[.int .u32 P, .int .u32 n] 40)).grownBy w2 v1.ownBlock → w2.ownsRow wr.heap.size 40 2 v2 (t.bs.length + 1) (bksV t.bs ++ [.int .u32 P, .int .u32 n]) → w2.cell? ⟨d, 3, none⟩ = some (.slice ao t.bs.length c) ∧ w2.frozen? ⟨d, 3, none⟩ = false ∧ Hid (LeftD B w (w2.setCell ⟨d, 3, none⟩ v2) d (.slice ao t.bs.length c) ⟨t.most, X, Y, t.bs ++ [⟨P, n⟩]⟩)) := fun X Y w1 v1 w2 v2 g1 o1 g2 o2 => by
          have hsz : ((wr.setCell ⟨d, 1, none⟩ (.int .i64 ((X : Nat) : Int))).setCell ⟨d, 2, none⟩ (.int .i64 ((Y : Nat) : Int))).heap.size = wr.heap.size := by simp
          have := app_two (w := w) (wS := (wr.setCell ⟨d, 1, none⟩ (.int .i64 ((X : Nat) : Int))).setCell ⟨d, 2, none⟩ (.int .i64 ((Y : Nat) : Int))) (by rw [hsz]; exact g1) (by rw [hsz]; exact o1) g2 (by rw [hsz]; exact o2) rfl (by rw [hsz]; exact hb.size)
          exact HPUT.out wr w2 v2 X Y hb this.1 this.2
        have HMAD : Hid (∀ X Y : Nat, (((wr.setCell ⟨d, 1, none⟩ (.int .i64 (X : Int))).setCell ⟨d, 2, none⟩ (.int .i64 (Y : Int))).alloc (.cells #[] 40)).ownsRow wr.heap.size 40 2 (.slice (some ⟨wr.heap.size, 0, none⟩) 0 0) 0 []) := fun X Y => by
          have := World.ownsRow_made (base := wr.heap.size) (e := 40) (size := 2) ((wr.setCell ⟨d, 1, none⟩ (.int .i64 (X : Int))).setCell ⟨d, 2, none⟩ (.int .i64 (Y : Int))) #[] 0 (by simp) (Nat.zero_le _) (by simp)
          simpa using this
        obtain ⟨i0, hi, hz0, hz1, hz2⟩ := bk_parts
        have hPu : IntKind.u32.wrap (P : Int) = (P : Int) := by rw [IntKind.wrap_u32]; omega
        have hwz := hb.size
        by_cases z1 : P + n ≤ x
        · have f1 : ¬ ((x : Nat) : Int) < (P : Int) + (n : Int) := by omega
          go_wp2_with (first | (at_builtin; refine wpList_append_bks rfl (.tmp 136) (.tmp 140) rfl wr.heap.size (.slice (some ⟨wr.heap.size, 0, none⟩) 0 0) 0 [] rfl (HMAD.out x x) ao t.bs.length c t.bs rfl (HBR.out wr x x hb) (by omega) (by simp) ?_; intro v1 w1 o1 g1; (try rw [Nat.zero_add] at o1); (try rw [List.nil_append] at o1)) | (at_builtin; refine wpList_append_own _ rfl (.tmp 141) (.tmp 146) 29 rfl wr.heap.size 40 i0 (.agg #[.int .u32 0, .int .u32 0]) 2 8 Try.underlying29 hi hz0 hz1 hz2 rfl (by decide) v1 t.bs.length (bksV t.bs) rfl (o1.alloc _) ⟨w1.heap.size, 0, none⟩ 1 1 [.int .u32 P, .int .u32 n] rfl rfl (two_new w1 _ _) (by intro u hu; simp at hu; rcases hu with rfl | rfl <;> rfl) (by unfold maxLen; omega) (by omega) (by have := g1.size; simp at this ⊢; omega) ?_; intro v2 w2 o2 g2 hx2'; obtain ⟨a2, c2, rfl⟩ := own_slice2 o2; obtain ⟨r1, r2, HLF⟩ := HAPP.out x x w1 v1 w2 _ g1 o1 g2 o2))
          go_ret2
          exact .inl ⟨z1, rfl, HLF.out⟩
        · have f1 : ((x : Nat) : Int) < (P : Int) + (n : Int) := by omega
          have hge := up_ge (P + n)
          have hrm : ((P : Int) + (n : Int)).tmod 256 = ((P + n) % 256 : Nat) := by rw [Int.tmod_eq_emod_of_nonneg (by omega)]; omega
          have hr0 : (P + n) % 256 = 0 → up (P + n) = P + n := fun h => by unfold up; omega
          have hr1 : (P + n) % 256 ≠ 0 → up (P + n) = P + n + 256 - (P + n) % 256 := fun h => by unfold up; omega
          have hUb : up (P + n) < 17179869184 := by unfold up; omega
          have hrl : (P + n) % 256 < 256 := Nat.mod_lt _ (by decide)
          generalize hU : up (P + n) = U at *
          generalize (P + n) % 256 = rr at *
          have HU := hidden hU
          clear hU
          by_cases y1 : rr = 0
          · have hUe : U = P + n := hr0 y1
            have HUE := hidden hUe
            have y2 : ((rr : Int) != 0) = false := by rw [bne_eq_false_iff_eq]; omega
            have y3 : (rr : Int) = 0 := by omega
            have hse : (P : Int) + (n : Int) = (U : Int) := by omega
            have hrmb : (U : Int).tmod 256 = 0 := by rw [← hse, hrm]; exact y3
            have f1b : ((x : Nat) : Int) < (U : Int) := by omega
            clear hr0 hr1 y3 hrm y2
            by_cases z2 : U ≤ t.most
            · have f2 : ¬ (t.most : Int) < (U : Int) := by omega
              clear hUe
              go_wp2_with (first | (at_builtin; refine wpList_append_bks rfl (.tmp 136) (.tmp 140) rfl wr.heap.size (.slice (some ⟨wr.heap.size, 0, none⟩) 0 0) 0 [] rfl (HMAD.out x U) ao t.bs.length c t.bs rfl (HBR.out wr x U hb) (by omega) (by simp) ?_; intro v1 w1 o1 g1; (try rw [Nat.zero_add] at o1); (try rw [List.nil_append] at o1)) | (at_builtin; refine wpList_append_own _ rfl (.tmp 141) (.tmp 146) 29 rfl wr.heap.size 40 i0 (.agg #[.int .u32 0, .int .u32 0]) 2 8 Try.underlying29 hi hz0 hz1 hz2 rfl (by decide) v1 t.bs.length (bksV t.bs) rfl (o1.alloc _) ⟨w1.heap.size, 0, none⟩ 1 1 [.int .u32 P, .int .u32 n] rfl rfl (two_new w1 _ _) (by intro u hu; simp at hu; rcases hu with rfl | rfl <;> rfl) (by unfold maxLen; omega) (by omega) (by have := g1.size; simp at this ⊢; omega) ?_; intro v2 w2 o2 g2 hx2'; obtain ⟨a2, c2, rfl⟩ := own_slice2 o2; obtain ⟨r1, r2, HLF⟩ := HAPP.out x U w1 v1 w2 _ g1 o1 g2 o2))
              go_ret2
              exact .inr (.inl ⟨by omega, by rw [HU.out]; exact z2, rfl, by rw [HU.out]; exact HLF.out⟩)
            · have f2 : (t.most : Int) < (U : Int) := by omega
              clear hUe
              go_wp2
              go_ret2
              exact .inr (.inr ⟨by omega, by rw [HU.out]; omega, rfl, HSAME.out _ hb⟩)
          · have hUe : U = P + n + 256 - rr := hr1 y1
            have y2 : ((rr : Int) != 0) = true := by rw [bne_iff_ne]; omega
            have hse : (P : Int) + (n : Int) + 256 - (rr : Int) = (U : Int) := by omega
            have y3 : ¬ (rr : Int) = 0 := by omega
            clear hr0 hr1
            by_cases z2 : U ≤ t.most
            · have f2 : ¬ (t.most : Int) < (U : Int) := by omega
              clear hUe
              go_wp2_with (first | (at_builtin; refine wpList_append_bks rfl (.tmp 136) (.tmp 140) rfl wr.heap.size (.slice (some ⟨wr.heap.size, 0, none⟩) 0 0) 0 [] rfl (HMAD.out x U) ao t.bs.length c t.bs rfl (HBR.out wr x U hb) (by omega) (by simp) ?_; intro v1 w1 o1 g1; (try rw [Nat.zero_add] at o1); (try rw [List.nil_append] at o1)) | (at_builtin; refine wpList_append_own _ rfl (.tmp 141) (.tmp 146) 29 rfl wr.heap.size 40 i0 (.agg #[.int .u32 0, .int .u32 0]) 2 8 Try.underlying29 hi hz0 hz1 hz2 rfl (by decide) v1 t.bs.length (bksV t.bs) rfl (o1.alloc _) ⟨w1.heap.size, 0, none⟩ 1 1 [.int .u32 P, .int .u32 n] rfl rfl (two_new w1 _ _) (by intro u hu; simp at hu; rcases hu with rfl | rfl <;> rfl) (by unfold maxLen; omega) (by omega) (by have := g1.size; simp at this ⊢; omega) ?_; intro v2 w2 o2 g2 hx2'; obtain ⟨a2, c2, rfl⟩ := own_slice2 o2; obtain ⟨r1, r2, HLF⟩ := HAPP.out x U w1 v1 w2 _ g1 o1 g2 o2))
              go_ret2
              exact .inr (.inl ⟨by omega, by rw [HU.out]; exact z2, rfl, by rw [HU.out]; exact HLF.out⟩)
            · have f2 : (t.most : Int) < (U : Int) := by omega
              clear hUe
              go_wp2
              go_ret2
              exact .inr (.inr ⟨by omega, by rw [HU.out]; omega, rfl, HSAME.out _ hb⟩)
end Go.Proofs.Ythdbaiddmelhgaa
