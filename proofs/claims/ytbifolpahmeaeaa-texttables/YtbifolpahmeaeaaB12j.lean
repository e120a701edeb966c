/- Contracts of package text's Next and Begin. -/
import Derived.Test.YtbifolpahmeaeaaB12i
namespace Go.Proofs.Ytbifolpahmeaeaa
open Go.RowKit
set_option maxHeartbeats 1000000
set_option maxRecDepth 100000
set_option linter.unusedVariables false

theorem tnext_224 (t : Ta) (table : Nat) (a : Option Addr) (n c : Nat) (zs : List Int) (w : World) (hm : Mem w a n c zs) (ht : t.ok) (htl : table < 4294967296) (hk : t.k = 224) :
    Calls Try.prog 16 #[.slice a n c, .int .u32 table, .agg #[.int .i64 t.k, .int .u32 t.ad, .int .u32 t.bit]] w (PRet w (plN zs t 1)) := by
  have hB := Bx.new w t
  obtain ⟨wa, hwa⟩ : ∃ wa, wa = ((w.alloc (.cells #[.int .i64 t.k, .int .u32 t.ad, .int .u32 t.bit] 46)).alloc (.cells #[.int .i64 0, .slice none 0 0, .int .u32 0, .slice none 0 0] 44)).alloc (.cells #[.int .i64 0, .int .u32 0, .int .u32 0] 46) := ⟨_, rfl⟩
  rw [← hwa] at hB
  have HBA := hidden hB
  obtain ⟨⟨a0, a1, a2⟩, ⟨p0, p1, p2, p3⟩, ⟨n0, n1, n2⟩, fp, fn⟩ := hB.cells
  clear fp fn
  have HC : Hid (Calls Try.prog 29 #[.slice a n c, .agg #[.int .i64 t.k, .int .u32 t.ad, .int .u32 t.bit], .int .i64 1] wa (PRet wa (plN zs t 1))) := tplain_any t 1 a n c zs wa (hm.later hB.below) ht (.inl rfl)
  obtain ⟨NN, hNN⟩ : ∃ NN, NN = plN zs t 1 := ⟨_, rfl⟩
  rw [← hNN] at HC ⊢
  clear hNN
  obtain ⟨E, KN, CN, TN⟩ := NN
  rw [hk] at a0 HC ⊢
  have HQA : Hid (w.heap.size + 1 + 1 < wa.heap.size) := hB.n.lt
  have hk2 := hk
  clear hm hB
  by_cases hE : E = 0
  · subst hE
    go_enter Try.func16, Try.ntmps16
    go_upto_region 1 with fail
    rw [hk] at hwa
    rw [← hwa]
    clear hwa
    go_upto_region 9 with (first | (go_at_call 29; refine HC.out.mono ?_; rintro r w1 ⟨k1, ca, cn, cc, ad, ra, rn, rc, k', ad', bit', rfl, hb1, hok1⟩; have HC1 := hidden (HBA.out.cx.later hb1); have HOK1 := hidden hok1; obtain ⟨⟨p0, p1, p2, p3⟩, ⟨n0, n1, n2⟩, ⟨p4, p5, p6, p7⟩, ⟨n4, n5, n6⟩⟩ := HC1.out.cells; clear hb1 hok1))
    have HC2 := hidden ((HC1.out.setP (.int .i64 k1) (.slice ca cn cc) (.int .u32 ad) (.slice ra rn rc)).setN (.int .i64 k') (.int .u32 ad') (.int .u32 bit'))
    obtain ⟨o1, o2, o3, o4, o5, o6, o7, o8⟩ := HOK1.out (by first | trivial | rfl)
    have HO5 : Hid (0 < cn → ∀ x, ca = some x → w.heap.size + 1 + 1 < x.block) := fun h x e => by have := o5 h x e; have := HQA.out; omega
    have HV2 := hidden ((o3.set4 (w.heap.size + 1) (fun h x e => by have := HO5.out h x e; omega) (.int .i64 k1) (.slice ca cn cc) (.int .u32 ad) (.slice ra rn rc)).set3 (w.heap.size + 1 + 1) (fun h x e => by have := HO5.out h x e; omega) (.int .i64 k') (.int .u32 ad') (.int .u32 bit'))
    have HZ := hidden (And.intro o1 (And.intro o2 (And.intro o4 (And.intro o6 (And.intro o7 o8)))))
    clear o1 o2 o3 o4 o5 o6 o7 o8 HOK1 p0 p1 p2 p3 n0 n1 n2 p4 p5 p6 p7 n4 n5 n6
    unfold set3 set4 at HC2 HV2
    generalize (((((((w1.setCell ⟨w.heap.size + 1, 0, none⟩ (.int .i64 k1)).setCell ⟨w.heap.size + 1, 1, none⟩ (.slice ca cn cc)).setCell ⟨w.heap.size + 1, 2, none⟩ (.int .u32 ad)).setCell ⟨w.heap.size + 1, 3, none⟩ (.slice ra rn rc)).setCell ⟨w.heap.size + 1 + 1, 0, none⟩ (.int .i64 k')).setCell ⟨w.heap.size + 1 + 1, 1, none⟩ (.int .u32 ad')).setCell ⟨w.heap.size + 1 + 1, 2, none⟩ (.int .u32 bit')) = w2 at *
    obtain ⟨⟨p0, p1, p2, p3⟩, ⟨n0, n1, n2⟩, ⟨p4, p5, p6, p7⟩, ⟨n4, n5, n6⟩⟩ := HC2.out.cells
    go_upto_region 11 with fail
    go_region
    go_wp2
    obtain ⟨W, hW⟩ : ∃ W, W = set3 (set4 w2 (w.heap.size + 1) (.int .i64 k1) (.slice ca cn cc) (.int .u32 ad) (.slice ra rn rc)) (w.heap.size + 1 + 1) (.int .i64 k') (.int .u32 ad') (.int .u32 bit') := ⟨_, rfl⟩
    have hcx := (HC2.out.setP (.int .i64 k1) (.slice ca cn cc) (.int .u32 ad) (.slice ra rn rc)).setN (.int .i64 k') (.int .u32 ad') (.int .u32 bit')
    have hv := (HV2.out.set4 (w.heap.size + 1) (fun h x e => by have := HO5.out h x e; omega) (.int .i64 k1) (.slice ca cn cc) (.int .u32 ad) (.slice ra rn rc)).set3 (w.heap.size + 1 + 1) (fun h x e => by have := HO5.out h x e; omega) (.int .i64 k') (.int .u32 ad') (.int .u32 bit')
    rw [← hW] at hcx hv
    obtain ⟨⟨y0, y1, y2, y3⟩, ⟨v0, v1, v2⟩, -, -⟩ := hcx.cells
    unfold set3 set4 at hW
    rw [← hW]
    clear hW
    obtain ⟨o1, o2, o4, o6, o7, o8⟩ := HZ.out
    exact bodyPost_ret (v := .tuple #[.agg #[.int .i64 k1, .slice ca cn cc, .int .u32 ad, .slice ra rn rc], .agg #[.int .i64 k', .int .u32 ad', .int .u32 bit'], .int .i64 0]) (by simp [results, Try.results16, go_sem, y0, y1, y2, y3, v0, v1, v2]) rfl ⟨k1, ca, cn, cc, ad, ra, rn, rc, k', ad', bit', rfl, hcx.below.drew, fun _ => ⟨o1, o2, hv.later (Below.refl _ _).drew, o4, (fun h x e => by have := HO5.out h x e; omega), o6, o7, o8⟩⟩
  · have hE2 : ((E : Int) == 0) = false := by simp; omega
    have hE3 : ¬ (E : Int) = 0 := by omega
    go_enter Try.func16, Try.ntmps16
    go_upto_region 1 with fail
    rw [hk] at hwa
    rw [← hwa]
    clear hwa
    go_upto_region 9 with (first | (go_at_call 29; refine HC.out.mono ?_; rintro r w1 ⟨k1, ca, cn, cc, ad, ra, rn, rc, k', ad', bit', rfl, hb1, -⟩; have HC1 := hidden (HBA.out.cx.later hb1); obtain ⟨⟨p0, p1, p2, p3⟩, ⟨n0, n1, n2⟩, ⟨p4, p5, p6, p7⟩, ⟨n4, n5, n6⟩⟩ := HC1.out.cells; clear hb1))
    have HC2 := hidden ((HC1.out.setP (.int .i64 k1) (.slice ca cn cc) (.int .u32 ad) (.slice ra rn rc)).setN (.int .i64 k') (.int .u32 ad') (.int .u32 bit'))
    clear p0 p1 p2 p3 n0 n1 n2 p4 p5 p6 p7 n4 n5 n6
    unfold set3 set4 at HC2
    generalize (((((((w1.setCell ⟨w.heap.size + 1, 0, none⟩ (.int .i64 k1)).setCell ⟨w.heap.size + 1, 1, none⟩ (.slice ca cn cc)).setCell ⟨w.heap.size + 1, 2, none⟩ (.int .u32 ad)).setCell ⟨w.heap.size + 1, 3, none⟩ (.slice ra rn rc)).setCell ⟨w.heap.size + 1 + 1, 0, none⟩ (.int .i64 k')).setCell ⟨w.heap.size + 1 + 1, 1, none⟩ (.int .u32 ad')).setCell ⟨w.heap.size + 1 + 1, 2, none⟩ (.int .u32 bit')) = w2 at *
    obtain ⟨⟨p0, p1, p2, p3⟩, ⟨n0, n1, n2⟩, ⟨p4, p5, p6, p7⟩, ⟨n4, n5, n6⟩⟩ := HC2.out.cells
    go_wp2
    obtain ⟨W, hW⟩ : ∃ W, W = set3 (set4 w2 (w.heap.size + 1) (.int .i64 0) (.slice none 0 0) (.int .u32 0) (.slice none 0 0)) (w.heap.size + 1 + 1) (.int .i64 0) (.int .u32 0) (.int .u32 0) := ⟨_, rfl⟩
    have hcx := (HC2.out.setP (.int .i64 0) (.slice none 0 0) (.int .u32 0) (.slice none 0 0)).setN (.int .i64 0) (.int .u32 0) (.int .u32 0)
    rw [← hW] at hcx
    obtain ⟨⟨y0, y1, y2, y3⟩, ⟨v0, v1, v2⟩, -, -⟩ := hcx.cells
    unfold set3 set4 at hW
    rw [← hW]
    clear hW
    exact bodyPost_ret (v := .tuple #[.agg #[.int .i64 0, .slice none 0 0, .int .u32 0, .slice none 0 0], .agg #[.int .i64 0, .int .u32 0, .int .u32 0], .int .i64 E]) (by simp [results, Try.results16, go_sem, y0, y1, y2, y3, v0, v1, v2]) rfl (prt_no hcx.below hE 0 none 0 0 0 none 0 0 0 0 0)

theorem tnext_226 (t : Ta) (table : Nat) (a : Option Addr) (n c : Nat) (zs : List Int) (w : World) (hm : Mem w a n c zs) (ht : t.ok) (htl : table < 4294967296) (hk : t.k = 226) :
    Calls Try.prog 16 #[.slice a n c, .int .u32 table, .agg #[.int .i64 t.k, .int .u32 t.ad, .int .u32 t.bit]] w (PRet w (plN zs t 4)) := by
  have hB := Bx.new w t
  obtain ⟨wa, hwa⟩ : ∃ wa, wa = ((w.alloc (.cells #[.int .i64 t.k, .int .u32 t.ad, .int .u32 t.bit] 46)).alloc (.cells #[.int .i64 0, .slice none 0 0, .int .u32 0, .slice none 0 0] 44)).alloc (.cells #[.int .i64 0, .int .u32 0, .int .u32 0] 46) := ⟨_, rfl⟩
  rw [← hwa] at hB
  have HBA := hidden hB
  obtain ⟨⟨a0, a1, a2⟩, ⟨p0, p1, p2, p3⟩, ⟨n0, n1, n2⟩, fp, fn⟩ := hB.cells
  clear fp fn
  have HC : Hid (Calls Try.prog 29 #[.slice a n c, .agg #[.int .i64 t.k, .int .u32 t.ad, .int .u32 t.bit], .int .i64 4] wa (PRet wa (plN zs t 4))) := tplain_any t 4 a n c zs wa (hm.later hB.below) ht (.inr rfl)
  obtain ⟨NN, hNN⟩ : ∃ NN, NN = plN zs t 4 := ⟨_, rfl⟩
  rw [← hNN] at HC ⊢
  clear hNN
  obtain ⟨E, KN, CN, TN⟩ := NN
  rw [hk] at a0 HC ⊢
  have HQA : Hid (w.heap.size + 1 + 1 < wa.heap.size) := hB.n.lt
  have hk2 := hk
  clear hm hB
  by_cases hE : E = 0
  · subst hE
    go_enter Try.func16, Try.ntmps16
    go_upto_region 1 with fail
    rw [hk] at hwa
    rw [← hwa]
    clear hwa
    go_upto_region 9 with (first | (go_at_call 29; refine HC.out.mono ?_; rintro r w1 ⟨k1, ca, cn, cc, ad, ra, rn, rc, k', ad', bit', rfl, hb1, hok1⟩; have HC1 := hidden (HBA.out.cx.later hb1); have HOK1 := hidden hok1; obtain ⟨⟨p0, p1, p2, p3⟩, ⟨n0, n1, n2⟩, ⟨p4, p5, p6, p7⟩, ⟨n4, n5, n6⟩⟩ := HC1.out.cells; clear hb1 hok1))
    have HC2 := hidden ((HC1.out.setP (.int .i64 k1) (.slice ca cn cc) (.int .u32 ad) (.slice ra rn rc)).setN (.int .i64 k') (.int .u32 ad') (.int .u32 bit'))
    obtain ⟨o1, o2, o3, o4, o5, o6, o7, o8⟩ := HOK1.out (by first | trivial | rfl)
    have HO5 : Hid (0 < cn → ∀ x, ca = some x → w.heap.size + 1 + 1 < x.block) := fun h x e => by have := o5 h x e; have := HQA.out; omega
    have HV2 := hidden ((o3.set4 (w.heap.size + 1) (fun h x e => by have := HO5.out h x e; omega) (.int .i64 k1) (.slice ca cn cc) (.int .u32 ad) (.slice ra rn rc)).set3 (w.heap.size + 1 + 1) (fun h x e => by have := HO5.out h x e; omega) (.int .i64 k') (.int .u32 ad') (.int .u32 bit'))
    have HZ := hidden (And.intro o1 (And.intro o2 (And.intro o4 (And.intro o6 (And.intro o7 o8)))))
    clear o1 o2 o3 o4 o5 o6 o7 o8 HOK1 p0 p1 p2 p3 n0 n1 n2 p4 p5 p6 p7 n4 n5 n6
    unfold set3 set4 at HC2 HV2
    generalize (((((((w1.setCell ⟨w.heap.size + 1, 0, none⟩ (.int .i64 k1)).setCell ⟨w.heap.size + 1, 1, none⟩ (.slice ca cn cc)).setCell ⟨w.heap.size + 1, 2, none⟩ (.int .u32 ad)).setCell ⟨w.heap.size + 1, 3, none⟩ (.slice ra rn rc)).setCell ⟨w.heap.size + 1 + 1, 0, none⟩ (.int .i64 k')).setCell ⟨w.heap.size + 1 + 1, 1, none⟩ (.int .u32 ad')).setCell ⟨w.heap.size + 1 + 1, 2, none⟩ (.int .u32 bit')) = w2 at *
    obtain ⟨⟨p0, p1, p2, p3⟩, ⟨n0, n1, n2⟩, ⟨p4, p5, p6, p7⟩, ⟨n4, n5, n6⟩⟩ := HC2.out.cells
    go_upto_region 11 with fail
    go_region
    go_wp2
    obtain ⟨W, hW⟩ : ∃ W, W = set3 (set4 w2 (w.heap.size + 1) (.int .i64 k1) (.slice ca cn cc) (.int .u32 ad) (.slice ra rn rc)) (w.heap.size + 1 + 1) (.int .i64 k') (.int .u32 ad') (.int .u32 bit') := ⟨_, rfl⟩
    have hcx := (HC2.out.setP (.int .i64 k1) (.slice ca cn cc) (.int .u32 ad) (.slice ra rn rc)).setN (.int .i64 k') (.int .u32 ad') (.int .u32 bit')
    have hv := (HV2.out.set4 (w.heap.size + 1) (fun h x e => by have := HO5.out h x e; omega) (.int .i64 k1) (.slice ca cn cc) (.int .u32 ad) (.slice ra rn rc)).set3 (w.heap.size + 1 + 1) (fun h x e => by have := HO5.out h x e; omega) (.int .i64 k') (.int .u32 ad') (.int .u32 bit')
    rw [← hW] at hcx hv
    obtain ⟨⟨y0, y1, y2, y3⟩, ⟨v0, v1, v2⟩, -, -⟩ := hcx.cells
    unfold set3 set4 at hW
    rw [← hW]
    clear hW
    obtain ⟨o1, o2, o4, o6, o7, o8⟩ := HZ.out
    exact bodyPost_ret (v := .tuple #[.agg #[.int .i64 k1, .slice ca cn cc, .int .u32 ad, .slice ra rn rc], .agg #[.int .i64 k', .int .u32 ad', .int .u32 bit'], .int .i64 0]) (by simp [results, Try.results16, go_sem, y0, y1, y2, y3, v0, v1, v2]) rfl ⟨k1, ca, cn, cc, ad, ra, rn, rc, k', ad', bit', rfl, hcx.below.drew, fun _ => ⟨o1, o2, hv.later (Below.refl _ _).drew, o4, (fun h x e => by have := HO5.out h x e; omega), o6, o7, o8⟩⟩
  · have hE2 : ((E : Int) == 0) = false := by simp; omega
    have hE3 : ¬ (E : Int) = 0 := by omega
    go_enter Try.func16, Try.ntmps16
    go_upto_region 1 with fail
    rw [hk] at hwa
    rw [← hwa]
    clear hwa
    go_upto_region 9 with (first | (go_at_call 29; refine HC.out.mono ?_; rintro r w1 ⟨k1, ca, cn, cc, ad, ra, rn, rc, k', ad', bit', rfl, hb1, -⟩; have HC1 := hidden (HBA.out.cx.later hb1); obtain ⟨⟨p0, p1, p2, p3⟩, ⟨n0, n1, n2⟩, ⟨p4, p5, p6, p7⟩, ⟨n4, n5, n6⟩⟩ := HC1.out.cells; clear hb1))
    have HC2 := hidden ((HC1.out.setP (.int .i64 k1) (.slice ca cn cc) (.int .u32 ad) (.slice ra rn rc)).setN (.int .i64 k') (.int .u32 ad') (.int .u32 bit'))
    clear p0 p1 p2 p3 n0 n1 n2 p4 p5 p6 p7 n4 n5 n6
    unfold set3 set4 at HC2
    generalize (((((((w1.setCell ⟨w.heap.size + 1, 0, none⟩ (.int .i64 k1)).setCell ⟨w.heap.size + 1, 1, none⟩ (.slice ca cn cc)).setCell ⟨w.heap.size + 1, 2, none⟩ (.int .u32 ad)).setCell ⟨w.heap.size + 1, 3, none⟩ (.slice ra rn rc)).setCell ⟨w.heap.size + 1 + 1, 0, none⟩ (.int .i64 k')).setCell ⟨w.heap.size + 1 + 1, 1, none⟩ (.int .u32 ad')).setCell ⟨w.heap.size + 1 + 1, 2, none⟩ (.int .u32 bit')) = w2 at *
    obtain ⟨⟨p0, p1, p2, p3⟩, ⟨n0, n1, n2⟩, ⟨p4, p5, p6, p7⟩, ⟨n4, n5, n6⟩⟩ := HC2.out.cells
    go_wp2
    obtain ⟨W, hW⟩ : ∃ W, W = set3 (set4 w2 (w.heap.size + 1) (.int .i64 0) (.slice none 0 0) (.int .u32 0) (.slice none 0 0)) (w.heap.size + 1 + 1) (.int .i64 0) (.int .u32 0) (.int .u32 0) := ⟨_, rfl⟩
    have hcx := (HC2.out.setP (.int .i64 0) (.slice none 0 0) (.int .u32 0) (.slice none 0 0)).setN (.int .i64 0) (.int .u32 0) (.int .u32 0)
    rw [← hW] at hcx
    obtain ⟨⟨y0, y1, y2, y3⟩, ⟨v0, v1, v2⟩, -, -⟩ := hcx.cells
    unfold set3 set4 at hW
    rw [← hW]
    clear hW
    exact bodyPost_ret (v := .tuple #[.agg #[.int .i64 0, .slice none 0 0, .int .u32 0, .slice none 0 0], .agg #[.int .i64 0, .int .u32 0, .int .u32 0], .int .i64 E]) (by simp [results, Try.results16, go_sem, y0, y1, y2, y3, v0, v1, v2]) rfl (prt_no hcx.below hE 0 none 0 0 0 none 0 0 0 0 0)

theorem tpack (t : Ta) (table : Nat) (a : Option Addr) (n c : Nat) (zs : List Int) (w : World) (hm : Mem w a n c zs) (ht : t.ok) (htl : table < 4294967296) :
    Calls Try.prog 30 #[.slice a n c, .int .u32 table, .agg #[.int .i64 t.k, .int .u32 t.ad, .int .u32 t.bit]] w (PRet w (pkN zs table t)) := by
  by_cases h0 : table = 0
  · subst h0
    unfold pkN
    rw [if_pos rfl]
    exact tpacked_0 t a n c w
  by_cases h1 : (table + 8) % 4294967296 + 4 ≤ zs.length
  · by_cases h2 : t.bit ≤ 7
    · exact tpacked_any t table a n c zs w hm h0 htl ht h1 h2
    · unfold pkN
      rw [if_neg h0, if_pos h1, if_neg h2]
      exact tpacked_bit t table a n c zs w hm h0 htl ht h1 h2
  · unfold pkN
    rw [if_neg h0, if_neg h1]
    exact tpacked_90 t table a n c zs w hm h0 htl ht h1

theorem tnext_225 (t : Ta) (table : Nat) (a : Option Addr) (n c : Nat) (zs : List Int) (w : World) (hm : Mem w a n c zs) (ht : t.ok) (htl : table < 4294967296) (hk : t.k = 225) :
    Calls Try.prog 16 #[.slice a n c, .int .u32 table, .agg #[.int .i64 t.k, .int .u32 t.ad, .int .u32 t.bit]] w (PRet w (pkN zs table t)) := by
  have hB := Bx.new w t
  obtain ⟨wa, hwa⟩ : ∃ wa, wa = ((w.alloc (.cells #[.int .i64 t.k, .int .u32 t.ad, .int .u32 t.bit] 46)).alloc (.cells #[.int .i64 0, .slice none 0 0, .int .u32 0, .slice none 0 0] 44)).alloc (.cells #[.int .i64 0, .int .u32 0, .int .u32 0] 46) := ⟨_, rfl⟩
  rw [← hwa] at hB
  have HBA := hidden hB
  obtain ⟨⟨a0, a1, a2⟩, ⟨p0, p1, p2, p3⟩, ⟨n0, n1, n2⟩, fp, fn⟩ := hB.cells
  clear fp fn
  have HC : Hid (Calls Try.prog 30 #[.slice a n c, .int .u32 table, .agg #[.int .i64 t.k, .int .u32 t.ad, .int .u32 t.bit]] wa (PRet wa (pkN zs table t))) := tpack t table a n c zs wa (hm.later hB.below) ht htl
  obtain ⟨NN, hNN⟩ : ∃ NN, NN = pkN zs table t := ⟨_, rfl⟩
  rw [← hNN] at HC ⊢
  clear hNN
  obtain ⟨E, KN, CN, TN⟩ := NN
  rw [hk] at a0 HC ⊢
  have HQA : Hid (w.heap.size + 1 + 1 < wa.heap.size) := hB.n.lt
  have hk2 := hk
  clear hm hB
  by_cases hE : E = 0
  · subst hE
    go_enter Try.func16, Try.ntmps16
    go_upto_region 1 with fail
    rw [hk] at hwa
    rw [← hwa]
    clear hwa
    go_upto_region 9 with (first | (go_at_call 30; refine HC.out.mono ?_; rintro r w1 ⟨k1, ca, cn, cc, ad, ra, rn, rc, k', ad', bit', rfl, hb1, hok1⟩; have HC1 := hidden (HBA.out.cx.later hb1); have HOK1 := hidden hok1; obtain ⟨⟨p0, p1, p2, p3⟩, ⟨n0, n1, n2⟩, ⟨p4, p5, p6, p7⟩, ⟨n4, n5, n6⟩⟩ := HC1.out.cells; clear hb1 hok1))
    have HC2 := hidden ((HC1.out.setP (.int .i64 k1) (.slice ca cn cc) (.int .u32 ad) (.slice ra rn rc)).setN (.int .i64 k') (.int .u32 ad') (.int .u32 bit'))
    obtain ⟨o1, o2, o3, o4, o5, o6, o7, o8⟩ := HOK1.out (by first | trivial | rfl)
    have HO5 : Hid (0 < cn → ∀ x, ca = some x → w.heap.size + 1 + 1 < x.block) := fun h x e => by have := o5 h x e; have := HQA.out; omega
    have HV2 := hidden ((o3.set4 (w.heap.size + 1) (fun h x e => by have := HO5.out h x e; omega) (.int .i64 k1) (.slice ca cn cc) (.int .u32 ad) (.slice ra rn rc)).set3 (w.heap.size + 1 + 1) (fun h x e => by have := HO5.out h x e; omega) (.int .i64 k') (.int .u32 ad') (.int .u32 bit'))
    have HZ := hidden (And.intro o1 (And.intro o2 (And.intro o4 (And.intro o6 (And.intro o7 o8)))))
    clear o1 o2 o3 o4 o5 o6 o7 o8 HOK1 p0 p1 p2 p3 n0 n1 n2 p4 p5 p6 p7 n4 n5 n6
    unfold set3 set4 at HC2 HV2
    generalize (((((((w1.setCell ⟨w.heap.size + 1, 0, none⟩ (.int .i64 k1)).setCell ⟨w.heap.size + 1, 1, none⟩ (.slice ca cn cc)).setCell ⟨w.heap.size + 1, 2, none⟩ (.int .u32 ad)).setCell ⟨w.heap.size + 1, 3, none⟩ (.slice ra rn rc)).setCell ⟨w.heap.size + 1 + 1, 0, none⟩ (.int .i64 k')).setCell ⟨w.heap.size + 1 + 1, 1, none⟩ (.int .u32 ad')).setCell ⟨w.heap.size + 1 + 1, 2, none⟩ (.int .u32 bit')) = w2 at *
    obtain ⟨⟨p0, p1, p2, p3⟩, ⟨n0, n1, n2⟩, ⟨p4, p5, p6, p7⟩, ⟨n4, n5, n6⟩⟩ := HC2.out.cells
    go_upto_region 11 with fail
    go_region
    go_wp2
    obtain ⟨W, hW⟩ : ∃ W, W = set3 (set4 w2 (w.heap.size + 1) (.int .i64 k1) (.slice ca cn cc) (.int .u32 ad) (.slice ra rn rc)) (w.heap.size + 1 + 1) (.int .i64 k') (.int .u32 ad') (.int .u32 bit') := ⟨_, rfl⟩
    have hcx := (HC2.out.setP (.int .i64 k1) (.slice ca cn cc) (.int .u32 ad) (.slice ra rn rc)).setN (.int .i64 k') (.int .u32 ad') (.int .u32 bit')
    have hv := (HV2.out.set4 (w.heap.size + 1) (fun h x e => by have := HO5.out h x e; omega) (.int .i64 k1) (.slice ca cn cc) (.int .u32 ad) (.slice ra rn rc)).set3 (w.heap.size + 1 + 1) (fun h x e => by have := HO5.out h x e; omega) (.int .i64 k') (.int .u32 ad') (.int .u32 bit')
    rw [← hW] at hcx hv
    obtain ⟨⟨y0, y1, y2, y3⟩, ⟨v0, v1, v2⟩, -, -⟩ := hcx.cells
    unfold set3 set4 at hW
    rw [← hW]
    clear hW
    obtain ⟨o1, o2, o4, o6, o7, o8⟩ := HZ.out
    exact bodyPost_ret (v := .tuple #[.agg #[.int .i64 k1, .slice ca cn cc, .int .u32 ad, .slice ra rn rc], .agg #[.int .i64 k', .int .u32 ad', .int .u32 bit'], .int .i64 0]) (by simp [results, Try.results16, go_sem, y0, y1, y2, y3, v0, v1, v2]) rfl ⟨k1, ca, cn, cc, ad, ra, rn, rc, k', ad', bit', rfl, hcx.below.drew, fun _ => ⟨o1, o2, hv.later (Below.refl _ _).drew, o4, (fun h x e => by have := HO5.out h x e; omega), o6, o7, o8⟩⟩
  · have hE2 : ((E : Int) == 0) = false := by simp; omega
    have hE3 : ¬ (E : Int) = 0 := by omega
    go_enter Try.func16, Try.ntmps16
    go_upto_region 1 with fail
    rw [hk] at hwa
    rw [← hwa]
    clear hwa
    go_upto_region 9 with (first | (go_at_call 30; refine HC.out.mono ?_; rintro r w1 ⟨k1, ca, cn, cc, ad, ra, rn, rc, k', ad', bit', rfl, hb1, -⟩; have HC1 := hidden (HBA.out.cx.later hb1); obtain ⟨⟨p0, p1, p2, p3⟩, ⟨n0, n1, n2⟩, ⟨p4, p5, p6, p7⟩, ⟨n4, n5, n6⟩⟩ := HC1.out.cells; clear hb1))
    have HC2 := hidden ((HC1.out.setP (.int .i64 k1) (.slice ca cn cc) (.int .u32 ad) (.slice ra rn rc)).setN (.int .i64 k') (.int .u32 ad') (.int .u32 bit'))
    clear p0 p1 p2 p3 n0 n1 n2 p4 p5 p6 p7 n4 n5 n6
    unfold set3 set4 at HC2
    generalize (((((((w1.setCell ⟨w.heap.size + 1, 0, none⟩ (.int .i64 k1)).setCell ⟨w.heap.size + 1, 1, none⟩ (.slice ca cn cc)).setCell ⟨w.heap.size + 1, 2, none⟩ (.int .u32 ad)).setCell ⟨w.heap.size + 1, 3, none⟩ (.slice ra rn rc)).setCell ⟨w.heap.size + 1 + 1, 0, none⟩ (.int .i64 k')).setCell ⟨w.heap.size + 1 + 1, 1, none⟩ (.int .u32 ad')).setCell ⟨w.heap.size + 1 + 1, 2, none⟩ (.int .u32 bit')) = w2 at *
    obtain ⟨⟨p0, p1, p2, p3⟩, ⟨n0, n1, n2⟩, ⟨p4, p5, p6, p7⟩, ⟨n4, n5, n6⟩⟩ := HC2.out.cells
    go_wp2
    obtain ⟨W, hW⟩ : ∃ W, W = set3 (set4 w2 (w.heap.size + 1) (.int .i64 0) (.slice none 0 0) (.int .u32 0) (.slice none 0 0)) (w.heap.size + 1 + 1) (.int .i64 0) (.int .u32 0) (.int .u32 0) := ⟨_, rfl⟩
    have hcx := (HC2.out.setP (.int .i64 0) (.slice none 0 0) (.int .u32 0) (.slice none 0 0)).setN (.int .i64 0) (.int .u32 0) (.int .u32 0)
    rw [← hW] at hcx
    obtain ⟨⟨y0, y1, y2, y3⟩, ⟨v0, v1, v2⟩, -, -⟩ := hcx.cells
    unfold set3 set4 at hW
    rw [← hW]
    clear hW
    exact bodyPost_ret (v := .tuple #[.agg #[.int .i64 0, .slice none 0 0, .int .u32 0, .slice none 0 0], .agg #[.int .i64 0, .int .u32 0, .int .u32 0], .int .i64 E]) (by simp [results, Try.results16, go_sem, y0, y1, y2, y3, v0, v1, v2]) rfl (prt_no hcx.below hE 0 none 0 0 0 none 0 0 0 0 0)

theorem tnext_no (t : Ta) (table : Nat) (a : Option Addr) (n c : Nat) (w : World) (ht : t.ok) (h1 : t.k ≠ 224) (h2 : t.k ≠ 226) (h3 : t.k ≠ 225) :
    Calls Try.prog 16 #[.slice a n c, .int .u32 table, .agg #[.int .i64 t.k, .int .u32 t.ad, .int .u32 t.bit]] w (PRet w ⟨120, 0, [], ta0⟩) := by
  have hB := Bx.new w t
  obtain ⟨wa, hwa⟩ : ∃ wa, wa = ((w.alloc (.cells #[.int .i64 t.k, .int .u32 t.ad, .int .u32 t.bit] 46)).alloc (.cells #[.int .i64 0, .slice none 0 0, .int .u32 0, .slice none 0 0] 44)).alloc (.cells #[.int .i64 0, .int .u32 0, .int .u32 0] 46) := ⟨_, rfl⟩
  rw [← hwa] at hB
  have HBA := hidden hB
  obtain ⟨⟨a0, a1, a2⟩, ⟨p0, p1, p2, p3⟩, ⟨n0, n1, n2⟩, fp, fn⟩ := hB.cells
  clear fp fn
  have HC2 := hidden hB.cx
  have k1 : (t.k == 224) = false := by simpa using h1
  have k2 : (t.k == 226) = false := by simpa using h2
  have k3 : (t.k == 225) = false := by simpa using h3
  clear hB
  obtain ⟨⟨p0, p1, p2, p3⟩, ⟨n0, n1, n2⟩, ⟨p4, p5, p6, p7⟩, ⟨n4, n5, n6⟩⟩ := HC2.out.cells
  generalize h34 : t.k = K at *
  go_enter Try.func16, Try.ntmps16
  go_upto_region 1 with fail
  rw [← hwa]
  clear hwa
  go_wp2
  obtain ⟨W, hW⟩ : ∃ W, W = set3 (set4 wa (w.heap.size + 1) (.int .i64 0) (.slice none 0 0) (.int .u32 0) (.slice none 0 0)) (w.heap.size + 1 + 1) (.int .i64 0) (.int .u32 0) (.int .u32 0) := ⟨_, rfl⟩
  have hcx := (HC2.out.setP (.int .i64 0) (.slice none 0 0) (.int .u32 0) (.slice none 0 0)).setN (.int .i64 0) (.int .u32 0) (.int .u32 0)
  rw [← hW] at hcx
  obtain ⟨⟨y0, y1, y2, y3⟩, ⟨v0, v1, v2⟩, -, -⟩ := hcx.cells
  unfold set3 set4 at hW
  rw [← hW]
  clear hW
  exact bodyPost_ret (v := .tuple #[.agg #[.int .i64 0, .slice none 0 0, .int .u32 0, .slice none 0 0], .agg #[.int .i64 0, .int .u32 0, .int .u32 0], .int .i64 120]) (by simp [results, Try.results16, go_sem, y0, y1, y2, y3, v0, v1, v2]) rfl (prt_no hcx.below (by decide) 0 none 0 0 0 none 0 0 0 0 0)
/-- what Next answers -/
def nxN (zs : List Int) (table : Nat) (t : Ta) : Nx := if t.k = 224 then plN zs t 1 else if t.k = 226 then plN zs t 4 else if t.k = 225 then pkN zs table t else ⟨120, 0, [], ta0⟩
theorem tnext_any (t : Ta) (table : Nat) (a : Option Addr) (n c : Nat) (zs : List Int) (w : World) (hm : Mem w a n c zs) (ht : t.ok) (htl : table < 4294967296) :
    Calls Try.prog 16 #[.slice a n c, .int .u32 table, .agg #[.int .i64 t.k, .int .u32 t.ad, .int .u32 t.bit]] w (PRet w (nxN zs table t)) := by
  unfold nxN
  by_cases h1 : t.k = 224
  · rw [if_pos h1]; exact tnext_224 t table a n c zs w hm ht htl h1
  by_cases h2 : t.k = 226
  · rw [if_neg h1, if_pos h2]; exact tnext_226 t table a n c zs w hm ht htl h2
  by_cases h3 : t.k = 225
  · rw [if_neg h1, if_neg h2, if_pos h3]; exact tnext_225 t table a n c zs w hm ht htl h3
  rw [if_neg h1, if_neg h2, if_neg h3]
  exact tnext_no t table a n c w ht h1 h2 h3
/-- where a text begins: the error, the place -/
def bgN (zs : List Int) (addr : Nat) : Nat × Ta :=
  if addr + 1 ≤ zs.length then
    if nuV zs addr 1 = 224 then (0, ⟨224, (addr + 1) % 4294967296, 0⟩)
    else if nuV zs addr 1 = 225 then (0, ⟨225, (addr + 1) % 4294967296, 0⟩)
    else if nuV zs addr 1 = 226 then (0, ⟨226, (addr + 4) % 4294967296, 0⟩)
    else (120, ta0)
  else (90, ta0)
def GRet (w : World) (D : Nat × Ta) (r : Ending) (w' : World) : Prop :=
  r = .returned (.tuple #[.agg #[.int .i64 D.2.k, .int .u32 D.2.ad, .int .u32 D.2.bit], .int .i64 D.1]) ∧ Below w.heap.size w w'
theorem tbegin_any (addr : Nat) (a : Option Addr) (n c : Nat) (zs : List Int) (w : World) (hm : Mem w a n c zs) (ha : addr < 4294967296) :
    Calls Try.prog 28 #[.slice a n c, .int .u32 addr] w (GRet w (bgN zs addr)) := by
  have hb0 := al_below w (.cells #[.int .i64 0, .int .u32 0, .int .u32 0] 46)
  have ha0 := ab_new w 0 0 0
  have hma := hm.later hb0
  obtain ⟨wa, hwa⟩ : ∃ wa, wa = w.alloc (.cells #[.int .i64 0, .int .u32 0, .int .u32 0] 46) := ⟨_, rfl⟩
  have ha0' : ABox wa w.heap.size 0 0 0 := by rw [hwa]; exact ha0
  rw [← hwa] at hb0 hma
  have HT1 : Hid (Calls Try.prog 34 #[.pointer (some ⟨wa.heap.size, 0, none⟩), .int .i64 1] (wa.alloc (.cells #[.slice a n c, .int .u32 (addr : Int), .int .i64 0] 77)) fun r w' => r = .returned (.int .u32 (tkV zs addr 0 1)) ∧ TBox w' wa.heap.size a n c (tkP zs addr 0 1) (tkE zs addr 0 1) ∧ ABox w' w.heap.size 0 0 0 ∧ Hid (Below w.heap.size w w')) := (take_new wa a n c addr 0 1 zs hma (.inl rfl) ha).mono (fun r w' hh => ⟨hh.1, hh.2.1, ha0'.later hh.2.2, hb0.trans (hh.2.2.mono hb0.size)⟩)
  have hw1 : IntKind.u32.wrap ((addr : Int) + 1) = (((addr + 1) % 4294967296 : Nat) : Int) := by rw [IntKind.wrap_u32]; omega
  have hw4 : IntKind.u32.wrap ((addr : Int) + 4) = (((addr + 4) % 4294967296 : Nat) : Int) := by rw [IntKind.wrap_u32]; omega
  have hqa : w.heap.size < wa.heap.size := by rw [hwa]; simp
  have c1 : ¬ wa.heap.size = w.heap.size := by omega
  have c2 : ¬ w.heap.size = wa.heap.size := by omega
  have hVb := (nuV_bd zs hm.ok addr 1 (.inl rfl)).2
  have hwV : IntKind.i64.wrap ((nuV zs addr 1 : Nat) : Int) = ((nuV zs addr 1 : Nat) : Int) := by rw [IntKind.wrap_i64]; omega
  have HFIN : Hid (∀ (w1 W : World) (y0 y1 y2 : Value), ABox w1 w.heap.size 0 0 0 → Below w.heap.size w w1 → W = set3 w1 w.heap.size y0 y1 y2 → Below w.heap.size w W ∧ W.cell? ⟨w.heap.size, 0, none⟩ = some y0 ∧ W.cell? ⟨w.heap.size, 1, none⟩ = some y1 ∧ W.cell? ⟨w.heap.size, 2, none⟩ = some y2) := fun w1 W y0 y1 y2 h1 h2 hW => by
    have h4 := ab_setV h1 y0 y1 y2
    rw [← hW] at h4
    refine ⟨?_, by simp [World.cell?, h4]⟩
    rw [hW]
    exact ((h2.setCell (Nat.le_refl _) _).setCell (Nat.le_refl _) _).setCell (Nat.le_refl _) _
  unfold bgN
  clear hb0 ha0 ha0' hma hm
  by_cases h0 : addr + 1 ≤ zs.length
  · rw [if_pos h0]
    rw [tkV_ok h0, tkE_ok h0, tkP_ok h0] at HT1
    generalize nuV zs addr 1 = V at *
    generalize (addr + 1) % 4294967296 = A1 at *
    generalize (addr + 4) % 4294967296 = A4 at *
    by_cases e1 : V = 224
    · subst e1
      rw [if_pos rfl]
      go_enter Try.func28, Try.ntmps28
      go_upto_region 1 with fail
      rw [← hwa]
      clear hwa
      go_wp2_with (first | (go_at_call 34; refine HT1.out.mono ?_; rintro r w1 ⟨rfl, hx1, ha1, HB1⟩; obtain ⟨x0, x1, x2, -⟩ := tb_box hx1; obtain ⟨n0, n1, n2, f⟩ := ab_box ha1; have HA1 := hidden ha1; have f0 := f 0; have f1 := f 1; have f2 := f 2; clear hx1 ha1 f))
      obtain ⟨W, hW⟩ : ∃ W, W = set3 w1 w.heap.size (.int .i64 224) (.int .u32 A1) (.int .u32 0) := ⟨_, rfl⟩
      obtain ⟨hbW, y0, y1, y2⟩ := HFIN.out w1 W _ _ _ HA1.out HB1.out hW
      unfold set3 at hW
      rw [← hW]
      clear hW
      exact bodyPost_ret (v := .tuple #[.agg #[.int .i64 224, .int .u32 A1, .int .u32 0], .int .i64 0]) (by simp [results, Try.results28, go_sem, y0, y1, y2]) rfl ⟨rfl, hbW⟩
    by_cases e2 : V = 225
    · subst e2
      rw [if_neg (by decide), if_pos rfl]
      go_enter Try.func28, Try.ntmps28
      go_upto_region 1 with fail
      rw [← hwa]
      clear hwa
      go_wp2_with (first | (go_at_call 34; refine HT1.out.mono ?_; rintro r w1 ⟨rfl, hx1, ha1, HB1⟩; obtain ⟨x0, x1, x2, -⟩ := tb_box hx1; obtain ⟨n0, n1, n2, f⟩ := ab_box ha1; have HA1 := hidden ha1; have f0 := f 0; have f1 := f 1; have f2 := f 2; clear hx1 ha1 f))
      obtain ⟨W, hW⟩ : ∃ W, W = set3 w1 w.heap.size (.int .i64 225) (.int .u32 A1) (.int .u32 0) := ⟨_, rfl⟩
      obtain ⟨hbW, y0, y1, y2⟩ := HFIN.out w1 W _ _ _ HA1.out HB1.out hW
      unfold set3 at hW
      rw [← hW]
      clear hW
      exact bodyPost_ret (v := .tuple #[.agg #[.int .i64 225, .int .u32 A1, .int .u32 0], .int .i64 0]) (by simp [results, Try.results28, go_sem, y0, y1, y2]) rfl ⟨rfl, hbW⟩
    by_cases e3 : V = 226
    · subst e3
      rw [if_neg (by decide), if_neg (by decide), if_pos rfl]
      go_enter Try.func28, Try.ntmps28
      go_upto_region 1 with fail
      rw [← hwa]
      clear hwa
      go_wp2_with (first | (go_at_call 34; refine HT1.out.mono ?_; rintro r w1 ⟨rfl, hx1, ha1, HB1⟩; obtain ⟨x0, x1, x2, -⟩ := tb_box hx1; obtain ⟨n0, n1, n2, f⟩ := ab_box ha1; have HA1 := hidden ha1; have f0 := f 0; have f1 := f 1; have f2 := f 2; clear hx1 ha1 f))
      obtain ⟨W, hW⟩ : ∃ W, W = set3 w1 w.heap.size (.int .i64 226) (.int .u32 A4) (.int .u32 0) := ⟨_, rfl⟩
      obtain ⟨hbW, y0, y1, y2⟩ := HFIN.out w1 W _ _ _ HA1.out HB1.out hW
      unfold set3 at hW
      rw [← hW]
      clear hW
      exact bodyPost_ret (v := .tuple #[.agg #[.int .i64 226, .int .u32 A4, .int .u32 0], .int .i64 0]) (by simp [results, Try.results28, go_sem, y0, y1, y2]) rfl ⟨rfl, hbW⟩
    rw [if_neg e1, if_neg e2, if_neg e3]
    have b1 : ((V : Int) == 224) = false := by simp; omega
    have b2 : ((V : Int) == 225) = false := by simp; omega
    have b3 : ((V : Int) == 226) = false := by simp; omega
    go_enter Try.func28, Try.ntmps28
    go_upto_region 1 with fail
    rw [← hwa]
    clear hwa
    go_wp2_with (first | (go_at_call 34; refine HT1.out.mono ?_; rintro r w1 ⟨rfl, hx1, ha1, HB1⟩; obtain ⟨x0, x1, x2, -⟩ := tb_box hx1; obtain ⟨n0, n1, n2, f⟩ := ab_box ha1; have HA1 := hidden ha1; have f0 := f 0; have f1 := f 1; have f2 := f 2; clear hx1 ha1 f))
    obtain ⟨W, hW⟩ : ∃ W, W = set3 w1 w.heap.size (.int .i64 0) (.int .u32 0) (.int .u32 0) := ⟨_, rfl⟩
    obtain ⟨hbW, y0, y1, y2⟩ := HFIN.out w1 W _ _ _ HA1.out HB1.out hW
    unfold set3 at hW
    rw [← hW]
    clear hW
    exact bodyPost_ret (v := .tuple #[.agg #[.int .i64 0, .int .u32 0, .int .u32 0], .int .i64 120]) (by simp [results, Try.results28, go_sem, y0, y1, y2]) rfl ⟨rfl, hbW⟩
  · rw [if_neg h0]
    rw [tkV_no h0, tkE_no h0] at HT1
    generalize tkP zs addr 0 1 = P1 at *
    generalize nuV zs addr 1 = V at *
    go_enter Try.func28, Try.ntmps28
    go_upto_region 1 with fail
    rw [← hwa]
    clear hwa
    go_upto_region 4 with (first | (go_at_call 34; refine HT1.out.mono ?_; rintro r w1 ⟨rfl, hx1, ha1, HB1⟩; obtain ⟨x0, x1, x2, -⟩ := tb_box hx1; obtain ⟨n0, n1, n2, f⟩ := ab_box ha1; have HA1 := hidden ha1; have f0 := f 0; have f1 := f 1; have f2 := f 2; clear hx1 ha1 f))
    go_region
    go_wp2
    obtain ⟨W, hW⟩ : ∃ W, W = set3 w1 w.heap.size (.int .i64 0) (.int .u32 0) (.int .u32 0) := ⟨_, rfl⟩
    obtain ⟨hbW, y0, y1, y2⟩ := HFIN.out w1 W _ _ _ HA1.out HB1.out hW
    unfold set3 at hW
    rw [← hW]
    clear hW
    exact bodyPost_ret (v := .tuple #[.agg #[.int .i64 0, .int .u32 0, .int .u32 0], .int .i64 90]) (by simp [results, Try.results28, go_sem, y0, y1, y2]) rfl ⟨rfl, hbW.drew⟩
end Go.Proofs.Ytbifolpahmeaeaa
