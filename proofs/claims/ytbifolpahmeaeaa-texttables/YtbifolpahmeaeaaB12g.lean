/- Contract of package text's descend. -/
import Derived.Test.YtbifolpahmeaeaaB12h
namespace Go.Proofs.Ytbifolpahmeaeaa
open Go.RowKit
set_option maxHeartbeats 1000000
set_option maxRecDepth 100000
set_option linter.unusedVariables false

/-- the bit at a place: which of a branch's two nodes -/
def bitV (zs : List Int) (t : Ta) : Nat := (nuV zs t.ad 1 / 2 ^ t.bit) % 2
/-- where the bits lead: the error, the node, the place behind them -/
def dsR (zs : List Int) : Nat → Nat → Ta → Nat × Nat × Ta
  | f, node, t =>
    if node + 1 ≤ zs.length then
      if nuV zs node 1 ≠ 0 then (0, node, t)
      else match f with
        | 0 => (120, 0, ta0)
        | f + 1 =>
          if t.ad + 1 ≤ zs.length then
            if node + 1 + 4 * bitV zs t + 4 ≤ zs.length then dsR zs f (nuV zs (node + 1 + 4 * bitV zs t) 4) (bhd t)
            else (90, 0, ta0)
          else (90, 0, ta0)
    else (90, 0, ta0)
theorem take_new (w1 : World) (a : Option Addr) (n c p e k : Nat) (zs : List Int) (hm : Mem w1 a n c zs) (hk : k = 1 ∨ k = 4) (hp : p < 4294967296) :
    Calls Try.prog 34 #[.pointer (some ⟨w1.heap.size, 0, none⟩), .int .i64 k] (w1.alloc (.cells #[.slice a n c, .int .u32 p, .int .i64 e] 77)) fun r w' => r = .returned (.int .u32 (tkV zs p e k)) ∧ TBox w' w1.heap.size a n c (tkP zs p e k) (tkE zs p e k) ∧ Below w1.heap.size w1 w' := by
  have hb := al_below w1 (.cells #[.slice a n c, .int .u32 p, .int .i64 e] 77)
  refine (ttake_any w1.heap.size a n c p e k zs _ (tb_new w1 a n c p e) (hm.later hb) hk hp).mono ?_
  rintro r w' ⟨h1, h2, h3⟩
  exact ⟨h1, h2, hb.trans (h3.below hb.size (fun k e => by omega))⟩
/-- boxes of a call's own: a place, and the place that is to be told -/
structure Dx (w w' : World) (t : Ta) : Prop where
  at_ : ABox w' w.heap.size t.k t.ad t.bit
  n : ABox w' (w.heap.size + 1) 0 0 0
  below : Below w.heap.size w w'
theorem Dx.new (w : World) (t : Ta) : Dx w ((w.alloc (.cells #[.int .i64 t.k, .int .u32 t.ad, .int .u32 t.bit] 46)).alloc (.cells #[.int .i64 0, .int .u32 0, .int .u32 0] 46)) t := by
  have h0 := ab_new w t.k t.ad t.bit
  have h2 := ab_new (w.alloc (.cells #[.int .i64 t.k, .int .u32 t.ad, .int .u32 t.bit] 46)) 0 0 0
  refine ⟨h0.later (al_below _ _), ?_, ((Below.refl w.heap.size w).alloc (Nat.le_refl _) _).alloc (by simp) _⟩
  simpa using h2
theorem Dx.later {w w1 w2 : World} {t : Ta} (h : Dx w w1 t) (hb : Below w1.heap.size w1 w2) : Dx w w2 t := ⟨h.at_.later hb, h.n.later hb, h.below.trans (hb.mono h.below.size)⟩
theorem Dx.cells {w w1 : World} {t : Ta} (h : Dx w w1 t) : (w1.cell? ⟨w.heap.size, 0, none⟩ = some (.int .i64 t.k) ∧ w1.cell? ⟨w.heap.size, 1, none⟩ = some (.int .u32 t.ad) ∧ w1.cell? ⟨w.heap.size, 2, none⟩ = some (.int .u32 t.bit)) ∧ (w1.cell? ⟨w.heap.size + 1, 0, none⟩ = some (.int .i64 0) ∧ w1.cell? ⟨w.heap.size + 1, 1, none⟩ = some (.int .u32 0) ∧ w1.cell? ⟨w.heap.size + 1, 2, none⟩ = some (.int .u32 0)) ∧ (w1.frozen? ⟨w.heap.size, 0, none⟩ = false ∧ w1.frozen? ⟨w.heap.size, 1, none⟩ = false ∧ w1.frozen? ⟨w.heap.size, 2, none⟩ = false) ∧ (w1.frozen? ⟨w.heap.size + 1, 0, none⟩ = false ∧ w1.frozen? ⟨w.heap.size + 1, 1, none⟩ = false ∧ w1.frozen? ⟨w.heap.size + 1, 2, none⟩ = false) := by
  obtain ⟨a0, a1, a2, fa⟩ := ab_box h.at_
  obtain ⟨n0, n1, n2, fn⟩ := ab_box h.n
  exact ⟨⟨a0, a1, a2⟩, ⟨n0, n1, n2⟩, ⟨fa 0, fa 1, fa 2⟩, ⟨fn 0, fn 1, fn 2⟩⟩
theorem Dx.fin {w w2 : World} {t : Ta} (h : Dx w w2 t) (y0 y1 y2 : Value) (W : World) (hW : W = set3 w2 (w.heap.size + 1) y0 y1 y2) :
    Below w.heap.size w W ∧ W.cell? ⟨w.heap.size + 1, 0, none⟩ = some y0 ∧ W.cell? ⟨w.heap.size + 1, 1, none⟩ = some y1 ∧ W.cell? ⟨w.heap.size + 1, 2, none⟩ = some y2 := by
  have h4 := ab_setV h.n y0 y1 y2
  have hb := h.below
  have hb2 : Below w.heap.size w W := by
    rw [hW]
    exact ((hb.setCell (Nat.le_succ _) _).setCell (Nat.le_succ _) _).setCell (Nat.le_succ _) _
  rw [← hW] at h4
  refine ⟨hb2, ?_⟩
  simp [World.cell?, h4]
theorem Dx.put {w w2 : World} {t : Ta} (h : Dx w w2 t) (u : Ta) : Dx w (set3 w2 w.heap.size (.int .i64 u.k) (.int .u32 u.ad) (.int .u32 u.bit)) u := by
  refine ⟨ab_set h.at_ u.k u.ad u.bit, ?_, ((h.below.setCell (Nat.le_refl _) _).setCell (Nat.le_refl _) _).setCell (Nat.le_refl _) _⟩
  have hn : ∀ (wz : World) (jj : Nat) (u : Value), (wz.setCell ⟨w.heap.size, jj, none⟩ u).heap[w.heap.size + 1]? = wz.heap[w.heap.size + 1]? := fun wz jj u => heap_set wz _ jj _ u (by omega)
  unfold ABox set3
  rw [hn, hn, hn]
  exact h.n
theorem Dx.fr {w w1 w2 : World} {t : Ta} {R : Nat} (h : Dx w w1 t) (f : FR R w1 w2) (hR : w.heap.size + 1 < R) : Dx w w2 t :=
  ⟨h.at_.fr f (by omega), h.n.fr f (by omega), h.below.trans (f.below h.below.size (fun k e => by omega))⟩
theorem TBox.fr {w w' : World} {R q : Nat} {a : Option Addr} {n c p e : Nat} (h : TBox w R a n c p e) (f : FR q w w') (hq : R ≠ q) : TBox w' R a n c p e := (f.block _ h.lt hq).trans h
/-- what descend answers -/
def DRet (w : World) (D : Nat × Nat × Ta) (r : Ending) (w' : World) : Prop :=
  r = .returned (.tuple #[.int .u32 D.2.1, .agg #[.int .i64 D.2.2.k, .int .u32 D.2.2.ad, .int .u32 D.2.2.bit], .int .i64 D.1]) ∧ Below w.heap.size w w'
theorem bhd_ok {t : Ta} (h : t.ok) (hb : t.bit ≤ 7) : (bhd t).ok ∧ (bhd t).bit ≤ 7 := by
  obtain ⟨h1, h2, h3⟩ := h
  unfold bhd
  split
  · exact ⟨⟨h1, by simp only; omega, by simp only; omega⟩, by simp⟩
  · refine ⟨⟨h1, h2, by simp only; omega⟩, ?_⟩
    simp only
    omega
theorem and_u32 (a b : Nat) (ha : a < 4294967296) (hb : b < 4294967296) : Go.bits .and .u32 (a : Int) (b : Int) = ((a &&& b : Nat) : Int) := by
  have hx : a &&& b < 2 ^ 32 := Nat.and_lt_two_pow _ (by omega)
  have h1 : (BitVec.ofInt 32 (a : Int)).toNat = a := by
    rw [BitVec.ofInt_natCast, BitVec.toNat_ofNat]; exact Nat.mod_eq_of_lt (by omega)
  have h2 : (BitVec.ofInt 32 (b : Int)).toNat = b := by
    rw [BitVec.ofInt_natCast, BitVec.toNat_ofNat]; exact Nat.mod_eq_of_lt (by omega)
  show IntKind.u32.wrap ((BitVec.ofInt 32 (a : Int) &&& BitVec.ofInt 32 (b : Int)).toNat : Int) = _
  rw [BitVec.toNat_and, h1, h2, IntKind.wrap_u32]
  omega
theorem bit_and (V b : Nat) (hV : V < 4294967296) (hb : b ≤ 7) : Go.bits BinOp.and IntKind.u32 ((V : Int) / 2 ^ min b 32) 1 = ((V / 2 ^ b % 2 : Nat) : Int) := by
  have h1 : min b 32 = b := by omega
  rw [h1]
  have h2 : ((V : Int) / 2 ^ b) = ((V / 2 ^ b : Nat) : Int) := by
    rw [Int.natCast_ediv, Int.natCast_pow]; rfl
  rw [h2]
  have h3 : V / 2 ^ b < 4294967296 := Nat.lt_of_le_of_lt (Nat.div_le_self _ _) hV
  generalize V / 2 ^ b = X at *
  have h4 : (1 : Int) = ((1 : Nat) : Int) := rfl
  rw [h4, and_u32 X 1 h3 (by omega), Nat.and_one_is_mod]
theorem tdescend_any (t : Ta) (node : Nat) (a : Option Addr) (n c : Nat) (zs : List Int) (w : World) (hm : Mem w a n c zs) (ht : t.ok) (htb : t.bit ≤ 7) (hn : node < 4294967296) :
    Calls Try.prog 36 #[.slice a n c, .int .u32 node, .agg #[.int .i64 t.k, .int .u32 t.ad, .int .u32 t.bit]] w (DRet w (dsR zs 256 node t)) := by
  have HD0 := hidden (Dx.new w t)
  have HM := hidden hm
  have HOKZ := hidden hm.ok
  have hl := hm.len
  have hle := hm.le
  obtain ⟨D, hD⟩ : ∃ D, D = dsR zs 256 node t := ⟨_, rfl⟩
  rw [← hD]
  have HDD := hidden hD
  have HT0 := hidden (And.intro ht htb)
  clear hm hD ht htb
  go_enter Try.func36, Try.ntmps36
  go_upto_region 2 with fail
  go_loopw [1, 9] (fun nd br wr => ∃ (f nod : Nat) (u : Ta), f ≤ 256 ∧ nod < 4294967296 ∧ nd = .int .u32 nod ∧ br = .int .i64 ((256 : Int) - (f : Int)) ∧ Hid (u.ok ∧ u.bit ≤ 7) ∧ Hid (Dx w wr u) ∧ Hid (D = dsR zs f nod u)) (fun _ br _ => (256 - intOf br).toNat)
  case atStart => exact ⟨256, node, t, by omega, hn, rfl, rfl, HT0, HD0, HDD⟩
  case round =>
    obtain ⟨f, nod, u, hf, hnod, rfl, rfl, HU, HDX, HDQ⟩ := hrel
    clear HD0 HDD HT0 hn
    have HMR := hidden (HM.out.later HDX.out.below)
    have HT1 : Hid (Calls Try.prog 34 #[.pointer (some ⟨wr.heap.size, 0, none⟩), .int .i64 1] (wr.alloc (.cells #[.slice a n c, .int .u32 nod, .int .i64 0] 77)) fun r w' => r = .returned (.int .u32 (tkV zs nod 0 1)) ∧ TBox w' wr.heap.size a n c (tkP zs nod 0 1) (tkE zs nod 0 1) ∧ Below wr.heap.size wr w') := take_new wr a n c nod 0 1 zs HMR.out (.inl rfl) hnod
    by_cases hA : nod + 1 ≤ zs.length
    · rw [tkV_ok hA, tkP_ok hA, tkE_ok hA] at HT1
      by_cases hB : nuV zs nod 1 = 0
      · rw [hB] at HT1
        cases f with
        | zero =>
          have hD : D = (120, 0, ta0) := by
            rw [HDQ.out]
            unfold dsR
            rw [if_pos hA, if_neg (by simp [hB])]
          subst hD
          have hbr : ((256 : Int) - ((0 : Nat) : Int)) = 256 := rfl
          rw [hbr]
          go_wp2_with (first | (go_at_call 34; refine HT1.out.mono ?_; rintro r w1 ⟨rfl, hx1, hb1⟩; have HD1 := hidden (HDX.out.later hb1); obtain ⟨x0, x1, x2, -⟩ := tb_box hx1; obtain ⟨-, ⟨n0, n1, n2⟩, -, ⟨f0, f1, f2⟩⟩ := HD1.out.cells; clear hx1 hb1))
          obtain ⟨W, hW⟩ : ∃ W, W = set3 w1 (w.heap.size + 1) (.int .i64 0) (.int .u32 0) (.int .u32 0) := ⟨_, rfl⟩
          obtain ⟨hbW, y0, y1, y2⟩ := HD1.out.fin _ _ _ W hW
          unfold set3 at hW
          rw [← hW]
          exact bodyPost_ret (v := .tuple #[.int .u32 0, .agg #[.int .i64 0, .int .u32 0, .int .u32 0], .int .i64 120]) (by simp [results, Try.results36, go_sem, y0, y1, y2]) rfl ⟨rfl, hbW⟩
        | succ f =>
          have hbr : ((256 : Int) - ((f + 1 : Nat) : Int) == 256) = false := by simp; omega
          have hbr2 : ¬ ((256 : Int) - ((f + 1 : Nat) : Int)) = 256 := by omega
          have hwb : IntKind.i64.wrap ((256 : Int) - ((f + 1 : Nat) : Int) + 1) = (256 : Int) - (f : Int) := by rw [IntKind.wrap_i64]; omega
          generalize hBR : (256 : Int) - ((f + 1 : Nat) : Int) = BR at *
          have HBR := hidden hBR
          clear hBR
          go_upto_region 11 with (first | (go_at_call 34; refine HT1.out.mono ?_; rintro r w1 ⟨rfl, hx1, hb1⟩; have HD1 := hidden (HDX.out.later hb1); have HM1 := hidden (HMR.out.later hb1); obtain ⟨x0, x1, x2, -⟩ := tb_box hx1; obtain ⟨⟨a0, a1, a2⟩, -, -, -⟩ := HD1.out.cells; have HX1 := hidden hx1; clear hx1 hb1))
          go_upto_region 12 with fail
          have hba := al_below w1 (.cells #[.slice a n c, .int .u32 u.ad, .int .i64 0] 77)
          have HD2 := hidden (HD1.out.later hba)
          have HM2 := hidden (HM1.out.later hba)
          have HX2 := hidden (HX1.out.later hba)
          have HY2 : Hid (TBox (w1.alloc (.cells #[.slice a n c, .int .u32 u.ad, .int .i64 0] 77)) w1.heap.size a n c u.ad 0) := tb_new w1 a n c u.ad 0
          have HQ1 : Hid (wr.heap.size < w1.heap.size ∧ w.heap.size + 1 < w1.heap.size) := ⟨HX1.out.lt, HD1.out.n.lt⟩
          clear x0 x1 x2 a0 a1 a2 HD1 HM1 HX1 HT1 HDX HMR hba
          generalize w1.alloc (.cells #[.slice a n c, .int .u32 u.ad, .int .i64 0] 77) = w2 at *
          generalize w1.heap.size = q2 at *
          generalize wr.heap.size = q1 at *
          have HT2 : Hid (Calls Try.prog 34 #[.pointer (some ⟨q2, 0, none⟩), .int .i64 1] w2.drew fun r w' => r = .returned (.int .u32 (tkV zs u.ad 0 1)) ∧ Hid (TBox w' q2 a n c (tkP zs u.ad 0 1) (tkE zs u.ad 0 1)) ∧ Hid (TBox w' q1 a n c (nod + 1) 0) ∧ Hid (Dx w w' u) ∧ Hid (Mem w' a n c zs) ∧ w'.cell? ⟨w.heap.size, 2, none⟩ = some (.int .u32 u.bit)) := by
            have hbd : Below w2.heap.size w2 w2.drew := (Below.refl _ _).drew
            have hq := HQ1.out
            have hd := HD2.out.later hbd
            have hm2 := HM2.out.later hbd
            refine (ttake1 q2 a n c u.ad 0 zs w2.drew (HY2.out.later hbd) hm2 HU.out.1.2.1).mono ?_
            rintro r w' ⟨h1, h2, h3⟩
            have hd2 := hd.fr h3 hq.2
            exact ⟨h1, h2, (HX2.out.later hbd).fr h3 (by omega), hd2, HM.out.later hd2.below, hd2.cells.1.2.2⟩
          obtain ⟨⟨a0, a1, a2⟩, -, -, -⟩ := HD2.out.cells
          go_region_held3 (fun w' => w'.cell? ⟨w.heap.size, 2, none⟩ = some (.int .u32 u.bit)) (first | assumption | exact ⟨by assumption⟩ | go_keep) (first | (go_at_call 34; refine HT2.out.mono ?_; rintro r w3 ⟨rfl, HY3, HX3, HD3, HM3, b3⟩) | fail)
          have hbit := bit_and (tkV zs u.ad 0 1) u.bit (tkV_bd zs HOKZ.out _ _ _ (.inl rfl)) HU.out.2
          have hbl : tkV zs u.ad 0 1 / 2 ^ u.bit % 2 ≤ 1 := by omega
          generalize hBB : tkV zs u.ad 0 1 / 2 ^ u.bit % 2 = B at *
          have HBB := hidden hBB
          clear hBB
          obtain ⟨y0, y1, y2, -⟩ := tb_box HY3.out
          obtain ⟨x0, x1, x2, -⟩ := tb_box HX3.out
          have hwm : IntKind.u32.wrap ((B : Int) * 4) = ((4 * B : Nat) : Int) := by rw [IntKind.wrap_u32]; omega
          have hwa : IntKind.u32.wrap (((nod + 1 : Nat) : Int) + ((4 * B : Nat) : Int)) = ((nod + 1 + 4 * B : Nat) : Int) := by rw [IntKind.wrap_u32]; omega
          have HT3 : Hid (Calls Try.prog 34 #[.pointer (some ⟨w3.heap.size, 0, none⟩), .int .i64 4] (w3.alloc (.cells #[.slice a n c, .int .u32 ((nod + 1 + 4 * B : Nat) : Int), .int .i64 (tkE zs u.ad 0 1)] 77)) fun r w' => r = .returned (.int .u32 (tkV zs (nod + 1 + 4 * B) (tkE zs u.ad 0 1) 4)) ∧ TBox w' w3.heap.size a n c (tkP zs (nod + 1 + 4 * B) (tkE zs u.ad 0 1) 4) (tkE zs (nod + 1 + 4 * B) (tkE zs u.ad 0 1) 4) ∧ Below w3.heap.size w3 w') := take_new w3 a n c (nod + 1 + 4 * B) (tkE zs u.ad 0 1) 4 zs HM3.out (.inr rfl) (by omega)
          clear HY3 HX3 HT2 HY2 HX2 HD2 HM2 a0 a1 a2
          have HBV : Hid (u.ad + 1 ≤ zs.length → B = bitV zs u) := fun h => by
            rw [← HBB.out, tkV_ok h]; rfl
          by_cases hG : u.ad + 1 ≤ zs.length ∧ nod + 1 + 4 * B + 4 ≤ zs.length
          · obtain ⟨hG1, hG2⟩ := hG
            rw [tkE_ok hG1] at HT3 y2
            rw [tkV_ok hG2, tkE_ok hG2, tkP_ok hG2] at HT3
            have hNb := (nuV_bd zs HOKZ.out (nod + 1 + 4 * B) 4 (.inr rfl)).2
            have HDN : Hid (D = dsR zs f (nuV zs (nod + 1 + 4 * B) 4) (bhd u)) := by
              show D = _
              rw [HDQ.out]
              conv => lhs; unfold dsR
              rw [if_pos hA, if_neg (by simp [hB])]
              simp only
              rw [if_pos hG1, ← HBV.out hG1, if_pos hG2]
            generalize nuV zs (nod + 1 + 4 * B) 4 = N2 at *
            have HBH := hidden fun wx => tbehind_any u wx HU.out.1
            have HUN := hidden (bhd_ok HU.out.1 HU.out.2)
            generalize ((nod + 1 + 4 * B : Nat) : Int) = P3 at *
            generalize ((nod + 1 : Nat) : Int) = P2 at *
            generalize ((4 * B : Nat) : Int) = B4 at *
            go_wp2_with (first | (go_at_call 34; refine HT3.out.mono ?_; rintro r w4 ⟨rfl, hx4, hb4⟩; have HD4 := hidden (HD3.out.later hb4); obtain ⟨z0, z1, z2, -⟩ := tb_box hx4; obtain ⟨⟨a0, a1, a2⟩, -, -, -⟩ := HD4.out.cells; clear hx4 hb4) | (go_at_call 40; refine (HBH.out _).mono ?_; rintro r w5 ⟨rfl, hb5⟩; have HD5 := hidden (HD4.out.later hb5); obtain ⟨⟨a0, a1, a2⟩, -, ⟨g0, g1, g2⟩, -⟩ := HD5.out.cells; clear hb5))
            go_roundw
            case rel =>
              exact ⟨f, N2, bhd u, by omega, hNb, rfl, rfl, HUN, HD5.out.put (bhd u), HDN⟩
            case measure => have := HBR.out; simp [intOf]; omega
          · have hE3 : tkE zs (nod + 1 + 4 * B) (tkE zs u.ad 0 1) 4 = 90 ∧ tkV zs (nod + 1 + 4 * B) (tkE zs u.ad 0 1) 4 = 0 ∧ D = (90, 0, ta0) := by
              by_cases hG1 : u.ad + 1 ≤ zs.length
              · have hG2 : ¬ nod + 1 + 4 * B + 4 ≤ zs.length := fun h => hG ⟨hG1, h⟩
                rw [tkE_ok hG1]
                refine ⟨tkE_no hG2, tkV_no hG2, ?_⟩
                rw [HDQ.out]
                conv => lhs; unfold dsR
                rw [if_pos hA, if_neg (by simp [hB])]
                simp only
                rw [if_pos hG1, ← HBV.out hG1, if_neg hG2]
              · rw [tkE_no hG1]
                obtain ⟨k1, k2, _⟩ := tk_err (zs := zs) (p := nod + 1 + 4 * B) (e := 90) (k := 4) (by decide)
                refine ⟨k1, k2, ?_⟩
                rw [HDQ.out]
                conv => lhs; unfold dsR
                rw [if_pos hA, if_neg (by simp [hB])]
                simp only
                rw [if_neg hG1]
            obtain ⟨e1, e2, e3⟩ := hE3
            rw [e1, e2] at HT3
            subst e3
            clear hG e1 e2 HDQ
            generalize tkP zs (nod + 1 + 4 * B) (tkE zs u.ad 0 1) 4 = P4 at *
            generalize tkE zs u.ad 0 1 = E2 at *
            generalize ((nod + 1 + 4 * B : Nat) : Int) = P3 at *
            generalize ((nod + 1 : Nat) : Int) = P2 at *
            generalize ((4 * B : Nat) : Int) = B4 at *
            go_upto_region 16 with (first | (go_at_call 34; refine HT3.out.mono ?_; rintro r w4 ⟨rfl, hx4, hb4⟩; have HD4 := hidden (HD3.out.later hb4); obtain ⟨z0, z1, z2, -⟩ := tb_box hx4; obtain ⟨-, ⟨n0, n1, n2⟩, -, ⟨f0, f1, f2⟩⟩ := HD4.out.cells; have HN4 := hidden hx4.lt; clear hx4 hb4))
            have hq3 : w.heap.size + 1 < w3.heap.size := HD3.out.n.lt
            have c1 : ¬ w3.heap.size = w.heap.size + 1 := by omega
            have c2 : ¬ w.heap.size + 1 = w3.heap.size := by omega
            go_region
            go_wp2
            obtain ⟨W, hW⟩ : ∃ W, W = set3 w4 (w.heap.size + 1) (.int .i64 0) (.int .u32 0) (.int .u32 0) := ⟨_, rfl⟩
            obtain ⟨hbW, y0, y1, y2⟩ := HD4.out.fin _ _ _ W hW
            unfold set3 at hW
            rw [← hW]
            exact bodyPost_ret (v := .tuple #[.int .u32 0, .agg #[.int .i64 0, .int .u32 0, .int .u32 0], .int .i64 90]) (by simp [results, Try.results36, go_sem, y0, y1, y2]) rfl ⟨rfl, hbW.drew⟩
      · have hD : D = (0, nod, u) := by
          rw [HDQ.out]
          unfold dsR
          rw [if_pos hA, if_pos hB]
        subst hD
        have hB2 : (((nuV zs nod 1 : Nat) : Int) == 0) = false := by simp; omega
        have hB3 : ¬ ((nuV zs nod 1 : Nat) : Int) = 0 := by omega
        clear hB
        generalize nuV zs nod 1 = K at *
        generalize (256 : Int) - (f : Int) = BR at *
        go_upto_region 8 with (first | (go_at_call 34; refine HT1.out.mono ?_; rintro r w1 ⟨rfl, hx1, hb1⟩; have HD1 := hidden (HDX.out.later hb1); obtain ⟨x0, x1, x2, -⟩ := tb_box hx1; obtain ⟨⟨a0, a1, a2⟩, ⟨n0, n1, n2⟩, -, ⟨f0, f1, f2⟩⟩ := HD1.out.cells; clear hx1 hb1))
        go_region
        go_wp2
        obtain ⟨W, hW⟩ : ∃ W, W = set3 w1 (w.heap.size + 1) (.int .i64 u.k) (.int .u32 u.ad) (.int .u32 u.bit) := ⟨_, rfl⟩
        obtain ⟨hbW, y0, y1, y2⟩ := HD1.out.fin _ _ _ W hW
        unfold set3 at hW
        rw [← hW]
        exact bodyPost_ret (v := .tuple #[.int .u32 nod, .agg #[.int .i64 u.k, .int .u32 u.ad, .int .u32 u.bit], .int .i64 0]) (by simp [results, Try.results36, go_sem, y0, y1, y2]) rfl ⟨rfl, hbW.drew⟩
    · have hD : D = (90, 0, ta0) := by
        rw [HDQ.out]
        unfold dsR
        rw [if_neg hA]
      subst hD
      rw [tkV_no hA, tkE_no hA] at HT1
      generalize tkP zs nod 0 1 = P1 at *
      generalize (256 : Int) - (f : Int) = BR at *
      go_upto_region 6 with (first | (go_at_call 34; refine HT1.out.mono ?_; rintro r w1 ⟨rfl, hx1, hb1⟩; have HD1 := hidden (HDX.out.later hb1); obtain ⟨x0, x1, x2, -⟩ := tb_box hx1; obtain ⟨-, ⟨n0, n1, n2⟩, -, ⟨f0, f1, f2⟩⟩ := HD1.out.cells; clear hx1 hb1))
      have hq3 : w.heap.size + 1 < wr.heap.size := HDX.out.n.lt
      have c1 : ¬ wr.heap.size = w.heap.size + 1 := by omega
      have c2 : ¬ w.heap.size + 1 = wr.heap.size := by omega
      go_region
      go_wp2
      obtain ⟨W, hW⟩ : ∃ W, W = set3 w1 (w.heap.size + 1) (.int .i64 0) (.int .u32 0) (.int .u32 0) := ⟨_, rfl⟩
      obtain ⟨hbW, y0, y1, y2⟩ := HD1.out.fin _ _ _ W hW
      unfold set3 at hW
      rw [← hW]
      exact bodyPost_ret (v := .tuple #[.int .u32 0, .agg #[.int .i64 0, .int .u32 0, .int .u32 0], .int .i64 90]) (by simp [results, Try.results36, go_sem, y0, y1, y2]) rfl ⟨rfl, hbW.drew⟩
end Go.Proofs.Ytbifolpahmeaeaa
