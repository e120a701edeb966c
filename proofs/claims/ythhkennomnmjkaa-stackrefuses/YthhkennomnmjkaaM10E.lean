/- The document's stack: Load. The document's stack: Throw. The document's stack: a byte of its row stored; SetLocal. The document's Put of one byte, of two; as one. The document's stack: SetLocal. The document's stack: Args. -/
import Derived.Test.YthhkennomnmjkaaM10C
import Derived.Test.YthhkennomnmjkaaM10B
import Derived.Test.YthhkennomnmjkaaM10D
import Derived.Test.YthhkennomnmjkaaH7r
import Derived.Test.YthhkennomnmjkaaS10b
namespace Go.Proofs.Ythhkennomnmjkaa
open Go.RowKit
set_option maxHeartbeats 1000000
set_option maxRecDepth 100000
set_option linter.unusedVariables false

/-- a row of bytes lies in no such stack's box -/
theorem DAt.reads_ne {B : Nat} {w : World} {m : Nat} {v : Value} {s : Ks} (h : DAt B w m v s) {x : Addr} {n c : Nat} {zs : List Int} (hr : Reads w (some x) n c zs) (hn : 0 < n) : x.block ≠ m := by
  obtain ⟨g, o, e, hB⟩ := hr.bs hn
  cases e
  have hc := hB.2 0 hn
  rintro e
  simp only at e
  subst e
  unfold World.cell? at hc
  rw [h.box] at hc
  simp only [Nat.add_zero] at hc
  match o, hc with
  | 0, hc =>
    obtain ⟨a', c', rfl⟩ := own_slice8 h.row
    simp at hc
  | 1, hc => simp at hc
  | 2, hc => simp at hc
  | 3, hc => simp at hc
  | o + 4, hc => simp at hc
theorem loadE_eq (s : Ks) (zs : List Int) : loadE s zs = if rightE zs s.size = true then 0 else 102 := by
  unfold loadE rightE
  simp
theorem dLoad_any (B m : Nat) (v : Value) (s : Ks) (w : World) (h : DAt B w m v s) (hB : B ≤ w.heap.size) (hsz : s.size ≤ 65536) (a : Option Addr) (L c : Nat) (zs : List Int) (hr : Reads w a L c zs) (hb : OkB zs) (hL : L ≤ 100000) :
    Calls Try.prog 78 #[.pointer (some ⟨m, 0, none⟩), .slice a L c] w fun e w' => e = .returned (.int .i64 (loadE s zs)) ∧ LeftD B w w' m v (loadS s zs) := by
  have hl := hr.1
  obtain ⟨a0, c0, rfl, dc⟩ := h.dc
  have k1 := dc.c1
  have HI := hidden (dright_any a L c s.size zs w hr hb hL (by omega))
  unfold loadS
  rw [loadE_eq]
  cases hre : rightE zs s.size with
  | false =>
    rw [if_neg (by decide), if_neg (by decide)]
    rw [hre] at HI
    have HK := hidden h
    clear h dc hr hb
    go_enter Try.func78, Try.ntmps78
    go_wp2_with (first | (go_at_call 90; refine HI.out.mono ?_; rintro e w1 ⟨rfl, hb1⟩))
    go_ret
    exact ⟨rfl, LeftD.same HK.out hb1⟩
  | true =>
    rw [if_pos rfl, if_pos rfl]
    rw [hre] at HI
    have hrb : rightB zs = true := by
      unfold rightE at hre
      simp only [Bool.and_eq_true] at hre
      exact hre.2
    obtain ⟨g1, g2, g3⟩ := (rightB_iff zs).1 hrb
    have HRD : Hid (∀ w1, Below w.heap.size w w1 → Reads w1 a L c zs) := fun w1 hb1 => hr.later hb1
    have HF : Hid (∀ (w1 w2 : World) (g c' : Nat), Below w.heap.size w w1 → Below w1.heap.size w1 w2 → w2.ownsRow w1.heap.size 5 1 (.slice (some ⟨g, 0, none⟩) L c') L (bytesV zs) →
        (w2.cell? ⟨m, 0, none⟩ = some (.slice a0 s.bs.length c0) ∧ w2.frozen? ⟨m, 0, none⟩ = false) ∧ (DAt B (w2.setCell ⟨m, 0, none⟩ (.slice (some ⟨g, 0, none⟩) L c')) m (.slice (some ⟨g, 0, none⟩) L c') { s with bs := zs }) ∧ Fm w (w2.setCell ⟨m, 0, none⟩ (.slice (some ⟨g, 0, none⟩) L c')) (TK m (.slice a0 s.bs.length c0)) (TK m (.slice (some ⟨g, 0, none⟩) L c'))) := fun w1 w2 g c' hb1 hb2 ho => by
      have h1 := h.later hb1
      obtain ⟨p1, p2⟩ := h1.fresh (Nat.le_trans hB hb1.size) hb2 (zs := zs) (by rw [hl]; exact ho)
      obtain ⟨t0, _, _, _, tf⟩ := (h1.later hb2).cells
      exact ⟨⟨t0, tf 0⟩, p1, (Fm.same hb1).trans p2⟩
    have HA : Hid (∀ (wz : World) (vz : Value) (cz gz : Nat), vz = .slice (some ⟨gz, 0, none⟩) L cz → DAt B wz m vz { s with bs := zs } → Calls Try.prog 67 #[.pointer (some ⟨m, 0, none⟩), .int .i64 ((L - 4 : Nat) : Int)] wz fun e w' => e = .returned (.int .i64 (nu zs (L - 4))) ∧ w' = wz) := fun wz vz cz gz e hd => by
      subst e
      have hrow := hd.row
      simp only [hl] at hrow
      exact dat_any m (L - 4) _ L cz zs wz hd.cells.1 (own_reads hrow) hb (by omega) (by omega)
    rw [show ((L - 4 : Nat) : Int) = (L : Int) - 4 by omega] at HA
    have hw4 : IntKind.i64.wrap ((L : Int) - 4) = (L : Int) - 4 := by rw [IntKind.wrap_i64]; omega
    rw [hl]
    have HE : Hid (∀ (wz : World) (vz : Value), DAt B wz m vz { s with bs := zs } → Fm w wz (TK m (.slice a0 s.bs.length c0)) (TK m vz) → (wz.cell? ⟨m, 2, none⟩ = some (.int .i64 s.fr) ∧ wz.frozen? ⟨m, 2, none⟩ = false ∧ wz.cell? ⟨m, 3, none⟩ = some (.bool s.on) ∧ wz.frozen? ⟨m, 3, none⟩ = false) ∧ LeftD B w ((wz.setCell ⟨m, 2, none⟩ (.int .i64 (nu zs (L - 4)))).setCell ⟨m, 3, none⟩ (.bool true)) m (.slice a0 s.bs.length c0) ⟨s.size, zs, nu zs (L - 4), true⟩) := fun wz vz hd f => by
      obtain ⟨p1, p2⟩ := hd.set2 (nu zs (L - 4))
      obtain ⟨q1, q2⟩ := p1.set3 true
      obtain ⟨_, _, t2, t3, tf⟩ := hd.cells
      exact ⟨⟨t2, tf 2, t3, tf 3⟩, vz, q1, (f.trans p2).trans q2⟩
    clear h dc hr hb g1 g2 g3 hrb hre hl
    generalize nu zs (L - 4) = N at *
    go_enter Try.func78, Try.ntmps78
    go_wp2_with (first | (go_at_call 90; refine HI.out.mono ?_; rintro e w1 ⟨rfl, hb1⟩) | (at_builtin; refine wpList_copyOf (w0 := w1) rfl _ _ rfl L c a zs rfl rfl (HRD.out _ hb1) (by omega) ?_; intro g1 c1 w2 ho1 hb2; obtain ⟨⟨q0, qf⟩, p1, p2⟩ := HF.out _ _ _ _ hb1 hb2 ho1; have G := hidden (And.intro p1 p2); clear p1 p2 ho1))
    generalize hW : w2.setCell ⟨m, 0, none⟩ (.slice (some ⟨g1, 0, none⟩) L c1) = w6 at *
    clear hW
    obtain ⟨⟨t2, tf2, t3, tf3⟩, hlf⟩ := HE.out _ _ G.out.1 G.out.2
    have HLF := hidden hlf
    refine (HA.out _ _ _ _ rfl G.out.1).mono ?_
    rintro e w7 ⟨rfl, rfl⟩
    go_wp2
    go_ret
    exact ⟨rfl, HLF.out⟩
end Go.Proofs.Ythhkennomnmjkaa
namespace Go.Proofs.Ythhkennomnmjkaa
open Go.RowKit
set_option maxHeartbeats 1000000
set_option maxRecDepth 100000
set_option linter.unusedVariables false

theorem dThrow_bad (B m : Nat) (v : Value) (s : Ks) (w : World) (h : DAt B w m v s) (hmo : s.bs.length ≤ 65536) (t : Nat) (ht : t < 4294967296) (hbad : ¬ (s.on = true ∧ t % 4 = 0 ∧ 16 ≤ t ∧ t ≤ s.bs.length)) :
    Calls Try.prog 75 #[.pointer (some ⟨m, 0, none⟩), .int .u32 t] w fun e w' => e = .returned (.int .i64 104) ∧ w' = w := by
  obtain ⟨a, c, rfl, dc⟩ := h.dc
  have k3 := dc.c3
  have k0 := dc.c0
  have hmt : (t : Int).tmod 4 = ((t % 4 : Nat) : Int) := by rw [Int.tmod_eq_emod_of_nonneg (by omega)]; omega
  have hwm : IntKind.i64.wrap ((t % 4 : Nat) : Int) = ((t % 4 : Nat) : Int) := by rw [IntKind.wrap_i64]; omega
  have hwt : IntKind.i64.wrap (t : Int) = (t : Int) := by rw [IntKind.wrap_i64]; omega
  clear h dc
  cases hon : s.on with
  | false =>
    rw [hon] at k3
    clear hbad
    go_enter Try.func75, Try.ntmps75
    go_wp2
    go_ret
    exact ⟨rfl, rfl⟩
  | true =>
    rw [hon] at k3
    by_cases h4 : t % 4 = 0
    · rw [h4] at hmt hwm
      by_cases h16 : 16 ≤ t
      · have hL : ¬ t ≤ s.bs.length := fun e => hbad ⟨hon, h4, h16, e⟩
        have d1 : ¬ (t : Int) < 16 := by omega
        have d2 : (t : Int) > (s.bs.length : Int) := by omega
        clear hbad
        generalize s.bs.length = L at *
        go_enter Try.func75, Try.ntmps75
        go_wp2
        go_ret
        exact ⟨rfl, rfl⟩
      · have d1 : (t : Int) < 16 := by omega
        clear hbad
        go_enter Try.func75, Try.ntmps75
        go_wp2
        go_ret
        exact ⟨rfl, rfl⟩
    · clear hbad
      generalize t % 4 = X at *
      have q1 : ((X : Int) == 0) = false := by simp; omega
      have q2 : ¬ (X : Int) = 0 := by omega
      go_enter Try.func75, Try.ntmps75
      go_wp2
      go_ret
      exact ⟨rfl, rfl⟩
theorem dThrow_good (B m : Nat) (v : Value) (s : Ks) (w : World) (h : DAt B w m v s) (hB : B ≤ w.heap.size) (ok : OkK s) (t : Nat) (ht : t < 4294967296) (hon : s.on = true) (h4 : t % 4 = 0) (h16 : 16 ≤ t) (htL : t ≤ s.bs.length) :
    Calls Try.prog 75 #[.pointer (some ⟨m, 0, none⟩), .int .u32 t] w fun e w' => e = .returned (.int .i64 (thrE s t)) ∧ LeftD B w w' m v (thrS s t) := by
  have hmo := ok.most
  have hsz := ok.sz
  have hbd := ok.bd hon
  obtain ⟨a, c, rfl, dc⟩ := h.dc
  obtain ⟨g0, rfl⟩ := DC.isSome (w := w) (m := m) h (by omega)
  have HC := hidden (h.cut hB t htL)
  have hcc : s.bs.length ≤ c := (own_reads h.row).2.1
  have k0 := dc.c0
  have k2 := dc.c2
  have k3 := dc.c3
  rw [hon] at k3
  have HA : Hid (∀ (q p : Nat), p + 4 ≤ s.bs.length → Calls Try.prog 67 #[.pointer (some ⟨m, 0, none⟩), .int .i64 p] (w.drewN q) fun e w' => e = .returned (.int .i64 (nu s.bs p)) ∧ w' = w.drewN q) := fun q p hp => dat_any m p _ _ c s.bs _ (dc.later (Dr.below ⟨q, rfl⟩)).c0 (dc.later (Dr.below ⟨q, rfl⟩)).rd ok.okb hp (by omega)
  have HNL : Hid (∀ p, nu s.bs p < 4294967296) := fun p => nu_lt ok.okb p
  have hc0 := ok.cur hon
  have hmt : (t : Int).tmod 4 = 0 := by rw [Int.tmod_eq_emod_of_nonneg (by omega)]; omega
  have hwm : IntKind.i64.wrap 0 = 0 := by rw [IntKind.wrap_i64]; omega
  have hwt : IntKind.i64.wrap (t : Int) = (t : Int) := by rw [IntKind.wrap_i64]; omega
  have hw4 : IntKind.i64.wrap ((t : Int) - 4) = (t : Int) - 4 := by rw [IntKind.wrap_i64]; omega
  have d1 : ¬ (t : Int) < 16 := by omega
  have d2 : ¬ (t : Int) > (s.bs.length : Int) := by omega
  have d3 : ¬ s.bs.length < t := by omega
  have hTE : thrE s t = if thrB s.bs t (nu s.bs (t - 4)) s.bs.length s.fr s.bs.length = true then 0 else 104 := by unfold thrE; rw [if_pos ⟨hon, h4, h16, htL⟩]
  have HK := hidden h
  have HT4 : Hid (∀ q, Calls Try.prog 67 #[.pointer (some ⟨m, 0, none⟩), .int .i64 ((t : Int) - 4)] (w.drewN q) fun e w' => e = .returned (.int .i64 (nu s.bs (t - 4))) ∧ w' = w.drewN q) := fun q => by
    have := HA.out q (t - 4) (by omega)
    rwa [show ((t - 4 : Nat) : Int) = (t : Int) - 4 by omega] at this
  have HFIR : Hid (thrB s.bs t (nu s.bs (t - 4)) s.bs.length s.fr s.bs.length = true ↔ thrB s.bs t (nu s.bs (t - 4)) (s.fr + 1) s.fr s.bs.length = true) := by
    show _ ↔ _
    rw [thrB_fuel s.bs t (nu s.bs (t - 4)) s.bs.length (s.fr + 1) s.fr s.bs.length _ hc0 (by omega) (by omega)]
  have hgl := HNL.out (t - 4)
  unfold thrS
  rw [hTE]
  generalize hTT : thrB s.bs t (nu s.bs (t - 4)) s.bs.length s.fr s.bs.length = TT at *
  generalize hg : nu s.bs (t - 4) = g at *
  have HG := hidden hg
  have HCH := hidden hc0
  clear dc ok hTE hTT hg hc0 h hbd
  have HL := hidden (show s.bs.length ≤ 65536 by omega)
  generalize hLL : s.bs.length = L at *
  clear hLL
  go_enter Try.func75, Try.ntmps75
  go_wp2
  go_quiet (fail)
  all_goals (try go_wp2)
  go_loopw [6, 7] (fun f_ e_ wr => ∃ (f e u : Nat), f_ = .int .i64 f ∧ e_ = .int .i64 e ∧ wr = w.drewN nq ∧ Hid (Chn s.bs f u ∧ u ≤ e ∧ e ≤ L ∧ (TT = true ↔ thrB s.bs t g (f + 1) f e = true))) (fun f_ _ _ => (intOf f_).toNat)
  case atStart => exact ⟨s.fr, L, L, rfl, rfl, rfl, HCH.out, Nat.le_refl _, Nat.le_refl _, HFIR.out⟩
  case round =>
    obtain ⟨f, e, u, rfl, rfl, rfl, HI⟩ := hrel
    have hbd := HI.out.1.fr.bd
    have hue := HI.out.2.1
    have heL := HI.out.2.2.1
    have HT5 := hidden (HT4.out nq)
    have hb1 : Below w.heap.size w (w.drewN nq) := Dr.below ⟨nq, rfl⟩
    have x0 := cellLater hb1 k0
    by_cases hfg : f = g
    · subst hfg
      have q1 : ((f : Int) != (f : Int)) = false := by simp
      have HAF := hidden (HA.out nq f (by omega))
      have hNl := HNL.out f
      have HTT : Hid (TT = true ↔ f + nu s.bs f + 16 ≤ t ∧ t ≤ e) := HI.out.2.2.2.trans (by
        rw [thrB, if_pos rfl]; simp)
      generalize nu s.bs f = N at *
      have w1 : IntKind.i64.wrap ((f : Int) + (N : Int)) = (f : Int) + (N : Int) := by rw [IntKind.wrap_i64]; omega
      have w2 : IntKind.i64.wrap ((f : Int) + (N : Int) + 16) = (f : Int) + (N : Int) + 16 := by rw [IntKind.wrap_i64]; omega
      by_cases c1 : f + N + 16 ≤ t
      · have v1 : ¬ (f : Int) + (N : Int) + 16 > (t : Int) := by omega
        by_cases c2 : t ≤ e
        · have v2 : ¬ (t : Int) > (e : Int) := by omega
          have v3 : ¬ e < t := by omega
          have e1 : TT = true := HTT.out.2 ⟨c1, c2⟩
          subst e1
          have htc : t ≤ c := by omega
          have HEN : Hid (∀ (wz : World) (v1 : Value), DAt B wz m v1 { s with bs := s.bs.take t } → Fm w wz (TK m (.slice (some ⟨g0, 0, none⟩) L c)) (TK m v1) → (wz.cell? ⟨m, 2, none⟩ = some (.int .i64 s.fr) ∧ wz.frozen? ⟨m, 2, none⟩ = false) ∧ LeftD B w (wz.setCell ⟨m, 2, none⟩ (.int .i64 f)) m (.slice (some ⟨g0, 0, none⟩) L c) ⟨s.size, s.bs.take t, f, true⟩) := fun wz v1 hd fm => by
            obtain ⟨p1, p2⟩ := hd.set2 f
            obtain ⟨_, _, t2, t3, tf⟩ := hd.cells
            refine ⟨⟨t2, tf 2⟩, v1, ?_, fm.trans p2⟩
            have : ({ s with bs := s.bs.take t, fr := f } : Ks) = ⟨s.size, s.bs.take t, f, true⟩ := by simp [hon]
            rw [← this]
            exact p1
          have HBX := hidden hb1
          have HTL := hidden htL
          clear HI HCH HFIR HNL HTT hbd hue heL HT4 HA HG HK hon c1 c2
          generalize w.drewN nq = w5 at *
          have xa : (w5.alloc (.cells #[] 5)).cell? ⟨m, 0, none⟩ = some (.slice (some ⟨g0, 0, none⟩) L c) := cellLater ((Below.refl _ _).alloc (Nat.le_refl _) _) x0
          have HRD := hidden (HC.out.rd _ HBX.out)
          go_wp2_with (first | (go_at_call 67; first | ((with_reducible refine HT5.out.mono ?_); rintro e' wA ⟨rfl, eA⟩; rw [eA]; clear eA) | ((with_reducible refine HAF.out.mono ?_); rintro e' wA ⟨rfl, eA⟩; rw [eA]; clear eA)) | (at_builtin; refine wpList_copyOf (w0 := w5) rfl _ _ rfl t c (some ⟨g0, 0, none⟩) (s.bs.take t) rfl rfl HRD.out (by omega) ?_; intro g1 c1 w6 ho1 hb2; obtain ⟨⟨q0, qf⟩, p1, p2⟩ := HC.out.st w6 g1 c1 (HBX.out.trans (hb2.mono HBX.out.size)) (own_base ho1 HBX.out.size); obtain ⟨⟨t2, tf2⟩, hlf⟩ := HEN.out _ _ p1 p2; have HLF := hidden hlf; clear p1 p2 ho1 hlf))
          go_ret
          exact ⟨rfl, HLF.out⟩
        · have v2 : (t : Int) > (e : Int) := by omega
          have v3 : e < t := by omega
          have e1 : TT = false := by cases hT : TT with
            | false => rfl
            | true => exact absurd (HTT.out.1 hT).2 c2
          subst e1
          clear HI HCH HFIR HNL HTT hbd hue heL HT4 HA HG
          go_wp2_with (first | (go_at_call 67; first | ((with_reducible refine HT5.out.mono ?_); rintro e' wA ⟨rfl, eA⟩; rw [eA]; clear eA) | ((with_reducible refine HAF.out.mono ?_); rintro e' wA ⟨rfl, eA⟩; rw [eA]; clear eA)))
          go_ret
          exact ⟨rfl, LeftD.same HK.out hb1⟩
      · have v1 : (f : Int) + (N : Int) + 16 > (t : Int) := by omega
        have e1 : TT = false := by cases hT : TT with
          | false => rfl
          | true => exact absurd (HTT.out.1 hT).1 c1
        subst e1
        clear HI HCH HFIR HNL HTT hbd hue heL HT4 HA HG
        go_wp2_with (first | (go_at_call 67; first | ((with_reducible refine HT5.out.mono ?_); rintro e' wA ⟨rfl, eA⟩; rw [eA]; clear eA) | ((with_reducible refine HAF.out.mono ?_); rintro e' wA ⟨rfl, eA⟩; rw [eA]; clear eA)))
        go_ret
        exact ⟨rfl, LeftD.same HK.out hb1⟩
    · have q1 : ((f : Int) != (g : Int)) = true := by simp; omega
      have q2 : ((f : Int) == (g : Int)) = false := by simp; omega
      have q3 : ¬ (f : Int) = (g : Int) := by omega
      by_cases h0 : f = 0
      · subst h0
        have e1 : TT = false := by cases hT : TT with
          | false => rfl
          | true =>
            have := (thr_zero s.bs t g e).1 (HI.out.2.2.2.1 hT)
            exact absurd this.1 hfg
        subst e1
        clear HI HCH HFIR HNL hbd hue heL HT4 HA HG
        go_wp2_with (first | (go_at_call 67; first | ((with_reducible refine HT5.out.mono ?_); rintro e' wA ⟨rfl, eA⟩; rw [eA]; clear eA)))
        go_ret
        exact ⟨rfl, LeftD.same HK.out hb1⟩
      · have z1 : ((f : Int) == 0) = false := by simp; omega
        have z2 : ¬ (f : Int) = 0 := by omega
        obtain ⟨g1, g2, g3⟩ := HI.out.1.lt h0
        have HAF : Hid (Calls Try.prog 67 #[.pointer (some ⟨m, 0, none⟩), .int .i64 ((f : Int) - 4)] (w.drewN nq) fun e w' => e = .returned (.int .i64 (nu s.bs (f - 4))) ∧ w' = w.drewN nq) := by
          have := HA.out nq (f - 4) (by omega)
          rwa [show ((f - 4 : Nat) : Int) = (f : Int) - 4 by omega] at this
        have wf4 : IntKind.i64.wrap ((f : Int) - 4) = (f : Int) - 4 := by rw [IntKind.wrap_i64]; omega
        have HNX : Hid (Chn s.bs (nu s.bs (f - 4)) (f - 16) ∧ f - 16 ≤ f ∧ f ≤ L ∧ (TT = true ↔ thrB s.bs t g (nu s.bs (f - 4) + 1) (nu s.bs (f - 4)) f = true)) := ⟨g3, by omega, by omega, HI.out.2.2.2.trans ((thr_step s.bs t g f e u HI.out.1 h0).trans ⟨fun h => h.elim (fun k => absurd k.1 hfg) id, .inr⟩)⟩
        have hlt : nu s.bs (f - 4) < f := by omega
        clear HI HCH HFIR HNL hbd hue heL HT4 HA HG g1 g2 g3
        generalize nu s.bs (f - 4) = X at *
        go_wp2_with (first | (go_at_call 67; first | ((with_reducible refine HT5.out.mono ?_); rintro e' wA ⟨rfl, eA⟩; rw [eA]; clear eA) | ((with_reducible refine HAF.out.mono ?_); rintro e' wA ⟨rfl, eA⟩; rw [eA]; clear eA)))
        go_roundw
        case rel => exact ⟨X, f, f - 16, rfl, rfl, trivial, HNX⟩
        case measure => simp [intOf]; omega
theorem dThrow_any (B m : Nat) (v : Value) (s : Ks) (w : World) (h : DAt B w m v s) (hB : B ≤ w.heap.size) (ok : OkK s) (t : Nat) (ht : t < 4294967296) :
    Calls Try.prog 75 #[.pointer (some ⟨m, 0, none⟩), .int .u32 t] w fun e w' => e = .returned (.int .i64 (thrE s t)) ∧ LeftD B w w' m v (thrS s t) := by
  by_cases hg : s.on = true ∧ t % 4 = 0 ∧ 16 ≤ t ∧ t ≤ s.bs.length
  · exact dThrow_good B m v s w h hB ok t ht hg.1 hg.2.1 hg.2.2.1 hg.2.2.2
  · have e : thrE s t = 104 := by unfold thrE; rw [if_neg hg]
    unfold thrS
    rw [e, if_neg (by decide)]
    refine (dThrow_bad B m v s w h (by have := ok.sz; have := ok.most; omega) t ht hg).mono ?_
    rintro e w' ⟨rfl, rfl⟩
    exact ⟨rfl, LeftD.same h (Below.refl _ _)⟩
end Go.Proofs.Ythhkennomnmjkaa
namespace Go.Proofs.Ythhkennomnmjkaa
open Go.RowKit
set_option maxHeartbeats 1000000
set_option maxRecDepth 100000
set_option linter.unusedVariables false

theorem bytesV_set (zs : List Int) (p : Nat) (z : Int) : bytesV (zs.set p z) = (bytesV zs).set p (.int .u8 z) := by simp [bytesV, List.map_set]
theorem own_set8 {B : Nat} {w : World} {g n c : Nat} {zs : List Int} (h : w.ownsRow B 5 1 (.slice (some ⟨g, 0, none⟩) n c) n (bytesV zs)) (p : Nat) (hp : p < n) (z : Int) :
    (w.setCell ⟨g, p, none⟩ (.int .u8 z)).ownsRow B 5 1 (.slice (some ⟨g, 0, none⟩) n c) n (bytesV (zs.set p z)) ∧ w.cell? ⟨g, p, none⟩ = some (.int .u8 (zs.getD p 0)) ∧ w.frozen? ⟨g, p, none⟩ = false := by
  obtain ⟨cur, h1, h2, h3, h4, h5, h6, h7⟩ := own8_cur h
  refine ⟨?_, ?_, by simp [World.frozen?, h2]⟩
  · have e := setCell_eq_setRow w g p cur.toArray 5 (0, 0) (.int .u8 z) h2
    have hh : (w.setCell ⟨g, p, none⟩ (.int .u8 z)).heap[g]? = some (.cells (cur.set p (.int .u8 z)).toArray 5 (0, 0)) := by
      rw [e]
      have := setRow_heap w g cur.toArray (cur.toArray.setIfInBounds p (.int .u8 z)) 5 (0, 0) h2
      rw [this]
      simp
    refine own8_of h1 hh h3 h4 (by simpa using h5) ?_ (by simpa using h7)
    rw [bytesV_set, ← h6, List.take_set]
  · have := owned_cells h p hp
    rwa [Nat.zero_add] at this
theorem DAt.inplace {B : Nat} {w w' : World} {m : Nat} {v : Value} {s : Ks} {zs : List Int} (h : DAt B w m v s) (f : Fm w w' (fun k => v.ownBlock = some k) (fun k => v.ownBlock = some k)) (hl : zs.length = s.bs.length) (ho : w'.ownsRow B 5 1 v s.bs.length (bytesV zs)) :
    DAt B w' m v { s with bs := zs } ∧ Fm w w' (TK m v) (TK m v) := by
  refine ⟨⟨h.base, by rw [f.block m h.lt h.ne]; exact h.box, by simp only; rw [hl]; exact ho⟩, f.to (fun k e => .inr e) (fun k e => .inl e)⟩
/-- one byte of the row stored -/
theorem DAt.set8 {B : Nat} {w : World} {m g c : Nat} {s : Ks} (h : DAt B w m (.slice (some ⟨g, 0, none⟩) s.bs.length c) s) (p : Nat) (hp : p < s.bs.length) (z : Int) :
    DAt B (w.setCell ⟨g, p, none⟩ (.int .u8 z)) m (.slice (some ⟨g, 0, none⟩) s.bs.length c) { s with bs := s.bs.set p z } ∧ Fm w (w.setCell ⟨g, p, none⟩ (.int .u8 z)) (TK m (.slice (some ⟨g, 0, none⟩) s.bs.length c)) (TK m (.slice (some ⟨g, 0, none⟩) s.bs.length c)) ∧ w.cell? ⟨g, p, none⟩ = some (.int .u8 (s.bs.getD p 0)) ∧ w.frozen? ⟨g, p, none⟩ = false := by
  obtain ⟨h1, h2, h3⟩ := own_set8 h.row p hp z
  obtain ⟨k1, k2⟩ := h.inplace (w' := w.setCell ⟨g, p, none⟩ (.int .u8 z)) ((Fm.same (Below.refl _ _)).set g p _ rfl) (by simp) h1
  exact ⟨k1, k2, h2, h3⟩
theorem splice_snoc (zs D : List Int) (Q k : Nat) (hk : k < D.length) (hQ : Q + D.length ≤ zs.length) : splice zs Q (D.take (k + 1)) = (splice zs Q (D.take k)).set (Q + k) (D.getD k 0) := by
  have e1 : D.take (k + 1) = D.take k ++ [D.getD k 0] := by
    rw [List.take_succ_eq_append_getElem hk]
    simp [List.getD_eq_getElem?_getD, hk]
  have e2 : zs.drop (Q + k) = zs.getD (Q + k) 0 :: zs.drop (Q + k + 1) := by
    rw [List.drop_eq_getElem_cons (by omega)]
    simp [List.getD_eq_getElem?_getD, show Q + k < zs.length by omega]
  unfold splice
  have l1 : (D.take k).length = k := by simp; omega
  have l2 : (D.take (k + 1)).length = k + 1 := by simp; omega
  have l3 : (zs.take Q).length = Q := by simp; omega
  rw [l1, l2, e2, ← Nat.add_assoc, e1]
  rw [List.set_append_right _ _ (by omega), l3, Nat.add_sub_cancel_left, List.set_append_right _ _ (by omega), l1, Nat.sub_self]
  simp
end Go.Proofs.Ythhkennomnmjkaa
namespace Go.Proofs.Ythhkennomnmjkaa
open Go.RowKit
set_option maxHeartbeats 1000000
set_option maxRecDepth 100000
set_option linter.unusedVariables false
theorem rput_2 (x : Int) (w : World) (x0 : 0 ≤ x) (x1 : x ≤ 4294967295) :
    Calls Try.prog 68 #[.int .u32 x, .int .i64 2] w fun e w' => ∃ v, e = .returned v ∧ w'.ownsRow w.heap.size 5 1 v 2 (bytesV (putL x 2)) ∧ Below w.heap.size w w' := by
  obtain ⟨i0, hi, hz0, hz1, hz2⟩ := info_parts info8
  have hpf := hidden (fun k h => pw_facts x 2 (Or.inr (Or.inl rfl)) k h)
  have hend : Hid ((bytesV (putL x 2)).take 2 = bytesV (putL x 2)) := hidden rfl
  have hbnd := hidden (putL_bd x 2)
  have hst0 : Hid ((256 : Int) = pw 2 0) := hidden (by decide)
  change Hid (∀ k : Nat, (k : Int) < 2 → 0 < pw 2 k ∧ pw 2 k ≤ 16777216 ∧ pw 2 k / 256 = pw 2 (k + 1) ∧ x / pw 2 k % 256 = (putL x 2).getD k 0 ∧ (bytesV (putL x 2)).take k ++ [.int .u8 ((putL x 2).getD k 0)] = (bytesV (putL x 2)).take (k + 1)) at hpf
  generalize putL x 2 = L at *
  go_enter Try.func68, Try.ntmps68
  go_wp2
  go_rounds 2
  go_loopw [5, 6, 8] (fun v p i w' => ∃ k : Nat, k ≤ 2 ∧ i = .int .i64 k ∧ p = .int .i64 (pw 2 k) ∧ w'.ownsRow w.heap.size 5 1 v k ((bytesV L).take k) ∧ Below w.heap.size w w') (fun _ _ i _ => 2 - (intOf i).toNat)
  case atStart => exact ⟨0, by omega, rfl, by rw [← hst0.out], World.ownsRow_nil _ _ _ _, Below.refl _ _⟩
  case round =>
    obtain ⟨k, hk, rfl, rfl, hown, hbl⟩ := hrel
    have HO := hidden hown
    clear hown
    by_cases hlt : (k : Int) < 2
    · obtain ⟨p1, p2, p3, p4, p5⟩ := hpf.out k hlt
      have hx0 : 0 ≤ x / pw 2 k := Int.ediv_nonneg x0 (by omega)
      have hx1 : x / pw 2 k ≤ 4294967295 := Int.le_trans (Int.ediv_le_self _ x0) x1
      have hc0 : 0 ≤ x / pw 2 k % 256 ∧ x / pw 2 k % 256 ≤ 255 := by omega
      have H3 := hidden p3
      have H4 := hidden p4
      have H5 := hidden p5
      clear p3 p4 p5
      have hz : (pw 2 k == 0) = false := by simp; omega
      generalize pw 2 k = p at *
      have hs := hbl.size
      have HO1 := hidden (HO.out.alloc (.cells #[.int .u8 (x / p % 256)] 5))
      have HN1 := hidden (new_cell wr [x / p % 256] (by unfold maxLen; simp))
      have hb1 : Below w.heap.size w (wr.alloc (.cells #[.int .u8 (x / p % 256)] 5)) := hbl.alloc hs _
      have HL := hidden HO.out.lt
      go_wp2_with (at_builtin; refine wpList_append_own _ rfl (.tmp 31) (.tmp 38) 24 rfl w.heap.size 5 i0 (.int .u8 0) 1 1 Try.underlying24 hi hz0 hz1 hz2 rfl (by decide) _ _ _ rfl HO1.out ⟨wr.heap.size, 0, none⟩ 1 1 (bytesV [x / p % 256]) rfl rfl HN1.out (bytesV_one _) (by unfold maxLen; omega) (by omega) (by simp; omega) ?_; intro v2 w2 hown2 hgrow2 hiff2; clear hiff2; refine Hid.out ?_)
      have hb2 : Below w.heap.size w w2 := hb1.grown hgrow2 (by simp; omega) (by intro k hk; exact (HL.out k hk).1)
      have hown3 : w2.ownsRow w.heap.size 5 1 v2 (k + 1) ((bytesV L).take (k + 1)) := by
        rw [← H5.out, ← H4.out]; exact hown2
      have HO3 := hidden hown3
      clear hown2 hown3 hgrow2 HO HO1 HN1 HL hb1
      refine hidden ?_
      go_wp2
      go_roundw
      case rel => exact ⟨k + 1, by omega, by go_num, by rw [← H3.out], HO3.out, hb2⟩
      case measure => simp [intOf]; omega
    · obtain rfl : k = 2 := by omega
      go_wp2
      go_ret
      refine ⟨_, rfl, ?_, hbl⟩
      rw [← hend.out]
      exact HO.out
theorem rput_1 (x : Int) (w : World) (x0 : 0 ≤ x) (x1 : x ≤ 4294967295) :
    Calls Try.prog 68 #[.int .u32 x, .int .i64 1] w fun e w' => ∃ v, e = .returned v ∧ w'.ownsRow w.heap.size 5 1 v 1 (bytesV (putL x 1)) ∧ Below w.heap.size w w' := by
  obtain ⟨i0, hi, hz0, hz1, hz2⟩ := info_parts info8
  have hpf := hidden (fun k h => pw_facts x 1 (Or.inl rfl) k h)
  have hend : Hid ((bytesV (putL x 1)).take 1 = bytesV (putL x 1)) := hidden rfl
  have hbnd := hidden (putL_bd x 1)
  have hst0 : Hid ((1 : Int) = pw 1 0) := hidden (by decide)
  change Hid (∀ k : Nat, (k : Int) < 1 → 0 < pw 1 k ∧ pw 1 k ≤ 16777216 ∧ pw 1 k / 256 = pw 1 (k + 1) ∧ x / pw 1 k % 256 = (putL x 1).getD k 0 ∧ (bytesV (putL x 1)).take k ++ [.int .u8 ((putL x 1).getD k 0)] = (bytesV (putL x 1)).take (k + 1)) at hpf
  generalize putL x 1 = L at *
  go_enter Try.func68, Try.ntmps68
  go_wp2
  go_rounds 1
  go_loopw [5, 6, 8] (fun v p i w' => ∃ k : Nat, k ≤ 1 ∧ i = .int .i64 k ∧ p = .int .i64 (pw 1 k) ∧ w'.ownsRow w.heap.size 5 1 v k ((bytesV L).take k) ∧ Below w.heap.size w w') (fun _ _ i _ => 1 - (intOf i).toNat)
  case atStart => exact ⟨0, by omega, rfl, by rw [← hst0.out], World.ownsRow_nil _ _ _ _, Below.refl _ _⟩
  case round =>
    obtain ⟨k, hk, rfl, rfl, hown, hbl⟩ := hrel
    have HO := hidden hown
    clear hown
    by_cases hlt : (k : Int) < 1
    · obtain ⟨p1, p2, p3, p4, p5⟩ := hpf.out k hlt
      have hx0 : 0 ≤ x / pw 1 k := Int.ediv_nonneg x0 (by omega)
      have hx1 : x / pw 1 k ≤ 4294967295 := Int.le_trans (Int.ediv_le_self _ x0) x1
      have hc0 : 0 ≤ x / pw 1 k % 256 ∧ x / pw 1 k % 256 ≤ 255 := by omega
      have H3 := hidden p3
      have H4 := hidden p4
      have H5 := hidden p5
      clear p3 p4 p5
      have hz : (pw 1 k == 0) = false := by simp; omega
      generalize pw 1 k = p at *
      have hs := hbl.size
      have HO1 := hidden (HO.out.alloc (.cells #[.int .u8 (x / p % 256)] 5))
      have HN1 := hidden (new_cell wr [x / p % 256] (by unfold maxLen; simp))
      have hb1 : Below w.heap.size w (wr.alloc (.cells #[.int .u8 (x / p % 256)] 5)) := hbl.alloc hs _
      have HL := hidden HO.out.lt
      go_wp2_with (at_builtin; refine wpList_append_own _ rfl (.tmp 31) (.tmp 38) 24 rfl w.heap.size 5 i0 (.int .u8 0) 1 1 Try.underlying24 hi hz0 hz1 hz2 rfl (by decide) _ _ _ rfl HO1.out ⟨wr.heap.size, 0, none⟩ 1 1 (bytesV [x / p % 256]) rfl rfl HN1.out (bytesV_one _) (by unfold maxLen; omega) (by omega) (by simp; omega) ?_; intro v2 w2 hown2 hgrow2 hiff2; clear hiff2; refine Hid.out ?_)
      have hb2 : Below w.heap.size w w2 := hb1.grown hgrow2 (by simp; omega) (by intro k hk; exact (HL.out k hk).1)
      have hown3 : w2.ownsRow w.heap.size 5 1 v2 (k + 1) ((bytesV L).take (k + 1)) := by
        rw [← H5.out, ← H4.out]; exact hown2
      have HO3 := hidden hown3
      clear hown2 hown3 hgrow2 HO HO1 HN1 HL hb1
      refine hidden ?_
      go_wp2
      go_roundw
      case rel => exact ⟨k + 1, by omega, by go_num, by rw [← H3.out], HO3.out, hb2⟩
      case measure => simp [intOf]; omega
    · obtain rfl : k = 1 := by omega
      go_wp2
      go_ret
      refine ⟨_, rfl, ?_, hbl⟩
      rw [← hend.out]
      exact HO.out
theorem rput_n (x : Nat) (n : Int) (N : Nat) (w : World) (hn : n = 1 ∨ n = 2 ∨ n = 4) (hN : n = N) (hx : x < 4294967296) :
    Calls Try.prog 68 #[.int .u32 x, .int .i64 n] w fun e w' => ∃ g c, e = .returned (.slice (some ⟨g, 0, none⟩) N c) ∧ w'.ownsRow w.heap.size 5 1 (.slice (some ⟨g, 0, none⟩) N c) N (bytesV (putL x n)) ∧ Below w.heap.size w w' := by
  have key : ∀ (k : Nat), 0 < k → ∀ (e : Ending) (w' : World), (∃ v, e = .returned v ∧ w'.ownsRow w.heap.size 5 1 v k (bytesV (putL x n)) ∧ Below w.heap.size w w') → ∃ g c, e = .returned (.slice (some ⟨g, 0, none⟩) k c) ∧ w'.ownsRow w.heap.size 5 1 (.slice (some ⟨g, 0, none⟩) k c) k (bytesV (putL x n)) ∧ Below w.heap.size w w' := by
    rintro k hk e w' ⟨v, rfl, ho, hb⟩
    obtain ⟨g, cap, rfl, _, _⟩ := owned_shape ho hk
    exact ⟨g, cap, rfl, ho, hb⟩
  rcases hn with rfl | rfl | rfl
  · obtain rfl : N = 1 := by omega
    exact (rput_1 (x : Int) w (by omega) (by omega)).mono (key 1 (by omega))
  · obtain rfl : N = 2 := by omega
    exact (rput_2 (x : Int) w (by omega) (by omega)).mono (key 2 (by omega))
  · obtain rfl : N = 4 := by omega
    exact (rput_4 (x : Int) w (by omega) (by omega)).mono (key 4 (by omega))
end Go.Proofs.Ythhkennomnmjkaa
namespace Go.Proofs.Ythhkennomnmjkaa
open Go.RowKit
set_option maxHeartbeats 1000000
set_option maxRecDepth 100000
set_option linter.unusedVariables false

theorem dSetLocal_any (B m x y : Nat) (n : Int) (v : Value) (s : Ks) (w : World) (h : DAt B w m v s) (ok : OkK s) (hx : x < 4294967296) (hy : y < 4294967296) :
    Calls Try.prog 43 #[.pointer (some ⟨m, 0, none⟩), .int .u32 x, .int .i64 n, .int .u32 y] w fun e w' => e = .returned (.int .i64 (locE s x n)) ∧ LeftD B w w' m v (setS s x n y) := by
  have HL := hidden (dLocal_any B m x n v s w h ok hx)
  have hsz := ok.sz
  have hmo := ok.most
  unfold setS
  by_cases he : locE s x n = 0
  · rw [if_pos he, he]
    rw [he] at HL
    obtain ⟨hn, hon, hov⟩ := loc_good he
    have hbd := ok.bd hon
    have hlo := ok.loc hon
    have hle := lszK_eq s
    have hpl := putL_len (y : Int) n hn
    obtain ⟨N, hN⟩ : ∃ N : Nat, n = N := ⟨n.toNat, by omega⟩
    obtain ⟨a, c, rfl, dc⟩ := h.dc
    obtain ⟨g, rfl⟩ := DC.isSome (w := w) (m := m) h (by omega)
    have hcc : s.bs.length ≤ c := (own_reads h.row).2.1
    have HP : Hid (∀ w1, Below w.heap.size w w1 → Calls Try.prog 68 #[.int .u32 y, .int .i64 n] w1 fun e w' => ∃ gb cb, e = .returned (.slice (some ⟨gb, 0, none⟩) N cb) ∧ Hid (w'.ownsRow w.heap.size 5 1 (.slice (some ⟨gb, 0, none⟩) N cb) N (bytesV (putL y n))) ∧ Hid (Below w.heap.size w w') ∧ N ≤ cb) := fun w1 hb1 => by
      refine (rput_n y n N w1 hn hN hy).mono ?_
      rintro e w' ⟨gb, cb, rfl, ho, hb⟩
      exact ⟨gb, cb, rfl, own_base ho hb1.size, hb1.trans (hb.mono hb1.size), (own_reads ho).2.1⟩
    have hDl : (putL (y : Int) n).length = N := by omega
    have hDb : OkB (putL (y : Int) n) := putL_bd _ _
    have hPos : posK s = s.fr + nu s.bs (s.fr + 4) := rfl
    have hnu := nu_lt ok.okb (s.fr + 4)
    obtain ⟨Q, hQ⟩ : ∃ Q, Q = posK s + x := ⟨_, rfl⟩
    have hN4 : N ≤ 4 ∧ 1 ≤ N := by omega
    have hQL : Q + N ≤ s.bs.length := by omega
    have hQP : s.fr + 12 ≤ Q := by omega
    rw [← hQ]
    have HON : Hid (OkB s.bs) := ok.okb
    subst hN
    generalize hD : putL (y : Int) (N : Int) = D at *
    have HSN := hidden (fun k (hk : k < N) => splice_snoc s.bs D Q k (by omega) (by omega))
    have HSL : Hid (∀ k, k ≤ N → (splice s.bs Q (D.take k)).length = s.bs.length) := fun k hk => length_splice _ _ _ (by simp; omega)
    have HLOW : Hid (∀ k, k ≤ N → nu (splice s.bs Q (D.take k)) (s.fr + 4) = nu s.bs (s.fr + 4) ∧ OkB (splice s.bs Q (D.take k))) := fun k hk => by
      refine ⟨?_, okb_splice ok.okb (okb_take hDb k) _⟩
      refine (nu_take (k := s.fr + 8) ?_ _ (by omega)).symm
      unfold splice
      rw [List.take_append_of_le_length (by simp; omega), List.take_take, Nat.min_eq_left (by omega)]
    have HK := hidden h
    have w1 : IntKind.i64.wrap ((s.fr : Int) + 4) = (s.fr : Int) + 4 := by rw [IntKind.wrap_i64]; omega
    have wx : IntKind.i64.wrap (x : Int) = (x : Int) := by rw [IntKind.wrap_i64]; omega
    generalize hnn : nu s.bs (s.fr + 4) = NU at *
    have w2 : IntKind.i64.wrap ((s.fr : Int) + (NU : Int)) = (s.fr : Int) + (NU : Int) := by rw [IntKind.wrap_i64]; omega
    have w3 : IntKind.i64.wrap ((s.fr : Int) + (NU : Int) + (x : Int)) = (Q : Int) := by rw [IntKind.wrap_i64]; omega
    have hfl : s.fr + 8 ≤ s.bs.length := by omega
    have HFR := hidden hfl
    clear h dc ok hon he hn hpl hbd hlo hle hov hPos hnu hD hnn hQP hQ hfl
    go_enter Try.func43, Try.ntmps43
    go_wp2_with (first | (go_at_call 41; refine HL.out.mono ?_; rintro e wA ⟨rfl, hbA⟩) | (go_at_call 68; refine (HP.out _ hbA).mono ?_; rintro e wB ⟨gb, cb, rfl, HOB, HBB, hcb⟩))
    go_loopw [12] (fun i wr => ∃ k : Nat, k ≤ N ∧ i = .int .i64 k ∧ Hid (DAt B wr m (.slice (some ⟨g, 0, none⟩) s.bs.length c) { s with bs := splice s.bs Q (D.take k) } ∧ Fm w wr (TK m (.slice (some ⟨g, 0, none⟩) s.bs.length c)) (TK m (.slice (some ⟨g, 0, none⟩) s.bs.length c)) ∧ wr.ownsRow w.heap.size 5 1 (.slice (some ⟨gb, 0, none⟩) N cb) N (bytesV D))) (fun i _ => N - (intOf i).toNat)
    case atStart =>
      refine ⟨0, by omega, rfl, ?_, Fm.same HBB.out, HOB.out⟩
      have e : ({ s with bs := splice s.bs Q (D.take 0) } : Ks) = s := by simp [splice]
      rw [e]
      exact HK.out.later HBB.out
    case round =>
      obtain ⟨k, hk, rfl, HI⟩ := hrel
      by_cases hlt : k < N
      · have d1 : (k : Int) < (N : Int) := by omega
        obtain ⟨hd, hf, hrow⟩ := HI.out
        have hl := HSL.out k hk
        obtain ⟨x0, _, x2, _, _⟩ := hd.cells
        have hbk := owned_cells hrow k hlt
        rw [Nat.zero_add] at hbk
        have hd' : DAt B wr m (.slice (some ⟨g, 0, none⟩) ({ s with bs := splice s.bs Q (D.take k) } : Ks).bs.length c) { s with bs := splice s.bs Q (D.take k) } := by simp only [hl]; exact hd
        obtain ⟨y1, y2, y3, y4⟩ := DAt.set8 hd' (Q + k) (by simp only [hl]; omega) (D.getD k 0)
        simp only [hl] at y1 y2 y3
        rw [← HSN.out k hlt] at y1
        have HAT : Hid (∀ q, Calls Try.prog 67 #[.pointer (some ⟨m, 0, none⟩), .int .i64 ((s.fr : Int) + 4)] (wr.drewN q) fun e w' => e = .returned (.int .i64 NU) ∧ w' = wr.drewN q) := fun q => by
          have hrow' := hd.row
          simp only [hl] at hrow'
          have := dat_any m (s.fr + 4) _ s.bs.length c (splice s.bs Q (D.take k)) (wr.drewN q) x0 (own_reads (own_later hrow' (Dr.below ⟨q, rfl⟩))) (HLOW.out k hk).2 (by have := HFR.out; omega) (by omega)
          rw [(HLOW.out k hk).1, show ((s.fr + 4 : Nat) : Int) = (s.fr : Int) + 4 by omega] at this
          exact this
        have HAT1 : Hid (Calls Try.prog 67 #[.pointer (some ⟨m, 0, none⟩), .int .i64 ((s.fr : Int) + 4)] wr.drew fun e w' => e = .returned (.int .i64 NU) ∧ w' = wr.drew) := HAT.out 1
        clear HAT
        have hgb : gb ≠ g := fun e => by
          have h1 := (hrow.lt gb rfl).1
          have h2 := (HK.out.row.lt g rfl).2
          omega
        obtain ⟨s0, _, s2, _, _⟩ := y1.cells
        have s0' : (wr.setCell ⟨g, Q + k, none⟩ (.int .u8 (D.getD k 0))).drew.cell? ⟨m, 0, none⟩ = some (.slice (some ⟨g, 0, none⟩) s.bs.length c) := s0
        have s2' : (wr.setCell ⟨g, Q + k, none⟩ (.int .u8 (D.getD k 0))).drew.cell? ⟨m, 2, none⟩ = some (.int .i64 s.fr) := s2
        have s4' : (wr.setCell ⟨g, Q + k, none⟩ (.int .u8 (D.getD k 0))).drew.cell? ⟨gb, k, none⟩ = some (.int .u8 (D.getD k 0)) := by
          have := owned_cells (ownsRow_setCell_other hrow (a := ⟨g, Q + k, none⟩) (by simp only [Value.ownBlock, ne_eq, Option.some.injEq]; exact hgb) (.int .u8 (D.getD k 0))) k hlt
          rwa [Nat.zero_add] at this
        clear s0 s2
        have Y1 := hidden y1
        have Y2 := hidden (hf.trans y2)
        have YR : Hid ((wr.setCell ⟨g, Q + k, none⟩ (.int .u8 (D.getD k 0))).ownsRow w.heap.size 5 1 (.slice (some ⟨gb, 0, none⟩) N cb) N (bytesV D)) := ownsRow_setCell_other hrow (by simp only [Value.ownBlock, ne_eq, Option.some.injEq]; exact hgb) _
        clear HI hd hd' hf hrow y1 y2 hl
        generalize (splice s.bs Q (D.take k)).getD (Q + k) 0 = OLD at *
        generalize D.getD k 0 = Z at *
        have w4 : IntKind.i64.wrap ((Q : Int) + (k : Int)) = ((Q + k : Nat) : Int) := by rw [IntKind.wrap_i64]; omega
        have w5 : IntKind.i64.wrap ((k : Int) + 1) = (k : Int) + 1 := by rw [IntKind.wrap_i64]; omega
        have hQk : Q + k < s.bs.length := by omega
        generalize hQK : Q + k = QK at *
        have HQK := hidden hQK
        clear hQK
        go_wp2
        go_region_held3 (fun w' => w'.cell? ⟨m, 0, none⟩ = some (.slice (some ⟨g, 0, none⟩) s.bs.length c) ∧ w'.cell? ⟨m, 2, none⟩ = some (.int .i64 s.fr) ∧ w'.cell? ⟨gb, k, none⟩ = some (.int .u8 Z)) (first | assumption | exact ⟨by assumption, by assumption, by assumption⟩ | go_keep) (first | (go_at_call 67; (with_reducible refine HAT1.out.mono ?_); rintro e w1 ⟨rfl, rfl⟩) | fail)
        all_goals (
          go_wp2
          go_roundw
          case rel => exact ⟨k + 1, by omega, int_eq (by omega), DAt.later Y1.out (Dr.below ⟨1, rfl⟩), Y2.out.trans (Fm.same (Dr.below ⟨1, rfl⟩)), own_later YR.out (Dr.below ⟨1, rfl⟩)⟩
          case measure => simp [intOf]; omega)
      · obtain rfl : k = N := by omega
        have d1 : ¬ (k : Int) < (k : Int) := by omega
        obtain ⟨hd, hf, hrow⟩ := HI.out
        rw [List.take_of_length_le (by omega)] at hd
        have HD := hidden hd
        have HF := hidden hf
        clear HI hd hf hrow
        go_wp2
        go_ret
        exact ⟨rfl, _, HD.out, HF.out⟩
  · rw [if_neg he]
    have HK := hidden h
    clear h ok
    generalize locE s x n = E at *
    have q : ((E : Int) != 0) = true := by simp; omega
    have q2 : ¬ (E : Int) = 0 := by omega
    go_enter Try.func43, Try.ntmps43
    go_wp2_with (first | (go_at_call 41; refine HL.out.mono ?_; rintro e w1 ⟨rfl, hb1⟩))
    go_ret
    exact ⟨rfl, LeftD.same HK.out hb1⟩
end Go.Proofs.Ythhkennomnmjkaa
namespace Go.Proofs.Ythhkennomnmjkaa
open Go.RowKit
set_option maxHeartbeats 1000000
set_option maxRecDepth 100000
set_option linter.unusedVariables false

theorem slV_at : ∀ (l : List (Nat × Nat)) (i : Nat) (h : i < l.length), (slV l)[i * 2]? = some (.int .i64 (l[i].1 : Int)) ∧ (slV l)[i * 2 + 1]? = some (.int .i64 (l[i].2 : Int))
  | [], i, h => by simp at h
  | p :: l, 0, h => by simp [slV]
  | p :: l, i + 1, h => by
    have := slV_at l i (by simpa using h)
    simp only [slV, List.flatMap_cons] at this ⊢
    rw [show (i + 1) * 2 = i * 2 + 2 by omega]
    simpa using this
theorem slot_cells {B : Nat} {w : World} {sa : Option Addr} {n c : Nat} {l : List (Nat × Nat)} (h : w.ownsRow B 97 2 (.slice sa n c) n (slV l)) (i : Nat) (hi : i < l.length) :
    ∃ sg, sa = some ⟨sg, 0, none⟩ ∧ B ≤ sg ∧ n ≤ c ∧ c ≤ 9223372036854775807 ∧ w.cell? ⟨sg, i * 2, none⟩ = some (.int .i64 (l[i].1 : Int)) ∧ w.cell? ⟨sg, i * 2 + 1, none⟩ = some (.int .i64 (l[i].2 : Int)) := by
  have hl := h.1
  rw [slV_len] at hl
  obtain ⟨e1, e2⟩ := slV_at l i hi
  rcases h.2 with ⟨h1, h2⟩ | ⟨g, cap, cur, h1, h2, h3, h4, h5, h6, h7⟩
  · omega
  · cases h1
    have key : ∀ j v, (slV l)[j]? = some v → w.cell? ⟨g, j, none⟩ = some v := fun j v hj => by
      rw [← h7, List.getElem?_take] at hj
      split at hj
      · unfold World.cell?
        simp only
        rw [h3]
        simpa using hj
      · cases hj
    exact ⟨g, rfl, h2, h4, by unfold maxLen at h5; omega, key _ _ e1, key _ _ e2⟩
/-- what lies about Args' loops: the stack, and the locals' row -/
structure DS (B m g c : Nat) (s : Ks) (w : World) (sa : Option Addr) (sc : Nat) (sl : List (Nat × Nat)) (bs : List Int) (W : World) : Prop where
  d : DAt B W m (.slice (some ⟨g, 0, none⟩) s.bs.length c) { s with bs := bs }
  f : Fm w W (TK m (.slice (some ⟨g, 0, none⟩) s.bs.length c)) (TK m (.slice (some ⟨g, 0, none⟩) s.bs.length c))
  l : W.ownsRow w.heap.size 97 2 (.slice sa sl.length sc) sl.length (slV sl)
theorem DS.later {B m g c : Nat} {s : Ks} {w : World} {sa : Option Addr} {sc : Nat} {sl : List (Nat × Nat)} {bs : List Int} {W W' : World} (h : DS B m g c s w sa sc sl bs W) (hb : Below W.heap.size W W') : DS B m g c s w sa sc sl bs W' :=
  ⟨h.d.later hb, h.f.trans (Fm.same hb), own_later h.l hb⟩
theorem DS.set {B m g c : Nat} {s : Ks} {w : World} {sa : Option Addr} {sc : Nat} {sl : List (Nat × Nat)} {bs : List Int} {W : World} (h : DS B m g c s w sa sc sl bs W) (hg : g < w.heap.size) (hl : bs.length = s.bs.length) (p : Nat) (hp : p < s.bs.length) (z : Int) :
    DS B m g c s w sa sc sl (bs.set p z) (W.setCell ⟨g, p, none⟩ (.int .u8 z)) ∧ W.cell? ⟨g, p, none⟩ = some (.int .u8 (bs.getD p 0)) ∧ W.frozen? ⟨g, p, none⟩ = false := by
  have hd' : DAt B W m (.slice (some ⟨g, 0, none⟩) ({ s with bs := bs } : Ks).bs.length c) { s with bs := bs } := by simp only [hl]; exact h.d
  obtain ⟨y1, y2, y3, y4⟩ := DAt.set8 hd' p (by simp only [hl]; exact hp) z
  simp only [hl] at y1 y2 y3
  refine ⟨⟨y1, h.f.trans y2, ownsRow_setCell_other h.l (a := ⟨g, p, none⟩) (fun e => ?_) _⟩, y3, y4⟩
  have := (h.l.lt g e).1
  omega
theorem args_step (P : Nat) (sl : List (Nat × Nat)) (xs : List Nat) (zs : List Int) (k : Nat) (h1 : k < sl.length) (h2 : k < xs.length) : putA P (sl.take (k + 1)) xs zs = splice (putA P (sl.take k) xs zs) (P + sl[k].1) (putL ((xs.getD k 0 : Nat) : Int) (sl[k].2 : Int)) := by
  rw [List.take_succ_eq_append_getElem h1]
  have := putA_snoc P (sl.take k) xs zs sl[k].1 sl[k].2 (by simp; omega)
  rw [show (sl.take k).length = k by simp; omega] at this
  exact this
theorem args_end (P : Nat) (sl : List (Nat × Nat)) (xs : List Nat) (zs : List Int) (k : Nat) (h : k = sl.length ∨ (k ≤ sl.length ∧ xs.length ≤ k)) : putA P (sl.take k) xs zs = putA P sl xs zs := by
  rcases h with rfl | ⟨h1, h2⟩
  · rw [List.take_length]
  · have := putA_stop P (sl.take k) (sl.drop k) xs zs (by simp; omega)
    rw [List.take_append_drop] at this
    exact this.symm

theorem dArgs_any (B m : Nat) (v : Value) (s : Ks) (w : World) (h : DAt B w m v s) (ok : OkK s) (la : Option Addr) (len lc : Nat) (xs : List Nat) (hv : VRow w la len xs) (hlc : len ≤ lc) (hab : 0 < len → ∀ x, la = some x → x.block < w.heap.size ∧ ¬ TK m v x.block) :
    Calls Try.prog 39 #[.pointer (some ⟨m, 0, none⟩), .slice la len lc] w fun e w' => e = .returned (.int .i64 (lackE s 0)) ∧ LeftD B w w' m v (argsS s xs) := by
  have x3 := h.cells.2.2.2.1
  have hsz := ok.sz
  have hmo := ok.most
  unfold argsS
  by_cases h0 : lackE s 0 = 0
  · rw [if_pos h0, h0]
    obtain ⟨hon, _⟩ := lack_zero h0
    rw [hon] at x3
    have hbd := ok.bd hon
    have hfit := args_fit ok hon
    have hfr := (ok.cur hon).fr
    obtain ⟨a, c, rfl, dc⟩ := h.dc
    obtain ⟨g, rfl⟩ := DC.isSome (w := w) (m := m) h (by omega)
    have hcc : s.bs.length ≤ c := (own_reads h.row).2.1
    have hgw : g < w.heap.size := (h.row.lt g rfl).2
    have hkp : ∀ k, (putA (posK s) ((slL (frF s.bs s.fr) 0).take k) xs s.bs).length = s.bs.length := fun k => (putA_keep _ _ xs s.bs (fun p hm => ⟨(hfit p (List.mem_of_mem_take hm)).1, (hfit p (List.mem_of_mem_take hm)).2.2⟩) ok.okb).1
    have HO := hidden (down_any B m _ s w h ok hon)
    have hfl := frF_len (zs := s.bs) (f := s.fr)
    have hfle := (fmtL_le (s.bs.drop (s.fr + 8))).1
    rw [List.length_drop] at hfle
    have HSL : Hid (∀ (a' : Option Addr) (c' : Nat) (W : World), Reads W a' (frF s.bs s.fr).length c' (frF s.bs s.fr) → Below w.heap.size w W → Calls Try.prog 65 #[.slice a' (frF s.bs s.fr).length c'] W fun e w' => ∃ sa sc, e = .returned (.tuple #[.slice sa (slL (frF s.bs s.fr) 0).length sc, .int .i64 (szF (frF s.bs s.fr))]) ∧ Hid (DS B m g c s w sa sc (slL (frF s.bs s.fr) 0) s.bs w')) := fun a' c' W hr hb => by
      refine (dslots_any a' _ c' (frF s.bs s.fr) W hr (fun z hz => ok.okb z (List.mem_of_mem_drop (List.mem_of_mem_take hz))) (by omega) (by rw [frF_fmt hfr.ne, hfl]; exact hfr.ne) (frF_fmt hfr.ne)).mono ?_
      rintro e w' ⟨sa, sc, rfl, ho, hb2⟩
      have hb3 := hb.trans (hb2.mono hb.size)
      exact ⟨sa, sc, rfl, h.later hb3, Fm.same hb3, own_base ho hb.size⟩
    have HAT : Hid (∀ sa sc W, DS B m g c s w sa sc (slL (frF s.bs s.fr) 0) s.bs W → ∀ q, Calls Try.prog 67 #[.pointer (some ⟨m, 0, none⟩), .int .i64 ((s.fr : Int) + 4)] (W.drewN q) fun e w' => e = .returned (.int .i64 (nu s.bs (s.fr + 4))) ∧ w' = W.drewN q) := fun sa sc W hd q => by
      have hd2 := (hd.later (Dr.below ⟨q, rfl⟩ : Below W.heap.size W (W.drewN q))).d
      have := dat_any m (s.fr + 4) _ s.bs.length c s.bs (W.drewN q) hd2.cells.1 (own_reads hd2.row) ok.okb (by omega) (by omega)
      rw [show ((s.fr + 4 : Nat) : Int) = (s.fr : Int) + 4 by omega] at this
      exact this
    have HP : Hid (∀ (x q : Nat) (W : World), x < 4294967296 → q = 1 ∨ q = 2 ∨ q = 4 → w.heap.size ≤ W.heap.size → Calls Try.prog 68 #[.int .u32 x, .int .i64 q] W fun e w' => ∃ gb cb, e = .returned (.slice (some ⟨gb, 0, none⟩) q cb) ∧ Hid (w'.ownsRow w.heap.size 5 1 (.slice (some ⟨gb, 0, none⟩) q cb) q (bytesV (putL x q))) ∧ Hid (Below W.heap.size W w') ∧ q ≤ cb) := fun x q W hx hq hs => by
      refine (rput_n x q q W (by omega) rfl hx).mono ?_
      rintro e w' ⟨gb, cb, rfl, ho, hb⟩
      exact ⟨gb, cb, rfl, own_base ho hs, hb, (own_reads ho).2.1⟩
    have HV : Hid (∀ W, Fm w W (TK m (.slice (some ⟨g, 0, none⟩) s.bs.length c)) (TK m (.slice (some ⟨g, 0, none⟩) s.bs.length c)) → ∀ i, i < len → ∃ b o, la = some ⟨b, o, none⟩ ∧ W.cell? ⟨b, o + i, none⟩ = some (.int .u32 (xs.getD i 0 : Nat)) ∧ xs.getD i 0 < 4294967296) := fun W hf i hi => by
      obtain ⟨b, o, e, hc⟩ := hv.cells i hi
      obtain ⟨h1, h2⟩ := hab (by omega) _ e
      refine ⟨b, o, e, by rw [World.cell?_of_block (hf.block b h1 h2)]; exact hc, hv.bd _ ?_⟩
      rw [List.getD_eq_getElem?_getD, List.getElem?_eq_getElem (by rw [hv.ln]; exact hi)]
      simp
    have hln := hv.ln
    have HFIT := hidden hfit
    have HKP := hidden hkp
    have hP : posK s = s.fr + nu s.bs (s.fr + 4) := rfl
    have HPL : Hid (∀ p ∈ slL (frF s.bs s.fr) 0, posK s + p.1 + p.2 ≤ s.bs.length) := fun p hp => (hfit p hp).2.2
    have hnu := nu_lt ok.okb (s.fr + 4)
    have w1 : IntKind.i64.wrap ((s.fr : Int) + 4) = (s.fr : Int) + 4 := by rw [IntKind.wrap_i64]; omega
    generalize slL (frF s.bs s.fr) 0 = sl at *
    generalize szF (frF s.bs s.fr) = SZ at *
    generalize frF s.bs s.fr = FF at *
    generalize posK s = P at *
    have w2 : IntKind.i64.wrap ((s.fr : Int) + (nu s.bs (s.fr + 4) : Int)) = (P : Int) := by rw [IntKind.wrap_i64]; omega
    have HL4 := hidden hmo
    have hL : s.bs.length ≤ 65536 := by omega
    clear h0 hbd hfit hkp hfr dc hv hab hfl hfle hP ok hsz hmo hon
    have HD := hidden h
    have c2 := h.cells.2.2.1
    clear h
    generalize nu s.bs (s.fr + 4) = NU at *
    generalize hFL : FF.length = FL at *
    clear hFL
    go_enter Try.func39, Try.ntmps39
    go_wp2_with (first | (go_at_call 66; refine HO.out.mono ?_; rintro e wO ⟨a', c', rfl, hrO, hbO⟩) | (go_at_call 65; refine (HSL.out _ _ _ hrO hbO).mono ?_; rintro e wS ⟨sa, sc, rfl, HS⟩))
    have y2 := HS.out.d.cells.2.2.1
    clear hrO hbO HO HSL
    go_quiet (first | (go_at_call 67; exact Calls.quiet_of_same (HAT.out _ _ _ HS.out _)))
    all_goals (try go_wp2)
    have HS0 := hidden (HS.out.later (Dr.below ⟨nq, rfl⟩ : Below wS.heap.size wS (wS.drewN nq)))
    clear HS y2 c2 x3 HAT w1 w2 hnu
    generalize wS.drewN nq = wq0 at *
    generalize s.fr = FR at *
    go_loopw [8] (fun i wr => ∃ k : Nat, k ≤ sl.length ∧ k ≤ len ∧ i = .int .i64 k ∧ Hid (DS B m g c s w sa sc sl (putA P (sl.take k) xs s.bs) wr)) (fun i _ => sl.length - (intOf i).toNat)
    case atStart => exact ⟨0, by omega, by omega, rfl, by rw [List.take_zero, show putA P [] xs s.bs = s.bs by cases xs <;> rfl]; exact HS0⟩
    case round =>
      clear HS0
      obtain ⟨k, hk1, hk2, rfl, HS⟩ := hrel
      by_cases hk : k < len
      · have d1 : (k : Int) < (len : Int) := by omega
        by_cases hks : k < sl.length
        · have d2 : (k : Int) < (sl.length : Int) := by omega
          obtain ⟨sg, hsa, hsg, hsc, hsm, s1, s2⟩ := slot_cells HS.out.l k hks
          obtain ⟨b, o, hla, v1, v2⟩ := HV.out wr HS.out.f k hk
          obtain ⟨f1, _, f3⟩ := HFIT.out _ (List.getElem_mem hks)
          have HST := hidden (args_step P sl xs s.bs k hks (by omega))
          have hbl := HKP.out k
          have hsz0 := HS.out.f.size
          have HSC : Hid (∀ bs W, DS B m g c s w sa sc sl bs W → W.cell? ⟨sg, k * 2, none⟩ = some (.int .i64 (sl[k].1 : Int))) := fun bs W hd => by
            obtain ⟨sg', e, _, _, _, h1, _⟩ := slot_cells hd.l k hks
            rw [hsa] at e
            cases e
            exact h1
          generalize sl[k].1 = p at *
          generalize sl[k].2 = q at *
          generalize xs.getD k 0 = x at *
          generalize putA P (sl.take k) xs s.bs = bs0 at *
          have w5 : IntKind.i64.wrap ((k : Int) + 1) = (k : Int) + 1 := by rw [IntKind.wrap_i64]; omega
          have HPx := hidden (HP.out x q wr.drew v2 f1 hsz0)
          have hqi : (q : Int) = 1 ∨ (q : Int) = 2 ∨ (q : Int) = 4 := by rcases f1 with rfl | rfl | rfl <;> simp
          have hDl : (putL (x : Int) (q : Int)).length = q := by have := putL_len (x : Int) (q : Int) hqi; omega
          have hQ : P + p + q ≤ s.bs.length := f3
          have hq4 : q ≤ 4 := by omega
          have w6 : IntKind.i64.wrap ((P : Int) + (p : Int)) = ((P + p : Nat) : Int) := by rw [IntKind.wrap_i64]; omega
          subst hsa
          subst hla
          clear f1 f3 HFIT
          go_wp2
          go_region_held3 (fun w' => w'.cell? ⟨b, o + k, none⟩ = some (.int .u32 x) ∧ w'.cell? ⟨sg, k * 2 + 1, none⟩ = some (.int .i64 q)) (first | assumption | exact ⟨by assumption, by assumption⟩ | go_keep) (first | (go_at_call 68; (with_reducible refine HPx.out.mono ?_); rintro e w1 ⟨gb, cb, rfl, HB1, HB2, hcb⟩; have q1 := cellLater HB2.out (show wr.drew.cell? ⟨b, o + k, none⟩ = _ from v1); have q2 := cellLater HB2.out (show wr.drew.cell? ⟨sg, k * 2 + 1, none⟩ = _ from s2)) | fail)
          all_goals (try go_wp2)
          have HS1 := hidden (HS.out.later ((Dr.below ⟨1, rfl⟩ : Below wr.heap.size wr wr.drew).trans HB2.out))
          have hsn := fun j (hj : j < q) => splice_snoc bs0 (putL (x : Int) (q : Int)) (P + p) j (by omega) (by omega)
          have hsl : ∀ j, (splice bs0 (P + p) ((putL (x : Int) (q : Int)).take j)).length = s.bs.length := fun j => by rw [length_splice _ _ _ (by simp; omega)]; exact hbl
          have HSN := hidden hsn
          have HSP := hidden hsl
          clear hsn hsl q1 q2 v1 s1 s2 HS HPx HP HV
          generalize hwq : wr = wq at *
          clear hwq
          generalize putL (x : Int) (q : Int) = D at *
          go_loopw [10] (fun i wr => ∃ j : Nat, j ≤ q ∧ i = .int .i64 j ∧ Hid (DS B m g c s w (some ⟨sg, 0, none⟩) sc sl (splice bs0 (P + p) (D.take j)) wr ∧ wr.ownsRow w.heap.size 5 1 (.slice (some ⟨gb, 0, none⟩) q cb) q (bytesV D))) (fun i _ => q - (intOf i).toNat)
          case atStart => exact ⟨0, by omega, rfl, by have e : splice bs0 (P + p) (D.take 0) = bs0 := by simp [splice]
                                                      rw [e]; exact HS1.out, HB1.out⟩
          case round =>
            clear HS1 HB1 HB2
            obtain ⟨j, hj1, rfl, HI⟩ := hrel
            by_cases hj : j < q
            · have d3 : (j : Int) < (q : Int) := by omega
              obtain ⟨hd, hrow⟩ := HI.out
              obtain ⟨y1, y3, y4⟩ := hd.set hgw (HSP.out j) (P + p + j) (by omega) (D.getD j 0)
              rw [← HSN.out j hj] at y1
              have hgb : gb ≠ g := fun e => by
                have h1 := (hrow.lt gb rfl).1
                omega
              have yr : (wr.setCell ⟨g, P + p + j, none⟩ (.int .u8 (D.getD j 0))).ownsRow w.heap.size 5 1 (.slice (some ⟨gb, 0, none⟩) q cb) q (bytesV D) := ownsRow_setCell_other hrow (by simp only [Value.ownBlock, ne_eq, Option.some.injEq]; exact hgb) _
              have r0 := hd.d.cells.1
              have r1 := HSC.out _ _ hd
              have r2 := owned_cells hrow j hj
              have t0 : (wr.setCell ⟨g, P + p + j, none⟩ (.int .u8 (D.getD j 0))).drew.cell? ⟨m, 0, none⟩ = some (.slice (some ⟨g, 0, none⟩) s.bs.length c) := y1.d.cells.1
              have t1 : (wr.setCell ⟨g, P + p + j, none⟩ (.int .u8 (D.getD j 0))).drew.cell? ⟨sg, k * 2, none⟩ = some (.int .i64 (p : Int)) := by have := HSC.out _ _ y1; exact this
              have t2 : (wr.setCell ⟨g, P + p + j, none⟩ (.int .u8 (D.getD j 0))).drew.cell? ⟨gb, j, none⟩ = some (.int .u8 (D.getD j 0)) := by
                have := owned_cells yr j hj
                rwa [Nat.zero_add] at this
              rw [Nat.zero_add] at r2
              have Y1 := hidden y1
              have YR := hidden yr
              clear HI hd hrow y1 yr
              generalize (splice bs0 (P + p) (D.take j)).getD (P + p + j) 0 = OLD at *
              generalize D.getD j 0 = Z at *
              have w7 : IntKind.i64.wrap (((P + p : Nat) : Int) + (j : Int)) = ((P + p + j : Nat) : Int) := by rw [IntKind.wrap_i64]; omega
              have w8 : IntKind.i64.wrap ((j : Int) + 1) = (j : Int) + 1 := by rw [IntKind.wrap_i64]; omega
              have hQj : P + p + j < s.bs.length := by omega
              generalize hPP : P + p = PP at *
              generalize hQJ : PP + j = QJ at *
              have HQJ := hidden hQJ
              clear hQJ
              go_wp2
              go_region_held3 (fun w' => w'.cell? ⟨m, 0, none⟩ = some (.slice (some ⟨g, 0, none⟩) s.bs.length c) ∧ w'.cell? ⟨sg, k * 2, none⟩ = some (.int .i64 (p : Int)) ∧ w'.cell? ⟨gb, j, none⟩ = some (.int .u8 Z)) (first | assumption | exact ⟨by assumption, by assumption, by assumption⟩ | go_keep) (fail)
              all_goals (
                go_wp2
                go_roundw
                case rel => exact ⟨j + 1, by omega, int_eq (by omega), Y1.out.later (Dr.below ⟨1, rfl⟩), own_later YR.out (Dr.below ⟨1, rfl⟩)⟩
                case measure => simp [intOf]; omega)
            · obtain rfl : j = q := by omega
              have d3 : ¬ (j : Int) < (j : Int) := by omega
              have hd := HI.out.1
              rw [List.take_of_length_le (by omega), ← HST.out] at hd
              have HDD := hidden hd
              clear HI hd
              go_wp2
              go_roundw
              case rel => exact ⟨k + 1, by omega, by omega, int_eq (by omega), HDD⟩
              case measure => simp [intOf]; omega
        · have d2 : ¬ (k : Int) < (sl.length : Int) := by omega
          have hd := HS.out.d
          have hf := HS.out.f
          rw [args_end P sl xs s.bs k (by omega)] at hd
          have HDD := hidden hd
          have HFF := hidden hf
          clear HS hd hf
          go_wp2
          go_ret
          exact ⟨rfl, _, HDD.out, HFF.out⟩
      · have d1 : ¬ (k : Int) < (len : Int) := by omega
        have hd := HS.out.d
        have hf := HS.out.f
        rw [args_end P sl xs s.bs k (by omega)] at hd
        have HDD := hidden hd
        have HFF := hidden hf
        clear HS hd hf
        go_wp2
        go_ret
        exact ⟨rfl, _, HDD.out, HFF.out⟩
  · have hon : s.on = false := by
      cases ho : s.on
      · rfl
      · exact absurd (by unfold lackE; rw [ho]; simp) h0
    rw [if_neg h0, lack_off hon]
    rw [hon] at x3
    have HK := hidden h
    clear h ok
    go_enter Try.func39, Try.ntmps39
    go_wp2
    go_ret
    exact ⟨rfl, LeftD.same HK.out (Below.refl _ _)⟩
end Go.Proofs.Ythhkennomnmjkaa
