/- The walk of TextPieces: the characters of a text are those of its pieces; with a greater most they go on. -/
import Derived.Test.YtoppgdbkbemogaaB12u
namespace Go.Proofs.Ytoppgdbkbemogaa
open Go.RowKit
set_option maxHeartbeats 1000000
set_option maxRecDepth 100000
set_option linter.unusedVariables false

theorem bounds64 {n : Int} (h : (Lit.int .i64 n).wf = true) : -9223372036854775808 ≤ n ∧ n ≤ 9223372036854775807 := by
  simp [Lit.wf, IntKind.min, IntKind.max, IntKind.signed, IntKind.bits] at h
  omega
theorem lfR_kind (zs : List Int) (p : Nat) (h : (lfR zs p).1 = 0) : (lfR zs p).2.1 = 1 ∨ (lfR zs p).2.1 = 2 ∨ (lfR zs p).2.1 = 3 := by
  unfold lfR at h ⊢
  repeat' (split at h <;> split <;> first | (exact .inl rfl) | (exact .inr (.inl rfl)) | (exact .inr (.inr rfl)) | skip)
  all_goals first | (exact .inl rfl) | (exact .inr (.inl rfl)) | (exact .inr (.inr rfl)) | simp_all
theorem nxN_kind (zs : List Int) (table : Nat) (t : Ta) (h : (nxN zs table t).e = 0) (h1 : (nxN zs table t).k ≠ 1) (h3 : (nxN zs table t).k ≠ 3) : (nxN zs table t).k = 2 := by
  unfold nxN at h h1 h3 ⊢
  have hp : ∀ n, (plN zs t n).k ≠ 1 → (plN zs t n).k = 2 := fun n hn => by
    unfold plN at hn ⊢
    simp only at hn ⊢
    split
    · rename_i h0; rw [if_pos h0] at hn; exact absurd rfl hn
    · rfl
  by_cases c1 : t.k = 224
  · rw [if_pos c1] at h1 ⊢; exact hp 1 h1
  rw [if_neg c1] at h h1 h3 ⊢
  by_cases c2 : t.k = 226
  · rw [if_pos c2] at h1 ⊢; exact hp 4 h1
  rw [if_neg c2] at h h1 h3 ⊢
  by_cases c3 : t.k = 225
  · rw [if_pos c3] at h h1 h3 ⊢
    unfold pkN at h h1 h3 ⊢
    by_cases t0 : table = 0
    · rw [if_pos t0] at h; simp at h
    rw [if_neg t0] at h h1 h3 ⊢
    by_cases t1 : (table + 8) % 4294967296 + 4 ≤ zs.length
    · rw [if_pos t1] at h h1 h3 ⊢
      generalize nuV zs ((table + 8) % 4294967296) 4 = NN at *
      by_cases t2 : t.bit ≤ 7
      · rw [if_pos t2] at h h1 h3 ⊢
        by_cases t3 : (dsR zs 256 NN t).1 = 0
        · rw [if_pos t3] at h h1 h3 ⊢
          rcases lfR_kind zs _ h with e | e | e
          · exact absurd e h1
          · exact e
          · exact absurd e h3
        · rw [if_neg t3] at h; exact absurd h t3
      · rw [if_neg t2] at h; simp at h
    · rw [if_neg t1] at h; simp at h
  rw [if_neg c3] at h; simp at h
theorem slice_to (a : Option Addr) (n k c : Nat) (w : World) (ha : a = none → n = 0 ∧ c = 0) (hk : k ≤ c) : (Instr.sliceAt 23 (.slice a n c) none (some (.int .i64 (k : Int))) none).run Try.prog w = .ok (.slice a k c) w := by
  have q0 : (0 : Int) ≤ (k : Int) := by omega
  have q1 : (k : Int) ≤ (c : Int) := by omega
  cases a with
  | none =>
    obtain ⟨h3, h4⟩ := ha rfl
    have h5 : k = 0 := by omega
    rw [h3, h4, h5]
    rfl
  | some x => go_simp
theorem slice_mid (b o n l e k c : Nat) (w : World) (h1 : l < c) (h2 : l + k = e) (h3 : e ≤ c) : (Instr.sliceAt 23 (.slice (some ⟨b, o, none⟩) n c) (some (.int .i64 (l : Int))) (some (.int .i64 (e : Int))) none).run Try.prog w = .ok (.slice (some ⟨b, o + l, none⟩) k (c - l)) w := by
  have q0 : (0 : Int) ≤ (l : Int) := by omega
  have q1 : (l : Int) ≤ (e : Int) := by omega
  have q2 : (e : Int) ≤ (c : Int) := by omega
  have q3 : ¬ c = l := by omega
  have q4 : e - l = k := by omega
  clear h2
  go_simp
theorem own_none {B : Nat} {w : World} {e : TypeId} {a : Option Addr} {n c : Nat} {xs : List Value} (h : w.ownsRow B e 1 (.slice a n c) n xs) : a = none → n = 0 ∧ c = 0 := by
  intro ha
  subst ha
  rcases h.2 with ⟨h1, h2⟩ | ⟨g, cap, cur, h1, _⟩
  · simp only [Value.slice.injEq] at h1
    exact ⟨h2, h1.2.2⟩
  · simp at h1
theorem textPieces_walk (a : Option Addr) (n c : Nat) (zs0 : List Int) (tb ad mo mr : Int) (w : World) (hr0 : IsRow .u8 w a n c zs0) (ht : (Lit.int .u32 tb).wf = true) (ha : (Lit.int .u32 ad).wf = true) (hmo : (Lit.int .i64 mo).wf = true) (hmr : (Lit.int .i64 mr).wf = true) :
    Calls Try.prog 6 #[.slice a n c, .int .u32 tb, .int .u32 ad, .int .i64 mo, .int .i64 mr] w fun e w' => e = .returned (.bool true) ∧ Below w.heap.size w w' := by
  have HLV : Hid (∀ w1, Below w.heap.size w w1 → Calls Try.prog 9 #[] w1 fun e w' => e = .returned (.bool true) ∧ Below w.heap.size w w') := fun w1 hb => (live_any w1).mono (fun e w' hh => ⟨hh.1, hb.trans (hh.2.mono hb.size)⟩)
  obtain ⟨hr, hok, hl63⟩ := reads_of_row hr0
  obtain ⟨t0, t1⟩ := bounds_u32 ht
  obtain ⟨d0, d1⟩ := bounds_u32 ha
  have b1 := bounds64 hmo
  have b2 := bounds64 hmr
  obtain ⟨T, rfl⟩ := Int.eq_ofNat_of_zero_le t0
  obtain ⟨AD, rfl⟩ := Int.eq_ofNat_of_zero_le d0
  generalize zs0.take n = zs at *
  clear hr0 ht ha t0 d0 hmo hmr
  have hb0 : Below w.heap.size w w := Below.refl _ _
  by_cases g1 : 16384 < n
  · have c1 : (16384 : Int) < (n : Int) := by omega
    go_enter Try.func6, Try.ntmps6
    go_wp2_with (first | (go_at_call 9; refine (HLV.out _ hb0).mono ?_; rintro x wl ⟨rfl, hbl⟩))
    go_ret
    exact ⟨rfl, hbl⟩
  have c1 : ¬ (16384 : Int) < (n : Int) := by omega
  by_cases g2 : mo < 0
  · go_enter Try.func6, Try.ntmps6
    go_wp2_with (first | (go_at_call 9; refine (HLV.out _ hb0).mono ?_; rintro x wl ⟨rfl, hbl⟩))
    go_ret
    exact ⟨rfl, hbl⟩
  by_cases g3 : 300 < mo
  · go_enter Try.func6, Try.ntmps6
    go_wp2_with (first | (go_at_call 9; refine (HLV.out _ hb0).mono ?_; rintro x wl ⟨rfl, hbl⟩))
    go_ret
    exact ⟨rfl, hbl⟩
  by_cases g4 : mr < 0
  · go_enter Try.func6, Try.ntmps6
    go_wp2_with (first | (go_at_call 9; refine (HLV.out _ hb0).mono ?_; rintro x wl ⟨rfl, hbl⟩))
    go_ret
    exact ⟨rfl, hbl⟩
  by_cases g5 : 300 < mr
  · go_enter Try.func6, Try.ntmps6
    go_wp2_with (first | (go_at_call 9; refine (HLV.out _ hb0).mono ?_; rintro x wl ⟨rfl, hbl⟩))
    go_ret
    exact ⟨rfl, hbl⟩
  obtain ⟨M, rfl⟩ := Int.eq_ofNat_of_zero_le (show 0 ≤ mo by omega)
  obtain ⟨K, rfl⟩ := Int.eq_ofNat_of_zero_le (show 0 ≤ mr by omega)
  have hM : M ≤ 300 := by omega
  have hK : K ≤ 300 := by omega
  have hwm : IntKind.i64.wrap ((M : Int) + (K : Int)) = ((M + K : Nat) : Int) := by rw [IntKind.wrap_i64]; omega
  have hm : Mem w a n c zs := ⟨hr, hok, by omega⟩
  have HM := hidden hm
  have HP1 : Hid (Calls Try.prog 18 #[.slice a n c, .int .u32 T, .int .u32 AD, .int .i64 M] w (PlRet w (PlR zs T AD M))) := by
    have h := tplainT_any (M : Int) AD T a n c zs w hm (by omega) (by omega) (by omega) (by omega)
    rw [show ((M : Int)).toNat = M by omega] at h
    exact h
  have HP2 : Hid (∀ w1, Below w.heap.size w w1 → Calls Try.prog 18 #[.slice a n c, .int .u32 T, .int .u32 AD, .int .i64 ((M + K : Nat) : Int)] w1 (PlRet w1 (PlR zs T AD (M + K)))) := fun w1 hb => by
    have h := tplainT_any ((M + K : Nat) : Int) AD T a n c zs w1 (hm.later hb) (by omega) (by omega) (by omega) (by omega)
    rw [show (((M + K : Nat) : Int)).toNat = M + K by omega] at h
    exact h
  have HBG : Hid (∀ w1, Below w.heap.size w w1 → Calls Try.prog 20 #[.slice a n c, .int .u32 AD] w1 (GRet w1 (bgN zs AD))) := fun w1 hb => tbegin_any AD a n c zs w1 (hm.later hb) (by omega)
  clear hm hr hok
  generalize hMK : ((M + K : Nat) : Int) = MK at *
  go_enter Try.func6, Try.ntmps6
  go_upto_region 5 with (first
    | (go_at_call 18; (with_reducible refine HP1.out.mono ?_); intro x w1 hh; obtain ⟨r, wh, e, a3, c3, rfl, hR1, ho1, hb1, hx1⟩ := hh; have HR1 := hidden hR1; have HV1 := hidden (own32_v ho1 hx1); have HB1 := hidden hb1; have HRL := hidden (own_le ho1); clear hR1 ho1 hb1 hx1)
    | (go_at_call 18; refine (HP2.out _ HB1.out).mono ?_; intro x w2 hh; obtain ⟨r2, wh2, e2, a6, c6, rfl, hR6, ho6, hb6, hx6⟩ := hh; have HR6 := hidden hR6; have HV6 := hidden (own32_v ho6 hx6); have HBT := hidden (HB1.out.trans (hb6.mono HB1.out.size)); have HVT := hidden (HV1.out.later hb6); have HRL6 := hidden (own_le ho6); have HN6 := hidden (own_none ho6); clear hR6 ho6 hb6 hx6))
  have HMO := hidden (plr_more HR1.out HR6.out)
  by_cases he : e = 0
  · subst he
    have hbg : (bgN zs AD).1 = 0 ∧ Hid (PlRun (nxN zs T) M [] (bgN zs AD).2 0 r wh 0) := by
      rcases HR1.out with ⟨h1, h2, h3, h4⟩ | ⟨h1, h2⟩
      · exact absurd h4.symm h1
      · exact ⟨h1, h2⟩
    have HGOK : Hid ((bgN zs AD).2.ok) := by
      have h0 : ta0.ok := ⟨by decide, by decide, by decide⟩
      show Ta.ok _
      unfold bgN
      split
      · split
        · exact ⟨by simp, by simp only; omega, by simp⟩
        · split
          · exact ⟨by simp, by simp only; omega, by simp⟩
          · split
            · exact ⟨by simp, by simp only; omega, by simp⟩
            · exact h0
      · exact h0
    have HRM := hidden (plr_len HR1.out)
    obtain ⟨hG1, HRUN⟩ := hbg
    obtain ⟨G, hG⟩ : ∃ G, G = bgN zs AD := ⟨_, rfl⟩
    rw [← hG] at HBG HGOK hG1 HRUN
    obtain ⟨EG, t⟩ := G
    simp only at hG1 HGOK HRUN
    subst hG1
    unfold GRet at HBG
    simp only at HBG
    have hMK2 : True := trivial
    clear hG HP1 HP2 HV1 HB1 HR1 HR6 hMK hwm hMK2
    by_cases he2 : e2 = 0
    · subst he2
      obtain ⟨hpre, hwh⟩ := HMO.out.2 rfl rfl
      have HPRE : Hid (r2.take r.length = r) := by obtain ⟨s, rfl⟩ := hpre; show List.take _ _ = _; simp
      have HLE : Hid (r.length ≤ r2.length) := by obtain ⟨s, rfl⟩ := hpre; show _ ≤ _; simp
      have HWD : Hid (Calls Try.prog 16 #[.slice a6 r.length c6, .slice a3 r.length c3] w2 fun x w' => x = .returned (.bool true) ∧ Hid (Below w.heap.size w w') ∧ Hid (VRow w' a3 r.length r)) := by
        have hv := HV6.out.take r.length HLE.out
        rw [HPRE.out] at hv
        exact (words_any a6 a3 _ _ c6 c3 r r w2 hv HVT.out (by have := HRM.out; omega)).mono (fun x w' hh => ⟨by rw [hh.1]; simp, HBT.out.trans (hh.2.below.mono HBT.out.size), HVT.out.later hh.2.below⟩)
      have hsl : ∀ wz, (Instr.sliceAt 23 (.slice a6 r2.length c6) none (some (.int .i64 (r.length : Int))) none).run Try.prog wz = .ok (.slice a6 r.length c6) wz := fun wz => by
        have h1 := HLE.out
        have h2 := HRL6.out
        have q0 : (0 : Int) ≤ (r.length : Int) := by omega
        have q1 : (r.length : Int) ≤ (c6 : Int) := by omega
        cases a6 with
        | none =>
          obtain ⟨h3, h4⟩ := HN6.out rfl
          have h5 : r.length = 0 := by omega
          rw [h3, h4, h5]
          rfl
        | some x => go_simp
      have k1 : ¬ (r2.length : Int) < (r.length : Int) := by have := HLE.out; omega
      clear HV6 hpre
      cases wh with
      | true =>
        obtain ⟨hw2, hr2⟩ := hwh rfl
        subst hw2
        have k2 : ((r2.length : Int) == (r.length : Int)) = true := by rw [hr2]; simp
        have k3 : (r2.length : Int) = (r.length : Int) := by rw [hr2]
        clear hr2 hwh HMO HPRE HLE HRL6 HN6
        go_upto_region 9 with (first | (go_at_call 15; refine (num12 _ _).mono ?_; rintro x w9 ⟨rfl, e9⟩; rw [e9]; clear e9) | (go_at_call 16; refine HWD.out.mono ?_; rintro x w3 ⟨rfl, HBT3, HVT3⟩))
        have HBT := HBT3
        have HVT := HVT3
        go_upto_region 12 with (first | (go_at_call 20; refine (HBG.out _ HBT.out).mono ?_; rintro x w4 ⟨rfl, hb4⟩; have HB4 := hidden (HBT.out.trans (hb4.mono HBT.out.size)); have HV4 := hidden (HVT.out.later hb4); clear hb4))
        have HA5 : Hid (ABox (w4.alloc (.cells #[.int .i64 t.k, .int .u32 t.ad, .int .u32 t.bit] 45)) w4.heap.size t.k t.ad t.bit) := ab_new w4 t.k t.ad t.bit
        have HB5 : Hid (Below w.heap.size w (w4.alloc (.cells #[.int .i64 t.k, .int .u32 t.ad, .int .u32 t.bit] 45))) := HB4.out.alloc HB4.out.size _
        have HV5 := hidden (HV4.out.later (al_below w4 (.cells #[.int .i64 t.k, .int .u32 t.ad, .int .u32 t.bit] 45)))
        have HQ5 : Hid (w.heap.size ≤ w4.heap.size) := HB4.out.size
        generalize w4.alloc (.cells #[.int .i64 t.k, .int .u32 t.ad, .int .u32 t.bit] 45) = w5 at *
        have HLB : Hid (0 < r.length → ∀ x, a3 = some x → x.block < w4.heap.size) := fun h0 x e => by
          obtain ⟨b', o', e', hc⟩ := HV4.out.cells 0 h0
          rw [e'] at e
          cases e
          exact World.block_lt_of_cell? _ _ hc
        clear HB4 HV4
        generalize w4.heap.size = q at *
        go_loopw [19, 20] (fun vn vi wr => ∃ (ln iv : Nat), vn = .int .i64 ln ∧ vi = .int .i64 iv ∧ ln ≤ r.length ∧ iv ≤ 77312 ∧ Hid (∃ u : Ta, ABox wr q u.k u.ad u.bit ∧ u.ok ∧ (ln < r.length → ∃ em, iv ≤ 257 * ln + em ∧ PlRun (nxN zs T) M (r.take ln) u em r true 0)) ∧ Hid (Below w.heap.size w wr) ∧ Hid (VRow wr a3 r.length r)) (fun _ vi _ => 77312 - (intOf vi).toNat)
        case atStart => exact ⟨0, 0, rfl, rfl, by omega, by omega, ⟨t, HA5.out, HGOK.out, fun _ => ⟨0, by omega, by rw [List.take_zero]; exact HRUN.out⟩⟩, HB5, HV5⟩
        case round =>
          clear HA5 HB5 HV5 HVT HBT HRUN
          obtain ⟨ln, iv, rfl, rfl, hln, hiv, HS, HB, HV⟩ := hrel
          by_cases hlt : ln < r.length
          · have hrm := HRM.out
            have k10 : (ln : Int) < (r.length : Int) := by omega
            obtain ⟨u, hA, hU, hrun⟩ := HS.out
            obtain ⟨em, hie, hrun⟩ := hrun hlt
            obtain ⟨n1, n2, n3, n4, n5, n6⟩ := plrun_next hrun (by rw [List.length_take]; omega)
            have htl : (r.take ln).length = ln := by rw [List.length_take]; omega
            rw [htl] at n5 n6
            have k11 : (iv : Int) < 77312 := by omega
            have HA := hidden hA
            have HU := hidden hU
            have HNX := hidden (tnext_any u T a n c zs wr (HM.out.later HB.out) hU (by omega))
            have HUN := hidden (nxN_ok (zs := zs) (table := T) hU (by have := HM.out.len; omega))
            have HKD := hidden (nxN_kind zs T u n2 n3 n4)
            obtain ⟨N, hN⟩ : ∃ N, N = nxN zs T u := ⟨_, rfl⟩
            rw [← hN] at HNX HUN HKD n2 n5 n6
            have hkd := HKD.out
            have HNY : Hid (Calls Try.prog 21 #[.slice a n c, .int .u32 T, .agg #[.int .i64 u.k, .int .u32 u.ad, .int .u32 u.bit]] wr fun r w' => ∃ ca cc ad ra rn rc, r = .returned (.tuple #[.agg #[.int .i64 2, .slice ca N.cs.length cc, .int .u32 ad, .slice ra rn rc], .agg #[.int .i64 N.t.k, .int .u32 N.t.ad, .int .u32 N.t.bit], .int .i64 0]) ∧ Below wr.heap.size wr w' ∧ VRow w' ca N.cs.length N.cs ∧ (N.cs.length ≤ cc ∧ (N.cs.length = 0 → ca = none ∧ cc = 0)) ∧ (0 < N.cs.length → ∀ x, ca = some x → wr.heap.size ≤ x.block)) := HNX.out.mono (fun r w' hh => by have := prt_yes hh n2; rw [hkd] at this; exact this)
            obtain ⟨RL, hRL⟩ : ∃ RL, RL = r.length - ln := ⟨_, rfl⟩
            have hws : IntKind.i64.wrap ((r.length : Int) - (ln : Int)) = (RL : Int) := by rw [IntKind.wrap_i64]; omega
            rw [← hRL] at n5 n6
            have hRL2 : ln + RL = r.length := by omega
            obtain ⟨em0, hem0⟩ : ∃ em0, em0 = em := ⟨_, rfl⟩
            rw [← hem0] at hie n1 n6
            clear hem0 hRL
            have HN5 := hidden n5
            have HN6 := hidden n6
            have HIE := hidden hie
            have HN1 := hidden n1
            have hwi : IntKind.i64.wrap ((iv : Int) + 1) = ((iv + 1 : Nat) : Int) := by rw [IntKind.wrap_i64]; omega
            obtain ⟨a0, a1, a2, -⟩ := ab_box hA
            clear hN HNX HKD hkd n2 n3 n4 n5 n6 hrun hA hU hie n1 htl HS
            go_upto_region 15 with (first | (go_at_call 21; refine HNY.out.mono ?_; rintro x w7 ⟨ca, cc, ad, ra, rn, rc, rfl, hb7, hv7, hz7, -⟩; have HB7 := hidden hb7; have HV7 := hidden hv7; have HZ7 := hidden hz7; clear hb7 hv7 hz7))
            have HPX := hidden ((pb_new w7 (.int .i64 2) (.slice ca N.cs.length cc) (.int .u32 ad) (.slice ra rn rc)).later (al_below _ (.cells #[.int .i64 N.t.k, .int .u32 N.t.ad, .int .u32 N.t.bit] 45)))
            have HTX := hidden (ab_new (w7.alloc (.cells #[.int .i64 2, .slice ca N.cs.length cc, .int .u32 ad, .slice ra rn rc] 49)) N.t.k N.t.ad N.t.bit)
            rw [World.size_alloc] at HTX
            have hbb : Below w7.heap.size w7 ((w7.alloc (.cells #[.int .i64 2, .slice ca N.cs.length cc, .int .u32 ad, .slice ra rn rc] 49)).alloc (.cells #[.int .i64 N.t.k, .int .u32 N.t.ad, .int .u32 N.t.bit] 45)) := (al_below _ _).alloc (by simp) _
            have hbr := HB7.out.trans (hbb.mono HB7.out.size)
            have HV8 := hidden (HV7.out.later hbb)
            have HVL := hidden (HV.out.later hbr)
            have HA8 := hidden (HA.out.later hbr)
            have HB8 := hidden (HB.out.trans (hbr.mono HB.out.size))
            have HQ8 : Hid (q < w7.heap.size) := by have := HA.out.lt; have := HB7.out.size; show _ < _; omega
            generalize (w7.alloc (.cells #[.int .i64 2, .slice ca N.cs.length cc, .int .u32 ad, .slice ra rn rc] 49)).alloc (.cells #[.int .i64 N.t.k, .int .u32 N.t.ad, .int .u32 N.t.bit] 45) = w8 at *
            clear HV7 HA HV HB hbb hbr HB7 a0 a1 a2 HNY
            generalize w7.heap.size = q1 at *
            obtain ⟨p0, p1, -, -, -⟩ := pb_box HPX.out
            obtain ⟨⟨hcc, HZZ⟩⟩ : Nonempty (N.cs.length ≤ cc ∧ Hid (N.cs.length = 0 → ca = none ∧ cc = 0)) := ⟨HZ7.out⟩
            by_cases hmin : N.cs.length ≤ RL
            · have m2 : ¬ (RL : Int) < (N.cs.length : Int) := by omega
              have m3 : (N.cs.length : Int) ≤ (RL : Int) := by omega
              obtain ⟨EN, HEN, w1k⟩ : ∃ EN : Nat, Hid (ln + N.cs.length = EN) ∧ IntKind.i64.wrap ((ln : Int) + (N.cs.length : Int)) = (EN : Int) := ⟨ln + N.cs.length, rfl, by rw [IntKind.wrap_i64]; omega⟩
              have HVC := hidden (HV8.out.take N.cs.length (by omega))
              obtain ⟨b3, o3, rfl, -⟩ := HVL.out.cells 0 (by omega)
              have HVD : Hid (VRow w8 (some ⟨b3, o3 + ln, none⟩) N.cs.length ((r.drop ln).take N.cs.length)) := by
                have hv := HVL.out
                refine ⟨by rw [List.length_take, List.length_drop]; omega, fun x hx => hv.bd x (List.mem_of_mem_drop (List.mem_of_mem_take hx)), fun i hi => ⟨b3, o3 + ln, rfl, ?_⟩⟩
                obtain ⟨b', o', e', hc⟩ := hv.cells (ln + i) (by omega)
                cases e'
                rw [Nat.add_assoc, hc]
                simp [List.getD_eq_getElem?_getD, hi]
              have HEQ2 : Hid (N.cs.take N.cs.length = (r.drop ln).take N.cs.length) := by
                have h := HN5.out
                rw [List.take_of_length_le (by omega)] at h
                show List.take _ _ = List.take _ _
                rw [List.take_of_length_le (Nat.le_refl _)]
                exact h
              have hrl3 := HRL.out
              have hsl1 := fun wz => slice_to ca N.cs.length N.cs.length cc wz (fun hn => by
                by_cases h : N.cs.length = 0
                · exact ⟨h, (HZZ.out h).2⟩
                · obtain ⟨_, _, e, _⟩ := HV8.out.cells 0 (by omega)
                  rw [hn] at e
                  cases e) (by omega)
              have hsl2 := fun wz => slice_mid b3 o3 r.length ln EN N.cs.length c3 wz (by omega) HEN.out (by have := HEN.out; omega)
              have HNEXT : Hid (∃ u : Ta, N.t = u ∧ u.ok ∧ (EN < r.length → ∃ em, iv + 1 ≤ 257 * EN + em ∧ PlRun (nxN zs T) M (r.take EN) u em r true 0)) := by
                refine ⟨N.t, rfl, HUN.out, fun hlt2 => ?_⟩
                have he := HEN.out
                obtain ⟨x1, x2⟩ := HN6.out (by omega)
                by_cases h0 : N.cs.length = 0
                · refine ⟨em0 + 1, by have := HIE.out; omega, ?_⟩
                  have e5 : EN = ln := by omega
                  rw [e5]
                  exact x1 h0
                · refine ⟨0, by have := HIE.out; have := HN1.out; omega, ?_⟩
                  have h8 := x2 h0
                  obtain ⟨s, hs⟩ := plrun_pre h8
                  have e5 : r.take EN = r.take ln ++ N.cs := by
                    conv => lhs; rw [hs]
                    rw [List.take_left' (by rw [List.length_append, List.length_take]; omega)]
                  rw [e5]
                  exact h8
              have hENr : EN ≤ r.length := by have := HEN.out; omega
              have HWD2 : Hid (Calls Try.prog 16 #[.slice ca N.cs.length cc, .slice (some ⟨b3, o3 + ln, none⟩) N.cs.length (c3 - ln)] w8.drew fun x w' => x = .returned (.bool true) ∧ Hid (Below w8.heap.size w8 w') ∧ w'.cell? ⟨q1, 1, none⟩ = some (.slice ca N.cs.length cc)) := by
                have hbd : Below w8.heap.size w8 w8.drew := (Below.refl _ _).drew
                refine (words_any ca _ N.cs.length N.cs.length cc (c3 - ln) _ _ w8.drew (HVC.out.later hbd) (HVD.out.later hbd) (by omega)).mono (fun x w' hh => ?_)
                have hb2 := hbd.trans (hh.2.below.mono hbd.size)
                exact ⟨by rw [hh.1, HEQ2.out]; simp, hb2, (pb_box (HPX.out.later hb2)).2.1⟩
              clear hrl3
              go_upto_region 18 with (first | (go_at_call 15; refine (num12 _ _).mono ?_; rintro x w9 ⟨rfl, e9⟩; rw [e9]; clear e9))
              go_region_held3 (fun w' => w'.cell? ⟨q1, 1, none⟩ = some (.slice ca N.cs.length cc)) (first | assumption | exact ⟨by assumption⟩ | go_keep) (first | (go_at_call 16; refine HWD2.out.mono ?_; rintro x w9' ⟨rfl, HB9, p9⟩) | fail)
              have HT9 := hidden (HTX.out.later HB9.out)
              have HA9 := hidden (HA8.out.later HB9.out)
              have HV9 := hidden (HVL.out.later HB9.out)
              have HBW9 := hidden (HB8.out.trans (HB9.out.mono HB8.out.size))
              obtain ⟨f0, f1, f2, -⟩ := ab_box HT9.out
              obtain ⟨h0, h1, h2, hf⟩ := ab_box HA9.out
              have hf0 := hf 0
              have hf1 := hf 1
              have hf2 := hf 2
              have hq9 : ¬ q1 + 1 = q := by have := HQ8.out; omega
              have hq9' : ¬ q = q1 + 1 := by have := HQ8.out; omega
              clear hf
              have HST : Hid (ABox (set3 w9' q (.int .i64 N.t.k) (.int .u32 N.t.ad) (.int .u32 N.t.bit)) q N.t.k N.t.ad N.t.bit ∧ Below w.heap.size w (set3 w9' q (.int .i64 N.t.k) (.int .u32 N.t.ad) (.int .u32 N.t.bit)) ∧ VRow (set3 w9' q (.int .i64 N.t.k) (.int .u32 N.t.ad) (.int .u32 N.t.bit)) (some ⟨b3, o3, none⟩) r.length r) := by
                exact ⟨ab_set HA9.out _ _ _, ((HBW9.out.setCell HQ5.out _).setCell HQ5.out _).setCell HQ5.out _, HV9.out.set3 q (fun h0 x e => by have := HLB.out h0 x e; omega) _ _ _⟩
              go_wp2
              go_roundw
              case rel =>
                obtain ⟨s1, s2, s3⟩ := HST.out
                obtain ⟨uu, hu1, hu2, hu3⟩ := HNEXT.out
                subst hu1
                exact ⟨EN, iv + 1, rfl, by first | rfl | go_num, hENr, by omega, ⟨N.t, s1, hu2, hu3⟩, s2, s3⟩
              case measure => simp [intOf]; omega
            · have m2 : (RL : Int) < (N.cs.length : Int) := by omega
              have m3 : ¬ (N.cs.length : Int) ≤ (RL : Int) := by omega
              obtain ⟨EN, HEN, w1k⟩ : ∃ EN : Nat, Hid (ln + RL = EN) ∧ IntKind.i64.wrap ((ln : Int) + (RL : Int)) = (EN : Int) := ⟨ln + RL, rfl, by rw [IntKind.wrap_i64]; omega⟩
              have HVC := hidden (HV8.out.take RL (by omega))
              obtain ⟨b3, o3, rfl, -⟩ := HVL.out.cells 0 (by omega)
              have HVD : Hid (VRow w8 (some ⟨b3, o3 + ln, none⟩) RL ((r.drop ln).take RL)) := by
                have hv := HVL.out
                refine ⟨by rw [List.length_take, List.length_drop]; omega, fun x hx => hv.bd x (List.mem_of_mem_drop (List.mem_of_mem_take hx)), fun i hi => ⟨b3, o3 + ln, rfl, ?_⟩⟩
                obtain ⟨b', o', e', hc⟩ := hv.cells (ln + i) (by omega)
                cases e'
                rw [Nat.add_assoc, hc]
                simp [List.getD_eq_getElem?_getD, hi]
              have HEQ2 : Hid (N.cs.take RL = (r.drop ln).take RL) := by
                have h := HN5.out
                show List.take _ _ = List.take _ _
                rw [h, List.take_of_length_le (by rw [List.length_drop]; omega), List.take_of_length_le (by rw [List.length_drop]; omega)]
              have hrl3 := HRL.out
              have hsl1 := fun wz => slice_to ca N.cs.length RL cc wz (fun hn => by
                by_cases h : N.cs.length = 0
                · exact ⟨h, (HZZ.out h).2⟩
                · obtain ⟨_, _, e, _⟩ := HV8.out.cells 0 (by omega)
                  rw [hn] at e
                  cases e) (by omega)
              have hsl2 := fun wz => slice_mid b3 o3 r.length ln EN RL c3 wz (by omega) HEN.out (by have := HEN.out; omega)
              have HNEXT : Hid (∃ u : Ta, N.t = u ∧ u.ok ∧ (EN < r.length → ∃ em, iv + 1 ≤ 257 * EN + em ∧ PlRun (nxN zs T) M (r.take EN) u em r true 0)) := by
                refine ⟨N.t, rfl, HUN.out, fun hlt2 => ?_⟩
                have he := HEN.out
                omega
              have hENr : EN ≤ r.length := by have := HEN.out; omega
              have HWD2 : Hid (Calls Try.prog 16 #[.slice ca RL cc, .slice (some ⟨b3, o3 + ln, none⟩) RL (c3 - ln)] w8.drew fun x w' => x = .returned (.bool true) ∧ Hid (Below w8.heap.size w8 w') ∧ w'.cell? ⟨q1, 1, none⟩ = some (.slice ca N.cs.length cc)) := by
                have hbd : Below w8.heap.size w8 w8.drew := (Below.refl _ _).drew
                refine (words_any ca _ RL RL cc (c3 - ln) _ _ w8.drew (HVC.out.later hbd) (HVD.out.later hbd) (by omega)).mono (fun x w' hh => ?_)
                have hb2 := hbd.trans (hh.2.below.mono hbd.size)
                exact ⟨by rw [hh.1, HEQ2.out]; simp, hb2, (pb_box (HPX.out.later hb2)).2.1⟩
              clear hrl3
              go_upto_region 18 with (first | (go_at_call 15; refine (num12 _ _).mono ?_; rintro x w9 ⟨rfl, e9⟩; rw [e9]; clear e9))
              go_region_held3 (fun w' => w'.cell? ⟨q1, 1, none⟩ = some (.slice ca N.cs.length cc)) (first | assumption | exact ⟨by assumption⟩ | go_keep) (first | (go_at_call 16; refine HWD2.out.mono ?_; rintro x w9' ⟨rfl, HB9, p9⟩) | fail)
              have HT9 := hidden (HTX.out.later HB9.out)
              have HA9 := hidden (HA8.out.later HB9.out)
              have HV9 := hidden (HVL.out.later HB9.out)
              have HBW9 := hidden (HB8.out.trans (HB9.out.mono HB8.out.size))
              obtain ⟨f0, f1, f2, -⟩ := ab_box HT9.out
              obtain ⟨h0, h1, h2, hf⟩ := ab_box HA9.out
              have hf0 := hf 0
              have hf1 := hf 1
              have hf2 := hf 2
              have hq9 : ¬ q1 + 1 = q := by have := HQ8.out; omega
              have hq9' : ¬ q = q1 + 1 := by have := HQ8.out; omega
              clear hf
              have HST : Hid (ABox (set3 w9' q (.int .i64 N.t.k) (.int .u32 N.t.ad) (.int .u32 N.t.bit)) q N.t.k N.t.ad N.t.bit ∧ Below w.heap.size w (set3 w9' q (.int .i64 N.t.k) (.int .u32 N.t.ad) (.int .u32 N.t.bit)) ∧ VRow (set3 w9' q (.int .i64 N.t.k) (.int .u32 N.t.ad) (.int .u32 N.t.bit)) (some ⟨b3, o3, none⟩) r.length r) := by
                exact ⟨ab_set HA9.out _ _ _, ((HBW9.out.setCell HQ5.out _).setCell HQ5.out _).setCell HQ5.out _, HV9.out.set3 q (fun h0 x e => by have := HLB.out h0 x e; omega) _ _ _⟩
              go_wp2
              go_roundw
              case rel =>
                obtain ⟨s1, s2, s3⟩ := HST.out
                obtain ⟨uu, hu1, hu2, hu3⟩ := HNEXT.out
                subst hu1
                exact ⟨EN, iv + 1, rfl, by first | rfl | go_num, hENr, by omega, ⟨N.t, s1, hu2, hu3⟩, s2, s3⟩
              case measure => simp [intOf]; omega
          · obtain rfl : ln = r.length := by omega
            have HB9 := HB
            by_cases hi : iv < 77312
            · have k11 : (iv : Int) < 77312 := by omega
              go_wp2_with (first | (go_at_call 9; refine (HLV.out _ HB9.out).mono ?_; rintro x wl ⟨rfl, hbl⟩))
              go_ret
              exact ⟨rfl, hbl⟩
            · have k11 : ¬ (iv : Int) < 77312 := by omega
              go_wp2_with (first | (go_at_call 9; refine (HLV.out _ HB9.out).mono ?_; rintro x wl ⟨rfl, hbl⟩))
              go_ret
              exact ⟨rfl, hbl⟩
      | false =>
        clear hwh HMO HPRE HLE HRL6 HN6
        go_upto_region 9 with (first | (go_at_call 15; refine (num12 _ _).mono ?_; rintro x w9 ⟨rfl, e9⟩; rw [e9]; clear e9) | (go_at_call 16; refine HWD.out.mono ?_; rintro x w3 ⟨rfl, HBT3, HVT3⟩))
        have HBT := HBT3
        have HVT := HVT3
        go_upto_region 12 with (first | (go_at_call 20; refine (HBG.out _ HBT.out).mono ?_; rintro x w4 ⟨rfl, hb4⟩; have HB4 := hidden (HBT.out.trans (hb4.mono HBT.out.size)); have HV4 := hidden (HVT.out.later hb4); clear hb4))
        have HA5 : Hid (ABox (w4.alloc (.cells #[.int .i64 t.k, .int .u32 t.ad, .int .u32 t.bit] 45)) w4.heap.size t.k t.ad t.bit) := ab_new w4 t.k t.ad t.bit
        have HB5 : Hid (Below w.heap.size w (w4.alloc (.cells #[.int .i64 t.k, .int .u32 t.ad, .int .u32 t.bit] 45))) := HB4.out.alloc HB4.out.size _
        have HV5 := hidden (HV4.out.later (al_below w4 (.cells #[.int .i64 t.k, .int .u32 t.ad, .int .u32 t.bit] 45)))
        have HQ5 : Hid (w.heap.size ≤ w4.heap.size) := HB4.out.size
        generalize w4.alloc (.cells #[.int .i64 t.k, .int .u32 t.ad, .int .u32 t.bit] 45) = w5 at *
        have HLB : Hid (0 < r.length → ∀ x, a3 = some x → x.block < w4.heap.size) := fun h0 x e => by
          obtain ⟨b', o', e', hc⟩ := HV4.out.cells 0 h0
          rw [e'] at e
          cases e
          exact World.block_lt_of_cell? _ _ hc
        clear HB4 HV4
        generalize w4.heap.size = q at *
        go_loopw [19, 20] (fun vn vi wr => ∃ (ln iv : Nat), vn = .int .i64 ln ∧ vi = .int .i64 iv ∧ ln ≤ r.length ∧ iv ≤ 77312 ∧ Hid (∃ u : Ta, ABox wr q u.k u.ad u.bit ∧ u.ok ∧ (ln < r.length → ∃ em, iv ≤ 257 * ln + em ∧ PlRun (nxN zs T) M (r.take ln) u em r false 0)) ∧ Hid (Below w.heap.size w wr) ∧ Hid (VRow wr a3 r.length r)) (fun _ vi _ => 77312 - (intOf vi).toNat)
        case atStart => exact ⟨0, 0, rfl, rfl, by omega, by omega, ⟨t, HA5.out, HGOK.out, fun _ => ⟨0, by omega, by rw [List.take_zero]; exact HRUN.out⟩⟩, HB5, HV5⟩
        case round =>
          clear HA5 HB5 HV5 HVT HBT HRUN
          obtain ⟨ln, iv, rfl, rfl, hln, hiv, HS, HB, HV⟩ := hrel
          by_cases hlt : ln < r.length
          · have hrm := HRM.out
            have k10 : (ln : Int) < (r.length : Int) := by omega
            obtain ⟨u, hA, hU, hrun⟩ := HS.out
            obtain ⟨em, hie, hrun⟩ := hrun hlt
            obtain ⟨n1, n2, n3, n4, n5, n6⟩ := plrun_next hrun (by rw [List.length_take]; omega)
            have htl : (r.take ln).length = ln := by rw [List.length_take]; omega
            rw [htl] at n5 n6
            have k11 : (iv : Int) < 77312 := by omega
            have HA := hidden hA
            have HU := hidden hU
            have HNX := hidden (tnext_any u T a n c zs wr (HM.out.later HB.out) hU (by omega))
            have HUN := hidden (nxN_ok (zs := zs) (table := T) hU (by have := HM.out.len; omega))
            have HKD := hidden (nxN_kind zs T u n2 n3 n4)
            obtain ⟨N, hN⟩ : ∃ N, N = nxN zs T u := ⟨_, rfl⟩
            rw [← hN] at HNX HUN HKD n2 n5 n6
            have hkd := HKD.out
            have HNY : Hid (Calls Try.prog 21 #[.slice a n c, .int .u32 T, .agg #[.int .i64 u.k, .int .u32 u.ad, .int .u32 u.bit]] wr fun r w' => ∃ ca cc ad ra rn rc, r = .returned (.tuple #[.agg #[.int .i64 2, .slice ca N.cs.length cc, .int .u32 ad, .slice ra rn rc], .agg #[.int .i64 N.t.k, .int .u32 N.t.ad, .int .u32 N.t.bit], .int .i64 0]) ∧ Below wr.heap.size wr w' ∧ VRow w' ca N.cs.length N.cs ∧ (N.cs.length ≤ cc ∧ (N.cs.length = 0 → ca = none ∧ cc = 0)) ∧ (0 < N.cs.length → ∀ x, ca = some x → wr.heap.size ≤ x.block)) := HNX.out.mono (fun r w' hh => by have := prt_yes hh n2; rw [hkd] at this; exact this)
            obtain ⟨RL, hRL⟩ : ∃ RL, RL = r.length - ln := ⟨_, rfl⟩
            have hws : IntKind.i64.wrap ((r.length : Int) - (ln : Int)) = (RL : Int) := by rw [IntKind.wrap_i64]; omega
            rw [← hRL] at n5 n6
            have hRL2 : ln + RL = r.length := by omega
            obtain ⟨em0, hem0⟩ : ∃ em0, em0 = em := ⟨_, rfl⟩
            rw [← hem0] at hie n1 n6
            clear hem0 hRL
            have HN5 := hidden n5
            have HN6 := hidden n6
            have HIE := hidden hie
            have HN1 := hidden n1
            have hwi : IntKind.i64.wrap ((iv : Int) + 1) = ((iv + 1 : Nat) : Int) := by rw [IntKind.wrap_i64]; omega
            obtain ⟨a0, a1, a2, -⟩ := ab_box hA
            clear hN HNX HKD hkd n2 n3 n4 n5 n6 hrun hA hU hie n1 htl HS
            go_upto_region 15 with (first | (go_at_call 21; refine HNY.out.mono ?_; rintro x w7 ⟨ca, cc, ad, ra, rn, rc, rfl, hb7, hv7, hz7, -⟩; have HB7 := hidden hb7; have HV7 := hidden hv7; have HZ7 := hidden hz7; clear hb7 hv7 hz7))
            have HPX := hidden ((pb_new w7 (.int .i64 2) (.slice ca N.cs.length cc) (.int .u32 ad) (.slice ra rn rc)).later (al_below _ (.cells #[.int .i64 N.t.k, .int .u32 N.t.ad, .int .u32 N.t.bit] 45)))
            have HTX := hidden (ab_new (w7.alloc (.cells #[.int .i64 2, .slice ca N.cs.length cc, .int .u32 ad, .slice ra rn rc] 49)) N.t.k N.t.ad N.t.bit)
            rw [World.size_alloc] at HTX
            have hbb : Below w7.heap.size w7 ((w7.alloc (.cells #[.int .i64 2, .slice ca N.cs.length cc, .int .u32 ad, .slice ra rn rc] 49)).alloc (.cells #[.int .i64 N.t.k, .int .u32 N.t.ad, .int .u32 N.t.bit] 45)) := (al_below _ _).alloc (by simp) _
            have hbr := HB7.out.trans (hbb.mono HB7.out.size)
            have HV8 := hidden (HV7.out.later hbb)
            have HVL := hidden (HV.out.later hbr)
            have HA8 := hidden (HA.out.later hbr)
            have HB8 := hidden (HB.out.trans (hbr.mono HB.out.size))
            have HQ8 : Hid (q < w7.heap.size) := by have := HA.out.lt; have := HB7.out.size; show _ < _; omega
            generalize (w7.alloc (.cells #[.int .i64 2, .slice ca N.cs.length cc, .int .u32 ad, .slice ra rn rc] 49)).alloc (.cells #[.int .i64 N.t.k, .int .u32 N.t.ad, .int .u32 N.t.bit] 45) = w8 at *
            clear HV7 HA HV HB hbb hbr HB7 a0 a1 a2 HNY
            generalize w7.heap.size = q1 at *
            obtain ⟨p0, p1, -, -, -⟩ := pb_box HPX.out
            obtain ⟨⟨hcc, HZZ⟩⟩ : Nonempty (N.cs.length ≤ cc ∧ Hid (N.cs.length = 0 → ca = none ∧ cc = 0)) := ⟨HZ7.out⟩
            by_cases hmin : N.cs.length ≤ RL
            · have m2 : ¬ (RL : Int) < (N.cs.length : Int) := by omega
              have m3 : (N.cs.length : Int) ≤ (RL : Int) := by omega
              obtain ⟨EN, HEN, w1k⟩ : ∃ EN : Nat, Hid (ln + N.cs.length = EN) ∧ IntKind.i64.wrap ((ln : Int) + (N.cs.length : Int)) = (EN : Int) := ⟨ln + N.cs.length, rfl, by rw [IntKind.wrap_i64]; omega⟩
              have HVC := hidden (HV8.out.take N.cs.length (by omega))
              obtain ⟨b3, o3, rfl, -⟩ := HVL.out.cells 0 (by omega)
              have HVD : Hid (VRow w8 (some ⟨b3, o3 + ln, none⟩) N.cs.length ((r.drop ln).take N.cs.length)) := by
                have hv := HVL.out
                refine ⟨by rw [List.length_take, List.length_drop]; omega, fun x hx => hv.bd x (List.mem_of_mem_drop (List.mem_of_mem_take hx)), fun i hi => ⟨b3, o3 + ln, rfl, ?_⟩⟩
                obtain ⟨b', o', e', hc⟩ := hv.cells (ln + i) (by omega)
                cases e'
                rw [Nat.add_assoc, hc]
                simp [List.getD_eq_getElem?_getD, hi]
              have HEQ2 : Hid (N.cs.take N.cs.length = (r.drop ln).take N.cs.length) := by
                have h := HN5.out
                rw [List.take_of_length_le (by omega)] at h
                show List.take _ _ = List.take _ _
                rw [List.take_of_length_le (Nat.le_refl _)]
                exact h
              have hrl3 := HRL.out
              have hsl1 := fun wz => slice_to ca N.cs.length N.cs.length cc wz (fun hn => by
                by_cases h : N.cs.length = 0
                · exact ⟨h, (HZZ.out h).2⟩
                · obtain ⟨_, _, e, _⟩ := HV8.out.cells 0 (by omega)
                  rw [hn] at e
                  cases e) (by omega)
              have hsl2 := fun wz => slice_mid b3 o3 r.length ln EN N.cs.length c3 wz (by omega) HEN.out (by have := HEN.out; omega)
              have HNEXT : Hid (∃ u : Ta, N.t = u ∧ u.ok ∧ (EN < r.length → ∃ em, iv + 1 ≤ 257 * EN + em ∧ PlRun (nxN zs T) M (r.take EN) u em r false 0)) := by
                refine ⟨N.t, rfl, HUN.out, fun hlt2 => ?_⟩
                have he := HEN.out
                obtain ⟨x1, x2⟩ := HN6.out (by omega)
                by_cases h0 : N.cs.length = 0
                · refine ⟨em0 + 1, by have := HIE.out; omega, ?_⟩
                  have e5 : EN = ln := by omega
                  rw [e5]
                  exact x1 h0
                · refine ⟨0, by have := HIE.out; have := HN1.out; omega, ?_⟩
                  have h8 := x2 h0
                  obtain ⟨s, hs⟩ := plrun_pre h8
                  have e5 : r.take EN = r.take ln ++ N.cs := by
                    conv => lhs; rw [hs]
                    rw [List.take_left' (by rw [List.length_append, List.length_take]; omega)]
                  rw [e5]
                  exact h8
              have hENr : EN ≤ r.length := by have := HEN.out; omega
              have HWD2 : Hid (Calls Try.prog 16 #[.slice ca N.cs.length cc, .slice (some ⟨b3, o3 + ln, none⟩) N.cs.length (c3 - ln)] w8.drew fun x w' => x = .returned (.bool true) ∧ Hid (Below w8.heap.size w8 w') ∧ w'.cell? ⟨q1, 1, none⟩ = some (.slice ca N.cs.length cc)) := by
                have hbd : Below w8.heap.size w8 w8.drew := (Below.refl _ _).drew
                refine (words_any ca _ N.cs.length N.cs.length cc (c3 - ln) _ _ w8.drew (HVC.out.later hbd) (HVD.out.later hbd) (by omega)).mono (fun x w' hh => ?_)
                have hb2 := hbd.trans (hh.2.below.mono hbd.size)
                exact ⟨by rw [hh.1, HEQ2.out]; simp, hb2, (pb_box (HPX.out.later hb2)).2.1⟩
              clear hrl3
              go_upto_region 18 with (first | (go_at_call 15; refine (num12 _ _).mono ?_; rintro x w9 ⟨rfl, e9⟩; rw [e9]; clear e9))
              go_region_held3 (fun w' => w'.cell? ⟨q1, 1, none⟩ = some (.slice ca N.cs.length cc)) (first | assumption | exact ⟨by assumption⟩ | go_keep) (first | (go_at_call 16; refine HWD2.out.mono ?_; rintro x w9' ⟨rfl, HB9, p9⟩) | fail)
              have HT9 := hidden (HTX.out.later HB9.out)
              have HA9 := hidden (HA8.out.later HB9.out)
              have HV9 := hidden (HVL.out.later HB9.out)
              have HBW9 := hidden (HB8.out.trans (HB9.out.mono HB8.out.size))
              obtain ⟨f0, f1, f2, -⟩ := ab_box HT9.out
              obtain ⟨h0, h1, h2, hf⟩ := ab_box HA9.out
              have hf0 := hf 0
              have hf1 := hf 1
              have hf2 := hf 2
              have hq9 : ¬ q1 + 1 = q := by have := HQ8.out; omega
              have hq9' : ¬ q = q1 + 1 := by have := HQ8.out; omega
              clear hf
              have HST : Hid (ABox (set3 w9' q (.int .i64 N.t.k) (.int .u32 N.t.ad) (.int .u32 N.t.bit)) q N.t.k N.t.ad N.t.bit ∧ Below w.heap.size w (set3 w9' q (.int .i64 N.t.k) (.int .u32 N.t.ad) (.int .u32 N.t.bit)) ∧ VRow (set3 w9' q (.int .i64 N.t.k) (.int .u32 N.t.ad) (.int .u32 N.t.bit)) (some ⟨b3, o3, none⟩) r.length r) := by
                exact ⟨ab_set HA9.out _ _ _, ((HBW9.out.setCell HQ5.out _).setCell HQ5.out _).setCell HQ5.out _, HV9.out.set3 q (fun h0 x e => by have := HLB.out h0 x e; omega) _ _ _⟩
              go_wp2
              go_roundw
              case rel =>
                obtain ⟨s1, s2, s3⟩ := HST.out
                obtain ⟨uu, hu1, hu2, hu3⟩ := HNEXT.out
                subst hu1
                exact ⟨EN, iv + 1, rfl, by first | rfl | go_num, hENr, by omega, ⟨N.t, s1, hu2, hu3⟩, s2, s3⟩
              case measure => simp [intOf]; omega
            · have m2 : (RL : Int) < (N.cs.length : Int) := by omega
              have m3 : ¬ (N.cs.length : Int) ≤ (RL : Int) := by omega
              obtain ⟨EN, HEN, w1k⟩ : ∃ EN : Nat, Hid (ln + RL = EN) ∧ IntKind.i64.wrap ((ln : Int) + (RL : Int)) = (EN : Int) := ⟨ln + RL, rfl, by rw [IntKind.wrap_i64]; omega⟩
              have HVC := hidden (HV8.out.take RL (by omega))
              obtain ⟨b3, o3, rfl, -⟩ := HVL.out.cells 0 (by omega)
              have HVD : Hid (VRow w8 (some ⟨b3, o3 + ln, none⟩) RL ((r.drop ln).take RL)) := by
                have hv := HVL.out
                refine ⟨by rw [List.length_take, List.length_drop]; omega, fun x hx => hv.bd x (List.mem_of_mem_drop (List.mem_of_mem_take hx)), fun i hi => ⟨b3, o3 + ln, rfl, ?_⟩⟩
                obtain ⟨b', o', e', hc⟩ := hv.cells (ln + i) (by omega)
                cases e'
                rw [Nat.add_assoc, hc]
                simp [List.getD_eq_getElem?_getD, hi]
              have HEQ2 : Hid (N.cs.take RL = (r.drop ln).take RL) := by
                have h := HN5.out
                show List.take _ _ = List.take _ _
                rw [h, List.take_of_length_le (by rw [List.length_drop]; omega), List.take_of_length_le (by rw [List.length_drop]; omega)]
              have hrl3 := HRL.out
              have hsl1 := fun wz => slice_to ca N.cs.length RL cc wz (fun hn => by
                by_cases h : N.cs.length = 0
                · exact ⟨h, (HZZ.out h).2⟩
                · obtain ⟨_, _, e, _⟩ := HV8.out.cells 0 (by omega)
                  rw [hn] at e
                  cases e) (by omega)
              have hsl2 := fun wz => slice_mid b3 o3 r.length ln EN RL c3 wz (by omega) HEN.out (by have := HEN.out; omega)
              have HNEXT : Hid (∃ u : Ta, N.t = u ∧ u.ok ∧ (EN < r.length → ∃ em, iv + 1 ≤ 257 * EN + em ∧ PlRun (nxN zs T) M (r.take EN) u em r false 0)) := by
                refine ⟨N.t, rfl, HUN.out, fun hlt2 => ?_⟩
                have he := HEN.out
                omega
              have hENr : EN ≤ r.length := by have := HEN.out; omega
              have HWD2 : Hid (Calls Try.prog 16 #[.slice ca RL cc, .slice (some ⟨b3, o3 + ln, none⟩) RL (c3 - ln)] w8.drew fun x w' => x = .returned (.bool true) ∧ Hid (Below w8.heap.size w8 w') ∧ w'.cell? ⟨q1, 1, none⟩ = some (.slice ca N.cs.length cc)) := by
                have hbd : Below w8.heap.size w8 w8.drew := (Below.refl _ _).drew
                refine (words_any ca _ RL RL cc (c3 - ln) _ _ w8.drew (HVC.out.later hbd) (HVD.out.later hbd) (by omega)).mono (fun x w' hh => ?_)
                have hb2 := hbd.trans (hh.2.below.mono hbd.size)
                exact ⟨by rw [hh.1, HEQ2.out]; simp, hb2, (pb_box (HPX.out.later hb2)).2.1⟩
              clear hrl3
              go_upto_region 18 with (first | (go_at_call 15; refine (num12 _ _).mono ?_; rintro x w9 ⟨rfl, e9⟩; rw [e9]; clear e9))
              go_region_held3 (fun w' => w'.cell? ⟨q1, 1, none⟩ = some (.slice ca N.cs.length cc)) (first | assumption | exact ⟨by assumption⟩ | go_keep) (first | (go_at_call 16; refine HWD2.out.mono ?_; rintro x w9' ⟨rfl, HB9, p9⟩) | fail)
              have HT9 := hidden (HTX.out.later HB9.out)
              have HA9 := hidden (HA8.out.later HB9.out)
              have HV9 := hidden (HVL.out.later HB9.out)
              have HBW9 := hidden (HB8.out.trans (HB9.out.mono HB8.out.size))
              obtain ⟨f0, f1, f2, -⟩ := ab_box HT9.out
              obtain ⟨h0, h1, h2, hf⟩ := ab_box HA9.out
              have hf0 := hf 0
              have hf1 := hf 1
              have hf2 := hf 2
              have hq9 : ¬ q1 + 1 = q := by have := HQ8.out; omega
              have hq9' : ¬ q = q1 + 1 := by have := HQ8.out; omega
              clear hf
              have HST : Hid (ABox (set3 w9' q (.int .i64 N.t.k) (.int .u32 N.t.ad) (.int .u32 N.t.bit)) q N.t.k N.t.ad N.t.bit ∧ Below w.heap.size w (set3 w9' q (.int .i64 N.t.k) (.int .u32 N.t.ad) (.int .u32 N.t.bit)) ∧ VRow (set3 w9' q (.int .i64 N.t.k) (.int .u32 N.t.ad) (.int .u32 N.t.bit)) (some ⟨b3, o3, none⟩) r.length r) := by
                exact ⟨ab_set HA9.out _ _ _, ((HBW9.out.setCell HQ5.out _).setCell HQ5.out _).setCell HQ5.out _, HV9.out.set3 q (fun h0 x e => by have := HLB.out h0 x e; omega) _ _ _⟩
              go_wp2
              go_roundw
              case rel =>
                obtain ⟨s1, s2, s3⟩ := HST.out
                obtain ⟨uu, hu1, hu2, hu3⟩ := HNEXT.out
                subst hu1
                exact ⟨EN, iv + 1, rfl, by first | rfl | go_num, hENr, by omega, ⟨N.t, s1, hu2, hu3⟩, s2, s3⟩
              case measure => simp [intOf]; omega
          · obtain rfl : ln = r.length := by omega
            have HB9 := HB
            by_cases hi : iv < 77312
            · have k11 : (iv : Int) < 77312 := by omega
              go_wp2_with (first | (go_at_call 9; refine (HLV.out _ HB9.out).mono ?_; rintro x wl ⟨rfl, hbl⟩))
              go_ret
              exact ⟨rfl, hbl⟩
            · have k11 : ¬ (iv : Int) < 77312 := by omega
              go_wp2_with (first | (go_at_call 9; refine (HLV.out _ HB9.out).mono ?_; rintro x wl ⟨rfl, hbl⟩))
              go_ret
              exact ⟨rfl, hbl⟩
    · have k0 : ((e2 : Int) == 0) = false := by simp; omega
      clear HMO HV6 HRL6 HN6
      go_upto_region 9 with (first | (go_at_call 15; refine (num12 _ _).mono ?_; rintro x w9 ⟨rfl, e9⟩; rw [e9]; clear e9))
      have HBT := HBT
      have HVT := HVT
      go_upto_region 12 with (first | (go_at_call 20; refine (HBG.out _ HBT.out).mono ?_; rintro x w4 ⟨rfl, hb4⟩; have HB4 := hidden (HBT.out.trans (hb4.mono HBT.out.size)); have HV4 := hidden (HVT.out.later hb4); clear hb4))
      have HA5 : Hid (ABox (w4.alloc (.cells #[.int .i64 t.k, .int .u32 t.ad, .int .u32 t.bit] 45)) w4.heap.size t.k t.ad t.bit) := ab_new w4 t.k t.ad t.bit
      have HB5 : Hid (Below w.heap.size w (w4.alloc (.cells #[.int .i64 t.k, .int .u32 t.ad, .int .u32 t.bit] 45))) := HB4.out.alloc HB4.out.size _
      have HV5 := hidden (HV4.out.later (al_below w4 (.cells #[.int .i64 t.k, .int .u32 t.ad, .int .u32 t.bit] 45)))
      have HQ5 : Hid (w.heap.size ≤ w4.heap.size) := HB4.out.size
      generalize w4.alloc (.cells #[.int .i64 t.k, .int .u32 t.ad, .int .u32 t.bit] 45) = w5 at *
      have HLB : Hid (0 < r.length → ∀ x, a3 = some x → x.block < w4.heap.size) := fun h0 x e => by
        obtain ⟨b', o', e', hc⟩ := HV4.out.cells 0 h0
        rw [e'] at e
        cases e
        exact World.block_lt_of_cell? _ _ hc
      clear HB4 HV4
      generalize w4.heap.size = q at *
      go_loopw [19, 20] (fun vn vi wr => ∃ (ln iv : Nat), vn = .int .i64 ln ∧ vi = .int .i64 iv ∧ ln ≤ r.length ∧ iv ≤ 77312 ∧ Hid (∃ u : Ta, ABox wr q u.k u.ad u.bit ∧ u.ok ∧ (ln < r.length → ∃ em, iv ≤ 257 * ln + em ∧ PlRun (nxN zs T) M (r.take ln) u em r wh 0)) ∧ Hid (Below w.heap.size w wr) ∧ Hid (VRow wr a3 r.length r)) (fun _ vi _ => 77312 - (intOf vi).toNat)
      case atStart => exact ⟨0, 0, rfl, rfl, by omega, by omega, ⟨t, HA5.out, HGOK.out, fun _ => ⟨0, by omega, by rw [List.take_zero]; exact HRUN.out⟩⟩, HB5, HV5⟩
      case round =>
        clear HA5 HB5 HV5 HVT HBT HRUN
        obtain ⟨ln, iv, rfl, rfl, hln, hiv, HS, HB, HV⟩ := hrel
        by_cases hlt : ln < r.length
        · have hrm := HRM.out
          have k10 : (ln : Int) < (r.length : Int) := by omega
          obtain ⟨u, hA, hU, hrun⟩ := HS.out
          obtain ⟨em, hie, hrun⟩ := hrun hlt
          obtain ⟨n1, n2, n3, n4, n5, n6⟩ := plrun_next hrun (by rw [List.length_take]; omega)
          have htl : (r.take ln).length = ln := by rw [List.length_take]; omega
          rw [htl] at n5 n6
          have k11 : (iv : Int) < 77312 := by omega
          have HA := hidden hA
          have HU := hidden hU
          have HNX := hidden (tnext_any u T a n c zs wr (HM.out.later HB.out) hU (by omega))
          have HUN := hidden (nxN_ok (zs := zs) (table := T) hU (by have := HM.out.len; omega))
          have HKD := hidden (nxN_kind zs T u n2 n3 n4)
          obtain ⟨N, hN⟩ : ∃ N, N = nxN zs T u := ⟨_, rfl⟩
          rw [← hN] at HNX HUN HKD n2 n5 n6
          have hkd := HKD.out
          have HNY : Hid (Calls Try.prog 21 #[.slice a n c, .int .u32 T, .agg #[.int .i64 u.k, .int .u32 u.ad, .int .u32 u.bit]] wr fun r w' => ∃ ca cc ad ra rn rc, r = .returned (.tuple #[.agg #[.int .i64 2, .slice ca N.cs.length cc, .int .u32 ad, .slice ra rn rc], .agg #[.int .i64 N.t.k, .int .u32 N.t.ad, .int .u32 N.t.bit], .int .i64 0]) ∧ Below wr.heap.size wr w' ∧ VRow w' ca N.cs.length N.cs ∧ (N.cs.length ≤ cc ∧ (N.cs.length = 0 → ca = none ∧ cc = 0)) ∧ (0 < N.cs.length → ∀ x, ca = some x → wr.heap.size ≤ x.block)) := HNX.out.mono (fun r w' hh => by have := prt_yes hh n2; rw [hkd] at this; exact this)
          obtain ⟨RL, hRL⟩ : ∃ RL, RL = r.length - ln := ⟨_, rfl⟩
          have hws : IntKind.i64.wrap ((r.length : Int) - (ln : Int)) = (RL : Int) := by rw [IntKind.wrap_i64]; omega
          rw [← hRL] at n5 n6
          have hRL2 : ln + RL = r.length := by omega
          obtain ⟨em0, hem0⟩ : ∃ em0, em0 = em := ⟨_, rfl⟩
          rw [← hem0] at hie n1 n6
          clear hem0 hRL
          have HN5 := hidden n5
          have HN6 := hidden n6
          have HIE := hidden hie
          have HN1 := hidden n1
          have hwi : IntKind.i64.wrap ((iv : Int) + 1) = ((iv + 1 : Nat) : Int) := by rw [IntKind.wrap_i64]; omega
          obtain ⟨a0, a1, a2, -⟩ := ab_box hA
          clear hN HNX HKD hkd n2 n3 n4 n5 n6 hrun hA hU hie n1 htl HS
          go_upto_region 15 with (first | (go_at_call 21; refine HNY.out.mono ?_; rintro x w7 ⟨ca, cc, ad, ra, rn, rc, rfl, hb7, hv7, hz7, -⟩; have HB7 := hidden hb7; have HV7 := hidden hv7; have HZ7 := hidden hz7; clear hb7 hv7 hz7))
          have HPX := hidden ((pb_new w7 (.int .i64 2) (.slice ca N.cs.length cc) (.int .u32 ad) (.slice ra rn rc)).later (al_below _ (.cells #[.int .i64 N.t.k, .int .u32 N.t.ad, .int .u32 N.t.bit] 45)))
          have HTX := hidden (ab_new (w7.alloc (.cells #[.int .i64 2, .slice ca N.cs.length cc, .int .u32 ad, .slice ra rn rc] 49)) N.t.k N.t.ad N.t.bit)
          rw [World.size_alloc] at HTX
          have hbb : Below w7.heap.size w7 ((w7.alloc (.cells #[.int .i64 2, .slice ca N.cs.length cc, .int .u32 ad, .slice ra rn rc] 49)).alloc (.cells #[.int .i64 N.t.k, .int .u32 N.t.ad, .int .u32 N.t.bit] 45)) := (al_below _ _).alloc (by simp) _
          have hbr := HB7.out.trans (hbb.mono HB7.out.size)
          have HV8 := hidden (HV7.out.later hbb)
          have HVL := hidden (HV.out.later hbr)
          have HA8 := hidden (HA.out.later hbr)
          have HB8 := hidden (HB.out.trans (hbr.mono HB.out.size))
          have HQ8 : Hid (q < w7.heap.size) := by have := HA.out.lt; have := HB7.out.size; show _ < _; omega
          generalize (w7.alloc (.cells #[.int .i64 2, .slice ca N.cs.length cc, .int .u32 ad, .slice ra rn rc] 49)).alloc (.cells #[.int .i64 N.t.k, .int .u32 N.t.ad, .int .u32 N.t.bit] 45) = w8 at *
          clear HV7 HA HV HB hbb hbr HB7 a0 a1 a2 HNY
          generalize w7.heap.size = q1 at *
          obtain ⟨p0, p1, -, -, -⟩ := pb_box HPX.out
          obtain ⟨⟨hcc, HZZ⟩⟩ : Nonempty (N.cs.length ≤ cc ∧ Hid (N.cs.length = 0 → ca = none ∧ cc = 0)) := ⟨HZ7.out⟩
          by_cases hmin : N.cs.length ≤ RL
          · have m2 : ¬ (RL : Int) < (N.cs.length : Int) := by omega
            have m3 : (N.cs.length : Int) ≤ (RL : Int) := by omega
            obtain ⟨EN, HEN, w1k⟩ : ∃ EN : Nat, Hid (ln + N.cs.length = EN) ∧ IntKind.i64.wrap ((ln : Int) + (N.cs.length : Int)) = (EN : Int) := ⟨ln + N.cs.length, rfl, by rw [IntKind.wrap_i64]; omega⟩
            have HVC := hidden (HV8.out.take N.cs.length (by omega))
            obtain ⟨b3, o3, rfl, -⟩ := HVL.out.cells 0 (by omega)
            have HVD : Hid (VRow w8 (some ⟨b3, o3 + ln, none⟩) N.cs.length ((r.drop ln).take N.cs.length)) := by
              have hv := HVL.out
              refine ⟨by rw [List.length_take, List.length_drop]; omega, fun x hx => hv.bd x (List.mem_of_mem_drop (List.mem_of_mem_take hx)), fun i hi => ⟨b3, o3 + ln, rfl, ?_⟩⟩
              obtain ⟨b', o', e', hc⟩ := hv.cells (ln + i) (by omega)
              cases e'
              rw [Nat.add_assoc, hc]
              simp [List.getD_eq_getElem?_getD, hi]
            have HEQ2 : Hid (N.cs.take N.cs.length = (r.drop ln).take N.cs.length) := by
              have h := HN5.out
              rw [List.take_of_length_le (by omega)] at h
              show List.take _ _ = List.take _ _
              rw [List.take_of_length_le (Nat.le_refl _)]
              exact h
            have hrl3 := HRL.out
            have hsl1 := fun wz => slice_to ca N.cs.length N.cs.length cc wz (fun hn => by
              by_cases h : N.cs.length = 0
              · exact ⟨h, (HZZ.out h).2⟩
              · obtain ⟨_, _, e, _⟩ := HV8.out.cells 0 (by omega)
                rw [hn] at e
                cases e) (by omega)
            have hsl2 := fun wz => slice_mid b3 o3 r.length ln EN N.cs.length c3 wz (by omega) HEN.out (by have := HEN.out; omega)
            have HNEXT : Hid (∃ u : Ta, N.t = u ∧ u.ok ∧ (EN < r.length → ∃ em, iv + 1 ≤ 257 * EN + em ∧ PlRun (nxN zs T) M (r.take EN) u em r wh 0)) := by
              refine ⟨N.t, rfl, HUN.out, fun hlt2 => ?_⟩
              have he := HEN.out
              obtain ⟨x1, x2⟩ := HN6.out (by omega)
              by_cases h0 : N.cs.length = 0
              · refine ⟨em0 + 1, by have := HIE.out; omega, ?_⟩
                have e5 : EN = ln := by omega
                rw [e5]
                exact x1 h0
              · refine ⟨0, by have := HIE.out; have := HN1.out; omega, ?_⟩
                have h8 := x2 h0
                obtain ⟨s, hs⟩ := plrun_pre h8
                have e5 : r.take EN = r.take ln ++ N.cs := by
                  conv => lhs; rw [hs]
                  rw [List.take_left' (by rw [List.length_append, List.length_take]; omega)]
                rw [e5]
                exact h8
            have hENr : EN ≤ r.length := by have := HEN.out; omega
            have HWD2 : Hid (Calls Try.prog 16 #[.slice ca N.cs.length cc, .slice (some ⟨b3, o3 + ln, none⟩) N.cs.length (c3 - ln)] w8.drew fun x w' => x = .returned (.bool true) ∧ Hid (Below w8.heap.size w8 w') ∧ w'.cell? ⟨q1, 1, none⟩ = some (.slice ca N.cs.length cc)) := by
              have hbd : Below w8.heap.size w8 w8.drew := (Below.refl _ _).drew
              refine (words_any ca _ N.cs.length N.cs.length cc (c3 - ln) _ _ w8.drew (HVC.out.later hbd) (HVD.out.later hbd) (by omega)).mono (fun x w' hh => ?_)
              have hb2 := hbd.trans (hh.2.below.mono hbd.size)
              exact ⟨by rw [hh.1, HEQ2.out]; simp, hb2, (pb_box (HPX.out.later hb2)).2.1⟩
            clear hrl3
            go_upto_region 18 with (first | (go_at_call 15; refine (num12 _ _).mono ?_; rintro x w9 ⟨rfl, e9⟩; rw [e9]; clear e9))
            go_region_held3 (fun w' => w'.cell? ⟨q1, 1, none⟩ = some (.slice ca N.cs.length cc)) (first | assumption | exact ⟨by assumption⟩ | go_keep) (first | (go_at_call 16; refine HWD2.out.mono ?_; rintro x w9' ⟨rfl, HB9, p9⟩) | fail)
            have HT9 := hidden (HTX.out.later HB9.out)
            have HA9 := hidden (HA8.out.later HB9.out)
            have HV9 := hidden (HVL.out.later HB9.out)
            have HBW9 := hidden (HB8.out.trans (HB9.out.mono HB8.out.size))
            obtain ⟨f0, f1, f2, -⟩ := ab_box HT9.out
            obtain ⟨h0, h1, h2, hf⟩ := ab_box HA9.out
            have hf0 := hf 0
            have hf1 := hf 1
            have hf2 := hf 2
            have hq9 : ¬ q1 + 1 = q := by have := HQ8.out; omega
            have hq9' : ¬ q = q1 + 1 := by have := HQ8.out; omega
            clear hf
            have HST : Hid (ABox (set3 w9' q (.int .i64 N.t.k) (.int .u32 N.t.ad) (.int .u32 N.t.bit)) q N.t.k N.t.ad N.t.bit ∧ Below w.heap.size w (set3 w9' q (.int .i64 N.t.k) (.int .u32 N.t.ad) (.int .u32 N.t.bit)) ∧ VRow (set3 w9' q (.int .i64 N.t.k) (.int .u32 N.t.ad) (.int .u32 N.t.bit)) (some ⟨b3, o3, none⟩) r.length r) := by
              exact ⟨ab_set HA9.out _ _ _, ((HBW9.out.setCell HQ5.out _).setCell HQ5.out _).setCell HQ5.out _, HV9.out.set3 q (fun h0 x e => by have := HLB.out h0 x e; omega) _ _ _⟩
            go_wp2
            go_roundw
            case rel =>
              obtain ⟨s1, s2, s3⟩ := HST.out
              obtain ⟨uu, hu1, hu2, hu3⟩ := HNEXT.out
              subst hu1
              exact ⟨EN, iv + 1, rfl, by first | rfl | go_num, hENr, by omega, ⟨N.t, s1, hu2, hu3⟩, s2, s3⟩
            case measure => simp [intOf]; omega
          · have m2 : (RL : Int) < (N.cs.length : Int) := by omega
            have m3 : ¬ (N.cs.length : Int) ≤ (RL : Int) := by omega
            obtain ⟨EN, HEN, w1k⟩ : ∃ EN : Nat, Hid (ln + RL = EN) ∧ IntKind.i64.wrap ((ln : Int) + (RL : Int)) = (EN : Int) := ⟨ln + RL, rfl, by rw [IntKind.wrap_i64]; omega⟩
            have HVC := hidden (HV8.out.take RL (by omega))
            obtain ⟨b3, o3, rfl, -⟩ := HVL.out.cells 0 (by omega)
            have HVD : Hid (VRow w8 (some ⟨b3, o3 + ln, none⟩) RL ((r.drop ln).take RL)) := by
              have hv := HVL.out
              refine ⟨by rw [List.length_take, List.length_drop]; omega, fun x hx => hv.bd x (List.mem_of_mem_drop (List.mem_of_mem_take hx)), fun i hi => ⟨b3, o3 + ln, rfl, ?_⟩⟩
              obtain ⟨b', o', e', hc⟩ := hv.cells (ln + i) (by omega)
              cases e'
              rw [Nat.add_assoc, hc]
              simp [List.getD_eq_getElem?_getD, hi]
            have HEQ2 : Hid (N.cs.take RL = (r.drop ln).take RL) := by
              have h := HN5.out
              show List.take _ _ = List.take _ _
              rw [h, List.take_of_length_le (by rw [List.length_drop]; omega), List.take_of_length_le (by rw [List.length_drop]; omega)]
            have hrl3 := HRL.out
            have hsl1 := fun wz => slice_to ca N.cs.length RL cc wz (fun hn => by
              by_cases h : N.cs.length = 0
              · exact ⟨h, (HZZ.out h).2⟩
              · obtain ⟨_, _, e, _⟩ := HV8.out.cells 0 (by omega)
                rw [hn] at e
                cases e) (by omega)
            have hsl2 := fun wz => slice_mid b3 o3 r.length ln EN RL c3 wz (by omega) HEN.out (by have := HEN.out; omega)
            have HNEXT : Hid (∃ u : Ta, N.t = u ∧ u.ok ∧ (EN < r.length → ∃ em, iv + 1 ≤ 257 * EN + em ∧ PlRun (nxN zs T) M (r.take EN) u em r wh 0)) := by
              refine ⟨N.t, rfl, HUN.out, fun hlt2 => ?_⟩
              have he := HEN.out
              omega
            have hENr : EN ≤ r.length := by have := HEN.out; omega
            have HWD2 : Hid (Calls Try.prog 16 #[.slice ca RL cc, .slice (some ⟨b3, o3 + ln, none⟩) RL (c3 - ln)] w8.drew fun x w' => x = .returned (.bool true) ∧ Hid (Below w8.heap.size w8 w') ∧ w'.cell? ⟨q1, 1, none⟩ = some (.slice ca N.cs.length cc)) := by
              have hbd : Below w8.heap.size w8 w8.drew := (Below.refl _ _).drew
              refine (words_any ca _ RL RL cc (c3 - ln) _ _ w8.drew (HVC.out.later hbd) (HVD.out.later hbd) (by omega)).mono (fun x w' hh => ?_)
              have hb2 := hbd.trans (hh.2.below.mono hbd.size)
              exact ⟨by rw [hh.1, HEQ2.out]; simp, hb2, (pb_box (HPX.out.later hb2)).2.1⟩
            clear hrl3
            go_upto_region 18 with (first | (go_at_call 15; refine (num12 _ _).mono ?_; rintro x w9 ⟨rfl, e9⟩; rw [e9]; clear e9))
            go_region_held3 (fun w' => w'.cell? ⟨q1, 1, none⟩ = some (.slice ca N.cs.length cc)) (first | assumption | exact ⟨by assumption⟩ | go_keep) (first | (go_at_call 16; refine HWD2.out.mono ?_; rintro x w9' ⟨rfl, HB9, p9⟩) | fail)
            have HT9 := hidden (HTX.out.later HB9.out)
            have HA9 := hidden (HA8.out.later HB9.out)
            have HV9 := hidden (HVL.out.later HB9.out)
            have HBW9 := hidden (HB8.out.trans (HB9.out.mono HB8.out.size))
            obtain ⟨f0, f1, f2, -⟩ := ab_box HT9.out
            obtain ⟨h0, h1, h2, hf⟩ := ab_box HA9.out
            have hf0 := hf 0
            have hf1 := hf 1
            have hf2 := hf 2
            have hq9 : ¬ q1 + 1 = q := by have := HQ8.out; omega
            have hq9' : ¬ q = q1 + 1 := by have := HQ8.out; omega
            clear hf
            have HST : Hid (ABox (set3 w9' q (.int .i64 N.t.k) (.int .u32 N.t.ad) (.int .u32 N.t.bit)) q N.t.k N.t.ad N.t.bit ∧ Below w.heap.size w (set3 w9' q (.int .i64 N.t.k) (.int .u32 N.t.ad) (.int .u32 N.t.bit)) ∧ VRow (set3 w9' q (.int .i64 N.t.k) (.int .u32 N.t.ad) (.int .u32 N.t.bit)) (some ⟨b3, o3, none⟩) r.length r) := by
              exact ⟨ab_set HA9.out _ _ _, ((HBW9.out.setCell HQ5.out _).setCell HQ5.out _).setCell HQ5.out _, HV9.out.set3 q (fun h0 x e => by have := HLB.out h0 x e; omega) _ _ _⟩
            go_wp2
            go_roundw
            case rel =>
              obtain ⟨s1, s2, s3⟩ := HST.out
              obtain ⟨uu, hu1, hu2, hu3⟩ := HNEXT.out
              subst hu1
              exact ⟨EN, iv + 1, rfl, by first | rfl | go_num, hENr, by omega, ⟨N.t, s1, hu2, hu3⟩, s2, s3⟩
            case measure => simp [intOf]; omega
        · obtain rfl : ln = r.length := by omega
          have HB9 := HB
          by_cases hi : iv < 77312
          · have k11 : (iv : Int) < 77312 := by omega
            go_wp2_with (first | (go_at_call 9; refine (HLV.out _ HB9.out).mono ?_; rintro x wl ⟨rfl, hbl⟩))
            go_ret
            exact ⟨rfl, hbl⟩
          · have k11 : ¬ (iv : Int) < 77312 := by omega
            go_wp2_with (first | (go_at_call 9; refine (HLV.out _ HB9.out).mono ?_; rintro x wl ⟨rfl, hbl⟩))
            go_ret
            exact ⟨rfl, hbl⟩
  · obtain ⟨rfl, rfl, rfl⟩ := HMO.out.1 he
    have he2 : ((e : Int) == 0) = false := by simp; omega
    go_wp2_with (first | (go_at_call 15; refine (num12 _ _).mono ?_; rintro x w9 ⟨rfl, e9⟩; rw [e9]; clear e9) | (go_at_call 9; refine (HLV.out _ HBT.out).mono ?_; rintro x wl ⟨rfl, hbl⟩))
    go_ret
    exact ⟨rfl, hbl⟩
end Go.Proofs.Ytoppgdbkbemogaa
