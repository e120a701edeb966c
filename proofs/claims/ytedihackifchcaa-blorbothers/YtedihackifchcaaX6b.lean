/- Contract of iff.Parse for any bytes: the kind and the chunks, in memory of the call's own, or the first fault and its place. -/
import Derived.Test.YtedihackifchcaaX6a
import Derived.Test.YtedihackifchcaaJ5h
namespace Go.Proofs.Ytedihackifchcaa
open Go.RowKit
set_option maxHeartbeats 1000000
set_option maxRecDepth 100000
set_option linter.unusedVariables false

/-- a chunk as the page speaks of it: its letters and its data -/
abbrev Sc := ByteArray × List Int
def scOf (k : Ck) : Sc := (k.id, k.d)
def pgo (zs : List Int) : Nat → Nat → List Sc → List Sc × Int × Int
  | 0, _, acc => (acc, 0, zs.length)
  | F + 1, p, acc => if zs.length ≤ p then (acc, 0, zs.length) else if acc.length = 1024 then ([], 4, p) else if (chunkR zs p).2.1 ≠ 0 then ([], (chunkR zs p).2.1, (chunkR zs p).2.2)
    else pgo zs F (p + 8 + (chunkR zs p).1.toNat + (chunkR zs p).1.toNat % 2) (acc ++ [(strA (seg zs p 4), seg zs (p + 8) (chunkR zs p).1.toNat)])
/-- any bytes as a form: its chunks, or the first fault and its place -/
def parseR (zs : List Int) : List Sc × Int × Int := if (headR zs).1 ≠ 0 then ([], (headR zs).1, (headR zs).2) else pgo zs (zs.length + 1) 12 []
/-- what Parse answers -/
def PRet (w : World) (S8 : ByteArray) (L : Nat) (R : List Sc × Int × Int) (e : Ending) (w' : World) : Prop :=
  Below w.heap.size w w' ∧ ((R.2.1 ≠ 0 ∧ e = .returned (.tuple #[.string ⟨#[]⟩, .slice none 0 0, .int .i64 R.2.1, .int .i64 R.2.2])) ∨
    (R.2.1 = 0 ∧ R.2.2 = L ∧ ∃ ao cv ks, e = .returned (.tuple #[.string S8, .slice ao ks.length cv, .int .i64 0, .int .i64 (L : Nat)]) ∧ Got w.heap.size w' (.slice ao ks.length cv) ks ∧ ks.map scOf = R.1 ∧ (∀ k ∈ ks, k.d.length = k.l ∧ OkB k.d ∧ k.id.size = 4) ∧ ks.length ≤ 1024))
theorem headR_long (zs : List Int) (h : (headR zs).1 = 0) : 12 ≤ zs.length := by
  unfold headR at h
  by_cases c1 : preB zs = false
  · rw [if_pos c1] at h; exact absurd h (by simp)
  rw [if_neg c1] at h
  by_cases c2 : zs.length < 12
  · rw [if_pos c2] at h; exact absurd h (by simp)
  omega
set_option maxHeartbeats 2000000 in
theorem parse_any (g o L cap : Nat) (zs : List Int) (w : World) (h : Bs w g o L zs) (hok : OkB zs) (hm : L ≤ 1000012) (hcap : L ≤ cap) :
    Calls Try.prog 56 #[.slice (some ⟨g, o, none⟩) L cap] w (PRet w (strA (seg zs 8 4)) L (parseR zs)) := by
  obtain ⟨i0, hi, hz0, hz1, hz2⟩ := info_parts info59
  have hlen := h.1
  have HH := hidden (checkHead_any g o L cap zs w h hok (by omega) hcap)
  have HBs := hidden h
  have hLi : (L : Int) ≤ 1000012 := by omega
  clear h
  by_cases hE : (headR zs).1 ≠ 0
  · have hR : parseR zs = ([], (headR zs).1, (headR zs).2) := by unfold parseR; rw [if_pos hE]
    rw [hR]
    have hE2 : ((headR zs).1 != 0) = true := by simpa using hE
    clear hR
    generalize (headR zs).1 = E at *
    generalize (headR zs).2 = A at *
    go_enter Try.func56, Try.ntmps56
    go_wp2_with (go_at_call 61; refine HH.out.mono ?_; rintro e w9 ⟨rfl, hw⟩; obtain rfl := hw.symm)
    refine bodyPost_ret (v := .tuple #[.string ⟨#[]⟩, .slice none 0 0, .int .i64 E, .int .i64 A]) (by simp [results, Try.results56, go_sem]) rfl ?_
    exact ⟨Below.refl _ _, .inl ⟨hE, rfl⟩⟩
  have hE' : (headR zs).1 = 0 := by simpa using hE
  have hL12 : 12 ≤ L := by rw [← hlen]; exact headR_long zs hE'
  have hR : parseR zs = pgo zs (L + 1) 12 [] := by unfold parseR; rw [if_neg hE, hlen]
  rw [hR]
  rw [hE'] at HH
  have HRR : ∃ R, R = pgo zs (L + 1) 12 [] := ⟨_, rfl⟩
  obtain ⟨R, hRR⟩ := HRR
  rw [← hRR]
  have HRR := hidden hRR.symm
  clear hRR
  clear hR hE hE'
  generalize (headR zs).2 = HA at HH
  have HI8 : Hid (∀ wx, Below w.heap.size w wx → Calls Try.prog 63 #[.slice (some ⟨g, o, none⟩) L cap, .int .i64 8] wx fun e w' => e = .returned (.string (strA (seg zs 8 4))) ∧ w' = wx) := hidden fun wx hb => idAt_any g o L cap 8 zs wx (HBs.out.later hb) hok (by omega) hcap (by omega)
  have hmn : (L : Int) < 9223372036854775807 := by omega
  generalize strA (seg zs 8 4) = S8 at HI8 ⊢
  have HOK := hidden hok
  clear hok
  go_enter Try.func56, Try.ntmps56
  go_wp2_with (go_at_call 61; refine HH.out.mono ?_; rintro e w9 ⟨rfl, hw⟩; obtain rfl := hw.symm)
  go_loopw [3, 6] (fun v pv w' => ∃ (F p : Nat) (ks : List Ck) (ao : Option Addr) (cv : Nat), p ≤ L ∧ 12 ≤ p ∧ L < p + F ∧ ks.length ≤ 1024 ∧ pv = .int .i64 (p : Int) ∧ v = .slice ao ks.length cv ∧ Got w.heap.size w' v ks ∧ Hid (pgo zs F p (ks.map scOf) = R) ∧ (∀ k ∈ ks, k.d.length = k.l ∧ OkB k.d ∧ k.id.size = 4) ∧ Below w.heap.size w w') (fun _ pv _ => L - (intOf pv).toNat)
  case atStart => exact ⟨L + 1, 12, [], none, 0, hL12, by omega, by omega, by simp, rfl, rfl, ⟨World.ownsRow_nil _ _ _ _, fun k hk => by cases hk⟩, HRR, (fun k hk => by cases hk), Below.refl _ _⟩
  case round =>
    obtain ⟨F, p, ks, ao, cv, hpL, hp12, hfu, hk1, rfl, rfl, hgot, HP, hall, hbl⟩ := hrel
    have HG := hidden hgot
    have HAll := hidden hall
    clear hgot HRR hall
    have hs1 := hbl.size
    obtain ⟨F', rfl⟩ : ∃ F', F = F' + 1 := ⟨F - 1, by omega⟩
    have hst := HP.out
    unfold pgo at hst
    rw [hlen, List.length_map] at hst
    have HST := hidden hst
    clear hst HP
    by_cases hlt : p < L
    · rw [if_neg (by omega)] at HST
      have hpLi : (p : Int) < (L : Int) := by omega
      by_cases hk : ks.length = 1024
      · rw [if_pos hk] at HST
        have hk2 : ((ks.length : Int) == 1024) = true := by simp; omega
        have hR : R = ([], 4, (p : Int)) := HST.out.symm
        subst hR
        clear HST hk
        generalize ks.length = kl at *
        go_wp2
        refine bodyPost_ret (v := .tuple #[.string ⟨#[]⟩, .slice none 0 0, .int .i64 4, .int .i64 p]) (by simp [results, Try.results56, go_sem]) rfl ?_
        exact ⟨hbl, .inl ⟨by simp, rfl⟩⟩
      rw [if_neg hk] at HST
      have hk2 : ((ks.length : Int) == 1024) = false := by simp; omega
      have hk3 : ks.length < 1024 := by omega
      have HK := hidden (checkChunk_any g o L cap p zs wr (HBs.out.later hbl) HOK.out (by omega) hcap hlt)
      by_cases hC : (chunkR zs p).2.1 ≠ 0
      · rw [if_pos hC] at HST
        have hC2 : ((chunkR zs p).2.1 != 0) = true := by simpa using hC
        have hR : R = ([], (chunkR zs p).2.1, (chunkR zs p).2.2) := HST.out.symm
        subst hR
        clear HST hk
        generalize (chunkR zs p).1 = C1 at *
        generalize (chunkR zs p).2.1 = C2 at *
        generalize (chunkR zs p).2.2 = C3 at *
        generalize ks.length = kl at *
        go_wp2_with (go_at_call 62; refine HK.out.mono ?_; rintro e w9 ⟨rfl, hw⟩; obtain rfl := hw.symm)
        refine bodyPost_ret (v := .tuple #[.string ⟨#[]⟩, .slice none 0 0, .int .i64 C2, .int .i64 C3]) (by simp [results, Try.results56, go_sem]) rfl ?_
        exact ⟨hbl, .inl ⟨hC, rfl⟩⟩
      rw [if_neg hC] at HST
      obtain ⟨n, hce, hfit, hbe, hid⟩ := chunkR_ok zs p HOK.out (by simpa using hC)
      rw [hce] at HST HK
      simp only [Int.toNat_natCast] at HST
      rw [hlen] at hfit
      have hn63 : n ≤ 1000012 := by omega
      have hdl : (seg zs (p + 8) n).length = n := seg_len zs (p + 8) n (by omega)
      have HId2 : Hid (∀ wx, Below wr.heap.size wr wx → Calls Try.prog 63 #[.slice (some ⟨g, o, none⟩) L cap, .int .i64 (p : Int)] wx fun e w' => e = .returned (.string (strA (seg zs p 4))) ∧ w' = wx) := hidden fun wx hb => idAt_any g o L cap p zs wx (HBs.out.later (hbl.trans (hb.mono hs1))) HOK.out (by omega) hcap (by omega)
      have HQ3 : Hid (∀ i, i < n → zs.getD (p + 8 + i) 0 = (seg zs (p + 8) n).getD i 0) := hidden fun i hi => (seg_at _ _ _ _ hi (by omega)).symm
      have HDO := hidden (seg_okb HOK.out (p + 8) n)
      have hid4 := hid.1
      clear hC hce hbe hid hk
      generalize hsS : strA (seg zs p 4) = sS at *
      generalize hsD : seg zs (p + 8) n = sD at *
      clear hsS hsD
      go_upto_region 12 with (go_at_call 62; refine HK.out.mono ?_; rintro e w9 ⟨rfl, hw⟩; obtain rfl := hw.symm)
      have g1 : (p : Int) + 8 + (n : Int) ≤ (cap : Int) := by omega
      have g2 : (p : Int) + 8 ≤ (p : Int) + 8 + (n : Int) := by omega
      have g3 : ((p : Int) + 8).toNat = p + 8 := by omega
      have g4 : ((p : Int) + 8 + (n : Int)).toNat = p + 8 + n := by omega
      have g5 : p + 8 + n - (p + 8) = n := by omega
      have g6 : (0 : Int) ≤ (p : Int) + 8 := by omega
      have g7 : (n : Int) ≤ 1000012 := by omega
      have g8 : (0 : Int) ≤ (n : Int) := by omega
      have g9 : (p : Int) ≤ 1000012 := by omega
      have g10 : (p : Int) + 8 + (n : Int) ≤ 9223372036854775807 := by omega
      obtain ⟨A, hA, hAc⟩ : ∃ A : Addr, (if cap = p + 8 then some (⟨g, o, none⟩ : Addr) else some ⟨g, o + (p + 8), none⟩) = some A ∧ Hid (∀ wx, Below wr.heap.size wr wx → ∀ i, i < n → wx.cell? (A.add i) = some (.int .u8 (sD.getD i 0))) := by
        by_cases hcz : cap = p + 8
        · exact ⟨⟨g, o, none⟩, by simp [hcz], hidden fun wx hb i hi => by omega⟩
        · refine ⟨⟨g, o + (p + 8), none⟩, by simp [hcz], hidden fun wx hb i hi => ?_⟩
          have hB := HBs.out.later (hbl.trans (hb.mono hs1))
          rw [plain_add, Nat.add_assoc, hB.2 (p + 8 + i) (by omega), HQ3.out i hi]
      have HCl : Hid (∀ wx, Below wr.heap.size wr wx → Calls Try.prog 42 #[.slice (some A) n (cap - (p + 8))] wx fun e w' => ∃ a2 c2, e = .returned (.slice a2 n c2) ∧ w'.ownsRow wx.heap.size 5 1 (.slice a2 n c2) n (bytesV sD) ∧ Below wx.heap.size wx w') := hidden fun wx hb =>
        (Try.bytes_Clone_at A n (cap - (p + 8)) sD wx hdl (by omega) (hAc.out wx hb)).mono (by
          rintro e w' ⟨v', rfl, ho, -, hb'⟩
          obtain ⟨ao, cv, rfl⟩ := own_slice ho
          exact ⟨ao, cv, rfl, ho, hb'⟩)
      have hsl : ∀ w, (Instr.sliceAt 22 (.slice (some ⟨g, o, none⟩) L cap) (some (.int .i64 ((p : Int) + 8))) (some (.int .i64 ((p : Int) + 8 + (n : Int)))) none).run Try.prog w = .ok (.slice (some A) n (cap - (p + 8))) w := fun w => by
        go_simp
      have g11 : IntKind.i64.wrap ((p : Int) + 8 + (n : Int)) = (p : Int) + 8 + (n : Int) := by rw [IntKind.wrap_i64]; omega
      go_cut [11] from 21 to 60 (fun cp wx => ∃ (gb : Nat) (a2 : Option Addr) (c2 : Nat), cp = .pointer (some ⟨gb, 0, none⟩) ∧ wr.heap.size ≤ gb ∧ Box wx gb sS a2 n c2 ∧ wx.ownsRow wr.heap.size 5 1 (.slice a2 n c2) n (bytesV sD) ∧ Below wr.heap.size wr wx)
      case first =>
        go_region_with (first | (go_at_call 63; refine (HId2.out _ (by repeat (first | exact Below.refl _ _ | assumption | apply Below.drew | (refine Below.alloc ?_ (by simp; try omega) _)))).mono ?_; rintro e w9 ⟨rfl, hw⟩; obtain rfl := hw.symm) | (go_at_call 42; (first | (with_reducible refine (HCl.out wr.drew ((Below.refl _ _).drew)).mono ?_; rintro e w2 ⟨a2, c2, rfl, ho2, hb2⟩; obtain ⟨hb3, ho3⟩ := clone_plain hb2 ho2) | (with_reducible refine (HCl.out (wr.alloc (.cells #[.string ⟨#[]⟩, .slice none 0 0] 56)).drew (((Below.refl _ _).alloc (Nat.le_refl _) _).drew)).mono ?_; rintro e w2 ⟨a2, c2, rfl, ho2, hb2⟩; obtain ⟨z0, z1, z2, z3, hb3, ho3, hz9⟩ := clone_boxed hb2 ho2))))
        all_goals (try go_wp2_with fail)
        all_goals go_meet
        all_goals first | exact ⟨w2.heap.size, a2, c2, rfl, hb3.size, Box.new _ _ _ _ _, ho3.alloc _, hb3.alloc hb3.size _⟩ | exact ⟨wr.heap.size, a2, c2, rfl, Nat.le_refl _, (clone_set hb2 ho2 sS).1, (clone_set hb2 ho2 sS).2.1, (clone_set hb2 ho2 sS).2.2⟩
      case rest =>
        obtain ⟨gb, a2, c2, rfl, hgb, hbox, hod, hb2⟩ := hcut
        obtain ⟨b0, b1⟩ := hbox.cells
        have hG2 := HG.out.below hb2
        have hbw : Below w.heap.size w wc := hbl.trans (hb2.mono hs1)
        have hsz1 := hbw.size
        have HO := hidden (hG2.1.alloc (.cells #[.string sS, .slice a2 n c2] 56))
        have HNw := hidden (cell_two_new wc (.string sS) (.slice a2 n c2) 56)
        have HGB : Hid ((Value.slice ao ks.length cv).ownBlock ≠ some gb) := hidden fun e => by have := (HG.out.1.lt gb e).2; omega
        have HG2 := hidden hG2
        have HX := hidden (hbox.alloc (.cells #[.string sS, .slice a2 n c2] 56))
        have HOD := hidden (own_base hod hs1)
        clear hG2 hbox hod hb2 HG HCl HId2 HK hsl hAc
        generalize hkl : ks.length = kl at *
        go_wp2_with (at_builtin; refine wpList_append_own _ rfl (.tmp 53) (.tmp 55) 50 rfl w.heap.size 56 i0 (.agg #[.string ⟨#[]⟩, .slice none 0 0]) 2 40 Try.underlying50 hi hz0 hz1 hz2 rfl (by decide) _ _ _ rfl HO.out ⟨wc.heap.size, 0, none⟩ 1 1 [.string sS, .slice a2 n c2] rfl rfl HNw.out (by intro u hu; simp at hu; rcases hu with rfl | rfl <;> rfl) (by unfold maxLen; omega) (by omega) (by simp; omega) ?_; intro v3 w3 hown3 hgrow3 hiff3; clear hiff3; refine Hid.out ?_)
        replace hgrow3 : (wc.alloc (.cells #[.string sS, .slice a2 n c2] 56)).grownBy w3 (Value.slice ao kl cv).ownBlock := hgrow3
        have hb3 : Below w.heap.size w w3 := (hbw.alloc hsz1 _).grown hgrow3 (by simp; omega) (fun j hj => (HO.out.lt j hj).1)
        obtain ⟨y0, y1⟩ := (HX.out.grown hgrow3 HGB.out).cells
        rw [← hkl] at hown3
        have HG3 := hidden (got_snoc (c := ⟨sS, a2, n, c2, sD⟩) _ HG2.out HOD.out hown3 hgrow3)
        obtain ⟨ao3, cv3, rfl⟩ := own_slice hown3
        have hs3 := hb3.size
        clear hown3 hgrow3 HO HNw HX HOD HG2 b0 b1
        refine hidden ?_
        rw [hkl]
        go_wp2
        go_roundw
        case rel =>
          have hl1 : (ks ++ [(⟨sS, a2, n, c2, sD⟩ : Ck)]).length = kl + 1 := by simp [hkl]
          refine ⟨F', p + (8 + n + n % 2), ks ++ [⟨sS, a2, n, c2, sD⟩], ao3, cv3, by omega, by omega, by omega, by rw [hl1]; omega, int_eq (by omega), by rw [hl1], ?_, ?_, ?_, hb3.alloc hs3 _⟩
          · rw [← hkl]; exact HG3.out.below ((Below.refl _ _).alloc (Nat.le_refl _) _)
          · have := HST.out
            rw [List.map_append]
            rw [show p + (8 + n + n % 2) = p + 8 + n + n % 2 by omega]
            exact this
          · intro k hk
            rcases List.mem_append.1 hk with h' | h'
            · exact HAll.out k h'
            · rw [List.mem_singleton.1 h']; exact ⟨hdl, HDO.out, hid4⟩
        case measure => simp [intOf]; omega
    · obtain rfl : p = L := by omega
      rw [if_pos (Nat.le_refl _)] at HST
      have hR : R = (ks.map scOf, 0, (p : Int)) := HST.out.symm
      subst hR
      clear HST
      have hpp : ¬ (p : Int) < (p : Int) := by omega
      go_wp2_with (go_at_call 63; refine (HI8.out _ hbl).mono ?_; rintro e w9 ⟨rfl, hw⟩; obtain rfl := hw.symm)
      refine bodyPost_ret (v := .tuple #[.string S8, .slice ao ks.length cv, .int .i64 0, .int .i64 p]) (by simp [results, Try.results56, go_sem]) rfl ?_
      exact ⟨hbl, .inr ⟨rfl, rfl, ao, cv, ks, rfl, HG.out, rfl, HAll.out, hk1⟩⟩
end Go.Proofs.Ytedihackifchcaa
