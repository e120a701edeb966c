/- The walk of IffBack: what is built is read as it was; for any letters and any chunks. -/
import Derived.Test.YthmobhnkoinmcaaJ5k
namespace Go.Proofs.Ythmobhnkoinmcaa
open Go.RowKit
set_option maxHeartbeats 1000000
set_option maxRecDepth 100000
set_option linter.unusedVariables false

theorem sizes_tot (cs : List Ck) : sizes cs ≤ 9 * cs.length + tot cs := by
  induction cs with
  | nil => simp [sizes, tot]
  | cons k cs ih =>
    unfold sizes tot at *
    simp only [List.map_cons, List.sum_cons, List.length_cons]
    unfold ckSize at *
    omega
abbrev Fin5 (w : World) : Ending → World → Prop := fun e w' => e = .returned (.bool true) ∧ Below w.heap.size w w'
theorem back_long (s : ByteArray) (a : Option Addr) (len cap : Nat) (w : World) (h : 65536 < s.size) : Calls Try.prog 3 #[.string s, .slice a len cap] w (Fin5 w) := by
  have h1 : (65536 : Int) < (s.size : Int) := by omega
  have HL := hidden live_any
  go_enter Try.func3, Try.ntmps3
  go_wp2_with (go_at_call 8; refine (HL.out _).mono ?_; rintro e w9 ⟨rfl, hb⟩)
  go_ret
  exact ⟨rfl, hb⟩
theorem back_any (s : ByteArray) (a : Option Addr) (len cap : Nat) (cs : List Ck) (w : World) (hs : ¬ 65536 < s.size) (hc : Cks w a len cap cs) (hlm : len ≤ 281474976710656) (hk : ∀ k ∈ cs, k.l ≤ 281474976710656 ∧ k.id.size ≤ 281474976710656) :
    Calls Try.prog 3 #[.string s, .slice a len cap] w (Fin5 w) := by
  have h1 : (s.size : Int) ≤ 65536 := by omega
  have HL := hidden live_any
  have HH := hidden (huge_any a len cap cs w hc hlm hk)
  have HC := hidden hc
  have hlen := hc.1
  clear hc hk
  go_enter Try.func3, Try.ntmps3
  go_wp2_with fail
  refine HH.out.mono ?_
  rintro e w1 ⟨rfl | ⟨rfl, hl2, ht2⟩, hb1⟩
  · have HB := hidden hb1
    clear hb1
    go_wp2_with (go_at_call 8; refine (HL.out _).mono ?_; rintro e w9 ⟨rfl, hb⟩)
    go_ret
    exact ⟨rfl, HB.out.trans (hb.mono HB.out.size)⟩
  have hsz : sizes cs ≤ 1000000 := by have := sizes_tot cs; omega
  have HB := hidden hb1
  have HC1 := hidden (HC.out.later hb1)
  clear hb1 HH
  have hli : (len : Int) ≤ 2000 := by omega
  by_cases i1 : IsId s
  · by_cases i2 : AllId cs
    · by_cases i3 : 1024 < len
      · have HBu := hidden (build_many s a len cap cs w1 i1 HC1.out (by omega) i2 i3)
        have i4 : (1024 : Int) < (len : Int) := by omega
        clear i1 i2 i3
        go_wp2_with (first | (go_at_call 9; refine HBu.out.mono ?_; rintro e w2 ⟨rfl, hb2⟩) | (go_at_call 10; refine (num5 _ _).mono ?_; rintro e w9 ⟨rfl, hw⟩; obtain rfl := hw.symm) | (go_at_call 8; refine (HL.out _).mono ?_; rintro e w9 ⟨rfl, hb⟩))
        go_ret
        have hb3 := HB.out.trans (hb2.mono HB.out.size)
        exact ⟨rfl, hb3.trans (hb.mono hb3.size)⟩
      · have HBu := hidden (build_good s a len cap cs w1 i1 HC1.out i2 (by omega) hsz)
        have I1 := hidden i1
        have I2 := hidden i2
        clear i1 i2
        go_wp2_with fail
        refine HBu.out.mono ?_
        rintro e w2 ⟨v, rfl, ho, hb2⟩
        obtain ⟨g, c2, rfl, hcap2, hg⟩ := owned_shape ho (by omega)
        have hd : ∀ k ∈ cs, k.d.length = k.l := fun k hk => (HC.out.2.2.2 k hk).1.1
        have hok : ∀ k ∈ cs, OkB k.d := fun k hk => (HC.out.2.2.2 k hk).2
        have hall : ∀ k ∈ cs, k.id.size = 4 ∧ k.d.length = k.l := fun k hk => ⟨(I2.out k hk).1, hd k hk⟩
        have hBs : Bs w2 g 0 (12 + sizes cs) (formL s cs) := ⟨form_len s cs I1.out.1 hall, fun i hi => owned_cells ho i hi⟩
        have HP := hidden (parse_good g 0 (12 + sizes cs) c2 (formL s cs) s cs w2 hBs (form_ok s cs hok) rfl I1.out I2.out (by omega) hsz hd hcap2)
        have HB2 := hidden (HB.out.trans (hb2.mono HB.out.size))
        have HC2 := hidden (HC1.out.later hb2)
        have HOK := hidden hok
        clear ho hb2 hBs HBu hd hok hall HB HC1
        generalize 12 + sizes cs = T at *
        go_wp2_with (go_at_call 10; refine (num5 _ _).mono ?_; rintro e w9 ⟨rfl, hw⟩; obtain rfl := hw.symm)
        refine HP.out.mono ?_
        rintro e w3 ⟨v3, ks, rfl, hG, hids, hds, hb3⟩
        have hkl : ks.length = len := by have := congrArg List.length hids; simp at this; omega
        obtain ⟨ao, cv, rfl⟩ := own_slice hG.1
        rw [hkl] at hG
        have hkd : ∀ k ∈ ks, OkB k.d := fun k hk => by
          have hm : k.d ∈ ks.map (·.d) := List.mem_map.2 ⟨k, hk, rfl⟩
          rw [hds] at hm
          obtain ⟨k', hk', e⟩ := List.mem_map.1 hm
          rw [← e]; exact HOK.out k' hk'
        have HS := hidden (rsame_any a ao len cap cv cs ks w3 (HC2.out.later hb3) (got_cks hG hkl hkd) (by omega) hids hds)
        have HB3 := hidden (HB2.out.trans (hb3.mono HB2.out.size))
        rw [hkl]
        clear hG hids hds hb3 HP HB2 HC2 hkd
        go_wp2_with (first | (go_at_call 12; refine HS.out.mono ?_; rintro e w4 ⟨rfl, hb4⟩) | (go_at_call 10; refine (num5 _ _).mono ?_; rintro e w9 ⟨rfl, hw⟩; obtain rfl := hw.symm) | (go_at_call 8; refine (HL.out _).mono ?_; rintro e w9 ⟨rfl, hb⟩))
        go_ret
        have hb5 := HB3.out.trans (hb4.mono HB3.out.size)
        exact ⟨rfl, hb5.trans (hb.mono hb5.size)⟩
    · have HBu := hidden (build_args s a len cap cs w1 i1 HC1.out (by omega) i2)
      clear i1 i2
      go_wp2_with (first | (go_at_call 9; refine HBu.out.mono ?_; rintro e w2 ⟨rfl, hb2⟩) | (go_at_call 10; refine (num5 _ _).mono ?_; rintro e w9 ⟨rfl, hw⟩; obtain rfl := hw.symm) | (go_at_call 8; refine (HL.out _).mono ?_; rintro e w9 ⟨rfl, hb⟩))
      go_ret
      have hb3 := HB.out.trans (hb2.mono HB.out.size)
      exact ⟨rfl, hb3.trans (hb.mono hb3.size)⟩
  · have HBu := hidden (build_arg s a len cap w1 i1)
    clear i1
    go_wp2_with (first | (go_at_call 9; refine HBu.out.mono ?_; rintro e w2 ⟨rfl, hb2⟩) | (go_at_call 10; refine (num5 _ _).mono ?_; rintro e w9 ⟨rfl, hw⟩; obtain rfl := hw.symm) | (go_at_call 8; refine (HL.out _).mono ?_; rintro e w9 ⟨rfl, hb⟩))
    go_ret
    have hb3 := HB.out.trans (hb2.mono HB.out.size)
    exact ⟨rfl, hb3.trans (hb.mono hb3.size)⟩
end Go.Proofs.Ythmobhnkoinmcaa
