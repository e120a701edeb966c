/- The walk of BlorbGames: which game any bytes hold, or why none, is as the document says. -/
import Derived.Test.YtedihackifchcaaR6g
namespace Go.Proofs.Ytedihackifchcaa
open Go.RowKit
set_option maxHeartbeats 1000000
set_option maxRecDepth 100000
set_option linter.unusedVariables false

theorem gret_rows {w : World} {R : List Int × Int × Int} {e : Ending} {w' : World} (hR : R.2.1 ≠ 0 → R.1 = []) (h : GRet w R e w') : Below w.heap.size w w' ∧ ∃ a l c, e = .returned (.tuple #[.slice a l c, .int .i64 R.2.1, .int .i64 R.2.2]) ∧ w'.ownsRow w.heap.size 5 1 (.slice a l c) l (bytesV R.1) ∧ OkB R.1 := by
  obtain ⟨hb, ⟨hne, rfl⟩ | ⟨hz, a, l, c, rfl, ho, hd⟩⟩ := h
  · refine ⟨hb, none, 0, 0, rfl, ?_, ?_⟩
    · rw [hR hne]
      exact World.ownsRow_nil _ _ _ _
    · rw [hR hne]; intro c hc; cases hc
  · exact ⟨hb, a, l, c, by rw [hz], ho, hd⟩
theorem gameR_err (zs : List Int) : (gameR zs).2.1 ≠ 0 → (gameR zs).1 = [] := by
  unfold gameR
  split
  · intro h; exact absurd rfl h
  · split
    · rw [within_read]
      split
      · intro _; rfl
      · unfold pickS
        split
        · intro _; rfl
        · split
          · intro _; rfl
          · intro h; exact absurd rfl h
    · intro _; rfl
theorem own_len {w : World} {B l c : Nat} {a : Option Addr} {xs : List Value} (h : w.ownsRow B 5 1 (.slice a l c) l xs) : l ≤ 9223372036854775807 := by
  rcases h.2 with ⟨_, h0⟩ | ⟨g, cap, cur, _, _, _, h1, h2, _⟩
  · omega
  · unfold maxLen at h2
    omega
theorem games_walk (a : Option Addr) (len cap : Nat) (zs : List Int) (w : World) (hr : Reads w a len cap zs) (hok : OkB zs) (hb63 : len ≤ 9223372036854775807) :
    Calls Try.prog 5 #[.slice a len cap] w fun e w' => e = .returned (.bool true) ∧ Below w.heap.size w w' := by
  have HL := hidden live_any
  have HRd := hidden hr
  have hn1 : (len : Int) ≤ 9223372036854775807 := by omega
  by_cases hbig : 65536 < len
  · have hbi : (65536 : Int) < (len : Int) := by omega
    clear hr HRd
    go_enter Try.func5, Try.ntmps5
    go_wp2_with (go_at_call 11; refine (HL.out _).mono ?_; rintro e w9 ⟨rfl, hb⟩)
    go_ret
    exact ⟨rfl, hb⟩
  have hbi : ¬ (65536 : Int) < (len : Int) := by omega
  have HLe := hidden (lent_any a len cap zs w hr (by omega))
  have HE := hidden (gameR_err zs)
  have HG2 : Hid (∀ wx, Below w.heap.size w wx → Calls Try.prog 20 #[.slice a len cap] wx (GRet wx (gameR zs))) := hidden fun wx hx => by
    have hq := HRd.out.later hx
    by_cases h4 : len < 4
    · exact rgame_few a len cap zs wx hq.1 h4
    · rcases hq.2.2 with ⟨-, h1, -⟩ | ⟨x, rfl, hc⟩
      · omega
      · obtain ⟨b, off, spot⟩ := x
        have hc0 := hc 0 (by omega)
        have hspot : spot = none := by simpa [Addr.add] using World.cell?_spot hc0
        subst hspot
        exact rgame_any b off len cap zs wx ⟨hq.1, fun i hi => by have := hc i hi; rwa [plain_add] at this⟩ hok (by omega) hq.2.1 (by omega)
  clear hr
  go_enter Try.func5, Try.ntmps5
  go_wp2_with fail
  refine HLe.out.mono ?_
  rintro e w1 ⟨g, c2, rfl, hc2, hg, hb1, hcell⟩
  have hzl := HRd.out.1
  have hBs : Bs w1 g 0 len zs := ⟨hzl, fun i hi => by
    have := hcell i (by omega)
    have e : (zs ++ [77]).getD i 0 = zs.getD i 0 := by simp [List.getD_eq_getElem?_getD, List.getElem?_append_left (show i < zs.length by omega)]
    rw [e] at this
    exact this⟩
  have HG1 := hidden (game_any g 0 len c2 zs w1 hBs hok (by omega) (by omega))
  have HCE := hidden hcell
  have HB1 := hidden hb1
  clear hcell hBs hb1 HLe
  generalize hRR : gameR zs = R at *
  clear hRR
  go_wp2_with fail
  refine HG1.out.mono ?_
  intro e w2 hret
  obtain ⟨hb2, a1, l1, cc1, rfl, ho1, hk1⟩ := gret_rows HE.out hret
  have hB2 := HB1.out.trans (hb2.mono HB1.out.size)
  have HG3 := hidden (HG2.out w2 hB2)
  have HO1 := hidden ho1
  have HB2 := hidden hB2
  have HB12 := hidden hb2
  clear hret ho1 hB2 hb2 HG1 HG2
  go_wp2_with fail
  refine HG3.out.mono ?_
  intro e w3 hret
  obtain ⟨hb3, a2, l2, cc2, rfl, ho2, hk2⟩ := gret_rows HE.out hret
  have HO3 := hidden (own_later HO1.out hb3)
  have hl1 := own_len HO1.out
  have hll : l2 = l1 := by
    have h1 := HO1.out.1
    have h2 := ho2.1
    simp [bytesV] at h1 h2
    omega
  subst hll
  have HSm := hidden (same_eq a1 a2 l2 cc1 l2 cc2 R.1 w3 hk1 (reads_own HO3.out).1 (reads_own ho2).1)
  have hB3 := HB2.out.trans (hb3.mono HB2.out.size)
  have HB3 := hidden hB3
  have HB13 := hidden (HB12.out.trans (hb3.mono HB12.out.size))
  have HSp := hidden (spoil_any a1 l2 cc1 w1.heap.size R.1 w3 HO3.out hl1)
  have HKp : Hid (∀ wx, Below w1.heap.size w3 wx → Calls Try.prog 22 #[.slice (some ⟨g, 0, none⟩) len c2, .slice a len cap] wx fun e w' => e = .returned (.bool true) ∧ w' = wx) := hidden fun wx hb => by
    have hb13 : Below w1.heap.size w1 wx := HB13.out.trans hb
    refine kept_eq g len c2 a cap zs wx hok (by omega) hc2 (fun i hi => cellLater hb13 (HCE.out i hi)) (HRd.out.later (HB1.out.trans (hb13.mono HB1.out.size)))
  have HBf : Hid (∀ wx, Below w1.heap.size w3 wx → Below w.heap.size w wx) := hidden fun wx hb => HB1.out.trans ((HB13.out.trans hb).mono HB1.out.size)
  have r1 : (R.2.1 != R.2.1) = false := by simp
  have r2 : (R.2.2 != R.2.2) = false := by simp
  generalize R.2.1 = E at *
  generalize R.2.2 = AT at *
  clear hret ho2 HO1 HO3 HG3 HB2 HB12 HB13 HCE HB1 hB3 hb3
  go_wp2_with (first | (go_at_call 15; refine HSm.out.mono ?_; rintro e w9 ⟨rfl, hw⟩; obtain rfl := hw.symm) | (go_at_call 16; refine (num6 _ _).mono ?_; rintro e w9 ⟨rfl, hw⟩; obtain rfl := hw.symm) | (go_at_call 21; refine HSp.out.mono ?_; rintro e w5 ⟨rfl, hb5⟩; refine Hid.out ?_) | fail)
  have HKq := hidden (HKp.out w5 hb5)
  have HB5 := hidden (HBf.out w5 hb5)
  clear hb5 HKp HBf
  refine hidden ?_
  go_wp2_with (first | (go_at_call 22; refine HKq.out.mono ?_; rintro e w9 ⟨rfl, hw⟩; obtain rfl := hw.symm) | (go_at_call 11; refine (HL.out _).mono ?_; rintro e w9 ⟨rfl, hb⟩) | fail)
  go_ret
  exact ⟨rfl, HB5.out.trans (hb.mono HB5.out.size)⟩
theorem blorbGames_walk (a : Option Addr) (len cap : Nat) (zs : List Int) (w : World) (h : IsRow .u8 w a len cap zs) :
    Calls Try.prog 5 #[.slice a len cap] w fun e w' => e = .returned (.bool true) ∧ Below w.heap.size w w' := by
  obtain ⟨r1, r2, r3⟩ := reads_of_row h
  exact games_walk a len cap _ w r1 r2 r3
end Go.Proofs.Ytedihackifchcaa
