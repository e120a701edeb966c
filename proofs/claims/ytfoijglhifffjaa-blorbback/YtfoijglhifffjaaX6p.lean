/- The walk of BlorbBack: what is laid is read as it was, for any resources. -/
import Derived.Test.YtfoijglhifffjaaX6q
namespace Go.Proofs.Ytfoijglhifffjaa
open Go.RowKit
set_option maxHeartbeats 1000000
set_option maxRecDepth 100000
set_option linter.unusedVariables false

abbrev Fin6 (w : World) : Ending → World → Prop := fun e w' => e = .returned (.bool true) ∧ Below w.heap.size w w'
theorem checkR_nil : checkR [] = 0 := by
  have h1 : AllIdR [] := fun r hr => by cases hr
  have h2 : ApartR [] := List.Pairwise.nil
  unfold checkR
  rw [if_neg (not_not_intro h1), if_neg (by simp), if_neg (not_not_intro h2)]
theorem blorbBack_walk (a : Option Addr) (len cap : Nat) (rs : List Rk) (w : World) (h : IsRks w a len cap rs) : Calls Try.prog 4 #[.slice a len cap] w (Fin6 w) := by
  have HL := hidden live_any
  have HH := hidden (huge6 600 a len cap rs w h (by decide))
  have HC := hidden h.1
  have hlen := h.1.1
  clear h
  go_enter Try.func4, Try.ntmps4
  go_wp2_with fail
  refine HH.out.mono ?_
  rintro e w1 ⟨rfl | ⟨rfl, hl2, ht2⟩, hb1⟩
  · have HB := hidden hb1
    clear hb1
    go_wp2_with (go_at_call 7; refine (HL.out _).mono ?_; rintro e w9 ⟨rfl, hb⟩)
    go_ret
    exact ⟨rfl, HB.out.trans (hb.mono HB.out.size)⟩
  have hsz : sizes (rs.map ckOf) ≤ 900000 := by have := totR_sizes rs; omega
  have HB := hidden hb1
  have HC1 := hidden (HC.out.later hb1)
  have HLa := hidden (lay_any a len cap rs w1 HC1.out (by omega) hsz)
  have hli : (len : Int) ≤ 600 := by omega
  clear hb1 HH
  go_wp2_with fail
  refine HLa.out.mono ?_
  rintro e w2 ⟨hb2, ⟨hne, rfl⟩ | ⟨hz, v, rfl, ho⟩⟩
  · have hne2 : (checkR rs != 0) = true := by simpa using hne
    have hpos : (0 : Int) < (len : Int) := by
      have : rs ≠ [] := fun e => hne (by rw [e]; exact checkR_nil)
      have := List.length_pos_iff.2 this
      omega
    generalize checkR rs = E at *
    have HB2 := hidden (HB.out.trans (hb2.mono HB.out.size))
    clear hb2 HLa HB
    go_wp2_with (first | (go_at_call 12; refine (num6 _ _).mono ?_; rintro e w9 ⟨rfl, hw⟩; obtain rfl := hw.symm) | (go_at_call 7; refine (HL.out _).mono ?_; rintro e w9 ⟨rfl, hb⟩))
    go_ret
    exact ⟨rfl, HB2.out.trans (hb.mono HB2.out.size)⟩
  have hlo := layOk_of HC1.out hz hsz
  have hZl := layS_len hlo
  have hZb := hlo.2.2.2
  have hZ5 := hlo.2.1
  obtain ⟨g, c, rfl, hgc, hgb⟩ := owned_shape ho (by omega)
  have hB := own_bs ho
  have HB2 := hidden (HB.out.trans (hb2.mono HB.out.size))
  have HC2 := hidden (HC1.out.later hb2)
  have HRd := hidden (read_any g 0 (layS (rs.map srOf)).length c (layS (rs.map srOf)) w2 hB (layS_ok hlo) (by omega) hgc)
  rw [read_lay hlo] at HRd
  have hL9 : (layS (rs.map srOf)).length ≤ 1000012 := by omega
  clear ho hb2 hB HLa HB hz hZl
  generalize (layS (rs.map srOf)).length = T at *
  have hTi : (T : Int) ≤ 1000012 := by omega
  go_wp2_with (go_at_call 12; refine (num6 _ _).mono ?_; rintro e w9 ⟨rfl, hw⟩; obtain rfl := hw.symm)
  refine HRd.out.mono ?_
  rintro e w3 ⟨hb3, ⟨hne, rfl⟩ | ⟨-, ao, cv, rs2, rfl, hgr, hmap, hrok, -⟩⟩
  · exact absurd rfl hne
  have hl2' : rs2.length = len := by have := congrArg List.length hmap; simp at this; omega
  have hx2 : ∀ r ∈ rs2, 0 ≤ r.x ∧ r.x ≤ 4294967295 := fun r hr => by
    have hm : srOf r ∈ rs2.map srOf := List.mem_map.2 ⟨r, hr, rfl⟩
    rw [hmap] at hm
    have := hlo.1 _ hm
    exact ⟨this.2.2.1, this.2.2.2.1⟩
  have hrk := rks_own hgr hrok hx2
  rw [hl2'] at hrk
  have HS := hidden (rsame6 a ao len cap cv rs rs2 w3 (HC2.out.later hb3) hrk (by omega) hmap)
  have HB3 := hidden (HB2.out.trans (hb3.mono HB2.out.size))
  rw [hl2']
  clear hgr hmap hrok hb3 HRd HB2 HC2 hrk hx2 hlo
  go_wp2_with (first | (go_at_call 11; refine HS.out.mono ?_; rintro e w4 ⟨rfl, hb4⟩) | (go_at_call 12; refine (num6 _ _).mono ?_; rintro e w9 ⟨rfl, hw⟩; obtain rfl := hw.symm) | (go_at_call 7; refine (HL.out _).mono ?_; rintro e w9 ⟨rfl, hb⟩))
  go_ret
  have hb5 := HB3.out.trans (hb4.mono HB3.out.size)
  exact ⟨rfl, hb5.trans (hb.mono hb5.size)⟩
end Go.Proofs.Ytfoijglhifffjaa
