/- The walk of BlorbLays: what Lay answers is the document's answer, for any resources; they stay. -/
import Derived.Test.YtedihackifchcaaR6j
import Derived.Test.YtedihackifchcaaX6s
namespace Go.Proofs.Ytedihackifchcaa
open Go.RowKit
set_option maxHeartbeats 1000000
set_option maxRecDepth 100000
set_option linter.unusedVariables false

/-- what either Lay answers, as rows -/
theorem lret_rows {w w' : World} {E : Int} {zs : List Int} {e : Ending} (h : LRet w E zs e w') :
    Below w.heap.size w w' ∧ ∃ a l c, e = .returned (.tuple #[.slice a l c, .int .i64 E]) ∧ w'.ownsRow w.heap.size 5 1 (.slice a l c) l (bytesV (if E = 0 then zs else [])) := by
  obtain ⟨hb, ⟨hne, rfl⟩ | ⟨rfl, v, rfl, ho⟩⟩ := h
  · refine ⟨hb, none, 0, 0, rfl, ?_⟩
    rw [if_neg hne]
    exact World.ownsRow_nil _ _ _ _
  · obtain ⟨ao, cv, rfl⟩ := own_slice ho
    refine ⟨hb, ao, _, cv, rfl, ?_⟩
    rw [if_pos rfl]
    exact ho
theorem checkR_map {rs rs2 : List Rk} (h : rs2.map srOf = rs.map srOf) : checkR rs2 = checkR rs := by
  have hA : ∀ l : List Rk, AllIdR l ↔ ∀ s ∈ l.map srOf, IsId s.1 ∧ IsId s.2.2.1 := fun l => by
    unfold AllIdR
    constructor
    · intro h s hs
      obtain ⟨r, hr, rfl⟩ := List.mem_map.1 hs
      exact h r hr
    · intro h r hr
      exact h _ (List.mem_map.2 ⟨r, hr, rfl⟩)
  have hP : ∀ l : List Rk, ApartR l ↔ (l.map srOf).Pairwise fun a b => ¬ (a.1 = b.1 ∧ a.2.1 = b.2.1) := fun l => by
    rw [List.pairwise_map]
    rfl
  have e1 : AllIdR rs2 ↔ AllIdR rs := by rw [hA, hA, h]
  have e2 : ApartR rs2 ↔ ApartR rs := by rw [hP, hP, h]
  have hl : rs2.length = rs.length := by have := congrArg List.length h; simpa using this
  unfold checkR
  rw [hl]
  by_cases c1 : AllIdR rs
  · rw [if_neg (not_not_intro (e1.2 c1)), if_neg (not_not_intro c1)]
    by_cases c2 : 512 < rs.length
    · rw [if_pos c2, if_pos c2]
    · rw [if_neg c2, if_neg c2]
      by_cases c3 : ApartR rs
      · rw [if_neg (not_not_intro (e2.2 c3)), if_neg (not_not_intro c3)]
      · rw [if_pos (fun h => c3 (e2.1 h)), if_pos c3]
  · rw [if_pos (fun h => c1 (e1.1 h)), if_pos c1]
theorem sizes_map {rs rs2 : List Rk} (h : rs2.map srOf = rs.map srOf) (h1 : ∀ r ∈ rs, r.d.length = r.l) (h2 : ∀ r ∈ rs2, r.d.length = r.l) : sizes (rs2.map ckOf) = sizes (rs.map ckOf) := by
  have e : ∀ l : List Rk, (l.map ckOf).map scOf = (l.map srOf).map ckS := fun l => by rw [List.map_map, List.map_map]; rfl
  rw [sizes_ssz _ (fun c hc => by obtain ⟨r, hr, rfl⟩ := List.mem_map.1 hc; exact h2 r hr), sizes_ssz _ (fun c hc => by obtain ⟨r, hr, rfl⟩ := List.mem_map.1 hc; exact h1 r hr), e, e, h]
theorem blorbLays_walk (a : Option Addr) (len cap : Nat) (rs : List Rk) (w : World) (h : IsRks w a len cap rs) : Calls Try.prog 4 #[.slice a len cap] w fun e w' => e = .returned (.bool true) ∧ Below w.heap.size w w' := by
  have HL := hidden live_any
  have HH := hidden (huge6 600 a len cap rs w h (by decide))
  have HC := hidden h.1
  have hlen := h.1.1
  have HST : Hid (∀ r ∈ rs, r.u.size ≤ 281474976710656 ∧ r.id.size ≤ 281474976710656) := hidden fun r hr => ⟨(h.2.2.1 r hr).2.2, (h.2.2.1 r hr).2.1⟩
  clear h
  go_enter Try.func4, Try.ntmps4
  go_wp2_with fail
  refine HH.out.mono ?_
  rintro e w1 ⟨rfl | ⟨rfl, hl2, ht2⟩, hb1⟩
  · have HB := hidden hb1
    clear hb1
    go_wp2_with (go_at_call 11; refine (HL.out _).mono ?_; rintro e w9 ⟨rfl, hb⟩)
    go_ret
    exact ⟨rfl, HB.out.trans (hb.mono HB.out.size)⟩
  have hsz : sizes (rs.map ckOf) ≤ 900000 := by have := totR_sizes rs; omega
  have HB1 := hidden hb1
  have HCp := hidden (copy_any a len cap rs w1 (HC.out.later hb1) (by omega) hsz)
  clear hb1 HH
  go_wp2_with fail
  refine HCp.out.mono ?_
  rintro e w2 ⟨hb2, ao, cv, rs2, rfl, hgot, hmap⟩
  have hl2' : rs2.length = len := by have := congrArg List.length hmap; simp at this; omega
  have hx2 : ∀ r ∈ rs2, OkB r.d ∧ 0 ≤ r.x ∧ r.x ≤ 4294967295 := fun r hr => by
    have hm : srOf r ∈ rs2.map srOf := List.mem_map.2 ⟨r, hr, rfl⟩
    rw [hmap] at hm
    obtain ⟨r', hr', e⟩ := List.mem_map.1 hm
    have := HC.out.2.2.2 r' hr'
    have e1 : r'.d = r.d := congrArg (fun s : Sr => s.2.2.2) e
    have e2 : r'.x = r.x := congrArg (fun s : Sr => s.2.1) e
    rw [e1, e2] at this
    exact ⟨this.2.1, this.2.2⟩
  have hrk := rks_own hgot (fun r hr => (hx2 r hr).1) (fun r hr => (hx2 r hr).2)
  rw [hl2'] at hrk
  have hB2 := HB1.out.trans (hb2.mono HB1.out.size)
  have HK2 := hidden hrk
  have hsz2 : sizes (rs2.map ckOf) ≤ 900000 := by
    rw [sizes_map hmap (fun r hr => (HC.out.2.2.2 r hr).1.1) (fun r hr => (hrk.2.2.2 r hr).1.1)]
    exact hsz
  have HLa := hidden (lay_any ao len cv rs2 w2 hrk (by omega) hsz2)
  rw [checkR_map hmap, hmap] at HLa
  have HMAP := hidden hmap
  have HB2 := hidden hB2
  have HRL : Hid (∀ wx, Below w.heap.size w wx → Calls Try.prog 14 #[.slice a len cap] wx (LRet wx (checkR rs) (layS (rs.map srOf)))) := hidden fun wx hx => rlay_any a len cap rs wx (HC.out.later hx) (by omega) HST.out hsz
  have HOK : Hid (OkB (if checkR rs = 0 then layS (rs.map srOf) else [])) := hidden (by
    by_cases hz : checkR rs = 0
    · rw [if_pos hz]; exact layS_ok (layOk_of HC.out hz hsz)
    · rw [if_neg hz]; intro c hc; cases hc)
  have hE : checkR rs = 0 ∨ checkR rs = 1 ∨ checkR rs = 4 ∨ checkR rs = 6 := by
    unfold checkR
    by_cases c1 : AllIdR rs
    · rw [if_neg (not_not_intro c1)]
      by_cases c2 : 512 < rs.length
      · rw [if_pos c2]; omega
      · rw [if_neg c2]
        by_cases c3 : ApartR rs
        · rw [if_neg (not_not_intro c3)]; omega
        · rw [if_pos c3]; omega
    · rw [if_pos c1]; omega
  rw [hl2']
  clear hgot hmap hrk hx2 hb2 hB2 HCp HB1
  generalize checkR rs = E at *
  generalize layS (rs.map srOf) = ZS at *
  go_wp2_with fail
  refine HLa.out.mono ?_
  intro e w3 hret
  obtain ⟨hb3, a1, l1, k1, rfl, ho1⟩ := lret_rows hret
  have hB3 := HB2.out.trans (hb3.mono HB2.out.size)
  have HO1 := hidden ho1
  have HK3 := hidden (HK2.out.later hb3)
  have HR := hidden (HRL.out w3 hB3)
  have HB3 := hidden hB3
  clear hret ho1 hb3 hB3 HLa HRL HK2 HB2
  go_wp2_with fail
  refine HR.out.mono ?_
  intro e w4 hret
  obtain ⟨hb4, a2, l2, k2, rfl, ho2⟩ := lret_rows hret
  have hB4 := HB3.out.trans (hb4.mono HB3.out.size)
  have HO3 := own_later HO1.out hb4
  have HK4 := HK3.out.later hb4
  have HSa := hidden (same_eq a1 a2 l1 k1 l2 k2 _ w4 HOK.out (reads_own HO3).1 (reads_own ho2).1)
  have HRS := hidden (rsame6 a ao len cap cv rs rs2 w4 (HC.out.later hB4) HK4 (by omega) HMAP.out)
  have HB4 := hidden hB4
  clear hret ho2 hb4 hB4 HO3 HK4 HR HO1 HK3 HB3 HOK HC HST
  go_wp2_with (first | (go_at_call 15; refine HSa.out.mono ?_; rintro e w5 ⟨rfl, hw⟩; obtain rfl := hw.symm) | (go_at_call 16; refine (num6 _ _).mono ?_; rintro e w9 ⟨rfl, hw⟩; obtain rfl := hw.symm) | (go_at_call 17; refine HRS.out.mono ?_; rintro e w6 ⟨rfl, hb6⟩) | (go_at_call 11; refine (HL.out _).mono ?_; rintro e w9 ⟨rfl, hb⟩) | fail)
  go_ret
  have hb7 := HB4.out.trans (hb6.mono HB4.out.size)
  exact ⟨rfl, hb7.trans (hb.mono hb7.size)⟩
end Go.Proofs.Ytedihackifchcaa
