/- Contract of the document's Copy over resources: the same resources in new memory. -/
import Derived.Test.YtedihackifchcaaX6q
namespace Go.Proofs.Ytedihackifchcaa
open Go.RowKit
set_option maxHeartbeats 1000000
set_option maxRecDepth 100000
set_option linter.unusedVariables false

theorem Box4.frozen {w : World} {g : Nat} {x y z u : Value} {t : TypeId} (h : Box4 w g x y z u t) (i : Nat) : w.frozen? ⟨g, i, none⟩ = false := by
  unfold Box4 at h
  simp [World.frozen?, h]
theorem Box4.set3 {w : World} {g : Nat} {x y z u : Value} {t : TypeId} (h : Box4 w g x y z u t) (u' : Value) : Box4 (w.setCell ⟨g, 3, none⟩ u') g x y z u' t := heap_setCell_same _ _ 3 _ _ _ h
theorem Box4.later {w w' : World} {g : Nat} {x y z u : Value} {t : TypeId} (h : Box4 w g x y z u t) (hb : Below w.heap.size w w') : Box4 w' g x y z u t := (hb.block g h.lt).trans h
/-- what Copy answers -/
def CpRet (w : World) (rs : List Rk) (e : Ending) (w' : World) : Prop := Below w.heap.size w w' ∧ ∃ ao cv rs2, e = .returned (.slice ao rs2.length cv) ∧ GotR w.heap.size w' (.slice ao rs2.length cv) rs2 ∧ rs2.map srOf = rs.map srOf
theorem setCell_grown (w : World) (a : Addr) (u : Value) : w.grownBy (w.setCell a u) (some a.block) := ⟨rfl, rfl, rfl, by simp, fun k _ hk => heap_setCell_other w a k u (fun e => hk (by simp [e]))⟩
theorem own_set {w : World} {B e size n : Nat} {v : Value} {xs : List Value} (h : w.ownsRow B e size v n xs) (a : Addr) (u : Value) (hne : v.ownBlock ≠ some a.block) : (w.setCell a u).ownsRow B e size v n xs := h.kept (setCell_grown w a u) (.inr hne)
theorem four_new_at (w : World) (x y z u : Value) (t : TypeId) (g : Nat) (hg : g = w.heap.size) : ∀ j v, [x, y, z, u][j]? = some v → (w.alloc (.cells #[x, y, z, u] t)).cell? ((⟨g, 0, none⟩ : Addr).add j) = some v := by
  subst hg; exact cell_four_new w x y z u t
theorem copy_any (a : Option Addr) (len cap : Nat) (rs : List Rk) (w : World) (hc : Rks w a len cap rs) (hm : len ≤ 600) (hs : sizes (rs.map ckOf) ≤ 900000) :
    Calls Try.prog 12 #[.slice a len cap] w (CpRet w rs) := by
  obtain ⟨i0, hi, hz0, hz1, hz2⟩ := info_parts info8
  obtain ⟨j0, ji, jz0, jz1, jz2⟩ := info_parts infoRs
  have hlen := hc.1
  have hcap := hc.2.1
  have HC := hidden hc
  have hli : (len : Int) ≤ 600 := by omega
  have HSZ := hidden hs
  clear hc hs
  go_enter Try.func12, Try.ntmps12
  go_wp2
  go_loopw [3, 4] (fun v i w' => ∃ (k : Nat) (rs2 : List Rk) (ao : Option Addr) (cv : Nat), k ≤ len ∧ i = .int .i64 k ∧ v = .slice ao k cv ∧ rs2.length = k ∧ GotR w.heap.size w' v rs2 ∧ Hid (rs2.map srOf = (rs.take k).map srOf) ∧ Below w.heap.size w w') (fun _ i _ => len - (intOf i).toNat)
  case atStart => exact ⟨0, [], none, 0, by omega, rfl, rfl, rfl, ⟨World.ownsRow_nil _ _ _ _, fun r hr => by cases hr⟩, hidden rfl, Below.refl _ _⟩
  case round =>
    obtain ⟨k, rs2, ao, cv, hk, rfl, rfl, hrl, hgot, hmap, hbl⟩ := hrel
    have HG := hidden hgot
    have HRL := hidden hrl
    have hs1 := hbl.size
    clear hgot hrl
    by_cases hlt : k < len
    · have hlt2 : (k : Int) < (len : Int) := by omega
      have hkc : k < rs.length := by omega
      obtain ⟨b, off, rfl, hcell⟩ := HC.out.at (by omega)
      obtain ⟨q0, q1, q2, q3⟩ := hcell k hkc
      have c0 := cellLater hbl q0
      have c1 := cellLater hbl q1
      have c2 := cellLater hbl q2
      have c3 := cellLater hbl q3
      have HSN : Hid ((rs.take (k + 1)).map srOf = (rs.take k).map srOf ++ [srOf rs[k]]) := hidden (by rw [List.take_succ_eq_append_getElem hkc, List.map_append]; rfl)
      have hrd := (HC.out.2.2.2 _ (List.getElem_mem hkc)).1
      have hll : rs[k].l ≤ 900000 := by
        have := sizes_mem (ks := rs.map ckOf) (k := ckOf rs[k]) (List.mem_map.2 ⟨_, List.getElem_mem hkc, rfl⟩)
        have h2 : (ckOf rs[k]).l = rs[k].l := rfl
        have := HSZ.out
        omega
      clear hcell q0 q1 q2 q3
      generalize rs[k] = r at *
      obtain ⟨ru, rx, ri, ra, rl, rc, rd⟩ := r
      simp only at *
      have hst : Below wr.heap.size wr ((wr.alloc (.cells #[.string ru, .int .u32 rx, .string ri, .slice ra rl rc] 49)).alloc (.cells #[] 5)) := ((Below.refl _ _).alloc (Nat.le_refl _) _).alloc (by simp) _
      have hb3 := hbl.trans (hst.mono hs1)
      have HB3 := hidden hb3
      have HX := hidden ((Box4.new wr (.string ru) (.int .u32 rx) (.string ri) (.slice ra rl rc) 49).alloc (.cells #[] 5))
      have hO : ((wr.alloc (.cells #[.string ru, .int .u32 rx, .string ri, .slice ra rl rc] 49)).alloc (.cells #[] 5)).ownsRow (wr.heap.size + 1) 5 1 (.slice (some ⟨wr.heap.size + 1, 0, none⟩) 0 0) 0 [] := by
        have := World.ownsRow_made (base := wr.heap.size + 1) (e := 5) (size := 1) (wr.alloc (.cells #[.string ru, .int .u32 rx, .string ri, .slice ra rl rc] 49)) #[] 0 (by simp) (Nat.zero_le _) (by simp)
        simpa using this
      have HO := hidden hO
      have hrd3 := hrd.later hb3
      have HRD := hidden hrd3
      have hdl : rd.length = rl := hrd.1
      have HST := hidden hst
      clear hrd hrd3 hb3 hst hO
      cases ra with
      | none =>
        obtain ⟨h1, h2⟩ : rl = 0 ∧ rc = 0 := by
          rcases HRD.out.2.2 with ⟨_, h1, h2⟩ | ⟨x, hx, _⟩
          · exact ⟨h1, h2⟩
          · cases hx
        subst h1 h2
        obtain rfl := List.eq_nil_of_length_eq_zero hdl
        have hX5 := HX.out
        have hO5 : ((wr.alloc (.cells #[.string ru, .int .u32 rx, .string ri, .slice none 0 0] 49)).alloc (.cells #[] 5)).ownsRow (wr.heap.size + 1) 5 1 (.slice (some ⟨wr.heap.size + 1, 0, none⟩) 0 0) 0 (bytesV []) := HO.out
        have hW5 := HST.out
        go_wp2_with (at_builtin; refine wpList_append_own_none rfl (.tmp 16) (.tmp 18) 22 rfl (wr.heap.size + 1) 5 i0 1 Try.underlying22 hi _ _ _ rfl HO.out rfl ?_; refine Hid.out ?_)
        clear HX HO HST HB3 HRD
        generalize (wr.alloc (.cells #[.string ru, .int .u32 rx, .string ri, .slice none 0 0] 49)).alloc (.cells #[] 5) = w5 at *
        have hX6 := hX5.set3 (.slice (some ⟨wr.heap.size + 1, 0, none⟩) 0 0)
        have hO6 := ownsRow_setCell_below hO5 (a := ⟨wr.heap.size, 3, none⟩) (Nat.lt_succ_self _) (.slice (some ⟨wr.heap.size + 1, 0, none⟩) 0 0)
        have hW6 : Below wr.heap.size wr (w5.setCell ⟨wr.heap.size, 3, none⟩ (.slice (some ⟨wr.heap.size + 1, 0, none⟩) 0 0)) := hW5.setCell (Nat.le_refl _) _
        have hG6 := HG.out.below hW6
        obtain ⟨x0, x1, x2, x3⟩ := hX5.cells
        have xf := hX5.frozen 3
        obtain ⟨y0, y1, y2, y3⟩ := hX6.cells
        have hlt5 := hX5.lt
        have HW6 := hidden hW6
        have HG6 := hidden hG6
        have HO6 := hidden (own_base hO6 (show wr.heap.size ≤ wr.heap.size + 1 by omega))
        have HO7 := hidden (hG6.1.alloc (.cells #[.string ru, .int .u32 rx, .string ri, .slice (some ⟨wr.heap.size + 1, 0, none⟩) 0 0] 49))
        have HN7 := hidden (four_new_at (w5.setCell ⟨wr.heap.size, 3, none⟩ (.slice (some ⟨wr.heap.size + 1, 0, none⟩) 0 0)) (.string ru) (.int .u32 rx) (.string ri) (.slice (some ⟨wr.heap.size + 1, 0, none⟩) 0 0) 49 (w5.heap.size) (by simp))
        have hs6 : wr.heap.size < (w5.setCell ⟨wr.heap.size, 3, none⟩ (.slice (some ⟨wr.heap.size + 1, 0, none⟩) 0 0)).heap.size := by simpa using hlt5
        rw [HRL.out] at HO7
        clear hX6 hO6 hW6 hG6 hX5 hO5 hW5 c0 c1 c2 c3
        refine hidden ?_
        go_wp2_with (at_builtin; refine wpList_append_own _ rfl (.tmp 21) (.tmp 23) 32 rfl w.heap.size 49 j0 (.agg #[.string ⟨#[]⟩, .int .u32 0, .string ⟨#[]⟩, .slice none 0 0]) 4 64 Try.underlying32 ji jz0 jz1 jz2 rfl (by decide) _ _ _ rfl HO7.out ⟨w5.heap.size, 0, none⟩ 1 1 [.string ru, .int .u32 rx, .string ri, .slice (some ⟨wr.heap.size + 1, 0, none⟩) 0 0] rfl rfl HN7.out (by intro u hu; simp at hu; rcases hu with rfl | rfl | rfl | rfl <;> rfl) (by unfold maxLen; omega) (by omega) (by simp; omega) ?_; intro v3 w9 hown3 hgrow3 hiff3; clear hiff3; refine Hid.out ?_)
        replace hgrow3 : ((w5.setCell ⟨wr.heap.size, 3, none⟩ (.slice (some ⟨wr.heap.size + 1, 0, none⟩) 0 0)).alloc (.cells #[.string ru, .int .u32 rx, .string ri, .slice (some ⟨wr.heap.size + 1, 0, none⟩) 0 0] 49)).grownBy w9 (Value.slice ao k cv).ownBlock := hgrow3
        have hb8 := hbl.trans (HW6.out.mono hs1)
        have hb9 : Below w.heap.size w w9 := (hb8.alloc hb8.size _).grown hgrow3 (by simp; omega) (fun j hj => (HO7.out.lt j hj).1)
        obtain ⟨ar3, cr3, rfl⟩ := own_slice hown3
        have hrl := HRL.out
        have HG9 := hidden (gotR_snoc (r := ⟨ru, rx, ri, some ⟨wr.heap.size + 1, 0, none⟩, 0, 0, []⟩) _ HG6.out (own_base HO6.out hs1) (by rw [hrl]; exact hown3) hgrow3)
        clear hown3 hgrow3 HO7 HN7 HG6 HO6 hrl
        refine hidden ?_
        go_wp2
        go_roundw
        case rel =>
          refine ⟨k + 1, rs2 ++ [⟨ru, rx, ri, some ⟨wr.heap.size + 1, 0, none⟩, 0, 0, []⟩], ar3, cr3, by omega, by go_num, rfl, by rw [List.length_append, HRL.out]; rfl, HG9.out, hidden ?_, hb9⟩
          rw [HSN.out, List.map_append, hmap.out]; rfl
        case measure => simp [intOf]; omega
      | some x =>
        have HN := hidden HRD.out.news
        go_wp2_with (at_builtin; refine wpList_append_own _ rfl (.tmp 16) (.tmp 18) 22 rfl (wr.heap.size + 1) 5 i0 (.int .u8 0) 1 1 Try.underlying22 hi hz0 hz1 hz2 rfl (by decide) _ _ _ rfl HO.out x rl rc (bytesV rd) rfl (by simp [bytesV, hdl]) HN.out (bytesV_one _) (by unfold maxLen; omega) (by omega) (by simp) ?_; intro v1 w5 hown1 hgrow1 hiff1; clear hiff1; refine Hid.out ?_)
        replace hgrow1 : ((wr.alloc (.cells #[.string ru, .int .u32 rx, .string ri, .slice (some x) rl rc] 49)).alloc (.cells #[] 5)).grownBy w5 (some (wr.heap.size + 1)) := hgrow1
        have hX5 := HX.out.grown hgrow1 (by simp)
        have hW5 : Below wr.heap.size wr w5 := HST.out.grown hgrow1 HST.out.size (fun j hj => by cases hj; omega)
        obtain ⟨a1, k1, rfl⟩ := own_slice hown1
        have hO5 : w5.ownsRow (wr.heap.size + 1) 5 1 (.slice a1 (0 + rl) k1) (0 + rl) (bytesV rd) := by simpa using hown1
        rw [Nat.zero_add] at hO5
        simp only [Nat.zero_add]
        clear hown1 hgrow1
        have hX6 := hX5.set3 (.slice a1 rl k1)
        have hO6 := ownsRow_setCell_below hO5 (a := ⟨wr.heap.size, 3, none⟩) (Nat.lt_succ_self _) (.slice a1 rl k1)
        have hW6 : Below wr.heap.size wr (w5.setCell ⟨wr.heap.size, 3, none⟩ (.slice a1 rl k1)) := hW5.setCell (Nat.le_refl _) _
        have hG6 := HG.out.below hW6
        obtain ⟨x0, x1, x2, x3⟩ := hX5.cells
        have xf := hX5.frozen 3
        obtain ⟨y0, y1, y2, y3⟩ := hX6.cells
        have hlt5 := hX5.lt
        have HW6 := hidden hW6
        have HG6 := hidden hG6
        have HO6 := hidden (own_base hO6 (show wr.heap.size ≤ wr.heap.size + 1 by omega))
        have HO7 := hidden (hG6.1.alloc (.cells #[.string ru, .int .u32 rx, .string ri, .slice a1 rl k1] 49))
        have HN7 := hidden (four_new_at (w5.setCell ⟨wr.heap.size, 3, none⟩ (.slice a1 rl k1)) (.string ru) (.int .u32 rx) (.string ri) (.slice a1 rl k1) 49 (w5.heap.size) (by simp))
        have hs6 : wr.heap.size < (w5.setCell ⟨wr.heap.size, 3, none⟩ (.slice a1 rl k1)).heap.size := by simpa using hlt5
        rw [HRL.out] at HO7
        clear hX6 hO6 hW6 hG6 hX5 hO5 hW5 c0 c1 c2 c3
        refine hidden ?_
        go_wp2_with (at_builtin; refine wpList_append_own _ rfl (.tmp 21) (.tmp 23) 32 rfl w.heap.size 49 j0 (.agg #[.string ⟨#[]⟩, .int .u32 0, .string ⟨#[]⟩, .slice none 0 0]) 4 64 Try.underlying32 ji jz0 jz1 jz2 rfl (by decide) _ _ _ rfl HO7.out ⟨w5.heap.size, 0, none⟩ 1 1 [.string ru, .int .u32 rx, .string ri, .slice a1 rl k1] rfl rfl HN7.out (by intro u hu; simp at hu; rcases hu with rfl | rfl | rfl | rfl <;> rfl) (by unfold maxLen; omega) (by omega) (by simp; omega) ?_; intro v3 w9 hown3 hgrow3 hiff3; clear hiff3; refine Hid.out ?_)
        replace hgrow3 : ((w5.setCell ⟨wr.heap.size, 3, none⟩ (.slice a1 rl k1)).alloc (.cells #[.string ru, .int .u32 rx, .string ri, .slice a1 rl k1] 49)).grownBy w9 (Value.slice ao k cv).ownBlock := hgrow3
        have hb8 := hbl.trans (HW6.out.mono hs1)
        have hb9 : Below w.heap.size w w9 := (hb8.alloc hb8.size _).grown hgrow3 (by simp; omega) (fun j hj => (HO7.out.lt j hj).1)
        obtain ⟨ar3, cr3, rfl⟩ := own_slice hown3
        have hrl := HRL.out
        have HG9 := hidden (gotR_snoc (r := ⟨ru, rx, ri, a1, rl, k1, rd⟩) _ HG6.out (own_base HO6.out hs1) (by rw [hrl]; exact hown3) hgrow3)
        clear hown3 hgrow3 HO7 HN7 HG6 HO6 hrl
        refine hidden ?_
        go_wp2
        go_roundw
        case rel =>
          refine ⟨k + 1, rs2 ++ [⟨ru, rx, ri, a1, rl, k1, rd⟩], ar3, cr3, by omega, by go_num, rfl, by rw [List.length_append, HRL.out]; rfl, HG9.out, hidden ?_, hb9⟩
          rw [HSN.out, List.map_append, hmap.out]; rfl
        case measure => simp [intOf]; omega
    · obtain rfl : k = len := by omega
      have hse : rs.take k = rs := List.take_of_length_le (by omega)
      rw [hse] at hmap
      go_wp2
      go_ret
      have hrl := HRL.out
      exact ⟨hbl, ao, cv, rs2, by rw [hrl]; rfl, by rw [hrl]; exact HG.out, hmap.out⟩
end Go.Proofs.Ytedihackifchcaa
