/- Contract of blorb.readEntries: what the index says of the chunks, or its entries' first fault and its place. -/
import Derived.Test.YtedihackifchcaaX6d
import Derived.Deep.RegionWith
import Derived.Deep.RegionHeld3
import Derived.Deep.QuietTactic
import Derived.BigQuiet
namespace Go.Proofs.Ytedihackifchcaa
open Go.RowKit Go.Maps
set_option maxHeartbeats 1000000
set_option maxRecDepth 100000
set_option linter.unusedVariables false

/-- what readEntries answers -/
def REnt (w : World) (ao : Option Addr) (n cv : Nat) (R : List En × Int × Int) (e : Ending) (w' : World) : Prop :=
  Below w.heap.size w w' ∧ ((R.2.1 ≠ 0 ∧ e = .returned (.tuple #[.agg #[.slice none 0 0, .slice none 0 0, .map none], .int .i64 R.2.1, .int .i64 R.2.2])) ∨
   (R.2.1 = 0 ∧ ∃ an cn bm D, e = .returned (.tuple #[.agg #[.slice ao n cv, .slice an R.1.length cn, .map (some bm)], .int .i64 0, .int .i64 0]) ∧ w.heap.size ≤ bm ∧ w'.ownsRow w.heap.size 88 2 (.slice an R.1.length cn) R.1.length (nmsV R.1) ∧
     w'.ownsMap (H := Unit) Try.prog 88 (plainElem Try.prog 3) bm R.1.length D ∧ MapIs D R.1 ∧ EnOk R.1 ∧ ∀ a ∈ R.1, a.2.2 ≠ 0 ∧ a.2.2 < n))
/-- how far readEntries has come -/
def RS (w : World) (ao : Option Addr) (n cv : Nat) (v1 : Value) (pl : List Int) (acc : List En) (an : Option Addr) (cn : Nat) (D : DataW Unit) (w' : World) : Prop :=
  Box3 w' w.heap.size (.slice ao n cv) (.slice an acc.length cn) (.map (some (w.heap.size + 1))) 84 ∧ w'.ownsRow (w.heap.size + 2) 88 2 (.slice an acc.length cn) acc.length (nmsV acc) ∧ w'.ownsRow (w.heap.size + 2) 3 1 v1 n (intsV pl) ∧
    w'.ownsMap (H := Unit) Try.prog 88 (plainElem Try.prog 3) (w.heap.size + 1) acc.length D ∧ MapIs D acc ∧ EnOk acc ∧ (∀ a ∈ acc, a.2.2 ≠ 0 ∧ a.2.2 < n) ∧ Below w.heap.size w w'
theorem below_grown {w w' : World} (hb : Below w.heap.size w w') : w.grownBy w' none := ⟨hb.os, hb.tape, hb.output, hb.size, fun k hk _ => hb.block k hk⟩
theorem own_later {w w' : World} {B e size n : Nat} {v : Value} {xs : List Value} (h : w.ownsRow B e size v n xs) (hb : Below w.heap.size w w') : w'.ownsRow B e size v n xs := h.kept (below_grown hb) (by cases v.ownBlock <;> simp)
theorem RS.later {w : World} {ao : Option Addr} {n cv : Nat} {v1 : Value} {pl : List Int} {acc : List En} {an : Option Addr} {cn : Nat} {D : DataW Unit} {w1 w2 : World} (h : RS w ao n cv v1 pl acc an cn D w1) (hb : Below w1.heap.size w1 w2) : RS w ao n cv v1 pl acc an cn D w2 := by
  obtain ⟨h1, h2, h3, h4, h5, h6, h7, h8⟩ := h
  exact ⟨h1.later hb, own_later h2 hb, own_later h3 hb, h4.kept (below_grown hb) (by simp), h5, h6, h7, h8.trans (hb.mono h8.size)⟩
theorem RS.start (w : World) (ao : Option Addr) (n cv : Nat) (pl : List Int) (e : Value) (w1 : World) (v1 : Value) (ho : w1.ownsRow ((w.alloc (.cells #[.slice ao n cv, .slice none 0 0, .map (some (w.heap.size + 1))] 84)).alloc (.map #[] 0)).heap.size 3 1 v1 n (intsV pl))
    (hb : Below ((w.alloc (.cells #[.slice ao n cv, .slice none 0 0, .map (some (w.heap.size + 1))] 84)).alloc (.map #[] 0)).heap.size ((w.alloc (.cells #[.slice ao n cv, .slice none 0 0, .map (some (w.heap.size + 1))] 84)).alloc (.map #[] 0)) w1) :
    RS w ao n cv v1 pl [] none 0 (.map []) w1 := by
  have hs : ((w.alloc (.cells #[.slice ao n cv, .slice none 0 0, .map (some (w.heap.size + 1))] 84)).alloc (.map #[] 0)).heap.size = w.heap.size + 2 := by simp
  have hb0 : Below w.heap.size w ((w.alloc (.cells #[.slice ao n cv, .slice none 0 0, .map (some (w.heap.size + 1))] 84)).alloc (.map #[] 0)) := ((Below.refl _ _).alloc (Nat.le_refl _) _).alloc (by simp) _
  have hm : ((w.alloc (.cells #[.slice ao n cv, .slice none 0 0, .map (some (w.heap.size + 1))] 84)).alloc (.map #[] 0)).ownsMap (H := Unit) Try.prog 88 (plainElem Try.prog 3) (w.heap.size + 1) 0 (.map []) := by
    have := World.ownsMap_made (H := Unit) (w.alloc (.cells #[.slice ao n cv, .slice none 0 0, .map (some (w.heap.size + 1))] 84)) Try.prog 88 (plainElem Try.prog 3)
    simpa using this
  refine ⟨((Box3.new _ _ _ _ _).alloc _).later hb, World.ownsRow_nil _ _ _ _, ?_, hm.kept (below_grown hb) (by simp), mapIs_nil, (fun a ha => by cases ha), (fun a ha => by cases ha), hb0.trans (hb.mono (by rw [hs]; omega))⟩
  rw [hs] at ho; exact ho
theorem own_apart {w : World} {B1 B2 n1 n2 s1 s2 t1 t2 : Nat} {v1 v2 : Value} {xs1 xs2 : List Value} (h1 : w.ownsRow B1 t1 s1 v1 n1 xs1) (h2 : w.ownsRow B2 t2 s2 v2 n2 xs2) (hne : t1 ≠ t2) : v1.ownBlock = none ∨ v1.ownBlock ≠ v2.ownBlock := by
  rcases h1.2 with ⟨rfl, _⟩ | ⟨g, cap, cur, rfl, _, hg, _⟩
  · exact .inl rfl
  · refine .inr fun e => ?_
    rcases h2.2 with ⟨rfl, _⟩ | ⟨g2, cap2, cur2, rfl, _, hg2, _⟩
    · cases e
    · have e' : g = g2 := by simpa [Value.ownBlock] using e
      subst e'
      rw [hg] at hg2
      simp at hg2
      exact hne hg2.2
theorem own_not {w : World} {B e size n b : Nat} {v : Value} {xs : List Value} (h : w.ownsRow B e size v n xs) (hb : b < B) : v.ownBlock = none ∨ v.ownBlock ≠ some b := by
  right
  intro e'
  have := (h.lt b e').1
  omega
theorem RS.zero {w : World} {ao : Option Addr} {n cv : Nat} {v1 : Value} {pl : List Int} {acc : List En} {an : Option Addr} {cn : Nat} {D : DataW Unit} {w1 : World} (h : RS w ao n cv v1 pl acc an cn D w1) :
    Box3 (((w1.setCell ⟨w.heap.size, 0, none⟩ (.slice none 0 0)).setCell ⟨w.heap.size, 1, none⟩ (.slice none 0 0)).setCell ⟨w.heap.size, 2, none⟩ (.map none)) w.heap.size (.slice none 0 0) (.slice none 0 0) (.map none) 84 ∧
      Below w.heap.size w (((w1.setCell ⟨w.heap.size, 0, none⟩ (.slice none 0 0)).setCell ⟨w.heap.size, 1, none⟩ (.slice none 0 0)).setCell ⟨w.heap.size, 2, none⟩ (.map none)) :=
  ⟨h.1.setAll _ _ _, ((h.2.2.2.2.2.2.2.setCell (Nat.le_refl _) _).setCell (Nat.le_refl _) _).setCell (Nat.le_refl _) _⟩
theorem RS.mid {w : World} {ao : Option Addr} {n cv : Nat} {v1 : Value} {pl : List Int} {acc : List En} {an : Option Addr} {cn : Nat} {D : DataW Unit} {w5 w6 : World} (h : RS w ao n cv v1 pl acc an cn D w5) {U : ByteArray} {X : Int}
    (hg : (w5.alloc (.cells #[.string U, .int .u32 X] 88)).grownBy w6 (Value.slice an acc.length cn).ownBlock) : Box3 w6 w.heap.size (.slice ao n cv) (.slice an acc.length cn) (.map (some (w.heap.size + 1))) 84 ∧
      w6.ownsRow (w.heap.size + 2) 3 1 v1 n (intsV pl) ∧ w6.ownsMap (H := Unit) Try.prog 88 (plainElem Try.prog 3) (w.heap.size + 1) acc.length D ∧ Below w.heap.size w w6 := by
  obtain ⟨h1, h2, h3, h4, h5, h6, h7, h8⟩ := h
  have k1 := own_not h2 (show w.heap.size < w.heap.size + 2 by omega)
  have k2 := own_not h2 (show w.heap.size + 1 < w.heap.size + 2 by omega)
  refine ⟨(h1.alloc _).grown hg ?_, (h3.alloc _).kept hg (own_apart (h3.alloc _) (h2.alloc (.cells #[.string U, .int .u32 X] 88)) (by decide)), (h4.alloc _).kept hg ?_, (h8.alloc h8.size _).grown hg (by simp; exact Nat.le_succ_of_le h8.size) (fun j hj => ?_)⟩
  · rcases k1 with k | k
    · rw [k]; simp
    · exact k
  · rcases k2 with k | k
    · rw [k]; simp
    · exact fun e => k e.symm
  · have := (h2.lt j hj).1; omega
theorem RS.step {w : World} {ao : Option Addr} {n cv : Nat} {v1 : Value} {pl : List Int} {acc : List En} {an : Option Addr} {cn : Nat} {D : DataW Unit} {w5 w6 w8 : World} (h : RS w ao n cv v1 pl acc an cn D w5) {U : ByteArray} {X : Int} (hk : KeyOk U X) (hna : ¬ Among acc U X) {c : Nat} (hc0 : c ≠ 0) (hcn : c < n)
    (hg : (w5.alloc (.cells #[.string U, .int .u32 X] 88)).grownBy w6 (Value.slice an acc.length cn).ownBlock) {an3 : Option Addr} {cn3 : Nat} (ho : w6.ownsRow (w.heap.size + 2) 88 2 (.slice an3 (acc.length + 1) cn3) (acc.length + 1) (nmsV acc ++ [.string U, .int .u32 X]))
    (hm : w8.ownsMap (H := Unit) Try.prog 88 (plainElem Try.prog 3) (w.heap.size + 1) (acc.length + 1) (D.put (keyL U X) (.lit (.int .i64 (c : Nat))))) (hg8 : (w6.setCell ⟨w.heap.size, 1, none⟩ (.slice an3 (acc.length + 1) cn3)).grownBy w8 (some (w.heap.size + 1))) :
    RS w ao n cv v1 pl (acc ++ [(U, X, c)]) an3 cn3 (D.put (keyL U X) (.lit (.int .i64 (c : Nat)))) w8 := by
  obtain ⟨m1, m2, m3, m4⟩ := h.mid hg
  obtain ⟨h1, h2, h3, h4, h5, h6, h7, h8⟩ := h
  have hl : (acc ++ [(U, X, c)]).length = acc.length + 1 := by simp
  unfold RS
  rw [hl]
  refine ⟨(m1.set1 _).grown hg8 (by simp), ?_, ?_, hm, h5.put h6 hk hna c, ?_, ?_, (m4.setCell (Nat.le_refl _) _).grown hg8 (by simpa using m4.size) (fun j hj => by cases hj; omega)⟩
  · rw [nmsV_snoc]
    have := ownsRow_setCell_below ho (a := ⟨w.heap.size, 1, none⟩) (show w.heap.size < w.heap.size + 2 by omega) (.slice an3 (acc.length + 1) cn3)
    exact this.kept hg8 (own_not this (by omega))
  · have := ownsRow_setCell_below m2 (a := ⟨w.heap.size, 1, none⟩) (show w.heap.size < w.heap.size + 2 by omega) (.slice an3 (acc.length + 1) cn3)
    exact this.kept hg8 (own_not this (by omega))
  · intro a ha
    rcases List.mem_append.1 ha with h' | h'
    · exact h6 a h'
    · rw [List.mem_singleton.1 h']; exact hk
  · intro a ha
    rcases List.mem_append.1 ha with h' | h'
    · exact h7 a h'
    · rw [List.mem_singleton.1 h']; exact ⟨hc0, hcn⟩
theorem RS.fin {w : World} {ao : Option Addr} {n cv : Nat} {v1 : Value} {pl : List Int} {acc : List En} {an : Option Addr} {cn : Nat} {D : DataW Unit} {w1 : World} (h : RS w ao n cv v1 pl acc an cn D w1) :
    Box3 (((w1.setCell ⟨w.heap.size, 0, none⟩ (.slice ao n cv)).setCell ⟨w.heap.size, 1, none⟩ (.slice an acc.length cn)).setCell ⟨w.heap.size, 2, none⟩ (.map (some (w.heap.size + 1)))) w.heap.size (.slice ao n cv) (.slice an acc.length cn) (.map (some (w.heap.size + 1))) 84 ∧
    (((w1.setCell ⟨w.heap.size, 0, none⟩ (.slice ao n cv)).setCell ⟨w.heap.size, 1, none⟩ (.slice an acc.length cn)).setCell ⟨w.heap.size, 2, none⟩ (.map (some (w.heap.size + 1)))).ownsRow w.heap.size 88 2 (.slice an acc.length cn) acc.length (nmsV acc) ∧
    (((w1.setCell ⟨w.heap.size, 0, none⟩ (.slice ao n cv)).setCell ⟨w.heap.size, 1, none⟩ (.slice an acc.length cn)).setCell ⟨w.heap.size, 2, none⟩ (.map (some (w.heap.size + 1)))).ownsMap (H := Unit) Try.prog 88 (plainElem Try.prog 3) (w.heap.size + 1) acc.length D ∧
      Below w.heap.size w (((w1.setCell ⟨w.heap.size, 0, none⟩ (.slice ao n cv)).setCell ⟨w.heap.size, 1, none⟩ (.slice an acc.length cn)).setCell ⟨w.heap.size, 2, none⟩ (.map (some (w.heap.size + 1)))) := by
  obtain ⟨h1, h2, h3, h4, h5, h6, h7, h8⟩ := h
  refine ⟨h1.setAll _ _ _, own_base (ownsRow_setCell_below (ownsRow_setCell_below (ownsRow_setCell_below h2 (show w.heap.size < w.heap.size + 2 by omega) _) (show w.heap.size < w.heap.size + 2 by omega) _) (show w.heap.size < w.heap.size + 2 by omega) _) (by omega), ?_, ((h8.setCell (Nat.le_refl _) _).setCell (Nat.le_refl _) _).setCell (Nat.le_refl _) _⟩
  exact ((h4.setCell (show w.heap.size + 1 ≠ w.heap.size by omega) _).setCell (show w.heap.size + 1 ≠ w.heap.size by omega) _).setCell (show w.heap.size + 1 ≠ w.heap.size by omega) _
theorem readEntries_any (ao : Option Addr) (n cv N : Nat) (k : Ck) (ks : List Ck) (w : World) (h : Gks w ao n cv (k :: ks)) (hd : ∀ c ∈ k :: ks, c.d.length = c.l) (hok : OkB k.d) (hsz : sizes (k :: ks) ≤ 1000012) (hn : n ≤ 1024)
    (hN : N ≤ 512) (hl : k.l = 4 + 12 * N) :
    Calls Try.prog 58 #[.slice ao n cv] w (REnt w ao n cv (ego ((k :: ks).map scOf) k.d N 0 [])) := by
  obtain ⟨i0, hi, hz0, hz1, hz2⟩ := info_parts infoNm
  have hnl := h.1.1
  have hcv := h.1.2.1
  have hmm := @run_makeMap Try.prog
  have HPl : Hid (∀ wx, Below w.heap.size w wx → Calls Try.prog 38 #[.slice ao n cv] wx (PlRet wx n (plS ((k :: ks).map scOf)))) := hidden fun wx hb => by
    have := places_any ao n cv (k :: ks) wx (h.1.later hb) (by omega) (by omega)
    rw [← hnl, plK_plS _ hd, hnl] at this
    exact this
  have hcl : ((k :: ks).map scOf).length = n := by rw [List.length_map]; exact hnl
  obtain ⟨cs, hcs⟩ : ∃ cs, cs = (k :: ks).map scOf := ⟨_, rfl⟩
  rw [← hcs] at HPl hcl ⊢
  clear hcs
  have h0n : 0 < n := by rw [← hnl]; simp
  obtain ⟨b, off, rfl, hcell⟩ := h.1.at h0n
  have c0 := (hcell 0 (by simp)).1
  have c1 := (hcell 0 (by simp)).2
  simp only [List.getElem_cons_zero, Nat.zero_mul, Nat.add_zero] at c0 c1
  obtain ⟨g, hka, hBs, hkc⟩ := h.2 k List.mem_cons_self (by omega)
  have hdk := hd k List.mem_cons_self
  obtain ⟨kid, ka, kl, kc, kd⟩ := k
  simp only at *
  subst hka
  have HBs := hidden hBs
  have hkl2 : kl ≤ 6148 := by omega
  have hn0 : (0 : Int) < (n : Int) := by omega
  have HL := hidden hl
  have hl4 : (4 : Int) ≤ (kl : Int) := by omega
  clear hl
  obtain ⟨R, hR⟩ : ∃ R, R = ego cs kd N 0 [] := ⟨_, rfl⟩
  rw [← hR]
  have HR := hidden hR.symm
  clear h hcell hBs hd hR hsz hnl
  have HB0 := hidden (((Below.refl w.heap.size w).alloc (Nat.le_refl _) (.cells #[.slice (some ⟨b, off, none⟩) n cv, .slice none 0 0, .map (some (w.heap.size + 1))] 84)).alloc (by simp) (.map #[] 0))
  go_enter Try.func58, Try.ntmps58
  go_wp2_with fail
  refine (HPl.out _ HB0.out).mono ?_
  rintro e w1 ⟨v1, rfl, ho1, hb1⟩
  have HRS := hidden (RS.start w (some ⟨b, off, none⟩) n cv (plS cs) (.slice none 0 0) w1 v1 ho1 hb1)
  have c0' := cellLater HRS.out.2.2.2.2.2.2.2 c0
  have c1' := cellLater HRS.out.2.2.2.2.2.2.2 c1
  clear ho1 hb1 HB0 HPl hmm
  go_wp2
  go_loopw [7] (fun pv w' => ∃ (F i : Nat) (acc : List En) (an : Option Addr) (cn : Nat) (D : DataW Unit), i + F = N ∧ acc.length = i ∧ pv = .int .i64 ((4 + 12 * i : Nat) : Int) ∧ RS w (some ⟨b, off, none⟩) n cv v1 (plS cs) acc an cn D w' ∧ Hid (ego cs kd F i acc = R)) (fun pv _ => kl - (intOf pv).toNat)
  case atStart => exact ⟨N, 0, [], none, 0, .map [], by omega, rfl, rfl, HRS.out, HR⟩
  case round =>
    obtain ⟨F, i, acc, an, cn, D, hiF, hacc, rfl, hRS, HE⟩ := hrel
    have HS := hidden hRS
    have HACC := hidden hacc
    have ha512 : acc.length ≤ 512 := by omega
    clear HRS HR hacc
    have hbl := hRS.2.2.2.2.2.2.2
    have hs1 := hbl.size
    have hslt := hRS.1.lt
    clear hRS
    by_cases hlt : i < N
    · obtain ⟨F', rfl⟩ : ∃ F', F = F' + 1 := ⟨F - 1, by omega⟩
      have hst := HE.out
      unfold ego at hst
      have HST := hidden hst
      clear hst HE
      have hl := HL.out
      have hp1 : ((4 + 12 * i : Nat) : Int) < (kl : Int) := by omega
      have hp2 : 4 + 12 * i + 12 ≤ kl := by omega
      have HBr := hidden (HBs.out.later hbl)
      have HNum : Hid (∀ wx, Below wr.heap.size wr wx → Calls Try.prog 64 #[.slice (some ⟨g, 0, none⟩) kl kc, .int .i64 (((4 + 12 * i : Nat) : Int) + 4)] wx fun e w' => e = .returned (.int .u32 (beV kd (8 + 12 * i) 4)) ∧ w' = wx) := hidden fun wx hb => by
        have := bnumberAt_any g 0 kl kc (8 + 12 * i) kd wx (HBr.out.later hb) hok (by omega) hkc (by omega)
        rw [show ((8 + 12 * i : Nat) : Int) = ((4 + 12 * i : Nat) : Int) + 4 by omega] at this
        exact this
      have HNum2 : Hid (∀ wx, Below wr.heap.size wr wx → Calls Try.prog 64 #[.slice (some ⟨g, 0, none⟩) kl kc, .int .i64 (((4 + 12 * i : Nat) : Int) + 8)] wx fun e w' => e = .returned (.int .u32 (beV kd (12 + 12 * i) 4)) ∧ w' = wx) := hidden fun wx hb => by
        have := bnumberAt_any g 0 kl kc (12 + 12 * i) kd wx (HBr.out.later hb) hok (by omega) hkc (by omega)
        rw [show ((12 + 12 * i : Nat) : Int) = ((4 + 12 * i : Nat) : Int) + 8 by omega] at this
        exact this
      have HCv : Hid (∀ wx, Below wr.heap.size wr wx → (convert 22 9 (.slice (some ⟨g, 4 + 12 * i, none⟩) 4 (kc - (4 + 12 * i)))).run Try.prog wx = .ok (.string (strA (seg kd (4 + 12 * i) 4))) wx) := hidden fun wx hb => by
        have := conv_reads wx _ _ _ _ (seg_okb hok (4 + 12 * i) 4) ((HBr.out.later hb).sub (4 + 12 * i) 4 (kc - (4 + 12 * i)) (by omega) (by omega))
        rw [Nat.zero_add] at this
        exact this
      have hx := beV_bd kd (8 + 12 * i) hok
      have hy := beV_bd kd (12 + 12 * i) hok
      have hul : (strA (seg kd (4 + 12 * i) 4)).size ≤ 1000000 := by
        show (strB (seg kd (4 + 12 * i) 4)).toArray.size ≤ 1000000
        have : (seg kd (4 + 12 * i) 4).length = 4 := seg_len _ _ _ (by omega)
        simp [strB]; omega
      generalize hU : strA (seg kd (4 + 12 * i) 4) = U at *
      generalize hX : beV kd (8 + 12 * i) 4 = X at *
      generalize hY : beV kd (12 + 12 * i) 4 = Y at *
      generalize hp : 4 + 12 * i = p at *
      have hpi : (24 + 12 * (i : Int)) = 20 + (p : Int) := by omega
      have hpi2 : (32 + 12 * (i : Int)) = 20 + (p : Int) + 8 := by omega
      rw [hpi, hpi2] at HST
      have HPI : Hid (4 + 12 * (i + 1) = p + 12) := hidden (by omega)
      clear hU hX hY hp hpi hpi2 hl
      have n1 : ¬ kc = p := by omega
      have e2 : ((p : Int) + 4).toNat = p + 4 := by omega
      have e3 : p + 4 - p = 4 := by omega
      have e4 : (p : Int) + 4 ≤ (kc : Int) := by omega
      have e5 : (p : Int) + 4 ≤ 9223372036854775807 := by omega
      have e8 : ¬ (p : Int) + 4 < 0 := by omega
      have e6 : (p : Int) ≤ 1000000 := by omega
      have e7 : IntKind.i64.wrap ((p : Int) + 4) = (p : Int) + 4 := by rw [IntKind.wrap_i64]; omega
      have hsl : ∀ w, (Instr.sliceAt 22 (.slice (some ⟨g, 0, none⟩) kl kc) (some (.int .i64 (p : Int))) (some (.int .i64 ((p : Int) + 4))) none).run Try.prog w = .ok (.slice (some ⟨g, p, none⟩) 4 (kc - p)) w := fun w => by
        go_simp
      have hc1 := HCv.out wr.drew ((Below.refl _ _).drew)
      have hc2 := HCv.out (wr.alloc (.cells #[.string ⟨#[]⟩, .int .u32 0] 88)).drew (((Below.refl _ _).alloc (Nat.le_refl _) _).drew)
      go_upto_region 7 with fail
      go_cut [8] from 22 to 81 (fun cp wx => ∃ (gb : Nat), cp = .pointer (some ⟨gb, 0, none⟩) ∧ wr.heap.size ≤ gb ∧ Box2 wx gb (.string U) (.int .u32 X) 88 ∧ Below wr.heap.size wr wx)
      case first =>
        go_region_with (go_at_call 64; refine (HNum.out _ (by repeat (first | exact Below.refl _ _ | assumption | apply Below.drew | (refine Below.alloc ?_ (by simp; try omega) _)))).mono ?_; rintro e w9 ⟨rfl, hw⟩; obtain rfl := hw.symm)
        all_goals (try go_wp2_with fail)
        all_goals go_meet
        all_goals exact ⟨wr.heap.size, rfl, Nat.le_refl _, Box2.new _ _ _ _, ((Below.refl _ _).alloc (Nat.le_refl _) _).drew⟩
      case rest =>
        obtain ⟨gb, rfl, hgb, hbox, hb2⟩ := hcut
        have HGB : Hid ((Value.slice an acc.length cn).ownBlock ≠ some gb) := hidden fun e => by have := (HS.out.2.1.lt gb e).2; omega
        have hR2 := HS.out.later hb2
        obtain ⟨n0, n1'⟩ := hbox.cells
        obtain ⟨t0, t1, t2, f0, f1, f2⟩ := hR2.1.cells
        have HR2 := hidden hR2
        have HX2 := hidden hbox
        clear HS hbox hR2 hc1 hc2 hsl HCv HNum
        by_cases hid : ¬ IsId U
        · have hR : R = ([], 61, 20 + (p : Int)) := by rw [← HST.out, if_pos hid]
          subst hR
          have HT := idc_f hid
          clear HST hid HNum2
          go_wp2_with (go_at_call 51; refine (HT.out _).mono ?_; rintro e w9 ⟨rfl, hw⟩; obtain rfl := hw.symm)
          obtain ⟨hB, hW⟩ := HR2.out.zero
          obtain ⟨q0, q1, q2, -⟩ := hB.cells
          generalize ((wc.setCell ⟨w.heap.size, 0, none⟩ (.slice none 0 0)).setCell ⟨w.heap.size, 1, none⟩ (.slice none 0 0)).setCell ⟨w.heap.size, 2, none⟩ (.map none) = WZ at *
          refine bodyPost_ret (v := .tuple #[.agg #[.slice none 0 0, .slice none 0 0, .map none], .int .i64 61, .int .i64 (20 + (p : Int))]) (by simp [results, Try.results58, go_sem, q0, q1, q2]) rfl ?_
          exact ⟨hW, .inl ⟨by simp, rfl⟩⟩
        have HT := idc_t (Classical.not_not.1 hid)
        rw [if_neg hid] at HST
        clear hid
        have hkey : KeyOk U X := ⟨hul, hx⟩
        have HM := hidden HR2.out.2.2.2.1
        by_cases ham : Among acc U X
        · have hR : R = ([], 6, 20 + (p : Int)) := by rw [← HST.out, if_pos ham]
          subst hR
          have hhas : Maps.has D (keyL U X) = true := (HR2.out.2.2.2.2.1.2.1 U X hkey).2 ham
          clear HST ham HNum2
          go_wp2_with (first | (go_at_call 51; refine (HT.out _).mono ?_; rintro e w9 ⟨rfl, hw⟩; obtain rfl := hw.symm) | (at_lookup; refine wpList_lookup_own_ok_int _ rfl _ _ 82 rfl 88 3 .i64 nameLaw Try.underlying82 Try.underlying3 (zero3 _) (w.heap.size + 1) acc.length D rfl HM.out _ _ rfl (keyOf_name U X hkey) ?_; intro c hat hwc; rw [hhas]))
          obtain ⟨hB, hW⟩ := HR2.out.zero
          obtain ⟨q0, q1, q2, -⟩ := hB.cells
          generalize ((wc.setCell ⟨w.heap.size, 0, none⟩ (.slice none 0 0)).setCell ⟨w.heap.size, 1, none⟩ (.slice none 0 0)).setCell ⟨w.heap.size, 2, none⟩ (.map none) = WZ at *
          refine bodyPost_ret (v := .tuple #[.agg #[.slice none 0 0, .slice none 0 0, .map none], .int .i64 6, .int .i64 (20 + (p : Int))]) (by simp [results, Try.results58, go_sem, q0, q1, q2]) rfl ?_
          exact ⟨hW, .inl ⟨by simp, rfl⟩⟩
        rw [if_neg ham] at HST
        have hhas : Maps.has D (keyL U X) = false := by
          cases hh : Maps.has D (keyL U X)
          · rfl
          · exact absurd ((HR2.out.2.2.2.2.1.2.1 U X hkey).1 hh) ham
        have HAM := hidden ham
        clear ham
        have hCh := chunkAt_any v1 (w.heap.size + 2) cs Y wc (by rw [hcl]; exact HR2.out.2.2.1) (by omega) (by omega) hy.1 hy.2
        have HN2 := hidden (HNum2.out wc hb2)
        clear HNum2
        by_cases hix : ixS cs Y = 0
        · have hR : R = ([], 61, 20 + (p : Int) + 8) := by rw [← HST.out, if_pos hix]
          subst hR
          rw [hix] at hCh
          have HCh : Hid (Calls Try.prog 65 #[v1, .int .u32 Y] wc fun e w' => e = .returned (.tuple #[.int .i64 0, .bool false]) ∧ Below wc.heap.size wc w') := hidden hCh
          clear HST hix hCh
          go_wp2_with (first | (go_at_call 51; refine (HT.out _).mono ?_; rintro e w9 ⟨rfl, hw⟩; obtain rfl := hw.symm) | (at_lookup; refine wpList_lookup_own_ok_int _ rfl _ _ 82 rfl 88 3 .i64 nameLaw Try.underlying82 Try.underlying3 (zero3 _) (w.heap.size + 1) acc.length D rfl HM.out _ _ rfl (keyOf_name U X hkey) ?_; intro c hat hwc; rw [hhas]) | (go_at_call 64; refine HN2.out.mono ?_; rintro e w9 ⟨rfl, hw⟩; obtain rfl := hw.symm) | (go_at_call 65; refine HCh.out.mono ?_; rintro e w5 ⟨rfl, hb5⟩; have hR5 := HR2.out.later hb5; obtain ⟨v0, v1', v2, z0, z1, z2⟩ := hR5.1.cells; have HR5 := hidden hR5; clear hR5))
          obtain ⟨hB, hW⟩ := HR5.out.zero
          obtain ⟨q0, q1, q2, -⟩ := hB.cells
          generalize ((w5.setCell ⟨w.heap.size, 0, none⟩ (.slice none 0 0)).setCell ⟨w.heap.size, 1, none⟩ (.slice none 0 0)).setCell ⟨w.heap.size, 2, none⟩ (.map none) = WZ at *
          refine bodyPost_ret (v := .tuple #[.agg #[.slice none 0 0, .slice none 0 0, .map none], .int .i64 61, .int .i64 (20 + (p : Int) + 8)]) (by simp [results, Try.results58, go_sem, q0, q1, q2]) rfl ?_
          exact ⟨hW, .inl ⟨by simp, rfl⟩⟩
        rw [if_neg hix] at HST
        have hixl := ixS_lt cs Y hix
        rw [hcl] at hixl
        rw [show decide (ixS cs Y ≠ 0) = true by simp [hix]] at hCh
        have HIX := hidden hix
        generalize ixS cs Y = ix at *
        have HCh := hidden hCh
        clear hix hCh
        have hne1 : ¬ gb = w.heap.size := by omega
        have hne2 : ¬ w.heap.size = gb := by omega
        go_wp2_with (first | (go_at_call 51; refine (HT.out _).mono ?_; rintro e w9 ⟨rfl, hw⟩; obtain rfl := hw.symm) | (at_lookup; refine wpList_lookup_own_ok_int _ rfl _ _ 82 rfl 88 3 .i64 nameLaw Try.underlying82 Try.underlying3 (zero3 _) (w.heap.size + 1) acc.length D rfl HM.out _ _ rfl (keyOf_name U X hkey) ?_; intro c hat hwc; rw [hhas]) | (go_at_call 64; refine HN2.out.mono ?_; rintro e w9 ⟨rfl, hw⟩; obtain rfl := hw.symm))
        refine HCh.out.mono ?_
        rintro e w5 ⟨rfl, hb5⟩
        have hR5 := HR2.out.later hb5
        obtain ⟨v0, v1', v2, z0, z1, z2⟩ := hR5.1.cells
        obtain ⟨y0, y1⟩ := (HX2.out.later hb5).cells
        have HR5 := hidden hR5
        have HX5 := hidden (HX2.out.later hb5)
        have HO5 := hidden (hR5.2.1.alloc (.cells #[.string U, .int .u32 X] 88))
        have hs5 := hR5.2.2.2.2.2.2.2.size
        have hs5' := hR5.2.2.2.1.lt
        have HN5 := hidden (cell_two_new w5 (.string U) (.int .u32 X) 88)
        clear hR5 HM hhas HT HR2 HX2 HN2 HCh n0 n1' t0 t1 t2 f0 f1 f2 hb5
        go_wp2_with (at_builtin; refine wpList_append_own _ rfl (.tmp 73) (.tmp 75) 81 rfl (w.heap.size + 2) 88 i0 (.agg #[.string ⟨#[]⟩, .int .u32 0]) 2 24 Try.underlying81 hi hz0 hz1 hz2 rfl (by decide) _ _ _ rfl HO5.out ⟨w5.heap.size, 0, none⟩ 1 1 [.string U, .int .u32 X] rfl rfl HN5.out (by intro u hu; simp at hu; rcases hu with rfl | rfl <;> rfl) (by unfold maxLen; omega) (by omega) (by simp; omega) ?_; intro v3 w6 hown3 hgrow3 hiff3; clear hiff3; refine Hid.out ?_)
        replace hgrow3 : (w5.alloc (.cells #[.string U, .int .u32 X] 88)).grownBy w6 (Value.slice an acc.length cn).ownBlock := hgrow3
        obtain ⟨an3, cn3, rfl⟩ := own_slice hown3
        obtain ⟨m1, m2, m3, m4⟩ := HR5.out.mid hgrow3
        obtain ⟨x0, x1, x2, x3, x4, x5⟩ := m1.cells
        have hX6 := (HX5.out.alloc (.cells #[.string U, .int .u32 X] 88)).grown hgrow3 HGB.out
        obtain ⟨nb0, nb1⟩ := hX6.cells
        have HM6 := hidden (m3.setCell (a := ⟨w.heap.size, 1, none⟩) (show w.heap.size + 1 ≠ w.heap.size by omega) (.slice an3 (acc.length + 1) cn3))
        have hlt6 := m1.lt
        have hlt7 := hX6.lt
        have HOWN3 := hidden hown3
        have HGR3 := hidden hgrow3
        clear hown3 hgrow3 m1 m2 m3 m4 hX6 HO5 HN5 v0 v1' v2 z0 z1 z2 y0 y1
        refine hidden ?_
        go_wp2_with (at_mapUpdate; refine wpList_mapUpdate_own _ rfl _ _ _ 82 rfl 88 3 nameLaw Try.underlying82 _ (w.heap.size + 1) acc.length D rfl HM6.out (by unfold maxLen; omega) _ _ _ rfl rfl (keyOf_name U X hkey) _ [] (plainElem_int Try.underlying3 (WalkArith.wf_i64 (by omega))) ?_; intro w8 hown8 hgrow8; refine Hid.out ?_)
        have HRS8 := hidden (HR5.out.step hkey HAM.out HIX.out hixl HGR3.out HOWN3.out hown8 hgrow8)
        clear hown8 hgrow8 HM6
        refine hidden ?_
        go_wp2
        go_roundw
        case rel => exact ⟨F', i + 1, acc ++ [(U, X, ix)], an3, cn3, _, by omega, by rw [List.length_append, HACC.out]; rfl, int_eq (by rw [HPI.out]; omega), HRS8.out, HST⟩
        case measure => simp [intOf]; omega
    · obtain rfl : F = 0 := by omega
      have hR : R = (acc, 0, 0) := HE.out.symm
      subst hR
      have hl := HL.out
      have hp1 : ¬ ((4 + 12 * i : Nat) : Int) < (kl : Int) := by omega
      generalize 4 + 12 * i = p at *
      obtain ⟨t0, t1, t2, f0, f1, f2⟩ := HS.out.1.cells
      clear HE hl
      go_wp2
      obtain ⟨hB, hO, hM, hW⟩ := HS.out.fin
      obtain ⟨q0, q1, q2, -⟩ := hB.cells
      generalize ((wr.setCell ⟨w.heap.size, 0, none⟩ (.slice (some ⟨b, off, none⟩) n cv)).setCell ⟨w.heap.size, 1, none⟩ (.slice an acc.length cn)).setCell ⟨w.heap.size, 2, none⟩ (.map (some (w.heap.size + 1))) = WZ at *
      refine bodyPost_ret (v := .tuple #[.agg #[.slice (some ⟨b, off, none⟩) n cv, .slice an acc.length cn, .map (some (w.heap.size + 1))], .int .i64 0, .int .i64 0]) (by simp [results, Try.results58, go_sem, q0, q1, q2]) rfl ?_
      exact ⟨hW, .inr ⟨rfl, an, cn, w.heap.size + 1, D, rfl, by omega, hO, hM, HS.out.2.2.2.2.1, HS.out.2.2.2.2.2.1, HS.out.2.2.2.2.2.2.1⟩⟩
end Go.Proofs.Ytedihackifchcaa
