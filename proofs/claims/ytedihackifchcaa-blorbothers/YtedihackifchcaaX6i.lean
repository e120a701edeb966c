/- Resources that come in, and the contract of blorb.checkResources: the first fault of resources that are to be laid. -/
import Derived.Test.YtedihackifchcaaX6h
namespace Go.Proofs.Ytedihackifchcaa
open Go.RowKit Go.Maps
set_option maxHeartbeats 1000000
set_option maxRecDepth 100000
set_option linter.unusedVariables false

/-- a slice of resources that reads as rs -/
def Rks (w : World) (a : Option Addr) (len cap : Nat) (rs : List Rk) : Prop :=
  rs.length = len ∧ len ≤ cap ∧ (len = 0 ∨ ∃ b off, a = some ⟨b, off, none⟩ ∧ ∀ i (h : i < rs.length), w.cell? ⟨b, off + i * 4, none⟩ = some (.string rs[i].u) ∧ w.cell? ⟨b, off + i * 4 + 1, none⟩ = some (.int .u32 rs[i].x) ∧ w.cell? ⟨b, off + i * 4 + 2, none⟩ = some (.string rs[i].id) ∧ w.cell? ⟨b, off + i * 4 + 3, none⟩ = some (.slice rs[i].a rs[i].l rs[i].c)) ∧
  ∀ r ∈ rs, Reads w r.a r.l r.c r.d ∧ OkB r.d ∧ 0 ≤ r.x ∧ r.x ≤ 4294967295
theorem Rks.later {w w' : World} {a : Option Addr} {len cap : Nat} {rs : List Rk} (h : Rks w a len cap rs) (hb : Below w.heap.size w w') : Rks w' a len cap rs := by
  obtain ⟨h1, h2, h3, h4⟩ := h
  refine ⟨h1, h2, ?_, fun k hk => ⟨(h4 k hk).1.later hb, (h4 k hk).2⟩⟩
  rcases h3 with h | ⟨b, off, hx, hc⟩
  · exact .inl h
  · exact .inr ⟨b, off, hx, fun i hi => ⟨cellLater hb (hc i hi).1, cellLater hb (hc i hi).2.1, cellLater hb (hc i hi).2.2.1, cellLater hb (hc i hi).2.2.2⟩⟩
theorem Rks.at {w : World} {a : Option Addr} {len cap : Nat} {rs : List Rk} (h : Rks w a len cap rs) (h0 : 0 < len) : ∃ b off, a = some ⟨b, off, none⟩ ∧ ∀ i (h : i < rs.length), w.cell? ⟨b, off + i * 4, none⟩ = some (.string rs[i].u) ∧ w.cell? ⟨b, off + i * 4 + 1, none⟩ = some (.int .u32 rs[i].x) ∧ w.cell? ⟨b, off + i * 4 + 2, none⟩ = some (.string rs[i].id) ∧ w.cell? ⟨b, off + i * 4 + 3, none⟩ = some (.slice rs[i].a rs[i].l rs[i].c) := by
  rcases h.2.2.1 with h | h
  · omega
  · exact h
def AllIdR (rs : List Rk) : Prop := ∀ r ∈ rs, IsId r.u ∧ IsId r.id
def InR (rs : List Rk) (u : ByteArray) (x : Int) : Prop := ∃ r ∈ rs, r.u = u ∧ r.x = x
def ApartR (rs : List Rk) : Prop := rs.Pairwise fun a b => ¬ (a.u = b.u ∧ a.x = b.x)
def decAllIdR (rs : List Rk) : Decidable (AllIdR rs) := by unfold AllIdR; haveI : ∀ s, Decidable (IsId s) := decId; infer_instance
def decApartR (rs : List Rk) : Decidable (ApartR rs) := by unfold ApartR; infer_instance
def SetIs {H : Type} (D : DataW H) (rs : List Rk) : Prop := IsMap D ∧ ∀ u x, KeyOk u x → (Maps.has D (keyL u x) = true ↔ InR rs u x)
theorem setIs_nil {H : Type} : SetIs (H := H) (.map []) [] := ⟨⟨[], rfl⟩, fun u x _ => by simp [InR, Maps.has]⟩
theorem SetIs.put {H : Type} {D : DataW H} {rs : List Rk} (h : SetIs D rs) (r : Rk) (hk : KeyOk r.u r.x) (z : DataW H) : SetIs (D.put (keyL r.u r.x) z) (rs ++ [r]) := by
  obtain ⟨hm, hh⟩ := h
  refine ⟨hm.put _ _, fun v y hv => ?_⟩
  by_cases e : v = r.u ∧ y = r.x
  · obtain ⟨rfl, rfl⟩ := e
    rw [has_put_same hm (keyL_key hk)]
    exact ⟨fun _ => ⟨r, by simp, rfl, rfl⟩, fun _ => rfl⟩
  · rw [has_put_other (fun e' => e (keyL_inj hv hk e')), hh v y hv]
    constructor
    · rintro ⟨a, h1, h2⟩
      exact ⟨a, List.mem_append.2 (.inl h1), h2⟩
    · rintro ⟨a, h1, h2, h3⟩
      rcases List.mem_append.1 h1 with h1 | h1
      · exact ⟨a, h1, h2, h3⟩
      · rw [List.mem_singleton.1 h1] at h2 h3
        exact absurd ⟨h2.symm, h3.symm⟩ e
/-- the first fault of resources that are to be laid, but for their length -/
def checkR (rs : List Rk) : Int :=
  letI := decAllIdR rs
  letI := decApartR rs
  if ¬ AllIdR rs then 1 else if 512 < rs.length then 4 else if ¬ ApartR rs then 6 else 0
theorem zeroU (w : World) : (zeroValue 93).run Try.prog w = .ok (.agg #[]) w := by kernel_rfl
theorem idc_any (s : ByteArray) : ∃ b : Bool, IdC s b ∧ (b = true ↔ IsId s) := by
  by_cases h : IsId s
  · exact ⟨true, idc_t h, by simp [h]⟩
  · exact ⟨false, idc_f h, by simp [h]⟩
theorem isId_key {s : ByteArray} (h : IsId s) : s.size ≤ 1000000 := by have := h.1; omega
set_option maxHeartbeats 2000000 in
theorem checkResources_any (a : Option Addr) (len cap : Nat) (rs : List Rk) (w : World) (hc : Rks w a len cap rs) (hm : len ≤ 1000000) :
    Calls Try.prog 35 #[.slice a len cap] w fun e w' => e = .returned (.int .i64 (checkR rs)) ∧ Below w.heap.size w w' := by
  have hlen := hc.1
  have hcap := hc.2.1
  have HC := hidden hc
  have hmm := @run_makeMap Try.prog
  have hli : (len : Int) ≤ 1000000 := by omega
  obtain ⟨R, hR⟩ : ∃ R, R = checkR rs := ⟨_, rfl⟩
  rw [← hR]
  unfold checkR at hR
  rw [hlen] at hR
  have HR := hidden hR
  clear hc hR
  go_enter Try.func35, Try.ntmps35
  go_wp2
  go_loopw [13] (fun i w' => ∃ k : Nat, k ≤ len ∧ i = .int .i64 k ∧ (∀ j (h : j < rs.length), j < k → IsId rs[j].u ∧ IsId rs[j].id) ∧ Below w.heap.size w w') (fun i _ => len - (intOf i).toNat)
  case atStart => exact ⟨0, by omega, rfl, fun j _ h => by omega, Below.refl _ _⟩
  case round =>
    obtain ⟨k, hk, rfl, hd, hbl⟩ := hrel
    have HD := hidden hd
    have hs1 := hbl.size
    clear hd
    by_cases hlt : k < len
    · have hlt2 : (k : Int) < (len : Int) := by omega
      have hkc : k < rs.length := by omega
      obtain ⟨b, off, rfl, hcell⟩ := HC.out.at (by omega)
      obtain ⟨q0, q1, q2, q3⟩ := hcell k hkc
      have c0 := cellLater hbl q0
      have c1 := cellLater hbl q1
      have c2 := cellLater hbl q2
      have c3 := cellLater hbl q3
      have HMem : Hid (¬ (IsId rs[k].u ∧ IsId rs[k].id) → ¬ AllIdR rs) := hidden fun h h' => h (h' _ (List.getElem_mem hkc))
      have HYes : Hid (IsId rs[k].u ∧ IsId rs[k].id → ∀ j (h : j < rs.length), j < k + 1 → IsId rs[j].u ∧ IsId rs[j].id) := hidden fun h j hj hjk => by
        by_cases e : j = k
        · subst e; exact h
        · exact HD.out j hj (by omega)
      clear hcell q0 q1 q2 q3
      generalize rs[k] = r at *
      by_cases hu : IsId r.u
      · by_cases hid : IsId r.id
        · have HT1 := idc_t hu
          have HT2 := idc_t hid
          have HY := hidden (HYes.out ⟨hu, hid⟩)
          clear hu hid HYes HMem
          obtain ⟨ru, rx, ri, ra, rl, rc, rd⟩ := r
          simp only at *
          go_wp2_with (first | (go_at_call_of 51 (Value.string ru); (with_reducible refine (HT1.out _).mono ?_); rintro e w9 ⟨rfl, hw⟩; obtain rfl := hw.symm) | (go_at_call_of 51 (Value.string ri); (with_reducible refine (HT2.out _).mono ?_); rintro e w9 ⟨rfl, hw⟩; obtain rfl := hw.symm))
          go_roundw
          case rel => exact ⟨k + 1, by omega, by go_num, HY.out, hbl.alloc hs1 _⟩
          case measure => simp [intOf]; omega
        · have hR : R = 1 := by rw [HR.out, if_pos (HMem.out fun h => hid h.2)]
          subst hR
          have HT1 := idc_t hu
          have HT2 := idc_f hid
          clear hu hid HYes HMem HR
          obtain ⟨ru, rx, ri, ra, rl, rc, rd⟩ := r
          simp only at *
          go_wp2_with (first | (go_at_call_of 51 (Value.string ru); (with_reducible refine (HT1.out _).mono ?_); rintro e w9 ⟨rfl, hw⟩; obtain rfl := hw.symm) | (go_at_call_of 51 (Value.string ri); (with_reducible refine (HT2.out _).mono ?_); rintro e w9 ⟨rfl, hw⟩; obtain rfl := hw.symm))
          go_ret
          exact ⟨rfl, hbl.alloc hs1 _⟩
      · have hR : R = 1 := by rw [HR.out, if_pos (HMem.out fun h => hu h.1)]
        subst hR
        have HT1 := idc_f hu
        clear hu HYes HMem HR
        obtain ⟨ru, rx, ri, ra, rl, rc, rd⟩ := r
        simp only at *
        go_wp2_with (first | (go_at_call_of 51 (Value.string ru); (with_reducible refine (HT1.out _).mono ?_); rintro e w9 ⟨rfl, hw⟩; obtain rfl := hw.symm))
        go_ret
        exact ⟨rfl, hbl.alloc hs1 _⟩
    · obtain rfl : k = len := by omega
      have hall : AllIdR rs := fun r hr => by
        obtain ⟨j, hj, rfl⟩ := List.getElem_of_mem hr
        exact HD.out j hj (by omega)
      rw [if_neg (not_not_intro hall)] at HR
      have HALL := hidden hall
      clear hall HD
      by_cases h512 : 512 < k
      · have hR : R = 4 := by rw [HR.out, if_pos h512]
        subst hR
        have h5 : (512 : Int) < (k : Int) := by omega
        clear HR
        go_wp2
        go_ret
        exact ⟨rfl, hbl⟩
      rw [if_neg h512] at HR
      have h5 : ¬ (512 : Int) < (k : Int) := by omega
      have hMm := World.ownsMap_made (H := Unit) wr Try.prog 88 unitElem
      have HM0 := hidden hMm
      have hb0 := hbl.alloc hs1 (.map #[] 0)
      clear hMm
      go_wp2
      generalize hbm : wr.heap.size = bm at *
      go_loopw [34] (fun i w' => ∃ (j : Nat) (D : DataW Unit), j ≤ k ∧ i = .int .i64 j ∧ w'.ownsMap (H := Unit) Try.prog 88 unitElem bm j D ∧ SetIs D (rs.take j) ∧ ApartR (rs.take j) ∧ Below w.heap.size w w') (fun i _ => k - (intOf i).toNat)
      case atStart => exact ⟨0, .map [], by omega, rfl, HM0.out, setIs_nil, List.Pairwise.nil, hb0⟩
      case round =>
        obtain ⟨j, D, hj, rfl, hom, hset, hap, hbl2⟩ := hrel
        have HOM := hidden hom
        have HSET := hidden hset
        have HAP := hidden hap
        have hs2 := hbl2.size
        have hmlt := hom.lt
        clear hom hset hap HM0 hb0
        by_cases hlt : j < k
        · have hlt2 : (j : Int) < (k : Int) := by omega
          have hkc : j < rs.length := by omega
          obtain ⟨b, off, rfl, hcell⟩ := HC.out.at (by omega)
          obtain ⟨q0, q1, q2, q3⟩ := hcell j hkc
          have c0 := cellLater hbl2 q0
          have c1 := cellLater hbl2 q1
          have c2 := cellLater hbl2 q2
          have c3 := cellLater hbl2 q3
          have hmem : rs[j] ∈ rs := List.getElem_mem hkc
          have hid := HALL.out _ hmem
          have hx := (HC.out.2.2.2 _ hmem).2.2
          have hkey : KeyOk rs[j].u rs[j].x := ⟨isId_key hid.1, hx⟩
          have HTK : Hid (rs.take (j + 1) = rs.take j ++ [rs[j]]) := hidden (List.take_succ_eq_append_getElem hkc)
          have HNA : Hid (InR (rs.take j) rs[j].u rs[j].x → ¬ ApartR rs) := hidden fun ⟨r, hr, h1, h2⟩ h' => by
            have := h'
            unfold ApartR at this
            rw [← List.take_append_drop j rs, List.drop_eq_getElem_cons hkc] at this
            exact (List.pairwise_append.1 this).2.2 r hr rs[j] List.mem_cons_self ⟨h1, h2⟩
          have HYA : Hid (¬ InR (rs.take j) rs[j].u rs[j].x → ApartR (rs.take (j + 1))) := hidden fun h => by
            rw [HTK.out]
            unfold ApartR
            refine List.pairwise_append.2 ⟨HAP.out, List.pairwise_singleton _ _, fun r hr c hc => ?_⟩
            rw [List.mem_singleton.1 hc]
            exact fun e => h ⟨r, hr, e⟩
          clear hcell q0 q1 q2 q3 hmem hid
          generalize rs[j] = r at *
          obtain ⟨ru, rx, ri, ra, rl, rc, rd⟩ := r
          simp only at *
          have HOM2 := hidden ((HOM.out.alloc (.cells #[.string ru, .int .u32 rx, .string ri, .slice ra rl rc] 49)).alloc (.cells #[.string ru, .int .u32 rx] 88))
          have hbA := (hbl2.alloc hs2 (.cells #[.string ru, .int .u32 rx, .string ri, .slice ra rl rc] 49)).alloc (by simp; omega) (.cells #[.string ru, .int .u32 rx] 88)
          have HBA := hidden (hbA.alloc hbA.size (.cells #[] 93))
          have HOM3 := hidden (HOM2.out.alloc (.cells #[] 93))
          clear hbA
          by_cases hin : InR (rs.take j) ru rx
          · have hR : R = 6 := by rw [HR.out, if_pos (HNA.out hin)]
            subst hR
            have hhas : Maps.has D (keyL ru rx) = true := (HSET.out.2 ru rx hkey).2 hin
            clear HR hin HNA HYA HTK
            go_wp2_with (at_lookup; refine wpList_lookup_own_unit _ rfl _ _ 92 rfl 88 93 nameLaw Try.underlying92 (zeroU _) bm j D rfl HOM2.out _ _ rfl (keyOf_name ru rx hkey) ?_; rw [hhas])
            go_ret
            exact ⟨rfl, HBA.out⟩
          · have hhas : Maps.has D (keyL ru rx) = false := by
              cases hh : Maps.has D (keyL ru rx)
              · rfl
              · exact absurd ((HSET.out.2 ru rx hkey).1 hh) hin
            have HY := hidden (HYA.out hin)
            clear hin HNA HYA
            go_wp2_with (first | (at_lookup; refine wpList_lookup_own_unit _ rfl _ _ 92 rfl 88 93 nameLaw Try.underlying92 (zeroU _) bm j D rfl HOM2.out _ _ rfl (keyOf_name ru rx hkey) ?_; rw [hhas]) | (at_mapUpdate; refine wpList_mapUpdate_own _ rfl _ _ _ 92 rfl 88 93 nameLaw Try.underlying92 _ bm j D rfl HOM3.out (by unfold maxLen; omega) _ _ _ rfl rfl (keyOf_name ru rx hkey) _ [] unitElem_mk ?_; intro w8 hown8 hgrow8; refine Hid.out ?_))
            have hb8 : Below w.heap.size w w8 := HBA.out.grown hgrow8 HBA.out.size (fun q hq => by cases hq; exact hs1)
            have HO8 := hidden hown8
            clear hown8 hgrow8
            refine hidden ?_
            go_wp2
            go_roundw
            case rel =>
              refine ⟨j + 1, _, by omega, by go_num, HO8.out, ?_, HY.out, hb8⟩
              rw [HTK.out]
              exact HSET.out.put ⟨ru, rx, ri, ra, rl, rc, rd⟩ hkey _
            case measure => simp [intOf]; omega
        · obtain rfl : j = k := by omega
          have hse : rs.take j = rs := List.take_of_length_le (by omega)
          rw [hse] at HAP
          have hR : R = 0 := by rw [HR.out, if_neg (not_not_intro HAP.out)]
          subst hR
          clear HR hse
          go_wp2
          go_ret
          exact ⟨rfl, hbl2⟩
end Go.Proofs.Ytedihackifchcaa
