/- Contract of iff.Build: the form's bytes, or the first fault. -/
import Derived.Test.YtedihackifchcaaJ5c
import Derived.Laws.MakeOwn
namespace Go.Proofs.Ytedihackifchcaa
open Go.RowKit
set_option maxHeartbeats 1000000
set_option maxRecDepth 100000
set_option linter.unusedVariables false

abbrev IdC (s : ByteArray) (b : Bool) : Prop := Hid (∀ w, Calls Try.prog 51 #[.string s] w fun e w' => e = .returned (.bool b) ∧ w' = w)
theorem idc_t {s : ByteArray} (h : IsId s) : IdC s true := hidden fun w => id_yes s w h
theorem idc_f {s : ByteArray} (h : ¬ IsId s) : IdC s false := hidden fun w => id_no s w h
theorem build_arg (s : ByteArray) (a : Option Addr) (len cap : Nat) (w : World) (h : ¬ IsId s) :
    Calls Try.prog 39 #[.string s, .slice a len cap] w fun e w' => e = .returned (.tuple #[.slice none 0 0, .int .i64 1]) ∧ Below w.heap.size w w' := by
  have HT := idc_f h
  go_enter Try.func39, Try.ntmps39
  go_wp2_with (go_at_call 51; refine (HT.out _).mono ?_; rintro e w9 ⟨rfl, hw⟩; obtain rfl := hw.symm)
  go_ret2
  exact ⟨rfl, Below.refl _ _⟩
theorem build_args (s : ByteArray) (a : Option Addr) (len cap : Nat) (cs : List Ck) (w : World) (h : IsId s) (hc : Cks w a len cap cs) (hm : len ≤ 1000000) (h2 : ¬ AllId cs) :
    Calls Try.prog 39 #[.string s, .slice a len cap] w fun e w' => e = .returned (.tuple #[.slice none 0 0, .int .i64 1]) ∧ Below w.heap.size w w' := by
  have HT := idc_t h
  have HA : Hid (Calls Try.prog 53 #[.slice a len cap] w fun e w' => e = .returned (.bool false) ∧ Below w.heap.size w w') := hidden ((allIds_any a len cap cs w hc hm).mono (by
    rintro e w' ⟨h | h, hb⟩
    · exact absurd h.1 h2
    · exact ⟨h.2, hb⟩))
  clear hc h2
  go_enter Try.func39, Try.ntmps39
  go_wp2_with (first | (go_at_call 51; refine (HT.out _).mono ?_; rintro e w9 ⟨rfl, hw⟩; obtain rfl := hw.symm) | (go_at_call 53; refine HA.out.mono ?_; rintro e w9 ⟨rfl, hb⟩))
  go_ret2
  exact ⟨rfl, hb⟩
theorem build_many (s : ByteArray) (a : Option Addr) (len cap : Nat) (cs : List Ck) (w : World) (h : IsId s) (hc : Cks w a len cap cs) (hm : len ≤ 1000000) (h2 : AllId cs) (h3 : 1024 < len) :
    Calls Try.prog 39 #[.string s, .slice a len cap] w fun e w' => e = .returned (.tuple #[.slice none 0 0, .int .i64 4]) ∧ Below w.heap.size w w' := by
  have HT := idc_t h
  have HA : Hid (Calls Try.prog 53 #[.slice a len cap] w fun e w' => e = .returned (.bool true) ∧ Below w.heap.size w w') := hidden ((allIds_any a len cap cs w hc hm).mono (by
    rintro e w' ⟨h | h, hb⟩
    · exact ⟨h.2, hb⟩
    · exact absurd h2 h.1))
  have h4 : (1024 : Int) < (len : Int) := by omega
  clear hc h2
  go_enter Try.func39, Try.ntmps39
  go_wp2_with (first | (go_at_call 51; refine (HT.out _).mono ?_; rintro e w9 ⟨rfl, hw⟩; obtain rfl := hw.symm) | (go_at_call 53; refine HA.out.mono ?_; rintro e w9 ⟨rfl, hb⟩))
  go_ret2
  exact ⟨rfl, hb⟩
/-- the chunks' bytes, one behind the other -/
def flat (cs : List Ck) : List Int := (cs.map fun k => ckL k.id k.l k.d).flatten
def headL (s : ByteArray) (T : Nat) : List Int := idI ⟨#[70, 79, 82, 77]⟩ ++ (putL ((T : Int) - 8) 4 ++ idI s)
/-- a form's bytes -/
def formL (s : ByteArray) (cs : List Ck) : List Int := headL s (12 + sizes cs) ++ flat cs
theorem flat_snoc (cs : List Ck) (k : Nat) (h : k < cs.length) : flat (cs.take (k + 1)) = flat (cs.take k) ++ ckL cs[k].id cs[k].l cs[k].d := by
  unfold flat
  rw [List.take_succ_eq_append_getElem h, List.map_append, List.flatten_append]
  simp
def BuildRet (w : World) (T : Nat) (zs : List Int) (e : Ending) (w' : World) : Prop := ∃ v, e = .returned (.tuple #[v, .int .i64 0]) ∧ w'.ownsRow w.heap.size 5 1 v T (bytesV zs) ∧ Below w.heap.size w w'
theorem build_good (s : ByteArray) (a : Option Addr) (len cap : Nat) (cs : List Ck) (w : World) (h : IsId s) (hc : Cks w a len cap cs) (h2 : AllId cs) (h3 : len ≤ 1024) (hz : sizes cs ≤ 1000000) :
    Calls Try.prog 39 #[.string s, .slice a len cap] w (BuildRet w (12 + sizes cs) (formL s cs)) := by
  obtain ⟨i0, hi, hz0, hz1, hz2⟩ := info_parts info8
  have HT := idc_t h
  have hs4 : s.size = 4 := h.1
  have HA : Hid (Calls Try.prog 53 #[.slice a len cap] w fun e w' => e = .returned (.bool true) ∧ Below w.heap.size w w') := hidden ((allIds_any a len cap cs w hc (by omega)).mono (by
    rintro e w' ⟨h | h, hb⟩
    · exact ⟨h.2, hb⟩
    · exact absurd h2 h.1))
  have HF : Hid (∀ w', Below w.heap.size w w' → Calls Try.prog 54 #[.slice a len cap] w' fun e w'' => e = .returned (.int .i64 ((12 + sizes cs : Nat) : Int)) ∧ Below w'.heap.size w' w'') := hidden fun w' hb => formBytes_any a len cap cs w' (hc.later hb) hz
  have h4 : (len : Int) ≤ 1024 := by omega
  have hlen := hc.1
  have hcap := hc.2.1
  have HC := hidden hc
  have H2 := hidden h2
  unfold formL
  have hT : 12 + sizes cs ≤ 1000012 := by omega
  have hT8 : 12 ≤ 12 + sizes cs := by omega
  have hTe := hidden (rfl : 12 + sizes cs = 12 + sizes cs)
  clear hc h2 h
  generalize hTT : 12 + sizes cs = T at HF hT hT8 ⊢
  have HTT := hidden hTT
  clear hTT hTe
  have hT1 : (T : Int) ≤ 1000012 := by omega
  have hT2 : (12 : Int) ≤ (T : Int) := by omega
  go_enter Try.func39, Try.ntmps39
  go_wp2_with (first | (go_at_call 51; refine (HT.out _).mono ?_; rintro e w9 ⟨rfl, hw⟩; obtain rfl := hw.symm) | (go_at_call 53; refine HA.out.mono ?_; rintro e w1 ⟨rfl, hb1⟩) | (go_at_call 54; refine (HF.out _ hb1).mono ?_; rintro e w2 ⟨rfl, hb2⟩; refine Hid.out ?_))
  have hb3 : Below w.heap.size w w2 := hb1.trans (hb2.mono hb1.size)
  clear hb1 hb2
  have hs3 := hb3.size
  obtain ⟨w3, hmk, hown, hgrow⟩ := run_make_own (P := Try.prog) w2 w.heap.size 22 5 i0 (.int .u8 0) 1 Try.underlying22 hi hz0 hz1 .i64 .i64 T (by rw [hz2]; omega) (by unfold maxLen; omega) hs3
  have hb4 : Below w.heap.size w w3 := hb3.grown hgrow hs3 (by intro k hk; cases hk)
  have hs4' := hb4.size
  have HO := hidden hown
  clear hown hgrow hb3 hs3
  refine hidden ?_
  go_wp2_with (at_builtin; refine Lib.wpList_append_own_string _ rfl (.tmp 27) (.const (.string ⟨#[70, 79, 82, 77]⟩)) 22 9 rfl w.heap.size 5 i0 Try.underlying22 Try.underlying9 hi hz0 hz1 hz2 _ _ _ rfl HO.out ⟨#[70, 79, 82, 77]⟩ rfl (by decide) (by decide) (by omega) ?_; intro v1 w4 hown1 hgrow1 hiff1; clear hiff1; refine Hid.out ?_)
  replace hgrow1 : w3.grownBy w4 (Value.slice (some ⟨w2.heap.size, 0, none⟩) 0 T).ownBlock := hgrow1
  have hb5 : Below w.heap.size w w4 := hb4.grown hgrow1 hs4' (fun k hk => (HO.out.lt k hk).1)
  replace hown1 : w4.ownsRow w.heap.size 5 1 v1 4 (bytesV (idI ⟨#[70, 79, 82, 77]⟩)) := hown1
  have hs5 := hb5.size
  have HO1 := hidden (hown1.alloc (.cells (bytesV (putL ((T : Int) - 8) 4)).toArray 5))
  have hb6 := hb5.alloc hs5 (.cells (bytesV (putL ((T : Int) - 8) 4)).toArray 5)
  have HN2 := hidden (new_cell w4 (putL ((T : Int) - 8) 4) (show 4 ≤ maxLen by decide))
  clear hown1 hgrow1 HO hb4 hs4' hmk hb5
  refine hidden ?_
  go_wp2_with (first | (go_at_call 48; refine (putn_4 _ _).mono ?_; rintro e w9 ⟨rfl, hw⟩; subst hw) | (at_builtin; refine wpList_append_own _ rfl (.tmp 29) (.tmp 33) 22 rfl w.heap.size 5 i0 (.int .u8 0) 1 1 Try.underlying22 hi hz0 hz1 hz2 rfl (by decide) _ _ _ rfl HO1.out ⟨w4.heap.size, 0, none⟩ 4 4 (bytesV (putL ((T : Int) - 8) 4)) rfl rfl HN2.out (bytesV_one _) (by decide) (by decide) (by simp; omega) ?_; intro v2 w5 hown2 hgrow2 hiff2; clear hiff2; refine Hid.out ?_))
  replace hgrow2 : (w4.alloc (.cells (bytesV (putL ((T : Int) - 8) 4)).toArray 5)).grownBy w5 v1.ownBlock := hgrow2
  have hb7 : Below w.heap.size w w5 := hb6.grown hgrow2 hb6.size (fun k hk => (HO1.out.lt k hk).1)
  rw [bytesV_append] at hown2
  have hs7 := hb7.size
  have HO2 := hidden hown2
  clear hown2 hgrow2 HO1 hb6 HN2
  refine hidden ?_
  go_wp2_with (at_builtin; refine Lib.wpList_append_own_string _ rfl (.tmp 35) (.tmp 36) 22 9 rfl w.heap.size 5 i0 Try.underlying22 Try.underlying9 hi hz0 hz1 hz2 _ _ _ rfl HO2.out s rfl (by rw [hs4]; decide) (by rw [hs4]; decide) (by omega) ?_; intro v3 w6 hown3 hgrow3 hiff3; clear hiff3; refine Hid.out ?_)
  replace hgrow3 : w5.grownBy w6 v2.ownBlock := hgrow3
  have hb8 : Below w.heap.size w w6 := hb7.grown hgrow3 hs7 (fun k hk => (HO2.out.lt k hk).1)
  have hown4 : w6.ownsRow w.heap.size 5 1 v3 (12 + sizes (cs.take 0)) (bytesV (headL s T ++ flat (cs.take 0))) := by
    rw [idI_cells, bytesV_append, hs4] at hown3
    simpa only [headL, List.append_assoc, List.take_zero, sizes, flat, List.map_nil, List.sum_nil, List.flatten_nil, List.append_nil, Nat.add_zero] using hown3
  have HO3 := hidden hown4
  clear hown3 hgrow3 HO2 hb7 hs7 hown4 hs5
  have HLE := hidden (fun k => sizes_le cs k)
  refine hidden ?_
  go_wp2
  go_loopw [7, 40] (fun v i w' => ∃ k : Nat, k ≤ len ∧ i = .int .i64 k ∧ w'.ownsRow w.heap.size 5 1 v (12 + sizes (cs.take k)) (bytesV (headL s T ++ flat (cs.take k))) ∧ Below w.heap.size w w') (fun _ i _ => len - (intOf i).toNat)
  case atStart => exact ⟨0, by omega, rfl, HO3.out, hb8⟩
  case round =>
    obtain ⟨k, hk, rfl, hown, hbl⟩ := hrel
    have HO := hidden hown
    clear hown HO3 hb8
    have hs1 := hbl.size
    by_cases hlt : k < len
    · have hlt2 : (k : Int) < (len : Int) := by omega
      have hkc : k < cs.length := by omega
      obtain ⟨b, off, rfl, hcell⟩ : ∃ b off, a = some ⟨b, off, none⟩ ∧ ∀ i (h : i < cs.length), w.cell? ⟨b, off + i * 2, none⟩ = some (.string cs[i].id) ∧ w.cell? ⟨b, off + i * 2 + 1, none⟩ = some (.slice cs[i].a cs[i].l cs[i].c) := by
        rcases HC.out.2.2.1 with h | h
        · omega
        · exact h
      have c0 := cellLater hbl (hcell k hkc).1
      have c1 := cellLater hbl (hcell k hkc).2
      clear hcell
      have hsn := hidden (sizes_snoc cs k hkc)
      have hfl := hidden (flat_snoc cs k hkc)
      have hz1' : sizes (cs.take (k + 1)) ≤ sizes cs := sizes_le cs (k + 1)
      have hid := hidden (H2.out _ (List.getElem_mem hkc))
      have HAp := hidden (appendChunk_any cs[k].id cs[k].a cs[k].l cs[k].c cs[k].d u7 (12 + sizes (cs.take k)) (headL s T ++ flat (cs.take k)) w (wr.alloc (.cells #[.string cs[k].id, .slice cs[k].a cs[k].l cs[k].c] 56)) (hbl.alloc hs1 _) (HO.out.alloc _) (HC.out.2.2.2 _ (List.getElem_mem hkc)).1 (by rw [hid.out.1]; decide) (by rw [hsn.out] at hz1'; unfold ckSize at hz1'; omega))
      clear HO hz1'
      go_wp2_with (go_at_call 55; refine HAp.out.mono ?_; rintro e w9 ⟨v9, rfl, ho9, hb9⟩)
      have HO9 := hidden ho9
      clear ho9
      go_roundw
      case rel =>
        refine ⟨k + 1, by omega, by go_num, ?_, hb9⟩
        have := HO9.out
        rw [hfl.out, hsn.out]
        rw [hid.out.1] at this
        unfold ckSize
        simp only [List.append_assoc] at this ⊢
        rw [show 12 + (sizes (List.take k cs) + (8 + cs[k].l + cs[k].l % 2)) = 12 + sizes (List.take k cs) + 4 + 4 + cs[k].l + cs[k].l % 2 by omega]
        exact this
      case measure => simp [intOf]; omega
    · obtain rfl : k = len := by omega
      have hse : cs.take k = cs := List.take_of_length_le (by omega)
      rw [hse] at HO
      go_wp2
      go_ret2
      have ho := HO.out
      rw [HTT.out] at ho
      exact ⟨u7, rfl, ho, hbl⟩
end Go.Proofs.Ytedihackifchcaa
