/- The walk of CodeBack: what is laid is read as it was, wherever it stands. -/
import Derived.Test.YtpkfmccnjandoaaB11a
namespace Go.Proofs.Ytpkfmccnjandoaa
open Go.RowKit
set_option maxHeartbeats 1000000
set_option maxRecDepth 100000
set_option linter.unusedVariables false

theorem enc_box (op : Int) (a : Option Addr) (n c : Nat) (l : List Od) (w wx : World) (h : Ops w a n c l) (hn : n ≤ 1000) (hx : Below w.heap.size w wx) :
    Calls Try.prog 16 #[.agg #[.int .u32 op, .slice a n c]] wx fun e w' => Below wx.heap.size wx w' ∧ (encOk op l = false → e = .returned (.tuple #[.slice none 0 0, .int .i64 1])) ∧
      (encOk op l = true → ∃ g c2, e = .returned (.tuple #[.slice (some ⟨g, 0, none⟩) (encL op l).length c2, .int .i64 0]) ∧ w'.ownsRow wx.heap.size 5 1 (.slice (some ⟨g, 0, none⟩) (encL op l).length c2) (encL op l).length (bytesV (encL op l))) := by
  refine (enc_any op a n c l wx (h.later hx) hn).mono ?_
  rintro e w' ⟨h1, h2, h3⟩
  refine ⟨h1, h2, fun hk => ?_⟩
  obtain ⟨a2, c2, he, ho⟩ := h3 hk
  have hp : 0 < (encL op l).length := by
    unfold encL opB
    rw [List.length_append, List.length_append]
    split <;> simp [putL] <;> omega
  obtain ⟨g, cp, hv, _, _⟩ := owned_shape ho hp
  cases hv
  exact ⟨g, c2, he, ho⟩
theorem ok_enc {op : Int} {l : List Od} (h : encOk op l = true) : OkB (encL op l) ∧ (encL op l).length ≤ 38 := by
  obtain ⟨r, hr, hl, hok⟩ := enc_parts h
  have hm : r ∈ tab := by unfold opR at hr; exact List.mem_of_find?_eq_some hr
  have h8 := tab_short hm
  exact ⟨encL_ok op l (ok_parts hok).1, (encL_len op l (by omega)).1⟩
theorem okb_app {a b : List Int} (ha : OkB a) (hb : OkB b) : OkB (a ++ b) := fun c hc => by
  rcases List.mem_append.1 hc with h | h
  · exact ha c h
  · exact hb c h
theorem codeBack_walk (op : Int) (a : Option Addr) (n c : Nat) (l : List Od) (a1 : Option Addr) (len1 cap1 : Nat) (zs1 : List Int) (a2 : Option Addr) (len2 cap2 : Nat) (zs2 : List Int) (w : World) (hop : (Lit.int .u32 op).wf = true) (hods : IsOds w a n c l) (hr1 : IsRow .u8 w a1 len1 cap1 zs1) (hr2 : IsRow .u8 w a2 len2 cap2 zs2) :
    Calls Try.prog 5 #[.agg #[.int .u32 op, .slice a n c], .slice a1 len1 cap1, .slice a2 len2 cap2] w fun e w' => e = .returned (.bool true) ∧ Below w.heap.size w w' := by
  obtain ⟨hR1, hO1, _⟩ := reads_of_row hr1
  obtain ⟨hR2, hO2, _⟩ := reads_of_row hr2
  have hOp := hods.1
  generalize zs1.take len1 = z1 at *
  generalize zs2.take len2 = z2 at *
  have HLV : Hid (∀ w1, Below w.heap.size w w1 → Calls Try.prog 9 #[] w1 fun e w' => e = .returned (.bool true) ∧ Below w.heap.size w w') := fun w1 hb => (live_any w1).mono (fun e w' hh => ⟨hh.1, hb.trans (hh.2.mono hb.size)⟩)
  have hbI : Below w.heap.size w (w.alloc (.cells #[.int .u32 op, .slice a n c] 28)) := (Below.refl _ _).alloc (Nat.le_refl _) _
  have hiI : IB (w.alloc (.cells #[.int .u32 op, .slice a n c] 28)) w.heap.size op a n c := heap_alloc_new _ _
  obtain ⟨k0, k1, _, _⟩ := ib_box hiI
  clear hr1 hr2 hods hop
  by_cases hbig : n ≤ 100 ∧ len1 ≤ 16384 ∧ len2 ≤ 16384
  · obtain ⟨hn, hl1, hl2⟩ := hbig
    have d1 : ¬ (n : Int) > 100 := by omega
    have d2 : ¬ (len1 : Int) > 16384 := by omega
    have d3 : ¬ (len2 : Int) > 16384 := by omega
    have HEn := hidden (enc_box op a n c l w _ hOp (by omega) hbI)
    have HBI := hidden hbI
    have HII := hidden hiI
    have HOps := hidden hOp
    have HR1 := hidden hR1
    have HR2 := hidden hR2
    cases hok : encOk op l
    · have HEf := hidden (HEn.out.mono (fun e w' hh => (⟨hh.2.1 hok, hbI.trans (hh.1.mono hbI.size)⟩ : _ ∧ Below w.heap.size w w')))
      clear HEn hbI hiI hOp hR1 hR2 hO1 hO2
      go_enter Try.func5, Try.ntmps5
      go_wp2_with (first | (go_at_call 16; refine HEf.out.mono ?_; rintro e w1 ⟨rfl, hb1⟩) | (go_at_call 14; refine (num11 _ _).mono ?_; rintro e w6 ⟨rfl, rfl⟩) | (go_at_call 9; refine (HLV.out _ hb1).mono ?_; rintro e wl ⟨rfl, hbl⟩))
      go_ret
      exact ⟨rfl, hbl⟩
    · obtain ⟨hEo, hEl⟩ := ok_enc hok
      have hz1 := hR1.1
      have hz2 := hR2.1
      have HEt := hidden (HEn.out.mono (fun e w' hh => (⟨hh.2.2 hok, hh.1⟩ : _ ∧ Below (w.alloc (.cells #[.int .u32 op, .slice a n c] 28)).heap.size (w.alloc (.cells #[.int .u32 op, .slice a n c] 28)) w')))
      have HDe : Hid (∀ g9 c9 wx, wx.ownsRow w.heap.size 5 1 (.slice (some ⟨g9, 0, none⟩) (len1 + (encL op l).length + len2) c9) (len1 + (encL op l).length + len2) (bytesV (z1 ++ encL op l ++ z2)) → Calls Try.prog 11 #[.slice (some ⟨g9, 0, none⟩) (len1 + (encL op l).length + len2) c9, .int .i64 len1] wx fun e w' => ∃ a5 c5, e = .returned (.tuple #[.agg #[.int .u32 op, .slice a5 n c5], .int .i64 (encL op l).length, .int .i64 0]) ∧ Ops w' a5 n c5 l ∧ Below wx.heap.size wx w') := fun g9 c9 wx hx => by
        have := decode_any (some ⟨g9, 0, none⟩) _ c9 (len1 : Int) (z1 ++ encL op l ++ z2) wx (own_reads hx) (okb_app (okb_app hO1 hEo) hO2) (by omega) (by omega)
        rw [← hz1, dec_enc op l z1 z2 hok] at this
        rw [← hz1]
        refine this.mono ?_
        rintro e w' ⟨a5, c5, h1, h2, h3⟩
        have hl := hOp.1
        rw [← hl]
        exact ⟨a5, c5, h1, h2, h3⟩
      clear HEn hbI hiI hR1 hR2 hO1 hO2 hEo hOp
      generalize hEL : encL op l = EL at *
      clear hEL
      go_enter Try.func5, Try.ntmps5
      go_wp2_with (first
        | (go_at_call 16; refine HEt.out.mono ?_; rintro e w1 ⟨⟨g2, c2, rfl, ho2⟩, hb1⟩; have HB1 := hidden (HBI.out.trans (hb1.mono HBI.out.size)); have HI1 := hidden (HII.out.later hb1); have HO2 := hidden ho2; clear ho2 hb1)
        | (go_at_call 14; refine (num11 _ _).mono ?_; rintro e w6 ⟨rfl, hw⟩; obtain rfl := hw.symm)
        | (at_builtin; refine wpList_copyOf (w0 := w1) rfl _ _ rfl len1 cap1 a1 z1 rfl rfl (HR1.out.later HB1.out) (by omega) ?_; intro g3 c3 w3 ho3 hb3; have HO3 := hidden ho3; have HB3 := hidden hb3; have HOb := hidden (own_later HO2.out hb3); clear ho3 hb3)
        | (at_builtin; refine wpList_appR rfl _ _ rfl w1.heap.size g3 len1 c3 EL.length c2 (some ⟨g2, 0, none⟩) z1 EL rfl rfl HO3.out (own_reads HOb.out) (by omega) HB3.out.size ?_; intro g4 c4 w4 ho4 hf4; have HO4 := hidden ho4; have HB4 := hidden (HB3.out.trans (hf4.out.below HB3.out.size (fun q e => (HO3.out.lt q e).1))); clear ho4 hf4)
        | (at_builtin; refine wpList_appR rfl _ _ rfl w1.heap.size g4 (len1 + EL.length) c4 len2 cap2 a2 (z1 ++ EL) z2 rfl rfl HO4.out (HR2.out.later (HB1.out.trans (HB4.out.mono HB1.out.size))) (by omega) HB4.out.size ?_; intro g5 c5 w5 ho5 hf5; have HO5 := hidden ho5; have HB5 := hidden (HB4.out.trans (hf5.out.below HB4.out.size (fun q e => (HO4.out.lt q e).1))); clear ho5 hf5)
        | (go_at_call 11; refine (HDe.out _ _ _ (own_base HO5.out HB1.out.size)).mono ?_; rintro e w7 ⟨a7, c7, rfl, hp7, hb7⟩; have hb17 : Below w1.heap.size w1 w7 := HB5.out.trans (hb7.mono HB5.out.size); have hb18 : Below w1.heap.size w1 (w7.alloc (.cells #[.int .u32 op, .slice a7 n c7] 28)) := hb17.alloc hb17.size _; have HB8 := hidden (HB1.out.trans (hb18.mono HB1.out.size)); obtain ⟨i0, i1, _, _⟩ := ib_box (HI1.out.later hb18); have HSm := hidden (same_od op a7 a n c7 c l _ (hp7.later ((Below.refl _ _).alloc (Nat.le_refl _) _)) (HOps.out.later HB8.out) (by omega)); clear hp7 hb7 hb17 hb18)
        | (go_at_call 13; refine HSm.out.mono ?_; rintro e w9 ⟨rfl, hb9⟩; have HB9 := hidden (HB8.out.trans (hb9.mono HB8.out.size)); clear hb9)
        | (go_at_call 9; refine (HLV.out _ HB9.out).mono ?_; rintro e wl ⟨rfl, hbl⟩))
      go_ret
      exact ⟨rfl, hbl⟩
  · have hb0 := Below.refl w.heap.size w
    clear hiI hOp hR1 hR2 hO1 hO2
    by_cases h1 : n ≤ 100
    · have d1 : ¬ (n : Int) > 100 := by omega
      by_cases h2 : len1 ≤ 16384
      · have d2 : ¬ (len1 : Int) > 16384 := by omega
        have d3 : (len2 : Int) > 16384 := by omega
        go_enter Try.func5, Try.ntmps5
        go_wp2_with (first | (go_at_call 9; refine (HLV.out _ hbI).mono ?_; rintro e wl ⟨rfl, hbl⟩))
        go_ret
        exact ⟨rfl, hbl⟩
      · have d2 : (len1 : Int) > 16384 := by omega
        go_enter Try.func5, Try.ntmps5
        go_wp2_with (first | (go_at_call 9; refine (HLV.out _ hbI).mono ?_; rintro e wl ⟨rfl, hbl⟩))
        go_ret
        exact ⟨rfl, hbl⟩
    · have d1 : (n : Int) > 100 := by omega
      go_enter Try.func5, Try.ntmps5
      go_wp2_with (first | (go_at_call 9; refine (HLV.out _ hbI).mono ?_; rintro e wl ⟨rfl, hbl⟩))
      go_ret
      exact ⟨rfl, hbl⟩
end Go.Proofs.Ytpkfmccnjandoaa
