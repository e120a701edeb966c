/- The walk of CodeDecodes: what any bytes say at any place is as the document says. -/
import Derived.Test.YtpkfmccnjandoaaB11k
namespace Go.Proofs.Ytpkfmccnjandoaa
open Go.RowKit
set_option maxHeartbeats 1000000
set_option maxRecDepth 100000
set_option linter.unusedVariables false
theorem lent_reads2 {w : World} {g len c2 : Nat} {zs : List Int} (hl : zs.length = len) (hc2 : len + 1 ≤ c2) (hc : ∀ i, i < len + 1 → w.cell? ⟨g, 0 + i, none⟩ = some (.int .u8 ((zs ++ [77]).getD i 0))) : Reads w (some ⟨g, 0, none⟩) len c2 zs := by
  refine ⟨hl, by omega, .inr ⟨_, rfl, fun i hi => ?_⟩⟩
  have := hc i (by omega)
  have e : (zs ++ [77]).getD i 0 = zs.getD i 0 := by simp [List.getD_eq_getElem?_getD, List.getElem?_append_left (show i < zs.length by omega)]
  rw [e] at this
  rw [plain_add]
  exact this
theorem decR_len (zs : List Int) (at_ : Int) : (decR zs at_).2.2.1.length ≤ 8 := by
  unfold decR
  split
  · exact Nat.zero_le _
  · split
    · exact Nat.zero_le _
    · split
      · exact Nat.zero_le _
      · rename_i op q _ _ r hop
        have hm : r ∈ tab := by unfold opR at hop; exact List.mem_of_find?_eq_some hop
        have h8 := tab_short hm
        split
        · show (argR zs r.2.2 q).2.1.length ≤ 8
          unfold argR
          split
          · exact Nat.zero_le _
          · cases hao : argsO zs (nibL zs q r.2.2.length) (q + (r.2.2.length + 1) / 2) with
            | none => exact Nat.zero_le _
            | some x =>
              have := (args_len zs _ _ _ hao).1
              have h2 : (nibL zs q r.2.2.length).length = r.2.2.length := by simp [nibL]
              show x.1.length ≤ 8
              omega
        · exact Nat.zero_le _
theorem codeDecodes_walk (a : Option Addr) (len cap : Nat) (zs0 : List Int) (at_ : Int) (w : World) (hrow : IsRow .u8 w a len cap zs0) (hat : (Lit.int .i64 at_).wf = true) :
    Calls Try.prog 3 #[.slice a len cap, .int .i64 at_] w fun e w' => e = .returned (.bool true) ∧ Below w.heap.size w w' := by
  obtain ⟨hr, ho, hlen⟩ := reads_of_row hrow
  have hlz := hr.1
  have ba : at_ ≤ 9223372036854775807 := by
    simp [Lit.wf, IntKind.min, IntKind.max, IntKind.signed, IntKind.bits] at hat
    omega
  have HLV : Hid (∀ w1, Below w.heap.size w w1 → Calls Try.prog 9 #[] w1 fun e w' => e = .returned (.bool true) ∧ Below w.heap.size w w') := fun w1 hb => (live_any w1).mono (fun e w' hh => ⟨hh.1, hb.trans (hh.2.mono hb.size)⟩)
  have hb0 := Below.refl w.heap.size w
  generalize zs0.take len = zs at *
  clear hrow hat
  by_cases hl : len ≤ 16384
  · have d : ¬ (len : Int) > 16384 := by omega
    have HLe := hidden (lent_any a len cap zs w hr (by omega))
    have HOk := hidden ho
    have HRd := hidden hr
    have HRl := hidden (decR_len zs at_)
    have HG2 : Hid (∀ wx, Below w.heap.size w wx → Calls Try.prog 12 #[.slice a len cap, .int .i64 at_] wx fun e w' => DRet wx w' (decR zs at_) e) := fun wx hx => ddec_any a len cap at_ zs wx (hr.later hx) ho (by omega) ba
    have HG1 : Hid (∀ g c2 wx, Reads wx (some ⟨g, 0, none⟩) len c2 zs → Calls Try.prog 11 #[.slice (some ⟨g, 0, none⟩) len c2, .int .i64 at_] wx fun e w' => DRet wx w' (decR zs at_) e) := fun g c2 wx hx => decode_any (some ⟨g, 0, none⟩) len c2 at_ zs wx hx ho (by omega) ba
    clear hr ho
    generalize hH : decR zs at_ = H at *
    clear hH
    obtain ⟨ER, OP, OL, NN⟩ := H
    have HRl : Hid (OL.length ≤ 1000) := Nat.le_trans HRl.out (by omega)
    go_enter Try.func3, Try.ntmps3
    go_wp2_with (first
      | (go_at_call 10; refine HLe.out.mono ?_; rintro e w1 ⟨g, c2, rfl, hc2, hg, hb1, hc⟩; have HC1 := hidden hc; have HB1 := hidden hb1; have HR1 : Hid (Reads w1 (some ⟨g, 0, none⟩) len c2 zs) := lent_reads2 hlz hc2 hc; clear hc hb1)
      | (go_at_call 11; refine (HG1.out _ _ _ HR1.out).mono ?_; rintro e w2 ⟨a3, c3, rfl, hp3, hb3⟩; have hb3' : Below w1.heap.size w1 (w2.alloc (.cells #[.int .u32 OP, .slice a3 OL.length c3] 28)) := hb3.alloc hb3.size _; have HI3 : Hid (IB (w2.alloc (.cells #[.int .u32 OP, .slice a3 OL.length c3] 28)) w2.heap.size OP a3 OL.length c3) := heap_alloc_new _ _; have HP3 := hidden (hp3.later ((Below.refl _ _).alloc (Nat.le_refl _) (.cells #[.int .u32 OP, .slice a3 OL.length c3] 28))); have HB3 := hidden hb3'; have HB2 := hidden (HB1.out.trans (hb3'.mono HB1.out.size)); clear hp3 hb3 hb3')
      | (go_at_call 12; refine (HG2.out _ HB2.out).mono ?_; rintro e w3 ⟨a4, c4, rfl, hp4, hb4⟩; have hb4' := hb4.alloc hb4.size (.cells #[.int .u32 OP, .slice a4 OL.length c4] 28); have hi4 : IB (w3.alloc (.cells #[.int .u32 OP, .slice a4 OL.length c4] 28)) w3.heap.size OP a4 OL.length c4 := heap_alloc_new _ _; obtain ⟨e0, e1, _, _⟩ := ib_box (HI3.out.later hb4'); obtain ⟨y0, y1, _, _⟩ := ib_box hi4; have HS := hidden (same_od OP a3 a4 OL.length c3 c4 OL (w3.alloc (.cells #[.int .u32 OP, .slice a4 OL.length c4] 28)) (HP3.out.later hb4') (hp4.later ((Below.refl _ _).alloc (Nat.le_refl _) _)) HRl.out); have HB5 := hidden (HB3.out.trans (hb4'.mono HB3.out.size)); clear hp4 hb4 hb4' hi4)
      | (go_at_call 13; refine HS.out.mono ?_; rintro e w5 ⟨rfl, hb5⟩; have hb6 : Below w1.heap.size w1 w5 := HB5.out.trans (hb5.mono HB5.out.size); have HB6 := hidden (HB1.out.trans (hb6.mono HB1.out.size)); have HK := hidden (kept_eq g len c2 a cap zs w5 HOk.out (by omega) hc2 (fun i hi => cellLater hb6 (HC1.out i hi)) (HRd.out.later HB6.out)); clear hb5 hb6)
      | (go_at_call 14; refine (num11 _ _).mono ?_; rintro e w6 ⟨rfl, rfl⟩)
      | (go_at_call 15; refine HK.out.mono ?_; rintro e w7 ⟨rfl, rfl⟩)
      | (go_at_call 9; refine (HLV.out _ HB6.out).mono ?_; rintro e wl ⟨rfl, hbl⟩))
    go_ret
    exact ⟨rfl, hbl⟩
  · have d : (len : Int) > 16384 := by omega
    clear hr ho
    go_enter Try.func3, Try.ntmps3
    go_wp2_with (first | (go_at_call 9; refine (HLV.out _ hb0).mono ?_; rintro e wl ⟨rfl, hbl⟩))
    go_ret
    exact ⟨rfl, hbl⟩
end Go.Proofs.Ytpkfmccnjandoaa
