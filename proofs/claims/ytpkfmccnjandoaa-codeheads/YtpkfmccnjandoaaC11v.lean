/- The walk of CodeHeads: how any bytes at any place begin a function is as the document says. -/
import Derived.Test.YtpkfmccnjandoaaC11u
namespace Go.Proofs.Ytpkfmccnjandoaa
open Go.RowKit
set_option maxHeartbeats 1000000
set_option maxRecDepth 100000
set_option linter.unusedVariables false
theorem spoil_any (a : Option Addr) (l c B : Nat) (xs : List Int) (w : World) (h : w.ownsRow B 5 1 (.slice a l c) l (bytesV xs)) (hl : l ≤ 9223372036854775807) :
    Calls Try.prog 22 #[.slice a l c] w fun e w' => e = .returned (.tuple #[]) ∧ Below B w w' := by
  by_cases h0 : l = 0
  · subst h0
    clear h
    go_enter Try.func22, Try.ntmps22
    go_wp2
    go_rounds 1
    refine bodyPost_end (v := .tuple #[]) (by simp [results, Try.results22, go_sem]) rfl ⟨rfl, Below.refl _ _⟩
  · obtain ⟨g, cap, e, hc, hg⟩ := owned_shape h (by omega)
    simp only [Value.slice.injEq] at e
    obtain ⟨rfl, -, rfl⟩ := e
    have HF : Hid (∀ i, w.frozen? ⟨g, i, none⟩ = false) := hidden fun i => h.frozenAt i
    have HC : Hid (∀ i, i < l → ∃ u, w.cell? ⟨g, i, none⟩ = some u) := hidden fun i hi => ⟨_, by have := owned_cells h i hi; rwa [Nat.zero_add] at this⟩
    have hl2 : (l : Int) ≤ 9223372036854775807 := by omega
    clear h
    go_enter Try.func22, Try.ntmps22
    go_wp2
    go_loopw [2] (fun i w' => ∃ k : Nat, k ≤ l ∧ i = .int .i64 k ∧ Hid (∀ i, w'.frozen? ⟨g, i, none⟩ = false) ∧ Hid (∀ i, i < l → ∃ u, w'.cell? ⟨g, i, none⟩ = some u) ∧ Below B w w') (fun i _ => l - (intOf i).toNat)
    case atStart => exact ⟨0, by omega, rfl, HF, HC, Below.refl _ _⟩
    case round =>
      obtain ⟨k, hk, rfl, hF, hC, hb⟩ := hrel
      by_cases hlt : k < l
      · have hlt2 : (k : Int) < (l : Int) := by omega
        have hk0 : (0 : Int) ≤ (k : Int) := by omega
        obtain ⟨u, hu⟩ := hC.out k hlt
        have hf := hF.out k
        have HB := hidden hb
        clear hb
        go_wp2
        go_roundw
        case rel =>
          refine ⟨k + 1, by omega, by go_num, hidden (fun i => ?_), hidden (fun i hi => ?_), HB.out.setCell (p := ⟨g, k, none⟩) hg _⟩
          · rw [World.frozen?_setCell]; exact hF.out i
          · by_cases e : i = k
            · subst e
              exact ⟨_, World.cell?_setCell_same _ _ _ hu⟩
            · obtain ⟨u', hu'⟩ := hC.out i hi
              exact ⟨u', by rw [World.cell?_setCell_other _ _ _ _ (fun q => e (congrArg Addr.off q).symm)]; exact hu'⟩
        case measure => simp [intOf]; omega
      · obtain rfl : k = l := by omega
        go_wp2
        refine bodyPost_end (v := .tuple #[]) (by simp [results, Try.results22, go_sem]) rfl ⟨rfl, hb⟩
theorem own_any {w : World} {B l c : Nat} {a : Option Addr} {zs : List Int} (h : w.ownsRow B 5 1 (.slice a l c) l (bytesV zs)) (hl : zs.length = l) : Reads w a l c zs := by
  by_cases h0 : l = 0
  · subst h0
    obtain rfl := List.eq_nil_of_length_eq_zero hl
    rcases Joins.ownsRow_forms h with ⟨e, _⟩ | ⟨g, cap, e⟩
    · cases e; exact ⟨rfl, Nat.le_refl _, .inl ⟨rfl, rfl, rfl⟩⟩
    · cases e; exact ⟨rfl, by omega, .inr ⟨_, rfl, fun i hi => by omega⟩⟩
  · obtain ⟨g, cap, e, _, _⟩ := owned_shape h (by omega)
    cases e
    exact own_reads h
theorem hdR_ok (zs : List Int) (hb : OkB zs) (at_ : Int) : OkB (hdR zs at_).2.1 := by
  unfold hdR
  split
  · intro c hc; cases hc
  · split
    · intro c hc; cases hc
    · split
      · intro c hc; cases hc
      · split
        · intro c hc; cases hc
        · intro c hc; exact hb c (List.mem_of_mem_drop (List.mem_of_mem_take hc))
theorem hdR_len (zs : List Int) (at_ : Int) : (hdR zs at_).2.1.length ≤ zs.length := by
  unfold hdR
  split
  · simp
  · split
    · simp
    · split
      · simp
      · split
        · simp
        · simp only [List.length_take, List.length_drop]; omega
theorem lent_reads {w : World} {g len c2 : Nat} {zs : List Int} (hl : zs.length = len) (hc2 : len + 1 ≤ c2) (hc : ∀ i, i < len + 1 → w.cell? ⟨g, 0 + i, none⟩ = some (.int .u8 ((zs ++ [77]).getD i 0))) : Reads w (some ⟨g, 0, none⟩) len c2 zs := by
  refine ⟨hl, by omega, .inr ⟨_, rfl, fun i hi => ?_⟩⟩
  have := hc i (by omega)
  have e : (zs ++ [77]).getD i 0 = zs.getD i 0 := by simp [List.getD_eq_getElem?_getD, List.getElem?_append_left (show i < zs.length by omega)]
  rw [e] at this
  rw [plain_add]
  exact this
theorem codeHeads_walk (a : Option Addr) (len cap : Nat) (zs0 : List Int) (at_ : Int) (w : World) (hrow : IsRow .u8 w a len cap zs0) (hat : (Lit.int .i64 at_).wf = true) :
    Calls Try.prog 8 #[.slice a len cap, .int .i64 at_] w fun e w' => e = .returned (.bool true) ∧ Below w.heap.size w w' := by
  obtain ⟨hr, ho, hlen⟩ := reads_of_row hrow
  have hlz := hr.1
  have ba : at_ ≤ 9223372036854775807 := by
    simp [Lit.wf, IntKind.min, IntKind.max, IntKind.signed, IntKind.bits] at hat
    omega
  have HLV : Hid (∀ w1, Below w.heap.size w w1 → Calls Try.prog 9 #[] w1 fun e w' => e = .returned (.bool true) ∧ Below w.heap.size w w') := fun w1 hb => (live_any w1).mono (fun e w' hh => ⟨hh.1, hb.trans (hh.2.mono hb.size)⟩)
  have hb0 := Below.refl w.heap.size w
  generalize zs0.take len = zs at *
  clear hrow hat
  by_cases hl : len ≤ 16384
  · have d : ¬ (len : Int) > 16384 := by omega
    have HLe := hidden (lent_any a len cap zs w hr (by omega))
    have HOk := hidden ho
    have HRd := hidden hr
    have HRl := hidden (hdR_len zs at_)
    have HRo := hidden (hdR_ok zs ho at_)
    have HG2 : Hid (∀ wx, Below w.heap.size w wx → Calls Try.prog 21 #[.slice a len cap, .int .i64 at_] wx fun e w' => HRet wx w' (hdR zs at_) e) := fun wx hx => dhead_any a len cap at_ zs wx (hr.later hx) ho (by omega) ba
    have HG1 : Hid (∀ g c2 wx, Reads wx (some ⟨g, 0, none⟩) len c2 zs → Calls Try.prog 20 #[.slice (some ⟨g, 0, none⟩) len c2, .int .i64 at_] wx fun e w' => HRet wx w' (hdR zs at_) e) := fun g c2 wx hx => head_any (some ⟨g, 0, none⟩) len c2 at_ zs wx hx ho (by omega) ba
    clear hr ho
    generalize hH : hdR zs at_ = H at *
    clear hH
    obtain ⟨KD, FM, NN, ER⟩ := H
    go_enter Try.func8, Try.ntmps8
    go_wp2_with (first
      | (go_at_call 10; refine HLe.out.mono ?_; rintro e w1 ⟨g, c2, rfl, hc2, hg, hb1, hc⟩; have HC1 := hidden hc; have HB1 := hidden hb1; have HR1 : Hid (Reads w1 (some ⟨g, 0, none⟩) len c2 zs) := lent_reads hlz hc2 hc; clear hc hb1)
      | (go_at_call 20; refine (HG1.out _ _ _ HR1.out).mono ?_; rintro e w2 ⟨a3, c3, rfl, ho3, hb3⟩; have HO3 := hidden ho3; have HB3 := hidden hb3; have HB2 := hidden (HB1.out.trans (hb3.mono HB1.out.size)); clear ho3 hb3)
      | (go_at_call 21; refine (HG2.out _ HB2.out).mono ?_; rintro e w3 ⟨a4, c4, rfl, ho4, hb4⟩; have HO4 := hidden ho4; have HB4 := hidden hb4; have HO5 := hidden (own_later HO3.out hb4); have HB5 := hidden (HB2.out.trans (hb4.mono HB2.out.size)); have HS := hidden (same_eq _ _ _ _ _ _ _ _ HRo.out (own_any HO5.out rfl) (own_any HO4.out rfl)); clear ho4 hb4)
      | (go_at_call 18; refine HS.out.mono ?_; rintro e w4 ⟨rfl, rfl⟩)
      | (go_at_call 14; refine (num11 _ _).mono ?_; rintro e w5 ⟨rfl, rfl⟩)
      | (go_at_call 22; refine (spoil_any _ _ _ _ _ _ HO5.out (Nat.le_trans HRl.out (by omega))).mono ?_; rintro e w6 ⟨rfl, hb6⟩; have HB6 := hidden (HB5.out.trans (hb6.mono HB1.out.size)); have HK := hidden (kept_eq g len c2 a cap zs w6 HOk.out (by omega) hc2 (fun i hi => cellLater ((HB3.out.trans (HB4.out.mono HB3.out.size)).trans hb6) (HC1.out i hi)) (HRd.out.later HB6.out)); clear hb6)
      | (go_at_call 15; refine HK.out.mono ?_; rintro e w7 ⟨rfl, rfl⟩)
      | (go_at_call 9; refine (HLV.out _ HB6.out).mono ?_; rintro e wl ⟨rfl, hbl⟩))
    go_ret
    exact ⟨rfl, hbl⟩
  · have d : (len : Int) > 16384 := by omega
    clear hr ho
    go_enter Try.func8, Try.ntmps8
    go_wp2_with (first | (go_at_call 9; refine (HLV.out _ hb0).mono ?_; rintro e wl ⟨rfl, hbl⟩))
    go_ret
    exact ⟨rfl, hbl⟩
end Go.Proofs.Ytpkfmccnjandoaa
