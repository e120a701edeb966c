/- Layer 18: AccelTable. -/
import Derived.Test.YtpgppdkbkkljnaaN19m
import Derived.BigQuiet
import Derived.Deep.QuietTactic
import Derived.Deep.Cut
import Derived.Deep.CutRange
namespace Go.Proofs.Ytpgppdkbkkljnaa
open Go.RowKit
set_option maxHeartbeats 20000000
set_option maxRecDepth 100000
set_option linter.unusedVariables false

/-- an act's own cells -/
def CBx (w : World) (b : Nat) (c : Ac18) : Prop := w.heap[b]? = some (.cells #[.int .i64 c.k, .int .u32 (c.a : Int), .int .u32 (c.x : Int)] 28 (0, 0))
theorem CBx.lt {w : World} {b : Nat} {c : Ac18} (h : CBx w b c) : b < w.heap.size := (Array.getElem?_eq_some_iff.1 h).1
theorem CBx.later {w w' : World} {b : Nat} {c : Ac18} (h : CBx w b c) (hb : Below w.heap.size w w') : CBx w' b c := (hb.block b h.lt).trans h
theorem CBx.cells {w : World} {b : Nat} {c : Ac18} (h : CBx w b c) : w.cell? ⟨b, 0, none⟩ = some (.int .i64 c.k) ∧ w.cell? ⟨b, 1, none⟩ = some (.int .u32 (c.a : Int)) ∧ w.cell? ⟨b, 2, none⟩ = some (.int .u32 (c.x : Int)) := by
  unfold CBx at h
  refine ⟨?_, ?_, ?_⟩ <;> simp [World.cell?, h]
theorem TAt.later {B T mb n : Nat} {w w' : World} {ps : List Nat} {F : Nat → Nat} (h : TAt B w T mb n ps F) (hb : Below w.heap.size w w') : TAt B w' T mb n ps F := by
  obtain ⟨D, hO, hI, hA⟩ := h.mp
  refine ⟨h.base, h.basem, h.ne, h.ln, (hb.block T (Array.getElem?_eq_some_iff.1 h.box).1).trans h.box, D, ?_, hI, hA⟩
  have hl := hO.lt
  have hk := hb.block mb hl
  unfold World.ownsMap at *
  rw [hk]
  exact hO
theorem TAt.mono {B T mb n m : Nat} {w : World} {ps : List Nat} {F : Nat → Nat} (h : TAt B w T mb n ps F) (hn : n ≤ m) : TAt B w T mb m ps F := by
  obtain ⟨D, hO, hI, hA⟩ := h.mp
  exact ⟨h.base, h.basem, h.ne, h.ln, h.box, D, hO.mono hn, hI, hA⟩
theorem take_snoc18 (ls : List Ac18) (k : Nat) (h : k < ls.length) : ls.take (k + 1) = ls.take k ++ [ls[k]] := by
  rw [List.take_add_one, List.getElem?_eq_getElem h]; rfl
theorem frozen_set (w : World) (g q i : Nat) (v : Value) : (w.setCell ⟨g, q, none⟩ v).frozen? ⟨g, i, none⟩ = w.frozen? ⟨g, i, none⟩ := by
  unfold World.frozen? World.setCell
  simp only [Array.getElem?_modify, if_true]
  cases w.heap[g]? with
  | none => rfl
  | some o => cases o <;> rfl
theorem stP_no {ps : List Nat} {c : Ac18} (h : ¬ c.k = 0) : stP ps c = ps := if_neg h
theorem stP_yes {ps : List Nat} {c : Ac18} (h : c.k = 0) : stP ps c = if c.a < 9 then ps.set c.a c.x else ps := if_pos h
theorem stF_no {F : Nat → Nat} {c : Ac18} (h : ¬ c.k = 1) : stF F c = F := if_neg h
theorem stF_yes {F : Nat → Nat} {c : Ac18} (h : c.k = 1) : stF F c = if 13 < c.x then F else fun y => if y = c.a then c.x else F y := if_pos h
theorem TAt.low {B T mb n G : Nat} {w w' : World} {ps : List Nat} {F : Nat → Nat} (h : TAt B w T mb n ps F) (hb : Below G w w') (hT : T < G) (hM : mb < G) : TAt B w' T mb n ps F := by
  obtain ⟨D, hO, hI, hA⟩ := h.mp
  refine ⟨h.base, h.basem, h.ne, h.ln, (hb.block T hT).trans h.box, D, ?_, hI, hA⟩
  have hk := hb.block mb hM
  unfold World.ownsMap at *
  rw [hk]
  exact hO
theorem table_0 (a : Option Addr) (len cap : Nat) (w : World) (h : 300 < len) : Calls Try.prog 3 #[.slice a len cap] w fun e w' => e = .returned (.bool true) ∧ Below w.heap.size w w' := by
  have l1 : (len : Int) > 300 := by omega
  go_enter Try.func3, Try.ntmps3
  go_wp2_with (go_at_call 9; refine (live18 _).mono ?_; rintro e w7 ⟨rfl, hb7⟩; have HB7 := hidden hb7; clear hb7)
  go_ret
  exact ⟨rfl, HB7.out⟩
theorem table_1 (a : Option Addr) (len cap : Nat) (ls : List Ac18) (w : World) (h : IsA18 w a len cap ls) (hl : len ≤ 300) : Calls Try.prog 3 #[.slice a len cap] w fun e w' => e = .returned (.bool true) ∧ Below w.heap.size w w' := by
  have l1 : ¬ (len : Int) > 300 := by omega
  have HL := hidden h
  have hln := h.ln
  clear h
  go_enter Try.func3, Try.ntmps3
  go_upto_region 6 with (go_at_call 10; refine (new18 _).mono ?_; rintro e w1 ⟨T, mb, rfl, hT, hb1⟩; have HT := hidden hT; have HB := hidden hb1; clear hT hb1)
  go_upto_region 7 with fail
  go_loopw [4] (fun i w' => ∃ k : Nat, k ≤ len ∧ i = .int .i64 k ∧ Hid (TAt w.heap.size w' T mb k (psOf (ls.take k)) (fnOf (ls.take k))) ∧ Hid (Below w.heap.size w w')) (fun i _ => len - (intOf i).toNat)
  case atStart => exact ⟨0, by omega, rfl, HT, HB⟩
  case round =>
    clear HT HB
    obtain ⟨k, hk, rfl, HT, HB⟩ := hrel
    generalize hwq : wr = wq at *
    clear hwq
    by_cases h1 : k < len
    · have l2 : (k : Int) < (len : Int) := by omega
      have l3 : (0 : Int) ≤ (k : Int) := by omega
      have e3 : ((k : Int)).toNat = k := by omega
      have hkl : k < ls.length := by omega
      obtain ⟨lb, lo, ha, c0, c1, c2⟩ := (HL.out.later HB.out).cells k hkl
      subst ha
      have hlbw : lb < w.heap.size := by
        obtain ⟨b', o', e', c', _⟩ := HL.out.cells k hkl
        simp only [Option.some.injEq, Addr.mk.injEq] at e'
        obtain ⟨rfl, rfl, _⟩ := e'
        exact World.block_lt_of_cell? _ _ c'
      have hok := HL.out.ok ls[k] (List.getElem_mem hkl)
      have HP1 := hidden (show psOf (ls.take (k + 1)) = stP (psOf (ls.take k)) ls[k] by rw [take_snoc18 ls k hkl, psOf_snoc])
      have HF1 := hidden (show fnOf (ls.take (k + 1)) = stF (fnOf (ls.take k)) ls[k] by rw [take_snoc18 ls k hkl, fnOf_snoc])
      generalize hC : ls[k] = C at *
      have HC := hidden hC
      clear hC
      go_upto_region 10 with fail
      have hbA : Below wq.heap.size wq (wq.alloc (.cells #[.int .i64 C.k, .int .u32 (C.a : Int), .int .u32 (C.x : Int)] 28)) := (Below.refl _ _).alloc (Nat.le_refl _) _
      have HCB : Hid (CBx (wq.alloc (.cells #[.int .i64 C.k, .int .u32 (C.a : Int), .int .u32 (C.x : Int)] 28)) wq.heap.size C) := hidden (heap_alloc_new _ _)
      have HT2 := hidden (HT.out.later hbA)
      have HB2 := hidden (HB.out.trans (hbA.mono HB.out.size))
      have hTq : T < wq.heap.size := (Array.getElem?_eq_some_iff.1 HT.out.box).1
      have hMq : mb < wq.heap.size := by
        obtain ⟨D, hO, _, _⟩ := HT.out.mp
        exact hO.lt
      have hGq : w.heap.size ≤ wq.heap.size := HB.out.size
      clear hbA HT HB c0 c1 c2
      generalize wq.alloc (.cells #[.int .i64 C.k, .int .u32 (C.a : Int), .int .u32 (C.x : Int)] 28) = w2 at *
      generalize wq.heap.size = bA at *
      obtain ⟨x0, x1, x2⟩ := HCB.out.cells
      by_cases k0 : C.k = 0
      · have q0 : (C.k == 0) = true := by rw [k0]; rfl
        go_upto_region 15 with (go_at_call 11; refine (param18 _ T mb k _ _ C.a C.x _ HT2.out hok.1 hok.2 HB2.out.size).mono ?_; rintro e w3 ⟨rfl, hT, hb, hfr⟩; have HT3 : Hid (TAt w.heap.size w3 T mb (k + 1) (psOf (ls.take (k + 1))) (fnOf (ls.take (k + 1)))) := hidden (by { rw [HP1.out, HF1.out]; rw [stP_yes k0, stF_no (by rw [k0]; decide)]; exact hT.mono (by omega) }); have HC3 : Hid (CBx w3 bA C) := hidden ((hfr bA (by omega)).trans HCB.out); have HB3 := hidden (HB2.out.trans hb); clear hT hb hfr)
        clear q0 k0 x0 x1 x2 HT2 HB2 HCB HP1 HF1
        have hmk9 := mk9
        have hb4 : Below w3.heap.size w3 (w3.alloc (.cells (wdV z9).toArray 26)) := (Below.refl _ _).alloc (Nat.le_refl _) _
        have HW4 : Hid (PRow (w3.alloc (.cells (wdV z9).toArray 26)) w3.heap.size (psOf (ls.take 0))) := hidden (PRow.new w3 _)
        have HT4 := hidden (HT3.out.later hb4)
        have HC4 := hidden (HC3.out.later hb4)
        have HB4 := hidden (HB3.out.trans (hb4.mono HB3.out.size))
        have hGs : w3.heap.size ≤ (w3.alloc (.cells (wdV z9).toArray 26)).heap.size := hb4.size
        have hTG : T < w3.heap.size := (Array.getElem?_eq_some_iff.1 HT3.out.box).1
        have hMG : mb < w3.heap.size := by
          obtain ⟨D, hO, _, _⟩ := HT3.out.mp
          exact hO.lt
        have hAG : bA < w3.heap.size := HC3.out.lt
        have hwG : w.heap.size ≤ w3.heap.size := HB3.out.size
        clear hb4 HT3 HC3 HB3
        generalize hZ : (wdV z9).toArray = Z9 at *
        clear hZ
        go_upto_region 18 with fail
        generalize w3.alloc (.cells Z9 26) = w4 at *
        generalize w3.heap.size = G at *
        clear hmk9
        go_loopw [7, 8] (fun s7 s8 w' => ∃ j : Nat, j ≤ k + 1 ∧ s8 = .int .i64 j ∧ s7 = .int .u32 (atOf C.a (ls.take j) : Nat) ∧ Hid (PRow w' G (psOf (ls.take j))) ∧ Hid (Below G w4 w')) (fun _ i _ => k + 1 - (intOf i).toNat)
        case atStart => exact ⟨0, by omega, rfl, rfl, HW4, hidden (Below.refl _ _)⟩
        case round =>
          clear HW4
          obtain ⟨j, hj, rfl, rfl, HW, HBG⟩ := hrel
          generalize hwj : wr = wj at *
          clear hwj
          have HCj : Hid (CBx wj bA C) := hidden ((HBG.out.block bA hAG).trans HC4.out)
          by_cases h5 : j ≤ k
          · have l5 : (j : Int) ≤ (k : Int) := by omega
            have l6 : (0 : Int) ≤ (j : Int) := by omega
            have l7 : (j : Int) < (len : Int) := by omega
            have e6 : ((j : Int)).toNat = j := by omega
            have hjl : j < ls.length := by omega
            obtain ⟨lb2, lo2, ha2, d0, d1, d2⟩ := (HL.out.later (HB4.out.trans (HBG.out.mono hwG))).cells j hjl
            simp only [Option.some.injEq, Addr.mk.injEq] at ha2
            obtain ⟨hlb, hlo, _⟩ := ha2
            subst hlb hlo
            obtain ⟨y0, y1, y2⟩ := HCj.out.cells
            have hdk := HL.out.ok ls[j] (List.getElem_mem hjl)
            have HPj := hidden (show psOf (ls.take (j + 1)) = stP (psOf (ls.take j)) ls[j] by rw [take_snoc18 ls j hjl, psOf_snoc])
            have HAj := hidden (show atOf C.a (ls.take (j + 1)) = if ls[j].k = 1 ∧ ls[j].a = C.a ∧ ls[j].x ≤ 13 then ls[j].x else atOf C.a (ls.take j) by rw [take_snoc18 ls j hjl, atOf_snoc])
            have hpl := psOf_len (ls.take j)
            generalize ls[j] = D at *
            generalize atOf C.a (ls.take j) = A0 at *
            by_cases k0 : D.k = 0
            · have q0 : (D.k == 0) = true := by rw [k0]; rfl
              have q1 : (D.k == 1) = false := by rw [k0]; rfl
              by_cases h9 : D.a < 9
              · have l9 : (D.a : Int) < 9 := by omega
                have l10 : (0 : Int) ≤ (D.a : Int) := by omega
                have e9 : ((D.a : Int)).toNat = D.a := by omega
                have hwa : IntKind.i64.wrap (D.a : Int) = (D.a : Int) := by rw [IntKind.wrap_i64]; omega
                have hco := HW.out.cell D.a (by omega)
                have hfo := HW.out.fz D.a
                have hbs : Below G wj (wj.setCell ⟨G, D.a, none⟩ (.int .u32 (D.x : Int))).drew := ((Below.refl _ _).setCell (p := ⟨G, D.a, none⟩) (Nat.le_refl _) _).drew
                have d0' := (World.cell?_of_block (hbs.block lb (by omega))).trans d0
                have d1' := (World.cell?_of_block (hbs.block lb (by omega))).trans d1
                have d2' := (World.cell?_of_block (hbs.block lb (by omega))).trans d2
                have HWS : Hid (PRow (wj.setCell ⟨G, D.a, none⟩ (.int .u32 (D.x : Int))).drew G (psOf (ls.take (j + 1)))) := hidden (by rw [HPj.out, stP_yes k0, if_pos h9]; exact (HW.out.set D.a D.x).later (Below.refl _ _).drew)
                have HBS := hidden (HBG.out.trans hbs)
                generalize (psOf (ls.take j)).getD D.a 0 = V0 at *
                go_upto_region 21 with fail
                go_region_held3 (fun w' => w'.cell? ⟨lb, lo + j * 3 + 1, none⟩ = some (.int .u32 (D.a : Int)) ∧ w'.cell? ⟨lb, lo + j * 3 + 2, none⟩ = some (.int .u32 (D.x : Int))) (first | (refine ⟨?_, ?_⟩ <;> with_reducible assumption) | go_keep) (fail)
                clear d0 d1 d2 y0 y1 y2 hco hfo hbs
                generalize (wj.setCell ⟨G, D.a, none⟩ (.int .u32 (D.x : Int))).drew = wk at *
                go_upto_region 22 with fail
                go_quiet (fail)
                have HA2 : Hid (atOf C.a (ls.take (j + 1)) = A0) := hidden (by rw [HAj.out, if_neg (fun h => by rw [k0] at h; exact absurd h.1 (by decide))])
                have HW2 := hidden (HWS.out.later (bel_dn (Below.refl wk.heap.size wk) nq))
                have HB2 := hidden (bel_dn HBS.out nq)
                go_wp2
                go_roundw
                case rel => exact ⟨j + 1, by omega, by go_num, by rw [HA2.out], HW2, HB2⟩
                case measure => simp [intOf]; omega
              · have l9 : ¬ (D.a : Int) < 9 := by omega
                have HP2 : Hid (psOf (ls.take (j + 1)) = psOf (ls.take j)) := hidden (by rw [HPj.out, stP_yes k0, if_neg h9])
                have HA2 : Hid (atOf C.a (ls.take (j + 1)) = A0) := hidden (by rw [HAj.out, if_neg (fun h => by rw [k0] at h; exact absurd h.1 (by decide))])
                go_upto_region 22 with fail
                go_quiet (fail)
                have HW2 := hidden (HW.out.later (bel_dn (Below.refl wj.heap.size wj) nq))
                have HB2 := hidden (bel_dn HBG.out nq)
                go_wp2
                go_roundw
                case rel => exact ⟨j + 1, by omega, by go_num, by rw [HA2.out], by rw [HP2.out]; exact HW2, HB2⟩
                case measure => simp [intOf]; omega
            have q0 : (D.k == 0) = false := by rw [beq_eq_false_iff_ne]; exact k0
            have HP2 : Hid (psOf (ls.take (j + 1)) = psOf (ls.take j)) := hidden (by rw [HPj.out, stP_no k0])
            by_cases k1 : D.k = 1
            · have q1 : (D.k == 1) = true := by rw [k1]; rfl
              by_cases ka : D.a = C.a
              · have qa : ((D.a : Int) == (C.a : Int)) = true := by rw [ka]; simp
                by_cases kx : D.x ≤ 13
                · have lx : (D.x : Int) ≤ 13 := by omega
                  have HA2 : Hid (atOf C.a (ls.take (j + 1)) = D.x) := hidden (by rw [HAj.out, if_pos ⟨k1, ka, kx⟩])
                  go_upto_region 22 with fail
                  go_quiet (fail)
                  have HW2 := hidden (HW.out.later (bel_dn (Below.refl wj.heap.size wj) nq))
                  have HB2 := hidden (bel_dn HBG.out nq)
                  have d2q := cellLater (bel_dn (Below.refl wj.heap.size wj) nq) d2
                  go_wp2
                  go_roundw
                  case rel => exact ⟨j + 1, by omega, by go_num, by rw [HA2.out], by rw [HP2.out]; exact HW2, HB2⟩
                  case measure => simp [intOf]; omega
                · have lx : ¬ (D.x : Int) ≤ 13 := by omega
                  have HA2 : Hid (atOf C.a (ls.take (j + 1)) = A0) := hidden (by rw [HAj.out, if_neg (fun h => kx h.2.2)])
                  go_upto_region 22 with fail
                  go_quiet (fail)
                  have HW2 := hidden (HW.out.later (bel_dn (Below.refl wj.heap.size wj) nq))
                  have HB2 := hidden (bel_dn HBG.out nq)
                  go_wp2
                  go_roundw
                  case rel => exact ⟨j + 1, by omega, by go_num, by rw [HA2.out], by rw [HP2.out]; exact HW2, HB2⟩
                  case measure => simp [intOf]; omega
              · have qa : ((D.a : Int) == (C.a : Int)) = false := by rw [beq_eq_false_iff_ne]; omega
                have HA2 : Hid (atOf C.a (ls.take (j + 1)) = A0) := hidden (by rw [HAj.out, if_neg (fun h => ka h.2.1)])
                go_upto_region 22 with fail
                go_quiet (fail)
                have HW2 := hidden (HW.out.later (bel_dn (Below.refl wj.heap.size wj) nq))
                have HB2 := hidden (bel_dn HBG.out nq)
                go_wp2
                go_roundw
                case rel => exact ⟨j + 1, by omega, by go_num, by rw [HA2.out], by rw [HP2.out]; exact HW2, HB2⟩
                case measure => simp [intOf]; omega
            · have q1 : (D.k == 1) = false := by rw [beq_eq_false_iff_ne]; exact k1
              have HA2 : Hid (atOf C.a (ls.take (j + 1)) = A0) := hidden (by rw [HAj.out, if_neg (fun h => k1 h.1)])
              go_upto_region 22 with fail
              go_quiet (fail)
              have HW2 := hidden (HW.out.later (bel_dn (Below.refl wj.heap.size wj) nq))
              have HB2 := hidden (bel_dn HBG.out nq)
              go_wp2
              go_roundw
              case rel => exact ⟨j + 1, by omega, by go_num, by rw [HA2.out], by rw [HP2.out]; exact HW2, HB2⟩
              case measure => simp [intOf]; omega
          · have l5 : ¬ (j : Int) ≤ (k : Int) := by omega
            have hjk : j = k + 1 := by omega
            subst hjk
            have HTj := hidden (HT4.out.low HBG.out hTG hMG)
            have HBj := hidden (HB4.out.trans (HBG.out.mono hwG))
            have hps := psOf_len (ls.take (k + 1))
            have hat := atOf_eq C.a (ls.take (k + 1))
            have hGj := HW.out.lt
            clear HT4 HC4 HB4 HBG hGs
            rw [hat]
            generalize hPS : psOf (ls.take (k + 1)) = PS at *
            generalize hFN : fnOf (ls.take (k + 1)) = FN at *
            have HPS := hidden hPS
            have HFN := hidden hFN
            clear hPS hFN hat
            go_upto_region 25 with (go_at_call 13; refine (tparams18 _ T mb (k + 1) _ _ _ HTj.out).mono ?_; rintro e w5 ⟨g9, rfl, hg9, hc9, hb5⟩; have HW5 := hidden (HW.out.later hb5); have HT5 := hidden (HTj.out.later hb5); have HC5 := hidden (HCj.out.later hb5); have HB5 := hidden (HBj.out.trans (hb5.mono HBj.out.size)); have HC9 := hidden hc9; have hGg : G < g9 := (by omega); clear hc9 hb5 HW HTj HCj HBj)
            have hT5 : T < g9 := by omega
            have hM5 : mb < g9 := by omega
            have hA5 : bA < g9 := by omega
            go_upto_region 26 with fail
            go_loopw [10] (fun i w' => ∃ q : Nat, q ≤ 9 ∧ i = .int .i64 q ∧ Hid (∀ i, q ≤ i → i < 9 → w'.cell? ⟨g9, i, none⟩ = some (.int .u32 (PS.getD i 0 : Nat))) ∧ Hid (∀ i, i < 9 → w'.frozen? ⟨g9, i, none⟩ = false) ∧ Hid (Below g9 w5 w')) (fun i _ => 9 - (intOf i).toNat)
            case atStart => exact ⟨0, by omega, rfl, hidden (fun i _ hi => (HC9.out i hi).1), hidden (fun i hi => (HC9.out i hi).2), hidden (Below.refl _ _)⟩
            case round =>
              clear HC9
              obtain ⟨q, hq, rfl, HQ, HZ, HBQ⟩ := hrel
              generalize hwx : wr = wx at *
              clear hwx
              by_cases h9 : q < 9
              · have l9 : (q : Int) < 9 := by omega
                have l10 : (0 : Int) ≤ (q : Int) := by omega
                have e9 : ((q : Int)).toNat = q := by omega
                have hp := HQ.out q (Nat.le_refl _) h9
                have HWx : Hid (PRow wx G PS) := hidden ((HBQ.out.block G hGg).trans HW5.out)
                have hw := HWx.out.cell q (by omega)
                have hX : ∀ i, q + 1 ≤ i → i < 9 → wx.cell? ⟨g9, i, none⟩ = some (.int .u32 (PS.getD i 0 : Nat)) := fun i h1 h2 => HQ.out i (by omega) h2
                have HXX := hidden hX
                clear hX
                generalize PS.getD q 0 = X at *
                have qq : ((X : Int) == (X : Int)) = true := by simp
                have qn : ((X : Int) != (X : Int)) = false := by simp
                go_upto_region 28 with fail
                go_quiet (fail)
                have hbd := bel_dn (Below.refl wx.heap.size wx) nq
                have hpd := cellLater hbd hp
                have hfd : (wx.drewN nq).frozen? ⟨g9, q, none⟩ = false := HZ.out q h9
                have HQ2 : Hid (∀ i, q + 1 ≤ i → i < 9 → ((wx.drewN nq).setCell ⟨g9, q, none⟩ (.int .u32 99)).cell? ⟨g9, i, none⟩ = some (.int .u32 (PS.getD i 0 : Nat))) := hidden (fun i h1 h2 => (World.cell?_setCell_other _ _ _ _ (by intro h; simp only [Addr.mk.injEq] at h; omega)).trans (cellLater hbd (HXX.out i h1 h2)))
                have HZ2 : Hid (∀ i, i < 9 → ((wx.drewN nq).setCell ⟨g9, q, none⟩ (.int .u32 99)).frozen? ⟨g9, i, none⟩ = false) := hidden (fun i hi => (frozen_set _ g9 q i _).trans (HZ.out i hi))
                have HB2 : Hid (Below g9 w5 ((wx.drewN nq).setCell ⟨g9, q, none⟩ (.int .u32 99))) := hidden ((bel_dn HBQ.out nq).setCell (p := ⟨g9, q, none⟩) (Nat.le_refl _) _)
                clear hp hw hbd
                generalize wx.drewN nq = wd at *
                go_wp2
                go_roundw
                case rel => exact ⟨q + 1, by omega, by go_num, HQ2, HZ2, HB2⟩
                case measure => simp [intOf]; omega
              · have l9 : ¬ (q : Int) < 9 := by omega
                have HTx := hidden (HT5.out.low HBQ.out hT5 hM5)
                have HBx := hidden (HB5.out.trans (HBQ.out.mono (by omega)))
                have HCx : Hid (CBx wx bA C) := hidden ((HBQ.out.block bA hA5).trans HC5.out)
                obtain ⟨y0, y1, y2⟩ := HCx.out.cells
                have HAT := hidden (at18 _ T mb (k + 1) PS FN C.a wx HTx.out hok.1)
                have qq : ((FN C.a : Int) == (FN C.a : Int)) = true := by simp
                have qn : ((FN C.a : Int) != (FN C.a : Int)) = false := by simp
                have HT9 : Hid (TAt w.heap.size wx T mb (k + 1) (psOf (ls.take (k + 1))) (fnOf (ls.take (k + 1)))) := hidden (by rw [HPS.out, HFN.out]; exact HTx.out)
                go_wp2_with (go_at_call 14; refine HAT.out.mono ?_; rintro e w6 ⟨rfl, e9⟩; rw [e9]; clear e9)
                go_roundw
                case rel => exact ⟨k + 1, by omega, by go_num, HT9, HBx⟩
                case measure => simp [intOf]; omega
      by_cases k1 : C.k = 1
      · have q0 : (C.k == 0) = false := by rw [k1]; rfl
        have q1 : (C.k == 1) = true := by rw [k1]; rfl
        go_upto_region 15 with (go_at_call 12; refine (func18 _ T mb k _ _ C.a C.x _ HT2.out hok.1 hok.2 (by omega) HB2.out.size).mono ?_; rintro e w3 ⟨rfl, hT, hg⟩; have HT3 : Hid (TAt w.heap.size w3 T mb (k + 1) (psOf (ls.take (k + 1))) (fnOf (ls.take (k + 1)))) := hidden (by { rw [HP1.out, HF1.out]; rw [stP_no k0, stF_yes k1]; exact hT }); have HC3 : Hid (CBx w3 bA C) := hidden ((hg.block bA HCB.out.lt (fun e => by have := Option.some.inj e; omega)).trans HCB.out); have HB3 := hidden (HB2.out.grown hg HB2.out.size (fun j hj => by cases hj; exact HT2.out.basem)); clear hT hg)
        clear q0 q1 k0 k1 x0 x1 x2 HT2 HB2 HCB HP1 HF1
        have hmk9 := mk9
        have hb4 : Below w3.heap.size w3 (w3.alloc (.cells (wdV z9).toArray 26)) := (Below.refl _ _).alloc (Nat.le_refl _) _
        have HW4 : Hid (PRow (w3.alloc (.cells (wdV z9).toArray 26)) w3.heap.size (psOf (ls.take 0))) := hidden (PRow.new w3 _)
        have HT4 := hidden (HT3.out.later hb4)
        have HC4 := hidden (HC3.out.later hb4)
        have HB4 := hidden (HB3.out.trans (hb4.mono HB3.out.size))
        have hGs : w3.heap.size ≤ (w3.alloc (.cells (wdV z9).toArray 26)).heap.size := hb4.size
        have hTG : T < w3.heap.size := (Array.getElem?_eq_some_iff.1 HT3.out.box).1
        have hMG : mb < w3.heap.size := by
          obtain ⟨D, hO, _, _⟩ := HT3.out.mp
          exact hO.lt
        have hAG : bA < w3.heap.size := HC3.out.lt
        have hwG : w.heap.size ≤ w3.heap.size := HB3.out.size
        clear hb4 HT3 HC3 HB3
        generalize hZ : (wdV z9).toArray = Z9 at *
        clear hZ
        go_upto_region 18 with fail
        generalize w3.alloc (.cells Z9 26) = w4 at *
        generalize w3.heap.size = G at *
        clear hmk9
        go_loopw [7, 8] (fun s7 s8 w' => ∃ j : Nat, j ≤ k + 1 ∧ s8 = .int .i64 j ∧ s7 = .int .u32 (atOf C.a (ls.take j) : Nat) ∧ Hid (PRow w' G (psOf (ls.take j))) ∧ Hid (Below G w4 w')) (fun _ i _ => k + 1 - (intOf i).toNat)
        case atStart => exact ⟨0, by omega, rfl, rfl, HW4, hidden (Below.refl _ _)⟩
        case round =>
          clear HW4
          obtain ⟨j, hj, rfl, rfl, HW, HBG⟩ := hrel
          generalize hwj : wr = wj at *
          clear hwj
          have HCj : Hid (CBx wj bA C) := hidden ((HBG.out.block bA hAG).trans HC4.out)
          by_cases h5 : j ≤ k
          · have l5 : (j : Int) ≤ (k : Int) := by omega
            have l6 : (0 : Int) ≤ (j : Int) := by omega
            have l7 : (j : Int) < (len : Int) := by omega
            have e6 : ((j : Int)).toNat = j := by omega
            have hjl : j < ls.length := by omega
            obtain ⟨lb2, lo2, ha2, d0, d1, d2⟩ := (HL.out.later (HB4.out.trans (HBG.out.mono hwG))).cells j hjl
            simp only [Option.some.injEq, Addr.mk.injEq] at ha2
            obtain ⟨hlb, hlo, _⟩ := ha2
            subst hlb hlo
            obtain ⟨y0, y1, y2⟩ := HCj.out.cells
            have hdk := HL.out.ok ls[j] (List.getElem_mem hjl)
            have HPj := hidden (show psOf (ls.take (j + 1)) = stP (psOf (ls.take j)) ls[j] by rw [take_snoc18 ls j hjl, psOf_snoc])
            have HAj := hidden (show atOf C.a (ls.take (j + 1)) = if ls[j].k = 1 ∧ ls[j].a = C.a ∧ ls[j].x ≤ 13 then ls[j].x else atOf C.a (ls.take j) by rw [take_snoc18 ls j hjl, atOf_snoc])
            have hpl := psOf_len (ls.take j)
            generalize ls[j] = D at *
            generalize atOf C.a (ls.take j) = A0 at *
            by_cases k0 : D.k = 0
            · have q0 : (D.k == 0) = true := by rw [k0]; rfl
              have q1 : (D.k == 1) = false := by rw [k0]; rfl
              by_cases h9 : D.a < 9
              · have l9 : (D.a : Int) < 9 := by omega
                have l10 : (0 : Int) ≤ (D.a : Int) := by omega
                have e9 : ((D.a : Int)).toNat = D.a := by omega
                have hwa : IntKind.i64.wrap (D.a : Int) = (D.a : Int) := by rw [IntKind.wrap_i64]; omega
                have hco := HW.out.cell D.a (by omega)
                have hfo := HW.out.fz D.a
                have hbs : Below G wj (wj.setCell ⟨G, D.a, none⟩ (.int .u32 (D.x : Int))).drew := ((Below.refl _ _).setCell (p := ⟨G, D.a, none⟩) (Nat.le_refl _) _).drew
                have d0' := (World.cell?_of_block (hbs.block lb (by omega))).trans d0
                have d1' := (World.cell?_of_block (hbs.block lb (by omega))).trans d1
                have d2' := (World.cell?_of_block (hbs.block lb (by omega))).trans d2
                have HWS : Hid (PRow (wj.setCell ⟨G, D.a, none⟩ (.int .u32 (D.x : Int))).drew G (psOf (ls.take (j + 1)))) := hidden (by rw [HPj.out, stP_yes k0, if_pos h9]; exact (HW.out.set D.a D.x).later (Below.refl _ _).drew)
                have HBS := hidden (HBG.out.trans hbs)
                generalize (psOf (ls.take j)).getD D.a 0 = V0 at *
                go_upto_region 21 with fail
                go_region_held3 (fun w' => w'.cell? ⟨lb, lo + j * 3 + 1, none⟩ = some (.int .u32 (D.a : Int)) ∧ w'.cell? ⟨lb, lo + j * 3 + 2, none⟩ = some (.int .u32 (D.x : Int))) (first | (refine ⟨?_, ?_⟩ <;> with_reducible assumption) | go_keep) (fail)
                clear d0 d1 d2 y0 y1 y2 hco hfo hbs
                generalize (wj.setCell ⟨G, D.a, none⟩ (.int .u32 (D.x : Int))).drew = wk at *
                go_upto_region 22 with fail
                go_quiet (fail)
                have HA2 : Hid (atOf C.a (ls.take (j + 1)) = A0) := hidden (by rw [HAj.out, if_neg (fun h => by rw [k0] at h; exact absurd h.1 (by decide))])
                have HW2 := hidden (HWS.out.later (bel_dn (Below.refl wk.heap.size wk) nq))
                have HB2 := hidden (bel_dn HBS.out nq)
                go_wp2
                go_roundw
                case rel => exact ⟨j + 1, by omega, by go_num, by rw [HA2.out], HW2, HB2⟩
                case measure => simp [intOf]; omega
              · have l9 : ¬ (D.a : Int) < 9 := by omega
                have HP2 : Hid (psOf (ls.take (j + 1)) = psOf (ls.take j)) := hidden (by rw [HPj.out, stP_yes k0, if_neg h9])
                have HA2 : Hid (atOf C.a (ls.take (j + 1)) = A0) := hidden (by rw [HAj.out, if_neg (fun h => by rw [k0] at h; exact absurd h.1 (by decide))])
                go_upto_region 22 with fail
                go_quiet (fail)
                have HW2 := hidden (HW.out.later (bel_dn (Below.refl wj.heap.size wj) nq))
                have HB2 := hidden (bel_dn HBG.out nq)
                go_wp2
                go_roundw
                case rel => exact ⟨j + 1, by omega, by go_num, by rw [HA2.out], by rw [HP2.out]; exact HW2, HB2⟩
                case measure => simp [intOf]; omega
            have q0 : (D.k == 0) = false := by rw [beq_eq_false_iff_ne]; exact k0
            have HP2 : Hid (psOf (ls.take (j + 1)) = psOf (ls.take j)) := hidden (by rw [HPj.out, stP_no k0])
            by_cases k1 : D.k = 1
            · have q1 : (D.k == 1) = true := by rw [k1]; rfl
              by_cases ka : D.a = C.a
              · have qa : ((D.a : Int) == (C.a : Int)) = true := by rw [ka]; simp
                by_cases kx : D.x ≤ 13
                · have lx : (D.x : Int) ≤ 13 := by omega
                  have HA2 : Hid (atOf C.a (ls.take (j + 1)) = D.x) := hidden (by rw [HAj.out, if_pos ⟨k1, ka, kx⟩])
                  go_upto_region 22 with fail
                  go_quiet (fail)
                  have HW2 := hidden (HW.out.later (bel_dn (Below.refl wj.heap.size wj) nq))
                  have HB2 := hidden (bel_dn HBG.out nq)
                  have d2q := cellLater (bel_dn (Below.refl wj.heap.size wj) nq) d2
                  go_wp2
                  go_roundw
                  case rel => exact ⟨j + 1, by omega, by go_num, by rw [HA2.out], by rw [HP2.out]; exact HW2, HB2⟩
                  case measure => simp [intOf]; omega
                · have lx : ¬ (D.x : Int) ≤ 13 := by omega
                  have HA2 : Hid (atOf C.a (ls.take (j + 1)) = A0) := hidden (by rw [HAj.out, if_neg (fun h => kx h.2.2)])
                  go_upto_region 22 with fail
                  go_quiet (fail)
                  have HW2 := hidden (HW.out.later (bel_dn (Below.refl wj.heap.size wj) nq))
                  have HB2 := hidden (bel_dn HBG.out nq)
                  go_wp2
                  go_roundw
                  case rel => exact ⟨j + 1, by omega, by go_num, by rw [HA2.out], by rw [HP2.out]; exact HW2, HB2⟩
                  case measure => simp [intOf]; omega
              · have qa : ((D.a : Int) == (C.a : Int)) = false := by rw [beq_eq_false_iff_ne]; omega
                have HA2 : Hid (atOf C.a (ls.take (j + 1)) = A0) := hidden (by rw [HAj.out, if_neg (fun h => ka h.2.1)])
                go_upto_region 22 with fail
                go_quiet (fail)
                have HW2 := hidden (HW.out.later (bel_dn (Below.refl wj.heap.size wj) nq))
                have HB2 := hidden (bel_dn HBG.out nq)
                go_wp2
                go_roundw
                case rel => exact ⟨j + 1, by omega, by go_num, by rw [HA2.out], by rw [HP2.out]; exact HW2, HB2⟩
                case measure => simp [intOf]; omega
            · have q1 : (D.k == 1) = false := by rw [beq_eq_false_iff_ne]; exact k1
              have HA2 : Hid (atOf C.a (ls.take (j + 1)) = A0) := hidden (by rw [HAj.out, if_neg (fun h => k1 h.1)])
              go_upto_region 22 with fail
              go_quiet (fail)
              have HW2 := hidden (HW.out.later (bel_dn (Below.refl wj.heap.size wj) nq))
              have HB2 := hidden (bel_dn HBG.out nq)
              go_wp2
              go_roundw
              case rel => exact ⟨j + 1, by omega, by go_num, by rw [HA2.out], by rw [HP2.out]; exact HW2, HB2⟩
              case measure => simp [intOf]; omega
          · have l5 : ¬ (j : Int) ≤ (k : Int) := by omega
            have hjk : j = k + 1 := by omega
            subst hjk
            have HTj := hidden (HT4.out.low HBG.out hTG hMG)
            have HBj := hidden (HB4.out.trans (HBG.out.mono hwG))
            have hps := psOf_len (ls.take (k + 1))
            have hat := atOf_eq C.a (ls.take (k + 1))
            have hGj := HW.out.lt
            clear HT4 HC4 HB4 HBG hGs
            rw [hat]
            generalize hPS : psOf (ls.take (k + 1)) = PS at *
            generalize hFN : fnOf (ls.take (k + 1)) = FN at *
            have HPS := hidden hPS
            have HFN := hidden hFN
            clear hPS hFN hat
            go_upto_region 25 with (go_at_call 13; refine (tparams18 _ T mb (k + 1) _ _ _ HTj.out).mono ?_; rintro e w5 ⟨g9, rfl, hg9, hc9, hb5⟩; have HW5 := hidden (HW.out.later hb5); have HT5 := hidden (HTj.out.later hb5); have HC5 := hidden (HCj.out.later hb5); have HB5 := hidden (HBj.out.trans (hb5.mono HBj.out.size)); have HC9 := hidden hc9; have hGg : G < g9 := (by omega); clear hc9 hb5 HW HTj HCj HBj)
            have hT5 : T < g9 := by omega
            have hM5 : mb < g9 := by omega
            have hA5 : bA < g9 := by omega
            go_upto_region 26 with fail
            go_loopw [10] (fun i w' => ∃ q : Nat, q ≤ 9 ∧ i = .int .i64 q ∧ Hid (∀ i, q ≤ i → i < 9 → w'.cell? ⟨g9, i, none⟩ = some (.int .u32 (PS.getD i 0 : Nat))) ∧ Hid (∀ i, i < 9 → w'.frozen? ⟨g9, i, none⟩ = false) ∧ Hid (Below g9 w5 w')) (fun i _ => 9 - (intOf i).toNat)
            case atStart => exact ⟨0, by omega, rfl, hidden (fun i _ hi => (HC9.out i hi).1), hidden (fun i hi => (HC9.out i hi).2), hidden (Below.refl _ _)⟩
            case round =>
              clear HC9
              obtain ⟨q, hq, rfl, HQ, HZ, HBQ⟩ := hrel
              generalize hwx : wr = wx at *
              clear hwx
              by_cases h9 : q < 9
              · have l9 : (q : Int) < 9 := by omega
                have l10 : (0 : Int) ≤ (q : Int) := by omega
                have e9 : ((q : Int)).toNat = q := by omega
                have hp := HQ.out q (Nat.le_refl _) h9
                have HWx : Hid (PRow wx G PS) := hidden ((HBQ.out.block G hGg).trans HW5.out)
                have hw := HWx.out.cell q (by omega)
                have hX : ∀ i, q + 1 ≤ i → i < 9 → wx.cell? ⟨g9, i, none⟩ = some (.int .u32 (PS.getD i 0 : Nat)) := fun i h1 h2 => HQ.out i (by omega) h2
                have HXX := hidden hX
                clear hX
                generalize PS.getD q 0 = X at *
                have qq : ((X : Int) == (X : Int)) = true := by simp
                have qn : ((X : Int) != (X : Int)) = false := by simp
                go_upto_region 28 with fail
                go_quiet (fail)
                have hbd := bel_dn (Below.refl wx.heap.size wx) nq
                have hpd := cellLater hbd hp
                have hfd : (wx.drewN nq).frozen? ⟨g9, q, none⟩ = false := HZ.out q h9
                have HQ2 : Hid (∀ i, q + 1 ≤ i → i < 9 → ((wx.drewN nq).setCell ⟨g9, q, none⟩ (.int .u32 99)).cell? ⟨g9, i, none⟩ = some (.int .u32 (PS.getD i 0 : Nat))) := hidden (fun i h1 h2 => (World.cell?_setCell_other _ _ _ _ (by intro h; simp only [Addr.mk.injEq] at h; omega)).trans (cellLater hbd (HXX.out i h1 h2)))
                have HZ2 : Hid (∀ i, i < 9 → ((wx.drewN nq).setCell ⟨g9, q, none⟩ (.int .u32 99)).frozen? ⟨g9, i, none⟩ = false) := hidden (fun i hi => (frozen_set _ g9 q i _).trans (HZ.out i hi))
                have HB2 : Hid (Below g9 w5 ((wx.drewN nq).setCell ⟨g9, q, none⟩ (.int .u32 99))) := hidden ((bel_dn HBQ.out nq).setCell (p := ⟨g9, q, none⟩) (Nat.le_refl _) _)
                clear hp hw hbd
                generalize wx.drewN nq = wd at *
                go_wp2
                go_roundw
                case rel => exact ⟨q + 1, by omega, by go_num, HQ2, HZ2, HB2⟩
                case measure => simp [intOf]; omega
              · have l9 : ¬ (q : Int) < 9 := by omega
                have HTx := hidden (HT5.out.low HBQ.out hT5 hM5)
                have HBx := hidden (HB5.out.trans (HBQ.out.mono (by omega)))
                have HCx : Hid (CBx wx bA C) := hidden ((HBQ.out.block bA hA5).trans HC5.out)
                obtain ⟨y0, y1, y2⟩ := HCx.out.cells
                have HAT := hidden (at18 _ T mb (k + 1) PS FN C.a wx HTx.out hok.1)
                have qq : ((FN C.a : Int) == (FN C.a : Int)) = true := by simp
                have qn : ((FN C.a : Int) != (FN C.a : Int)) = false := by simp
                have HT9 : Hid (TAt w.heap.size wx T mb (k + 1) (psOf (ls.take (k + 1))) (fnOf (ls.take (k + 1)))) := hidden (by rw [HPS.out, HFN.out]; exact HTx.out)
                go_wp2_with (go_at_call 14; refine HAT.out.mono ?_; rintro e w6 ⟨rfl, e9⟩; rw [e9]; clear e9)
                go_roundw
                case rel => exact ⟨k + 1, by omega, by go_num, HT9, HBx⟩
                case measure => simp [intOf]; omega
      have q0 : (C.k == 0) = false := by rw [beq_eq_false_iff_ne]; exact k0
      have q1 : (C.k == 1) = false := by rw [beq_eq_false_iff_ne]; exact k1
      go_upto_region 15 with fail
      have HT3 : Hid (TAt w.heap.size w2 T mb (k + 1) (psOf (ls.take (k + 1))) (fnOf (ls.take (k + 1)))) := hidden (by rw [HP1.out, HF1.out]; rw [stP_no k0, stF_no k1]; exact HT2.out.mono (by omega))
      have HC3 := HCB
      have HB3 := HB2
      clear q0 q1 k0 k1 x0 x1 x2 HT2 HB2 HCB HP1 HF1
      generalize w2 = w3 at *
      have hmk9 := mk9
      have hb4 : Below w3.heap.size w3 (w3.alloc (.cells (wdV z9).toArray 26)) := (Below.refl _ _).alloc (Nat.le_refl _) _
      have HW4 : Hid (PRow (w3.alloc (.cells (wdV z9).toArray 26)) w3.heap.size (psOf (ls.take 0))) := hidden (PRow.new w3 _)
      have HT4 := hidden (HT3.out.later hb4)
      have HC4 := hidden (HC3.out.later hb4)
      have HB4 := hidden (HB3.out.trans (hb4.mono HB3.out.size))
      have hGs : w3.heap.size ≤ (w3.alloc (.cells (wdV z9).toArray 26)).heap.size := hb4.size
      have hTG : T < w3.heap.size := (Array.getElem?_eq_some_iff.1 HT3.out.box).1
      have hMG : mb < w3.heap.size := by
        obtain ⟨D, hO, _, _⟩ := HT3.out.mp
        exact hO.lt
      have hAG : bA < w3.heap.size := HC3.out.lt
      have hwG : w.heap.size ≤ w3.heap.size := HB3.out.size
      clear hb4 HT3 HC3 HB3
      generalize hZ : (wdV z9).toArray = Z9 at *
      clear hZ
      go_upto_region 18 with fail
      generalize w3.alloc (.cells Z9 26) = w4 at *
      generalize w3.heap.size = G at *
      clear hmk9
      go_loopw [7, 8] (fun s7 s8 w' => ∃ j : Nat, j ≤ k + 1 ∧ s8 = .int .i64 j ∧ s7 = .int .u32 (atOf C.a (ls.take j) : Nat) ∧ Hid (PRow w' G (psOf (ls.take j))) ∧ Hid (Below G w4 w')) (fun _ i _ => k + 1 - (intOf i).toNat)
      case atStart => exact ⟨0, by omega, rfl, rfl, HW4, hidden (Below.refl _ _)⟩
      case round =>
        clear HW4
        obtain ⟨j, hj, rfl, rfl, HW, HBG⟩ := hrel
        generalize hwj : wr = wj at *
        clear hwj
        have HCj : Hid (CBx wj bA C) := hidden ((HBG.out.block bA hAG).trans HC4.out)
        by_cases h5 : j ≤ k
        · have l5 : (j : Int) ≤ (k : Int) := by omega
          have l6 : (0 : Int) ≤ (j : Int) := by omega
          have l7 : (j : Int) < (len : Int) := by omega
          have e6 : ((j : Int)).toNat = j := by omega
          have hjl : j < ls.length := by omega
          obtain ⟨lb2, lo2, ha2, d0, d1, d2⟩ := (HL.out.later (HB4.out.trans (HBG.out.mono hwG))).cells j hjl
          simp only [Option.some.injEq, Addr.mk.injEq] at ha2
          obtain ⟨hlb, hlo, _⟩ := ha2
          subst hlb hlo
          obtain ⟨y0, y1, y2⟩ := HCj.out.cells
          have hdk := HL.out.ok ls[j] (List.getElem_mem hjl)
          have HPj := hidden (show psOf (ls.take (j + 1)) = stP (psOf (ls.take j)) ls[j] by rw [take_snoc18 ls j hjl, psOf_snoc])
          have HAj := hidden (show atOf C.a (ls.take (j + 1)) = if ls[j].k = 1 ∧ ls[j].a = C.a ∧ ls[j].x ≤ 13 then ls[j].x else atOf C.a (ls.take j) by rw [take_snoc18 ls j hjl, atOf_snoc])
          have hpl := psOf_len (ls.take j)
          generalize ls[j] = D at *
          generalize atOf C.a (ls.take j) = A0 at *
          by_cases k0 : D.k = 0
          · have q0 : (D.k == 0) = true := by rw [k0]; rfl
            have q1 : (D.k == 1) = false := by rw [k0]; rfl
            by_cases h9 : D.a < 9
            · have l9 : (D.a : Int) < 9 := by omega
              have l10 : (0 : Int) ≤ (D.a : Int) := by omega
              have e9 : ((D.a : Int)).toNat = D.a := by omega
              have hwa : IntKind.i64.wrap (D.a : Int) = (D.a : Int) := by rw [IntKind.wrap_i64]; omega
              have hco := HW.out.cell D.a (by omega)
              have hfo := HW.out.fz D.a
              have hbs : Below G wj (wj.setCell ⟨G, D.a, none⟩ (.int .u32 (D.x : Int))).drew := ((Below.refl _ _).setCell (p := ⟨G, D.a, none⟩) (Nat.le_refl _) _).drew
              have d0' := (World.cell?_of_block (hbs.block lb (by omega))).trans d0
              have d1' := (World.cell?_of_block (hbs.block lb (by omega))).trans d1
              have d2' := (World.cell?_of_block (hbs.block lb (by omega))).trans d2
              have HWS : Hid (PRow (wj.setCell ⟨G, D.a, none⟩ (.int .u32 (D.x : Int))).drew G (psOf (ls.take (j + 1)))) := hidden (by rw [HPj.out, stP_yes k0, if_pos h9]; exact (HW.out.set D.a D.x).later (Below.refl _ _).drew)
              have HBS := hidden (HBG.out.trans hbs)
              generalize (psOf (ls.take j)).getD D.a 0 = V0 at *
              go_upto_region 21 with fail
              go_region_held3 (fun w' => w'.cell? ⟨lb, lo + j * 3 + 1, none⟩ = some (.int .u32 (D.a : Int)) ∧ w'.cell? ⟨lb, lo + j * 3 + 2, none⟩ = some (.int .u32 (D.x : Int))) (first | (refine ⟨?_, ?_⟩ <;> with_reducible assumption) | go_keep) (fail)
              clear d0 d1 d2 y0 y1 y2 hco hfo hbs
              generalize (wj.setCell ⟨G, D.a, none⟩ (.int .u32 (D.x : Int))).drew = wk at *
              go_upto_region 22 with fail
              go_quiet (fail)
              have HA2 : Hid (atOf C.a (ls.take (j + 1)) = A0) := hidden (by rw [HAj.out, if_neg (fun h => by rw [k0] at h; exact absurd h.1 (by decide))])
              have HW2 := hidden (HWS.out.later (bel_dn (Below.refl wk.heap.size wk) nq))
              have HB2 := hidden (bel_dn HBS.out nq)
              go_wp2
              go_roundw
              case rel => exact ⟨j + 1, by omega, by go_num, by rw [HA2.out], HW2, HB2⟩
              case measure => simp [intOf]; omega
            · have l9 : ¬ (D.a : Int) < 9 := by omega
              have HP2 : Hid (psOf (ls.take (j + 1)) = psOf (ls.take j)) := hidden (by rw [HPj.out, stP_yes k0, if_neg h9])
              have HA2 : Hid (atOf C.a (ls.take (j + 1)) = A0) := hidden (by rw [HAj.out, if_neg (fun h => by rw [k0] at h; exact absurd h.1 (by decide))])
              go_upto_region 22 with fail
              go_quiet (fail)
              have HW2 := hidden (HW.out.later (bel_dn (Below.refl wj.heap.size wj) nq))
              have HB2 := hidden (bel_dn HBG.out nq)
              go_wp2
              go_roundw
              case rel => exact ⟨j + 1, by omega, by go_num, by rw [HA2.out], by rw [HP2.out]; exact HW2, HB2⟩
              case measure => simp [intOf]; omega
          have q0 : (D.k == 0) = false := by rw [beq_eq_false_iff_ne]; exact k0
          have HP2 : Hid (psOf (ls.take (j + 1)) = psOf (ls.take j)) := hidden (by rw [HPj.out, stP_no k0])
          by_cases k1 : D.k = 1
          · have q1 : (D.k == 1) = true := by rw [k1]; rfl
            by_cases ka : D.a = C.a
            · have qa : ((D.a : Int) == (C.a : Int)) = true := by rw [ka]; simp
              by_cases kx : D.x ≤ 13
              · have lx : (D.x : Int) ≤ 13 := by omega
                have HA2 : Hid (atOf C.a (ls.take (j + 1)) = D.x) := hidden (by rw [HAj.out, if_pos ⟨k1, ka, kx⟩])
                go_upto_region 22 with fail
                go_quiet (fail)
                have HW2 := hidden (HW.out.later (bel_dn (Below.refl wj.heap.size wj) nq))
                have HB2 := hidden (bel_dn HBG.out nq)
                have d2q := cellLater (bel_dn (Below.refl wj.heap.size wj) nq) d2
                go_wp2
                go_roundw
                case rel => exact ⟨j + 1, by omega, by go_num, by rw [HA2.out], by rw [HP2.out]; exact HW2, HB2⟩
                case measure => simp [intOf]; omega
              · have lx : ¬ (D.x : Int) ≤ 13 := by omega
                have HA2 : Hid (atOf C.a (ls.take (j + 1)) = A0) := hidden (by rw [HAj.out, if_neg (fun h => kx h.2.2)])
                go_upto_region 22 with fail
                go_quiet (fail)
                have HW2 := hidden (HW.out.later (bel_dn (Below.refl wj.heap.size wj) nq))
                have HB2 := hidden (bel_dn HBG.out nq)
                go_wp2
                go_roundw
                case rel => exact ⟨j + 1, by omega, by go_num, by rw [HA2.out], by rw [HP2.out]; exact HW2, HB2⟩
                case measure => simp [intOf]; omega
            · have qa : ((D.a : Int) == (C.a : Int)) = false := by rw [beq_eq_false_iff_ne]; omega
              have HA2 : Hid (atOf C.a (ls.take (j + 1)) = A0) := hidden (by rw [HAj.out, if_neg (fun h => ka h.2.1)])
              go_upto_region 22 with fail
              go_quiet (fail)
              have HW2 := hidden (HW.out.later (bel_dn (Below.refl wj.heap.size wj) nq))
              have HB2 := hidden (bel_dn HBG.out nq)
              go_wp2
              go_roundw
              case rel => exact ⟨j + 1, by omega, by go_num, by rw [HA2.out], by rw [HP2.out]; exact HW2, HB2⟩
              case measure => simp [intOf]; omega
          · have q1 : (D.k == 1) = false := by rw [beq_eq_false_iff_ne]; exact k1
            have HA2 : Hid (atOf C.a (ls.take (j + 1)) = A0) := hidden (by rw [HAj.out, if_neg (fun h => k1 h.1)])
            go_upto_region 22 with fail
            go_quiet (fail)
            have HW2 := hidden (HW.out.later (bel_dn (Below.refl wj.heap.size wj) nq))
            have HB2 := hidden (bel_dn HBG.out nq)
            go_wp2
            go_roundw
            case rel => exact ⟨j + 1, by omega, by go_num, by rw [HA2.out], by rw [HP2.out]; exact HW2, HB2⟩
            case measure => simp [intOf]; omega
        · have l5 : ¬ (j : Int) ≤ (k : Int) := by omega
          have hjk : j = k + 1 := by omega
          subst hjk
          have HTj := hidden (HT4.out.low HBG.out hTG hMG)
          have HBj := hidden (HB4.out.trans (HBG.out.mono hwG))
          have hps := psOf_len (ls.take (k + 1))
          have hat := atOf_eq C.a (ls.take (k + 1))
          have hGj := HW.out.lt
          clear HT4 HC4 HB4 HBG hGs
          rw [hat]
          generalize hPS : psOf (ls.take (k + 1)) = PS at *
          generalize hFN : fnOf (ls.take (k + 1)) = FN at *
          have HPS := hidden hPS
          have HFN := hidden hFN
          clear hPS hFN hat
          go_upto_region 25 with (go_at_call 13; refine (tparams18 _ T mb (k + 1) _ _ _ HTj.out).mono ?_; rintro e w5 ⟨g9, rfl, hg9, hc9, hb5⟩; have HW5 := hidden (HW.out.later hb5); have HT5 := hidden (HTj.out.later hb5); have HC5 := hidden (HCj.out.later hb5); have HB5 := hidden (HBj.out.trans (hb5.mono HBj.out.size)); have HC9 := hidden hc9; have hGg : G < g9 := (by omega); clear hc9 hb5 HW HTj HCj HBj)
          have hT5 : T < g9 := by omega
          have hM5 : mb < g9 := by omega
          have hA5 : bA < g9 := by omega
          go_upto_region 26 with fail
          go_loopw [10] (fun i w' => ∃ q : Nat, q ≤ 9 ∧ i = .int .i64 q ∧ Hid (∀ i, q ≤ i → i < 9 → w'.cell? ⟨g9, i, none⟩ = some (.int .u32 (PS.getD i 0 : Nat))) ∧ Hid (∀ i, i < 9 → w'.frozen? ⟨g9, i, none⟩ = false) ∧ Hid (Below g9 w5 w')) (fun i _ => 9 - (intOf i).toNat)
          case atStart => exact ⟨0, by omega, rfl, hidden (fun i _ hi => (HC9.out i hi).1), hidden (fun i hi => (HC9.out i hi).2), hidden (Below.refl _ _)⟩
          case round =>
            clear HC9
            obtain ⟨q, hq, rfl, HQ, HZ, HBQ⟩ := hrel
            generalize hwx : wr = wx at *
            clear hwx
            by_cases h9 : q < 9
            · have l9 : (q : Int) < 9 := by omega
              have l10 : (0 : Int) ≤ (q : Int) := by omega
              have e9 : ((q : Int)).toNat = q := by omega
              have hp := HQ.out q (Nat.le_refl _) h9
              have HWx : Hid (PRow wx G PS) := hidden ((HBQ.out.block G hGg).trans HW5.out)
              have hw := HWx.out.cell q (by omega)
              have hX : ∀ i, q + 1 ≤ i → i < 9 → wx.cell? ⟨g9, i, none⟩ = some (.int .u32 (PS.getD i 0 : Nat)) := fun i h1 h2 => HQ.out i (by omega) h2
              have HXX := hidden hX
              clear hX
              generalize PS.getD q 0 = X at *
              have qq : ((X : Int) == (X : Int)) = true := by simp
              have qn : ((X : Int) != (X : Int)) = false := by simp
              go_upto_region 28 with fail
              go_quiet (fail)
              have hbd := bel_dn (Below.refl wx.heap.size wx) nq
              have hpd := cellLater hbd hp
              have hfd : (wx.drewN nq).frozen? ⟨g9, q, none⟩ = false := HZ.out q h9
              have HQ2 : Hid (∀ i, q + 1 ≤ i → i < 9 → ((wx.drewN nq).setCell ⟨g9, q, none⟩ (.int .u32 99)).cell? ⟨g9, i, none⟩ = some (.int .u32 (PS.getD i 0 : Nat))) := hidden (fun i h1 h2 => (World.cell?_setCell_other _ _ _ _ (by intro h; simp only [Addr.mk.injEq] at h; omega)).trans (cellLater hbd (HXX.out i h1 h2)))
              have HZ2 : Hid (∀ i, i < 9 → ((wx.drewN nq).setCell ⟨g9, q, none⟩ (.int .u32 99)).frozen? ⟨g9, i, none⟩ = false) := hidden (fun i hi => (frozen_set _ g9 q i _).trans (HZ.out i hi))
              have HB2 : Hid (Below g9 w5 ((wx.drewN nq).setCell ⟨g9, q, none⟩ (.int .u32 99))) := hidden ((bel_dn HBQ.out nq).setCell (p := ⟨g9, q, none⟩) (Nat.le_refl _) _)
              clear hp hw hbd
              generalize wx.drewN nq = wd at *
              go_wp2
              go_roundw
              case rel => exact ⟨q + 1, by omega, by go_num, HQ2, HZ2, HB2⟩
              case measure => simp [intOf]; omega
            · have l9 : ¬ (q : Int) < 9 := by omega
              have HTx := hidden (HT5.out.low HBQ.out hT5 hM5)
              have HBx := hidden (HB5.out.trans (HBQ.out.mono (by omega)))
              have HCx : Hid (CBx wx bA C) := hidden ((HBQ.out.block bA hA5).trans HC5.out)
              obtain ⟨y0, y1, y2⟩ := HCx.out.cells
              have HAT := hidden (at18 _ T mb (k + 1) PS FN C.a wx HTx.out hok.1)
              have qq : ((FN C.a : Int) == (FN C.a : Int)) = true := by simp
              have qn : ((FN C.a : Int) != (FN C.a : Int)) = false := by simp
              have HT9 : Hid (TAt w.heap.size wx T mb (k + 1) (psOf (ls.take (k + 1))) (fnOf (ls.take (k + 1)))) := hidden (by rw [HPS.out, HFN.out]; exact HTx.out)
              go_wp2_with (go_at_call 14; refine HAT.out.mono ?_; rintro e w6 ⟨rfl, e9⟩; rw [e9]; clear e9)
              go_roundw
              case rel => exact ⟨k + 1, by omega, by go_num, HT9, HBx⟩
              case measure => simp [intOf]; omega
    · have l2 : ¬ (k : Int) < (len : Int) := by omega
      go_wp2_with (go_at_call 9; refine (live18 _).mono ?_; rintro e w7 ⟨rfl, hb7⟩; have HB7 := hidden (HB.out.trans (hb7.mono HB.out.size)); clear hb7)
      go_ret
      exact ⟨rfl, HB7.out⟩
theorem accelTable_walk (a : Option Addr) (len cap : Nat) (ls : List Ac18) (w : World) (h : IsA18 w a len cap ls) : Calls Try.prog 3 #[.slice a len cap] w fun e w' => e = .returned (.bool true) ∧ Below w.heap.size w w' := by
  by_cases h3 : 300 < len
  · exact table_0 a len cap w h3
  · exact table_1 a len cap ls w h (by omega)
end Go.Proofs.Ytpgppdkbkkljnaa
