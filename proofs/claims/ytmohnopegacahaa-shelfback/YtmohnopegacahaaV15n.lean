/- Layer 15: the walk of ShelfBack. -/
import Derived.Test.YtmohnopegacahaaV15m
namespace Go.Proofs.Ytmohnopegacahaa
open Go.RowKit
set_option maxHeartbeats 1000000
set_option maxRecDepth 100000
set_option linter.unusedVariables false

theorem lvr_own {B n : Nat} {w w1 : World} {P : Sh → Prop} {v : Value} {L : List Int} (h : LvR B w w1 P v n L) : w1.ownsRow B 32 1 v n (w32V L) ∧ B ≤ w1.heap.size := by
  obtain ⟨hb, hB, s, h2, ok, hP, ho, hn⟩ := h
  exact ⟨ho, Nat.le_trans hB hb.size⟩
theorem as_bd (wide : Bool) (A : List Nat) (h : ∀ c ∈ A, c < 4294967296) : chB wide (A.map (asN wide)) := by
  intro x hx
  obtain ⟨y, hy, rfl⟩ := List.mem_map.1 hx
  exact asN_bd wide y (h y hy)
def BkI (B : Nat) (w : World) (A : List Nat) (wide : Bool) (va : Option Addr) (NR vc : Nat) (x : Int) (w' : World) : Prop := A.length = NR ∧ (∀ c ∈ A, c < 4294967296) ∧ ∃ md wr, (md = 1 ∨ md = 5) ∧ LvR B w w' (FP x md wide (A.map (asN wide)) NR 0 wr 1048576) (.slice va NR vc) NR (intsL A)
def BkC (B : Nat) (w : World) (A : List Nat) (wide : Bool) (va : Option Addr) (NR vc : Nat) (x : Int) (w' : World) : Prop := A.length = NR ∧ (∀ c ∈ A, c < 4294967296) ∧ LvR B w w' (CP x wide (A.map (asN wide)) 1048576) (.slice va NR vc) NR (intsL A)
def BkW (B : Nat) (w : World) (A ys : List Nat) (wide : Bool) (va : Option Addr) (NR vc m : Nat) (x : Int) (w' : World) : Prop := A.length = NR ∧ ys.length = m ∧ (∀ c ∈ A ++ ys, c < 4294967296) ∧ ∃ md wr, (md = 1 ∨ md = 5) ∧ LvR B w w' (FP x md wide ((A ++ ys).map (asN wide)) (NR + m) 0 wr 1048576) (.slice va NR vc) NR (intsL A)
def BrI (B : Nat) (w : World) (A : List Nat) (wide : Bool) (va : Option Addr) (NR vc : Nat) (x : Int) (J : Nat) (w' : World) : Prop := A.length = NR ∧ (∀ c ∈ A, c < 4294967296) ∧ LvR B w w' (FP x 2 wide (A.map (asN wide)) J (upI 0 J) 0 1048576) (.slice va NR vc) NR (intsL A)
theorem bk_close {B NR vc : Nat} {w w1 : World} {A : List Nat} {wide : Bool} {va : Option Addr} {x : Int} (h : BkI B w A wide va NR vc x w1) :
    Calls Try.prog 13 #[.pointer (some ⟨B, 0, none⟩), .int .i64 x] w1 fun e w' => ∃ wr, e = .returned (.tuple #[.int .u32 0, .int .u32 wr, .slice none 0 0, .int .i64 0]) ∧ Hid (BkC B w A wide va NR vc x w') := by
  obtain ⟨h1, h2, md, wr, h3, h4⟩ := h
  exact (lf_close h4).mono (fun e w' hh => ⟨wr, hh.1, hidden ⟨h1, h2, hh.2.out⟩⟩)
theorem bk_again {B NR vc : Nat} {w w1 : World} {A : List Nat} {wide : Bool} {va : Option Addr} {x : Int} (h : BkC B w A wide va NR vc x w1) (hx : x < 1000000) :
    Calls Try.prog 12 #[.pointer (some ⟨B, 0, none⟩), .string ⟨#[102]⟩, .int .i64 5, .bool wide] w1 fun e w' => e = .returned (.tuple #[.int .i64 (x + 1), .int .i64 0]) ∧ Hid (BkI B w A wide va NR vc (x + 1) w') := by
  obtain ⟨h1, h2, h4⟩ := h
  have := lf_again h4 5 (by simp) hx
  rw [if_pos rfl, List.length_map, h1] at this
  exact this.mono (fun e w' hh => ⟨hh.1, hidden ⟨h1, h2, 5, 0, .inr rfl, hh.2.out⟩⟩)
theorem bk_open2 {B NR vc : Nat} {w w1 : World} {A : List Nat} {wide : Bool} {va : Option Addr} {x : Int} (h : BkC B w A wide va NR vc x w1) (hx : x < 1000000) :
    Calls Try.prog 12 #[.pointer (some ⟨B, 0, none⟩), .string ⟨#[102]⟩, .int .i64 2, .bool wide] w1 fun e w' => e = .returned (.tuple #[.int .i64 (x + 1), .int .i64 0]) ∧ Hid (BrI B w A wide va NR vc (x + 1) 0 w') := by
  obtain ⟨h1, h2, h4⟩ := h
  have := lf_again h4 2 (by simp) hx
  rw [if_neg (by decide)] at this
  exact this.mono (fun e w' hh => ⟨hh.1, hidden ⟨h1, h2, hh.2.out⟩⟩)
theorem bk_tell {B NR vc : Nat} {w w1 : World} {A : List Nat} {wide : Bool} {va : Option Addr} {x : Int} (h : BkI B w A wide va NR vc x w1) :
    Calls Try.prog 15 #[.pointer (some ⟨B, 0, none⟩), .int .i64 x] w1 fun e w' => e = .returned (.tuple #[.int .i64 NR, .int .i64 NR, .int .i64 0]) ∧ Hid (BkI B w A wide va NR vc x w') := by
  obtain ⟨h1, h2, md, wr, h3, h4⟩ := h
  have := lf_tell h4
  rw [List.length_map, h1] at this
  exact this.mono (fun e w' hh => ⟨hh.1, hidden ⟨h1, h2, md, wr, h3, hh.2.out⟩⟩)
theorem bk_write {B NR vc : Nat} {w w1 : World} {A : List Nat} {wide : Bool} {va : Option Addr} {x : Int} (h : BkI B w A wide va NR vc x w1) (a : Option Addr) (m c : Nat) (ys : List Nat) (hr : VRow w1 a m ys) (hlo : 0 < m → ∀ y : Addr, a = some y → y.block < B) (hs : NR + m ≤ 200000) :
    Calls Try.prog 14 #[.pointer (some ⟨B, 0, none⟩), .int .i64 x, .slice a m c] w1 fun e w' => e = .returned (.int .i64 0) ∧ Hid (BkW B w A ys wide va NR vc m x w') := by
  obtain ⟨h1, h2, md, wr, h3, h4⟩ := h
  have hlm : (A.map (asN wide)).length = NR := by rw [List.length_map, h1]
  have := lf_write h4 (by rcases h3 with rfl | rfl <;> decide) a m c ys hr (fun h0 y e => .inl (hlo h0 y e)) (by omega) (by omega) (by omega) (by decide)
  refine this.mono ?_
  rintro e w' ⟨rfl, H⟩
  refine ⟨rfl, hidden ⟨h1, hr.ln, ?_, md, upI wr m, h3, ?_⟩⟩
  · intro z hz
    rcases List.mem_append.1 hz with q | q
    · exact h2 z q
    · exact hr.bd z q
  · have h5 := H.out.1
    have e : wrR wide (A.map (asN wide)) NR ys = (A ++ ys).map (asN wide) := by
      rw [← hlm, wrR_end, List.map_append]
    rw [e] at h5
    exact h5
theorem BkW.own {B NR vc m : Nat} {w w1 : World} {A ys : List Nat} {wide : Bool} {va : Option Addr} {x : Int} (h : BkW B w A ys wide va NR vc m x w1) : w1.ownsRow B 32 1 (.slice va NR vc) NR (w32V (intsL A)) ∧ B ≤ w1.heap.size := by
  obtain ⟨_, _, _, md, wr, _, h4⟩ := h
  exact lvr_own h4
theorem BkW.fin {B NR vc m c' : Nat} {w w1 w2 : World} {A ys : List Nat} {wide : Bool} {va a' : Option Addr} {x : Int} (h : BkW B w A ys wide va NR vc m x w1) (ho : w2.ownsRow B 32 1 (.slice a' (NR + m) c') (NR + m) (w32V (intsL A ++ intsL ys))) (f : Fm w1 w2 (fun k => (Value.slice va NR vc).ownBlock = some k) (fun k => (Value.slice a' (NR + m) c').ownBlock = some k)) : BkI B w (A ++ ys) wide a' (NR + m) c' x w2 := by
  obtain ⟨h1, h2, h3, md, wr, hm, hb, hB, s, h4, ok, hP, ho1, hn⟩ := h
  rw [← ints_app] at ho
  refine ⟨by rw [List.length_append, h1, h2], h3, md, wr, hm, hb.trans (f.below (Nat.le_trans hB hb.size) (fun k e => (row_lt ho1 e).1)), hB, s, h4.fmx f (fun k e q => hn k q e), ok, hP, ho, fun k e q => ?_⟩
  rcases f.row k e with z | z
  · exact hn k z q
  · have := (h4.low k q).2; omega
theorem br_read {B NR vc J : Nat} {w w1 : World} {A : List Nat} {wide : Bool} {va : Option Addr} {x : Int} (h : BrI B w A wide va NR vc x J w1) (hl : J < NR) :
    Calls Try.prog 16 #[.pointer (some ⟨B, 0, none⟩), .int .i64 x] w1 fun e w' => e = .returned (.tuple #[.int .u32 (asN wide (A.getD J 0) : Nat), .bool true, .int .i64 0]) ∧ Hid (BrI B w A wide va NR vc x (J + 1) w') := by
  obtain ⟨h1, h2, h4⟩ := h
  have := lf_read h4 (by decide) (as_bd wide A h2) (by rw [List.length_map, h1]; exact hl)
  have e : (A.map (asN wide)).getD J 0 = asN wide (A.getD J 0) := by simp [List.getD_eq_getElem?_getD, show J < A.length by omega]
  rw [e] at this
  exact this.mono (fun e w' hh => ⟨hh.1, hidden ⟨h1, h2, hh.2.out⟩⟩)
theorem br_end {B NR vc J : Nat} {w w1 : World} {A : List Nat} {wide : Bool} {va : Option Addr} {x : Int} (h : BrI B w A wide va NR vc x J w1) (hl : NR ≤ J) :
    Calls Try.prog 16 #[.pointer (some ⟨B, 0, none⟩), .int .i64 x] w1 fun e w' => e = .returned (.tuple #[.int .u32 0, .bool false, .int .i64 0]) ∧ Hid (BrI B w A wide va NR vc x J w') := by
  obtain ⟨h1, h2, h4⟩ := h
  exact (lf_end h4 (by decide) (by rw [List.length_map, h1]; exact hl)).mono (fun e w' hh => ⟨hh.1, hidden ⟨h1, h2, hh.2.out⟩⟩)
theorem br_close {B NR vc J : Nat} {w w1 : World} {A : List Nat} {wide : Bool} {va : Option Addr} {x : Int} (h : BrI B w A wide va NR vc x J w1) (hJ : J < 4294967296) :
    Calls Try.prog 13 #[.pointer (some ⟨B, 0, none⟩), .int .i64 x] w1 fun e w' => e = .returned (.tuple #[.int .u32 J, .int .u32 0, .slice none 0 0, .int .i64 0]) ∧ Hid (Below B w w') := by
  obtain ⟨h1, h2, h4⟩ := h
  have := lf_close h4
  rw [upI_zero J hJ] at this
  exact this.mono (fun e w' hh => ⟨hh.1, hidden hh.2.out.1⟩)
theorem asN_wide (c : Nat) : asN true c = c := by unfold asN; rw [if_neg (by simp)]
set_option maxHeartbeats 8000000 in
theorem back_main (a : Option Addr) (len cap : Nat) (ps : List Pc) (wide more : Bool) (w : World) (h : IsPcs w a len cap ps) (hl : len ≤ 100) :
    Calls Try.prog 3 #[.slice a len cap, .bool wide, .bool more] w fun e w' => e = .returned (.bool true) ∧ Below w.heap.size w w' := by
  have hln := h.ln
  have HV := hidden h
  have g1 : ¬ ((len : Int) > 100) := by omega
  have HNW := hidden (lv_new0 w 1048576 (by decide))
  have HOP : Hid (∀ w1, Lv w.heap.size w w1 (fun s => s = newS 1048576) → Calls Try.prog 12 #[.pointer (some ⟨w.heap.size, 0, none⟩), .string ⟨#[102]⟩, .int .i64 1, .bool wide] w1 fun e w' => e = .returned (.tuple #[.int .i64 1, .int .i64 0]) ∧ Hid (Lv w.heap.size w w' (FP 1 1 wide [] 0 0 0 1048576))) := hidden (fun w1 hL => lf_open hL 1 wide (by simp))
  have HPL : Hid (∀ p ∈ ps, 0 < p.n → ∀ y : Addr, p.a = some y → y.block < w.heap.size) := hidden (fun p hp h0 y e => by
    obtain ⟨b, o, e2, hc⟩ := (h.row p hp).1.cells 0 h0
    rw [e] at e2
    injection e2 with e2
    subst e2
    exact cell_lt hc)
  clear h
  have hq5 : (len : Int).tdiv 2 = ((len / 2 : Nat) : Int) := by rw [Int.tdiv_eq_ediv_of_nonneg (by omega)]; rfl
  obtain ⟨L2, hL2⟩ : ∃ L2, len / 2 = L2 := ⟨_, rfl⟩
  rw [hL2] at hq5
  have hL2b : (L2 : Int) ≤ 50 := by omega
  have hL2c : wrap64 (L2 : Int) = L2 := by unfold wrap64; omega
  clear hL2
  generalize hBB : w.heap.size = BB at *
  have HBB := hidden hBB
  clear hBB
  go_enter Try.func3, Try.ntmps3
  go_upto_region 9 with (first | (go_at_call 9; refine HNW.out.mono ?_; rintro e w2 ⟨rfl, H2⟩) | (go_at_call 12; refine (HOP.out _ H2.out).mono ?_; rintro e w3 ⟨rfl, H3⟩) | (go_at_call 10; refine (num15 _ _ (by omega) (by omega)).mono ?_; rintro e w12 ⟨rfl, e9⟩; rw [e9]; clear e9) | fail)
  clear HNW HOP H2
  have HS0 : Hid (BkI BB w [] wide none 0 0 ((1 : Nat) : Int) w3) := hidden ⟨rfl, (fun x hx => by cases hx), 1, 0, .inl rfl, H3.out.row⟩
  clear H3
  have HLIV : Hid (∀ w5, Below BB w w5 → Calls Try.prog 11 #[] w5 fun e w' => e = .returned (.bool true) ∧ Hid (Below BB w w')) := hidden (fun w5 hb => (live_any w5).mono (fun e w' hh => ⟨hh.1, hidden (hb.trans (hh.2.mono (by have := hb.size; have := HBB.out; omega)))⟩))
  go_loopw [7, 10, 12] (fun q x_ i w' => ∃ (I X NR : Nat) (va : Option Addr) (vc : Nat), q = .slice va NR vc ∧ x_ = .int .i64 X ∧ i = .int .i64 I ∧ I ≤ len ∧ NR ≤ 1000 * I ∧ 1 ≤ X ∧ X ≤ I + 1 ∧ ∃ A, Hid (BkI BB w A wide va NR vc (X : Int) w')) (fun _ _ i _ => len - (intOf i).toNat)
  case atStart => exact ⟨0, 1, 0, none, 0, rfl, rfl, rfl, by omega, by omega, by omega, by omega, [], HS0⟩
  case round =>
    clear HS0
    obtain ⟨I, X, NR, va, vc, rfl, rfl, rfl, hI, hNI, hX1, hX2, A, HBK⟩ := hrel
    by_cases hlt : I < len
    · have l1 : (I : Int) < len := by omega
      have l0 : (0 : Int) ≤ (I : Int) := by omega
      have hIs : I < ps.length := by omega
      have HBE : Hid (Below w.heap.size w wr) := hidden (by obtain ⟨_, _, md, wr', _, hL⟩ := HBK.out; rw [HBB.out]; exact hL.1)
      obtain ⟨xb, xo, ea, c0⟩ := HV.out.cells I hIs
      have HCE : Hid (∀ w1, Below BB w w1 → w1.cell? ⟨xb, xo + I, none⟩ = some (.slice ps[I].a ps[I].n ps[I].c) ∧ VRow w1 ps[I].a ps[I].n ps[I].xs) := hidden (fun w1 hb => by
        have hb' : Below w.heap.size w w1 := by rw [HBB.out]; exact hb
        refine ⟨?_, ((HV.out.row _ (List.getElem_mem hIs)).1).later hb'⟩
        rw [World.cell?_of_block (hb'.block xb (cell_lt c0))]; exact c0)
      have HPI := hidden (HPL.out _ (List.getElem_mem hIs))
      have e1 : IntKind.i64.wrap ((I : Int) + 1) = ((I + 1 : Nat) : Int) := by rw [IntKind.wrap_i64]; omega
      generalize ps[I] = p at *
      obtain ⟨pa, pn, pc, ys⟩ := p
      simp only at *
      subst ea
      have c1 := (HCE.out wr (by obtain ⟨_, _, md, wr', _, hL⟩ := HBK.out; exact hL.1)).1
      clear HV HPL c0
      by_cases hpn : pn ≤ 1000
      · have hpi : ¬ (pn : Int) > 1000 := by omega
        cases more with
        | false =>
          go_upto_region 19 with fail
          have HWR := hidden (bk_write HBK.out pa pn pc ys (HCE.out wr (by obtain ⟨_, _, md, wr', _, hL⟩ := HBK.out; exact hL.1)).2 (fun h0 y e => HPI.out h0 y e) (by omega))
          have c2 := (HCE.out wr (by obtain ⟨_, _, md, wr', _, hL⟩ := HBK.out; exact hL.1)).1
          clear HBK
          go_upto_region 21 with (first | (go_at_call 14; refine HWR.out.mono ?_; rintro e w7 ⟨rfl, H7⟩) | (go_at_call 10; refine (num15 _ _ (by omega) (by omega)).mono ?_; rintro e w12 ⟨rfl, e9⟩; rw [e9]; clear e9) | fail)
          have HOW := hidden H7.out.own
          obtain ⟨c3, hv3⟩ := HCE.out w7 (by obtain ⟨_, _, _, md, wr', _, hL⟩ := H7.out; exact hL.1)
          have HV3 := hidden hv3
          have HFI : Hid (∀ a8 c8 w8, w8.ownsRow BB 32 1 (.slice a8 (NR + pn) c8) (NR + pn) (w32V (intsL A ++ intsL ys)) → Fm w7 w8 (fun k => (Value.slice va NR vc).ownBlock = some k) (fun k => (Value.slice a8 (NR + pn) c8).ownBlock = some k) → BkI BB w (A ++ ys) wide a8 (NR + pn) c8 ((X : Nat) : Int) w8) := hidden (fun a8 c8 w8 ho f => H7.out.fin ho f)
          clear hv3 HCE HPI HWR H7 c1 c2
          go_wp2_with (first | (at_builtin; refine wpList_appW (wr := w7) rfl _ _ rfl BB NR pn vc pc va pa (intsL A) ys rfl rfl HOW.out.1 HV3.out HOW.out.2 (by omega) ?_; intro a8 c8 w8 ho8 f8; have H8 := hidden (HFI.out a8 c8 w8 ho8 f8.out); clear ho8 f8) | fail)
          all_goals (
            go_roundw
            case rel => exact ⟨I + 1, X, NR + pn, a8, c8, by first | rfl | go_num, by first | rfl | go_num, by first | rfl | go_num, by omega, by omega, by omega, by omega, A ++ ys, H8⟩
            case measure => simp [intOf]; omega)
        | true =>
          by_cases hiL : I = L2
          · have hq : ((I : Int) == (L2 : Int)) = true := by rw [hiL]; exact beq_self_eq_true _
            clear hiL
            have HCL := hidden (bk_close HBK.out)
            clear HBK
            go_upto_region 15 with (first | (go_at_call 13; refine HCL.out.mono ?_; rintro e w4 ⟨wn, rfl, H4⟩) | fail)
            have HAG := hidden (bk_again H4.out (by omega))
            rw [show ((X : Nat) : Int) + 1 = ((X + 1 : Nat) : Int) by omega] at HAG
            clear HCL H4
            go_upto_region 19 with (first | (go_at_call 12; refine HAG.out.mono ?_; rintro e w5 ⟨rfl, H5⟩) | (go_at_call 10; refine (num15 _ _ (by omega) (by omega)).mono ?_; rintro e w12 ⟨rfl, e9⟩; rw [e9]; clear e9) | fail)
            clear HAG
            have HWR := hidden (bk_write H5.out pa pn pc ys (HCE.out w5 (by obtain ⟨_, _, md, wr', _, hL⟩ := H5.out; exact hL.1)).2 (fun h0 y e => HPI.out h0 y e) (by omega))
            have c2 := (HCE.out w5 (by obtain ⟨_, _, md, wr', _, hL⟩ := H5.out; exact hL.1)).1
            clear H5
            go_upto_region 21 with (first | (go_at_call 14; refine HWR.out.mono ?_; rintro e w7 ⟨rfl, H7⟩) | (go_at_call 10; refine (num15 _ _ (by omega) (by omega)).mono ?_; rintro e w12 ⟨rfl, e9⟩; rw [e9]; clear e9) | fail)
            have HOW := hidden H7.out.own
            obtain ⟨c3, hv3⟩ := HCE.out w7 (by obtain ⟨_, _, _, md, wr', _, hL⟩ := H7.out; exact hL.1)
            have HV3 := hidden hv3
            have HFI : Hid (∀ a8 c8 w8, w8.ownsRow BB 32 1 (.slice a8 (NR + pn) c8) (NR + pn) (w32V (intsL A ++ intsL ys)) → Fm w7 w8 (fun k => (Value.slice va NR vc).ownBlock = some k) (fun k => (Value.slice a8 (NR + pn) c8).ownBlock = some k) → BkI BB w (A ++ ys) wide a8 (NR + pn) c8 ((X + 1 : Nat) : Int) w8) := hidden (fun a8 c8 w8 ho f => H7.out.fin ho f)
            clear hv3 HCE HPI HWR H7 c1 c2
            go_wp2_with (first | (at_builtin; refine wpList_appW (wr := w7) rfl _ _ rfl BB NR pn vc pc va pa (intsL A) ys rfl rfl HOW.out.1 HV3.out HOW.out.2 (by omega) ?_; intro a8 c8 w8 ho8 f8; have H8 := hidden (HFI.out a8 c8 w8 ho8 f8.out); clear ho8 f8) | fail)
            all_goals (
              go_roundw
              case rel => exact ⟨I + 1, X + 1, NR + pn, a8, c8, by first | rfl | go_num, by first | rfl | go_num, by first | rfl | go_num, by omega, by omega, by omega, by omega, A ++ ys, H8⟩
              case measure => simp [intOf]; omega)
          · have hq : ((I : Int) == (L2 : Int)) = false := by rw [beq_eq_false_iff_ne]; omega
            clear hiL
            go_upto_region 19 with fail
            have HWR := hidden (bk_write HBK.out pa pn pc ys (HCE.out wr (by obtain ⟨_, _, md, wr', _, hL⟩ := HBK.out; exact hL.1)).2 (fun h0 y e => HPI.out h0 y e) (by omega))
            have c2 := (HCE.out wr (by obtain ⟨_, _, md, wr', _, hL⟩ := HBK.out; exact hL.1)).1
            clear HBK
            go_upto_region 21 with (first | (go_at_call 14; refine HWR.out.mono ?_; rintro e w7 ⟨rfl, H7⟩) | (go_at_call 10; refine (num15 _ _ (by omega) (by omega)).mono ?_; rintro e w12 ⟨rfl, e9⟩; rw [e9]; clear e9) | fail)
            have HOW := hidden H7.out.own
            obtain ⟨c3, hv3⟩ := HCE.out w7 (by obtain ⟨_, _, _, md, wr', _, hL⟩ := H7.out; exact hL.1)
            have HV3 := hidden hv3
            have HFI : Hid (∀ a8 c8 w8, w8.ownsRow BB 32 1 (.slice a8 (NR + pn) c8) (NR + pn) (w32V (intsL A ++ intsL ys)) → Fm w7 w8 (fun k => (Value.slice va NR vc).ownBlock = some k) (fun k => (Value.slice a8 (NR + pn) c8).ownBlock = some k) → BkI BB w (A ++ ys) wide a8 (NR + pn) c8 ((X : Nat) : Int) w8) := hidden (fun a8 c8 w8 ho f => H7.out.fin ho f)
            clear hv3 HCE HPI HWR H7 c1 c2
            go_wp2_with (first | (at_builtin; refine wpList_appW (wr := w7) rfl _ _ rfl BB NR pn vc pc va pa (intsL A) ys rfl rfl HOW.out.1 HV3.out HOW.out.2 (by omega) ?_; intro a8 c8 w8 ho8 f8; have H8 := hidden (HFI.out a8 c8 w8 ho8 f8.out); clear ho8 f8) | fail)
            all_goals (
              go_roundw
              case rel => exact ⟨I + 1, X, NR + pn, a8, c8, by first | rfl | go_num, by first | rfl | go_num, by first | rfl | go_num, by omega, by omega, by omega, by omega, A ++ ys, H8⟩
              case measure => simp [intOf]; omega)
      · have hpi : (pn : Int) > 1000 := by omega
        have HLV := hidden (HLIV.out wr (by obtain ⟨_, _, md, wr', _, hL⟩ := HBK.out; exact hL.1))
        clear HBK HCE HPI
        go_wp2_with (first | (go_at_call 11; refine HLV.out.mono ?_; rintro e w6 ⟨rfl, H6⟩) | fail)
        go_ret
        exact ⟨rfl, by first | exact H6.out | (rw [HBB.out]; exact H6.out)⟩
    · obtain rfl : I = len := by omega
      have l1 : ¬ ((I : Int) < (I : Int)) := by omega
      clear HV HPL
      have HTE := hidden (bk_tell HBK.out)
      clear HBK
      go_upto_region 23 with (first | (go_at_call 15; refine HTE.out.mono ?_; rintro e w4 ⟨rfl, H4⟩) | fail)
      have HCL := hidden (bk_close H4.out)
      clear HTE H4
      go_upto_region 24 with (first | (go_at_call 13; refine HCL.out.mono ?_; rintro e w5 ⟨wn, rfl, H5⟩) | fail)
      have HOP := hidden (bk_open2 H5.out (by omega))
      obtain ⟨Y, hY⟩ : ∃ Y, X + 1 = Y := ⟨_, rfl⟩
      rw [show ((X : Nat) : Int) + 1 = ((Y : Nat) : Int) by omega] at HOP
      clear hY
      clear HCL H5
      go_upto_region 28 with (first | (go_at_call 12; refine HOP.out.mono ?_; rintro e w6 ⟨rfl, H6⟩) | (go_at_call 10; refine (num15 _ _ (by omega) (by omega)).mono ?_; rintro e w12 ⟨rfl, e9⟩; rw [e9]; clear e9) | fail)
      clear HOP
      go_loopw [28] (fun j_ w' => ∃ J : Nat, j_ = .int .i64 J ∧ J ≤ NR ∧ Hid (BrI BB w A wide va NR vc (Y : Int) J w')) (fun j_ _ => NR - (intOf j_).toNat)
      case atStart => exact ⟨0, rfl, Nat.zero_le _, H6⟩
      case round =>
        clear H6
        obtain ⟨J, rfl, hJ, HBR⟩ := hrel
        by_cases hlt2 : J < NR
        · have k1 : (J : Int) < NR := by omega
          have k0 : (0 : Int) ≤ (J : Int) := by omega
          have e2 : IntKind.i64.wrap ((J : Int) + 1) = ((J + 1 : Nat) : Int) := by rw [IntKind.wrap_i64]; omega
          obtain ⟨g, o, rfl, hc⟩ : ∃ g o, va = some ⟨g, o, none⟩ ∧ wr.cell? ⟨g, o + J, none⟩ = some (.int .u32 (A.getD J 0 : Nat)) := (vrow_own (lvr_own HBR.out.2.2).1 HBR.out.2.1).cells J hlt2
          have HRD := hidden (br_read HBR.out hlt2)
          generalize A.getD J 0 = C at *
          clear HBR HLIV
          cases wide with
          | true =>
            rw [asN_wide] at HRD
            go_wp2_with (first | (go_at_call 16; refine HRD.out.mono ?_; rintro e w7 ⟨rfl, H7⟩) | (go_at_call 10; refine (num15 _ _ (by omega) (by omega)).mono ?_; rintro e w12 ⟨rfl, e9⟩; rw [e9]; clear e9) | fail)
            go_roundw
            case rel => exact ⟨J + 1, by first | rfl | go_num, by omega, H7⟩
            case measure => simp [intOf]; omega
          | false =>
            by_cases hx : (255 : Int) < (C : Int)
            · have hx2 : 255 < C := by omega
              rw [show asN false C = 63 by unfold asN; rw [if_pos ⟨rfl, hx2⟩]] at HRD
              go_wp2_with (first | (go_at_call 16; refine HRD.out.mono ?_; rintro e w7 ⟨rfl, H7⟩) | (go_at_call 10; refine (num15 _ _ (by omega) (by omega)).mono ?_; rintro e w12 ⟨rfl, e9⟩; rw [e9]; clear e9) | fail)
              go_roundw
              case rel => exact ⟨J + 1, by first | rfl | go_num, by omega, H7⟩
              case measure => simp [intOf]; omega
            · have hx2 : ¬ 255 < C := by omega
              rw [show asN false C = C by unfold asN; rw [if_neg (fun q => hx2 q.2)]] at HRD
              go_wp2_with (first | (go_at_call 16; refine HRD.out.mono ?_; rintro e w7 ⟨rfl, H7⟩) | (go_at_call 10; refine (num15 _ _ (by omega) (by omega)).mono ?_; rintro e w12 ⟨rfl, e9⟩; rw [e9]; clear e9) | fail)
              go_roundw
              case rel => exact ⟨J + 1, by first | rfl | go_num, by omega, H7⟩
              case measure => simp [intOf]; omega
        · obtain rfl : J = NR := by omega
          have k1 : ¬ ((J : Int) < (J : Int)) := by omega
          have HRD := hidden (br_end HBR.out (Nat.le_refl _))
          have m1 : IntKind.i64.wrap (J : Int) = J := by rw [IntKind.wrap_i64]; omega
          have HCL : Hid (∀ w1, BrI BB w A wide va J vc (Y : Int) J w1 → _) := hidden (fun w1 hR => br_close hR (by omega))
          clear HBR
          go_wp2_with (first | (go_at_call 16; refine HRD.out.mono ?_; rintro e w7 ⟨rfl, H7⟩) | (go_at_call 13; refine (HCL.out _ H7.out).mono ?_; rintro e w8 ⟨rfl, H8⟩) | (go_at_call 10; refine (num15 _ _ (by omega) (by omega)).mono ?_; rintro e w12 ⟨rfl, e9⟩; rw [e9]; clear e9) | (go_at_call 11; refine (HLIV.out _ H8.out).mono ?_; rintro e w9 ⟨rfl, H9⟩) | fail)
          go_ret
          exact ⟨rfl, by first | exact H9.out | (rw [HBB.out]; exact H9.out)⟩
theorem shelfBack_walk (a : Option Addr) (len cap : Nat) (ps : List Pc) (wide more : Bool) (w : World) (h : IsPcs w a len cap ps) :
    Calls Try.prog 3 #[.slice a len cap, .bool wide, .bool more] w fun e w' => e = .returned (.bool true) ∧ Below w.heap.size w w' := by
  by_cases hl : len ≤ 100
  · exact back_main a len cap ps wide more w h hl
  · have g1 : (len : Int) > 100 := by omega
    have HNW := hidden (lv_new0 w 1048576 (by decide))
    clear h hl
    go_enter Try.func3, Try.ntmps3
    go_wp2_with (first | (go_at_call 9; refine HNW.out.mono ?_; rintro e w2 ⟨rfl, H2⟩) | (go_at_call 10; refine (num15 _ _ (by omega) (by omega)).mono ?_; rintro e w12 ⟨rfl, e9⟩; rw [e9]; clear e9) | (go_at_call 11; refine (live_any _).mono ?_; rintro e w13 ⟨rfl, hb13⟩) | fail)
    go_ret
    exact ⟨rfl, H2.out.1.trans (hb13.mono H2.out.1.size)⟩
end Go.Proofs.Ytmohnopegacahaa
