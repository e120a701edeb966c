/- Layer 15: the walk of ShelfSeeks. -/
import Derived.Test.YtmohnopegacahaaV15i
import Derived.Deep.Cut
import Derived.Deep.CutRange
namespace Go.Proofs.Ytmohnopegacahaa
open Go.RowKit
set_option maxHeartbeats 1000000
set_option maxRecDepth 100000
set_option linter.unusedVariables false

theorem LvR.set {B n g c : Nat} {w w1 : World} {P : Sh → Prop} {L : List Int} (h : LvR B w w1 P (.slice (some ⟨g, 0, none⟩) n c) n L) (i : Nat) (hi : i < n) (V : Int) : w1.frozen? ⟨g, i, none⟩ = false ∧ (∃ u, w1.cell? ⟨g, i, none⟩ = some u) ∧ LvR B w (w1.setCell ⟨g, i, none⟩ (.int .u32 V)) P (.slice (some ⟨g, 0, none⟩) n c) n (L.set i V) := by
  obtain ⟨hb, hB, s, h2, ok, hP, ho, hn⟩ := h
  have hgl := row_lt ho (k := g) rfl
  have hl : (w32V L).length = n * 1 := ho.1
  have hll : L.length = n := by simpa [w32V] using hl
  have f0 : Fm w1 w1 (fun k => k = g) (fun k => k = g) := Fm.same (Below.refl _ _)
  have f := f0.set g i (.int .u32 V) rfl
  refine ⟨?_, ⟨_, by have := ho.cells (g := g) rfl i (.int .u32 (L.getD i 0)) (by simp [w32V, List.getD_eq_getElem?_getD, show i < L.length by omega]); rw [Addr.add_lit, Nat.zero_add] at this; exact this⟩, below_set hb g i _ hgl.1, hB, s, h2.fmx f (fun k e q => hn k (by rw [q]; rfl) e), ok, hP, ?_, hn⟩
  · rcases ho.2 with ⟨q, _⟩ | ⟨g', cap, cur, q, _, q3, _⟩
    · cases q
    · simp only [Value.slice.injEq, Option.some.injEq, Addr.mk.injEq, and_true] at q
      obtain ⟨rfl, _⟩ := q
      simp [World.frozen?, q3]
  · have := own_set1 ho i (.int .u32 V)
    rw [show (w32V L).set i (.int .u32 V) = w32V (L.set i V) by simp [w32V, List.map_set]] at this
    exact this
theorem LvR.own {B n : Nat} {w w1 : World} {P : Sh → Prop} {v : Value} {L : List Int} (h : LvR B w w1 P v n L) : w1.ownsRow B 32 1 v n (w32V L) ∧ B ≤ w1.heap.size := by
  obtain ⟨hb, hB, s, h2, ok, hP, ho, hn⟩ := h
  exact ⟨ho, Nat.le_trans hB hb.size⟩
theorem own_some {B E n c : Nat} {w : World} {va : Option Addr} {xs : List Value} (h : w.ownsRow B E 1 (.slice va n c) n xs) (h0 : 0 < n) : ∃ g, va = some ⟨g, 0, none⟩ := by
  rcases h.2 with ⟨_, q⟩ | ⟨g, cap, cur, q, _⟩
  · omega
  · simp only [Value.slice.injEq] at q
    exact ⟨g, q.1⟩
/-- a step as it lies in a variable -/
def XBox (w : World) (b : Nat) (x : St) : Prop := w.heap[b]? = some (.cells #[.int .i64 x.k, .int .u32 x.c, .int .i64 x.a, .int .i64 x.f] 48 (0, 0))
theorem XBox.cells {w : World} {b : Nat} {x : St} (h : XBox w b x) : w.cell? ⟨b, 0, none⟩ = some (.int .i64 x.k) ∧ w.cell? ⟨b, 1, none⟩ = some (.int .u32 x.c) ∧ w.cell? ⟨b, 2, none⟩ = some (.int .i64 x.a) ∧ w.cell? ⟨b, 3, none⟩ = some (.int .i64 x.f) := by
  unfold XBox at h
  exact ⟨by simp [World.cell?, h], by simp [World.cell?, h], by simp [World.cell?, h], by simp [World.cell?, h]⟩
theorem sk_eq (R : List Nat) (pl : Nat) (by_ frm : Int) (hf : frm = 0 ∨ frm = 1 ∨ frm = 2) (hpl : pl ≤ R.length) : ((skP R pl by_ frm : Nat) : Int) = min (max ((if frm = 0 then 0 else if frm = 1 then (pl : Int) else (R.length : Int)) + by_) 0) R.length ∧ skP R pl by_ frm ≤ R.length := by
  unfold skP mvN
  rcases hf with rfl | rfl | rfl
  · rw [if_pos rfl, if_pos rfl]; constructor <;> omega
  · rw [if_neg (by decide), if_pos rfl, if_neg (by decide), if_pos rfl]; constructor <;> omega
  · rw [if_neg (by decide), if_neg (by decide), if_neg (by decide), if_neg (by decide)]; constructor <;> omega
/-- what holds at the head of the law's loop -/
def SkI (B : Nat) (w : World) (R : List Nat) (p : Nat) (va : Option Addr) (NR vc : Nat) (w' : World) : Prop := R.length = NR ∧ p ≤ NR ∧ chB true R ∧ ∃ rd wr, LvR B w w' (FP 1 3 true R p rd wr 1048576) (.slice va NR vc) NR (intsL R)
theorem SkI.later {B p NR vc : Nat} {w w1 w2 : World} {R : List Nat} {va : Option Addr} (h : SkI B w R p va NR vc w1) (hb : Below w1.heap.size w1 w2) : SkI B w R p va NR vc w2 := by
  obtain ⟨h1, h2, h3, rd, wr, h4⟩ := h
  exact ⟨h1, h2, h3, rd, wr, h4.later hb⟩
theorem sk_tell {B p NR vc : Nat} {w w1 : World} {R : List Nat} {va : Option Addr} (h : SkI B w R p va NR vc w1) :
    Calls Try.prog 15 #[.pointer (some ⟨B, 0, none⟩), .int .i64 1] w1 fun e w' => e = .returned (.tuple #[.int .i64 p, .int .i64 NR, .int .i64 0]) ∧ Hid (SkI B w R p va NR vc w') := by
  obtain ⟨h1, h2, h3, rd, wr, h4⟩ := h
  have := lf_tell h4
  rw [h1] at this
  exact this.mono (fun e w' hh => ⟨hh.1, hidden ⟨h1, h2, h3, rd, wr, hh.2.out⟩⟩)
theorem sk_read {B p NR vc : Nat} {w w1 : World} {R : List Nat} {va : Option Addr} (h : SkI B w R p va NR vc w1) (hl : p < NR) :
    Calls Try.prog 16 #[.pointer (some ⟨B, 0, none⟩), .int .i64 1] w1 fun e w' => e = .returned (.tuple #[.int .u32 (R.getD p 0 : Nat), .bool true, .int .i64 0]) ∧ Hid (SkI B w R (p + 1) va NR vc w') := by
  obtain ⟨h1, h2, h3, rd, wr, h4⟩ := h
  exact (lf_read h4 (by decide) h3 (by omega)).mono (fun e w' hh => ⟨hh.1, hidden ⟨h1, by omega, h3, _, _, hh.2.out⟩⟩)
theorem sk_end {B p NR vc : Nat} {w w1 : World} {R : List Nat} {va : Option Addr} (h : SkI B w R p va NR vc w1) (hl : NR ≤ p) :
    Calls Try.prog 16 #[.pointer (some ⟨B, 0, none⟩), .int .i64 1] w1 fun e w' => e = .returned (.tuple #[.int .u32 0, .bool false, .int .i64 0]) ∧ Hid (SkI B w R p va NR vc w') := by
  obtain ⟨h1, h2, h3, rd, wr, h4⟩ := h
  exact (lf_end h4 (by decide) (by omega)).mono (fun e w' hh => ⟨hh.1, hidden ⟨h1, by omega, h3, _, _, hh.2.out⟩⟩)
theorem sk_seek {B p NR vc : Nat} {w w1 : World} {R : List Nat} {va : Option Addr} (h : SkI B w R p va NR vc w1) (by_ frm : Int) (hf : frm = 0 ∨ frm = 1 ∨ frm = 2) (hb : -1000 ≤ by_ ∧ by_ ≤ 1000) :
    Calls Try.prog 19 #[.pointer (some ⟨B, 0, none⟩), .int .i64 1, .int .i64 by_, .int .i64 frm] w1 fun e w' => e = .returned (.int .i64 0) ∧ Hid (SkI B w R (skP R p by_ frm) va NR vc w') := by
  obtain ⟨h1, h2, h3, rd, wr, h4⟩ := h
  exact (lf_seek h4 by_ frm hf (by omega) (by omega)).mono (fun e w' hh => ⟨hh.1, hidden ⟨h1, by rw [← h1]; exact (sk_eq R p by_ frm hf (by omega)).2, h3, _, _, hh.2.out⟩⟩)
theorem sk_bad {B p NR vc : Nat} {w w1 : World} {R : List Nat} {va : Option Addr} (h : SkI B w R p va NR vc w1) (by_ frm : Int) (hf : frm ≠ 0 ∧ frm ≠ 1 ∧ frm ≠ 2) :
    Calls Try.prog 19 #[.pointer (some ⟨B, 0, none⟩), .int .i64 1, .int .i64 by_, .int .i64 frm] w1 fun e w' => e = .returned (.int .i64 1) ∧ Hid (SkI B w R p va NR vc w') := by
  obtain ⟨h1, h2, h3, rd, wr, h4⟩ := h
  exact (lf_seekbad h4 by_ frm hf).mono (fun e w' hh => ⟨hh.1, hidden ⟨h1, h2, h3, _, _, hh.2.out⟩⟩)
/-- behind Write, while the row is not yet like it -/
def SkW (B : Nat) (w : World) (R : List Nat) (p c : Nat) (va : Option Addr) (n vc : Nat) (L : List Int) (w' : World) : Prop := p ≤ R.length ∧ chB true R ∧ c < 4294967296 ∧ ∃ rd wr, LvR B w w' (FP 1 3 true (setC R p c) (p + 1) rd wr 1048576) (.slice va n vc) n L
theorem sk_write {B p NR vc : Nat} {w w1 : World} {R : List Nat} {va : Option Addr} (h : SkI B w R p va NR vc w1) (c : Nat) (hc : c < 4294967296) (hn : NR ≤ 400) (q : Nat) (x : St) (hx : XBox w1 q x) :
    Calls Try.prog 14 #[.pointer (some ⟨B, 0, none⟩), .int .i64 1, .slice (some ⟨w1.heap.size, 0, none⟩) 1 1] (w1.alloc (.cells #[.int .u32 (c : Int)] 32)) fun e w' => e = .returned (.int .i64 0) ∧ Hid (SkW B w R p c va NR vc (intsL R) w' ∧ XBox w' q x) := by
  obtain ⟨h1, h2, h3, rd, wr, h4⟩ := h
  have ha : Below w1.heap.size w1 (w1.alloc (.cells #[.int .u32 (c : Int)] 32)) := (Below.refl _ _).alloc (Nat.le_refl _) _
  have hh := heap_alloc_new w1 (.cells #[.int .u32 (c : Int)] 32)
  have hv : VRow (w1.alloc (.cells #[.int .u32 (c : Int)] 32)) (some ⟨w1.heap.size, 0, none⟩) 1 [c] := by
    refine ⟨rfl, fun z hz => by rw [List.mem_singleton] at hz; rw [hz]; exact hc, fun i hi => ⟨w1.heap.size, 0, rfl, ?_⟩⟩
    obtain rfl : i = 0 := by omega
    unfold World.cell?
    rw [hh]; rfl
  have hx2 : tyAt (w1.alloc (.cells #[.int .u32 (c : Int)] 32)) q = some 48 := by
    have h5 := hx
    unfold XBox at h5
    have hq := (Array.getElem?_eq_some_iff.1 h5).1
    rw [← ha.block q hq] at h5
    exact ty_box h5
  refine (lf_write (h4.later ha) (by decide) _ 1 1 [c] hv (fun _ y e => .inr (by injection e with e; rw [← e]; exact ty_box hh)) (by omega) (by omega) (by omega) (by decide)).mono ?_
  rintro e w' ⟨rfl, H⟩
  refine ⟨rfl, hidden ⟨⟨by omega, h3, hc, rd, upI wr 1, ?_⟩, ?_⟩⟩
  · have := H.out.1
    have e2 : wrR true R p [c] = setC R p c := by show setC R p (asN true c) = _; unfold asN; rw [if_neg (by simp)]
    rw [e2] at this
    exact this
  · unfold XBox at hx ⊢
    rw [H.out.2 q hx2, ha.block q (Array.getElem?_eq_some_iff.1 hx).1]; exact hx
theorem SkW.own {B p c n vc : Nat} {w w1 : World} {R : List Nat} {va : Option Addr} {L : List Int} (h : SkW B w R p c va n vc L w1) : w1.ownsRow B 32 1 (.slice va n vc) n (w32V L) ∧ B ≤ w1.heap.size := by
  obtain ⟨_, _, _, rd, wr, h4⟩ := h
  exact h4.own
theorem SkW.more {B p c n vc q : Nat} {w w1 w2 : World} {R : List Nat} {va : Option Addr} {L : List Int} {x : St} (h : SkW B w R p c va n vc L w1) (hx : XBox w1 q x) (V : Int) (a' : Option Addr) (c' : Nat) (ho : w2.ownsRow B 32 1 (.slice a' (n + 1) c') (n + 1) (w32V (L ++ [V]))) (f : Fm w1 w2 (fun k => (Value.slice va n vc).ownBlock = some k) (fun k => (Value.slice a' (n + 1) c').ownBlock = some k)) : SkW B w R p c a' (n + 1) c' (L ++ [V]) w2 ∧ XBox w2 q x := by
  have hown := h.own.1
  obtain ⟨h1, h2, h3, rd, wr, h4⟩ := h
  refine ⟨⟨h1, h2, h3, rd, wr, h4.snoc V a' c' ho f⟩, ?_⟩
  unfold XBox at hx ⊢
  rw [f.block q (Array.getElem?_eq_some_iff.1 hx).1 (fun e => ?_)]
  · exact hx
  · have := ty_row hown e
    rw [ty_box hx] at this
    exact absurd this (by decide)
theorem SkW.fin {B p c n g vc : Nat} {w w1 : World} {R : List Nat} {L : List Int} (h : SkW B w R p c (some ⟨g, 0, none⟩) n vc L w1) (hn : n = (setC R p c).length) (hL : L.set p (c : Int) = intsL (setC R p c)) : w1.frozen? ⟨g, p, none⟩ = false ∧ (∃ u, w1.cell? ⟨g, p, none⟩ = some u) ∧ Hid (SkI B w (setC R p c) (p + 1) (some ⟨g, 0, none⟩) n vc (w1.setCell ⟨g, p, none⟩ (.int .u32 (c : Int)))) := by
  obtain ⟨h1, h2, h3, rd, wr, h4⟩ := h
  have hle := setC_le R p c h1
  obtain ⟨k1, k2, k3⟩ := h4.set p (by omega) (c : Int)
  rw [hL] at k3
  exact ⟨k1, k2, hidden ⟨hn.symm, by omega, setC_bd true R p c h2 h3, rd, wr, k3⟩⟩
set_option maxHeartbeats 8000000 in
theorem seeks_main (a : Option Addr) (len cap : Nat) (ss : List St) (w : World) (h : IsSteps w a len cap ss) (hl : len ≤ 400) :
    Calls Try.prog 5 #[.slice a len cap] w fun e w' => e = .returned (.bool true) ∧ Below w.heap.size w w' := by
  have hln := h.ln
  have HV := hidden h
  have g1 : ¬ ((len : Int) > 400) := by omega
  have HNW := hidden (lv_new0 w 1048576 (by decide))
  have HOP : Hid (∀ w1, Lv w.heap.size w w1 (fun s => s = newS 1048576) → Calls Try.prog 12 #[.pointer (some ⟨w.heap.size, 0, none⟩), .string ⟨#[102]⟩, .int .i64 3, .bool true] w1 fun e w' => e = .returned (.tuple #[.int .i64 1, .int .i64 0]) ∧ Hid (Lv w.heap.size w w' (FP 1 3 true [] 0 0 0 1048576))) := hidden (fun w1 hL => lf_open hL 3 true (by simp))
  clear h
  generalize hBB : w.heap.size = BB at *
  have HBB := hidden hBB
  clear hBB
  go_enter Try.func5, Try.ntmps5
  go_upto_region 12 with (first | (go_at_call 9; refine HNW.out.mono ?_; rintro e w2 ⟨rfl, H2⟩) | (go_at_call 12; refine (HOP.out _ H2.out).mono ?_; rintro e w3 ⟨rfl, H3⟩) | (go_at_call 10; refine (num15 _ _ (by omega) (by omega)).mono ?_; rintro e w12 ⟨rfl, e9⟩; rw [e9]; clear e9) | fail)
  clear HNW HOP H2
  have HS0 : Hid (SkI BB w [] 0 none 0 0 w3) := hidden ⟨rfl, Nat.le_refl _, (fun x hx => by cases hx), 0, 0, H3.out.row⟩
  clear H3
  go_loopw [7, 8, 9] (fun q at_ i w' => ∃ (I p NR : Nat) (va : Option Addr) (vc : Nat), q = .slice va NR vc ∧ at_ = .int .i64 p ∧ i = .int .i64 I ∧ I ≤ len ∧ NR ≤ I ∧ ∃ R, Hid (SkI BB w R p va NR vc w')) (fun _ _ i _ => len - (intOf i).toNat)
  case atStart => exact ⟨0, 0, 0, none, 0, rfl, rfl, rfl, by omega, by omega, [], HS0⟩
  case round =>
    clear HS0
    obtain ⟨I, p, NR, va, vc, rfl, rfl, rfl, hI, hNI, R, HSK⟩ := hrel
    by_cases hlt : I < len
    · have l1 : (I : Int) < len := by omega
      have l0 : (0 : Int) ≤ (I : Int) := by omega
      have hIs : I < ss.length := by omega
      have HBE : Hid (Below w.heap.size w wr) := hidden (by obtain ⟨_, _, _, rd, wr', hL⟩ := HSK.out; rw [HBB.out]; exact hL.1)
      obtain ⟨xb, xo, ea, c0, c1, c2, c3⟩ := (HV.out.later HBE.out).cells I hIs
      have HXO := hidden (HV.out.ok _ (List.getElem_mem hIs))
      generalize ss[I] = x at *
      subst ea
      go_upto_region 15 with fail
      have hb2 : Below wr.heap.size wr (wr.alloc (.cells #[.int .i64 x.k, .int .u32 x.c, .int .i64 x.a, .int .i64 x.f] 48)) := (Below.refl _ _).alloc (Nat.le_refl _) _
      have HXB : Hid (XBox (wr.alloc (.cells #[.int .i64 x.k, .int .u32 x.c, .int .i64 x.a, .int .i64 x.f] 48)) wr.heap.size x) := hidden (heap_alloc_new _ _)
      have HSK2 := hidden (HSK.out.later hb2)
      clear HSK hb2 HBE c0 c1 c2 c3 HV
      generalize wr.alloc (.cells #[.int .i64 x.k, .int .u32 x.c, .int .i64 x.a, .int .i64 x.f] 48) = w2 at *
      generalize wr.heap.size = Q at *
      obtain ⟨d0, d1, d2, d3⟩ := HXB.out.cells
      obtain ⟨hxc, hxk, hxa, hxf⟩ := HXO.out
      have e1 : IntKind.i64.wrap ((I : Int) + 1) = ((I + 1 : Nat) : Int) := by rw [IntKind.wrap_i64]; omega
      have hpN := HSK2.out.2.1
      have e2 : IntKind.i64.wrap ((p : Int) + 1) = ((p + 1 : Nat) : Int) := by rw [IntKind.wrap_i64]; omega
      by_cases k0 : x.k = 0
      · rw [k0] at d0
        have HW := hidden (sk_write HSK2.out x.c hxc (by omega) Q x HXB.out)
        have HRL : Hid (R.length = NR) := hidden HSK2.out.1
        clear HSK2 HXB
        obtain ⟨C, hC⟩ : ∃ C, x.c = C := ⟨_, rfl⟩
        have HCC := hidden hC
        rw [hC] at HW d1 hxc
        clear hC
        go_upto_region 26 with (first | (go_at_call 14; refine HW.out.mono ?_; rintro e w5 ⟨rfl, H5⟩) | (go_at_call 10; refine (num15 _ _ (by omega) (by omega)).mono ?_; rintro e w12 ⟨rfl, e9⟩; rw [e9]; clear e9) | fail)
        clear d0 d1 d2 d3 HW
        by_cases hpn : p = NR
        · subst hpn
          have HOW := hidden H5.out.1.own
          have HST : Hid (∀ a7 c7 w7, w7.ownsRow BB 32 1 (.slice a7 (p + 1) c7) (p + 1) (w32V (intsL R ++ [0])) → Fm w5 w7 (fun k => (Value.slice va p vc).ownBlock = some k) (fun k => (Value.slice a7 (p + 1) c7).ownBlock = some k) → ∃ g, a7 = some ⟨g, 0, none⟩ ∧ w7.cell? ⟨Q, 1, none⟩ = some (.int .u32 C) ∧ w7.frozen? ⟨g, p, none⟩ = false ∧ (∃ u, w7.cell? ⟨g, p, none⟩ = some u) ∧ Hid (SkI BB w (setC R p C) (p + 1) (some ⟨g, 0, none⟩) (p + 1) c7 (w7.setCell ⟨g, p, none⟩ (.int .u32 (C : Int))))) := hidden (fun a7 c7 w7 ho f => by
            obtain ⟨g, rfl⟩ := own_some ho (by omega)
            obtain ⟨m1, m2⟩ := H5.out.1.more H5.out.2 0 _ c7 ho f
            have es : setC R p C = R ++ [C] := by unfold setC; rw [if_neg (by rw [HRL.out]; omega)]
            obtain ⟨k1, k2, k3⟩ := m1.fin (by rw [es, List.length_append, HRL.out]; rfl) (by rw [es, ints_app, List.set_append_right _ _ (by rw [ints_len, HRL.out]; exact Nat.le_refl _), ints_len, HRL.out, Nat.sub_self]; rfl)
            exact ⟨g, rfl, by rw [← HCC.out]; exact m2.cells.2.1, k1, k2, k3⟩)
          clear H5
          go_upto_region 28 with (first | (at_builtin; refine wpList_snocW (wr := w5) rfl _ _ rfl BB p (.slice va p vc) (intsL R) 0 rfl rfl HOW.out.1 HOW.out.2 (by omega) ?_; intro a7 c7 w7 ho7 f7; obtain ⟨g7, rfl, t1, t2, ⟨u7, t3⟩, H7⟩ := HST.out a7 c7 w7 ho7 f7.out; clear ho7 f7) | fail)
          clear HOW HST
          have q0 : (0 : Int) ≤ (p : Int) := by omega
          have q1 : (p : Int) < ((p + 1 : Nat) : Int) := by omega
          have q2 : p < p + 1 := by omega
          go_upto_region 29 with fail
          generalize w7.setCell ⟨g7, p, none⟩ (.int .u32 (C : Int)) = w8 at *
          clear t1 t2 t3 q0 q1 q2
          have HTE := hidden (sk_tell H7.out)
          go_upto_region 37 with (first | (go_at_call 15; refine HTE.out.mono ?_; rintro e w9 ⟨rfl, H9⟩) | fail)
          go_wp2_with (first | (go_at_call 10; refine (num15 _ _ (by omega) (by omega)).mono ?_; rintro e w12 ⟨rfl, e9⟩; rw [e9]; clear e9) | fail)
          all_goals (
            go_roundw
            case rel => exact ⟨I + 1, p + 1, p + 1, some ⟨g7, 0, none⟩, c7, by first | rfl | go_num, by first | rfl | go_num, by first | rfl | go_num, by omega, by omega, setC R p C, H9⟩
            case measure => simp [intOf]; omega)
        · have hlt2 : p < NR := by omega
          have n1 : ((p : Int) == (NR : Int)) = false := by rw [beq_eq_false_iff_ne]; omega
          have HST : Hid (∃ g, va = some ⟨g, 0, none⟩ ∧ w5.cell? ⟨Q, 1, none⟩ = some (.int .u32 C) ∧ w5.frozen? ⟨g, p, none⟩ = false ∧ (∃ u, w5.cell? ⟨g, p, none⟩ = some u) ∧ Hid (SkI BB w (setC R p C) (p + 1) (some ⟨g, 0, none⟩) NR vc (w5.setCell ⟨g, p, none⟩ (.int .u32 (C : Int))))) := hidden (by
            obtain ⟨g, rfl⟩ := own_some H5.out.1.own.1 (by omega)
            have es : setC R p C = R.set p C := by unfold setC; rw [if_pos (by rw [HRL.out]; exact hlt2)]
            obtain ⟨k1, k2, k3⟩ := H5.out.1.fin (by rw [es, List.length_set, HRL.out]) (by rw [es, ints_set])
            exact ⟨g, rfl, by rw [← HCC.out]; exact H5.out.2.cells.2.1, k1, k2, k3⟩)
          obtain ⟨g7, rfl, t1, t2, ⟨u7, t3⟩, H7⟩ := HST.out
          clear H5 HST
          have q0 : (0 : Int) ≤ (p : Int) := by omega
          have q1 : (p : Int) < (NR : Int) := by omega
          go_upto_region 29 with fail
          generalize w5.setCell ⟨g7, p, none⟩ (.int .u32 (C : Int)) = w8 at *
          clear t1 t2 t3 q0 q1
          have HTE := hidden (sk_tell H7.out)
          go_upto_region 37 with (first | (go_at_call 15; refine HTE.out.mono ?_; rintro e w9 ⟨rfl, H9⟩) | fail)
          go_wp2_with (first | (go_at_call 10; refine (num15 _ _ (by omega) (by omega)).mono ?_; rintro e w12 ⟨rfl, e9⟩; rw [e9]; clear e9) | fail)
          all_goals (
            go_roundw
            case rel => exact ⟨I + 1, p + 1, NR, some ⟨g7, 0, none⟩, vc, by first | rfl | go_num, by first | rfl | go_num, by first | rfl | go_num, by omega, by omega, setC R p C, H9⟩
            case measure => simp [intOf]; omega)
      · by_cases k1 : x.k = 1
        · rw [k1] at d0
          clear k0 k1
          by_cases hpn : p < NR
          · have HRD := hidden (sk_read HSK2.out hpn)
            obtain ⟨V, hV⟩ : ∃ V, R.getD p 0 = V := ⟨_, rfl⟩
            rw [hV] at HRD
            have HVV := hidden hV
            have HRB : Hid (R.length = NR ∧ chB true R) := hidden ⟨HSK2.out.1, HSK2.out.2.2.1⟩
            clear hV HSK2 HXB
            go_upto_region 32 with (first | (go_at_call 16; refine HRD.out.mono ?_; rintro e w5 ⟨rfl, H5⟩) | fail)
            obtain ⟨g, o, rfl, hc⟩ : ∃ g o, va = some ⟨g, o, none⟩ ∧ w5.cell? ⟨g, o + p, none⟩ = some (.int .u32 V) := by
              obtain ⟨_, _, hb32, rd, wr', hL⟩ := H5.out
              have := (vrow_own hL.own.1 hb32).cells p hpn
              rw [HVV.out] at this
              exact this
            have q0 : (0 : Int) ≤ (p : Int) := by omega
            have q1 : (p : Int) < (NR : Int) := by omega
            have HTE := hidden (sk_tell H5.out)
            clear H5 HRD HVV HRB d0 d1 d2 d3
            go_upto_region 36 with (first | (go_at_call 10; refine (num15 _ _ (by omega) (by omega)).mono ?_; rintro e w12 ⟨rfl, e9⟩; rw [e9]; clear e9) | fail)
            go_upto_region 37 with (first | (go_at_call 15; refine HTE.out.mono ?_; rintro e w9 ⟨rfl, H9⟩) | fail)
            go_wp2_with (first | (go_at_call 10; refine (num15 _ _ (by omega) (by omega)).mono ?_; rintro e w12 ⟨rfl, e9⟩; rw [e9]; clear e9) | fail)
            all_goals (
              go_roundw
              case rel => exact ⟨I + 1, p + 1, NR, some ⟨g, o, none⟩, vc, by first | rfl | go_num, by first | rfl | go_num, by first | rfl | go_num, by omega, by omega, R, H9⟩
              case measure => simp [intOf]; omega)
          · obtain rfl : p = NR := by omega
            have HRD := hidden (sk_end HSK2.out (Nat.le_refl _))
            clear HSK2 HXB
            go_upto_region 32 with (first | (go_at_call 16; refine HRD.out.mono ?_; rintro e w5 ⟨rfl, H5⟩) | fail)
            have HTE := hidden (sk_tell H5.out)
            clear H5 HRD d0 d1 d2 d3
            go_upto_region 36 with (first | (go_at_call 10; refine (num15 _ _ (by omega) (by omega)).mono ?_; rintro e w12 ⟨rfl, e9⟩; rw [e9]; clear e9) | fail)
            go_upto_region 37 with (first | (go_at_call 15; refine HTE.out.mono ?_; rintro e w9 ⟨rfl, H9⟩) | fail)
            go_wp2_with (first | (go_at_call 10; refine (num15 _ _ (by omega) (by omega)).mono ?_; rintro e w12 ⟨rfl, e9⟩; rw [e9]; clear e9) | fail)
            all_goals (
              go_roundw
              case rel => exact ⟨I + 1, p, p, va, vc, by first | rfl | go_num, by first | rfl | go_num, by first | rfl | go_num, by omega, by omega, R, H9⟩
              case measure => simp [intOf]; omega)
        · have n0 : (x.k == 0) = false := by simp [k0]
          have n1 : (x.k == 1) = false := by simp [k1]
          clear k0 k1
          go_upto_region 16 with fail
          obtain ⟨BY, hBY⟩ : ∃ BY : Int, BY = min (max x.a (-1000)) 1000 := ⟨_, rfl⟩
          have hB1 : -1000 ≤ BY ∧ BY ≤ 1000 := by omega
          have HBY := hidden hBY
          clear hBY
          go_cut [14] from 57 to 60 (fun s14 wx => s14 = .int .i64 BY ∧ wx = w2)
          case first =>
            have hby := HBY.out
            clear HSK2 HXB HXO d0 d1 d3
            rcases (show x.a < -1000 ∨ (-1000 ≤ x.a ∧ x.a ≤ 1000) ∨ 1000 < x.a by omega) with q | ⟨q, q'⟩ | q
            · obtain rfl : BY = -1000 := by omega
              clear hby HBY
              go_wp2
              go_meet
              exact ⟨rfl, rfl⟩
            · obtain rfl : BY = x.a := by omega
              clear hby HBY
              go_wp2
              all_goals go_meet
              all_goals exact ⟨by first | rfl | (congr 1; omega), rfl⟩
            · obtain rfl : BY = 1000 := by omega
              clear hby HBY
              go_wp2
              all_goals go_meet
              all_goals exact ⟨by first | rfl | (congr 1; omega), rfl⟩
          case rest =>
            obtain ⟨rfl, rfl⟩ := hcut
            clear HBY d0 d1 d2 n0 n1
            by_cases hfr : x.f = 0 ∨ x.f = 1 ∨ x.f = 2
            · have HSE := hidden (sk_seek HSK2.out BY x.f hfr hB1)
              obtain ⟨hs1, hs2⟩ := sk_eq R p BY x.f hfr (by rw [HSK2.out.1]; exact hpN)
              rw [HSK2.out.1] at hs1 hs2
              have HSB := hidden hs1
              clear hs1
              generalize skP R p BY x.f = SK at *
              clear HSK2 HXB
              have HFR := hidden hfr
              rcases hfr with hf0 | hf0 | hf0
              · rw [hf0] at HSE d3 HSB
                clear hf0 HFR
                go_upto_region 22 with (first | (go_at_call 19; refine HSE.out.mono ?_; rintro e w5 ⟨rfl, H5⟩) | (go_at_call 10; refine (num15 _ _ (by omega) (by omega)).mono ?_; rintro e w12 ⟨rfl, e9⟩; rw [e9]; clear e9) | fail)
                clear HSE d3
                have hnew := heap_alloc_new w5 (.cells #[.int .i64 0, .int .i64 p, .int .i64 NR] 3)
                have H6 := hidden (H5.out.later (show Below w5.heap.size w5 (w5.alloc (.cells #[.int .i64 0, .int .i64 p, .int .i64 NR] 3)) from (Below.refl _ _).alloc (Nat.le_refl _) _))
                have hcb : (w5.alloc (.cells #[.int .i64 0, .int .i64 p, .int .i64 NR] 3)).cell? ⟨w5.heap.size, 0, none⟩ = some (.int .i64 0) := by unfold World.cell?; rw [hnew]; rfl
                clear hnew H5
                generalize w5.alloc (.cells #[.int .i64 0, .int .i64 p, .int .i64 NR] 3) = w6 at *
                generalize w5.heap.size = Q5 at *
                have w1_ : IntKind.i64.wrap (0 + BY) = 0 + BY := by rw [IntKind.wrap_i64]; omega
                have w2_ : min (max (0 + BY) 0) (NR : Int) = (SK : Int) := HSB.out.symm
                have w3_ : min (max BY 0) (NR : Int) = (SK : Int) := by rw [Int.zero_add] at w2_; exact w2_
                have w4_ : IntKind.i64.wrap BY = BY := by rw [IntKind.wrap_i64]; omega
                have HTE := hidden (sk_tell H6.out)
                clear H6 HSB
                go_upto_region 37 with (first | (go_at_call 15; refine HTE.out.mono ?_; rintro e w9 ⟨rfl, H9⟩) | fail)
                go_wp2_with (first | (go_at_call 10; refine (num15 _ _ (by omega) (by omega)).mono ?_; rintro e w12 ⟨rfl, e9⟩; rw [e9]; clear e9) | fail)
                all_goals (
                  go_roundw
                  case rel => exact ⟨I + 1, SK, NR, va, vc, by first | rfl | go_num, by first | rfl | go_num, by first | rfl | go_num, by omega, by omega, R, H9⟩
                  case measure => simp [intOf]; omega)
              · rw [hf0] at HSE d3 HSB
                clear hf0 HFR
                go_upto_region 22 with (first | (go_at_call 19; refine HSE.out.mono ?_; rintro e w5 ⟨rfl, H5⟩) | (go_at_call 10; refine (num15 _ _ (by omega) (by omega)).mono ?_; rintro e w12 ⟨rfl, e9⟩; rw [e9]; clear e9) | fail)
                clear HSE d3
                have hnew := heap_alloc_new w5 (.cells #[.int .i64 0, .int .i64 p, .int .i64 NR] 3)
                have H6 := hidden (H5.out.later (show Below w5.heap.size w5 (w5.alloc (.cells #[.int .i64 0, .int .i64 p, .int .i64 NR] 3)) from (Below.refl _ _).alloc (Nat.le_refl _) _))
                have hcb : (w5.alloc (.cells #[.int .i64 0, .int .i64 p, .int .i64 NR] 3)).cell? ⟨w5.heap.size, 1, none⟩ = some (.int .i64 (p : Int)) := by unfold World.cell?; rw [hnew]; rfl
                clear hnew H5
                generalize w5.alloc (.cells #[.int .i64 0, .int .i64 p, .int .i64 NR] 3) = w6 at *
                generalize w5.heap.size = Q5 at *
                have w1_ : IntKind.i64.wrap ((p : Int) + BY) = (p : Int) + BY := by rw [IntKind.wrap_i64]; omega
                have w2_ : min (max ((p : Int) + BY) 0) (NR : Int) = (SK : Int) := HSB.out.symm
                skip
                skip
                have HTE := hidden (sk_tell H6.out)
                clear H6 HSB
                go_upto_region 37 with (first | (go_at_call 15; refine HTE.out.mono ?_; rintro e w9 ⟨rfl, H9⟩) | fail)
                go_wp2_with (first | (go_at_call 10; refine (num15 _ _ (by omega) (by omega)).mono ?_; rintro e w12 ⟨rfl, e9⟩; rw [e9]; clear e9) | fail)
                all_goals (
                  go_roundw
                  case rel => exact ⟨I + 1, SK, NR, va, vc, by first | rfl | go_num, by first | rfl | go_num, by first | rfl | go_num, by omega, by omega, R, H9⟩
                  case measure => simp [intOf]; omega)
              · rw [hf0] at HSE d3 HSB
                clear hf0 HFR
                go_upto_region 22 with (first | (go_at_call 19; refine HSE.out.mono ?_; rintro e w5 ⟨rfl, H5⟩) | (go_at_call 10; refine (num15 _ _ (by omega) (by omega)).mono ?_; rintro e w12 ⟨rfl, e9⟩; rw [e9]; clear e9) | fail)
                clear HSE d3
                have hnew := heap_alloc_new w5 (.cells #[.int .i64 0, .int .i64 p, .int .i64 NR] 3)
                have H6 := hidden (H5.out.later (show Below w5.heap.size w5 (w5.alloc (.cells #[.int .i64 0, .int .i64 p, .int .i64 NR] 3)) from (Below.refl _ _).alloc (Nat.le_refl _) _))
                have hcb : (w5.alloc (.cells #[.int .i64 0, .int .i64 p, .int .i64 NR] 3)).cell? ⟨w5.heap.size, 2, none⟩ = some (.int .i64 (NR : Int)) := by unfold World.cell?; rw [hnew]; rfl
                clear hnew H5
                generalize w5.alloc (.cells #[.int .i64 0, .int .i64 p, .int .i64 NR] 3) = w6 at *
                generalize w5.heap.size = Q5 at *
                have w1_ : IntKind.i64.wrap ((NR : Int) + BY) = (NR : Int) + BY := by rw [IntKind.wrap_i64]; omega
                have w2_ : min (max ((NR : Int) + BY) 0) (NR : Int) = (SK : Int) := HSB.out.symm
                skip
                skip
                have HTE := hidden (sk_tell H6.out)
                clear H6 HSB
                go_upto_region 37 with (first | (go_at_call 15; refine HTE.out.mono ?_; rintro e w9 ⟨rfl, H9⟩) | fail)
                go_wp2_with (first | (go_at_call 10; refine (num15 _ _ (by omega) (by omega)).mono ?_; rintro e w12 ⟨rfl, e9⟩; rw [e9]; clear e9) | fail)
                all_goals (
                  go_roundw
                  case rel => exact ⟨I + 1, SK, NR, va, vc, by first | rfl | go_num, by first | rfl | go_num, by first | rfl | go_num, by omega, by omega, R, H9⟩
                  case measure => simp [intOf]; omega)
            · have HSE := hidden (sk_bad HSK2.out BY x.f ⟨fun e => hfr (.inl e), fun e => hfr (.inr (.inl e)), fun e => hfr (.inr (.inr e))⟩)
              clear HSK2 HXB
              generalize x.f = FR at *
              have hff : ¬ (0 ≤ FR ∧ FR ≤ 2) := by omega
              by_cases hf0 : 0 ≤ FR
              · have hf1 : ¬ FR ≤ 2 := by omega
                clear hff hfr
                go_wp2_with (first | (go_at_call 19; refine HSE.out.mono ?_; rintro e w5 ⟨rfl, H5⟩) | (go_at_call 10; refine (num15 _ _ (by omega) (by omega)).mono ?_; rintro e w12 ⟨rfl, e9⟩; rw [e9]; clear e9) | fail)
                all_goals (
                  go_roundw
                  case rel => exact ⟨I + 1, p, NR, va, vc, by first | rfl | go_num, by first | rfl | go_num, by first | rfl | go_num, by omega, by omega, R, H5⟩
                  case measure => simp [intOf]; omega)
              · clear hff hfr
                go_wp2_with (first | (go_at_call 19; refine HSE.out.mono ?_; rintro e w5 ⟨rfl, H5⟩) | (go_at_call 10; refine (num15 _ _ (by omega) (by omega)).mono ?_; rintro e w12 ⟨rfl, e9⟩; rw [e9]; clear e9) | fail)
                all_goals (
                  go_roundw
                  case rel => exact ⟨I + 1, p, NR, va, vc, by first | rfl | go_num, by first | rfl | go_num, by first | rfl | go_num, by omega, by omega, R, H5⟩
                  case measure => simp [intOf]; omega)
    · obtain rfl : I = len := by omega
      have l1 : ¬ ((I : Int) < (I : Int)) := by omega
      have HG : Hid (Calls Try.prog 20 #[.pointer (some ⟨BB, 0, none⟩), .string ⟨#[102]⟩] wr fun e w' => ∃ a' c', e = .returned (.tuple #[.slice a' (4 * NR) c', .bool true]) ∧ Hid (Below BB w w')) := hidden (by
        obtain ⟨h1, _, _, rd, wr', hL⟩ := HSK.out
        have := lf_get hL (by omega)
        rw [h1] at this
        exact this.mono (by rintro e w' ⟨a', c', rfl, H⟩; exact ⟨a', c', rfl, hidden H.out.1⟩))
      have m1 : IntKind.i64.wrap (4 * (NR : Int)) = ((4 * NR : Nat) : Int) := by rw [IntKind.wrap_i64]; omega
      have HLIV : Hid (∀ w5, Below BB w w5 → Calls Try.prog 11 #[] w5 fun e w' => e = .returned (.bool true) ∧ Hid (Below BB w w')) := hidden (fun w5 hb => (live_any w5).mono (fun e w' hh => ⟨hh.1, hidden (hb.trans (hh.2.mono (by have := hb.size; have := HBB.out; omega)))⟩))
      clear HSK HV
      obtain ⟨N4, hN4⟩ : ∃ N4, 4 * NR = N4 := ⟨_, rfl⟩
      rw [hN4] at HG m1
      clear hN4
      go_wp2_with (first | (go_at_call 20; refine HG.out.mono ?_; rintro e w5 ⟨a5, c5, rfl, H5⟩) | (go_at_call 11; refine (HLIV.out _ H5.out).mono ?_; rintro e w6 ⟨rfl, H6⟩) | fail)
      go_ret
      exact ⟨rfl, by first | exact H6.out | (rw [HBB.out]; exact H6.out)⟩
theorem shelfSeeks_walk (a : Option Addr) (len cap : Nat) (ss : List St) (w : World) (h : IsSteps w a len cap ss) :
    Calls Try.prog 5 #[.slice a len cap] w fun e w' => e = .returned (.bool true) ∧ Below w.heap.size w w' := by
  by_cases hl : len ≤ 400
  · exact seeks_main a len cap ss w h hl
  · have g1 : (len : Int) > 400 := by omega
    clear h hl
    go_enter Try.func5, Try.ntmps5
    go_wp2_with (go_at_call 11; refine (live_any _).mono ?_; rintro e w13 ⟨rfl, hb13⟩)
    go_ret
    exact ⟨rfl, hb13⟩
end Go.Proofs.Ytmohnopegacahaa
