/- Contract of package code's Decode. -/
import Derived.Test.YtpkfmccnjandoaaC11i
import Derived.Deep.RegionLaw
namespace Go.Proofs.Ytpkfmccnjandoaa
open Go.RowKit
set_option maxHeartbeats 1000000
set_option maxRecDepth 100000
set_option linter.unusedVariables false

/-- a slice of operands that reads as l -/
def Ops (w : World) (a : Option Addr) (n c : Nat) (l : List Od) : Prop :=
  l.length = n ∧ n ≤ c ∧ (0 < n → ∃ g o, a = some ⟨g, o, none⟩ ∧ ∀ i, i < n → w.cell? ⟨g, o + i * 2, none⟩ = some (.int .i64 (l.getD i (0, 0)).1) ∧ w.cell? ⟨g, o + i * 2 + 1, none⟩ = some (.int .u32 (l.getD i (0, 0)).2))
theorem Ops.later {w w' : World} {a : Option Addr} {n c : Nat} {l : List Od} (h : Ops w a n c l) (hb : Below w.heap.size w w') : Ops w' a n c l := by
  obtain ⟨h1, h2, h3⟩ := h
  refine ⟨h1, h2, fun h0 => ?_⟩
  obtain ⟨g, o, rfl, hc⟩ := h3 h0
  exact ⟨g, o, rfl, fun i hi => ⟨cellLater hb (hc i hi).1, cellLater hb (hc i hi).2⟩⟩
theorem ops_nil (w : World) : Ops w none 0 0 [] := ⟨rfl, Nat.le_refl _, fun h => by omega⟩
theorem OpRow.ops {w : World} {G : Nat} {l : List Od} (h : OpRow w G l) (n : Nat) (hn : l.length = n) : Ops w (some ⟨G, 0, none⟩) n n l := by
  refine ⟨hn, Nat.le_refl _, fun _ => ⟨G, 0, rfl, fun i hi => ?_⟩⟩
  have := h.at_ i (by omega)
  rw [Nat.zero_add]
  exact ⟨this.1.1, this.2.1⟩
/-- what the bytes say from a place on: the error, the number, the operands, how many bytes -/
def decR (zs : List Int) (at_ : Int) : Int × Int × List Od × Int :=
  if at_ < 0 then (1, 0, [], 0) else match numO zs at_.toNat with
  | none => (90, 0, [], 0)
  | some (op, q) => match opR op with
    | none => (110, 0, [], 0)
    | some r => if (argR zs r.2.2 q).1 = 0 then (0, op, (argR zs r.2.2 q).2.1, ((argR zs r.2.2 q).2.2 : Int) - at_) else ((argR zs r.2.2 q).1, 0, [], 0)
def DRet (w w' : World) (r : Int × Int × List Od × Int) (e : Ending) : Prop :=
  ∃ a c, e = .returned (.tuple #[.agg #[.int .u32 r.2.1, .slice a r.2.2.1.length c], .int .i64 r.2.2.2, .int .i64 r.1]) ∧ Ops w' a r.2.2.1.length c r.2.2.1 ∧ Below w.heap.size w w'
def IB (w : World) (B : Nat) (op : Int) (a : Option Addr) (n c : Nat) : Prop := w.heap[B]? = some (.cells #[.int .u32 op, .slice a n c] 28 (0, 0))
theorem ib_box {w : World} {B : Nat} {op : Int} {a : Option Addr} {n c : Nat} (h : IB w B op a n c) : w.cell? ⟨B, 0, none⟩ = some (.int .u32 op) ∧ w.cell? ⟨B, 1, none⟩ = some (.slice a n c) ∧ w.frozen? ⟨B, 0, none⟩ = false ∧ w.frozen? ⟨B, 1, none⟩ = false := by
  have h' : w.heap[B]? = _ := h
  simp [World.cell?, World.frozen?, h']
theorem ib_set {w : World} {B : Nat} {op : Int} {a : Option Addr} {n c : Nat} (h : IB w B op a n c) (op' : Int) (a' : Option Addr) (n' c' : Nat) : IB ((w.setCell ⟨B, 0, none⟩ (.int .u32 op')).setCell ⟨B, 1, none⟩ (.slice a' n' c')) B op' a' n' c' := by
  have h' : w.heap[B]? = _ := h
  unfold IB
  simp [World.setCell, Array.getElem?_modify, h']
theorem tab_s8 : (tab.all fun r => decide (r.2.2.length ≤ 8)) = true := by kernel_rfl
theorem tab_short {r : Rw} (h : r ∈ tab) : r.2.2.length ≤ 8 := of_decide_eq_true (List.all_eq_true.1 tab_s8 r h)
theorem decode_neg (v : Value) (at_ : Int) (w : World) (h : at_ < 0) :
    Calls Try.prog 11 #[v, .int .i64 at_] w fun e w' => DRet w w' (1, 0, [], 0) e := by
  go_enter Try.func11, Try.ntmps11
  go_wp2
  have hi : IB (w.alloc (.cells #[.int .u32 0, .slice none 0 0] 28)) w.heap.size 0 none 0 0 := heap_alloc_new _ _
  obtain ⟨k0, k1, _, _⟩ := ib_box hi
  refine bodyPost_ret (v := .tuple #[.agg #[.int .u32 0, .slice none 0 0], .int .i64 0, .int .i64 1]) (by simp [results, Try.results11, go_sem, k0, k1]) rfl ⟨none, 0, rfl, ops_nil _, ?_⟩
  exact (Below.refl _ _).alloc (Nat.le_refl _) _
/-- the world in which the reader is made -/
abbrev dW (w : World) (a : Option Addr) (n c p : Nat) : World := (w.alloc (.cells #[.int .u32 0, .slice none 0 0] 28)).alloc (.cells #[.slice a n c, .int .i64 p] 57)
theorem dW_facts (w : World) (a : Option Addr) (n c p : Nat) : RdBox (dW w a n c p) (w.heap.size + 1) a n c p ∧ IB (dW w a n c p) w.heap.size 0 none 0 0 ∧ Below w.heap.size w (dW w a n c p) := by
  refine ⟨?_, ?_, ?_⟩
  · have := heap_alloc_new (w.alloc (.cells #[.int .u32 0, .slice none 0 0] 28)) (.cells #[.slice a n c, .int .i64 p] 57)
    rw [World.size_alloc] at this
    exact this
  · exact (heap_alloc_old _ _ (by rw [World.size_alloc]; omega)).trans (heap_alloc_new _ _)
  · exact ((Below.refl _ _).alloc (Nat.le_refl _) _).alloc (by rw [World.size_alloc]; omega) _
theorem IB.fr {R B n c : Nat} {w w' : World} {op : Int} {a : Option Addr} (h : IB w B op a n c) (hB : B ≠ R) (f : FR R w w') : IB w' B op a n c := (f.block B (Array.getElem?_eq_some_iff.1 h).1 hB).trans h
theorem IB.later {B n c : Nat} {w w' : World} {op : Int} {a : Option Addr} (h : IB w B op a n c) (hb : Below w.heap.size w w') : IB w' B op a n c := (hb.block B (Array.getElem?_eq_some_iff.1 h).1).trans h
theorem RdBox.later {R n c p : Nat} {w w' : World} {a : Option Addr} (h : RdBox w R a n c p) (hb : Below w.heap.size w w') : RdBox w' R a n c p := (hb.block R (Array.getElem?_eq_some_iff.1 h).1).trans h
theorem FR.below {R B : Nat} {w w' : World} (f : FR R w w') (h1 : B ≤ w.heap.size) (h2 : B ≤ R) : Below B w w' := Fm.below f h1 (fun k hk => by rw [hk]; exact h2)
/-- its number is wrong -/
theorem decode_op (a : Option Addr) (n c p : Nat) (E : Int) (w : World) (hE : ¬ E = 0)
    (hop : Calls Try.prog 25 #[.pointer (some ⟨w.heap.size + 1, 0, none⟩)] (dW w a n c p) fun e w' => e = .returned (.tuple #[.int .u32 0, .int .i64 E]) ∧ FR (w.heap.size + 1) (dW w a n c p) w') :
    Calls Try.prog 11 #[.slice a n c, .int .i64 p] w fun e w' => DRet w w' (E, 0, [], 0) e := by
  have d : ¬ (p : Int) < 0 := by omega
  have q : (E == 0) = false := by simpa using hE
  obtain ⟨_, hi0, hb0⟩ := dW_facts w a n c p
  have HOP := hidden (hop.mono (fun e w' hh => (⟨hh.1, hi0.fr (by omega) hh.2, hb0.trans (hh.2.below hb0.size (by omega))⟩ : _ ∧ IB w' w.heap.size 0 none 0 0 ∧ Below w.heap.size w w')))
  clear hop hi0 hb0
  go_enter Try.func11, Try.ntmps11
  go_wp2_with (first | (go_at_call 25; refine HOP.out.mono ?_; rintro e w1 ⟨rfl, hi, hb⟩; have HI := hidden hi; have HB := hidden hb; obtain ⟨c0, c1, f0, f1⟩ := ib_box hi; clear hi hb))
  obtain ⟨k0, k1, _, _⟩ := ib_box (ib_set HI.out 0 none 0 0)
  refine bodyPost_ret (v := .tuple #[.agg #[.int .u32 0, .slice none 0 0], .int .i64 0, .int .i64 E]) (by simp [results, Try.results11, go_sem, k0, k1]) rfl ⟨none, 0, rfl, ops_nil _, ?_⟩
  have hb := HB.out
  go_grown
/-- there is no instruction with its number -/
theorem decode_sig (a : Option Addr) (n c p : Nat) (op : Int) (S : ByteArray) (w : World)
    (hop : Calls Try.prog 25 #[.pointer (some ⟨w.heap.size + 1, 0, none⟩)] (dW w a n c p) fun e w' => e = .returned (.tuple #[.int .u32 op, .int .i64 0]) ∧ FR (w.heap.size + 1) (dW w a n c p) w')
    (hsg : ∀ wx, Calls Try.prog 26 #[.int .u32 op] wx fun e w' => e = .returned (.tuple #[.string S, .bool false]) ∧ Below wx.heap.size wx w') :
    Calls Try.prog 11 #[.slice a n c, .int .i64 p] w fun e w' => DRet w w' (110, 0, [], 0) e := by
  have d : ¬ (p : Int) < 0 := by omega
  obtain ⟨_, hi0, hb0⟩ := dW_facts w a n c p
  have HOP := hidden (hop.mono (fun e w' hh => (⟨hh.1, hi0.fr (by omega) hh.2, hb0.trans (hh.2.below hb0.size (by omega))⟩ : _ ∧ IB w' w.heap.size 0 none 0 0 ∧ Below w.heap.size w w')))
  have HSG := hidden hsg
  clear hop hi0 hb0 hsg
  go_enter Try.func11, Try.ntmps11
  go_wp2_with (first | (go_at_call 25; refine HOP.out.mono ?_; rintro e w1 ⟨rfl, hi, hb⟩; have HI := hidden hi; have HB := hidden hb; clear hi hb) | (go_at_call 26; refine (HSG.out _).mono ?_; rintro e w2 ⟨rfl, hb2⟩; have HI2 := hidden (HI.out.later hb2); have HB2 := hidden (HB.out.trans (hb2.mono HB.out.size)); obtain ⟨c0, c1, f0, f1⟩ := ib_box HI2.out; clear hb2))
  obtain ⟨k0, k1, _, _⟩ := ib_box (ib_set HI2.out 0 none 0 0)
  refine bodyPost_ret (v := .tuple #[.agg #[.int .u32 0, .slice none 0 0], .int .i64 0, .int .i64 110]) (by simp [results, Try.results11, go_sem, k0, k1]) rfl ⟨none, 0, rfl, ops_nil _, ?_⟩
  have hb := HB2.out
  go_grown
/-- its operands are wrong -/
theorem decode_arg (a : Option Addr) (n c p : Nat) (op E : Int) (S : ByteArray) (w : World) (hE : ¬ E = 0) (H : World → Prop)
    (hop : Calls Try.prog 25 #[.pointer (some ⟨w.heap.size + 1, 0, none⟩)] (dW w a n c p) fun e w' => e = .returned (.tuple #[.int .u32 op, .int .i64 0]) ∧ FR (w.heap.size + 1) (dW w a n c p) w' ∧ H w')
    (hsg : ∀ wx, Calls Try.prog 26 #[.int .u32 op] wx fun e w' => e = .returned (.tuple #[.string S, .bool true]) ∧ Below wx.heap.size wx w')
    (har : ∀ w1 w2, H w1 → Below w1.heap.size w1 w2 → Calls Try.prog 27 #[.pointer (some ⟨w.heap.size + 1, 0, none⟩), .string S] w2 fun e w' => e = .returned (.tuple #[.slice none 0 0, .int .i64 E]) ∧ FR (w.heap.size + 1) w2 w') :
    Calls Try.prog 11 #[.slice a n c, .int .i64 p] w fun e w' => DRet w w' (E, 0, [], 0) e := by
  have d : ¬ (p : Int) < 0 := by omega
  have q : (E == 0) = false := by simpa using hE
  obtain ⟨_, hi0, hb0⟩ := dW_facts w a n c p
  have HOP := hidden (hop.mono (fun e w' hh => (⟨hh.1, hi0.fr (by omega) hh.2.1, hb0.trans (hh.2.1.below hb0.size (by omega)), hh.2.2⟩ : _ ∧ IB w' w.heap.size 0 none 0 0 ∧ Below w.heap.size w w' ∧ H w')))
  have HSG := hidden hsg
  have HAR := hidden har
  clear hop hi0 hb0 hsg har
  go_enter Try.func11, Try.ntmps11
  go_wp2_with (first | (go_at_call 25; refine HOP.out.mono ?_; rintro e w1 ⟨rfl, hi, hb, hh⟩; have HI := hidden hi; have HB := hidden hb; have HH := hidden hh; clear hi hb hh) | (go_at_call 26; refine (HSG.out _).mono ?_; rintro e w2 ⟨rfl, hb2⟩; have HI2 := hidden (HI.out.later hb2); have HB2 := hidden (HB.out.trans (hb2.mono HB.out.size)); have HA2 := hidden (HAR.out _ _ HH.out hb2); clear hb2) | (go_at_call 27; refine HA2.out.mono ?_; rintro e w3 ⟨rfl, hf3⟩; have HI3 := hidden (HI2.out.fr (by omega) hf3); have HB3 := hidden (HB2.out.trans (hf3.below HB2.out.size (by omega))); obtain ⟨c0, c1, f0, f1⟩ := ib_box HI3.out; clear hf3))
  obtain ⟨k0, k1, _, _⟩ := ib_box (ib_set HI3.out 0 none 0 0)
  refine bodyPost_ret (v := .tuple #[.agg #[.int .u32 0, .slice none 0 0], .int .i64 0, .int .i64 E]) (by simp [results, Try.results11, go_sem, k0, k1]) rfl ⟨none, 0, rfl, ops_nil _, ?_⟩
  have hb := HB3.out
  go_grown
/-- it is one -/
theorem decode_ok (a : Option Addr) (n c p Q k : Nat) (op : Int) (l : List Od) (S : ByteArray) (w : World) (hQ : Q ≤ 4000000) (hp : p ≤ 4000000) (hk : l.length = k) (H : World → Prop)
    (hop : Calls Try.prog 25 #[.pointer (some ⟨w.heap.size + 1, 0, none⟩)] (dW w a n c p) fun e w' => e = .returned (.tuple #[.int .u32 op, .int .i64 0]) ∧ FR (w.heap.size + 1) (dW w a n c p) w' ∧ H w')
    (hsg : ∀ wx, Calls Try.prog 26 #[.int .u32 op] wx fun e w' => e = .returned (.tuple #[.string S, .bool true]) ∧ Below wx.heap.size wx w')
    (har : ∀ w1 w2, H w1 → Below w1.heap.size w1 w2 → Calls Try.prog 27 #[.pointer (some ⟨w.heap.size + 1, 0, none⟩), .string S] w2 fun e w' => ∃ G, e = .returned (.tuple #[.slice (some ⟨G, 0, none⟩) k k, .int .i64 0]) ∧ FR (w.heap.size + 1) w2 w' ∧ OpRow w' G l ∧ w2.heap.size ≤ G ∧ RdBox w' (w.heap.size + 1) a n c Q) :
    Calls Try.prog 11 #[.slice a n c, .int .i64 p] w fun e w' => DRet w w' (0, op, l, (Q : Int) - p) e := by
  have d : ¬ (p : Int) < 0 := by omega
  have hw : IntKind.i64.wrap ((Q : Int) - (p : Int)) = (Q : Int) - (p : Int) := by rw [IntKind.wrap_i64]; omega
  obtain ⟨_, hi0, hb0⟩ := dW_facts w a n c p
  have HOP := hidden (hop.mono (fun e w' hh => (⟨hh.1, hi0.fr (by omega) hh.2.1, hb0.trans (hh.2.1.below hb0.size (by omega)), hh.2.2⟩ : _ ∧ IB w' w.heap.size 0 none 0 0 ∧ Below w.heap.size w w' ∧ H w')))
  have HSG := hidden hsg
  have HAR := hidden har
  have HL := hidden hk
  clear hop hi0 hb0 hsg har hk
  go_enter Try.func11, Try.ntmps11
  go_wp2_with (first | (go_at_call 25; refine HOP.out.mono ?_; rintro e w1 ⟨rfl, hi, hb, hh⟩; have HI := hidden hi; have HB := hidden hb; have HH := hidden hh; clear hi hb hh) | (go_at_call 26; refine (HSG.out _).mono ?_; rintro e w2 ⟨rfl, hb2⟩; have HI2 := hidden (HI.out.later hb2); have HB2 := hidden (HB.out.trans (hb2.mono HB.out.size)); have HA2 := hidden (HAR.out _ _ HH.out hb2); clear hb2) | (go_at_call 27; refine HA2.out.mono ?_; rintro e w3 ⟨G, rfl, hf3, ho3, hg3, hx3⟩; have HI3 := hidden (HI2.out.fr (by omega) hf3); have HB3 := hidden (HB2.out.trans (hf3.below HB2.out.size (by omega))); have HO3 := hidden ho3; have HX3 := hidden hx3; have hG3 : w.heap.size < G := (by have := (Array.getElem?_eq_some_iff.1 HI2.out).1; omega); obtain ⟨c0, c1, f0, f1⟩ := ib_box HI3.out; obtain ⟨r0, r1, _, _⟩ := rd_box hx3; clear hf3 ho3 hx3 hg3))
  go_region
  all_goals (try go_wp2)
  have HI4 := hidden (ib_set HI3.out op (some ⟨G, 0, none⟩) k k)
  have HO4 : Hid (OpRow ((w3.setCell ⟨w.heap.size, 0, none⟩ (.int .u32 op)).setCell ⟨w.heap.size, 1, none⟩ (.slice (some ⟨G, 0, none⟩) k k)) G l) := ((heap_setCell_other _ _ _ _ (show G ≠ w.heap.size by omega)).trans (heap_setCell_other _ _ _ _ (show G ≠ w.heap.size by omega))).trans HO3.out
  obtain ⟨k0, k1, _, _⟩ := ib_box HI4.out
  refine bodyPost_ret (v := .tuple #[.agg #[.int .u32 op, .slice (some ⟨G, 0, none⟩) k k], .int .i64 ((Q : Int) - p), .int .i64 0]) (by simp [results, Try.results11, go_sem, k0, k1]) rfl ⟨some ⟨G, 0, none⟩, k, ?_, ?_, ?_⟩
  · rw [HL.out]
  · show Ops _ _ l.length k l
    rw [HL.out]
    exact (OpRow.ops HO4.out k HL.out).later ((Below.refl _ _).drew)
  · have hb := HB3.out
    go_grown
/-- Decode of any bytes at any place -/
theorem decode_any (a : Option Addr) (n c : Nat) (at_ : Int) (zs : List Int) (w : World) (hr : Reads w a n c zs) (hb : OkB zs) (hn : n ≤ 2000000) (ha : at_ ≤ 9223372036854775807) :
    Calls Try.prog 11 #[.slice a n c, .int .i64 at_] w fun e w' => DRet w w' (decR zs at_) e := by
  have hl := hr.1
  have hc := hr.2.1
  unfold decR
  by_cases h0 : at_ < 0
  · rw [if_pos h0]
    exact decode_neg _ at_ w h0
  · rw [if_neg h0]
    obtain ⟨p, rfl⟩ := Int.eq_ofNat_of_zero_le (by omega : 0 ≤ at_)
    rw [Int.toNat_natCast]
    obtain ⟨hx0, hi0, hb0⟩ := dW_facts w a n c p
    by_cases hp : n ≤ p
    · have e : numO zs p = none := by unfold numO; rw [if_pos (by omega)]
      rw [e]
      refine decode_op a n c p 90 w (by decide) ((kopr_short _ a n c p _ hx0 hp ha hn).mono (fun e w' hh => ⟨hh.1, Fm.same hh.2.below⟩))
    · obtain ⟨g, o, rfl, hB⟩ := hr.bs (by omega)
      have hg : g < w.heap.size := World.block_lt_of_cell? _ _ (hB.2 0 (by omega))
      have hB0 := hB.later hb0
      have hkop := kopr_any (w.heap.size + 1) g o n c p zs _ hx0 hB0 hb (by omega) hc (by omega) hn
      cases hnum : numO zs p with
      | none =>
        rw [hnum] at hkop
        exact decode_op _ n c p 90 w (by decide) hkop
      | some x =>
        obtain ⟨op, q⟩ := x
        rw [hnum] at hkop
        simp only at hkop ⊢
        have hq : q ≤ n := by
          unfold numO at hnum
          split at hnum
          · cases hnum
          · split at hnum
            · cases hnum
            · simp only [Option.some.injEq, Prod.mk.injEq] at hnum; omega
        have hsg := fun wx => ksig_any op wx
        cases hsig : opR op with
        | none =>
          rw [hsig] at hsg
          simp only
          exact decode_sig _ n c p op _ w (hkop.mono (fun e w' hh => ⟨hh.1, hh.2.2⟩)) hsg
        | some r =>
          rw [hsig] at hsg
          have hr8 : r.2.2.length ≤ 8 := by
            have hm : r ∈ tab := by unfold opR at hsig; exact List.mem_of_find?_eq_some hsig
            exact tab_short hm
          simp only
          have har : ∀ w1 w2, (RdBox w1 (w.heap.size + 1) (some ⟨g, o, none⟩) n c q ∧ Bs w1 g o n zs) → Below w1.heap.size w1 w2 → _ := fun w1 w2 hh hb2 => kargs_any (w.heap.size + 1) g o n c q zs r.2.2 w2 (hh.1.later hb2) (hh.2.later hb2) hb (by omega) hc hq hn hr8
          have hkop2 := hkop.mono (R' := fun e w' => e = .returned (.tuple #[.int .u32 op, .int .i64 0]) ∧ FR (w.heap.size + 1) _ w' ∧ (RdBox w' (w.heap.size + 1) (some ⟨g, o, none⟩) n c q ∧ Bs w' g o n zs)) (fun e w' hh => ⟨hh.1, hh.2.2, hh.2.1, hB0.fr (by omega) hh.2.2⟩)
          by_cases hE : (argR zs r.2.2 q).1 = 0
          · rw [if_pos hE]
            have hres : ∃ l2 q2, argsO zs (nibL zs q r.2.2.length) (q + (r.2.2.length + 1) / 2) = some (l2, q2) ∧ argR zs r.2.2 q = (0, l2, q2) := by
              unfold argR at hE ⊢
              split at hE
              · rename_i h; exact (h hE).elim
              · rename_i h
                rw [if_neg h]
                cases hao : argsO zs (nibL zs q r.2.2.length) (q + (r.2.2.length + 1) / 2) with
                | none => rw [hao] at hE; cases hE
                | some x => exact ⟨x.1, x.2, rfl, rfl⟩
            obtain ⟨l2, q2, hao, hrr⟩ := hres
            obtain ⟨hl2, hq2, hq3⟩ := args_len zs _ _ _ hao
            have hmd : q + (r.2.2.length + 1) / 2 ≤ n := by
              have hE' : mdsE zs r.2.2 q = 0 := by
                by_cases h : mdsE zs r.2.2 q = 0
                · exact h
                · unfold argR at hE; rw [if_pos h] at hE; exact hE
              unfold mdsE at hE'
              by_cases h : zs.length < q + (r.2.2.length + 1) / 2
              · rw [if_pos h] at hE'; cases hE'
              · omega
            rw [hrr]
            have hk : l2.length = r.2.2.length := by simpa [nibL] using hl2
            have hq4 := hq3 (by omega)
            simp only at hq4
            refine decode_ok _ n c p q2 r.2.2.length op l2 _ w (by omega) (by omega) hk _ hkop2 hsg (fun w1 w2 hh hb2 => (har w1 w2 hh hb2).mono (fun e w' hh => ?_))
            obtain ⟨hf, _, h2⟩ := hh
            obtain ⟨G, he, ho, hG, hx⟩ := h2 hE
            rw [hrr] at ho hx
            exact ⟨G, he, hf, ho, hG, hx⟩
          · rw [if_neg hE]
            refine decode_arg _ n c p op _ _ w hE _ hkop2 hsg (fun w1 w2 hh hb2 => (har w1 w2 hh hb2).mono (fun e w' hh => ⟨hh.2.1 hE, hh.1⟩))
end Go.Proofs.Ytpkfmccnjandoaa
