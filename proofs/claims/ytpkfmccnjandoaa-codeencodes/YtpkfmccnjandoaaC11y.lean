/- Contract of package code's Encode: the operands held against the letters. -/
import Derived.Test.YtpkfmccnjandoaaC11x
namespace Go.Proofs.Ytpkfmccnjandoaa
open Go.RowKit
set_option maxHeartbeats 1000000
set_option maxRecDepth 100000
set_option linter.unusedVariables false

/-- may an operand with that letter be this one? -/
def okOd (c : UInt8) (p : Od) : Bool := mayB (c.toNat : Int) p.1 && (toldV p.1 (valB p) == p.2)
def okAll (ls : List UInt8) (l : List Od) : Bool := (List.range l.length).all fun i => okOd (ls.getD i 0) (l.getD i (0, 0))
/-- may it be laid? -/
def encOk (op : Int) (l : List Od) : Bool := match opR op with
  | none => false
  | some r => l.length == r.2.2.length && okAll r.2.2 l
def encL (op : Int) (l : List Od) : List Int := opB op ++ mdB l ++ l.flatMap valB
def ERet (w w' : World) (op : Int) (l : List Od) (e : Ending) : Prop := Below w.heap.size w w' ∧ (encOk op l = false → e = .returned (.tuple #[.slice none 0 0, .int .i64 1])) ∧
  (encOk op l = true → ∃ a c, e = .returned (.tuple #[.slice a (encL op l).length c, .int .i64 0]) ∧ w'.ownsRow w.heap.size 5 1 (.slice a (encL op l).length c) (encL op l).length (bytesV (encL op l)))
theorem okAll_no {ls : List UInt8} {l : List Od} {i : Nat} (hi : i < l.length) (h : okOd (ls.getD i 0) (l.getD i (0, 0)) = false) : okAll ls l = false := by
  unfold okAll
  rw [List.all_eq_false]
  exact ⟨i, by simpa using hi, by rw [h]; simp⟩
theorem okAll_yes {ls : List UInt8} {l : List Od} (h : ∀ i, i < l.length → okOd (ls.getD i 0) (l.getD i (0, 0)) = true) : okAll ls l = true := by
  unfold okAll
  rw [List.all_eq_true]
  intro i hi
  exact h i (by simpa using hi)
theorem widL_bd : (widL.all fun p => decide (0 ≤ p.1 ∧ p.1 ≤ 15)) = true := by decide
theorem okM_bd {m : Int} (h : okM m = true) : 0 ≤ m ∧ m ≤ 15 := by
  by_cases hk : ∃ p ∈ widL, m = p.1
  · obtain ⟨p, hp, rfl⟩ := hk
    exact of_decide_eq_true (List.all_eq_true.1 widL_bd p hp)
  · unfold okM at h
    rw [look_else m _ widL (fun p hp e => hk ⟨p, hp, e⟩)] at h
    cases h
theorem step_appR {w : World} {ops : Array Oper} {o : Oper} {a : Act} {K : Act → World → Prop} {Q : Exit → Act → World → Prop} {E : Prop} (hgd : o.guard = none) (s x : Operand)
    (ho : o.op = .call { callee := .builtin .append, args := #[s, x], argTypes := #[22, 22] })
    (base g n c m c0 : Nat) (sa : Option Addr) (zs ds : List Int) (hs : a.eval s = .slice (some ⟨g, 0, none⟩) n c) (hx : a.eval x = .slice sa m c0) (hown : w.ownsRow base 5 1 (.slice (some ⟨g, 0, none⟩) n c) n (bytesV zs)) (hr : Reads w sa m c0 ds) (h63 : n + m ≤ 4294967296) (hbase : base ≤ w.heap.size)
    (h : ∀ g' c' w', w'.ownsRow base 5 1 (.slice (some ⟨g', 0, none⟩) (n + m) c') (n + m) (bytesV (zs ++ ds)) → Below base w w' → K (a.put o.dst (.slice (some ⟨g', 0, none⟩) (n + m) c')) w') :
    if Region.wanted o (yielded ops a.tmps) = true then Oper.wp Try.prog o a w K Q else E := by
  have hw : Region.wanted o (yielded ops a.tmps) = true := by simp [Region.wanted, hgd]
  rw [if_pos hw]
  obtain ⟨g', c', w', hrun, h1, h2⟩ := app_reads base g n c m c0 sa zs ds w hown hr h63 hbase
  have hK := h g' c' w' h1 (h2.below hbase (fun k e => (hown.lt k e).1))
  unfold Oper.wp
  simp [execOp, ho, resolve, invoke, builtin, hs, hx, hrun, Result.andThen]
  exact hK
theorem own_any {w : World} {B l c : Nat} {a : Option Addr} {zs : List Int} (h : w.ownsRow B 5 1 (.slice a l c) l (bytesV zs)) (hl : zs.length = l) : Reads w a l c zs := by
  by_cases h0 : l = 0
  · subst h0
    obtain rfl := List.eq_nil_of_length_eq_zero hl
    rcases Joins.ownsRow_forms h with ⟨e, _⟩ | ⟨g, cap, e⟩
    · cases e; exact ⟨rfl, Nat.le_refl _, .inl ⟨rfl, rfl, rfl⟩⟩
    · cases e; exact ⟨rfl, by omega, .inr ⟨_, rfl, fun i hi => by omega⟩⟩
  · obtain ⟨g, cap, e, _, _⟩ := owned_shape h (by omega)
    cases e
    exact own_reads h
theorem enc_few (op : Int) (a : Option Addr) (n c : Nat) (l : List Od) (w : World) (h : Ops w a n c l) (hn : n ≤ 1000) (ho : opR op = none ∨ ∃ r, opR op = some r ∧ n ≠ r.2.2.length) :
    Calls Try.prog 16 #[.agg #[.int .u32 op, .slice a n c]] w fun e w' => ERet w w' op l e := by
  have hl : l.length = n := h.1
  have HSg := hidden fun wx => ksig_any op wx
  have he : encOk op l = false := by
    unfold encOk
    rcases ho with ho | ⟨r, ho, hne⟩
    · rw [ho]
    · rw [ho]
      simp only
      rw [show (l.length == r.2.2.length) = false by simp; omega]
      rfl
  unfold ERet
  rw [he]
  have HI : Hid (∀ w1, Below (w.alloc (.cells #[.int .u32 op, .slice a n c] 28)).heap.size (w.alloc (.cells #[.int .u32 op, .slice a n c] 28)) w1 → Below w.heap.size w w1 ∧ w1.cell? ⟨w.heap.size, 0, none⟩ = some (.int .u32 op) ∧ w1.cell? ⟨w.heap.size, 1, none⟩ = some (.slice a n c)) := fun w1 hb => by
    have hi : IB (w.alloc (.cells #[.int .u32 op, .slice a n c] 28)) w.heap.size op a n c := heap_alloc_new _ _
    obtain ⟨k0, k1, _, _⟩ := ib_box hi
    exact ⟨((Below.refl _ _).alloc (Nat.le_refl _) _).trans (hb.mono (by rw [World.size_alloc]; omega)), cellLater hb k0, cellLater hb k1⟩
  clear h he
  rcases ho with ho | ⟨r, ho, hne⟩
  · rw [ho] at HSg
    change Hid (∀ wx, Calls Try.prog 26 #[.int .u32 op] wx fun e w' => e = .returned (.tuple #[.string ⟨#[]⟩, .bool false]) ∧ Below wx.heap.size wx w') at HSg
    clear ho
    go_enter Try.func16, Try.ntmps16
    go_wp2_with (first | (go_at_call 26; refine (HSg.out _).mono ?_; rintro e w1 ⟨rfl, hb1⟩; obtain ⟨hb, k0, k1⟩ := HI.out _ hb1; have HB := hidden hb; clear hb hb1))
    go_ret2
    exact ⟨HB.out, fun _ => rfl, fun h => by cases h⟩
  · rw [ho] at HSg
    change Hid (∀ wx, Calls Try.prog 26 #[.int .u32 op] wx fun e w' => e = .returned (.tuple #[.string ⟨r.2.2.toArray⟩, .bool true]) ∧ Below wx.heap.size wx w') at HSg
    generalize r.2.2 = LS at *
    clear ho
    have hsz : (⟨LS.toArray⟩ : ByteArray).size = LS.length := by simp [ByteArray.size]
    have q : ((n : Int) != (LS.length : Int)) = true := by simp; omega
    go_enter Try.func16, Try.ntmps16
    go_wp2_with (first | (go_at_call 26; refine (HSg.out _).mono ?_; rintro e w1 ⟨rfl, hb1⟩; obtain ⟨hb, k0, k1⟩ := HI.out _ hb1; have HB := hidden hb; clear hb hb1))
    go_ret2
    exact ⟨HB.out, fun _ => rfl, fun h => by cases h⟩
theorem below_dr {B : Nat} {w w1 w2 : World} (h : Below B w w1) (d : Dr w1 w2) : Below B w w2 := by
  obtain ⟨m, rfl⟩ := d
  exact ⟨h.os, h.tape, h.output, h.size, h.block⟩
theorem take_snoc (l : List Od) (j : Nat) (h : j < l.length) : l.take (j + 1) = l.take j ++ [l.getD j (0, 0)] := by
  rw [List.take_add_one, List.getElem?_eq_getElem h, List.getD_eq_getElem?_getD, List.getElem?_eq_getElem h]
  rfl
theorem enc_go (op : Int) (r : Rw) (a : Option Addr) (n c : Nat) (l : List Od) (w : World) (h : Ops w a n c l) (hn : n ≤ 8) (hop : opR op = some r) (hob : 0 ≤ op ∧ op ≤ 16383) (hne : n = r.2.2.length) :
    Calls Try.prog 16 #[.agg #[.int .u32 op, .slice a n c]] w fun e w' => ERet w w' op l e := by
  have hl : l.length = n := h.1
  have hcn : n ≤ c := h.2.1
  have HSg := hidden fun wx => ksig_any op wx
  have HE : Hid (encOk op l = okAll r.2.2 l) := by
    show _ = _
    unfold encOk
    rw [hop]
    simp only
    rw [show (l.length == r.2.2.length) = true by simp; omega]
    rfl
  have HI : Hid (∀ w1, Below (w.alloc (.cells #[.int .u32 op, .slice a n c] 28)).heap.size (w.alloc (.cells #[.int .u32 op, .slice a n c] 28)) w1 → Below w.heap.size w w1 ∧ IB w1 w.heap.size op a n c) := fun w1 hb => by
    have hi : IB (w.alloc (.cells #[.int .u32 op, .slice a n c] 28)) w.heap.size op a n c := heap_alloc_new _ _
    exact ⟨((Below.refl _ _).alloc (Nat.le_refl _) _).trans (hb.mono (by rw [World.size_alloc]; omega)), hi.later hb⟩
  rw [hop] at HSg
  change Hid (∀ wx, Calls Try.prog 26 #[.int .u32 op] wx fun e w' => e = .returned (.tuple #[.string ⟨r.2.2.toArray⟩, .bool true]) ∧ Below wx.heap.size wx w') at HSg
  have HOp := hidden h
  have HL := hidden hl
  clear h hop hl
  generalize r.2.2 = LS at *
  have hsz : (⟨LS.toArray⟩ : ByteArray).size = LS.length := by simp [ByteArray.size]
  have q : ((n : Int) != (LS.length : Int)) = false := by simp; omega
  have HNE := hidden hne
  clear hne
  go_enter Try.func16, Try.ntmps16
  go_wp2_with (first | (go_at_call 26; refine (HSg.out _).mono ?_; rintro e w1 ⟨rfl, hb1⟩; obtain ⟨hb, hi⟩ := HI.out _ hb1; have HB := hidden hb; have HIB := hidden hi; obtain ⟨k0, k1, _, _⟩ := ib_box hi; clear hb hb1 hi))
  clear HSg HI q k0 k1
  go_loopw [30] (fun i wr => ∃ k : Nat, k ≤ n ∧ i = .int .i64 k ∧ Hid (∀ j, j < k → okOd (LS.getD j 0) (l.getD j (0, 0)) = true) ∧ Hid (Below w.heap.size w wr) ∧ Hid (IB wr w.heap.size op a n c)) (fun i _ => n - (intOf i).toNat)
  case atStart => exact ⟨0, by omega, rfl, fun j hj => by omega, HB, HIB⟩
  case round =>
    clear HB HIB
    obtain ⟨k, hk, rfl, HJ, HB, HIB⟩ := hrel
    by_cases hlt : k < n
    · obtain ⟨g, o, rfl, hc⟩ := HOp.out.cells (by omega)
      have cm := cellLater HB.out (hc k hlt).1
      have cv := cellLater HB.out (hc k hlt).2
      have hix := idx_str LS k (by have := HNE.out; omega)
      have d1 : (k : Int) < (n : Int) := by omega
      have hw3 : IntKind.i64.wrap ((k : Int) + 1) = (k : Int) + 1 := by rw [IntKind.wrap_i64]; omega
      have HDf := hidden (show okOd (LS.getD k 0) (l.getD k (0, 0)) = (mayB ((LS.getD k 0).toNat : Int) (l.getD k (0, 0)).1 && (toldV (l.getD k (0, 0)).1 (valB ((l.getD k (0, 0)).1, (l.getD k (0, 0)).2)) == (l.getD k (0, 0)).2)) from rfl)
      have HNo : Hid (okOd (LS.getD k 0) (l.getD k (0, 0)) = false → encOk op l = false) := fun h => by rw [HE.out]; exact okAll_no (by have := HL.out; omega) h
      have HYe : Hid (okOd (LS.getD k 0) (l.getD k (0, 0)) = true → ∀ j, j < k + 1 → okOd (LS.getD j 0) (l.getD j (0, 0)) = true) := fun h j hj => by
        by_cases e : j < k
        · exact HJ.out j e
        · obtain rfl : j = k := by omega
          exact h
      clear hc HJ
      generalize okOd (LS.getD k 0) (l.getD k (0, 0)) = OKB at *
      generalize (l.getD k (0, 0)).1 = M at *
      generalize (l.getD k (0, 0)).2 = V at *
      generalize ((LS.getD k 0).toNat : Int) = LC at *
      have HMy := hidden fun wx => kmay_any LC M wx
      have HVb := hidden fun wx => kvalb_any M V wx
      have HTo : Hid (∀ a3 c3 wx, wx.ownsRow w.heap.size 5 1 (.slice a3 (widN M) c3) (widN M) (bytesV (valB (M, V))) → Calls Try.prog 35 #[.int .i64 M, .slice a3 (widN M) c3] wx fun e w' => e = .returned (.int .u32 (toldV M (valB (M, V)))) ∧ w' = wx) := fun a3 c3 wx hx => ktold_any M a3 (widN M) c3 _ wx (own_any hx (valB_len (M, V))) (valB_ok _) (widN_cases M)
      generalize toldV M (valB (M, V)) = TV at *
      generalize bytesV (valB (M, V)) = BV at *
      generalize widN M = WN at *
      go_wp2
      have hbq : Below wr.heap.size wr (wr.alloc (.cells #[.int .i64 M, .int .u32 V] 54)) := (Below.refl _ _).alloc (Nat.le_refl _) _
      have HBq := hidden (HB.out.trans (hbq.mono HB.out.size))
      have HIq := hidden (HIB.out.later hbq)
      have ca0 : (wr.alloc (.cells #[.int .i64 M, .int .u32 V] 54)).cell? ⟨wr.heap.size, 0, none⟩ = some (.int .i64 M) := cell_of_row _ _ 0 _ _ (0, 0) (heap_alloc_new _ _)
      have ca1 : (wr.alloc (.cells #[.int .i64 M, .int .u32 V] 54)).cell? ⟨wr.heap.size, 1, none⟩ = some (.int .u32 V) := cell_of_row _ _ 1 _ _ (0, 0) (heap_alloc_new _ _)
      clear HB HIB hbq cm cv
      generalize hwq : wr.alloc (.cells #[.int .i64 M, .int .u32 V] 54) = wq at *
      clear hwq
      generalize wr.heap.size = AB at *
      cases hmy : mayB LC M
      · rw [hmy] at HMy HDf
        have hno := hidden (HNo.out (by rw [HDf.out]; rfl))
        clear HNo HYe HVb HTo hmy HDf
        go_quiet (first | (go_at_call 34; exact Calls.quiet_of_same (HMy.out _)))
        all_goals (try go_wp2)
        go_ret2
        exact ⟨below_dr HBq.out ⟨_, rfl⟩, fun _ => rfl, fun h => by rw [hno.out] at h; cases h⟩
      · rw [hmy] at HMy HDf
        rw [Bool.true_and] at HDf
        have HVq : Hid (∀ wx, Below wq.heap.size wq wx → Calls Try.prog 36 #[.agg #[.int .i64 M, .int .u32 V]] wx fun e w' => ∃ a3 c3, e = .returned (.slice a3 WN c3) ∧ w'.ownsRow w.heap.size 5 1 (.slice a3 WN c3) WN BV ∧ (w'.cell? ⟨AB, 0, none⟩ = some (.int .i64 M) ∧ w'.cell? ⟨AB, 1, none⟩ = some (.int .u32 V)) ∧ Below w.heap.size w w' ∧ IB w' w.heap.size op (some ⟨g, o, none⟩) n c) := fun wx hx => (HVb.out wx).mono (fun e w' hh => by
          obtain ⟨a3, c3, h1, h2, h3⟩ := hh
          have hx2 := hx.trans (h3.mono hx.size)
          exact ⟨a3, c3, h1, own_base h2 (Nat.le_trans HBq.out.size hx.size), ⟨cellLater hx2 ca0, cellLater hx2 ca1⟩, HBq.out.trans (hx2.mono HBq.out.size), HIq.out.later hx2⟩)
        clear HVb hmy
        by_cases htv : TV = V
        · have q1 : (TV != V) = false := by simpa using htv
          have hye := hidden (HYe.out (by rw [HDf.out]; simpa using htv))
          clear HNo HYe HDf
          go_region_held3 (fun w' => w'.cell? ⟨AB, 0, none⟩ = some (.int .i64 M) ∧ w'.cell? ⟨AB, 1, none⟩ = some (.int .u32 V)) (first | assumption | exact ⟨by assumption, by assumption⟩ | fail) (first | (go_at_call 34; refine (HMy.out _).mono ?_; rintro e w4 ⟨rfl, e4⟩; rw [e4]; clear e4) | (go_at_call 36; refine (HVq.out _ (by first | exact (Below.refl _ _).drew | exact Below.refl _ _)).mono ?_; rintro e w5 ⟨a3, c3, rfl, ho5, hc5, hb5, hi5⟩; have HO5 := hidden ho5; have HB5 := hidden hb5; have HI5 := hidden hi5; clear ho5 hb5 hi5) | (go_at_call 35; refine (HTo.out _ _ _ HO5.out).mono ?_; rintro e w6 ⟨rfl, e6⟩; rw [e6]; clear e6) | fail)
          all_goals (try go_wp2)
          go_roundw
          case rel => exact ⟨k + 1, by omega, int_eq (by omega), hye, HB5, HI5⟩
          case measure => simp [intOf]; omega
        · have q1 : (TV != V) = true := by simpa using htv
          have hno := hidden (HNo.out (by rw [HDf.out]; simpa using htv))
          clear HNo HYe HDf
          go_region_held3 (fun w' => w'.cell? ⟨AB, 0, none⟩ = some (.int .i64 M) ∧ w'.cell? ⟨AB, 1, none⟩ = some (.int .u32 V)) (first | assumption | exact ⟨by assumption, by assumption⟩ | fail) (first | (go_at_call 34; refine (HMy.out _).mono ?_; rintro e w4 ⟨rfl, e4⟩; rw [e4]; clear e4) | (go_at_call 36; refine (HVq.out _ (by first | exact (Below.refl _ _).drew | exact Below.refl _ _)).mono ?_; rintro e w5 ⟨a3, c3, rfl, ho5, hc5, hb5, hi5⟩; have HO5 := hidden ho5; have HB5 := hidden hb5; have HI5 := hidden hi5; clear ho5 hb5 hi5) | (go_at_call 35; refine (HTo.out _ _ _ HO5.out).mono ?_; rintro e w6 ⟨rfl, e6⟩; rw [e6]; clear e6) | fail)
          all_goals (try go_wp2)
          go_ret2
          exact ⟨HB5.out, fun _ => rfl, fun h => by rw [hno.out] at h; cases h⟩
    · obtain rfl : k = n := by omega
      have HYes : Hid (encOk op l = true) := by
        show _ = _
        rw [HE.out]
        exact okAll_yes (by have := HL.out; rw [this]; exact HJ.out)
      have d1 : ¬ (k : Int) < (k : Int) := by omega
      obtain ⟨b0, b1, _, _⟩ := ib_box HIB.out
      have HOr := hidden (HOp.out.later HB.out)
      have hml : ∀ i, i < k → 0 ≤ (l.getD i (0, 0)).1 ∧ (l.getD i (0, 0)).1 ≤ 15 := fun i hi => by
        have := HJ.out i hi
        unfold okOd mayB at this
        simp only [Bool.and_eq_true] at this
        exact okM_bd this.1.1
      have HMl := hidden hml
      clear hml HJ HE
      have hol : 0 < (opB op).length ∧ (opB op).length ≤ 2 := by unfold opB; split <;> simp [putL]
      have hws : w.heap.size + 1 ≤ wr.heap.size := (Array.getElem?_eq_some_iff.1 HIB.out).1
      have HObs : Hid (∀ wx, Below wr.heap.size wr wx → Calls Try.prog 37 #[.int .u32 op] wx fun e w' => ∃ g5 c5, e = .returned (.slice (some ⟨g5, 0, none⟩) (opB op).length c5) ∧ w'.ownsRow (w.heap.size + 1) 5 1 (.slice (some ⟨g5, 0, none⟩) (opB op).length c5) (opB op).length (bytesV (opB op)) ∧ (w'.cell? ⟨w.heap.size, 0, none⟩ = some (.int .u32 op) ∧ w'.cell? ⟨w.heap.size, 1, none⟩ = some (.slice a k c)) ∧ Below wx.heap.size wx w' ∧ Below wr.heap.size wr w') := fun wx hx => (kopb_any op wx hob).mono (fun e w' hh => by
        obtain ⟨a5, c5, h1, h2, h3⟩ := hh
        obtain ⟨g5, cp, hv, _, _⟩ := owned_shape h2 hol.1
        cases hv
        have hx2 := hx.trans (h3.mono hx.size)
        exact ⟨g5, c5, h1, own_base h2 (Nat.le_trans hws hx.size), ⟨cellLater hx2 b0, cellLater hx2 b1⟩, h3, hx2⟩)
      have HMbs : Hid (∀ wx, Below wr.heap.size wr wx → Calls Try.prog 38 #[.slice a k c] wx fun e w' => ∃ a6 c6, e = .returned (.slice a6 ((k + 1) / 2) c6) ∧ w'.ownsRow (w.heap.size + 1) 5 1 (.slice a6 ((k + 1) / 2) c6) ((k + 1) / 2) (bytesV (mdB l)) ∧ (w'.cell? ⟨w.heap.size, 0, none⟩ = some (.int .u32 op) ∧ w'.cell? ⟨w.heap.size, 1, none⟩ = some (.slice a k c)) ∧ Below wx.heap.size wx w' ∧ Below wr.heap.size wr w') := fun wx hx => (kmdb_any a k c l wx (HOr.out.later hx) (by omega) HMl.out).mono (fun e w' hh => by
        obtain ⟨a6, c6, h1, h2, h3⟩ := hh
        have hx2 := hx.trans (h3.mono hx.size)
        exact ⟨a6, c6, h1, own_base h2 (Nat.le_trans hws hx.size), ⟨cellLater hx2 b0, cellLater hx2 b1⟩, h3, hx2⟩)
      have HMln : Hid ((mdB l).length = (k + 1) / 2) := by
        show _ = _
        simp [mdB, HL.out]
      have hmk : (k + 1) / 2 ≤ 4 := by omega
      have HOLn := hidden (rfl : (opB op).length = (opB op).length)
      obtain ⟨OL, hOL⟩ : ∃ OL, (opB op).length = OL := ⟨_, rfl⟩
      rw [hOL] at hol HObs
      replace HOLn : Hid ((opB op).length = OL) := hOL
      clear hOL
      generalize (k + 1) / 2 = MK at *
      have HFin : Hid (∀ (w5 w6 : World) (g9 c9 : Nat), Below wr.heap.size wr w5 → w6.ownsRow (w.heap.size + 1) 5 1 (.slice (some ⟨g9, 0, none⟩) (OL + MK) c9) (OL + MK) (bytesV (opB op ++ mdB l)) → Below (w.heap.size + 1) w5 w6 → Below w.heap.size w w6 ∧ IB w6 w.heap.size op a k c) := fun w5 w6 g9 c9 h1 h2 h3 => by
        have h4 : Below (w.heap.size + 1) wr w6 := (h1.mono hws).trans h3
        exact ⟨HB.out.trans (h4.mono (by omega)), (h4.block w.heap.size (by omega)).trans HIB.out⟩
      go_wp2
      go_region_held3 (fun w' => w'.cell? ⟨w.heap.size, 0, none⟩ = some (.int .u32 op) ∧ w'.cell? ⟨w.heap.size, 1, none⟩ = some (.slice a k c)) (first | assumption | exact ⟨by assumption, by assumption⟩ | fail) (first
        | (go_at_call 37; (with_reducible refine (HObs.out _ ((Below.refl _ _).drew)).mono ?_); rintro e w5 ⟨g5, c5, rfl, ho5, hc5, hb5, hx5⟩; have HO5 := hidden ho5; have HX5 := hidden hx5; clear ho5 hb5 hx5)
        | (go_at_call 38; (with_reducible refine (HMbs.out _ ((Below.refl _ _).drew)).mono ?_); rintro e w7 ⟨a7, c7, rfl, ho7, hc7, hb7, hx7⟩; have HM7 := hidden ho7; have HX7 := hidden hx7; clear ho7 hb7 hx7)
        | (go_at_call 38; (with_reducible refine (HMbs.out _ HX5.out).mono ?_); rintro e w6 ⟨a6, c6, rfl, ho6, hc6, hb6, hx6⟩; have HO6 := hidden (own_later HO5.out hb6); have HM6 := hidden ho6; have HX6 := hidden hx6; clear ho6 hb6 hx6)
        | (go_at_call 37; (with_reducible refine (HObs.out _ HX7.out).mono ?_); rintro e w6 ⟨g5, c5, rfl, ho6, hc6, hb6, hx6⟩; have HM6 := hidden (own_later HM7.out hb6); have HO6 := hidden ho6; have HX6 := hidden hx6; clear ho6 hb6 hx6)
        | (refine step_appR (by rfl) _ _ (by rfl) (w.heap.size + 1) _ OL _ MK _ _ (opB op) (mdB l) (by rfl) (by rfl) HO6.out (own_any HM6.out HMln.out) (by omega) (Nat.le_trans hws HX6.out.size) ?_; intro g9 c9 w9 ho9 hb9; obtain ⟨hz9, hi9⟩ := HFin.out _ _ _ _ HX6.out ho9 hb9; have HO9 := hidden ho9; have HB9 := hidden hz9; have HI9 := hidden hi9; obtain ⟨z0, z1, _, _⟩ := ib_box hi9; have hs9 := And.intro z0 z1; clear ho9 hb9 hz9 hi9)
        | fail)
      all_goals (try go_wp2)
      all_goals (
        have hL9 : OL + MK ≤ 10 := by omega
        have HPre : Hid ((opB op ++ mdB l).length = OL + MK) := by
          show _ = _
          rw [List.length_append, HOLn.out, HMln.out]
        have HEL : Hid (encL op l = (opB op ++ mdB l) ++ l.flatMap valB) := rfl
        generalize opB op ++ mdB l = PRE at *
        clear HFin HObs HMbs HOLn HMln HIB HB
        go_loopw [8, 63] (fun v i wr => ∃ (j g2 c2 n2 : Nat), j ≤ k ∧ i = .int .i64 j ∧ v = .slice (some ⟨g2, 0, none⟩) n2 c2 ∧ n2 ≤ 10 + 4 * j ∧ Hid ((PRE ++ (l.take j).flatMap valB).length = n2) ∧ Hid (wr.ownsRow (w.heap.size + 1) 5 1 (.slice (some ⟨g2, 0, none⟩) n2 c2) n2 (bytesV (PRE ++ (l.take j).flatMap valB))) ∧ Hid (Below w.heap.size w wr)) (fun _ i _ => k - (intOf i).toNat)
        case atStart => exact ⟨0, g9, c9, OL + MK, by omega, rfl, rfl, by omega, by simpa using HPre, by simpa using HO9, HB9⟩
        case round =>
          clear HO9 HB9 HI9
          obtain ⟨j, g2, c2, n2, hj, rfl, rfl, hn2, HN2, HO2, HB2⟩ := hrel
          by_cases hlt2 : j < k
          · obtain ⟨g, o, rfl, hc⟩ := HOp.out.cells (by omega)
            have cm := cellLater HB2.out (hc j hlt2).1
            have cv := cellLater HB2.out (hc j hlt2).2
            have d2 : (j : Int) < (k : Int) := by omega
            have hw3 : IntKind.i64.wrap ((j : Int) + 1) = (j : Int) + 1 := by rw [IntKind.wrap_i64]; omega
            have HSn : Hid (PRE ++ (l.take (j + 1)).flatMap valB = (PRE ++ (l.take j).flatMap valB) ++ valB ((l.getD j (0, 0)).1, (l.getD j (0, 0)).2)) := by
              show _ = _
              have hjl : j < l.length := by rw [HL.out]; exact hlt2
              rw [take_snoc l j hjl, List.flatMap_append, ← List.append_assoc]
              simp
            have HVL := hidden (valB_len ((l.getD j (0, 0)).1, (l.getD j (0, 0)).2))
            have hwc := widN_cases (l.getD j (0, 0)).1
            generalize (l.getD j (0, 0)).1 = M at *
            generalize (l.getD j (0, 0)).2 = V at *
            have HVb : Hid (∀ wx, Below wr.heap.size wr wx → Calls Try.prog 36 #[.agg #[.int .i64 M, .int .u32 V]] wx fun e w' => ∃ a3 c3, e = .returned (.slice a3 (widN M) c3) ∧ Reads w' a3 (widN M) c3 (valB (M, V)) ∧ w'.ownsRow (w.heap.size + 1) 5 1 (.slice (some ⟨g2, 0, none⟩) n2 c2) n2 (bytesV (PRE ++ (l.take j).flatMap valB)) ∧ Below w.heap.size w w') := fun wx hx => (kvalb_any M V wx).mono (fun e w' hh => by
              obtain ⟨a3, c3, h1, h2, h3⟩ := hh
              have hx2 := hx.trans (h3.mono hx.size)
              exact ⟨a3, c3, h1, own_any h2 (valB_len (M, V)), own_later HO2.out hx2, HB2.out.trans (hx2.mono HB2.out.size)⟩)
            clear hc
            generalize valB (M, V) = VB at *
            generalize widN M = WN at *
            generalize PRE ++ (l.take j).flatMap valB = ACC at *
            go_wp2_with (first | (go_at_call 36; refine (HVb.out _ ((Below.refl _ _).alloc (Nat.le_refl _) _)).mono ?_; rintro e w4 ⟨a3, c3, rfl, hr4, ho4, hb4⟩; have HR4 := hidden hr4; have HO4 := hidden ho4; have HB4 := hidden hb4; have hw4 : w.heap.size + 1 ≤ w4.heap.size := (by have := (HO4.out.lt g2 rfl).1; have := (HO4.out.lt g2 rfl).2; omega); clear hr4 ho4 hb4) | (at_builtin; refine wpList_appR rfl _ _ rfl (w.heap.size + 1) g2 n2 c2 WN c3 a3 ACC VB rfl rfl HO4.out HR4.out (by omega) hw4 ?_; intro g6 c6 w6 ho6 hf6; have HO6 := hidden ho6; have HB6 := hidden (HB4.out.trans ((hf6.out.below hw4 (fun q e => (HO4.out.lt q e).1)).mono (by omega))); clear ho6 hf6))
            go_roundw
            case rel => exact ⟨j + 1, g6, c6, n2 + WN, by omega, int_eq (by omega), rfl, by omega, by rw [HSn.out]; show _ = _; rw [List.length_append, HN2.out, HVL.out], by rw [HSn.out]; exact HO6, HB6⟩
            case measure => simp [intOf]; omega
          · obtain rfl : j = k := by omega
            have d2 : ¬ (j : Int) < (j : Int) := by omega
            go_wp2
            go_ret2
            refine And.intro HB2.out (And.intro (fun h => by rw [HYes.out] at h; cases h) (fun _ => ?_))
            have ht : l.take j = l := List.take_of_length_le (by rw [HL.out]; omega)
            have hN := HN2.out
            have hO := HO2.out
            rw [ht, ← HEL.out] at hN hO
            rw [hN]
            exact ⟨_, _, rfl, own_base hO (by omega)⟩)
theorem tab_bd : (tab.all fun r => decide (0 ≤ r.1 ∧ r.1 ≤ 569)) = true := by kernel_rfl
theorem enc_any (op : Int) (a : Option Addr) (n c : Nat) (l : List Od) (w : World) (h : Ops w a n c l) (hn : n ≤ 1000) :
    Calls Try.prog 16 #[.agg #[.int .u32 op, .slice a n c]] w fun e w' => ERet w w' op l e := by
  cases hr : opR op with
  | none => exact enc_few op a n c l w h hn (.inl hr)
  | some r =>
    have hm : r ∈ tab ∧ r.1 = op := by
      unfold opR at hr
      exact ⟨List.mem_of_find?_eq_some hr, by simpa using List.find?_some hr⟩
    by_cases hne : n = r.2.2.length
    · have hb : 0 ≤ r.1 ∧ r.1 ≤ 569 := of_decide_eq_true (List.all_eq_true.1 tab_bd r hm.1)
      have h8 := tab_short hm.1
      exact enc_go op r a n c l w h (by omega) hr (by omega) hne
    · exact enc_few op a n c l w h hn (.inr ⟨r, hr, hne⟩)
end Go.Proofs.Ytpkfmccnjandoaa
