/- Layer 13 (find): contracts of asks, mayBeKey, none; a memory that is only read; Read of it; take. Layer 13 (find): contract of take: bytes of a memory into a row of the call's own. Layer 13 (find): contracts of Key and begin: what is looked for, and the hunt for it. Layer 13 (find): the hunt as it lies in memory; contracts of begin, inRow, look, isEnd. Layer 13 (find): contracts of look and isEnd. -/
import Derived.Test.YtpgppdkbkkljnaaY9M
import Derived.Test.YtpgppdkbkkljnaaF13p
import Derived.Deep.RegionHeld3
namespace Go.Proofs.Ytpgppdkbkkljnaa
open Go.RowKit
set_option maxHeartbeats 1000000
set_option maxRecDepth 100000
set_option linter.unusedVariables false

theorem asks_core (ky ks st sz ct of nx : Int) (x : Nat) (o : Int) (b : Bool) (w : World) (hb : (Go.bits .and .u32 (x : Int) o != 0) = b) :
    Calls Try.prog 85 #[.agg #[.int .u32 ky, .int .u32 ks, .int .u32 st, .int .u32 sz, .int .u32 ct, .int .u32 of, .int .u32 nx, .int .u32 x], .int .u32 o] w fun e w' => e = .returned (.bool b) ∧ Below w.heap.size w w' := by
  have hbl : Below w.heap.size w (w.alloc (.cells #[.int .u32 ky, .int .u32 ks, .int .u32 st, .int .u32 sz, .int .u32 ct, .int .u32 of, .int .u32 nx, .int .u32 x] 127)) := (Below.refl _ _).alloc (Nat.le_refl _) _
  go_enter Try.func85, Try.ntmps85
  go_wp2
  go_ret
  exact ⟨rfl, hbl⟩
theorem ask_1 (ky ks st sz ct of nx : Int) (x : Nat) (w : World) (hx : x < 4294967296) :
    Calls Try.prog 85 #[.agg #[.int .u32 ky, .int .u32 ks, .int .u32 st, .int .u32 sz, .int .u32 ct, .int .u32 of, .int .u32 nx, .int .u32 x], .int .u32 1] w fun e w' => e = .returned (.bool (optB x 1)) ∧ Below w.heap.size w w' :=
  asks_core ky ks st sz ct of nx x 1 _ w (by have := opt_bits x 1 hx (.inl rfl); rw [show ((1 : Nat) : Int) = 1 from rfl] at this; rw [this]; cases optB x 1 <;> rfl)
theorem ask_2 (ky ks st sz ct of nx : Int) (x : Nat) (w : World) (hx : x < 4294967296) :
    Calls Try.prog 85 #[.agg #[.int .u32 ky, .int .u32 ks, .int .u32 st, .int .u32 sz, .int .u32 ct, .int .u32 of, .int .u32 nx, .int .u32 x], .int .u32 2] w fun e w' => e = .returned (.bool (optB x 2)) ∧ Below w.heap.size w w' :=
  asks_core ky ks st sz ct of nx x 2 _ w (by have := opt_bits x 2 hx (.inr (.inl rfl)); rw [show ((2 : Nat) : Int) = 2 from rfl] at this; rw [this]; cases optB x 2 <;> rfl)
theorem ask_4 (ky ks st sz ct of nx : Int) (x : Nat) (w : World) (hx : x < 4294967296) :
    Calls Try.prog 85 #[.agg #[.int .u32 ky, .int .u32 ks, .int .u32 st, .int .u32 sz, .int .u32 ct, .int .u32 of, .int .u32 nx, .int .u32 x], .int .u32 4] w fun e w' => e = .returned (.bool (optB x 4)) ∧ Below w.heap.size w w' :=
  asks_core ky ks st sz ct of nx x 4 _ w (by have := opt_bits x 4 hx (.inr (.inr rfl)); rw [show ((4 : Nat) : Int) = 4 from rfl] at this; rw [this]; cases optB x 4 <;> rfl)
/-- a search in a box of its own -/
def SBox (w : World) (b : Nat) (s : Sr) : Prop := w.heap[b]? = some (.cells #[.int .u32 s.key, .int .u32 s.ks, .int .u32 s.start, .int .u32 s.size, .int .u32 s.cnt, .int .u32 s.off, .int .u32 s.nxt, .int .u32 s.opt] 127 (0, 0))
theorem SBox.lt {w : World} {b : Nat} {s : Sr} (h : SBox w b s) : b < w.heap.size := (Array.getElem?_eq_some_iff.1 h).1
theorem SBox.later {w w' : World} {b : Nat} {s : Sr} (h : SBox w b s) (hb : Below w.heap.size w w') : SBox w' b s := (hb.block b h.lt).trans h
theorem SBox.new (w : World) (s : Sr) : SBox (w.alloc (.cells #[.int .u32 s.key, .int .u32 s.ks, .int .u32 s.start, .int .u32 s.size, .int .u32 s.cnt, .int .u32 s.off, .int .u32 s.nxt, .int .u32 s.opt] 127)) w.heap.size s := heap_alloc_new _ _
theorem SBox.cells {w : World} {b : Nat} {s : Sr} (h : SBox w b s) : w.cell? ⟨b, 0, none⟩ = some (.int .u32 s.key) ∧ w.cell? ⟨b, 1, none⟩ = some (.int .u32 s.ks) ∧ w.cell? ⟨b, 2, none⟩ = some (.int .u32 s.start) ∧ w.cell? ⟨b, 3, none⟩ = some (.int .u32 s.size) ∧ w.cell? ⟨b, 4, none⟩ = some (.int .u32 s.cnt) ∧ w.cell? ⟨b, 5, none⟩ = some (.int .u32 s.off) ∧ w.cell? ⟨b, 6, none⟩ = some (.int .u32 s.nxt) ∧ w.cell? ⟨b, 7, none⟩ = some (.int .u32 s.opt) := by
  unfold SBox at h
  refine ⟨?_, ?_, ?_, ?_, ?_, ?_, ?_, ?_⟩ <;> simp [World.cell?, h]
theorem mayK_core (s : Sr) (b1 b : Bool) (w : World) (ha : ∀ w, Calls Try.prog 85 #[.agg #[.int .u32 s.key, .int .u32 s.ks, .int .u32 s.start, .int .u32 s.size, .int .u32 s.cnt, .int .u32 s.off, .int .u32 s.nxt, .int .u32 s.opt], .int .u32 1] w fun e w' => e = .returned (.bool b1) ∧ Below w.heap.size w w') (hb : b = if b1 then decide (s.ks ≤ 256) else decide (s.ks = 1 ∨ s.ks = 2 ∨ s.ks = 4)) :
    Calls Try.prog 91 #[.agg #[.int .u32 s.key, .int .u32 s.ks, .int .u32 s.start, .int .u32 s.size, .int .u32 s.cnt, .int .u32 s.off, .int .u32 s.nxt, .int .u32 s.opt]] w fun e w' => e = .returned (.bool b) ∧ Below w.heap.size w w' := by
  have hb1 : Below w.heap.size w (w.alloc (.cells #[.int .u32 s.key, .int .u32 s.ks, .int .u32 s.start, .int .u32 s.size, .int .u32 s.cnt, .int .u32 s.off, .int .u32 s.nxt, .int .u32 s.opt] 127)) := (Below.refl _ _).alloc (Nat.le_refl _) _
  have HX := hidden (SBox.new w s)
  have HB1 := hidden hb1
  have HA := hidden ha
  have HV := hidden hb
  clear hb1 ha hb
  cases b1
  · by_cases k1 : s.ks = 1
    · have e1 : ((s.ks : Int) == 1) = true := by simp [k1]
      have HK := hidden k1
      clear k1
      go_enter Try.func91, Try.ntmps91
      go_upto_region 1 with fail
      generalize w.alloc (.cells #[.int .u32 s.key, .int .u32 s.ks, .int .u32 s.start, .int .u32 s.size, .int .u32 s.cnt, .int .u32 s.off, .int .u32 s.nxt, .int .u32 s.opt] 127) = w1 at *
      obtain ⟨c0, c1, c2, c3, c4, c5, c6, c7⟩ := HX.out.cells
      go_upto_region 3 with (go_at_call 85; refine (HA.out _).mono ?_; rintro e w2 ⟨rfl, hb2⟩)
      have HB := hidden (HB1.out.trans (hb2.mono HB1.out.size))
      have c1' := (HX.out.later hb2).cells.2.1
      clear c0 c1 c2 c3 c4 c5 c6 c7 hb2
      go_wp2
      go_ret
      refine ⟨?_, HB.out⟩
      rw [HV.out]; simp [HK.out]
    · have e1 : ((s.ks : Int) == 1) = false := by simp; omega
      by_cases k2 : s.ks = 2
      · have e2 : ((s.ks : Int) == 2) = true := by simp [k2]
        have HK := hidden k2
        clear k2
        go_enter Try.func91, Try.ntmps91
        go_upto_region 1 with fail
        generalize w.alloc (.cells #[.int .u32 s.key, .int .u32 s.ks, .int .u32 s.start, .int .u32 s.size, .int .u32 s.cnt, .int .u32 s.off, .int .u32 s.nxt, .int .u32 s.opt] 127) = w1 at *
        obtain ⟨c0, c1, c2, c3, c4, c5, c6, c7⟩ := HX.out.cells
        go_upto_region 3 with (go_at_call 85; refine (HA.out _).mono ?_; rintro e w2 ⟨rfl, hb2⟩)
        have HB := hidden (HB1.out.trans (hb2.mono HB1.out.size))
        have c1' := (HX.out.later hb2).cells.2.1
        clear c0 c1 c2 c3 c4 c5 c6 c7 hb2
        go_wp2
        go_ret
        refine ⟨?_, HB.out⟩
        rw [HV.out]; simp [HK.out]
      · have e2 : ((s.ks : Int) == 2) = false := by simp; omega
        have e3 : ((s.ks : Int) == 4) = decide (s.ks = 4) := by
          by_cases k4 : s.ks = 4
          · simp [k4]
          · simp [k4]; omega
        have HV2 : Hid (b = decide (s.ks = 4)) := hidden (by rw [HV.out]; simp [k1, k2])
        clear HV k1 k2
        go_enter Try.func91, Try.ntmps91
        go_upto_region 1 with fail
        generalize w.alloc (.cells #[.int .u32 s.key, .int .u32 s.ks, .int .u32 s.start, .int .u32 s.size, .int .u32 s.cnt, .int .u32 s.off, .int .u32 s.nxt, .int .u32 s.opt] 127) = w1 at *
        obtain ⟨c0, c1, c2, c3, c4, c5, c6, c7⟩ := HX.out.cells
        go_upto_region 3 with (go_at_call 85; refine (HA.out _).mono ?_; rintro e w2 ⟨rfl, hb2⟩)
        have HB := hidden (HB1.out.trans (hb2.mono HB1.out.size))
        have c1' := (HX.out.later hb2).cells.2.1
        clear c0 c1 c2 c3 c4 c5 c6 c7 hb2
        go_wp2
        go_ret
        exact ⟨by rw [HV2.out]; rfl, HB.out⟩
  · have e1 : decide ((s.ks : Int) ≤ 256) = decide (s.ks ≤ 256) := by
      by_cases k4 : s.ks ≤ 256
      · simp [k4]; omega
      · simp [k4]; omega
    have HV2 : Hid (b = decide (s.ks ≤ 256)) := hidden (by rw [HV.out]; simp)
    clear HV
    go_enter Try.func91, Try.ntmps91
    go_upto_region 1 with fail
    generalize w.alloc (.cells #[.int .u32 s.key, .int .u32 s.ks, .int .u32 s.start, .int .u32 s.size, .int .u32 s.cnt, .int .u32 s.off, .int .u32 s.nxt, .int .u32 s.opt] 127) = w1 at *
    obtain ⟨c0, c1, c2, c3, c4, c5, c6, c7⟩ := HX.out.cells
    go_upto_region 2 with (go_at_call 85; refine (HA.out _).mono ?_; rintro e w2 ⟨rfl, hb2⟩)
    have HB := hidden (HB1.out.trans (hb2.mono HB1.out.size))
    have c1' := (HX.out.later hb2).cells.2.1
    clear c0 c1 c2 c3 c4 c5 c6 c7 hb2
    go_wp2
    go_ret
    exact ⟨by rw [HV2.out]; rfl, HB.out⟩
theorem mayK_any (s : Sr) (ok : s.ok) (w : World) :
    Calls Try.prog 91 #[.agg #[.int .u32 s.key, .int .u32 s.ks, .int .u32 s.start, .int .u32 s.size, .int .u32 s.cnt, .int .u32 s.off, .int .u32 s.nxt, .int .u32 s.opt]] w fun e w' => e = .returned (.bool (mayK s)) ∧ Below w.heap.size w w' :=
  mayK_core s (optB s.opt 1) (mayK s) w (fun w => ask_1 _ _ _ _ _ _ _ _ w ok.opt) rfl
/-- a structure's place in a box of its own -/
def PBox (w : World) (q : Nat) (i a : Int) : Prop := w.heap[q]? = some (.cells #[.int .u32 i, .int .u32 a] 152 (0, 0))
theorem PBox.lt {w : World} {q : Nat} {i a : Int} (h : PBox w q i a) : q < w.heap.size := (Array.getElem?_eq_some_iff.1 h).1
theorem PBox.later {w w' : World} {q : Nat} {i a : Int} (h : PBox w q i a) (hb : Below w.heap.size w w') : PBox w' q i a := (hb.block q h.lt).trans h
theorem PBox.new (w : World) (i a : Int) : PBox (w.alloc (.cells #[.int .u32 i, .int .u32 a] 152)) w.heap.size i a := heap_alloc_new _ _
theorem PBox.cells {w : World} {q : Nat} {i a : Int} (h : PBox w q i a) : w.cell? ⟨q, 0, none⟩ = some (.int .u32 i) ∧ w.cell? ⟨q, 1, none⟩ = some (.int .u32 a) ∧ (∀ j, w.frozen? ⟨q, j, none⟩ = false) := by
  unfold PBox at h
  refine ⟨by simp [World.cell?, h], by simp [World.cell?, h], fun j => by simp [World.frozen?, h]⟩
/-- none -/
theorem none_any (w : World) : Calls Try.prog 88 #[] w fun e w' => e = .returned (.tuple #[.agg #[.int .u32 4294967295, .int .u32 0], .int .i64 0]) ∧ Below w.heap.size w w' := by
  have hbl : Below w.heap.size w ((w.alloc (.cells #[.int .u32 4294967295, .int .u32 0] 152))) := (Below.refl _ _).alloc (Nat.le_refl _) _
  have hx := PBox.new w 4294967295 0
  go_enter Try.func88, Try.ntmps88
  go_wp2
  generalize w.alloc (.cells #[.int .u32 4294967295, .int .u32 0] 152) = W at *
  obtain ⟨p0, p1, _⟩ := hx.cells
  refine bodyPost_ret (v := .tuple #[.agg #[.int .u32 4294967295, .int .u32 0], .int .i64 0]) (by simp [results, Try.results88, go_sem, p0, p1]) rfl ⟨rfl, hbl⟩
/-- a memory, of which all bytes are known -/
def MRd (w : World) (m : Nat) (bs : List Int) : Prop := ∃ B gb gc bb bc h hv s, MAt B w m gb gc bb bc h hv s ∧ s.bytes = bs ∧ bs.length ≤ 1048576 ∧ OkB bs
theorem MRd.later {w w' : World} {m : Nat} {bs : List Int} (h : MRd w m bs) (hb : Below w.heap.size w w') : MRd w' m bs := by
  obtain ⟨B, gb, gc, bb, bc, hh, hv, s, H, h1, h2, h3⟩ := h
  exact ⟨B, gb, gc, bb, bc, hh, hv, s, H.later hb, h1, h2, h3⟩
theorem MRd.okb {w : World} {m : Nat} {bs : List Int} (h : MRd w m bs) : OkB bs := by
  obtain ⟨B, gb, gc, bb, bc, hh, hv, s, H, h1, h2, h3⟩ := h
  exact h3
theorem MRd.le {w : World} {m : Nat} {bs : List Int} (h : MRd w m bs) : bs.length ≤ 1048576 := by
  obtain ⟨B, gb, gc, bb, bc, hh, hv, s, H, h1, h2, h3⟩ := h
  exact h2
theorem read_no (B m gb gc bb bc h : Nat) (hv : Value) (s : Ms) (a : Nat) (n : Nat) (w : World) (H : MAt B w m gb gc bb bc h hv s) (hn : n = 1 ∨ n = 2 ∨ n = 4) (ha : a < 4294967296) (hL : s.bytes.length ≤ 1048576) (hc : s.bytes.length < a + n) :
    Calls Try.prog 18 #[.pointer (some ⟨m, 0, none⟩), .int .u32 a, .int .i64 n] w fun e w' => e = .returned (.tuple #[.int .u32 0, .int .i64 90]) ∧ w' = w := by
  obtain ⟨c1, c3, c8, c9, c10, c11, c12, cf⟩ := H.box.cells
  have HW := hidden (mwid_yes (n : Int) w (by omega))
  have HH := hidden (has_any m s.bytes.length bc a n _ w c9 (by omega) ha (by omega))
  rw [show hasR s.bytes.length a n = false by simp [hasR]; omega] at HH
  have hw : IntKind.u32.wrap (n : Int) = n := by rw [IntKind.wrap_u32]; omega
  generalize s.bytes.length = L at *
  clear H c1 c3 c8 c10 c11 c12 cf hn
  go_enter Try.func18, Try.ntmps18
  go_wp2_with (first | (go_at_call 28; refine HW.out.mono ?_; rintro e w1 ⟨rfl, e9⟩; rw [e9]; clear e9) | (go_at_call 31; refine HH.out.mono ?_; rintro e w1 ⟨rfl, e9⟩; rw [e9]; clear e9) | fail)
  go_ret2
  exact ⟨rfl, rfl⟩
theorem MRd.read1 {w : World} {m : Nat} {bs : List Int} (h : MRd w m bs) (a : Nat) (ha : a < 4294967296) (hc : a < bs.length) :
    Calls Try.prog 18 #[.pointer (some ⟨m, 0, none⟩), .int .u32 a, .int .i64 1] w fun e w' => e = .returned (.tuple #[.int .u32 (bs.getD a 0), .int .i64 0]) ∧ w' = w := by
  obtain ⟨B, gb, gc, bb, bc, hh, hv, s, H, rfl, h2, h3⟩ := h
  exact read_ok B m gb gc bb bc hh hv s a 1 w H (.inl rfl) ha h2 h3 hc
theorem MRd.read1n {w : World} {m : Nat} {bs : List Int} (h : MRd w m bs) (a : Nat) (ha : a < 4294967296) (hc : bs.length ≤ a) :
    Calls Try.prog 18 #[.pointer (some ⟨m, 0, none⟩), .int .u32 a, .int .i64 1] w fun e w' => e = .returned (.tuple #[.int .u32 0, .int .i64 90]) ∧ w' = w := by
  obtain ⟨B, gb, gc, bb, bc, hh, hv, s, H, rfl, h2, h3⟩ := h
  exact read_no B m gb gc bb bc hh hv s a 1 w H (.inl rfl) ha h2 (by omega)
theorem MRd.read4 {w : World} {m : Nat} {bs : List Int} (h : MRd w m bs) (a : Nat) (ha : a < 4294967296) (hc : a + 4 ≤ bs.length) :
    Calls Try.prog 18 #[.pointer (some ⟨m, 0, none⟩), .int .u32 a, .int .i64 4] w fun e w' => e = .returned (.tuple #[.int .u32 (beV bs a 4), .int .i64 0]) ∧ w' = w := by
  obtain ⟨B, gb, gc, bb, bc, hh, hv, s, H, rfl, h2, h3⟩ := h
  exact read_ok B m gb gc bb bc hh hv s a 4 w H (.inr (.inr rfl)) ha h2 h3 hc
theorem MRd.read4n {w : World} {m : Nat} {bs : List Int} (h : MRd w m bs) (a : Nat) (ha : a < 4294967296) (hc : bs.length < a + 4) :
    Calls Try.prog 18 #[.pointer (some ⟨m, 0, none⟩), .int .u32 a, .int .i64 4] w fun e w' => e = .returned (.tuple #[.int .u32 0, .int .i64 90]) ∧ w' = w := by
  obtain ⟨B, gb, gc, bb, bc, hh, hv, s, H, rfl, h2, h3⟩ := h
  exact read_no B m gb gc bb bc hh hv s a 4 w H (.inr (.inr rfl)) ha h2 hc
end Go.Proofs.Ytpgppdkbkkljnaa
namespace Go.Proofs.Ytpgppdkbkkljnaa
open Go.RowKit
set_option maxHeartbeats 1000000
set_option maxRecDepth 100000
set_option linter.unusedVariables false

theorem own8_put {B : Nat} {w : World} {g m c : Nat} {zs : List Int} (h : w.ownsRow B 5 1 (.slice (some ⟨g, 0, none⟩) m c) m (bytesV zs)) (l : Nat) (hl : l < m) (V : Int) : (w.setCell ⟨g, l, none⟩ (.int .u8 V)).ownsRow B 5 1 (.slice (some ⟨g, 0, none⟩) m c) m (bytesV (zs.set l V)) := by
  obtain ⟨cur, h1, h2, h3, h4, h5, h6, h7⟩ := own8_cur h
  refine own8_of (cur := cur.set l (.int .u8 V)) h1 ?_ h3 h4 (by simp [h5]) ?_ (by simp [h7])
  · simp [World.setCell, Array.getElem?_modify, h2]
  · rw [List.take_set, h6]
    simp [bytesV, List.map_set]
theorem seg_put (bs hs : List Int) (a k n : Nat) (ha : a + k < bs.length) (hk : k < n) (hl : hs.length = n) : (seg bs a k ++ hs.drop k).set k (bs.getD (a + k) 0) = seg bs a (k + 1) ++ hs.drop (k + 1) := by
  have h1 : (seg bs a k).length = k := seg_len _ _ _ (by omega)
  have h2 : hs.drop k = hs[k] :: hs.drop (k + 1) := List.drop_eq_getElem_cons (by omega)
  have h3 : seg bs a (k + 1) = seg bs a k ++ [bs.getD (a + k) 0] := by
    unfold seg
    rw [List.take_add_one, List.getElem?_drop]
    simp [List.getElem?_eq_getElem ha]
  rw [h2, h3, List.set_append_right _ _ (by omega), h1, Nat.sub_self, List.set_cons_zero]
  simp
theorem take_any (w0 : World) (m : Nat) (bs : List Int) (M : MRd w0 m bs) (a : Nat) (ha : a < 4294967296) (g n c : Nat) (hs : List Int) (w : World) (hb : Below w0.heap.size w0 w) (ho : w.ownsRow w0.heap.size 5 1 (.slice (some ⟨g, 0, none⟩) n c) n (bytesV hs)) (hn : n ≤ 256) :
    Calls Try.prog 92 #[.pointer (some ⟨m, 0, none⟩), .int .u32 a, .slice (some ⟨g, 0, none⟩) n c] w fun e w' => e = .returned (.int .i64 (tkE bs.length a n)) ∧ (∃ zs, w'.ownsRow w0.heap.size 5 1 (.slice (some ⟨g, 0, none⟩) n c) n (bytesV zs) ∧ (tkE bs.length a n = 0 → zs = seg bs a n)) ∧ Fm w w' (fun k => k = g) (fun k => k = g) := by
  obtain ⟨cur, hg, q2, q3, q4, q5, q6, q7⟩ := own8_cur ho
  clear cur q2 q4 q5 q6
  have hle := M.le
  have HM := hidden M
  have HO := hidden ho
  have HB := hidden hb
  clear M ho hb
  go_enter Try.func92, Try.ntmps92
  go_upto_region 2 with fail
  go_loopw [12] (fun i w' => ∃ k : Nat, k ≤ n ∧ i = .int .i64 k ∧ (k = 0 ∨ a + k ≤ bs.length) ∧ Hid (w'.ownsRow w0.heap.size 5 1 (.slice (some ⟨g, 0, none⟩) n c) n (bytesV (seg bs a k ++ hs.drop k))) ∧ Hid (Fm w w' (fun k => k = g) (fun k => k = g))) (fun i _ => n - (intOf i).toNat)
  case atStart => exact ⟨0, by omega, rfl, .inl rfl, hidden (by simpa [seg] using HO.out), hidden (Fm.same (Below.refl _ _))⟩
  case round =>
    obtain ⟨k, hk, rfl, hak, hO, hF⟩ := hrel
    have hB : Hid (Below w0.heap.size w0 wr) := hidden (HB.out.trans (hF.out.below HB.out.size (fun j e => by subst e; exact hg)))
    by_cases hlt : k < n
    · have l1 : (k : Int) < n := by omega
      have l2 : (0 : Int) ≤ k := by omega
      have w1 : IntKind.u32.wrap (k : Int) = k := by rw [IntKind.wrap_u32]; omega
      have w2 : IntKind.u32.wrap ((a : Int) + k) = ((a + k : Nat) : Int) := by rw [IntKind.wrap_u32]; omega
      by_cases hin : a + k < bs.length
      · have HR := hidden ((HM.out.later hB.out).read1 (a + k) (by omega) hin)
        have hv := HM.out.okb (bs.getD (a + k) 0) (by rw [List.getD_eq_getElem?_getD, List.getElem?_eq_getElem hin]; simp)
        have HP := hidden (seg_put bs hs a k n hin hlt q7)
        have hc := owned_cells hO.out k hlt
        rw [Nat.zero_add] at hc
        have hf : wr.frozen? ⟨g, k, none⟩ = false := hO.out.frozenAt k
        generalize bs.getD (a + k) 0 = V at *
        have w3 : IntKind.u8.wrap V = V := by rw [IntKind.wrap_u8]; omega
        generalize (seg bs a k ++ hs.drop k).getD k 0 = Y at *
        have e2 : ((k : Int)).toNat = k := by omega
        have HHin := hidden hin
        clear hin hak hv
        go_wp2_with (go_at_call 18; refine HR.out.mono ?_; rintro e w4 ⟨rfl, e9⟩; rw [e9]; clear e9)
        go_roundw
        case rel =>
          refine ⟨k + 1, by omega, by go_num, .inr (by have := HHin.out; omega), hidden ?_, hidden (hF.out.set g _ _ rfl)⟩
          rw [← HP.out]
          exact own8_put hO.out k hlt V
        case measure => simp [intOf]; omega
      · have HR := hidden ((HM.out.later hB.out).read1n (a + k) (by omega) (by omega))
        have HE : Hid (tkE bs.length a n = 90) := hidden (by unfold tkE; rw [if_neg (by omega)])
        clear hin hak
        go_wp2_with (go_at_call 18; refine HR.out.mono ?_; rintro e w4 ⟨rfl, e9⟩; rw [e9]; clear e9)
        go_ret
        rw [HE.out]
        exact ⟨rfl, ⟨_, hO.out, fun h => absurd h (by decide)⟩, hF.out⟩
    · obtain rfl : k = n := by omega
      have HE : Hid (tkE bs.length a k = 0) := hidden (by unfold tkE; rw [if_pos (by omega)])
      have HD : Hid (seg bs a k ++ hs.drop k = seg bs a k) := hidden (by rw [List.drop_of_length_le (by omega), List.append_nil])
      clear hak
      go_wp2
      go_ret
      rw [HE.out]
      refine ⟨rfl, ⟨_, hO.out, fun _ => HD.out⟩, hF.out⟩
end Go.Proofs.Ytpgppdkbkkljnaa
namespace Go.Proofs.Ytpgppdkbkkljnaa
open Go.RowKit
set_option maxHeartbeats 1000000
set_option maxRecDepth 100000
set_option linter.unusedVariables false

/-- what Key answers -/
def KRet (s : Sr) (bs : List Int) (w : World) (e : Ending) (w' : World) : Prop := Below w.heap.size w w' ∧ ((keyE s bs.length ≠ 0 ∧ e = .returned (.tuple #[.slice none 0 0, .int .i64 (keyE s bs.length)])) ∨ (keyE s bs.length = 0 ∧ s.ks ≤ 256 ∧ (keyL s bs).length = s.ks ∧ OkB (keyL s bs) ∧ ∃ g c, e = .returned (.tuple #[.slice (some ⟨g, 0, none⟩) s.ks c, .int .i64 0]) ∧ w'.ownsRow w.heap.size 5 1 (.slice (some ⟨g, 0, none⟩) s.ks c) s.ks (bytesV (keyL s bs))))
theorem zer_own (w : World) (B k : Nat) (hB : B ≤ w.heap.size) (hk : k ≤ 1048576) : (w.alloc (.cells (bytesV (zer8 k)).toArray 5)).ownsRow B 5 1 (.slice (some ⟨w.heap.size, 0, none⟩) k k) k (bytesV (zer8 k)) := by
  refine own8_of hB (heap_alloc_new w _) (Nat.le_refl _) (by unfold maxLen; omega) (by simp [bytesV, zer8]) ?_ (zer8_len k)
  exact List.take_of_length_le (by simp [bytesV, zer8])
theorem key_any (m : Nat) (bs : List Int) (s : Sr) (ok : s.ok) (w : World) (M : MRd w m bs) :
    Calls Try.prog 84 #[.pointer (some ⟨m, 0, none⟩), .agg #[.int .u32 s.key, .int .u32 s.ks, .int .u32 s.start, .int .u32 s.size, .int .u32 s.cnt, .int .u32 s.off, .int .u32 s.nxt, .int .u32 s.opt]] w (KRet s bs w) := by
  have HMK := hidden (mayK_any s ok)
  have HX := hidden (SBox.new w s)
  have hb1 : Below w.heap.size w (w.alloc (.cells #[.int .u32 s.key, .int .u32 s.ks, .int .u32 s.start, .int .u32 s.size, .int .u32 s.cnt, .int .u32 s.off, .int .u32 s.nxt, .int .u32 s.opt] 127)) := (Below.refl _ _).alloc (Nat.le_refl _) _
  have HB := hidden hb1
  have HM := hidden M
  clear hb1 M
  cases hmk : mayK s
  · rw [hmk] at HMK
    have HE : Hid (keyE s bs.length = 130) := hidden (by unfold keyE; rw [hmk]; rfl)
    clear hmk
    go_enter Try.func84, Try.ntmps84
    go_upto_region 1 with fail
    generalize w.alloc (.cells #[.int .u32 s.key, .int .u32 s.ks, .int .u32 s.start, .int .u32 s.size, .int .u32 s.cnt, .int .u32 s.off, .int .u32 s.nxt, .int .u32 s.opt] 127) = w1 at *
    obtain ⟨c0, c1, c2, c3, c4, c5, c6, c7⟩ := HX.out.cells
    go_wp2_with (go_at_call 91; refine (HMK.out _).mono ?_; rintro e w2 ⟨rfl, hb2⟩)
    go_ret2
    unfold KRet
    rw [HE.out]
    exact ⟨HB.out.trans (hb2.mono HB.out.size), .inl ⟨by decide, rfl⟩⟩
  · rw [hmk] at HMK
    cases hop : optB s.opt 1
    · have hks : s.ks = 1 ∨ s.ks = 2 ∨ s.ks = 4 := by
        have := hmk
        unfold mayK at this
        rw [hop] at this
        simpa using this
      have HE : Hid (keyE s bs.length = 0) := hidden (by unfold keyE; rw [hmk, hop]; rfl)
      have HL : Hid (keyL s bs = putL s.key s.ks) := hidden (by unfold keyL; rw [hop]; rfl)
      have hpl : (putL s.key s.ks).length = s.ks := by have := putL_len s.key s.ks (by unfold IsW; omega); omega
      have HA := hidden (fun w1 => ask_1 s.key s.ks s.start s.size s.cnt s.off s.nxt s.opt w1 ok.opt)
      rw [hop] at HA
      have HPU := hidden (fun w1 => put_any (s.key : Int) (s.ks : Int) w1 (by unfold IsW; omega))
      rw [hpl] at HPU
      have hw : IntKind.i64.wrap (s.ks : Int) = s.ks := by rw [IntKind.wrap_i64]; omega
      have HK := hidden hks
      have HPL := hidden hpl
      clear hmk hop hks hpl
      go_enter Try.func84, Try.ntmps84
      go_upto_region 1 with fail
      generalize w.alloc (.cells #[.int .u32 s.key, .int .u32 s.ks, .int .u32 s.start, .int .u32 s.size, .int .u32 s.cnt, .int .u32 s.off, .int .u32 s.nxt, .int .u32 s.opt] 127) = w1 at *
      obtain ⟨c0, c1, c2, c3, c4, c5, c6, c7⟩ := HX.out.cells
      go_upto_region 5 with (go_at_call 91; refine (HMK.out _).mono ?_; rintro e w2 ⟨rfl, hb2⟩)
      replace HX := hidden (HX.out.later hb2)
      replace HB := hidden (HB.out.trans (hb2.mono HB.out.size))
      clear c0 c1 c2 c3 c4 c5 c6 c7 hb2
      obtain ⟨c0, c1, c2, c3, c4, c5, c6, c7⟩ := HX.out.cells
      go_upto_region 6 with (go_at_call 85; refine (HA.out _).mono ?_; rintro e w3 ⟨rfl, hb3⟩)
      replace HX := hidden (HX.out.later hb3)
      replace HB := hidden (HB.out.trans (hb3.mono HB.out.size))
      clear c0 c1 c2 c3 c4 c5 c6 c7 hb3
      obtain ⟨c0, c1, c2, c3, c4, c5, c6, c7⟩ := HX.out.cells
      go_wp2_with (go_at_call 30; refine (HPU.out _).mono ?_; rintro e w4 ⟨rfl, hw4⟩)
      go_ret2
      subst hw4
      have hlen := HB.out.size
      have ho := owns_new w3 w.heap.size (putL s.key s.ks) hlen (by rw [HPL.out]; unfold maxLen; have := HK.out; omega)
      unfold KRet
      rw [HE.out]
      refine ⟨HB.out.alloc hlen _, .inr ⟨rfl, by have := HK.out; omega, ?_, ?_, w3.heap.size, s.ks, rfl, ?_⟩⟩
      · rw [HL.out, HPL.out]
      · rw [HL.out]; exact putL_bd _ _
      · rw [HL.out]; rw [HPL.out] at ho; exact ho
    · have hks : s.ks ≤ 256 := by
        have := hmk
        unfold mayK at this
        rw [hop] at this
        simpa using this
      have HE : Hid (keyE s bs.length = tkE bs.length s.key s.ks) := hidden (by unfold keyE; rw [hmk, hop]; rfl)
      have HL : Hid (keyL s bs = seg bs s.key s.ks) := hidden (by unfold keyL; rw [hop]; rfl)
      have HA := hidden (fun w1 => ask_1 s.key s.ks s.start s.size s.cnt s.off s.nxt s.opt w1 ok.opt)
      rw [hop] at HA
      have HMS := hidden (fun w1 => mk8 .u32 s.ks (by omega) w1)
      have hky := ok.key
      have HOK := hidden HM.out.okb
      clear hmk hop
      go_enter Try.func84, Try.ntmps84
      go_upto_region 1 with fail
      generalize w.alloc (.cells #[.int .u32 s.key, .int .u32 s.ks, .int .u32 s.start, .int .u32 s.size, .int .u32 s.cnt, .int .u32 s.off, .int .u32 s.nxt, .int .u32 s.opt] 127) = w1 at *
      obtain ⟨c0, c1, c2, c3, c4, c5, c6, c7⟩ := HX.out.cells
      go_upto_region 5 with (go_at_call 91; refine (HMK.out _).mono ?_; rintro e w2 ⟨rfl, hb2⟩)
      replace HX := hidden (HX.out.later hb2)
      replace HB := hidden (HB.out.trans (hb2.mono HB.out.size))
      clear c0 c1 c2 c3 c4 c5 c6 c7 hb2
      obtain ⟨c0, c1, c2, c3, c4, c5, c6, c7⟩ := HX.out.cells
      go_upto_region 7 with (go_at_call 85; refine (HA.out _).mono ?_; rintro e w3 ⟨rfl, hb3⟩)
      replace HX := hidden (HX.out.later hb3)
      replace HB := hidden (HB.out.trans (hb3.mono HB.out.size))
      clear c0 c1 c2 c3 c4 c5 c6 c7 hb3
      obtain ⟨c0, c1, c2, c3, c4, c5, c6, c7⟩ := HX.out.cells
      have hmk := HMS.out w3
      go_upto_region 8 with fail
      have hlen := HB.out.size
      have HO := hidden (zer_own w3 w.heap.size s.ks hlen (by omega))
      have hba : Below w3.heap.size w3 (w3.alloc (.cells (bytesV (zer8 s.ks)).toArray 5)) := (Below.refl _ _).alloc (Nat.le_refl _) _
      replace HX := hidden (HX.out.later hba)
      replace HB := hidden (HB.out.trans (hba.mono hlen))
      clear c0 c1 c2 c3 c4 c5 c6 c7 hba hmk HMS
      generalize w3.alloc (.cells (bytesV (zer8 s.ks)).toArray 5) = w4 at *
      generalize w3.heap.size = g at *
      obtain ⟨c0, c1, c2, c3, c4, c5, c6, c7⟩ := HX.out.cells
      have HT := hidden (take_any w m bs HM.out s.key hky g s.ks s.ks (zer8 s.ks) w4 HB.out HO.out hks)
      obtain ⟨E, hE⟩ : ∃ E, tkE bs.length s.key s.ks = E := ⟨_, rfl⟩
      rw [hE] at HT HE
      have HEE := hidden hE
      clear hE
      by_cases hE0 : E = 0
      · subst hE0
        go_wp2_with (go_at_call 92; refine HT.out.mono ?_; rintro e w5 ⟨rfl, ⟨zs, hz1, hz2⟩, hfm⟩)
        go_ret2
        unfold KRet
        have hz3 : zs = seg bs s.key s.ks := by first | exact hz2 rfl | exact hz2 trivial
        rw [HE.out, HL.out, ← hz3]
        have hgg := (HO.out.lt g rfl).1
        refine ⟨HB.out.trans (hfm.below HB.out.size (fun k e => by subst e; exact hgg)), .inr ⟨rfl, hks, ?_, ?_, g, s.ks, rfl, hz1⟩⟩
        · rw [hz3]; exact tk_len HEE.out
        · rw [hz3]; exact seg_ok HOK.out _ _
      · have hne : (E != 0) = true := by simpa using hE0
        have HNE := hidden hE0
        clear hE0
        go_wp2_with (go_at_call 92; refine HT.out.mono ?_; rintro e w5 ⟨rfl, ⟨zs, hz1, hz2⟩, hfm⟩)
        go_ret2
        unfold KRet
        rw [HE.out]
        have hgg := (HO.out.lt g rfl).1
        exact ⟨HB.out.trans (hfm.below HB.out.size (fun k e => by subst e; exact hgg)), .inl ⟨HNE.out, rfl⟩⟩
end Go.Proofs.Ytpgppdkbkkljnaa
namespace Go.Proofs.Ytpgppdkbkkljnaa
open Go.RowKit
set_option maxHeartbeats 1000000
set_option maxRecDepth 100000
set_option linter.unusedVariables false

/-- a hunt's own cells -/
def HBx (w : World) (H m : Nat) (s : Sr) (kv hv : Value) : Prop := w.heap[H]? = some (.cells #[.pointer (some ⟨m, 0, none⟩), .int .u32 s.key, .int .u32 s.ks, .int .u32 s.start, .int .u32 s.size, .int .u32 s.cnt, .int .u32 s.off, .int .u32 s.nxt, .int .u32 s.opt, kv, hv] 149 (0, 0))
theorem HBx.lt {w : World} {H m : Nat} {s : Sr} {kv hv : Value} (h : HBx w H m s kv hv) : H < w.heap.size := (Array.getElem?_eq_some_iff.1 h).1
theorem HBx.cells {w : World} {H m : Nat} {s : Sr} {kv hv : Value} (h : HBx w H m s kv hv) : w.cell? ⟨H, 0, none⟩ = some (.pointer (some ⟨m, 0, none⟩)) ∧ w.cell? ⟨H, 1, none⟩ = some (.int .u32 s.key) ∧ w.cell? ⟨H, 2, none⟩ = some (.int .u32 s.ks) ∧ w.cell? ⟨H, 3, none⟩ = some (.int .u32 s.start) ∧ w.cell? ⟨H, 4, none⟩ = some (.int .u32 s.size) ∧ w.cell? ⟨H, 5, none⟩ = some (.int .u32 s.cnt) ∧ w.cell? ⟨H, 6, none⟩ = some (.int .u32 s.off) ∧ w.cell? ⟨H, 7, none⟩ = some (.int .u32 s.nxt) ∧ w.cell? ⟨H, 8, none⟩ = some (.int .u32 s.opt) ∧ w.cell? ⟨H, 9, none⟩ = some kv ∧ w.cell? ⟨H, 10, none⟩ = some hv := by
  unfold HBx at h
  refine ⟨?_, ?_, ?_, ?_, ?_, ?_, ?_, ?_, ?_, ?_, ?_⟩ <;> simp [World.cell?, h]
theorem HBx.ne8 {w : World} {H m : Nat} {s : Sr} {kv hv : Value} (h : HBx w H m s kv hv) {base n : Nat} {v : Value} {xs : List Value} (ho : w.ownsRow base 5 1 v n xs) : v.ownBlock ≠ some H := by
  intro e
  rcases ho.2 with ⟨h1, _⟩ | ⟨g, cap, cur, h1, h2, h3, _⟩
  · rw [h1] at e; cases e
  · rw [h1] at e
    have : g = H := by simpa [Value.ownBlock] using e
    subst this
    unfold HBx at h
    rw [h3] at h
    simp at h
/-- a hunt in memory of the call's own (w0: the world at the call) -/
structure HAt (w0 w : World) (H m : Nat) (s : Sr) (kg kc hg hc : Nat) (key held : List Int) : Prop where
  box : HBx w H m s (.slice (some ⟨kg, 0, none⟩) s.ks kc) (.slice (some ⟨hg, 0, none⟩) s.ks hc)
  key : w.ownsRow w0.heap.size 5 1 (.slice (some ⟨kg, 0, none⟩) s.ks kc) s.ks (bytesV key)
  held : w.ownsRow w0.heap.size 5 1 (.slice (some ⟨hg, 0, none⟩) s.ks hc) s.ks (bytesV held)
  ne : kg ≠ hg
  base : w0.heap.size ≤ H
  below : Below w0.heap.size w0 w
theorem HAt.later {w0 w w' : World} {H m : Nat} {s : Sr} {kg kc hg hc : Nat} {key held : List Int} (h : HAt w0 w H m s kg kc hg hc key held) (hb : Below w.heap.size w w') : HAt w0 w' H m s kg kc hg hc key held :=
  ⟨(hb.block H h.box.lt).trans h.box, own_later h.key hb, own_later h.held hb, h.ne, h.base, h.below.trans (hb.mono h.below.size)⟩
theorem HAt.new {w0 w w' : World} {H m : Nat} {s : Sr} {kg kc hg hc : Nat} {key held zs : List Int} (h : HAt w0 w H m s kg kc hg hc key held) (f : Fm w w' (fun k => k = hg) (fun k => k = hg)) (ho : w'.ownsRow w0.heap.size 5 1 (.slice (some ⟨hg, 0, none⟩) s.ks hc) s.ks (bytesV zs)) : HAt w0 w' H m s kg kc hg hc key zs := by
  have hH : H ≠ hg := fun e => h.box.ne8 h.held (by rw [e]; rfl)
  refine ⟨(f.block H h.box.lt hH).trans h.box, own8_fm f h.key (fun k e1 e2 => ?_), ho, h.ne, h.base, h.below.trans (f.below h.below.size (fun k e => by subst e; exact (h.held.lt _ rfl).1))⟩
  simp only [Value.ownBlock, Option.some.injEq] at e1
  exact h.ne (e1.trans e2)
/-- blocks beside the hunt's -/
theorem HAt.frame {w0 w w' : World} {H m : Nat} {s : Sr} {kg kc hg hc : Nat} {key held : List Int} (h : HAt w0 w H m s kg kc hg hc key held) (q i : Nat) (u : Value) (hq : w0.heap.size ≤ q) (h1 : q ≠ H) (h2 : q ≠ kg) (h3 : q ≠ hg) : HAt w0 (w.setCell ⟨q, i, none⟩ u) H m s kg kc hg hc key held := by
  have f : Fm w (w.setCell ⟨q, i, none⟩ u) (fun k => k = q) (fun k => k = q) := (Fm.same (Below.refl _ _)).set q i u rfl
  refine ⟨(f.block H h.box.lt (fun e => h1 e.symm)).trans h.box, own8_fm f h.key (fun k e1 e2 => ?_), own8_fm f h.held (fun k e1 e2 => ?_), h.ne, h.base, h.below.trans (f.below h.below.size (fun k e => by subst e; exact hq))⟩
  · simp only [Value.ownBlock, Option.some.injEq] at e1
    exact h2 (e2.symm.trans e1.symm)
  · simp only [Value.ownBlock, Option.some.injEq] at e1
    exact h3 (e2.symm.trans e1.symm)
/-- what begin answers -/
def BRet (s : Sr) (bs : List Int) (m : Nat) (w : World) (e : Ending) (w' : World) : Prop := (keyE s bs.length ≠ 0 ∧ e = .returned (.tuple #[.pointer none, .int .i64 (keyE s bs.length)]) ∧ Below w.heap.size w w') ∨ (keyE s bs.length = 0 ∧ s.ks ≤ 256 ∧ (keyL s bs).length = s.ks ∧ OkB (keyL s bs) ∧ ∃ H kg kc hg hc held, e = .returned (.tuple #[.pointer (some ⟨H, 0, none⟩), .int .i64 0]) ∧ HAt w w' H m s kg kc hg hc (keyL s bs) held)
theorem begin_any (m : Nat) (bs : List Int) (s : Sr) (ok : s.ok) (w : World) (M : MRd w m bs) :
    Calls Try.prog 76 #[.pointer (some ⟨m, 0, none⟩), .agg #[.int .u32 s.key, .int .u32 s.ks, .int .u32 s.start, .int .u32 s.size, .int .u32 s.cnt, .int .u32 s.off, .int .u32 s.nxt, .int .u32 s.opt]] w (BRet s bs m w) := by
  have HX := hidden (SBox.new w s)
  have hb1 : Below w.heap.size w (w.alloc (.cells #[.int .u32 s.key, .int .u32 s.ks, .int .u32 s.start, .int .u32 s.size, .int .u32 s.cnt, .int .u32 s.off, .int .u32 s.nxt, .int .u32 s.opt] 127)) := (Below.refl _ _).alloc (Nat.le_refl _) _
  have HK := hidden (key_any m bs s ok _ (M.later hb1))
  have HB := hidden hb1
  clear hb1 M
  go_enter Try.func76, Try.ntmps76
  go_upto_region 1 with fail
  generalize w.alloc (.cells #[.int .u32 s.key, .int .u32 s.ks, .int .u32 s.start, .int .u32 s.size, .int .u32 s.cnt, .int .u32 s.off, .int .u32 s.nxt, .int .u32 s.opt] 127) = w1 at *
  obtain ⟨c0, c1, c2, c3, c4, c5, c6, c7⟩ := HX.out.cells
  go_wp2_with fail
  refine HK.out.mono ?_
  rintro e w2 ⟨hb2, hcase⟩
  replace HX := hidden (HX.out.later hb2)
  have hs1 := HB.out.size
  replace HB := hidden (HB.out.trans (hb2.mono hs1))
  clear c0 c1 c2 c3 c4 c5 c6 c7 hb2 HK
  rcases hcase with ⟨hne, rfl⟩ | ⟨he, hk, hkl, hok, g, c, rfl, ho⟩
  · have hq : (keyE s bs.length != 0) = true := by simpa using hne
    have HN := hidden hne
    clear hne
    generalize hE : keyE s bs.length = E at *
    have HEE := hidden hE
    clear hE
    go_wp2
    go_ret2
    unfold BRet
    rw [HEE.out]
    exact .inl ⟨HN.out, rfl, HB.out⟩
  · have HO := hidden (own_base (B := w.heap.size) ho hs1)
    have HKE := hidden he
    have HKL := hidden hkl
    have HOK := hidden hok
    clear ho he hkl hok
    have HS2 := hidden HB.out.size
    have hmk : ∀ w : World, (Instr.makeSlice 50 (.int .i64 s.ks) (.int .i64 s.ks)).run Try.prog w = .ok (.slice (some ⟨w.heap.size, 0, none⟩) s.ks s.ks) (w.alloc (.cells (bytesV (zer8 s.ks)).toArray 5)) := fun w => mk8 .i64 s.ks (by omega) w
    generalize hZ : (bytesV (zer8 s.ks)).toArray = Z at *
    have HZ := hidden hZ
    clear hZ
    obtain ⟨c0, c1, c2, c3, c4, c5, c6, c7⟩ := HX.out.cells
    obtain ⟨d0, d1, d2, d3, d4, d5, d6, d7⟩ := (HX.out.later ((Below.refl _ _).alloc (Nat.le_refl _) (.cells Z 5))).cells
    go_wp2
    go_region
    all_goals (try go_wp2)
    go_ret2
    have hs2 := HS2.out
    have hbA : Below w2.heap.size w2 (w2.alloc (.cells Z 5)) := (Below.refl _ _).alloc (Nat.le_refl _) _
    have hbB : ∀ o, Below w2.heap.size w2 ((w2.alloc (.cells Z 5)).alloc o).drew := fun o => (hbA.alloc (by simp) o).drew
    have hh := zer_own w2 w.heap.size s.ks hs2 (by omega)
    rw [HZ.out] at hh
    have hgl := (HO.out.lt g rfl).2
    unfold BRet
    refine .inr ⟨HKE.out, hk, HKL.out, HOK.out, w2.heap.size + 1, g, c, w2.heap.size, s.ks, zer8 s.ks, rfl, ?_, ?_, ?_, by omega, by omega, HB.out.trans ((hbB _).mono hs2)⟩
    · unfold HBx
      have := heap_alloc_new (w2.alloc (.cells Z 5)) (.cells #[.pointer (some ⟨m, 0, none⟩), .int .u32 s.key, .int .u32 s.ks, .int .u32 s.start, .int .u32 s.size, .int .u32 s.cnt, .int .u32 s.off, .int .u32 s.nxt, .int .u32 s.opt, .slice (some ⟨g, 0, none⟩) s.ks c, .slice (some ⟨w2.heap.size, 0, none⟩) s.ks s.ks] 149)
      have h2 : (w2.alloc (.cells Z 5)).heap.size = w2.heap.size + 1 := by simp
      rw [h2] at this
      exact this
    · exact own_later HO.out (hbB _)
    · exact own_later hh (((Below.refl _ _).alloc (Nat.le_refl _) _).drew)
theorem PBox.set {w : World} {q : Nat} {i a : Int} (h : PBox w q i a) (j b : Int) : PBox ((w.setCell ⟨q, 0, none⟩ (.int .u32 j)).setCell ⟨q, 1, none⟩ (.int .u32 b)) q j b := by
  unfold PBox at *
  simp [World.setCell, Array.getElem?_modify, h]
theorem PBox.drew {w : World} {q : Nat} {i a : Int} (h : PBox w q i a) : PBox w.drew q i a := h
/-- where a structure of a row lies -/
theorem inRow_any (w0 w : World) (H m : Nat) (s : Sr) (kg kc hg hc : Nat) (key held : List Int) (A : HAt w0 w H m s kg kc hg hc key held) (i : Nat) (hi : i < 4294967296) :
    Calls Try.prog 86 #[.pointer (some ⟨H, 0, none⟩), .int .u32 i] w fun e w' => e = .returned (.agg #[.int .u32 i, .int .u32 (spA s i)]) ∧ Below w.heap.size w w' := by
  have e1 : IntKind.u32.wrap ((i : Int) * (s.size : Int)) = (wr32 (i * s.size) : Int) := by
    rw [IntKind.wrap_u32]; unfold wr32; rw [← Int.natCast_mul]; omega
  have e2 : IntKind.u32.wrap ((s.start : Int) + (wr32 (i * s.size) : Int)) = (spA s i : Int) := by
    rw [IntKind.wrap_u32]; unfold spA; rw [← Int.natCast_add]; unfold wr32; omega
  obtain ⟨c0, c1, c2, c3, c4, c5, c6, c7, c8, c9, c10⟩ := A.box.cells
  generalize hX : wr32 (i * s.size) = X at *
  generalize hY : spA s i = Y at *
  clear A hX hY c0 c1 c2 c5 c6 c7 c8 c9 c10
  have hlt := (World.block_lt_of_cell? _ _ c3)
  have d3 : (w.alloc (.cells #[.int .u32 0, .int .u32 0] 152)).cell? ⟨H, 3, none⟩ = some (.int .u32 s.start) := cellLater ((Below.refl _ _).alloc (Nat.le_refl _) _) c3
  have d4 : (w.alloc (.cells #[.int .u32 0, .int .u32 0] 152)).cell? ⟨H, 4, none⟩ = some (.int .u32 s.size) := cellLater ((Below.refl _ _).alloc (Nat.le_refl _) _) c4
  have hx := PBox.new w 0 0
  have hbl : Below w.heap.size w (w.alloc (.cells #[.int .u32 0, .int .u32 0] 152)) := (Below.refl _ _).alloc (Nat.le_refl _) _
  go_enter Try.func86, Try.ntmps86
  go_upto_region 1 with fail
  generalize w.alloc (.cells #[.int .u32 0, .int .u32 0] 152) = W at *
  obtain ⟨p0, p1, pf⟩ := hx.cells
  have f0 := pf 0
  have f1 := pf 1
  clear c3 c4
  go_region
  all_goals (try go_wp2)
  have hp2 := (hx.set (i : Int) (Y : Int)).drew
  have hbl2 : Below w.heap.size w ((W.setCell ⟨w.heap.size, 0, none⟩ (.int .u32 (i : Int))).setCell ⟨w.heap.size, 1, none⟩ (.int .u32 (Y : Int))).drew := ((hbl.setCell (p := ⟨w.heap.size, 0, none⟩) (Nat.le_refl _) _).setCell (p := ⟨w.heap.size, 1, none⟩) (Nat.le_refl _) _).drew
  generalize ((W.setCell ⟨w.heap.size, 0, none⟩ (.int .u32 (i : Int))).setCell ⟨w.heap.size, 1, none⟩ (.int .u32 (Y : Int))).drew = W2 at *
  obtain ⟨r0, r1, _⟩ := hp2.cells
  refine bodyPost_ret (v := .agg #[.int .u32 (i : Int), .int .u32 (Y : Int)]) (by simp [results, Try.results86, go_sem, r0, r1]) rfl ⟨rfl, hbl2⟩
/-- a memory's bytes as Compare reads them -/
theorem compare_any (B g n c B2 h c2 : Nat) (xs ys : List Int) (w : World) (h1 : w.ownsRow B 5 1 (.slice (some ⟨g, 0, none⟩) n c) n (bytesV xs)) (h2 : w.ownsRow B2 5 1 (.slice (some ⟨h, 0, none⟩) n c2) n (bytesV ys)) :
    Calls Try.prog 93 #[.slice (some ⟨g, 0, none⟩) n c, .slice (some ⟨h, 0, none⟩) n c2] w fun e w' => e = .returned (.int .i64 (cmpI xs ys)) ∧ w' = w := by
  have l1 : xs.length = n := by have := h1.1; simpa [bytesV] using this
  have l2 : ys.length = n := by have := h2.1; simpa [bytesV] using this
  have e1 := Lib.run_loadBytesX (P := Try.prog) w xs ⟨g, 0, none⟩ .empty (fun j x hj => by
    have hjl : j < xs.length := (List.getElem?_eq_some_iff.1 hj).1
    rw [plain_add, owned_cells h1 j (by omega), List.getD_eq_getElem?_getD, hj]; rfl)
  have e2 := Lib.run_loadBytesX (P := Try.prog) w ys ⟨h, 0, none⟩ .empty (fun j x hj => by
    have hjl : j < ys.length := (List.getElem?_eq_some_iff.1 hj).1
    rw [plain_add, owned_cells h2 j (by omega), List.getD_eq_getElem?_getD, hj]; rfl)
  rw [l1] at e1
  rw [l2] at e2
  have hr : (Extern.BytealgCompare.compare #[.slice (some ⟨g, 0, none⟩) n c, .slice (some ⟨h, 0, none⟩) n c2]).run Try.prog w = .ok (.int .i64 (cmpI xs ys)) w := by
    change Sem.run Try.prog (do pure (goInt (Extern.BytealgCompare.cmp (← Extern.Bytes.bytesOf (.slice (some ⟨g, 0, none⟩) n c)) (← Extern.Bytes.bytesOf (.slice (some ⟨h, 0, none⟩) n c2))))) w = _
    simp only [Extern.Bytes.bytesOf, Sem.run_bind, Sem.run_pure, e1, e2, Result.andThen]
    rw [Lib.cmp_eq]
    simp [cmpI, goInt]
  clear h1 h2 e1 e2 l1 l2
  go_enter Try.func93, Try.ntmps93
  go_wp2
  rw [run_callFunc_extern Try.func94 (by kernel_rfl) (by kernel_rfl) (by kernel_rfl) (e := Extern.BytealgCompare.compare) (by kernel_rfl), hr]
  simp only [Result.andThen]
  rw [Oper.upon_value]
  go_wp2
  go_ret
  exact ⟨rfl, rfl⟩
end Go.Proofs.Ytpgppdkbkkljnaa
namespace Go.Proofs.Ytpgppdkbkkljnaa
open Go.RowKit
set_option maxHeartbeats 1000000
set_option maxRecDepth 100000
set_option linter.unusedVariables false

/-- what look answers, and the hunt behind it -/
def LkRet (w0 w : World) (bs : List Int) (H m : Nat) (s : Sr) (kg kc hg hc : Nat) (key : List Int) (a : Nat) (e : Ending) (w' : World) : Prop :=
  Fm w w' (fun k => k = hg) (fun k => k = hg) ∧ ∃ held, HAt w0 w' H m s kg kc hg hc key held ∧ ((kyE s bs.length a ≠ 0 ∧ e = .returned (.tuple #[.int .i64 0, .int .i64 90])) ∨ (kyE s bs.length a = 0 ∧ held = kyL s bs a ∧ e = .returned (.tuple #[.int .i64 (cmpI (kyL s bs a) key), .int .i64 0])))
theorem look_any (w0 w : World) (bs : List Int) (H m : Nat) (s : Sr) (ok : s.ok) (kg kc hg hc : Nat) (key held : List Int) (M : MRd w0 m bs) (A : HAt w0 w H m s kg kc hg hc key held) (hk : s.ks ≤ 256) (a : Nat) (ha : a < 4294967296) :
    Calls Try.prog 87 #[.pointer (some ⟨H, 0, none⟩), .int .u32 a] w (LkRet w0 w bs H m s kg kc hg hc key a) := by
  obtain ⟨c0, c1, c2, c3, c4, c5, c6, c7, c8, c9, c10⟩ := A.box.cells
  have e1 : IntKind.u32.wrap ((a : Int) + (s.off : Int)) = (wr32 (a + s.off) : Int) := by
    rw [IntKind.wrap_u32]; unfold wr32; rw [← Int.natCast_add]; omega
  have hbd : Below w.heap.size w w.drew := (Below.refl _ _).drew
  have A' := A.later hbd
  have HT := hidden (take_any w0 m bs M (wr32 (a + s.off)) (wr32_lt _) hg s.ks hc held w.drew A'.below A'.held hk)
  have HA := hidden A
  clear A A' c1 c2 c3 c4 c5 c7 c8
  unfold kyE at *
  obtain ⟨E, hE⟩ : ∃ E, tkE bs.length (wr32 (a + s.off)) s.ks = E := ⟨_, rfl⟩
  have HE : Hid (kyE s bs.length a = E) := hidden hE
  rw [hE] at HT
  have HO := hidden (tkE_or bs.length (wr32 (a + s.off)) s.ks)
  rw [hE] at HO
  clear hE
  by_cases h0 : E = 0
  · subst h0
    go_enter Try.func87, Try.ntmps87
    go_upto_region 1 with fail
    go_region_held3 (fun w' => w'.cell? ⟨H, 0, none⟩ = some (.pointer (some ⟨m, 0, none⟩)) ∧ w'.cell? ⟨H, 6, none⟩ = some (.int .u32 s.off) ∧ w'.cell? ⟨H, 9, none⟩ = some (.slice (some ⟨kg, 0, none⟩) s.ks kc) ∧ w'.cell? ⟨H, 10, none⟩ = some (.slice (some ⟨hg, 0, none⟩) s.ks hc)) (first | assumption | exact ⟨by assumption, by assumption, by assumption, by assumption⟩ | go_keep) (first | (go_at_call 92; refine HT.out.mono ?_; rintro e w2 ⟨rfl, ⟨zs, hz1, hz2⟩, hfm⟩; have HZ := hidden hz2; have HF := hidden hfm; have HA2 := hidden ((HA.out.later hbd).new hfm hz1); clear hz2 hfm hz1; obtain ⟨k0, -, -, -, -, -, k6, -, -, k9, k10⟩ := HA2.out.box.cells; skip) | fail)
    all_goals (try go_upto_region 4 with fail)
    have hz3 : zs = kyL s bs a := by first | exact HZ.out rfl | exact HZ.out trivial
    subst hz3
    have HA3 := hidden (HA2.out.later (Below.refl _ _).drew)
    have HC := hidden (compare_any _ _ _ _ _ _ _ _ _ w2.drew HA3.out.held HA3.out.key)
    clear HT HO c0 c6 c9 c10
    go_region_held3 (fun w' => w'.cell? ⟨H, 0, none⟩ = some (.pointer (some ⟨m, 0, none⟩)) ∧ w'.cell? ⟨H, 6, none⟩ = some (.int .u32 s.off) ∧ w'.cell? ⟨H, 9, none⟩ = some (.slice (some ⟨kg, 0, none⟩) s.ks kc) ∧ w'.cell? ⟨H, 10, none⟩ = some (.slice (some ⟨hg, 0, none⟩) s.ks hc)) (first | assumption | exact ⟨by assumption, by assumption, by assumption, by assumption⟩ | go_keep) (first | (go_at_call 93; refine HC.out.mono ?_; rintro e w3 ⟨rfl, rfl⟩; skip) | fail)
    all_goals (try go_wp2)
    go_ret2
    unfold LkRet
    rw [HE.out]
    refine ⟨?_, kyL s bs a, HA3.out, .inr ⟨rfl, rfl, rfl⟩⟩
    exact ⟨HF.out.os, HF.out.tape, HF.out.output, HF.out.size, HF.out.block, HF.out.row⟩
  · have hne : (E != 0) = true := by simpa using h0
    have h90 : E = 90 := by rcases HO.out with h | h; exact absurd h h0; exact h
    subst h90
    clear h0
    go_enter Try.func87, Try.ntmps87
    go_upto_region 1 with fail
    go_region_held3 (fun w' => w'.cell? ⟨H, 0, none⟩ = some (.pointer (some ⟨m, 0, none⟩)) ∧ w'.cell? ⟨H, 6, none⟩ = some (.int .u32 s.off) ∧ w'.cell? ⟨H, 9, none⟩ = some (.slice (some ⟨kg, 0, none⟩) s.ks kc) ∧ w'.cell? ⟨H, 10, none⟩ = some (.slice (some ⟨hg, 0, none⟩) s.ks hc)) (first | assumption | exact ⟨by assumption, by assumption, by assumption, by assumption⟩ | go_keep) (first | (go_at_call 92; refine HT.out.mono ?_; rintro e w2 ⟨rfl, ⟨zs, hz1, hz2⟩, hfm⟩; have HF := hidden hfm; have HA2 := hidden ((HA.out.later hbd).new hfm hz1); clear hz2 hfm hz1; obtain ⟨k0, -, -, -, -, -, k6, -, -, k9, k10⟩ := HA2.out.box.cells; skip) | fail)
    all_goals (try go_wp2)
    go_ret2
    unfold LkRet
    rw [HE.out]
    refine ⟨?_, zs, HA2.out, .inl ⟨by decide, rfl⟩⟩
    exact ⟨HF.out.os, HF.out.tape, HF.out.output, HF.out.size, HF.out.block, HF.out.row⟩
end Go.Proofs.Ytpgppdkbkkljnaa
