/- Layer 15: a shelf with one buffer, and a row beside it; Write, Tell, Read, Close. -/
import Derived.Test.YtmohnopegacahaaV15c
namespace Go.Proofs.Ytmohnopegacahaa
open Go.RowKit
set_option maxHeartbeats 1000000
set_option maxRecDepth 100000
set_option linter.unusedVariables false

set_option maxHeartbeats 4000000 in
theorem write_any0 {B m : Nat} {w : World} {s : Sh} (h : ShAt B w m s) (ok : OkS s) (hB : B ≤ w.heap.size) (hsum : sumF s.F ≤ 4000000) (i : Nat) (hi : i < s.S.length) (x : Int) (hx : s.S[i].n = x) (hw : wrB s.S[i].md = true) (hpl : s.S[i].pl ≤ gsz s.S[i].f s.S[i].wd (zsOf s s.S[i]))
    (a : Option Addr) (xs : List Nat) (c : Nat) (hr : VRow w a xs.length xs) (hna : 0 < xs.length → ∀ y : Addr, a = some y → ¬ TS m s y.block) (hroom : s.S[i].f = true → roomB s s.S[i] xs.length = true) (hbd : s.S[i].pl + xs.length ≤ 900000) :
    Calls Try.prog 14 #[.pointer (some ⟨m, 0, none⟩), .int .i64 x, .slice a xs.length c] w fun e w' => e = .returned (.int .i64 0) ∧ Hid (WrAt B w m s i s.S[i] (wrAll s.S[i].f s.S[i].wd ⟨s.S[i].pl, s.S[i].wr, zsOf s s.S[i]⟩ xs) w') := by
  have hmem := List.getElem_mem hi
  have HA := hidden (at_some h ok i hi x hx)
  have HWR : Hid (∀ w1, Below w.heap.size w w1 → Calls Try.prog 35 #[.pointer (some ⟨s.S[i].k, 0, none⟩)] w1 fun e w' => e = .returned (.bool true) ∧ w' = w1) := hidden (fun w1 hb => by
    have := writes_any s.S[i] w1 ((h.later hb).ss _ hmem).2
    rw [hw] at this
    exact this)
  have HRM : Hid (∀ w1, Below w.heap.size w w1 → Calls Try.prog 36 #[.pointer (some ⟨m, 0, none⟩), .pointer (some ⟨s.S[i].k, 0, none⟩), .int .i64 xs.length] w1 fun e w' => e = .returned (.bool true) ∧ Hid (Below w.heap.size w w')) := hidden (fun w1 hb => by
    rcases (show s.S[i].f = false ∨ s.S[i].f = true by cases s.S[i].f <;> simp) with hf | hf
    · exact (hasRoom_buf s.S[i] ((h.later hb).ss _ hmem).2 hf xs.length).mono (fun e w' hh => ⟨hh.1, hidden (hb.trans (hh.2.mono hb.size))⟩)
    · have := hasRoom_file (h.later hb) ok hsum s.S[i] hmem hf xs.length (by omega)
      rw [hroom hf] at this
      exact this.mono (fun e w' hh => ⟨hh.1, hidden (hb.trans (hh.2.mono hb.size))⟩))
  have HST : Hid (∀ w1, Below w.heap.size w w1 → WrAt B w m s i s.S[i] (wrAll s.S[i].f s.S[i].wd ⟨s.S[i].pl, s.S[i].wr, zsOf s s.S[i]⟩ (xs.take 0)) w1) := hidden (fun w1 hb => WrAt.start (h.later hb) ok hb i hi)
  have hw4 : wdN s.S[i].wd ≤ 4 := by cases s.S[i].wd <;> decide
  have HSP : Hid (∀ w5 j, j < xs.length → WrAt B w m s i s.S[i] (wrAll s.S[i].f s.S[i].wd ⟨s.S[i].pl, s.S[i].wr, zsOf s s.S[i]⟩ (xs.take j)) w5 → Calls Try.prog 37 #[.pointer (some ⟨s.S[i].k, 0, none⟩), .int .u32 ((xs.getD j 0 : Nat) : Int)] w5 fun e w' => e = .returned (.tuple #[]) ∧ Hid (WrAt B w m s i s.S[i] (wrAll s.S[i].f s.S[i].wd ⟨s.S[i].pl, s.S[i].wr, zsOf s s.S[i]⟩ (xs.take (j + 1))) w')) := hidden (fun w5 j hj hW => by
    rw [wrAll_snoc _ _ _ _ _ hj]
    have h1 := wrAll_pl s.S[i].f s.S[i].wd ⟨s.S[i].pl, s.S[i].wr, zsOf s s.S[i]⟩ (xs.take j) hpl
    have h2 : (wrAll s.S[i].f s.S[i].wd ⟨s.S[i].pl, s.S[i].wr, zsOf s s.S[i]⟩ (xs.take j)).pl ≤ 900000 := by
      refine Nat.le_trans h1.2 ?_
      rw [List.length_take]
      show s.S[i].pl + min j xs.length ≤ 900000
      omega
    refine WrAt.step hi hW hB h1.1 ?_ _ ?_
    · refine Nat.le_trans (Nat.mul_le_mul_left _ hw4) ?_
      omega
    · have : xs.getD j 0 ∈ xs := by
        rw [List.getD_eq_getElem?_getD, List.getElem?_eq_getElem hj]
        exact List.getElem_mem hj
      have := hr.bd _ this
      omega)
  have HVR : Hid (∀ w1 j, WrAt B w m s i s.S[i] (wrAll s.S[i].f s.S[i].wd ⟨s.S[i].pl, s.S[i].wr, zsOf s s.S[i]⟩ (xs.take j)) w1 → VRow w1 a xs.length xs) := hidden (fun w1 j hW => by
    obtain ⟨s5, v5, h5, ok5, f5, _⟩ := hW
    rcases Nat.eq_zero_or_pos xs.length with q0 | q0
    · exact ⟨hr.ln, hr.bd, fun i hi => by omega⟩
    · exact hr.fm f5 (hna q0))
  have HXL := hidden (List.take_length (l := xs))
  have hxl : xs.length ≤ 900000 := by omega
  clear h ok hB hsum hx hw hpl hr hna hroom hbd hmem hw4
  generalize hWW : wrAll s.S[i].f s.S[i].wd ⟨s.S[i].pl, s.S[i].wr, zsOf s s.S[i]⟩ = WW at *
  clear hWW
  generalize s.S[i].k = KK at *
  obtain ⟨N, hN⟩ : ∃ N, xs.length = N := ⟨_, rfl⟩
  have HN := hidden hN
  rw [hN] at HRM HSP HVR hxl ⊢
  clear hN
  go_enter Try.func14, Try.ntmps14
  go_upto_region 9 with (first | (go_at_call 31; refine HA.out.mono ?_; rintro e w2 ⟨rfl, hb2⟩; have HB2 := hidden hb2; clear hb2) | (go_at_call 35; refine (HWR.out _ HB2.out).mono ?_; rintro e w3 ⟨rfl, e3⟩; rw [e3]; clear e3) | (go_at_call 36; refine (HRM.out _ HB2.out).mono ?_; rintro e w4 ⟨rfl, HB4⟩) | fail)
  have HS0 := hidden (HST.out w4 HB4.out)
  clear HA HWR HRM HST HB2 HB4
  go_loopw [34] (fun q w' => ∃ j : Nat, j ≤ N ∧ q = .int .i64 j ∧ Hid (WrAt B w m s i s.S[i] (WW (xs.take j)) w')) (fun q _ => N - (intOf q).toNat)
  case atStart => exact ⟨0, by omega, rfl, HS0⟩
  case round =>
    clear HS0
    obtain ⟨j, hj, rfl, HW⟩ := hrel
    by_cases hlt : j < N
    · have l1 : (j : Int) < N := by omega
      have l0 : (0 : Int) ≤ j := by omega
      obtain ⟨ab, ao, ea, e2⟩ := (HVR.out wr j HW.out).cells j hlt
      have HC := hidden (HSP.out wr j hlt HW.out)
      generalize xs.getD j 0 = X at *
      subst ea
      clear HVR HSP HW
      go_wp2_with (first | (go_at_call 37; refine HC.out.mono ?_; rintro e w5 ⟨rfl, H5⟩) | fail)
      go_roundw
      case rel => exact ⟨j + 1, by omega, by first | rfl | go_num, H5⟩
      case measure => simp [intOf]; omega
    · obtain rfl : j = N := by omega
      have l1 : ¬ ((j : Int) < j) := by omega
      have HF : Hid (WrAt B w m s i s.S[i] (WW xs) wr) := hidden (by have := HW.out; rw [List.take_of_length_le (by rw [HN.out]; exact Nat.le_refl _)] at this; exact this)
      clear HVR HSP HW
      go_wp2
      go_ret
      exact ⟨rfl, HF⟩

theorem upI_more (r : Int) (n : Nat) : upI (up32 r) n = upI r (n + 1) := by
  induction n with
  | zero => rfl
  | succ n ih => show up32 (upI (up32 r) n) = up32 (upI r (n + 1)); rw [ih]
/-- a buffer's characters behind a Write at its start -/
def wnt (xs ys : List Nat) : List Nat := ys.take xs.length ++ xs.drop ys.length
theorem wnt_len (xs ys : List Nat) : (wnt xs ys).length = xs.length := by simp [wnt]; omega
theorem wnt_step (xs ys : List Nat) (j : Nat) (hj : j < ys.length) : (wnt xs (ys.take j)).set (min j xs.length) (ys.getD j 0) = wnt xs (ys.take (j + 1)) := by
  have e : ys.take (j + 1) = ys.take j ++ [ys.getD j 0] := by
    rw [List.take_add_one, List.getElem?_eq_getElem hj, List.getD_eq_getElem?_getD, List.getElem?_eq_getElem hj]; rfl
  have hl : (ys.take j).length = j := by rw [List.length_take]; omega
  rw [e]
  generalize ys.getD j 0 = y
  generalize ys.take j = Y at *
  unfold wnt
  rcases Nat.lt_or_ge j xs.length with q | q
  · rw [Nat.min_eq_left (Nat.le_of_lt q), List.take_of_length_le (by omega), List.take_of_length_le (by rw [List.length_append, hl]; simp; omega), List.length_append, hl, List.set_append_right _ _ (by omega), hl, Nat.sub_self, List.drop_eq_getElem_cons q, List.set_cons_zero, List.append_assoc]
    rfl
  · rw [Nat.min_eq_right q, List.drop_of_length_le (by omega), List.drop_of_length_le (by rw [List.length_append, hl]; simp; omega), List.append_nil, List.append_nil, List.take_append_of_le_length (by omega)]
    exact List.set_eq_of_length_le (by rw [List.length_take]; omega)
theorem wr_buf (wd : Bool) (xs ys : List Nat) (j : Nat) (hj : j ≤ ys.length) : wrAll false wd ⟨0, 0, asL xs wd⟩ (ys.take j) = ⟨min j xs.length, upI 0 j, asL (wnt xs (ys.take j)) wd⟩ := by
  induction j with
  | zero => simp [wrAll, upI, wnt]
  | succ j ih =>
    rw [wrAll_snoc _ _ _ _ _ (by omega), ih (by omega)]
    have hz : gput false wd (asL (wnt xs (ys.take j)) wd) (min j xs.length) (asW ((ys.getD j 0 : Nat) : Int) wd) = asL (wnt xs (ys.take (j + 1))) wd := by
      rw [← wnt_step xs ys j (by omega)]
      show (asL (wnt xs (ys.take j)) wd).set _ _ = _
      unfold asL
      rw [List.map_set]
    unfold wrOne
    simp only
    rw [hz]
    have hs : gsz false wd (asL (wnt xs (ys.take (j + 1))) wd) = xs.length := by
      show (asL (wnt xs (ys.take (j + 1))) wd).length = _
      unfold asL
      rw [List.length_map, wnt_len]
    rw [hs]
    congr 1
    omega
/-- the shelf, and a row of words beside it -/
def LvR (B : Nat) (w w' : World) (P : Sh → Prop) (v : Value) (n : Nat) (L : List Int) : Prop := Below B w w' ∧ B ≤ w.heap.size ∧ ∃ s, ShAt B w' B s ∧ OkS s ∧ P s ∧ w'.ownsRow B 32 1 v n (w32V L) ∧ ∀ k, v.ownBlock = some k → ¬ TS B s k
theorem Lv.row {B : Nat} {w w' : World} {P : Sh → Prop} (h : Lv B w w' P) : LvR B w w' P (.slice none 0 0) 0 [] := by
  obtain ⟨hb, hB, s, h2, ok, hP⟩ := h
  exact ⟨hb, hB, s, h2, ok, hP, World.ownsRow_nil _ _ _ _, fun k e => by cases e⟩
theorem LvR.fm {B n : Nat} {w w1 w2 : World} {s s' : Sh} {P : Sh → Prop} {v : Value} {L : List Int} (hb : Below B w w1) (hB : B ≤ w.heap.size) (h : ShAt B w1 B s) (ho : w1.ownsRow B 32 1 v n (w32V L)) (hn : ∀ k, v.ownBlock = some k → ¬ TS B s k) (f : Fm w1 w2 (TS B s) (TS B s')) (h' : ShAt B w2 B s') (ok : OkS s') (hP : P s') : LvR B w w2 P v n L :=
  ⟨hb.trans (f.below (Nat.le_trans hB hb.size) (fun k e => (h.low k e).1)), hB, s', h', ok, hP, own_fm f ho hn, fun k e q => by
    rcases f.row k q with x | x
    · exact hn k e x
    · have := (row_lt ho e).2; omega⟩
theorem LvR.later {B n : Nat} {w w1 w2 : World} {P : Sh → Prop} {v : Value} {L : List Int} (h : LvR B w w1 P v n L) (hb : Below w1.heap.size w1 w2) : LvR B w w2 P v n L := by
  obtain ⟨h1, hB, s, h2, ok, hP, ho, hn⟩ := h
  exact ⟨h1.trans (hb.mono (Nat.le_trans hB h1.size)), hB, s, h2.later hb, ok, hP, own_later ho hb, hn⟩
theorem LvR.snoc {B n : Nat} {w w1 w2 : World} {P : Sh → Prop} {v : Value} {L : List Int} (h : LvR B w w1 P v n L) (V : Int) (a' : Option Addr) (c' : Nat) (ho : w2.ownsRow B 32 1 (.slice a' (n + 1) c') (n + 1) (w32V (L ++ [V]))) (f : Fm w1 w2 (fun k => v.ownBlock = some k) (fun k => (Value.slice a' (n + 1) c').ownBlock = some k)) : LvR B w w2 P (.slice a' (n + 1) c') (n + 1) (L ++ [V]) := by
  obtain ⟨h1, hB, s, h2, ok, hP, ho1, hn⟩ := h
  refine ⟨h1.trans (f.below (Nat.le_trans hB h1.size) (fun k e => (row_lt ho1 e).1)), hB, s, h2.fmx f (fun k e q => hn k q e), ok, hP, ho, fun k e q => ?_⟩
  rcases f.row k e with x | x
  · exact hn k x q
  · have := (h2.low k q).2; omega
theorem lv_wrbuf {B : Nat} {w w1 : World} {md : Int} {wd : Bool} {xs : List Nat} (h : Lv B w w1 (BP md wd (asL xs wd) 0 0 0)) (hm : wrB md = true) (a : Option Addr) (n c : Nat) (ys : List Nat) (hr : VRow w1 a n ys) (hn : n ≤ 4096) (hx : xs.length ≤ 4096) (hlo : 0 < n → ∀ y : Addr, a = some y → y.block < B) :
    Calls Try.prog 14 #[.pointer (some ⟨B, 0, none⟩), .int .i64 1, .slice a n c] w1 fun e w' => e = .returned (.int .i64 0) ∧ Hid (Lv B w w' (BP md wd (asL (wnt xs ys) wd) (min n xs.length) 0 n)) := by
  obtain ⟨hb, hB, s, h2, ok, hP⟩ := h
  obtain ⟨hi, e1, e2, e3, e4, e5, e6, e7, e8⟩ := hP.at_
  have hln := hr.ln
  subst hln
  have hF : s.F = [] := by obtain ⟨k, g, v, hS, hG, hF⟩ := hP; exact hF
  refine (write_any0 h2 ok (Nat.le_trans hB hb.size) (by rw [hF]; simp [sumF]) 0 hi 1 e1 (by rw [e3]; exact hm) (by rw [e5]; exact Nat.zero_le _) a ys c hr (fun h0 y e q => by have := hlo h0 y e; have := (h2.low _ q).1; omega) (fun q => by rw [e2] at q; cases q) (by rw [e5]; omega)).mono ?_
  rintro e w' ⟨rfl, H⟩
  obtain ⟨s', v', g1, g2, g3, g4, g5, j1, j2, j3, j4, j5, j6, j7⟩ := H.out
  rw [e8, e2, e4, e5, e7] at j1 j7
  have hwb := wr_buf wd xs ys ys.length (Nat.le_refl _)
  rw [List.take_length] at hwb
  rw [hwb] at j1 j7
  refine ⟨rfl, hidden (Lv.fm hb hB h2 g3 g1 g2 ?_)⟩
  obtain ⟨k, g, v, hS, hG, hF2⟩ := hP
  have hd : s.S[0] = ⟨k, 1, false, g, md, wd, 0, 0, 0⟩ := by simp only [hS]; rfl
  rw [hd] at j1 j7
  refine ⟨k, g, v', ?_, ?_, by rw [(j7 rfl).1, hF2]⟩
  · rw [j1, hS, upI_zero _ (by omega)]; rfl
  · rw [(j7 rfl).2, hG]; simp [updG]
theorem lv_tellbuf {B : Nat} {w w1 : World} {md : Int} {wd : Bool} {zs : List Int} {pl : Nat} {rd wr : Int} (h : Lv B w w1 (BP md wd zs pl rd wr)) :
    Calls Try.prog 15 #[.pointer (some ⟨B, 0, none⟩), .int .i64 1] w1 fun e w' => e = .returned (.tuple #[.int .i64 pl, .int .i64 zs.length, .int .i64 0]) ∧ Hid (Lv B w w' (BP md wd zs pl rd wr)) := by
  have h0 := h
  obtain ⟨hb, hB, s, h2, ok, hP⟩ := h
  obtain ⟨hi, e1, e2, e3, e4, e5, e6, e7, e8⟩ := hP.at_
  have := tell_some h2 ok 0 hi 1 e1
  rw [e2, e4, e5, e8] at this
  exact this.mono (fun e w' hh => ⟨hh.1, hidden (h0.later hh.2)⟩)
theorem lvr_read {B n : Nat} {w w1 : World} {md : Int} {wd : Bool} {zs : List Int} {pl : Nat} {rd wr : Int} {v : Value} {L : List Int} (h : LvR B w w1 (BP md wd zs pl rd wr) v n L) (hm : rdB md = true) (hl : pl < zs.length) :
    Calls Try.prog 16 #[.pointer (some ⟨B, 0, none⟩), .int .i64 1] w1 fun e w' => e = .returned (.tuple #[.int .u32 (zs.getD pl 0), .bool true, .int .i64 0]) ∧ Hid (LvR B w w' (BP md wd zs (pl + 1) (up32 rd) wr) v n L) := by
  obtain ⟨hb, hB, s, h2, ok, hP, ho, hn⟩ := h
  obtain ⟨hi, e1, e2, e3, e4, e5, e6, e7, e8⟩ := hP.at_
  have := read_some h2 ok 0 hi 1 e1 (by rw [e3]; exact hm) (by rw [e2, e4, e5, e8]; exact hl)
  rw [e2, e4, e5, e8] at this
  refine this.mono ?_
  rintro e w' ⟨rfl, H⟩
  refine ⟨rfl, hidden ?_⟩
  have hq : rdD s.S[0] 1 = { s.S[0] with pl := pl + 1, rd := up32 rd } := by unfold rdD; rw [e5, e6]; rfl
  refine LvR.fm hb hB h2 ho hn (H.out.ts hi rfl) H.out.1 (putS_ok ok 0 hi _ rfl rfl rfl rfl) ?_
  rw [hq]
  exact hP.put hi _ _
theorem lvr_end {B n : Nat} {w w1 : World} {md : Int} {wd : Bool} {zs : List Int} {pl : Nat} {rd wr : Int} {v : Value} {L : List Int} (h : LvR B w w1 (BP md wd zs pl rd wr) v n L) (hm : rdB md = true) (hl : zs.length ≤ pl) :
    Calls Try.prog 16 #[.pointer (some ⟨B, 0, none⟩), .int .i64 1] w1 fun e w' => e = .returned (.tuple #[.int .u32 0, .bool false, .int .i64 0]) ∧ Hid (LvR B w w' (BP md wd zs pl rd wr) v n L) := by
  have h0 := h
  obtain ⟨hb, hB, s, h2, ok, hP, ho, hn⟩ := h
  obtain ⟨hi, e1, e2, e3, e4, e5, e6, e7, e8⟩ := hP.at_
  exact (read_end h2 ok 0 hi 1 e1 (by rw [e3]; exact hm) (by rw [e2, e4, e5, e8]; exact hl)).mono (fun e w' hh => ⟨hh.1, hidden (h0.later hh.2)⟩)
theorem lvr_close {B n : Nat} {w w1 : World} {md : Int} {wd : Bool} {zs : List Int} {pl : Nat} {rd wr : Int} {v : Value} {L : List Int} (h : LvR B w w1 (BP md wd zs pl rd wr) v n L) :
    Calls Try.prog 13 #[.pointer (some ⟨B, 0, none⟩), .int .i64 1] w1 fun e w' => ∃ a c, e = .returned (.tuple #[.int .u32 rd, .int .u32 wr, .slice a zs.length c, .int .i64 0]) ∧ Hid (LvR B w w' (fun s => s.S = []) v n L ∧ w'.ownsRow B 32 1 (.slice a zs.length c) zs.length (w32V zs)) := by
  obtain ⟨hb, hB, s, h2, ok, ⟨k, g, vv, hS, hG, hF⟩, ho, hn⟩ := h
  have hi : 0 < s.S.length := by rw [hS]; simp
  have hd : s.S[0] = ⟨k, 1, false, g, md, wd, pl, rd, wr⟩ := by simp only [hS]; rfl
  have hga := h2.gs ⟨g, vv, zs⟩ (by rw [hG]; simp)
  obtain ⟨a, c, hv⟩ := own_slice hga.row
  have hv : vv = .slice a zs.length c := hv
  have := close_some h2 ok 0 hi 1 (by rw [hd]) vv (.inr ⟨by rw [hd], ⟨g, vv, zs⟩, by rw [hG]; simp, by rw [hd], rfl⟩)
  rw [hd] at this
  refine this.mono ?_
  rintro e w' ⟨rfl, H⟩
  obtain ⟨v', g1, g2⟩ := H.out
  have hg2 := g1.gs ⟨g, vv, zs⟩ (by show _ ∈ s.G; rw [hG]; simp)
  have hS3 : (closeS s 0 v').S = [] := by show s.S.eraseIdx 0 = []; rw [hS]; rfl
  refine ⟨a, c, by rw [hv], hidden ⟨LvR.fm hb hB h2 ho hn g2 g1 ?_ hS3, ?_⟩⟩
  · exact ⟨by rw [hS3]; exact List.Pairwise.nil, by rw [hS3]; exact ⟨fun i j _ hj _ => by simp at hj⟩, by rw [hS3]; simp, ok.fk, ok.gk, (by intro d hd2; rw [hS3] at hd2; cases hd2), ok.last0, (by intro d hd2; rw [hS3] at hd2; cases hd2), ok.most0⟩
  · have := hg2.row
    rw [hv] at this
    exact this
theorem lvr_closed {B n : Nat} {w w1 : World} {v : Value} {L : List Int} (x : Int) (h : LvR B w w1 (fun s => s.S = []) v n L) :
    Calls Try.prog 13 #[.pointer (some ⟨B, 0, none⟩), .int .i64 x] w1 fun e w' => e = .returned (.tuple #[.int .u32 0, .int .u32 0, .slice none 0 0, .int .i64 5]) ∧ Hid (Below w1.heap.size w1 w') := by
  obtain ⟨hb, hB, s, h2, ok, hS, ho, hn⟩ := h
  have hS : s.S = [] := hS
  exact (close_none h2 ok x (by rw [hS]; intro d hd; cases hd)).mono (fun e w' hh => ⟨hh.1, hidden hh.2⟩)
end Go.Proofs.Ytmohnopegacahaa
