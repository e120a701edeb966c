/- Layer 14: how a tree of the program's lies in memory; a window found by its number. -/
import Derived.Test.YtilfgbcbodjegaaP14a
namespace Go.Proofs.Ytilfgbcbodjegaa
open Go.RowKit
set_option maxHeartbeats 1000000
set_option maxRecDepth 100000
set_option linter.unusedVariables false

/-- a tree: its screen, its root, its last number, its windows -/
structure Ps where
  w : Int
  h : Int
  root : Int
  last : Int
  L : List Wd
structure PAt (B : Nat) (w : World) (m : Nat) (v : Value) (s : Ps) : Prop where
  base : B ≤ m
  box : w.heap[m]? = some (.cells #[.int .i64 s.w, .int .i64 s.h, .int .i64 s.root, .int .i64 s.last, v] 76 (0, 0))
  row : w.ownsRow B 79 8 v s.L.length (wdsV s.L)
/-- the blocks that a call on a tree may change -/
def TP (m : Nat) (v : Value) (k : Nat) : Prop := k = m ∨ v.ownBlock = some k
theorem PAt.lt {B : Nat} {w : World} {m : Nat} {v : Value} {s : Ps} (h : PAt B w m v s) : m < w.heap.size := (Array.getElem?_eq_some_iff.1 h.box).1
theorem PAt.ne {B : Nat} {w : World} {m : Nat} {v : Value} {s : Ps} (h : PAt B w m v s) : v.ownBlock ≠ some m := own_neE h.row h.box (by decide)
theorem PAt.later {B : Nat} {w w' : World} {m : Nat} {v : Value} {s : Ps} (h : PAt B w m v s) (hb : Below w.heap.size w w') : PAt B w' m v s :=
  ⟨h.base, (hb.block m h.lt).trans h.box, own_later h.row hb⟩
theorem PAt.cells {B : Nat} {w : World} {m : Nat} {v : Value} {s : Ps} (h : PAt B w m v s) : w.cell? ⟨m, 0, none⟩ = some (.int .i64 s.w) ∧ w.cell? ⟨m, 1, none⟩ = some (.int .i64 s.h) ∧ w.cell? ⟨m, 2, none⟩ = some (.int .i64 s.root) ∧ w.cell? ⟨m, 3, none⟩ = some (.int .i64 s.last) ∧ w.cell? ⟨m, 4, none⟩ = some v ∧ (∀ j, w.frozen? ⟨m, j, none⟩ = false) := by
  have hh := h.box
  refine ⟨by simp [World.cell?, hh], by simp [World.cell?, hh], by simp [World.cell?, hh], by simp [World.cell?, hh], by simp [World.cell?, hh], fun j => by simp [World.frozen?, hh]⟩
theorem PAt.low {B : Nat} {w : World} {m : Nat} {v : Value} {s : Ps} (h : PAt B w m v s) : ∀ k, TP m v k → B ≤ k ∧ k < w.heap.size := by
  rintro k (rfl | e)
  · exact ⟨h.base, h.lt⟩
  · exact h.row.lt k e
theorem PAt.set0 {B : Nat} {w : World} {m : Nat} {v : Value} {s : Ps} (h : PAt B w m v s) (x : Int) : PAt B (w.setCell ⟨m, 0, none⟩ (.int .i64 x)) m v { s with w := x } ∧ Fm w (w.setCell ⟨m, 0, none⟩ (.int .i64 x)) (TP m v) (TP m v) :=
  ⟨⟨h.base, by rw [bkset h.box]; simp, ownsRow_setCell_other h.row (by simpa using h.ne) _⟩, (Fm.same (Below.refl _ _)).set m 0 _ (.inl rfl)⟩
theorem PAt.set1 {B : Nat} {w : World} {m : Nat} {v : Value} {s : Ps} (h : PAt B w m v s) (x : Int) : PAt B (w.setCell ⟨m, 1, none⟩ (.int .i64 x)) m v { s with h := x } ∧ Fm w (w.setCell ⟨m, 1, none⟩ (.int .i64 x)) (TP m v) (TP m v) :=
  ⟨⟨h.base, by rw [bkset h.box]; simp, ownsRow_setCell_other h.row (by simpa using h.ne) _⟩, (Fm.same (Below.refl _ _)).set m 1 _ (.inl rfl)⟩
theorem PAt.set2 {B : Nat} {w : World} {m : Nat} {v : Value} {s : Ps} (h : PAt B w m v s) (x : Int) : PAt B (w.setCell ⟨m, 2, none⟩ (.int .i64 x)) m v { s with root := x } ∧ Fm w (w.setCell ⟨m, 2, none⟩ (.int .i64 x)) (TP m v) (TP m v) :=
  ⟨⟨h.base, by rw [bkset h.box]; simp, ownsRow_setCell_other h.row (by simpa using h.ne) _⟩, (Fm.same (Below.refl _ _)).set m 2 _ (.inl rfl)⟩
theorem PAt.set3 {B : Nat} {w : World} {m : Nat} {v : Value} {s : Ps} (h : PAt B w m v s) (x : Int) : PAt B (w.setCell ⟨m, 3, none⟩ (.int .i64 x)) m v { s with last := x } ∧ Fm w (w.setCell ⟨m, 3, none⟩ (.int .i64 x)) (TP m v) (TP m v) :=
  ⟨⟨h.base, by rw [bkset h.box]; simp, ownsRow_setCell_other h.row (by simpa using h.ne) _⟩, (Fm.same (Below.refl _ _)).set m 3 _ (.inl rfl)⟩
/-- the row is another one -/
theorem PAt.grown {B : Nat} {w w' : World} {m : Nat} {v v' : Value} {s : Ps} {L : List Wd} (h : PAt B w m v s) (f : Fm w w' (fun k => v.ownBlock = some k) (fun k => v'.ownBlock = some k)) (ho : w'.ownsRow B 79 8 v' L.length (wdsV L)) :
    PAt B (w'.setCell ⟨m, 4, none⟩ v') m v' { s with L := L } ∧ Fm w (w'.setCell ⟨m, 4, none⟩ v') (TP m v) (TP m v') := by
  have hb : w'.heap[m]? = some (.cells #[.int .i64 s.w, .int .i64 s.h, .int .i64 s.root, .int .i64 s.last, v] 76 (0, 0)) := by
    rw [f.block m h.lt h.ne]; exact h.box
  refine ⟨⟨h.base, ?_, ownsRow_setCell_other ho (by simpa using own_neE ho hb (by decide)) _⟩, ?_⟩
  · rw [bkset hb]; simp
  · refine (f.to (U := TP m v) (U' := TP m v') (fun k e => .inr e) (fun k e => ?_)).set m 4 _ (.inl rfl)
    rcases e with e | e
    · exact .inl (.inl e)
    · exact .inr e
/-- a store into a window -/
theorem PAt.setW {B : Nat} {w : World} {m g c : Nat} {s : Ps} (h : PAt B w m (.slice (some ⟨g, 0, none⟩) s.L.length c) s) (i : Nat) (hi : i < s.L.length) (j : Nat) (hj : j < 8) (u : Value) (d : Wd) (hd : wdV d = (wdV s.L[i]).set j u) :
    PAt B (w.setCell ⟨g, i * 8 + j, none⟩ u) m (.slice (some ⟨g, 0, none⟩) s.L.length c) { s with L := s.L.set i d } ∧ Fm w (w.setCell ⟨g, i * 8 + j, none⟩ u) (TP m (.slice (some ⟨g, 0, none⟩) s.L.length c)) (TP m (.slice (some ⟨g, 0, none⟩) s.L.length c)) := by
  have hne : m ≠ g := fun e => h.ne (by rw [e]; rfl)
  refine ⟨⟨h.base, ?_, ?_⟩, (Fm.same (Below.refl _ _)).set g _ _ (.inr rfl)⟩
  · rw [heap_setCell_other _ _ _ _ hne]; exact h.box
  · simp only [List.length_set]; exact wrow_set h.row i hi j hj u d hd

/-- the window's value -/
def wdA (d : Wd) : Value := .agg #[.int .i64 d.n, .int .i64 d.k, .int .i64 d.p, .int .i64 d.a, .int .i64 d.b, .int .i64 d.m, .int .u32 d.s, .int .i64 d.key]
def cmpI (x y : Int) : Int := if x < y then -1 else if y < x then 1 else 0
theorem isNaN_any (x : Int) (w : World) : Calls Try.prog 77 #[.int .i64 x] w fun e w' => e = .returned (.bool false) ∧ w' = w := by
  go_enter Try.func77, Try.ntmps77
  go_wp2
  go_ret
  exact ⟨by simp, rfl⟩
theorem compare_any (x y : Int) (w : World) : Calls Try.prog 60 #[.int .i64 x, .int .i64 y] w fun e w' => e = .returned (.int .i64 (cmpI x y)) ∧ w' = w := by
  unfold cmpI
  rcases (show x < y ∨ y < x ∨ x = y by omega) with h | h | h
  · rw [if_pos h]
    go_enter Try.func60, Try.ntmps60
    go_wp2_with (go_at_call 77; refine (isNaN_any _ _).mono ?_; rintro e w' ⟨rfl, rfl⟩)
    go_ret
    exact ⟨rfl, rfl⟩
  · have h' : ¬ x < y := by omega
    rw [if_neg h', if_pos h]
    go_enter Try.func60, Try.ntmps60
    go_wp2_with (go_at_call 77; refine (isNaN_any _ _).mono ?_; rintro e w' ⟨rfl, rfl⟩)
    go_ret
    exact ⟨rfl, rfl⟩
  · subst h
    rw [if_neg (by omega), if_neg (by omega)]
    have h' : ¬ x < x := by omega
    go_enter Try.func60, Try.ntmps60
    go_wp2_with (go_at_call 77; refine (isNaN_any _ _).mono ?_; rintro e w' ⟨rfl, rfl⟩)
    go_ret
    exact ⟨rfl, rfl⟩
theorem at1_any (d : Wd) (x : Int) (w : World) : Calls Try.prog 59 #[wdA d, .int .i64 x] w fun e w' => e = .returned (.int .i64 (cmpI d.n x)) ∧ Below w.heap.size w w' := by
  unfold wdA
  go_enter Try.func59, Try.ntmps59
  go_wp2_with (go_at_call 60; refine (compare_any _ _ _).mono ?_; rintro e w' ⟨rfl, rfl⟩)
  go_ret
  exact ⟨rfl, (Below.refl _ _).alloc (Nat.le_refl _) _⟩
/-- how the search goes -/
structure Sorted (L : List Wd) : Prop where
  rise : ∀ i j, i < j → ∀ (hj : j < L.length) (hi : i < L.length), L[i].n < L[j].n
def SRet (w : World) (L : List Wd) (x : Int) (e : Ending) (w' : World) : Prop := ∃ (i : Nat) (b : Bool), e = .returned (.tuple #[.int .i64 i, .bool b]) ∧ ((b = true ∧ ∃ h : i < L.length, L[i].n = x) ∨ (b = false ∧ ∀ d ∈ L, d.n ≠ x)) ∧ Below w.heap.size w w'
set_option maxHeartbeats 4000000 in
theorem search_any (g c : Nat) (L : List Wd) (x : Int) (w : World) (B : Nat) (h : w.ownsRow B 79 8 (.slice (some ⟨g, 0, none⟩) L.length c) L.length (wdsV L)) (hs : Sorted L) (hn : L.length ≤ 1000) :
    Calls Try.prog 58 #[.slice (some ⟨g, 0, none⟩) L.length c, .int .i64 x, .func (.func 59) #[] #[]] w (SRet w L x) := by
  have HO := hidden h
  clear h
  go_enter Try.func58, Try.ntmps58
  go_upto_region 3 with fail
  go_loopw [9, 10] (fun a b w' => ∃ i j : Nat, i ≤ j ∧ j ≤ L.length ∧ a = .int .i64 i ∧ b = .int .i64 j ∧ Hid (∀ k (hk : k < L.length), k < i → L[k].n < x) ∧ Hid (∀ k (hk : k < L.length), j ≤ k → x ≤ L[k].n) ∧ Hid (Below w.heap.size w w')) (fun a b _ => (intOf b - intOf a).toNat)
  case atStart => exact ⟨0, L.length, by omega, by omega, rfl, rfl, hidden (fun k hk h => by omega), hidden (fun k hk h => by omega), hidden (Below.refl _ _)⟩
  case round =>
    obtain ⟨i, j, hij, hj, rfl, rfl, hlo, hhi, hB⟩ := hrel
    by_cases hlt : i < j
    · have l1 : (i : Int) < j := by omega
      obtain ⟨H, hH⟩ : ∃ H, H = (i + j) / 2 := ⟨_, rfl⟩
      have e1 : ((i : Int) + (j : Int)) / 2 = (H : Int) := by omega
      have hHl : H < L.length := by omega
      have HH1 := hidden (show i ≤ H ∧ H < j by omega)
      have c0 := wrow_cells (own_later HO.out hB.out) H hHl
      have HD : Hid (∀ k (hk : k < L.length), (k < H → L[k].n < L[H].n) ∧ (H < k → L[H].n < L[k].n)) := hidden (fun k hk => ⟨fun q => hs.rise k H q hHl hk, fun q => hs.rise H k q hk hHl⟩)
      obtain ⟨d, HDE⟩ : ∃ d, Hid (L[H] = d) := ⟨_, hidden rfl⟩
      rw [HDE.out] at c0
      have HD0 := HD
      clear HD
      have HD : Hid (∀ k (hk : k < L.length), (k < H → L[k].n < d.n) ∧ (H < k → d.n < L[k].n)) := by rw [← HDE.out]; exact HD0
      clear HD0
      obtain ⟨c0, c1, c2, c3, c4, c5, c6, c7⟩ := c0
      clear hH
      obtain ⟨CC, hCC⟩ : ∃ CC, cmpI d.n x = CC := ⟨_, rfl⟩
      have HC : Hid (∀ w1 : World, Calls Try.prog 59 #[.agg #[.int .i64 d.n, .int .i64 d.k, .int .i64 d.p, .int .i64 d.a, .int .i64 d.b, .int .i64 d.m, .int .u32 d.s, .int .i64 d.key], .int .i64 x] w1 fun e w' => e = .returned (.int .i64 CC) ∧ Below w1.heap.size w1 w') := hidden (fun w1 => by rw [← hCC]; exact at1_any d x w1)
      have HHI : Hid (¬ d.n < x → ∀ k (hk : k < L.length), H ≤ k → x ≤ L[k].n) := hidden (fun q k hk q2 => by
        by_cases e : H = k
        · subst e; rw [HDE.out]; omega
        · have := (HD.out k hk).2 (by omega); omega)
      have HLO : Hid (d.n < x → ∀ k (hk : k < L.length), k < H + 1 → L[k].n < x) := hidden (fun q k hk q2 => by
        by_cases e : H = k
        · subst e; rw [HDE.out]; exact q
        · have := (HD.out k hk).1 (by omega); omega)
      by_cases hc : d.n < x
      · have l2 : CC < 0 := by rw [← hCC]; unfold cmpI; rw [if_pos hc]; omega
        have HL1 := hidden (HLO.out hc)
        clear hCC hc HHI HLO HD HDE
        go_wp2_with (first | (go_at_call 59; refine (HC.out _).mono ?_; rintro e w2 ⟨rfl, hb2⟩; have HB2 := hidden (hB.out.trans (hb2.mono hB.out.size)); clear hb2) | fail)
        go_roundw
        case rel => exact ⟨H + 1, j, by have := HH1.out; omega, hj, by first | rfl | go_num, rfl, HL1, hhi, HB2⟩
        case measure => have := HH1.out; simp [intOf]; omega
      · have l2 : ¬ CC < 0 := by rw [← hCC]; unfold cmpI; rw [if_neg hc]; split <;> omega
        have HL1 := hidden (HHI.out hc)
        clear hCC hc HHI HLO HD HDE
        go_wp2_with (first | (go_at_call 59; refine (HC.out _).mono ?_; rintro e w2 ⟨rfl, hb2⟩; have HB2 := hidden (hB.out.trans (hb2.mono hB.out.size)); clear hb2) | fail)
        go_roundw
        case rel => exact ⟨i, H, by have := HH1.out; omega, by omega, rfl, by first | rfl | go_num, hlo, HL1, HB2⟩
        case measure => have := HH1.out; simp [intOf]; omega
    · obtain rfl : i = j := by omega
      have l1 : ¬ ((i : Int) < i) := by omega
      by_cases hi : i < L.length
      · have l2 : (i : Int) < L.length := by omega
        have c0 := wrow_cells (own_later HO.out hB.out) i hi
        have HX := hidden (hhi.out i hi (Nat.le_refl _))
        have HNE : Hid (L[i].n ≠ x → ∀ d ∈ L, d.n ≠ x) := hidden (fun q d hd => by
          obtain ⟨k, hk, rfl⟩ := List.getElem_of_mem hd
          rcases (show k < i ∨ k = i ∨ i < k by omega) with e | e | e
          · have := hlo.out k hk e; omega
          · subst e; exact q
          · have h1 := hs.rise i k e hk hi
            have h2 := hhi.out i hi (Nat.le_refl _)
            omega)
        have HEQ : Hid (L[i].n = x → ∃ h : i < L.length, L[i].n = x) := hidden (fun q => ⟨hi, q⟩)
        obtain ⟨d, HDE⟩ : ∃ d, Hid (L[i] = d) := ⟨_, hidden rfl⟩
        rw [HDE.out] at c0 HX HNE HEQ
        obtain ⟨c0, c1, c2, c3, c4, c5, c6, c7⟩ := c0
        obtain ⟨CC, hCC⟩ : ∃ CC, cmpI d.n x = CC := ⟨_, rfl⟩
        have HC : Hid (∀ w1 : World, Calls Try.prog 59 #[.agg #[.int .i64 d.n, .int .i64 d.k, .int .i64 d.p, .int .i64 d.a, .int .i64 d.b, .int .i64 d.m, .int .u32 d.s, .int .i64 d.key], .int .i64 x] w1 fun e w' => e = .returned (.int .i64 CC) ∧ Below w1.heap.size w1 w') := hidden (fun w1 => by rw [← hCC]; exact at1_any d x w1)
        obtain ⟨BB, hBB⟩ : ∃ BB, (CC == 0) = BB := ⟨_, rfl⟩
        have HR : Hid ((BB = true ∧ ∃ h : i < L.length, L[i].n = x) ∨ (BB = false ∧ ∀ d ∈ L, d.n ≠ x)) := hidden (by
          by_cases q : d.n = x
          · refine .inl ⟨?_, hi, by rw [HDE.out]; exact q⟩
            rw [← hBB, ← hCC, q]; simp [cmpI]
          · refine .inr ⟨?_, HNE.out q⟩
            rw [← hBB, ← hCC]
            have hx := HX.out
            unfold cmpI
            rw [if_neg (by omega), if_pos (by omega)]; rfl)
        clear hCC HNE HEQ HX HDE hlo hhi hlt hij hj hs
        go_wp2_with (first | (go_at_call 59; refine (HC.out _).mono ?_; rintro e w2 ⟨rfl, hb2⟩; have HB2 := hidden (hB.out.trans (hb2.mono hB.out.size)); clear hb2) | fail)
        go_ret2
        exact ⟨i, BB, rfl, HR.out, HB2.out⟩
      · have l2 : ¬ ((i : Int) < L.length) := by omega
        have HR : Hid (∀ d ∈ L, d.n ≠ x) := hidden (fun d hd => by
          obtain ⟨k, hk, rfl⟩ := List.getElem_of_mem hd
          have := hlo.out k hk (by omega)
          omega)
        clear hlo hhi hlt hij hj hs
        go_wp2_with fail
        go_ret2
        exact ⟨i, false, rfl, .inr ⟨rfl, HR.out⟩, hB.out⟩
theorem at_some {B m : Nat} {v : Value} {s : Ps} {w : World} (h : PAt B w m v s) (hs : Sorted s.L) (hn : s.L.length ≤ 1000) (i : Nat) (hi : i < s.L.length) (g c : Nat) (hv : v = .slice (some ⟨g, 0, none⟩) s.L.length c) (x : Int) (hx : s.L[i].n = x) :
    Calls Try.prog 36 #[.pointer (some ⟨m, 0, none⟩), .int .i64 x] w fun e w' => e = .returned (.pointer (some ⟨g, i * 8, none⟩)) ∧ Below w.heap.size w w' := by
  subst hv
  obtain ⟨d0, d1, d2, d3, d4, d5⟩ := h.cells
  have HS : Hid (∀ w1, Below w.heap.size w w1 → Calls Try.prog 58 #[.slice (some ⟨g, 0, none⟩) s.L.length c, .int .i64 x, .func (.func 59) #[] #[]] w1 fun e w' => e = .returned (.tuple #[.int .i64 i, .bool true]) ∧ Below w1.heap.size w1 w') := hidden (fun w1 hb => (search_any g c s.L x w1 B (own_later h.row hb) hs hn).mono (by
    rintro e w' ⟨j, b, rfl, ⟨rfl, hj, hjx⟩ | ⟨rfl, hno⟩, hb'⟩
    · have : j = i := by
        rcases (show j < i ∨ j = i ∨ i < j by omega) with q | q | q
        · have := hs.rise j i q hi hj; omega
        · exact q
        · have := hs.rise i j q hj hi; omega
      subst this
      exact ⟨rfl, hb'⟩
    · exact absurd hx (hno _ (List.getElem_mem hi))))
  have HP := hidden h
  have hl : (i : Int) < s.L.length := by omega
  clear h hx
  generalize s.L.length = NN at *
  go_enter Try.func36, Try.ntmps36
  go_wp2_with (first | (go_at_call 58; refine (HS.out _ (Below.refl _ _)).mono ?_; rintro e w2 ⟨rfl, hb2⟩; have e4 := (HP.out.later hb2).cells.2.2.2.2.1; have HB2 := hidden hb2; clear hb2) | fail)
  go_ret
  exact ⟨rfl, HB2.out⟩
theorem search_nil (x : Int) (w : World) :
    Calls Try.prog 58 #[.slice none 0 0, .int .i64 x, .func (.func 59) #[] #[]] w fun e w' => e = .returned (.tuple #[.int .i64 0, .bool false]) ∧ w' = w := by
  go_enter Try.func58, Try.ntmps58
  go_upto_region 3 with fail
  go_loopw [9, 10] (fun a b w' => a = .int .i64 0 ∧ b = .int .i64 0 ∧ w' = w) (fun _ _ _ => 0)
  case atStart => exact ⟨rfl, rfl, rfl⟩
  case round =>
    obtain ⟨rfl, rfl, rfl⟩ := hrel
    go_wp2
    go_ret2
    exact ⟨rfl, rfl⟩
theorem at_none {B m : Nat} {v : Value} {s : Ps} {w : World} (h : PAt B w m v s) (hs : Sorted s.L) (hn : s.L.length ≤ 1000) (x : Int) (hx : ∀ d ∈ s.L, d.n ≠ x) :
    Calls Try.prog 36 #[.pointer (some ⟨m, 0, none⟩), .int .i64 x] w fun e w' => e = .returned (.pointer none) ∧ Below w.heap.size w w' := by
  obtain ⟨d0, d1, d2, d3, d4, d5⟩ := h.cells
  have HS : Hid (∃ j : Nat, Calls Try.prog 58 #[v, .int .i64 x, .func (.func 59) #[] #[]] w fun e w' => ∃ j : Nat, e = .returned (.tuple #[.int .i64 j, .bool false]) ∧ Below w.heap.size w w') := hidden (by
    rcases h.row.2 with ⟨h1, h2⟩ | ⟨g, cap, cur, h1, _⟩
    · rw [h1]
      exact ⟨0, (search_nil x w).mono (by rintro e w' ⟨rfl, rfl⟩; exact ⟨0, rfl, Below.refl _ _⟩)⟩
    · have hr := h.row
      rw [h1] at hr ⊢
      refine ⟨0, (search_any g cap s.L x w B hr hs hn).mono ?_⟩
      rintro e w' ⟨j, b, rfl, ⟨rfl, hj, hjx⟩ | ⟨rfl, hno⟩, hb'⟩
      · exact absurd hjx (hx _ (List.getElem_mem hj))
      · exact ⟨j, rfl, hb'⟩)
  obtain ⟨j, hS⟩ := HS.out
  have HS2 := hidden hS
  clear h hx hS
  go_enter Try.func36, Try.ntmps36
  go_wp2_with (first | (go_at_call 58; refine HS2.out.mono ?_; rintro e w2 ⟨jj, rfl, hb2⟩; have HB2 := hidden hb2; clear hb2) | fail)
  go_ret
  exact ⟨rfl, HB2.out⟩
theorem at_nil (x : Int) (w : World) : Calls Try.prog 36 #[.pointer none, .int .i64 x] w fun e w' => e = .returned (.pointer none) ∧ w' = w := by
  go_enter Try.func36, Try.ntmps36
  go_wp2
  go_ret
  exact ⟨rfl, rfl⟩
end Go.Proofs.Ytilfgbcbodjegaa
