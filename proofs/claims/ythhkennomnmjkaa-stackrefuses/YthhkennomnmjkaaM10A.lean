/- The document's stack: numbers laid from a row's midst; its Dup. Numbers and the bytes that tell them: lists alone. The document's stack: its Dup. The document's stack: its Pop. The document's stack: its Swap. The document's stack: its Swap. Rolled values: lists alone. The document's stack: its Roll. The document's stack: its Roll, where it rolls. -/
import Derived.Test.YthhkennomnmjkaaT10t
import Derived.Test.YthhkennomnmjkaaT10s
import Derived.Test.YthhkennomnmjkaaT10u
namespace Go.Proofs.Ythhkennomnmjkaa
open Go.RowKit
set_option maxHeartbeats 1000000
set_option maxRecDepth 100000
set_option linter.unusedVariables false

/-- numbers on top, from a row's midst -/
theorem dlay_at (B m ab ao ac : Nat) (v : Value) (s : Ks) (xs : List Nat) (w : World) (h : DAt B w m v s) (hB : B ≤ w.heap.size) (hL : s.bs.length + 4 * xs.length ≤ 400000) (hx : ∀ x ∈ xs, x < 4294967296)
    (hc : ∀ i, i < xs.length → w.cell? ⟨ab, ao + i, none⟩ = some (.int .u32 (xs.getD i 0 : Nat))) (hac : xs.length ≤ ac) (aa : Option Addr) (haa : 0 < xs.length → aa = some ⟨ab, ao, none⟩) :
    Calls Try.prog 58 #[.pointer (some ⟨m, 0, none⟩), .slice aa xs.length ac] w fun e w' => e = .returned (.tuple #[]) ∧ ∃ v', DAt B w' m v' { s with bs := s.bs ++ putsL xs } ∧ Fm w w' (TK m v) (TK m v') := by
  obtain ⟨a, c, rfl, dc⟩ := h.dc
  obtain ⟨i0, hi, hz0, hz1, hz2⟩ := info_parts info8
  have HC := hidden hc
  have HX := hidden hx
  have HRD := hidden dc.rd
  have c0 := dc.c0
  have HAA := hidden haa
  have HF : Hid (∀ (w1 : World) (v1 : Value), Below w.heap.size w w1 → w1.ownsRow w.heap.size 5 1 v1 (s.bs ++ putsL xs).length (bytesV (s.bs ++ putsL xs)) → (w1.cell? ⟨m, 0, none⟩ = some (.slice a s.bs.length c) ∧ w1.frozen? ⟨m, 0, none⟩ = false) ∧ DAt B (w1.setCell ⟨m, 0, none⟩ v1) m v1 { s with bs := s.bs ++ putsL xs } ∧ Fm w (w1.setCell ⟨m, 0, none⟩ v1) (TK m (.slice a s.bs.length c)) (TK m v1)) := fun w1 v1 hb ho => by
    obtain ⟨g1, g2⟩ := h.fresh hB hb ho
    obtain ⟨k0, _, _, _, kf⟩ := (h.later hb).cells
    exact ⟨⟨k0, kf 0⟩, g1, g2⟩
  have hcA : (w.alloc (.cells #[] 5)).cell? ⟨m, 0, none⟩ = some (.slice a s.bs.length c) := cellLater ((Below.refl _ _).alloc (Nat.le_refl _) _) c0
  have hl0 : s.bs.length ≤ 400000 := by omega
  clear hc h hx dc haa
  go_enter Try.func58, Try.ntmps58
  go_wp2_with (first | (at_builtin; refine wpList_copyOf (w0 := w) rfl _ _ rfl s.bs.length c a s.bs rfl rfl HRD.out (by omega) ?_; intro g1 c1 w1 ho1 hb1; have HO1 := hidden ho1; have HB1 := hidden hb1; clear ho1 hb1))
  go_loopw [4, 5] (fun v i wr => ∃ (k g2 c2 n2 : Nat), k ≤ xs.length ∧ i = .int .i64 k ∧ v = .slice (some ⟨g2, 0, none⟩) n2 c2 ∧ Hid (n2 = s.bs.length + 4 * k) ∧ n2 ≤ 400000 ∧ Hid (wr.ownsRow w.heap.size 5 1 (.slice (some ⟨g2, 0, none⟩) n2 c2) n2 (bytesV (s.bs ++ putsL (xs.take k)))) ∧ Hid (Below w.heap.size w wr)) (fun _ i _ => xs.length - (intOf i).toNat)
  case atStart => exact ⟨0, g1, c1, s.bs.length, by omega, rfl, rfl, hidden (by omega), hl0, by simpa [putsL] using HO1, HB1⟩
  case round =>
    clear HO1 HB1
    obtain ⟨k, g2, c2, n2, hk, rfl, rfl, HN2, hn2, HO, HB⟩ := hrel
    by_cases hlt : k < xs.length
    · have d1 : (k : Int) < (xs.length : Int) := by omega
      obtain rfl := HAA.out (by omega)
      have hx0 := cellLater HB.out (HC.out k hlt)
      have hxb := HX.out (xs.getD k 0) (by rw [List.getD_eq_getElem?_getD]; simp [hlt])
      have HPS := hidden (putsL_snoc xs k hlt)
      have HBS : Hid (w.heap.size ≤ wr.heap.size) := HB.out.size
      generalize xs.getD k 0 = x at *
      have HP : Hid (Calls Try.prog 68 #[.int .u32 x, .int .i64 4] wr fun e w' => ∃ a4 c4, e = .returned (.slice a4 4 c4) ∧ Hid (Reads w' a4 4 c4 (putL (x : Int) 4)) ∧ Hid (Below wr.heap.size wr w')) := by
        refine (rput_4 (x : Int) wr (by omega) (by omega)).mono ?_
        rintro e w' ⟨v', rfl, ho', hb'⟩
        obtain ⟨a4, c4, rfl⟩ := own_slice8 ho'
        exact ⟨a4, c4, rfl, own_read8 (v := .slice a4 4 c4) ho', hb'⟩
      have HOL : Hid (∀ wx, Below wr.heap.size wr wx → wx.ownsRow w.heap.size 5 1 (.slice (some ⟨g2, 0, none⟩) n2 c2) n2 (bytesV (s.bs ++ putsL (xs.take k)))) := fun wx hb => own_later HO.out hb
      have HN : Hid (∀ (w1 w2 : World) (g3 c3 : Nat), Below wr.heap.size wr w1 → w2.ownsRow w.heap.size 5 1 (.slice (some ⟨g3, 0, none⟩) (n2 + 4) c3) (n2 + 4) (bytesV (s.bs ++ putsL (xs.take k) ++ putL (x : Int) 4)) → Fm w1 w2 (fun j => (Value.slice (some ⟨g2, 0, none⟩) n2 c2).ownBlock = some j) (fun j => (Value.slice (some ⟨g3, 0, none⟩) (n2 + 4) c3).ownBlock = some j) → w2.ownsRow w.heap.size 5 1 (.slice (some ⟨g3, 0, none⟩) (n2 + 4) c3) (n2 + 4) (bytesV (s.bs ++ putsL (xs.take (k + 1)))) ∧ Below w.heap.size w w2) := fun w1 w2 g3 c3 hb ho f => by
        rw [HPS.out, ← List.append_assoc]
        exact ⟨ho, (HB.out.trans (hb.mono HB.out.size)).trans (f.below (Nat.le_trans HB.out.size hb.size) (fun j e => (HO.out.lt j e).1))⟩
      clear HO HB
      go_wp2_with (first | (go_at_call 68; refine HP.out.mono ?_; rintro e w1 ⟨a4, c4, rfl, hr4, hb4⟩) | (at_builtin; refine wpList_appR rfl _ _ rfl w.heap.size g2 n2 c2 4 c4 a4 _ _ rfl rfl (HOL.out _ hb4.out) hr4.out (by omega) (Nat.le_trans HBS.out hb4.out.size) ?_; intro g3 c3 w3 ho3 f3; obtain ⟨p1, p2⟩ := HN.out _ _ _ _ hb4.out ho3 f3.out; have P1 := hidden p1; have P2 := hidden p2; clear p1 p2 ho3 f3))
      go_roundw
      case rel => exact ⟨k + 1, g3, c3, n2 + 4, by omega, int_eq (by omega), rfl, by have := HN2.out; show n2 + 4 = _; omega, by have := HN2.out; omega, P1, P2⟩
      case measure => simp [intOf]; omega
    · obtain rfl : k = xs.length := by omega
      have d1 : ¬ (xs.length : Int) < (xs.length : Int) := by omega
      rw [List.take_length] at HO
      have hlen : (s.bs ++ putsL xs).length = n2 := by rw [List.length_append, putsL_len, HN2.out]
      obtain ⟨⟨q0, qf⟩, q1, q2⟩ := HF.out wr (.slice (some ⟨g2, 0, none⟩) n2 c2) HB.out (by rw [hlen]; exact HO.out)
      have Q := hidden (And.intro q1 q2)
      clear q1 q2 hlen
      go_wp2
      refine bodyPost_end (v := .tuple #[]) (by simp [results, Try.results58, go_sem]) rfl ⟨rfl, _, Q.out⟩
end Go.Proofs.Ythhkennomnmjkaa
namespace Go.Proofs.Ythhkennomnmjkaa
open Go.RowKit
set_option maxHeartbeats 1000000
set_option maxRecDepth 100000
set_option linter.unusedVariables false

theorem put_nu (zs : List Int) (hb : OkB zs) (p : Nat) (h : p + 4 ≤ zs.length) : putL (nu zs p : Int) 4 = (zs.drop p).take 4 := by
  have e : (zs.drop p).take 4 = [zs.getD p 0, zs.getD (p + 1) 0, zs.getD (p + 2) 0, zs.getD (p + 3) 0] := by
    apply List.ext_getElem?
    intro i
    by_cases hi : i < 4
    · have : i = 0 ∨ i = 1 ∨ i = 2 ∨ i = 3 := by omega
      rcases this with rfl | rfl | rfl | rfl <;> simp [List.getD_eq_getElem?_getD, List.getElem?_drop, List.getElem?_eq_getElem (by omega : p < zs.length), List.getElem?_eq_getElem (by omega : p + 1 < zs.length), List.getElem?_eq_getElem (by omega : p + 2 < zs.length), List.getElem?_eq_getElem (by omega : p + 3 < zs.length)]
    · rw [List.getElem?_eq_none (by simp; omega), List.getElem?_eq_none (by simp; omega)]
  rw [e, ← nu_of hb, beV4]
  have h0 := okb_at hb p
  have h1 := okb_at hb (p + 1)
  have h2 := okb_at hb (p + 2)
  have h3 := okb_at hb (p + 3)
  generalize zs.getD p 0 = x0 at *
  generalize zs.getD (p + 1) 0 = x1 at *
  generalize zs.getD (p + 2) 0 = x2 at *
  generalize zs.getD (p + 3) 0 = x3 at *
  clear e
  unfold putL
  rw [if_neg (by decide), if_neg (by decide), if_pos rfl]
  have e0 : (16777216 * x0 + 65536 * x1 + 256 * x2 + x3) / 16777216 % 256 = x0 := by omega
  have e1 : (16777216 * x0 + 65536 * x1 + 256 * x2 + x3) / 65536 % 256 = x1 := by omega
  have e2 : (16777216 * x0 + 65536 * x1 + 256 * x2 + x3) / 256 % 256 = x2 := by omega
  have e3 : (16777216 * x0 + 65536 * x1 + 256 * x2 + x3) % 256 = x3 := by omega
  rw [e0, e1, e2, e3]
theorem putsL_append (a b : List Nat) : putsL (a ++ b) = putsL a ++ putsL b := by simp [putsL]
theorem puts_range (zs : List Int) (hb : OkB zs) (p n : Nat) (h : p + 4 * n ≤ zs.length) : putsL ((List.range n).map (fun i => nu zs (p + 4 * i))) = (zs.drop p).take (4 * n) := by
  induction n with
  | zero => simp [putsL]
  | succ n ih =>
    rw [List.range_succ, List.map_append, putsL_append, ih (by omega)]
    have e : putsL (List.map (fun i => nu zs (p + 4 * i)) [n]) = ((zs.drop p).drop (4 * n)).take 4 := by
      simp only [List.map_cons, List.map_nil, putsL, List.flatMap_cons, List.flatMap_nil, List.append_nil, List.drop_drop]
      exact put_nu zs hb (p + 4 * n) (by omega)
    rw [e, show 4 * (n + 1) = 4 * n + 4 by omega, List.take_add]
theorem putsL_drop (xs : List Nat) (j : Nat) (h : j ≤ xs.length) : putsL (xs.drop j) = (putsL xs).drop (4 * j) := by
  have e : putsL xs = putsL (xs.take j) ++ putsL (xs.drop j) := by rw [← putsL_append, List.take_append_drop]
  have hl : (putsL (xs.take j)).length = 4 * j := by rw [putsL_len, List.length_take]; omega
  rw [e, ← hl, List.drop_left]
theorem vals_puts {s : Ks} (ok : OkK s) (hon : s.on = true) : putsL (valsK s) = s.bs.drop (endK s) := by
  obtain ⟨b1, b2, b3, b4, b5, b6⟩ := ok.bd hon
  unfold valsK
  rw [puts_range s.bs ok.okb _ _ (by omega), List.take_of_length_le (by rw [List.length_drop]; omega)]
theorem vals_top {s : Ks} (ok : OkK s) (hon : s.on = true) (n : Nat) (h : n ≤ cnt s) : putsL ((valsK s).drop (cnt s - n)) = s.bs.drop (s.bs.length - 4 * n) := by
  obtain ⟨b1, b2, b3, b4, b5, b6⟩ := ok.bd hon
  rw [putsL_drop _ _ (by rw [valsK_len]; omega), vals_puts ok hon, List.drop_drop]
  congr 1
  omega
theorem putsL_take (xs : List Nat) (j : Nat) (h : j ≤ xs.length) : putsL (xs.take j) = (putsL xs).take (4 * j) := by
  have e : putsL xs = putsL (xs.take j) ++ putsL (xs.drop j) := by rw [← putsL_append, List.take_append_drop]
  have hl : (putsL (xs.take j)).length = 4 * j := by rw [putsL_len, List.length_take]; omega
  rw [e, ← hl, List.take_left]
/-- the bytes behind the values changed -/
theorem vals_cut {s : Ks} (ok : OkK s) (hon : s.on = true) (n : Nat) (h : n ≤ cnt s) : s.bs.take (endK s) ++ putsL ((valsK s).take (cnt s - n)) = s.bs.take (s.bs.length - 4 * n) := by
  obtain ⟨b1, b2, b3, b4, b5, b6⟩ := ok.bd hon
  rw [putsL_take _ _ (by rw [valsK_len]; omega), vals_puts ok hon, ← List.take_add]
  congr 1
  omega
theorem vals_lt {s : Ks} (ok : OkK s) : ∀ x ∈ valsK s, x < 4294967296 := by
  intro x hx
  unfold valsK at hx
  rw [List.mem_map] at hx
  obtain ⟨i, _, rfl⟩ := hx
  exact nu_lt ok.okb _
end Go.Proofs.Ythhkennomnmjkaa
namespace Go.Proofs.Ythhkennomnmjkaa
open Go.RowKit
set_option maxHeartbeats 1000000
set_option maxRecDepth 100000
set_option linter.unusedVariables false

theorem dup_ad {a' : Option Addr} {c' C n g : Nat} (h0 : 0 < n) (hc : n ≤ C) (hcc : C ≤ c') (hg : a' = some ⟨g, 0, none⟩) : (if c' = C - n then a' else Option.map (fun x => x.add (C - n)) a') = some ⟨g, C - n, none⟩ := by
  subst hg
  rw [if_neg (by omega), Option.map_some, plain_add, Nat.zero_add]
theorem dDup_off (B m n : Nat) (v : Value) (s : Ks) (w : World) (h : DAt B w m v s) (hon : s.on = false) :
    Calls Try.prog 33 #[.pointer (some ⟨m, 0, none⟩), .int .u32 n] w fun e w' => e = .returned (.int .i64 102) ∧ w' = w := by
  obtain ⟨a, c, rfl, dc⟩ := h.dc
  have c3 := dc.c3
  rw [hon] at c3
  clear h dc
  go_enter Try.func33, Try.ntmps33
  go_wp2
  go_ret
  exact ⟨rfl, rfl⟩
theorem dDup_few (B m n : Nat) (v : Value) (s : Ks) (w : World) (h : DAt B w m v s) (ok : OkK s) (hon : s.on = true) (hn : n < 4294967296) (hc : cnt s < n) :
    Calls Try.prog 33 #[.pointer (some ⟨m, 0, none⟩), .int .u32 n] w fun e w' => e = .returned (.int .i64 101) ∧ Below w.heap.size w w' := by
  obtain ⟨a, c, rfl, dc⟩ := h.dc
  have HV := hidden (dvals_on m a c s w dc ok hon)
  have c3 := dc.c3
  rw [hon] at c3
  clear h dc ok hon
  generalize valsK s = X at *
  generalize cnt s = C at *
  have hwi : IntKind.i64.wrap (n : Int) = (n : Int) := by rw [IntKind.wrap_i64]; omega
  have d1 : (n : Int) > (C : Int) := by omega
  go_enter Try.func33, Try.ntmps33
  go_wp2_with (first | (go_at_call 57; refine HV.out.mono ?_; rintro e w1 ⟨a', c', rfl, ho, hb⟩; clear ho))
  go_ret
  exact ⟨rfl, hb⟩
theorem dDup_over (B m n : Nat) (v : Value) (s : Ks) (w : World) (h : DAt B w m v s) (ok : OkK s) (hon : s.on = true) (hc : n ≤ cnt s) (hr : s.size < s.bs.length + 4 * n) :
    Calls Try.prog 33 #[.pointer (some ⟨m, 0, none⟩), .int .u32 n] w fun e w' => e = .returned (.int .i64 100) ∧ Below w.heap.size w w' := by
  obtain ⟨a, c, rfl, dc⟩ := h.dc
  obtain ⟨b1, b2, b3, b4, b5, b6⟩ := ok.bd hon
  have hsz := ok.sz
  have hmo := ok.most
  have HV : Hid (Calls Try.prog 57 #[.pointer (some ⟨m, 0, none⟩)] w fun e w' => ∃ a' c', e = .returned (.slice a' (cnt s) c') ∧ (w'.cell? ⟨m, 0, none⟩ = some (.slice a s.bs.length c) ∧ w'.cell? ⟨m, 1, none⟩ = some (.int .i64 s.size)) ∧ Below w.heap.size w w') := by
    refine (dvals_on m a c s w dc ok hon).mono ?_
    rintro e w' ⟨a', c', rfl, ho, hb⟩
    exact ⟨a', c', rfl, ⟨(dc.later hb).c0, (dc.later hb).c1⟩, hb⟩
  have c3 := dc.c3
  rw [hon] at c3
  clear h dc ok hon
  have hC : cnt s ≤ 65536 := by omega
  clear b1 b2 b3 b4 b5 b6
  generalize cnt s = C at *
  generalize s.bs.length = L at *
  generalize s.size = Z at *
  have hwi : IntKind.i64.wrap (n : Int) = (n : Int) := by rw [IntKind.wrap_i64]; omega
  have d1 : ¬ (n : Int) > (C : Int) := by omega
  have hw1 : IntKind.i64.wrap (4 * (n : Int)) = 4 * (n : Int) := by rw [IntKind.wrap_i64]; omega
  have hw2 : IntKind.i64.wrap ((L : Int) + 4 * (n : Int)) = (L : Int) + 4 * (n : Int) := by rw [IntKind.wrap_i64]; omega
  have d2 : (L : Int) + 4 * (n : Int) > (Z : Int) := by omega
  go_enter Try.func33, Try.ntmps33
  go_wp2_with (first | (go_at_call 57; refine HV.out.mono ?_; rintro e w1 ⟨a', c', rfl, ⟨k0, k1⟩, hb⟩))
  go_quiet (fail)
  all_goals (try go_wp2)
  go_ret
  exact ⟨rfl, hb.trans ((Dr.below ⟨_, rfl⟩).mono hb.size)⟩
theorem dDup_good (B m n : Nat) (v : Value) (s : Ks) (w : World) (h : DAt B w m v s) (hB : B ≤ w.heap.size) (ok : OkK s) (hon : s.on = true) (hc : n ≤ cnt s) (hr : s.bs.length + 4 * n ≤ s.size) :
    Calls Try.prog 33 #[.pointer (some ⟨m, 0, none⟩), .int .u32 n] w fun e w' => e = .returned (.int .i64 0) ∧ LeftD B w w' m v { s with bs := s.bs ++ s.bs.drop (s.bs.length - 4 * n) } := by
  obtain ⟨a, c, rfl, dc⟩ := h.dc
  obtain ⟨b1, b2, b3, b4, b5, b6⟩ := ok.bd hon
  have hsz := ok.sz
  have hmo := ok.most
  have hvt := vals_top ok hon n hc
  have hvl : ((valsK s).drop (cnt s - n)).length = n := by rw [List.length_drop, valsK_len]; omega
  have HV : Hid (Calls Try.prog 57 #[.pointer (some ⟨m, 0, none⟩)] w fun e w' => ∃ a' c', e = .returned (.slice a' (cnt s) c') ∧ (cnt s ≤ c' ∧ w'.cell? ⟨m, 0, none⟩ = some (.slice a s.bs.length c) ∧ w'.cell? ⟨m, 1, none⟩ = some (.int .i64 s.size)) ∧ Hid (w'.ownsRow w.heap.size 23 1 (.slice a' (cnt s) c') (cnt s) (u32V (valsK s))) ∧ Hid (Below w.heap.size w w')) := by
    refine (dvals_on m a c s w dc ok hon).mono ?_
    rintro e w' ⟨a', c', rfl, ho, hb⟩
    refine ⟨a', c', rfl, ⟨?_, (dc.later hb).c0, (dc.later hb).c1⟩, ho, hb⟩
    by_cases h0 : 0 < cnt s
    · obtain ⟨_, _, hcc, _⟩ := row32 ho h0
      exact hcc
    · omega
  have HL : Hid (∀ (w1 w2 : World) (a' ad : Option Addr) (c' cd : Nat), Below w.heap.size w w1 → w1.ownsRow w.heap.size 23 1 (.slice a' (cnt s) c') (cnt s) (u32V (valsK s)) → Below w1.heap.size w1 w2 → n ≤ cd → (0 < n → ∀ g, a' = some ⟨g, 0, none⟩ → ad = some ⟨g, cnt s - n, none⟩) → Calls Try.prog 58 #[.pointer (some ⟨m, 0, none⟩), .slice ad n cd] w2 fun e w' => e = .returned (.tuple #[]) ∧ Hid (LeftD B w w' m (.slice a s.bs.length c) { s with bs := s.bs ++ s.bs.drop (s.bs.length - 4 * n) })) := fun w1 w2 a' ad c' cd hb ho hb2 hcd had => by
    have hbb := hb.trans (hb2.mono hb.size)
    have ho2 := own_later ho hb2
    by_cases h0 : 0 < n
    · obtain ⟨g, rfl, _, _⟩ := row32 ho2 (by omega)
      have := dlay_at B m g (cnt s - n) cd (.slice a s.bs.length c) s ((valsK s).drop (cnt s - n)) w2 (h.later hbb) (Nat.le_trans hB hbb.size) (by rw [hvl]; omega) (fun x hx => vals_lt ok x (List.mem_of_mem_drop hx)) (fun i hi => by
        rw [hvl] at hi
        rw [cell32 ho2 (cnt s - n + i) (by omega)]
        simp [List.getD_eq_getElem?_getD]) (by rw [hvl]; exact hcd) ad (fun _ => had h0 g rfl)
      rw [hvl, hvt] at this
      refine this.mono ?_
      rintro e w' ⟨rfl, v2, g1, g2⟩
      exact ⟨rfl, v2, g1, (Fm.same hbb).trans g2⟩
    · obtain rfl : n = 0 := by omega
      have := dlay_at B m 0 0 cd (.slice a s.bs.length c) s [] w2 (h.later hbb) (Nat.le_trans hB hbb.size) (by simp; omega) (by simp) (by simp) (by simp) ad (by simp)
      refine this.mono ?_
      rintro e w' ⟨rfl, v2, g1, g2⟩
      exact ⟨rfl, v2, by simpa [putsL] using g1, (Fm.same hbb).trans g2⟩
  have c3 := dc.c3
  rw [hon] at c3
  clear h dc ok hvt hvl hon
  have hC : cnt s ≤ 65536 := by omega
  clear b1 b2 b3 b4 b5 b6
  generalize valsK s = X at *
  generalize cnt s = C at *
  have hwi : IntKind.i64.wrap (n : Int) = (n : Int) := by rw [IntKind.wrap_i64]; omega
  have d1 : ¬ (n : Int) > (C : Int) := by omega
  have hw1 : IntKind.i64.wrap (4 * (n : Int)) = 4 * (n : Int) := by rw [IntKind.wrap_i64]; omega
  have hw2 : IntKind.i64.wrap ((s.bs.length : Int) + 4 * (n : Int)) = (s.bs.length : Int) + 4 * (n : Int) := by rw [IntKind.wrap_i64]; omega
  have d2 : ¬ (s.bs.length : Int) + 4 * (n : Int) > (s.size : Int) := by omega
  have hw3 : IntKind.i64.wrap ((C : Int) - (n : Int)) = ((C - n : Nat) : Int) := by rw [IntKind.wrap_i64]; omega
  have l1 : C - n ≤ C := by omega
  have l2 : C - (C - n) = n := by omega
  go_enter Try.func33, Try.ntmps33
  go_wp2_with (first | (go_at_call 57; refine HV.out.mono ?_; rintro e w1 ⟨a', c', rfl, ⟨hcc, k0, k1⟩, ho, hb⟩))
  go_quiet (fail)
  have hdd : Below w1.heap.size w1 (w1.drewN nq) := Dr.below ⟨_, rfl⟩
  generalize w1.drewN nq = w2 at *
  have l3 : n ≤ c' - (C - n) := by omega
  go_wp2_with (first | (go_at_call 58; refine (HL.out w1 w2 a' _ c' _ hb.out ho.out hdd l3 (fun h0 g hg => dup_ad h0 hc hcc hg)).mono ?_; rintro e w3 ⟨rfl, g3⟩))
  all_goals (
    go_ret
    exact ⟨rfl, g3.out⟩)
theorem dDup_any (B m n : Nat) (v : Value) (s : Ks) (w : World) (h : DAt B w m v s) (hB : B ≤ w.heap.size) (ok : OkK s) (hn : n < 4294967296) :
    Calls Try.prog 33 #[.pointer (some ⟨m, 0, none⟩), .int .u32 n] w fun e w' => e = .returned (.int .i64 (dupE s n)) ∧ LeftD B w w' m v (dupS s n) := by
  unfold dupS dupE roomForE
  cases hon : s.on with
  | false =>
    have e1 : lackE s n = 102 := by unfold lackE; rw [hon]; simp
    rw [e1]
    simp only [Nat.reduceEqDiff, if_false]
    refine (dDup_off B m n v s w h hon).mono ?_
    rintro e w' ⟨rfl, rfl⟩
    exact ⟨rfl, LeftD.same h (Below.refl _ _)⟩
  | true =>
    have e0 : lackE s n = if cnt s < n then 101 else 0 := by unfold lackE; rw [hon]; simp
    rw [e0]
    by_cases hc : cnt s < n
    · rw [if_pos hc]
      simp only [Nat.reduceEqDiff, if_false]
      refine (dDup_few B m n v s w h ok hon hn hc).mono ?_
      rintro e w' ⟨rfl, hb⟩
      exact ⟨rfl, LeftD.same h hb⟩
    · rw [if_neg hc, if_pos rfl]
      unfold roomE
      by_cases hr : s.size < s.bs.length + 4 * n
      · rw [if_pos (by omega), if_neg (by omega)]
        refine (dDup_over B m n v s w h ok hon (by omega) hr).mono ?_
        rintro e w' ⟨rfl, hb⟩
        exact ⟨rfl, LeftD.same h hb⟩
      · rw [if_neg (by omega), if_pos rfl]
        have := dDup_good B m n v s w h hB ok hon (by omega) (by omega)
        simpa [hon] using this
end Go.Proofs.Ythhkennomnmjkaa
namespace Go.Proofs.Ythhkennomnmjkaa
open Go.RowKit
set_option maxHeartbeats 1000000
set_option maxRecDepth 100000
set_option linter.unusedVariables false

/-- become with a row that came anew -/
theorem dbecome_row (B m n c' : Nat) (a' : Option Addr) (v : Value) (s : Ks) (xs ys : List Nat) (w w1 : World) (h : DAt B w m v s) (hB : B ≤ w.heap.size) (ok : OkK s) (hon : s.on = true) (hb : Below w.heap.size w w1) (ho : w1.ownsRow w.heap.size 23 1 (.slice a' n c') n (u32V xs)) (hn : n ≤ 65536) (hx : ∀ x ∈ xs, x < 4294967296) (hys : ys = xs.take ys.length) (hyn : ys.length ≤ n) (h0 : 0 < n) :
    Calls Try.prog 59 #[.pointer (some ⟨m, 0, none⟩), .slice a' ys.length c'] w1 fun e w' => e = .returned (.tuple #[]) ∧ Hid (LeftD B w w' m v { s with bs := s.bs.take (endK s) ++ putsL ys }) := by
  have hl1 : xs.length = n := by have := ho.1; simpa [u32V] using this
  have h1 := h.later hb
  have hyx : ∀ y ∈ ys, y < 4294967296 := fun y hy => by rw [hys] at hy; exact hx y (List.mem_of_mem_take hy)
  have fin : ∀ (e : Ending) (w' : World), (e = .returned (.tuple #[]) ∧ LeftD B w1 w' m v { s with bs := s.bs.take (endK s) ++ putsL ys }) → e = .returned (.tuple #[]) ∧ Hid (LeftD B w w' m v { s with bs := s.bs.take (endK s) ++ putsL ys }) := by
    rintro e w' ⟨rfl, v2, g1, g2⟩
    exact ⟨rfl, v2, g1, (Fm.same hb).trans g2⟩
  obtain ⟨g, rfl, hcc, hg⟩ := row32 ho h0
  refine (dbecome_any B m g c' v s ys _ w1 h1 (Nat.le_trans hB hb.size) ok hon (by omega) hyx ((ho.lt g rfl).2) (fun hk => ?_) (fun i hi => ?_) (by omega) (fun _ => rfl)).mono fin
  · have := (h.low g hk).2
    omega
  · rw [cell32 ho i (by omega), hys]
    simp [List.getD_eq_getElem?_getD, hi]
theorem dPop_bad (B m : Nat) (v : Value) (s : Ks) (w : World) (h : DAt B w m v s) (ok : OkK s) (he : peekE s 0 ≠ 0) :
    Calls Try.prog 27 #[.pointer (some ⟨m, 0, none⟩)] w fun e w' => e = .returned (.tuple #[.int .u32 (peekV s 0), .int .i64 (peekE s 0)]) ∧ Below w.heap.size w w' := by
  obtain ⟨a, c, rfl, dc⟩ := h.dc
  have HP := hidden (dPeek_any m 0 a c s w dc ok (by omega))
  clear h dc ok
  generalize peekV s 0 = X at *
  generalize peekE s 0 = E at *
  have q : ((E : Int) == 0) = false := by simpa using he
  have q2 : ¬ (E : Int) = 0 := by omega
  go_enter Try.func27, Try.ntmps27
  go_wp2_with (first | (go_at_call 28; refine HP.out.mono ?_; rintro e w1 ⟨rfl, hb⟩))
  refine bodyPost_ret (v := .tuple #[.int .u32 X, .int .i64 E]) (by simp [results, Try.results27, go_sem]) rfl ⟨rfl, hb⟩
theorem peek_on {s : Ks} {i : Nat} (he : peekE s i = 0) : s.on = true ∧ i < cnt s := by
  cases hon : s.on with
  | false =>
    have e0 : lackE s (i + 1) = 102 := by unfold lackE; rw [hon]; simp
    rw [peekE, e0] at he
    cases he
  | true =>
    have e0 : lackE s (i + 1) = if cnt s < i + 1 then 101 else 0 := by unfold lackE; rw [hon]; simp
    rw [peekE, e0] at he
    split at he
    · cases he
    · exact ⟨rfl, by omega⟩
theorem dPop_good (B m : Nat) (v : Value) (s : Ks) (w : World) (h : DAt B w m v s) (hB : B ≤ w.heap.size) (ok : OkK s) (he : peekE s 0 = 0) :
    Calls Try.prog 27 #[.pointer (some ⟨m, 0, none⟩)] w fun e w' => e = .returned (.tuple #[.int .u32 (peekV s 0), .int .i64 0]) ∧ LeftD B w w' m v { s with bs := s.bs.take (s.bs.length - 4) } := by
  obtain ⟨a, c, rfl, dc⟩ := h.dc
  obtain ⟨hon, hcnt⟩ := peek_on he
  obtain ⟨b1, b2, b3, b4, b5, b6⟩ := ok.bd hon
  have hsz := ok.sz
  have hmo := ok.most
  have hC : cnt s ≤ 65536 := by omega
  have HP := hidden (dPeek_any m 0 a c s w dc ok (by omega))
  rw [he] at HP
  have HV : Hid (∀ w1, Below w.heap.size w w1 → Calls Try.prog 57 #[.pointer (some ⟨m, 0, none⟩)] w1 fun e w' => ∃ a' c', e = .returned (.slice a' (cnt s) c') ∧ cnt s ≤ c' ∧ Hid (Calls Try.prog 59 #[.pointer (some ⟨m, 0, none⟩), .slice a' (cnt s - 1) c'] w' fun e w' => e = .returned (.tuple #[]) ∧ Hid (LeftD B w w' m (.slice a s.bs.length c) { s with bs := s.bs.take (s.bs.length - 4) }))) := fun w1 hb => by
    refine (dvals_on m a c s w1 (dc.later hb) ok hon).mono ?_
    rintro e w' ⟨a', c', rfl, ho, hb2⟩
    have hbb := hb.trans (hb2.mono hb.size)
    have hyl : ((valsK s).take (cnt s - 1)).length = cnt s - 1 := by rw [List.length_take, valsK_len]; omega
    have := dbecome_row B m (cnt s) c' a' _ s (valsK s) ((valsK s).take (cnt s - 1)) w1 w' (h.later hb) (Nat.le_trans hB hb.size) ok hon hb2 ho hC (vals_lt ok) (by rw [hyl]) (by omega) (by omega)
    rw [hyl, vals_cut ok hon 1 (by omega)] at this
    obtain ⟨_, _, hcc, _⟩ := row32 ho (by omega)
    refine ⟨a', c', rfl, hcc, this.mono ?_⟩
    rintro e w3 ⟨rfl, g⟩
    obtain ⟨v2, g1, g2⟩ := g.out
    exact ⟨rfl, v2, g1, (Fm.same hb).trans g2⟩
  clear h dc ok hon b1 b2 b3 b4 b5 b6 hsz hmo he
  generalize peekV s 0 = X at *
  generalize cnt s = C at *
  have hw : IntKind.i64.wrap ((C : Int) - 1) = ((C - 1 : Nat) : Int) := by rw [IntKind.wrap_i64]; omega
  have l1 : C - 1 ≤ C := by omega
  go_enter Try.func27, Try.ntmps27
  go_wp2_with (first | (go_at_call 28; refine HP.out.mono ?_; rintro e w1 ⟨rfl, hb⟩) | (go_at_call 57; refine (HV.out _ hb).mono ?_; rintro e w2 ⟨a', c', rfl, hcc, HB⟩; have l2 : C - 1 ≤ c' := (by omega)) | (go_at_call 59; refine HB.out.mono ?_; rintro e w3 ⟨rfl, g3⟩))
  refine bodyPost_ret (v := .tuple #[.int .u32 X, .int .i64 0]) (by simp [results, Try.results27, go_sem]) rfl ⟨rfl, g3.out⟩
theorem dPop_any (B m : Nat) (v : Value) (s : Ks) (w : World) (h : DAt B w m v s) (hB : B ≤ w.heap.size) (ok : OkK s) :
    Calls Try.prog 27 #[.pointer (some ⟨m, 0, none⟩)] w fun e w' => e = .returned (.tuple #[.int .u32 (peekV s 0), .int .i64 (peekE s 0)]) ∧ LeftD B w w' m v (popS s) := by
  unfold popS
  by_cases he : peekE s 0 = 0
  · rw [if_pos he, he]
    exact dPop_good B m v s w h hB ok he
  · rw [if_neg he]
    refine (dPop_bad B m v s w h ok he).mono ?_
    rintro e w' ⟨rfl, hb⟩
    exact ⟨rfl, LeftD.same h hb⟩
end Go.Proofs.Ythhkennomnmjkaa
namespace Go.Proofs.Ythhkennomnmjkaa
open Go.RowKit
set_option maxHeartbeats 1000000
set_option maxRecDepth 100000
set_option linter.unusedVariables false

/-- a number set in a row of the call's own -/
theorem set32 {w : World} {B g n c i x : Nat} {xs : List Nat} (h : w.ownsRow B 23 1 (.slice (some ⟨g, 0, none⟩) n c) n (u32V xs)) (hi : i < n) : (w.setCell ⟨g, i, none⟩ (.int .u32 (x : Int))).ownsRow B 23 1 (.slice (some ⟨g, 0, none⟩) n c) n (u32V (xs.set i x)) := by
  obtain ⟨hl, h2⟩ := h
  rcases h2 with ⟨_, h3⟩ | ⟨g', cap, cur, h1, hB, hh, hc1, hc2, hs, ht⟩
  · omega
  · simp only [Value.slice.injEq, Option.some.injEq, Addr.mk.injEq] at h1
    obtain ⟨⟨rfl, _, _⟩, _, rfl⟩ := h1
    have e := setCell_eq_setRow w g i cur 23 (0, 0) (.int .u32 (x : Int)) hh
    refine ⟨by simpa [u32V] using hl, .inr ⟨g, c, cur.setIfInBounds i (.int .u32 (x : Int)), rfl, hB, ?_, hc1, hc2, by simpa using hs, ?_⟩⟩
    · rw [e]
      exact setRow_heap w g cur _ _ _ hh
    · rw [Array.toList_setIfInBounds, List.take_set, ht]
      simp [u32V, List.map_set]
theorem frozen32 {w : World} {B g n c : Nat} {xs : List Nat} (h : w.ownsRow B 23 1 (.slice (some ⟨g, 0, none⟩) n c) n (u32V xs)) (h0 : 0 < n) (i : Nat) : w.frozen? ⟨g, i, none⟩ = false := by
  rcases h.2 with ⟨_, h3⟩ | ⟨g', cap, cur, h1, hB, hh, _⟩
  · omega
  · simp only [Value.slice.injEq, Option.some.injEq, Addr.mk.injEq] at h1
    obtain ⟨⟨rfl, _, _⟩, _, rfl⟩ := h1
    simp [World.frozen?, hh]
end Go.Proofs.Ythhkennomnmjkaa
namespace Go.Proofs.Ythhkennomnmjkaa
open Go.RowKit
set_option maxHeartbeats 1000000
set_option maxRecDepth 100000
set_option linter.unusedVariables false

theorem lack_few {s : Ks} {n : Nat} (hon : s.on = true) (h : cnt s < n) : lackE s n = 101 := by unfold lackE; rw [hon]; simp [h]
theorem lack_ok {s : Ks} {n : Nat} (hon : s.on = true) (h : n ≤ cnt s) : lackE s n = 0 := by unfold lackE; rw [hon]; simp; omega
theorem lack_off {s : Ks} {n : Nat} (hon : s.on = false) : lackE s n = 102 := by unfold lackE; rw [hon]; simp
theorem swap_list (xs : List Nat) (C x1 x2 : Nat) (hl : xs.length = C) (h2 : 2 ≤ C) : (xs.set (C - 1) x2).set (C - 2) x1 = xs.take (C - 2) ++ [x1, x2] := by
  apply List.ext_getElem?
  intro i
  rw [List.getElem?_set, List.getElem?_set]
  by_cases h : i < C - 2
  · rw [if_neg (by omega), if_neg (by omega), List.getElem?_append_left (by rw [List.length_take]; omega), List.getElem?_take, if_pos h]
  · rw [List.getElem?_append_right (by rw [List.length_take]; omega), List.length_take, Nat.min_eq_left (by omega)]
    by_cases h1 : i = C - 2
    · subst h1
      simp
      omega
    · by_cases h3 : i = C - 1
      · subst h3
        rw [if_neg (by omega), if_pos rfl, show C - 1 - (C - 2) = 1 by omega]
        simp
        omega
      · rw [if_neg (by omega), if_neg (by omega), List.getElem?_eq_none (by omega), List.getElem?_eq_none (by simp; omega)]
theorem swap_bytes {s : Ks} (ok : OkK s) (hon : s.on = true) (h2 : 2 ≤ cnt s) : s.bs.take (endK s) ++ putsL ((valsK s).take (cnt s - 2) ++ [nu s.bs (s.bs.length - 4), nu s.bs (s.bs.length - 8)]) = rollL s.bs 2 1 := by
  obtain ⟨b1, b2, b3, b4, b5, b6⟩ := ok.bd hon
  rw [putsL_append, ← List.append_assoc, vals_cut ok hon 2 h2]
  unfold rollL
  have e1 := put_nu s.bs ok.okb (s.bs.length - 4) (by omega)
  have e2 := put_nu s.bs ok.okb (s.bs.length - 8) (by omega)
  rw [List.take_of_length_le (by rw [List.length_drop]; omega)] at e1
  simp only [putsL, List.flatMap_cons, List.flatMap_nil, List.append_nil]
  rw [e1, e2]
theorem rollR_21 : rollR 2 1 = 1 := by kernel_rfl
theorem dSwap_few (m E : Nat) (a : Option Addr) (c : Nat) (s : Ks) (w : World) (dc : DC w m a c s) (ok : OkK s) (he : lackE s 2 = E) (h0 : E ≠ 0) :
    Calls Try.prog 30 #[.pointer (some ⟨m, 0, none⟩)] w fun e w' => e = .returned (.int .i64 E) ∧ Below w.heap.size w w' := by
  cases hon : s.on with
  | false =>
    rw [lack_off hon] at he
    subst he
    have c3 := dc.c3
    rw [hon] at c3
    clear dc
    go_enter Try.func30, Try.ntmps30
    go_wp2
    go_ret
    exact ⟨rfl, Below.refl _ _⟩
  | true =>
    have hc : cnt s < 2 := Classical.byContradiction fun h => h0 (by rw [← he]; exact lack_ok hon (by omega))
    rw [lack_few hon hc] at he
    subst he
    have HV := hidden (dvals_on m a c s w dc ok hon)
    have c3 := dc.c3
    rw [hon] at c3
    clear dc ok hon
    generalize valsK s = X at *
    generalize cnt s = C at *
    have d1 : (C : Int) < 2 := by omega
    go_enter Try.func30, Try.ntmps30
    go_wp2_with (first | (go_at_call 57; refine HV.out.mono ?_; rintro e w1 ⟨a', c', rfl, ho, hb⟩; clear ho))
    go_ret
    exact ⟨rfl, hb⟩
theorem dSwap_good (B m : Nat) (v : Value) (s : Ks) (w : World) (h : DAt B w m v s) (hB : B ≤ w.heap.size) (ok : OkK s) (hon : s.on = true) (hc2 : 2 ≤ cnt s) :
    Calls Try.prog 30 #[.pointer (some ⟨m, 0, none⟩)] w fun e w' => e = .returned (.int .i64 0) ∧ LeftD B w w' m v { s with bs := rollL s.bs 2 1 } := by
  obtain ⟨a, c, rfl, dc⟩ := h.dc
  obtain ⟨b1, b2, b3, b4, b5, b6⟩ := ok.bd hon
  have hsz := ok.sz
  have hmo := ok.most
  have hC : cnt s ≤ 65536 := by omega
  have HV : Hid (Calls Try.prog 57 #[.pointer (some ⟨m, 0, none⟩)] w fun e w' => ∃ g c', e = .returned (.slice (some ⟨g, 0, none⟩) (cnt s) c') ∧ (w'.cell? ⟨g, cnt s - 1, none⟩ = some (.int .u32 (nu s.bs (s.bs.length - 4))) ∧ w'.cell? ⟨g, cnt s - 2, none⟩ = some (.int .u32 (nu s.bs (s.bs.length - 8))) ∧ w'.frozen? ⟨g, cnt s - 1, none⟩ = false ∧ w'.frozen? ⟨g, cnt s - 2, none⟩ = false) ∧ Hid (∀ wd, Below w'.heap.size w' wd → Calls Try.prog 59 #[.pointer (some ⟨m, 0, none⟩), .slice (some ⟨g, 0, none⟩) (cnt s) c'] ((wd.setCell ⟨g, cnt s - 1, none⟩ (.int .u32 (nu s.bs (s.bs.length - 8)))).setCell ⟨g, cnt s - 2, none⟩ (.int .u32 (nu s.bs (s.bs.length - 4)))) fun e w' => e = .returned (.tuple #[]) ∧ Hid (LeftD B w w' m (.slice a s.bs.length c) { s with bs := rollL s.bs 2 1 }))) := by
    refine (dvals_on m a c s w dc ok hon).mono ?_
    rintro e w' ⟨a', c', rfl, ho, hb⟩
    obtain ⟨g, rfl, hcc, hg⟩ := row32 ho (by omega)
    refine ⟨g, c', rfl, ⟨?_, ?_, frozen32 ho (by omega) _, frozen32 ho (by omega) _⟩, fun wd hbd => ?_⟩
    · rw [cell32 ho (cnt s - 1) (by omega), vals_at s _ (by omega), show endK s + 4 * (cnt s - 1) = s.bs.length - 4 by omega]
    · rw [cell32 ho (cnt s - 2) (by omega), vals_at s _ (by omega), show endK s + 4 * (cnt s - 2) = s.bs.length - 8 by omega]
    · have o1 := set32 (x := nu s.bs (s.bs.length - 4)) (set32 (x := nu s.bs (s.bs.length - 8)) (own_later ho hbd) (show cnt s - 1 < cnt s by omega)) (show cnt s - 2 < cnt s by omega)
      rw [swap_list _ _ _ _ (valsK_len s) hc2] at o1
      have hb2 : Below w.heap.size w ((wd.setCell ⟨g, cnt s - 1, none⟩ (.int .u32 (nu s.bs (s.bs.length - 8)))).setCell ⟨g, cnt s - 2, none⟩ (.int .u32 (nu s.bs (s.bs.length - 4)))) := ((hb.trans (hbd.mono hb.size)).setCell hg _).setCell hg _
      have hyl : ((valsK s).take (cnt s - 2) ++ [nu s.bs (s.bs.length - 4), nu s.bs (s.bs.length - 8)]).length = cnt s := by rw [List.length_append, List.length_take, valsK_len]; simp; omega
      have := dbecome_row B m (cnt s) c' _ _ s _ ((valsK s).take (cnt s - 2) ++ [nu s.bs (s.bs.length - 4), nu s.bs (s.bs.length - 8)]) w _ h hB ok hon hb2 o1 hC (fun x hx => by
        rcases List.mem_append.1 hx with hx | hx
        · exact vals_lt ok x (List.mem_of_mem_take hx)
        · simp only [List.mem_cons, List.not_mem_nil, or_false] at hx
          rcases hx with rfl | rfl
          · exact nu_lt ok.okb _
          · exact nu_lt ok.okb _) List.take_length.symm (by omega) (by omega)
      rw [hyl, swap_bytes ok hon hc2] at this
      exact this
  have c3 := dc.c3
  rw [hon] at c3
  clear h dc ok hon b1 b2 b3 b4 b5 b6 hsz hmo
  generalize nu s.bs (s.bs.length - 4) = X1 at *
  generalize nu s.bs (s.bs.length - 8) = X2 at *
  generalize cnt s = C at *
  have d1 : ¬ (C : Int) < 2 := by omega
  have hw1 : IntKind.i64.wrap ((C : Int) - 1) = ((C - 1 : Nat) : Int) := by rw [IntKind.wrap_i64]; omega
  have hw2 : IntKind.i64.wrap ((C : Int) - 2) = ((C - 2 : Nat) : Int) := by rw [IntKind.wrap_i64]; omega
  have l1 : C - 1 < C := by omega
  have l2 : C - 2 < C := by omega
  have ne1 : ¬ C - 1 = C - 2 := by omega
  have ne2 : ¬ C - 2 = C - 1 := by omega
  go_enter Try.func30, Try.ntmps30
  go_wp2_with (first | (go_at_call 57; refine HV.out.mono ?_; rintro e w1 ⟨g, c', rfl, ⟨k1, k2, f1, f2⟩, HB⟩))
  go_region
  all_goals (
    go_wp2_with (first | (go_at_call 59; refine (HB.out _ ((Below.refl _ _).drew)).mono ?_; rintro e w3 ⟨rfl, g3⟩))
    go_ret
    exact ⟨rfl, g3.out⟩)
theorem dSwap_any (B m : Nat) (v : Value) (s : Ks) (w : World) (h : DAt B w m v s) (hB : B ≤ w.heap.size) (ok : OkK s) :
    Calls Try.prog 30 #[.pointer (some ⟨m, 0, none⟩)] w fun e w' => e = .returned (.int .i64 (rollE s 2)) ∧ LeftD B w w' m v (rollS s 2 1) := by
  unfold rollS
  by_cases he : rollE s 2 = 0
  · rw [if_pos ⟨he, by decide⟩, he, rollR_21]
    have hon : s.on = true := by
      cases hon : s.on with
      | true => rfl
      | false => rw [rollE, lack_off hon] at he; cases he
    refine dSwap_good B m v s w h hB ok hon (Classical.byContradiction fun hc => ?_)
    rw [rollE, lack_few hon (by omega)] at he
    cases he
  · rw [if_neg (fun h => he h.1)]
    obtain ⟨a, c, rfl, dc⟩ := h.dc
    refine (dSwap_few m _ a c s w dc ok rfl he).mono ?_
    rintro e w' ⟨rfl, hb⟩
    exact ⟨rfl, LeftD.same h hb⟩
end Go.Proofs.Ythhkennomnmjkaa
namespace Go.Proofs.Ythhkennomnmjkaa
open Go.RowKit
set_option maxHeartbeats 1000000
set_option maxRecDepth 100000
set_option linter.unusedVariables false

/-- the top n values rolled by r -/
def rolled (xs : List Nat) (n r : Nat) : List Nat := xs.take (xs.length - n) ++ ((xs.drop (xs.length - n)).drop (n - r) ++ (xs.drop (xs.length - n)).take (n - r))
theorem rolled_len (xs : List Nat) (n r : Nat) (h : n ≤ xs.length) (hr : r ≤ n) : (rolled xs n r).length = xs.length := by
  unfold rolled
  simp only [List.length_append, List.length_take, List.length_drop]
  omega
theorem rolled_bytes {s : Ks} (ok : OkK s) (hon : s.on = true) (n r : Nat) (h : n ≤ cnt s) (hr : r < n) : s.bs.take (endK s) ++ putsL (rolled (valsK s) n r) = rollL s.bs n r := by
  obtain ⟨b1, b2, b3, b4, b5, b6⟩ := ok.bd hon
  unfold rolled rollL
  have hdl : ((valsK s).drop (cnt s - n)).length = n := by rw [List.length_drop, valsK_len]; omega
  rw [putsL_append, ← List.append_assoc, valsK_len, vals_cut ok hon n h, putsL_append, putsL_drop _ _ (by omega), putsL_take _ _ (by omega), vals_top ok hon n h, List.drop_drop]
  rw [show s.bs.length - 4 * n + 4 * (n - r) = s.bs.length - 4 * r by omega, show 4 * (n - r) = 4 * n - 4 * r by omega]
/-- i values have been laid -/
structure RollTo (xs ys : List Nat) (n r i : Nat) : Prop where
  len : ys.length = xs.length
  low : ∀ q, q < xs.length - n → ys[q]? = xs[q]?
  top : ∀ j, j < i → ys[xs.length - n + (j + r) % n]? = xs[xs.length - n + j]?
theorem RollTo.start (xs : List Nat) (n r : Nat) : RollTo xs xs n r 0 := ⟨rfl, fun _ _ => rfl, fun _ h => by omega⟩
theorem mod_inj (n r i j : Nat) (h0 : j < i) (hi : i < n) : (j + r) % n ≠ (i + r) % n := by
  intro e
  have h1 := Nat.div_add_mod (j + r) n
  have h2 := Nat.div_add_mod (i + r) n
  rw [e] at h1
  generalize (i + r) % n = M at *
  generalize (j + r) / n = P at *
  generalize (i + r) / n = Q at *
  have h3 : n * Q = n * P + (i - j) := by omega
  have h4 : n * (Q - P) = i - j := by rw [Nat.mul_sub]; omega
  have h5 : Q - P = 0 ∨ 1 ≤ Q - P := by omega
  rcases h5 with h5 | h5
  · rw [h5] at h4; omega
  · have := Nat.mul_le_mul_left n h5; omega
theorem RollTo.step {xs ys : List Nat} {n r i : Nat} (h : RollTo xs ys n r i) (hn : n ≤ xs.length) (hi : i < n) : RollTo xs (ys.set (xs.length - n + (i + r) % n) (xs.getD (xs.length - n + i) 0)) n r (i + 1) := by
  have hm : (i + r) % n < n := Nat.mod_lt _ (by omega)
  have hl := h.len
  refine ⟨by simp [h.len], fun q hq => ?_, fun j hj => ?_⟩
  · rw [List.getElem?_set, if_neg (by omega)]
    exact h.low q hq
  · rw [List.getElem?_set]
    by_cases e : j = i
    · subst e
      rw [if_pos rfl, if_pos (by omega), List.getD_eq_getElem?_getD, List.getElem?_eq_getElem (by omega : xs.length - n + j < xs.length)]
      rfl
    · have := mod_inj n r i j (by omega) hi
      rw [if_neg (by omega)]
      exact h.top j (by omega)
theorem RollTo.done {xs ys : List Nat} {n r : Nat} (h : RollTo xs ys n r n) (hn : n ≤ xs.length) (hr : r < n) : ys = rolled xs n r := by
  apply List.ext_getElem?
  intro q
  unfold rolled
  by_cases h1 : q < xs.length - n
  · rw [h.low q h1, List.getElem?_append_left (by rw [List.length_take]; omega), List.getElem?_take, if_pos h1]
  · by_cases h2 : q < xs.length
    · rw [List.getElem?_append_right (by rw [List.length_take]; omega), List.length_take, Nat.min_eq_left (by omega)]
      by_cases h3 : q - (xs.length - n) < r
      · have := h.top (q - (xs.length - n) + n - r) (by omega)
        rw [show q - (xs.length - n) + n - r + r = q - (xs.length - n) + n by omega, Nat.add_mod_right, Nat.mod_eq_of_lt (by omega), show xs.length - n + (q - (xs.length - n)) = q by omega] at this
        rw [this, List.getElem?_append_left (by simp only [List.length_drop]; omega), List.getElem?_drop, List.getElem?_drop]
        congr 1
        omega
      · have := h.top (q - (xs.length - n) - r) (by omega)
        rw [show q - (xs.length - n) - r + r = q - (xs.length - n) by omega, Nat.mod_eq_of_lt (by omega), show xs.length - n + (q - (xs.length - n)) = q by omega] at this
        rw [this, List.getElem?_append_right (by simp only [List.length_drop]; omega), List.getElem?_take, if_pos (by simp only [List.length_drop]; omega), List.getElem?_drop]
        congr 1
        simp only [List.length_drop]
        omega
    · rw [List.getElem?_eq_none (by have := h.len; omega), List.getElem?_eq_none (by simp only [List.length_append, List.length_take, List.length_drop]; omega)]
/-- Go's remainders -/
theorem roll_tmod (n k i : Nat) (h : 0 < n) (hn : n ≤ 65536) (hi : i < n) : ∃ r0 : Int, (wrap32 (k : Int)).tmod (n : Int) = r0 ∧ -65537 < r0 ∧ r0 < 65536 ∧ ((i : Int) + r0 + (n : Int)).tmod (n : Int) = (((i + rollR n k) % n : Nat) : Int) := by
  have hr := roll_emod n k h
  have hl := rollR_lt n k h
  generalize rollR n k = r at *
  generalize wrap32 (k : Int) = W at *
  refine ⟨_, rfl, ?_⟩
  have e1 : W.tmod (n : Int) = W % (n : Int) - ((if 0 ≤ W ∨ (n : Int) ∣ W then 0 else (n : Int).natAbs : Nat) : Int) := Int.tmod_eq_emod
  rw [hr] at e1
  have key : W.tmod (n : Int) = (r : Int) ∨ W.tmod (n : Int) = (r : Int) - (n : Int) := by
    rw [e1]
    split
    · left; omega
    · right; simp
  generalize W.tmod (n : Int) = r0 at *
  refine ⟨by omega, by omega, ?_⟩
  have h0 : 0 ≤ (i : Int) + r0 + (n : Int) := by omega
  rw [Int.tmod_eq_emod_of_nonneg h0]
  rcases key with rfl | rfl
  · rw [show (i : Int) + (r : Int) + (n : Int) = ((i + r + n : Nat) : Int) by omega, ← Int.natCast_emod, Nat.add_mod_right]
  · rw [show (i : Int) + ((r : Int) - (n : Int)) + (n : Int) = ((i + r : Nat) : Int) by omega, ← Int.natCast_emod]
end Go.Proofs.Ythhkennomnmjkaa
namespace Go.Proofs.Ythhkennomnmjkaa
open Go.RowKit
set_option maxHeartbeats 1000000
set_option maxRecDepth 100000
set_option linter.unusedVariables false

theorem dRoll_off (m n k : Nat) (a : Option Addr) (c : Nat) (s : Ks) (w : World) (dc : DC w m a c s) (hon : s.on = false) :
    Calls Try.prog 31 #[.pointer (some ⟨m, 0, none⟩), .int .u32 n, .int .u32 k] w fun e w' => e = .returned (.int .i64 102) ∧ Below w.heap.size w w' := by
  have c3 := dc.c3
  rw [hon] at c3
  clear dc
  go_enter Try.func31, Try.ntmps31
  go_wp2
  go_ret
  exact ⟨rfl, Below.refl _ _⟩
theorem dRoll_zero (m k : Nat) (a : Option Addr) (c : Nat) (s : Ks) (w : World) (dc : DC w m a c s) (ok : OkK s) (hon : s.on = true) :
    Calls Try.prog 31 #[.pointer (some ⟨m, 0, none⟩), .int .u32 0, .int .u32 k] w fun e w' => e = .returned (.int .i64 0) ∧ Below w.heap.size w w' := by
  have HV := hidden (dvals_on m a c s w dc ok hon)
  have c3 := dc.c3
  rw [hon] at c3
  clear dc ok hon
  generalize valsK s = X at *
  generalize cnt s = C at *
  go_enter Try.func31, Try.ntmps31
  go_wp2_with (first | (go_at_call 57; refine HV.out.mono ?_; rintro e w1 ⟨a', c', rfl, ho, hb⟩; clear ho))
  go_ret
  exact ⟨rfl, hb⟩
theorem dRoll_few (m n k : Nat) (a : Option Addr) (c : Nat) (s : Ks) (w : World) (dc : DC w m a c s) (ok : OkK s) (hon : s.on = true) (h0 : 0 < n) (hn : n < 4294967296) (hc : cnt s < n) :
    Calls Try.prog 31 #[.pointer (some ⟨m, 0, none⟩), .int .u32 n, .int .u32 k] w fun e w' => e = .returned (.int .i64 101) ∧ Below w.heap.size w w' := by
  have HV := hidden (dvals_on m a c s w dc ok hon)
  have c3 := dc.c3
  rw [hon] at c3
  clear dc ok hon
  generalize valsK s = X at *
  generalize cnt s = C at *
  have q : ((n : Int) == 0) = false := by simp; omega
  have q2 : ¬ (n : Int) = 0 := by omega
  have q3 : ¬ n = 0 := by omega
  have hwi : IntKind.i64.wrap (n : Int) = (n : Int) := by rw [IntKind.wrap_i64]; omega
  have d1 : (n : Int) > (C : Int) := by omega
  go_enter Try.func31, Try.ntmps31
  go_wp2_with (first | (go_at_call 57; refine HV.out.mono ?_; rintro e w1 ⟨a', c', rfl, ho, hb⟩; clear ho))
  go_ret
  exact ⟨rfl, hb⟩
end Go.Proofs.Ythhkennomnmjkaa
namespace Go.Proofs.Ythhkennomnmjkaa
open Go.RowKit
set_option maxHeartbeats 1000000
set_option maxRecDepth 100000
set_option linter.unusedVariables false

/-- two rows of numbers of the call's own, the second the first as far as it is rolled -/
structure RollW (w0 w : World) (g c g2 c2 C n r i : Nat) (xs : List Nat) : Prop where
  from_ : w.ownsRow w0.heap.size 23 1 (.slice (some ⟨g, 0, none⟩) C c) C (u32V xs)
  to : ∃ ys, RollTo xs ys n r i ∧ w.ownsRow w0.heap.size 23 1 (.slice (some ⟨g2, 0, none⟩) C c2) C (u32V ys)
  ne : g ≠ g2
  below : Below w0.heap.size w0 w
theorem RollW.cells {w0 w : World} {g c g2 c2 C n r i : Nat} {xs : List Nat} (h : RollW w0 w g c g2 c2 C n r i xs) (p q : Nat) (hp : p < C) (hq : q < C) : w.cell? ⟨g, p, none⟩ = some (.int .u32 (xs.getD p 0 : Nat)) ∧ (∃ y : Nat, w.cell? ⟨g2, q, none⟩ = some (.int .u32 y)) ∧ w.frozen? ⟨g2, q, none⟩ = false := by
  obtain ⟨ys, _, ho⟩ := h.to
  exact ⟨cell32 h.from_ p hp, ⟨_, cell32 ho q hq⟩, frozen32 ho (by omega) q⟩
theorem RollW.step {w0 w : World} {g c g2 c2 C n r i : Nat} {xs : List Nat} (h : RollW w0 w g c g2 c2 C n r i xs) (hl : xs.length = C) (hn : n ≤ C) (hi : i < n) : RollW w0 ((w.drew).setCell ⟨g2, C - n + (i + r) % n, none⟩ (.int .u32 (xs.getD (C - n + i) 0 : Nat))) g c g2 c2 C n r (i + 1) xs := by
  obtain ⟨ys, h1, ho⟩ := h.to
  have hm : (i + r) % n < n := Nat.mod_lt _ (by omega)
  have hb : Below w.heap.size w w.drew := (Below.refl _ _).drew
  refine ⟨ownsRow_setCell_other (own_later h.from_ hb) (by simpa [Value.ownBlock] using h.ne) _, ⟨_, ?_, set32 (own_later ho hb) (by omega)⟩, h.ne, (h.below.trans (hb.mono h.below.size)).setCell ((ho.lt g2 rfl).1) _⟩
  have := h1.step (by omega) hi
  rw [hl] at this
  exact this
theorem RollW.begin {w0 w1 w3 : World} {g c g2 c2 C n r : Nat} {xs : List Nat} (h1 : w1.ownsRow w0.heap.size 23 1 (.slice (some ⟨g, 0, none⟩) C c) C (u32V xs)) (hb : Below w0.heap.size w0 w1) (h3 : w3.ownsRow w1.heap.size 23 1 (.slice (some ⟨g2, 0, none⟩) C c2) C (u32V xs)) (hb3 : Below w1.heap.size w1 w3) : RollW w0 w3 g c g2 c2 C n r 0 xs := by
  have e1 := (h1.lt g rfl).2
  have e2 := (h3.lt g2 rfl).1
  exact ⟨own_later h1 hb3, ⟨xs, RollTo.start _ _ _, own_base h3 hb.size⟩, by omega, hb.trans (hb3.mono hb.size)⟩
/-- append([]uint32{}, row...): a copy in a block of its own -/
theorem wpList_copy32 {w0 : World} {ops : Array Oper} {rest : List Oper} {o : Oper} {a : Act} {Q : Exit → Act → World → Prop} (hgd : o.guard = none) (s x : Operand)
    (ho : o.op = .call { callee := .builtin .append, args := #[s, x], argTypes := #[25, 25] })
    (B g n c : Nat) (xs : List Nat) (hs : a.eval s = .slice (some ⟨w0.heap.size, 0, none⟩) 0 0) (hx : a.eval x = .slice (some ⟨g, 0, none⟩) n c) (hr : w0.ownsRow B 23 1 (.slice (some ⟨g, 0, none⟩) n c) n (u32V xs)) (h0 : 0 < n) (hn : n ≤ 65536)
    (h : ∀ g' c' w', w'.ownsRow w0.heap.size 23 1 (.slice (some ⟨g', 0, none⟩) n c') n (u32V xs) → Below w0.heap.size w0 w' → wpList Try.prog ops Q rest (a.put o.dst (.slice (some ⟨g', 0, none⟩) n c')) w') : wpList Try.prog ops Q (o :: rest) a (w0.alloc (.cells #[] 23)) := by
  obtain ⟨i0, hi, hz0, hz1, hz2⟩ := info_parts info32
  have hb : Below w0.heap.size w0 (w0.alloc (.cells #[] 23)) := (Below.refl _ _).alloc (Nat.le_refl _) _
  have hm := World.ownsRow_made (base := w0.heap.size) (e := 23) (size := 1) w0 #[] 0 (Nat.le_refl _) (Nat.zero_le _) (by simp)
  have hl : (u32V xs).length = n := by have := hr.1; simpa using this
  have hr2 := own_later hr hb
  refine wpList_append_at hgd s x 25 ho w0.heap.size 23 i0 (.int .u32 0) 1 4 Try.underlying25 hi hz0 hz1 hz2 rfl (by decide) (.slice (some ⟨w0.heap.size, 0, none⟩) 0 0) 0 [] hs hm ⟨g, 0, none⟩ n c (u32V xs) hx (by simpa using hl) (fun j u hj => ?_) (fun u hu => ?_) (by unfold maxLen; omega) (by omega) hb.size h0 ?_
  · have hjl : j < n := by
      rw [← hl]
      exact (List.getElem?_eq_some_iff.1 hj).1
    rw [plain_add, Nat.zero_add, hr2.cellAt j (by omega)]
    exact hj
  · unfold u32V at hu
    rw [List.mem_map] at hu
    obtain ⟨y, _, rfl⟩ := hu
    rfl
  · intro v' w2 hown' hgrow hat
    rw [Nat.zero_add, List.nil_append] at hown'
    obtain ⟨g', c', rfl⟩ : ∃ g' c', v' = .slice (some ⟨g', 0, none⟩) n c' := by
      rcases hown'.2 with ⟨_, h2⟩ | ⟨g', cap, cur, h1, _⟩
      · omega
      · exact ⟨_, _, h1⟩
    exact h g' c' w2 hown' (hb.grown hgrow hb.size (fun jj e => (hm.lt jj e).1))
theorem dRoll_good (B m n k : Nat) (v : Value) (s : Ks) (w : World) (h : DAt B w m v s) (hB : B ≤ w.heap.size) (ok : OkK s) (hon : s.on = true) (h0 : 0 < n) (hc : n ≤ cnt s) (hk : k < 4294967296) :
    Calls Try.prog 31 #[.pointer (some ⟨m, 0, none⟩), .int .u32 n, .int .u32 k] w fun e w' => e = .returned (.int .i64 0) ∧ LeftD B w w' m v { s with bs := rollL s.bs n (rollR n k) } := by
  obtain ⟨i0, hi, hz0, hz1, hz2⟩ := info_parts info32
  obtain ⟨a, c, rfl, dc⟩ := h.dc
  obtain ⟨b1, b2, b3, b4, b5, b6⟩ := ok.bd hon
  have hsz := ok.sz
  have hmo := ok.most
  have hC : cnt s ≤ 65536 := by omega
  have hrl := rollR_lt n k h0
  have HV : Hid (Calls Try.prog 57 #[.pointer (some ⟨m, 0, none⟩)] w fun e w' => ∃ g c', e = .returned (.slice (some ⟨g, 0, none⟩) (cnt s) c') ∧ Hid (w'.ownsRow w.heap.size 23 1 (.slice (some ⟨g, 0, none⟩) (cnt s) c') (cnt s) (u32V (valsK s)) ∧ Below w.heap.size w w')) := by
    refine (dvals_on m a c s w dc ok hon).mono ?_
    rintro e w' ⟨a', c', rfl, ho, hb⟩
    obtain ⟨g, rfl, hcc, hg⟩ := row32 ho (by omega)
    exact ⟨g, c', rfl, ho, hb⟩
  have HB : Hid (∀ wd g c' g2 c2, RollW w wd g c' g2 c2 (cnt s) n (rollR n k) n (valsK s) → Calls Try.prog 59 #[.pointer (some ⟨m, 0, none⟩), .slice (some ⟨g2, 0, none⟩) (cnt s) c2] wd fun e w' => e = .returned (.tuple #[]) ∧ Hid (LeftD B w w' m (.slice a s.bs.length c) { s with bs := rollL s.bs n (rollR n k) })) := fun wd g c' g2 c2 hw => by
    obtain ⟨ys, h1, ho⟩ := hw.to
    have e1 := h1.done (by rw [valsK_len]; exact hc) hrl
    subst e1
    have hyl : (rolled (valsK s) n (rollR n k)).length = cnt s := by rw [rolled_len _ _ _ (by rw [valsK_len]; exact hc) (by omega), valsK_len]
    have := dbecome_row B m (cnt s) c2 _ _ s _ (rolled (valsK s) n (rollR n k)) w _ h hB ok hon hw.below ho hC (fun x hx => by
      unfold rolled at hx
      rcases List.mem_append.1 hx with hx | hx
      · exact vals_lt ok x (List.mem_of_mem_take hx)
      · rcases List.mem_append.1 hx with hx | hx
        · exact vals_lt ok x (List.mem_of_mem_drop (List.mem_of_mem_drop hx))
        · exact vals_lt ok x (List.mem_of_mem_drop (List.mem_of_mem_take hx))) List.take_length.symm (by omega) (by omega)
    rw [hyl, rolled_bytes ok hon n _ hc hrl] at this
    exact this
  have HI := hidden fun wx => rint_any k wx hk
  have HTM := hidden (fun i hi => roll_tmod n k i h0 (by omega) hi)
  have HXL := hidden (valsK_len s)
  have c3 := dc.c3
  rw [hon] at c3
  clear h dc ok hon b1 b2 b3 b4 b5 b6 hsz hmo
  generalize rollR n k = r at *
  generalize wrap32 (k : Int) = WK at *
  obtain ⟨R0, e0, hR1, hR2, -⟩ := HTM.out 0 h0
  generalize valsK s = X at *
  generalize cnt s = C at *
  have q : ((n : Int) == 0) = false := by simp; omega
  have q2 : ¬ (n : Int) = 0 := by omega
  have q3 : ¬ n = 0 := by omega
  have hwi : IntKind.i64.wrap (n : Int) = (n : Int) := by rw [IntKind.wrap_i64]; omega
  have d1 : ¬ (n : Int) > (C : Int) := by omega
  have hwR : IntKind.i64.wrap R0 = R0 := by rw [IntKind.wrap_i64]; omega
  have hw3 : IntKind.i64.wrap ((C : Int) - (n : Int)) = ((C - n : Nat) : Int) := by rw [IntKind.wrap_i64]; omega
  go_enter Try.func31, Try.ntmps31
  go_wp2_with (first | (go_at_call 57; refine HV.out.mono ?_; rintro e w1 ⟨g, c', rfl, HO⟩) | (go_at_call 60; refine (HI.out _).mono ?_; rintro e w2 ⟨rfl, e2⟩; rw [e2]; clear e2) | (at_builtin; refine wpList_copy32 (w0 := w1) rfl _ _ rfl w.heap.size g C c' X rfl rfl HO.out.1 (by omega) hC ?_; intro g2 c2 w3 ho3 hb3; have RW : Hid (RollW w w3 g c' g2 c2 C n r 0 X) := RollW.begin HO.out.1 HO.out.2 ho3 hb3; clear ho3 hb3))
  clear HO HV HI
  go_loopw [11] (fun i wr => ∃ q : Nat, q ≤ n ∧ i = .int .i64 q ∧ Hid (RollW w wr g c' g2 c2 C n r q X)) (fun i _ => n - (intOf i).toNat)
  case atStart => exact ⟨0, by omega, rfl, RW⟩
  case round =>
    clear RW
    obtain ⟨t, ht, rfl, RW⟩ := hrel
    by_cases hlt : t < n
    · have dd : (t : Int) < (n : Int) := by omega
      obtain ⟨R1, e1, hq1, hq2, he3⟩ := HTM.out t hlt
      obtain rfl : R1 = R0 := by rw [← e1, ← e0]
      have hM : (t + r) % n < n := Nat.mod_lt _ (by omega)
      have HST := hidden (RW.out.step HXL.out hc hlt)
      obtain ⟨k1, ⟨y, k2⟩, k3⟩ := RW.out.cells (C - n + t) (C - n + (t + r) % n) (by omega) (by omega)
      generalize (t + r) % n = M at *
      generalize X.getD (C - n + t) 0 = XV at *
      have w1' : IntKind.i64.wrap (((C - n : Nat) : Int) + (t : Int)) = ((C - n + t : Nat) : Int) := by rw [IntKind.wrap_i64]; omega
      have w2' : IntKind.i64.wrap ((t : Int) + R1) = (t : Int) + R1 := by rw [IntKind.wrap_i64]; omega
      have w3' : IntKind.i64.wrap ((t : Int) + R1 + (n : Int)) = (t : Int) + R1 + (n : Int) := by rw [IntKind.wrap_i64]; omega
      have w4' : IntKind.i64.wrap (M : Int) = (M : Int) := by rw [IntKind.wrap_i64]; omega
      have w5' : IntKind.i64.wrap (((C - n : Nat) : Int) + (M : Int)) = ((C - n + M : Nat) : Int) := by rw [IntKind.wrap_i64]; omega
      have w6' : IntKind.i64.wrap ((t : Int) + 1) = (t : Int) + 1 := by rw [IntKind.wrap_i64]; omega
      have l1 : C - n + t < C := by omega
      have l2 : C - n + M < C := by omega
      go_wp2
      go_region
      go_wp2
      go_roundw
      case rel => exact ⟨t + 1, by omega, int_eq (by omega), HST⟩
      case measure => simp [intOf]; omega
    · obtain rfl : t = n := by omega
      have dd : ¬ (t : Int) < (t : Int) := by omega
      go_wp2_with (first | (go_at_call 59; refine (HB.out _ _ _ _ _ RW.out).mono ?_; rintro e w5 ⟨rfl, g5⟩))
      go_ret
      exact ⟨rfl, g5.out⟩
theorem dRoll_any (B m n k : Nat) (v : Value) (s : Ks) (w : World) (h : DAt B w m v s) (hB : B ≤ w.heap.size) (ok : OkK s) (hn : n < 4294967296) (hk : k < 4294967296) :
    Calls Try.prog 31 #[.pointer (some ⟨m, 0, none⟩), .int .u32 n, .int .u32 k] w fun e w' => e = .returned (.int .i64 (rollE s n)) ∧ LeftD B w w' m v (rollS s n k) := by
  unfold rollS
  obtain ⟨a, c, e0, dc⟩ := h.dc
  cases hon : s.on with
  | false =>
    rw [rollE, lack_off hon, if_neg (by omega)]
    refine (dRoll_off m n k a c s w dc hon).mono ?_
    rintro e w' ⟨rfl, hb⟩
    exact ⟨rfl, LeftD.same h hb⟩
  | true =>
    by_cases h0 : n = 0
    · subst h0
      rw [rollE, lack0 hon, if_neg (by omega)]
      refine (dRoll_zero m k a c s w dc ok hon).mono ?_
      rintro e w' ⟨rfl, hb⟩
      exact ⟨rfl, LeftD.same h hb⟩
    · by_cases hc : cnt s < n
      · rw [rollE, lack_few hon hc, if_neg (by omega)]
        refine (dRoll_few m n k a c s w dc ok hon (by omega) hn hc).mono ?_
        rintro e w' ⟨rfl, hb⟩
        exact ⟨rfl, LeftD.same h hb⟩
      · rw [rollE, lack_ok hon (by omega), if_pos ⟨rfl, h0⟩]
        have := dRoll_good B m n k v s w h hB ok hon (by omega) (by omega) hk
        simpa [hon] using this
end Go.Proofs.Ythhkennomnmjkaa
