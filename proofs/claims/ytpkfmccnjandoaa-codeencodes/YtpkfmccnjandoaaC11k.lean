/- Contracts of package code's upToZeroes and Head. -/
import Derived.Test.YtpkfmccnjandoaaC11j
namespace Go.Proofs.Ytpkfmccnjandoaa
open Go.RowKit
set_option maxHeartbeats 1000000
set_option maxRecDepth 100000
set_option linter.unusedVariables false

/-- how many bytes up to the first pair 0 0, with it; 0: there is none -/
def zL : List Int → Nat
  | n :: k :: r => if n = 0 ∧ k = 0 then 2 else if zL r = 0 then 0 else zL r + 2
  | _ => 0
theorem zL_cons (n k : Int) (r : List Int) : zL (n :: k :: r) = if n = 0 ∧ k = 0 then 2 else if zL r = 0 then 0 else zL r + 2 := rfl
theorem zL_le : ∀ zs : List Int, zL zs ≤ zs.length
  | [] => by simp [zL]
  | [_] => by simp [zL]
  | n :: k :: r => by
    have := zL_le r
    rw [zL_cons, List.length_cons, List.length_cons]
    split
    · omega
    · split <;> omega
theorem fmt_z : ∀ zs : List Int, fmtL zs ≠ 0 → zL zs = fmtL zs
  | [], h => by simp [fmtL] at h
  | [_], h => by simp [fmtL] at h
  | n :: k :: r, h => by
    rw [fmtL_cons] at h ⊢
    rw [zL_cons]
    split
    · rfl
    · rename_i h0
      rw [if_neg h0] at h
      split at h
      · rename_i h1
        rw [if_pos h1]
        split at h
        · exact (h rfl).elim
        · rename_i h2
          rw [if_neg h2, fmt_z r h2, if_neg h2]
      · exact (h rfl).elim
theorem z_take : ∀ zs : List Int, zL zs ≠ 0 → fmtL (zs.take (zL zs)) = fmtL zs
  | [], h => by simp [zL] at h
  | [_], h => by simp [zL] at h
  | n :: k :: r, h => by
    rw [zL_cons] at h ⊢
    by_cases h0 : n = 0 ∧ k = 0
    · rw [if_pos h0, fmtL_cons, if_pos h0]
      show fmtL [n, k] = 2
      rw [fmtL_cons, if_pos h0]
    · rw [if_neg h0] at h ⊢
      by_cases h2 : zL r = 0
      · rw [if_pos h2] at h; exact (h rfl).elim
      · rw [if_neg h2, List.take_succ_cons, List.take_succ_cons, fmtL_cons, fmtL_cons, z_take r h2]
def zF (zs : List Int) (i : Nat) : Nat := if zL (zs.drop i) = 0 then 0 else i + zL (zs.drop i)
theorem zF_none (zs : List Int) (i : Nat) (h : ¬ i + 1 < zs.length) : zF zs i = 0 := by
  have := zL_le (zs.drop i)
  have h2 : zL (zs.drop i) = 0 := by
    have hl : (zs.drop i).length ≤ 1 := by rw [List.length_drop]; omega
    match hd : zs.drop i, hl with
    | [], _ => rfl
    | [_], _ => rfl
    | _ :: _ :: _, hl => simp at hl
  unfold zF
  rw [if_pos h2]
theorem zF_end (zs : List Int) (i : Nat) (h : i + 1 < zs.length) (h0 : zs.getD i 0 = 0) (h1 : zs.getD (i + 1) 0 = 0) : zF zs i = i + 2 := by
  unfold zF
  rw [drop_two zs i h, zL_cons, h0, h1]
  rfl
theorem zF_next (zs : List Int) (i : Nat) (h : i + 1 < zs.length) (h1 : ¬ (zs.getD i 0 = 0 ∧ zs.getD (i + 1) 0 = 0)) : zF zs i = zF zs (i + 2) := by
  have e : zL (zs.drop i) = if zL (zs.drop (i + 2)) = 0 then 0 else zL (zs.drop (i + 2)) + 2 := by
    rw [drop_two zs i h, zL_cons, if_neg h1]
  unfold zF
  rw [e]
  by_cases h2 : zL (zs.drop (i + 2)) = 0
  · rw [if_pos h2, if_pos rfl, if_pos h2]
  · rw [if_neg h2, if_neg (by omega), if_neg h2]; omega
theorem zF_zero (zs : List Int) : zF zs 0 = zL zs := by
  unfold zF
  rw [List.drop_zero, Nat.zero_add]
  split
  · rename_i h; rw [h]
  · rfl
theorem kzer_any (a : Option Addr) (n c : Nat) (zs : List Int) (w : World) (h : Reads w a n c zs) (hb : OkB zs) (hn : n ≤ 2000000) :
    Calls Try.prog 39 #[.slice a n c] w fun e w' => Dr w w' ∧ (zL zs = 0 → e = .returned (.slice none 0 0)) ∧ (zL zs ≠ 0 → e = .returned (.slice a (zL zs) c)) := by
  have hz := hidden h.1
  have hc : n ≤ c := h.2.1
  have HR := hidden h
  have HO := hidden hb
  clear h hb
  go_enter Try.func39, Try.ntmps39
  go_wp2
  go_loopw [3] (fun i w' => ∃ k : Nat, k ≤ n + 1 ∧ i = .int .i64 k ∧ Hid (zL zs = zF zs k) ∧ Hid (Dr w w')) (fun i _ => n + 2 - (intOf i).toNat)
  case atStart => exact ⟨0, by omega, rfl, (zF_zero zs).symm, Dr.refl _⟩
  case round =>
    obtain ⟨k, hk, rfl, HF, HB⟩ := hrel
    have hw : IntKind.i64.wrap ((k : Int) + 1) = (k : Int) + 1 := by rw [IntKind.wrap_i64]; omega
    by_cases hlt : k + 1 < n
    · obtain ⟨g, o, rfl, hB⟩ := (HR.out.later HB.out.below).bs (by omega)
      have hl' : k + 1 < zs.length := by rw [hz.out]; exact hlt
      have c0 := hB.2 k (by omega)
      have c1 := hB.2 (k + 1) (by omega)
      have b0 := okb_at HO.out k
      have b1 := okb_at HO.out (k + 1)
      have fe := hidden (zF_end zs k hl')
      have fn := hidden (zF_next zs k hl')
      generalize zs.getD k 0 = x at *
      generalize zs.getD (k + 1) 0 = y at *
      clear hB hl'
      have d1 : (k : Int) + 1 < (n : Int) := by omega
      have hw2 : IntKind.i64.wrap ((k : Int) + 2) = (k : Int) + 2 := by rw [IntKind.wrap_i64]; omega
      have t1 : ((k : Int) + 1).toNat = k + 1 := by omega
      have t2 : ((k : Int) + 2).toNat = k + 2 := by omega
      have c1' : wr.cell? ⟨g, o + ((k : Int) + 1).toNat, none⟩ = some (.int .u8 y) := by rw [t1]; exact c1
      by_cases e0 : x = 0 ∧ y = 0
      · obtain ⟨rfl, rfl⟩ := e0
        have hF := hidden (HF.out.trans (fe.out rfl rfl))
        have k3 : ((k : Int) + 2) ≤ (c : Int) := by omega
        have k4 : (0 : Int) ≤ (k : Int) + 2 := by omega
        go_wp2
        go_ret
        exact ⟨HB.out, fun h => by rw [hF.out] at h; omega, fun _ => by rw [hF.out]; rfl⟩
      · have hF := hidden (HF.out.trans (fn.out e0))
        by_cases q : x = 0
        · subst q
          have q5 : (y == 0) = false := by simp; omega
          go_wp2
          go_roundw
          case rel => exact ⟨k + 2, by omega, int_eq (by omega), hF, HB.out⟩
          case measure => simp [intOf]; omega
        · have q1 : (x == 0) = false := by simpa using q
          go_wp2
          go_roundw
          case rel => exact ⟨k + 2, by omega, int_eq (by omega), hF, HB.out⟩
          case measure => simp [intOf]; omega
    · have hF := hidden (HF.out.trans (zF_none zs k (by rw [hz.out]; exact hlt)))
      have d1 : ¬ (k : Int) + 1 < (n : Int) := by omega
      go_wp2
      go_ret
      exact ⟨HB.out, fun _ => rfl, fun h => (h hF.out).elim⟩
theorem Reads.take {w : World} {a : Option Addr} {n c : Nat} {zs : List Int} (h : Reads w a n c zs) (k : Nat) (hk : k ≤ n) (ha : a ≠ none) : Reads w a k c (zs.take k) := by
  obtain ⟨h1, h2, h3⟩ := h
  refine ⟨by rw [List.length_take]; omega, by omega, ?_⟩
  rcases h3 with ⟨h3, _⟩ | ⟨x, rfl, hc⟩
  · exact (ha h3).elim
  · refine .inr ⟨x, rfl, fun i hi => ?_⟩
    rw [hc i (by omega)]
    simp [List.getD_eq_getElem?_getD, hi]
/-- how a function begins: its kind, its format, how many bytes, the error -/
def hdR (zs : List Int) (at_ : Int) : Int × List Int × Int × Int :=
  if at_ < 0 then (0, [], 0, 1) else if (zs.length : Int) ≤ at_ then (0, [], 0, 90)
  else if zs.getD at_.toNat 0 ≠ 192 ∧ zs.getD at_.toNat 0 ≠ 193 then (0, [], 0, 112)
  else if fmtL (zs.drop (at_.toNat + 1)) = 0 then (0, [], 0, 112)
  else (zs.getD at_.toNat 0, (zs.drop (at_.toNat + 1)).take (fmtL (zs.drop (at_.toNat + 1))), 1 + (fmtL (zs.drop (at_.toNat + 1)) : Int), 0)
def HRet (w w' : World) (r : Int × List Int × Int × Int) (e : Ending) : Prop :=
  ∃ a c, e = .returned (.tuple #[.int .i64 r.1, .slice a r.2.1.length c, .int .i64 r.2.2.1, .int .i64 r.2.2.2]) ∧ w'.ownsRow w.heap.size 5 1 (.slice a r.2.1.length c) r.2.1.length (bytesV r.2.1) ∧ Below w.heap.size w w'
theorem hret_none {w w' : World} (E : Int) (hb : Below w.heap.size w w') : HRet w w' (0, [], 0, E) (.returned (.tuple #[.int .i64 0, .slice none 0 0, .int .i64 0, .int .i64 E])) := ⟨none, 0, rfl, World.ownsRow_nil _ _ _ _, hb⟩
/-- what Head does behind its first byte: no format -/
theorem head_no (g o n c p P : Nat) (X : Int) (V : Value) (w : World) (hX : X = 192 ∨ X = 193) (hp : p < n) (hc : n ≤ c) (hn : n ≤ 2000000) (c0 : w.cell? ⟨g, o + p, none⟩ = some (.int .u8 X))
    (hP : (if c = p + 1 then some (⟨g, o, none⟩ : Addr) else some ⟨g, o + (p + 1), none⟩) = some ⟨g, P, none⟩)
    (hz : Calls Try.prog 39 #[.slice (some ⟨g, P, none⟩) (n - (p + 1)) (c - (p + 1))] w fun e w' => e = .returned V ∧ Below w.heap.size w w')
    (hL : ∀ wx, Below w.heap.size w wx → Calls Try.prog 40 #[V] wx fun e w' => e = .returned (.tuple #[.int .i64 0, .int .i64 0, .int .i64 102]) ∧ Below w.heap.size w w') :
    Calls Try.prog 20 #[.slice (some ⟨g, o, none⟩) n c, .int .i64 p] w fun e w' => HRet w w' (0, [], 0, 112) e := by
  have HZ := hidden hz
  have HL := hidden hL
  have h0 : ¬ (p : Int) < 0 := by omega
  have d : ¬ (p : Int) ≥ (n : Int) := by omega
  have hw1 : IntKind.i64.wrap ((p : Int) + 1) = (p : Int) + 1 := by rw [IntKind.wrap_i64]; omega
  have t1 : ((p : Int) + 1).toNat = p + 1 := by omega
  have l1 : (0 : Int) ≤ (p : Int) + 1 := by omega
  have l2 : (p : Int) + 1 ≤ (n : Int) := by omega
  clear hz hL
  rcases hX with rfl | rfl
  all_goals (
    go_enter Try.func20, Try.ntmps20
    go_wp2_with (first | (go_at_call 39; refine HZ.out.mono ?_; rintro e w1 ⟨rfl, hd1⟩; have HD1 := hidden hd1; clear hd1) | (go_at_call 40; refine (HL.out _ HD1.out).mono ?_; rintro e w2 ⟨rfl, hb2⟩; have HB2 := hidden hb2; clear hb2))
    exact bodyPost_ret (v := .tuple #[.int .i64 0, .slice none 0 0, .int .i64 0, .int .i64 112]) (by simp [results, Try.results20, go_sem]) rfl (hret_none 112 HB2.out))
theorem head_yes (g o n c p P ZL C : Nat) (X L1 L2 : Int) (TT : List Int) (a1 : Option Addr) (w : World) (hX : X = 192 ∨ X = 193) (hp : p < n) (hc : n ≤ c) (hn : n ≤ 2000000) (hZ : ZL ≤ 2000000) (hT : TT.length = ZL) (c0 : w.cell? ⟨g, o + p, none⟩ = some (.int .u8 X))
    (hP : (if c = p + 1 then some (⟨g, o, none⟩ : Addr) else some ⟨g, o + (p + 1), none⟩) = some ⟨g, P, none⟩)
    (hz : Calls Try.prog 39 #[.slice (some ⟨g, P, none⟩) (n - (p + 1)) (c - (p + 1))] w fun e w' => e = .returned (.slice a1 ZL C) ∧ Below w.heap.size w w')
    (hL : ∀ wx, Below w.heap.size w wx → Calls Try.prog 40 #[.slice a1 ZL C] wx fun e w' => e = .returned (.tuple #[.int .i64 L1, .int .i64 L2, .int .i64 0]) ∧ Below w.heap.size w w')
    (hC : ∀ wx, Below w.heap.size w wx → Calls Try.prog 41 #[.slice a1 ZL C] wx fun e w' => ∃ a' c', e = .returned (.slice a' ZL c') ∧ w'.ownsRow w.heap.size 5 1 (.slice a' ZL c') ZL (bytesV TT) ∧ Below w.heap.size w w') :
    Calls Try.prog 20 #[.slice (some ⟨g, o, none⟩) n c, .int .i64 p] w fun e w' => HRet w w' (X, TT, 1 + (ZL : Int), 0) e := by
  have HZ := hidden hz
  have HL := hidden hL
  have HC := hidden hC
  have HT := hidden hT
  have h0 : ¬ (p : Int) < 0 := by omega
  have d : ¬ (p : Int) ≥ (n : Int) := by omega
  have hw1 : IntKind.i64.wrap ((p : Int) + 1) = (p : Int) + 1 := by rw [IntKind.wrap_i64]; omega
  have hw2 : IntKind.i64.wrap (1 + (ZL : Int)) = 1 + (ZL : Int) := by rw [IntKind.wrap_i64]; omega
  have t1 : ((p : Int) + 1).toNat = p + 1 := by omega
  have l1 : (0 : Int) ≤ (p : Int) + 1 := by omega
  have l2 : (p : Int) + 1 ≤ (n : Int) := by omega
  clear hz hL hC hT
  rcases hX with rfl | rfl
  all_goals (
    go_enter Try.func20, Try.ntmps20
    go_wp2_with (first | (go_at_call 39; refine HZ.out.mono ?_; rintro e w1 ⟨rfl, hd1⟩; have HD1 := hidden hd1; clear hd1) | (go_at_call 40; refine (HL.out _ HD1.out).mono ?_; rintro e w2 ⟨rfl, hb2⟩; have HB2 := hidden hb2; clear hb2) | (go_at_call 41; refine (HC.out _ HB2.out).mono ?_; rintro e w3 ⟨a', c', rfl, ho3, hb3⟩; have HO3 := hidden ho3; have HB3 := hidden hb3; clear ho3 hb3))
    refine bodyPost_ret (v := .tuple #[_, .slice a' ZL c', .int .i64 (1 + (ZL : Int)), .int .i64 0]) (by simp [results, Try.results20, go_sem]; rfl) rfl ⟨a', c', ?_, ?_, HB3.out⟩
    · show _ = Ending.returned (.tuple #[_, .slice a' TT.length c', _, _])
      rw [HT.out]
    · show World.ownsRow _ _ _ _ (.slice a' TT.length c') TT.length (bytesV TT)
      rw [HT.out]; exact HO3.out)
theorem head_any (a : Option Addr) (n c : Nat) (at_ : Int) (zs : List Int) (w : World) (hr : Reads w a n c zs) (hb : OkB zs) (hn : n ≤ 2000000) (ha : at_ ≤ 9223372036854775807) :
    Calls Try.prog 20 #[.slice a n c, .int .i64 at_] w fun e w' => HRet w w' (hdR zs at_) e := by
  have hl := hr.1
  have hc := hr.2.1
  unfold hdR
  rw [hl]
  by_cases h0 : at_ < 0
  · rw [if_pos h0]
    clear hr hb
    go_enter Try.func20, Try.ntmps20
    go_wp2
    exact bodyPost_ret (v := .tuple #[.int .i64 0, .slice none 0 0, .int .i64 0, .int .i64 1]) (by simp [results, Try.results20, go_sem]) rfl (hret_none 1 (Below.refl _ _))
  rw [if_neg h0]
  obtain ⟨p, rfl⟩ := Int.eq_ofNat_of_zero_le (by omega : 0 ≤ at_)
  rw [Int.toNat_natCast]
  by_cases hp : n ≤ p
  · rw [if_pos (by omega)]
    have d : (p : Int) ≥ (n : Int) := by omega
    clear hr hb
    go_enter Try.func20, Try.ntmps20
    go_wp2
    exact bodyPost_ret (v := .tuple #[.int .i64 0, .slice none 0 0, .int .i64 0, .int .i64 90]) (by simp [results, Try.results20, go_sem]) rfl (hret_none 90 (Below.refl _ _))
  rw [if_neg (by omega)]
  obtain ⟨g, o, rfl, hB⟩ := hr.bs (by omega)
  have c0 := hB.2 p (by omega)
  have bx := okb_at hb p
  have d : ¬ (p : Int) ≥ (n : Int) := by omega
  have hwx : IntKind.i64.wrap (zs.getD p 0) = zs.getD p 0 := by rw [IntKind.wrap_i64]; omega
  by_cases hk : zs.getD p 0 ≠ 192 ∧ zs.getD p 0 ≠ 193
  · rw [if_pos hk]
    obtain ⟨hk1, hk2⟩ := hk
    clear hr hb hB
    generalize zs.getD p 0 = X at *
    have q1 : (X != 192) = true := by simpa using hk1
    have q2 : (X != 193) = true := by simpa using hk2
    go_enter Try.func20, Try.ntmps20
    go_wp2
    exact bodyPost_ret (v := .tuple #[.int .i64 0, .slice none 0 0, .int .i64 0, .int .i64 112]) (by simp [results, Try.results20, go_sem]) rfl (hret_none 112 (Below.refl _ _))
  rw [if_neg hk]
  -- what lies behind the first byte
  have hsd : seg zs (p + 1) (n - (p + 1)) = zs.drop (p + 1) := by unfold seg; rw [List.take_of_length_le (by rw [List.length_drop]; omega)]
  obtain ⟨P, hP, hRd⟩ : ∃ P, (if c = p + 1 then some (⟨g, o, none⟩ : Addr) else some ⟨g, o + (p + 1), none⟩) = some ⟨g, P, none⟩ ∧ Reads w (some ⟨g, P, none⟩) (n - (p + 1)) (c - (p + 1)) (zs.drop (p + 1)) := by
    by_cases e : c = p + 1
    · rw [if_pos e]
      refine ⟨o, rfl, by rw [List.length_drop]; omega, by omega, .inr ⟨_, rfl, fun i hi => by omega⟩⟩
    · rw [if_neg e]
      refine ⟨o + (p + 1), rfl, ?_⟩
      rw [← hsd]
      exact hB.sub (p + 1) (n - (p + 1)) (c - (p + 1)) (by omega) (by omega)
  have hbd : OkB (zs.drop (p + 1)) := fun x hx => hb x (List.mem_of_mem_drop hx)
  have hZ := kzer_any (some ⟨g, P, none⟩) (n - (p + 1)) (c - (p + 1)) (zs.drop (p + 1)) w hRd hbd (by omega)
  have hzl := zL_le (zs.drop (p + 1))
  have hdl : (zs.drop (p + 1)).length = n - (p + 1) := by rw [List.length_drop]; omega
  rw [hdl] at hzl
  have hX : zs.getD p 0 = 192 ∨ zs.getD p 0 = 193 := by omega
  generalize hts : zs.drop (p + 1) = ts at *
  by_cases hz : zL ts = 0
  · have hf : fmtL ts = 0 := Classical.byContradiction fun h => by have := fmt_z ts h; omega
    rw [if_pos hf]
    refine head_no g o n c p P _ (.slice none 0 0) w hX (by omega) hc hn c0 hP (hZ.mono (fun e w' hh => ⟨hh.2.1 hz, hh.1.below⟩)) (fun wx hx => (kloc_any none 0 0 [] wx ⟨rfl, Nat.le_refl _, .inl ⟨rfl, rfl, rfl⟩⟩ (fun c hc => by cases hc) (by omega)).mono (fun e w' hh => ⟨hh.1, hx.trans (hh.2.mono hx.size)⟩))
  · have hzt := z_take ts hz
    have hRt := hRd.take (zL ts) hzl (by simp)
    have htl : (ts.take (zL ts)).length = zL ts := by rw [List.length_take]; omega
    have hL := fun wx (hx : Below w.heap.size w wx) => (kloc_any (some ⟨g, P, none⟩) (zL ts) (c - (p + 1)) (ts.take (zL ts)) wx (hRt.later hx) (fun x hx => hbd x (List.mem_of_mem_take hx)) (by omega)).mono (fun e w' hh => (⟨hh.1, hx.trans (hh.2.mono hx.size)⟩ : _ ∧ Below w.heap.size w w'))
    by_cases hf : fmtL ts = 0
    · rw [if_pos hf]
      have e : locR (ts.take (zL ts)) = (0, 0, 102) := by unfold locR; rw [if_pos (.inl (by rw [hzt]; exact hf))]
      rw [e] at hL
      exact head_no g o n c p P _ _ w hX (by omega) hc hn c0 hP (hZ.mono (fun e w' hh => ⟨hh.2.2 hz, hh.1.below⟩)) hL
    · rw [if_neg hf]
      have hzf : zL ts = fmtL ts := fmt_z ts hf
      have e : (locR (ts.take (zL ts))).2.2 = 0 := by
        unfold locR
        rw [if_neg (by rw [hzt, htl, hzf]; simp [hf])]
      rw [e] at hL
      rw [← hzf]
      refine head_yes g o n c p P (zL ts) (c - (p + 1)) _ _ _ _ _ w hX (by omega) hc hn (by omega) htl c0 hP (hZ.mono (fun e w' hh => ⟨hh.2.2 hz, hh.1.below⟩)) hL (fun wx hx => (bclone_any (some ⟨g, P, none⟩) (zL ts) (c - (p + 1)) (ts.take (zL ts)) wx (hRt.later hx) (by omega)).mono (fun e w' hh => ?_))
      obtain ⟨a', c', h1, h2, h3⟩ := hh
      exact ⟨a', c', h1, own_base h2 hx.size, hx.trans (h3.mono hx.size)⟩
end Go.Proofs.Ytpkfmccnjandoaa
