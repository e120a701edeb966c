/- Layer 13: a chain laid through structures in any order: lists. -/
import Derived.Test.YtppgpfppmbdfhaaF13F
namespace Go.Proofs.Ytppgpfppmbdfhaa
open Go.RowKit
set_option maxHeartbeats 1000000
set_option maxRecDepth 100000
set_option linter.unusedVariables false

theorem splice_right (P R Y : List Int) (i : Nat) : splice (P ++ R) (P.length + i) Y = P ++ splice R i Y := by
  simp only [splice]
  rw [show P.length + i + Y.length = P.length + (i + Y.length) by omega, ← List.drop_drop, List.drop_left' rfl, List.take_append, List.take_of_length_le (by omega), Nat.add_sub_cancel_left, List.append_assoc]
theorem splice_puts : ∀ (l : List Int) (i : Nat) (v : Int), i < l.length → splice (putsL l) (4 * i) (putL v 4) = putsL (l.set i v)
  | [], i, v, h => by simp at h
  | x :: l, 0, v, _ => by
    have e1 : putsL (x :: l) = putL x 4 ++ putsL l := by simp [putsL]
    have e2 : putsL (v :: l) = putL v 4 ++ putsL l := by simp [putsL]
    rw [List.set_cons_zero, e1, e2]
    simp [splice, putL]
  | x :: l, i + 1, v, h => by
    have e1 : putsL (x :: l) = putL x 4 ++ putsL l := by simp [putsL]
    have e2 : putsL (x :: l.set i v) = putL x 4 ++ putsL (l.set i v) := by simp [putsL]
    rw [List.set_cons_succ, e1, e2, show 4 * (i + 1) = (putL x 4).length + 4 * i by rw [show (putL x 4).length = 4 from rfl]; omega, splice_right, splice_puts l i v (by simpa using h)]
theorem ints_set (W : List Nat) (i v : Nat) : intsL (W.set i v) = (intsL W).set i (v : Int) := by simp [intsL, List.map_set]
theorem ints_len (W : List Nat) : (intsL W).length = W.length := by simp [intsL]
theorem zer_puts : ∀ m : Nat, zer8 (4 * m) = putsL (intsL (List.replicate m 0))
  | 0 => rfl
  | m + 1 => by
    have e : putsL (intsL (List.replicate (m + 1) 0)) = putL 0 4 ++ putsL (intsL (List.replicate m 0)) := by simp [putsL, intsL, List.replicate_succ]
    rw [e, ← zer_puts m]
    show List.replicate (4 * (m + 1)) (0 : Int) = [0, 0, 0, 0] ++ List.replicate (4 * m) 0
    rw [show 4 * (m + 1) = 4 * m + 1 + 1 + 1 + 1 by omega, List.replicate_succ, List.replicate_succ, List.replicate_succ, List.replicate_succ]
    rfl
theorem getD_set (W : List Nat) (i j v : Nat) (h : i < W.length) : (W.set i v).getD j 0 = if j = i then v else W.getD j 0 := by
  rw [List.getD_eq_getElem?_getD]
  by_cases e : j = i
  · subst e
    rw [if_pos rfl, List.getElem?_set_self h]; rfl
  · rw [if_neg e, List.getElem?_set_ne (fun q => e q.symm), ← List.getD_eq_getElem?_getD]
/-- each one's next one, along a chain -/
def Chn (W : List Nat) : List Nat → Prop
  | [] => True
  | [c] => W.getD (2 * c + 1) 0 = 0
  | c :: c' :: r => W.getD (2 * c + 1) 0 = 256 + 8 * c' ∧ Chn W (c' :: r)
structure Lk (xs W C : List Nat) : Prop where
  ln : W.length = 2 * xs.length
  ky : ∀ i, i < xs.length → W.getD (2 * i) 0 = xs.getD i 0
  bd : ∀ y ∈ W, y < 4294967296
  nd : C.Nodup
  lt : ∀ c ∈ C, c < xs.length
  chn : Chn W C
  free : ∀ k, k < xs.length → k ∉ C → W.getD (2 * k + 1) 0 = 0
theorem Lk.one {xs W : List Nat} (h : Lk xs W []) (k : Nat) (hk : k < xs.length) : Lk xs W [k] :=
  ⟨h.ln, h.ky, h.bd, by simp, fun c hc => by simp at hc; omega, h.free k hk (by simp), fun j hj hn => h.free j hj (by simp)⟩
theorem chn_set (W : List Nat) (l k : Nat) (hl : 2 * l + 1 < W.length) (hk : W.getD (2 * k + 1) 0 = 0) (hkl : k ≠ l) : ∀ C0 : List Nat, l ∉ C0 → Chn W (C0 ++ [l]) → Chn (W.set (2 * l + 1) (256 + 8 * k)) (C0 ++ [l] ++ [k])
  | [], _, _ => by
    show _ ∧ _
    refine ⟨by rw [getD_set _ _ _ _ hl, if_pos rfl], ?_⟩
    show _ = 0
    rw [getD_set _ _ _ _ hl, if_neg (by omega), hk]
  | [c], hn, h => by
    have h1 : W.getD (2 * c + 1) 0 = 256 + 8 * l := h.1
    have ih := chn_set W l k hl hk hkl [] (by simp) h.2
    have hc : c ≠ l := fun e => hn (by simp [e])
    exact ⟨by rw [getD_set _ _ _ _ hl, if_neg (by omega), h1], ih⟩
  | c :: c' :: r, hn, h => by
    have h1 : W.getD (2 * c + 1) 0 = 256 + 8 * c' := h.1
    have ih := chn_set W l k hl hk hkl (c' :: r) (fun e => hn (List.mem_cons_of_mem _ e)) h.2
    have hc : c ≠ l := fun e => hn (by simp [e])
    exact ⟨by rw [getD_set _ _ _ _ hl, if_neg (by omega), h1], ih⟩
theorem Lk.more {xs W C0 : List Nat} {l : Nat} (h : Lk xs W (C0 ++ [l])) (k : Nat) (hk : k < xs.length) (hkn : k ∉ C0 ++ [l]) (hn : xs.length ≤ 400) : Lk xs (W.set (2 * l + 1) (256 + 8 * k)) (C0 ++ [l] ++ [k]) := by
  have hll : l < xs.length := h.lt l (by simp)
  have hl : 2 * l + 1 < W.length := by rw [h.ln]; omega
  have hnd := List.nodup_append.1 h.nd
  have hl0 : l ∉ C0 := fun e => hnd.2.2 l e l (by simp) rfl
  have hkl : k ≠ l := fun e => hkn (by simp [e])
  refine ⟨by rw [List.length_set]; exact h.ln, fun i hi => by rw [getD_set _ _ _ _ hl, if_neg (by omega)]; exact h.ky i hi, fun y hy => ?_, ?_, fun c hc => ?_, chn_set W l k hl (h.free k hk hkn) hkl C0 hl0 h.chn, fun j hj hjn => ?_⟩
  · rcases List.mem_or_eq_of_mem_set hy with q | q
    · exact h.bd y q
    · omega
  · rw [List.nodup_append]
    exact ⟨h.nd, by simp, fun a ha b hb => by simp at hb; subst hb; exact fun e => hkn (by rw [← e]; exact ha)⟩
  · rcases List.mem_append.1 hc with q | q
    · exact h.lt c q
    · simp at q; omega
  · have hjl : j ≠ l := fun e => hjn (by simp [e])
    rw [getD_set _ _ _ _ hl, if_neg (by omega)]
    exact h.free j hj (fun e => hjn (List.mem_append_left _ e))
def staF : List Nat → Nat
  | [] => 0
  | c :: _ => 256 + 8 * c
def lasF (C : List Nat) : Int := match C.getLast? with
  | none => -1
  | some c => c
def wanF (xs : List Nat) (key : Nat) : List Nat → Nat
  | [] => 0
  | c :: r => if xs.getD c 0 = key then 256 + 8 * c else wanF xs key r
theorem staF_snoc (C : List Nat) (k : Nat) : staF (C ++ [k]) = if C = [] then 256 + 8 * k else staF C := by
  cases C with
  | nil => rfl
  | cons c r => rfl
theorem lasF_snoc (C : List Nat) (k : Nat) : lasF (C ++ [k]) = k := by
  unfold lasF
  simp
theorem lasF_nil : lasF [] = -1 := rfl
theorem wanF_snoc (xs : List Nat) (key k : Nat) : ∀ C : List Nat, wanF xs key (C ++ [k]) = if wanF xs key C = 0 then (if xs.getD k 0 = key then 256 + 8 * k else 0) else wanF xs key C
  | [] => rfl
  | c :: r => by
    have ih := wanF_snoc xs key k r
    show (if _ then _ else wanF xs key (r ++ [k])) = _
    by_cases h : xs.getD c 0 = key
    · rw [if_pos h, show wanF xs key (c :: r) = 256 + 8 * c by unfold wanF; rw [if_pos h], if_neg (by omega)]
    · rw [if_neg h, ih, show wanF xs key (c :: r) = wanF xs key r by rw [wanF, if_neg h]]
theorem wanF_le (xs : List Nat) (key : Nat) : ∀ C : List Nat, (∀ c ∈ C, c < 400) → wanF xs key C < 4294967296
  | [], _ => by show 0 < _; omega
  | c :: r, h => by
    unfold wanF
    have := h c (by simp)
    split
    · omega
    · exact wanF_le xs key r (fun c hc => h c (List.mem_cons_of_mem _ hc))
theorem staF_lt (C : List Nat) (h : ∀ c ∈ C, c < 400) : staF C < 4294967296 := by
  cases C with
  | nil => show 0 < _; omega
  | cons c r => have := h c (by simp); show 256 + 8 * c < _; omega
theorem link_run (xs W : List Nat) (key st : Nat) (hx : ∀ x ∈ xs, x < 4294967296) (hn : xs.length ≤ 400) (hk : key < 4294967296) (hln : W.length = 2 * xs.length) (hky : ∀ i, i < xs.length → W.getD (2 * i) 0 = xs.getD i 0) : ∀ (C : List Nat) (f i : Nat), Chn W C → (∀ c ∈ C, c < xs.length) → C.length < f →
    (∃ i', chF (layB (putsL (intsL W))) (cSr key st) (putL (key : Int) 4) f i (staF C) = .at_ i' (wanF xs key C) ∧ wanF xs key C ≠ 0) ∨ (chF (layB (putsL (intsL W))) (cSr key st) (putL (key : Int) 4) f i (staF C) = .no ∧ wanF xs key C = 0)
  | [], f, i, _, _, _ => .inr ⟨chF_end _ _ _ _ _, rfl⟩
  | c :: r, 0, i, _, _, h => by simp at h
  | c :: r, f + 1, i, hch, hlt, hf => by
    have hc : c < xs.length := hlt c (by simp)
    have e1 := word_seg W (2 * c) (by omega) (by omega)
    have e2 := word_seg W (2 * c + 1) (by omega) (by omega)
    rw [hky c hc, show 256 + 4 * (2 * c) = 256 + 8 * c by omega] at e1
    rw [show 256 + 4 * (2 * c + 1) = 256 + 8 * c + 4 by omega] at e2
    have hnx : W.getD (2 * c + 1) 0 = staF r := by
      cases r with
      | nil => exact hch
      | cons c' r' => exact hch.1
    have hchr : Chn W r := by
      cases r with
      | nil => trivial
      | cons c' r' => exact hch.2
    have hltr : ∀ c ∈ r, c < xs.length := fun d hd => hlt d (List.mem_cons_of_mem _ hd)
    have hsr := staF_lt r (fun d hd => by have := hltr d hd; omega)
    rw [hnx] at e2
    have hxc : xs.getD c 0 < 4294967296 := hx _ (by rw [List.getD_eq_getElem?_getD, List.getElem?_eq_getElem hc]; simp)
    have hstep : chF (layB (putsL (intsL W))) (cSr key st) (putL (key : Int) 4) (f + 1) i (256 + 8 * c) = if xs.getD c 0 = key then .at_ i (256 + 8 * c) else chF (layB (putsL (intsL W))) (cSr key st) (putL (key : Int) 4) f (i + 1) (staF r) := by
      rw [chF_step _ _ _ _ _ _ (by omega), lay_len2, c_kyE _ _ _ (by omega), c_kyL _ _ _ _ (by omega), c_nxA _ _ _ (by omega), e1, beV_seg _ _ _ (by omega) e2, if_neg (by simp)]
      by_cases h : xs.getD c 0 = key
      · rw [if_pos (by rw [h]), if_pos h]
      · rw [if_neg (fun e => h (by have := putL4_inj (x := ((xs.getD c 0 : Nat) : Int)) (y := (key : Int)) (by omega) (by omega) e; omega)), if_neg h, if_neg (by simp [endZ, cSr, optB]), if_neg (by omega), Int.toNat_natCast]
    show (∃ i', chF _ _ _ (f + 1) i (256 + 8 * c) = _ ∧ _) ∨ (chF _ _ _ (f + 1) i (256 + 8 * c) = _ ∧ _)
    rw [hstep]
    unfold wanF
    by_cases h : xs.getD c 0 = key
    · rw [if_pos h, if_pos h]
      exact .inl ⟨i, rfl, by omega⟩
    · rw [if_neg h, if_neg h]
      exact link_run xs W key st hx hn hk hln hky r f (i + 1) hchr hltr (by simp at hf; omega)
theorem nodup_len {n : Nat} {C : List Nat} (h : C.Nodup) (hl : ∀ c ∈ C, c < n) : C.length ≤ n := by
  have := List.Nodup.length_le_of_subset h (l₂ := List.range n) (fun c hc => List.mem_range.2 (hl c hc))
  simpa using this
/-- what Linked tells of such a chain -/
theorem link_chn (xs W C : List Nat) (key : Nat) (h : Lk xs W C) (hx : ∀ x ∈ xs, x < 4294967296) (hn : xs.length ≤ 400) (hk : key < 4294967296) : chnV (layB (putsL (intsL W))) (cSr key (staF C)) = (wanF xs key C, 0) := by
  rw [c_chn]
  have hl := nodup_len h.nd h.lt
  rcases link_run xs W key (staF C) hx hn hk h.ln h.ky C 65536 0 h.chn h.lt (by omega) with ⟨i', q, _⟩ | ⟨q, q0⟩
  · rw [q]
    show ((if optB 0 4 then i' else wanF xs key C), (0 : Int)) = _
    rw [opt0.1]; rfl
  · rw [q, q0]
    show ((if optB 0 4 then 4294967295 else 0), (0 : Int)) = _
    rw [opt0.1]; rfl
/-- four bytes copied into an owned row -/
theorem step_copy4 {w : World} {ops : Array Oper} {o : Oper} {a : Act} {K : Act → World → Prop} {Q : Exit → Act → World → Prop} {E : Prop} (hgd : o.guard = none) (d s : Operand)
    (ho : o.op = .call { callee := .builtin .copy, args := #[d, s], argTypes := #[29, 29] }) (B g n cap off dl dc sc : Nat) (zs ds : List Int) (hown : w.ownsRow B 5 1 (.slice (some ⟨g, 0, none⟩) n cap) n (bytesV zs)) (ad : Addr)
    (hd : a.eval d = .slice (some ⟨g, off, none⟩) dl dc) (hs : a.eval s = .slice (some ad) 4 sc) (hds : ds.length = 4) (hm : 4 ≤ dl) (hsrc : ∀ j u, (bytesV ds)[j]? = some u → w.cell? (ad.add j) = some u) (hfit : off + 4 ≤ n)
    (h : ∀ w', w'.ownsRow B 5 1 (.slice (some ⟨g, 0, none⟩) n cap) n (bytesV (splice zs off ds)) → Fm w w' (fun k => k = g) (fun k => k = g) → K (a.put o.dst (goInt (4 : Nat))) w') :
    if Region.wanted o (yielded ops a.tmps) = true then Oper.wp Try.prog o a w K Q else E := by
  obtain ⟨cur, x1, x2, x3, x4, x5, hsp⟩ := own_splice hown
  have hbl : (bytesV ds).length = 4 := by simp [bytesV, hds]
  refine step_copyk 1 hgd d s 29 29 ho 5 Try.underlying29 info8s g off dl dc ad 4 sc hd hs cur 5 x1 (bytesV ds) 4 (by show min _ _ = _; omega) (by omega) hsrc (by omega) (bytesV_one _) (fun w' h1 h2 => h w' (hsp w' off ds (by omega) h1.out) ?_)
  have h2' := h2.out
  exact ⟨h2'.os, h2'.tape, h2'.output, h2'.size, fun k hk hn => h2'.block k hk (fun e => hn (by cases e; rfl)), fun k e => .inl e⟩
end Go.Proofs.Ytppgpfppmbdfhaa
