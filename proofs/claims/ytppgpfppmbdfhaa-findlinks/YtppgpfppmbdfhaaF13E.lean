/- Layer 13: rows of words, laid as bytes; what lies where in a memory with such bytes. Layer 13: a row of words is looked through one by one: lists. -/
import Derived.Test.YtppgpfppmbdfhaaF13D
namespace Go.Proofs.Ytppgpfppmbdfhaa
open Go.RowKit
set_option maxHeartbeats 1000000
set_option maxRecDepth 100000
set_option linter.unusedVariables false

/-- a slice of words that came in -/
structure VRow (w : World) (a : Option Addr) (len : Nat) (xs : List Nat) : Prop where
  ln : xs.length = len
  bd : ∀ x ∈ xs, x < 4294967296
  cells : ∀ i, i < len → ∃ b o, a = some ⟨b, o, none⟩ ∧ w.cell? ⟨b, o + i, none⟩ = some (.int .u32 (xs.getD i 0 : Nat))
theorem bounds_u32' {n : Int} (h : (Lit.int .u32 n).wf = true) : 0 ≤ n ∧ n ≤ 4294967295 := bounds_u32 h
theorem vrow_of {w : World} {a : Option Addr} {len cap : Nat} {zs : List Int} (h : IsRow .u32 w a len cap zs) : ∃ xs, VRow w a len xs ∧ len ≤ cap ∧ len ≤ 9223372036854775807 := by
  rcases h with ⟨rfl, rfl, rfl, rfl⟩ | ⟨x, rfl, hl, hm, hz, hcell, hwz⟩
  · exact ⟨[], ⟨rfl, (fun x hx => by cases hx), fun i hi => by omega⟩, Nat.le_refl _, by omega⟩
  · refine ⟨(zs.take len).map Int.toNat, ⟨by simp; omega, fun y hy => ?_, fun i hi => ?_⟩, hl, by unfold maxLen at hm; omega⟩
    · obtain ⟨z, hz1, rfl⟩ := List.mem_map.1 hy
      have := bounds_u32 (hwz z (List.mem_of_mem_take hz1))
      omega
    · have hc := hcell i (by omega)
      obtain ⟨b, o, spot⟩ := x
      have hspot : spot = none := by simpa [Addr.add] using World.cell?_spot (hcell 0 (by omega))
      subst hspot
      rw [plain_add] at hc
      refine ⟨b, o, rfl, ?_⟩
      rw [hc]
      have hb := bounds_u32 (hwz (zs.getD i 0) (by rw [List.getD_eq_getElem?_getD]; simp [show i < zs.length by omega]))
      have e : ((zs.take len).map Int.toNat).getD i 0 = (zs.getD i 0).toNat := by
        simp [List.getD_eq_getElem?_getD, hi, show i < zs.length by omega]
      rw [e]
      congr 2
      omega
theorem VRow.later {w w' : World} {a : Option Addr} {len : Nat} {xs : List Nat} (h : VRow w a len xs) (hb : Below w.heap.size w w') : VRow w' a len xs :=
  ⟨h.ln, h.bd, fun i hi => by obtain ⟨b, o, e, hc⟩ := h.cells i hi; exact ⟨b, o, e, cellLater hb hc⟩⟩
theorem own_reads_any {w : World} {B n : Nat} {v : Value} {zs : List Int} (h : w.ownsRow B 5 1 v n (bytesV zs)) : ∃ a c, v = .slice a n c ∧ Reads w a n c zs := by
  by_cases h0 : 0 < n
  · obtain ⟨g, c, rfl, _, _⟩ := owned_shape h h0
    exact ⟨_, _, rfl, own_reads h⟩
  · obtain rfl : n = 0 := by omega
    have hl : zs.length = 0 := by have := h.1; simpa [bytesV] using this
    obtain rfl := List.eq_nil_of_length_eq_zero hl
    rcases h.2 with ⟨h1, _⟩ | ⟨g, cap, cur, h1, _, _, h4, _⟩
    · exact ⟨none, 0, h1, rfl, Nat.le_refl _, .inl ⟨rfl, rfl, rfl⟩⟩
    · subst h1
      exact ⟨_, _, rfl, own_reads h⟩
def intsL (xs : List Nat) : List Int := xs.map (fun x : Nat => (x : Int))
theorem puts_len (l : List Int) : (putsL l).length = 4 * l.length := by
  induction l with
  | nil => rfl
  | cons x l ih =>
    have : putsL (x :: l) = putL x 4 ++ putsL l := by simp [putsL]
    rw [this, List.length_append, ih, show (putL x 4).length = 4 from rfl, List.length_cons]; omega
theorem puts_ok (l : List Int) : OkB (putsL l) := by
  intro c hc
  unfold putsL at hc
  obtain ⟨x, _, hx⟩ := List.mem_flatMap.1 hc
  exact putL_bd _ _ c hx
theorem words_any (a : Option Addr) (len cap : Nat) (xs : List Nat) (w : World) (h : VRow w a len xs) (hl : len ≤ 100000) :
    Calls Try.prog 11 #[.slice a len cap] w fun e w' => ∃ a' c', e = .returned (.slice a' (4 * len) c') ∧ Reads w' a' (4 * len) c' (putsL (intsL xs)) ∧ Below w.heap.size w w' := by
  obtain ⟨i0, hi, hz0, hz1, hz2⟩ := info_parts info8
  have hln := h.ln
  have HV := hidden h
  clear h
  go_enter Try.func11, Try.ntmps11
  go_upto_region 3 with fail
  go_loopw [3, 4] (fun v i w' => ∃ k : Nat, k ≤ len ∧ i = .int .i64 k ∧ Hid (w'.ownsRow w.heap.size 5 1 v (4 * k) (bytesV (putsL ((intsL xs).take k)))) ∧ Hid (Below w.heap.size w w')) (fun _ i _ => len - (intOf i).toNat)
  case atStart => exact ⟨0, by omega, rfl, hidden (World.ownsRow_nil _ _ _ _), hidden (Below.refl _ _)⟩
  case round =>
    obtain ⟨k, hk, rfl, hO, hB⟩ := hrel
    by_cases hlt : k < len
    · have l1 : (k : Int) < len := by omega
      have l2 : (0 : Int) ≤ k := by omega
      have e2 : ((k : Int)).toNat = k := by omega
      obtain ⟨b, o, ha, hc⟩ := (HV.out.later hB.out).cells k hlt
      subst ha
      have hx : xs.getD k 0 < 4294967296 := HV.out.bd _ (by rw [List.getD_eq_getElem?_getD, List.getElem?_eq_getElem (by omega)]; simp)
      have HPS := hidden (puts_snoc (intsL xs) k (xs.getD k 0 : Nat) (by simp [intsL, List.getElem?_eq_getElem (show k < xs.length by omega), List.getD_eq_getElem?_getD]))
      generalize xs.getD k 0 = X at *
      have hsz := hB.out.size
      have x0 : (0 : Int) ≤ (X : Int) := by omega
      have x1 : (X : Int) ≤ 4294967295 := by omega
      go_wp2_with (go_at_call 15; refine (rput_4 X _ x0 x1).mono ?_; rintro e w4 ⟨pv, rfl, hop, hb4⟩; refine Hid.out ?_)
      obtain ⟨gp, cp, rfl, hcp, hgp⟩ := owned_shape hop (by omega)
      have HN4 : Hid (∀ j u, (bytesV (putL X 4))[j]? = some u → w4.cell? ((⟨gp, 0, none⟩ : Addr).add j) = some u) := hidden ((own_bs hop).reads cp hcp).news
      have HO4 := hidden (own_later hO.out hb4)
      have HB4 := hidden (hB.out.trans (hb4.mono hsz))
      have hs4 := HB4.out.size
      clear hop hb4 hO hc
      refine hidden ?_
      go_wp2_with (at_builtin; refine wpList_append_own _ rfl (.tmp 11) (.tmp 16) 29 rfl w.heap.size 5 i0 (.int .u8 0) 1 1 Try.underlying29 hi hz0 hz1 hz2 rfl (by decide) _ _ _ rfl HO4.out ⟨gp, 0, none⟩ 4 cp (bytesV (putL X 4)) rfl (by simp [bytesV, putL]) HN4.out (bytesV_one _) (by unfold maxLen; omega) (by omega) (by omega) ?_; intro v6 w6 hown6 hgrow6 hiff6; clear hiff6; refine Hid.out ?_)
      have hbl6 : Below w.heap.size w w6 := HB4.out.grown hgrow6 hs4 (fun k hk => (HO4.out.lt k hk).1)
      rw [bytesV_append, ← HPS.out] at hown6
      have HO6 := hidden (show w6.ownsRow w.heap.size 5 1 v6 (4 * (k + 1)) (bytesV (putsL ((intsL xs).take (k + 1)))) from hown6)
      have HB6 := hidden hbl6
      clear hgrow6 hown6 hbl6 HN4 HO4 HB4
      refine hidden ?_
      go_wp2
      go_roundw
      case rel => exact ⟨k + 1, by omega, by go_num, HO6, HB6⟩
      case measure => simp [intOf]; omega
    · obtain rfl : k = len := by omega
      have l1 : ¬ ((k : Int) < k) := by omega
      have ho := hO.out
      rw [List.take_of_length_le (by simp [intsL]; omega)] at ho
      obtain ⟨a', c', rfl, hr⟩ := own_reads_any ho
      have HR := hidden hr
      clear ho hr hO
      go_wp2
      go_ret
      exact ⟨a', c', rfl, HR.out, hB.out⟩
theorem seg_mid (A B C : List Int) (p n : Nat) (h : p + n ≤ B.length) (k : Nat) (hk : k = A.length + p) : seg (A ++ (B ++ C)) k n = seg B p n := by
  subst hk
  unfold seg
  rw [← List.drop_drop, List.drop_left' rfl, List.drop_append_of_le_length (by omega), List.take_append_of_le_length (by simp; omega)]
theorem lay_seg (B : List Int) (p n : Nat) (h : p + n ≤ B.length) (hB : B.length ≤ 3840) : seg (layB B) (256 + p) n = seg B p n := by
  unfold layB
  rw [List.take_of_length_le hB]
  simp only [splice]
  exact seg_mid _ _ _ _ _ h _ (by have := baseF_len; simp; omega)
theorem seg_puts : ∀ (l : List Int) (i : Nat), i < l.length → seg (putsL l) (4 * i) 4 = putL (l.getD i 0) 4
  | [], i, h => by simp at h
  | x :: l, 0, _ => by
    have : putsL (x :: l) = putL x 4 ++ putsL l := by simp [putsL]
    rw [this]
    simp [seg, putL]
  | x :: l, i + 1, h => by
    have : putsL (x :: l) = putL x 4 ++ putsL l := by simp [putsL]
    have ih := seg_puts l i (by simpa using h)
    rw [this, show 4 * (i + 1) = (putL x 4).length + 4 * i by rw [show (putL x 4).length = 4 from rfl]; omega]
    unfold seg at *
    rw [← List.drop_drop, List.drop_left' rfl, ih]
    simp
theorem putL4_inj {x y : Int} (hx : 0 ≤ x ∧ x ≤ 4294967295) (hy : 0 ≤ y ∧ y ≤ 4294967295) (h : putL x 4 = putL y 4) : x = y := by
  simp [putL] at h
  omega
theorem putL4_zero {x : Int} (hx : 0 ≤ x ∧ x ≤ 4294967295) : allZ (putL x 4) = decide (x = 0) := by
  by_cases h : x = 0
  · subst h; rfl
  · rw [decide_eq_false h]
    simp [allZ, putL]
    omega
end Go.Proofs.Ytppgpfppmbdfhaa
namespace Go.Proofs.Ytppgpfppmbdfhaa
open Go.RowKit
set_option maxHeartbeats 1000000
set_option maxRecDepth 100000
set_option linter.unusedVariables false

/-- the first one that has the key, none behind a nought -/
def atF (zero : Bool) (key : Nat) : List Nat → Nat → Int
  | [], _ => -1
  | x :: xs, i => if x = key then (i : Int) else if zero = true ∧ x = 0 then -1 else atF zero key xs (i + 1)
def rsOf (a : Int) : Rs := if a < 0 then .no else .at_ a.toNat (256 + 4 * a.toNat)
def wSr (key n o : Nat) : Sr := ⟨key, 4, 256, 4, n, 0, 0, o⟩
theorem lay_len2 (B : List Int) : (layB B).length = 4096 := lay_len B 3840 (by omega)
theorem w_spA (key n o i : Nat) (h : i ≤ 900) : spA (wSr key n o) i = 256 + 4 * i := by
  show wr32 (256 + wr32 (i * 4)) = _
  rw [wr32_id (i * 4) (by omega), wr32_id _ (by omega)]; omega
theorem w_kyE (key n o i : Nat) (h : i < 900) : kyE (wSr key n o) 4096 (256 + 4 * i) = 0 := by
  show tkE 4096 (wr32 (256 + 4 * i + 0)) 4 = 0
  rw [wr32_id _ (by omega)]
  unfold tkE
  rw [if_pos (.inr (by omega))]
theorem w_kyL (xs : List Nat) (key n o i : Nat) (h : i < xs.length) (hn : xs.length ≤ 900) : kyL (wSr key n o) (layB (putsL (intsL xs))) (256 + 4 * i) = putL (xs.getD i 0 : Nat) 4 := by
  show seg (layB (putsL (intsL xs))) (wr32 (256 + 4 * i + 0)) 4 = _
  have hl : (intsL xs).length = xs.length := by simp [intsL]
  rw [wr32_id _ (by omega), Nat.add_zero, lay_seg _ _ _ (by rw [puts_len, hl]; omega) (by rw [puts_len, hl]; omega), seg_puts _ _ (by omega)]
  congr 1
  simp [intsL, List.getD_eq_getElem?_getD, List.getElem?_eq_getElem h]
theorem lin_words (xs : List Nat) (key o : Nat) (zero : Bool) (hx : ∀ x ∈ xs, x < 4294967296) (hk : key < 4294967296) (hn : xs.length ≤ 900) (ho : optB o 2 = zero) : ∀ (k i : Nat), i + k = xs.length → linF (layB (putsL (intsL xs))) (wSr key xs.length o) (putL (key : Int) 4) (xs.length - i) i = rsOf (atF zero key (xs.drop i) i)
  | 0, i, h => by
    rw [show xs.length - i = 0 by omega, List.drop_of_length_le (by omega)]
    rfl
  | k + 1, i, h => by
    have hi : i < xs.length := by omega
    have ih := lin_words xs key o zero hx hk hn ho k (i + 1) (by omega)
    have hd : xs.drop i = xs.getD i 0 :: xs.drop (i + 1) := by
      rw [List.drop_eq_getElem_cons hi, List.getD_eq_getElem?_getD, List.getElem?_eq_getElem hi]; rfl
    have hxi : xs.getD i 0 < 4294967296 := hx _ (by rw [List.getD_eq_getElem?_getD, List.getElem?_eq_getElem hi]; simp)
    rw [linF_step _ _ _ _ _ hi, w_spA _ _ _ _ (by omega), lay_len2, w_kyE _ _ _ _ (by omega), w_kyL _ _ _ _ _ hi hn, hd]
    generalize xs.getD i 0 = X at *
    rw [if_neg (by simp)]
    unfold atF
    by_cases h1 : X = key
    · subst h1
      rw [if_pos rfl, if_pos rfl]
      unfold rsOf
      rw [if_neg (by omega), Int.toNat_natCast]
    · rw [if_neg (fun e => h1 (by have := putL4_inj (x := (X : Int)) (y := (key : Int)) (by omega) (by omega) e; omega)), if_neg h1]
      unfold endZ
      rw [show (wSr key xs.length o).opt = o from rfl, ho, putL4_zero (by omega)]
      by_cases h2 : zero = true ∧ X = 0
      · obtain ⟨rfl, rfl⟩ := h2
        rw [if_pos (by simp), if_pos (by simp)]
        rfl
      · have h3 : ¬ ((zero && decide ((X : Int) = 0)) = true ∨ (wSr key xs.length o).size = 0) := by
          rintro (e | e)
          · simp at e; exact h2 e
          · exact absurd e (by show ¬ (4 = 0); omega)
        rw [if_neg h3, if_neg h2, ih]
theorem linV_words (xs : List Nat) (key o : Nat) (zero : Bool) (hx : ∀ x ∈ xs, x < 4294967296) (hk : key < 4294967296) (hn : xs.length ≤ 900) (ho : optB o 2 = zero) (h1 : optB o 1 = false) : linV (layB (putsL (intsL xs))) (wSr key xs.length o) = tellR (wSr key xs.length o) (rsOf (atF zero key xs 0)) := by
  have hkE : keyE (wSr key xs.length o) (layB (putsL (intsL xs))).length = 0 := by
    unfold keyE mayK
    rw [show (wSr key xs.length o).opt = o from rfl, h1]
    rfl
  have hkL : keyL (wSr key xs.length o) (layB (putsL (intsL xs))) = putL (key : Int) 4 := by
    unfold keyL
    rw [show (wSr key xs.length o).opt = o from rfl, h1]
    rfl
  unfold linV
  rw [hkE, if_neg (by simp), hkL]
  have := lin_words xs key o zero hx hk hn ho xs.length 0 (by omega)
  rw [Nat.sub_zero, List.drop_zero] at this
  rw [show (wSr key xs.length o).cnt = xs.length from rfl, this]
theorem linV_words2 (xs : List Nat) (key o n : Nat) (zero : Bool) (hx : ∀ x ∈ xs, x < 4294967296) (hk : key < 4294967296) (hn : xs.length ≤ 900) (ho : optB o 2 = zero) (h1 : optB o 1 = false) (hl : xs.length = n) : linV (layB (putsL (intsL xs))) (wSr key n o) = tellR (wSr key n o) (rsOf (atF zero key xs 0)) := by
  subst hl
  exact linV_words xs key o zero hx hk hn ho h1
theorem tell0 (key n : Nat) (o : Nat) (h : optB o 4 = false) (AT : Int) : tellR (wSr key n o) (rsOf AT) = ((if AT < 0 then 0 else 256 + 4 * AT.toNat), 0) := by
  unfold rsOf
  by_cases h0 : AT < 0
  · rw [if_pos h0, if_pos h0]
    show ((if optB o 4 then 4294967295 else 0), (0 : Int)) = _
    rw [h]; rfl
  · rw [if_neg h0, if_neg h0]
    show ((if optB o 4 then AT.toNat else 256 + 4 * AT.toNat), (0 : Int)) = _
    rw [h]; rfl
theorem tell4 (key n : Nat) (o : Nat) (h : optB o 4 = true) (AT : Int) : tellR (wSr key n o) (rsOf AT) = ((if AT < 0 then 4294967295 else AT.toNat), 0) := by
  unfold rsOf
  by_cases h0 : AT < 0
  · rw [if_pos h0, if_pos h0]
    show ((if optB o 4 then 4294967295 else 0), (0 : Int)) = _
    rw [h]; rfl
  · rw [if_neg h0, if_neg h0]
    show ((if optB o 4 then AT.toNat else 256 + 4 * AT.toNat), (0 : Int)) = _
    rw [h]; rfl
theorem lin_w (m : Nat) (bs : List Int) (key n o : Nat) (hk : key < 4294967296) (hn : n < 4294967296) (ho : o < 4294967296) (V : Nat × Int) (hV : linV bs (wSr key n o) = V) (w : World) (M : MRd w m bs) (k4 k256 k0 oo : Int) (e4 : k4 = 4) (e256 : k256 = 256) (e0 : k0 = 0) (eo : oo = o) :
    Calls Try.prog 12 #[.pointer (some ⟨m, 0, none⟩), .agg #[.int .u32 (key : Int), .int .u32 k4, .int .u32 k256, .int .u32 k4, .int .u32 (n : Int), .int .u32 k0, .int .u32 k0, .int .u32 oo]] w fun e w' => e = .returned (.tuple #[.int .u32 (V.1 : Nat), .int .i64 V.2]) ∧ Below w.heap.size w w' := by
  subst e4 e256 e0 eo hV
  exact lin_any m bs (wSr key n o) ⟨hk, by show 4 < _; omega, by show 256 < _; omega, by show 4 < _; omega, hn, by show 0 < _; omega, by show 0 < _; omega, ho⟩ w M
theorem atF_ge (zero : Bool) (key : Nat) : ∀ (xs : List Nat) (i : Nat), atF zero key xs i = -1 ∨ ((i : Int) ≤ atF zero key xs i ∧ atF zero key xs i < (i + xs.length : Nat))
  | [], i => .inl rfl
  | x :: xs, i => by
    unfold atF
    have ih := atF_ge zero key xs (i + 1)
    split
    · right; simp; omega
    · split
      · exact .inl rfl
      · rcases ih with h | h
        · exact .inl h
        · right; simp at h ⊢; omega
end Go.Proofs.Ytppgpfppmbdfhaa
