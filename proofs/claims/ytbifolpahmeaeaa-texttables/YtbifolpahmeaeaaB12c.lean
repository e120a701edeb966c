/- Rows of numbers that grow; contracts of package text's upToZero, chars. -/
import Derived.Test.YtbifolpahmeaeaaB12b
namespace Go.Proofs.Ytbifolpahmeaeaa
open Go.RowKit
set_option maxHeartbeats 1000000
set_option maxRecDepth 100000
set_option linter.unusedVariables false

theorem u32V_len (xs : List Nat) : (u32V xs).length = xs.length := by simp [u32V]
theorem u32V_app (xs ys : List Nat) : u32V xs ++ u32V ys = u32V (xs ++ ys) := by simp [u32V]
theorem u32V_one (xs : List Nat) : ∀ u ∈ u32V xs, u.oneCell' = true := by
  intro u hu
  obtain ⟨x, _, rfl⟩ := List.mem_map.1 hu
  rfl
theorem own32_slice {B : Nat} {w : World} {v : Value} {n : Nat} {xs : List Value} (h : w.ownsRow B 22 1 v n xs) : ∃ ao c, v = .slice ao n c := by
  rcases h.2 with ⟨h1, h2⟩ | ⟨g, cap, cur, h1, _⟩
  · exact ⟨none, 0, by rw [h1, h2]⟩
  · exact ⟨_, _, h1⟩
theorem VRow.news {w : World} {x : Addr} {m : Nat} {ds : List Nat} (h : VRow w (some x) m ds) (hm : 0 < m) : ∀ j u, (u32V ds)[j]? = some u → w.cell? (x.add j) = some u := by
  intro j u hj
  obtain ⟨hj2, rfl⟩ := List.getElem?_eq_some_iff.1 hj
  have hjm : j < m := by rw [← h.ln, ← u32V_len]; exact hj2
  obtain ⟨b, o, e, hc⟩ := h.cells j hjm
  cases e
  rw [plain_add, hc]
  have : j < ds.length := by rw [h.ln]; exact hjm
  simp [u32V, List.getD_eq_getElem?_getD, this]
/-- a row of numbers that is read, behind a row of numbers that is owned -/
theorem app32 (base n c m c0 : Nat) (da sa : Option Addr) (zs ds : List Nat) (w : World) (hown : w.ownsRow base 22 1 (.slice da n c) n (u32V zs)) (hv : VRow w sa m ds) (h0 : m = 0 → sa = none ∧ c0 = 0) (h63 : n + m ≤ 4294967296) (hbase : base ≤ w.heap.size) :
    ∃ a' c' w', (∀ ty, (Builtin.append_ #[23, 23] ty #[.slice da n c, .slice sa m c0]).run Try.prog w = .ok (.slice a' (n + m) c') w') ∧ w'.ownsRow base 22 1 (.slice a' (n + m) c') (n + m) (u32V (zs ++ ds)) ∧ Fm w w' (fun k => (Value.slice da n c).ownBlock = some k) (fun k => (Value.slice a' (n + m) c').ownBlock = some k) := by
  obtain ⟨i0, hi, hz0, hz1, hz2⟩ := info_parts info32
  have hl := hv.ln
  by_cases hm : m = 0
  · obtain ⟨rfl, rfl⟩ := h0 hm
    subst hm
    obtain rfl : ds = [] := List.eq_nil_of_length_eq_zero hl
    exact ⟨da, c, w, fun ty => run_append_owned_none (P := Try.prog) (w := w) base 23 ty 22 i0 1 Try.underlying23 hi _ n _ hown, by simpa using hown, Fm.same (Below.refl _ _)⟩
  · obtain ⟨x, rfl⟩ : ∃ x, sa = some x := by
      obtain ⟨b, o, e, _⟩ := hv.cells 0 (by omega)
      exact ⟨_, e⟩
    have key : ∀ ty, ∃ v' w', (Builtin.append_ #[23, 23] ty #[.slice da n c, .slice (some x) m c0]).run Try.prog w = .ok v' w' ∧ w'.ownsRow base 22 1 v' (n + m) (u32V zs ++ u32V ds) ∧ w.grownBy w' (Value.slice da n c).ownBlock ∧ (∀ k, v'.ownBlock = some k → (Value.slice da n c).ownBlock = some k ∨ w.heap.size ≤ k) := fun ty => run_append_at (P := Try.prog) (w := w) base 23 ty 22 i0 (.int .u32 0) 1 4 Try.underlying23 hi hz0 hz1 hz2 rfl (by decide) _ n _ hown x m c0 (u32V ds) (by rw [u32V_len]; omega) (hv.news (by omega)) (u32V_one ds) (by unfold maxLen; omega) (by omega) hbase (by omega)
    obtain ⟨v', w', hr1, h2, h3, h4⟩ := key 23
    rw [u32V_app] at h2
    obtain ⟨a', c', rfl⟩ := own32_slice h2
    exact ⟨a', c', w', fun ty => hr1, h2, fm_grown h3 h4⟩
theorem wpList_app32 {w : World} {ops : Array Oper} {rest : List Oper} {o : Oper} {a : Act} {Q : Exit → Act → World → Prop} (hgd : o.guard = none) (s x : Operand)
    (ho : o.op = .call { callee := .builtin .append, args := #[s, x], argTypes := #[23, 23] })
    (base n c m c0 : Nat) (da sa : Option Addr) (zs ds : List Nat) (hs : a.eval s = .slice da n c) (hx : a.eval x = .slice sa m c0) (hown : w.ownsRow base 22 1 (.slice da n c) n (u32V zs)) (hv : VRow w sa m ds) (h0 : m = 0 → sa = none ∧ c0 = 0) (h63 : n + m ≤ 4294967296) (hbase : base ≤ w.heap.size)
    (h : ∀ a' c' w', w'.ownsRow base 22 1 (.slice a' (n + m) c') (n + m) (u32V (zs ++ ds)) → Hid (Fm w w' (fun k => (Value.slice da n c).ownBlock = some k) (fun k => (Value.slice a' (n + m) c').ownBlock = some k)) → wpList Try.prog ops Q rest (a.put o.dst (.slice a' (n + m) c')) w') : wpList Try.prog ops Q (o :: rest) a w := by
  refine wpList_plain hgd fun K hK => ?_
  obtain ⟨a', c', w', hrun, h1, h2⟩ := app32 base n c m c0 da sa zs ds w hown hv h0 h63 hbase
  unfold Oper.wp
  simp [execOp, ho, resolve, invoke, builtin, hs, hx, hrun, Result.andThen]
  exact hK _ _ (h a' c' w' h1 h2)
theorem vrow_new (w : World) (X : Nat) (h : X < 4294967296) : VRow (w.alloc (.cells #[.int .u32 (X : Int)] 22)) (some ⟨w.heap.size, 0, none⟩) 1 [X] := by
  refine ⟨rfl, fun x hx => by simp at hx; omega, fun i hi => ⟨w.heap.size, 0, rfl, ?_⟩⟩
  obtain rfl : i = 0 := by omega
  have hh := heap_alloc_new w (.cells #[.int .u32 (X : Int)] 22)
  unfold World.cell?
  simp only
  rw [hh]
  simp
theorem own32_v {B : Nat} {w : World} {ao : Option Addr} {n c : Nat} {xs : List Nat} (h : w.ownsRow B 22 1 (.slice ao n c) n (u32V xs)) (hx : ∀ x ∈ xs, x < 4294967296) : VRow w ao n xs := by
  have hl : xs.length = n := by have := h.1; rw [u32V_len] at this; omega
  refine ⟨hl, hx, fun i hi => ?_⟩
  rcases h.2 with ⟨h1, h2⟩ | ⟨g, cap, cur, h1, h2, h3, h4, h5, h6, h7⟩
  · omega
  · simp only [Value.slice.injEq] at h1
    refine ⟨g, 0, h1.1, ?_⟩
    unfold World.cell?
    simp only
    rw [h3]
    have h8 : (cur.toList.take (n * 1))[i]? = (u32V xs)[i]? := by rw [h7]
    rw [List.getElem?_take_of_lt (by omega)] at h8
    have hi2 : i < xs.length := by omega
    simp only [u32V, List.getElem?_map, List.getElem?_eq_getElem hi2, Option.map_some] at h8
    simp [List.getD_eq_getElem?_getD, hi2]
    simpa using h8
/-- a number more behind a row that is owned -/
theorem wpList_snoc32 {wr : World} {ops : Array Oper} {rest : List Oper} {o : Oper} {a : Act} {Q : Exit → Act → World → Prop} (hgd : o.guard = none) (s x : Operand)
    (ho : o.op = .call { callee := .builtin .append, args := #[s, x], argTypes := #[23, 23] })
    (B n c X : Nat) (da : Option Addr) (xs : List Nat) (hs : a.eval s = .slice da n c) (hx : a.eval x = .slice (some ⟨wr.heap.size, 0, none⟩) 1 1) (hown : wr.ownsRow B 22 1 (.slice da n c) n (u32V xs)) (hX : X < 4294967296) (hB : B ≤ wr.heap.size) (hn : n ≤ 100000000)
    (h : ∀ a' c' w', w'.ownsRow B 22 1 (.slice a' (n + 1) c') (n + 1) (u32V (xs ++ [X])) → Below B wr w' → wpList Try.prog ops Q rest (a.put o.dst (.slice a' (n + 1) c')) w') : wpList Try.prog ops Q (o :: rest) a (wr.alloc (.cells #[.int .u32 (X : Int)] 22)) := by
  have hb : Below wr.heap.size wr (wr.alloc (.cells #[.int .u32 (X : Int)] 22)) := (Below.refl _ _).alloc (Nat.le_refl _) _
  refine wpList_app32 hgd s x ho B n c 1 1 da _ xs [X] hs hx (own_later hown hb) (vrow_new wr X hX) (fun h => by omega) (by omega) (Nat.le_trans hB hb.size) ?_
  intro a' c' w' ho' f
  refine h a' c' w' ho' ((hb.mono hB).trans (f.out.below (Nat.le_trans hB hb.size) (fun k e => (hown.lt k e).1)))
theorem FR.low {R : Nat} {w wr w2 : World} (f : FR R w wr) (hb : Below w.heap.size wr w2) : FR R w w2 :=
  ⟨hb.os.trans f.os, hb.tape.trans f.tape, hb.output.trans f.output, Nat.le_trans f.size hb.size, fun k hk hn => (hb.block k hk).trans (f.block k hk hn), fun k hk => .inl hk⟩
theorem TBox.low {w w' : World} {R B : Nat} {a : Option Addr} {n c p e : Nat} (h : TBox w R a n c p e) (hb : Below B w w') (hR : R < B) : TBox w' R a n c p e := (hb.block _ hR).trans h
theorem tkE_ok {zs : List Int} {p n : Nat} (h : p + n ≤ zs.length) : tkE zs p 0 n = 0 := by unfold tkE; rw [if_pos rfl, if_pos h]
theorem tkE_no {zs : List Int} {p n : Nat} (h : ¬ p + n ≤ zs.length) : tkE zs p 0 n = 90 := by unfold tkE; rw [if_pos rfl, if_neg h]
theorem tkV_ok {zs : List Int} {p n : Nat} (h : p + n ≤ zs.length) : tkV zs p 0 n = nuV zs p n := by unfold tkV; rw [if_pos (tkE_ok h)]
theorem tkV_no {zs : List Int} {p n : Nat} (h : ¬ p + n ≤ zs.length) : tkV zs p 0 n = 0 := by unfold tkV; rw [tkE_no h, if_neg (by decide)]
theorem tkP_ok {zs : List Int} {p n : Nat} (h : p + n ≤ zs.length) : tkP zs p 0 n = p + n := by unfold tkP; rw [if_pos (tkE_ok h)]
/-- the numbers from a place on, up to one that is 0; the error -/
def upz (zs : List Int) (k : Nat) : Nat → Nat → List Nat × Nat
  | 0, _ => ([], 90)
  | f + 1, p => if p + k ≤ zs.length then (if nuV zs p k = 0 then ([], 0) else (nuV zs p k :: (upz zs k f (p + k)).1, (upz zs k f (p + k)).2)) else ([], 90)
theorem upz_bd (zs : List Int) (hb : OkB zs) (k : Nat) (hk : k = 1 ∨ k = 4) : ∀ f p, ∀ x ∈ (upz zs k f p).1, x < 4294967296
  | 0, _, x, hx => by simp [upz] at hx
  | f + 1, p, x, hx => by
    unfold upz at hx
    split at hx
    · split at hx
      · simp at hx
      · rcases List.mem_cons.1 hx with rfl | hx
        · exact (nuV_bd zs hb p k hk).2
        · exact upz_bd zs hb k hk f _ x hx
    · simp at hx
theorem tup_any (R : Nat) (a : Option Addr) (n c p k : Nat) (zs : List Int) (w : World) (hbx : TBox w R a n c p 0) (hm : Mem w a n c zs) (hR : 0 < n → ∀ x, a = some x → x.block ≠ R) (hk : k = 1 ∨ k = 4) (hp : p ≤ n) :
    Calls Try.prog 41 #[.pointer (some ⟨R, 0, none⟩), .int .i64 k] w fun r w' => ∃ a' c' p', r = .returned (.slice a' (upz zs k (n + 1) p).1.length c') ∧ w'.ownsRow w.heap.size 22 1 (.slice a' (upz zs k (n + 1) p).1.length c') (upz zs k (n + 1) p).1.length (u32V (upz zs k (n + 1) p).1) ∧ TBox w' R a n c p' (upz zs k (n + 1) p).2 ∧ FR R w w' ∧ ((upz zs k (n + 1) p).1.length = 0 → a' = none ∧ c' = 0) := by
  have hl := hm.len
  have hle := hm.le
  have hRl := hbx.lt
  have HT0 := hidden (ttake_any R a n c p 0 k zs w hbx hm hk (by omega))
  have HT : Hid (∀ wx q, FR R w wx → TBox wx R a n c q 0 → q ≤ n → Calls Try.prog 34 #[.pointer (some ⟨R, 0, none⟩), .int .i64 k] wx fun r w' => r = .returned (.int .u32 (tkV zs q 0 k)) ∧ TBox w' R a n c (tkP zs q 0 k) (tkE zs q 0 k) ∧ FR R wx w') := fun wx q f hx hq =>
    ttake_any R a n c q 0 k zs wx hx (hm.fr hR f) hk (by omega)
  have HOK := hidden hm.ok
  obtain ⟨U, hU⟩ : ∃ U, U = upz zs k (n + 1) p := ⟨_, rfl⟩
  rw [← hU]
  have HU := hidden hU
  clear hU hm hbx
  go_enter Try.func41, Try.ntmps41
  go_wp2_with (first | (go_at_call 34; refine HT0.out.mono ?_; rintro r w1 ⟨rfl, hx1, hf1⟩; have HX1 := hidden hx1; have HF1 := hidden hf1; clear hx1 hf1))
  go_loopw [5, 6] (fun v x wr => ∃ (f q : Nat) (xs : List Nat) (a' : Option Addr) (ql c' V P E : Nat), q ≤ n ∧ v = .slice a' ql c' ∧ x = .int .u32 V ∧ ql ≤ n ∧ Hid (ql = xs.length ∧ ql + p ≤ q ∧ V = tkV zs q 0 k ∧ P = tkP zs q 0 k ∧ E = tkE zs q 0 k ∧ n < q + f ∧ U = (xs ++ (upz zs k f q).1, (upz zs k f q).2)) ∧ Hid (ql = 0 → a' = none ∧ c' = 0) ∧ Hid (wr.ownsRow w.heap.size 22 1 (.slice a' ql c') ql (u32V xs)) ∧ Hid (TBox wr R a n c P E) ∧ Hid (FR R w wr)) (fun v _ _ => n - (match v with | .slice _ l _ => l | _ => 0))
  case atStart => exact ⟨n + 1, p, [], none, 0, 0, _, _, _, hp, rfl, rfl, by omega, ⟨rfl, by omega, rfl, rfl, rfl, by omega, by rw [HU.out]; simp⟩, (fun _ => ⟨rfl, rfl⟩), World.ownsRow_nil _ _ _ _, HX1, HF1⟩
  case round =>
    obtain ⟨f, q, xs, a', ql, c', V, P, E, hq, rfl, rfl, hql, HI, HZ, HO, HX, HF⟩ := hrel
    clear HX1 HF1
    by_cases hV : V = 0
    · subst hV
      have HE : Hid (∃ p', Hid (TBox wr R a n c p' U.2) ∧ U.1 = xs) := by
        obtain ⟨i1, i2, i3, i4, i5, i6, i7⟩ := HI.out
        have key : upz zs k f q = ([], tkE zs q 0 k) := by
          cases f with
          | zero => rw [tkE_no (by omega)]; rfl
          | succ f =>
            simp only [upz]
            by_cases h : q + k ≤ zs.length
            · rw [tkV_ok h] at i3
              rw [if_pos h, if_pos i3.symm, tkE_ok h]
            · rw [if_neg h, tkE_no h]
        rw [key] at i7
        exact ⟨P, by rw [i7, ← i5]; exact HX, by rw [i7]; simp⟩
      go_wp2
      go_ret
      obtain ⟨p', h1, h2⟩ := HE.out
      have hx := HI.out.1
      rw [h2]
      rw [hx] at HO HZ ⊢
      exact ⟨a', c', p', rfl, HO.out, h1.out, HF.out, HZ.out⟩
    · have hV2 : ((V : Int) == 0) = false := by simp; omega
      have hV3 : ¬ (V : Int) = 0 := by omega
      have HE : Hid (q + k ≤ n ∧ V = nuV zs q k ∧ P = q + k ∧ E = 0 ∧ V < 4294967296) := by
        obtain ⟨i1, i2, i3, i4, i5, i6, i7⟩ := HI.out
        have h2 : q + k ≤ zs.length := by
          by_cases h : q + k ≤ zs.length
          · exact h
          · exact absurd (i3.trans (tkV_no h)) hV
        rw [tkV_ok h2] at i3
        exact ⟨by omega, i3, by rw [i4, tkP_ok h2], by rw [i5, tkE_ok h2], by rw [i3]; exact (nuV_bd zs HOK.out q k hk).2⟩
      have hqk := HE.out.1
      have hVb := HE.out.2.2.2.2
      have HB : Hid (w.heap.size ≤ wr.heap.size) := HF.out.size
      have HNX : Hid (∀ a2 c2 w2, w2.ownsRow w.heap.size 22 1 (.slice a2 (ql + 1) c2) (ql + 1) (u32V (xs ++ [V])) → Below w.heap.size wr w2 → Calls Try.prog 34 #[.pointer (some ⟨R, 0, none⟩), .int .i64 k] w2 fun r w' => r = .returned (.int .u32 (tkV zs (q + k) 0 k)) ∧ Hid (TBox w' R a n c (tkP zs (q + k) 0 k) (tkE zs (q + k) 0 k)) ∧ Hid (FR R w w') ∧ Hid (w'.ownsRow w.heap.size 22 1 (.slice a2 (ql + 1) c2) (ql + 1) (u32V (xs ++ [V])))) := fun a2 c2 w2 ho hb => by
        have hE := HE.out
        have hx := HX.out
        rw [hE.2.2.1, hE.2.2.2.1] at hx
        have hf := HF.out.low hb
        have hx2 := hx.low hb hRl
        refine (HT.out w2 (q + k) hf hx2 (by omega)).mono ?_
        rintro r w' ⟨h1, h2, h3⟩
        exact ⟨h1, h2, hf.trans h3, own8_fm h3 ho (fun j e1 e2 => by have := (ho.lt j e1).1; omega)⟩
      have HI2 : Hid (∃ f', n < q + k + f' ∧ U = ((xs ++ [V]) ++ (upz zs k f' (q + k)).1, (upz zs k f' (q + k)).2)) := by
        obtain ⟨i1, i2, i3, i4, i5, i6, i7⟩ := HI.out
        have hE := HE.out
        cases f with
        | zero => omega
        | succ f =>
          refine ⟨f, by omega, ?_⟩
          rw [i7]
          simp only [upz]
          rw [if_pos (by omega), if_neg (by rw [← hE.2.1]; exact hV), ← hE.2.1]
          simp
      have hql2 : ql + 1 ≤ n := by have := HI.out.2.1; omega
      go_wp2_with (first | (at_builtin; refine wpList_snoc32 (wr := wr) rfl _ _ rfl w.heap.size ql c' V a' xs rfl rfl HO.out hVb HB.out (by omega) ?_; intro a2 c2 w2 ho2 hb2; have HN2 := hidden (HNX.out _ _ _ ho2 hb2); clear ho2 hb2) | (go_at_call 34; refine HN2.out.mono ?_; rintro r w3 ⟨rfl, HX3, HF3, HO3⟩))
      go_roundw
      case rel =>
        obtain ⟨f', h1, h2⟩ := HI2.out
        exact ⟨f', q + k, xs ++ [V], a2, ql + 1, c2, _, _, _, hqk, rfl, rfl, hql2, ⟨by have := HI.out.1; simp; omega, by have := HI.out.2.1; omega, rfl, rfl, rfl, h1, h2⟩, (fun h => by omega), HO3, HX3, HF3⟩
      case measure => simp; omega
/-- a piece as it lies -/
def PBox (w : World) (q : Nat) (v0 v1 v2 v3 : Value) : Prop := w.heap[q]? = some (.cells #[v0, v1, v2, v3] 44 (0, 0))
theorem pb_box {w : World} {q : Nat} {v0 v1 v2 v3 : Value} (h : PBox w q v0 v1 v2 v3) : w.cell? ⟨q, 0, none⟩ = some v0 ∧ w.cell? ⟨q, 1, none⟩ = some v1 ∧ w.cell? ⟨q, 2, none⟩ = some v2 ∧ w.cell? ⟨q, 3, none⟩ = some v3 ∧ (∀ j, w.frozen? ⟨q, j, none⟩ = false) := by
  have h' : w.heap[q]? = _ := h
  simp [World.cell?, World.frozen?, h']
theorem pb_new (w : World) (v0 v1 v2 v3 : Value) : PBox (w.alloc (.cells #[v0, v1, v2, v3] 44)) w.heap.size v0 v1 v2 v3 := heap_alloc_new _ _
theorem PBox.lt {w : World} {q : Nat} {v0 v1 v2 v3 : Value} (h : PBox w q v0 v1 v2 v3) : q < w.heap.size := (Array.getElem?_eq_some_iff.1 h).1
theorem PBox.fr {w w' : World} {q R : Nat} {v0 v1 v2 v3 : Value} (h : PBox w q v0 v1 v2 v3) (f : FR R w w') (hq : q ≠ R) : PBox w' q v0 v1 v2 v3 := (f.block q h.lt hq).trans h
theorem PBox.later {w w' : World} {q : Nat} {v0 v1 v2 v3 : Value} (h : PBox w q v0 v1 v2 v3) (hb : Below w.heap.size w w') : PBox w' q v0 v1 v2 v3 := (hb.block q h.lt).trans h
/-- a place as it lies -/
def ABox (w : World) (q : Nat) (k : Int) (ad bit : Nat) : Prop := w.heap[q]? = some (.cells #[.int .i64 k, .int .u32 ad, .int .u32 bit] 46 (0, 0))
theorem ab_box {w : World} {q : Nat} {k : Int} {ad bit : Nat} (h : ABox w q k ad bit) : w.cell? ⟨q, 0, none⟩ = some (.int .i64 k) ∧ w.cell? ⟨q, 1, none⟩ = some (.int .u32 ad) ∧ w.cell? ⟨q, 2, none⟩ = some (.int .u32 bit) ∧ (∀ j, w.frozen? ⟨q, j, none⟩ = false) := by
  have h' : w.heap[q]? = _ := h
  simp [World.cell?, World.frozen?, h']
theorem ab_new (w : World) (k : Int) (ad bit : Nat) : ABox (w.alloc (.cells #[.int .i64 k, .int .u32 ad, .int .u32 bit] 46)) w.heap.size k ad bit := heap_alloc_new _ _
theorem ABox.lt {w : World} {q : Nat} {k : Int} {ad bit : Nat} (h : ABox w q k ad bit) : q < w.heap.size := (Array.getElem?_eq_some_iff.1 h).1
theorem ABox.fr {w w' : World} {q R : Nat} {k : Int} {ad bit : Nat} (h : ABox w q k ad bit) (f : FR R w w') (hq : q ≠ R) : ABox w' q k ad bit := (f.block q h.lt hq).trans h
theorem ABox.later {w w' : World} {q : Nat} {k : Int} {ad bit : Nat} (h : ABox w q k ad bit) (hb : Below w.heap.size w w') : ABox w' q k ad bit := (hb.block q h.lt).trans h
theorem tb_new (w : World) (a : Option Addr) (n c p e : Nat) : TBox (w.alloc (.cells #[.slice a n c, .int .u32 p, .int .i64 e] 77)) w.heap.size a n c p e := heap_alloc_new _ _
theorem tchars_any (a : Option Addr) (n c : Nat) (w : World) :
    Calls Try.prog 35 #[.slice a n c] w fun r w' => r = .returned (.agg #[.int .i64 2, .slice a n c, .int .u32 0, .slice none 0 0]) ∧ Below w.heap.size w w' := by
  go_enter Try.func35, Try.ntmps35
  go_wp2
  obtain ⟨c0, c1, c2, c3, _⟩ := pb_box (pb_new w (.int .i64 2) (.slice a n c) (.int .u32 0) (.slice none 0 0))
  exact bodyPost_ret (v := .agg #[.int .i64 2, .slice a n c, .int .u32 0, .slice none 0 0]) (by simp [results, Try.results35, go_sem, c0, c1, c2, c3]) rfl ⟨rfl, (Below.refl _ _).alloc (Nat.le_refl _) _⟩
end Go.Proofs.Ytbifolpahmeaeaa
