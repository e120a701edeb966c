/- Layer 13: rows of numbers that a call owns, and that grow. Layer 13: a chain that comes back to itself: lists. -/
import Derived.Test.YtppgpfppmbdfhaaF13E
import Derived.Laws.AppendOwnNone
namespace Go.Proofs.Ytppgpfppmbdfhaa
open Go.RowKit
set_option maxHeartbeats 1000000
set_option maxRecDepth 100000
set_option linter.unusedVariables false

theorem info32 : (Try.prog.info? 23).map (fun i => (i.zero, i.size, i.bytes)) = some (some (.int .u32 0), 1, 4) := by kernel_rfl
def u32V (xs : List Nat) : List Value := xs.map (fun x : Nat => Value.int .u32 (x : Int))
theorem u32V_snoc (xs : List Nat) (x : Nat) : u32V xs ++ [.int .u32 (x : Int)] = u32V (xs ++ [x]) := by simp [u32V]
theorem u32V_len (xs : List Nat) : (u32V xs).length = xs.length := by simp [u32V]
theorem u32V_app (xs ys : List Nat) : u32V xs ++ u32V ys = u32V (xs ++ ys) := by simp [u32V]
theorem u32V_one (xs : List Nat) : ∀ u ∈ u32V xs, u.oneCell' = true := by
  intro u hu
  obtain ⟨x, _, rfl⟩ := List.mem_map.1 hu
  rfl
theorem own32_slice {B : Nat} {w : World} {v : Value} {n : Nat} {xs : List Value} (h : w.ownsRow B 23 1 v n xs) : ∃ ao c, v = .slice ao n c := by
  rcases h.2 with ⟨h1, h2⟩ | ⟨g, cap, cur, h1, _⟩
  · exact ⟨none, 0, by rw [h1, h2]⟩
  · exact ⟨_, _, h1⟩
theorem VRow.news {w : World} {x : Addr} {m : Nat} {ds : List Nat} (h : VRow w (some x) m ds) (hm : 0 < m) : ∀ j u, (u32V ds)[j]? = some u → w.cell? (x.add j) = some u := by
  intro j u hj
  obtain ⟨hj2, rfl⟩ := List.getElem?_eq_some_iff.1 hj
  have hjm : j < m := by rw [← h.ln, ← u32V_len]; exact hj2
  obtain ⟨b, o, e, hc⟩ := h.cells j hjm
  cases e
  rw [plain_add, hc]
  have : j < ds.length := by rw [h.ln]; exact hjm
  simp [u32V, List.getD_eq_getElem?_getD, this]
theorem app32 (base n c m c0 : Nat) (da sa : Option Addr) (zs ds : List Nat) (w : World) (hown : w.ownsRow base 23 1 (.slice da n c) n (u32V zs)) (hv : VRow w sa m ds) (h0 : m = 0 → sa = none ∧ c0 = 0) (h63 : n + m ≤ 4294967296) (hbase : base ≤ w.heap.size) :
    ∃ a' c' w', (∀ ty, (Builtin.append_ #[22, 22] ty #[.slice da n c, .slice sa m c0]).run Try.prog w = .ok (.slice a' (n + m) c') w') ∧ w'.ownsRow base 23 1 (.slice a' (n + m) c') (n + m) (u32V (zs ++ ds)) ∧ Fm w w' (fun k => (Value.slice da n c).ownBlock = some k) (fun k => (Value.slice a' (n + m) c').ownBlock = some k) := by
  obtain ⟨i0, hi, hz0, hz1, hz2⟩ := info_parts info32
  have hl := hv.ln
  by_cases hm : m = 0
  · obtain ⟨rfl, rfl⟩ := h0 hm
    subst hm
    obtain rfl : ds = [] := List.eq_nil_of_length_eq_zero hl
    exact ⟨da, c, w, fun ty => run_append_owned_none (P := Try.prog) (w := w) base 22 ty 23 i0 1 Try.underlying22 hi _ n _ hown, by simpa using hown, Fm.same (Below.refl _ _)⟩
  · obtain ⟨x, rfl⟩ : ∃ x, sa = some x := by
      obtain ⟨b, o, e, _⟩ := hv.cells 0 (by omega)
      exact ⟨_, e⟩
    have key : ∀ ty, ∃ v' w', (Builtin.append_ #[22, 22] ty #[.slice da n c, .slice (some x) m c0]).run Try.prog w = .ok v' w' ∧ w'.ownsRow base 23 1 v' (n + m) (u32V zs ++ u32V ds) ∧ w.grownBy w' (Value.slice da n c).ownBlock ∧ (∀ k, v'.ownBlock = some k → (Value.slice da n c).ownBlock = some k ∨ w.heap.size ≤ k) := fun ty => run_append_at (P := Try.prog) (w := w) base 22 ty 23 i0 (.int .u32 0) 1 4 Try.underlying22 hi hz0 hz1 hz2 rfl (by decide) _ n _ hown x m c0 (u32V ds) (by rw [u32V_len]; omega) (hv.news (by omega)) (u32V_one ds) (by unfold maxLen; omega) (by omega) hbase (by omega)
    obtain ⟨v', w', hr1, h2, h3, h4⟩ := key 22
    rw [u32V_app] at h2
    obtain ⟨a', c', rfl⟩ := own32_slice h2
    exact ⟨a', c', w', fun ty => hr1, h2, fm_grownV h3 h4⟩
theorem wpList_app32 {w : World} {ops : Array Oper} {rest : List Oper} {o : Oper} {a : Act} {Q : Exit → Act → World → Prop} (hgd : o.guard = none) (s x : Operand)
    (ho : o.op = .call { callee := .builtin .append, args := #[s, x], argTypes := #[22, 22] })
    (base n c m c0 : Nat) (da sa : Option Addr) (zs ds : List Nat) (hs : a.eval s = .slice da n c) (hx : a.eval x = .slice sa m c0) (hown : w.ownsRow base 23 1 (.slice da n c) n (u32V zs)) (hv : VRow w sa m ds) (h0 : m = 0 → sa = none ∧ c0 = 0) (h63 : n + m ≤ 4294967296) (hbase : base ≤ w.heap.size)
    (h : ∀ a' c' w', w'.ownsRow base 23 1 (.slice a' (n + m) c') (n + m) (u32V (zs ++ ds)) → Hid (Fm w w' (fun k => (Value.slice da n c).ownBlock = some k) (fun k => (Value.slice a' (n + m) c').ownBlock = some k)) → wpList Try.prog ops Q rest (a.put o.dst (.slice a' (n + m) c')) w') : wpList Try.prog ops Q (o :: rest) a w := by
  refine wpList_plain hgd fun K hK => ?_
  obtain ⟨a', c', w', hrun, h1, h2⟩ := app32 base n c m c0 da sa zs ds w hown hv h0 h63 hbase
  unfold Oper.wp
  simp [execOp, ho, resolve, invoke, builtin, hs, hx, hrun, Result.andThen]
  exact hK _ _ (h a' c' w' h1 h2)
theorem vrow_new (w : World) (X : Nat) (h : X < 4294967296) : VRow (w.alloc (.cells #[.int .u32 (X : Int)] 23)) (some ⟨w.heap.size, 0, none⟩) 1 [X] := by
  refine ⟨rfl, fun x hx => by simp at hx; omega, fun i hi => ⟨w.heap.size, 0, rfl, ?_⟩⟩
  obtain rfl : i = 0 := by omega
  have hh := heap_alloc_new w (.cells #[.int .u32 (X : Int)] 23)
  unfold World.cell?
  simp only
  rw [hh]
  simp
theorem own32_v {B : Nat} {w : World} {ao : Option Addr} {n c : Nat} {xs : List Nat} (h : w.ownsRow B 23 1 (.slice ao n c) n (u32V xs)) (hx : ∀ x ∈ xs, x < 4294967296) : VRow w ao n xs := by
  have hl : xs.length = n := by have := h.1; rw [u32V_len] at this; omega
  refine ⟨hl, hx, fun i hi => ?_⟩
  rcases h.2 with ⟨h1, h2⟩ | ⟨g, cap, cur, h1, h2, h3, h4, h5, h6, h7⟩
  · omega
  · simp only [Value.slice.injEq] at h1
    refine ⟨g, 0, h1.1, ?_⟩
    unfold World.cell?
    simp only
    rw [h3]
    have h8 : (cur.toList.take (n * 1))[i]? = (u32V xs)[i]? := by rw [h7]
    rw [List.getElem?_take_of_lt (by omega)] at h8
    have hi2 : i < xs.length := by omega
    simp only [u32V, List.getElem?_map, List.getElem?_eq_getElem hi2, Option.map_some] at h8
    simp [List.getD_eq_getElem?_getD, hi2]
    simpa using h8
theorem wpList_snoc32 {wr : World} {ops : Array Oper} {rest : List Oper} {o : Oper} {a : Act} {Q : Exit → Act → World → Prop} (hgd : o.guard = none) (s x : Operand)
    (ho : o.op = .call { callee := .builtin .append, args := #[s, x], argTypes := #[22, 22] })
    (B n c X : Nat) (da : Option Addr) (xs : List Nat) (hs : a.eval s = .slice da n c) (hx : a.eval x = .slice (some ⟨wr.heap.size, 0, none⟩) 1 1) (hown : wr.ownsRow B 23 1 (.slice da n c) n (u32V xs)) (hX : X < 4294967296) (hB : B ≤ wr.heap.size) (hn : n ≤ 100000000)
    (h : ∀ a' c' w', w'.ownsRow B 23 1 (.slice a' (n + 1) c') (n + 1) (u32V (xs ++ [X])) → Below B wr w' → wpList Try.prog ops Q rest (a.put o.dst (.slice a' (n + 1) c')) w') : wpList Try.prog ops Q (o :: rest) a (wr.alloc (.cells #[.int .u32 (X : Int)] 23)) := by
  have hb : Below wr.heap.size wr (wr.alloc (.cells #[.int .u32 (X : Int)] 23)) := (Below.refl _ _).alloc (Nat.le_refl _) _
  refine wpList_app32 hgd s x ho B n c 1 1 da _ xs [X] hs hx (own_later hown hb) (vrow_new wr X hX) (fun h => by omega) (by omega) (Nat.le_trans hB hb.size) ?_
  intro a' c' w' ho' f
  refine h a' c' w' ho' ((hb.mono hB).trans (f.out.below (Nat.le_trans hB hb.size) (fun k e => (hown.lt k e).1)))
end Go.Proofs.Ytppgpfppmbdfhaa
namespace Go.Proofs.Ytppgpfppmbdfhaa
open Go.RowKit
set_option maxHeartbeats 1000000
set_option maxRecDepth 100000
set_option linter.unusedVariables false

/-- which one is next in the ring -/
def nxR (n bk j : Nat) : Nat := if j + 1 = n then bk % n else j + 1
theorem nxR_lt (n bk j : Nat) (h : j < n) : nxR n bk j < n := by
  unfold nxR
  split
  · exact Nat.mod_lt _ (by omega)
  · omega
/-- keys and next ones, one behind the other -/
def rgL (xs : List Nat) (bk : Nat) : Nat → List Nat
  | 0 => []
  | k + 1 => rgL xs bk k ++ [xs.getD k 0, 256 + 8 * nxR xs.length bk k]
theorem rgL_len (xs : List Nat) (bk : Nat) : ∀ k, (rgL xs bk k).length = 2 * k
  | 0 => rfl
  | k + 1 => by rw [rgL, List.length_append, rgL_len]; simp; omega
theorem rgL_key (xs : List Nat) (bk : Nat) : ∀ k i, i < k → (rgL xs bk k).getD (2 * i) 0 = xs.getD i 0
  | 0, i, h => by omega
  | k + 1, i, h => by
    rw [rgL, List.getD_eq_getElem?_getD]
    by_cases hi : i < k
    · rw [List.getElem?_append_left (by rw [rgL_len]; omega), ← List.getD_eq_getElem?_getD, rgL_key xs bk k i hi]
    · obtain rfl : i = k := by omega
      rw [List.getElem?_append_right (by rw [rgL_len]; omega), rgL_len, Nat.sub_self]
      rfl
theorem rgL_next (xs : List Nat) (bk : Nat) : ∀ k i, i < k → (rgL xs bk k).getD (2 * i + 1) 0 = 256 + 8 * nxR xs.length bk i
  | 0, i, h => by omega
  | k + 1, i, h => by
    rw [rgL, List.getD_eq_getElem?_getD]
    by_cases hi : i < k
    · rw [List.getElem?_append_left (by rw [rgL_len]; omega), ← List.getD_eq_getElem?_getD, rgL_next xs bk k i hi]
    · obtain rfl : i = k := by omega
      rw [List.getElem?_append_right (by rw [rgL_len]; omega), rgL_len, show 2 * i + 1 - 2 * i = 1 by omega]
      rfl
theorem rgL_bd (xs : List Nat) (bk : Nat) (hx : ∀ x ∈ xs, x < 4294967296) (hn : xs.length ≤ 100) : ∀ k, k ≤ xs.length → ∀ y ∈ rgL xs bk k, y < 4294967296
  | 0, _, y, h => by cases h
  | k + 1, hk, y, h => by
    rw [rgL] at h
    rcases List.mem_append.1 h with h | h
    · exact rgL_bd xs bk hx hn k (by omega) y h
    · simp only [List.mem_cons, List.not_mem_nil, or_false] at h
      rcases h with rfl | rfl
      · rw [List.getD_eq_getElem?_getD, List.getElem?_eq_getElem (by omega)]
        exact hx _ (by simp)
      · have := nxR_lt xs.length bk k (by omega); omega
theorem seg_getD (zs : List Int) (p n j : Nat) (h : j < n) : (seg zs p n).getD j 0 = zs.getD (p + j) 0 := by
  unfold seg
  rw [List.getD_eq_getElem?_getD, List.getElem?_take, if_pos h, List.getElem?_drop, ← List.getD_eq_getElem?_getD]
theorem beV_seg (zs : List Int) (p : Nat) (x : Int) (hx : 0 ≤ x ∧ x ≤ 4294967295) (h : seg zs p 4 = putL x 4) : beV zs p 4 = x := by
  rw [beV4]
  have h0 := seg_getD zs p 4 0 (by omega)
  have h1 := seg_getD zs p 4 1 (by omega)
  have h2 := seg_getD zs p 4 2 (by omega)
  have h3 := seg_getD zs p 4 3 (by omega)
  rw [h] at h0 h1 h2 h3
  rw [Nat.add_zero] at h0
  rw [← h0, ← h1, ← h2, ← h3]
  show 16777216 * (x / 16777216 % 256) + 65536 * (x / 65536 % 256) + 256 * (x / 256 % 256) + x % 256 = x
  omega
theorem word_seg (ys : List Nat) (i : Nat) (h : i < ys.length) (hn : ys.length ≤ 900) : seg (layB (putsL (intsL ys))) (256 + 4 * i) 4 = putL (ys.getD i 0 : Nat) 4 := by
  have hl : (intsL ys).length = ys.length := by simp [intsL]
  rw [lay_seg _ _ _ (by rw [puts_len, hl]; omega) (by rw [puts_len, hl]; omega), seg_puts _ _ (by omega)]
  congr 1
  simp [intsL, List.getD_eq_getElem?_getD, List.getElem?_eq_getElem h]
def cSr (key st : Nat) : Sr := ⟨key, 4, st, 0, 0, 0, 4, 0⟩
theorem c_kyE (key st a : Nat) (h : a + 4 ≤ 4096) : kyE (cSr key st) 4096 a = 0 := by
  show tkE 4096 (wr32 (a + 0)) 4 = 0
  rw [wr32_id _ (by omega)]
  unfold tkE
  rw [if_pos (.inr (by omega))]
theorem c_kyL (key st a : Nat) (bs : List Int) (h : a + 4 ≤ 4096) : kyL (cSr key st) bs a = seg bs a 4 := by
  show seg bs (wr32 (a + 0)) 4 = _
  rw [wr32_id _ (by omega)]; rfl
theorem c_nxA (key st a : Nat) (h : a + 4 ≤ 4096) : nxA (cSr key st) a = a + 4 := by
  show wr32 (a + 4) = _
  rw [wr32_id _ (by omega)]
theorem c_s4 (key st : Nat) : s4 (cSr key st) = cSr key st := by simp [s4, cSr, clr4]
theorem opt0 : optB 0 4 = false ∧ optB 0 1 = false := by decide
theorem ring_step (xs : List Nat) (bk key f i j : Nat) (hx : ∀ x ∈ xs, x < 4294967296) (hn : xs.length ≤ 100) (hj : j < xs.length) (hk : key < 4294967296) :
    chF (layB (putsL (intsL (rgL xs bk xs.length)))) (cSr key 256) (putL (key : Int) 4) (f + 1) i (256 + 8 * j) = if xs.getD j 0 = key then .at_ i (256 + 8 * j) else chF (layB (putsL (intsL (rgL xs bk xs.length)))) (cSr key 256) (putL (key : Int) 4) f (i + 1) (256 + 8 * nxR xs.length bk j) := by
  have hl := rgL_len xs bk xs.length
  have hnx := nxR_lt xs.length bk j hj
  have e1 := word_seg (rgL xs bk xs.length) (2 * j) (by omega) (by omega)
  have e2 := word_seg (rgL xs bk xs.length) (2 * j + 1) (by omega) (by omega)
  rw [rgL_key xs bk _ _ hj, show 256 + 4 * (2 * j) = 256 + 8 * j by omega] at e1
  rw [rgL_next xs bk _ _ hj, show 256 + 4 * (2 * j + 1) = 256 + 8 * j + 4 by omega] at e2
  have hxj : xs.getD j 0 < 4294967296 := hx _ (by rw [List.getD_eq_getElem?_getD, List.getElem?_eq_getElem hj]; simp)
  rw [chF_step _ _ _ _ _ _ (by omega), lay_len2, c_kyE _ _ _ (by omega), c_kyL _ _ _ _ (by omega), c_nxA _ _ _ (by omega), e1, beV_seg _ _ _ (by omega) e2, if_neg (by simp)]
  by_cases h : xs.getD j 0 = key
  · rw [if_pos (by rw [h]), if_pos h]
  · rw [if_neg (fun e => h (by have := putL4_inj (x := ((xs.getD j 0 : Nat) : Int)) (y := (key : Int)) (by omega) (by omega) e; omega)), if_neg h, if_neg (by simp [endZ, cSr, optB]), if_neg (by omega), Int.toNat_natCast]
theorem ring_none (xs : List Nat) (bk key : Nat) (hx : ∀ x ∈ xs, x < 4294967296) (hn : xs.length ≤ 100) (hk : key < 4294967296) (hno : key ∉ xs) : ∀ (f i j : Nat), j < xs.length →
    chF (layB (putsL (intsL (rgL xs bk xs.length)))) (cSr key 256) (putL (key : Int) 4) f i (256 + 8 * j) = .bad 131
  | 0, i, j, hj => chF_loop _ _ _ _ _ (by omega)
  | f + 1, i, j, hj => by
    rw [ring_step xs bk key f i j hx hn hj hk, if_neg (fun e => hno (by rw [← e, List.getD_eq_getElem?_getD, List.getElem?_eq_getElem hj]; simp))]
    exact ring_none xs bk key hx hn hk hno f (i + 1) _ (nxR_lt _ _ _ hj)
theorem ring_some (xs : List Nat) (bk key : Nat) (hx : ∀ x ∈ xs, x < 4294967296) (hn : xs.length ≤ 100) (hk : key < 4294967296) (t : Nat) (ht : t < xs.length) (he : xs.getD t 0 = key) : ∀ (e j f i : Nat), j + e = t → e < f →
    ∃ i' t', t' < xs.length ∧ chF (layB (putsL (intsL (rgL xs bk xs.length)))) (cSr key 256) (putL (key : Int) 4) f i (256 + 8 * j) = .at_ i' (256 + 8 * t')
  | e, j, 0, i, _, h => by omega
  | 0, j, f + 1, i, h1, _ => by
    obtain rfl : j = t := by omega
    exact ⟨i, j, ht, by rw [ring_step xs bk key f i j hx hn ht hk, if_pos he]⟩
  | e + 1, j, f + 1, i, h1, h2 => by
    rw [ring_step xs bk key f i j hx hn (by omega) hk]
    by_cases h : xs.getD j 0 = key
    · exact ⟨i, j, by omega, by rw [if_pos h]⟩
    · rw [if_neg h, show nxR xs.length bk j = j + 1 by unfold nxR; rw [if_neg (by omega)]]
      exact ring_some xs bk key hx hn hk t ht he e (j + 1) f (i + 1) (by omega) (by omega)
theorem c_chn (key st : Nat) (bs : List Int) : chnV bs (cSr key st) = tellR (cSr key st) (chF bs (cSr key st) (putL (key : Int) 4) 65536 0 st) := by
  unfold chnV
  rw [c_s4]
  have h1 : keyE (cSr key st) bs.length = 0 := by simp [keyE, mayK, cSr, opt0.2]
  have h2 : keyL (cSr key st) bs = putL (key : Int) 4 := by simp [keyL, cSr, opt0.2]
  rw [h1, if_neg (by simp), h2]
  rfl
theorem ring_no (xs : List Nat) (bk key : Nat) (hx : ∀ x ∈ xs, x < 4294967296) (h0 : 0 < xs.length) (hn : xs.length ≤ 100) (hk : key < 4294967296) (hno : key ∉ xs) : chnV (layB (putsL (intsL (rgL xs bk xs.length)))) (cSr key 256) = (0, 131) := by
  rw [c_chn]
  have := ring_none xs bk key hx hn hk hno 65536 0 0 h0
  rw [Nat.mul_zero, Nat.add_zero] at this
  rw [this]; rfl
theorem ring_yes (xs : List Nat) (bk key : Nat) (hx : ∀ x ∈ xs, x < 4294967296) (hn : xs.length ≤ 100) (hk : key < 4294967296) (hin : key ∈ xs) : ∃ t, t < 100 ∧ chnV (layB (putsL (intsL (rgL xs bk xs.length)))) (cSr key 256) = (256 + 8 * t, 0) := by
  obtain ⟨t, ht, he⟩ := List.getElem_of_mem hin
  have he2 : xs.getD t 0 = key := by rw [List.getD_eq_getElem?_getD, List.getElem?_eq_getElem ht]; exact he
  obtain ⟨i', t', h1, h2⟩ := ring_some xs bk key hx hn hk t ht he2 t 0 65536 0 (by omega) (by omega)
  rw [Nat.mul_zero, Nat.add_zero] at h2
  refine ⟨t', by omega, ?_⟩
  rw [c_chn, h2]
  show ((if optB 0 4 then i' else 256 + 8 * t'), (0 : Int)) = _
  rw [opt0.1]; rfl
theorem chn_c (m : Nat) (bs : List Int) (key st : Nat) (hk : key < 4294967296) (hs : st < 4294967296) (V : Nat × Int) (hV : chnV bs (cSr key st) = V) (w : World) (M : MRd w m bs) (k4 ks k0 : Int) (e4 : k4 = 4) (es : ks = st) (e0 : k0 = 0) :
    Calls Try.prog 16 #[.pointer (some ⟨m, 0, none⟩), .agg #[.int .u32 (key : Int), .int .u32 k4, .int .u32 ks, .int .u32 k0, .int .u32 k0, .int .u32 k0, .int .u32 k4, .int .u32 k0]] w fun e w' => e = .returned (.tuple #[.int .u32 (V.1 : Nat), .int .i64 V.2]) ∧ Below w.heap.size w w' := by
  subst e4 es e0 hV
  exact chn_any m bs (cSr key st) ⟨hk, by show 4 < _; omega, hs, by show 0 < _; omega, by show 0 < _; omega, by show 0 < _; omega, by show 4 < _; omega, by show 0 < _; omega⟩ w M
theorem vrow_two (w : World) (X Y : Nat) (h : X < 4294967296) (h2 : Y < 4294967296) : VRow (w.alloc (.cells #[.int .u32 (X : Int), .int .u32 (Y : Int)] 23)) (some ⟨w.heap.size, 0, none⟩) 2 [X, Y] := by
  refine ⟨rfl, fun x hx => by simp at hx; omega, fun i hi => ⟨w.heap.size, 0, rfl, ?_⟩⟩
  have hh := heap_alloc_new w (.cells #[.int .u32 (X : Int), .int .u32 (Y : Int)] 23)
  have hi2 : i = 0 ∨ i = 1 := by omega
  rcases hi2 with rfl | rfl <;> (unfold World.cell?; simp only; rw [hh]; rfl)
end Go.Proofs.Ytppgpfppmbdfhaa
