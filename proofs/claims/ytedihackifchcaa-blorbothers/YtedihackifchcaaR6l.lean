/- A container with an entry more (lists alone), and the document's Places. -/
import Derived.Test.YtedihackifchcaaR6j
import Derived.Laws.CopyOwn
namespace Go.Proofs.Ytedihackifchcaa
open Go.RowKit
set_option maxHeartbeats 1000000
set_option maxRecDepth 100000
set_option linter.unusedVariables false

abbrev ZZZZ : ByteArray := ⟨#[122, 122, 122, 122]⟩
abbrev MORE : ByteArray := ⟨#[109, 111, 114, 101]⟩
theorem id_zzzz : IsId ZZZZ := ⟨rfl, by decide⟩
theorem id_more : IsId MORE := ⟨rfl, by decide⟩
/-- an index' bytes, by its entries -/
def idxE (qs : List (Sr × Int)) : List Int := putL qs.length 4 ++ (qs.map entS).flatten
theorem idxE_S (ss : List Sr) (pl : List Int) (h : pl.length = ss.length) : idxS ss pl = idxE (ss.zip pl) := by
  unfold idxS idxE
  rw [List.length_zip, h, Nat.min_self]
theorem ents_len (A : List (Sr × Int)) (hA : ∀ q ∈ A, q.1.1.size = 4) : ((A.map entS).flatten).length = 12 * A.length := by
  rw [flat4 _ (fun x hx => ?_), List.length_map]
  obtain ⟨q, hq, rfl⟩ := List.mem_map.1 hx
  unfold entS
  rw [List.length_append, List.length_append, putL_len4, putL_len4, idI_len, hA q hq]
theorem idxE_len (A : List (Sr × Int)) (hA : ∀ q ∈ A, q.1.1.size = 4) : (idxE A).length = 4 + 12 * A.length := by
  unfold idxE
  rw [List.length_append, putL_len4, ents_len A hA]
/-- what stands ahead of an entry's place -/
def preE (N : Nat) (A : List (Sr × Int)) (s : Sr) : List Int := putL N 4 ++ ((A.map entS).flatten ++ (idI s.1 ++ putL s.2.1 4))
theorem preE_len (N : Nat) (A : List (Sr × Int)) (s : Sr) (hA : ∀ q ∈ A, q.1.1.size = 4) (hs : s.1.size = 4) : (preE N A s).length = 12 + 12 * A.length := by
  unfold preE
  rw [List.length_append, List.length_append, List.length_append, putL_len4, putL_len4, idI_len, hs, ents_len A hA]
  omega
theorem idxE_split (A B : List (Sr × Int)) (s : Sr) (p : Int) : idxE (A ++ (s, p) :: B) = preE (A ++ (s, p) :: B).length A s ++ (putL p 4 ++ (B.map entS).flatten) := by
  unfold idxE preE
  simp only [List.map_append, List.map_cons, List.flatten_append, List.flatten_cons, entS, List.append_assoc]
theorem splice_mid {α : Type} (X Y Y' Z : List α) (h : Y.length = Y'.length) : splice (X ++ (Y ++ Z)) X.length Y' = X ++ (Y' ++ Z) := by
  unfold splice
  rw [List.take_left' rfl, ← List.drop_drop, List.drop_left' rfl, ← h, List.drop_left' rfl]
theorem idxE_splice (A B : List (Sr × Int)) (s : Sr) (p v : Int) (hA : ∀ q ∈ A, q.1.1.size = 4) (hs : s.1.size = 4) : splice (idxE (A ++ (s, p) :: B)) (12 + 12 * A.length) (putL v 4) = idxE (A ++ (s, v) :: B) := by
  rw [idxE_split, idxE_split, ← preE_len (A ++ (s, p) :: B).length A s hA hs, splice_mid _ _ _ _ (by rw [putL_len4, putL_len4])]
  congr 2
  simp
theorem idxE_be (A B : List (Sr × Int)) (s : Sr) (p : Int) (hA : ∀ q ∈ A, q.1.1.size = 4) (hs : s.1.size = 4) (h0 : 0 ≤ p) (h1 : p < 4294967296) : beV (idxE (A ++ (s, p) :: B)) (12 + 12 * A.length) 4 = p := by
  rw [idxE_split, beV_drop, List.drop_left' (preE_len _ A s hA hs)]
  exact beV_put _ _ h0 h1
/-- an entry's place, twelve bytes later -/
def up (q : Sr × Int) : Sr × Int := (q.1, q.2 + 12)
def ups (Q : List (Sr × Int)) (k : Nat) : List (Sr × Int) := (Q.take k).map up ++ Q.drop k
theorem ups_zero (Q : List (Sr × Int)) : ups Q 0 = Q := by simp [ups]
theorem ups_all (Q : List (Sr × Int)) : ups Q Q.length = Q.map up := by simp [ups]
theorem ups_len (Q : List (Sr × Int)) (k : Nat) : (ups Q k).length = Q.length := by simp [ups]; omega
theorem ups_at (Q : List (Sr × Int)) (k : Nat) (hk : k < Q.length) : ups Q k = (Q.take k).map up ++ (Q[k].1, Q[k].2) :: Q.drop (k + 1) := by
  unfold ups
  rw [List.drop_eq_getElem_cons hk]
theorem ups_next (Q : List (Sr × Int)) (k : Nat) (hk : k < Q.length) : ups Q (k + 1) = (Q.take k).map up ++ (Q[k].1, Q[k].2 + 12) :: Q.drop (k + 1) := by
  unfold ups
  rw [List.take_succ_eq_append_getElem hk, List.map_append, List.append_assoc]
  rfl
theorem ups_four (Q : List (Sr × Int)) (h : ∀ q ∈ Q, q.1.1.size = 4) (k : Nat) : ∀ q ∈ (Q.take k).map up, q.1.1.size = 4 := fun q hq => by
  obtain ⟨r, hr, rfl⟩ := List.mem_map.1 hq
  exact h r (List.mem_of_mem_take hr)
theorem ups_step (Q : List (Sr × Int)) (h : ∀ q ∈ Q, q.1.1.size = 4) (k : Nat) (hk : k < Q.length) : splice (idxE (ups Q k)) (12 + 12 * k) (putL (Q[k].2 + 12) 4) = idxE (ups Q (k + 1)) := by
  have hl : ((Q.take k).map up).length = k := by simp; omega
  rw [ups_at Q k hk, ups_next Q k hk]
  have := idxE_splice ((Q.take k).map up) (Q.drop (k + 1)) Q[k].1 Q[k].2 (Q[k].2 + 12) (ups_four Q h k) (h _ (List.getElem_mem hk))
  rw [hl] at this
  exact this
theorem ups_be (Q : List (Sr × Int)) (h : ∀ q ∈ Q, q.1.1.size = 4) (k : Nat) (hk : k < Q.length) (h0 : 0 ≤ Q[k].2) (h1 : Q[k].2 < 4294967296) : beV (idxE (ups Q k)) (12 + 12 * k) 4 = Q[k].2 := by
  have hl : ((Q.take k).map up).length = k := by simp; omega
  rw [ups_at Q k hk]
  have := idxE_be ((Q.take k).map up) (Q.drop (k + 1)) Q[k].1 Q[k].2 (ups_four Q h k) (h _ (List.getElem_mem hk)) h0 h1
  rw [hl] at this
  exact this
theorem idxE_first (Q : List (Sr × Int)) (q : Sr × Int) : splice (idxE Q ++ entS q) 0 (putL ((Q.length + 1 : Nat) : Int) 4) = idxE (Q ++ [q]) := by
  unfold idxE
  have := splice_mid [] (putL (Q.length : Nat) 4) (putL ((Q.length + 1 : Nat) : Int) 4) ((Q.map entS).flatten ++ entS q) (by rw [putL_len4, putL_len4])
  simp only [List.nil_append, List.length_nil] at this
  rw [List.append_assoc, this]
  simp
theorem idxE_num (Q : List (Sr × Int)) (l : List Int) (h : Q.length < 4294967296) : beV (idxE Q ++ l) 0 4 = (Q.length : Nat) := by
  unfold idxE
  rw [List.append_assoc]
  exact beV_put _ _ (by omega) (by omega)
/-- the first i entries, whose chunks are told by jx -/
def entsJ (es : List Sr) (jx : Nat → Nat) (i : Nat) : List En := (List.range i).map fun j => ((es.getD j (⟨#[]⟩, 0, ⟨#[]⟩, [])).1, (es.getD j (⟨#[]⟩, 0, ⟨#[]⟩, [])).2.1, jx j)
/-- a container whose index names chunks by their places is read as the entries say -/
theorem read_gen (es : List Sr) (pl : List Int) (jx : Nat → Nat) (tl : List Sc) (he : ∀ s ∈ es, IsId s.1 ∧ 0 ≤ s.2.1 ∧ s.2.1 ≤ 4294967295) (hn : es.length ≤ 512) (hpw : es.Pairwise (fun a b => ¬ (a.1 = b.1 ∧ a.2.1 = b.2.1)))
    (hl : pl.length = es.length) (hp : ∀ p ∈ pl, 0 ≤ p ∧ p ≤ 4294967295) (hid : ∀ c ∈ tl, IsId c.1) (hz : ssz ((RIDX, idxS es pl) :: tl) ≤ 1000000) (htl : tl.length ≤ 1000)
    (hj : ∀ i (h : i < es.length), 0 < jx i ∧ jx i ≤ tl.length ∧ pl[i]'(by omega) = ((12 + ssz (((RIDX, idxS es pl) :: tl).take (jx i)) : Nat) : Int) ∧ ((RIDX, idxS es pl) :: tl)[jx i]? = some (ckS es[i])) :
    readR (formS IFRS ((RIDX, idxS es pl) :: tl)) = (es, 0, ((formS IFRS ((RIDX, idxS es pl) :: tl)).length : Int)) := by
  have hidx : (idxS es pl).length = 4 + 12 * es.length := idxS_len es pl (fun s hs => (he s hs).1.1) hl
  have hv : beV (idxS es pl) 0 4 = (es.length : Nat) := by
    unfold idxS
    exact beV_put _ _ (by omega) (by omega)
  have hparts := idx_parts es pl (fun s hs => (he s hs).1.1) (fun s hs => (he s hs).2) hl hp
  obtain ⟨cs, hcs⟩ : ∃ cs, cs = (RIDX, idxS es pl) :: tl := ⟨_, rfl⟩
  have hcl : cs.length = tl.length + 1 := by rw [hcs]; rfl
  rw [← hcs] at hz hj ⊢
  have hids : ∀ c ∈ cs, IsId c.1 := fun c hc => by
    rw [hcs] at hc
    rcases List.mem_cons.1 hc with rfl | hc
    · exact id_ridx
    · exact hid c hc
  have hparse := parse_form IFRS cs id_ifrs hids hz (by omega)
  have hkind : strA (seg (formS IFRS cs) 8 4) = IFRS := by
    obtain ⟨-, -, h3⟩ := form_head IFRS (cs.map toCk) rfl (by rw [sizes_toCk]; omega)
    rw [← formS_L] at h3
    rw [h3, strA_idI]
  have hego : ∀ (F i : Nat), i + F = es.length → ego cs (idxS es pl) F i (entsJ es jx i) = (entsJ es jx es.length, 0, 0) := by
    intro F
    induction F with
    | zero =>
      intro i hi
      obtain rfl : i = es.length := by omega
      rfl
    | succ F ih =>
      intro i hi
      have hlt : i < es.length := by omega
      obtain ⟨p1, p2, p3⟩ := hparts i hlt
      have hsi := he _ (List.getElem_mem hlt)
      obtain ⟨j0, j1, j2, -⟩ := hj i hlt
      have hna : ¬ Among (entsJ es jx i) es[i].1 es[i].2.1 := by
        rintro ⟨a, ha, e1, e2⟩
        obtain ⟨j, hj', rfl⟩ := List.mem_map.1 ha
        have hji : j < i := List.mem_range.1 hj'
        have := List.pairwise_iff_getElem.1 hpw j i (by omega) hlt hji
        simp only [List.getD_eq_getElem?_getD, List.getElem?_eq_getElem (show j < es.length by omega), Option.getD_some] at e1 e2
        exact this ⟨e1, e2⟩
      have hix : ixS cs (pl[i]'(by omega)) = jx i := by
        rw [j2]
        exact ixS_at cs (jx i) (by omega)
      unfold ego
      rw [p1, p2, p3, hix, if_neg (not_not_intro hsi.1), if_neg hna, if_neg (by omega)]
      have e : entsJ es jx i ++ [(es[i].1, es[i].2.1, jx i)] = entsJ es jx (i + 1) := by
        unfold entsJ
        rw [List.range_succ, List.map_append]
        simp [List.getD_eq_getElem?_getD, hlt]
      rw [e]
      exact ih (i + 1) (by omega)
  have hopen : openR (formS IFRS cs) = (entsJ es jx es.length, 0, 0) := by
    unfold openR
    rw [hparse, hkind]
    have hx : idxR cs = 0 := by
      rw [hcs]
      unfold idxR
      simp only
      rw [hidx, hv, if_neg (by simp), if_neg (by omega), if_neg (by omega), if_neg (by omega)]
    rw [if_neg (by simp), if_neg (by simp), if_neg (by simp only; rw [hx]; simp)]
    have hh : (cs.headD (⟨#[]⟩, [])).2 = idxS es pl := by rw [hcs]; rfl
    simp only [hh]
    rw [hv, Int.toNat_natCast]
    exact hego es.length 0 (by omega)
  unfold readR
  rw [hopen, hparse, if_neg (by simp)]
  have e : (entsJ es jx es.length).map (resS cs) = es := by
    apply List.ext_getElem
    · simp [entsJ]
    · intro i h1 h2
      obtain ⟨-, -, -, j3⟩ := hj i h2
      simp only [entsJ, List.getElem_map, List.getElem_range]
      unfold resS
      simp [List.getD_eq_getElem?_getD, h2, j3, ckS]
  rw [e]
theorem ssz_cons (c : Sc) (cs : List Sc) : ssz (c :: cs) = (8 + c.2.length + c.2.length % 2) + ssz cs := by unfold ssz; simp
theorem ssz_app (a b : List Sc) : ssz (a ++ b) = ssz a + ssz b := by unfold ssz; rw [List.map_append, List.sum_append_nat]
/-- the entry more -/
def zRes (ss : List Sr) (x : Int) : Sr := (ZZZZ, x, (ss.getD 0 (⟨#[]⟩, 0, ⟨#[]⟩, [])).2.2.1, (ss.getD 0 (⟨#[]⟩, 0, ⟨#[]⟩, [])).2.2.2)
def qAll (ss : List Sr) (x : Int) : List (Sr × Int) := ss.zip (plR ss) ++ [(zRes ss x, (plR ss).getD 0 0)]
theorem qAll_len (ss : List Sr) (x : Int) : (qAll ss x).length = ss.length + 1 := by
  unfold qAll
  rw [List.length_append, List.length_zip, plR_len, Nat.min_self]
  rfl
theorem qAll_up (ss : List Sr) (x : Int) : (qAll ss x).map up = (ss ++ [zRes ss x]).zip ((plR ss).map (· + 12) ++ [(plR ss).getD 0 0 + 12]) := by
  unfold qAll
  rw [List.map_append, List.zip_append (by rw [List.length_map, plR_len]), List.zip_map_right]
  rfl
theorem qAll_four {ss : List Sr} (h : LayOk ss) (x : Int) : ∀ q ∈ qAll ss x, q.1.1.size = 4 := fun q hq => by
  rcases List.mem_append.1 hq with hq | hq
  · exact (h.1 _ (List.of_mem_zip hq).1).1.1
  · rw [List.mem_singleton.1 hq]; rfl
theorem qAll_bd {ss : List Sr} (h : LayOk ss) (x : Int) (h0 : 0 < ss.length) : ∀ q ∈ qAll ss x, 0 ≤ q.2 ∧ q.2 ≤ 1000000 := fun q hq => by
  have hb : ∀ p ∈ plR ss, 0 ≤ p ∧ p ≤ 1000000 := fun p hp => by
    obtain ⟨i, hi, rfl⟩ := List.getElem_of_mem hp
    rw [plR_len] at hi
    rw [plR_at h i hi]
    have hc : (layCs ss).length = ss.length + 1 := by simp [layCs]
    have h1 : ssz ((layCs ss).take (i + 1)) ≤ ssz (layCs ss) := by
      by_cases e : i + 1 = (layCs ss).length
      · rw [e, List.take_length]; exact Nat.le_refl _
      · have := ssz_lt (layCs ss) (i + 1) (layCs ss).length (by omega) (Nat.le_refl _)
        rw [List.take_length] at this
        omega
    have := layCs_ssz h
    have h9 := h.2.2.2
    have h512 := h.2.1
    omega
  rcases List.mem_append.1 hq with hq | hq
  · exact hb _ (List.of_mem_zip hq).2
  · rw [List.mem_singleton.1 hq]
    have hl := plR_len ss
    refine hb _ ?_
    show (plR ss).getD 0 0 ∈ plR ss
    rw [List.getD_eq_getElem?_getD, List.getElem?_eq_getElem (by omega)]
    exact List.getElem_mem _
theorem take_sz {ss : List Sr} (h : LayOk ss) (i : Nat) : ssz ((layCs ss).take (i + 1)) = 12 + 12 * ss.length + ssz ((ss.map ckS).take i) := by
  unfold layCs
  rw [List.take_succ_cons, ssz_cons]
  simp only [lay_idx_len h]
  omega
theorem others_read {ss : List Sr} (h : LayOk ss) (h0 : 0 < ss.length) (h2 : ss.length ≤ 200) (hz : ∀ s ∈ ss, s.1 ≠ ZZZZ) (x : Int) (x0 : 0 ≤ x) (x1 : x ≤ 4294967295) (ex : List Int) (hex : ex.length ≤ 65536) (hs : ssz (ss.map ckS) ≤ 100000) :
    readR (formS IFRS ((RIDX, idxE ((qAll ss x).map up)) :: (ss.map ckS ++ [(MORE, ex)]))) = (ss ++ [zRes ss x], 0, ((formS IFRS ((RIDX, idxE ((qAll ss x).map up)) :: (ss.map ckS ++ [(MORE, ex)]))).length : Int)) := by
  have hpl := plR_len ss
  obtain ⟨s0, hs0⟩ : ∃ s0, ss[0]? = some s0 := ⟨_, List.getElem?_eq_getElem h0⟩
  have hp0 : (plR ss).getD 0 0 = ((12 + ssz ((layCs ss).take 1) : Nat) : Int) := by
    rw [List.getD_eq_getElem?_getD, List.getElem?_eq_getElem (by omega), Option.getD_some, plR_at h 0 h0]
  have hll : ((plR ss).map (· + 12) ++ [(plR ss).getD 0 0 + 12]).length = (ss ++ [zRes ss x]).length := by simp [hpl]
  rw [qAll_up, ← idxE_S _ _ hll]
  have hil : (idxS (ss ++ [zRes ss x]) ((plR ss).map (· + 12) ++ [(plR ss).getD 0 0 + 12])).length = 16 + 12 * ss.length := by
    rw [idxS_len _ _ (fun s hs => ?_) hll]
    · simp; omega
    · rcases List.mem_append.1 hs with hs | hs
      · exact (h.1 s hs).1.1
      · rw [List.mem_singleton.1 hs]; rfl
  have hbd := qAll_bd h x h0
  refine read_gen _ _ (fun i => if i < ss.length then i + 1 else 1) _ ?_ (by simp; omega) ?_ hll ?_ ?_ ?_ (by simp; omega) ?_
  · intro s hs
    rcases List.mem_append.1 hs with hs | hs
    · exact ⟨(h.1 s hs).1, (h.1 s hs).2.2.1, (h.1 s hs).2.2.2.1⟩
    · rw [List.mem_singleton.1 hs]; exact ⟨id_zzzz, x0, x1⟩
  · rw [List.pairwise_append]
    refine ⟨h.2.2.1, by simp, fun a ha b hb => ?_⟩
    rw [List.mem_singleton.1 hb]
    exact fun e => hz a ha e.1
  · intro p hp
    have hb : ∀ p ∈ plR ss, 0 ≤ p ∧ p ≤ 1000000 := fun p hp => by
      obtain ⟨i, hi, rfl⟩ := List.getElem_of_mem hp
      rw [plR_len] at hi
      refine hbd (ss[i], (plR ss)[i]'(by omega)) (List.mem_append.2 (.inl ?_))
      rw [← List.getElem_zip (h := by rw [List.length_zip]; omega)]
      exact List.getElem_mem _
    rcases List.mem_append.1 hp with hp | hp
    · obtain ⟨q, hq, rfl⟩ := List.mem_map.1 hp
      have := hb q hq
      omega
    · rw [List.mem_singleton.1 hp]
      have : 0 ≤ (plR ss).getD 0 0 ∧ (plR ss).getD 0 0 ≤ 1000000 := by
        refine hb _ ?_
        rw [List.getD_eq_getElem?_getD, List.getElem?_eq_getElem (by omega)]
        exact List.getElem_mem _
      omega
  · intro c hc
    rcases List.mem_append.1 hc with hc | hc
    · obtain ⟨s, hs, rfl⟩ := List.mem_map.1 hc
      exact (h.1 s hs).2.1
    · rw [List.mem_singleton.1 hc]; exact id_more
  · rw [ssz_cons, ssz_app, ssz_cons]
    simp only [hil]
    have : ssz ([] : List Sc) = 0 := rfl
    omega
  · intro i hi
    have hcut : ∀ j, j ≤ ss.length → ssz (((RIDX, idxS (ss ++ [zRes ss x]) ((plR ss).map (· + 12) ++ [(plR ss).getD 0 0 + 12])) :: (ss.map ckS ++ [(MORE, ex)])).take (j + 1)) = 24 + 12 * ss.length + ssz ((ss.map ckS).take j) := fun j hj => by
      rw [List.take_succ_cons, ssz_cons, List.take_append_of_le_length (by simpa using hj)]
      simp only [hil]
      omega
    by_cases e : i < ss.length
    · simp only [e, if_true]
      refine ⟨by omega, by simp; omega, ?_, ?_⟩
      · rw [hcut i (by omega), List.getElem_append_left (by simpa [hpl] using e), List.getElem_map, plR_at h i e, take_sz h]
        omega
      · rw [List.getElem?_cons_succ, List.getElem?_append_left (by simpa using e), List.getElem?_map, List.getElem?_eq_getElem e, List.getElem_append_left e]
        rfl
    · have hi2 : i = ss.length := by simp at hi; omega
      subst hi2
      simp only [Nat.lt_irrefl, if_false]
      refine ⟨by omega, by simp, ?_, ?_⟩
      · have h1 := hcut 0 (by omega)
        rw [Nat.zero_add] at h1
        rw [h1, List.getElem_append_right (by simp [hpl])]
        simp only [List.length_map, hpl, Nat.sub_self, List.getElem_cons_zero]
        have h3 := take_sz h 0
        rw [Nat.zero_add] at h3
        rw [hp0, h3]
        simp only [List.take_zero]
        omega
      · rw [List.getElem?_cons_succ, List.getElem?_append_left (by simpa using h0), List.getElem?_map, hs0, List.getElem_append_right (Nat.le_refl _)]
        simp [zRes, ckS, List.getD_eq_getElem?_getD, hs0]
end Go.Proofs.Ytedihackifchcaa
