/- Layer 14: a tree in order: what always holds of its windows. -/
import Derived.Test.YtilfgbcbodjegaaP14l
import Derived.Test.YtilfgbcbodjegaaP14o
import Derived.Test.YtilfgbcbodjegaaP14g
import Derived.Test.YtilfgbcbodjegaaR14c
namespace Go.Proofs.Ytilfgbcbodjegaa
open Go.RowKit
set_option maxHeartbeats 1000000
set_option maxRecDepth 100000
set_option linter.unusedVariables false

theorem map_has {L : List Wd} (f : Wd → Wd) (hf : ∀ d, (f d).n = d.n) {x : Int} : hasW (L.map f) x ↔ hasW L x := by
  constructor
  · rintro ⟨d, hd, h⟩
    obtain ⟨d', hd', rfl⟩ := List.mem_map.1 hd
    exact ⟨d', hd', by rw [← h, hf]⟩
  · rintro ⟨d, hd, h⟩
    exact ⟨_, List.mem_map.2 ⟨d, hd, rfl⟩, by rw [hf]; exact h⟩
theorem map_of {L : List Wd} (f : Wd → Wd) (hf : ∀ d, (f d).n = d.n) {x : Int} (hx : hasW L x) : ofW (L.map f) x = f (ofW L x) := by
  induction L with
  | nil => obtain ⟨d, hd, _⟩ := hx; simp at hd
  | cons d L ih =>
    by_cases q : d.n = x
    · have h1 : ofW (d :: L) x = d := by unfold ofW; simp [q]
      have h2 : ofW ((d :: L).map f) x = f d := by
        unfold ofW
        rw [List.map_cons, List.find?_cons_of_pos (by rw [beq_iff_eq, hf]; exact q)]
        rfl
      rw [h1, h2]
    · have h1 : ofW (d :: L) x = ofW L x := by unfold ofW; rw [List.find?_cons_of_neg (by simp [q])]
      have h2 : ofW ((d :: L).map f) x = ofW (L.map f) x := by
        unfold ofW
        rw [List.map_cons, List.find?_cons_of_neg (by rw [beq_iff_eq, hf]; exact q)]
      rw [h1, h2]
      refine ih ?_
      obtain ⟨d', hd, e'⟩ := hx
      rcases List.mem_cons.1 hd with rfl | hd
      · exact absurd e' q
      · exact ⟨d', hd, e'⟩
theorem of_mem {L : List Wd} {x : Int} (h : hasW L x) : ofW L x ∈ L ∧ (ofW L x).n = x := by
  unfold ofW
  cases hf : L.find? (fun d => d.n == x) with
  | none =>
    obtain ⟨d, hd, e⟩ := h
    have := List.find?_eq_none.1 hf d hd
    simp [e] at this
  | some d => exact ⟨List.mem_of_find?_eq_some hf, by simpa using List.find?_some hf⟩
theorem of_self {L : List Wd} (h : Sorted L) {d : Wd} (hd : d ∈ L) : ofW L d.n = d := by
  obtain ⟨i, hi, rfl⟩ := List.getElem_of_mem hd
  exact ofW_at h hi rfl
theorem has_mem {L : List Wd} {d : Wd} (hd : d ∈ L) : hasW L d.n := ⟨d, hd, rfl⟩
/-- a tree in order: pairs and their children know one another, one window alone has nothing above, and a rank falls on the way up -/
structure Iv (s : Ps) : Prop extends OkL s where
  f63 : s.L.length ≤ 64
  scr : scrB s.w s.h = true
  kd : ∀ x, hasW s.L x → 1 ≤ (ofW s.L x).k ∧ (ofW s.L x).k ≤ 4
  np : ∀ x, hasW s.L x → (ofW s.L x).k ≠ 4 → (ofW s.L x).a = 0 ∧ (ofW s.L x).b = 0 ∧ (ofW s.L x).m = 0 ∧ (ofW s.L x).s = 0 ∧ (ofW s.L x).key = 0
  pw : ∀ x, hasW s.L x → (ofW s.L x).k = 4 → PairW (ofW s.L x)
  ky : ∀ x, hasW s.L x → (ofW s.L x).key = 0 ∨ hasW s.L (ofW s.L x).key
  par : ∀ x, hasW s.L x → (ofW s.L x).p ≠ 0 → hasW s.L (ofW s.L x).p ∧ (ofW s.L (ofW s.L x).p).k = 4 ∧ ((ofW s.L (ofW s.L x).p).a = x ∨ (ofW s.L (ofW s.L x).p).b = x)
  kid : ∀ x, hasW s.L x → (ofW s.L x).k = 4 → hasW s.L (ofW s.L x).a ∧ hasW s.L (ofW s.L x).b ∧ (ofW s.L x).a ≠ (ofW s.L x).b ∧ (ofW s.L (ofW s.L x).a).p = x ∧ (ofW s.L (ofW s.L x).b).p = x
  rt0 : s.root = 0 ↔ s.L.length = 0
  rt : ∀ x, hasW s.L x → ((ofW s.L x).p = 0 ↔ x = s.root)
  rh : s.root ≠ 0 → hasW s.L s.root
  rk : ∃ r : Int → Nat, ∀ x, hasW s.L x → (ofW s.L x).p ≠ 0 → r (ofW s.L x).p < r x
theorem Iv.pos' {s : Ps} (h : Iv s) {x : Int} (hx : hasW s.L x) : 0 < x := by
  obtain ⟨d, hd, e⟩ := hx
  have := h.pos d hd
  omega
theorem Iv.top' {s : Ps} (h : Iv s) {x : Int} (hx : hasW s.L x) : x ≤ s.last := by
  obtain ⟨d, hd, e⟩ := hx
  have := h.top d hd
  omega
theorem Iv.parOk {s : Ps} (h : Iv s) : ParOk s := fun d hd h0 => by
  have e := of_self h.so hd
  have := h.par d.n (has_mem hd)
  rw [e] at this
  exact ⟨(this h0).1, (this h0).2.2⟩
theorem iv_new (w h : Int) (hs : scrB w h = true) : Iv ⟨w, h, 0, 0, []⟩ := by
  have no : ∀ x, ¬ hasW ([] : List Wd) x := by rintro x ⟨d, hd, _⟩; simp at hd
  refine ⟨⟨⟨⟨fun i j _ hj _ => by simp at hj⟩, by simp, fun d hd => by simp at hd⟩, by simp, by simp, fun d hd => by simp at hd⟩, by simp, hs, ?_, ?_, ?_, ?_, ?_, ?_, by simp, ?_, by simp, ⟨fun _ => 0, ?_⟩⟩
  all_goals exact fun x hx => absurd hx (no x)
theorem iv_resize {s : Ps} (h : Iv s) (x y : Int) (hs : scrB x y = true) : Iv { s with w := x, h := y } :=
  ⟨⟨⟨h.so, h.few, h.pos⟩, h.l0, h.l1, h.top⟩, h.f63, hs, h.kd, h.np, h.pw, h.ky, h.par, h.kid, h.rt0, h.rt, h.rh, h.rk⟩
/-- how many windows have a lesser rank -/
def lowN (L : List Wd) (r : Int → Nat) (x : Int) : Nat := (L.filter (fun d => decide (r d.n < r x))).length
theorem filter_less {L : List Wd} {p q : Wd → Bool} (hpq : ∀ d ∈ L, p d = true → q d = true) {d : Wd} (hd : d ∈ L) (h1 : p d = false) (h2 : q d = true) : (L.filter p).length < (L.filter q).length := by
  induction L with
  | nil => simp at hd
  | cons e L ih =>
    have hle : (L.filter p).length ≤ (L.filter q).length := by
      have : ∀ K : List Wd, (∀ d ∈ K, p d = true → q d = true) → (K.filter p).length ≤ (K.filter q).length := by
        intro K
        induction K with
        | nil => intro _; simp
        | cons e K ih =>
          intro hk
          have h0 := ih (fun d hd => hk d (List.mem_cons_of_mem _ hd))
          have h3 := hk e List.mem_cons_self
          cases hp : p e <;> cases hq : q e <;> simp_all <;> omega
      exact this L (fun d hd => hpq d (List.mem_cons_of_mem _ hd))
    rcases List.mem_cons.1 hd with rfl | hd
    · simp [h1, h2]
      omega
    · have h0 := ih (fun d hd => hpq d (List.mem_cons_of_mem _ hd)) hd
      have h3 := hpq e List.mem_cons_self
      cases hp : p e <;> cases hq : q e <;> simp_all <;> omega
theorem Iv.ends {s : Ps} (h : Iv s) : ∀ x, Ends s.L 65 x ∨ ¬ hasW s.L x := by
  obtain ⟨r, hr⟩ := h.rk
  have H : ∀ n x, hasW s.L x → lowN s.L r x ≤ n → Ends s.L (n + 1) x := by
    intro n
    induction n with
    | zero =>
      intro x hx hl
      refine .inr ?_
      show (ofW s.L x).p = 0
      by_cases h0 : (ofW s.L x).p = 0
      · exact h0
      · exfalso
        obtain ⟨hp, _⟩ := h.par x hx h0
        have hlt := hr x hx h0
        obtain ⟨m1, m2⟩ := of_mem hp
        have : 0 < lowN s.L r x := by
          unfold lowN
          exact List.length_pos_of_mem (List.mem_filter.2 ⟨m1, by rw [m2]; simpa using hlt⟩)
        omega
    | succ n ih =>
      intro x hx hl
      by_cases h0 : (ofW s.L x).p = 0
      · refine .inr ?_
        rw [h0]
        exact .inl rfl
      · obtain ⟨hp, _⟩ := h.par x hx h0
        have hlt := hr x hx h0
        obtain ⟨m1, m2⟩ := of_mem hp
        have : lowN s.L r (ofW s.L x).p < lowN s.L r x := by
          unfold lowN
          exact filter_less (fun d hd q => by simp at q ⊢; omega) m1 (by rw [m2]; simp) (by rw [m2]; simpa using hlt)
        exact .inr (ih _ hp (by omega))
  intro x
  by_cases hx : hasW s.L x
  · refine .inl (H 64 x hx ?_)
    unfold lowN
    exact Nat.le_trans (List.length_filter_le _ _) h.f63
  · exact .inr hx
theorem Iv.of_zero {s : Ps} (h : Iv s) : ofW s.L 0 = wd0 := h.toOkL.toOkP.zero
theorem of_no {L : List Wd} {x : Int} (h : ¬ hasW L x) : ofW L x = wd0 := ofW_none (fun d hd e => h ⟨d, hd, e⟩)
theorem Iv.ends_all {s : Ps} (h : Iv s) (x : Int) : Ends s.L 65 x := by
  rcases h.ends x with q | q
  · exact q
  · refine .inr ?_
    rw [of_no q]
    exact .inl rfl
theorem Iv.ends_p {s : Ps} (h : Iv s) : ∀ d ∈ s.L, Ends s.L 64 d.p := by
  intro d hd
  rcases h.ends d.n with q | q
  · rcases q with q | q
    · have := h.pos d hd; omega
    · rw [of_self h.so hd] at q; exact q
  · exact absurd (has_mem hd) q
/-- more steps than lead to the end change nothing -/
theorem up_stable (L : List Wd) (top : Int) : ∀ (j k : Nat) (z : Int), Ends L j z → j ≤ k → upB L k z top = upB L j z top
  | 0, k, z, h, _ => by
    have h0 : z = 0 := h
    subst h0
    rw [upB_zero, upB_zero]
  | j + 1, k, z, h, hk => by
    obtain ⟨k, rfl⟩ : ∃ k', k = k' + 1 := ⟨k - 1, by omega⟩
    unfold upB
    by_cases h0 : z = 0
    · rw [if_pos h0, if_pos h0]
    · rw [if_neg h0, if_neg h0]
      rw [up_stable L top j k _ (h.resolve_left h0) (by omega)]
/-- is y below x, or x? -/
def belB (s : Ps) (x y : Int) : Bool := upB s.L 100 y x
theorem Iv.bel_k {s : Ps} (h : Iv s) (x y : Int) (k : Nat) (hk : 65 ≤ k) : upB s.L k y x = belB s x y := by
  unfold belB
  rw [up_stable s.L x 65 k y (h.ends_all y) hk, up_stable s.L x 65 100 y (h.ends_all y) (by omega)]
theorem Iv.bel_step {s : Ps} (h : Iv s) (x y : Int) : belB s x y = if y = 0 then false else if y = x then true else belB s x (ofW s.L y).p := by
  rw [← h.bel_k x y 101 (by omega)]
  rfl
theorem Iv.bel_has {s : Ps} (h : Iv s) {x y : Int} (hx : hasW s.L x) (hb : belB s x y = true) : hasW s.L y := by
  by_cases hy : hasW s.L y
  · exact hy
  · rw [h.bel_step, of_no hy] at hb
    by_cases h0 : y = 0
    · rw [if_pos h0] at hb; cases hb
    · rw [if_neg h0] at hb
      by_cases h1 : y = x
      · rw [h1]; exact hx
      · rw [if_neg h1] at hb
        have : belB s x (wd0.p) = false := upB_zero _ _ _
        rw [this] at hb; cases hb
theorem Iv.bel_self {s : Ps} (h : Iv s) {x : Int} (hx : hasW s.L x) : belB s x x = true := by
  have := h.pos' hx
  rw [h.bel_step, if_neg (by omega), if_pos rfl]
theorem Iv.bel_kid {s : Ps} (h : Iv s) {x y : Int} (hy : hasW s.L y) (hb : belB s x (ofW s.L y).p = true) : belB s x y = true := by
  have := h.pos' hy
  rw [h.bel_step, if_neg (by omega)]
  split
  · rfl
  · exact hb
theorem Iv.bel_par {s : Ps} (h : Iv s) {x y : Int} (hb : belB s x y = true) (hn : y ≠ x) : belB s x (ofW s.L y).p = true := by
  rw [h.bel_step] at hb
  by_cases h0 : y = 0
  · rw [if_pos h0] at hb; cases hb
  · rw [if_neg h0, if_neg hn] at hb; exact hb
/-- what is below has no lesser rank -/
theorem Iv.bel_rank {s : Ps} (h : Iv s) {r : Int → Nat} (hr : ∀ x, hasW s.L x → (ofW s.L x).p ≠ 0 → r (ofW s.L x).p < r x) {x : Int} (hx : hasW s.L x) : ∀ (n : Nat) (y : Int), r y ≤ n → belB s x y = true → r x ≤ r y := by
  intro n
  induction n with
  | zero =>
    intro y hl hb
    by_cases e : y = x
    · rw [e]; exact Nat.le_refl _
    · have hy := h.bel_has hx hb
      have hp := h.bel_par hb e
      have h0 : (ofW s.L y).p ≠ 0 := by intro q; rw [q] at hp; rw [show belB s x 0 = false from upB_zero _ _ _] at hp; cases hp
      have := hr y hy h0
      omega
  | succ n ih =>
    intro y hl hb
    by_cases e : y = x
    · rw [e]; exact Nat.le_refl _
    · have hy := h.bel_has hx hb
      have hp := h.bel_par hb e
      have h0 : (ofW s.L y).p ≠ 0 := by intro q; rw [q] at hp; rw [show belB s x 0 = false from upB_zero _ _ _] at hp; cases hp
      have := hr y hy h0
      have := ih _ (by omega) hp
      omega
theorem Iv.bel_no_par {s : Ps} (h : Iv s) {x : Int} (hx : hasW s.L x) (h0 : (ofW s.L x).p ≠ 0) : belB s x (ofW s.L x).p = false := by
  obtain ⟨r, hr⟩ := h.rk
  cases hb : belB s x (ofW s.L x).p with
  | false => rfl
  | true =>
    have h1 := h.bel_rank hr hx _ _ (Nat.le_refl _) hb
    have h2 := hr x hx h0
    omega
theorem Iv.bel_root {s : Ps} (h : Iv s) : ∀ y, hasW s.L y → belB s s.root y = true := by
  obtain ⟨r, hr⟩ := h.rk
  have H : ∀ (n : Nat) y, r y ≤ n → hasW s.L y → belB s s.root y = true := by
    intro n
    induction n with
    | zero =>
      intro y hl hy
      by_cases h0 : (ofW s.L y).p = 0
      · rw [← (h.rt y hy).1 h0]; exact h.bel_self hy
      · have := hr y hy h0; omega
    | succ n ih =>
      intro y hl hy
      by_cases h0 : (ofW s.L y).p = 0
      · rw [← (h.rt y hy).1 h0]; exact h.bel_self hy
      · have := hr y hy h0
        exact h.bel_kid hy (ih _ (by omega) (h.par y hy h0).1)
  exact fun y hy => H _ y (Nat.le_refl _) hy
theorem rank_up {s : Ps} (h : Iv s) (x : Int) (hx : hasW s.L x) (h0 : (ofW s.L x).p ≠ 0) : x ≠ (ofW s.L x).p := by
  obtain ⟨r, hr⟩ := h.rk
  intro e
  have := hr x hx h0
  rw [← e] at this
  omega
/-- from each window leads a way up -/
theorem Iv.upk {s : Ps} (h : Iv s) : ∀ (k : Nat) (x : Int), hasW s.L x → Ends s.L (k + 1) x → Upk s k x
  | 0, x, hx, he => by
    rcases he with q | q
    · have := h.pos' hx; omega
    · exact q
  | k + 1, x, hx, he => by
    by_cases h0 : (ofW s.L x).p = 0
    · exact .inl h0
    · obtain ⟨h1, h2, h3⟩ := h.par x hx h0
      refine .inr ⟨h1, h.pw _ h1 h2, h3, h.upk k _ h1 ?_⟩
      rcases he with q | q
      · have := h.pos' hx; omega
      · exact q
theorem Iv.upk64 {s : Ps} (h : Iv s) (x : Int) (hx : hasW s.L x) : Upk s 64 x := h.upk 64 x hx (h.ends_all x)
end Go.Proofs.Ytilfgbcbodjegaa
