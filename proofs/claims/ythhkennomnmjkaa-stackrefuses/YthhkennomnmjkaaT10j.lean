/- Rolls, as lists; a stack beside blocks that no call on it touches. -/
import Derived.Test.YthhkennomnmjkaaT10i
namespace Go.Proofs.Ythhkennomnmjkaa
open Go.RowKit
set_option maxHeartbeats 1000000
set_option maxRecDepth 100000
set_option linter.unusedVariables false

theorem rollL_parts (zs : List Int) (n r : Nat) (hn : 4 * n ≤ zs.length) (hr : r ≤ n) : rollL zs n r = zs.take (zs.length - 4 * n) ++ ((zs.drop (zs.length - 4 * n)).drop (4 * n - 4 * r) ++ (zs.drop (zs.length - 4 * n)).take (4 * n - 4 * r)) := by
  unfold rollL
  rw [List.drop_drop, show zs.length - 4 * n + (4 * n - 4 * r) = zs.length - 4 * r by omega]
theorem rollL_zero (zs : List Int) (n : Nat) (hn : 4 * n ≤ zs.length) : rollL zs n 0 = zs := by
  rw [rollL_parts zs n 0 hn (Nat.zero_le _)]
  have hl : (zs.drop (zs.length - 4 * n)).length = 4 * n := by simp; omega
  have a1 : (zs.drop (zs.length - 4 * n)).drop (4 * n) = [] := List.drop_of_length_le (by omega)
  have a2 : (zs.drop (zs.length - 4 * n)).take (4 * n) = zs.drop (zs.length - 4 * n) := List.take_of_length_le (by omega)
  rw [show 4 * n - 4 * 0 = 4 * n by omega, a1, a2, List.nil_append, List.take_append_drop]
theorem rollL_back (zs : List Int) (n r q : Nat) (hn : 4 * n ≤ zs.length) (h : r + q = n) : rollL (rollL zs n r) n q = zs := by
  have hl : (rollL zs n r).length = zs.length := by
    unfold rollL; simp; omega
  rw [rollL_parts (rollL zs n r) n q (by omega) (by omega), hl, rollL_parts zs n r hn (by omega)]
  generalize hT : zs.take (zs.length - 4 * n) = T
  generalize hX : zs.drop (zs.length - 4 * n) = X
  have hTl : T.length = zs.length - 4 * n := by rw [← hT]; simp
  have hXl : X.length = 4 * n := by rw [← hX]; simp; omega
  have e1 : (T ++ (X.drop (4 * n - 4 * r) ++ X.take (4 * n - 4 * r))).take (zs.length - 4 * n) = T := by
    rw [List.take_append_of_le_length (by omega), List.take_of_length_le (by omega)]
  have e2 : (T ++ (X.drop (4 * n - 4 * r) ++ X.take (4 * n - 4 * r))).drop (zs.length - 4 * n) = X.drop (4 * n - 4 * r) ++ X.take (4 * n - 4 * r) := by
    rw [List.drop_append, List.drop_of_length_le (by omega), List.nil_append, hTl, Nat.sub_self, List.drop_zero]
  have hdl : (X.drop (4 * n - 4 * r)).length = 4 * r := by simp; omega
  rw [e1, e2, show 4 * n - 4 * q = 4 * r by omega]
  have b1 : (X.drop (4 * n - 4 * r) ++ X.take (4 * n - 4 * r)).drop (4 * r) = X.take (4 * n - 4 * r) := by
    rw [List.drop_append, List.drop_of_length_le (by omega), List.nil_append, hdl, Nat.sub_self, List.drop_zero]
  have b2 : (X.drop (4 * n - 4 * r) ++ X.take (4 * n - 4 * r)).take (4 * r) = X.drop (4 * n - 4 * r) := by
    rw [List.take_append_of_le_length (by omega)]
    exact List.take_of_length_le (by omega)
  rw [b1, b2, List.take_append_drop]
  rw [← hT, ← hX, List.take_append_drop]
/-- the top one behind a roll -/
theorem rollL_top (zs : List Int) (n r : Nat) (hn : 4 * n ≤ zs.length) (hr : r < n) : nu (rollL zs n r) (zs.length - 4) = nu zs (zs.length - 4 - 4 * r) := by
  have hp : ∀ i, i < 4 → (rollL zs n r).getD (zs.length - 4 + i) 0 = zs.getD (zs.length - 4 - 4 * r + i) 0 := fun i hi => by
    unfold rollL
    have h1 : (zs.take (zs.length - 4 * n)).length = zs.length - 4 * n := by simp
    have h2 : (zs.drop (zs.length - 4 * r)).length = 4 * r := by simp; omega
    rw [List.getD_eq_getElem?_getD, List.getD_eq_getElem?_getD, List.getElem?_append_right (by omega), h1, List.getElem?_append_right (by omega), h2]
    rw [List.getElem?_take]
    rw [if_pos (by omega), List.getElem?_drop]
    congr 2
    omega
  have h0 := hp 0 (by omega)
  have h1 := hp 1 (by omega)
  have h2 := hp 2 (by omega)
  have h3 := hp 3 (by omega)
  simp only [Nat.add_zero] at h0
  unfold nu
  rw [beV4, beV4, h0, h1, h2, h3]
theorem wrap32_neg (k : Nat) (hk : k < 4294967296) (h : k ≠ 2147483648) : wrap32 (((4294967296 - k) % 4294967296 : Nat) : Int) = - wrap32 (k : Int) := by
  unfold wrap32
  omega
theorem rollR_neg (n k : Nat) (hn : 0 < n) (hk : k < 4294967296) (h : k ≠ 2147483648) : rollR n k + rollR n ((4294967296 - k) % 4294967296) = 0 ∨ rollR n k + rollR n ((4294967296 - k) % 4294967296) = n := by
  have e1 := roll_emod n k hn
  have e2 := roll_emod n ((4294967296 - k) % 4294967296) hn
  have l1 := rollR_lt n k hn
  have l2 := rollR_lt n ((4294967296 - k) % 4294967296) hn
  rw [wrap32_neg k hk h] at e2
  generalize wrap32 (k : Int) = x at *
  generalize rollR n k = r at *
  generalize rollR n ((4294967296 - k) % 4294967296) = q at *
  have h3 : (x + -x) % (n : Int) = ((r : Int) + (q : Int)) % (n : Int) := by
    rw [Int.add_emod, e1, e2]
  rw [Int.add_right_neg, Int.zero_emod] at h3
  by_cases hc : r + q < n
  · rw [Int.emod_eq_of_lt (by omega) (by omega)] at h3
    omega
  · have : ((r : Int) + (q : Int) - (n : Int)) % (n : Int) = ((r : Int) + (q : Int)) % (n : Int) := by rw [Int.sub_emod_right]
    rw [← h3, Int.emod_eq_of_lt (by omega) (by omega)] at this
    omega
theorem rollR_self (n : Nat) (hn : 0 < n) (h : n < 2147483648) : rollR n n = 0 := by
  unfold rollR
  rw [wrap32_small _ (by omega) (by omega), Int.emod_self]
  rfl
theorem rint_any (k : Nat) (w : World) (hk : k < 4294967296) : Calls Try.prog 60 #[.int .u32 k] w fun e w' => e = .returned (.int .i64 (wrap32 (k : Int))) ∧ w' = w := by
  have hw : IntKind.i64.wrap (k : Int) = (k : Int) := by rw [IntKind.wrap_i64]; omega
  have hw2 : IntKind.i64.wrap ((k : Int) - 4294967296) = (k : Int) - 4294967296 := by rw [IntKind.wrap_i64]; omega
  by_cases h : 2147483648 ≤ k
  · have d : (k : Int) ≥ 2147483648 := by omega
    rw [wrap32_hi _ (by omega) (by omega)]
    go_enter Try.func60, Try.ntmps60
    go_wp2
    go_ret
    exact ⟨rfl, rfl⟩
  · have d : ¬ (k : Int) ≥ 2147483648 := by omega
    rw [wrap32_small _ (by omega) (by omega)]
    go_enter Try.func60, Try.ntmps60
    go_wp2
    go_ret
    exact ⟨rfl, rfl⟩
theorem same_some (a1 a2 : Option Addr) (l1 c1 l2 c2 : Nat) (zs ys : List Int) (w : World) (hz : OkB zs) (hy : OkB ys) (h1 : Reads w a1 l1 c1 zs) (h2 : Reads w a2 l2 c2 ys) :
    Calls Try.prog 11 #[.slice a1 l1 c1, .slice a2 l2 c2] w fun e w' => ∃ b, e = .returned (.bool b) ∧ w' = w := by
  have e1 := conv_reads w a1 l1 c1 zs hz h1
  have e2 := conv_reads w a2 l2 c2 ys hy h2
  clear h1 h2
  go_enter Try.func11, Try.ntmps11
  go_wp2
  go_ret
  exact ⟨_, rfl, rfl⟩
theorem strB_inj : ∀ {a b : List Int}, OkB a → OkB b → strB a = strB b → a = b
  | [], [], _, _, _ => rfl
  | [], y :: ys, _, _, h => by simp [strB] at h
  | x :: xs, [], _, _, h => by simp [strB] at h
  | x :: xs, y :: ys, ha, hb, h => by
    simp only [strB, List.map_cons, List.cons.injEq] at h
    have hx := ha x (by simp)
    have hy := hb y (by simp)
    have e : x = y := by
      have := congrArg UInt8.toNat h.1
      rw [UInt8.toNat_ofNat', UInt8.toNat_ofNat'] at this
      omega
    rw [e, strB_inj (fun c hc => ha c (by simp [hc])) (fun c hc => hb c (by simp [hc])) h.2]
theorem same_ne (a1 a2 : Option Addr) (l1 c1 l2 c2 : Nat) (zs ys : List Int) (w : World) (hz : OkB zs) (hy : OkB ys) (h1 : Reads w a1 l1 c1 zs) (h2 : Reads w a2 l2 c2 ys) (hne : zs ≠ ys) :
    Calls Try.prog 11 #[.slice a1 l1 c1, .slice a2 l2 c2] w fun e w' => e = .returned (.bool false) ∧ w' = w := by
  have e1 := conv_reads w a1 l1 c1 zs hz h1
  have e2 := conv_reads w a2 l2 c2 ys hy h2
  have hs : ¬ strB zs = strB ys := fun e => hne (strB_inj hz hy e)
  clear h1 h2
  generalize strB zs = S at *
  generalize strB ys = T at *
  go_enter Try.func11, Try.ntmps11
  go_wp2
  go_ret
  refine ⟨?_, rfl⟩
  simp
  first | exact hs | (simpa using hs)
/-- blocks that are as they were -/
def Kept (w w' : World) (gs : List Nat) : Prop := ∀ g ∈ gs, w'.heap[g]? = w.heap[g]?
theorem Kept.trans {w w1 w2 : World} {gs : List Nat} (h : Kept w w1 gs) (h' : Kept w1 w2 gs) : Kept w w2 gs := fun g hg => (h' g hg).trans (h g hg)
/-- a stack, some calls on, beside blocks that are no part of it -/
def RunG (B m : Nat) (w0 w : World) (s : Ks) (gs : List Nat) : Prop := ∃ v, KAt B w m v s ∧ Below B w0 w ∧ B ≤ w.heap.size ∧ ∀ g ∈ gs, g < w.heap.size ∧ ¬ TK m v g
theorem RunG.of {B m : Nat} {w0 w : World} {s : Ks} (r : RunK B m w0 w s) : RunG B m w0 w s [] := by
  obtain ⟨v, h1, h2, h3⟩ := r
  exact ⟨v, h1, h2, h3, fun g hg => by cases hg⟩
theorem RunG.run {B m : Nat} {w0 w : World} {s : Ks} {gs : List Nat} (r : RunG B m w0 w s gs) : RunK B m w0 w s := by
  obtain ⟨v, h1, h2, h3, _⟩ := r
  exact ⟨v, h1, h2, h3⟩
theorem RunG.left {B m : Nat} {w0 w w' : World} {v : Value} {s s' : Ks} {gs : List Nat} (h : KAt B w m v s) (hb : Below B w0 w) (hB : B ≤ w.heap.size) (hg : ∀ g ∈ gs, g < w.heap.size ∧ ¬ TK m v g) (l : LeftK B w w' m v s') : RunG B m w0 w' s' gs ∧ Kept w w' gs := by
  obtain ⟨v', h1, f⟩ := l
  refine ⟨⟨v', h1, hb.trans (f.below hB (fun k e => (h.low k e).1)), Nat.le_trans hB f.size, fun g hm => ⟨Nat.lt_of_lt_of_le (hg g hm).1 f.size, fun e => ?_⟩⟩, fun g hm => f.block g (hg g hm).1 (hg g hm).2⟩
  rcases f.row g e with h' | h'
  · exact (hg g hm).2 h'
  · have := (hg g hm).1; omega
theorem RunG.later {B m : Nat} {w0 w w' : World} {s : Ks} {gs : List Nat} (r : RunG B m w0 w s gs) (hb : Below w.heap.size w w') : RunG B m w0 w' s gs ∧ Kept w w' gs := by
  obtain ⟨v, h1, h2, h3, hg⟩ := r
  exact ⟨⟨v, h1.later hb, h2.trans (hb.mono h3), Nat.le_trans h3 hb.size, fun g hm => ⟨Nat.lt_of_lt_of_le (hg g hm).1 hb.size, (hg g hm).2⟩⟩, fun g hm => hb.block g (hg g hm).1⟩
theorem RunG.fresh {B m : Nat} {w0 w w' : World} {s : Ks} {gs : List Nat} (r : RunG B m w0 w s gs) (hb : Below w.heap.size w w') (g : Nat) (h1 : w.heap.size ≤ g) (h2 : g < w'.heap.size) : RunG B m w0 w' s (g :: gs) := by
  obtain ⟨v, k1, k2, k3, hg⟩ := r
  refine ⟨v, k1.later hb, k2.trans (hb.mono k3), Nat.le_trans k3 hb.size, fun k hm => ?_⟩
  rcases List.mem_cons.1 hm with rfl | hm
  · exact ⟨h2, fun e => by have := (k1.low _ e).2; omega⟩
  · exact ⟨Nat.lt_of_lt_of_le (hg k hm).1 hb.size, (hg k hm).2⟩
theorem RunG.roll {B m : Nat} {w0 w : World} {s : Ks} {gs : List Nat} (r : RunG B m w0 w s gs) (ok : OkK s) (n k : Nat) (hn : n < 4294967296) (hk : k < 4294967296) :
    Calls Try.prog 17 #[.pointer (some ⟨m, 0, none⟩), .int .u32 n, .int .u32 k] w fun e w' => e = .returned (.int .i64 (rollE s n)) ∧ RunG B m w0 w' (rollS s n k) gs ∧ Kept w w' gs := by
  obtain ⟨v, h1, h2, h3, hg⟩ := r
  exact (kRoll_any B m n k v s w h1 ok hn hk).mono (fun e w' hh => ⟨hh.1, RunG.left h1 h2 h3 hg hh.2⟩)
theorem RunG.peek {B m : Nat} {w0 w : World} {s : Ks} {gs : List Nat} (r : RunG B m w0 w s gs) (ok : OkK s) (x : Nat) (hx : x < 4294967296) :
    Calls Try.prog 18 #[.pointer (some ⟨m, 0, none⟩), .int .u32 x] w fun e w' => e = .returned (.tuple #[.int .u32 (peekV s x), .int .i64 (peekE s x)]) ∧ RunG B m w0 w' s gs ∧ Kept w w' gs := by
  have r' := r
  obtain ⟨v, h1, h2, h3, hg⟩ := r
  obtain ⟨a, c, rfl, kc⟩ := h1.kc'
  exact (kPeek_any m x a c s w kc (h1.sm ok) ok hx).mono (fun e w' hh => ⟨hh.1, r'.later hh.2.below⟩)
/-- rows of the call's own that are no part of the stack -/
def RowIn (w : World) (a : Option Addr) (n c : Nat) (zs : List Int) (gs : List Nat) : Prop := Reads w a n c zs ∧ (∀ x, a = some x → x.block ∈ gs)
theorem RowIn.kept {w w' : World} {a : Option Addr} {n c : Nat} {zs : List Int} {gs : List Nat} (h : RowIn w a n c zs gs) (k : Kept w w' gs) : RowIn w' a n c zs gs := by
  obtain ⟨⟨h1, h2, h3⟩, h4⟩ := h
  refine ⟨⟨h1, h2, ?_⟩, h4⟩
  rcases h3 with h3 | ⟨x, rfl, hc⟩
  · exact .inl h3
  · refine .inr ⟨x, rfl, fun i hi => ?_⟩
    have hb : (x.add i).block = x.block := by unfold Addr.add; split <;> rfl
    exact (World.cell?_of_block (by rw [hb]; exact k _ (h4 x rfl))).trans (hc i hi)
theorem RowIn.more {w : World} {a : Option Addr} {n c : Nat} {zs : List Int} {gs : List Nat} (h : RowIn w a n c zs gs) (g : Nat) : RowIn w a n c zs (g :: gs) := ⟨h.1, fun x e => List.mem_cons_of_mem _ (h.2 x e)⟩
theorem RunG.less {B m : Nat} {w0 w : World} {s : Ks} {gs gs' : List Nat} (r : RunG B m w0 w s gs) (hs : ∀ g ∈ gs', g ∈ gs) : RunG B m w0 w s gs' := by
  obtain ⟨v, h1, h2, h3, hg⟩ := r
  exact ⟨v, h1, h2, h3, fun g hm => hg g (hs g hm)⟩
theorem RowIn.wide {w : World} {a : Option Addr} {n c : Nat} {zs : List Int} {gs gs' : List Nat} (h : RowIn w a n c zs gs) (hs : ∀ g ∈ gs, g ∈ gs') : RowIn w a n c zs gs' := ⟨h.1, fun x e => hs _ (h.2 x e)⟩
theorem RunG.bytes {B m : Nat} {w0 w : World} {s : Ks} {gs : List Nat} (r : RunG B m w0 w s gs) (ok : OkK s) :
    Calls Try.prog 7 #[.pointer (some ⟨m, 0, none⟩)] w fun e w' => ∃ a' c' gs', e = .returned (.slice a' s.bs.length c') ∧ RowIn w' a' s.bs.length c' s.bs gs' ∧ RunG B m w0 w' s gs' ∧ (∀ g ∈ gs, g ∈ gs') ∧ Kept w w' gs := by
  have r' := r
  obtain ⟨v, h1, h2, h3, hg⟩ := r
  refine (kBytes_any B m v s w h1 (by have := ok.sz; have := ok.most; omega)).mono ?_
  rintro e w' ⟨a', c', rfl, ho, hb⟩
  have hk := r'.later hb
  rcases ho.2 with ⟨h4, h5⟩ | ⟨g, cap, cur, h4, _⟩
  · simp only [Value.slice.injEq] at h4
    obtain ⟨rfl, _, rfl⟩ := h4
    exact ⟨none, 0, gs, rfl, ⟨own_read8 (v := .slice none s.bs.length 0) ho, fun x e => by cases e⟩, hk.1, fun g h => h, hk.2⟩
  · simp only [Value.slice.injEq] at h4
    obtain ⟨rfl, _, rfl⟩ := h4
    have hgl := ho.lt g rfl
    exact ⟨_, _, g :: gs, rfl, ⟨own_read8 (v := .slice (some ⟨g, 0, none⟩) s.bs.length c') ho, fun x e => by cases e; exact List.mem_cons_self⟩, r'.fresh hb g hgl.1 hgl.2, fun k h => List.mem_cons_of_mem _ h, hk.2⟩
end Go.Proofs.Ythhkennomnmjkaa
