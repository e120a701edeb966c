/- The program's stack and the document's, each some calls on, beside blocks that are left alone. An act in both stacks: the simple kinds. An act in both stacks: Unstub, a return, Throw below the top, a call. An act in both stacks: Load. An act in both stacks: a copy goes on; Enter; all others. An argument that is a slice of acts, opened; contract of grottolaw10.huge. An act of any kind in both stacks; grottolaw10's begin behind any acts. The program's stack beside blocks that are left alone: each call; values on top of it. -/
import Derived.Test.YthhkennomnmjkaaM10E
import Derived.Test.YthhkennomnmjkaaM10D
import Derived.Test.YthhkennomnmjkaaM10B
import Derived.Test.YthhkennomnmjkaaM10A
import Derived.Test.YthhkennomnmjkaaT10j
import Derived.Test.YthhkennomnmjkaaV10f
import Derived.Deep.Slices
import Derived.Deep.SlicePairs
import Derived.ChangeSlices
import Derived.SizedLaws
import Derived.Lib.SmallJoins
import Derived.BigQuiet
import Derived.Deep.QuietTactic
import Derived.Test.YthhkennomnmjkaaT10i
namespace Go.Proofs.Ythhkennomnmjkaa
open Go.RowKit
set_option maxHeartbeats 1000000
set_option maxRecDepth 100000
set_option linter.unusedVariables false

/-- the program's stack is at s, the document's at t; the blocks gs are no part of either -/
def Two (B m d : Nat) (w0 w : World) (s t : Ks) (gs : List Nat) : Prop := ∃ v u, KAt B w m v s ∧ DAt B w d u t ∧ (∀ k, TK m v k → ¬ TK d u k) ∧ Below B w0 w ∧ B ≤ w.heap.size ∧ ∀ g ∈ gs, g < w.heap.size ∧ ¬ TK m v g ∧ ¬ TK d u g
theorem Two.nextK {B m d : Nat} {w0 w w' : World} {v u : Value} {s t s' : Ks} {gs : List Nat} (h1 : KAt B w m v s) (h2 : DAt B w d u t) (h4 : ∀ k, TK m v k → ¬ TK d u k) (h5 : Below B w0 w) (h6 : B ≤ w.heap.size) (hg : ∀ g ∈ gs, g < w.heap.size ∧ ¬ TK m v g ∧ ¬ TK d u g) (l : LeftK B w w' m v s') : Two B m d w0 w' s' t gs ∧ Kept w w' gs := by
  obtain ⟨v', hp', f⟩ := l
  refine ⟨⟨v', u, hp', ⟨h2.base, by rw [f.block d h2.lt (fun e => h4 d e (.inl rfl))]; exact h2.box, own8_fm f h2.row (fun k e e' => h4 k e' (.inr e))⟩, fun k hk e => ?_, h5.trans (f.below h6 (fun k e => (h1.low k e).1)), Nat.le_trans h6 f.size, fun g hm => ?_⟩, fun g hm => f.block g (hg g hm).1 (hg g hm).2.1⟩
  · rcases f.row k hk with h' | h'
    · exact h4 k h' e
    · have := (h2.low k e).2; omega
  · obtain ⟨g1, g2, g3⟩ := hg g hm
    refine ⟨Nat.lt_of_lt_of_le g1 f.size, fun e => ?_, g3⟩
    rcases f.row g e with h' | h'
    · exact g2 h'
    · omega
theorem Two.nextD {B m d : Nat} {w0 w w' : World} {v u : Value} {s t t' : Ks} {gs : List Nat} (h1 : KAt B w m v s) (h2 : DAt B w d u t) (h4 : ∀ k, TK m v k → ¬ TK d u k) (h5 : Below B w0 w) (h6 : B ≤ w.heap.size) (hg : ∀ g ∈ gs, g < w.heap.size ∧ ¬ TK m v g ∧ ¬ TK d u g) (l : LeftD B w w' d u t') : Two B m d w0 w' s t' gs ∧ Kept w w' gs := by
  obtain ⟨u', hp', f⟩ := l
  refine ⟨⟨v, u', ⟨h1.base, by rw [f.block m h1.lt (fun e => h4 m (.inl rfl) e)]; exact h1.box, own8_fm f h1.row (fun k e e' => h4 k (.inr e) e')⟩, hp', fun k hk e => ?_, h5.trans (f.below h6 (fun k e => (h2.low k e).1)), Nat.le_trans h6 f.size, fun g hm => ?_⟩, fun g hm => f.block g (hg g hm).1 (hg g hm).2.2⟩
  · rcases f.row k e with h' | h'
    · exact h4 k hk h'
    · have := (h1.low k hk).2; omega
  · obtain ⟨g1, g2, g3⟩ := hg g hm
    refine ⟨Nat.lt_of_lt_of_le g1 f.size, g2, fun e => ?_⟩
    rcases f.row g e with h' | h'
    · exact g3 h'
    · omega
theorem Two.later {B m d : Nat} {w0 w w' : World} {s t : Ks} {gs : List Nat} (r : Two B m d w0 w s t gs) (hb : Below w.heap.size w w') : Two B m d w0 w' s t gs ∧ Kept w w' gs := by
  obtain ⟨v, u, h1, h2, h4, h5, h6, hg⟩ := r
  exact ⟨⟨v, u, h1.later hb, h2.later hb, h4, h5.trans (hb.mono h6), Nat.le_trans h6 hb.size, fun g hm => ⟨Nat.lt_of_lt_of_le (hg g hm).1 hb.size, (hg g hm).2⟩⟩, fun g hm => hb.block g (hg g hm).1⟩
/-- a block that came anew is no part of either -/
theorem Two.fresh {B m d : Nat} {w0 w w' : World} {s t : Ks} {gs : List Nat} (r : Two B m d w0 w s t gs) (hb : Below w.heap.size w w') (g : Nat) (hg1 : w.heap.size ≤ g) (hg2 : g < w'.heap.size) : Two B m d w0 w' s t (g :: gs) := by
  obtain ⟨v, u, h1, h2, h4, h5, h6, hg⟩ := r
  refine ⟨v, u, h1.later hb, h2.later hb, h4, h5.trans (hb.mono h6), Nat.le_trans h6 hb.size, fun k hm => ?_⟩
  rcases List.mem_cons.1 hm with rfl | hm
  · exact ⟨hg2, fun e => by have := (h1.low _ e).2; omega, fun e => by have := (h2.low _ e).2; omega⟩
  · exact ⟨Nat.lt_of_lt_of_le (hg k hm).1 hb.size, (hg k hm).2⟩
/-- so is one that was there first -/
theorem Two.low {B m d : Nat} {w0 w : World} {s t : Ks} {gs : List Nat} (r : Two B m d w0 w s t gs) (g : Nat) (h : g < B) : Two B m d w0 w s t (g :: gs) := by
  obtain ⟨v, u, h1, h2, h4, h5, h6, hg⟩ := r
  refine ⟨v, u, h1, h2, h4, h5, h6, fun k hm => ?_⟩
  rcases List.mem_cons.1 hm with rfl | hm
  · exact ⟨by omega, fun e => by have := (h1.low _ e).1; omega, fun e => by have := (h2.low _ e).1; omega⟩
  · exact hg k hm
theorem Two.less {B m d : Nat} {w0 w : World} {s t : Ks} {gs gs' : List Nat} (r : Two B m d w0 w s t gs) (hs : ∀ g ∈ gs', g ∈ gs) : Two B m d w0 w s t gs' := by
  obtain ⟨v, u, h1, h2, h4, h5, h6, hg⟩ := r
  exact ⟨v, u, h1, h2, h4, h5, h6, fun g hm => hg g (hs g hm)⟩
theorem Two.run {B m d : Nat} {w0 w : World} {s t : Ks} {gs : List Nat} (r : Two B m d w0 w s t gs) : RunK B m w0 w s := by
  obtain ⟨v, u, h1, h2, h4, h5, h6, hg⟩ := r
  exact ⟨v, h1, h5, h6⟩
/-- words that are no part of either -/
def WordsIn (w : World) (a : Option Addr) (n : Nat) (xs : List Nat) (gs : List Nat) : Prop := VRow w a n xs ∧ (0 < n → ∀ x, a = some x → x.block ∈ gs)
theorem WordsIn.kept {w w' : World} {a : Option Addr} {n : Nat} {xs : List Nat} {gs : List Nat} (h : WordsIn w a n xs gs) (k : Kept w w' gs) : WordsIn w' a n xs gs :=
  ⟨⟨h.1.ln, h.1.bd, fun i hi => by
    obtain ⟨b, o, e, hc⟩ := h.1.cells i hi
    have hk := k _ (h.2 (by omega) _ e)
    exact ⟨b, o, e, (World.cell?_of_block (a := ⟨b, o + i, none⟩) hk).trans hc⟩⟩, h.2⟩
theorem WordsIn.more {w : World} {a : Option Addr} {n : Nat} {xs : List Nat} {gs : List Nat} (h : WordsIn w a n xs gs) (g : Nat) : WordsIn w a n xs (g :: gs) := ⟨h.1, fun h0 x e => List.mem_cons_of_mem _ (h.2 h0 x e)⟩
/-- bytes that are no part of either -/
def RowZ (w : World) (a : Option Addr) (n c : Nat) (zs : List Int) (gs : List Nat) : Prop := Reads w a n c zs ∧ (0 < n → ∀ x, a = some x → x.block ∈ gs)
theorem RowZ.kept {w w' : World} {a : Option Addr} {n c : Nat} {zs : List Int} {gs : List Nat} (h : RowZ w a n c zs gs) (k : Kept w w' gs) : RowZ w' a n c zs gs := by
  obtain ⟨⟨h1, h2, h3⟩, h4⟩ := h
  refine ⟨⟨h1, h2, ?_⟩, h4⟩
  rcases h3 with h3 | ⟨x, rfl, hc⟩
  · exact .inl h3
  · refine .inr ⟨x, rfl, fun i hi => ?_⟩
    have hb : (x.add i).block = x.block := by unfold Addr.add; split <;> rfl
    exact (World.cell?_of_block (by rw [hb]; exact k _ (h4 (by omega) x rfl))).trans (hc i hi)
theorem RowZ.more {w : World} {a : Option Addr} {n c : Nat} {zs : List Int} {gs : List Nat} (h : RowZ w a n c zs gs) (g : Nat) : RowZ w a n c zs (g :: gs) := ⟨h.1, fun h0 x e => List.mem_cons_of_mem _ (h.2 h0 x e)⟩
theorem kEnter_z (B m : Nat) (v : Value) (s : Ks) (fa : Option Addr) (n fc : Nat) (zs : List Int) (w : World) (h : KAt B w m v s) (hB : B ≤ w.heap.size) (ok : OkK s) (hr : Reads w fa n fc zs) (hz : OkB zs) (hn : n ≤ 100000) (hnt : 0 < n → ∀ x, fa = some x → ¬ TK m v x.block) :
    Calls Try.prog 15 #[.pointer (some ⟨m, 0, none⟩), .slice fa n fc] w fun e w' => e = .returned (.int .i64 (enterE s zs)) ∧ LeftK B w w' m v (enterS s zs) := by
  by_cases h0 : 0 < n
  · exact kEnter_any B m v s fa n fc zs w h hB ok hr hz hn (hnt h0)
  · have e : zs = [] := List.length_eq_zero_iff.1 (by have := hr.1; omega)
    have h1 : (locR zs).2.2 ≠ 0 := by rw [e]; decide
    have e2 : enterE s zs = 102 := by unfold enterE; rw [if_pos (.inl h1)]
    have e3 : enterS s zs = s := by unfold enterS; rw [e2]; rfl
    rw [e2, e3]
    exact kEnter_bad B m v s fa n fc zs w h ok hr hz hn h1
theorem dEnter_z (B m : Nat) (v : Value) (s : Ks) (fa : Option Addr) (n fc : Nat) (zs : List Int) (w : World) (h : DAt B w m v s) (hB : B ≤ w.heap.size) (ok : OkK s) (hr : Reads w fa n fc zs) (hz : OkB zs) (hn : n ≤ 100000) (hnt : 0 < n → ∀ x, fa = some x → ¬ TK m v x.block) :
    Calls Try.prog 23 #[.pointer (some ⟨m, 0, none⟩), .slice fa n fc] w fun e w' => e = .returned (.int .i64 (enterE s zs)) ∧ LeftD B w w' m v (enterS s zs) := by
  by_cases h0 : 0 < n
  · exact dEnter_any B m v s fa n fc zs w h hB ok hr hz hn (hnt h0)
  · have e : zs = [] := List.length_eq_zero_iff.1 (by have := hr.1; omega)
    have h1 : (locR zs).2.2 ≠ 0 := by rw [e]; decide
    have e2 : enterE s zs = 102 := by unfold enterE; rw [if_pos (.inl h1)]
    have e3 : enterS s zs = s := by unfold enterS; rw [e2]; rfl
    rw [e2, e3]
    exact dEnter_bad B m v s fa n fc zs w h hr hz hn h1

theorem Two.kPush {B m d : Nat} {w0 w : World} {s t : Ks} {gs : List Nat} (r : Two B m d w0 w s t gs) (ok : OkK s) (x : Nat) (hx : x < 4294967296) :
    Calls Try.prog 16 #[.pointer (some ⟨m, 0, none⟩), .int .u32 x] w fun e w' => e = .returned (.int .i64 (pushE s)) ∧ Two B m d w0 w' (pushS s x) t gs ∧ Kept w w' gs := by
  obtain ⟨v, u, h1, h2, h4, h5, h6, hg⟩ := r
  exact (kPush_any B m x v s w h1 h6 ok hx).mono (fun e w' hh => ⟨hh.1, Two.nextK h1 h2 h4 h5 h6 hg hh.2⟩)
theorem Two.dPush {B m d : Nat} {w0 w : World} {s t : Ks} {gs : List Nat} (r : Two B m d w0 w s t gs) (ok : OkK t) (x : Nat) (hx : x < 4294967296) :
    Calls Try.prog 25 #[.pointer (some ⟨d, 0, none⟩), .int .u32 x] w fun e w' => e = .returned (.int .i64 (pushE t)) ∧ Two B m d w0 w' s (pushS t x) gs ∧ Kept w w' gs := by
  obtain ⟨v, u, h1, h2, h4, h5, h6, hg⟩ := r
  exact (dPush_any B d x u t w h2 h6 ok hx).mono (fun e w' hh => ⟨hh.1, Two.nextD h1 h2 h4 h5 h6 hg hh.2⟩)
theorem Two.kPop {B m d : Nat} {w0 w : World} {s t : Ks} {gs : List Nat} (r : Two B m d w0 w s t gs) (ok : OkK s) :
    Calls Try.prog 26 #[.pointer (some ⟨m, 0, none⟩)] w fun e w' => e = .returned (.tuple #[.int .u32 (peekV s 0), .int .i64 (peekE s 0)]) ∧ Two B m d w0 w' (popS s) t gs ∧ Kept w w' gs := by
  obtain ⟨v, u, h1, h2, h4, h5, h6, hg⟩ := r
  exact (kPop_any B m v s w h1 ok).mono (fun e w' hh => ⟨hh.1, Two.nextK h1 h2 h4 h5 h6 hg hh.2⟩)
theorem Two.dPop {B m d : Nat} {w0 w : World} {s t : Ks} {gs : List Nat} (r : Two B m d w0 w s t gs) (ok : OkK t) :
    Calls Try.prog 27 #[.pointer (some ⟨d, 0, none⟩)] w fun e w' => e = .returned (.tuple #[.int .u32 (peekV t 0), .int .i64 (peekE t 0)]) ∧ Two B m d w0 w' s (popS t) gs ∧ Kept w w' gs := by
  obtain ⟨v, u, h1, h2, h4, h5, h6, hg⟩ := r
  exact (dPop_any B d u t w h2 h6 ok).mono (fun e w' hh => ⟨hh.1, Two.nextD h1 h2 h4 h5 h6 hg hh.2⟩)
theorem Two.kPeek {B m d : Nat} {w0 w : World} {s t : Ks} {gs : List Nat} (r : Two B m d w0 w s t gs) (ok : OkK s) (x : Nat) (hx : x < 4294967296) :
    Calls Try.prog 18 #[.pointer (some ⟨m, 0, none⟩), .int .u32 x] w fun e w' => e = .returned (.tuple #[.int .u32 (peekV s x), .int .i64 (peekE s x)]) ∧ Two B m d w0 w' s t gs ∧ Kept w w' gs := by
  have r' := r
  obtain ⟨v, u, h1, h2, h4, h5, h6, hg⟩ := r
  obtain ⟨a, c, rfl, kc⟩ := h1.kc'
  exact (kPeek_any m x a c s w kc (h1.sm ok) ok hx).mono (fun e w' hh => ⟨hh.1, r'.later hh.2.below⟩)
theorem Two.dPeek {B m d : Nat} {w0 w : World} {s t : Ks} {gs : List Nat} (r : Two B m d w0 w s t gs) (ok : OkK t) (x : Nat) (hx : x < 4294967296) :
    Calls Try.prog 28 #[.pointer (some ⟨d, 0, none⟩), .int .u32 x] w fun e w' => e = .returned (.tuple #[.int .u32 (peekV t x), .int .i64 (peekE t x)]) ∧ Two B m d w0 w' s t gs ∧ Kept w w' gs := by
  have r' := r
  obtain ⟨v, u, h1, h2, h4, h5, h6, hg⟩ := r
  obtain ⟨a, c, rfl, dc⟩ := h2.dc
  exact (dPeek_any d x a c t w dc ok hx).mono (fun e w' hh => ⟨hh.1, r'.later hh.2⟩)
theorem Two.kSwap {B m d : Nat} {w0 w : World} {s t : Ks} {gs : List Nat} (r : Two B m d w0 w s t gs) (ok : OkK s) :
    Calls Try.prog 29 #[.pointer (some ⟨m, 0, none⟩)] w fun e w' => e = .returned (.int .i64 (rollE s 2)) ∧ Two B m d w0 w' (rollS s 2 1) t gs ∧ Kept w w' gs := by
  obtain ⟨v, u, h1, h2, h4, h5, h6, hg⟩ := r
  exact (kSwap_any B m v s w h1 ok).mono (fun e w' hh => ⟨hh.1, Two.nextK h1 h2 h4 h5 h6 hg hh.2⟩)
theorem Two.dSwap {B m d : Nat} {w0 w : World} {s t : Ks} {gs : List Nat} (r : Two B m d w0 w s t gs) (ok : OkK t) :
    Calls Try.prog 30 #[.pointer (some ⟨d, 0, none⟩)] w fun e w' => e = .returned (.int .i64 (rollE t 2)) ∧ Two B m d w0 w' s (rollS t 2 1) gs ∧ Kept w w' gs := by
  obtain ⟨v, u, h1, h2, h4, h5, h6, hg⟩ := r
  exact (dSwap_any B d u t w h2 h6 ok).mono (fun e w' hh => ⟨hh.1, Two.nextD h1 h2 h4 h5 h6 hg hh.2⟩)
theorem Two.kRoll {B m d : Nat} {w0 w : World} {s t : Ks} {gs : List Nat} (r : Two B m d w0 w s t gs) (ok : OkK s) (n k : Nat) (hn : n < 4294967296) (hk : k < 4294967296) :
    Calls Try.prog 17 #[.pointer (some ⟨m, 0, none⟩), .int .u32 n, .int .u32 k] w fun e w' => e = .returned (.int .i64 (rollE s n)) ∧ Two B m d w0 w' (rollS s n k) t gs ∧ Kept w w' gs := by
  obtain ⟨v, u, h1, h2, h4, h5, h6, hg⟩ := r
  exact (kRoll_any B m n k v s w h1 ok hn hk).mono (fun e w' hh => ⟨hh.1, Two.nextK h1 h2 h4 h5 h6 hg hh.2⟩)
theorem Two.dRoll {B m d : Nat} {w0 w : World} {s t : Ks} {gs : List Nat} (r : Two B m d w0 w s t gs) (ok : OkK t) (n k : Nat) (hn : n < 4294967296) (hk : k < 4294967296) :
    Calls Try.prog 31 #[.pointer (some ⟨d, 0, none⟩), .int .u32 n, .int .u32 k] w fun e w' => e = .returned (.int .i64 (rollE t n)) ∧ Two B m d w0 w' s (rollS t n k) gs ∧ Kept w w' gs := by
  obtain ⟨v, u, h1, h2, h4, h5, h6, hg⟩ := r
  exact (dRoll_any B d n k u t w h2 h6 ok hn hk).mono (fun e w' hh => ⟨hh.1, Two.nextD h1 h2 h4 h5 h6 hg hh.2⟩)
theorem Two.kDup {B m d : Nat} {w0 w : World} {s t : Ks} {gs : List Nat} (r : Two B m d w0 w s t gs) (ok : OkK s) (n : Nat) (hn : n < 4294967296) :
    Calls Try.prog 32 #[.pointer (some ⟨m, 0, none⟩), .int .u32 n] w fun e w' => e = .returned (.int .i64 (dupE s n)) ∧ Two B m d w0 w' (dupS s n) t gs ∧ Kept w w' gs := by
  obtain ⟨v, u, h1, h2, h4, h5, h6, hg⟩ := r
  exact (kDup_any B m n v s w h1 h6 ok hn).mono (fun e w' hh => ⟨hh.1, Two.nextK h1 h2 h4 h5 h6 hg hh.2⟩)
theorem Two.dDup {B m d : Nat} {w0 w : World} {s t : Ks} {gs : List Nat} (r : Two B m d w0 w s t gs) (ok : OkK t) (n : Nat) (hn : n < 4294967296) :
    Calls Try.prog 33 #[.pointer (some ⟨d, 0, none⟩), .int .u32 n] w fun e w' => e = .returned (.int .i64 (dupE t n)) ∧ Two B m d w0 w' s (dupS t n) gs ∧ Kept w w' gs := by
  obtain ⟨v, u, h1, h2, h4, h5, h6, hg⟩ := r
  exact (dDup_any B d n u t w h2 h6 ok hn).mono (fun e w' hh => ⟨hh.1, Two.nextD h1 h2 h4 h5 h6 hg hh.2⟩)
theorem Two.kEnter {B m d : Nat} {w0 w : World} {s t : Ks} {gs : List Nat} (r : Two B m d w0 w s t gs) (ok : OkK s) (fa : Option Addr) (n fc : Nat) (zs : List Int) (hr : RowZ w fa n fc zs gs) (hz : OkB zs) (hn : n ≤ 100000) :
    Calls Try.prog 15 #[.pointer (some ⟨m, 0, none⟩), .slice fa n fc] w fun e w' => e = .returned (.int .i64 (enterE s zs)) ∧ Two B m d w0 w' (enterS s zs) t gs ∧ Kept w w' gs := by
  obtain ⟨v, u, h1, h2, h4, h5, h6, hg⟩ := r
  exact (kEnter_z B m v s fa n fc zs w h1 h6 ok hr.1 hz hn (fun h0 x e => (hg _ (hr.2 h0 x e)).2.1)).mono (fun e w' hh => ⟨hh.1, Two.nextK h1 h2 h4 h5 h6 hg hh.2⟩)
theorem Two.dEnter {B m d : Nat} {w0 w : World} {s t : Ks} {gs : List Nat} (r : Two B m d w0 w s t gs) (ok : OkK t) (fa : Option Addr) (n fc : Nat) (zs : List Int) (hr : RowZ w fa n fc zs gs) (hz : OkB zs) (hn : n ≤ 100000) :
    Calls Try.prog 23 #[.pointer (some ⟨d, 0, none⟩), .slice fa n fc] w fun e w' => e = .returned (.int .i64 (enterE t zs)) ∧ Two B m d w0 w' s (enterS t zs) gs ∧ Kept w w' gs := by
  obtain ⟨v, u, h1, h2, h4, h5, h6, hg⟩ := r
  exact (dEnter_z B d u t fa n fc zs w h2 h6 ok hr.1 hz hn (fun h0 x e => (hg _ (hr.2 h0 x e)).2.2)).mono (fun e w' hh => ⟨hh.1, Two.nextD h1 h2 h4 h5 h6 hg hh.2⟩)
theorem Two.kLeave {B m d : Nat} {w0 w : World} {s t : Ks} {gs : List Nat} (r : Two B m d w0 w s t gs) (ok : OkK s) :
    Calls Try.prog 36 #[.pointer (some ⟨m, 0, none⟩)] w fun e w' => e = .returned (.int .i64 (leaveE s)) ∧ Two B m d w0 w' (leaveS s) t gs ∧ Kept w w' gs := by
  obtain ⟨v, u, h1, h2, h4, h5, h6, hg⟩ := r
  exact (kLeave_any B m v s w h1 ok).mono (fun e w' hh => ⟨hh.1, Two.nextK h1 h2 h4 h5 h6 hg hh.2⟩)
theorem Two.dLeave {B m d : Nat} {w0 w : World} {s t : Ks} {gs : List Nat} (r : Two B m d w0 w s t gs) (ok : OkK t) :
    Calls Try.prog 37 #[.pointer (some ⟨d, 0, none⟩)] w fun e w' => e = .returned (.int .i64 (leaveE t)) ∧ Two B m d w0 w' s (leaveS t) gs ∧ Kept w w' gs := by
  obtain ⟨v, u, h1, h2, h4, h5, h6, hg⟩ := r
  exact (dLeave_any B d u t w h2 h6 ok).mono (fun e w' hh => ⟨hh.1, Two.nextD h1 h2 h4 h5 h6 hg hh.2⟩)
theorem Two.kArgs {B m d : Nat} {w0 w : World} {s t : Ks} {gs : List Nat} (r : Two B m d w0 w s t gs) (ok : OkK s) (la : Option Addr) (len lc : Nat) (xs : List Nat) (hv : WordsIn w la len xs gs) (hlc : len ≤ lc) :
    Calls Try.prog 38 #[.pointer (some ⟨m, 0, none⟩), .slice la len lc] w fun e w' => e = .returned (.int .i64 (lackE s 0)) ∧ Two B m d w0 w' (argsS s xs) t gs ∧ Kept w w' gs := by
  obtain ⟨v, u, h1, h2, h4, h5, h6, hg⟩ := r
  exact (kArgs_any B m v s w h1 ok la len lc xs hv.1 hlc (fun h0 x e => ⟨(hg _ (hv.2 h0 x e)).1, (hg _ (hv.2 h0 x e)).2.1⟩)).mono (fun e w' hh => ⟨hh.1, Two.nextK h1 h2 h4 h5 h6 hg hh.2⟩)
theorem Two.dArgs {B m d : Nat} {w0 w : World} {s t : Ks} {gs : List Nat} (r : Two B m d w0 w s t gs) (ok : OkK t) (la : Option Addr) (len lc : Nat) (xs : List Nat) (hv : WordsIn w la len xs gs) (hlc : len ≤ lc) :
    Calls Try.prog 39 #[.pointer (some ⟨d, 0, none⟩), .slice la len lc] w fun e w' => e = .returned (.int .i64 (lackE t 0)) ∧ Two B m d w0 w' s (argsS t xs) gs ∧ Kept w w' gs := by
  obtain ⟨v, u, h1, h2, h4, h5, h6, hg⟩ := r
  exact (dArgs_any B d u t w h2 ok la len lc xs hv.1 hlc (fun h0 x e => ⟨(hg _ (hv.2 h0 x e)).1, (hg _ (hv.2 h0 x e)).2.2⟩)).mono (fun e w' hh => ⟨hh.1, Two.nextD h1 h2 h4 h5 h6 hg hh.2⟩)
theorem Two.kLocal {B m d : Nat} {w0 w : World} {s t : Ks} {gs : List Nat} (r : Two B m d w0 w s t gs) (ok : OkK s) (x : Nat) (n : Int) (hx : x < 4294967296) :
    Calls Try.prog 40 #[.pointer (some ⟨m, 0, none⟩), .int .u32 x, .int .i64 n] w fun e w' => e = .returned (.tuple #[.int .u32 (locV s x n), .int .i64 (locE s x n)]) ∧ Two B m d w0 w' s t gs ∧ Kept w w' gs := by
  have r' := r
  obtain ⟨v, u, h1, h2, h4, h5, h6, hg⟩ := r
  exact (kLocal_any B m x n v s w h1 ok hx).mono (fun e w' hh => ⟨hh.1, r'.later hh.2.below⟩)
theorem Two.dLocal {B m d : Nat} {w0 w : World} {s t : Ks} {gs : List Nat} (r : Two B m d w0 w s t gs) (ok : OkK t) (x : Nat) (n : Int) (hx : x < 4294967296) :
    Calls Try.prog 41 #[.pointer (some ⟨d, 0, none⟩), .int .u32 x, .int .i64 n] w fun e w' => e = .returned (.tuple #[.int .u32 (locV t x n), .int .i64 (locE t x n)]) ∧ Two B m d w0 w' s t gs ∧ Kept w w' gs := by
  have r' := r
  obtain ⟨v, u, h1, h2, h4, h5, h6, hg⟩ := r
  exact (dLocal_any B d x n u t w h2 ok hx).mono (fun e w' hh => ⟨hh.1, r'.later hh.2⟩)
theorem Two.kSetLocal {B m d : Nat} {w0 w : World} {s t : Ks} {gs : List Nat} (r : Two B m d w0 w s t gs) (ok : OkK s) (x y : Nat) (n : Int) (hx : x < 4294967296) (hy : y < 4294967296) :
    Calls Try.prog 42 #[.pointer (some ⟨m, 0, none⟩), .int .u32 x, .int .i64 n, .int .u32 y] w fun e w' => e = .returned (.int .i64 (locE s x n)) ∧ Two B m d w0 w' (setS s x n y) t gs ∧ Kept w w' gs := by
  obtain ⟨v, u, h1, h2, h4, h5, h6, hg⟩ := r
  exact (kSetLocal_any B m x y n v s w h1 ok hx).mono (fun e w' hh => ⟨hh.1, Two.nextK h1 h2 h4 h5 h6 hg hh.2⟩)
theorem Two.dSetLocal {B m d : Nat} {w0 w : World} {s t : Ks} {gs : List Nat} (r : Two B m d w0 w s t gs) (ok : OkK t) (x y : Nat) (n : Int) (hx : x < 4294967296) (hy : y < 4294967296) :
    Calls Try.prog 43 #[.pointer (some ⟨d, 0, none⟩), .int .u32 x, .int .i64 n, .int .u32 y] w fun e w' => e = .returned (.int .i64 (locE t x n)) ∧ Two B m d w0 w' s (setS t x n y) gs ∧ Kept w w' gs := by
  obtain ⟨v, u, h1, h2, h4, h5, h6, hg⟩ := r
  exact (dSetLocal_any B d x y n u t w h2 ok hx hy).mono (fun e w' hh => ⟨hh.1, Two.nextD h1 h2 h4 h5 h6 hg hh.2⟩)
theorem Two.kStub {B m d : Nat} {w0 w : World} {s t : Ks} {gs : List Nat} (r : Two B m d w0 w s t gs) (ok : OkK s) (x y z : Nat) (hx : x < 4294967296) (hy : y < 4294967296) (hz : z < 4294967296) :
    Calls Try.prog 19 #[.pointer (some ⟨m, 0, none⟩), .int .u32 x, .int .u32 y, .int .u32 z] w fun e w' => e = .returned (.int .i64 (stubUE s)) ∧ Two B m d w0 w' (stubS s x y z) t gs ∧ Kept w w' gs := by
  obtain ⟨v, u, h1, h2, h4, h5, h6, hg⟩ := r
  exact (kStub_any B m x y z v s w h1 h6 ok hx hy hz).mono (fun e w' hh => ⟨hh.1, Two.nextK h1 h2 h4 h5 h6 hg hh.2⟩)
theorem Two.dStub {B m d : Nat} {w0 w : World} {s t : Ks} {gs : List Nat} (r : Two B m d w0 w s t gs) (ok : OkK t) (x y z : Nat) (hx : x < 4294967296) (hy : y < 4294967296) (hz : z < 4294967296) :
    Calls Try.prog 72 #[.pointer (some ⟨d, 0, none⟩), .int .u32 x, .int .u32 y, .int .u32 z] w fun e w' => e = .returned (.int .i64 (stubUE t)) ∧ Two B m d w0 w' s (stubS t x y z) gs ∧ Kept w w' gs := by
  obtain ⟨v, u, h1, h2, h4, h5, h6, hg⟩ := r
  exact (dStub_any B d x y z u t w h2 h6 ok hx hy hz).mono (fun e w' hh => ⟨hh.1, Two.nextD h1 h2 h4 h5 h6 hg hh.2⟩)
theorem Two.kUnstub {B m d : Nat} {w0 w : World} {s t : Ks} {gs : List Nat} (r : Two B m d w0 w s t gs) (ok : OkK s) :
    Calls Try.prog 20 #[.pointer (some ⟨m, 0, none⟩)] w fun e w' => e = .returned (.tuple #[.int .u32 (unV s 0), .int .u32 (unV s 4), .int .u32 (unV s 8), .int .i64 (stubE s)]) ∧ Two B m d w0 w' (unstubS s) t gs ∧ Kept w w' gs := by
  obtain ⟨v, u, h1, h2, h4, h5, h6, hg⟩ := r
  exact (kUnstub_any B m v s w h1 ok).mono (fun e w' hh => ⟨hh.1, Two.nextK h1 h2 h4 h5 h6 hg hh.2⟩)
theorem Two.dUnstub {B m d : Nat} {w0 w : World} {s t : Ks} {gs : List Nat} (r : Two B m d w0 w s t gs) (ok : OkK t) :
    Calls Try.prog 73 #[.pointer (some ⟨d, 0, none⟩)] w fun e w' => e = .returned (.tuple #[.int .u32 (unV t 0), .int .u32 (unV t 4), .int .u32 (unV t 8), .int .i64 (stubE t)]) ∧ Two B m d w0 w' s (unstubS t) gs ∧ Kept w w' gs := by
  obtain ⟨v, u, h1, h2, h4, h5, h6, hg⟩ := r
  exact (dUnstub_any B d u t w h2 h6 ok).mono (fun e w' hh => ⟨hh.1, Two.nextD h1 h2 h4 h5 h6 hg hh.2⟩)
theorem Two.kThrow {B m d : Nat} {w0 w : World} {s t : Ks} {gs : List Nat} (r : Two B m d w0 w s t gs) (ok : OkK s) (x : Nat) (hx : x < 4294967296) :
    Calls Try.prog 74 #[.pointer (some ⟨m, 0, none⟩), .int .u32 x] w fun e w' => e = .returned (.int .i64 (thrE s x)) ∧ Two B m d w0 w' (thrS s x) t gs ∧ Kept w w' gs := by
  obtain ⟨v, u, h1, h2, h4, h5, h6, hg⟩ := r
  exact (kThrow_any B m v s w h1 ok x hx).mono (fun e w' hh => ⟨hh.1, Two.nextK h1 h2 h4 h5 h6 hg hh.2⟩)
theorem Two.dThrow {B m d : Nat} {w0 w : World} {s t : Ks} {gs : List Nat} (r : Two B m d w0 w s t gs) (ok : OkK t) (x : Nat) (hx : x < 4294967296) :
    Calls Try.prog 75 #[.pointer (some ⟨d, 0, none⟩), .int .u32 x] w fun e w' => e = .returned (.int .i64 (thrE t x)) ∧ Two B m d w0 w' s (thrS t x) gs ∧ Kept w w' gs := by
  obtain ⟨v, u, h1, h2, h4, h5, h6, hg⟩ := r
  exact (dThrow_any B d u t w h2 h6 ok x hx).mono (fun e w' hh => ⟨hh.1, Two.nextD h1 h2 h4 h5 h6 hg hh.2⟩)
theorem Two.kLoad {B m d : Nat} {w0 w : World} {s t : Ks} {gs : List Nat} (r : Two B m d w0 w s t gs) (ok : OkK s) (fa : Option Addr) (n fc : Nat) (zs : List Int) (hr : RowZ w fa n fc zs gs) (hz : OkB zs) (hn : n ≤ 100000) :
    Calls Try.prog 76 #[.pointer (some ⟨m, 0, none⟩), .slice fa n fc] w fun e w' => e = .returned (.int .i64 (loadE s zs)) ∧ Two B m d w0 w' (loadS s zs) t gs ∧ Kept w w' gs := by
  obtain ⟨v, u, h1, h2, h4, h5, h6, hg⟩ := r
  exact (kLoad_any B m v s w h1 h6 ok.most fa n fc zs hr.1 hz (by omega)).mono (fun e w' hh => ⟨hh.1, Two.nextK h1 h2 h4 h5 h6 hg hh.2⟩)
theorem Two.dLoad {B m d : Nat} {w0 w : World} {s t : Ks} {gs : List Nat} (r : Two B m d w0 w s t gs) (ok : OkK t) (fa : Option Addr) (n fc : Nat) (zs : List Int) (hr : RowZ w fa n fc zs gs) (hz : OkB zs) (hn : n ≤ 100000) :
    Calls Try.prog 78 #[.pointer (some ⟨d, 0, none⟩), .slice fa n fc] w fun e w' => e = .returned (.int .i64 (loadE t zs)) ∧ Two B m d w0 w' s (loadS t zs) gs ∧ Kept w w' gs := by
  obtain ⟨v, u, h1, h2, h4, h5, h6, hg⟩ := r
  exact (dLoad_any B d u t w h2 h6 ok.most fa n fc zs hr.1 hz hn).mono (fun e w' hh => ⟨hh.1, Two.nextD h1 h2 h4 h5 h6 hg hh.2⟩)
/-- a call keeps the room -/
theorem size_push (s : Ks) (x : Nat) : (pushS s x).size = s.size := by unfold pushS; split <;> rfl
theorem size_pop (s : Ks) : (popS s).size = s.size := by unfold popS; split <;> rfl
theorem size_roll (s : Ks) (n k : Nat) : (rollS s n k).size = s.size := by unfold rollS; split <;> rfl
theorem size_dup (s : Ks) (n : Nat) : (dupS s n).size = s.size := by unfold dupS; split <;> rfl
theorem size_enter (s : Ks) (zs : List Int) : (enterS s zs).size = s.size := by unfold enterS; split <;> rfl
theorem size_leave (s : Ks) : (leaveS s).size = s.size := by unfold leaveS; split <;> rfl
theorem size_args (s : Ks) (xs : List Nat) : (argsS s xs).size = s.size := by unfold argsS; split <;> rfl
theorem size_set (s : Ks) (x : Nat) (n : Int) (y : Nat) : (setS s x n y).size = s.size := by unfold setS; split <;> rfl
theorem size_stub (s : Ks) (x y z : Nat) : (stubS s x y z).size = s.size := by unfold stubS; split <;> rfl
theorem size_unstub (s : Ks) : (unstubS s).size = s.size := by unfold unstubS; split <;> rfl
theorem size_throw (s : Ks) (x : Nat) : (thrS s x).size = s.size := by unfold thrS; split <;> rfl
theorem size_load (s : Ks) (zs : List Int) : (loadS s zs).size = s.size := by unfold loadS; split <;> rfl
end Go.Proofs.Ythhkennomnmjkaa
namespace Go.Proofs.Ythhkennomnmjkaa
open Go.RowKit
set_option maxHeartbeats 1000000
set_option maxRecDepth 100000
set_option linter.unusedVariables false

/-- what an act leaves -/
def DoesR (B m d : Nat) (w0 w' : World) (s : Ks) (k : Int) (e : Ending) : Prop := ∃ m' s', e = .returned (.tuple #[.pointer (some ⟨m', 0, none⟩), .bool true]) ∧ Two B m' d w0 w' s' s' [] ∧ OkK s' ∧ s'.size = s.size ∧ (k ≠ 16 → m' = m)
/-- the act, as it lies in the call's own block -/
def actO (k : Int) (a b c : Nat) (n : Int) (P L : Value) : Obj := .cells #[.int .i64 k, .int .u32 a, .int .u32 b, .int .u32 c, .int .i64 n, P, L] 27
theorem act_cells {w w' : World} {q : Nat} {k : Int} {a b c : Nat} {n : Int} {P L : Value} (h : w.heap[q]? = some (actO k a b c n P L)) : w.cell? ⟨q, 0, none⟩ = some (.int .i64 k) ∧ w.cell? ⟨q, 1, none⟩ = some (.int .u32 a) ∧ w.cell? ⟨q, 2, none⟩ = some (.int .u32 b) ∧ w.cell? ⟨q, 3, none⟩ = some (.int .u32 c) ∧ w.cell? ⟨q, 4, none⟩ = some (.int .i64 n) ∧ w.cell? ⟨q, 5, none⟩ = some P ∧ w.cell? ⟨q, 6, none⟩ = some L := by
  unfold actO at h
  refine ⟨by simp [World.cell?, h], by simp [World.cell?, h], by simp [World.cell?, h], by simp [World.cell?, h], by simp [World.cell?, h], by simp [World.cell?, h], by simp [World.cell?, h]⟩
theorem Two.lows {B m d : Nat} {w0 w : World} {s t : Ks} {gs : List Nat} (r : Two B m d w0 w s t gs) : ∀ (gl : List Nat), (∀ g ∈ gl, g < B) → Two B m d w0 w s t (gl ++ gs)
  | [], _ => r
  | g :: gl, h => (Two.lows r gl (fun k hk => h k (List.mem_cons_of_mem _ hk))).low g (h g List.mem_cons_self)
/-- the block that a slice lies in -/
def blkOf (n : Nat) (a : Option Addr) : List Nat := if n = 0 then [] else (a.map (·.block)).toList
theorem blk_mem {n : Nat} {a : Option Addr} (h0 : 0 < n) {x : Addr} (e : a = some x) : x.block ∈ blkOf n a := by unfold blkOf; rw [e, if_neg (by omega)]; simp
theorem blk_low {n : Nat} {a : Option Addr} {B : Nat} (h : 0 < n → ∀ x, a = some x → x.block < B) : ∀ g ∈ blkOf n a, g < B := fun g hg => by
  unfold blkOf at hg
  split at hg
  · cases hg
  · cases a with
    | none => simp at hg
    | some x => simp only [Option.map_some, Option.toList_some, List.mem_singleton] at hg; rw [hg]; exact h (by omega) x rfl

theorem VRow.later {w w' : World} {a : Option Addr} {n : Nat} {xs : List Nat} (h : VRow w a n xs) (hb : Below w.heap.size w w') : VRow w' a n xs := ⟨h.ln, h.bd, fun i hi => by
  obtain ⟨b, o, e, hc⟩ := h.cells i hi
  exact ⟨b, o, e, cellLater hb hc⟩⟩
theorem does_0 (B m d : Nat) (s : Ks) (w0 w : World) (a b c : Nat) (n : Int) (P : Value) (L : Value) (r : Two B m d w0 w s s []) (ok : OkK s) (ha : a < 4294967296) :
    Calls Try.prog 9 #[.pointer (some ⟨m, 0, none⟩), .pointer (some ⟨d, 0, none⟩), .agg #[.int .i64 0, .int .u32 a, .int .u32 b, .int .u32 c, .int .i64 n, P, L]] w fun e w' => DoesR B m d w0 w' s 0 e := by
  have ok' := hidden (And.intro (ok_push ok a) (size_push s a))
  have hba : Below w.heap.size w (w.alloc (actO 0 a b c n P L)) := (Below.refl _ _).alloc (Nat.le_refl _) _
  have HR : Hid (Two B m d w0 (w.alloc (actO 0 a b c n P L)) s s ([w.heap.size])) := r.fresh hba w.heap.size (Nat.le_refl _) (by simp)
  have HQ := hidden (heap_alloc_new w (actO 0 a b c n P L))
  have RD := hidden (HR.out.later ((Below.refl _ _).drew)).1
  have HM := hidden fun w1 (r1 : Two B m d w0 w1 s s ([w.heap.size])) => Two.kPush r1 ok a ha
  have HD := hidden fun w1 (r1 : Two B m d w0 w1 (pushS s a) s ([w.heap.size])) => Two.dPush r1 ok a ha
  have HK : Hid (∀ w1, Kept (w.alloc (actO 0 a b c n P L)) w1 ([w.heap.size]) → w1.heap[w.heap.size]? = some (actO 0 a b c n P L)) := fun w1 hk => by rw [hk _ List.mem_cons_self]; exact HQ.out
  clear r ok hba
  generalize pushE s = A at *
  generalize pushS s a = s1 at *
  go_enter Try.func9, Try.ntmps9
  go_wp2_with fail
  go_region_held3 (fun w' => w'.cell? ⟨w.heap.size, 1, none⟩ = some (.int .u32 a)) (first | assumption | exact ⟨by assumption⟩ | go_keep) (first | (go_at_call 16; refine (HM.out _ RD.out).mono ?_; rintro e w1 ⟨rfl, r1, k1⟩; have R1 := hidden r1; clear r1; obtain ⟨j0, j1, j2, j3, j4, j5, j6⟩ := act_cells (w' := w) (HK.out _ k1)) | (go_at_call 14; refine (num10 _ _).mono ?_; rintro e w9 ⟨rfl, rfl⟩) | (go_at_call 25; refine (HD.out _ R1.out).mono ?_; rintro e w2 ⟨rfl, r2, k2⟩; have R2 := hidden r2; clear r2; obtain ⟨i0, i1, i2, i3, i4, i5, i6⟩ := act_cells (w' := w) (HK.out _ (k1.trans k2))) | fail)
  go_wp2
  go_ret2
  exact ⟨m, s1, rfl, R2.out.less (by simp), ok'.out.1, ok'.out.2, fun _ => rfl⟩
theorem does_1 (B m d : Nat) (s : Ks) (w0 w : World) (a b c : Nat) (n : Int) (P : Value) (L : Value) (r : Two B m d w0 w s s []) (ok : OkK s) :
    Calls Try.prog 9 #[.pointer (some ⟨m, 0, none⟩), .pointer (some ⟨d, 0, none⟩), .agg #[.int .i64 1, .int .u32 a, .int .u32 b, .int .u32 c, .int .i64 n, P, L]] w fun e w' => DoesR B m d w0 w' s 1 e := by
  have ok' := hidden (And.intro (ok_pop ok) (size_pop s))
  have hba : Below w.heap.size w (w.alloc (actO 1 a b c n P L)) := (Below.refl _ _).alloc (Nat.le_refl _) _
  have HR : Hid (Two B m d w0 (w.alloc (actO 1 a b c n P L)) s s ([w.heap.size])) := r.fresh hba w.heap.size (Nat.le_refl _) (by simp)
  have HQ := hidden (heap_alloc_new w (actO 1 a b c n P L))
  have RD := hidden (HR.out.later ((Below.refl _ _).drew)).1
  have HM := hidden fun w1 (r1 : Two B m d w0 w1 s s ([w.heap.size])) => Two.kPop r1 ok 
  have HD := hidden fun w1 (r1 : Two B m d w0 w1 (popS s) s ([w.heap.size])) => Two.dPop r1 ok 
  have HK : Hid (∀ w1, Kept (w.alloc (actO 1 a b c n P L)) w1 ([w.heap.size]) → w1.heap[w.heap.size]? = some (actO 1 a b c n P L)) := fun w1 hk => by rw [hk _ List.mem_cons_self]; exact HQ.out
  clear r ok hba
  generalize peekV s 0 = V at *
  generalize peekE s 0 = A at *
  generalize popS s = s1 at *
  go_enter Try.func9, Try.ntmps9
  go_wp2_with (first | (go_at_call 26; refine (HM.out _ HR.out).mono ?_; rintro e w1 ⟨rfl, r1, k1⟩; have R1 := hidden r1; clear r1; obtain ⟨j0, j1, j2, j3, j4, j5, j6⟩ := act_cells (w' := w) (HK.out _ k1)) | (go_at_call 14; refine (num10 _ _).mono ?_; rintro e w9 ⟨rfl, rfl⟩) | (go_at_call 27; refine (HD.out _ R1.out).mono ?_; rintro e w2 ⟨rfl, r2, k2⟩; have R2 := hidden r2; clear r2; obtain ⟨i0, i1, i2, i3, i4, i5, i6⟩ := act_cells (w' := w) (HK.out _ (k1.trans k2))))
  go_ret2
  exact ⟨m, s1, rfl, R2.out.less (by simp), ok'.out.1, ok'.out.2, fun _ => rfl⟩
theorem does_2 (B m d : Nat) (s : Ks) (w0 w : World) (a b c : Nat) (n : Int) (P : Value) (L : Value) (r : Two B m d w0 w s s []) (ok : OkK s) (ha : a < 4294967296) :
    Calls Try.prog 9 #[.pointer (some ⟨m, 0, none⟩), .pointer (some ⟨d, 0, none⟩), .agg #[.int .i64 2, .int .u32 a, .int .u32 b, .int .u32 c, .int .i64 n, P, L]] w fun e w' => DoesR B m d w0 w' s 2 e := by
  have ok' := hidden (And.intro (ok) ((rfl : s.size = s.size)))
  have hba : Below w.heap.size w (w.alloc (actO 2 a b c n P L)) := (Below.refl _ _).alloc (Nat.le_refl _) _
  have HR : Hid (Two B m d w0 (w.alloc (actO 2 a b c n P L)) s s ([w.heap.size])) := r.fresh hba w.heap.size (Nat.le_refl _) (by simp)
  have HQ := hidden (heap_alloc_new w (actO 2 a b c n P L))
  have RD := hidden (HR.out.later ((Below.refl _ _).drew)).1
  have HM := hidden fun w1 (r1 : Two B m d w0 w1 s s ([w.heap.size])) => Two.kPeek r1 ok a ha
  have HD := hidden fun w1 (r1 : Two B m d w0 w1 (s) s ([w.heap.size])) => Two.dPeek r1 ok a ha
  have HK : Hid (∀ w1, Kept (w.alloc (actO 2 a b c n P L)) w1 ([w.heap.size]) → w1.heap[w.heap.size]? = some (actO 2 a b c n P L)) := fun w1 hk => by rw [hk _ List.mem_cons_self]; exact HQ.out
  clear r ok hba
  generalize peekV s a = V at *
  generalize peekE s a = A at *
  go_enter Try.func9, Try.ntmps9
  go_wp2_with (first | (go_at_call 18; refine (HM.out _ HR.out).mono ?_; rintro e w1 ⟨rfl, r1, k1⟩; have R1 := hidden r1; clear r1; obtain ⟨j0, j1, j2, j3, j4, j5, j6⟩ := act_cells (w' := w) (HK.out _ k1)) | (go_at_call 14; refine (num10 _ _).mono ?_; rintro e w9 ⟨rfl, rfl⟩) | (go_at_call 28; refine (HD.out _ R1.out).mono ?_; rintro e w2 ⟨rfl, r2, k2⟩; have R2 := hidden r2; clear r2; obtain ⟨i0, i1, i2, i3, i4, i5, i6⟩ := act_cells (w' := w) (HK.out _ (k1.trans k2))))
  go_ret2
  exact ⟨m, s, rfl, R2.out.less (by simp), ok'.out.1, rfl, fun _ => rfl⟩
theorem does_3 (B m d : Nat) (s : Ks) (w0 w : World) (a b c : Nat) (n : Int) (P : Value) (L : Value) (r : Two B m d w0 w s s []) (ok : OkK s) :
    Calls Try.prog 9 #[.pointer (some ⟨m, 0, none⟩), .pointer (some ⟨d, 0, none⟩), .agg #[.int .i64 3, .int .u32 a, .int .u32 b, .int .u32 c, .int .i64 n, P, L]] w fun e w' => DoesR B m d w0 w' s 3 e := by
  have ok' := hidden (And.intro (ok_roll ok 2 1) (size_roll s 2 1))
  have hba : Below w.heap.size w (w.alloc (actO 3 a b c n P L)) := (Below.refl _ _).alloc (Nat.le_refl _) _
  have HR : Hid (Two B m d w0 (w.alloc (actO 3 a b c n P L)) s s ([w.heap.size])) := r.fresh hba w.heap.size (Nat.le_refl _) (by simp)
  have HQ := hidden (heap_alloc_new w (actO 3 a b c n P L))
  have RD := hidden (HR.out.later ((Below.refl _ _).drew)).1
  have HM := hidden fun w1 (r1 : Two B m d w0 w1 s s ([w.heap.size])) => Two.kSwap r1 ok 
  have HD := hidden fun w1 (r1 : Two B m d w0 w1 (rollS s 2 1) s ([w.heap.size])) => Two.dSwap r1 ok 
  have HK : Hid (∀ w1, Kept (w.alloc (actO 3 a b c n P L)) w1 ([w.heap.size]) → w1.heap[w.heap.size]? = some (actO 3 a b c n P L)) := fun w1 hk => by rw [hk _ List.mem_cons_self]; exact HQ.out
  clear r ok hba
  generalize rollE s 2 = A at *
  generalize rollS s 2 1 = s1 at *
  go_enter Try.func9, Try.ntmps9
  go_wp2_with (first | (go_at_call 29; refine (HM.out _ HR.out).mono ?_; rintro e w1 ⟨rfl, r1, k1⟩; have R1 := hidden r1; clear r1; obtain ⟨j0, j1, j2, j3, j4, j5, j6⟩ := act_cells (w' := w) (HK.out _ k1)) | (go_at_call 14; refine (num10 _ _).mono ?_; rintro e w9 ⟨rfl, rfl⟩) | (go_at_call 30; refine (HD.out _ R1.out).mono ?_; rintro e w2 ⟨rfl, r2, k2⟩; have R2 := hidden r2; clear r2; obtain ⟨i0, i1, i2, i3, i4, i5, i6⟩ := act_cells (w' := w) (HK.out _ (k1.trans k2))))
  go_ret2
  exact ⟨m, s1, rfl, R2.out.less (by simp), ok'.out.1, ok'.out.2, fun _ => rfl⟩
theorem does_4 (B m d : Nat) (s : Ks) (w0 w : World) (a b c : Nat) (n : Int) (P : Value) (L : Value) (r : Two B m d w0 w s s []) (ok : OkK s) (ha : a < 4294967296) (hb : b < 4294967296) :
    Calls Try.prog 9 #[.pointer (some ⟨m, 0, none⟩), .pointer (some ⟨d, 0, none⟩), .agg #[.int .i64 4, .int .u32 a, .int .u32 b, .int .u32 c, .int .i64 n, P, L]] w fun e w' => DoesR B m d w0 w' s 4 e := by
  have ok' := hidden (And.intro (ok_roll ok a b) (size_roll s a b))
  have hba : Below w.heap.size w (w.alloc (actO 4 a b c n P L)) := (Below.refl _ _).alloc (Nat.le_refl _) _
  have HR : Hid (Two B m d w0 (w.alloc (actO 4 a b c n P L)) s s ([w.heap.size])) := r.fresh hba w.heap.size (Nat.le_refl _) (by simp)
  have HQ := hidden (heap_alloc_new w (actO 4 a b c n P L))
  have RD := hidden (HR.out.later ((Below.refl _ _).drew)).1
  have HM := hidden fun w1 (r1 : Two B m d w0 w1 s s ([w.heap.size])) => Two.kRoll r1 ok a b ha hb
  have HD := hidden fun w1 (r1 : Two B m d w0 w1 (rollS s a b) s ([w.heap.size])) => Two.dRoll r1 ok a b ha hb
  have HK : Hid (∀ w1, Kept (w.alloc (actO 4 a b c n P L)) w1 ([w.heap.size]) → w1.heap[w.heap.size]? = some (actO 4 a b c n P L)) := fun w1 hk => by rw [hk _ List.mem_cons_self]; exact HQ.out
  clear r ok hba
  generalize rollE s a = A at *
  generalize rollS s a b = s1 at *
  go_enter Try.func9, Try.ntmps9
  go_wp2_with fail
  go_region_held3 (fun w' => w'.cell? ⟨w.heap.size, 1, none⟩ = some (.int .u32 a) ∧ w'.cell? ⟨w.heap.size, 2, none⟩ = some (.int .u32 b)) (first | assumption | exact ⟨by assumption, by assumption⟩ | go_keep) (first | (go_at_call 17; refine (HM.out _ RD.out).mono ?_; rintro e w1 ⟨rfl, r1, k1⟩; have R1 := hidden r1; clear r1; obtain ⟨j0, j1, j2, j3, j4, j5, j6⟩ := act_cells (w' := w) (HK.out _ k1)) | (go_at_call 14; refine (num10 _ _).mono ?_; rintro e w9 ⟨rfl, rfl⟩) | (go_at_call 31; refine (HD.out _ R1.out).mono ?_; rintro e w2 ⟨rfl, r2, k2⟩; have R2 := hidden r2; clear r2; obtain ⟨i0, i1, i2, i3, i4, i5, i6⟩ := act_cells (w' := w) (HK.out _ (k1.trans k2))) | fail)
  go_wp2
  go_ret2
  exact ⟨m, s1, rfl, R2.out.less (by simp), ok'.out.1, ok'.out.2, fun _ => rfl⟩
theorem does_5 (B m d : Nat) (s : Ks) (w0 w : World) (a b c : Nat) (n : Int) (P : Value) (L : Value) (r : Two B m d w0 w s s []) (ok : OkK s) (ha : a < 4294967296) :
    Calls Try.prog 9 #[.pointer (some ⟨m, 0, none⟩), .pointer (some ⟨d, 0, none⟩), .agg #[.int .i64 5, .int .u32 a, .int .u32 b, .int .u32 c, .int .i64 n, P, L]] w fun e w' => DoesR B m d w0 w' s 5 e := by
  have ok' := hidden (And.intro (ok_dup ok a) (size_dup s a))
  have hba : Below w.heap.size w (w.alloc (actO 5 a b c n P L)) := (Below.refl _ _).alloc (Nat.le_refl _) _
  have HR : Hid (Two B m d w0 (w.alloc (actO 5 a b c n P L)) s s ([w.heap.size])) := r.fresh hba w.heap.size (Nat.le_refl _) (by simp)
  have HQ := hidden (heap_alloc_new w (actO 5 a b c n P L))
  have RD := hidden (HR.out.later ((Below.refl _ _).drew)).1
  have HM := hidden fun w1 (r1 : Two B m d w0 w1 s s ([w.heap.size])) => Two.kDup r1 ok a ha
  have HD := hidden fun w1 (r1 : Two B m d w0 w1 (dupS s a) s ([w.heap.size])) => Two.dDup r1 ok a ha
  have HK : Hid (∀ w1, Kept (w.alloc (actO 5 a b c n P L)) w1 ([w.heap.size]) → w1.heap[w.heap.size]? = some (actO 5 a b c n P L)) := fun w1 hk => by rw [hk _ List.mem_cons_self]; exact HQ.out
  clear r ok hba
  generalize dupE s a = A at *
  generalize dupS s a = s1 at *
  go_enter Try.func9, Try.ntmps9
  go_wp2_with fail
  go_region_held3 (fun w' => w'.cell? ⟨w.heap.size, 1, none⟩ = some (.int .u32 a)) (first | assumption | exact ⟨by assumption⟩ | go_keep) (first | (go_at_call 32; refine (HM.out _ RD.out).mono ?_; rintro e w1 ⟨rfl, r1, k1⟩; have R1 := hidden r1; clear r1; obtain ⟨j0, j1, j2, j3, j4, j5, j6⟩ := act_cells (w' := w) (HK.out _ k1)) | (go_at_call 14; refine (num10 _ _).mono ?_; rintro e w9 ⟨rfl, rfl⟩) | (go_at_call 33; refine (HD.out _ R1.out).mono ?_; rintro e w2 ⟨rfl, r2, k2⟩; have R2 := hidden r2; clear r2; obtain ⟨i0, i1, i2, i3, i4, i5, i6⟩ := act_cells (w' := w) (HK.out _ (k1.trans k2))) | fail)
  go_wp2
  go_ret2
  exact ⟨m, s1, rfl, R2.out.less (by simp), ok'.out.1, ok'.out.2, fun _ => rfl⟩
theorem does_7 (B m d : Nat) (s : Ks) (w0 w : World) (a b c : Nat) (n : Int) (P : Value) (L : Value) (r : Two B m d w0 w s s []) (ok : OkK s) :
    Calls Try.prog 9 #[.pointer (some ⟨m, 0, none⟩), .pointer (some ⟨d, 0, none⟩), .agg #[.int .i64 7, .int .u32 a, .int .u32 b, .int .u32 c, .int .i64 n, P, L]] w fun e w' => DoesR B m d w0 w' s 7 e := by
  have ok' := hidden (And.intro (ok_leave ok) (size_leave s))
  have hba : Below w.heap.size w (w.alloc (actO 7 a b c n P L)) := (Below.refl _ _).alloc (Nat.le_refl _) _
  have HR : Hid (Two B m d w0 (w.alloc (actO 7 a b c n P L)) s s ([w.heap.size])) := r.fresh hba w.heap.size (Nat.le_refl _) (by simp)
  have HQ := hidden (heap_alloc_new w (actO 7 a b c n P L))
  have RD := hidden (HR.out.later ((Below.refl _ _).drew)).1
  have HM := hidden fun w1 (r1 : Two B m d w0 w1 s s ([w.heap.size])) => Two.kLeave r1 ok 
  have HD := hidden fun w1 (r1 : Two B m d w0 w1 (leaveS s) s ([w.heap.size])) => Two.dLeave r1 ok 
  have HK : Hid (∀ w1, Kept (w.alloc (actO 7 a b c n P L)) w1 ([w.heap.size]) → w1.heap[w.heap.size]? = some (actO 7 a b c n P L)) := fun w1 hk => by rw [hk _ List.mem_cons_self]; exact HQ.out
  clear r ok hba
  generalize leaveE s = A at *
  generalize leaveS s = s1 at *
  go_enter Try.func9, Try.ntmps9
  go_wp2_with (first | (go_at_call 36; refine (HM.out _ HR.out).mono ?_; rintro e w1 ⟨rfl, r1, k1⟩; have R1 := hidden r1; clear r1; obtain ⟨j0, j1, j2, j3, j4, j5, j6⟩ := act_cells (w' := w) (HK.out _ k1)) | (go_at_call 14; refine (num10 _ _).mono ?_; rintro e w9 ⟨rfl, rfl⟩) | (go_at_call 37; refine (HD.out _ R1.out).mono ?_; rintro e w2 ⟨rfl, r2, k2⟩; have R2 := hidden r2; clear r2; obtain ⟨i0, i1, i2, i3, i4, i5, i6⟩ := act_cells (w' := w) (HK.out _ (k1.trans k2))))
  go_ret2
  exact ⟨m, s1, rfl, R2.out.less (by simp), ok'.out.1, ok'.out.2, fun _ => rfl⟩
theorem does_8 (B m d : Nat) (s : Ks) (w0 w : World) (a b c : Nat) (n : Int) (P : Value) (la : Option Addr) (ln lc : Nat) (xs : List Nat) (r : Two B m d w0 w s s []) (ok : OkK s) (hv : VRow w la ln xs) (hlb : 0 < ln → ∀ x, la = some x → x.block < B) (hl : ln ≤ lc) :
    Calls Try.prog 9 #[.pointer (some ⟨m, 0, none⟩), .pointer (some ⟨d, 0, none⟩), .agg #[.int .i64 8, .int .u32 a, .int .u32 b, .int .u32 c, .int .i64 n, P, .slice la ln lc]] w fun e w' => DoesR B m d w0 w' s 8 e := by
  have ok' := hidden (And.intro (ok_args ok xs) (size_args s xs))
  have hba : Below w.heap.size w (w.alloc (actO 8 a b c n P (.slice la ln lc))) := (Below.refl _ _).alloc (Nat.le_refl _) _
  have r2 := r.lows (blkOf ln la) (blk_low hlb)
  have HR : Hid (Two B m d w0 (w.alloc (actO 8 a b c n P (.slice la ln lc))) s s (w.heap.size :: (blkOf ln la ++ []))) := r2.fresh hba w.heap.size (Nat.le_refl _) (by simp)
  have HQ := hidden (heap_alloc_new w (actO 8 a b c n P (.slice la ln lc)))
  have RD := hidden (HR.out.later ((Below.refl _ _).drew)).1
  have HV : Hid (WordsIn (w.alloc (actO 8 a b c n P (.slice la ln lc))).drew la ln xs (w.heap.size :: (blkOf ln la ++ []))) := ⟨hv.later hba.drew, fun h0 x e => List.mem_cons_of_mem _ (List.mem_append_left _ (blk_mem h0 e))⟩
  have HM := hidden fun w1 (r1 : Two B m d w0 w1 s s (w.heap.size :: (blkOf ln la ++ []))) (hv : WordsIn w1 la ln xs (w.heap.size :: (blkOf ln la ++ []))) => Two.kArgs r1 ok la ln lc xs hv hl
  have HD := hidden fun w1 (r1 : Two B m d w0 w1 (argsS s xs) s (w.heap.size :: (blkOf ln la ++ []))) (hv : WordsIn w1 la ln xs (w.heap.size :: (blkOf ln la ++ []))) => Two.dArgs r1 ok la ln lc xs hv hl
  have HK : Hid (∀ w1, Kept (w.alloc (actO 8 a b c n P (.slice la ln lc))) w1 (w.heap.size :: (blkOf ln la ++ [])) → w1.heap[w.heap.size]? = some (actO 8 a b c n P (.slice la ln lc))) := fun w1 hk => by rw [hk _ List.mem_cons_self]; exact HQ.out
  clear r ok hba r2
  generalize lackE s 0 = A at *
  generalize argsS s xs = s1 at *
  go_enter Try.func9, Try.ntmps9
  go_wp2_with fail
  go_region_held3 (fun w' => w'.cell? ⟨w.heap.size, 6, none⟩ = some (.slice la ln lc)) (first | assumption | exact ⟨by assumption⟩ | go_keep) (first | (go_at_call 38; refine (HM.out _ RD.out (HV.out)).mono ?_; rintro e w1 ⟨rfl, r1, k1⟩; have R1 := hidden r1; clear r1; obtain ⟨j0, j1, j2, j3, j4, j5, j6⟩ := act_cells (w' := w) (HK.out _ k1)) | (go_at_call 14; refine (num10 _ _).mono ?_; rintro e w9 ⟨rfl, rfl⟩) | (go_at_call 39; refine (HD.out _ R1.out (HV.out.kept k1)).mono ?_; rintro e w2 ⟨rfl, r2, k2⟩; have R2 := hidden r2; clear r2; obtain ⟨i0, i1, i2, i3, i4, i5, i6⟩ := act_cells (w' := w) (HK.out _ (k1.trans k2))) | fail)
  go_wp2
  go_ret2
  exact ⟨m, s1, rfl, R2.out.less (by simp), ok'.out.1, ok'.out.2, fun _ => rfl⟩
theorem does_9 (B m d : Nat) (s : Ks) (w0 w : World) (a b c : Nat) (n : Int) (P : Value) (L : Value) (r : Two B m d w0 w s s []) (ok : OkK s) (ha : a < 4294967296) :
    Calls Try.prog 9 #[.pointer (some ⟨m, 0, none⟩), .pointer (some ⟨d, 0, none⟩), .agg #[.int .i64 9, .int .u32 a, .int .u32 b, .int .u32 c, .int .i64 n, P, L]] w fun e w' => DoesR B m d w0 w' s 9 e := by
  have ok' := hidden (And.intro (ok) ((rfl : s.size = s.size)))
  have hba : Below w.heap.size w (w.alloc (actO 9 a b c n P L)) := (Below.refl _ _).alloc (Nat.le_refl _) _
  have HR : Hid (Two B m d w0 (w.alloc (actO 9 a b c n P L)) s s ([w.heap.size])) := r.fresh hba w.heap.size (Nat.le_refl _) (by simp)
  have HQ := hidden (heap_alloc_new w (actO 9 a b c n P L))
  have RD := hidden (HR.out.later ((Below.refl _ _).drew)).1
  have HM := hidden fun w1 (r1 : Two B m d w0 w1 s s ([w.heap.size])) => Two.kLocal r1 ok a n ha
  have HD := hidden fun w1 (r1 : Two B m d w0 w1 (s) s ([w.heap.size])) => Two.dLocal r1 ok a n ha
  have HK : Hid (∀ w1, Kept (w.alloc (actO 9 a b c n P L)) w1 ([w.heap.size]) → w1.heap[w.heap.size]? = some (actO 9 a b c n P L)) := fun w1 hk => by rw [hk _ List.mem_cons_self]; exact HQ.out
  clear r ok hba
  generalize locV s a n = V at *
  generalize locE s a n = A at *
  go_enter Try.func9, Try.ntmps9
  go_wp2_with (first | (go_at_call 40; refine (HM.out _ HR.out).mono ?_; rintro e w1 ⟨rfl, r1, k1⟩; have R1 := hidden r1; clear r1; obtain ⟨j0, j1, j2, j3, j4, j5, j6⟩ := act_cells (w' := w) (HK.out _ k1)) | (go_at_call 14; refine (num10 _ _).mono ?_; rintro e w9 ⟨rfl, rfl⟩) | (go_at_call 41; refine (HD.out _ R1.out).mono ?_; rintro e w2 ⟨rfl, r2, k2⟩; have R2 := hidden r2; clear r2; obtain ⟨i0, i1, i2, i3, i4, i5, i6⟩ := act_cells (w' := w) (HK.out _ (k1.trans k2))))
  go_ret2
  exact ⟨m, s, rfl, R2.out.less (by simp), ok'.out.1, rfl, fun _ => rfl⟩
theorem does_10 (B m d : Nat) (s : Ks) (w0 w : World) (a b c : Nat) (n : Int) (P : Value) (L : Value) (r : Two B m d w0 w s s []) (ok : OkK s) (ha : a < 4294967296) (hb : b < 4294967296) :
    Calls Try.prog 9 #[.pointer (some ⟨m, 0, none⟩), .pointer (some ⟨d, 0, none⟩), .agg #[.int .i64 10, .int .u32 a, .int .u32 b, .int .u32 c, .int .i64 n, P, L]] w fun e w' => DoesR B m d w0 w' s 10 e := by
  have ok' := hidden (And.intro (ok_set ok a n b) (size_set s a n b))
  have hba : Below w.heap.size w (w.alloc (actO 10 a b c n P L)) := (Below.refl _ _).alloc (Nat.le_refl _) _
  have HR : Hid (Two B m d w0 (w.alloc (actO 10 a b c n P L)) s s ([w.heap.size])) := r.fresh hba w.heap.size (Nat.le_refl _) (by simp)
  have HQ := hidden (heap_alloc_new w (actO 10 a b c n P L))
  have RD := hidden (HR.out.later ((Below.refl _ _).drew)).1
  have HM := hidden fun w1 (r1 : Two B m d w0 w1 s s ([w.heap.size])) => Two.kSetLocal r1 ok a b n ha hb
  have HD := hidden fun w1 (r1 : Two B m d w0 w1 (setS s a n b) s ([w.heap.size])) => Two.dSetLocal r1 ok a b n ha hb
  have HK : Hid (∀ w1, Kept (w.alloc (actO 10 a b c n P L)) w1 ([w.heap.size]) → w1.heap[w.heap.size]? = some (actO 10 a b c n P L)) := fun w1 hk => by rw [hk _ List.mem_cons_self]; exact HQ.out
  clear r ok hba
  generalize locE s a n = A at *
  generalize setS s a n b = s1 at *
  go_enter Try.func9, Try.ntmps9
  go_wp2_with fail
  go_region_held3 (fun w' => w'.cell? ⟨w.heap.size, 1, none⟩ = some (.int .u32 a) ∧ w'.cell? ⟨w.heap.size, 4, none⟩ = some (.int .i64 n) ∧ w'.cell? ⟨w.heap.size, 2, none⟩ = some (.int .u32 b)) (first | assumption | exact ⟨by assumption, by assumption, by assumption⟩ | go_keep) (first | (go_at_call 42; refine (HM.out _ RD.out).mono ?_; rintro e w1 ⟨rfl, r1, k1⟩; have R1 := hidden r1; clear r1; obtain ⟨j0, j1, j2, j3, j4, j5, j6⟩ := act_cells (w' := w) (HK.out _ k1)) | (go_at_call 14; refine (num10 _ _).mono ?_; rintro e w9 ⟨rfl, rfl⟩) | (go_at_call 43; refine (HD.out _ R1.out).mono ?_; rintro e w2 ⟨rfl, r2, k2⟩; have R2 := hidden r2; clear r2; obtain ⟨i0, i1, i2, i3, i4, i5, i6⟩ := act_cells (w' := w) (HK.out _ (k1.trans k2))) | fail)
  go_wp2
  go_ret2
  exact ⟨m, s1, rfl, R2.out.less (by simp), ok'.out.1, ok'.out.2, fun _ => rfl⟩
theorem more_11 (B m d : Nat) (s : Ks) (w0 w : World) (a b c : Nat) (n : Int) (P : Value) (L : Value) (r : Two B m d w0 w s s []) (ok : OkK s) (ha : a < 4294967296) (hb : b < 4294967296) (hc : c < 4294967296) :
    Calls Try.prog 44 #[.pointer (some ⟨m, 0, none⟩), .pointer (some ⟨d, 0, none⟩), .agg #[.int .i64 11, .int .u32 a, .int .u32 b, .int .u32 c, .int .i64 n, P, L]] w fun e w' => DoesR B m d w0 w' s 11 e := by
  have ok' := hidden (And.intro (ok_stub ok a b c) (size_stub s a b c))
  have hba : Below w.heap.size w (w.alloc (actO 11 a b c n P L)) := (Below.refl _ _).alloc (Nat.le_refl _) _
  have HR : Hid (Two B m d w0 (w.alloc (actO 11 a b c n P L)) s s ([w.heap.size])) := r.fresh hba w.heap.size (Nat.le_refl _) (by simp)
  have HQ := hidden (heap_alloc_new w (actO 11 a b c n P L))
  have RD := hidden (HR.out.later ((Below.refl _ _).drew)).1
  have HM := hidden fun w1 (r1 : Two B m d w0 w1 s s ([w.heap.size])) => Two.kStub r1 ok a b c ha hb hc
  have HD := hidden fun w1 (r1 : Two B m d w0 w1 (stubS s a b c) s ([w.heap.size])) => Two.dStub r1 ok a b c ha hb hc
  have HK : Hid (∀ w1, Kept (w.alloc (actO 11 a b c n P L)) w1 ([w.heap.size]) → w1.heap[w.heap.size]? = some (actO 11 a b c n P L)) := fun w1 hk => by rw [hk _ List.mem_cons_self]; exact HQ.out
  clear r ok hba
  generalize stubUE s = A at *
  generalize stubS s a b c = s1 at *
  go_enter Try.func44, Try.ntmps44
  go_wp2_with fail
  go_region_held3 (fun w' => w'.cell? ⟨w.heap.size, 1, none⟩ = some (.int .u32 a) ∧ w'.cell? ⟨w.heap.size, 2, none⟩ = some (.int .u32 b) ∧ w'.cell? ⟨w.heap.size, 3, none⟩ = some (.int .u32 c)) (first | assumption | exact ⟨by assumption, by assumption, by assumption⟩ | go_keep) (first | (go_at_call 19; refine (HM.out _ RD.out).mono ?_; rintro e w1 ⟨rfl, r1, k1⟩; have R1 := hidden r1; clear r1; obtain ⟨j0, j1, j2, j3, j4, j5, j6⟩ := act_cells (w' := w) (HK.out _ k1)) | (go_at_call 14; refine (num10 _ _).mono ?_; rintro e w9 ⟨rfl, rfl⟩) | (go_at_call 72; refine (HD.out _ R1.out).mono ?_; rintro e w2 ⟨rfl, r2, k2⟩; have R2 := hidden r2; clear r2; obtain ⟨i0, i1, i2, i3, i4, i5, i6⟩ := act_cells (w' := w) (HK.out _ (k1.trans k2))) | fail)
  go_wp2
  go_ret2
  exact ⟨m, s1, rfl, R2.out.less (by simp), ok'.out.1, ok'.out.2, fun _ => rfl⟩
theorem more_13 (B m d : Nat) (s : Ks) (w0 w : World) (a b c : Nat) (n : Int) (P : Value) (L : Value) (r : Two B m d w0 w s s []) (ok : OkK s) (ha : a < 4294967296) :
    Calls Try.prog 44 #[.pointer (some ⟨m, 0, none⟩), .pointer (some ⟨d, 0, none⟩), .agg #[.int .i64 13, .int .u32 a, .int .u32 b, .int .u32 c, .int .i64 n, P, L]] w fun e w' => DoesR B m d w0 w' s 13 e := by
  have ok' := hidden (And.intro (ok_throw ok a) (size_throw s a))
  have hba : Below w.heap.size w (w.alloc (actO 13 a b c n P L)) := (Below.refl _ _).alloc (Nat.le_refl _) _
  have HR : Hid (Two B m d w0 (w.alloc (actO 13 a b c n P L)) s s ([w.heap.size])) := r.fresh hba w.heap.size (Nat.le_refl _) (by simp)
  have HQ := hidden (heap_alloc_new w (actO 13 a b c n P L))
  have RD := hidden (HR.out.later ((Below.refl _ _).drew)).1
  have HM := hidden fun w1 (r1 : Two B m d w0 w1 s s ([w.heap.size])) => Two.kThrow r1 ok a ha
  have HD := hidden fun w1 (r1 : Two B m d w0 w1 (thrS s a) s ([w.heap.size])) => Two.dThrow r1 ok a ha
  have HK : Hid (∀ w1, Kept (w.alloc (actO 13 a b c n P L)) w1 ([w.heap.size]) → w1.heap[w.heap.size]? = some (actO 13 a b c n P L)) := fun w1 hk => by rw [hk _ List.mem_cons_self]; exact HQ.out
  clear r ok hba
  generalize thrE s a = A at *
  generalize thrS s a = s1 at *
  go_enter Try.func44, Try.ntmps44
  go_wp2_with fail
  go_region_held3 (fun w' => w'.cell? ⟨w.heap.size, 1, none⟩ = some (.int .u32 a)) (first | assumption | exact ⟨by assumption⟩ | go_keep) (first | (go_at_call 74; refine (HM.out _ RD.out).mono ?_; rintro e w1 ⟨rfl, r1, k1⟩; have R1 := hidden r1; clear r1; obtain ⟨j0, j1, j2, j3, j4, j5, j6⟩ := act_cells (w' := w) (HK.out _ k1)) | (go_at_call 14; refine (num10 _ _).mono ?_; rintro e w9 ⟨rfl, rfl⟩) | (go_at_call 75; refine (HD.out _ R1.out).mono ?_; rintro e w2 ⟨rfl, r2, k2⟩; have R2 := hidden r2; clear r2; obtain ⟨i0, i1, i2, i3, i4, i5, i6⟩ := act_cells (w' := w) (HK.out _ (k1.trans k2))) | fail)
  go_wp2
  go_ret2
  exact ⟨m, s1, rfl, R2.out.less (by simp), ok'.out.1, ok'.out.2, fun _ => rfl⟩
end Go.Proofs.Ythhkennomnmjkaa
namespace Go.Proofs.Ythhkennomnmjkaa
open Go.RowKit
set_option maxHeartbeats 1000000
set_option maxRecDepth 100000
set_option linter.unusedVariables false

theorem more_12 (B m d : Nat) (s : Ks) (w0 w : World) (a b c : Nat) (n : Int) (P L : Value) (r : Two B m d w0 w s s []) (ok : OkK s) :
    Calls Try.prog 44 #[.pointer (some ⟨m, 0, none⟩), .pointer (some ⟨d, 0, none⟩), .agg #[.int .i64 12, .int .u32 a, .int .u32 b, .int .u32 c, .int .i64 n, P, L]] w fun e w' => DoesR B m d w0 w' s 12 e := by
  have hba : Below w.heap.size w (w.alloc (actO 12 a b c n P L)) := (Below.refl _ _).alloc (Nat.le_refl _) _
  have ok' := hidden (And.intro (ok_unstub ok) (size_unstub s))
  have HR : Hid (Two B m d w0 (w.alloc (actO 12 a b c n P L)) s s []) := (r.later hba).1
  have HM := hidden fun w1 (r1 : Two B m d w0 w1 s s []) => Two.kUnstub r1 ok
  have HD := hidden fun w1 (r1 : Two B m d w0 w1 (unstubS s) s []) => Two.dUnstub r1 ok
  clear r ok hba
  generalize unV s 0 = V0 at *
  generalize unV s 4 = V1 at *
  generalize unV s 8 = V2 at *
  generalize stubE s = A at *
  generalize unstubS s = s1 at *
  go_enter Try.func44, Try.ntmps44
  go_wp2_with (first | (go_at_call 20; refine (HM.out _ HR.out).mono ?_; rintro e w1 ⟨rfl, r1, k1⟩; have R1 := hidden r1; clear r1) | (go_at_call 14; refine (num10 _ _).mono ?_; rintro e w9 ⟨rfl, rfl⟩) | (go_at_call 73; refine (HD.out _ R1.out).mono ?_; rintro e w2 ⟨rfl, r2, k2⟩; have R2 := hidden r2; clear r2))
  go_ret2
  exact ⟨m, s1, rfl, R2.out, ok'.out.1, ok'.out.2, fun _ => rfl⟩
theorem more_18 (B m d : Nat) (s : Ks) (w0 w : World) (a b c : Nat) (n : Int) (P L : Value) (r : Two B m d w0 w s s []) (ok : OkK s) :
    Calls Try.prog 44 #[.pointer (some ⟨m, 0, none⟩), .pointer (some ⟨d, 0, none⟩), .agg #[.int .i64 18, .int .u32 a, .int .u32 b, .int .u32 c, .int .i64 n, P, L]] w fun e w' => DoesR B m d w0 w' s 18 e := by
  have hba : Below w.heap.size w (w.alloc (actO 18 a b c n P L)) := (Below.refl _ _).alloc (Nat.le_refl _) _
  have okl := ok_leave ok
  have ok' := hidden (And.intro (ok_unstub okl) ((size_unstub (leaveS s)).trans (size_leave s)))
  have HR : Hid (Two B m d w0 (w.alloc (actO 18 a b c n P L)) s s []) := (r.later hba).1
  have HML := hidden fun w1 (r1 : Two B m d w0 w1 s s []) => Two.kLeave r1 ok
  have HDL := hidden fun w1 (r1 : Two B m d w0 w1 (leaveS s) s []) => Two.dLeave r1 ok
  have HM := hidden fun w1 (r1 : Two B m d w0 w1 (leaveS s) (leaveS s) []) => Two.kUnstub r1 okl
  have HD := hidden fun w1 (r1 : Two B m d w0 w1 (unstubS (leaveS s)) (leaveS s) []) => Two.dUnstub r1 okl
  clear r ok hba okl
  generalize leaveE s = E at *
  generalize unV (leaveS s) 0 = V0 at *
  generalize unV (leaveS s) 4 = V1 at *
  generalize unV (leaveS s) 8 = V2 at *
  generalize stubE (leaveS s) = A at *
  generalize unstubS (leaveS s) = s2 at *
  generalize leaveS s = s1 at *
  go_enter Try.func44, Try.ntmps44
  go_wp2_with (first | (go_at_call 36; refine (HML.out _ HR.out).mono ?_; rintro e w1 ⟨rfl, r1, k1⟩; have R1 := hidden r1; clear r1) | (go_at_call 14; refine (num10 _ _).mono ?_; rintro e w9 ⟨rfl, rfl⟩) | (go_at_call 37; refine (HDL.out _ R1.out).mono ?_; rintro e w2 ⟨rfl, r2, k2⟩; have R2 := hidden r2; clear r2) | (go_at_call 20; refine (HM.out _ R2.out).mono ?_; rintro e w3 ⟨rfl, r3, k3⟩; have R3 := hidden r3; clear r3) | (go_at_call 73; refine (HD.out _ R3.out).mono ?_; rintro e w4 ⟨rfl, r4, k4⟩; have R4 := hidden r4; clear r4))
  go_ret2
  exact ⟨m, s2, rfl, R4.out, ok'.out.1, ok'.out.2, fun _ => rfl⟩
theorem more_14 (B m d : Nat) (s : Ks) (w0 w : World) (a b c : Nat) (n : Int) (P L : Value) (r : Two B m d w0 w s s []) (ok : OkK s) (ha : a < 4294967296) :
    Calls Try.prog 44 #[.pointer (some ⟨m, 0, none⟩), .pointer (some ⟨d, 0, none⟩), .agg #[.int .i64 14, .int .u32 a, .int .u32 b, .int .u32 c, .int .i64 n, P, L]] w fun e w' => DoesR B m d w0 w' s 14 e := by
  have hba : Below w.heap.size w (w.alloc (actO 14 a b c n P L)) := (Below.refl _ _).alloc (Nat.le_refl _) _
  have HR : Hid (Two B m d w0 (w.alloc (actO 14 a b c n P L)) s s []) := (r.later hba).1
  have hsz := ok.sz
  have hmo := ok.most
  obtain ⟨T, hT, hT2⟩ : ∃ T : Nat, IntKind.u32.wrap ((s.bs.length : Int) - (a : Int)) = (T : Int) ∧ T < 4294967296 := ⟨(IntKind.u32.wrap ((s.bs.length : Int) - (a : Int))).toNat, by rw [IntKind.wrap_u32]; omega, by rw [IntKind.wrap_u32]; omega⟩
  have hw : IntKind.u32.wrap (s.bs.length : Int) = (s.bs.length : Int) := by rw [IntKind.wrap_u32]; omega
  have ok' := hidden (And.intro (ok_throw ok T) (size_throw s T))
  have HM := hidden fun w1 (r1 : Two B m d w0 w1 s s []) => Two.kThrow r1 ok T hT2
  have HD := hidden fun w1 (r1 : Two B m d w0 w1 (thrS s T) s []) => Two.dThrow r1 ok T hT2
  obtain ⟨ua, uc, hc⟩ : ∃ ua uc, (w.alloc (actO 14 a b c n P L)).cell? ⟨d, 0, none⟩ = some (.slice ua s.bs.length uc) := by
    obtain ⟨v, u, h1, h2, _⟩ := HR.out
    obtain ⟨ua, uc, rfl, dc⟩ := h2.dc
    exact ⟨ua, uc, dc.c0⟩
  obtain ⟨q0, q1, q2, q3, q4, q5, q6⟩ := act_cells (w' := w) (heap_alloc_new w (actO 14 a b c n P L))
  clear r ok hba q2 q3 q4 q5 q6
  generalize thrE s T = A at *
  generalize thrS s T = s1 at *
  have hc' : (w.alloc (.cells #[.int .i64 14, .int .u32 a, .int .u32 b, .int .u32 c, .int .i64 n, P, L] 27)).cell? ⟨d, 0, none⟩ = some (.slice ua s.bs.length uc) := hc
  have q0' : (w.alloc (.cells #[.int .i64 14, .int .u32 a, .int .u32 b, .int .u32 c, .int .i64 n, P, L] 27)).cell? ⟨w.heap.size, 0, none⟩ = some (.int .i64 14) := q0
  have q1' : (w.alloc (.cells #[.int .i64 14, .int .u32 a, .int .u32 b, .int .u32 c, .int .i64 n, P, L] 27)).cell? ⟨w.heap.size, 1, none⟩ = some (.int .u32 a) := q1
  go_enter Try.func44, Try.ntmps44
  go_wp2
  go_quiet (fail)
  have RN := hidden (HR.out.later (Dr.below ⟨nq, rfl⟩ : Below (w.alloc (actO 14 a b c n P L)).heap.size _ ((w.alloc (actO 14 a b c n P L)).drewN nq))).1
  go_wp2_with (first | (go_at_call 74; refine (HM.out _ RN.out).mono ?_; rintro e w1 ⟨rfl, r1, k1⟩; have R1 := hidden r1; clear r1) | (go_at_call 14; refine (num10 _ _).mono ?_; rintro e w9 ⟨rfl, rfl⟩) | (go_at_call 75; refine (HD.out _ R1.out).mono ?_; rintro e w2 ⟨rfl, r2, k2⟩; have R2 := hidden r2; clear r2))
  go_ret2
  exact ⟨m, s1, rfl, R2.out, ok'.out.1, ok'.out.2, fun _ => rfl⟩
theorem more_17 (B m d : Nat) (s : Ks) (w0 w : World) (a b c : Nat) (n : Int) (pa : Option Addr) (pn pc : Nat) (ps : List Int) (L : Value) (r : Two B m d w0 w s s []) (ok : OkK s) (ha : a < 4294967296) (hb : b < 4294967296) (hc : c < 4294967296) (hp : Reads w pa pn pc ps) (hpz : OkB ps) (hpn : pn ≤ 100000) (hpb : 0 < pn → ∀ x, pa = some x → x.block < B) :
    Calls Try.prog 44 #[.pointer (some ⟨m, 0, none⟩), .pointer (some ⟨d, 0, none⟩), .agg #[.int .i64 17, .int .u32 a, .int .u32 b, .int .u32 c, .int .i64 n, .slice pa pn pc, L]] w fun e w' => DoesR B m d w0 w' s 17 e := by
  have hba : Below w.heap.size w (w.alloc (actO 17 a b c n (.slice pa pn pc) L)) := (Below.refl _ _).alloc (Nat.le_refl _) _
  have okl := ok_stub ok a b c
  have ok' := hidden (And.intro (ok_enter okl hpz) ((size_enter (stubS s a b c) ps).trans (size_stub s a b c)))
  have r2 := r.lows (blkOf pn pa) (blk_low hpb)
  have HR : Hid (Two B m d w0 (w.alloc (actO 17 a b c n (.slice pa pn pc) L)) s s (w.heap.size :: (blkOf pn pa ++ []))) := r2.fresh hba w.heap.size (Nat.le_refl _) (by simp)
  have HQ := hidden (heap_alloc_new w (actO 17 a b c n (.slice pa pn pc) L))
  have RD := hidden (HR.out.later ((Below.refl _ _).drew)).1
  have HV : Hid (RowZ (w.alloc (actO 17 a b c n (.slice pa pn pc) L)).drew pa pn pc ps (w.heap.size :: (blkOf pn pa ++ []))) := ⟨hp.later hba.drew, fun h0 x e => List.mem_cons_of_mem _ (List.mem_append_left _ (blk_mem h0 e))⟩
  have HML := hidden fun w1 (r1 : Two B m d w0 w1 s s (w.heap.size :: (blkOf pn pa ++ []))) => Two.kStub r1 ok a b c ha hb hc
  have HDL := hidden fun w1 (r1 : Two B m d w0 w1 (stubS s a b c) s (w.heap.size :: (blkOf pn pa ++ []))) => Two.dStub r1 ok a b c ha hb hc
  have HM := hidden fun w1 (r1 : Two B m d w0 w1 (stubS s a b c) (stubS s a b c) (w.heap.size :: (blkOf pn pa ++ []))) (hv : RowZ w1 pa pn pc ps (w.heap.size :: (blkOf pn pa ++ []))) => Two.kEnter r1 okl pa pn pc ps hv hpz hpn
  have HD := hidden fun w1 (r1 : Two B m d w0 w1 (enterS (stubS s a b c) ps) (stubS s a b c) (w.heap.size :: (blkOf pn pa ++ []))) (hv : RowZ w1 pa pn pc ps (w.heap.size :: (blkOf pn pa ++ []))) => Two.dEnter r1 okl pa pn pc ps hv hpz hpn
  have HK : Hid (∀ w1, Kept (w.alloc (actO 17 a b c n (.slice pa pn pc) L)) w1 (w.heap.size :: (blkOf pn pa ++ [])) → w1.heap[w.heap.size]? = some (actO 17 a b c n (.slice pa pn pc) L)) := fun w1 hk => by rw [hk _ List.mem_cons_self]; exact HQ.out
  clear r ok hba r2 okl
  generalize stubUE s = E at *
  generalize enterE (stubS s a b c) ps = A at *
  generalize enterS (stubS s a b c) ps = s2 at *
  generalize stubS s a b c = s1 at *
  go_enter Try.func44, Try.ntmps44
  go_wp2_with fail
  go_region_held3 (fun w' => w'.cell? ⟨w.heap.size, 1, none⟩ = some (.int .u32 a) ∧ w'.cell? ⟨w.heap.size, 2, none⟩ = some (.int .u32 b) ∧ w'.cell? ⟨w.heap.size, 3, none⟩ = some (.int .u32 c)) (first | assumption | exact ⟨by assumption, by assumption, by assumption⟩ | go_keep) (first | (go_at_call 19; refine (HML.out _ RD.out).mono ?_; rintro e w1 ⟨rfl, r1, k1⟩; have R1 := hidden r1; clear r1; obtain ⟨j0, j1, j2, j3, j4, j5, j6⟩ := act_cells (w' := w) (HK.out _ k1)) | (go_at_call 14; refine (num10 _ _).mono ?_; rintro e w9 ⟨rfl, rfl⟩) | (go_at_call 72; refine (HDL.out _ R1.out).mono ?_; rintro e w2 ⟨rfl, r2, k2⟩; have R2 := hidden r2; clear r2; obtain ⟨i0, i1, i2, i3, i4, i5, i6⟩ := act_cells (w' := w) (HK.out _ (k1.trans k2))) | fail)
  go_wp2
  have HV2 := hidden ((HV.out.kept k1).kept k2)
  have RD2 := hidden (R2.out.later ((Below.refl _ _).drew)).1
  have HV3 : Hid (RowZ w2.drew pa pn pc ps (w.heap.size :: (blkOf pn pa ++ []))) := HV2.out.kept (fun g hg => rfl)
  go_region_held3 (fun w' => w'.cell? ⟨w.heap.size, 5, none⟩ = some (.slice pa pn pc)) (first | assumption | go_keep) (first | (go_at_call 15; refine (HM.out _ RD2.out HV3.out).mono ?_; rintro e w3 ⟨rfl, r3, k3⟩; have R3 := hidden r3; clear r3; have hk3 : Kept w2 w3 (w.heap.size :: (blkOf pn pa ++ [])) := k3; obtain ⟨l0, l1, l2, l3, l4, l5, l6⟩ := act_cells (w' := w) (HK.out _ ((k1.trans k2).trans hk3))) | (go_at_call 14; refine (num10 _ _).mono ?_; rintro e w9 ⟨rfl, rfl⟩) | (go_at_call 23; refine (HD.out _ R3.out (HV3.out.kept k3)).mono ?_; rintro e w4 ⟨rfl, r4, k4⟩; have R4 := hidden r4; clear r4; obtain ⟨o0, o1, o2, o3, o4, o5, o6⟩ := act_cells (w' := w) (HK.out _ (((k1.trans k2).trans hk3).trans k4))) | fail)
  go_wp2
  go_ret2
  exact ⟨m, s2, rfl, R4.out.less (by simp), ok'.out.1, ok'.out.2, fun _ => rfl⟩
end Go.Proofs.Ythhkennomnmjkaa
namespace Go.Proofs.Ythhkennomnmjkaa
open Go.RowKit
set_option maxHeartbeats 1000000
set_option maxRecDepth 100000
set_option linter.unusedVariables false

theorem own_same {B : Nat} {w w' : World} {g n c e size : Nat} {xs : List Value} (h : w.ownsRow B e size (.slice (some ⟨g, 0, none⟩) n c) n xs) (hk : w'.heap[g]? = w.heap[g]?) : w'.ownsRow B e size (.slice (some ⟨g, 0, none⟩) n c) n xs := by
  refine ⟨h.1, ?_⟩
  rcases h.2 with h1 | ⟨g', cap, cur, h1, h2, h3, h4⟩
  · exact .inl h1
  · simp only [Value.slice.injEq, Option.some.injEq, Addr.mk.injEq, true_and, and_true] at h1
    obtain ⟨rfl, rfl⟩ := h1
    exact .inr ⟨_, _, cur, rfl, h2, hk.trans h3, h4⟩
/-- a row's bytes written over: nothing else turns -/
theorem spoil_fm (g l c B : Nat) (xs : List Int) (w : World) (h : w.ownsRow B 5 1 (.slice (some ⟨g, 0, none⟩) l c) l (bytesV xs)) (hl : l ≤ 9223372036854775807) :
    Calls Try.prog 77 #[.slice (some ⟨g, 0, none⟩) l c] w fun e w' => e = .returned (.tuple #[]) ∧ Fm w w' (fun k => k = g) (fun k => k = g) := by
  have HF : Hid (∀ i, w.frozen? ⟨g, i, none⟩ = false) := hidden fun i => h.frozenAt i
  have HC : Hid (∀ i, i < l → ∃ u, w.cell? ⟨g, i, none⟩ = some u) := hidden fun i hi => ⟨_, by have := owned_cells h i hi; rwa [Nat.zero_add] at this⟩
  have hl2 : (l : Int) ≤ 9223372036854775807 := by omega
  clear h
  go_enter Try.func77, Try.ntmps77
  go_wp2
  go_loopw [2] (fun i w' => ∃ k : Nat, k ≤ l ∧ i = .int .i64 k ∧ Hid (∀ i, w'.frozen? ⟨g, i, none⟩ = false) ∧ Hid (∀ i, i < l → ∃ u, w'.cell? ⟨g, i, none⟩ = some u) ∧ Hid (Fm w w' (fun k => k = g) (fun k => k = g))) (fun i _ => l - (intOf i).toNat)
  case atStart => exact ⟨0, by omega, rfl, HF, HC, Fm.same (Below.refl _ _)⟩
  case round =>
    obtain ⟨k, hk, rfl, hF, hC, HB⟩ := hrel
    by_cases hlt : k < l
    · have hlt2 : (k : Int) < (l : Int) := by omega
      have hk0 : (0 : Int) ≤ (k : Int) := by omega
      obtain ⟨u, hu⟩ := hC.out k hlt
      have hf := hF.out k
      go_wp2
      go_roundw
      case rel =>
        refine ⟨k + 1, by omega, by go_num, hidden (fun i => ?_), hidden (fun i hi => ?_), HB.out.set g k _ rfl⟩
        · rw [World.frozen?_setCell]; exact hF.out i
        · by_cases e : i = k
          · subst e
            exact ⟨_, World.cell?_setCell_same _ _ _ hu⟩
          · obtain ⟨u', hu'⟩ := hC.out i hi
            exact ⟨u', by rw [World.cell?_setCell_other _ _ _ _ (fun q => e (congrArg Addr.off q).symm)]; exact hu'⟩
      case measure => simp [intOf]; omega
    · obtain rfl : k = l := by omega
      have hlt2 : ¬ (k : Int) < (k : Int) := by omega
      go_wp2
      refine bodyPost_end (v := .tuple #[]) (by simp [results, Try.results77, go_sem]) rfl ⟨rfl, HB.out⟩
/-- a block that is no part of either written over -/
theorem Two.spoil {B m d : Nat} {w0 w w' : World} {s t : Ks} {gs : List Nat} {g : Nat} (r : Two B m d w0 w s t gs) (hm : g ∈ gs) (hB : B ≤ g) (f : Fm w w' (fun k => k = g) (fun k => k = g)) : Two B m d w0 w' s t gs := by
  obtain ⟨v, u, h1, h2, h4, h5, h6, hg⟩ := r
  obtain ⟨_, g2, g3⟩ := hg g hm
  refine ⟨v, u, ⟨h1.base, by rw [f.block m h1.lt (fun e => g2 (.inl e.symm))]; exact h1.box, own8_fm f h1.row (fun k e e' => g2 (.inr (e' ▸ e)))⟩, ⟨h2.base, by rw [f.block d h2.lt (fun e => g3 (.inl e.symm))]; exact h2.box, own8_fm f h2.row (fun k e e' => g3 (.inr (e' ▸ e)))⟩, h4, h5.trans (f.below h6 (fun k e => by omega)), Nat.le_trans h6 f.size, fun k hk => ⟨Nat.lt_of_lt_of_le (hg k hk).1 f.size, (hg k hk).2⟩⟩
theorem Kept.spoil {w w' : World} {gs : List Nat} {g : Nat} (f : Fm w w' (fun k => k = g) (fun k => k = g)) (h : ∀ k ∈ gs, k < w.heap.size ∧ k ≠ g) : Kept w w' gs := fun k hk => f.block k (h k hk).1 (h k hk).2
theorem Two.lt {B m d : Nat} {w0 w : World} {s t : Ks} {gs : List Nat} (r : Two B m d w0 w s t gs) : B ≤ w.heap.size ∧ ∀ g ∈ gs, g < w.heap.size := by
  obtain ⟨v, u, h1, h2, h4, h5, h6, hg⟩ := r
  exact ⟨h6, fun g hm => (hg g hm).1⟩

theorem more_15 (B m d : Nat) (s : Ks) (w0 w : World) (a b c : Nat) (n : Int) (pa : Option Addr) (pn pc : Nat) (ps : List Int) (L : Value) (r : Two B m d w0 w s s []) (ok : OkK s) (hp : Reads w pa pn pc ps) (hpz : OkB ps) (hpn : pn ≤ 100000) (hpb : 0 < pn → ∀ x, pa = some x → x.block < B) :
    Calls Try.prog 44 #[.pointer (some ⟨m, 0, none⟩), .pointer (some ⟨d, 0, none⟩), .agg #[.int .i64 15, .int .u32 a, .int .u32 b, .int .u32 c, .int .i64 n, .slice pa pn pc, L]] w fun e w' => DoesR B m d w0 w' s 15 e := by
  have hba : Below w.heap.size w (w.alloc (actO 15 a b c n (.slice pa pn pc) L)) := (Below.refl _ _).alloc (Nat.le_refl _) _
  have ok' := hidden (And.intro (ok_load ok hpz) (size_load s ps))
  have r2 := r.lows (blkOf pn pa) (blk_low hpb)
  have HR : Hid (Two B m d w0 (w.alloc (actO 15 a b c n (.slice pa pn pc) L)) s s (w.heap.size :: (blkOf pn pa ++ []))) := r2.fresh hba w.heap.size (Nat.le_refl _) (by simp)
  have HQ := hidden (heap_alloc_new w (actO 15 a b c n (.slice pa pn pc) L))
  have hrd := hp.later hba
  have HRD := hidden hrd
  have HV : Hid (RowZ (w.alloc (actO 15 a b c n (.slice pa pn pc) L)) pa pn pc ps (w.heap.size :: (blkOf pn pa ++ []))) := ⟨hrd, fun h0 x e => List.mem_cons_of_mem _ (List.mem_append_left _ (blk_mem h0 e))⟩
  have HX : Hid (∀ g1 c1 w1, w1.ownsRow (w.alloc (actO 15 a b c n (.slice pa pn pc) L)).heap.size 5 1 (.slice (some ⟨g1, 0, none⟩) pn c1) pn (bytesV ps) → Below (w.alloc (actO 15 a b c n (.slice pa pn pc) L)).heap.size (w.alloc (actO 15 a b c n (.slice pa pn pc) L)) w1 → Two B m d w0 w1 s s (g1 :: (w.heap.size :: (blkOf pn pa ++ []))) ∧ RowZ w1 (some ⟨g1, 0, none⟩) pn c1 ps (g1 :: (w.heap.size :: (blkOf pn pa ++ []))) ∧ Kept (w.alloc (actO 15 a b c n (.slice pa pn pc) L)) w1 (w.heap.size :: (blkOf pn pa ++ [])) ∧ B ≤ g1 ∧ ∀ g ∈ (w.heap.size :: (blkOf pn pa ++ [])), g ≠ g1) := fun g1 c1 w1 ho hb => by
    have hgl := ho.lt g1 rfl
    have hlt := HR.out.lt
    exact ⟨HR.out.fresh hb g1 hgl.1 hgl.2, ⟨own_reads ho, fun _ x e => by cases e; exact List.mem_cons_self⟩, (HR.out.later hb).2, Nat.le_trans hlt.1 hgl.1, fun g hg e => by have := hlt.2 g hg; omega⟩
  have HM := hidden fun w1 gs (r1 : Two B m d w0 w1 s s gs) (pa' : Option Addr) (pc' : Nat) (hv : RowZ w1 pa' pn pc' ps gs) => Two.kLoad r1 ok pa' pn pc' ps hv hpz hpn
  have HD := hidden fun w1 (r1 : Two B m d w0 w1 (loadS s ps) s (w.heap.size :: (blkOf pn pa ++ []))) (hv : RowZ w1 pa pn pc ps (w.heap.size :: (blkOf pn pa ++ []))) => Two.dLoad r1 ok pa pn pc ps hv hpz hpn
  have HK : Hid (∀ w1, Kept (w.alloc (actO 15 a b c n (.slice pa pn pc) L)) w1 (w.heap.size :: (blkOf pn pa ++ [])) → w1.heap[w.heap.size]? = some (actO 15 a b c n (.slice pa pn pc) L)) := fun w1 hk => by rw [hk _ List.mem_cons_self]; exact HQ.out
  clear r ok hba r2 hp hrd
  generalize loadE s ps = A at *
  generalize loadS s ps = s1 at *
  go_enter Try.func44, Try.ntmps44
  go_wp2_with (first | (at_builtin; refine wpList_copyOf (w0 := w.alloc (actO 15 a b c n (.slice pa pn pc) L)) rfl _ _ rfl pn pc pa ps (by simp only [World.size_alloc]; rfl) rfl HRD.out (by omega) ?_; intro g1 c1 w1 ho1 hb1; have HO1 := hidden ho1; obtain ⟨t1, t2, t3, t4, t5⟩ := HX.out _ _ _ ho1 hb1; have T1 := hidden t1; have T2 := hidden t2; have T3 := hidden t3; have T5 := hidden t5; clear ho1 hb1 t1 t2 t3 t5) | (go_at_call 76; refine (HM.out _ _ T1.out _ _ T2.out).mono ?_; rintro e w2 ⟨rfl, r1, k1⟩; have R1 := hidden r1; clear r1; have K1 := hidden k1; clear k1) | (go_at_call 77; refine (spoil_fm g1 pn c1 _ ps w2 (own_same HO1.out (K1.out _ List.mem_cons_self)) (by omega)).mono ?_; rintro e w3 ⟨rfl, f3⟩; have F3 := hidden f3; clear f3))
  have R2 := hidden ((R1.out.spoil List.mem_cons_self t4 F3.out).less (gs' := w.heap.size :: (blkOf pn pa ++ [])) (fun g hg => List.mem_cons_of_mem _ hg))
  have K3 : Hid (Kept (w.alloc (actO 15 a b c n (.slice pa pn pc) L)) w3 (w.heap.size :: (blkOf pn pa ++ []))) := (T3.out.trans (fun g hg => K1.out g (List.mem_cons_of_mem _ hg))).trans (Kept.spoil F3.out (fun k hk => ⟨R1.out.lt.2 k (List.mem_cons_of_mem _ hk), T5.out k hk⟩))
  obtain ⟨j0, j1, j2, j3, j4, j5, j6⟩ := act_cells (w' := w) (HK.out _ K3.out)
  have HV3 := hidden (HV.out.kept K3.out)
  have RD2 := hidden (R2.out.later ((Below.refl _ _).drew)).1
  have HV4 : Hid (RowZ w3.drew pa pn pc ps (w.heap.size :: (blkOf pn pa ++ []))) := HV3.out.kept (fun g hg => rfl)
  clear T1 T2 T3 T5 R1 K1 F3 HO1 HX HM HR HRD
  go_region_held3 (fun w' => w'.cell? ⟨w.heap.size, 5, none⟩ = some (.slice pa pn pc)) (first | assumption | go_keep) (first | (go_at_call 14; refine (num10 _ _).mono ?_; rintro e w9 ⟨rfl, rfl⟩) | (go_at_call 78; refine (HD.out _ RD2.out HV4.out).mono ?_; rintro e w4 ⟨rfl, r4, k4⟩; have R4 := hidden r4; clear r4; have hk4 : Kept w3 w4 (w.heap.size :: (blkOf pn pa ++ [])) := k4; obtain ⟨o0, o1, o2, o3, o4, o5, o6⟩ := act_cells (w' := w) (HK.out _ (K3.out.trans hk4))) | fail)
  go_wp2
  go_ret2
  exact ⟨m, s1, rfl, R4.out.less (by simp), ok'.out.1, ok'.out.2, fun _ => rfl⟩
theorem more_19 (B m d : Nat) (s : Ks) (w0 w : World) (a b c : Nat) (n : Int) (P L : Value) (r : Two B m d w0 w s s []) (ok : OkK s) :
    Calls Try.prog 44 #[.pointer (some ⟨m, 0, none⟩), .pointer (some ⟨d, 0, none⟩), .agg #[.int .i64 19, .int .u32 a, .int .u32 b, .int .u32 c, .int .i64 n, P, L]] w fun e w' => DoesR B m d w0 w' s 19 e := by
  have hba : Below w.heap.size w (w.alloc (actO 19 a b c n P L)) := (Below.refl _ _).alloc (Nat.le_refl _) _
  have ok' := hidden (And.intro (ok_load ok ok.okb) (size_load s s.bs))
  have hsz := ok.sz
  have hmo := ok.most
  have HR : Hid (Two B m d w0 (w.alloc (actO 19 a b c n P L)) s s []) := (r.later hba).1
  obtain ⟨ua, uc, hc, hrd⟩ : ∃ ua uc, (w.alloc (actO 19 a b c n P L)).cell? ⟨d, 0, none⟩ = some (.slice ua s.bs.length uc) ∧ Reads (w.alloc (actO 19 a b c n P L)) ua s.bs.length uc s.bs := by
    obtain ⟨v, u, h1, h2, _⟩ := HR.out
    obtain ⟨ua, uc, rfl, dc⟩ := h2.dc
    exact ⟨ua, uc, dc.c0, dc.rd⟩
  have HRD := hidden hrd
  have HX : Hid (∀ g1 c1 w1, w1.ownsRow (w.alloc (actO 19 a b c n P L)).heap.size 5 1 (.slice (some ⟨g1, 0, none⟩) s.bs.length c1) s.bs.length (bytesV s.bs) → Below (w.alloc (actO 19 a b c n P L)).heap.size (w.alloc (actO 19 a b c n P L)) w1 → Two B m d w0 w1 s s [g1] ∧ RowZ w1 (some ⟨g1, 0, none⟩) s.bs.length c1 s.bs [g1] ∧ w1.cell? ⟨d, 0, none⟩ = some (.slice ua s.bs.length uc)) := fun g1 c1 w1 ho hb => by
    have hgl := ho.lt g1 rfl
    exact ⟨HR.out.fresh hb g1 hgl.1 hgl.2, ⟨own_reads ho, fun _ x e => by cases e; exact List.mem_cons_self⟩, cellLater hb hc⟩
  have HM := hidden fun w1 gs (r1 : Two B m d w0 w1 s s gs) (pa' : Option Addr) (pc' : Nat) (hv : RowZ w1 pa' s.bs.length pc' s.bs gs) => Two.kLoad r1 ok pa' s.bs.length pc' s.bs hv ok.okb (by omega)
  have HD := hidden fun w1 gs (r1 : Two B m d w0 w1 (loadS s s.bs) s gs) (pa' : Option Addr) (pc' : Nat) (hv : RowZ w1 pa' s.bs.length pc' s.bs gs) => Two.dLoad r1 ok pa' s.bs.length pc' s.bs hv ok.okb (by omega)
  have hc' : (w.alloc (.cells #[.int .i64 19, .int .u32 a, .int .u32 b, .int .u32 c, .int .i64 n, P, L] 27)).cell? ⟨d, 0, none⟩ = some (.slice ua s.bs.length uc) := hc
  have hc2 : ((w.alloc (.cells #[.int .i64 19, .int .u32 a, .int .u32 b, .int .u32 c, .int .i64 n, P, L] 27)).alloc (.cells #[] 5)).cell? ⟨d, 0, none⟩ = some (.slice ua s.bs.length uc) := cellLater ((Below.refl _ _).alloc (Nat.le_refl _) _) hc
  clear r ok hba hrd
  generalize loadE s s.bs = A at *
  generalize loadS s s.bs = s1 at *
  go_enter Try.func44, Try.ntmps44
  go_wp2_with (first | (at_builtin; refine wpList_copyOf (w0 := w.alloc (actO 19 a b c n P L)) rfl _ _ rfl s.bs.length uc ua s.bs (by simp only [World.size_alloc]; rfl) rfl HRD.out (by omega) ?_; intro g1 c1 w1 ho1 hb1; obtain ⟨t1, t2, t3⟩ := HX.out _ _ _ ho1 hb1; have T1 := hidden t1; have T2 := hidden t2; clear ho1 hb1 t1 t2) | (go_at_call 76; refine (HM.out _ _ T1.out _ _ T2.out).mono ?_; rintro e w2 ⟨rfl, r1, k1⟩; have R1 := hidden r1; clear r1; have K1 := hidden k1; clear k1) | (go_at_call 14; refine (num10 _ _).mono ?_; rintro e w9 ⟨rfl, rfl⟩) | (go_at_call 78; refine (HD.out _ _ R1.out _ _ (T2.out.kept K1.out)).mono ?_; rintro e w3 ⟨rfl, r3, k3⟩; have R3 := hidden r3; clear r3))
  go_ret2
  exact ⟨m, s1, rfl, R3.out.less (by simp), ok'.out.1, ok'.out.2, fun _ => rfl⟩
end Go.Proofs.Ythhkennomnmjkaa
namespace Go.Proofs.Ythhkennomnmjkaa
open Go.RowKit
set_option maxHeartbeats 1000000
set_option maxRecDepth 100000
set_option linter.unusedVariables false

/-- bytes that are lent, with one more behind them -/
def LentAt (w : World) (g len : Nat) (zs : List Int) : Prop := ∀ i, i < len + 1 → w.cell? ⟨g, 0 + i, none⟩ = some (.int .u8 ((zs ++ [77]).getD i 0))
theorem LentAt.reads {w : World} {g len c : Nat} {zs : List Int} (h : LentAt w g len zs) (hl : zs.length = len) (hc : len + 1 ≤ c) : Reads w (some ⟨g, 0, none⟩) len c zs :=
  ⟨hl, by omega, .inr ⟨_, rfl, fun i hi => by
    have := h i (by omega)
    have e : (zs ++ [77]).getD i 0 = zs.getD i 0 := by simp [List.getD_eq_getElem?_getD, List.getElem?_append_left (show i < zs.length by omega)]
    rw [e] at this
    rw [plain_add]
    exact this⟩⟩
theorem LentAt.lt {w : World} {g len : Nat} {zs : List Int} (h : LentAt w g len zs) : g < w.heap.size := World.block_lt_of_cell? _ _ (h 0 (by omega))
/-- a stack that is no part of either may go on in the program's place -/
theorem Two.turn {B m m' d : Nat} {w0 w w' : World} {s s' t : Ks} {v' : Value} {gs : List Nat} (r : Two B m d w0 w' s' t gs) (h : KAt B w m' v' s) (hk : Kept w w' gs) (hm : m' ∈ gs) (hv : ∀ k, v'.ownBlock = some k → k ∈ gs) : Two B m' d w0 w' s t [] := by
  obtain ⟨v, u, h1, h2, h4, h5, h6, hg⟩ := r
  refine ⟨v', u, ⟨h.base, (hk m' hm).trans h.box, ?_⟩, h2, ?_, h5, h6, fun g hg => by cases hg⟩
  · refine ⟨h.row.1, ?_⟩
    rcases h.row.2 with e | ⟨g, cap, cur, e1, e2, e3, e4⟩
    · exact .inl e
    · exact .inr ⟨g, cap, cur, e1, e2, (hk g (hv g (by rw [e1]; rfl))).trans e3, e4⟩
  · rintro k (rfl | e) hk'
    · exact (hg _ hm).2.2 hk'
    · exact (hg k (hv k e)).2.2 hk'
def ownL (v : Value) : List Nat := v.ownBlock.toList
theorem own_mem {v : Value} {k : Nat} (e : v.ownBlock = some k) : k ∈ ownL v := by unfold ownL; rw [e]; simp
theorem Two.freshes {B m d : Nat} {w0 w w' : World} {s t : Ks} {gs : List Nat} (r : Two B m d w0 w s t gs) (hb : Below w.heap.size w w') : ∀ (gl : List Nat), (∀ g ∈ gl, w.heap.size ≤ g ∧ g < w'.heap.size) → Two B m d w0 w' s t (gl ++ gs)
  | [], _ => (r.later hb).1
  | g :: gl, h => by
    have r1 := Two.freshes r hb gl (fun k hk => h k (List.mem_cons_of_mem _ hk))
    obtain ⟨v, u, h1, h2, h4, h5, h6, hg⟩ := r
    obtain ⟨h7, h8⟩ := h g List.mem_cons_self
    obtain ⟨v', u', h1', h2', h4', h5', h6', hg'⟩ := Two.fresh ⟨v, u, h1, h2, h4, h5, h6, fun k hk => hg k hk⟩ hb g h7 h8
    refine ⟨v, u, h1.later hb, h2.later hb, h4, h5.trans (hb.mono h6), Nat.le_trans h6 hb.size, fun k hk => ?_⟩
    rcases List.mem_cons.1 hk with rfl | hk
    · exact ⟨h8, fun e => by have := (h1.low _ e).2; omega, fun e => by have := (h2.low _ e).2; omega⟩
    · rcases List.mem_append.1 hk with hk | hk
      · obtain ⟨a1, a2⟩ := h k (List.mem_cons_of_mem _ hk)
        exact ⟨a2, fun e => by have := (h1.low _ e).2; omega, fun e => by have := (h2.low _ e).2; omega⟩
      · exact ⟨Nat.lt_of_lt_of_le (hg k hk).1 hb.size, (hg k hk).2⟩
theorem Two.kCopy {B m d : Nat} {w0 w : World} {s t : Ks} (r : Two B m d w0 w s t []) (ok : OkK s) :
    Calls Try.prog 79 #[.pointer (some ⟨m, 0, none⟩)] w fun e w' => ∃ m' v', e = .returned (.pointer (some ⟨m', 0, none⟩)) ∧ Hid (KAt B w' m' v' s) ∧ Hid (Two B m d w0 w' s t (m' :: (ownL v' ++ []))) := by
  have r' := r
  obtain ⟨v, u, h1, h2, h4, h5, h6, hg⟩ := r
  refine (kCopy_any B m v s w h1 (by have := ok.sz; have := ok.most; omega)).mono ?_
  rintro e w' ⟨rfl, ⟨v', hk⟩, hb⟩
  have hlow := hk.low
  refine ⟨_, v', rfl, ⟨Nat.le_trans h6 hk.base, hk.box, own_base hk.row h6⟩, ?_⟩
  exact r'.freshes hb (w.heap.size :: ownL v') (fun g hg => by
    rcases List.mem_cons.1 hg with rfl | hg
    · exact hlow _ (.inl rfl)
    · refine hlow _ (.inr ?_)
      unfold ownL at hg
      simpa using hg)

theorem more_16 (B m d : Nat) (s : Ks) (w0 w : World) (a b c : Nat) (n : Int) (P L : Value) (r : Two B m d w0 w s s []) (ok : OkK s) :
    Calls Try.prog 44 #[.pointer (some ⟨m, 0, none⟩), .pointer (some ⟨d, 0, none⟩), .agg #[.int .i64 16, .int .u32 a, .int .u32 b, .int .u32 c, .int .i64 n, P, L]] w fun e w' => DoesR B m d w0 w' s 16 e := by
  have hba : Below w.heap.size w (w.alloc (actO 16 a b c n P L)) := (Below.refl _ _).alloc (Nat.le_refl _) _
  have HR : Hid (Two B m d w0 (w.alloc (actO 16 a b c n P L)) s s []) := (r.later hba).1
  have o1 := ok_push ok 77
  have o2 := ok_set o1 0 1 99
  have HC := hidden (HR.out.kCopy ok)
  have HP := hidden fun w1 gs (r1 : Two B m d w0 w1 s s gs) => Two.kPush r1 ok 77 (by omega)
  have HS := hidden fun w1 gs (r1 : Two B m d w0 w1 (pushS s 77) s gs) => Two.kSetLocal r1 o1 0 99 1 (by omega) (by omega)
  have HL := hidden fun w1 gs (r1 : Two B m d w0 w1 (setS (pushS s 77) 0 1 99) s gs) => Two.kLeave r1 o2
  have HO := hidden ok
  clear r ok hba o1 o2
  generalize leaveE (setS (pushS s 77) 0 1 99) = E3 at *
  generalize leaveS (setS (pushS s 77) 0 1 99) = s3 at *
  generalize setS (pushS s 77) 0 1 99 = s2 at *
  generalize locE (pushS s 77) 0 1 = E2 at *
  generalize pushS s 77 = s1 at *
  generalize pushE s = E1 at *
  go_enter Try.func44, Try.ntmps44
  go_wp2_with (first | (go_at_call 79; refine HC.out.mono ?_; rintro e w1 ⟨m', v', rfl, HK, HT⟩) | (go_at_call 16; refine (HP.out _ _ HT.out).mono ?_; rintro e w2 ⟨rfl, r2, k2⟩; have R2 := hidden r2; have K2 := hidden k2; clear r2 k2) | (go_at_call 42; refine (HS.out _ _ R2.out).mono ?_; rintro e w3 ⟨rfl, r3, k3⟩; have R3 := hidden r3; have K3 := hidden k3; clear r3 k3) | (go_at_call 36; refine (HL.out _ _ R3.out).mono ?_; rintro e w4 ⟨rfl, r4, k4⟩; have R4 := hidden r4; have K4 := hidden k4; clear r4 k4))
  go_ret2
  exact ⟨m', s, rfl, R4.out.turn HK.out ((K2.out.trans K3.out).trans K4.out) List.mem_cons_self (fun k e => List.mem_cons_of_mem _ (List.mem_append_left _ (own_mem e))), HO.out, rfl, fun h => absurd rfl h⟩
theorem more_rest (B m d : Nat) (s : Ks) (w0 w : World) (a b c : Nat) (n : Int) (k : Int) (P L : Value) (r : Two B m d w0 w s s []) (ok : OkK s) (h11 : k ≠ 11) (h12 : k ≠ 12) (h13 : k ≠ 13) (h14 : k ≠ 14) (h15 : k ≠ 15) (h16 : k ≠ 16) (h17 : k ≠ 17) (h18 : k ≠ 18) (h19 : k ≠ 19) :
    Calls Try.prog 44 #[.pointer (some ⟨m, 0, none⟩), .pointer (some ⟨d, 0, none⟩), .agg #[.int .i64 k, .int .u32 a, .int .u32 b, .int .u32 c, .int .i64 n, P, L]] w fun e w' => DoesR B m d w0 w' s k e := by
  have hba : Below w.heap.size w (w.alloc (actO k a b c n P L)) := (Below.refl _ _).alloc (Nat.le_refl _) _
  have HR := hidden (r.later hba).1
  have HO := hidden ok
  clear r ok hba
  go_enter Try.func44, Try.ntmps44
  go_wp2
  go_ret2
  exact ⟨m, s, rfl, HR.out, HO.out, rfl, fun _ => rfl⟩
theorem does_6 (B m d : Nat) (s : Ks) (w0 w : World) (a b c : Nat) (n : Int) (pa : Option Addr) (pn pc : Nat) (ps : List Int) (L : Value) (r : Two B m d w0 w s s []) (ok : OkK s) (hp : Reads w pa pn pc ps) (hpz : OkB ps) (hpn : pn ≤ 100000) (hpb : 0 < pn → ∀ x, pa = some x → x.block < B) :
    Calls Try.prog 9 #[.pointer (some ⟨m, 0, none⟩), .pointer (some ⟨d, 0, none⟩), .agg #[.int .i64 6, .int .u32 a, .int .u32 b, .int .u32 c, .int .i64 n, .slice pa pn pc, L]] w fun e w' => DoesR B m d w0 w' s 6 e := by
  have hba : Below w.heap.size w (w.alloc (actO 6 a b c n (.slice pa pn pc) L)) := (Below.refl _ _).alloc (Nat.le_refl _) _
  have ok' := hidden (And.intro (ok_enter ok hpz) (size_enter s ps))
  have r2 := r.lows (blkOf pn pa) (blk_low hpb)
  have HR : Hid (Two B m d w0 (w.alloc (actO 6 a b c n (.slice pa pn pc) L)) s s (w.heap.size :: (blkOf pn pa ++ []))) := r2.fresh hba w.heap.size (Nat.le_refl _) (by simp)
  have HQ := hidden (heap_alloc_new w (actO 6 a b c n (.slice pa pn pc) L))
  have hrd := hp.later hba
  have HL := hidden (lent_any pa pn pc ps _ hrd (by omega))
  have hl := hrd.1
  have HV : Hid (RowZ (w.alloc (actO 6 a b c n (.slice pa pn pc) L)) pa pn pc ps (w.heap.size :: (blkOf pn pa ++ []))) := ⟨hrd, fun h0 x e => List.mem_cons_of_mem _ (List.mem_append_left _ (blk_mem h0 e))⟩
  have HX : Hid (∀ g1 c1 w1, pn + 1 ≤ c1 → LentAt w1 g1 pn ps → (w.alloc (actO 6 a b c n (.slice pa pn pc) L)).heap.size ≤ g1 → Below (w.alloc (actO 6 a b c n (.slice pa pn pc) L)).heap.size (w.alloc (actO 6 a b c n (.slice pa pn pc) L)) w1 → Two B m d w0 w1 s s (g1 :: (w.heap.size :: (blkOf pn pa ++ []))) ∧ RowZ w1 (some ⟨g1, 0, none⟩) pn c1 ps (g1 :: (w.heap.size :: (blkOf pn pa ++ []))) ∧ Kept (w.alloc (actO 6 a b c n (.slice pa pn pc) L)) w1 (w.heap.size :: (blkOf pn pa ++ []))) := fun g1 c1 w1 hc1 hla hg hb => by
    exact ⟨HR.out.fresh hb g1 hg hla.lt, ⟨hla.reads hl hc1, fun _ x e => by cases e; exact List.mem_cons_self⟩, (HR.out.later hb).2⟩
  have HM := hidden fun w1 gs (r1 : Two B m d w0 w1 s s gs) (pa' : Option Addr) (pc' : Nat) (hv : RowZ w1 pa' pn pc' ps gs) => Two.kEnter r1 ok pa' pn pc' ps hv hpz hpn
  have HD := hidden fun w1 gs (r1 : Two B m d w0 w1 (enterS s ps) s gs) (hv : RowZ w1 pa pn pc ps gs) => Two.dEnter r1 ok pa pn pc ps hv hpz hpn
  have HKE : Hid (∀ g1 c1 w1, pn + 1 ≤ c1 → LentAt w1 g1 pn ps → Reads w1 pa pn pc ps → Calls Try.prog 35 #[.slice (some ⟨g1, 0, none⟩) pn c1, .slice pa pn pc] w1 fun e w' => e = .returned (.bool true) ∧ w' = w1) := fun g1 c1 w1 hc1 hla hr => kept_eq g1 pn c1 pa pc ps w1 hpz (by omega) hc1 hla hr
  have HK : Hid (∀ w1, Kept (w.alloc (actO 6 a b c n (.slice pa pn pc) L)) w1 (w.heap.size :: (blkOf pn pa ++ [])) → w1.heap[w.heap.size]? = some (actO 6 a b c n (.slice pa pn pc) L)) := fun w1 hk => by rw [hk _ List.mem_cons_self]; exact HQ.out
  clear r ok hba r2 hp hrd
  generalize enterE s ps = A at *
  generalize enterS s ps = s1 at *
  go_enter Try.func9, Try.ntmps9
  go_wp2_with (first | (go_at_call 34; refine HL.out.mono ?_; rintro e w1 ⟨g1, c1, rfl, hc1, hg1, hb1, hla⟩; have HLA : Hid (LentAt w1 g1 pn ps) := hla; obtain ⟨t1, t2, t3⟩ := HX.out _ _ _ hc1 hla hg1 hb1; have T1 := hidden t1; have T2 := hidden t2; have T3 := hidden t3; clear hla hb1 t1 t2 t3) | (go_at_call 15; refine (HM.out _ _ T1.out _ _ T2.out).mono ?_; rintro e w2 ⟨rfl, r1, k1⟩; have R1 := hidden r1; clear r1; have K1 := hidden k1; clear k1))
  have K2 : Hid (Kept (w.alloc (actO 6 a b c n (.slice pa pn pc) L)) w2 (w.heap.size :: (blkOf pn pa ++ []))) := T3.out.trans (fun g hg => K1.out g (List.mem_cons_of_mem _ hg))
  obtain ⟨j0, j1, j2, j3, j4, j5, j6⟩ := act_cells (w' := w) (HK.out _ K2.out)
  have HV2 : Hid (RowZ w2.drew pa pn pc ps (g1 :: (w.heap.size :: (blkOf pn pa ++ [])))) := ((HV.out.kept K2.out).more g1).kept (fun g hg => rfl)
  have RD2 := hidden (R1.out.later ((Below.refl _ _).drew)).1
  have HLN : Hid (∀ w3, Kept w2 w3 (g1 :: (w.heap.size :: (blkOf pn pa ++ []))) → LentAt w3 g1 pn ps) := fun w3 hk i hi => by rw [World.cell?_of_block (hk g1 List.mem_cons_self), World.cell?_of_block (K1.out g1 List.mem_cons_self)]; exact HLA.out i hi
  clear T1 T2 T3 R1 HX HM HR HL HLA hg1
  go_region_held3 (fun w' => w'.cell? ⟨w.heap.size, 5, none⟩ = some (.slice pa pn pc)) (first | assumption | go_keep) (first | (go_at_call 14; refine (num10 _ _).mono ?_; rintro e w9 ⟨rfl, rfl⟩) | (go_at_call 23; refine (HD.out _ _ RD2.out HV2.out).mono ?_; rintro e w4 ⟨rfl, r4, k4⟩; have R4 := hidden r4; clear r4; have hk4 : Kept w2 w4 (g1 :: (w.heap.size :: (blkOf pn pa ++ []))) := k4; obtain ⟨o0, o1, o2, o3, o4, o5, o6⟩ := act_cells (w' := w) (HK.out _ (K2.out.trans (fun g hg => hk4 g (List.mem_cons_of_mem _ hg))))) | (go_at_call 35; refine (HKE.out _ _ _ hc1 (HLN.out _ hk4) (HV2.out.kept k4).1).mono ?_; rintro e w5 ⟨rfl, rfl⟩) | fail)
  go_wp2
  go_ret2
  exact ⟨m, s1, rfl, R4.out.less (by simp), ok'.out.1, ok'.out.2, fun _ => rfl⟩
theorem does_more (B m d : Nat) (s : Ks) (w0 w : World) (a b c : Nat) (n : Int) (k : Int) (P L : Value) (r : Two B m d w0 w s s []) (ok : OkK s) (h0 : k ≠ 0) (h1 : k ≠ 1) (h2 : k ≠ 2) (h3 : k ≠ 3) (h4 : k ≠ 4) (h5 : k ≠ 5) (h6 : k ≠ 6) (h7 : k ≠ 7) (h8 : k ≠ 8) (h9 : k ≠ 9) (h10 : k ≠ 10) (hm : ∀ w1, Two B m d w0 w1 s s [] → Calls Try.prog 44 #[.pointer (some ⟨m, 0, none⟩), .pointer (some ⟨d, 0, none⟩), .agg #[.int .i64 k, .int .u32 a, .int .u32 b, .int .u32 c, .int .i64 n, P, L]] w1 fun e w' => DoesR B m d w0 w' s k e) :
    Calls Try.prog 9 #[.pointer (some ⟨m, 0, none⟩), .pointer (some ⟨d, 0, none⟩), .agg #[.int .i64 k, .int .u32 a, .int .u32 b, .int .u32 c, .int .i64 n, P, L]] w fun e w' => DoesR B m d w0 w' s k e := by
  have hba : Below w.heap.size w (w.alloc (actO k a b c n P L)) := (Below.refl _ _).alloc (Nat.le_refl _) _
  have HR := hidden (r.later hba).1
  have HM := hidden hm
  have HQ := hidden (heap_alloc_new w (actO k a b c n P L))
  clear r ok hba hm
  go_enter Try.func9, Try.ntmps9
  go_wp2_with (first | (go_at_call 44; refine (HM.out _ HR.out).mono ?_; rintro e w1 ⟨m', s', rfl, r1, o1, z1, q1⟩; have R1 := hidden r1; have O1 := hidden o1; clear r1 o1))
  go_ret2
  exact ⟨m', s', rfl, R1.out, O1.out, z1, q1⟩
end Go.Proofs.Ythhkennomnmjkaa
namespace Go.Proofs.Ythhkennomnmjkaa
open Go.RowKit Go.ChangeShapes Go.WideShapes
set_option maxHeartbeats 1000000
set_option maxRecDepth 100000
set_option linter.unusedVariables false

/-- an act as it lies in memory -/
structure Ac where
  k : Int
  a : Nat
  b : Nat
  c : Nat
  n : Int
  pa : Option Addr
  pn : Nat
  pc : Nat
  ps : List Int
  la : Option Addr
  ln : Nat
  lc : Nat
  xs : List Nat
def AcOk (w : World) (r : Ac) : Prop := (-9223372036854775808 ≤ r.k ∧ r.k ≤ 9223372036854775807) ∧ r.a < 4294967296 ∧ r.b < 4294967296 ∧ r.c < 4294967296 ∧ (-9223372036854775808 ≤ r.n ∧ r.n ≤ 9223372036854775807) ∧ (Reads w r.pa r.pn r.pc r.ps ∧ OkB r.ps ∧ r.pn ≤ 281474976710656) ∧ VRow w r.la r.ln r.xs ∧ r.ln ≤ r.lc ∧ r.ln ≤ 281474976710656
def AcAt (w : World) (b p : Nat) (r : Ac) : Prop := w.cell? ⟨b, p, none⟩ = some (.int .i64 r.k) ∧ w.cell? ⟨b, p + 1, none⟩ = some (.int .u32 r.a) ∧ w.cell? ⟨b, p + 2, none⟩ = some (.int .u32 r.b) ∧ w.cell? ⟨b, p + 3, none⟩ = some (.int .u32 r.c) ∧ w.cell? ⟨b, p + 4, none⟩ = some (.int .i64 r.n) ∧ w.cell? ⟨b, p + 5, none⟩ = some (.slice r.pa r.pn r.pc) ∧ w.cell? ⟨b, p + 6, none⟩ = some (.slice r.la r.ln r.lc)
def IsActs (w : World) (ao : Option Addr) (len cap : Nat) (rs : List Ac) : Prop :=
  rs.length = len ∧ len ≤ cap ∧ cap ≤ maxLen ∧ (0 < len → ∃ b off, ao = some ⟨b, off, none⟩ ∧ ∀ i (h : i < rs.length), AcAt w b (off + i * 7) rs[i]) ∧
  ∀ r ∈ rs, AcOk w r
theorem weights_mem_all {H : Type} {P : Program} {e : TypeId} {d : DataW H} {n : Nat} : ∀ {ds : List (DataW H)}, d ∈ ds → n ∈ d.weights P e → n ∈ DataW.weightsAll P e ds
  | d0 :: ds, hd, hn => by
    simp only [DataW.weightsAll, List.mem_append]
    rcases List.mem_cons.1 hd with rfl | h
    · exact .inl hn
    · exact .inr (weights_mem_all h hn)
  | [], hd, _ => by cases hd
theorem bounds_i64 {n : Int} (h : (Lit.int .i64 n).wf = true) : -9223372036854775808 ≤ n ∧ n ≤ 9223372036854775807 := by
  simp [Lit.wf, IntKind.min, IntKind.max, IntKind.signed, IntKind.bits] at h
  omega
theorem trod_struct7 {H : Type} {enc : TypeId × Value → H} {P : Program} {w : World} {base : Nat} {spare : Nat → Bool} {held : Bool} {t : TypeId} {f0 f1 f2 f3 f4 f5 f6 : Field} {fuel : Nat} {cs : List Value} {x : DataW H × List MemPlace} (ht : P.underlying t = some (.struct #[f0, f1, f2, f3, f4, f5, f6])) (h : DataW.trod enc P w base spare held fuel t cs = some x) :
    ∃ y0 y1 y2 y3 y4 y5 y6 n, x.1 = .agg [y0.1, y1.1, y2.1, y3.1, y4.1, y5.1, y6.1] ∧ cs.length = P.cellsOf t ∧ DataW.trod enc P w base spare held n f0.type ((cs.drop f0.offset).take (P.cellsOf f0.type)) = some y0 ∧ DataW.trod enc P w base spare held n f1.type ((cs.drop f1.offset).take (P.cellsOf f1.type)) = some y1 ∧ DataW.trod enc P w base spare held n f2.type ((cs.drop f2.offset).take (P.cellsOf f2.type)) = some y2 ∧ DataW.trod enc P w base spare held n f3.type ((cs.drop f3.offset).take (P.cellsOf f3.type)) = some y3 ∧ DataW.trod enc P w base spare held n f4.type ((cs.drop f4.offset).take (P.cellsOf f4.type)) = some y4 ∧ DataW.trod enc P w base spare held n f5.type ((cs.drop f5.offset).take (P.cellsOf f5.type)) = some y5 ∧ DataW.trod enc P w base spare held n f6.type ((cs.drop f6.offset).take (P.cellsOf f6.type)) = some y6 := by
  obtain ⟨xs, n, _, rfl, hl, hlen, hf⟩ := DataW.trod_struct ht h
  match xs, hlen with
  | [y0, y1, y2, y3, y4, y5, y6], _ => exact ⟨y0, y1, y2, y3, y4, y5, y6, n, by simp, hl, by simpa using hf 0 f0 rfl, by simpa using hf 1 f1 rfl, by simpa using hf 2 f2 rfl, by simpa using hf 3 f3 rfl, by simpa using hf 4 f4 rfl, by simpa using hf 5 f5 rfl, by simpa using hf 6 f6 rfl⟩
theorem open_data {H : Type} {enc : TypeId × Value → H} {W : World} {fuel : Nat} {v : Value} {x : DataW H × List MemPlace} (h : DataW.trod enc Try.prog W 0 (fun _ => true) true fuel 24 [v] = some x) (hw : ∀ n ∈ x.1.weights Try.prog 24, n ≤ reachBytes) :
    ∃ a l c d, v = .slice a l c ∧ Reads W a l c d ∧ OkB d ∧ l ≤ 281474976710656 := by
  rcases open_ints Try.underlying24 Try.underlying5 (by kernel_rfl) h with ⟨hcs, _⟩ | ⟨a, l, c, zs, hcs, _, hl, hm, hz, hx, hcell, hwz⟩
  · simp only [List.cons.injEq, and_true] at hcs
    exact ⟨none, 0, 0, [], hcs, ⟨rfl, Nat.le_refl _, .inl ⟨rfl, rfl, rfl⟩⟩, (fun c hc => by cases hc), by omega⟩
  · simp only [List.cons.injEq, and_true] at hcs
    simp only [if_true] at hz
    have hwt : (zs.length) * Try.prog.bytesOf 5 ≤ reachBytes := by
      refine hw _ ?_
      rw [hx]
      simp only [DataW.weights, Try.underlying24, lits, List.length_map, List.length_take, List.length_drop]
      rw [show min l zs.length + (zs.length - l) = zs.length by omega]
      exact List.mem_cons_self
    rw [show Try.prog.bytesOf 5 = 1 by kernel_rfl] at hwt
    have hr := reachBytes_lt
    refine ⟨some a, l, c, zs.take l, hcs, ⟨by simp; omega, hl, .inr ⟨a, rfl, fun i hi => ?_⟩⟩, fun c hc => ?_, by omega⟩
    · rw [hcell i (by omega)]
      simp [List.getD_eq_getElem?_getD, hi]
    · exact bounds_u8 (hwz c (List.mem_of_mem_take hc))
theorem open_words {H : Type} {enc : TypeId × Value → H} {W : World} {fuel : Nat} {v : Value} {x : DataW H × List MemPlace} (h : DataW.trod enc Try.prog W 0 (fun _ => true) true fuel 25 [v] = some x) (hw : ∀ n ∈ x.1.weights Try.prog 25, n ≤ reachBytes) :
    ∃ a l c d, v = .slice a l c ∧ VRow W a l d ∧ l ≤ c ∧ l ≤ 281474976710656 := by
  rcases open_ints Try.underlying25 Try.underlying23 (by kernel_rfl) h with ⟨hcs, _⟩ | ⟨a, l, c, zs, hcs, _, hl, hm, hz, hx, hcell, hwz⟩
  · simp only [List.cons.injEq, and_true] at hcs
    exact ⟨none, 0, 0, [], hcs, ⟨rfl, (fun x hx => by cases hx), fun i hi => by omega⟩, Nat.le_refl _, by omega⟩
  · simp only [List.cons.injEq, and_true] at hcs
    simp only [if_true] at hz
    have hwt : (zs.length) * Try.prog.bytesOf 23 ≤ reachBytes := by
      refine hw _ ?_
      rw [hx]
      simp only [DataW.weights, Try.underlying25, lits, List.length_map, List.length_take, List.length_drop]
      rw [show min l zs.length + (zs.length - l) = zs.length by omega]
      exact List.mem_cons_self
    rw [show Try.prog.bytesOf 23 = 4 by kernel_rfl] at hwt
    have hr := reachBytes_lt
    obtain ⟨xs, hv, _, _⟩ := vrow_of (w := W) (a := some a) (len := l) (cap := c) (zs := zs) (.inr ⟨a, rfl, hl, hm, hz, hcell, hwz⟩)
    exact ⟨some a, l, c, xs, hcs, hv, hl, by omega⟩
theorem open_acts {H : Type} {enc : TypeId × Value → H} {W : World} {fuel : Nat} {a : Option Addr} {len cap : Nat} {x : DataW H × List MemPlace} (h : DataW.trod enc Try.prog W 0 (fun _ => true) true fuel 22 [.slice a len cap] = some x) (hw : ∀ n ∈ x.1.weights Try.prog 22, n ≤ reachBytes) :
    ∃ rs, IsActs W a len cap rs := by
  rcases Go.Deep.open_slice Try.underlying22 h with ⟨hcs, _⟩ | ⟨y, l, c, m, n, D, Pl, hcs, _, hl, hm, hmm, hx, hc⟩
  · simp only [List.cons.injEq, and_true, Value.slice.injEq] at hcs
    obtain ⟨rfl, rfl, rfl⟩ := hcs
    exact ⟨[], rfl, Nat.le_refl _, by decide, fun h => by omega, fun k hk => by cases hk⟩
  · simp only [List.cons.injEq, and_true, Value.slice.injEq] at hcs
    obtain ⟨rfl, rfl, rfl⟩ := hcs
    simp only [if_true] at hmm
    subst hmm
    haveI : Inhabited Ac := ⟨⟨0, 0, 0, 0, 0, none, 0, 0, [], none, 0, 0, []⟩⟩
    obtain ⟨q, hq⟩ := Go.Deep.choose_lt (α := Ac) (n := len) (p := fun i r => (W.cell? (y.add (i * 7)) = some (.int .i64 r.k) ∧ W.cell? (y.add (i * 7 + 1)) = some (.int .u32 r.a) ∧ W.cell? (y.add (i * 7 + 2)) = some (.int .u32 r.b) ∧ W.cell? (y.add (i * 7 + 3)) = some (.int .u32 r.c) ∧ W.cell? (y.add (i * 7 + 4)) = some (.int .i64 r.n) ∧ W.cell? (y.add (i * 7 + 5)) = some (.slice r.pa r.pn r.pc) ∧ W.cell? (y.add (i * 7 + 6)) = some (.slice r.la r.ln r.lc)) ∧ AcOk W r) (fun i hi => by
      obtain ⟨cs', h1, h2⟩ := hc i (by omega)
      rw [show Try.prog.cellsOf 27 = 7 by kernel_rfl] at h1
      obtain ⟨_, hlen5, hcell⟩ := World.cells?_some h1
      obtain ⟨y0, y1, y2, y3, y4, y5, y6, n', hxy, _, t0, t1, t2, t3, t4, t5, t6⟩ := trod_struct7 Try.underlying27 h2
      have hin : ∀ n ∈ (D i).weights Try.prog 27, n ≤ reachBytes := fun n hn => by
        refine hw n ?_
        rw [hx]
        simp only [DataW.weights, Try.underlying22]
        exact List.mem_cons_of_mem _ (List.mem_append.2 (.inl (weights_mem_all (List.mem_map.2 ⟨i, List.mem_range.2 hi, rfl⟩) hn)))
      have hDi : D i = .agg [y0.1, y1.1, y2.1, y3.1, y4.1, y5.1, y6.1] := hxy
      have e : (DataW.agg [y0.1, y1.1, y2.1, y3.1, y4.1, y5.1, y6.1]).weights Try.prog 27 = y0.1.weights Try.prog 3 ++ (y1.1.weights Try.prog 23 ++ (y2.1.weights Try.prog 23 ++ (y3.1.weights Try.prog 23 ++ (y4.1.weights Try.prog 3 ++ (y5.1.weights Try.prog 24 ++ (y6.1.weights Try.prog 25 ++ ([]))))))) := by
        simp only [DataW.weights, Try.underlying27]
        rfl
      rw [hDi, e] at hin
      match cs', hlen5 with
      | [v0, v1, v2, v3, v4, v5, v6], _ =>
        have f0 := hcell 0 (by omega)
        have f1 := hcell 1 (by omega)
        have f2 := hcell 2 (by omega)
        have f3 := hcell 3 (by omega)
        have f4 := hcell 4 (by omega)
        have f5 := hcell 5 (by omega)
        have f6 := hcell 6 (by omega)
        rw [Go.Deep.add_add] at f0 f1 f2 f3 f4 f5 f6
        replace t0 : DataW.trod enc Try.prog W 0 (fun _ => true) true n' 3 [v0] = some y0 := t0
        replace t1 : DataW.trod enc Try.prog W 0 (fun _ => true) true n' 23 [v1] = some y1 := t1
        replace t2 : DataW.trod enc Try.prog W 0 (fun _ => true) true n' 23 [v2] = some y2 := t2
        replace t3 : DataW.trod enc Try.prog W 0 (fun _ => true) true n' 23 [v3] = some y3 := t3
        replace t4 : DataW.trod enc Try.prog W 0 (fun _ => true) true n' 3 [v4] = some y4 := t4
        replace t5 : DataW.trod enc Try.prog W 0 (fun _ => true) true n' 24 [v5] = some y5 := t5
        replace t6 : DataW.trod enc Try.prog W 0 (fun _ => true) true n' 25 [v6] = some y6 := t6
        obtain ⟨x0, e0, hx0, w0⟩ := DataW.trod_int Try.underlying3 t0
        obtain ⟨x1, e1, hx1, w1⟩ := DataW.trod_int Try.underlying23 t1
        obtain ⟨x2, e2, hx2, w2⟩ := DataW.trod_int Try.underlying23 t2
        obtain ⟨x3, e3, hx3, w3⟩ := DataW.trod_int Try.underlying23 t3
        obtain ⟨x4, e4, hx4, w4⟩ := DataW.trod_int Try.underlying3 t4
        obtain ⟨a5, l5, c5, d5, e5, hr5, ho5, hl5⟩ := open_data t5 (fun n hn => hin n (List.mem_append.2 (.inr (List.mem_append.2 (.inr (List.mem_append.2 (.inr (List.mem_append.2 (.inr (List.mem_append.2 (.inr (List.mem_append.2 (.inl hn)))))))))))))
        obtain ⟨a6, l6, c6, bs6, e6, hb6, hlc6, hl6⟩ := open_words t6 (fun n hn => hin n (List.mem_append.2 (.inr (List.mem_append.2 (.inr (List.mem_append.2 (.inr (List.mem_append.2 (.inr (List.mem_append.2 (.inr (List.mem_append.2 (.inr (List.mem_append.2 (.inl hn)))))))))))))))
        simp only [List.cons.injEq, and_true] at e0 e1 e2 e3 e4
        subst e0 e1 e2 e3 e4 e5 e6
        have b0 := bounds_i64 w0
        have b1 := bounds_u32 w1
        have b2 := bounds_u32 w2
        have b3 := bounds_u32 w3
        have b4 := bounds_i64 w4
        obtain ⟨z1, rfl⟩ := Int.eq_ofNat_of_zero_le b1.1
        obtain ⟨z2, rfl⟩ := Int.eq_ofNat_of_zero_le b2.1
        obtain ⟨z3, rfl⟩ := Int.eq_ofNat_of_zero_le b3.1
        exact ⟨⟨x0, z1, z2, z3, x4, a5, l5, c5, d5, a6, l6, c6, bs6⟩, ⟨by simpa using f0, by simpa using f1, by simpa using f2, by simpa using f3, by simpa using f4, by simpa using f5, by simpa using f6⟩, b0, by simp only; omega, by simp only; omega, by simp only; omega, b4, ⟨hr5, ho5, hl5⟩, hb6, hlc6, hl6⟩)
    refine ⟨(List.range len).map q, by simp, hl, hm, fun h0 => ?_, fun b hb => ?_⟩
    · obtain ⟨b, off, spot⟩ := y
      have hc0 := (hq 0 (by omega)).1.1
      have hspot : spot = none := by simpa [Addr.add] using World.cell?_spot hc0
      subst hspot
      refine ⟨b, off, rfl, fun i hi => ?_⟩
      have hi2 : i < len := by simpa using hi
      obtain ⟨⟨g0, g1, g2, g3, g4, g5, g6⟩, -⟩ := hq i hi2
      rw [Addr.add_lit] at g0 g1 g2 g3 g4 g5 g6
      simp only [List.getElem_map, List.getElem_range]
      exact ⟨g0, by rwa [← Nat.add_assoc] at g1, by rwa [← Nat.add_assoc] at g2, by rwa [← Nat.add_assoc] at g3, by rwa [← Nat.add_assoc] at g4, by rwa [← Nat.add_assoc] at g5, by rwa [← Nat.add_assoc] at g6⟩
    · obtain ⟨i, hi, rfl⟩ := List.mem_map.1 hb
      exact (hq i (List.mem_range.1 hi)).2
/-- how many blocks the acts hold together -/
def sumL (rs : List Ac) : Nat := (rs.map (fun r => r.pn + r.ln)).sum
theorem sumL_snoc (rs : List Ac) (k : Nat) (h : k < rs.length) : sumL (rs.take (k + 1)) = sumL (rs.take k) + (rs[k].pn + rs[k].ln) := by
  unfold sumL
  rw [List.take_succ_eq_append_getElem h, List.map_append, List.sum_append_nat]
  simp only [List.map_cons, List.map_nil, List.sum_cons, List.sum_nil, Nat.add_zero]
def hugeB (rs : List Ac) : Bool := decide (150 < rs.length) || decide (32768 < sumL rs)
theorem huge_any (ao : Option Addr) (len cap : Nat) (rs : List Ac) (w : World) (ha : IsActs w ao len cap rs) :
    Calls Try.prog 4 #[.slice ao len cap] w fun e w' => e = .returned (.bool (hugeB rs)) ∧ Below w.heap.size w w' := by
  obtain ⟨h1, h2, h3, h4, h5⟩ := ha
  have HN := hidden h1
  have H4 := hidden h4
  have H5 := hidden h5
  have h3' : len ≤ 9223372036854775807 := by unfold maxLen at h3; omega
  have hR : 150 < len → hugeB rs = true := fun h => by simp [hugeB, h1, h]
  have hR2 : len ≤ 150 → hugeB rs = decide (32768 < sumL rs) := fun h => by
    rw [← h1] at h
    have : ¬ 150 < rs.length := by omega
    simp [hugeB, this]
  generalize hugeB rs = R at *
  have HR := hidden hR
  have HR2 := hidden hR2
  clear h1 h4 h5 hR hR2
  go_enter Try.func4, Try.ntmps4
  go_wp2
  go_loopw [3, 4] (fun n i w' => ∃ k : Nat, k ≤ len ∧ k ≤ 151 ∧ i = .int .i64 k ∧ n = .int .i64 ((sumL (rs.take k) : Nat) : Int) ∧ sumL (rs.take k) ≤ k * 562949953421312 ∧ Below w.heap.size w w') (fun _ i _ => len - (intOf i).toNat)
  case atStart => exact ⟨0, by omega, by omega, rfl, rfl, by simp [sumL], Below.refl _ _⟩
  case round =>
    obtain ⟨k, hk, hk2, rfl, rfl, hs, hbel⟩ := hrel
    by_cases hlt : k < len
    · have hkl : k < rs.length := by rw [HN.out]; exact hlt
      by_cases hk3 : k ≤ 150
      · obtain ⟨b, off, rfl, hcell⟩ := H4.out (by omega)
        obtain ⟨_, _, _, _, _, c5', c6'⟩ := hcell k hkl
        have c5 := cellLater hbel c5'
        have c6 := cellLater hbel c6'
        clear c5' c6'
        have hok := H5.out rs[k] (List.getElem_mem hkl)
        have hll := hok.2.2.2.2.2.2.2.2
        have hrl := hok.2.2.2.2.2.1.2.2
        clear hok
        have hsn := hidden (sumL_snoc rs k hkl)
        clear hcell
        generalize rs[k] = r at *
        have d1 : (k : Int) < (len : Int) := by omega
        have d2 : (k : Int) ≤ 150 := by omega
        generalize sumL (rs.take k) = S at *
        have w1 : IntKind.i64.wrap ((S : Int) + (r.pn : Int)) = (S : Int) + (r.pn : Int) := by rw [IntKind.wrap_i64]; omega
        have w2 : IntKind.i64.wrap ((S : Int) + (r.pn : Int) + (r.ln : Int)) = (S : Int) + (r.pn : Int) + (r.ln : Int) := by rw [IntKind.wrap_i64]; omega
        go_wp2
        go_quiet (fail)
        all_goals (try go_wp2)
        go_roundw
        case rel => exact ⟨k + 1, by omega, by omega, int_eq (by omega), int_eq (by rw [hsn.out]; omega), by rw [hsn.out]; omega, ⟨hbel.os, hbel.tape, hbel.output, hbel.size, hbel.block⟩⟩
        case measure => simp [intOf]; omega
      · have d1 : (k : Int) < (len : Int) := by omega
        have d2 : ¬ (k : Int) ≤ 150 := by omega
        have d3 : (150 : Int) < (len : Int) := by omega
        have e := HR.out (by omega)
        subst e
        generalize sumL (rs.take k) = S at *
        go_wp2
        go_ret
        exact ⟨rfl, hbel⟩
    · obtain rfl : k = len := by omega
      have e0 : rs.take k = rs := List.take_of_length_le (by rw [HN.out]; exact Nat.le_refl _)
      by_cases hk3 : k ≤ 150
      · have e := HR2.out hk3
        rw [e0] at hs ⊢
        have d3 : ¬ (150 : Int) < (k : Int) := by omega
        have hd : decide ((32768 : Int) < ((sumL rs : Nat) : Int)) = decide (32768 < sumL rs) := decide_eq_decide.2 (by omega)
        generalize sumL rs = S at *
        subst e
        go_wp2
        go_ret
        first | exact ⟨rfl, hbel⟩ | (refine ⟨?_, hbel⟩; simp_all)
      · have d3 : (150 : Int) < (k : Int) := by omega
        have e := HR.out (by omega)
        subst e
        generalize sumL (rs.take k) = S at *
        go_wp2
        go_ret
        exact ⟨rfl, hbel⟩
end Go.Proofs.Ythhkennomnmjkaa
namespace Go.Proofs.Ythhkennomnmjkaa
open Go.RowKit
set_option maxHeartbeats 1000000
set_option maxRecDepth 100000
set_option linter.unusedVariables false

theorem reads_block {w : World} {a : Option Addr} {L k : Nat} {zs : List Int} (h : Reads w a L k zs) : 0 < L → ∀ y, a = some y → y.block < w.heap.size := fun h0 y e => by
  obtain ⟨g, o, e2, hb⟩ := h.bs h0
  rw [e2] at e
  cases e
  exact World.block_lt_of_cell? _ _ (hb.2 0 h0)
theorem vrow_block {w : World} {a : Option Addr} {L : Nat} {xs : List Nat} (h : VRow w a L xs) : 0 < L → ∀ y, a = some y → y.block < w.heap.size := fun h0 y e => by
  obtain ⟨b, o, e2, hb⟩ := h.cells 0 h0
  rw [e2] at e
  cases e
  exact World.block_lt_of_cell? _ _ hb
def Ac.val (r : Ac) : Value := .agg #[.int .i64 r.k, .int .u32 r.a, .int .u32 r.b, .int .u32 r.c, .int .i64 r.n, .slice r.pa r.pn r.pc, .slice r.la r.ln r.lc]
theorem Two.base {B m d : Nat} {w0 w : World} {s t : Ks} {gs : List Nat} (r : Two B m d w0 w s t gs) : Below B w0 w := by
  obtain ⟨v, u, h1, h2, h4, h5, h6, hg⟩ := r
  exact h5
theorem does_any (B m d : Nat) (s : Ks) (w0 w : World) (r : Ac) (hB : w0.heap.size ≤ B) (T : Two B m d w0 w s s []) (ok : OkK s) (hr : AcOk w0 r) (hp : r.pn ≤ 100000) :
    Calls Try.prog 9 #[.pointer (some ⟨m, 0, none⟩), .pointer (some ⟨d, 0, none⟩), r.val] w fun e w' => DoesR B m d w0 w' s r.k e := by
  obtain ⟨k, a, b, c, n, pa, pn, pc, ps, la, ln, lc, xs⟩ := r
  obtain ⟨hk, ha, hb, hc, hn, ⟨hrd, hrz, hrl⟩, hv, hvl, hll⟩ := hr
  simp only at hk ha hb hc hn hrd hrz hrl hv hvl hll hp
  have hpb := fun h0 y e => Nat.lt_of_lt_of_le (reads_block hrd h0 y e) hB
  have hlb := fun h0 y e => Nat.lt_of_lt_of_le (vrow_block hv h0 y e) hB
  have hrdw : ∀ w1, Two B m d w0 w1 s s [] → Reads w1 pa pn pc ps := fun w1 t => hrd.later (t.base.mono hB)
  have hvw : ∀ w1, Two B m d w0 w1 s s [] → VRow w1 la ln xs := fun w1 t => hv.later (t.base.mono hB)
  unfold Ac.val
  simp only
  by_cases q0 : k = 0
  · subst q0; exact does_0 B m d s w0 w a b c n _ _ T ok ha
  by_cases q1 : k = 1
  · subst q1; exact does_1 B m d s w0 w a b c n _ _ T ok
  by_cases q2 : k = 2
  · subst q2; exact does_2 B m d s w0 w a b c n _ _ T ok ha
  by_cases q3 : k = 3
  · subst q3; exact does_3 B m d s w0 w a b c n _ _ T ok
  by_cases q4 : k = 4
  · subst q4; exact does_4 B m d s w0 w a b c n _ _ T ok ha hb
  by_cases q5 : k = 5
  · subst q5; exact does_5 B m d s w0 w a b c n _ _ T ok ha
  by_cases q6 : k = 6
  · subst q6; exact does_6 B m d s w0 w a b c n pa pn pc ps _ T ok (hrdw w T) hrz hp hpb
  by_cases q7 : k = 7
  · subst q7; exact does_7 B m d s w0 w a b c n _ _ T ok
  by_cases q8 : k = 8
  · subst q8; exact does_8 B m d s w0 w a b c n _ la ln lc xs T ok (hvw w T) hlb hvl
  by_cases q9 : k = 9
  · subst q9; exact does_9 B m d s w0 w a b c n _ _ T ok ha
  by_cases q10 : k = 10
  · subst q10; exact does_10 B m d s w0 w a b c n _ _ T ok ha hb
  refine does_more B m d s w0 w a b c n k _ _ T ok q0 q1 q2 q3 q4 q5 q6 q7 q8 q9 q10 (fun w1 T1 => ?_)
  by_cases q11 : k = 11
  · subst q11; exact more_11 B m d s w0 w1 a b c n _ _ T1 ok ha hb hc
  by_cases q12 : k = 12
  · subst q12; exact more_12 B m d s w0 w1 a b c n _ _ T1 ok
  by_cases q13 : k = 13
  · subst q13; exact more_13 B m d s w0 w1 a b c n _ _ T1 ok ha
  by_cases q14 : k = 14
  · subst q14; exact more_14 B m d s w0 w1 a b c n _ _ T1 ok ha
  by_cases q15 : k = 15
  · subst q15; exact more_15 B m d s w0 w1 a b c n pa pn pc ps _ T1 ok (hrdw w1 T1) hrz hp hpb
  by_cases q16 : k = 16
  · subst q16; exact more_16 B m d s w0 w1 a b c n _ _ T1 ok
  by_cases q17 : k = 17
  · subst q17; exact more_17 B m d s w0 w1 a b c n pa pn pc ps _ T1 ok ha hb hc (hrdw w1 T1) hrz hp hpb
  by_cases q18 : k = 18
  · subst q18; exact more_18 B m d s w0 w1 a b c n _ _ T1 ok
  by_cases q19 : k = 19
  · subst q19; exact more_19 B m d s w0 w1 a b c n _ _ T1 ok
  exact more_rest B m d s w0 w1 a b c n k _ _ T1 ok q11 q12 q13 q14 q15 q16 q17 q18 q19
/-- a document's stack anew, beside the program's -/
theorem Two.new {B m : Nat} {w0 w1 : World} {s : Ks} (r : RunK B m w0 w1 s) (n : Nat) : Two B m w1.heap.size w0 (w1.alloc (.cells #[.slice none 0 0, .int .i64 n, .int .i64 0, .bool false] 37)) s ⟨n, [], 0, false⟩ [] := by
  obtain ⟨v, h1, h2, h3⟩ := r
  have hb : Below w1.heap.size w1 (w1.alloc (.cells #[.slice none 0 0, .int .i64 n, .int .i64 0, .bool false] 37)) := (Below.refl _ _).alloc (Nat.le_refl _) _
  refine ⟨v, .slice none 0 0, h1.later hb, ⟨h3, heap_alloc_new _ _, World.ownsRow_nil _ _ _ _⟩, ?_, h2.trans (hb.mono h3), Nat.le_trans h3 hb.size, fun g hg => by cases hg⟩
  rintro k hk (rfl | e)
  · have := (h1.low _ hk).2; omega
  · cases e
/-- what begin leaves -/
def Beg (w w' : World) (m : Nat) (s : Ks) : Prop := RunK w.heap.size m w w' s ∧ OkK s ∧ s.size = 2048
theorem begin_any (ao : Option Addr) (len cap : Nat) (rs : List Ac) (w : World) (hA : IsActs w ao len cap rs) (hP : ∀ r ∈ rs, r.pn ≤ 100000) :
    Calls Try.prog 6 #[.slice ao len cap] w fun e w' => ∃ m, e = .returned (.pointer (some ⟨m, 0, none⟩)) ∧ ∃ s, Beg w w' m s := by
  obtain ⟨h1, h2, h3, h4, h5⟩ := hA
  have HN := hidden h1
  have H4 := hidden h4
  have H5 := hidden h5
  have HP := hidden hP
  have h3' : len ≤ 9223372036854775807 := by unfold maxLen at h3; omega
  clear h1 h4 h5 hP
  have HNW := hidden (RunK.new w.heap.size 2048 w w (by omega) (by omega) (Below.refl _ _) (Nat.le_refl _))
  have HEN : Hid (∀ w1, RunK w.heap.size w.heap.size w w1 ⟨2048, [], 0, false⟩ → Calls Try.prog 15 #[.pointer (some ⟨w.heap.size, 0, none⟩), .slice (some ⟨w1.heap.size, 0, none⟩) 6 6] (w1.alloc (.cells #[.int .u8 4, .int .u8 1, .int .u8 1, .int .u8 2, .int .u8 0, .int .u8 0] 5)) fun e w' => e = .returned (.int .i64 0) ∧ Hid (RunK w.heap.size w.heap.size w w' begS)) := fun w1 r => by
    have := RunK.enterNew r (ok_new 2048 (by omega)) fmt0 okb_0 (by decide)
    rw [beg_E] at this
    exact this
  have HDE : Hid (∀ w1, RunK w.heap.size w.heap.size w w1 begS → Calls Try.prog 23 #[.pointer (some ⟨w1.heap.size, 0, none⟩), .slice (some ⟨w1.heap.size + 1, 0, none⟩) 6 6] ((w1.alloc (.cells #[.slice none 0 0, .int .i64 2048, .int .i64 0, .bool false] 37)).alloc (.cells #[.int .u8 4, .int .u8 1, .int .u8 1, .int .u8 2, .int .u8 0, .int .u8 0] 5)) fun e w' => (∃ x : Int, e = .returned (.int .i64 x)) ∧ Hid (Two w.heap.size w.heap.size w1.heap.size w w' begS begS [])) := fun w1 r => by
    have t := Two.new r 2048
    have hsz2 : (w1.alloc (.cells #[.slice none 0 0, .int .i64 2048, .int .i64 0, .bool false] 37)).heap.size = w1.heap.size + 1 := by simp
    generalize w1.alloc (.cells #[.slice none 0 0, .int .i64 2048, .int .i64 0, .bool false] 37) = w2 at *
    have hb2 : Below w2.heap.size w2 (w2.alloc (.cells (bytesV fmt0).toArray 5)) := (Below.refl _ _).alloc (Nat.le_refl _) _
    have ho := owns_new w2 0 fmt0 (Nat.zero_le _) (by unfold maxLen; decide)
    have t2 := t.fresh hb2 w2.heap.size (Nat.le_refl _) (by simp)
    have := Two.dEnter t2 (ok_new 2048 (by omega)) (some ⟨w2.heap.size, 0, none⟩) 6 6 fmt0 ⟨own_reads ho, fun _ x e => by cases e; exact List.mem_cons_self⟩ okb_0 (by omega)
    rw [hsz2] at this
    refine this.mono ?_
    rintro e w' ⟨rfl, t3, _⟩
    exact ⟨⟨_, rfl⟩, t3.less (by simp)⟩
  go_enter Try.func6, Try.ntmps6
  go_wp2_with (first | (go_at_call 13; refine HNW.out.mono ?_; rintro e w1 ⟨rfl, r1⟩; have R1 := hidden r1; clear r1) | (go_at_call 14; refine (num10 _ _).mono ?_; rintro e wn ⟨rfl, rfl⟩) | (go_at_call 22; refine (format_any _).mono ?_; rintro e wf ⟨rfl, rfl⟩) | (go_at_call 15; refine (HEN.out _ R1.out).mono ?_; rintro e w2 ⟨rfl, r2⟩) | (go_at_call 23; refine (HDE.out _ r2.out).mono ?_; rintro e w3 ⟨⟨x, rfl⟩, r3⟩))
  have HDO := hidden fun wr s (r : Ac) (T : Two w.heap.size w.heap.size wn.heap.size w wr s s []) (ok : OkK s) (hr : AcOk w r) (hp : r.pn ≤ 100000) => does_any w.heap.size w.heap.size wn.heap.size s w wr r (Nat.le_refl _) T ok hr hp
  clear HDE HEN HNW R1 r2
  generalize wn.heap.size = d at *
  go_loopw [6] (fun i wr => ∃ (k : Nat) (s : Ks), k ≤ len ∧ i = .int .i64 k ∧ Hid (Two w.heap.size w.heap.size d w wr s s []) ∧ Hid (OkK s ∧ s.size = 2048)) (fun i _ => len - (intOf i).toNat)
  case atStart => exact ⟨0, begS, by omega, rfl, r3, begS_ok, rfl⟩
  case round =>
    clear r3
    obtain ⟨k, s, hk, rfl, HT, HO⟩ := hrel
    by_cases hlt : k < len
    · have hkl : k < rs.length := by rw [HN.out]; exact hlt
      have d1 : (k : Int) < (len : Int) := by omega
      obtain ⟨bq, off, rfl, hcell⟩ := H4.out (by omega)
      obtain ⟨c0', c1', c2', c3', c4', c5', c6'⟩ := hcell k hkl
      have HOK := hidden (H5.out rs[k] (List.getElem_mem hkl))
      have hpn := HP.out rs[k] (List.getElem_mem hkl)
      have hbel := HT.out.base
      have c0 := cellLater hbel c0'
      have c1 := cellLater hbel c1'
      have c2 := cellLater hbel c2'
      have c3 := cellLater hbel c3'
      have c4 := cellLater hbel c4'
      have c5 := cellLater hbel c5'
      have c6 := cellLater hbel c6'
      clear hcell c0' c1' c2' c3' c4' c5' c6' hbel
      have HC := hidden (HDO.out wr s rs[k] HT.out HO.out.1 HOK.out hpn)
      generalize rs[k] = r at *
      unfold Ac.val at HC
      by_cases q16 : r.k = 16
      · rw [q16] at c0
        clear HC HDO c1 c2 c3 c4 c5 c6
        go_wp2
        go_roundw
        case rel => exact ⟨k + 1, s, by omega, int_eq (by omega), HT, HO⟩
        case measure => simp [intOf]; omega
      · have q2 : (r.k != 16) = true := by simpa using q16
        have HF : Hid (∀ e w', DoesR w.heap.size w.heap.size d w w' s r.k e → ∃ s' v, e = .returned v ∧ Hid (Two w.heap.size w.heap.size d w w' s' s' []) ∧ Hid (OkK s' ∧ s'.size = 2048)) := fun e w' ⟨m', s', h1, h2, h3, h4, h5⟩ => by
          have := h5 q16
          subst this
          exact ⟨s', _, h1, h2, h3, h4.trans HO.out.2⟩
        clear HT HO HOK HDO hpn
        go_wp2_with (first | (go_at_call 9; refine HC.out.mono ?_; intro e w5 hdr; obtain ⟨s', v, rfl, HT2, HO2⟩ := HF.out _ _ hdr; clear hdr))
        go_roundw
        case rel => exact ⟨k + 1, s', by omega, int_eq (by omega), HT2, HO2⟩
        case measure => simp [intOf]; omega
    · have d1 : ¬ (k : Int) < (len : Int) := by omega
      go_wp2
      go_ret
      exact ⟨_, rfl, s, HT.out.run, HO.out.1, HO.out.2⟩
end Go.Proofs.Ythhkennomnmjkaa
namespace Go.Proofs.Ythhkennomnmjkaa
open Go.RowKit
set_option maxHeartbeats 1000000
set_option maxRecDepth 100000
set_option linter.unusedVariables false

theorem RunG.base {B m : Nat} {w0 w : World} {s : Ks} {gs : List Nat} (r : RunG B m w0 w s gs) : Below B w0 w := by
  obtain ⟨v, h1, h2, h3, hg⟩ := r
  exact h2
theorem RunG.low {B m : Nat} {w0 w : World} {s : Ks} {gs : List Nat} (r : RunG B m w0 w s gs) (g : Nat) (h : g < B) : RunG B m w0 w s (g :: gs) := by
  obtain ⟨v, h1, h2, h3, hg⟩ := r
  refine ⟨v, h1, h2, h3, fun k hm => ?_⟩
  rcases List.mem_cons.1 hm with rfl | hm
  · exact ⟨by omega, fun e => by have := (h1.low _ e).1; omega⟩
  · exact hg k hm
theorem RunG.lows {B m : Nat} {w0 w : World} {s : Ks} {gs : List Nat} (r : RunG B m w0 w s gs) : ∀ (gl : List Nat), (∀ g ∈ gl, g < B) → RunG B m w0 w s (gl ++ gs)
  | [], _ => r
  | g :: gl, h => (RunG.lows r gl (fun k hk => h k (List.mem_cons_of_mem _ hk))).low g (h g List.mem_cons_self)

theorem RunG.kPush {B m : Nat} {w0 w : World} {s : Ks} {gs : List Nat} (r : RunG B m w0 w s gs) (ok : OkK s) (x : Nat) (hx : x < 4294967296) :
    Calls Try.prog 16 #[.pointer (some ⟨m, 0, none⟩), .int .u32 x] w fun e w' => e = .returned (.int .i64 (pushE s)) ∧ RunG B m w0 w' (pushS s x) gs ∧ Kept w w' gs := by
  obtain ⟨v, h1, h2, h3, hg⟩ := r
  exact (kPush_any B m x v s w h1 h3 ok hx).mono (fun e w' hh => ⟨hh.1, RunG.left h1 h2 h3 hg hh.2⟩)
theorem RunG.kPop {B m : Nat} {w0 w : World} {s : Ks} {gs : List Nat} (r : RunG B m w0 w s gs) (ok : OkK s) :
    Calls Try.prog 26 #[.pointer (some ⟨m, 0, none⟩)] w fun e w' => e = .returned (.tuple #[.int .u32 (peekV s 0), .int .i64 (peekE s 0)]) ∧ RunG B m w0 w' (popS s) gs ∧ Kept w w' gs := by
  obtain ⟨v, h1, h2, h3, hg⟩ := r
  exact (kPop_any B m v s w h1 ok).mono (fun e w' hh => ⟨hh.1, RunG.left h1 h2 h3 hg hh.2⟩)
theorem RunG.kSwap {B m : Nat} {w0 w : World} {s : Ks} {gs : List Nat} (r : RunG B m w0 w s gs) (ok : OkK s) :
    Calls Try.prog 29 #[.pointer (some ⟨m, 0, none⟩)] w fun e w' => e = .returned (.int .i64 (rollE s 2)) ∧ RunG B m w0 w' (rollS s 2 1) gs ∧ Kept w w' gs := by
  obtain ⟨v, h1, h2, h3, hg⟩ := r
  exact (kSwap_any B m v s w h1 ok).mono (fun e w' hh => ⟨hh.1, RunG.left h1 h2 h3 hg hh.2⟩)
theorem RunG.kLeave {B m : Nat} {w0 w : World} {s : Ks} {gs : List Nat} (r : RunG B m w0 w s gs) (ok : OkK s) :
    Calls Try.prog 36 #[.pointer (some ⟨m, 0, none⟩)] w fun e w' => e = .returned (.int .i64 (leaveE s)) ∧ RunG B m w0 w' (leaveS s) gs ∧ Kept w w' gs := by
  obtain ⟨v, h1, h2, h3, hg⟩ := r
  exact (kLeave_any B m v s w h1 ok).mono (fun e w' hh => ⟨hh.1, RunG.left h1 h2 h3 hg hh.2⟩)
theorem RunG.kStub {B m : Nat} {w0 w : World} {s : Ks} {gs : List Nat} (r : RunG B m w0 w s gs) (ok : OkK s) (x y z : Nat) (hx : x < 4294967296) (hy : y < 4294967296) (hz : z < 4294967296) :
    Calls Try.prog 19 #[.pointer (some ⟨m, 0, none⟩), .int .u32 x, .int .u32 y, .int .u32 z] w fun e w' => e = .returned (.int .i64 (stubUE s)) ∧ RunG B m w0 w' (stubS s x y z) gs ∧ Kept w w' gs := by
  obtain ⟨v, h1, h2, h3, hg⟩ := r
  exact (kStub_any B m x y z v s w h1 h3 ok hx hy hz).mono (fun e w' hh => ⟨hh.1, RunG.left h1 h2 h3 hg hh.2⟩)
theorem RunG.kUnstub {B m : Nat} {w0 w : World} {s : Ks} {gs : List Nat} (r : RunG B m w0 w s gs) (ok : OkK s) :
    Calls Try.prog 20 #[.pointer (some ⟨m, 0, none⟩)] w fun e w' => e = .returned (.tuple #[.int .u32 (unV s 0), .int .u32 (unV s 4), .int .u32 (unV s 8), .int .i64 (stubE s)]) ∧ RunG B m w0 w' (unstubS s) gs ∧ Kept w w' gs := by
  obtain ⟨v, h1, h2, h3, hg⟩ := r
  exact (kUnstub_any B m v s w h1 ok).mono (fun e w' hh => ⟨hh.1, RunG.left h1 h2 h3 hg hh.2⟩)
theorem RunG.kThrow {B m : Nat} {w0 w : World} {s : Ks} {gs : List Nat} (r : RunG B m w0 w s gs) (ok : OkK s) (x : Nat) (hx : x < 4294967296) :
    Calls Try.prog 74 #[.pointer (some ⟨m, 0, none⟩), .int .u32 x] w fun e w' => e = .returned (.int .i64 (thrE s x)) ∧ RunG B m w0 w' (thrS s x) gs ∧ Kept w w' gs := by
  obtain ⟨v, h1, h2, h3, hg⟩ := r
  exact (kThrow_any B m v s w h1 ok x hx).mono (fun e w' hh => ⟨hh.1, RunG.left h1 h2 h3 hg hh.2⟩)
theorem RunG.kLocal {B m : Nat} {w0 w : World} {s : Ks} {gs : List Nat} (r : RunG B m w0 w s gs) (ok : OkK s) (x : Nat) (n : Int) (hx : x < 4294967296) :
    Calls Try.prog 40 #[.pointer (some ⟨m, 0, none⟩), .int .u32 x, .int .i64 n] w fun e w' => e = .returned (.tuple #[.int .u32 (locV s x n), .int .i64 (locE s x n)]) ∧ RunG B m w0 w' s gs ∧ Kept w w' gs := by
  have r' := r
  obtain ⟨v, h1, h2, h3, hg⟩ := r
  exact (kLocal_any B m x n v s w h1 ok hx).mono (fun e w' hh => ⟨hh.1, r'.later hh.2.below⟩)
theorem RunG.kArgs {B m : Nat} {w0 w : World} {s : Ks} {gs : List Nat} (r : RunG B m w0 w s gs) (ok : OkK s) (la : Option Addr) (len lc : Nat) (xs : List Nat) (hv : WordsIn w la len xs gs) (hlc : len ≤ lc) :
    Calls Try.prog 38 #[.pointer (some ⟨m, 0, none⟩), .slice la len lc] w fun e w' => e = .returned (.int .i64 (lackE s 0)) ∧ RunG B m w0 w' (argsS s xs) gs ∧ Kept w w' gs := by
  obtain ⟨v, h1, h2, h3, hg⟩ := r
  exact (kArgs_any B m v s w h1 ok la len lc xs hv.1 hlc (fun h0 x e => ⟨(hg _ (hv.2 h0 x e)).1, (hg _ (hv.2 h0 x e)).2⟩)).mono (fun e w' hh => ⟨hh.1, RunG.left h1 h2 h3 hg hh.2⟩)
theorem RunG.kEnter {B m : Nat} {w0 w : World} {s : Ks} {gs : List Nat} (r : RunG B m w0 w s gs) (ok : OkK s) (fa : Option Addr) (n fc : Nat) (zs : List Int) (hr : RowZ w fa n fc zs gs) (hz : OkB zs) (hn : n ≤ 100000) :
    Calls Try.prog 15 #[.pointer (some ⟨m, 0, none⟩), .slice fa n fc] w fun e w' => e = .returned (.int .i64 (enterE s zs)) ∧ RunG B m w0 w' (enterS s zs) gs ∧ Kept w w' gs := by
  obtain ⟨v, h1, h2, h3, hg⟩ := r
  exact (kEnter_z B m v s fa n fc zs w h1 h3 ok hr.1 hz hn (fun h0 x e => (hg _ (hr.2 h0 x e)).2)).mono (fun e w' hh => ⟨hh.1, RunG.left h1 h2 h3 hg hh.2⟩)
theorem RunG.kLoad {B m : Nat} {w0 w : World} {s : Ks} {gs : List Nat} (r : RunG B m w0 w s gs) (ok : OkK s) (fa : Option Addr) (n fc : Nat) (zs : List Int) (hr : RowZ w fa n fc zs gs) (hz : OkB zs) (hn : n ≤ 100000) :
    Calls Try.prog 76 #[.pointer (some ⟨m, 0, none⟩), .slice fa n fc] w fun e w' => e = .returned (.int .i64 (loadE s zs)) ∧ RunG B m w0 w' (loadS s zs) gs ∧ Kept w w' gs := by
  obtain ⟨v, h1, h2, h3, hg⟩ := r
  exact (kLoad_any B m v s w h1 h3 ok.most fa n fc zs hr.1 hz (by omega)).mono (fun e w' hh => ⟨hh.1, RunG.left h1 h2 h3 hg hh.2⟩)
theorem RunG.kTop {B m : Nat} {w0 w : World} {s : Ks} {gs : List Nat} (r : RunG B m w0 w s gs) (ok : OkK s) :
    Calls Try.prog 10 #[.pointer (some ⟨m, 0, none⟩)] w fun e w' => e = .returned (.int .u32 s.bs.length) ∧ w' = w := by
  obtain ⟨v, h1, h2, h3, hg⟩ := r
  obtain ⟨a, c, rfl, kc⟩ := h1.kc'
  exact kTop_any m a c s w kc (by have := ok.sz; have := ok.most; omega)
theorem RunG.kFrame {B m : Nat} {w0 w : World} {s : Ks} {gs : List Nat} (r : RunG B m w0 w s gs) (ok : OkK s) :
    Calls Try.prog 8 #[.pointer (some ⟨m, 0, none⟩)] w fun e w' => e = .returned (.tuple #[.int .u32 s.fr, .bool s.on]) ∧ w' = w := by
  obtain ⟨v, h1, h2, h3, hg⟩ := r
  obtain ⟨a, c, rfl, kc⟩ := h1.kc'
  exact kFrame_any m a c s w kc ok
/-- these values on top -/
def stV (s : Ks) (xs : List Nat) : Ks := { s with bs := s.bs ++ putsL xs }
theorem stV_nil (s : Ks) : stV s [] = s := by simp [stV, putsL]
theorem stV_len (s : Ks) (xs : List Nat) : (stV s xs).bs.length = s.bs.length + 4 * xs.length := by
  show (s.bs ++ putsL xs).length = _
  rw [List.length_append, putsL_len]
theorem stV_push {s : Ks} {xs : List Nat} (x : Nat) (h : pushE (stV s xs) = 0) : pushS (stV s xs) x = stV s (xs ++ [x]) := by
  unfold pushS
  rw [if_pos h]
  unfold stV
  simp only
  congr 1
  simp [putsL]
theorem stV_no {s : Ks} {xs : List Nat} (x : Nat) (h : pushE (stV s xs) ≠ 0) : pushS (stV s xs) x = stV s xs ∧ (s.bs.length + 4 * xs.length + 4 ≤ s.size → s.on = false) := by
  refine ⟨by unfold pushS; rw [if_neg h], fun hl => ?_⟩
  cases ho : s.on
  · rfl
  · exfalso
    apply h
    have e : lackE (stV s xs) 0 = 0 := by
      unfold lackE
      rw [if_neg (by show ¬ s.on = false; rw [ho]; simp), if_neg (by omega)]
    have := stV_len s xs
    unfold pushE roomForE roomE
    rw [if_pos e, if_neg (by show ¬ s.size < _; omega)]
theorem push_on {s : Ks} (h : pushE s = 0) : s.on = true := (lack_zero (roomFor_zero h).1).1
/-- the value on top, and without it -/
theorem stV_top {s : Ks} (ok : OkK s) (hon : s.on = true) (xs : List Nat) (x : Nat) (hx : ∀ y ∈ xs ++ [x], y < 4294967296) : peekE (stV s (xs ++ [x])) 0 = 0 ∧ peekV (stV s (xs ++ [x])) 0 = x ∧ popS (stV s (xs ++ [x])) = stV s xs := by
  have hb := ok.bd hon
  have hl := stV_len s (xs ++ [x])
  have hen : endK (stV s (xs ++ [x])) = endK s := by
    unfold endK
    show s.fr + nu (s.bs ++ putsL (xs ++ [x])) s.fr = _
    rw [← nu_take (zs := s.bs) (k := s.bs.length) (by rw [List.take_append_of_le_length (Nat.le_refl _)]) s.fr (by omega)]
  have e0 : peekE (stV s (xs ++ [x])) 0 = 0 := by
    unfold peekE lackE
    rw [if_neg (by show ¬ s.on = false; rw [hon]; simp), if_neg]
    unfold cnt
    rw [hen, hl]
    simp
    omega
  refine ⟨e0, ?_, ?_⟩
  · unfold peekV
    rw [if_pos e0, hl]
    have := nu_at s.bs (xs ++ [x]) xs.length hx (by simp)
    rw [show s.bs.length + 4 * (xs ++ [x]).length - 4 * (0 + 1) = s.bs.length + 4 * xs.length by simp; omega]
    refine this.trans ?_
    simp
  · unfold popS
    rw [if_pos e0, hl]
    unfold stV
    simp only
    congr 1
    have e : putsL (xs ++ [x]) = putsL xs ++ putL (x : Int) 4 := by simp [putsL]
    rw [e, ← List.append_assoc, List.take_append_of_le_length (by simp [putsL_len]; omega), List.take_of_length_le (by simp [putsL_len]; omega)]
theorem take_snoc (xs : List Nat) (k : Nat) (h : k < xs.length) : xs.take (k + 1) = xs.take k ++ [xs.getD k 0] := by
  rw [List.take_succ_eq_append_getElem h]
  simp [List.getD_eq_getElem?_getD, h]
theorem pn_sum {rs : List Ac} {r : Ac} (h : r ∈ rs) : r.pn ≤ sumL rs := by
  unfold sumL
  induction rs with
  | nil => cases h
  | cons q rs ih =>
    simp only [List.map_cons, List.sum_cons]
    rcases List.mem_cons.1 h with rfl | h
    · omega
    · have := ih h; omega
theorem huge_no {rs : List Ac} (h : hugeB rs = false) : ∀ r ∈ rs, r.pn ≤ 100000 := fun r hr => by
  have := pn_sum hr
  have h2 : ¬ 32768 < sumL rs := fun h3 => by simp [hugeB, h3] at h
  omega
theorem IsActs.later {w w' : World} {ao : Option Addr} {len cap : Nat} {rs : List Ac} (hA : IsActs w ao len cap rs) (hb : Below w.heap.size w w') : IsActs w' ao len cap rs := by
  obtain ⟨h1, h2, h3, h4, h5⟩ := hA
  refine ⟨h1, h2, h3, fun h0 => ?_, fun r hr => ?_⟩
  · obtain ⟨b, off, e, hc⟩ := h4 h0
    refine ⟨b, off, e, fun i hi => ?_⟩
    obtain ⟨c0, c1, c2, c3, c4, c5, c6⟩ := hc i hi
    exact ⟨cellLater hb c0, cellLater hb c1, cellLater hb c2, cellLater hb c3, cellLater hb c4, cellLater hb c5, cellLater hb c6⟩
  · obtain ⟨g1, g2, g3, g4, g5, ⟨g6, g7, g8⟩, g9, g10, g11⟩ := h5 r hr
    exact ⟨g1, g2, g3, g4, g5, ⟨g6.later hb, g7, g8⟩, g9.later hb, g10, g11⟩
/-- begin, some calls on -/
theorem begin_at (ao : Option Addr) (len cap : Nat) (rs : List Ac) (w wh : World) (hA : IsActs w ao len cap rs) (hu : hugeB rs = false) (hb : Below w.heap.size w wh) :
    Calls Try.prog 6 #[.slice ao len cap] wh fun e w' => ∃ m, e = .returned (.pointer (some ⟨m, 0, none⟩)) ∧ ∃ s, Hid (RunG w.heap.size m w w' s []) ∧ Hid (OkK s ∧ s.size = 2048) := by
  refine (begin_any ao len cap rs wh (hA.later hb) (huge_no hu)).mono ?_
  rintro e w' ⟨m, rfl, s, ⟨v, h1, h2, h3⟩, h4⟩
  exact ⟨m, rfl, s, ⟨v, ⟨Nat.le_trans hb.size h1.base, h1.box, own_base h1.row hb.size⟩, hb.trans (h2.mono hb.size), Nat.le_trans hb.size h3, fun g hg => by cases hg⟩, h4⟩
end Go.Proofs.Ythhkennomnmjkaa
