/- A range over a function whose iterator keeps its place in a cell of its own: the statement by what holds ahead of a round and behind it. -/
import Derived.RangeFuncNested
import Derived.RangeFuncBound
import Derived.RangeFuncCalls
import Derived.RangeFuncLeaves
import Derived.Test.YthhkennomnmjkaaV10a
namespace Go.Proofs.Ythhkennomnmjkaa
open Go.RowKit
set_option maxHeartbeats 1000000
set_option maxRecDepth 100000
set_option linter.unusedVariables false

/-- how a round may be left: it goes on, or it returns -/
def rndPost (Ja Jr : World → Prop) (W : World) : Exit → Act → World → Prop
  | .normal, _, W' => KeepsOthers W W' ∧ Ja W'
  | .ret, _, W' => KeepsOthers W W' ∧ Jr W'
  | _, _, _ => False
/-- what says nothing of a block beyond B that holds no cells -/
def PutOk (B : Nat) (S : World → Prop) : Prop := ∀ (W : World) (l : Nat) (o o' : Obj), B ≤ l → W.heap[l]? = some o → o.isCells = false → S W → S (W.putObj l o')
theorem range_law {P : Program} {F : Fence} {n : Nat} {α : Type} {g : Operand} {ps : Array Tmp} {assign body : Code} {Q : Exit → Act → World → Prop} {a : Act} {w : World}
    (hro : F.round = none) (h1 : 1 ≤ n) (gf : Nat) (lb : Array Value) (hg : a.eval g = .func (.func gf) #[] lb) (hFg : F.fn gf) (eg : ∀ args w, (callFunc gf args).run P w = .ok (.enter gf args) w)
    (encs : α → Array Value) (hps : ∀ x, (encs x).size = ps.size) (J J' : α → World → Prop) (Jx S : World → Prop) (a₁ : α → Act)
    (pJ : ∀ x, PutOk w.heap.size (J x)) (pJ' : ∀ x, PutOk w.heap.size (J' x)) (pJx : PutOk w.heap.size Jx) (pS : PutOk w.heap.size S)
    (hiter : ∀ (l : Nat) (Rd Dn : World → Prop) (W : World), Below w.heap.size w W → (∀ W1 W2, KeepsOthers W1 W2 → Rd W1 → Rd W2) →
      (∀ x W1, J x W1 → Rd W1 → YieldAt F (n - 1 - 1) P l (encs x) W1 fun e W' => (e = .returned (.bool true) ∧ J' x W' ∧ Rd W') ∨ (e = .returned (.bool false) ∧ Jx W' ∧ Dn W')) → Rd W →
      CallsIn F (n - 1) P gf (#[.func (.yield l) #[] #[]] ++ lb) W fun e W' => (∃ v, e = .returned v) ∧ ((S W' ∧ Rd W') ∨ (Jx W' ∧ Dn W')))
    (hassign : ∀ (l : Nat) (x : α) (W : World) (K : Act → World → Prop), K (a₁ x) W →
      assign.wpIn (F.inRound l) (n - 1 - 1) P (Exit.then K (fun _ _ _ => False)) { tmps := (ps.zip (encs x)).foldl (fun t (p, v) => t.setIfInBounds p v) a.tmps, defers := [] } W)
    (hbody : ∀ (l : Nat) (x : α) (W : World), J x W → body.wpIn (F.inRound l) (n - 1 - 1) P (rndPost (J' x) Jx W) (a₁ x) W)
    (hdone : ∀ (D : Nat) (W : World), w.heap.size ≤ D → S W → W.heap[D]? = some (.deferred (some [])) → Q .normal { a with defers := { target := .collected D, args := #[] } :: a.defers } W)
    (hstop : ∀ (D : Nat) (W : World), w.heap.size ≤ D → Jx W → W.heap[D]? = some (.deferred (some [])) → Code.ret.wpIn F n P Q { a with defers := { target := .collected D, args := #[] } :: a.defers } W) :
    (Code.rangeFunc g ps assign body).wpIn F n P Q a w := by
  refine wpIn_rangeFunc fun fn hfn => ?_
  rw [hro]
  generalize hL : w.heap.size + 1 = l
  let rc : LoopState → Option Code → Loop := fun st pe => { state := st, pending := pe, fn, tmps := a.tmps, params := ps, assign, body, defers := w.heap.size }
  have hen := run_enterLoop_outer (P := P) (w := w) fn a.tmps ps assign body
  have hn1 : ((w.alloc (.deferred (some []))).alloc (.loop (rc .ready none))).heap[l]? = some (.loop (rc .ready none)) := by
    have := World.alloc_heap_new (w.alloc (.deferred (some []))) (.loop (rc .ready none))
    rwa [World.size_alloc, hL] at this
  have hn2 : ((w.alloc (.deferred (some []))).alloc (.loop (rc .ready none))).heap[w.heap.size]? = some (.deferred (some [])) :=
    (Below.heap_alloc _ _ _ (by simp)).trans (World.alloc_heap_new w _)
  have hbl : Below w.heap.size w ((w.alloc (.deferred (some []))).alloc (.loop (rc .ready none))) := ((Below.refl _ w).alloc (Nat.le_refl _) _).alloc (by simp) _
  rw [hL] at hen
  have hen' : (Instr.enterLoop fn a.tmps ps assign body none).run P w = .ok (l, [{ target := .collected w.heap.size, args := #[] }]) ((w.alloc (.deferred (some []))).alloc (.loop (rc .ready none))) := hen
  clear hen
  generalize (w.alloc (.deferred (some []))).alloc (.loop (rc .ready none)) = W1 at *
  refine ⟨l, _, W1, ⟨.fn (.func gf) lb, #[.func (.yield l) #[] #[]]⟩, W1, gf, #[.func (.yield l) #[] #[]] ++ lb, W1, hen', by simp only [resolve, hg]; simp [go_sem], fun f' h => by simp [Target.leads] at h; rw [← h]; exact hFg, by simp [invoke, go_sem, eg], fun _ => h1, ?_⟩
  have hll : w.heap.size ≤ l := by omega
  have hld : w.heap.size ≠ l := by omega
  refine (hiter l (fun W => W.heap[l]? = some (.loop (rc .ready none)) ∧ W.heap[w.heap.size]? = some (.deferred (some []))) (fun W => W.heap[l]? = some (.loop (rc .done (some .ret))) ∧ W.heap[w.heap.size]? = some (.deferred (some []))) W1 hbl
    (fun A B k h => ⟨k.same _ _ h.1 rfl, k.same _ _ h.2 rfl⟩) (fun x W hj hr => ?_) ⟨hn1, hn2⟩).mono ?_
  · obtain ⟨r1, r2⟩ := hr
    have hlt : l < W.heap.size := (Array.getElem?_eq_some_iff.1 r1).1
    refine ⟨fn, _, assign, body, run_yield (args := encs x) r1 (hps x), roundIn_of_wpIn hfn (hassign l x W _ ⟨_, run_beginRound r1 rfl, ?_⟩)⟩
    have q1 : (W.putObj l (.loop (rc .busy none))).heap[l]? = some (.loop (rc .busy none)) := World.putObj_heap_same hlt
    have q2 : (W.putObj l (.loop (rc .busy none))).heap[w.heap.size]? = some (.deferred (some [])) := (World.putObj_heap_other hld).trans r2
    refine wpIn_mono (hbody l x (W.putObj l (.loop (rc .busy none))) (pJ x _ _ _ _ hll r1 rfl hj)) ?_
    intro e b W3 hp
    cases e with
    | normal =>
      obtain ⟨k, hj'⟩ := hp
      have s1 := k.same _ _ q1 rfl
      exact ⟨_, _, run_endRound none s1, .inl ⟨rfl, pJ' x _ _ _ _ hll s1 rfl hj', World.putObj_heap_same (Array.getElem?_eq_some_iff.1 s1).1, (World.putObj_heap_other hld).trans (k.same _ _ q2 rfl)⟩⟩
    | ret =>
      obtain ⟨k, hj'⟩ := hp
      have s1 := k.same _ _ q1 rfl
      exact ⟨_, _, run_endRound (some .ret) s1, .inr ⟨rfl, pJx _ _ _ _ hll s1 rfl hj', World.putObj_heap_same (Array.getElem?_eq_some_iff.1 s1).1, (World.putObj_heap_other hld).trans (k.same _ _ q2 rfl)⟩⟩
    | exit id => exact hp.elim
    | goto t => exact hp.elim
    | panic c => exact hp.elim
    | outgrown => exact hp.elim
  · rintro e W2 ⟨⟨v, rfl⟩, (⟨hs, s1, s2⟩ | ⟨hx, s1, s2⟩)⟩
    · exact ⟨none, _, run_endLoop s1 (by simp [rc]), hdone _ _ (Nat.le_refl _) (pS _ _ _ _ hll s1 rfl hs) ((World.putObj_heap_other hld).trans s2)⟩
    · exact ⟨some .ret, _, run_endLoop s1 (by simp [rc]), hstop _ _ (Nat.le_refl _) (pJx _ _ _ _ hll s1 rfl hx) ((World.putObj_heap_other hld).trans s2)⟩
/-- what is kept of cells and below a place -/
theorem putOk_and {B : Nat} {S T : World → Prop} (h : PutOk B S) (k : PutOk B T) : PutOk B (fun W => S W ∧ T W) := fun W l o o' h1 h2 h3 h4 => ⟨h W l o o' h1 h2 h3 h4.1, k W l o o' h1 h2 h3 h4.2⟩
theorem putOk_pure {B : Nat} (p : Prop) : PutOk B (fun _ => p) := fun W l o o' h1 h2 h3 h4 => h4
theorem putOk_block {B b : Nat} {cs : Array Value} {t : TypeId} {q : Nat × Nat} : PutOk B (fun W => W.heap[b]? = some (.cells cs t q)) := fun W l o o' h1 h2 h3 h4 => by
  refine (World.putObj_heap_other ?_).trans h4
  rintro rfl
  rw [h4] at h2
  cases h2
  cases h3
theorem putOk_below {B n : Nat} {w : World} (hn : n ≤ B) : PutOk B (fun W => Below n w W) := fun W l o o' h1 h2 h3 h4 =>
  h4.trans ((Below.refl n W).grown (grownBy_putObj' W l o') (by have := (Array.getElem?_eq_some_iff.1 h2).1; omega) (fun k e => by cases e; omega))
theorem putOk_low {B b : Nat} {W0 : World} (hb : b < B) : PutOk B (fun W => W.heap[b]? = W0.heap[b]?) := fun W l o o' h1 h2 h3 h4 => (World.putObj_heap_other (by omega)).trans h4
end Go.Proofs.Ythhkennomnmjkaa
