/- A switch over a number, walked once for all numbers: a tree of comparisons out of the code, by the kernel. -/
import Derived.Test.YtpkfmccnjandoaaWords
import Derived.KernelRfl
namespace Go.Proofs.Ytpkfmccnjandoaa
open Go.RowKit
set_option maxHeartbeats 1000000
set_option linter.unusedVariables false

/-- where a piece of code that only moves values and holds numbers against numbers comes to -/
inductive Tr where
  | leaf (e : Exit) (a : Act)
  | br (m n : Int) (y z : Tr)
  | bad
def Tr.sat (Q : Exit → Act → World → Prop) (w : World) : Tr → Prop
  | .leaf e a => Q e a w
  | .br m n y z => (m = n → y.sat Q w) ∧ (m ≠ n → z.sat Q w)
  | .bad => False
abbrev Orc := FuncId → Array Value → Option Value
def trOps (orc : Orc) (k : Act → Tr) : List Oper → Act → Tr
  | [], a => k a
  | o :: rest, a => match o.guard with
    | some _ => .bad
    | none => match o.op with
      | .assign x => trOps orc k rest (a.put o.dst (a.eval x))
      | .move x => trOps orc k rest (a.put o.dst (a.eval x))
      | .binOp .eql _ x y _ => match a.eval x, a.eval y with
        | .int ka m, .int kb n => if ka = kb then .br m n (trOps orc k rest (a.put o.dst (.bool true))) (trOps orc k rest (a.put o.dst (.bool false))) else .bad
        | _, _ => .bad
      | .call c => match c.callee with
        | .value (.func f) => match orc f (c.args.map a.eval) with
          | some v => trOps orc k rest (a.put o.dst v)
          | none => .bad
        | _ => .bad
      | _ => .bad
def trC (orc : Orc) : Code → Act → (Exit → Act → Tr) → Tr
  | .skip, a, k => k .normal a
  | .region _ ops false, a, k => trOps orc (k .normal) ops.toList a
  | .seq x y, a, k => trC orc x a fun e a' => match e with
    | .normal => trC orc y a' k
    | e => k e a'
  | .cond c x y, a, k => match a.eval c with
    | .bool true => trC orc x a k
    | .bool false => trC orc y a k
    | _ => .bad
  | .block id c, a, k => trC orc c a fun e a' => match e with
    | .exit i => if i = id then k .normal a' else k (.exit i) a'
    | e => k e a'
  | .exit i, a, k => k (.exit i) a
  | .ret, a, k => k .ret a
  | _, _, _ => .bad

/-- what is taken of a call is what the call answers, and it leaves the world as it is -/
def OrcOk (P : Program) (orc : Orc) : Prop := ∀ f args v, orc f args = some v → ∀ w, (callFunc f args).run P w = .ok (.enter f args) w ∧ Calls P f args w fun e w' => e = .returned v ∧ w' = w
theorem trOps_sound (P : Program) (orc : Orc) (ho : OrcOk P orc) (ops : Array Oper) (Q R : Exit → Act → World → Prop) (w : World) (k : Act → Tr) (hk : ∀ a, (k a).sat R w → Q .normal a w) :
    ∀ (l : List Oper) (a : Act), (trOps orc k l a).sat R w → wpList P ops Q l a w
  | [], a, h => hk a h
  | o :: rest, a, h => by
    have ih := trOps_sound P orc ho ops Q R w k hk rest
    unfold trOps at h
    cases hg : o.guard with
    | some g => rw [hg] at h; exact h.elim
    | none =>
      rw [hg] at h
      refine wpList_plain hg fun K hK => ?_
      unfold Oper.wp
      cases hop : o.op with
      | assign x =>
        simp only [hop] at h
        simp [execOp, hop, Oper.upon]
        exact hK _ _ (ih _ h)
      | move x =>
        simp only [hop] at h
        simp [execOp, hop, Oper.upon]
        exact hK _ _ (ih _ h)
      | binOp b t x y t' =>
        cases b with
        | eql =>
          simp only [hop] at h
          split at h
          · rename_i ka m kb n hx hy
            by_cases ek : ka = kb
            case neg => rw [if_neg ek] at h; exact h.elim
            subst ek
            rw [if_pos rfl] at h
            simp only [execOp, hop, hx, hy, binOp_eql]
            obtain ⟨h1, h2⟩ := h
            by_cases e : m = n
            · have q : (m == n) = true := by simpa using e
              rw [q]; exact hK _ _ (ih _ (h1 e))
            · have q : (m == n) = false := by simpa using e
              rw [q]; exact hK _ _ (ih _ (h2 e))
          · exact h.elim
        | _ => simp only [hop] at h; exact h.elim
      | call c =>
        simp only [hop] at h
        split at h
        · rename_i f hc
          split at h
          · rename_i v hv
            obtain ⟨h1, h2⟩ := ho _ _ _ hv w
            have hrun : (execOp a.eval o).run P w = .ok (.enter f (c.args.map a.eval)) w := by
              simp [execOp, hop, resolve, hc, Act.eval, Deferred.ofValue, invoke]
              exact h1
            rw [hrun, Oper.upon_enter]
            refine h2.mono ?_
            rintro e w' ⟨rfl, rfl⟩
            exact hK _ _ (ih _ h)
          · exact h.elim
        · exact h.elim
      | _ => simp only [hop] at h; exact h.elim
theorem trC_sound (P : Program) (orc : Orc) (ho : OrcOk P orc) (w : World) : ∀ (c : Code) (Q R : Exit → Act → World → Prop) (a : Act) (k : Exit → Act → Tr), (∀ e a, (k e a).sat R w → Q e a w) → (trC orc c a k).sat R w → c.wp P Q a w
  | .skip, Q, R, a, k, hk, h => wp_skip (hk _ _ h)
  | .region _ ops false, Q, R, a, k, hk, h => wp_region_list (trOps_sound P orc ho ops Q R w _ (fun a h => hk _ _ h) _ _ h)
  | .region _ ops true, Q, R, a, k, hk, h => h.elim
  | .seq x y, Q, R, a, k, hk, h => wp_seq (trC_sound P orc ho w x _ R a _ (fun e a' h' => by
      cases e with
      | normal => exact trC_sound P orc ho w y Q R a' k hk h'
      | _ => exact hk _ _ h') h)
  | .cond c x y, Q, R, a, k, hk, h => by
      unfold trC at h
      split at h
      · rename_i hc; exact wp_cond_true hc (trC_sound P orc ho w x Q R a k hk h)
      · rename_i hc; exact wp_cond_false hc (trC_sound P orc ho w y Q R a k hk h)
      · exact h.elim
  | .block id c, Q, R, a, k, hk, h => wp_block (trC_sound P orc ho w c _ R a _ (fun e a' h' => by
      cases e with
      | exit i =>
        simp only [Exit.inBlock]
        by_cases e : i = id
        · rw [if_pos e]; simp only [if_pos e] at h'; exact hk _ _ h'
        · rw [if_neg e]; simp only [if_neg e] at h'; exact hk _ _ h'
      | _ => exact hk _ _ h') h)
  | .exit i, Q, R, a, k, hk, h => wp_exit (hk _ _ h)
  | .ret, Q, R, a, k, hk, h => wp_ret (hk _ _ h)
  | .loop _, Q, R, a, k, hk, h => h.elim
  | .rangeFunc _ _ _ _, Q, R, a, k, hk, h => h.elim
  | .scope _, Q, R, a, k, hk, h => h.elim
  | .label _, Q, R, a, k, hk, h => h.elim
  | .goto _, Q, R, a, k, hk, h => h.elim
  | .refuse _, Q, R, a, k, hk, h => h.elim
/-- such a tree with its leaves read -/
inductive Vt (X : Type) where
  | leaf (x : X)
  | br (m n : Int) (y z : Vt X)
  | bad
def Vt.sat {X : Type} (R : X → Prop) : Vt X → Prop
  | .leaf x => R x
  | .br m n y z => (m = n → y.sat R) ∧ (m ≠ n → z.sat R)
  | .bad => False
def Tr.view {X : Type} (f : Exit → Act → Option X) : Tr → Vt X
  | .leaf e a => match f e a with
    | some x => .leaf x
    | none => .bad
  | .br m n y z => .br m n (y.view f) (z.view f)
  | .bad => .bad
theorem view_sat {X : Type} (f : Exit → Act → Option X) (R : X → Prop) (Q : Exit → Act → World → Prop) (w : World) (hf : ∀ e a x, f e a = some x → R x → Q e a w) : ∀ t : Tr, (t.view f).sat R → t.sat Q w
  | .leaf e a, h => by
    unfold Tr.view at h
    split at h
    · rename_i x hx; exact hf _ _ _ hx h
    · exact h.elim
  | .br m n y z, h => ⟨fun e => view_sat f R Q w hf y (h.1 e), fun e => view_sat f R Q w hf z (h.2 e)⟩
  | .bad, h => h.elim
/-- a list of numbers with answers, and what is answered else -/
def chainV {X : Type} (op : Int) (d : X) : List (Int × X) → Vt X
  | [] => .leaf d
  | p :: l => .br op p.1 (.leaf p.2) (chainV op d l)
def lookV {X : Type} (op : Int) (d : X) : List (Int × X) → X
  | [] => d
  | p :: l => if op = p.1 then p.2 else lookV op d l
theorem chain_sat {X : Type} (R : X → Prop) (op : Int) (d : X) : ∀ l : List (Int × X), R (lookV op d l) → (chainV op d l).sat R
  | [], h => h
  | p :: l, h => by
    refine ⟨fun e => ?_, fun e => chain_sat R op d l ?_⟩
    · unfold lookV at h; rw [if_pos e] at h; exact h
    · unfold lookV at h; rw [if_neg e] at h; exact h
theorem look_else {X : Type} (op : Int) (d : X) : ∀ l : List (Int × X), (∀ p ∈ l, op ≠ p.1) → lookV op d l = d
  | [], _ => rfl
  | p :: l, h => by
    unfold lookV
    rw [if_neg (h p (by simp))]
    exact look_else op d l fun q hq => h q (by simp [hq])
/-- a call whose code is such a switch over its one argument -/
theorem switch_calls {X : Type} {P : Program} {orc : Orc} (ho : OrcOk P orc) {f : FuncId} {fn : Func} {c : Code} {args : Array Value} {w : World} {R : Ending → World → Prop} (hf : P.funcs[f]? = some fn) (hb : fn.body = some c)
    (rd : Exit → Act → Option X) (op : Int) (d : X) (l : List (Int × X)) (hl : (trC orc c { tmps := args ++ Array.replicate (fn.ntmps - args.size) undef, defers := [] } .leaf).view rd = chainV op d l)
    (hR : ∀ e a x, rd e a = some x → x = lookV op d l → bodyPost P fn R e a w) : Calls P f args w R := by
  refine calls_of_wp hf hb (trC_sound P orc ho w c _ (bodyPost P fn R) _ Tr.leaf (fun e a h => h) (view_sat rd (fun x => x = lookV op d l) _ w hR _ ?_))
  rw [hl]
  exact chain_sat _ op d l rfl
end Go.Proofs.Ytpkfmccnjandoaa
