/- Layer 18: a nil table; words appended to words. -/
import Derived.Test.YtpgppdkbkkljnaaN19i
import Derived.Laws.AppendOwnNone
namespace Go.Proofs.Ytpgppdkbkkljnaa
open Go.RowKit
set_option maxHeartbeats 1000000
set_option maxRecDepth 100000
set_option linter.unusedVariables false

theorem info32 : (Try.prog.info? 26).map (fun i => (i.zero, i.size, i.bytes)) = some (some (.int .u32 0), 1, 4) := by kernel_rfl
def u32V (xs : List Nat) : List Value := xs.map (fun x : Nat => Value.int .u32 (x : Int))
theorem u32V_snoc (xs : List Nat) (x : Nat) : u32V xs ++ [.int .u32 (x : Int)] = u32V (xs ++ [x]) := by simp [u32V]
theorem u32V_len (xs : List Nat) : (u32V xs).length = xs.length := by simp [u32V]
theorem u32V_app (xs ys : List Nat) : u32V xs ++ u32V ys = u32V (xs ++ ys) := by simp [u32V]
theorem u32V_one (xs : List Nat) : ∀ u ∈ u32V xs, u.oneCell' = true := by
  intro u hu
  obtain ⟨x, _, rfl⟩ := List.mem_map.1 hu
  rfl
theorem own32_slice {B : Nat} {w : World} {v : Value} {n : Nat} {xs : List Value} (h : w.ownsRow B 26 1 v n xs) : ∃ ao c, v = .slice ao n c := by
  rcases h.2 with ⟨h1, h2⟩ | ⟨g, cap, cur, h1, _⟩
  · exact ⟨none, 0, by rw [h1, h2]⟩
  · exact ⟨_, _, h1⟩
theorem VRow.news {w : World} {x : Addr} {m : Nat} {ds : List Nat} (h : VRow w (some x) m ds) (hm : 0 < m) : ∀ j u, (u32V ds)[j]? = some u → w.cell? (x.add j) = some u := by
  intro j u hj
  obtain ⟨hj2, rfl⟩ := List.getElem?_eq_some_iff.1 hj
  have hjm : j < m := by rw [← h.ln, ← u32V_len]; exact hj2
  obtain ⟨b, o, e, hc⟩ := h.cells j hjm
  cases e
  rw [plain_add, hc]
  have : j < ds.length := by rw [h.ln]; exact hjm
  simp [u32V, List.getD_eq_getElem?_getD, this]
theorem app32 (base n c m c0 : Nat) (da sa : Option Addr) (zs ds : List Nat) (w : World) (hown : w.ownsRow base 26 1 (.slice da n c) n (u32V zs)) (hv : VRow w sa m ds) (h0 : m = 0 → sa = none ∧ c0 = 0) (h63 : n + m ≤ 4294967296) (hbase : base ≤ w.heap.size) :
    ∃ a' c' w', (∀ ty, (Builtin.append_ #[30, 30] ty #[.slice da n c, .slice sa m c0]).run Try.prog w = .ok (.slice a' (n + m) c') w') ∧ w'.ownsRow base 26 1 (.slice a' (n + m) c') (n + m) (u32V (zs ++ ds)) ∧ Fm w w' (fun k => (Value.slice da n c).ownBlock = some k) (fun k => (Value.slice a' (n + m) c').ownBlock = some k) := by
  obtain ⟨i0, hi, hz0, hz1, hz2⟩ := info_parts info32
  have hl := hv.ln
  by_cases hm : m = 0
  · obtain ⟨rfl, rfl⟩ := h0 hm
    subst hm
    obtain rfl : ds = [] := List.eq_nil_of_length_eq_zero hl
    exact ⟨da, c, w, fun ty => run_append_owned_none (P := Try.prog) (w := w) base 30 ty 26 i0 1 Try.underlying30 hi _ n _ hown, by simpa using hown, Fm.same (Below.refl _ _)⟩
  · obtain ⟨x, rfl⟩ : ∃ x, sa = some x := by
      obtain ⟨b, o, e, _⟩ := hv.cells 0 (by omega)
      exact ⟨_, e⟩
    have key : ∀ ty, ∃ v' w', (Builtin.append_ #[30, 30] ty #[.slice da n c, .slice (some x) m c0]).run Try.prog w = .ok v' w' ∧ w'.ownsRow base 26 1 v' (n + m) (u32V zs ++ u32V ds) ∧ w.grownBy w' (Value.slice da n c).ownBlock ∧ (∀ k, v'.ownBlock = some k → (Value.slice da n c).ownBlock = some k ∨ w.heap.size ≤ k) := fun ty => run_append_at (P := Try.prog) (w := w) base 30 ty 26 i0 (.int .u32 0) 1 4 Try.underlying30 hi hz0 hz1 hz2 rfl (by decide) _ n _ hown x m c0 (u32V ds) (by rw [u32V_len]; omega) (hv.news (by omega)) (u32V_one ds) (by unfold maxLen; omega) (by omega) hbase (by omega)
    obtain ⟨v', w', hr1, h2, h3, h4⟩ := key 30
    rw [u32V_app] at h2
    obtain ⟨a', c', rfl⟩ := own32_slice h2
    exact ⟨a', c', w', fun ty => hr1, h2, fm_grownV h3 h4⟩
theorem wpList_app32 {w : World} {ops : Array Oper} {rest : List Oper} {o : Oper} {a : Act} {Q : Exit → Act → World → Prop} (hgd : o.guard = none) (s x : Operand)
    (ho : o.op = .call { callee := .builtin .append, args := #[s, x], argTypes := #[30, 30] })
    (base n c m c0 : Nat) (da sa : Option Addr) (zs ds : List Nat) (hs : a.eval s = .slice da n c) (hx : a.eval x = .slice sa m c0) (hown : w.ownsRow base 26 1 (.slice da n c) n (u32V zs)) (hv : VRow w sa m ds) (h0 : m = 0 → sa = none ∧ c0 = 0) (h63 : n + m ≤ 4294967296) (hbase : base ≤ w.heap.size)
    (h : ∀ a' c' w', w'.ownsRow base 26 1 (.slice a' (n + m) c') (n + m) (u32V (zs ++ ds)) → Hid (Fm w w' (fun k => (Value.slice da n c).ownBlock = some k) (fun k => (Value.slice a' (n + m) c').ownBlock = some k)) → wpList Try.prog ops Q rest (a.put o.dst (.slice a' (n + m) c')) w') : wpList Try.prog ops Q (o :: rest) a w := by
  refine wpList_plain hgd fun K hK => ?_
  obtain ⟨a', c', w', hrun, h1, h2⟩ := app32 base n c m c0 da sa zs ds w hown hv h0 h63 hbase
  unfold Oper.wp
  simp [execOp, ho, resolve, invoke, builtin, hs, hx, hrun, Result.andThen]
  exact hK _ _ (h a' c' w' h1 h2)
theorem param_nil (i x : Int) (w : World) : Calls Try.prog 11 #[.pointer none, .int .u32 i, .int .u32 x] w fun e w' => e = .returned (.tuple #[]) ∧ w' = w := by
  go_enter Try.func11, Try.ntmps11
  go_wp2
  refine bodyPost_end (v := .tuple #[]) (by simp [results, Try.results11, go_sem]) rfl ⟨rfl, rfl⟩
theorem func_nil (i x : Int) (w : World) : Calls Try.prog 12 #[.pointer none, .int .u32 i, .int .u32 x] w fun e w' => e = .returned (.tuple #[]) ∧ w' = w := by
  go_enter Try.func12, Try.ntmps12
  go_wp2
  refine bodyPost_ret (v := .tuple #[]) (by simp [results, Try.results12, go_sem]) rfl ⟨rfl, rfl⟩
theorem at_nil18 (x : Int) (w : World) : Calls Try.prog 14 #[.pointer none, .int .u32 x] w fun e w' => e = .returned (.int .u32 0) ∧ w' = w := by
  go_enter Try.func14, Try.ntmps14
  go_wp2
  go_ret
  exact ⟨rfl, rfl⟩
theorem params_nil (w : World) : Calls Try.prog 13 #[.pointer none] w fun e w' => e = .returned (.slice none 0 0) ∧ w' = w := by
  go_enter Try.func13, Try.ntmps13
  go_wp2
  go_ret
  exact ⟨rfl, rfl⟩
/-- eight params: refused at once -/
theorem do_few (m : Nat) (pa : Option Addr) (pc : Nat) (n : Int) (aa : Option Addr) (an ac : Nat) (w : World) :
    Calls Try.prog 20 #[.pointer (some ⟨m, 0, none⟩), .slice pa 8 pc, .int .u32 n, .slice aa an ac] w fun e w' => e = .returned (.tuple #[.int .u32 0, .int .i64 0, .int .i64 1]) ∧ w' = w := by
  go_enter Try.func20, Try.ntmps20
  go_wp2
  refine bodyPost_ret (v := .tuple #[.int .u32 0, .int .i64 0, .int .i64 1]) (by simp [results, Try.results20, go_sem]) rfl ⟨rfl, rfl⟩
/-- any function: as the document's, refused where there is none -/
theorem do_all (m : Nat) (bs : List Int) (ram : Nat) (pa : Option Addr) (pc : Nat) (xs : List Nat) (n : Nat) (aa : Option Addr) (an ac : Nat) (ys : List Nat) (w : World) (hm : MemR w m bs ram) (hp : VRow w pa 9 xs) (ha : VRow w aa an ys) :
    Calls Try.prog 20 #[.pointer (some ⟨m, 0, none⟩), .slice pa 9 pc, .int .u32 n, .slice aa an ac] w (DRet18 (doA bs ram xs n ys) w) := by
  by_cases h : n < 1 ∨ 13 < n
  · have e : doA bs ram xs n ys = ⟨0, 0, 1⟩ := by
      unfold doA
      rw [if_pos (by rcases h with h | h <;> omega)]
    rw [e]
    exact do_arg m pa 9 pc n aa an ac w (by rcases h with h | h <;> omega)
  · exact do_good m bs ram pa pc xs n aa an ac ys w hm hp ha (by omega) (by omega)
theorem doA_more (bs : List Int) (r : Nat) (P : List Nat) (n : Nat) (ys : List Nat) (x : Nat) : doA bs r P n [ys.getD 0 0, ys.getD 1 0, x] = doA bs r P n ys := rfl
theorem doA_err (bs : List Int) (r : Nat) (P : List Nat) (n : Nat) (ys : List Nat) (ok : ∀ z ∈ P, z < 4294967296) (hb : OkB bs) (hl : bs.length ≤ 1048576) (hr : r < 4294967296) (h9 : P.length = 9) : (doA bs r P n ys).e = 1 ↔ n < 1 ∨ 13 < n := by
  by_cases h : n < 1 ∨ 13 < n
  · have e : doA bs r P n ys = ⟨0, 0, 1⟩ := by
      unfold doA
      rw [if_pos (by rcases h with h | h <;> omega)]
    rw [e]
    exact ⟨fun _ => h, fun _ => rfl⟩
  · have a1 : ¬ (P.length ≠ 9 ∨ n < 1 ∨ 13 < n) := by omega
    have hj : (⟨bs, r, P, if 8 ≤ n then P.getD 7 0 else 7⟩ : Jb).ok := ⟨hb, hl, h9, ok, by
      show (if 8 ≤ n then P.getD 7 0 else 7) < 4294967296
      split
      · rw [List.getD_eq_getElem?_getD]
        cases he : P[7]? with
        | none => decide
        | some x => exact ok x (List.mem_of_getElem? he)
      · decide, hr⟩
    have hf := doK_fit hj (if 8 ≤ n then n - 6 else n) (ys.getD 0 0) (ys.getD 1 0)
    have e : doA bs r P n ys = doK ⟨bs, r, P, if 8 ≤ n then P.getD 7 0 else 7⟩ (if 8 ≤ n then n - 6 else n) (ys.getD 0 0) (ys.getD 1 0) := by
      unfold doA
      rw [if_neg a1]
    rw [e]
    constructor
    · intro h1
      rcases hf.ee with h2 | h2 <;> rw [h2] at h1 <;> exact absurd h1 (by decide)
    · intro h1; exact absurd h1 h
/-- no words appended to none, out of a row of none -/
theorem app_none (w : World) (x : Addr) (c0 : Nat) : ∃ w', (∀ ty, (Builtin.append_ #[30, 30] ty #[.slice (some ⟨w.heap.size, 0, none⟩) 0 0, .slice (some x) 0 c0]).run Try.prog (w.alloc (.cells #[] 26)) = .ok (.slice (some ⟨w.heap.size, 0, none⟩) 0 0) w') ∧ w'.ownsRow w.heap.size 26 1 (.slice (some ⟨w.heap.size, 0, none⟩) 0 0) 0 (u32V []) ∧ Below w.heap.size w w' := by
  obtain ⟨i0, hi, hz0, hz1, hz2⟩ := info_parts info32
  have h2 : (w.alloc (.cells #[] 26)).heap[w.heap.size]? = some (.cells #[] 26 (0, 0)) := heap_alloc_new _ _
  have hb : Below w.heap.size w (w.alloc (.cells #[] 26)) := (Below.refl _ _).alloc (Nat.le_refl _) _
  have hr := fun ty => run_append_room (P := Try.prog) (w.alloc (.cells #[] 26)) 30 ty 26 i0 Try.underlying30 hi w.heap.size 0 0 #[] h2 x 0 c0 [] (by simp) (by simp) (by simp) (by omega) (by simp)
  refine ⟨_, hr, ?_, ?_⟩
  · have hs := setRow_heap (w.alloc (.cells #[] 26)) w.heap.size #[] ((#[] : Array Value).toList.take (0 * i0.size) ++ [] ++ (#[] : Array Value).toList.drop (0 * i0.size + ([] : List Value).length)).toArray 26 (0, 0) h2
    refine ⟨rfl, .inr ⟨w.heap.size, 0, _, rfl, Nat.le_refl _, hs, Nat.le_refl _, by unfold maxLen; omega, by simp, by simp [u32V]⟩⟩
  · exact ⟨rfl, rfl, rfl, by simp [World.setRow], fun k hk => (setRow_other _ w.heap.size k _ (by omega)).trans (hb.block k hk)⟩
end Go.Proofs.Ytpgppdkbkkljnaa
