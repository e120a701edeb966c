/- Layer 14, the document: windows appended; the first window opened. -/
import Derived.Test.YtilfgbcbodjegaaR14d
namespace Go.Proofs.Ytilfgbcbodjegaa
open Go.RowKit
set_option maxHeartbeats 1000000
set_option maxRecDepth 100000
set_option linter.unusedVariables false

theorem info_dwd : (Try.prog.info? 66).map (fun i => (i.zero, i.size, i.bytes)) = some (some (.agg #[.int .i64 0, .int .i64 0, .int .i64 0, .int .i64 0, .int .i64 0, .int .i64 0, .int .u32 0, .int .i64 0]), 8, 64) := by kernel_rfl
theorem dwd_parts : ∃ i, Try.prog.info? 66 = some i ∧ i.zero = some (.agg #[.int .i64 0, .int .i64 0, .int .i64 0, .int .i64 0, .int .i64 0, .int .i64 0, .int .u32 0, .int .i64 0]) ∧ i.size = 8 ∧ i.bytes = 64 := by
  have h := info_dwd
  cases hq : Try.prog.info? 66 with
  | none => rw [hq] at h; simp at h
  | some i => rw [hq] at h; simp at h; exact ⟨i, rfl, h.1, h.2.1, h.2.2⟩
theorem wpList_appD {w : World} {ops : Array Oper} {rest : List Oper} {o : Oper} {a : Act} {Q : Exit → Act → World → Prop} (hgd : o.guard = none) (s x : Operand)
    (ho : o.op = .call { callee := .builtin .append, args := #[s, x], argTypes := #[44, 44] })
    (B : Nat) (v : Value) (n : Nat) (L D : List Wd) (hn : n = L.length) (k : Nat) (hk : k = D.length) (hs : a.eval s = v) (hown : w.ownsRow B 66 8 v n (wdsV L))
    (ad : Addr) (c : Nat) (hx : a.eval x = .slice (some ad) k c) (hnews : ∀ j u, (wdsV D)[j]? = some u → w.cell? (ad.add j) = some u)
    (hsm : n ≤ 1000) (hk0 : 0 < k) (hk1 : k ≤ 2) (hbase : B ≤ w.heap.size)
    (h : ∀ a' c' w', Hid (w'.ownsRow B 66 8 (.slice a' (n + k) c') (n + k) (wdsV (L ++ D))) → Hid (Fm w w' (fun k => v.ownBlock = some k) (fun k' => (Value.slice a' (n + k) c').ownBlock = some k')) → wpList Try.prog ops Q rest (a.put o.dst (.slice a' (n + k) c')) w') : wpList Try.prog ops Q (o :: rest) a w := by
  obtain ⟨i0, hi, hz0, hz1, hz2⟩ := dwd_parts
  refine wpList_append_at hgd s x 44 ho B 66 i0 _ 8 64 Try.underlying44 hi hz0 hz1 hz2 rfl (by decide) v n (wdsV L) hs hown ad k c (wdsV D) hx (by rw [wdsV_len, hk]) hnews (wdsV_one D) (by unfold maxLen; omega) (by omega) hbase hk0 ?_
  intro v' w' h1 h2 h3
  rw [← wdsV_app] at h1
  obtain ⟨a', c', rfl⟩ := own_slice h1
  exact h a' c' w' (hidden h1) (hidden (fm_grown h2 h3.out))
/-- the row is another one -/
theorem QAt.grown {B : Nat} {w w' : World} {m : Nat} {v v' : Value} {s : Ps} {L : List Wd} (h : QAt B w m v s) (f : Fm w w' (fun k => v.ownBlock = some k) (fun k => v'.ownBlock = some k)) (ho : w'.ownsRow B 66 8 v' L.length (wdsV L)) :
    QAt B (w'.setCell ⟨m, 2, none⟩ v') m v' { s with L := L } ∧ Fm w (w'.setCell ⟨m, 2, none⟩ v') (TP m v) (TP m v') := by
  have hb : w'.heap[m]? = some (.cells #[.int .i64 s.w, .int .i64 s.h, v, .int .i64 s.last] 46 (0, 0)) := by
    rw [f.block m h.lt h.ne]; exact h.box
  refine ⟨⟨h.base, ?_, ownsRow_setCell_other ho (by simpa using own_neE ho hb (by decide)) _⟩, ?_⟩
  · rw [bkset hb]; simp
  · refine (f.to (U := TP m v) (U' := TP m v') (fun k e => .inr e) (fun k e => ?_)).set m 2 _ (.inl rfl)
    rcases e with e | e
    · exact .inl (.inl e)
    · exact .inr e
/-- one window more, which lies nowhere yet -/
def OpD (B m : Nat) (v : Value) (w : World) (s' : Ps) (x : Int) (e : Ending) (w' : World) : Prop := e = .returned (.tuple #[.int .i64 x, .int .i64 0]) ∧ ∃ v', QAt B w' m v' s' ∧ Fm w w' (TP m v) (TP m v')
set_option maxHeartbeats 4000000 in
theorem dopen_root {B m : Nat} {v : Value} {s : Ps} {w : World} (h : QAt B w m v s) (hB : B ≤ w.heap.size) (hl : 0 ≤ s.last ∧ s.last ≤ 1000000) (method size kind : Int) (hE : mayD s 0 method kind = 0) :
    Calls Try.prog 57 #[.pointer (some ⟨m, 0, none⟩), .int .i64 0, .int .i64 method, .int .u32 size, .int .i64 kind] w (OpD B m v w (openS s 0 method size kind) (s.last + 1)) := by
  unfold mayD at hE
  by_cases hk : kind = 1 ∨ kind = 2 ∨ kind = 3
  · rw [if_neg (fun q => q hk), if_pos rfl] at hE
    have k1 : ¬ kind < 1 := by omega
    have k2 : ¬ kind > 3 := by omega
    have hL : s.L.length = 0 := by
      by_cases hL : s.L.length = 0
      · exact hL
      · rw [if_neg hL] at hE; omega
    have hLn : s.L = [] := List.length_eq_zero_iff.1 hL
    obtain ⟨l0, l1⟩ := hl
    have hml := h.lt
    obtain ⟨va, vc, hv⟩ := own_slice h.row
    rw [hL] at hv
    subst hv
    obtain ⟨d0, d1, d2, d3, d5⟩ := h.cells
    have d52 := d5 2
    have d53 := d5 3
    obtain ⟨LA, hLA⟩ : ∃ LA, s.last = LA := ⟨_, rfl⟩
    have hop : openS s 0 method size kind = { s with last := LA + 1, L := [⟨LA + 1, kind, 0, 0, 0, 0, 0, 0⟩], root := LA + 1 } := by
      unfold openS addS
      rw [if_pos rfl, hLn, hLA]
      rfl
    rw [hop, hLA]
    rw [hLA] at d3 l0 l1
    obtain ⟨OB, hOB⟩ : ∃ OB, Obj.cells #[.int .i64 (LA + 1), .int .i64 kind, .int .i64 0, .int .i64 0, .int .i64 0, .int .i64 0, .int .u32 0, .int .i64 0] 66 = OB := ⟨_, rfl⟩
    have hba : Below w.heap.size w (w.alloc (.cells #[.int .i64 (LA + 1), .int .i64 kind, .int .i64 0, .int .i64 0, .int .i64 0, .int .i64 0, .int .u32 0, .int .i64 0] 66)) := (Below.refl _ _).alloc (Nat.le_refl _) _
    have hq := h.later hba
    have HOW : Hid ((w.alloc (.cells #[.int .i64 (LA + 1), .int .i64 kind, .int .i64 0, .int .i64 0, .int .i64 0, .int .i64 0, .int .u32 0, .int .i64 0] 66)).ownsRow B 66 8 (.slice va 0 vc) 0 (wdsV [])) := hidden (by
      have := hq.row
      rw [hL, hLn] at this
      exact this)
    have HNW : Hid (∀ j u, (wdsV [⟨LA + 1, kind, 0, 0, 0, 0, 0, 0⟩])[j]? = some u → (w.alloc (.cells #[.int .i64 (LA + 1), .int .i64 kind, .int .i64 0, .int .i64 0, .int .i64 0, .int .i64 0, .int .u32 0, .int .i64 0] 66)).cell? ((⟨w.heap.size, 0, none⟩ : Addr).add j) = some u) := hidden (fun j u hj => by
      rw [Addr.add_lit, Nat.zero_add]
      simp only [World.cell?, heap_alloc_new]
      simpa [wdsV, wdV] using hj)
    have HST : Hid (∀ (w2 : World) (a' : Option Addr) (c' : Nat), w2.ownsRow B 66 8 (.slice a' (0 + 1) c') (0 + 1) (wdsV ([] ++ [⟨LA + 1, kind, 0, 0, 0, 0, 0, 0⟩])) → Fm (w.alloc (.cells #[.int .i64 (LA + 1), .int .i64 kind, .int .i64 0, .int .i64 0, .int .i64 0, .int .i64 0, .int .u32 0, .int .i64 0] 66)) w2 (fun j => (Value.slice va 0 vc).ownBlock = some j) (fun j => (Value.slice a' (0 + 1) c').ownBlock = some j) → w2.cell? ⟨m, 2, none⟩ = some (.slice va 0 vc) ∧ w2.frozen? ⟨m, 2, none⟩ = false ∧ (w2.setCell ⟨m, 2, none⟩ (.slice a' (0 + 1) c')).cell? ⟨m, 3, none⟩ = some (.int .i64 LA) ∧ (w2.setCell ⟨m, 2, none⟩ (.slice a' (0 + 1) c')).frozen? ⟨m, 3, none⟩ = false ∧ Hid (OpD B m (.slice va 0 vc) w { s with last := LA + 1, L := [⟨LA + 1, kind, 0, 0, 0, 0, 0, 0⟩], root := LA + 1 } (LA + 1) (.returned (.tuple #[.int .i64 (LA + 1), .int .i64 0])) ((w2.setCell ⟨m, 2, none⟩ (.slice a' (0 + 1) c')).setCell ⟨m, 3, none⟩ (.int .i64 (LA + 1))))) := hidden (fun w2 a' c' ho f => by
      have hm2 := f.block m hq.lt hq.ne
      obtain ⟨g1, g2⟩ := hq.grown f (L := [⟨LA + 1, kind, 0, 0, 0, 0, 0, 0⟩]) (by exact ho)
      obtain ⟨g3, g4⟩ := g1.set3 (LA + 1)
      have cc := hq.cells
      refine ⟨by rw [World.cell?_of_block hm2]; exact cc.2.2.1, by rw [World.frozen?_of_block hm2]; exact cc.2.2.2.2 2, by rw [g1.cells.2.2.2.1]; exact congrArg some (congrArg _ hLA), g1.cells.2.2.2.2 3, hidden ⟨rfl, _, ?_, (Fm.same hba).trans (g2.trans g4)⟩⟩
      exact ⟨g3.base, g3.box, g3.row⟩)
    generalize hPQ : OpD B m (.slice va 0 vc) w { s with last := LA + 1, L := [⟨LA + 1, kind, 0, 0, 0, 0, 0, 0⟩], root := LA + 1 } (LA + 1) = PQ at *
    have hBW : B ≤ (w.alloc (.cells #[.int .i64 (LA + 1), .int .i64 kind, .int .i64 0, .int .i64 0, .int .i64 0, .int .i64 0, .int .u32 0, .int .i64 0] 66)).heap.size := Nat.le_trans hB hba.size
    clear h hE hk hPQ hq hba hop hLA hOB OB hL hLn
    go_enter Try.func57, Try.ntmps57
    go_wp2_with (first | (at_builtin; refine wpList_appD rfl (.tmp 68) (.tmp 72) rfl B (.slice va 0 vc) 0 [] [⟨LA + 1, kind, 0, 0, 0, 0, 0, 0⟩] rfl 1 rfl rfl HOW.out ⟨w.heap.size, 0, none⟩ 1 rfl HNW.out (by omega) (by omega) (by omega) hBW ?_; intro a2 c2 w2 HO2 HF2; obtain ⟨z1, z2, z3, z4, HG⟩ := HST.out _ _ _ HO2.out HF2.out; clear HO2 HF2) | fail)
    exact HG.out
  · rw [if_pos hk] at hE; omega
end Go.Proofs.Ytilfgbcbodjegaa
