/- Contracts of package text's reader: fail, take. -/
import Derived.Test.YtbifolpahmeaeaaB12a
namespace Go.Proofs.Ytbifolpahmeaeaa
open Go.RowKit
set_option maxHeartbeats 1000000
set_option maxRecDepth 100000
set_option linter.unusedVariables false

/-- a reader as it lies: its bytes, where the next one is, the first error -/
def TBox (w : World) (R : Nat) (a : Option Addr) (n c p e : Nat) : Prop := w.heap[R]? = some (.cells #[.slice a n c, .int .u32 p, .int .i64 e] 77 (0, 0))
theorem tb_box {w : World} {R : Nat} {a : Option Addr} {n c p e : Nat} (h : TBox w R a n c p e) : w.cell? ⟨R, 0, none⟩ = some (.slice a n c) ∧ w.cell? ⟨R, 1, none⟩ = some (.int .u32 p) ∧ w.cell? ⟨R, 2, none⟩ = some (.int .i64 e) ∧ (∀ j, w.frozen? ⟨R, j, none⟩ = false) := by
  have h' : w.heap[R]? = _ := h
  simp [World.cell?, World.frozen?, h']
theorem TBox.lt {w : World} {R : Nat} {a : Option Addr} {n c p e : Nat} (h : TBox w R a n c p e) : R < w.heap.size := (Array.getElem?_eq_some_iff.1 h).1
theorem tb_set1 {w : World} {R : Nat} {a : Option Addr} {n c p e : Nat} (h : TBox w R a n c p e) (q : Nat) (x : Int) (hx : x = q) : TBox (w.setCell ⟨R, 1, none⟩ (.int .u32 x)) R a n c q e := by
  have h' : w.heap[R]? = _ := h
  subst hx
  show (w.setCell _ _).heap[R]? = _
  simp [World.setCell, Array.getElem?_modify, h']
theorem tb_set2 {w : World} {R : Nat} {a : Option Addr} {n c p e : Nat} (h : TBox w R a n c p e) (q : Nat) (x : Int) (hx : x = q) : TBox (w.setCell ⟨R, 2, none⟩ (.int .i64 x)) R a n c p q := by
  have h' : w.heap[R]? = _ := h
  subst hx
  show (w.setCell _ _).heap[R]? = _
  simp [World.setCell, Array.getElem?_modify, h']
theorem TBox.drew {w : World} {R : Nat} {a : Option Addr} {n c p e : Nat} (h : TBox w R a n c p e) (m : Nat) : TBox (w.drewN m) R a n c p e := h
theorem TBox.later {w w' : World} {R : Nat} {a : Option Addr} {n c p e : Nat} (h : TBox w R a n c p e) (hb : Below w.heap.size w w') : TBox w' R a n c p e := (hb.block _ h.lt).trans h
abbrev FR (R : Nat) (w w' : World) : Prop := Fm w w' (fun k => k = R) (fun k => k = R)
theorem FR.refl (R : Nat) (w : World) : FR R w w := Fm.same (Below.refl _ _)
theorem FR.drew {R : Nat} {w w' : World} (h : FR R w w') (m : Nat) : FR R w (w'.drewN m) := h.trans (Fm.same (Dr.below ⟨m, rfl⟩))
theorem FR.later {R : Nat} {w w' w2 : World} (h : FR R w w') (hb : Below w'.heap.size w' w2) : FR R w w2 := h.trans (Fm.same hb)
/-- bytes that lie in another block than the reader -/
structure Mem (w : World) (a : Option Addr) (n c : Nat) (zs : List Int) : Prop where
  rd : Reads w a n c zs
  ok : OkB zs
  le : n ≤ 2000000
theorem Mem.len {w : World} {a : Option Addr} {n c : Nat} {zs : List Int} (h : Mem w a n c zs) : zs.length = n := h.rd.1
theorem Mem.later {w w' : World} {a : Option Addr} {n c : Nat} {zs : List Int} (h : Mem w a n c zs) (hb : Below w.heap.size w w') : Mem w' a n c zs := ⟨h.rd.later hb, h.ok, h.le⟩
theorem Mem.fr {R : Nat} {w w' : World} {a : Option Addr} {n c : Nat} {zs : List Int} (h : Mem w a n c zs) (hR : 0 < n → ∀ x, a = some x → x.block ≠ R) (f : FR R w w') : Mem w' a n c zs := by
  refine ⟨?_, h.ok, h.le⟩
  by_cases h0 : 0 < n
  · obtain ⟨g, o, rfl, hb⟩ := h.rd.bs h0
    have hb' : Bs w' g o n zs := by
      refine ⟨hb.1, fun i hi => ?_⟩
      have hc := hb.2 i hi
      have hlt := World.block_lt_of_cell? _ _ hc
      have hbk := f.block g hlt (hR h0 _ rfl)
      rw [← hc]
      simp only [World.cell?]
      rw [hbk]
    exact hb'.reads c h.rd.2.1
  · obtain rfl : n = 0 := by omega
    obtain ⟨h1, h2, h3⟩ := h.rd
    refine ⟨h1, h2, ?_⟩
    rcases h3 with h3 | ⟨x, rfl, _⟩
    · exact .inl h3
    · exact .inr ⟨x, rfl, fun i hi => by omega⟩
/-- is a number of n bytes there? -/
def thr (zs : List Int) (p n : Nat) : Bool := decide (p + n ≤ zs.length)
/-- the number of n bytes at a place -/
def nuV (zs : List Int) (p n : Nat) : Nat := (beV zs p (n : Int)).toNat
theorem nuV_bd (zs : List Int) (hb : OkB zs) (p n : Nat) (hn : n = 1 ∨ n = 4) : ((nuV zs p n : Nat) : Int) = beV zs p (n : Int) ∧ nuV zs p n < 4294967296 := by
  have h0 := okb_at hb p
  have h4 := beV_bd zs p hb
  unfold nuV
  rcases hn with rfl | rfl
  · have : beV zs p ((1 : Nat) : Int) = zs.getD p 0 := rfl
    rw [this]; omega
  · have : beV zs p ((4 : Nat) : Int) = beV zs p 4 := rfl
    rw [this]; omega
/-- what take leaves and answers -/
def tkE (zs : List Int) (p e n : Nat) : Nat := if e = 0 then (if p + n ≤ zs.length then 0 else 90) else e
def tkV (zs : List Int) (p e n : Nat) : Nat := if tkE zs p e n = 0 then nuV zs p n else 0
def tkP (zs : List Int) (p e n : Nat) : Nat := if tkE zs p e n = 0 then p + n else p
theorem tfail_any (R : Nat) (a : Option Addr) (n c p e x : Nat) (w : World) (hbx : TBox w R a n c p e) :
    Calls Try.prog 39 #[.pointer (some ⟨R, 0, none⟩), .int .i64 x] w fun r w' => r = .returned (.tuple #[]) ∧ TBox w' R a n c p (if e = 0 then x else e) ∧ FR R w w' := by
  obtain ⟨c0, c1, c2, f⟩ := tb_box hbx
  have f2 := f 2
  have HX := hidden hbx
  have HF : Hid (FR R w (w.setCell ⟨R, 2, none⟩ (.int .i64 x))) := (FR.refl R w).set R 2 _ rfl
  clear hbx f
  by_cases h : e = 0
  · subst h
    rw [if_pos rfl]
    have c2' : w.cell? ⟨R, 2, none⟩ = some (.int .i64 0) := c2
    clear c2
    go_enter Try.func39, Try.ntmps39
    go_wp2
    refine bodyPost_end (v := .tuple #[]) (by simp [results, Try.results39, go_sem]) rfl ⟨rfl, tb_set2 HX.out x _ rfl, HF.out⟩
  · rw [if_neg h]
    have h2 : ((e : Int) == 0) = false := by simp; omega
    go_enter Try.func39, Try.ntmps39
    go_wp2
    refine bodyPost_end (v := .tuple #[]) (by simp [results, Try.results39, go_sem]) rfl ⟨rfl, HX.out, (FR.refl R w)⟩
theorem be_mem {w : World} {a : Option Addr} {n c : Nat} {zs : List Int} (h : Mem w a n c zs) (p k : Nat) (hk : k = 1 ∨ k = 4) (hp : p < 4294967296) :
    Calls Try.prog 38 #[.slice a n c, .int .i64 p, .int .i64 k] w fun e w' => e = .returned (if p + k ≤ n then .tuple #[.int .u32 (nuV zs p k), .int .i64 0] else .tuple #[.int .u32 0, .int .i64 2]) ∧ w' = w := by
  have hle := h.le
  by_cases hh : p + k ≤ n
  · rw [if_pos hh]
    obtain ⟨g, o, rfl, hb⟩ := h.rd.bs (by omega)
    have := be_any g o n c zs (p : Int) (k : Int) w (by rcases hk with rfl | rfl <;> simp [IsW]) (by omega) (by omega) (by omega) h.rd.2.1 hb.2 h.ok
    rw [show ((p : Int)).toNat = p by omega, ← (nuV_bd zs h.ok p k hk).1] at this
    exact this
  · rw [if_neg hh]
    exact be_short a n c (p : Int) (k : Int) w (by omega) (by omega) (by omega) (by omega) (by omega)
theorem ttake_any (R : Nat) (a : Option Addr) (n c p e k : Nat) (zs : List Int) (w : World) (hbx : TBox w R a n c p e) (hm : Mem w a n c zs) (hk : k = 1 ∨ k = 4) (hp : p < 4294967296) :
    Calls Try.prog 34 #[.pointer (some ⟨R, 0, none⟩), .int .i64 k] w fun r w' => r = .returned (.int .u32 (tkV zs p e k)) ∧ TBox w' R a n c (tkP zs p e k) (tkE zs p e k) ∧ FR R w w' := by
  obtain ⟨c0, c1, c2, f⟩ := tb_box hbx
  have f1 := f 1
  have hl := hm.len
  have hle := hm.le
  have HBE := hidden fun m => be_mem (hm.later (Dr.below (w := w) (w1 := w.drewN m) ⟨m, rfl⟩)) p k hk hp
  have HX := hidden hbx
  have HFL := hidden fun m => tfail_any R a n c p e 90 (w.drewN m) (hbx.drew m)
  have hwp : IntKind.i64.wrap (p : Int) = (p : Int) := by rw [IntKind.wrap_i64]; omega
  unfold tkV tkP tkE
  rw [hl]
  clear hbx f hm
  by_cases hh : p + k ≤ n
  · rw [if_pos hh] at HBE ⊢
    generalize nuV zs p k = V at *
    by_cases he : e = 0
    · subst he
      have c2' : w.cell? ⟨R, 2, none⟩ = some (.int .i64 0) := c2
      clear c2 HFL
      rw [if_pos rfl, if_pos rfl, if_pos rfl]
      have hwk : IntKind.u32.wrap (k : Int) = (k : Int) := by rw [IntKind.wrap_u32]; omega
      have hwpk : IntKind.u32.wrap ((p : Int) + (k : Int)) = (p : Int) + (k : Int) := by rw [IntKind.wrap_u32]; omega
      have HS := hidden fun m => tb_set1 (HX.out.drew m) (p + k) ((p : Int) + (k : Int)) (by omega)
      have HF := hidden fun m => ((FR.refl R w).drew m).set R 1 (.int .u32 ((p : Int) + (k : Int))) rfl
      go_enter Try.func34, Try.ntmps34
      go_wp2
      go_quiet (first | (go_at_call 38; exact Calls.quiet_of_same (HBE.out _)))
      all_goals (try go_wp2)
      go_ret
      exact ⟨rfl, HS.out _, HF.out _⟩
    · have h2 : ((e : Int) == 0) = false := by simp; omega
      have h3 : ¬ (e : Int) = 0 := by omega
      rw [if_neg he, if_neg he, if_neg he]
      clear HFL
      go_enter Try.func34, Try.ntmps34
      go_wp2
      go_quiet (first | (go_at_call 38; exact Calls.quiet_of_same (HBE.out _)))
      all_goals (try go_wp2)
      go_ret
      exact ⟨rfl, HX.out.drew _, (FR.refl R w).drew _⟩
  · rw [if_neg hh] at HBE ⊢
    have hE : (if (if e = 0 then 90 else e) = 0 then nuV zs p k else 0) = 0 := by rw [if_neg]; split <;> omega
    have hE2 : (if (if e = 0 then 90 else e) = 0 then p + k else p) = p := by rw [if_neg]; split <;> omega
    rw [hE, hE2]
    obtain ⟨E, hEE⟩ : ∃ E, E = (if e = 0 then 90 else e) := ⟨_, rfl⟩
    have hE0 : E ≠ 0 := by rw [hEE]; split <;> omega
    rw [← hEE] at HFL ⊢
    have h2 : ((E : Int) == 0) = false := by simp; omega
    have h3 : ¬ (E : Int) = 0 := by omega
    have HEE := hidden hEE
    clear hE hE2 hEE c2
    go_enter Try.func34, Try.ntmps34
    go_wp2
    go_quiet (first | (go_at_call 38; exact Calls.quiet_of_same (HBE.out _)))
    all_goals (try go_wp2_with (first | (go_at_call 39; refine (HFL.out _).mono ?_; rintro r w2 ⟨rfl, hx2, hf2⟩; have HX2 := hidden hx2; have HF2 := hidden hf2; obtain ⟨q0, q1, q2, _⟩ := tb_box hx2; clear hx2 hf2)))
    go_ret
    exact ⟨rfl, HX2.out, ((FR.refl R w).drew _).trans HF2.out⟩
end Go.Proofs.Ytbifolpahmeaeaa
