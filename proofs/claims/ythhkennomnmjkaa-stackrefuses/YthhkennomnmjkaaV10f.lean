/- Package stack's Load. -/
import Derived.Test.YthhkennomnmjkaaV10e
namespace Go.Proofs.Ythhkennomnmjkaa
open Go.RowKit
set_option maxHeartbeats 1000000
set_option maxRecDepth 100000
set_option linter.unusedVariables false

/-- a row of bytes lies in no stack's box -/
theorem KAt.reads_ne {B : Nat} {w : World} {m : Nat} {v : Value} {s : Ks} (h : KAt B w m v s) {x : Addr} {n c : Nat} {zs : List Int} (hr : Reads w (some x) n c zs) (hn : 0 < n) : x.block ≠ m := by
  obtain ⟨g, o, e, hB⟩ := hr.bs hn
  cases e
  have hc := hB.2 0 hn
  rintro e
  simp only at e
  subst e
  unfold World.cell? at hc
  rw [h.box] at hc
  simp only [Nat.add_zero] at hc
  match o, hc with
  | 0, hc => simp at hc
  | 1, hc =>
    obtain ⟨a', c', rfl⟩ := own_slice8 h.row
    simp at hc
  | 2, hc => simp at hc
  | 3, hc => simp at hc
  | o + 4, hc => simp at hc
theorem kLoad_any (B m : Nat) (v : Value) (s : Ks) (w : World) (h : KAt B w m v s) (hB : B ≤ w.heap.size) (hsz : s.size ≤ 65536) (a : Option Addr) (L c : Nat) (zs : List Int) (hr : Reads w a L c zs) (hb : OkB zs) (hL : L ≤ 2000000) :
    Calls Try.prog 76 #[.pointer (some ⟨m, 0, none⟩), .slice a L c] w fun e w' => e = .returned (.int .i64 (loadE s zs)) ∧ LeftK B w w' m v (loadS s zs) := by
  have hl := hr.1
  obtain ⟨a0, c0, rfl, kc⟩ := h.kc'
  have k0 := kc.c0
  have HI := hidden (kisstk_any a L c zs w hr hb hL)
  unfold loadS loadE
  rw [hl]
  by_cases h1 : L ≤ s.size
  · have d1 : ¬ (L : Int) > (s.size : Int) := by omega
    cases hrb : rightB zs with
    | true =>
      rw [if_pos ⟨h1, rfl⟩, if_pos rfl]
      rw [hrb] at HI
      obtain ⟨g1, g2, g3⟩ := (rightB_iff zs).1 hrb
      obtain ⟨x, rfl⟩ : ∃ x, a = some x := by
        obtain ⟨g, o, e, _⟩ := hr.bs (by omega)
        exact ⟨_, e⟩
      have hne := h.reads_ne hr (by omega)
      have HC : Hid (∀ w1, Below w.heap.size w w1 → Calls Try.prog 24 #[.slice (some x) L c] w1 fun e w' => ∃ a' c', e = .returned (.slice a' L c') ∧ Below w1.heap.size w1 w' ∧ w'.ownsRow w1.heap.size 5 1 (.slice a' L c') L (bytesV zs)) := fun w1 hb1 => (bclone_any _ L c zs w1 (hr.later hb1) hL).mono (fun e w' hh => by obtain ⟨a', c', h1, h2, h3⟩ := hh; exact ⟨a', c', h1, h3, h2⟩)
      have HF : Hid (∀ (w1 w2 : World) (a' : Option Addr) (c' : Nat), Below w.heap.size w w1 → Below w1.heap.size w1 w2 → w2.ownsRow w1.heap.size 5 1 (.slice a' L c') L (bytesV zs) →
          (w2.cell? ⟨m, 1, none⟩ = some (.slice a0 s.bs.length c0) ∧ w2.frozen? ⟨m, 1, none⟩ = false ∧ (w2.setCell ⟨m, 1, none⟩ (.slice a' L c')).cell? ⟨m, 2, none⟩ = some (.int .i64 s.fr) ∧ (w2.setCell ⟨m, 1, none⟩ (.slice a' L c')).frozen? ⟨m, 2, none⟩ = false ∧ (w2.setCell ⟨m, 1, none⟩ (.slice a' L c')).cell? ⟨m, 3, none⟩ = some (.bool s.on) ∧ (w2.setCell ⟨m, 1, none⟩ (.slice a' L c')).frozen? ⟨m, 3, none⟩ = false) ∧
          Calls Try.prog 83 #[.slice (some x) L c] (w2.setCell ⟨m, 1, none⟩ (.slice a' L c')) (fun e w' => e = .returned (.int .u32 (nu zs (L - 4))) ∧ w' = w2.setCell ⟨m, 1, none⟩ (.slice a' L c')) ∧
          LeftK B w (((w2.setCell ⟨m, 1, none⟩ (.slice a' L c')).setCell ⟨m, 2, none⟩ (.int .i64 (nu zs (L - 4)))).setCell ⟨m, 3, none⟩ (.bool true)) m (.slice a0 s.bs.length c0) ⟨s.size, zs, nu zs (L - 4), true⟩) := fun w1 w2 a' c' hb1 hb2 ho => by
        have hb12 : Below w.heap.size w w2 := hb1.trans (hb2.mono hb1.size)
        have h2 := h.later hb12
        have fm : Fm w w2 (fun k => (Value.slice a0 s.bs.length c0).ownBlock = some k) (fun k => (Value.slice a' L c').ownBlock = some k) := ⟨hb12.os, hb12.tape, hb12.output, hb12.size, fun k hk _ => hb12.block k hk, fun k hk => .inr (Nat.le_trans hb1.size (ho.lt k hk).1)⟩
        obtain ⟨p1, p2⟩ := h.grown fm (zs := zs) (by rw [hl]; exact own_base ho (Nat.le_trans hB hb1.size))
        obtain ⟨q1, q2⟩ := p1.set2 (nu zs (L - 4))
        obtain ⟨r1, r2⟩ := q1.set3 true
        obtain ⟨_, t1, _, _, tf⟩ := h2.cells
        obtain ⟨_, _, u2, u3, uf⟩ := p1.cells
        have hr3 : Reads (w2.setCell ⟨m, 1, none⟩ (.slice a' L c')) (some x) L c zs := (hr.later hb12).fm (T := fun k => k = m) (T' := fun k => k = m) ((Fm.same (Below.refl _ _)).set m 1 _ rfl) hne
        exact ⟨⟨t1, tf 1, u2, uf 2, u3, uf 3⟩, klast_any _ L c zs _ hr3 hb (by omega) hL, _, r1, (p2.trans q2).trans r2⟩
      have hlt := nu_lt hb (L - 4)
      have hwn : IntKind.i64.wrap (nu zs (L - 4) : Int) = (nu zs (L - 4) : Int) := by rw [IntKind.wrap_i64]; omega
      clear h hr hb kc hne g1 g2 g3 hrb hl
      generalize nu zs (L - 4) = N at *
      go_enter Try.func76, Try.ntmps76
      go_wp2_with (first | (go_at_call 89; refine HI.out.mono ?_; rintro e w1 ⟨rfl, hb1⟩) | (go_at_call 24; refine (HC.out _ hb1).mono ?_; rintro e w2 ⟨a', c', rfl, hb2, ho⟩; obtain ⟨⟨t1, tf, u2, uf2, u3, uf3⟩, hln, hlf⟩ := HF.out _ _ _ _ hb1 hb2 ho; have HLN := hidden hln; have HLF := hidden hlf; clear hln hlf ho) | (go_at_call 83; refine HLN.out.mono ?_; rintro e w3 ⟨rfl, rfl⟩))
      go_ret
      exact ⟨rfl, HLF.out⟩
    | false =>
      rw [if_neg (by simp), if_neg (by decide)]
      rw [hrb] at HI
      have HK := hidden h
      clear h hr hb kc
      go_enter Try.func76, Try.ntmps76
      go_wp2_with (first | (go_at_call 89; refine HI.out.mono ?_; rintro e w1 ⟨rfl, hb1⟩))
      go_ret
      exact ⟨rfl, LeftK.same HK.out hb1⟩
  · have d1 : (L : Int) > (s.size : Int) := by omega
    rw [if_neg (fun hh => h1 hh.1), if_neg (by decide)]
    have HK := hidden h
    clear h hr hb kc
    go_enter Try.func76, Try.ntmps76
    go_wp2
    go_ret
    exact ⟨rfl, LeftK.same HK.out (Below.refl _ _)⟩
end Go.Proofs.Ythhkennomnmjkaa
