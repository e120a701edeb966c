/- The first place among the blocks. -/
import Derived.Test.YtmebjbnglndfcaaE8e
namespace Go.Proofs.Ytmebjbnglndfcaa
open Go.RowKit
set_option maxHeartbeats 1000000
set_option maxRecDepth 100000
set_option linter.unusedVariables false

/-- the least place from f on at which n bytes touch none of the blocks, and how many blocks lie ahead of it -/
def place (n : Nat) : Nat → List Bk → Nat × Nat
  | f, [] => (0, f)
  | f, b :: bs => if n ≤ b.a - f then (0, f) else ((place n (b.a + b.l) bs).1 + 1, (place n (b.a + b.l) bs).2)
/-- blocks that rise from f on, touch one another nowhere and end at e at most -/
def Chain (e : Nat) : Nat → List Bk → Prop
  | f, [] => f ≤ e
  | f, b :: bs => 0 < b.l ∧ f ≤ b.a ∧ Chain e (b.a + b.l) bs
theorem Chain.le {e : Nat} : ∀ {f : Nat} {bs : List Bk}, Chain e f bs → f ≤ e
  | f, [], h => h
  | f, b :: bs, h => by have := Chain.le h.2.2; have := h.2.1; omega
theorem place_le (n : Nat) : ∀ (f : Nat) (bs : List Bk), (place n f bs).1 ≤ bs.length
  | f, [] => by simp [place]
  | f, b :: bs => by
    unfold place
    split
    · simp
    · have := place_le n (b.a + b.l) bs; simp; omega
theorem place_end (n e : Nat) : ∀ (f : Nat) (bs : List Bk), Chain e f bs → f ≤ (place n f bs).2 ∧ (place n f bs).2 ≤ e
  | f, [], h => ⟨Nat.le_refl _, h⟩
  | f, b :: bs, h => by
    unfold place
    split
    · exact ⟨Nat.le_refl _, Chain.le h⟩
    · have h1 := place_end n e (b.a + b.l) bs h.2.2; have h2 := h.2.1; exact ⟨by simp only; omega, h1.2⟩
theorem own_ne_u32 {B : Nat} {w : World} {u : Value} {n p : Nat} {xs : List Value} {cs : Array Value} (ho : w.ownsRow B 99 2 u n xs) (hh : w.heap[p]? = some (.cells cs 23 (0, 0))) : u.ownBlock ≠ some p := by
  intro e
  rcases ho.2 with ⟨h1, _⟩ | ⟨g, cap, cur, h1, h2, h3, _⟩
  · rw [h1] at e; cases e
  · rw [h1] at e
    simp only [Value.ownBlock, Option.some.injEq] at e
    subst e
    rw [hh] at h3
    simp at h3
theorem search_place (B h : Nat) (v : Value) (s : Hs) (p q f0 m e : Nat) (w : World) (hp : HpAt B w h v s) (hc : w.heap[p]? = some (.cells #[.int .u32 f0] 23 (0, 0))) (hq : w.cell? ⟨q, 0, none⟩ = some (.int .u32 m)) (hpq : q ≠ p) (hl : s.bs.length ≤ 4096) (hch : Chain e f0 s.bs) (he : e < 4294967296) :
    Calls Try.prog 68 #[.pointer (some ⟨h, 0, none⟩), .func (.func 77) #[] #[.pointer (some ⟨p, 0, none⟩), .pointer (some ⟨q, 0, none⟩)]] w fun r w' => r = .returned (.int .i64 ((place m f0 s.bs).1 : Nat)) ∧ w'.heap[p]? = some (.cells #[.int .u32 ((place m f0 s.bs).2 : Nat)] 23 (0, 0)) ∧ w.grownBy w' (some p) := by
  have hnr := own_ne_u32 hp.2.2 hc
  have hhp : h ≠ p := by
    intro e; subst e; rw [hp.2.1] at hc; simp at hc
  obtain ⟨ao, c, rfl⟩ := own_slice2 hp.2.2
  have hpc := hp.cells
  have h3 := hpc.2.2.2.1
  have hnc : s.bs.length ≤ c := (own_bks hp.2.2).2.1
  have HO := hidden8 hp.2.2
  have HQ := hidden8 hq
  have HCH := hidden8 hch
  clear hpc hp hq hch
  generalize s.bs = bs at *
  generalize hR : place m f0 bs = R at *
  generalize hn : bs.length = n at *
  have HN := hidden8 hn
  have HR := hidden8 hR
  clear hn hR
  go_enter Try.func68, Try.ntmps68
  go_wp2
  go_loopw [12] (fun i wr => ∃ k f : Nat, k ≤ n ∧ i = .int .i64 k ∧ w.grownBy wr (some p) ∧ wr.heap[p]? = some (.cells #[.int .u32 f] 23 (0, 0)) ∧ Hid (Chain e f (bs.drop k)) ∧ Hid (R = (k + (place m f (bs.drop k)).1, (place m f (bs.drop k)).2))) (fun i _ => n - (intOf i).toNat)
  case atStart => exact ⟨0, f0, by omega, rfl, ⟨rfl, rfl, rfl, Nat.le_refl _, fun _ _ _ => rfl⟩, hc, HCH, hidden8 (by rw [List.drop_zero, Nat.zero_add]; exact HR.out.symm)⟩
  case round =>
    obtain ⟨k, f, hk, rfl, hb, hcf, HCk, HRk⟩ := hrel
    clear HCH HR
    by_cases hkn : k < n
    · obtain ⟨g, rfl, hcells⟩ := own_cells HO.out (by omega)
      have hgp : g ≠ p := fun e => hnr (by simp [Value.ownBlock, e])
      have hkl : k < bs.length := by rw [HN.out]; exact hkn
      have ha := hb.cell (hcells k hkl).1 (by simpa using hgp)
      have hl' := hb.cell (hcells k hkl).2 (by simpa using hgp)
      have hcx := hb.cell HQ.out (by simpa using hpq)
      have hch := HCk.out
      have hrr := HRk.out
      rw [List.drop_eq_getElem_cons hkl] at hch hrr
      clear hcells HCk HRk
      generalize bs[k] = b at *
      obtain ⟨a, l⟩ := b
      have hle := hch.2.2.le
      have hfa : f ≤ a := hch.2.1
      simp only at ha hl' hle
      have HCH := hidden8 hch.2.2
      have HRR := hidden8 hrr
      clear hch hrr
      have hsz := hb.size
      have hk2 : (k : Int) < (n : Int) := by omega
      have hps : p < wr.heap.size := (Array.getElem?_eq_some_iff.1 hcf).1
      have hqs : q < wr.heap.size := block_lt_of_cell hcx
      have hcx2 : ∀ o, (wr.alloc o).cell? ⟨q, 0, none⟩ = some (.int .u32 m) := fun o => by rw [World.cell?_alloc_past _ _ _ hqs]; exact hcx
      have hcf2 : ∀ o, (wr.alloc o).heap[p]? = some (.cells #[.int .u32 f] 23 (0, 0)) := fun o => by rw [Go.heap_alloc_old _ _ hps]; exact hcf
      have HCF := hidden8 hcf2
      clear hcf2
      have hgw := fun o => hb.trans (World.grownBy_alloc wr o (some p))
      have HGW := hidden8 hgw
      clear hgw
      by_cases hx : m ≤ a - f
      · go_wp2_with (go_at_call 77; refine (gap_yes a l f m p q _ (cell_of_one (HCF.out _)) (hcx2 _) hfa (by omega) hx).mono ?_; rintro r w9 ⟨rfl, hb9⟩)
        go_ret
        have hRe : R = (k, f) := by rw [HRR.out]; simp [place, hx]
        rw [hRe]
        refine ⟨rfl, ?_, (HGW.out _).trans ⟨hb9.os, hb9.tape, hb9.output, hb9.size, fun k hk _ => hb9.block k hk⟩⟩
        rw [hb9.block p (by simp; omega)]
        exact HCF.out _
      · go_wp2_with (go_at_call 77; refine (gap_no a l f m p q _ (HCF.out _) (hcx2 _) hfa (by omega) (by omega) hpq).mono ?_; rintro r w9 ⟨rfl, hc9, hb9⟩)
        go_roundw
        case rel =>
          refine ⟨k + 1, a + l, by omega, int_eq8 (by omega), (HGW.out _).trans hb9, hc9, HCH, hidden8 ?_⟩
          rw [HRR.out]
          simp only [place, if_neg hx]
          congr 1
          omega
        case measure => simp [intOf]; omega
    · obtain rfl : k = n := by omega
      have h3' := hb.cell h3 (by simpa using hhp)
      go_wp2
      go_ret
      have hRe : R = (k, f) := by rw [HRk.out, List.drop_of_length_le (by rw [HN.out]; exact Nat.le_refl _)]; simp [place]
      rw [hRe]
      exact ⟨rfl, hcf, hb⟩
end Go.Proofs.Ytmebjbnglndfcaa
