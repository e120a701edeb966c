/- Two heaps side by side; the walk of HeapLoads. -/
import Derived.Test.YtfkplfaikicidaaE8w
namespace Go.Proofs.Ytfkplfaikicidaa
open Go.RowKit
set_option maxHeartbeats 1000000
set_option maxRecDepth 100000
set_option linter.unusedVariables false

/-- two heaps of the call's own, side by side -/
def Run2 (B h g : Nat) (w0 w : World) (s t : Hs) : Prop := ∃ v1 v2, HpAt B w h v1 s ∧ HpAt B w g v2 t ∧ g ≠ h ∧ (∀ k, v1.ownBlock = some k → v2.ownBlock ≠ some k) ∧ Below B w0 w ∧ B ≤ w.heap.size
theorem Run2.swap {B h g : Nat} {w0 w : World} {s t : Hs} (r : Run2 B h g w0 w s t) : Run2 B g h w0 w t s := by
  obtain ⟨v1, v2, h1, h2, h3, h4, h5, h6⟩ := r
  exact ⟨v2, v1, h2, h1, fun e => h3 e.symm, fun k hk e => h4 k e hk, h5, h6⟩
theorem Run2.run {B h g : Nat} {w0 w : World} {s t : Hs} (r : Run2 B h g w0 w s t) : Run B h w0 w s := by
  obtain ⟨v1, v2, h1, h2, h3, h4, h5, h6⟩ := r
  exact ⟨v1, h1, h5, h6⟩
theorem Run2.next {B h g : Nat} {w0 w w' : World} {v1 v2 : Value} {s t s' : Hs} (h1 : HpAt B w h v1 s) (h2 : HpAt B w g v2 t) (h3 : g ≠ h) (h4 : ∀ k, v1.ownBlock = some k → v2.ownBlock ≠ some k) (h5 : Below B w0 w) (h6 : B ≤ w.heap.size) (l : Left B w w' h v1 s') : Run2 B h g w0 w' s' t := by
  obtain ⟨v', hp', f⟩ := l
  refine ⟨v', v2, hp', f.other h1 h2 h3 (fun k hk e => h4 k e hk), h3, fun k hk e => ?_, h5.trans (f.below h1 h6), Nat.le_trans h6 f.size⟩
  rcases f.row k hk with h' | h'
  · exact h4 k h' e
  · have := (h2.2.2.lt k e).2; omega
theorem Run2.later {B h g : Nat} {w0 w w' : World} {s t : Hs} (r : Run2 B h g w0 w s t) (hb : Below w.heap.size w w') : Run2 B h g w0 w' s t := by
  obtain ⟨v1, v2, h1, h2, h3, h4, h5, h6⟩ := r
  exact ⟨v1, v2, h1.later hb, h2.later hb, h3, h4, h5.trans (hb.mono h6), Nat.le_trans h6 hb.size⟩
theorem Run2.drew {B h g : Nat} {w0 w : World} {s t : Hs} (r : Run2 B h g w0 w s t) : Run2 B h g w0 w.drew s t := r.later ((Below.refl _ _).drew)
theorem Run2.below {B h g : Nat} {w0 w : World} {s t : Hs} (r : Run2 B h g w0 w s t) : Below B w0 w := r.run.below
theorem Run2.new {B h : Nat} {w0 w : World} {s : Hs} (m : Nat) (r : Run B h w0 w s) : Calls Try.prog 11 #[.int .u32 m] w fun e w' => e = .returned (.pointer (some ⟨w.heap.size, 0, none⟩)) ∧ Run2 B h w.heap.size w0 w' s ⟨m, 0, 0, []⟩ := by
  obtain ⟨v, hp, hb, hB⟩ := r
  refine (new_any m w).mono ?_
  rintro e w' ⟨rfl, hn, hb'⟩
  have hlt : h < w.heap.size := (Array.getElem?_eq_some_iff.1 hp.2.1).1
  exact ⟨rfl, v, _, hp.later hb', ⟨hB, hn.2.1, Joins.ownsRow_le hn.2.2 hB⟩, by omega, (fun k _ e => by cases e), hb.trans (hb'.mono hB), Nat.le_trans hB hb'.size⟩
theorem Run2.any {B h g : Nat} {w0 w : World} {s t : Hs} {n x : Nat} (r : Run2 B h g w0 w s t) (ok : OkS s) (hn2 : n < 4294967296) (hx : x < 4294967296) :
    Calls Try.prog 12 #[.pointer (some ⟨h, 0, none⟩), .int .u32 n, .int .u32 x] w fun e w' => e = .returned (.tuple #[.int .u32 (mallocA s n x : Nat), .bool (mallocB s n x)]) ∧ Run2 B h g w0 w' (mallocS s n x) t := by
  obtain ⟨v1, v2, h1, h2, h3, h4, h5, h6⟩ := r
  exact (malloc_any B h v1 s n x w h1 h6 ok hn2 hx).mono (fun e w' hh => ⟨hh.1, Run2.next h1 h2 h3 h4 h5 h6 hh.2⟩)
theorem Run2.free {B h g : Nat} {w0 w : World} {s t : Hs} (x : Nat) (r : Run2 B h g w0 w s t) (ok : OkS s) :
    Calls Try.prog 13 #[.pointer (some ⟨h, 0, none⟩), .int .u32 x] w fun e w' => e = .returned (.int .i64 (freeE s x : Nat)) ∧ Run2 B h g w0 w' (freeS s x) t := by
  obtain ⟨v1, v2, h1, h2, h3, h4, h5, h6⟩ := r
  exact (free_any B h v1 s x w h1 ok.len).mono (fun e w' hh => ⟨hh.1, Run2.next h1 h2 h3 h4 h5 h6 hh.2⟩)
theorem Run2.load {B h g : Nat} {w0 w : World} {s t : Hs} (x y : Nat) (ao : Option Addr) (n c : Nat) (bs : List Bk) (r : Run2 B h g w0 w s t) (hk : Bks w ao n c bs) (hf : FitB bs) (hx : x < 4294967296) (hy : y < 4294967296) :
    Calls Try.prog 14 #[.pointer (some ⟨h, 0, none⟩), .int .u32 x, .int .u32 y, .slice ao n c] w fun e w' => e = .returned (.int .i64 (loadE s x y bs : Nat)) ∧ Run2 B h g w0 w' (loadS s x y bs) t := by
  obtain ⟨v1, v2, h1, h2, h3, h4, h5, h6⟩ := r
  exact (load_any B h v1 s x y ao n c bs w h1 h6 hk hf hx hy).mono (fun e w' hh => ⟨hh.1, Run2.next h1 h2 h3 h4 h5 h6 hh.2⟩)
theorem Run2.blocks {B h g : Nat} {w0 w : World} {s t : Hs} (r : Run2 B h g w0 w s t) (ok : OkS s) : Calls Try.prog 15 #[.pointer (some ⟨h, 0, none⟩)] w fun e w' => ∃ ao c, e = .returned (.slice ao s.bs.length c) ∧ Hid (Bks w' ao s.bs.length c s.bs) ∧ Run2 B h g w0 w' s t ∧ Hid (Below w.heap.size w w') := by
  have r0 := r
  obtain ⟨v1, v2, h1, h2, h3, h4, h5, h6⟩ := r
  refine (blocks_any B h v1 s w h1 ok.len).mono ?_
  rintro e w' ⟨ao, c, rfl, ho, hb'⟩
  exact ⟨ao, c, rfl, own_bks ho, r0.later hb', hb'⟩
theorem chain_fit {e f : Nat} {bs : List Bk} (he : e < 4294967296) (hc : Chain e f bs) : FitB bs := by
  induction bs generalizing f with
  | nil => intro b hb; cases hb
  | cons b bs ih =>
    intro x hx
    have hle := hc.2.2.le
    rcases List.mem_cons.1 hx with rfl | h
    · exact ⟨by omega, by omega⟩
    · exact ih hc.2.2 x h
theorem ok_fit {s : Hs} (ok : OkS s) : FitB s.bs ∧ s.start < 4294967296 ∧ s.en < 4294967296 := by
  by_cases h : 0 < s.bs.length
  · obtain ⟨o1, o2, o3, o4, o5⟩ := ok.some h
    have := ok.most
    have := o5.le
    exact ⟨chain_fit (by omega) o5, by omega, by omega⟩
  · have := ok.nil (by omega)
    have hb : s.bs = [] := List.eq_nil_of_length_eq_zero (by omega)
    refine ⟨?_, by omega, by omega⟩
    rw [hb]; intro b hb; cases hb
theorem load_back {s t : Hs} (ok : OkS s) (hm : t.most = s.most) : loadE t s.start s.en s.bs = 0 ∧ loadS t s.start s.en s.bs = s := by
  have hl := ok.len
  have hmay : mayR t.most s.start s.en s.bs = true := by
    unfold mayR
    split
    · rename_i h
      have := ok.nil h
      simp [this]
    · rename_i h
      obtain ⟨o1, o2, o3, o4, o5⟩ := ok.some (by omega)
      simp [o1, o2, o3, hm, o4, (chainB_iff _ _ _).2 o5]
  have e1 : ¬ 4096 < s.bs.length := by omega
  unfold loadE loadS
  rw [if_neg e1, if_neg e1, if_pos hmay, if_pos hmay, hm]
  exact ⟨rfl, rfl⟩
theorem loads_huge1 (m : Nat) (ao : Option Addr) (len cap : Nat) (rs : List Ac) (ao' : Option Addr) (len' cap' : Nat) (rs' : List Ac) (w : World) (ha : IsActs w ao len cap rs) (ha' : IsActs w ao' len' cap' rs') (hh : hugeB rs = true) :
    Calls Try.prog 6 #[.int .u32 m, .slice ao len cap, .slice ao' len' cap'] w fun e w' => e = .returned (.bool true) ∧ Below w.heap.size w w' := by
  have HH := hidden (huge_any ao len cap rs w ha)
  have HH' := hidden (huge_any ao' len' cap' rs' w ha')
  rw [hh] at HH
  clear ha ha'
  go_enter Try.func6, Try.ntmps6
  go_wp2_with (first | (go_at_call 9; (with_reducible refine HH.out.mono ?_); rintro e w1 ⟨rfl, e1⟩; obtain rfl := e1.symm; clear HH) | (go_at_call 9; refine HH'.out.mono ?_; rintro e w1 ⟨rfl, e1⟩; obtain rfl := e1.symm) | (go_at_call 10; refine (live_any _).mono ?_; rintro e w9 ⟨rfl, hb9⟩))
  go_ret
  exact ⟨rfl, hb9⟩
theorem loads_huge2 (m : Nat) (ao : Option Addr) (len cap : Nat) (rs : List Ac) (ao' : Option Addr) (len' cap' : Nat) (rs' : List Ac) (w : World) (ha : IsActs w ao len cap rs) (ha' : IsActs w ao' len' cap' rs') (hh : hugeB rs = false) (hh' : hugeB rs' = true) :
    Calls Try.prog 6 #[.int .u32 m, .slice ao len cap, .slice ao' len' cap'] w fun e w' => e = .returned (.bool true) ∧ Below w.heap.size w w' := by
  have HH := hidden (huge_any ao len cap rs w ha)
  have HH' := hidden (huge_any ao' len' cap' rs' w ha')
  rw [hh] at HH
  rw [hh'] at HH'
  clear ha ha'
  go_enter Try.func6, Try.ntmps6
  go_wp2_with (first | (go_at_call 9; (with_reducible refine HH.out.mono ?_); rintro e w1 ⟨rfl, e1⟩; obtain rfl := e1.symm; clear HH) | (go_at_call 9; refine HH'.out.mono ?_; rintro e w1 ⟨rfl, e1⟩; obtain rfl := e1.symm) | (go_at_call 10; refine (live_any _).mono ?_; rintro e w9 ⟨rfl, hb9⟩))
  go_ret
  exact ⟨rfl, hb9⟩
set_option maxHeartbeats 8000000 in
theorem loads_main (m : Nat) (ao : Option Addr) (len cap : Nat) (rs : List Ac) (ao' : Option Addr) (len' cap' : Nat) (rs' : List Ac) (w : World) (hm : m < 4294967296) (ha : IsActs w ao len cap rs) (ha' : IsActs w ao' len' cap' rs') (hh : hugeB rs = false) (hh' : hugeB rs' = false) :
    Calls Try.prog 6 #[.int .u32 m, .slice ao len cap, .slice ao' len' cap'] w fun e w' => e = .returned (.bool true) ∧ Below w.heap.size w w' := by
  have HH := hidden (huge_any ao len cap rs w ha)
  have HH' := hidden (huge_any ao' len' cap' rs' w ha')
  rw [hh] at HH
  rw [hh'] at HH'
  have HN : Hid (Calls Try.prog 11 #[.int .u32 m] w fun e w' => e = .returned (.pointer (some ⟨w.heap.size, 0, none⟩)) ∧ Run w.heap.size w.heap.size w w' ⟨m, 0, 0, []⟩) := Run.new m w w w.heap.size (Below.refl _ _) (Nat.le_refl _)
  have HN2 : Hid (∀ w1, Run w.heap.size w.heap.size w w1 ⟨m, 0, 0, []⟩ → Calls Try.prog 11 #[.int .u32 m] w1 fun e w' => ∃ G, e = .returned (.pointer (some ⟨G, 0, none⟩)) ∧ Run2 w.heap.size w.heap.size G w w' ⟨m, 0, 0, []⟩ ⟨m, 0, 0, []⟩) := fun w1 r => (Run2.new m r).mono (fun e w' hh => ⟨_, hh⟩)
  have HL : Hid (∀ w1, Below w.heap.size w w1 → Calls Try.prog 10 #[] w1 fun e w' => e = .returned (.bool true) ∧ Below w.heap.size w w') := fun w1 hb => (live_any w1).mono (fun e w' hh => ⟨hh.1, hb.trans (hh.2.mono hb.size)⟩)
  obtain ⟨h1, h2, h3, h4, h5⟩ := ha
  obtain ⟨h1', h2', h3', h4', h5'⟩ := ha'
  have HLN := hidden h1
  have H4 := hidden h4
  have H5 := hidden h5
  have HLN' := hidden h1'
  have H4' := hidden h4'
  have H5' := hidden h5'
  have hx1 : len ≤ 9223372036854775807 := by unfold maxLen at h3; omega
  have hx2 : len' ≤ 9223372036854775807 := by unfold maxLen at h3'; omega
  clear h1 h4 h5 hh h1' h4' h5' hh'
  generalize hB : w.heap.size = B at *
  go_enter Try.func6, Try.ntmps6
  go_wp2_with (first | (go_at_call 9; (with_reducible refine HH.out.mono ?_); rintro e w1 ⟨rfl, e1⟩; obtain rfl := e1.symm; clear HH) | (go_at_call 9; refine HH'.out.mono ?_; rintro e w1 ⟨rfl, e1⟩; obtain rfl := e1.symm) | (go_at_call 11; (with_reducible refine HN.out.mono ?_); rintro e w1 ⟨rfl, r1⟩; clear HN) | (go_at_call 11; refine (HN2.out _ r1).mono ?_; rintro e w2 ⟨G, rfl, r2⟩))
  clear HH' HN2 r1
  go_loopw [9] (fun i wr => ∃ (k : Nat) (s : Hs), k ≤ len ∧ i = .int .i64 k ∧ Run2 B B G w wr s ⟨m, 0, 0, []⟩ ∧ Hid (OkS s) ∧ Hid (s.most = m)) (fun i _ => len - (intOf i).toNat)
  case atStart => exact ⟨0, _, by omega, rfl, r2, hidden (ok_new hm), hidden rfl⟩
  case round =>
    obtain ⟨k, s, hk, rfl, rn, OK, MO⟩ := hrel
    by_cases hlt : k < len
    · have hkl : k < rs.length := by rw [HLN.out]; exact hlt
      obtain ⟨b, off, rfl, hcell⟩ := H4.out (by omega)
      obtain ⟨c0, c1, c2, c3, c4⟩ := hcell k hkl
      obtain ⟨a1, a2, a3, a4, a5, a6, a7⟩ := H5.out rs[k] (List.getElem_mem hkl)
      generalize rs[k] = r at *
      have d1 : (k : Int) < (len : Int) := by omega
      have HM : Hid (r.k = 0 → ∀ w1, Run2 B B G w w1 s ⟨m, 0, 0, []⟩ → Calls Try.prog 12 #[.pointer (some ⟨B, 0, none⟩), .int .u32 r.n, .int .u32 r.e] w1 fun e w' => e = .returned (.tuple #[.int .u32 (mallocA s r.n r.e : Nat), .bool (mallocB s r.n r.e)]) ∧ Run2 B B G w w' (actB s r) ⟨m, 0, 0, []⟩) := fun h w1 rr => by
        have := rr.any OK.out a3 a5
        rw [show actB s r = mallocS s r.n r.e by simp [actB, h]]
        exact this
      have HF : Hid (r.k = 1 → ∀ w1, Run2 B B G w w1 s ⟨m, 0, 0, []⟩ → Calls Try.prog 13 #[.pointer (some ⟨B, 0, none⟩), .int .u32 r.a] w1 fun e w' => e = .returned (.int .i64 (freeE s r.a : Nat)) ∧ Run2 B B G w w' (actB s r) ⟨m, 0, 0, []⟩) := fun h w1 rr => by
        have := rr.free r.a OK.out
        rw [show actB s r = freeS s r.a by simp [actB, h]]
        exact this
      have HZ : Hid (r.k ≠ 0 → r.k ≠ 1 → actB s r = s) := fun h1 h2 => by simp [actB, h1, h2]
      have OK2 := hidden (ok_actB r OK.out)
      have MO2 : Hid ((actB s r).most = m) := by rw [most_actB]; exact MO.out
      have hbw : Below w.heap.size w wr := by rw [hB]; exact rn.below
      have k0 := cellLater hbw c0
      have k1 := cellLater hbw c1
      have k2 := cellLater hbw c2
      have k3 := cellLater hbw c3
      have KC : Hid (∀ w1 t t', Run2 B B G w w1 t t' → w1.cell? ⟨b, off + k * 5, none⟩ = some (.int .i64 r.k) ∧ w1.cell? ⟨b, off + k * 5 + 1, none⟩ = some (.int .u32 r.n) ∧ w1.cell? ⟨b, off + k * 5 + 2, none⟩ = some (.int .u32 r.a) ∧ w1.cell? ⟨b, off + k * 5 + 3, none⟩ = some (.int .u32 r.e)) := fun w1 t t' rr => by
        have hb1 : Below w.heap.size w w1 := by rw [hB]; exact rr.below
        exact ⟨cellLater hb1 c0, cellLater hb1 c1, cellLater hb1 c2, cellLater hb1 c3⟩
      clear c0 c1 c2 c3 c4 hcell a6 OK MO
      obtain ⟨rk, rn', ra, re, rlo, rll, rlc, rlb⟩ := r
      simp only at *
      generalize actB s ⟨rk, rn', ra, re, rlo, rll, rlc, rlb⟩ = s2 at *
      have RD := hidden rn.drew
      by_cases q0 : rk = 0
      · subst q0
        have HM0 := hidden (HM.out rfl)
        clear HM HF HZ
        go_wp2_with fail
        go_region_held3 (fun w' => w'.cell? ⟨b, off + k * 5 + 1, none⟩ = some (.int .u32 rn') ∧ w'.cell? ⟨b, off + k * 5 + 3, none⟩ = some (.int .u32 re)) (first | assumption | exact ⟨by assumption, by assumption⟩ | fail) (first | (go_at_call 12; refine (HM0.out _ RD.out).mono ?_; rintro e w9 ⟨rfl, r9⟩; obtain ⟨n0, n1, n2, n3⟩ := KC.out _ _ _ r9) | fail)
        go_wp2
        go_roundw
        case rel => exact ⟨k + 1, s2, by omega, int_eq (by omega), r9, OK2, MO2⟩
        case measure => simp [intOf]; omega
      · by_cases q1 : rk = 1
        · subst q1
          have HF0 := hidden (HF.out rfl)
          clear HM HF HZ
          go_wp2_with (go_at_call 13; refine (HF0.out _ rn).mono ?_; rintro e w9 ⟨rfl, r9⟩)
          go_roundw
          case rel => exact ⟨k + 1, s2, by omega, int_eq (by omega), r9, OK2, MO2⟩
          case measure => simp [intOf]; omega
        · have e := HZ.out q0 q1
          have HE := hidden e
          clear HM HF HZ e
          go_wp2
          go_roundw
          case rel => exact ⟨k + 1, s2, by omega, int_eq (by omega), by rw [HE.out]; exact rn, OK2, MO2⟩
          case measure => simp [intOf]; omega
    · obtain rfl : k = len := by omega
      clear HLN H4 H5
      have hld := load_back (t := ⟨m, 0, 0, []⟩) OK.out MO.out.symm
      have hft := ok_fit OK.out
      have HST : Hid (Calls Try.prog 16 #[.pointer (some ⟨B, 0, none⟩)] wr fun e w' => e = .returned (.int .u32 s.start) ∧ w' = wr) := rn.run.start
      have HEN : Hid (Calls Try.prog 17 #[.pointer (some ⟨B, 0, none⟩)] wr fun e w' => e = .returned (.int .u32 s.en) ∧ w' = wr) := rn.run.end
      have HBK : Hid (Calls Try.prog 15 #[.pointer (some ⟨B, 0, none⟩)] wr fun e w' => ∃ ao c, e = .returned (.slice ao s.bs.length c) ∧ Hid (Bks w' ao s.bs.length c s.bs) ∧ Run2 B B G w w' s ⟨m, 0, 0, []⟩ ∧ Hid (Below wr.heap.size wr w')) := rn.blocks OK.out
      have HLD : Hid (∀ w1 ao1 c1, Bks w1 ao1 s.bs.length c1 s.bs → Run2 B B G w w1 s ⟨m, 0, 0, []⟩ → Calls Try.prog 14 #[.pointer (some ⟨G, 0, none⟩), .int .u32 s.start, .int .u32 s.en, .slice ao1 s.bs.length c1] w1 fun e w' => e = .returned (.int .i64 0) ∧ Run2 B B G w w' s s) := fun w1 ao1 c1 hk rr => by
        have := rr.swap.load s.start s.en ao1 s.bs.length c1 s.bs hk hft.1 hft.2.1 hft.2.2
        rw [hld.1, hld.2] at this
        exact this.mono (fun e w' hh => ⟨hh.1, hh.2.swap⟩)
      clear hld hft
      generalize s.start = ss at HST HLD
      generalize s.en = se at HEN HLD
      go_wp2_with (first | (go_at_call 16; refine HST.out.mono ?_; rintro e w3 ⟨rfl, e3⟩; obtain rfl := e3.symm) | (go_at_call 17; refine HEN.out.mono ?_; rintro e w3 ⟨rfl, e3⟩; obtain rfl := e3.symm) | (go_at_call 15; refine HBK.out.mono ?_; rintro e w4 ⟨ao4, c4, rfl, HK4, r4, HB4⟩) | (go_at_call 14; refine (HLD.out _ _ _ HK4.out r4).mono ?_; rintro e w5 ⟨rfl, r5⟩) | (go_at_call 19; refine (num8 _ _).mono ?_; rintro e w8 ⟨rfl, e8⟩; obtain rfl := e8.symm))
      clear HST HEN HBK HLD HK4 r4 HB4 rn
      go_loopw [10] (fun i wi => ∃ (k : Nat) (t : Hs), k ≤ len' ∧ i = .int .i64 k ∧ Run2 B B G w wi t t ∧ Hid (OkS t)) (fun i _ => len' - (intOf i).toNat)
      case atStart => exact ⟨0, s, by omega, rfl, r5, OK⟩
      case round =>
        clear r5 OK MO
        obtain ⟨k', t, hk', rfl, rt, OKT⟩ := hrel
        by_cases hlt' : k' < len'
        · have hkl : k' < rs'.length := by rw [HLN'.out]; exact hlt'
          obtain ⟨b, off, rfl, hcell⟩ := H4'.out (by omega)
          obtain ⟨c0, c1, c2, c3, c4⟩ := hcell k' hkl
          obtain ⟨a1, a2, a3, a4, a5, a6, a7⟩ := H5'.out rs'[k'] (List.getElem_mem hkl)
          generalize rs'[k'] = r at *
          have d1 : (k' : Int) < (len' : Int) := by omega
          have hbw : Below w.heap.size w wr := by rw [hB]; exact rt.below
          have k0 := cellLater hbw c0
          have k1 := cellLater hbw c1
          have k2 := cellLater hbw c2
          have k3 := cellLater hbw c3
          have KC : Hid (∀ w1 t t', Run2 B B G w w1 t t' → w1.cell? ⟨b, off + k' * 5, none⟩ = some (.int .i64 r.k) ∧ w1.cell? ⟨b, off + k' * 5 + 1, none⟩ = some (.int .u32 r.n) ∧ w1.cell? ⟨b, off + k' * 5 + 2, none⟩ = some (.int .u32 r.a) ∧ w1.cell? ⟨b, off + k' * 5 + 3, none⟩ = some (.int .u32 r.e)) := fun w1 t t' rr => by
            have hb1 : Below w.heap.size w w1 := by rw [hB]; exact rr.below
            exact ⟨cellLater hb1 c0, cellLater hb1 c1, cellLater hb1 c2, cellLater hb1 c3⟩
          clear c0 c1 c2 c3 c4 hcell a6
          obtain ⟨rk, rn', ra, re, rlo, rll, rlc, rlb⟩ := r
          simp only at *
          have RD := hidden rt.drew
          by_cases q0 : rk = 0
          · subst q0
            have HM1 : Hid (∀ w1, Run2 B B G w w1 t t → Calls Try.prog 12 #[.pointer (some ⟨B, 0, none⟩), .int .u32 rn', .int .u32 re] w1 fun e w' => e = .returned (.tuple #[.int .u32 (mallocA t rn' re : Nat), .bool (mallocB t rn' re)]) ∧ Run2 B B G w w' (mallocS t rn' re) t) := fun w1 rr => rr.any OKT.out a3 a5
            have HM2 : Hid (∀ w1 t2, Run2 B B G w w1 t2 t → Calls Try.prog 12 #[.pointer (some ⟨G, 0, none⟩), .int .u32 rn', .int .u32 re] w1 fun e w' => e = .returned (.tuple #[.int .u32 (mallocA t rn' re : Nat), .bool (mallocB t rn' re)]) ∧ Run2 B B G w w' t2 (mallocS t rn' re)) := fun w1 t2 rr => (rr.swap.any OKT.out a3 a5).mono (fun e w' hh => ⟨hh.1, hh.2.swap⟩)
            have OK2 := hidden (ok_malloc rn' re OKT.out)
            generalize mallocA t rn' re = A at *
            generalize mallocB t rn' re = bo at *
            generalize mallocS t rn' re = t2 at *
            clear OKT
            go_wp2_with fail
            go_region_held3 (fun w' => w'.cell? ⟨b, off + k' * 5 + 1, none⟩ = some (.int .u32 rn') ∧ w'.cell? ⟨b, off + k' * 5 + 3, none⟩ = some (.int .u32 re)) (first | assumption | exact ⟨by assumption, by assumption⟩ | fail) (first | (go_at_call 12; refine (HM1.out _ RD.out).mono ?_; rintro e w9 ⟨rfl, r9⟩; obtain ⟨n0, n1, n2, n3⟩ := KC.out _ _ _ r9) | fail)
            have RD9 := hidden r9.drew
            go_wp2_with fail
            go_region_held3 (fun w' => w'.cell? ⟨b, off + k' * 5 + 1, none⟩ = some (.int .u32 rn') ∧ w'.cell? ⟨b, off + k' * 5 + 3, none⟩ = some (.int .u32 re)) (first | assumption | exact ⟨by assumption, by assumption⟩ | fail) (first | (go_at_call 12; refine (HM2.out _ _ RD9.out).mono ?_; rintro e w7 ⟨rfl, r7⟩; obtain ⟨p0, p1, p2, p3⟩ := KC.out _ _ _ r7) | fail)
            go_wp2_with fail
            go_quiet (fail)
            go_wp2
            go_roundw
            case rel => exact ⟨k' + 1, t2, by omega, int_eq (by omega), r7.later ⟨rfl, rfl, rfl, Nat.le_refl _, fun _ _ => rfl⟩, OK2⟩
            case measure => simp [intOf]; omega
          · by_cases q1 : rk = 1
            · subst q1
              have HF1 : Hid (∀ w1, Run2 B B G w w1 t t → Calls Try.prog 13 #[.pointer (some ⟨B, 0, none⟩), .int .u32 ra] w1 fun e w' => e = .returned (.int .i64 (freeE t ra : Nat)) ∧ Run2 B B G w w' (freeS t ra) t) := fun w1 rr => rr.free ra OKT.out
              have HF2 : Hid (∀ w1 t2, Run2 B B G w w1 t2 t → Calls Try.prog 13 #[.pointer (some ⟨G, 0, none⟩), .int .u32 ra] w1 fun e w' => e = .returned (.int .i64 (freeE t ra : Nat)) ∧ Run2 B B G w w' t2 (freeS t ra)) := fun w1 t2 rr => (rr.swap.free ra OKT.out).mono (fun e w' hh => ⟨hh.1, hh.2.swap⟩)
              have OK2 := hidden (ok_free ra OKT.out)
              generalize freeE t ra = E at *
              generalize freeS t ra = t2 at *
              clear OKT
              go_wp2_with fail
              go_region_held3 (fun w' => w'.cell? ⟨b, off + k' * 5, none⟩ = some (.int .i64 1) ∧ w'.cell? ⟨b, off + k' * 5 + 2, none⟩ = some (.int .u32 ra)) (first | assumption | exact ⟨by assumption, by assumption⟩ | fail) (first | (go_at_call_of 13 (Value.pointer (some ⟨B, 0, none⟩)); refine (HF1.out _ RD.out).mono ?_; rintro e w9 ⟨rfl, r9⟩; obtain ⟨n0, n1, n2, n3⟩ := KC.out _ _ _ r9) | (go_at_call_of 13 (Value.pointer (some ⟨G, 0, none⟩)); refine (HF2.out _ _ r9).mono ?_; rintro e w7 ⟨rfl, r7⟩; obtain ⟨p0, p1, p2, p3⟩ := KC.out _ _ _ r7) | fail)
              go_wp2
              go_roundw
              case rel => exact ⟨k' + 1, t2, by omega, int_eq (by omega), r7, OK2⟩
              case measure => simp [intOf]; omega
            · have hd : (rk == 1) = false := by rw [beq_eq_false_iff_ne]; exact q1
              go_wp2_with fail
              go_quiet (fail)
              go_wp2
              go_roundw
              case rel => exact ⟨k' + 1, t, by omega, int_eq (by omega), rt.later ⟨rfl, rfl, rfl, Nat.le_refl _, fun _ _ => rfl⟩, OKT⟩
              case measure => simp [intOf]; omega
        · obtain rfl : k' = len' := by omega
          have HB1 : Hid (Calls Try.prog 15 #[.pointer (some ⟨B, 0, none⟩)] wr fun e w' => ∃ ao c, e = .returned (.slice ao t.bs.length c) ∧ Hid (Bks w' ao t.bs.length c t.bs) ∧ Run2 B B G w w' t t ∧ Hid (Below wr.heap.size wr w')) := rt.blocks OKT.out
          have HB2 : Hid (∀ w1 ao1 c1, Bks w1 ao1 t.bs.length c1 t.bs → Run2 B B G w w1 t t → Calls Try.prog 15 #[.pointer (some ⟨G, 0, none⟩)] w1 fun e w' => ∃ ao c, e = .returned (.slice ao t.bs.length c) ∧ Hid (Bks w' ao1 t.bs.length c1 t.bs) ∧ Hid (Bks w' ao t.bs.length c t.bs) ∧ Run2 B B G w w' t t) := fun w1 ao1 c1 hk rr => (rr.swap.blocks OKT.out).mono (fun e w' hh => by obtain ⟨ao, c, h1, h2, h3, h4⟩ := hh; exact ⟨ao, c, h1, hk.below h4.out, h2, h3.swap⟩)
          have HSM : Hid (∀ w1 ao1 c1 ao2 c2, Bks w1 ao1 t.bs.length c1 t.bs → Bks w1 ao2 t.bs.length c2 t.bs → Run2 B B G w w1 t t → Calls Try.prog 20 #[.slice ao1 t.bs.length c1, .slice ao2 t.bs.length c2] w1 fun e w' => e = .returned (.bool true) ∧ Run2 B B G w w' t t) := fun w1 ao1 c1 ao2 c2 k1 k2 rr => (same_eq ao1 ao2 _ c1 c2 t.bs w1 k1 k2).mono (fun e w' hh => ⟨hh.1, rr.later hh.2⟩)
          have HS1 : Hid (∀ w1, Run2 B B G w w1 t t → Calls Try.prog 16 #[.pointer (some ⟨B, 0, none⟩)] w1 fun e w' => e = .returned (.int .u32 t.start) ∧ w' = w1) := fun w1 rr => rr.run.start
          have HS2 : Hid (∀ w1, Run2 B B G w w1 t t → Calls Try.prog 16 #[.pointer (some ⟨G, 0, none⟩)] w1 fun e w' => e = .returned (.int .u32 t.start) ∧ w' = w1) := fun w1 rr => rr.swap.run.start
          have HE1 : Hid (∀ w1, Run2 B B G w w1 t t → Calls Try.prog 17 #[.pointer (some ⟨B, 0, none⟩)] w1 fun e w' => e = .returned (.int .u32 t.en) ∧ w' = w1) := fun w1 rr => rr.run.end
          have HE2 : Hid (∀ w1, Run2 B B G w w1 t t → Calls Try.prog 17 #[.pointer (some ⟨G, 0, none⟩)] w1 fun e w' => e = .returned (.int .u32 t.en) ∧ w' = w1) := fun w1 rr => rr.swap.run.end
          have HL2 : Hid (∀ w1, Run2 B B G w w1 t t → Calls Try.prog 10 #[] w1 fun e w' => e = .returned (.bool true) ∧ Below B w w') := fun w1 rr => HL.out w1 rr.below
          clear OKT
          go_wp2_with (first | (go_at_call 15; (with_reducible refine HB1.out.mono ?_); rintro e w4 ⟨ao4, c4, rfl, HK4, r4, HB4⟩; clear HB1) | (go_at_call 15; refine (HB2.out _ _ _ HK4.out r4).mono ?_; rintro e w5 ⟨ao5, c5, rfl, HK5, HK6, r5⟩) | (go_at_call 20; refine (HSM.out _ _ _ _ _ HK5.out HK6.out r5).mono ?_; rintro e w6 ⟨rfl, r6⟩) | (go_at_call_of 16 (Value.pointer (some ⟨B, 0, none⟩)); refine (HS1.out _ r6).mono ?_; rintro e w8 ⟨rfl, e8⟩; obtain rfl := e8.symm) | (go_at_call_of 16 (Value.pointer (some ⟨G, 0, none⟩)); refine (HS2.out _ r6).mono ?_; rintro e w8 ⟨rfl, e8⟩; obtain rfl := e8.symm) | (go_at_call_of 17 (Value.pointer (some ⟨B, 0, none⟩)); refine (HE1.out _ r6).mono ?_; rintro e w8 ⟨rfl, e8⟩; obtain rfl := e8.symm) | (go_at_call_of 17 (Value.pointer (some ⟨G, 0, none⟩)); refine (HE2.out _ r6).mono ?_; rintro e w8 ⟨rfl, e8⟩; obtain rfl := e8.symm) | (go_at_call 10; refine (HL2.out _ r6).mono ?_; rintro e w7 ⟨rfl, hb7⟩))
          go_ret
          exact ⟨rfl, hb7⟩
theorem heapLoads_walk (m : Int) (ao : Option Addr) (len cap : Nat) (rs : List Ac) (ao' : Option Addr) (len' cap' : Nat) (rs' : List Ac) (w : World) (hm : (Lit.int .u32 m).wf = true) (ha : IsActs w ao len cap rs) (ha' : IsActs w ao' len' cap' rs') :
    Calls Try.prog 6 #[.int .u32 m, .slice ao len cap, .slice ao' len' cap'] w fun e w' => e = .returned (.bool true) ∧ Below w.heap.size w w' := by
  have b0 := bounds_u32 hm
  obtain ⟨m, rfl⟩ := Int.eq_ofNat_of_zero_le b0.1
  cases hh : hugeB rs with
  | true => exact loads_huge1 m ao len cap rs ao' len' cap' rs' w ha ha' hh
  | false =>
    cases hh' : hugeB rs' with
    | true => exact loads_huge2 m ao len cap rs ao' len' cap' rs' w ha ha' hh hh'
    | false => exact loads_main m ao len cap rs ao' len' cap' rs' w (by omega) ha ha' hh hh'
end Go.Proofs.Ytfkplfaikicidaa
