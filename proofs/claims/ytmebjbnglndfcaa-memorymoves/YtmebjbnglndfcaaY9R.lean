/- A memory in order, some calls on (Mem): each call of package memory keeps it so. Load, Bytes, Size and Heap of a memory in order; the small game's memory; the page's example. The page's example of layer 9 holds. -/
import Derived.Test.YtmebjbnglndfcaaY9M
namespace Go.Proofs.Ytmebjbnglndfcaa
open Go.RowKit
set_option maxHeartbeats 1000000
set_option maxRecDepth 100000
set_option linter.unusedVariables false

def Mem (B : Nat) (w : World) (m : Nat) (s : Ms) (ks : List Nat) : Prop := B ≤ w.heap.size ∧ OkM s ∧ ∃ gb gc bb bc h hv, MAt B w m gb gc bb bc h hv s ∧ ∀ k ∈ ks, k < w.heap.size ∧ ¬ Tch m h bb hv k
structure Kp (B : Nat) (w w' : World) (ks : List Nat) : Prop where
  below : Below B w w'
  block : ∀ k ∈ ks, w'.heap[k]? = w.heap[k]?
theorem Kp.trans {B : Nat} {w w1 w2 : World} {ks : List Nat} (a : Kp B w w1 ks) (b : Kp B w1 w2 ks) : Kp B w w2 ks := ⟨a.below.trans b.below, fun k hk => (b.block k hk).trans (a.block k hk)⟩
theorem Kp.refl (B : Nat) (w : World) (ks : List Nat) : Kp B w w ks := ⟨Below.refl _ _, fun _ _ => rfl⟩
theorem Kp.own {B B' : Nat} {w w' : World} {ks : List Nat} {e size n : Nat} {v : Value} {xs : List Value} (k : Kp B w w' ks) (ho : w.ownsRow B' e size v n xs) (hv : ∀ g, v.ownBlock = some g → g ∈ ks) : w'.ownsRow B' e size v n xs := by
  refine ⟨ho.1, ?_⟩
  rcases ho.2 with h1 | ⟨g, cap, cur, h1, h2, h3, h4⟩
  · exact .inl h1
  · exact .inr ⟨g, cap, cur, h1, h2, by rw [k.block g (hv g (by rw [h1]; rfl))]; exact h3, h4⟩
theorem Mem.left {B : Nat} {w w' : World} {m gb gc bb bc h : Nat} {hv : Value} {s s' : Ms} {ks : List Nat} (hB : B ≤ w.heap.size) (H : MAt B w m gb gc bb bc h hv s) (hk : ∀ k ∈ ks, k < w.heap.size ∧ ¬ Tch m h bb hv k) (l : LeftM B w w' m gb gc bb h hv s') (ok : OkM s') : Mem B w' m s' ks ∧ Kp B w w' ks := by
  obtain ⟨bb', bc', h', hv', H', f⟩ := l
  refine ⟨⟨Nat.le_trans hB f.size, ok, gb, gc, bb', bc', h', hv', H', fun k e => ?_⟩, f.below hB (fun k e => (H.low k e).1), fun k e => f.block k (hk k e).1 (hk k e).2⟩
  obtain ⟨h1, h2⟩ := hk k e
  refine ⟨Nat.lt_of_lt_of_le h1 f.size, fun e2 => ?_⟩
  rcases f.row k e2 with e3 | e3
  · exact h2 e3
  · omega
theorem Mem.later {B : Nat} {w w' : World} {m : Nat} {s : Ms} {ks : List Nat} (M : Mem B w m s ks) (hb : Below w.heap.size w w') : Mem B w' m s ks := by
  obtain ⟨hB, ok, gb, gc, bb, bc, h, hv, H, hk⟩ := M
  exact ⟨Nat.le_trans hB hb.size, ok, gb, gc, bb, bc, h, hv, H.later hb, fun k e => ⟨Nat.lt_of_lt_of_le (hk k e).1 hb.size, (hk k e).2⟩⟩
theorem Mem.add {B : Nat} {w w' : World} {m : Nat} {s : Ms} {ks : List Nat} (M : Mem B w m s ks) (hb : Below w.heap.size w w') (k : Nat) (h1 : w.heap.size ≤ k) (h2 : k < w'.heap.size) : Mem B w' m s (k :: ks) := by
  obtain ⟨hB, ok, gb, gc, bb, bc, h, hv, H, hk⟩ := M
  refine ⟨Nat.le_trans hB hb.size, ok, gb, gc, bb, bc, h, hv, H.later hb, fun j e => ?_⟩
  rcases List.mem_cons.1 e with rfl | e
  · exact ⟨h2, fun t => by have := (H.low j t).2; omega⟩
  · exact ⟨Nat.lt_of_lt_of_le (hk j e).1 hb.size, (hk j e).2⟩
theorem Mem.ok {B : Nat} {w : World} {m : Nat} {s : Ms} {ks : List Nat} (M : Mem B w m s ks) : OkM s := M.2.1
theorem Mem.base {B : Nat} {w : World} {m : Nat} {s : Ms} {ks : List Nat} (M : Mem B w m s ks) : B ≤ w.heap.size := M.1
theorem Kp.of {B : Nat} {w w' : World} {m : Nat} {s : Ms} {ks : List Nat} (M : Mem B w m s ks) (hb : Below w.heap.size w w') : Kp B w w' ks := by
  obtain ⟨hB, ok, gb, gc, bb, bc, h, hv, H, hk⟩ := M
  exact ⟨hb.mono hB, fun k e => hb.block k (hk k e).1⟩
/-- other bytes, another heap -/
theorem ok_of {s : Ms} (ok : OkM s) (zs : List Int) (t : Hs) (h1 : s.ram ≤ zs.length) (h2 : zs.length ≤ 1048576) (h3 : zs.length % 256 = 0) (h4 : OkB zs) (h5 : OkS t) (h6 : t.most = 1048576) (h7 : 0 < t.bs.length → t.en = zs.length ∧ s.ram ≤ t.start) : OkM { s with bytes := zs, hp := t } :=
  ⟨ok.r0, ok.rg, ok.gl, ok.en, h1, h2, h3, ok.pp, ok.ptm, h4, ok.okg, h5, h6, h7⟩
theorem splice_okb {xs ys : List Int} (i : Nat) (h1 : OkB xs) (h2 : OkB ys) : OkB (splice xs i ys) := fun c hc => by
  simp only [splice, List.mem_append] at hc
  rcases hc with hc | hc | hc
  · exact h1 c (List.mem_of_mem_take hc)
  · exact h2 c hc
  · exact h1 c (List.mem_of_mem_drop hc)
theorem ok_splice {s : Ms} (ok : OkM s) (a : Nat) (ds : List Int) (hd : OkB ds) (ha : a + ds.length ≤ s.bytes.length) : OkM { s with bytes := splice s.bytes a ds } := by
  have hl : (splice s.bytes a ds).length = s.bytes.length := splice_len _ _ _ ha
  exact ok_of ok _ s.hp (by rw [hl]; exact ok.bl) (by rw [hl]; exact ok.bm) (by rw [hl]; exact ok.bp) (splice_okb a ok.okb hd) ok.hs ok.most (fun h => by rw [hl]; exact ok.act h)
theorem chg_true {r L a n : Nat} (h : chgR r L a n = true) : r ≤ a ∧ a + n ≤ L := by simpa [chgR, hasR] using h
def wrS (s : Ms) (a n : Nat) (x : Int) : Ms := if (n = 1 ∨ n = 2 ∨ n = 4) ∧ chgR s.ram s.bytes.length a n = true then { s with bytes := splice s.bytes a (putL x n) } else s
def wrE (s : Ms) (a : Nat) (n : Int) : Int := if n ≠ 1 ∧ n ≠ 2 ∧ n ≠ 4 then 1 else if chgR s.ram s.bytes.length a n.toNat = true then 0 else 91
theorem Mem.write_bad {B : Nat} {w : World} {m : Nat} {s : Ms} {ks : List Nat} (M : Mem B w m s ks) (a : Nat) (n x : Int) (h1 : n ≠ 1) (h2 : n ≠ 2) (h4 : n ≠ 4) :
    Calls Try.prog 12 #[.pointer (some ⟨m, 0, none⟩), .int .u32 a, .int .i64 n, .int .u32 x] w fun e w' => e = .returned (.int .i64 1) ∧ w' = w := by
  obtain ⟨hB, ok, gb, gc, bb, bc, h, hv, H, hk⟩ := M
  exact Go.Proofs.Ytmebjbnglndfcaa.write_bad B m gb gc bb bc h hv s a n x w H (by simpa using h1) (by simpa using h2) (by simpa using h4)
theorem Mem.write_no {B : Nat} {w : World} {m : Nat} {s : Ms} {ks : List Nat} (M : Mem B w m s ks) (a n : Nat) (x : Int) (hn : n = 1 ∨ n = 2 ∨ n = 4) (ha : a < 4294967296) (hc : chgR s.ram s.bytes.length a n = false) :
    Calls Try.prog 12 #[.pointer (some ⟨m, 0, none⟩), .int .u32 a, .int .i64 n, .int .u32 x] w fun e w' => e = .returned (.int .i64 91) ∧ w' = w := by
  obtain ⟨hB, ok, gb, gc, bb, bc, h, hv, H, hk⟩ := M
  exact Go.Proofs.Ytmebjbnglndfcaa.write_no B m gb gc bb bc h hv s a n x w H hn ha (by have := ok.bm; omega) hc
theorem Mem.write_ok {B : Nat} {w : World} {m : Nat} {s : Ms} {ks : List Nat} (M : Mem B w m s ks) (a n : Nat) (x : Int) (hn : n = 1 ∨ n = 2 ∨ n = 4) (ha : a < 4294967296) (hc : chgR s.ram s.bytes.length a n = true) :
    Calls Try.prog 12 #[.pointer (some ⟨m, 0, none⟩), .int .u32 a, .int .i64 n, .int .u32 x] w fun e w' => e = .returned (.int .i64 0) ∧ Mem B w' m { s with bytes := splice s.bytes a (putL x n) } ks ∧ Kp B w w' ks := by
  obtain ⟨hB, ok, gb, gc, bb, bc, h, hv, H, hk⟩ := M
  refine (Go.Proofs.Ytmebjbnglndfcaa.write_ok B m gb gc bb bc h hv s a n x w H hn ha ok.bm hc).mono ?_
  rintro e w' ⟨rfl, l⟩
  have hpl : (putL x n).length = n := by have := putL_len x n (by unfold IsW; omega); omega
  exact ⟨rfl, Mem.left hB H hk l (ok_splice ok a _ (putL_bd x n) (by rw [hpl]; exact (chg_true hc).2))⟩
theorem Mem.read_ok {B : Nat} {w : World} {m : Nat} {s : Ms} {ks : List Nat} (M : Mem B w m s ks) (a n : Nat) (hn : n = 1 ∨ n = 2 ∨ n = 4) (ha : a < 4294967296) (hc : a + n ≤ s.bytes.length) :
    Calls Try.prog 15 #[.pointer (some ⟨m, 0, none⟩), .int .u32 a, .int .i64 n] w fun e w' => e = .returned (.tuple #[.int .u32 (beV s.bytes a n), .int .i64 0]) ∧ w' = w := by
  obtain ⟨hB, ok, gb, gc, bb, bc, h, hv, H, hk⟩ := M
  exact Go.Proofs.Ytmebjbnglndfcaa.read_ok B m gb gc bb bc h hv s a n w H hn ha ok.bm ok.okb hc
theorem Mem.fill_no {B : Nat} {w : World} {m : Nat} {s : Ms} {ks : List Nat} (M : Mem B w m s ks) (a n : Nat) (ha : a < 4294967296) (hn : n < 4294967296) (h0 : n ≠ 0) (hc : chgR s.ram s.bytes.length a n = false) :
    Calls Try.prog 23 #[.pointer (some ⟨m, 0, none⟩), .int .u32 a, .int .u32 n] w fun e w' => e = .returned (.int .i64 91) ∧ w' = w := by
  obtain ⟨hB, ok, gb, gc, bb, bc, h, hv, H, hk⟩ := M
  exact Go.Proofs.Ytmebjbnglndfcaa.fill_no B m gb gc bb bc h hv s a n w H ha hn h0 ok.bm hc
theorem Mem.fill_ok {B : Nat} {w : World} {m : Nat} {s : Ms} {ks : List Nat} (M : Mem B w m s ks) (a n : Nat) (ha : a < 4294967296) (hn : n < 4294967296) (h0 : n ≠ 0) (hc : chgR s.ram s.bytes.length a n = true) :
    Calls Try.prog 23 #[.pointer (some ⟨m, 0, none⟩), .int .u32 a, .int .u32 n] w fun e w' => e = .returned (.int .i64 0) ∧ Mem B w' m { s with bytes := splice s.bytes a (zer8 n) } ks ∧ Kp B w w' ks := by
  obtain ⟨hB, ok, gb, gc, bb, bc, h, hv, H, hk⟩ := M
  refine (Go.Proofs.Ytmebjbnglndfcaa.fill_ok B m gb gc bb bc h hv s a n w H ha hn h0 ok.bm hc).mono ?_
  rintro e w' ⟨rfl, l⟩
  exact ⟨rfl, Mem.left hB H hk l (ok_splice ok a _ (zer8_okb n) (by rw [zer8_len]; exact (chg_true hc).2))⟩
theorem Mem.move_read {B : Nat} {w : World} {m : Nat} {s : Ms} {ks : List Nat} (M : Mem B w m s ks) (n a b : Nat) (ha : a < 4294967296) (hn : n < 4294967296) (h0 : n ≠ 0) (hc : s.bytes.length < a + n) :
    Calls Try.prog 22 #[.pointer (some ⟨m, 0, none⟩), .int .u32 n, .int .u32 a, .int .u32 b] w fun e w' => e = .returned (.int .i64 90) ∧ w' = w := by
  obtain ⟨hB, ok, gb, gc, bb, bc, h, hv, H, hk⟩ := M
  exact Go.Proofs.Ytmebjbnglndfcaa.move_read B m gb gc bb bc h hv s n a b w H ha hn h0 ok.bm hc
theorem Mem.move_no {B : Nat} {w : World} {m : Nat} {s : Ms} {ks : List Nat} (M : Mem B w m s ks) (n a b : Nat) (ha : a < 4294967296) (hb : b < 4294967296) (hn : n < 4294967296) (h0 : n ≠ 0) (hc : a + n ≤ s.bytes.length) (hd : chgR s.ram s.bytes.length b n = false) :
    Calls Try.prog 22 #[.pointer (some ⟨m, 0, none⟩), .int .u32 n, .int .u32 a, .int .u32 b] w fun e w' => e = .returned (.int .i64 91) ∧ w' = w := by
  obtain ⟨hB, ok, gb, gc, bb, bc, h, hv, H, hk⟩ := M
  exact Go.Proofs.Ytmebjbnglndfcaa.move_no B m gb gc bb bc h hv s n a b w H ha hb hn h0 ok.bm hc hd
theorem seg_okb' {zs : List Int} (h : OkB zs) (a n : Nat) : OkB (seg zs a n) := fun c hc => h c (List.mem_of_mem_drop (List.mem_of_mem_take hc))
theorem Mem.move_ok {B : Nat} {w : World} {m : Nat} {s : Ms} {ks : List Nat} (M : Mem B w m s ks) (n a b : Nat) (ha : a < 4294967296) (hb : b < 4294967296) (hn : n < 4294967296) (h0 : n ≠ 0) (hc : a + n ≤ s.bytes.length) (hd : chgR s.ram s.bytes.length b n = true) :
    Calls Try.prog 22 #[.pointer (some ⟨m, 0, none⟩), .int .u32 n, .int .u32 a, .int .u32 b] w fun e w' => e = .returned (.int .i64 0) ∧ Mem B w' m { s with bytes := splice s.bytes b (seg s.bytes a n) } ks ∧ Kp B w w' ks := by
  obtain ⟨hB, ok, gb, gc, bb, bc, h, hv, H, hk⟩ := M
  refine (Go.Proofs.Ytmebjbnglndfcaa.move_ok B m gb gc bb bc h hv s n a b w H ha hb hn h0 ok.bm hc hd).mono ?_
  rintro e w' ⟨rfl, l⟩
  exact ⟨rfl, Mem.left hB H hk l (ok_splice ok b _ (seg_okb' ok.okb a n) (by rw [seg_len _ _ _ hc]; exact (chg_true hd).2))⟩
theorem ends_len (zs : List Int) (x : Nat) : (zs.take x ++ zer8 (x - zs.length)).length = x := by simp [zer8_len]; omega
theorem ends_okb {zs : List Int} (h : OkB zs) (x : Nat) : OkB (zs.take x ++ zer8 (x - zs.length)) := okb_app (fun c hc => h c (List.mem_of_mem_take hc)) (zer8_okb _)
theorem endR_true {en x : Nat} (h : endR en x = true) : en ≤ x ∧ x ≤ 1048576 ∧ x % 256 = 0 := by simp [endR] at h; exact ⟨h.1.1, h.1.2, h.2⟩
theorem Mem.resize_act {B : Nat} {w : World} {m : Nat} {s : Ms} {ks : List Nat} (M : Mem B w m s ks) (x : Nat) (hl : 0 < s.hp.bs.length) :
    Calls Try.prog 24 #[.pointer (some ⟨m, 0, none⟩), .int .u32 x] w fun e w' => e = .returned (.bool false) ∧ w' = w := by
  obtain ⟨hB, ok, gb, gc, bb, bc, h, hv, H, hk⟩ := M
  exact Go.Proofs.Ytmebjbnglndfcaa.resize_act B m gb gc bb bc h hv s x w H hl
theorem Mem.resize_no {B : Nat} {w : World} {m : Nat} {s : Ms} {ks : List Nat} (M : Mem B w m s ks) (x : Nat) (hl : s.hp.bs.length = 0) (hx : x < 4294967296) (he : endR s.en x = false) :
    Calls Try.prog 24 #[.pointer (some ⟨m, 0, none⟩), .int .u32 x] w fun e w' => e = .returned (.bool false) ∧ w' = w := by
  obtain ⟨hB, ok, gb, gc, bb, bc, h, hv, H, hk⟩ := M
  exact Go.Proofs.Ytmebjbnglndfcaa.resize_no B m gb gc bb bc h hv s x w H hl hx he
theorem Mem.resize_ok {B : Nat} {w : World} {m : Nat} {s : Ms} {ks : List Nat} (M : Mem B w m s ks) (x : Nat) (hl : s.hp.bs.length = 0) (hx : x < 4294967296) (he : endR s.en x = true) :
    Calls Try.prog 24 #[.pointer (some ⟨m, 0, none⟩), .int .u32 x] w fun e w' => e = .returned (.bool true) ∧ Mem B w' m { s with bytes := s.bytes.take x ++ zer8 (x - s.bytes.length) } ks ∧ Kp B w w' ks := by
  obtain ⟨hB, ok, gb, gc, bb, bc, h, hv, H, hk⟩ := M
  obtain ⟨e1, e2, e3⟩ := endR_true he
  have hrx : s.ram ≤ x := by have := ok.rg; have := ok.gl; omega
  refine (Go.Proofs.Ytmebjbnglndfcaa.resize_ok B m gb gc bb bc h hv s x w H hB hl hx he ok.bm ok.bl hrx ok.rg ok.r0).mono ?_
  rintro e w' ⟨rfl, l⟩
  have hz := ends_len s.bytes x
  exact ⟨rfl, Mem.left hB H hk l (ok_of ok _ s.hp (by rw [hz]; exact hrx) (by rw [hz]; exact e2) (by rw [hz]; exact e3) (ends_okb ok.okb x) ok.hs ok.most (fun h => by omega))⟩
def mlS (s : Ms) (n : Nat) : Ms := match mallocR s.hp n s.bytes.length with
  | none => s
  | some r => { s with hp := r.2, bytes := s.bytes.take r.2.en ++ zer8 (r.2.en - s.bytes.length) }
def mlA (s : Ms) (n : Nat) : Nat := match mallocR s.hp n s.bytes.length with
  | none => 0
  | some r => r.1
theorem Mem.malloc {B : Nat} {w : World} {m : Nat} {s : Ms} {ks : List Nat} (M : Mem B w m s ks) (n : Nat) (hn : n < 4294967296) :
    Calls Try.prog 26 #[.pointer (some ⟨m, 0, none⟩), .int .u32 n] w fun e w' => e = .returned (.int .u32 (mlA s n)) ∧ Mem B w' m (mlS s n) ks ∧ Kp B w w' ks := by
  obtain ⟨hB, ok, gb, gc, bb, bc, h, hv, H, hk⟩ := M
  unfold mlA mlS
  cases hr : mallocR s.hp n s.bytes.length with
  | none =>
    refine (malloc_mem_no B m gb gc bb bc h hv s n w H hB ok hn hr).mono ?_
    rintro e w' ⟨rfl, l⟩
    exact ⟨rfl, Mem.left hB H hk l ok⟩
  | some r =>
    obtain ⟨a, t⟩ := r
    refine (malloc_mem_ok B m gb gc bb bc h hv s n a t w H hB ok hn hr).mono ?_
    rintro e w' ⟨rfl, l⟩
    obtain ⟨f1, f2, f3, f4, f5, f6⟩ := malloc_facts ok.hs ok.most hr (fun hh => (ok.act hh).1)
    have hz := ends_len s.bytes t.en
    have hbl := ok.bl
    refine ⟨rfl, Mem.left hB H hk l (ok_of ok _ t (by rw [hz]; omega) (by rw [hz]; exact f3) (by rw [hz]; exact f4) (ends_okb ok.okb _) (ok_malloc_to ok.hs hr) f5 (fun _ => ⟨hz.symm, ?_⟩))⟩
    rw [f6]
    split
    · exact hbl
    · exact (ok.act (by omega)).2
def frS (s : Ms) (x : Nat) : Ms := if idxB x s.hp.bs = s.hp.bs.length then s else if s.hp.bs.length = 1 then { s with hp := freeS s.hp x, bytes := s.bytes.take s.hp.start ++ zer8 (s.hp.start - s.bytes.length) } else { s with hp := freeS s.hp x }
def frE (s : Ms) (x : Nat) : Int := if idxB x s.hp.bs = s.hp.bs.length then 92 else 0
theorem Mem.free' {B : Nat} {w : World} {m : Nat} {s : Ms} {ks : List Nat} (M : Mem B w m s ks) (x : Nat) :
    Calls Try.prog 27 #[.pointer (some ⟨m, 0, none⟩), .int .u32 x] w fun e w' => e = .returned (.int .i64 (frE s x)) ∧ Mem B w' m (frS s x) ks ∧ Kp B w w' ks := by
  obtain ⟨hB, ok, gb, gc, bb, bc, h, hv, H, hk⟩ := M
  have hle := idxB_le x s.hp.bs
  unfold frE frS
  by_cases h1 : idxB x s.hp.bs = s.hp.bs.length
  · rw [if_pos h1, if_pos h1]
    refine (free_mem_no B m gb gc bb bc h hv s x w H ok h1).mono ?_
    rintro e w' ⟨rfl, l⟩
    exact ⟨rfl, Mem.left hB H hk l ok⟩
  · rw [if_neg h1, if_neg h1]
    have hos := ok_free x ok.hs
    have hmo := most_free s.hp x
    by_cases h2 : s.hp.bs.length = 1
    · rw [if_pos h2]
      refine (free_mem_last B m gb gc bb bc h hv s x w H hB ok h1 h2).mono ?_
      rintro e w' ⟨rfl, l⟩
      obtain ⟨k1, k2, k3, k4, k5⟩ := ok.hs.some (by omega)
      have hst : s.hp.start ≤ 1048576 := by have := Chain.le k5; rw [ok.most] at k4; omega
      have hra := (ok.act (by omega)).2
      have hz := ends_len s.bytes s.hp.start
      refine ⟨rfl, Mem.left hB H hk l (ok_of ok _ (freeS s.hp x) (by rw [hz]; exact hra) (by rw [hz]; exact hst) (by rw [hz]; exact k2) (ends_okb ok.okb _) hos (by rw [hmo]; exact ok.most) (fun hh => ?_))⟩
      unfold freeS at hh
      rw [if_neg h1, if_pos h2] at hh
      simp at hh
      omega
    · rw [if_neg h2]
      refine (free_mem_more B m gb gc bb bc h hv s x w H ok h1 h2).mono ?_
      rintro e w' ⟨rfl, l⟩
      refine ⟨rfl, Mem.left hB H hk l (ok_of ok s.bytes (freeS s.hp x) ok.bl ok.bm ok.bp ok.okb hos (by rw [hmo]; exact ok.most) (fun hh => ?_))⟩
      unfold freeS
      rw [if_neg h1, if_neg h2]
      exact ok.act (by omega)
theorem Mem.protect {B : Nat} {w : World} {m : Nat} {s : Ms} {ks : List Nat} (M : Mem B w m s ks) (a n : Nat) (ha : a < 4294967296) (hn : n < 4294967296) :
    Calls Try.prog 19 #[.pointer (some ⟨m, 0, none⟩), .int .u32 a, .int .u32 n] w fun e w' => e = .returned (.tuple #[]) ∧ Mem B w' m { s with pf := a, pt := a + n } ks ∧ Kp B w w' ks := by
  obtain ⟨hB, ok, gb, gc, bb, bc, h, hv, H, hk⟩ := M
  refine (protect_any B m gb gc bb bc h hv s a n w H ha hn).mono ?_
  rintro e w' ⟨rfl, l⟩
  exact ⟨rfl, Mem.left hB H hk l ⟨ok.r0, ok.rg, ok.gl, ok.en, ok.bl, ok.bm, ok.bp, by show a ≤ a + n; omega, by show a + n ≤ _; omega, ok.okb, ok.okg, ok.hs, ok.most, ok.act⟩⟩
theorem carL_okb (pf pt : Nat) {zs ys : List Int} (h1 : OkB zs) (h2 : OkB ys) : OkB (carL pf pt zs ys) := splice_okb _ h2 (seg_okb' h1 _ _)
theorem Mem.restart {B : Nat} {w : World} {m : Nat} {s : Ms} {ks : List Nat} (M : Mem B w m s ks) (hen : s.en % 256 = 0) :
    Calls Try.prog 20 #[.pointer (some ⟨m, 0, none⟩)] w fun e w' => e = .returned (.tuple #[]) ∧ Mem B w' m { s with bytes := carL s.pf s.pt s.bytes (s.game ++ zer8 (s.en - s.game.length)), hp := ⟨1048576, 0, 0, []⟩ } ks ∧ Kp B w w' ks := by
  obtain ⟨hB, ok, gb, gc, bb, bc, h, hv, H, hk⟩ := M
  refine (restart_any B m gb gc bb bc h hv s w H hB ok.gl ok.en ok.bm ok.pp ok.ptm).mono ?_
  rintro e w' ⟨rfl, g, h', H', f⟩
  have hgl := ok.gl
  have hl : (carL s.pf s.pt s.bytes (s.game ++ zer8 (s.en - s.game.length))).length = s.en := by rw [carL_len]; simp [zer8_len]; omega
  refine ⟨rfl, Mem.left hB H hk ⟨_, _, _, _, H', f⟩ (ok_of ok _ _ (by rw [hl]; have := ok.rg; omega) (by rw [hl]; exact ok.en) (by rw [hl]; exact hen) (carL_okb _ _ ok.okb (okb_app ok.okg (zer8_okb _))) (ok_new (by decide)) rfl (fun hh => by simp at hh))⟩
end Go.Proofs.Ytmebjbnglndfcaa
namespace Go.Proofs.Ytmebjbnglndfcaa
open Go.RowKit
set_option maxHeartbeats 1000000
set_option maxRecDepth 100000
set_option linter.unusedVariables false

theorem loadE_zero {s : Hs} {x y : Nat} {bs : List Bk} (h : loadE s x y bs = 0) : loadS s x y bs = ⟨s.most, x, y, bs⟩ := by
  unfold loadE at h
  unfold loadS
  split
  · rename_i h1; rw [if_pos h1] at h; omega
  · rename_i h1
    rw [if_neg h1] at h
    split
    · rfl
    · rename_i h2; rw [if_neg h2] at h; omega
theorem loadE_ne {s : Hs} {x y : Nat} {bs : List Bk} (h : loadE s x y bs ≠ 0) : loadS s x y bs = s := by
  unfold loadE at h
  unfold loadS
  split
  · rfl
  · rename_i h1
    rw [if_neg h1] at h
    split
    · rename_i h2; rw [if_pos h2] at h; exact absurd rfl h
    · rfl
theorem ramR_true {r en L : Nat} (h : ramR r en L = true) : L ≤ 1048576 - r ∧ en ≤ r + L ∧ r + L ≤ 1048576 ∧ (r + L) % 256 = 0 := by
  unfold ramR at h
  rw [Bool.and_eq_true] at h
  have := endR_true h.2
  exact ⟨by simpa using h.1, this.1, this.2.1, this.2.2⟩
theorem Mem.load {B : Nat} {w : World} {m : Nat} {s : Ms} {ks : List Nat} (M : Mem B w m s ks) (h256 : s.ram ≤ 256) (a : Option Addr) (L k : Nat) (zs : List Int) (x : Nat) (ao : Option Addr) (n c : Nat) (bs : List Bk) (hz : Reads w a L k zs) (hzo : OkB zs) (hza : ∀ y, a = some y → 0 < L → y.block < B) (hL : L ≤ 4611686018427387904) (hk : Bks w ao n c bs) (hf : FitB bs) (hx : x < 4294967296) :
    Calls Try.prog 28 #[.pointer (some ⟨m, 0, none⟩), .slice a L k, .int .u32 x, .slice ao n c] w fun e w' => (∃ E : Int, e = .returned (.int .i64 E)) ∧ Mem B w' m (ldS s zs x bs) ks ∧ Kp B w w' ks := by
  obtain ⟨hB, ok, gb, gc, bb, bc, h, hv, H, hkk⟩ := M
  have hzl := hz.1
  have hbl := hk.1
  obtain ⟨c1, c3, c8, c9, c10, c11, c12, cf⟩ := H.box.cells
  have hrm : s.ram ≤ 1048576 := by have := ok.bl; have := ok.bm; omega
  by_cases hn : 4096 < n
  · refine (load_many_mem m _ (.slice none 0 0) x ao n c w hn).mono ?_
    rintro e w' ⟨rfl, rfl⟩
    have e4 : ldE s zs x bs = 4 := by unfold ldE; rw [if_pos (by omega)]
    have : ldS s zs x bs = s := by unfold ldS; rw [e4, if_neg (by decide)]
    rw [this]
    exact ⟨⟨4, rfl⟩, Mem.left hB H hkk (LeftM.same H (Below.refl _ _)) ok⟩
  · by_cases hr : ramR s.ram s.en L = false
    · refine (load_ram_mem m s.ram s.en a L k x ao n c w c1 c3 hrm hL (by omega) hr).mono ?_
      rintro e w' ⟨rfl, rfl⟩
      have e4 : ldE s zs x bs = 1 := by unfold ldE; rw [if_neg (by omega), hzl, if_pos hr]
      have : ldS s zs x bs = s := by unfold ldS; rw [e4, if_neg (by decide)]
      rw [this]
      exact ⟨⟨1, rfl⟩, Mem.left hB H hkk (LeftM.same H (Below.refl _ _)) ok⟩
    · have hr' : ramR s.ram s.en L = true := by simpa using hr
      obtain ⟨q1, q2, q3, q4⟩ := ramR_true hr'
      by_cases hE : loadE s.hp x (if n = 0 then 0 else s.ram + L) bs = 0
      · have hL0 : 0 < L := by have := ok.rg; have := ok.gl; omega
        obtain ⟨g, o, rfl, hzb⟩ := hz.bs hL0
        have hS := loadE_zero hE
        refine (load_ok_mem B m gb gc bb bc h hv s g o L k zs x ao n c bs _ w H hB hzb (hza _ rfl hL0) hz.2.1 hk hf hx q3 (by omega) hr' hE hS ok.r0 (by have := ok.rg; omega) ok.bm ok.pp ok.ptm).mono ?_
        rintro e w' ⟨rfl, l⟩
        have e4 : ldE s zs x bs = 0 := by unfold ldE; rw [if_neg (by omega), hzl, if_neg hr, hbl, if_pos hE]
        have hst : ldS s zs x bs = { s with hp := ⟨s.hp.most, x, if n = 0 then 0 else s.ram + L, bs⟩, bytes := carL s.pf s.pt s.bytes (s.game.take s.ram ++ zs) } := by
          unfold ldS; rw [if_pos e4, hzl, hbl, hS]
        rw [hst]
        have hcl : (carL s.pf s.pt s.bytes (s.game.take s.ram ++ zs)).length = s.ram + L := by rw [carL_len]; simp; have := ok.rg; omega
        have hos := ok_load (s := s.hp) x (if n = 0 then 0 else s.ram + L) bs ok.hs
        rw [hS] at hos
        refine ⟨⟨0, rfl⟩, Mem.left hB H hkk l (ok_of ok _ _ (by rw [hcl]; omega) (by rw [hcl]; exact q3) (by rw [hcl]; exact q4) (carL_okb _ _ ok.okb (okb_app (fun c hc => ok.okg c (List.mem_of_mem_take hc)) hzo)) hos ok.most (fun hh => ?_))⟩
        have hh' : 0 < bs.length := hh
        obtain ⟨k1, k2, k3, k4, k5⟩ := hos.some hh
        have k1' : x ≠ 0 := k1
        have k2' : x % 256 = 0 := k2
        rw [hcl]
        refine ⟨?_, by show s.ram ≤ x; omega⟩
        show (if n = 0 then 0 else s.ram + L) = s.ram + L
        rw [if_neg (by omega)]
      · have hS := loadE_ne hE
        refine (load_hp_mem B m gb gc bb bc h hv s a L k x ao n c bs w H hB hk hf hx q3 (by omega) hr' hE hS).mono ?_
        rintro e w' ⟨rfl, l⟩
        have e4 : ldE s zs x bs = 1 := by unfold ldE; rw [if_neg (by omega), hzl, if_neg hr, hbl, if_neg hE]
        have : ldS s zs x bs = s := by unfold ldS; rw [e4, if_neg (by decide)]
        rw [this]
        exact ⟨⟨1, rfl⟩, Mem.left hB H hkk l ok⟩
theorem Mem.bytes {B : Nat} {w : World} {m : Nat} {s : Ms} {ks : List Nat} (M : Mem B w m s ks) :
    Calls Try.prog 11 #[.pointer (some ⟨m, 0, none⟩)] w fun e w' => ∃ g c, e = .returned (.slice (some ⟨g, 0, none⟩) s.bytes.length c) ∧ w'.ownsRow w.heap.size 5 1 (.slice (some ⟨g, 0, none⟩) s.bytes.length c) s.bytes.length (bytesV s.bytes) ∧ Mem B w' m s (g :: ks) ∧ Kp B w w' ks ∧ Below w.heap.size w w' := by
  have M' := M
  obtain ⟨hB, ok, gb, gc, bb, bc, h, hv, H, hk⟩ := M
  refine (bytes_any B m gb gc bb bc h hv s w H ok.bm (by have := ok.bl; have := ok.r0; omega)).mono ?_
  rintro e w' ⟨g, c, rfl, ho, hb⟩
  have hl := ho.lt g rfl
  exact ⟨g, c, rfl, ho, M'.add hb g hl.1 hl.2, Kp.of M' hb, hb⟩
theorem Mem.size {B : Nat} {w : World} {m : Nat} {s : Ms} {ks : List Nat} (M : Mem B w m s ks) :
    Calls Try.prog 18 #[.pointer (some ⟨m, 0, none⟩)] w fun e w' => e = .returned (.int .u32 s.bytes.length) ∧ w' = w := by
  obtain ⟨hB, ok, gb, gc, bb, bc, h, hv, H, hk⟩ := M
  exact size_mem B m gb gc bb bc h hv s w H ok.bm
theorem Mem.heap {B : Nat} {w : World} {m : Nat} {s : Ms} {ks : List Nat} (M : Mem B w m s ks) :
    Calls Try.prog 21 #[.pointer (some ⟨m, 0, none⟩)] w fun e w' => (∃ ao c, e = .returned (.tuple #[.int .u32 s.hp.start, .slice ao s.hp.bs.length c])) ∧ Mem B w' m s ks ∧ Kp B w w' ks := by
  have M' := M
  obtain ⟨hB, ok, gb, gc, bb, bc, h, hv, H, hk⟩ := M
  refine (heap_mem B m gb gc bb bc h hv s w H ok.hs.len).mono ?_
  rintro e w' ⟨ao, c, rfl, ho, hb⟩
  exact ⟨⟨ao, c, rfl⟩, M'.later hb, Kp.of M' hb⟩
theorem small_any (w : World) : Calls Try.prog 16 #[] w fun e w' => ∃ g c, e = .returned (.slice (some ⟨g, 0, none⟩) 512 c) ∧ Bs w' g 0 512 smallL ∧ 512 ≤ c ∧ Below w.heap.size w w' := by
  have hmk : ∀ w, (Instr.makeSlice 28 (.int .i64 476) (.int .i64 476)).run Try.prog w = .ok (.slice (some ⟨w.heap.size, 0, none⟩) 476 476) (w.alloc (.cells (bytesV (zer8 476)).toArray 5)) := fun w => mk8 .i64 476 (by omega) w
  have hb1 : Below w.heap.size w (w.alloc (.cells (bytesV (zer8 476)).toArray 5)) := (Below.refl _ _).alloc (Nat.le_refl _) _
  have ho : (w.alloc (.cells (bytesV (zer8 476)).toArray 5)).ownsRow w.heap.size 5 1 (.slice (some ⟨w.heap.size, 0, none⟩) 476 476) 476 (bytesV (zer8 476)) := by
    refine own8_of (Nat.le_refl _) (heap_alloc_new w _) (Nat.le_refl _) (by decide) (by simp [bytesV, zer8]) ?_ (zer8_len 476)
    exact List.take_of_length_le (by simp [bytesV, zer8])
  have HM := hidden (rmake_part 196867 256 512 768 256 36 0 0 smallL_ok (some ⟨w.heap.size, 0, none⟩) 476 476 (zer8 476) _ (own_reads ho) (zer8_okb _) (by decide) _ _ _ smallL_parse)
  have HB := hidden hb1
  clear ho hb1
  generalize hz : (bytesV (zer8 476)).toArray = Z at *
  go_enter Try.func16, Try.ntmps16
  go_wp2_with (go_at_call 35; refine HM.out.mono ?_; rintro e w1 ⟨hb1, _, h0⟩; obtain ⟨g, c, rfl, hbs, hc⟩ := h0 rfl)
  go_ret
  exact ⟨g, c, rfl, hbs, hc, HB.out.trans (hb1.mono (by simp))⟩
/-- the small game's memory as New makes it -/
def s0 : Ms := ⟨196867, 256, 512, 768, 256, 36, 0, 1198488979, smallL, smallL ++ zer8 256, ⟨1048576, 0, 0, []⟩, 0, 0⟩
theorem s0_ok : OkM s0 := by
  have hl := smallL_len
  have hb : (smallL ++ zer8 256).length = 768 := by rw [List.length_append, hl, zer8_len]
  exact ⟨by decide, by show 256 < smallL.length; omega, by show smallL.length ≤ 768; omega, by decide, by show 256 ≤ (smallL ++ zer8 256).length; omega, by show (smallL ++ zer8 256).length ≤ _; omega, by show (smallL ++ zer8 256).length % 256 = 0; rw [hb], by decide, by decide, okb_app smallL_okb (zer8_okb _), smallL_okb, ok_new (by decide), rfl, fun h => by simp [s0] at h⟩
theorem new_small (g c : Nat) (w : World) (h : Bs w g 0 512 smallL) (hc : 512 ≤ c) :
    Calls Try.prog 25 #[.slice (some ⟨g, 0, none⟩) 512 c] w fun e w' => ∃ m, e = .returned (.tuple #[.pointer (some ⟨m, 0, none⟩), .int .i64 0, .int .i64 36]) ∧ Mem w.heap.size w' m s0 [] ∧ Below w.heap.size w w' := by
  refine (new_ok (some ⟨g, 0, none⟩) 512 c smallL w (h.reads c hc) smallL_okb (by decide) (by decide) 196867 512 256 36 0 1198488979 256 768 smallL_parse (by decide) (by decide)).mono ?_
  rintro e w' ⟨m, gb, gc, g', h', rfl, H, hb⟩
  exact ⟨m, rfl, ⟨hb.size, s0_ok, gb, gc, g', 768, h', _, H, fun k hk => by cases hk⟩, hb⟩
end Go.Proofs.Ytmebjbnglndfcaa
namespace Go.Proofs.Ytmebjbnglndfcaa
open Go.RowKit
set_option maxHeartbeats 1000000
set_option maxRecDepth 100000
set_option linter.unusedVariables false

def s1 : Ms := { s0 with bytes := splice s0.bytes 767 (putL 7 (1 : Nat)) }
def s2 : Ms := { s1 with bytes := s1.bytes.take 1024 ++ zer8 (1024 - s1.bytes.length) }
theorem s0_len : s0.bytes.length = 768 := by show (smallL ++ zer8 256).length = 768; rw [List.length_append, smallL_len, zer8_len]
theorem s1_len : s1.bytes.length = 768 := by
  show (splice s0.bytes 767 (putL 7 (1 : Nat))).length = 768
  rw [splice_len _ _ _ (by rw [s0_len]; decide), s0_len]
theorem s2_len : s2.bytes.length = 1024 := ends_len s1.bytes 1024
theorem s0_read : beV s0.bytes 0 (4 : Nat) = 1198290284 := by
  have : s0.bytes = glul ++ (s0.bytes.drop 4) := by
    show smallL ++ zer8 256 = _
    unfold smallL makeL hdrL
    simp [glul, s0, smallL, makeL, hdrL]
  rw [this]
  rfl
theorem s2_read : beV s2.bytes 1020 (4 : Nat) = 0 := by
  have hl := s1_len
  have h : ∀ i, 768 ≤ i → s2.bytes.getD i 0 = 0 := fun i hi => by
    show (s1.bytes.take 1024 ++ zer8 (1024 - s1.bytes.length)).getD i 0 = 0
    rw [List.take_of_length_le (by omega), List.getD_eq_getElem?_getD, List.getElem?_append_right (by omega)]
    simp only [zer8, List.getElem?_replicate]
    split <;> rfl
  unfold beV
  rw [if_neg (by decide), if_neg (by decide), h 1020 (by omega), h (1020 + 1) (by omega), h (1020 + 2) (by omega), h (1020 + 3) (by omega)]
  rfl
theorem s2_ml : mallocR s2.hp 5 s2.bytes.length = some (1024, ⟨1048576, 1024, 1280, [⟨1024, 5⟩]⟩) := by rw [s2_len]; rfl
def s3 : Ms := { s2 with hp := ⟨1048576, 1024, 1280, [⟨1024, 5⟩]⟩, bytes := s2.bytes.take 1280 ++ zer8 (1280 - s2.bytes.length) }
theorem s3_is : mlS s2 5 = s3 := by unfold mlS; rw [s2_ml]; rfl
theorem s3_at : mlA s2 5 = 1024 := by unfold mlA; rw [s2_ml]
theorem s3_len : s3.bytes.length = 1280 := ends_len s2.bytes 1280
theorem s4_e : frE s3 1024 = 0 := by rfl
theorem s4_len : (frS s3 1024).bytes.length = 1024 := by
  have : frS s3 1024 = { s3 with hp := freeS s3.hp 1024, bytes := s3.bytes.take 1024 ++ zer8 (1024 - s3.bytes.length) } := by
    unfold frS
    rw [if_neg (by decide), if_pos (by decide)]
    rfl
  rw [this]
  exact ends_len s3.bytes 1024
theorem live_any (w : World) : Calls Try.prog 9 #[] w fun e w' => e = .returned (.bool true) ∧ Below w.heap.size w w' := by
  have HS := hidden (small_any w)
  go_enter Try.func9, Try.ntmps9
  go_wp2_with fail
  refine HS.out.mono ?_
  rintro e w1 ⟨g, c, rfl, hbs, hc, hb1⟩
  have HN := hidden (new_small g c w1 hbs hc)
  have hsz := hb1.size
  have HB1 := hidden hb1
  clear hb1 hbs HS
  go_wp2_with fail
  refine HN.out.mono ?_
  rintro e w2 ⟨m, rfl, M0, hb2⟩
  have K2 := hidden (HB1.out.trans (hb2.mono hsz))
  have M0' := hidden M0
  clear hb2 M0 HN HB1
  have r1 := M0'.out.read_ok 0 4 (by decide) (by decide) (by rw [s0_len]; decide)
  rw [s0_read] at r1
  have x1 := M0'.out.write_no 255 1 7 (by decide) (by decide) (by rw [s0_len]; rfl)
  have x2 := M0'.out.write_ok 767 1 7 (by decide) (by decide) (by rw [s0_len]; rfl)
  have R1 := hidden r1
  have X1 := hidden x1
  have X2 := hidden x2
  clear r1 x1 x2
  go_wp2_with (first | (go_at_call 13; refine (num9 _ _).mono ?_; rintro e w9 ⟨rfl, e9⟩; rw [e9]; clear e9) | (go_at_call 15; refine R1.out.mono ?_; rintro e w9 ⟨rfl, e9⟩; rw [e9]; clear e9) | (go_at_call_of 12 (Value.int IntKind.u32 255); refine X1.out.mono ?_; rintro e w9 ⟨rfl, e9⟩; rw [e9]; clear e9) | fail)
  refine X2.out.mono ?_
  rintro e w3 ⟨rfl, M1, k3⟩
  have K3 := hidden (K2.out.trans (k3.below.mono hsz))
  have M1' := hidden (show Mem w1.heap.size w3 m s1 [] from M1)
  clear M1 k3 X1 X2 M0'
  have X3 := hidden (M1'.out.write_no 767 2 7 (by decide) (by decide) (by rw [s1_len]; rfl))
  have X4 := hidden (M1'.out.resize_ok 1024 rfl (by decide) (by rfl))
  go_wp2_with (first | (go_at_call 13; refine (num9 _ _).mono ?_; rintro e w9 ⟨rfl, e9⟩; rw [e9]; clear e9) | (go_at_call 12; refine X3.out.mono ?_; rintro e w9 ⟨rfl, e9⟩; rw [e9]; clear e9) | fail)
  refine X4.out.mono ?_
  rintro e w4 ⟨rfl, M2, k4⟩
  have K4 := hidden (K3.out.trans (k4.below.mono hsz))
  have M2' := hidden (show Mem w1.heap.size w4 m s2 [] from M2)
  clear M2 k4 X3 X4 M1'
  have r2 := M2'.out.read_ok 1020 4 (by decide) (by decide) (by rw [s2_len]; decide)
  rw [s2_read] at r2
  have R2 := hidden r2
  have X5 := hidden (M2'.out.malloc 5 (by decide))
  rw [s3_at, s3_is] at X5
  clear r2
  go_wp2_with (first | (go_at_call 13; refine (num9 _ _).mono ?_; rintro e w9 ⟨rfl, e9⟩; rw [e9]; clear e9) | (go_at_call 15; refine R2.out.mono ?_; rintro e w9 ⟨rfl, e9⟩; rw [e9]; clear e9) | fail)
  refine X5.out.mono ?_
  rintro e w5 ⟨rfl, M3, k5⟩
  have K5 := hidden (K4.out.trans (k5.below.mono hsz))
  have M3' := hidden M3
  clear M3 k5 X5 R2 M2'
  have z5 := M3'.out.size
  rw [s3_len] at z5
  have Z5 := hidden z5
  have X6 := hidden (M3'.out.resize_act 768 (by decide))
  have X7 := hidden (M3'.out.free' 1024)
  rw [s4_e] at X7
  clear z5
  go_wp2_with (first | (go_at_call 13; refine (num9 _ _).mono ?_; rintro e w9 ⟨rfl, e9⟩; rw [e9]; clear e9) | (go_at_call 18; refine Z5.out.mono ?_; rintro e w9 ⟨rfl, e9⟩; rw [e9]; clear e9) | (go_at_call 24; refine X6.out.mono ?_; rintro e w9 ⟨rfl, e9⟩; rw [e9]; clear e9) | fail)
  refine X7.out.mono ?_
  rintro e w6 ⟨rfl, M4, k6⟩
  have K6 := hidden (K5.out.trans (k6.below.mono hsz))
  have z6 := M4.size
  rw [s4_len] at z6
  have Z6 := hidden z6
  clear z6 M4 k6 X6 X7 Z5 M3'
  go_wp2_with (first | (go_at_call 13; refine (num9 _ _).mono ?_; rintro e w9 ⟨rfl, e9⟩; rw [e9]; clear e9) | (go_at_call 18; refine Z6.out.mono ?_; rintro e w9 ⟨rfl, e9⟩; rw [e9]; clear e9) | fail)
  go_ret
  exact ⟨rfl, K6.out⟩
end Go.Proofs.Ytmebjbnglndfcaa
