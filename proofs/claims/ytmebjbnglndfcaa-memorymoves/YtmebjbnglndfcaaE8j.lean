/- Package heap's Free leaf by leaf; Malloc and Free of any heap. -/
import Derived.Test.YtmebjbnglndfcaaE8i
namespace Go.Proofs.Ytmebjbnglndfcaa
open Go.RowKit
set_option maxHeartbeats 1000000
set_option maxRecDepth 100000
set_option linter.unusedVariables false

theorem free_none (B h : Nat) (v : Value) (s : Hs) (x i : Nat) (w : World) (hp : HpAt B w h v s) (hl : s.bs.length ≤ 4096) (hix : idxB x s.bs = i) (hi : i = s.bs.length) :
    Calls Try.prog 49 #[.pointer (some ⟨h, 0, none⟩), .int .u32 x] w fun e w' => e = .returned (.int .i64 5) ∧ Below w.heap.size w w' := by
  have hbb : Below w.heap.size w (w.alloc (.cells #[.int .u32 x] 23)) := (Below.refl _ _).alloc (Nat.le_refl _) _
  have hs := search_free B h v s w.heap.size x (w.alloc (.cells #[.int .u32 x] 23)) (hp.later hbb) (by rw [World.cell?_alloc_at _ _ _ _ rfl]; rfl) hl
  rw [hix] at hs
  have HS : Hid (Calls Try.prog 68 #[.pointer (some ⟨h, 0, none⟩), .func (.func 69) #[] #[.pointer (some ⟨w.heap.size, 0, none⟩)]] (w.alloc (.cells #[.int .u32 x] 23)) fun e w' => e = .returned (.int .i64 i) ∧ Below w.heap.size w w') := hs.mono (fun e w' hh => ⟨hh.1, hbb.trans (hh.2.mono (by simp))⟩)
  clear hs hbb
  have HC : Hid (∀ w1, Below w.heap.size w w1 → w1.cell? ⟨h, 3, none⟩ = some v) := fun w1 hb => (hp.later hb).cells.2.2.2.1
  obtain ⟨ao, c, rfl⟩ := own_slice2 hp.2.2
  clear hp hix
  subst hi
  have hmf : ∀ (fn : Fn) (first cap : Array Value) (w : World), (Instr.makeFunc fn first cap).run Try.prog w = .ok (.func fn first cap) w := fun _ _ _ _ => rfl
  go_enter Try.func49, Try.ntmps49
  go_wp2_with (first | (go_at_call 68; refine HS.out.mono ?_; rintro e w1 ⟨rfl, hb1⟩; have k3 := HC.out w1 hb1))
  go_ret
  exact ⟨rfl, hb1⟩
theorem free_last (B h : Nat) (v : Value) (s : Hs) (x i : Nat) (w : World) (hp : HpAt B w h v s) (hl : s.bs.length ≤ 4096) (hix : idxB x s.bs = i) (hi : i < s.bs.length) (h1 : s.bs.length = 1) :
    Calls Try.prog 49 #[.pointer (some ⟨h, 0, none⟩), .int .u32 x] w fun e w' => e = .returned (.int .i64 0) ∧ Left B w w' h v ⟨s.most, 0, 0, s.bs.take i ++ s.bs.drop (i + 1)⟩ := by
  have hbb : Below w.heap.size w (w.alloc (.cells #[.int .u32 x] 23)) := (Below.refl _ _).alloc (Nat.le_refl _) _
  have hs := search_free B h v s w.heap.size x (w.alloc (.cells #[.int .u32 x] 23)) (hp.later hbb) (by rw [World.cell?_alloc_at _ _ _ _ rfl]; rfl) hl
  rw [hix] at hs
  have HS : Hid (Calls Try.prog 68 #[.pointer (some ⟨h, 0, none⟩), .func (.func 69) #[] #[.pointer (some ⟨w.heap.size, 0, none⟩)]] (w.alloc (.cells #[.int .u32 x] 23)) fun e w' => e = .returned (.int .i64 i) ∧ Below w.heap.size w w') := hs.mono (fun e w' hh => ⟨hh.1, hbb.trans (hh.2.mono (by simp))⟩)
  clear hs hbb
  have HC : Hid (∀ w1, Below w.heap.size w w1 → w1.cell? ⟨h, 3, none⟩ = some v) := fun w1 hb => (hp.later hb).cells.2.2.2.1
  have HD := hidden8 fun w1 hb => delete_hp B h v s w w1 hp hb i hi hl
  have hlen : (s.bs.take i ++ s.bs.drop (i + 1)).length = s.bs.length - 1 := by simp; omega
  have HA : Hid (∀ w5 v5, HpAt B w5 h v5 ⟨s.most, s.start, s.en, s.bs.take i ++ s.bs.drop (i + 1)⟩ → Calls Try.prog 43 #[.pointer (some ⟨h, 0, none⟩)] w5 fun e w' => e = .returned (.bool false) ∧ w' = w5) := fun w5 v5 h5 => by
    have := active_any B h v5 _ w5 h5
    rw [show decide (0 < (Hs.bs ⟨s.most, s.start, s.en, s.bs.take i ++ s.bs.drop (i + 1)⟩).length) = false by simp only [hlen]; simp [h1]] at this
    exact this
  have HCC : Hid (∀ w5 v5, HpAt B w5 h v5 ⟨s.most, s.start, s.en, s.bs.take i ++ s.bs.drop (i + 1)⟩ → w5.cell? ⟨h, 1, none⟩ = some (.int .u32 s.start) ∧ w5.cell? ⟨h, 2, none⟩ = some (.int .u32 s.en) ∧ w5.frozen? ⟨h, 1, none⟩ = false ∧ w5.frozen? ⟨h, 2, none⟩ = false) := fun w5 v5 h5 => ⟨h5.cells.2.1, h5.cells.2.2.1, h5.cells.2.2.2.2 1, h5.cells.2.2.2.2 2⟩
  clear hlen
  obtain ⟨ao, c, rfl⟩ := own_slice2 hp.2.2
  clear hp hix
  have c1 : ¬ (i : Int) = (s.bs.length : Int) := by omega
  have hwr : IntKind.i64.wrap ((i : Int) + 1) = (i : Int) + 1 := by rw [IntKind.wrap_i64]; omega
  have H1 := hidden8 h1
  clear h1
  have hmf : ∀ (fn : Fn) (first cap : Array Value) (w : World), (Instr.makeFunc fn first cap).run Try.prog w = .ok (.func fn first cap) w := fun _ _ _ _ => rfl
  go_enter Try.func49, Try.ntmps49
  go_wp2_with (first | (go_at_call 68; refine HS.out.mono ?_; rintro e w1 ⟨rfl, hb1⟩; have k3 := HC.out w1 hb1) | (go_at_call 70; refine (HD.out _ hb1).mono ?_; rintro e w4 ⟨ao4, c4, rfl, k8, k9, hp5, hf5⟩; obtain ⟨m1, m2, m3, m4⟩ := HCC.out _ _ hp5; have HP5 := hidden8 hp5; have HF5 := hidden8 hf5; clear hp5 hf5) | (go_at_call 43; refine (HA.out _ _ HP5.out).mono ?_; rintro e w6 ⟨rfl, rfl⟩))
  go_ret
  exact ⟨rfl, _, hp_set2 HP5.out 0 0, fr_set (fr_set HF5.out 1 _) 2 _⟩
theorem free_more (B h : Nat) (v : Value) (s : Hs) (x i : Nat) (w : World) (hp : HpAt B w h v s) (hl : s.bs.length ≤ 4096) (hix : idxB x s.bs = i) (hi : i < s.bs.length) (h1 : s.bs.length ≠ 1) :
    Calls Try.prog 49 #[.pointer (some ⟨h, 0, none⟩), .int .u32 x] w fun e w' => e = .returned (.int .i64 0) ∧ Left B w w' h v ⟨s.most, s.start, s.en, s.bs.take i ++ s.bs.drop (i + 1)⟩ := by
  have hbb : Below w.heap.size w (w.alloc (.cells #[.int .u32 x] 23)) := (Below.refl _ _).alloc (Nat.le_refl _) _
  have hs := search_free B h v s w.heap.size x (w.alloc (.cells #[.int .u32 x] 23)) (hp.later hbb) (by rw [World.cell?_alloc_at _ _ _ _ rfl]; rfl) hl
  rw [hix] at hs
  have HS : Hid (Calls Try.prog 68 #[.pointer (some ⟨h, 0, none⟩), .func (.func 69) #[] #[.pointer (some ⟨w.heap.size, 0, none⟩)]] (w.alloc (.cells #[.int .u32 x] 23)) fun e w' => e = .returned (.int .i64 i) ∧ Below w.heap.size w w') := hs.mono (fun e w' hh => ⟨hh.1, hbb.trans (hh.2.mono (by simp))⟩)
  clear hs hbb
  have HC : Hid (∀ w1, Below w.heap.size w w1 → w1.cell? ⟨h, 3, none⟩ = some v) := fun w1 hb => (hp.later hb).cells.2.2.2.1
  have HD := hidden8 fun w1 hb => delete_hp B h v s w w1 hp hb i hi hl
  have hlen : (s.bs.take i ++ s.bs.drop (i + 1)).length = s.bs.length - 1 := by simp; omega
  have HA : Hid (∀ w5 v5, HpAt B w5 h v5 ⟨s.most, s.start, s.en, s.bs.take i ++ s.bs.drop (i + 1)⟩ → Calls Try.prog 43 #[.pointer (some ⟨h, 0, none⟩)] w5 fun e w' => e = .returned (.bool true) ∧ w' = w5) := fun w5 v5 h5 => by
    have := active_any B h v5 _ w5 h5
    rw [show decide (0 < (Hs.bs ⟨s.most, s.start, s.en, s.bs.take i ++ s.bs.drop (i + 1)⟩).length) = true by simp only [hlen]; simp; omega] at this
    exact this
  have HCC : Hid (∀ w5 v5, HpAt B w5 h v5 ⟨s.most, s.start, s.en, s.bs.take i ++ s.bs.drop (i + 1)⟩ → w5.cell? ⟨h, 1, none⟩ = some (.int .u32 s.start) ∧ w5.cell? ⟨h, 2, none⟩ = some (.int .u32 s.en) ∧ w5.frozen? ⟨h, 1, none⟩ = false ∧ w5.frozen? ⟨h, 2, none⟩ = false) := fun w5 v5 h5 => ⟨h5.cells.2.1, h5.cells.2.2.1, h5.cells.2.2.2.2 1, h5.cells.2.2.2.2 2⟩
  clear hlen
  obtain ⟨ao, c, rfl⟩ := own_slice2 hp.2.2
  clear hp hix
  have c1 : ¬ (i : Int) = (s.bs.length : Int) := by omega
  have hwr : IntKind.i64.wrap ((i : Int) + 1) = (i : Int) + 1 := by rw [IntKind.wrap_i64]; omega
  have H1 := hidden8 h1
  clear h1
  have hmf : ∀ (fn : Fn) (first cap : Array Value) (w : World), (Instr.makeFunc fn first cap).run Try.prog w = .ok (.func fn first cap) w := fun _ _ _ _ => rfl
  go_enter Try.func49, Try.ntmps49
  go_wp2_with (first | (go_at_call 68; refine HS.out.mono ?_; rintro e w1 ⟨rfl, hb1⟩; have k3 := HC.out w1 hb1) | (go_at_call 70; refine (HD.out _ hb1).mono ?_; rintro e w4 ⟨ao4, c4, rfl, k8, k9, hp5, hf5⟩; obtain ⟨m1, m2, m3, m4⟩ := HCC.out _ _ hp5; have HP5 := hidden8 hp5; have HF5 := hidden8 hf5; clear hp5 hf5) | (go_at_call 43; refine (HA.out _ _ HP5.out).mono ?_; rintro e w6 ⟨rfl, rfl⟩))
  go_ret
  exact ⟨rfl, _, HP5.out, HF5.out⟩
theorem Left.same {B : Nat} {w w' : World} {h : Nat} {v : Value} {s : Hs} (hp : HpAt B w h v s) (hb : Below w.heap.size w w') : Left B w w' h v s := ⟨v, hp.later hb, Fr.same w w' h v hb⟩
theorem idxB_le (x : Nat) : ∀ bs : List Bk, idxB x bs ≤ bs.length
  | [] => by simp [idxB]
  | b :: bs => by
    unfold idxB
    split
    · omega
    · have := idxB_le x bs; simp; omega
theorem free_any (B h : Nat) (v : Value) (s : Hs) (x : Nat) (w : World) (hp : HpAt B w h v s) (hl : s.bs.length ≤ 4096) :
    Calls Try.prog 49 #[.pointer (some ⟨h, 0, none⟩), .int .u32 x] w fun e w' => e = .returned (.int .i64 (freeE s x : Nat)) ∧ Left B w w' h v (freeS s x) := by
  have hle := idxB_le x s.bs
  unfold freeE freeS
  by_cases h1 : idxB x s.bs = s.bs.length
  · rw [if_pos h1, if_pos h1]
    exact (free_none B h v s x _ w hp hl rfl h1).mono (fun e w' hh => ⟨hh.1, Left.same hp hh.2⟩)
  · rw [if_neg h1, if_neg h1]
    by_cases h2 : s.bs.length = 1
    · rw [if_pos h2]
      exact free_last B h v s x _ w hp hl rfl (by omega) h2
    · rw [if_neg h2]
      exact free_more B h v s x _ w hp hl rfl (by omega) h2
theorem begR_true {m x : Nat} (h : begR m x = true) : x ≠ 0 ∧ x % 256 = 0 ∧ x ≤ m := by
  simp [begR] at h
  exact ⟨h.1.1, h.1.2, h.2⟩
theorem malloc_any (B h : Nat) (v : Value) (s : Hs) (n x : Nat) (w : World) (hp : HpAt B w h v s) (hB : B ≤ w.heap.size) (ok : OkS s) (hn2 : n < 4294967296) (hx : x < 4294967296) :
    Calls Try.prog 47 #[.pointer (some ⟨h, 0, none⟩), .int .u32 n, .int .u32 x] w fun e w' => e = .returned (.tuple #[.int .u32 (mallocA s n x : Nat), .bool (mallocB s n x)]) ∧ Left B w w' h v (mallocS s n x) := by
  have hm := ok.most
  unfold mallocA mallocB mallocS mallocR
  by_cases hn : n = 0
  · rw [if_pos (.inl hn)]
    exact (malloc_zero B h v s n x w hp hn).mono (fun e w' hh => ⟨hh.1, by rw [hh.2]; exact Left.same hp (Below.refl _ _)⟩)
  · by_cases hl : 4096 ≤ s.bs.length
    · rw [if_pos (.inr hl)]
      exact (malloc_many B h v s n x w hp hn hl).mono (fun e w' hh => ⟨hh.1, by rw [hh.2]; exact Left.same hp (Below.refl _ _)⟩)
    · rw [if_neg (by omega)]
      by_cases h0 : s.bs.length = 0
      · by_cases hb : begR s.most x = false
        · rw [if_pos ⟨h0, hb⟩]
          exact (malloc_beg B h v s n x w hp hn h0 hx hb).mono (fun e w' hh => ⟨hh.1, by rw [hh.2]; exact Left.same hp (Below.refl _ _)⟩)
        · rw [if_neg (fun e => hb e.2)]
          have hb' : begR s.most x = true := by simpa using hb
          have hbs : s.bs = [] := List.eq_nil_of_length_eq_zero h0
          have hch : Chain x x s.bs := by rw [hbs]; exact Nat.le_refl x
          have est : stR s x = x := by simp [stR, h0]
          have een : enR s x = x := by simp [enR, h0]
          have hpe := place_end n x x s.bs hch
          unfold insB
          rw [est, een]
          rcases hpl : place n x s.bs with ⟨i, a⟩
          rw [hpl] at hpe
          simp only
          by_cases c1 : a + n ≤ x
          · rw [if_pos c1]
            exact malloc_new_in B h v s n x i a w hp hB hn h0 hb' (by omega) hm hx (by have := hpe.2; simp only at this; omega) hn2 hch hpl c1
          · rw [if_neg c1]
            by_cases c2 : s.most < up (a + n)
            · rw [if_pos c2]
              exact (malloc_new_over B h v s n x i a w hp hB hn h0 hb' (by omega) hm hx (by have := hpe.2; simp only at this; omega) hn2 hch hpl (by omega) c2).mono (fun e w' hh => ⟨hh.1, Left.same hp hh.2⟩)
            · rw [if_neg c2]
              exact malloc_new_fits B h v s n x i a w hp hB hn h0 hb' (by omega) hm hx (by have := hpe.2; simp only at this; omega) hn2 hch hpl (by omega) (by omega)
      · rw [if_neg (fun e => h0 e.1)]
        have hpos : 0 < s.bs.length := by omega
        obtain ⟨o1, o2, o3, o4, hch⟩ := ok.some hpos
        have est : stR s x = s.start := by simp [stR, h0]
        have een : enR s x = s.en := by simp [enR, h0]
        have hen : s.en < 4294967296 := by omega
        have hpe := place_end n s.en s.start s.bs hch
        unfold insB
        rw [est, een]
        rcases hpl : place n s.start s.bs with ⟨i, a⟩
        rw [hpl] at hpe
        simp only
        by_cases c1 : a + n ≤ s.en
        · rw [if_pos c1]
          exact malloc_old_in B h v s n x i a w hp hB hn hpos (by omega) hm hen (by have := hpe.2; simp only at this; omega) hn2 hch hpl c1
        · rw [if_neg c1]
          by_cases c2 : s.most < up (a + n)
          · rw [if_pos c2]
            exact (malloc_old_over B h v s n x i a w hp hB hn hpos (by omega) hm hen (by have := hpe.2; simp only at this; omega) hn2 hch hpl (by omega) c2).mono (fun e w' hh => ⟨hh.1, Left.same hp hh.2⟩)
          · rw [if_neg c2]
            exact malloc_old_fits B h v s n x i a w hp hB hn hpos (by omega) hm hen (by have := hpe.2; simp only at this; omega) hn2 hch hpl (by omega) (by omega)
end Go.Proofs.Ytmebjbnglndfcaa
