/- Contract of grottolaw09.begin: the small game's memory behind some acts is in order. -/
import Derived.Test.YtmebjbnglndfcaaY9v
namespace Go.Proofs.Ytmebjbnglndfcaa
open Go.RowKit
set_option maxHeartbeats 1000000
set_option maxRecDepth 100000
set_option linter.unusedVariables false

/-- a memory of the small game -/
structure Sm (s : Ms) : Prop where
  ram : s.ram = 256
  en : s.en = 768
  game : s.game = smallL
theorem ldS_sm {s : Ms} (h : Sm s) (zs : List Int) (x : Nat) (bs : List Bk) : Sm (ldS s zs x bs) := by unfold ldS; split <;> exact ⟨h.ram, h.en, h.game⟩
theorem mlS_sm {s : Ms} (h : Sm s) (n : Nat) : Sm (mlS s n) := by unfold mlS; split <;> exact ⟨h.ram, h.en, h.game⟩
theorem frS_sm {s : Ms} (h : Sm s) (x : Nat) : Sm (frS s x) := by unfold frS; split <;> (try split) <;> exact ⟨h.ram, h.en, h.game⟩
/-- behind any call: a memory of the small game in order -/
def Got9 (B : Nat) (w w' : World) (m : Nat) : Prop := ∃ s, Mem B w' m s [] ∧ Sm s ∧ Below B w w'
theorem got_write {B : Nat} {w : World} {m : Nat} {s : Ms} (M : Mem B w m s []) (h : Sm s) (a : Nat) (n : Int) (x : Nat) (ha : a < 4294967296) :
    Calls Try.prog 12 #[.pointer (some ⟨m, 0, none⟩), .int .u32 a, .int .i64 n, .int .u32 x] w fun e w' => (∃ v, e = .returned v) ∧ Got9 B w w' m := by
  by_cases hn : n = 1 ∨ n = 2 ∨ n = 4
  · obtain ⟨z, rfl⟩ : ∃ z : Nat, n = z := ⟨n.toNat, by omega⟩
    cases hc : chgR s.ram s.bytes.length a z with
    | false => exact (M.write_no a z x (by omega) ha hc).mono (fun e w' ⟨h1, h2⟩ => ⟨⟨_, h1⟩, s, by rw [h2]; exact M, h, by rw [h2]; exact Below.refl _ _⟩)
    | true => exact (M.write_ok a z x (by omega) ha hc).mono (fun e w' ⟨h1, h2, h3⟩ => ⟨⟨_, h1⟩, _, h2, ⟨h.ram, h.en, h.game⟩, h3.below⟩)
  · exact (M.write_bad a n x (by omega) (by omega) (by omega)).mono (fun e w' ⟨h1, h2⟩ => ⟨⟨_, h1⟩, s, by rw [h2]; exact M, h, by rw [h2]; exact Below.refl _ _⟩)
theorem got_fill {B : Nat} {w : World} {m : Nat} {s : Ms} (M : Mem B w m s []) (h : Sm s) (a n : Nat) (ha : a < 4294967296) (hn : n < 4294967296) :
    Calls Try.prog 23 #[.pointer (some ⟨m, 0, none⟩), .int .u32 a, .int .u32 n] w fun e w' => (∃ v, e = .returned v) ∧ Got9 B w w' m := by
  by_cases h0 : n = 0
  · subst h0
    exact (fill_zero m a w).mono (fun e w' ⟨h1, h2⟩ => ⟨⟨_, h1⟩, s, by rw [h2]; exact M, h, by rw [h2]; exact Below.refl _ _⟩)
  · cases hc : chgR s.ram s.bytes.length a n with
    | false => exact (M.fill_no a n ha hn h0 hc).mono (fun e w' ⟨h1, h2⟩ => ⟨⟨_, h1⟩, s, by rw [h2]; exact M, h, by rw [h2]; exact Below.refl _ _⟩)
    | true => exact (M.fill_ok a n ha hn h0 hc).mono (fun e w' ⟨h1, h2, h3⟩ => ⟨⟨_, h1⟩, _, h2, ⟨h.ram, h.en, h.game⟩, h3.below⟩)
theorem got_move {B : Nat} {w : World} {m : Nat} {s : Ms} (M : Mem B w m s []) (h : Sm s) (n a b : Nat) (hn : n < 4294967296) (ha : a < 4294967296) (hb : b < 4294967296) :
    Calls Try.prog 22 #[.pointer (some ⟨m, 0, none⟩), .int .u32 n, .int .u32 a, .int .u32 b] w fun e w' => (∃ v, e = .returned v) ∧ Got9 B w w' m := by
  by_cases h0 : n = 0
  · subst h0
    exact (move_zero m a b w).mono (fun e w' ⟨h1, h2⟩ => ⟨⟨_, h1⟩, s, by rw [h2]; exact M, h, by rw [h2]; exact Below.refl _ _⟩)
  · by_cases hc : a + n ≤ s.bytes.length
    · cases hd : chgR s.ram s.bytes.length b n with
      | false => exact (M.move_no n a b ha hb hn h0 hc hd).mono (fun e w' ⟨h1, h2⟩ => ⟨⟨_, h1⟩, s, by rw [h2]; exact M, h, by rw [h2]; exact Below.refl _ _⟩)
      | true => exact (M.move_ok n a b ha hb hn h0 hc hd).mono (fun e w' ⟨h1, h2, h3⟩ => ⟨⟨_, h1⟩, _, h2, ⟨h.ram, h.en, h.game⟩, h3.below⟩)
    · exact (M.move_read n a b ha hn h0 (by omega)).mono (fun e w' ⟨h1, h2⟩ => ⟨⟨_, h1⟩, s, by rw [h2]; exact M, h, by rw [h2]; exact Below.refl _ _⟩)
theorem got_resize {B : Nat} {w : World} {m : Nat} {s : Ms} (M : Mem B w m s []) (h : Sm s) (x : Nat) (hx : x < 4294967296) :
    Calls Try.prog 24 #[.pointer (some ⟨m, 0, none⟩), .int .u32 x] w fun e w' => (∃ v, e = .returned v) ∧ Got9 B w w' m := by
  by_cases hl : 0 < s.hp.bs.length
  · exact (M.resize_act x hl).mono (fun e w' ⟨h1, h2⟩ => ⟨⟨_, h1⟩, s, by rw [h2]; exact M, h, by rw [h2]; exact Below.refl _ _⟩)
  · cases he : endR s.en x with
    | false => exact (M.resize_no x (by omega) hx he).mono (fun e w' ⟨h1, h2⟩ => ⟨⟨_, h1⟩, s, by rw [h2]; exact M, h, by rw [h2]; exact Below.refl _ _⟩)
    | true => exact (M.resize_ok x (by omega) hx he).mono (fun e w' ⟨h1, h2, h3⟩ => ⟨⟨_, h1⟩, _, h2, ⟨h.ram, h.en, h.game⟩, h3.below⟩)
theorem got_malloc {B : Nat} {w : World} {m : Nat} {s : Ms} (M : Mem B w m s []) (h : Sm s) (x : Nat) (hx : x < 4294967296) :
    Calls Try.prog 26 #[.pointer (some ⟨m, 0, none⟩), .int .u32 x] w fun e w' => (∃ v, e = .returned v) ∧ Got9 B w w' m :=
  (M.malloc x hx).mono (fun e w' ⟨h1, h2, h3⟩ => ⟨⟨_, h1⟩, _, h2, mlS_sm h x, h3.below⟩)
theorem got_free {B : Nat} {w : World} {m : Nat} {s : Ms} (M : Mem B w m s []) (h : Sm s) (x : Nat) :
    Calls Try.prog 27 #[.pointer (some ⟨m, 0, none⟩), .int .u32 x] w fun e w' => (∃ v, e = .returned v) ∧ Got9 B w w' m :=
  (M.free' x).mono (fun e w' ⟨h1, h2, h3⟩ => ⟨⟨_, h1⟩, _, h2, frS_sm h x, h3.below⟩)
theorem got_protect {B : Nat} {w : World} {m : Nat} {s : Ms} (M : Mem B w m s []) (h : Sm s) (a n : Nat) (ha : a < 4294967296) (hn : n < 4294967296) :
    Calls Try.prog 19 #[.pointer (some ⟨m, 0, none⟩), .int .u32 a, .int .u32 n] w fun e w' => (∃ v, e = .returned v) ∧ Got9 B w w' m :=
  (M.protect a n ha hn).mono (fun e w' ⟨h1, h2, h3⟩ => ⟨⟨_, h1⟩, _, h2, ⟨h.ram, h.en, h.game⟩, h3.below⟩)
theorem got_restart {B : Nat} {w : World} {m : Nat} {s : Ms} (M : Mem B w m s []) (h : Sm s) :
    Calls Try.prog 20 #[.pointer (some ⟨m, 0, none⟩)] w fun e w' => (∃ v, e = .returned v) ∧ Got9 B w w' m :=
  (M.restart (by rw [h.en])).mono (fun e w' ⟨h1, h2, h3⟩ => ⟨⟨_, h1⟩, _, h2, ⟨h.ram, h.en, h.game⟩, h3.below⟩)
theorem got_load {B : Nat} {w : World} {m : Nat} {s : Ms} (M : Mem B w m s []) (h : Sm s) (a : Option Addr) (L k : Nat) (zs : List Int) (x : Nat) (ao : Option Addr) (n c : Nat) (bs : List Bk) (hz : Reads w a L k zs) (hzo : OkB zs) (hza : ∀ y, a = some y → 0 < L → y.block < B) (hL : L ≤ 281474976710656) (hk : IsBks w ao n c bs) (hx : x < 4294967296) :
    Calls Try.prog 28 #[.pointer (some ⟨m, 0, none⟩), .slice a L k, .int .u32 x, .slice ao n c] w fun e w' => (∃ v, e = .returned v) ∧ Got9 B w w' m :=
  (M.load (by rw [h.ram]; exact Nat.le_refl _) a L k zs x ao n c bs hz hzo hza (by omega) hk.1 hk.2 hx).mono (fun e w' ⟨⟨E, h1⟩, h2, h3⟩ => ⟨⟨_, h1⟩, _, h2, ldS_sm h zs x bs, h3.below⟩)
theorem reads_block {w : World} {a : Option Addr} {L k : Nat} {zs : List Int} (h : Reads w a L k zs) : ∀ y, a = some y → 0 < L → y.block < w.heap.size := fun y e h0 => by
  obtain ⟨g, o, e2, hb⟩ := h.bs h0
  rw [e2] at e
  cases e
  exact World.block_lt_of_cell? _ _ (hb.2 0 h0)

/-- what begin leaves -/
def Beg (w w' : World) (m : Nat) : Prop := ∃ B s, w.heap.size ≤ B ∧ Mem B w' m s [] ∧ Sm s ∧ Below w.heap.size w w'
theorem begin_any (ao : Option Addr) (len cap : Nat) (rs : List Ac) (w : World) (hA : IsActs w ao len cap rs) :
    Calls Try.prog 10 #[.slice ao len cap] w fun e w' => ∃ m, e = .returned (.pointer (some ⟨m, 0, none⟩)) ∧ Beg w w' m := by
  obtain ⟨h1, h2, h3, h4, h5⟩ := hA
  have HN := hidden h1
  have H4 := hidden h4
  have H5 := hidden h5
  have h3' : len ≤ 9223372036854775807 := by unfold maxLen at h3; omega
  have HS := hidden (small_any w)
  clear h1 h4 h5
  go_enter Try.func10, Try.ntmps10
  go_wp2_with fail
  refine HS.out.mono ?_
  rintro e w1 ⟨g, c, rfl, hbs, hc, hb1⟩
  have HNW := hidden (new_small g c w1 hbs hc)
  have HB1 := hidden hb1
  have hBw := hb1.size
  clear hbs hb1 HS
  go_wp2_with fail
  refine HNW.out.mono ?_
  rintro e w2 ⟨m, rfl, M2, hb2⟩
  have HM2 := hidden M2
  have HB2 := hidden (HB1.out.trans (hb2.mono hBw))
  generalize w1.heap.size = B at *
  clear M2 hb2 HNW HB1
  go_wp2_with (go_at_call 13; refine (num9 _ _).mono ?_; rintro e w9 ⟨rfl, e9⟩; rw [e9]; clear e9)
  go_loopw [6] (fun i w' => ∃ (k : Nat) (s : Ms), k ≤ len ∧ i = .int .i64 k ∧ Hid (Mem B w' m s []) ∧ Hid (Sm s) ∧ Hid (Below w.heap.size w w')) (fun i _ => len - (intOf i).toNat)
  case atStart => exact ⟨0, s0, by omega, rfl, HM2.out, ⟨rfl, rfl, rfl⟩, HB2.out⟩
  case round =>
    obtain ⟨k, s, hk, rfl, HM, HSm, HBe⟩ := hrel
    by_cases hlt : k < len
    · have hkl : k < rs.length := by rw [HN.out]; exact hlt
      obtain ⟨bq, off, rfl, hcell⟩ := H4.out (by omega)
      obtain ⟨c0', c1', c2', c3', c4', c5', c6'⟩ := hcell k hkl
      have hok := H5.out rs[k] (List.getElem_mem hkl)
      generalize rs[k] = r at *
      obtain ⟨K, a, b, n, x, ro, rl, rc, rz, lo, ll, lc, lb⟩ := r
      obtain ⟨hK, ha, hb, hn, hx, ⟨hrd, hro, hrl⟩, hbk, hll⟩ := hok
      simp only at hK ha hb hn hx hrd hro hrl hbk hll c0' c1' c2' c3' c4' c5' c6'
      have c0 := cellLater HBe.out c0'
      have c1 := cellLater HBe.out c1'
      have c2 := cellLater HBe.out c2'
      have c3 := cellLater HBe.out c3'
      have c4 := cellLater HBe.out c4'
      have c5 := cellLater HBe.out c5'
      have c6 := cellLater HBe.out c6'
      clear hcell c0' c1' c2' c3' c4' c5' c6'
      have hbel1 : Below w.heap.size w (wr.alloc (.cells #[.int .i64 K, .int .u32 a, .int .u32 b, .int .i64 n, .int .u32 x, .slice ro rl rc, .slice lo ll lc] 51)) := HBe.out.alloc HBe.out.size _
      have hba : Below wr.heap.size wr (wr.alloc (.cells #[.int .i64 K, .int .u32 a, .int .u32 b, .int .i64 n, .int .u32 x, .slice ro rl rc, .slice lo ll lc] 51)) := (Below.refl _ _).alloc (Nat.le_refl _) _
      have M1 := HM.out.later hba
      have hs := HSm.out
      have d1 : (k : Int) < (len : Int) := by omega
      have fin : ∀ w' : World, Got9 B (wr.alloc (.cells #[.int .i64 K, .int .u32 a, .int .u32 b, .int .i64 n, .int .u32 x, .slice ro rl rc, .slice lo ll lc] 51)) w' m → ∃ s', Hid (Mem B w' m s' []) ∧ Hid (Sm s') ∧ Hid (Below w.heap.size w w') := fun w' ⟨s', h1, h2, h3⟩ => ⟨s', h1, h2, hbel1.trans (h3.mono hBw)⟩
      have FIN := hidden fin
      have GOT0 := hidden (show Got9 B (wr.alloc (.cells #[.int .i64 K, .int .u32 a, .int .u32 b, .int .i64 n, .int .u32 x, .slice ro rl rc, .slice lo ll lc] 51)) (wr.alloc (.cells #[.int .i64 K, .int .u32 a, .int .u32 b, .int .i64 n, .int .u32 x, .slice ro rl rc, .slice lo ll lc] 51)) m from ⟨s, M1, hs, Below.refl _ _⟩)

      by_cases q1 : K = 1
      · subst q1
        have HC := hidden (got_write M1 hs a n x ha)
        clear M1 hs hbel1 hba fin HM HSm HBe
        go_wp2_with fail
        refine HC.out.mono ?_
        rintro e w9 ⟨⟨v, rfl⟩, hg⟩
        have hfin := FIN.out _ hg
        clear hg FIN GOT0 HC
        go_wp2
        go_roundw
        case rel => obtain ⟨s', m1, m2, m3⟩ := hfin; exact ⟨k + 1, s', by omega, int_eq (by omega), m1, m2, m3⟩
        case measure => simp [intOf]; omega
      by_cases q2 : K = 2
      · subst q2
        have HC := hidden (got_fill M1 hs a x ha hx)
        clear M1 hs hbel1 hba fin HM HSm HBe
        go_wp2_with fail
        refine HC.out.mono ?_
        rintro e w9 ⟨⟨v, rfl⟩, hg⟩
        have hfin := FIN.out _ hg
        clear hg FIN GOT0 HC
        go_wp2
        go_roundw
        case rel => obtain ⟨s', m1, m2, m3⟩ := hfin; exact ⟨k + 1, s', by omega, int_eq (by omega), m1, m2, m3⟩
        case measure => simp [intOf]; omega
      by_cases q3 : K = 3
      · subst q3
        have HC := hidden (got_move M1 hs x a b hx ha hb)
        clear M1 hs hbel1 hba fin HM HSm HBe
        go_wp2_with fail
        refine HC.out.mono ?_
        rintro e w9 ⟨⟨v, rfl⟩, hg⟩
        have hfin := FIN.out _ hg
        clear hg FIN GOT0 HC
        go_wp2
        go_roundw
        case rel => obtain ⟨s', m1, m2, m3⟩ := hfin; exact ⟨k + 1, s', by omega, int_eq (by omega), m1, m2, m3⟩
        case measure => simp [intOf]; omega
      by_cases q4 : K = 4
      · subst q4
        have HC := hidden (got_resize M1 hs a ha)
        clear M1 hs hbel1 hba fin HM HSm HBe
        go_wp2_with fail
        refine HC.out.mono ?_
        rintro e w9 ⟨⟨v, rfl⟩, hg⟩
        have hfin := FIN.out _ hg
        clear hg FIN GOT0 HC
        go_wp2
        go_roundw
        case rel => obtain ⟨s', m1, m2, m3⟩ := hfin; exact ⟨k + 1, s', by omega, int_eq (by omega), m1, m2, m3⟩
        case measure => simp [intOf]; omega
      by_cases q5 : K = 5
      · subst q5
        have HC := hidden (got_malloc M1 hs x hx)
        clear M1 hs hbel1 hba fin HM HSm HBe
        go_wp2_with fail
        refine HC.out.mono ?_
        rintro e w9 ⟨⟨v, rfl⟩, hg⟩
        have hfin := FIN.out _ hg
        clear hg FIN GOT0 HC
        go_wp2
        go_roundw
        case rel => obtain ⟨s', m1, m2, m3⟩ := hfin; exact ⟨k + 1, s', by omega, int_eq (by omega), m1, m2, m3⟩
        case measure => simp [intOf]; omega
      by_cases q6 : K = 6
      · subst q6
        have HC := hidden (got_free M1 hs a)
        clear M1 hs hbel1 hba fin HM HSm HBe
        go_wp2_with fail
        refine HC.out.mono ?_
        rintro e w9 ⟨⟨v, rfl⟩, hg⟩
        have hfin := FIN.out _ hg
        clear hg FIN GOT0 HC
        go_wp2
        go_roundw
        case rel => obtain ⟨s', m1, m2, m3⟩ := hfin; exact ⟨k + 1, s', by omega, int_eq (by omega), m1, m2, m3⟩
        case measure => simp [intOf]; omega
      by_cases q7 : K = 7
      · subst q7
        have HC := hidden (got_protect M1 hs a x ha hx)
        clear M1 hs hbel1 hba fin HM HSm HBe
        go_wp2_with fail
        refine HC.out.mono ?_
        rintro e w9 ⟨⟨v, rfl⟩, hg⟩
        have hfin := FIN.out _ hg
        clear hg FIN GOT0 HC
        go_wp2
        go_roundw
        case rel => obtain ⟨s', m1, m2, m3⟩ := hfin; exact ⟨k + 1, s', by omega, int_eq (by omega), m1, m2, m3⟩
        case measure => simp [intOf]; omega
      by_cases q8 : K = 8
      · subst q8
        have HC := hidden (got_restart M1 hs)
        clear M1 hs hbel1 hba fin HM HSm HBe
        go_wp2_with fail
        refine HC.out.mono ?_
        rintro e w9 ⟨⟨v, rfl⟩, hg⟩
        have hfin := FIN.out _ hg
        clear hg FIN GOT0 HC
        go_wp2
        go_roundw
        case rel => obtain ⟨s', m1, m2, m3⟩ := hfin; exact ⟨k + 1, s', by omega, int_eq (by omega), m1, m2, m3⟩
        case measure => simp [intOf]; omega
      by_cases q9 : K = 9
      · subst q9
        have HC := hidden (got_load M1 hs ro rl rc rz a lo ll lc lb (hrd.later hbel1) hro (fun y e h0 => Nat.lt_of_lt_of_le (reads_block hrd y e h0) hBw) hrl ⟨hbk.1.below hbel1, hbk.2⟩ ha)
        clear M1 hs hbel1 hba fin HM HSm HBe
        go_wp2_with fail
        refine HC.out.mono ?_
        rintro e w9 ⟨⟨v, rfl⟩, hg⟩
        have hfin := FIN.out _ hg
        clear hg FIN GOT0 HC
        go_wp2
        go_roundw
        case rel => obtain ⟨s', m1, m2, m3⟩ := hfin; exact ⟨k + 1, s', by omega, int_eq (by omega), m1, m2, m3⟩
        case measure => simp [intOf]; omega
      have p1 : (K == 1) = false := by simpa using q1
      have p2 : (K == 2) = false := by simpa using q2
      have p3 : (K == 3) = false := by simpa using q3
      have p4 : (K == 4) = false := by simpa using q4
      have p5 : (K == 5) = false := by simpa using q5
      have p6 : (K == 6) = false := by simpa using q6
      have p7 : (K == 7) = false := by simpa using q7
      have p8 : (K == 8) = false := by simpa using q8
      have p9 : (K == 9) = false := by simpa using q9
      clear q1 q2 q3 q4 q5 q6 q7 q8 q9 M1 hs hbel1 hba fin HM HSm HBe
      have hfin := FIN.out _ GOT0.out
      clear FIN GOT0
      go_wp2
      go_roundw
      case rel => obtain ⟨s', m1, m2, m3⟩ := hfin; exact ⟨k + 1, s', by omega, int_eq (by omega), m1, m2, m3⟩
      case measure => simp [intOf]; omega
    · have d1 : ¬ (k : Int) < (len : Int) := by omega
      go_wp2
      go_ret
      exact ⟨m, rfl, B, s, hBw, HM.out, HSm.out, HBe.out⟩
end Go.Proofs.Ytmebjbnglndfcaa
