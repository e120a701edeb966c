/- Layer 15: a file of bytes read by one byte and by four. -/
import Derived.Test.YtmohnopegacahaaW15f
import Derived.Test.YtmohnopegacahaaV15i
namespace Go.Proofs.Ytmohnopegacahaa
open Go.RowKit
set_option maxHeartbeats 1000000
set_option maxRecDepth 100000
set_option linter.unusedVariables false

/-- a slice of bytes that came in -/
structure BRow (w : World) (a : Option Addr) (len : Nat) (zs : List Int) : Prop where
  ln : zs.length = len
  bd : ∀ z ∈ zs, 0 ≤ z ∧ z ≤ 255
  cells : ∀ i, i < len → ∃ b o, a = some ⟨b, o, none⟩ ∧ w.cell? ⟨b, o + i, none⟩ = some (.int .u8 (zs.getD i 0))
theorem brow_of {w : World} {a : Option Addr} {len cap : Nat} {zs : List Int} (h : IsRow .u8 w a len cap zs) : ∃ xs, BRow w a len xs ∧ Reads w a len cap xs ∧ len ≤ cap := by
  rcases h with ⟨rfl, rfl, rfl, rfl⟩ | ⟨x, rfl, hl, hm, hz, hcell, hwz⟩
  · exact ⟨[], ⟨rfl, (fun c hc => by cases hc), fun i hi => by omega⟩, ⟨rfl, Nat.le_refl _, .inl ⟨rfl, rfl, rfl⟩⟩, Nat.le_refl _⟩
  · refine ⟨zs.take len, ⟨by simp; omega, fun c hc => bounds_u8 (hwz c (List.mem_of_mem_take hc)), fun i hi => ?_⟩, ⟨by simp; omega, hl, .inr ⟨x, rfl, fun i hi => ?_⟩⟩, hl⟩
    · have hc := hcell i (by omega)
      obtain ⟨b, o, spot⟩ := x
      have hspot : spot = none := by simpa [Addr.add] using World.cell?_spot (hcell 0 (by omega))
      subst hspot
      rw [plain_add] at hc
      refine ⟨b, o, rfl, ?_⟩
      rw [hc]
      simp [List.getD_eq_getElem?_getD, hi]
    · rw [hcell i (by omega)]
      simp [List.getD_eq_getElem?_getD, hi]
theorem BRow.later {w w' : World} {a : Option Addr} {len : Nat} {zs : List Int} (h : BRow w a len zs) (hb : Below w.heap.size w w') : BRow w' a len zs :=
  ⟨h.ln, h.bd, fun i hi => by
    obtain ⟨b, o, e, c⟩ := h.cells i hi
    exact ⟨b, o, e, (World.cell?_of_block (hb.block b (cell_lt c))).trans c⟩⟩
def W0 (zs : List Int) (s : Sh) : Prop := ∃ b v, s.S = [] ∧ s.F = [⟨[102], b, v, zs⟩] ∧ s.last = 0 ∧ s.most = 4096 ∧ s.G = []
def W1 (zs : List Int) (s : Sh) : Prop := ∃ k b v, s.S = [⟨k, 1, true, b, 2, false, 0, 0, 0⟩] ∧ s.F = [⟨[102], b, v, zs⟩] ∧ s.last = 1 ∧ s.most = 4096 ∧ s.G = []
def WP (zs : List Int) (p q : Nat) (s : Sh) : Prop := ∃ k1 k2 b v r1 r2, s.S = [⟨k1, 1, true, b, 2, false, p, r1, 0⟩, ⟨k2, 2, true, b, 2, true, q, r2, 0⟩] ∧ s.F = [⟨[102], b, v, zs⟩] ∧ s.last = 2 ∧ s.most = 4096 ∧ s.G = []
theorem w_put {B : Nat} {w w1 : World} (h : Lv B w w1 (fun s => s = newS 4096)) (a : Option Addr) (n c : Nat) (zs : List Int) (hr : Reads w1 a n c zs) (hn : n ≤ 4096) (hbd : ∀ z ∈ zs, 0 ≤ z ∧ z ≤ 255) (hlo : 0 < n → ∀ y : Addr, a = some y → y.block < B) :
    Calls Try.prog 17 #[.pointer (some ⟨B, 0, none⟩), .string ⟨#[102]⟩, .slice a n c] w1 fun e w' => e = .returned (.int .i64 0) ∧ Hid (Lv B w w' (W0 zs)) := by
  obtain ⟨hb, hB, s, h2, ok, hP⟩ := h
  have hP : s = newS 4096 := hP
  subst hP
  have hE : mayPutE (newS 4096) ⟨#[102]⟩ n = 0 := by
    unfold mayPutE
    rw [if_neg (by decide), if_neg (by decide), if_neg (by rintro ⟨_, q⟩; exact absurd q (by decide)), if_neg]
    have e : bbF (newS 4096).F (lookB (newS 4096) ⟨#[102]⟩) = 0 := rfl
    rw [decide_eq_true (show (n : Int) ≤ (newS 4096).most - (bbF (newS 4096).F (lookB (newS 4096) ⟨#[102]⟩) : Nat) by rw [e]; show (n : Int) ≤ 4096 - ((0 : Nat) : Int); omega)]
    decide
  refine (put_good h2 ok (Nat.le_trans hB hb.size) (by decide) ⟨#[102]⟩ a n c zs hr (by omega) hbd hlo hE (by decide)).mono ?_
  rintro e w' ⟨rfl, H⟩
  obtain ⟨b, s2, v', g0, g1, g2, g3⟩ := H.out
  refine ⟨rfl, hidden (Lv.fm hb hB h2 g3 g1 g2 ?_)⟩
  rcases g0 with ⟨_, f, hf, _⟩ | ⟨_, mb, rfl⟩
  · cases hf
  · exact ⟨b, v', rfl, by simp [layS, mkF, newS, updF], rfl, rfl, rfl⟩
theorem w_open1 {B : Nat} {w w1 : World} {zs : List Int} (h : Lv B w w1 (W0 zs)) :
    Calls Try.prog 12 #[.pointer (some ⟨B, 0, none⟩), .string ⟨#[102]⟩, .int .i64 2, .bool false] w1 fun e w' => e = .returned (.tuple #[.int .i64 1, .int .i64 0]) ∧ Hid (Lv B w w' (W1 zs)) := by
  obtain ⟨hb, hB, s, h2, ok, b0, v0, hS, hF, hla, hmo, hG⟩ := h
  have hff : findF s.F [102] = some ⟨[102], b0, v0, zs⟩ := by rw [hF]; rfl
  have hlk : lookB s ⟨#[102]⟩ = some b0 := by unfold lookB; show (findF s.F [102]).map _ = _; rw [hff]; rfl
  have hE : mayOpenE s ⟨#[102]⟩ 2 = 0 := by
    unfold mayOpenE
    rw [if_neg (by decide), if_neg (by decide), if_neg (by rw [hS]; decide), hlk, if_neg (by simp), if_neg]
    unfold takenB
    rw [hS]
    simp
  have := open_good h2 ok (Nat.le_trans hB hb.size) ⟨#[102]⟩ 2 false hE (by rw [hF]; show (1:Nat) ≤ 1000; omega) (by rw [hla]; decide)
  rw [hla] at this
  refine this.mono ?_
  rintro e w' ⟨rfl, H⟩
  obtain ⟨b, s2, k, v', g0, g1, g2, g3⟩ := H.out
  refine ⟨rfl, hidden (Lv.fm hb hB h2 g3 g1 g2 ?_)⟩
  rcases g0 with ⟨rfl, f, hf, he⟩ | ⟨hno, mb, rfl⟩
  · have hf : findF s2.F [102] = some f := hf
    rw [hff] at hf
    injection hf with hf
    subst hf
    have he : b0 = b := he
    subst he
    refine ⟨k, b0, v0, ?_, hF, by show s2.last + 1 = _; rw [hla]; rfl, hmo, hG⟩
    show s2.S ++ [_] = _
    rw [hS, show (opS s2 b0 2).last = 0 from hla]
    rfl
  · have hno : findF s.F [102] = none := hno
    rw [hff] at hno
    cases hno
theorem w_open2 {B : Nat} {w w1 : World} {zs : List Int} (h : Lv B w w1 (W1 zs)) :
    Calls Try.prog 12 #[.pointer (some ⟨B, 0, none⟩), .string ⟨#[102]⟩, .int .i64 2, .bool true] w1 fun e w' => e = .returned (.tuple #[.int .i64 2, .int .i64 0]) ∧ Hid (Lv B w w' (WP zs 0 0)) := by
  obtain ⟨hb, hB, s, h2, ok, k1, b0, v0, hS, hF, hla, hmo, hG⟩ := h
  have hff : findF s.F [102] = some ⟨[102], b0, v0, zs⟩ := by rw [hF]; rfl
  have hlk : lookB s ⟨#[102]⟩ = some b0 := by unfold lookB; show (findF s.F [102]).map _ = _; rw [hff]; rfl
  have hE : mayOpenE s ⟨#[102]⟩ 2 = 0 := by
    unfold mayOpenE
    rw [if_neg (by decide), if_neg (by decide), if_neg (by rw [hS]; show ¬ (64 : Nat) ≤ 1; omega), hlk, if_neg (by simp), if_neg]
    unfold takenB
    rw [hS]
    simp [tkB]
  have := open_good h2 ok (Nat.le_trans hB hb.size) ⟨#[102]⟩ 2 true hE (by rw [hF]; show (1:Nat) ≤ 1000; omega) (by rw [hla]; decide)
  rw [hla] at this
  refine this.mono ?_
  rintro e w' ⟨rfl, H⟩
  obtain ⟨b, s2, k, v', g0, g1, g2, g3⟩ := H.out
  refine ⟨rfl, hidden (Lv.fm hb hB h2 g3 g1 g2 ?_)⟩
  rcases g0 with ⟨rfl, f, hf, he⟩ | ⟨hno, mb, rfl⟩
  · have hf : findF s2.F [102] = some f := hf
    rw [hff] at hf
    injection hf with hf
    subst hf
    have he : b0 = b := he
    subst he
    refine ⟨k1, k, b0, v0, 0, 0, ?_, hF, by show s2.last + 1 = _; rw [hla]; rfl, hmo, hG⟩
    show s2.S ++ [_] = _
    rw [hS, show (opS s2 b0 2).last = 1 from hla]
    rfl
  · have hno : findF s.F [102] = none := hno
    rw [hff] at hno
    cases hno
theorem WP.at_ {zs : List Int} {p q : Nat} {s : Sh} (h : WP zs p q s) : ∃ (h0 : 0 < s.S.length) (h1 : 1 < s.S.length), (s.S[0].n = 1 ∧ s.S[0].f = true ∧ s.S[0].md = 2 ∧ s.S[0].wd = false ∧ s.S[0].pl = p ∧ zsOf s s.S[0] = zs) ∧ (s.S[1].n = 2 ∧ s.S[1].f = true ∧ s.S[1].md = 2 ∧ s.S[1].wd = true ∧ s.S[1].pl = q ∧ zsOf s s.S[1] = zs) := by
  obtain ⟨k1, k2, b, v, r1, r2, hS, hF, hl, hm, hG⟩ := h
  have h0 : 0 < s.S.length := by rw [hS]; simp
  have h1 : 1 < s.S.length := by rw [hS]; simp
  have hd0 : s.S[0] = ⟨k1, 1, true, b, 2, false, p, r1, 0⟩ := by simp only [hS]; rfl
  have hd1 : s.S[1] = ⟨k2, 2, true, b, 2, true, q, r2, 0⟩ := by simp only [hS]; rfl
  refine ⟨h0, h1, ⟨by rw [hd0], by rw [hd0], by rw [hd0], by rw [hd0], by rw [hd0], ?_⟩, ⟨by rw [hd1], by rw [hd1], by rw [hd1], by rw [hd1], by rw [hd1], ?_⟩⟩
  · rw [hd0]; unfold zsOf; rw [if_pos rfl, hF]; unfold grF; simp
  · rw [hd1]; unfold zsOf; rw [if_pos rfl, hF]; unfold grF; simp
theorem WP.put0 {zs : List Int} {p q : Nat} {s : Sh} (h : WP zs p q s) (h0 : 0 < s.S.length) : WP zs (p + 1) q (putS s 0 (rdD s.S[0] 1)) := by
  obtain ⟨k1, k2, b, v, r1, r2, hS, hF, hl, hm, hG⟩ := h
  have hd0 : s.S[0] = ⟨k1, 1, true, b, 2, false, p, r1, 0⟩ := by simp only [hS]; rfl
  refine ⟨k1, k2, b, v, up32 r1, r2, ?_, hF, hl, hm, hG⟩
  show s.S.set 0 _ = _
  rw [hd0, hS]
  rfl
theorem WP.put1 {zs : List Int} {p q : Nat} {s : Sh} (h : WP zs p q s) (h1 : 1 < s.S.length) : WP zs p (q + 1) (putS s 1 (rdD s.S[1] 1)) := by
  obtain ⟨k1, k2, b, v, r1, r2, hS, hF, hl, hm, hG⟩ := h
  have hd1 : s.S[1] = ⟨k2, 2, true, b, 2, true, q, r2, 0⟩ := by simp only [hS]; rfl
  refine ⟨k1, k2, b, v, r1, up32 r2, ?_, hF, hl, hm, hG⟩
  show s.S.set 1 _ = _
  rw [hd1, hS]
  rfl
theorem w_tell1 {B : Nat} {w w1 : World} {zs : List Int} {p q : Nat} (h : Lv B w w1 (WP zs p q)) :
    Calls Try.prog 15 #[.pointer (some ⟨B, 0, none⟩), .int .i64 1] w1 fun e w' => e = .returned (.tuple #[.int .i64 p, .int .i64 zs.length, .int .i64 0]) ∧ Hid (Lv B w w' (WP zs p q)) := by
  have hh := h
  obtain ⟨hb, hB, s, h2, ok, hP⟩ := h
  obtain ⟨h0, h1, ⟨e1, e2, e3, e4, e5, e6⟩, _⟩ := hP.at_
  have := tell_some h2 ok 0 h0 1 e1
  rw [e2, e4, e5, e6, show gsz true false zs = zs.length from Nat.div_one _] at this
  exact this.mono (fun e w' hw => ⟨hw.1, hidden (hh.later hw.2)⟩)
theorem w_tell2 {B : Nat} {w w1 : World} {zs : List Int} {p q : Nat} (h : Lv B w w1 (WP zs p q)) :
    Calls Try.prog 15 #[.pointer (some ⟨B, 0, none⟩), .int .i64 2] w1 fun e w' => e = .returned (.tuple #[.int .i64 q, .int .i64 (zs.length / 4 : Nat), .int .i64 0]) ∧ Hid (Lv B w w' (WP zs p q)) := by
  have hh := h
  obtain ⟨hb, hB, s, h2, ok, hP⟩ := h
  obtain ⟨h0, h1, _, ⟨e1, e2, e3, e4, e5, e6⟩⟩ := hP.at_
  have := tell_some h2 ok 1 h1 2 e1
  rw [e2, e4, e5, e6, show gsz true true zs = zs.length / 4 from rfl] at this
  exact this.mono (fun e w' hw => ⟨hw.1, hidden (hh.later hw.2)⟩)
theorem w_read1 {B : Nat} {w w1 : World} {zs : List Int} {p q : Nat} (h : Lv B w w1 (WP zs p q)) (hl : p < zs.length) :
    Calls Try.prog 16 #[.pointer (some ⟨B, 0, none⟩), .int .i64 1] w1 fun e w' => e = .returned (.tuple #[.int .u32 (zs.getD p 0), .bool true, .int .i64 0]) ∧ Hid (Lv B w w' (WP zs (p + 1) q)) := by
  obtain ⟨hb, hB, s, h2, ok, hP⟩ := h
  obtain ⟨h0, h1, ⟨e1, e2, e3, e4, e5, e6⟩, _⟩ := hP.at_
  have := read_some h2 ok 0 h0 1 e1 (by rw [e3]; decide) (by rw [e2, e4, e5, e6, show gsz true false zs = zs.length from Nat.div_one _]; exact hl)
  rw [e2, e4, e5, e6, show gch true false zs p = zs.getD p 0 by show zs.getD (p * 1) 0 = _; rw [Nat.mul_one]] at this
  refine this.mono ?_
  rintro e w' ⟨rfl, H⟩
  exact ⟨rfl, hidden (Lv.fm hb hB h2 (H.out.ts h0 rfl) H.out.1 (putS_ok ok 0 h0 _ rfl rfl rfl rfl) (hP.put0 h0))⟩
theorem w_end1 {B : Nat} {w w1 : World} {zs : List Int} {p q : Nat} (h : Lv B w w1 (WP zs p q)) (hl : zs.length ≤ p) :
    Calls Try.prog 16 #[.pointer (some ⟨B, 0, none⟩), .int .i64 1] w1 fun e w' => e = .returned (.tuple #[.int .u32 0, .bool false, .int .i64 0]) ∧ Hid (Lv B w w' (WP zs p q)) := by
  have hh := h
  obtain ⟨hb, hB, s, h2, ok, hP⟩ := h
  obtain ⟨h0, h1, ⟨e1, e2, e3, e4, e5, e6⟩, _⟩ := hP.at_
  exact (read_end h2 ok 0 h0 1 e1 (by rw [e3]; decide) (by rw [e2, e4, e5, e6, show gsz true false zs = zs.length from Nat.div_one _]; exact hl)).mono (fun e w' hw => ⟨hw.1, hidden (hh.later hw.2)⟩)
theorem w_read2 {B : Nat} {w w1 : World} {zs : List Int} {p q : Nat} (h : Lv B w w1 (WP zs p q)) (hl : q < zs.length / 4) :
    Calls Try.prog 16 #[.pointer (some ⟨B, 0, none⟩), .int .i64 2] w1 fun e w' => e = .returned (.tuple #[.int .u32 (beV zs (q * 4) 4), .bool true, .int .i64 0]) ∧ Hid (Lv B w w' (WP zs p (q + 1))) := by
  obtain ⟨hb, hB, s, h2, ok, hP⟩ := h
  obtain ⟨h0, h1, _, ⟨e1, e2, e3, e4, e5, e6⟩⟩ := hP.at_
  have := read_some h2 ok 1 h1 2 e1 (by rw [e3]; decide) (by rw [e2, e4, e5, e6]; exact hl)
  rw [e2, e4, e5, e6, show gch true true zs q = beV zs (q * 4) 4 from rfl] at this
  refine this.mono ?_
  rintro e w' ⟨rfl, H⟩
  exact ⟨rfl, hidden (Lv.fm hb hB h2 (H.out.ts h1 rfl) H.out.1 (putS_ok ok 1 h1 _ rfl rfl rfl rfl) (hP.put1 h1))⟩
theorem w_end2 {B : Nat} {w w1 : World} {zs : List Int} {p q : Nat} (h : Lv B w w1 (WP zs p q)) (hl : zs.length / 4 ≤ q) :
    Calls Try.prog 16 #[.pointer (some ⟨B, 0, none⟩), .int .i64 2] w1 fun e w' => e = .returned (.tuple #[.int .u32 0, .bool false, .int .i64 0]) ∧ Hid (Lv B w w' (WP zs p q)) := by
  have hh := h
  obtain ⟨hb, hB, s, h2, ok, hP⟩ := h
  obtain ⟨h0, h1, _, ⟨e1, e2, e3, e4, e5, e6⟩⟩ := hP.at_
  exact (read_end h2 ok 1 h1 2 e1 (by rw [e3]; decide) (by rw [e2, e4, e5, e6]; exact hl)).mono (fun e w' hw => ⟨hw.1, hidden (hh.later hw.2)⟩)
theorem WP.look {zs : List Int} {p q : Nat} {s : Sh} (h : WP zs p q s) (md : Int) (hm : md ≠ 2) : ∃ b, lookB s ⟨#[102]⟩ = some b ∧ takenB s (some b) md = true ∧ s.S.length = 2 := by
  obtain ⟨k1, k2, b, v, r1, r2, hS, hF, hl, hmo, hG⟩ := h
  refine ⟨b, ?_, ?_, by rw [hS]; rfl⟩
  · unfold lookB
    show (findF s.F [102]).map _ = _
    rw [hF]; rfl
  · unfold takenB
    rw [hS]
    simp [tkB, lieB, hm]
theorem w_there {B : Nat} {w w1 : World} {zs : List Int} {p q : Nat} (h : Lv B w w1 (WP zs p q)) :
    Calls Try.prog 12 #[.pointer (some ⟨B, 0, none⟩), .string ⟨#[102]⟩, .int .i64 5, .bool false] w1 fun e w' => e = .returned (.tuple #[.int .i64 0, .int .i64 6]) ∧ Hid (Lv B w w' (WP zs p q)) := by
  have hh := h
  obtain ⟨hb, hB, s, h2, ok, hP⟩ := h
  obtain ⟨b, l1, l2, l3⟩ := hP.look 5 (by decide)
  have hE : mayOpenE s ⟨#[102]⟩ 5 = 6 := by
    unfold mayOpenE
    rw [if_neg (by decide), if_neg (by decide), if_neg (by rw [l3]; decide), l1, if_neg (by simp), if_pos l2]
  exact (open_bad h2 ok ⟨#[102]⟩ (by unfold maxLen; decide) 5 false 6 hE (by decide)).mono (fun e w' hw => ⟨hw.1, hidden (hh.later hw.2)⟩)
theorem w_del {B : Nat} {w w1 : World} {zs : List Int} {p q : Nat} (h : Lv B w w1 (WP zs p q)) :
    Calls Try.prog 18 #[.pointer (some ⟨B, 0, none⟩), .string ⟨#[102]⟩] w1 fun e w' => e = .returned (.bool false) ∧ Hid (Below B w w') := by
  obtain ⟨hb, hB, s, h2, ok, hP⟩ := h
  obtain ⟨b, l1, l2, l3⟩ := hP.look 1 (by decide)
  have hd : delB s ⟨#[102]⟩ = false := by unfold delB; rw [l1, l2]; simp
  exact (delete_bad h2 ok ⟨#[102]⟩ (by unfold maxLen; decide) hd).mono (fun e w' hw => ⟨hw.1, hidden (hb.trans (hw.2.mono (Nat.le_trans hB hb.size)))⟩)
end Go.Proofs.Ytmohnopegacahaa
