/- Layer 15, the program: the page's example, call by call. -/
import Derived.Test.YtmohnopegacahaaS15z
import Derived.Test.YtmohnopegacahaaS15m
namespace Go.Proofs.Ytmohnopegacahaa
open Go.RowKit
set_option maxHeartbeats 1000000
set_option maxRecDepth 100000
set_option linter.unusedVariables false

/-- the example's shelf lies here, and is like that; nothing below B is changed -/
def Lv (B : Nat) (w w' : World) (P : Sh → Prop) : Prop := Below B w w' ∧ B ≤ w.heap.size ∧ ∃ s, ShAt B w' B s ∧ OkS s ∧ P s
theorem Lv.later {B : Nat} {w w1 w2 : World} {P : Sh → Prop} (h : Lv B w w1 P) (hb : Below w1.heap.size w1 w2) : Lv B w w2 P := by
  obtain ⟨h1, hB, s, h2, h3⟩ := h
  exact ⟨h1.trans (hb.mono (Nat.le_trans hB h1.size)), hB, s, h2.later hb, h3⟩
theorem Lv.fm {B : Nat} {w w1 w2 : World} {s s' : Sh} {P : Sh → Prop} (hb : Below B w w1) (hB : B ≤ w.heap.size) (h : ShAt B w1 B s) (f : Fm w1 w2 (TS B s) (TS B s')) (h' : ShAt B w2 B s') (ok : OkS s') (hP : P s') : Lv B w w2 P :=
  ⟨hb.trans (f.below (Nat.le_trans hB hb.size) (fun k e => (h.low k e).1)), hB, s', h', ok, hP⟩
def P0 (s : Sh) : Prop := s = newS 10
def P1 (s : Sh) : Prop := ∃ k b v, s.S = [⟨k, 1, true, b, 1, false, 0, 0, 0⟩] ∧ s.F = [⟨[97], b, v, []⟩] ∧ s.last = 1 ∧ s.most = 10 ∧ s.G = []
def P2 (s : Sh) : Prop := ∃ k b v, s.S = [⟨k, 1, true, b, 1, false, 2, 0, 2⟩] ∧ s.F = [⟨[97], b, v, [72, 63]⟩] ∧ s.last = 1 ∧ s.most = 10 ∧ s.G = []
def P3 (s : Sh) : Prop := ∃ b v, s.S = [] ∧ s.F = [⟨[97], b, v, [72, 63]⟩] ∧ s.last = 1 ∧ s.most = 10 ∧ s.G = []
def P4 (s : Sh) : Prop := ∃ k g v f, s.S = [⟨k, 2, false, g, 1, false, 0, 0, 0⟩] ∧ s.G = [⟨g, v, [0, 0]⟩] ∧ s.F = [f] ∧ f.zs.length = 2
def P5 (s : Sh) : Prop := ∃ k g v, s.S = [⟨k, 2, false, g, 1, false, 2, 0, 3⟩] ∧ s.G = [⟨g, v, [1, 2]⟩]
theorem lv_new (w : World) : Calls Try.prog 9 #[.int .i64 10] w fun e w' => e = .returned (.tuple #[.pointer (some ⟨w.heap.size, 0, none⟩), .int .i64 0]) ∧ Hid (Lv w.heap.size w w' P0) :=
  (new_any 10 w (by decide)).mono (fun e w' hh => ⟨hh.1, hidden ⟨hh.2.out.2, Nat.le_refl _, _, hh.2.out.1, new_ok 10 (by decide), rfl⟩⟩)
theorem lv_open {B : Nat} {w w1 : World} (h : Lv B w w1 P0) : Calls Try.prog 12 #[.pointer (some ⟨B, 0, none⟩), .string ⟨#[97]⟩, .int .i64 1, .bool false] w1 fun e w' => e = .returned (.tuple #[.int .i64 1, .int .i64 0]) ∧ Hid (Lv B w w' P1) := by
  obtain ⟨hb, hB, s, h2, ok, hP⟩ := h
  have hP : s = newS 10 := hP
  subst hP
  refine (open_new h2 ok (Nat.le_trans hB hb.size) rfl rfl rfl (by decide) ⟨#[97]⟩ (by decide) false).mono ?_
  rintro e w' ⟨rfl, H⟩
  obtain ⟨fb, mb, k, v', g1, g2, g3⟩ := H.out
  exact ⟨rfl, hidden (Lv.fm hb hB h2 g3 g1 g2 ⟨k, fb, .slice none 0 0, rfl, rfl, rfl, rfl, rfl⟩)⟩
theorem fresh_no {B : Nat} {w : World} {s : Sh} (h : ShAt B w B s) (k : Nat) (hk : w.heap.size ≤ k) : ¬ TS B s k := fun e => by have := (h.low k e).2; omega
theorem vrow2 (w : World) (x y : Nat) (hx : x < 4294967296) (hy : y < 4294967296) : VRow (w.alloc (.cells #[.int .u32 (x : Int), .int .u32 (y : Int)] 32)) (some ⟨w.heap.size, 0, none⟩) 2 [x, y] := by
  have hh := heap_alloc_new w (.cells #[.int .u32 (x : Int), .int .u32 (y : Int)] 32)
  refine ⟨rfl, fun z hz => ?_, fun i hi => ⟨w.heap.size, 0, rfl, ?_⟩⟩
  · simp at hz
    rcases hz with rfl | rfl <;> assumption
  · unfold World.cell?
    rcases (show i = 0 ∨ i = 1 by omega) with rfl | rfl
    · rw [hh]; rfl
    · rw [hh]; rfl
theorem vrow3 (w : World) (x y t : Nat) (hx : x < 4294967296) (hy : y < 4294967296) (ht : t < 4294967296) : VRow (w.alloc (.cells #[.int .u32 (x : Int), .int .u32 (y : Int), .int .u32 (t : Int)] 32)) (some ⟨w.heap.size, 0, none⟩) 3 [x, y, t] := by
  have hh := heap_alloc_new w (.cells #[.int .u32 (x : Int), .int .u32 (y : Int), .int .u32 (t : Int)] 32)
  refine ⟨rfl, fun z hz => ?_, fun i hi => ⟨w.heap.size, 0, rfl, ?_⟩⟩
  · simp at hz
    rcases hz with rfl | rfl | rfl <;> assumption
  · unfold World.cell?
    rcases (show i = 0 ∨ i = 1 ∨ i = 2 by omega) with rfl | rfl | rfl
    · rw [hh]; rfl
    · rw [hh]; rfl
    · rw [hh]; rfl
theorem wr_ex1 : wrAll true false ⟨0, 0, []⟩ [72, 300] = ⟨2, 2, [72, 63]⟩ := by rfl
theorem wr_ex2 : wrAll false false ⟨0, 0, [0, 0]⟩ [1, 2, 3] = ⟨2, 3, [1, 2]⟩ := by rfl
theorem lv_write {B : Nat} {w w1 : World} (h : Lv B w w1 P1) : Calls Try.prog 14 #[.pointer (some ⟨B, 0, none⟩), .int .i64 1, .slice (some ⟨w1.heap.size, 0, none⟩) 2 2] (w1.alloc (.cells #[.int .u32 72, .int .u32 300] 32)) fun e w' => e = .returned (.int .i64 0) ∧ Hid (Lv B w w' P2) := by
  obtain ⟨hb, hB, s, h2, ok, k, b, v, hS, hF, hl, hm, hG⟩ := h
  have ha : Below w1.heap.size w1 (w1.alloc (.cells #[.int .u32 72, .int .u32 300] 32)) := (Below.refl _ _).alloc (Nat.le_refl _) _
  have hvr := vrow2 w1 72 300 (by decide) (by decide)
  have h3 := h2.later ha
  have hb3 : Below B w (w1.alloc (.cells #[.int .u32 72, .int .u32 300] 32)) := hb.trans (ha.mono (Nat.le_trans hB hb.size))
  have hi : 0 < s.S.length := by rw [hS]; simp
  have hd : s.S[0] = ⟨k, 1, true, b, 1, false, 0, 0, 0⟩ := by simp only [hS]; rfl
  have hz : zsOf s s.S[0] = [] := by rw [hd]; unfold zsOf; rw [if_pos rfl, hF]; unfold grF; simp
  have hbb : bbF s.F (some b) = 0 := by rw [hF]; simp [bbF]
  refine (write_any h3 ok (Nat.le_trans hB hb3.size) (by rw [hF]; simp [sumF]) 0 hi 1 (by rw [hd]) (by rw [hd]; rfl) (by rw [hd]; exact Nat.zero_le _) (some ⟨w1.heap.size, 0, none⟩) [72, 300] 2 hvr (fun y e => by cases e; exact fresh_no h2 _ (Nat.le_refl _)) (fun _ => by
    unfold roomB
    rw [hz, hd, hbb, hm]
    rfl) (by rw [hd]; show 0 + 2 ≤ 900000; omega)).mono ?_
  rintro e w' ⟨rfl, H⟩
  obtain ⟨s', v', g1, g2, g3, g4, g5, e1, e2, e3, e4, e5, e6, e7⟩ := H.out
  rw [hz] at e6 e1
  rw [hd] at e6 e1
  rw [wr_ex1] at e6 e1
  refine ⟨rfl, hidden (Lv.fm hb3 hB h3 g3 g1 g2 ⟨k, b, v', ?_, ?_, by rw [e4, hl], by rw [e2, hm], by rw [(e6 rfl).2, hG]⟩)⟩
  · rw [e1, hS]; rfl
  · rw [(e6 rfl).1, hF]; simp [updF]
theorem lv_tell {B : Nat} {w w1 : World} (h : Lv B w w1 P2) : Calls Try.prog 15 #[.pointer (some ⟨B, 0, none⟩), .int .i64 1] w1 fun e w' => e = .returned (.tuple #[.int .i64 2, .int .i64 2, .int .i64 0]) ∧ Hid (Lv B w w' P2) := by
  have h0 := h
  obtain ⟨hb, hB, s, h2, ok, k, b, v, hS, hF, hl, hm, hG⟩ := h
  have hi : 0 < s.S.length := by rw [hS]; simp
  have hd : s.S[0] = ⟨k, 1, true, b, 1, false, 2, 0, 2⟩ := by simp only [hS]; rfl
  have hz : zsOf s s.S[0] = [72, 63] := by rw [hd]; unfold zsOf; rw [if_pos rfl, hF]; unfold grF; simp
  have := tell_some h2 ok 0 hi 1 (by rw [hd])
  rw [hz, hd] at this
  exact this.mono (fun e w' hh => ⟨by rw [hh.1, show gsz true false [72, 63] = 2 by simp [gsz, wdN]]; rfl, hidden (h0.later hh.2)⟩)
theorem lv_close1 {B : Nat} {w w1 : World} (h : Lv B w w1 P2) : Calls Try.prog 13 #[.pointer (some ⟨B, 0, none⟩), .int .i64 1] w1 fun e w' => e = .returned (.tuple #[.int .u32 0, .int .u32 2, .slice none 0 0, .int .i64 0]) ∧ Hid (Lv B w w' P3) := by
  obtain ⟨hb, hB, s, h2, ok, k, b, v, hS, hF, hl, hm, hG⟩ := h
  have hi : 0 < s.S.length := by rw [hS]; simp
  have hd : s.S[0] = ⟨k, 1, true, b, 1, false, 2, 0, 2⟩ := by simp only [hS]; rfl
  have := close_some h2 ok 0 hi 1 (by rw [hd]) (.slice none 0 0) (.inl ⟨by rw [hd], rfl⟩)
  rw [hd] at this
  refine this.mono ?_
  rintro e w' ⟨rfl, H⟩
  obtain ⟨v', g1, g2⟩ := H.out
  have hS3 : (closeS s 0 v').S = [] := by show s.S.eraseIdx 0 = []; rw [hS]; rfl
  refine ⟨rfl, hidden (Lv.fm hb hB h2 g2 g1 ?_ ⟨b, v, hS3, hF, hl, hm, hG⟩)⟩
  refine ⟨by rw [hS3]; exact List.Pairwise.nil, by rw [hS3]; exact ⟨fun i j _ hj _ => by simp at hj⟩, by rw [hS3]; simp, ok.fk, ok.gk, (by intro d hd2; rw [hS3] at hd2; cases hd2), ok.last0, (by intro d hd2; rw [hS3] at hd2; cases hd2), ok.most0⟩
/-- .. and a row of bytes lies beside it -/
def Lv2 (B : Nat) (w w' : World) (P : Sh → Prop) (v : Value) : Prop := Below B w w' ∧ B ≤ w.heap.size ∧ ∃ s, ShAt B w' B s ∧ OkS s ∧ P s ∧ w'.ownsRow 0 5 1 v 2 (bytesV [72, 63]) ∧ ∀ k, v.ownBlock = some k → ¬ TS B s k
theorem keep_row {B : Nat} {w1 w2 : World} {s s' : Sh} {v : Value} (ho : w1.ownsRow 0 5 1 v 2 (bytesV [72, 63])) (hn : ∀ k, v.ownBlock = some k → ¬ TS B s k) (f : Fm w1 w2 (TS B s) (TS B s')) : w2.ownsRow 0 5 1 v 2 (bytesV [72, 63]) ∧ ∀ k, v.ownBlock = some k → ¬ TS B s' k :=
  ⟨own_fm f ho hn, fun k e q => by
    rcases f.row k q with x | x
    · exact hn k e x
    · have := (row_lt ho e).2; omega⟩
theorem Lv2.fm {B : Nat} {w w1 w2 : World} {s s' : Sh} {P : Sh → Prop} {v : Value} (hb : Below B w w1) (hB : B ≤ w.heap.size) (h : ShAt B w1 B s) (ho : w1.ownsRow 0 5 1 v 2 (bytesV [72, 63])) (hn : ∀ k, v.ownBlock = some k → ¬ TS B s k) (f : Fm w1 w2 (TS B s) (TS B s')) (h' : ShAt B w2 B s') (ok : OkS s') (hP : P s') : Lv2 B w w2 P v :=
  ⟨hb.trans (f.below (Nat.le_trans hB hb.size) (fun k e => (h.low k e).1)), hB, s', h', ok, hP, keep_row ho hn f⟩
theorem lv_get {B : Nat} {w w1 : World} (h : Lv B w w1 P3) : Calls Try.prog 20 #[.pointer (some ⟨B, 0, none⟩), .string ⟨#[97]⟩] w1 fun e w' => ∃ a' c', e = .returned (.tuple #[.slice a' 2 c', .bool true]) ∧ Hid (Lv2 B w w' P3 (.slice a' 2 c')) := by
  obtain ⟨hb, hB, s, h2, ok, b, v, hS, hF, hl, hm, hG⟩ := h
  refine (get_some (f := ⟨[97], b, v, [72, 63]⟩) h2 ⟨#[97]⟩ (by decide) (by rw [hF]; rfl) (by show 2 ≤ 2000000; omega)).mono ?_
  rintro e w' ⟨a', c', rfl, H⟩
  exact ⟨a', c', rfl, hidden ⟨hb.trans (H.out.2.mono (Nat.le_trans hB hb.size)), hB, s, h2.later H.out.2, ok, ⟨b, v, hS, hF, hl, hm, hG⟩, own_base H.out.1 (Nat.zero_le _), fun k e q => by have h1 := (row_lt H.out.1 e).1; have h3 := (h2.low k q).2; omega⟩⟩
theorem lv_buffer {B : Nat} {w w1 : World} {v0 : Value} (h : Lv2 B w w1 P3 v0) : Calls Try.prog 21 #[.pointer (some ⟨B, 0, none⟩), .slice (some ⟨w1.heap.size, 0, none⟩) 2 2, .int .i64 1, .bool false] (w1.alloc (.cells #[.int .u32 0, .int .u32 0] 32)) fun e w' => e = .returned (.tuple #[.int .i64 2, .int .i64 0]) ∧ Hid (Lv2 B w w' P4 v0) := by
  obtain ⟨hb, hB, s, h2, ok, ⟨b, v, hS, hF, hl, hm, hG⟩, ho, hno⟩ := h
  have ha : Below w1.heap.size w1 (w1.alloc (.cells #[.int .u32 0, .int .u32 0] 32)) := (Below.refl _ _).alloc (Nat.le_refl _) _
  have h3 := h2.later ha
  have hb3 : Below B w (w1.alloc (.cells #[.int .u32 0, .int .u32 0] 32)) := hb.trans (ha.mono (Nat.le_trans hB hb.size))
  have := buffer_any h3 ok (Nat.le_trans hB hb3.size) (by rw [hS]; simp) (by rw [hl]; decide) (some ⟨w1.heap.size, 0, none⟩) [0, 0] 2 (vrow2 w1 0 0 (by decide) (by decide)) (by decide) 1 false (.inl rfl)
  rw [hl] at this
  refine this.mono ?_
  rintro e w' ⟨rfl, H⟩
  obtain ⟨g, vg, k, v', g1, g2, g3⟩ := H.out
  refine ⟨rfl, hidden (Lv2.fm hb3 hB h3 (own_later ho ha) hno g3 g1 g2 ⟨k, g, vg, ⟨[97], b, v, [72, 63]⟩, ?_, ?_, hF, rfl⟩)⟩
  · show s.S ++ [_] = _
    rw [hS, hl]
    rfl
  · show s.G ++ [_] = _
    rw [hG]
    rfl
theorem lv_write2 {B : Nat} {w w1 : World} {v0 : Value} (h : Lv2 B w w1 P4 v0) : Calls Try.prog 14 #[.pointer (some ⟨B, 0, none⟩), .int .i64 2, .slice (some ⟨w1.heap.size, 0, none⟩) 3 3] (w1.alloc (.cells #[.int .u32 1, .int .u32 2, .int .u32 3] 32)) fun e w' => e = .returned (.int .i64 0) ∧ Hid (Lv2 B w w' P5 v0) := by
  obtain ⟨hb, hB, s, h2, ok, ⟨k, g, v, f, hS, hG, hF, hfl⟩, ho, hno⟩ := h
  have ha : Below w1.heap.size w1 (w1.alloc (.cells #[.int .u32 1, .int .u32 2, .int .u32 3] 32)) := (Below.refl _ _).alloc (Nat.le_refl _) _
  have hvr := vrow3 w1 1 2 3 (by decide) (by decide) (by decide)
  have h3 := h2.later ha
  have hb3 : Below B w (w1.alloc (.cells #[.int .u32 1, .int .u32 2, .int .u32 3] 32)) := hb.trans (ha.mono (Nat.le_trans hB hb.size))
  have hi : 0 < s.S.length := by rw [hS]; simp
  have hd : s.S[0] = ⟨k, 2, false, g, 1, false, 0, 0, 0⟩ := by simp only [hS]; rfl
  have hz : zsOf s s.S[0] = [0, 0] := by rw [hd]; unfold zsOf; rw [if_neg (by simp), hG]; unfold grG; simp
  refine (write_any h3 ok (Nat.le_trans hB hb3.size) (by rw [hF]; simp [sumF, hfl]) 0 hi 2 (by rw [hd]) (by rw [hd]; rfl) (by rw [hd]; exact Nat.zero_le _) (some ⟨w1.heap.size, 0, none⟩) [1, 2, 3] 3 hvr (fun y e => by cases e; exact fresh_no h2 _ (Nat.le_refl _)) (fun q => by rw [hd] at q; cases q) (by rw [hd]; show 0 + 3 ≤ 900000; omega)).mono ?_
  rintro e w' ⟨rfl, H⟩
  obtain ⟨s', v', g1, g2, g3, g4, g5, e1, e2, e3, e4, e5, e6, e7⟩ := H.out
  rw [hz] at e7 e1
  rw [hd] at e7 e1
  rw [wr_ex2] at e7 e1
  refine ⟨rfl, hidden (Lv2.fm hb3 hB h3 (own_later ho ha) hno g3 g1 g2 ⟨k, g, v', ?_, ?_⟩)⟩
  · rw [e1, hS]; rfl
  · rw [(e7 rfl).2, hG]; simp [updG]
theorem lv_close2 {B : Nat} {w w1 : World} {v0 : Value} (h : Lv2 B w w1 P5 v0) : Calls Try.prog 13 #[.pointer (some ⟨B, 0, none⟩), .int .i64 2] w1 fun e w' => ∃ a c, e = .returned (.tuple #[.int .u32 0, .int .u32 3, .slice a 2 c, .int .i64 0]) ∧ Hid (Below B w w' ∧ w'.ownsRow B 32 1 (.slice a 2 c) 2 (w32V [1, 2]) ∧ w'.ownsRow 0 5 1 v0 2 (bytesV [72, 63])) := by
  obtain ⟨hb, hB, s, h2, ok, ⟨k, g, v, hS, hG⟩, ho, hno⟩ := h
  have hi : 0 < s.S.length := by rw [hS]; simp
  have hd : s.S[0] = ⟨k, 2, false, g, 1, false, 2, 0, 3⟩ := by simp only [hS]; rfl
  have hga := h2.gs ⟨g, v, [1, 2]⟩ (by rw [hG]; simp)
  obtain ⟨a, c, hv⟩ := own_slice hga.row
  have hv : v = .slice a 2 c := hv
  have := close_some h2 ok 0 hi 2 (by rw [hd]) v (.inr ⟨by rw [hd], ⟨g, v, [1, 2]⟩, by rw [hG]; simp, by rw [hd], rfl⟩)
  rw [hd] at this
  refine this.mono ?_
  rintro e w' ⟨rfl, H⟩
  obtain ⟨v', g1, g2⟩ := H.out
  have hg2 := g1.gs ⟨g, v, [1, 2]⟩ (by show _ ∈ s.G; rw [hG]; simp)
  refine ⟨a, c, by rw [hv], hidden ⟨hb.trans (g2.below (Nat.le_trans hB hb.size) (fun k e => (h2.low k e).1)), ?_, (keep_row ho hno g2).1⟩⟩
  have := hg2.row
  rw [hv] at this
  exact this
end Go.Proofs.Ytmohnopegacahaa
