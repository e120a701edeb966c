/- Layer 15: a shelf with one file and a stream on it, and a row beside it. -/
import Derived.Test.YtmohnopegacahaaV15h
namespace Go.Proofs.Ytmohnopegacahaa
open Go.RowKit
set_option maxHeartbeats 1000000
set_option maxRecDepth 100000
set_option linter.unusedVariables false

def FP (n md : Int) (wd : Bool) (R : List Nat) (pl : Nat) (rd wr most : Int) (s : Sh) : Prop := ∃ k b v, s.S = [⟨k, n, true, b, md, wd, pl, rd, wr⟩] ∧ s.F = [⟨[102], b, v, chL wd R⟩] ∧ s.last = n ∧ s.most = most ∧ s.G = []
def CP (n : Int) (wd : Bool) (R : List Nat) (most : Int) (s : Sh) : Prop := ∃ b v, s.S = [] ∧ s.F = [⟨[102], b, v, chL wd R⟩] ∧ s.last = n ∧ s.most = most ∧ s.G = []
theorem FP.at_ {n md : Int} {wd : Bool} {R : List Nat} {pl : Nat} {rd wr most : Int} {s : Sh} (h : FP n md wd R pl rd wr most s) : ∃ hi : 0 < s.S.length, s.S[0].n = n ∧ s.S[0].f = true ∧ s.S[0].md = md ∧ s.S[0].wd = wd ∧ s.S[0].pl = pl ∧ s.S[0].rd = rd ∧ s.S[0].wr = wr ∧ zsOf s s.S[0] = chL wd R := by
  obtain ⟨k, b, v, hS, hF, hl, hm, hG⟩ := h
  have hi : 0 < s.S.length := by rw [hS]; simp
  have hd : s.S[0] = ⟨k, n, true, b, md, wd, pl, rd, wr⟩ := by simp only [hS]; rfl
  refine ⟨hi, by rw [hd], by rw [hd], by rw [hd], by rw [hd], by rw [hd], by rw [hd], by rw [hd], ?_⟩
  rw [hd]; unfold zsOf; rw [if_pos rfl, hF]; unfold grF; simp
theorem FP.put {n md : Int} {wd : Bool} {R : List Nat} {pl : Nat} {rd wr most : Int} {s : Sh} (h : FP n md wd R pl rd wr most s) (hi : 0 < s.S.length) (pl' : Nat) (rd' : Int) : FP n md wd R pl' rd' wr most (putS s 0 { s.S[0] with pl := pl', rd := rd' }) := by
  obtain ⟨k, b, v, hS, hF, hl, hm, hG⟩ := h
  have hd : s.S[0] = ⟨k, n, true, b, md, wd, pl, rd, wr⟩ := by simp only [hS]; rfl
  refine ⟨k, b, v, ?_, hF, hl, hm, hG⟩
  show s.S.set 0 _ = _
  rw [hd, hS]
  rfl
theorem no_u32 {B m k : Nat} {w : World} {s : Sh} (h : ShAt B w m s) (hG : s.G = []) (ht : tyAt w k = some 32) : ¬ TS m s k := by
  rintro (rfl | e | e | ⟨d, hd, rfl⟩ | ⟨f, hf, e⟩ | ⟨g, hg, e⟩)
  · rw [ty_box h.box] at ht; exact absurd ht (by decide)
  · rw [map_ty h.mp e] at ht; cases ht
  · rw [ty_row h.row e] at ht; exact absurd ht (by decide)
  · rw [ty_box (h.ss d hd).2] at ht; exact absurd ht (by decide)
  · rcases e with rfl | e
    · rw [ty_box (h.fs f hf).box] at ht; exact absurd ht (by decide)
    · rw [ty_row (h.fs f hf).row e] at ht; exact absurd ht (by decide)
  · rw [hG] at hg; cases hg
theorem no_ty {B m k : Nat} {w : World} {s : Sh} (h : ShAt B w m s) (hG : s.G = []) {t : TypeId} (ht : tyAt w k = some t) (h1 : t ≠ 70) (h2 : t ≠ 76) (h3 : t ≠ 80) (h4 : t ≠ 75) (h5 : t ≠ 5) : ¬ TS m s k := by
  rintro (rfl | e | e | ⟨d, hd, rfl⟩ | ⟨f, hf, e⟩ | ⟨g, hg, e⟩)
  · rw [ty_box h.box] at ht; injection ht with ht; exact h1 ht.symm
  · rw [map_ty h.mp e] at ht; cases ht
  · rw [ty_row h.row e] at ht; injection ht with ht; exact h2 ht.symm
  · rw [ty_box (h.ss d hd).2] at ht; injection ht with ht; exact h3 ht.symm
  · rcases e with rfl | e
    · rw [ty_box (h.fs f hf).box] at ht; injection ht with ht; exact h4 ht.symm
    · rw [ty_row (h.fs f hf).row e] at ht; injection ht with ht; exact h5 ht.symm
  · rw [hG] at hg; cases hg
theorem ty_lt {w : World} {k : Nat} {t : TypeId} (h : tyAt w k = some t) : k < w.heap.size := by
  unfold tyAt at h
  cases hq : w.heap[k]? with
  | none => rw [hq] at h; cases h
  | some o => exact (Array.getElem?_eq_some_iff.1 hq).1
theorem lf_open {B : Nat} {w w1 : World} {most : Int} (h : Lv B w w1 (fun s => s = newS most)) (md : Int) (wd : Bool) (hm : md = 1 ∨ md = 3 ∨ md = 5) :
    Calls Try.prog 12 #[.pointer (some ⟨B, 0, none⟩), .string ⟨#[102]⟩, .int .i64 md, .bool wd] w1 fun e w' => e = .returned (.tuple #[.int .i64 1, .int .i64 0]) ∧ Hid (Lv B w w' (FP 1 md wd [] 0 0 0 most)) := by
  obtain ⟨hb, hB, s, h2, ok, hP⟩ := h
  have hP : s = newS most := hP
  subst hP
  have hE : mayOpenE (newS most) ⟨#[102]⟩ md = 0 := by rcases hm with rfl | rfl | rfl <;> rfl
  refine (open_good h2 ok (Nat.le_trans hB hb.size) ⟨#[102]⟩ md wd hE (by show (0:Nat) ≤ 1000; omega) (by show (0:Int) < 1000000; omega)).mono ?_
  rintro e w' ⟨rfl, H⟩
  obtain ⟨b, s2, k, v', g0, g1, g2, g3⟩ := H.out
  refine ⟨rfl, hidden (Lv.fm hb hB h2 g3 g1 g2 ?_)⟩
  rcases g0 with ⟨_, f, hf, _⟩ | ⟨_, mb, rfl⟩
  · cases hf
  · rcases hm with rfl | rfl | rfl
    · exact ⟨k, b, .slice none 0 0, rfl, by simp [addS, opS, blkS, mkF, newS, updF, chL, intsL, putsL], rfl, rfl, rfl⟩
    · exact ⟨k, b, .slice none 0 0, rfl, by cases wd <;> rfl, rfl, rfl, rfl⟩
    · refine ⟨k, b, .slice none 0 0, ?_, by cases wd <;> rfl, rfl, rfl, rfl⟩
      have : opP (mkF (newS most) [102] b mb) b 5 wd = 0 := by
        unfold opP
        rw [if_pos rfl]
        have e : grF (mkF (newS most) [102] b mb).F b = [] := by simp [grF, mkF, newS]
        rw [e]
        cases wd <;> rfl
      show [] ++ [_] = _
      rw [show opP (mkF (newS most) (ByteArray.mk #[102]).data.toList b mb) b 5 wd = 0 from this]
      rfl
theorem lf_again {B n : Nat} {w w1 : World} {last : Int} {wd : Bool} {R : List Nat} {most : Int} {v : Value} {L : List Int} (h : LvR B w w1 (CP last wd R most) v n L) (md : Int) (hm : md = 2 ∨ md = 5) (hl : last < 1000000) :
    Calls Try.prog 12 #[.pointer (some ⟨B, 0, none⟩), .string ⟨#[102]⟩, .int .i64 md, .bool wd] w1 fun e w' => e = .returned (.tuple #[.int .i64 (last + 1), .int .i64 0]) ∧ Hid (LvR B w w' (FP (last + 1) md wd R (if md = 5 then R.length else 0) 0 0 most) v n L) := by
  obtain ⟨hb, hB, s, h2, ok, ⟨b0, v0, hS, hF, hla, hmo, hG⟩, ho, hn⟩ := h
  have hff : findF s.F [102] = some ⟨[102], b0, v0, chL wd R⟩ := by rw [hF]; rfl
  have hlk : lookB s ⟨#[102]⟩ = some b0 := by unfold lookB; show (findF s.F [102]).map _ = _; rw [hff]; rfl
  have hE : mayOpenE s ⟨#[102]⟩ md = 0 := by
    unfold mayOpenE
    rw [if_neg (by decide), if_neg (by rcases hm with rfl | rfl <;> decide), if_neg (by rw [hS]; decide), hlk, if_neg (by simp), if_neg]
    unfold takenB
    rw [hS]
    simp
  have := open_good h2 ok (Nat.le_trans hB hb.size) ⟨#[102]⟩ md wd hE (by rw [hF]; show (1:Nat) ≤ 1000; omega) (by rw [hla]; exact hl)
  rw [hla] at this
  refine this.mono ?_
  rintro e w' ⟨rfl, H⟩
  obtain ⟨b, s2, k, v', g0, g1, g2, g3⟩ := H.out
  refine ⟨rfl, hidden (LvR.fm hb hB h2 ho hn g3 g1 g2 ?_)⟩
  rcases g0 with ⟨rfl, f, hf, he⟩ | ⟨hno, mb, rfl⟩
  · have hf : findF s2.F [102] = some f := hf
    rw [hff] at hf
    injection hf with hf
    subst hf
    have he : b0 = b := he
    subst he
    have e1 : opS s2 b0 md = s2 := by unfold opS; rw [if_neg (by rcases hm with rfl | rfl <;> decide)]
    have e2 : opP s2 b0 md wd = if md = 5 then R.length else 0 := by
      unfold opP
      have e : grF s2.F b0 = chL wd R := by rw [hF]; simp [grF]
      rw [e, ch_size]
    rw [e1, e2]
    refine ⟨k, b0, v0, ?_, hF, by show s2.last + 1 = _; rw [hla], hmo, hG⟩
    show s2.S ++ [_] = _
    rw [hS, hla]
    rfl
  · have hno : findF s.F [102] = none := hno
    rw [hff] at hno
    cases hno
theorem lf_write {B n : Nat} {w w1 : World} {x md : Int} {wd : Bool} {R : List Nat} {pl : Nat} {rd wr most : Int} {v : Value} {L : List Int} (h : LvR B w w1 (FP x md wd R pl rd wr most) v n L) (hm : wrB md = true) (a : Option Addr) (k c : Nat) (ys : List Nat) (hr : VRow w1 a k ys) (hna : 0 < k → ∀ y : Addr, a = some y → y.block < B ∨ tyAt w1 y.block = some 32) (hpl : pl ≤ R.length) (hs1 : ((4 * R.length : Nat) : Int) ≤ most) (hs2 : ((4 * (pl + k) : Nat) : Int) ≤ most) (hmo : most ≤ 1048576) :
    Calls Try.prog 14 #[.pointer (some ⟨B, 0, none⟩), .int .i64 x, .slice a k c] w1 fun e w' => e = .returned (.int .i64 0) ∧ Hid (LvR B w w' (FP x md wd (wrR wd R pl ys) (pl + k) rd (upI wr k) most) v n L ∧ ∀ j, tyAt w1 j = some 48 → w'.heap[j]? = w1.heap[j]?) := by
  obtain ⟨hb, hB, s, h2, ok, hP, ho, hn⟩ := h
  obtain ⟨hi, e1, e2, e3, e4, e5, e6, e7, e8⟩ := hP.at_
  have hln := hr.ln
  subst hln
  obtain ⟨kk, b, vv, hS, hF, hla, hmost, hG⟩ := hP
  have hcl := ch_len wd R
  have hw4 : wdN wd ≤ 4 := by cases wd <;> decide
  have hcl4 : (chL wd R).length ≤ 4 * R.length := by rw [hcl]; exact Nat.mul_le_mul_right _ hw4
  have hbb : bbF s.F (some b) = 0 := by rw [hF]; simp [bbF]
  have hd : s.S[0] = ⟨kk, x, true, b, md, wd, pl, rd, wr⟩ := by simp only [hS]; rfl
  refine (write_any0 h2 ok (Nat.le_trans hB hb.size) (by rw [hF]; simp [sumF]; omega) 0 hi x e1 (by rw [e3]; exact hm) (by rw [e2, e4, e5, e8, ch_size]; exact hpl) a ys c hr (fun h0 y e q => ?_) (fun _ => ?_) (by rw [e5]; omega)).mono ?_
  · rcases hna h0 y e with z | z
    · have := (h2.low _ q).1; omega
    · exact no_u32 h2 hG z q
  · unfold roomB
    rw [e8, e5, e4, hd, hbb, hmost]
    have h3 : (pl + ys.length) * wdN wd ≤ 4 * (pl + ys.length) := by rw [Nat.mul_comm]; exact Nat.mul_le_mul_right _ hw4
    simp only [decide_eq_true_eq]
    omega
  rintro e w' ⟨rfl, H⟩
  obtain ⟨s', v', g1, g2, g3, g4, g5, j1, j2, j3, j4, j5, j6, j7⟩ := H.out
  rw [e8, e2, e4, e5, e7, wr_file wd ys R pl wr hpl hr.bd] at j1 j6
  refine ⟨rfl, hidden ⟨LvR.fm hb hB h2 ho hn g3 g1 g2 ?_, fun j hj => g3.block j (ty_lt hj) (no_ty h2 hG hj (by decide) (by decide) (by decide) (by decide) (by decide))⟩⟩
  rw [hd] at j1 j6
  refine ⟨kk, b, v', ?_, ?_, by rw [j4, hla], by rw [j2, hmost], by rw [(j6 rfl).2, hG]⟩
  · rw [j1, hS]; rfl
  · rw [(j6 rfl).1, hF]; simp [updF]
theorem lf_read {B n : Nat} {w w1 : World} {x md : Int} {wd : Bool} {R : List Nat} {pl : Nat} {rd wr most : Int} {v : Value} {L : List Int} (h : LvR B w w1 (FP x md wd R pl rd wr most) v n L) (hm : rdB md = true) (hR : chB wd R) (hl : pl < R.length) :
    Calls Try.prog 16 #[.pointer (some ⟨B, 0, none⟩), .int .i64 x] w1 fun e w' => e = .returned (.tuple #[.int .u32 (R.getD pl 0 : Nat), .bool true, .int .i64 0]) ∧ Hid (LvR B w w' (FP x md wd R (pl + 1) (up32 rd) wr most) v n L) := by
  obtain ⟨hb, hB, s, h2, ok, hP, ho, hn⟩ := h
  obtain ⟨hi, e1, e2, e3, e4, e5, e6, e7, e8⟩ := hP.at_
  have := read_some h2 ok 0 hi x e1 (by rw [e3]; exact hm) (by rw [e2, e4, e5, e8, ch_size]; exact hl)
  rw [e2, e4, e5, e8, ch_char wd R hR pl hl] at this
  refine this.mono ?_
  rintro e w' ⟨rfl, H⟩
  refine ⟨rfl, hidden ?_⟩
  have hq : rdD s.S[0] 1 = { s.S[0] with pl := pl + 1, rd := up32 rd } := by unfold rdD; rw [e5, e6]; rfl
  refine LvR.fm hb hB h2 ho hn (H.out.ts hi rfl) H.out.1 (putS_ok ok 0 hi _ rfl rfl rfl rfl) ?_
  rw [hq]
  exact hP.put hi _ _
theorem lf_end {B n : Nat} {w w1 : World} {x md : Int} {wd : Bool} {R : List Nat} {pl : Nat} {rd wr most : Int} {v : Value} {L : List Int} (h : LvR B w w1 (FP x md wd R pl rd wr most) v n L) (hm : rdB md = true) (hl : R.length ≤ pl) :
    Calls Try.prog 16 #[.pointer (some ⟨B, 0, none⟩), .int .i64 x] w1 fun e w' => e = .returned (.tuple #[.int .u32 0, .bool false, .int .i64 0]) ∧ Hid (LvR B w w' (FP x md wd R pl rd wr most) v n L) := by
  have h0 := h
  obtain ⟨hb, hB, s, h2, ok, hP, ho, hn⟩ := h
  obtain ⟨hi, e1, e2, e3, e4, e5, e6, e7, e8⟩ := hP.at_
  exact (read_end h2 ok 0 hi x e1 (by rw [e3]; exact hm) (by rw [e2, e4, e5, e8, ch_size]; exact hl)).mono (fun e w' hh => ⟨hh.1, hidden (h0.later hh.2)⟩)
theorem lf_tell {B n : Nat} {w w1 : World} {x md : Int} {wd : Bool} {R : List Nat} {pl : Nat} {rd wr most : Int} {v : Value} {L : List Int} (h : LvR B w w1 (FP x md wd R pl rd wr most) v n L) :
    Calls Try.prog 15 #[.pointer (some ⟨B, 0, none⟩), .int .i64 x] w1 fun e w' => e = .returned (.tuple #[.int .i64 pl, .int .i64 R.length, .int .i64 0]) ∧ Hid (LvR B w w' (FP x md wd R pl rd wr most) v n L) := by
  have h0 := h
  obtain ⟨hb, hB, s, h2, ok, hP, ho, hn⟩ := h
  obtain ⟨hi, e1, e2, e3, e4, e5, e6, e7, e8⟩ := hP.at_
  have := tell_some h2 ok 0 hi x e1
  rw [e2, e4, e5, e8, ch_size] at this
  exact this.mono (fun e w' hh => ⟨hh.1, hidden (h0.later hh.2)⟩)
/-- where Seek leads -/
def skP (R : List Nat) (pl : Nat) (place frm : Int) : Nat := mvN R.length ((if frm = 0 then 0 else if frm = 1 then pl else R.length : Nat) : Int) place
theorem lf_seek {B n : Nat} {w w1 : World} {x md : Int} {wd : Bool} {R : List Nat} {pl : Nat} {rd wr most : Int} {v : Value} {L : List Int} (h : LvR B w w1 (FP x md wd R pl rd wr most) v n L) (place frm : Int) (hf : frm = 0 ∨ frm = 1 ∨ frm = 2) (hpl : pl ≤ R.length) (hp : -9223372036854775808 ≤ place ∧ place ≤ 9223372036854775807) :
    Calls Try.prog 19 #[.pointer (some ⟨B, 0, none⟩), .int .i64 x, .int .i64 place, .int .i64 frm] w1 fun e w' => e = .returned (.int .i64 0) ∧ Hid (LvR B w w' (FP x md wd R (skP R pl place frm) rd wr most) v n L) := by
  obtain ⟨hb, hB, s, h2, ok, hP, ho, hn⟩ := h
  obtain ⟨hi, e1, e2, e3, e4, e5, e6, e7, e8⟩ := hP.at_
  refine (seek_some h2 ok 0 hi x e1 place frm hf (by rw [e2, e4, e5, e8, ch_size]; exact hpl) hp).mono ?_
  rintro e w' ⟨rfl, H⟩
  refine ⟨rfl, hidden ?_⟩
  have hq : skD s s.S[0] place frm = { s.S[0] with pl := skP R pl place frm, rd := rd } := by
    have hp2 : mvN (gsz s.S[0].f s.S[0].wd (zsOf s s.S[0])) (frmN s.S[0] (gsz s.S[0].f s.S[0].wd (zsOf s s.S[0])) frm : Nat) place = skP R pl place frm := by
      unfold skP frmN
      rw [e2, e4, e8, ch_size, e5]
    unfold skD
    rw [hp2, ← e6]
  refine LvR.fm hb hB h2 ho hn (H.out.ts hi rfl) H.out.1 (putS_ok ok 0 hi _ rfl rfl rfl rfl) ?_
  rw [hq]
  exact hP.put hi _ _
theorem lf_seekbad {B n : Nat} {w w1 : World} {x md : Int} {wd : Bool} {R : List Nat} {pl : Nat} {rd wr most : Int} {v : Value} {L : List Int} (h : LvR B w w1 (FP x md wd R pl rd wr most) v n L) (place frm : Int) (hf : frm ≠ 0 ∧ frm ≠ 1 ∧ frm ≠ 2) :
    Calls Try.prog 19 #[.pointer (some ⟨B, 0, none⟩), .int .i64 x, .int .i64 place, .int .i64 frm] w1 fun e w' => e = .returned (.int .i64 1) ∧ Hid (LvR B w w' (FP x md wd R pl rd wr most) v n L) := by
  have h0 := h
  obtain ⟨hb, hB, s, h2, ok, hP, ho, hn⟩ := h
  obtain ⟨hi, e1, e2, e3, e4, e5, e6, e7, e8⟩ := hP.at_
  exact (seek_bad h2 ok 0 hi x e1 place frm hf).mono (fun e w' hh => ⟨hh.1, hidden (h0.later hh.2)⟩)
theorem lf_get {B n : Nat} {w w1 : World} {x md : Int} {wd : Bool} {R : List Nat} {pl : Nat} {rd wr most : Int} {v : Value} {L : List Int} (h : LvR B w w1 (FP x md wd R pl rd wr most) v n L) (hR : R.length ≤ 400000) :
    Calls Try.prog 20 #[.pointer (some ⟨B, 0, none⟩), .string ⟨#[102]⟩] w1 fun e w' => ∃ a' c', e = .returned (.tuple #[.slice a' (wdN wd * R.length) c', .bool true]) ∧ Hid (LvR B w w' (FP x md wd R pl rd wr most) v n L) := by
  have h0 := h
  obtain ⟨hb, hB, s, h2, ok, ⟨kk, b, vv, hS, hF, hla, hmost, hG⟩, ho, hn⟩ := h
  have hw4 : wdN wd ≤ 4 := by cases wd <;> decide
  have hle : wdN wd * R.length ≤ 4 * R.length := Nat.mul_le_mul_right _ hw4
  have := get_some (f := ⟨[102], b, vv, chL wd R⟩) h2 ⟨#[102]⟩ (by decide) (by rw [hF]; rfl) (by show (chL wd R).length ≤ _; rw [ch_len]; omega)
  rw [show (⟨[102], b, vv, chL wd R⟩ : Fl).zs.length = wdN wd * R.length from ch_len wd R] at this
  refine this.mono ?_
  rintro e w' ⟨a', c', rfl, H⟩
  exact ⟨a', c', rfl, hidden (h0.later H.out.2)⟩
theorem lf_close {B n : Nat} {w w1 : World} {x md : Int} {wd : Bool} {R : List Nat} {pl : Nat} {rd wr most : Int} {v : Value} {L : List Int} (h : LvR B w w1 (FP x md wd R pl rd wr most) v n L) :
    Calls Try.prog 13 #[.pointer (some ⟨B, 0, none⟩), .int .i64 x] w1 fun e w' => e = .returned (.tuple #[.int .u32 rd, .int .u32 wr, .slice none 0 0, .int .i64 0]) ∧ Hid (LvR B w w' (CP x wd R most) v n L) := by
  obtain ⟨hb, hB, s, h2, ok, ⟨kk, b, vv, hS, hF, hla, hmost, hG⟩, ho, hn⟩ := h
  have hi : 0 < s.S.length := by rw [hS]; simp
  have hd : s.S[0] = ⟨kk, x, true, b, md, wd, pl, rd, wr⟩ := by simp only [hS]; rfl
  have := close_some h2 ok 0 hi x (by rw [hd]) (.slice none 0 0) (.inl ⟨by rw [hd], rfl⟩)
  rw [hd] at this
  refine this.mono ?_
  rintro e w' ⟨rfl, H⟩
  obtain ⟨v', g1, g2⟩ := H.out
  have hS3 : (closeS s 0 v').S = [] := by show s.S.eraseIdx 0 = []; rw [hS]; rfl
  refine ⟨rfl, hidden (LvR.fm hb hB h2 ho hn g2 g1 ?_ ⟨b, vv, hS3, hF, hla, hmost, hG⟩)⟩
  exact ⟨by rw [hS3]; exact List.Pairwise.nil, by rw [hS3]; exact ⟨fun i j _ hj _ => by simp at hj⟩, by rw [hS3]; simp, ok.fk, ok.gk, (by intro d hd2; rw [hS3] at hd2; cases hd2), ok.last0, (by intro d hd2; rw [hS3] at hd2; cases hd2), ok.most0⟩
end Go.Proofs.Ytmohnopegacahaa
