/- Layer 18: the game of the statements, and its memory in the program and in the document, with bytes laid into it. Layer 18: laid; put. Layer 18: put: a number in bytes; params: nine of them. Layer 18: nine params in a row of the call's own. Layer 18: a table of hastened functions. Layer 18: live: the page's examples. -/
import Derived.Test.YtpgppdkbkkljnaaF13C
import Derived.Test.YtpgppdkbkkljnaaY9q
import Derived.Test.YtpgppdkbkkljnaaA18H
import Derived.Test.YtpgppdkbkkljnaaA18A
import Derived.Laws.MakeOwn
import Derived.Maps.Own
import Derived.Maps.OwnOps
import Derived.Maps.OwnSet
import Derived.Maps.Views
namespace Go.Proofs.Ytpgppdkbkkljnaa
open Go.RowKit
set_option maxHeartbeats 1000000
set_option maxRecDepth 100000
set_option linter.unusedVariables false

def hdF : Hd := ⟨196867, 256, 256, 2048, 256, 36, 0, 0⟩
def gameL : List Int := makeL hdF (zer8 220)
theorem gameL_sum : sumV (hdrL hdF ++ zer8 220) = 1198490003 := by kernel_rfl
theorem gameL_ok : OkH hdF := by unfold OkH hdF; decide
theorem gameL_parse : parseH gameL = (⟨196867, 256, 256, 2048, 256, 36, 0, 1198490003⟩, 0, 36) := by
  unfold gameL
  rw [make_parse hdF (zer8 220) gameL_ok (by decide) (by decide), gameL_sum]
  rfl
theorem gameL_len : gameL.length = 256 := by unfold gameL; rw [makeL_len, zer8_len]
theorem gameL_okb : OkB gameL := makeL_ok _ _ (zer8_okb _)
/-- the memory's state with such bytes -/
def msF (bs : List Int) : Ms := ⟨196867, 256, 256, 2048, 256, 36, 0, 1198490003, gameL, bs, ⟨1048576, 0, 0, []⟩, 0, 0⟩
def baseF : List Int := gameL ++ zer8 1792
theorem baseF_len : baseF.length = 2048 := by unfold baseF; rw [List.length_append, gameL_len, zer8_len]
/-- the bytes as laid -/
def layB (bs : List Int) : List Int := splice baseF 256 (bs.take 1792)
theorem MAt.fm {B : Nat} {w w' : World} {T T' : Nat → Prop} {m gb gc bb bc h : Nat} {hv : Value} {s : Ms} (H : MAt B w m gb gc bb bc h hv s) (f : Fm w w' T T') (h1 : ∀ k, Tch m h bb hv k → ¬ T k) (h2 : ¬ T gb) : MAt B w' m gb gc bb bc h hv s := by
  have e1 : ∀ {n c : Nat} {x : Nat}, ¬ T x → ∀ k, (Value.slice (some ⟨x, 0, none⟩) n c).ownBlock = some k → ¬ T k := fun hx k e => by simp only [Value.ownBlock, Option.some.injEq] at e; rw [← e]; exact hx
  refine ⟨H.base, (f.block m H.box.lt (h1 m (.inl rfl))).trans H.box, own8_fm f H.game (e1 h2), own8_fm f H.row (e1 (h1 bb (.inr (.inl rfl)))), ⟨H.heap.1, ?_, own8_fm f H.heap.2.2 (fun k e => h1 k (.inr (.inr (.inr e))))⟩, H.ne⟩
  have hl : h < w.heap.size := (Array.getElem?_eq_some_iff.1 H.heap.2.1).1
  exact (f.block h hl (h1 h (.inr (.inr (.inl rfl))))).trans H.heap.2.1
/-- both memories, apart from one another -/
def Lay (B : Nat) (w : World) (m d g : Nat) (bs : List Int) : Prop := B ≤ w.heap.size ∧ ∃ gb gc bb bc h hv c, MAt B w m gb gc bb bc h hv (msF bs) ∧ DMem B w d g c 256 bs ∧ ¬ Tch m h bb hv g ∧ ¬ Tch m h bb hv d ∧ g ≠ gb ∧ d ≠ gb
theorem Lay.later {B : Nat} {w w' : World} {m d g : Nat} {bs : List Int} (h : Lay B w m d g bs) (hb : Below w.heap.size w w') : Lay B w' m d g bs := by
  obtain ⟨h0, gb, gc, bb, bc, hh, hv, c, h1, h2, h3⟩ := h
  exact ⟨Nat.le_trans h0 hb.size, gb, gc, bb, bc, hh, hv, c, h1.later hb, h2.later hb, h3⟩
theorem Lay.mrd {B : Nat} {w : World} {m d g : Nat} {bs : List Int} (h : Lay B w m d g bs) (hl : bs.length ≤ 1048576) (hb : OkB bs) : MRd w m bs := by
  obtain ⟨h0, gb, gc, bb, bc, hh, hv, c, h1, h2, h3⟩ := h
  exact ⟨B, gb, gc, bb, bc, hh, hv, msF bs, h1, rfl, hl, hb⟩
theorem splice_mid (A B C : List Int) (x : Int) (n : Nat) (hn : n = A.length + B.length) : splice (A ++ (B ++ C)) n [x] = A ++ ((B ++ [x]) ++ C.drop 1) := by
  subst hn
  simp only [splice]
  rw [← List.append_assoc A B C, ← List.length_append, List.take_left' rfl, List.drop_append]
  simp
theorem lay_step (bs : List Int) (k : Nat) (hk : k < bs.length) (h2 : k < 1792) : splice (splice baseF 256 (bs.take k)) (256 + k) [bs.getD k 0] = splice baseF 256 (bs.take (k + 1)) := by
  have hb := baseF_len
  have h1 : (bs.take k).length = k := by simp; omega
  have h3 : (baseF.take 256).length = 256 := by simp; omega
  have h4 : bs.take (k + 1) = bs.take k ++ [bs.getD k 0] := by
    rw [List.take_add_one, List.getElem?_eq_getElem hk, List.getD_eq_getElem?_getD, List.getElem?_eq_getElem hk]; rfl
  have e1 : splice baseF 256 (bs.take k) = baseF.take 256 ++ (bs.take k ++ baseF.drop (256 + k)) := by simp only [splice]; rw [h1]
  rw [e1, splice_mid _ _ _ _ _ (by omega)]
  simp only [splice]
  rw [h4, List.length_append, h1, List.drop_drop]
  rfl
theorem lay_zero (bs : List Int) : splice baseF 256 (bs.take 0) = baseF := by simp [splice]
theorem set_splice (xs : List Int) (i : Nat) (x : Int) (h : i < xs.length) : xs.set i x = splice xs i [x] := by
  simp only [splice]
  rw [List.set_eq_take_append_cons_drop, if_pos h]
  rfl
theorem lay_len (bs : List Int) (k : Nat) (hk : k ≤ 1792) : (splice baseF 256 (bs.take k)).length = 2048 := by
  have hb := baseF_len
  rw [splice_len _ _ _ (by simp; omega), hb]
theorem baseF_ok : OkB baseF := okb_app gameL_okb (zer8_okb _)
theorem lay_ok (bs : List Int) (h : OkB bs) (k : Nat) : OkB (splice baseF 256 (bs.take k)) := by
  intro c hc
  simp only [splice, List.mem_append] at hc
  rcases hc with hc | hc | hc
  · exact baseF_ok c (List.mem_of_mem_take hc)
  · exact h c (List.mem_of_mem_take hc)
  · exact baseF_ok c (List.mem_of_mem_drop hc)
theorem lay_more (bs : List Int) (k : Nat) (hk : k = bs.length ∨ k = 1792) (h1 : k ≤ bs.length) (h2 : k ≤ 1792) : splice baseF 256 (bs.take k) = layB bs := by
  unfold layB
  rcases hk with rfl | rfl
  · rw [List.take_of_length_le (Nat.le_refl _), List.take_of_length_le h2]
  · rfl
/-- what laid answers: both memories with the bytes in them -/
def LRet (bs : List Int) (w : World) (e : Ending) (w' : World) : Prop := ∃ m d g, e = .returned (.tuple #[.pointer (some ⟨m, 0, none⟩), .pointer (some ⟨d, 0, none⟩)]) ∧ Lay w.heap.size w' m d g (layB bs) ∧ Below w.heap.size w w'
theorem Lay.write {B : Nat} {w : World} {m d g : Nat} {bs : List Int} (h : Lay B w m d g bs) (a : Nat) (x : Int) (ha : 256 ≤ a) (hl : a < bs.length) (hb : bs.length ≤ 1048576) (ho : OkB bs) (x0 : 0 ≤ x) (x1 : x ≤ 255) :
    Calls Try.prog 17 #[.pointer (some ⟨m, 0, none⟩), .int .u32 a, .int .i64 1, .int .u32 x] w fun e w' => e = .returned (.int .i64 0) ∧ Below B w w' ∧ Calls Try.prog 27 #[.pointer (some ⟨d, 0, none⟩), .int .u32 a, .int .i64 1, .int .u32 x] w' fun e w'' => e = .returned (.int .i64 0) ∧ Lay B w'' m d g (splice bs a [x]) ∧ Below B w' w'' := by
  obtain ⟨h0, gb, gc, bb, bc, hh, hv, c, h1, h2, h3, h4, h5, h6⟩ := h
  have hc : chgR (msF bs).ram (msF bs).bytes.length a 1 = true := by
    show chgR 256 bs.length a 1 = true
    simp [chgR, hasR]; omega
  refine (write_ok B m gb gc bb bc hh hv (msF bs) a 1 x w h1 (.inl rfl) (by omega) hb hc).mono ?_
  rintro e w' ⟨rfl, bb', bc', h', hv', H', f⟩
  have hp : putL x (1 : Nat) = [x] := by simp [putL]; omega
  have H2 : MAt B w' m gb gc bb' bc' h' hv' (msF (splice bs a [x])) := by
    have : { msF bs with bytes := splice (msF bs).bytes a (putL x (1 : Nat)) } = msF (splice bs a [x]) := by rw [hp]; rfl
    rw [this] at H'
    exact H'
  have hBl : Below B w w' := f.below h0 (fun k e => (h1.low k e).1)
  have D2 := h2.fm f h4 h3
  have hgl := (h2.row.lt g rfl).2
  have hdl := h2.lt
  have k1 : ¬ Tch m h' bb' hv' g := fun e => by rcases f.row g e with e1 | e1; exact h3 e1; omega
  have k2 : ¬ Tch m h' bb' hv' d := fun e => by rcases f.row d e with e1 | e1; exact h4 e1; omega
  refine ⟨rfl, hBl, ?_⟩
  refine (dwrite1 B w' d g c 256 bs D2 a x ha hl hb x0 x1).mono ?_
  rintro e w'' ⟨rfl, D3, f3⟩
  have hg0 := (D2.row.lt g rfl).1
  refine ⟨rfl, ⟨Nat.le_trans (Nat.le_trans h0 hBl.size) f3.size, gb, gc, bb', bc', h', hv', c, H2.fm f3 (fun k e1 e2 => ?_) (fun e => h5 e.symm), ?_, k1, k2, h5, h6⟩, f3.below (Nat.le_trans h0 hBl.size) (fun k e => by subst e; exact hg0)⟩
  · subst e2; exact k1 e1
  · rw [← set_splice bs a x hl]; exact D3
end Go.Proofs.Ytpgppdkbkkljnaa
namespace Go.Proofs.Ytpgppdkbkkljnaa
open Go.RowKit
set_option maxHeartbeats 1000000
set_option maxRecDepth 100000
set_option linter.unusedVariables false

theorem rput2w (x : Int) (w : World) (x0 : 0 ≤ x) (x1 : x ≤ 4294967295) :
    Calls Try.prog 37 #[.int .u32 x, .int .i64 2] w fun e w' => ∃ v, e = .returned v ∧ w'.ownsRow w.heap.size 5 1 v 2 (bytesV (putL x 2)) ∧ Below w.heap.size w w' := by
  obtain ⟨i0, hi, hz0, hz1, hz2⟩ := info_parts info8
  have hpf := hidden (fun k h => pw_facts x 2 (Or.inr (Or.inl rfl)) k h)
  have hend : Hid ((bytesV (putL x 2)).take 2 = bytesV (putL x 2)) := hidden rfl
  have hbnd := hidden (putL_bd x 2)
  have hst0 : Hid ((256 : Int) = pw 2 0) := hidden (by decide)
  change Hid (∀ k : Nat, (k : Int) < 2 → 0 < pw 2 k ∧ pw 2 k ≤ 16777216 ∧ pw 2 k / 256 = pw 2 (k + 1) ∧ x / pw 2 k % 256 = (putL x 2).getD k 0 ∧ (bytesV (putL x 2)).take k ++ [.int .u8 ((putL x 2).getD k 0)] = (bytesV (putL x 2)).take (k + 1)) at hpf
  generalize putL x 2 = L at *
  go_enter Try.func37, Try.ntmps37
  go_wp2
  go_rounds 2
  go_loopw [5, 6, 8] (fun v p i w' => ∃ k : Nat, k ≤ 2 ∧ i = .int .i64 k ∧ p = .int .i64 (pw 2 k) ∧ w'.ownsRow w.heap.size 5 1 v k ((bytesV L).take k) ∧ Below w.heap.size w w') (fun _ _ i _ => 2 - (intOf i).toNat)
  case atStart => exact ⟨0, by omega, rfl, by rw [← hst0.out], World.ownsRow_nil _ _ _ _, Below.refl _ _⟩
  case round =>
    obtain ⟨k, hk, rfl, rfl, hown, hbl⟩ := hrel
    have HO := hidden hown
    clear hown
    by_cases hlt : (k : Int) < 2
    · obtain ⟨p1, p2, p3, p4, p5⟩ := hpf.out k hlt
      have hx0 : 0 ≤ x / pw 2 k := Int.ediv_nonneg x0 (by omega)
      have hx1 : x / pw 2 k ≤ 4294967295 := Int.le_trans (Int.ediv_le_self _ x0) x1
      have hc0 : 0 ≤ x / pw 2 k % 256 ∧ x / pw 2 k % 256 ≤ 255 := by omega
      have H3 := hidden p3
      have H4 := hidden p4
      have H5 := hidden p5
      clear p3 p4 p5
      have hz : (pw 2 k == 0) = false := by simp; omega
      generalize pw 2 k = p at *
      have hs := hbl.size
      have HO1 := hidden (HO.out.alloc (.cells #[.int .u8 (x / p % 256)] 5))
      have HN1 := hidden (new_cell wr [x / p % 256] (by unfold maxLen; simp))
      have hb1 : Below w.heap.size w (wr.alloc (.cells #[.int .u8 (x / p % 256)] 5)) := hbl.alloc hs _
      have HL := hidden HO.out.lt
      go_wp2_with (at_builtin; refine wpList_append_own _ rfl (.tmp 31) (.tmp 38) 50 rfl w.heap.size 5 i0 (.int .u8 0) 1 1 Try.underlying50 hi hz0 hz1 hz2 rfl (by decide) _ _ _ rfl HO1.out ⟨wr.heap.size, 0, none⟩ 1 1 (bytesV [x / p % 256]) rfl rfl HN1.out (bytesV_one _) (by unfold maxLen; omega) (by omega) (by simp; omega) ?_; intro v2 w2 hown2 hgrow2 hiff2; clear hiff2; refine Hid.out ?_)
      have hb2 : Below w.heap.size w w2 := hb1.grown hgrow2 (by simp; omega) (by intro k hk; exact (HL.out k hk).1)
      have hown3 : w2.ownsRow w.heap.size 5 1 v2 (k + 1) ((bytesV L).take (k + 1)) := by
        rw [← H5.out, ← H4.out]; exact hown2
      have HO3 := hidden hown3
      clear hown2 hown3 hgrow2 HO HO1 HN1 HL hb1
      refine hidden ?_
      go_wp2
      go_roundw
      case rel => exact ⟨k + 1, by omega, by go_num, by rw [← H3.out], HO3.out, hb2⟩
      case measure => simp [intOf]; omega
    · obtain rfl : k = 2 := by omega
      go_wp2
      go_ret
      refine ⟨_, rfl, ?_, hbl⟩
      rw [← hend.out]
      exact HO.out
theorem laid18 (a : Option Addr) (L cap : Nat) (bs : List Int) (w : World) (h : Reads w a L cap bs) (ho : OkB bs) :
    Calls Try.prog 15 #[.slice a L cap] w (LRet bs w) := by
  have hLb := h.1
  have HR := hidden h
  have HOK := hidden ho
  clear h ho
  go_enter Try.func15, Try.ntmps15
  have hmk : ∀ w, (Instr.makeSlice 50 (.int .i64 220) (.int .i64 220)).run Try.prog w = .ok (.slice (some ⟨w.heap.size, 0, none⟩) 220 220) (w.alloc (.cells (bytesV (zer8 220)).toArray 5)) := fun w => mk8 .i64 220 (by omega) w
  have hb1 : Below w.heap.size w (w.alloc (.cells (bytesV (zer8 220)).toArray 5)) := (Below.refl _ _).alloc (Nat.le_refl _) _
  have ho : (w.alloc (.cells (bytesV (zer8 220)).toArray 5)).ownsRow w.heap.size 5 1 (.slice (some ⟨w.heap.size, 0, none⟩) 220 220) 220 (bytesV (zer8 220)) := zer_own w _ _ (Nat.le_refl _) (by omega)
  have HM := hidden (rmake_part 196867 256 256 2048 256 36 0 0 gameL_ok (some ⟨w.heap.size, 0, none⟩) 220 220 (zer8 220) _ (own_reads ho) (zer8_okb _) (by decide) _ _ _ gameL_parse)
  have HB0 := hidden hb1
  clear ho hb1
  generalize hz : (bytesV (zer8 220)).toArray = Z at *
  go_upto_region 2 with (go_at_call 24; refine HM.out.mono ?_; rintro e w1 ⟨hb1, _, h0⟩; obtain ⟨g1, c1, rfl, hbs1, hc1⟩ := h0 rfl; replace HB0 := hidden (HB0.out.trans (hb1.mono (by simp))); clear hb1 h0)
  have HB1 := HB0
  clear HM HB0 hz hmk
  have HN1 := hidden (new_ok (some ⟨g1, 0, none⟩) 256 c1 gameL w1 (hbs1.reads c1 hc1) gameL_okb (by decide) (by decide) 196867 256 256 36 0 1198490003 256 2048 gameL_parse (by decide) (by decide))
  have HBS := hidden hbs1
  clear hbs1
  go_upto_region 3 with (go_at_call 25; refine HN1.out.mono ?_; rintro e w2 ⟨m, gb, gc, bb, hh, rfl, H2, hb2⟩; skip)
  have HM2 := hidden (show MAt w1.heap.size w2 m gb gc bb 2048 hh (.slice none 0 0) (msF baseF) from H2)
  have HB2 := hidden (HB1.out.trans (hb2.mono HB1.out.size))
  have HN3 := hidden (dnew_any (some ⟨g1, 0, none⟩) 256 c1 gameL w2 ((HBS.out.later hb2).reads c1 hc1) gameL_okb (by decide) 196867 256 256 36 0 1198490003 256 2048 gameL_parse (by decide) (by decide))
  clear HN1 H2 hb2
  have HM3 := HM2
  have HB3 := HB2
  go_upto_region 4 with (go_at_call 26; refine HN3.out.mono ?_; rintro e w4 ⟨d, g, c, rfl, D4, hb4⟩; skip)
  have HB4 := hidden (HB3.out.trans (hb4.mono HB3.out.size))
  have HL4 : Hid (Lay w.heap.size w4 m d g baseF) := hidden (by
    have hlow := HM3.out.low
    have h1 : w2.heap.size ≤ g := (D4.row.lt g rfl).1
    have h2 : w2.heap.size ≤ d := D4.1
    have h3 : w.heap.size ≤ w1.heap.size := HB1.out.size
    have h4 : w.heap.size ≤ w2.heap.size := HB3.out.size
    have h5 : gb < w2.heap.size := (HM3.out.game.lt gb rfl).2
    have hbl : DMem w.heap.size w4 d g c 256 baseF := ⟨by omega, D4.2.1, own_base D4.2.2 h4⟩
    have hmm := HM3.out.later hb4
    have hm2 : MAt w.heap.size w4 m gb gc bb 2048 hh (.slice none 0 0) (msF baseF) := ⟨by have := hmm.base; omega, hmm.box, own_base hmm.game h3, own_base hmm.row h3, ⟨by have := hmm.heap.1; omega, hmm.heap.2.1, own_base hmm.heap.2.2 h3⟩, hmm.ne⟩
    refine ⟨HB4.out.size, gb, gc, bb, 2048, hh, .slice none 0 0, c, hm2, hbl, fun e => ?_, fun e => ?_, by omega, by omega⟩
    · have := (hlow g e).2; omega
    · have := (hlow d e).2; omega)
  clear HN3 D4 hb4 HM3 HM2 HB3 HB2 HB1 HBS
  go_upto_region 7 with (go_at_call 19; refine (num18 _ _).mono ?_; rintro e w5 ⟨rfl, e9⟩; rw [e9]; clear e9)
  go_loopw [12] (fun i w' => ∃ k : Nat, k ≤ L ∧ k ≤ 1792 ∧ i = .int .i64 k ∧ Hid (Lay w.heap.size w' m d g (splice baseF 256 (bs.take k))) ∧ Hid (Below w.heap.size w w')) (fun i _ => 1792 - (intOf i).toNat)
  case atStart => exact ⟨0, by omega, by omega, rfl, hidden (by rw [lay_zero]; exact HL4.out), HB4⟩
  case round =>
    clear HL4 HB4
    obtain ⟨k, hk, hk2, rfl, hL, hB⟩ := hrel
    by_cases h1 : k < L
    · have l1 : (k : Int) < L := by omega
      by_cases h2 : k < 1792
      · have l2 : (k : Int) < 1792 := by omega
        have l3 : (0 : Int) ≤ k := by omega
        have e1 : IntKind.i64.wrap (256 + (k : Int)) = ((256 + k : Nat) : Int) := by rw [IntKind.wrap_i64]; omega
        have e2 : IntKind.u32.wrap ((256 + k : Nat) : Int) = ((256 + k : Nat) : Int) := by rw [IntKind.wrap_u32]; omega
        have e3 : ((k : Int)).toNat = k := by omega
        obtain ⟨g0, o0, ha, hbs0⟩ := HR.out.bs (by omega)
        subst ha
        have hc0 := (hbs0.later hB.out).2 k h1
        have hv := HOK.out (bs.getD k 0) (by rw [List.getD_eq_getElem?_getD, List.getElem?_eq_getElem (by omega)]; simp)
        have HBS := hidden hbs0
        have HST := hidden (lay_step bs k (by omega) h2)
        have HWR := hidden (hL.out.write (256 + k) (bs.getD k 0) (by omega) (by rw [lay_len _ _ hk2]; omega) (by rw [lay_len _ _ hk2]; omega) (lay_ok bs HOK.out k) hv.1 hv.2)
        rw [HST.out] at HWR
        generalize hVV : bs.getD k 0 = V at *
        have HVV := hidden hVV
        have e4 : IntKind.u32.wrap V = V := by rw [IntKind.wrap_u32]; omega
        clear hVV hbs0 hL HST
        go_upto_region 11 with (first | (go_at_call 17; refine HWR.out.mono ?_; rintro e w5 ⟨rfl, hb5, hcall⟩; have HCL := hidden hcall; have HB5 := hidden (hB.out.trans hb5); clear hcall hb5; skip) | (go_at_call 19; refine (num18 _ _).mono ?_; rintro e w6 ⟨rfl, e9⟩; rw [e9]; clear e9) | fail)
        have hc5 := (HBS.out.later HB5.out).2 k h1
        rw [HVV.out] at hc5
        clear hc0
        go_wp2_with (go_at_call 27; refine HCL.out.mono ?_; rintro e w7 ⟨rfl, hL7, hb7⟩)
        go_roundw
        case rel => exact ⟨k + 1, by omega, by omega, by go_num, hidden hL7, hidden (HB5.out.trans hb7)⟩
        case measure => simp [intOf]; omega
      · have l2 : ¬ ((k : Int) < 1792) := by omega
        have HM := hidden (lay_more bs k (.inr (by omega)) (by omega) hk2)
        rw [HM.out] at hL
        go_wp2
        go_ret2
        exact ⟨m, d, g, rfl, hL.out, hB.out⟩
    · have l1 : ¬ ((k : Int) < L) := by omega
      have HM := hidden (lay_more bs k (.inl (by omega)) (by omega) hk2)
      rw [HM.out] at hL
      go_wp2
      go_ret2
      exact ⟨m, d, g, rfl, hL.out, hB.out⟩
end Go.Proofs.Ytpgppdkbkkljnaa
namespace Go.Proofs.Ytpgppdkbkkljnaa
open Go.RowKit
set_option maxHeartbeats 1000000
set_option maxRecDepth 100000
set_option linter.unusedVariables false

theorem splice_step (zs ys : List Int) (a k : Nat) (hk : k < ys.length) (ha : a + ys.length ≤ zs.length) : (splice zs a (ys.take k)).set (a + k) (ys.getD k 0) = splice zs a (ys.take (k + 1)) := by
  have h1 : (ys.take k).length = k := by simp; omega
  have h3 : (zs.take a).length = a := by simp; omega
  have h4 : ys.take (k + 1) = ys.take k ++ [ys.getD k 0] := by
    rw [List.take_add_one, List.getElem?_eq_getElem hk, List.getD_eq_getElem?_getD, List.getElem?_eq_getElem hk]; rfl
  have e1 : splice zs a (ys.take k) = zs.take a ++ (ys.take k ++ zs.drop (a + k)) := by simp only [splice]; rw [h1]
  rw [set_splice _ _ _ (by rw [splice_len _ _ _ (by rw [h1]; omega)]; omega), e1, splice_mid _ _ _ _ _ (by omega)]
  simp only [splice]
  rw [h4, List.length_append, h1, List.drop_drop]
  rfl
theorem splice_none (zs ys : List Int) (a : Nat) : splice zs a (ys.take 0) = zs := by simp [splice]
theorem rputN (x n : Nat) (w : World) (hx : x < 4294967296) (hn : n = 2 ∨ n = 4) :
    Calls Try.prog 37 #[.int .u32 x, .int .i64 n] w fun e w' => ∃ g c, e = .returned (.slice (some ⟨g, 0, none⟩) n c) ∧ w.heap.size ≤ g ∧ (∀ k, k < n → w'.cell? ⟨g, k, none⟩ = some (.int .u8 ((putL x n).getD k 0))) ∧ Below w.heap.size w w' := by
  have key : ∀ (N : Nat), n = N → 0 < N → (∀ e w', (∃ v, e = Ending.returned v ∧ w'.ownsRow w.heap.size 5 1 v N (bytesV (putL x n)) ∧ Below w.heap.size w w') → ∃ g c, e = .returned (.slice (some ⟨g, 0, none⟩) n c) ∧ w.heap.size ≤ g ∧ (∀ k, k < n → w'.cell? ⟨g, k, none⟩ = some (.int .u8 ((putL x n).getD k 0))) ∧ Below w.heap.size w w') := by
    rintro N rfl hp e w' ⟨v, rfl, ho, hb⟩
    obtain ⟨g, c, rfl, h1, h2⟩ := owned_shape ho hp
    refine ⟨g, c, rfl, (ho.lt g rfl).1, fun k hk => ?_, hb⟩
    have := (own_bs ho).2 k hk
    rwa [Nat.zero_add] at this
  rcases hn with rfl | rfl
  · exact (rput2w x w (by omega) (by omega)).mono fun e w' h => key 2 rfl (by decide) e w' h
  · exact (rput_4 x w (by omega) (by omega)).mono fun e w' h => key 4 rfl (by decide) e w' h
theorem put18 (B g c L addr n x : Nat) (zs : List Int) (w : World) (O : w.ownsRow B 5 1 (.slice (some ⟨g, 0, none⟩) L c) L (bytesV zs)) (hn : n = 2 ∨ n = 4) (ha : 256 ≤ addr) (hl : addr - 256 + n ≤ L) (hL : L ≤ 100000) (hx : x < 4294967296) :
    Calls Try.prog 22 #[.slice (some ⟨g, 0, none⟩) L c, .int .i64 addr, .int .i64 n, .int .u32 x] w fun e w' => e = .returned (.tuple #[]) ∧ w'.ownsRow B 5 1 (.slice (some ⟨g, 0, none⟩) L c) L (bytesV (splice zs (addr - 256) (putL x n))) ∧ Fm w w' (fun k => k = g) (fun k => k = g) := by
  have HP := hidden (rputN x n w hx hn)
  have hB := (O.lt g rfl)
  have hzl : zs.length = L := by have := O.1; simpa [bytesV] using this
  have hpl : (putL x n).length = n := by rcases hn with rfl | rfl <;> rfl
  have hbd := hidden (putL_bd x n)
  have HO := hidden O
  clear O
  generalize hPP : putL x n = P at *
  have hPt : P.take n = P := by rw [← hpl, List.take_length]
  have HPt := hidden hPt
  clear hPt
  go_enter Try.func22, Try.ntmps22
  go_upto_region 2 with (go_at_call 37; refine HP.out.mono ?_; rintro e w1 ⟨g2, c2, rfl, hg2, hcell, hb1⟩; have HC := hidden hcell; have HB := hidden hb1; clear hcell hb1)
  have HO1 := hidden (own8_fm (Fm.same (HB.out)) HO.out (fun k e => id))
  have HF1 : Hid (Fm w w1 (fun k => k = g) (fun k => k = g)) := hidden (Fm.same (HB.out))
  clear HP HO
  go_loopw [9] (fun i w' => ∃ k : Nat, k ≤ n ∧ i = .int .i64 k ∧ Hid (w'.ownsRow B 5 1 (.slice (some ⟨g, 0, none⟩) L c) L (bytesV (splice zs (addr - 256) (P.take k)))) ∧ Hid (Fm w w' (fun k => k = g) (fun k => k = g)) ∧ Hid (∀ k, k < n → w'.cell? ⟨g2, k, none⟩ = some (.int .u8 (P.getD k 0)))) (fun i _ => n - (intOf i).toNat)
  case atStart => exact ⟨0, by omega, rfl, by rw [splice_none]; exact HO1, HF1, HC⟩
  case round =>
    clear HO1 HF1 HC HB
    obtain ⟨k, hk, rfl, HO, HF, HC⟩ := hrel
    by_cases h1 : k < n
    · have l1 : (k : Int) < n := by omega
      have l3 : (0 : Int) ≤ k := by omega
      have e3 : ((k : Int)).toNat = k := by omega
      have hi : addr - 256 + k < L := by omega
      have hc1 := HC.out k h1
      have hst := splice_step zs P (addr - 256) k (by omega) (by omega)
      have HST := hidden hst
      have HU := hidden (own8_put HO.out (addr - 256 + k) hi (P.getD k 0))
      have HFU : Hid (Fm w (wr.setCell ⟨g, addr - 256 + k, none⟩ (.int .u8 (P.getD k 0))) (fun k => k = g) (fun k => k = g)) := hidden (HF.out.set g _ _ rfl)
      have hne : g2 ≠ g := by omega
      have HCU : Hid (∀ i, i < n → (wr.setCell ⟨g, addr - 256 + k, none⟩ (.int .u8 (P.getD k 0))).cell? ⟨g2, i, none⟩ = some (.int .u8 (P.getD i 0))) := hidden (fun i hi2 => by
        have f : Fm wr (wr.setCell ⟨g, addr - 256 + k, none⟩ (.int .u8 (P.getD k 0))) (fun k => k = g) (fun k => k = g) := (Fm.same (Below.refl _ _)).set g _ _ rfl
        exact (World.cell?_of_block (f.block g2 (World.block_lt_of_cell? _ _ (HC.out i hi2)) hne)).trans (HC.out i hi2))
      have hold := (own_bs HO.out).2 (addr - 256 + k) (by omega)
      rw [Nat.zero_add] at hold
      have hfz : wr.frozen? ⟨g, addr - 256 + k, none⟩ = false := by
        obtain ⟨cur, _, hq, _⟩ := own8_cur HO.out
        simp [World.frozen?, hq]
      generalize P.getD k 0 = V at *
      generalize hAA : addr - 256 + k = AA at *
      have ea : ((addr : Int) - 256 + (k : Int)) = (AA : Int) := by omega
      have hA1 : (0 : Int) ≤ (AA : Int) := by omega
      have hA2 : (AA : Int) < (L : Int) := by omega
      have hA3 : ((AA : Int)).toNat = AA := by omega
      have HE : Hid (bytesV ((splice zs (addr - 256) (P.take k)).set AA V) = bytesV (splice zs (addr - 256) (P.take (k + 1)))) := hidden (by rw [HST.out])
      clear HST
      go_wp2
      go_roundw
      case rel => exact ⟨k + 1, by omega, by go_num, hidden (by rw [← HE.out]; exact HU.out), HFU, HCU⟩
      case measure => simp [intOf]; omega
    · have l1 : ¬ (k : Int) < (n : Int) := by omega
      have hkn : Hid (P.take k = P) := hidden (by rw [show k = n by omega]; exact HPt.out)
      clear HPt
      go_wp2
      refine bodyPost_end (v := .tuple #[]) (by simp [results, Try.results22, go_sem]) rfl ⟨rfl, ?_, HF.out⟩
      rw [← hkn.out]; exact HO.out
end Go.Proofs.Ytpgppdkbkkljnaa
namespace Go.Proofs.Ytpgppdkbkkljnaa
open Go.RowKit
set_option maxHeartbeats 1000000
set_option maxRecDepth 100000
set_option linter.unusedVariables false

def wdV (xs : List Nat) : List Value := xs.map fun x : Nat => Value.int .u32 (x : Int)
/-- a row of words of the call's own, a block of its own -/
def PRow (w : World) (p : Nat) (xs : List Nat) : Prop := w.heap[p]? = some (.cells (wdV xs).toArray 26 (0, 0))
theorem PRow.lt {w : World} {p : Nat} {xs : List Nat} (h : PRow w p xs) : p < w.heap.size := (Array.getElem?_eq_some_iff.1 h).1
theorem PRow.later {w w' : World} {p : Nat} {xs : List Nat} (h : PRow w p xs) (hb : Below w.heap.size w w') : PRow w' p xs := (hb.block p h.lt).trans h
theorem PRow.cell {w : World} {p : Nat} {xs : List Nat} (h : PRow w p xs) (i : Nat) (hi : i < xs.length) : w.cell? ⟨p, i, none⟩ = some (.int .u32 (xs.getD i 0 : Nat)) := by
  unfold PRow at h
  have e : (wdV xs)[i]? = some (.int .u32 (xs.getD i 0 : Nat)) := by
    unfold wdV
    rw [List.getElem?_map, List.getElem?_eq_getElem hi, List.getD_eq_getElem?_getD, List.getElem?_eq_getElem hi]; rfl
  simp [World.cell?, h, e]
theorem PRow.fz {w : World} {p : Nat} {xs : List Nat} (h : PRow w p xs) (i : Nat) : w.frozen? ⟨p, i, none⟩ = false := by
  unfold PRow at h
  simp [World.frozen?, h]
theorem PRow.set {w : World} {p : Nat} {xs : List Nat} (h : PRow w p xs) (i x : Nat) : PRow (w.setCell ⟨p, i, none⟩ (.int .u32 (x : Int))) p (xs.set i x) := by
  have hs := setCell_eq_setRow w p i (wdV xs).toArray 26 (0, 0) (.int .u32 (x : Int)) h
  unfold PRow
  rw [hs, setRow_heap w p (wdV xs).toArray _ _ _ h]
  unfold wdV
  rw [List.map_set]
  simp
theorem PRow.row {w : World} {p : Nat} {xs : List Nat} (h : PRow w p xs) (hb : ∀ x ∈ xs, x < 4294967296) (n : Nat) (hn : n ≤ xs.length) : VRow w (some ⟨p, 0, none⟩) n (xs.take n) :=
  ⟨by simp; omega, fun x hx => hb x (List.mem_of_mem_take hx), fun i hi => ⟨p, 0, rfl, by
    have := h.cell i (by omega)
    have e : (xs.take n).getD i 0 = xs.getD i 0 := by simp [List.getD_eq_getElem?_getD, hi]
    rw [e, Nat.zero_add]; exact this⟩⟩
def z9 : List Nat := [0, 0, 0, 0, 0, 0, 0, 0, 0]
theorem info32w : (Try.prog.info? 26).map (fun i => (i.zero, i.size, i.bytes)) = some (some (.int .u32 0), 1, 4) := by kernel_rfl
theorem mk9 (w : World) : (Instr.makeSlice 30 (.int .i64 9) (.int .i64 9)).run Try.prog w = .ok (.slice (some ⟨w.heap.size, 0, none⟩) 9 9) (w.alloc (.cells (wdV z9).toArray 26)) := by
  obtain ⟨i0, hi, hz0, hz1, hz2⟩ : ∃ i, Try.prog.info? 26 = some i ∧ i.zero = some (.int .u32 0) ∧ i.size = 1 ∧ i.bytes = 4 := by
    have h := info32w
    cases hq : Try.prog.info? 26 with
    | none => rw [hq] at h; simp at h
    | some i => rw [hq] at h; simp at h; exact ⟨i, rfl, h.1, h.2.1, h.2.2⟩
  have := run_make (P := Try.prog) w 30 26 i0 (.int .u32 0) Try.underlying30 hi hz0 .i64 .i64 9 9 (by omega) (by omega) (by rw [hz2]; omega) (by omega)
  rw [hz1] at this
  have e : madeCells (Value.int .u32 0).cells (Int.toNat 9 * 1) = (wdV z9).toArray := by kernel_rfl
  rw [e] at this
  exact this
theorem PRow.new (w : World) (xs : List Nat) : PRow (w.alloc (.cells (wdV xs).toArray 26)) w.heap.size xs := heap_alloc_new _ _
def parK (xs : List Nat) (k : Nat) : List Nat := xs.take k ++ List.replicate (9 - k) 0
/-- nine params out of any row -/
def par9 (xs : List Nat) : List Nat := parK xs (min xs.length 9)
theorem parK_len (xs : List Nat) (k : Nat) (h1 : k ≤ xs.length) (h2 : k ≤ 9) : (parK xs k).length = 9 := by
  unfold parK; simp; omega
theorem parK_step (xs : List Nat) (k : Nat) (h1 : k < xs.length) (h2 : k < 9) : (parK xs k).set k (xs.getD k 0) = parK xs (k + 1) := by
  unfold parK
  have hl : (xs.take k).length = k := by simp; omega
  obtain ⟨r, hr⟩ : ∃ r, 9 - k = r + 1 := ⟨8 - k, by omega⟩
  rw [hr, show 9 - (k + 1) = r by omega, List.replicate_succ]
  have ht : xs.take (k + 1) = xs.take k ++ [xs.getD k 0] := by
    rw [List.take_add_one, List.getElem?_eq_getElem h1, List.getD_eq_getElem?_getD, List.getElem?_eq_getElem h1]; rfl
  rw [List.set_append_right _ _ (by omega), hl, Nat.sub_self, List.set_cons_zero, ht]
  simp
theorem parK_bd (xs : List Nat) (k : Nat) (h : ∀ x ∈ xs, x < 4294967296) : ∀ x ∈ parK xs k, x < 4294967296 := by
  intro x hx
  unfold parK at hx
  rcases List.mem_append.1 hx with h1 | h1
  · exact h x (List.mem_of_mem_take h1)
  · have := (List.mem_replicate.1 h1).2; omega
theorem params18 (a : Option Addr) (n c : Nat) (xs : List Nat) (w : World) (h : VRow w a n xs) (hn : n ≤ 9223372036854775807) :
    Calls Try.prog 16 #[.slice a n c] w fun e w' => ∃ p, e = .returned (.slice (some ⟨p, 0, none⟩) 9 9) ∧ w.heap.size ≤ p ∧ PRow w' p (par9 xs) ∧ Below w.heap.size w w' := by
  have hln := h.ln
  have HV := hidden h
  have hb1 : Below w.heap.size w (w.alloc (.cells (wdV z9).toArray 26)) := (Below.refl _ _).alloc (Nat.le_refl _) _
  have HB := hidden hb1
  have HP : Hid (PRow (w.alloc (.cells (wdV z9).toArray 26)) w.heap.size (parK xs 0)) := hidden (PRow.new w _)
  have hmk := mk9
  clear h hb1
  generalize hZ : (wdV z9).toArray = Z at *
  clear hZ
  go_enter Try.func16, Try.ntmps16
  go_upto_region 3 with fail
  go_loopw [4] (fun i w' => ∃ k : Nat, k ≤ n ∧ k ≤ 9 ∧ i = .int .i64 k ∧ Hid (PRow w' w.heap.size (parK xs k)) ∧ Hid (Below w.heap.size w w')) (fun i _ => 9 - (intOf i).toNat)
  case atStart => exact ⟨0, by omega, by omega, rfl, HP, HB⟩
  case round =>
    clear HP HB
    obtain ⟨k, hk, hk2, rfl, HP, HB⟩ := hrel
    by_cases h1 : k < n
    · have l1 : (k : Int) < n := by omega
      by_cases h2 : k < 9
      · have l2 : (k : Int) < 9 := by omega
        have l3 : (0 : Int) ≤ k := by omega
        have e3 : ((k : Int)).toNat = k := by omega
        obtain ⟨b, o, rfl, hc⟩ := HV.out.cells k h1
        have hcx := cellLater HB.out hc
        have hold := HP.out.cell k (by rw [parK_len xs k (by omega) hk2]; exact h2)
        have hfz := HP.out.fz k
        have HPS : Hid (PRow (wr.setCell ⟨w.heap.size, k, none⟩ (.int .u32 ((xs.getD k 0 : Nat) : Int))) w.heap.size (parK xs (k + 1))) := hidden (by rw [← parK_step xs k (by omega) h2]; exact HP.out.set k _)
        have HBS : Hid (Below w.heap.size w (wr.setCell ⟨w.heap.size, k, none⟩ (.int .u32 ((xs.getD k 0 : Nat) : Int)))) := hidden (HB.out.setCell (p := ⟨w.heap.size, k, none⟩) (Nat.le_refl _) _)
        generalize xs.getD k 0 = V at *
        generalize (parK xs k).getD k 0 = V0 at *
        clear hc
        go_wp2
        go_roundw
        case rel => exact ⟨k + 1, by omega, by omega, by go_num, HPS, HBS⟩
        case measure => simp [intOf]; omega
      · have l2 : ¬ (k : Int) < 9 := by omega
        have HQ : Hid (PRow wr w.heap.size (par9 xs)) := hidden (by unfold par9; rw [show min xs.length 9 = k by omega]; exact HP.out)
        go_wp2
        go_ret
        exact ⟨_, rfl, Nat.le_refl _, HQ.out, HB.out⟩
    · have l1 : ¬ (k : Int) < n := by omega
      have HQ : Hid (PRow wr w.heap.size (par9 xs)) := hidden (by unfold par9; rw [show min xs.length 9 = k by omega]; exact HP.out)
      go_wp2
      go_ret
      exact ⟨_, rfl, Nat.le_refl _, HQ.out, HB.out⟩
end Go.Proofs.Ytpgppdkbkkljnaa
namespace Go.Proofs.Ytpgppdkbkkljnaa
open Go.RowKit Go.Maps
set_option maxHeartbeats 1000000
set_option maxRecDepth 100000
set_option linter.unusedVariables false

theorem law32 : Keyed Try.prog 26 := int_keyed Try.underlying26
theorem zeroU (w : World) : (zeroValue 26).run Try.prog w = .ok (.int .u32 0) w := by kernel_rfl
theorem wf_u32' (x : Nat) (h : x < 4294967296) : (Lit.int .u32 (x : Int)).wf = true := by simp [Lit.wf, IntKind.min, IntKind.max, IntKind.signed, IntKind.bits]; omega
theorem key32 (x : Nat) (h : x < 4294967296) : keyOf Try.prog 26 (.int .u32 (x : Int)) = some (.int .u32 (x : Int)) := keyOf_int_mk Try.underlying26 (wf_u32' x h)
theorem lit_ne {a b : Nat} (h : a ≠ b) : (Lit.int .u32 (a : Int)) ≠ .int .u32 (b : Int) := by
  intro e
  simp only [Lit.int.injEq] at e
  omega
/-- a table's own cells -/
def TbBox (w : World) (T : Nat) (ps : List Nat) (mb : Nat) : Prop := w.heap[T]? = some (.cells (wdV ps ++ [Value.map (some mb)]).toArray 66 (0, 0))
/-- a table: its params, which function an address has, how many times one was told at most -/
structure TAt (B : Nat) (w : World) (T mb n : Nat) (ps : List Nat) (F : Nat → Nat) : Prop where
  base : B ≤ T
  basem : B ≤ mb
  ne : T ≠ mb
  ln : ps.length = 9
  box : TbBox w T ps mb
  mp : ∃ D : DataW Unit, w.ownsMap (H := Unit) Try.prog 26 (plainElem Try.prog 26) mb n D ∧ IsMap D ∧ ∀ x, x < 4294967296 → F x < 4294967296 ∧ D.atKey (.int .u32 (x : Int)) (.lit (.int .u32 0)) = .lit (.int .u32 (F x : Int))
theorem TbBox.cell {w : World} {T mb : Nat} {ps : List Nat} (h : TbBox w T ps mb) (hl : ps.length = 9) : (∀ i, i < 9 → w.cell? ⟨T, i, none⟩ = some (.int .u32 (ps.getD i 0 : Nat))) ∧ w.cell? ⟨T, 9, none⟩ = some (.map (some mb)) ∧ ∀ i, w.frozen? ⟨T, i, none⟩ = false := by
  unfold TbBox at h
  have hw : (wdV ps).length = 9 := by simp [wdV, hl]
  refine ⟨fun i hi => ?_, ?_, fun i => by simp [World.frozen?, h]⟩
  · have e : (wdV ps ++ [Value.map (some mb)])[i]? = some (.int .u32 (ps.getD i 0 : Nat)) := by
      rw [List.getElem?_append_left (by omega)]
      unfold wdV
      rw [List.getElem?_map, List.getElem?_eq_getElem (by omega), List.getD_eq_getElem?_getD, List.getElem?_eq_getElem (by omega)]; rfl
    simp [World.cell?, h, e]
  · have e : (wdV ps ++ [Value.map (some mb)])[9]? = some (.map (some mb)) := by
      rw [List.getElem?_append_right (by omega), hw]; rfl
    simp [World.cell?, h, e]
theorem new18 (w : World) : Calls Try.prog 10 #[] w fun e w' => ∃ T mb, e = .returned (.pointer (some ⟨T, 0, none⟩)) ∧ TAt w.heap.size w' T mb 0 z9 (fun _ => 0) ∧ Below w.heap.size w w' := by
  have hmm : ∀ w1 : World, (Instr.makeMap 63 none).run Try.prog w1 = .ok (.map (some w1.heap.size)) (w1.alloc (.map #[] 0)) := fun w1 => by
    simp [Instr.makeMap]
  have hb1 : Below w.heap.size w (w.alloc (.map #[] 0)) := (Below.refl _ _).alloc (Nat.le_refl _) _
  have hs : (w.alloc (.map #[] 0)).heap.size = w.heap.size + 1 := by simp
  have hb2 : Below w.heap.size w ((w.alloc (.map #[] 0)).alloc (.cells #[.int .u32 0, .int .u32 0, .int .u32 0, .int .u32 0, .int .u32 0, .int .u32 0, .int .u32 0, .int .u32 0, .int .u32 0, .map (some w.heap.size)] 66)) := hb1.alloc (by rw [hs]; omega) _
  have HO := hidden (World.ownsMap_made (H := Unit) w Try.prog 26 (plainElem Try.prog 26))
  go_enter Try.func10, Try.ntmps10
  go_wp2
  go_ret
  refine ⟨w.heap.size + 1, w.heap.size, rfl, ⟨by omega, Nat.le_refl _, by omega, rfl, ?_, .map [], HO.out.alloc _, isMap_empty, fun x hx => ⟨by omega, rfl⟩⟩, hb2⟩
  have := heap_alloc_new (w.alloc (.map #[] 0)) (.cells #[.int .u32 0, .int .u32 0, .int .u32 0, .int .u32 0, .int .u32 0, .int .u32 0, .int .u32 0, .int .u32 0, .int .u32 0, .map (some w.heap.size)] 66)
  rw [hs] at this
  exact this
theorem at18 (B T mb n : Nat) (ps : List Nat) (F : Nat → Nat) (x : Nat) (w : World) (H : TAt B w T mb n ps F) (hx : x < 4294967296) :
    Calls Try.prog 14 #[.pointer (some ⟨T, 0, none⟩), .int .u32 x] w fun e w' => e = .returned (.int .u32 (F x)) ∧ w' = w := by
  obtain ⟨_, c9, cf⟩ := H.box.cell H.ln
  obtain ⟨D, hO, hI, hA⟩ := H.mp
  have HO := hidden hO
  have HA := hidden (hA x hx)
  have HKY := hidden (key32 x hx)
  clear hO hA H
  go_enter Try.func14, Try.ntmps14
  go_wp2_with (first | (at_lookup; refine wpList_lookup_own_int _ rfl _ _ 63 rfl 26 26 .u32 law32 Try.underlying63 Try.underlying26 (zeroU _) mb n D rfl HO.out _ _ rfl HKY.out ?_; intro c hat hwc; have HAT := hidden hat; clear hat hwc) | fail)
  go_ret
  have hq := HAT.out
  rw [HA.out.2] at hq
  injection hq with hq
  injection hq with _ hq
  exact ⟨by rw [hq]; rfl, rfl⟩
theorem func18 (B T mb n : Nat) (ps : List Nat) (F : Nat → Nat) (x k : Nat) (w : World) (H : TAt B w T mb n ps F) (hx : x < 4294967296) (hk : k < 4294967296) (hn : n < 100000) (hB : B ≤ w.heap.size) :
    Calls Try.prog 12 #[.pointer (some ⟨T, 0, none⟩), .int .u32 k, .int .u32 x] w fun e w' => e = .returned (.tuple #[]) ∧ TAt B w' T mb (n + 1) ps (if 13 < k then F else fun y => if y = x then k else F y) ∧ w.grownBy w' (some mb) := by
  obtain ⟨cp, c9, cf⟩ := H.box.cell H.ln
  obtain ⟨D, hO, hI, hA⟩ := H.mp
  have hmb := hO.lt
  by_cases h13 : 13 < k
  · rw [if_pos h13]
    have l1 : (k : Int) > 13 := by omega
    have HH : Hid (TAt B w T mb (n + 1) ps F) := hidden ⟨H.base, H.basem, H.ne, H.ln, H.box, D, hO.mono (by omega), hI, hA⟩
    have HG : Hid (w.grownBy w (some mb)) := hidden (hO.turned_refl.grown)
    clear H hO hI hA c9 cf cp
    go_enter Try.func12, Try.ntmps12
    go_wp2
    refine bodyPost_ret (v := .tuple #[]) (by simp [results, Try.results12, go_sem]) rfl ⟨rfl, HH.out, HG.out⟩
  · rw [if_neg h13]
    have l1 : ¬ (k : Int) > 13 := by omega
    have hmc : ∀ w : World, (binOp BinOp.eql 63 (.map (some mb)) (.map none)).run Try.prog w = .ok (.bool false) w := fun w => by kernel_rfl
    have HKY := hidden (key32 x hx)
    have HO := hidden hO
    have HA := hidden hA
    have HI := hidden hI
    have HH := hidden H
    by_cases h0 : k = 0
    · have q0 : ((k : Int) == 0) = true := by rw [h0]; rfl
      clear hO hI hA H
      go_enter Try.func12, Try.ntmps12
      go_wp2_with (first | (at_delete; refine wpList_delete_own _ rfl _ _ 63 26 rfl 26 law32 Try.underlying63 _ mb n D rfl HO.out _ _ rfl HKY.out ?_; intro w1 hown1 hturn1; have HO1 := hidden hown1; have HT1 := hidden hturn1; clear hown1 hturn1) | fail)
      refine bodyPost_ret (v := .tuple #[]) (by simp [results, Try.results12, go_sem]) rfl ⟨rfl, ?_, HT1.out.grown⟩
      have hg := HT1.out.grown
      refine ⟨HH.out.base, HH.out.basem, HH.out.ne, HH.out.ln, ?_, D.del (.int .u32 (x : Int)), HO1.out.mono (by omega), ?_, fun y hy => ?_⟩
      · exact (hg.block T (Array.getElem?_eq_some_iff.1 HH.out.box).1 (fun e => HH.out.ne (Option.some.inj e))).trans HH.out.box
      · exact HI.out.del _
      · by_cases hyx : y = x
        · subst hyx
          rw [if_pos rfl]
          exact ⟨by omega, by first | exact atKey_del_same _ | (rw [h0]; exact atKey_del_same _)⟩
        · rw [if_neg hyx, atKey_del_other (lit_ne hyx)]
          exact HA.out y hy
    · have q0 : ((k : Int) == 0) = false := by rw [beq_eq_false_iff_ne]; omega
      clear hO hI hA H
      go_enter Try.func12, Try.ntmps12
      go_wp2_with (first | (at_mapUpdate; refine wpList_mapUpdate_own _ rfl _ _ _ 63 rfl 26 26 law32 Try.underlying63 _ mb n D rfl HO.out (by unfold maxLen; omega) _ _ _ rfl rfl HKY.out _ [] (plainElem_int Try.underlying26 (wf_u32' k hk)) ?_; intro w1 hown1 hgrow1; have HO1 := hidden hown1; have HG1 := hidden hgrow1; clear hown1 hgrow1) | fail)
      refine bodyPost_end (v := .tuple #[]) (by simp [results, Try.results12, go_sem]) rfl ⟨rfl, ?_, HG1.out⟩
      refine ⟨HH.out.base, HH.out.basem, HH.out.ne, HH.out.ln, ?_, D.put (.int .u32 (x : Int)) (.lit (.int .u32 (k : Int))), HO1.out, HI.out.put _ _, fun y hy => ?_⟩
      · exact (HG1.out.block T (Array.getElem?_eq_some_iff.1 HH.out.box).1 (fun e => HH.out.ne (Option.some.inj e))).trans HH.out.box
      · by_cases hyx : y = x
        · subst hyx
          rw [if_pos rfl]
          exact ⟨hk, atKey_put_same HI.out (by trivial) _ _⟩
        · rw [if_neg hyx, atKey_put_other (lit_ne hyx)]
          exact HA.out y hy
end Go.Proofs.Ytpgppdkbkkljnaa
namespace Go.Proofs.Ytpgppdkbkkljnaa
open Go.RowKit
set_option maxHeartbeats 1000000
set_option maxRecDepth 100000
set_option linter.unusedVariables false

def liv0 : List Int := (zer8 600).set 44 112
def liv1 : List Int := splice liv0 (316 - 256) (putL ((400 : Nat) : Int) ((4 : Nat) : Int))
def liv2 : List Int := splice liv1 (400 - 256) (putL ((1 : Nat) : Int) ((4 : Nat) : Int))
def liv3 : List Int := splice liv2 (404 - 256) (putL ((5 : Nat) : Int) ((2 : Nat) : Int))
def liv4 : List Int := splice liv3 (406 - 256) (putL ((2 : Nat) : Int) ((2 : Nat) : Int))
def liv5 : List Int := splice liv4 (408 - 256) (putL ((450 : Nat) : Int) ((4 : Nat) : Int))
def livP : List Nat := [0, 0, 9, 0, 0, 0, 0, 0, 0]
theorem livA : doA (layB liv5) 256 livP 2 [300, 5] = ⟨404, 0, 0⟩ := by kernel_rfl
theorem livB : doA (layB liv5) 256 livP 3 [300, 5] = ⟨450, 0, 0⟩ := by kernel_rfl
theorem livC : doA (layB liv5) 256 livP 4 [300, 5] = ⟨8, 0, 0⟩ := by kernel_rfl
theorem livD : doA (layB liv5) 256 livP 2 [20, 5] = ⟨0, 1, 0⟩ := by kernel_rfl
theorem okb_set {zs : List Int} (h : OkB zs) (i : Nat) (x : Int) (h0 : 0 ≤ x) (h1 : x ≤ 255) : OkB (zs.set i x) := by
  intro c hc
  rcases List.mem_or_eq_of_mem_set hc with h2 | h2
  · exact h c h2
  · subst h2; exact ⟨h0, h1⟩
theorem okb_splice {zs ys : List Int} (h : OkB zs) (k : OkB ys) (i : Nat) : OkB (splice zs i ys) := by
  intro c hc
  simp only [splice, List.mem_append] at hc
  rcases hc with hc | hc | hc
  · exact h c (List.mem_of_mem_take hc)
  · exact k c hc
  · exact h c (List.mem_of_mem_drop hc)
theorem okb_putL (x n : Int) : OkB (putL x n) := fun c hc => putL_bd x n c hc
theorem liv_ok : OkB liv5 := okb_splice (okb_splice (okb_splice (okb_splice (okb_splice (okb_set (zer8_okb 600) 44 112 (by decide) (by decide)) (okb_putL _ _) _) (okb_putL _ _) _) (okb_putL _ _) _) (okb_putL _ _) _) (okb_putL _ _) _
theorem Lay.memr {B : Nat} {w : World} {m d g : Nat} {bs : List Int} (h : Lay B w m d g bs) (hb : OkB bs) (hl : bs.length ≤ 1048576) : MemR w m bs 256 := by
  obtain ⟨h0, gb, gc, bb, bc, hh, hv, c, h1, h2, h3⟩ := h
  exact ⟨⟨B, gb, gc, bb, bc, hh, hv, msF bs, h1, rfl, rfl⟩, hb, hl, by decide⟩
theorem le_of {w w' : World} {S B : Nat} (h : w.heap.size = S) (hb : Below B w w') : S ≤ w'.heap.size := h ▸ hb.size
theorem own8_fz {B : Nat} {w : World} {g n c : Nat} {zs : List Int} (h : w.ownsRow B 5 1 (.slice (some ⟨g, 0, none⟩) n c) n (bytesV zs)) (i : Nat) : w.frozen? ⟨g, i, none⟩ = false := by
  obtain ⟨cur, _, hq, _⟩ := own8_cur h
  simp [World.frozen?, hq]
theorem vrow2 (w : World) (x y : Nat) (hx : x < 4294967296) (hy : y < 4294967296) : VRow (w.alloc (.cells #[.int .u32 (x : Int), .int .u32 (y : Int)] 26)) (some ⟨w.heap.size, 0, none⟩) 2 [x, y] := by
  have h : PRow (w.alloc (.cells (wdV [x, y]).toArray 26)) w.heap.size [x, y] := PRow.new w _
  exact h.row (by intro z hz; simp at hz; omega) 2 (by simp)
set_option maxHeartbeats 4000000 in
theorem live18 (w : World) : Calls Try.prog 9 #[] w fun e w' => e = .returned (.bool true) ∧ Below w.heap.size w w' := by
  have hmk : ∀ w, (Instr.makeSlice 50 (.int .i64 600) (.int .i64 600)).run Try.prog w = .ok (.slice (some ⟨w.heap.size, 0, none⟩) 600 600) (w.alloc (.cells (bytesV (zer8 600)).toArray 5)) := fun w => mk8 .i64 600 (by omega) w
  have hbA : Below w.heap.size w (w.alloc (.cells (bytesV (zer8 600)).toArray 5)) := (Below.refl _ _).alloc (Nat.le_refl _) _
  have ho := zer_own w w.heap.size 600 (Nat.le_refl _) (by omega)
  have hold := (own_bs ho).2 44 (by decide)
  rw [Nat.zero_add] at hold
  have hfz : (w.alloc (.cells (bytesV (zer8 600)).toArray 5)).frozen? ⟨w.heap.size, 44, none⟩ = false := own8_fz ho 44
  have HO0 := hidden (show ((w.alloc (.cells (bytesV (zer8 600)).toArray 5)).setCell ⟨w.heap.size, 44, none⟩ (.int .u8 112)).ownsRow w.heap.size 5 1 (.slice (some ⟨w.heap.size, 0, none⟩) 600 600) 600 (bytesV liv0) from own8_put ho 44 (by decide) 112)
  have HB0 := hidden (hbA.setCell (p := ⟨w.heap.size, 44, none⟩) (Nat.le_refl _) (.int .u8 112))
  clear ho hbA
  generalize (zer8 600).getD 44 0 = V0 at *
  generalize hz : (bytesV (zer8 600)).toArray = Z at *
  clear hz
  go_enter Try.func9, Try.ntmps9
  go_upto_region 2 with fail
  generalize w.alloc (.cells Z 5) = wA at *
  go_upto_region 3 with fail
  clear hold hfz hmk
  generalize wA.setCell ⟨w.heap.size, 44, none⟩ (.int .u8 112) = w0 at *
  generalize hS : w.heap.size = S at *
  have HS := hidden hS
  clear hS
  go_upto_region 4 with (go_at_call 22; refine (put18 S S 600 600 316 4 400 liv0 _ HO0.out (.inr rfl) (by decide) (by decide) (by decide) (by decide)).mono ?_; rintro e w1 ⟨rfl, ho, hf⟩; have HO1 : Hid (w1.ownsRow S 5 1 (.slice (some ⟨S, 0, none⟩) 600 600) 600 (bytesV liv1)) := hidden ho; have HB1 := hidden (HB0.out.trans (hf.below (le_of HS.out HB0.out) (fun k e => by rw [e]; exact Nat.le_refl _))); clear ho hf HO0 HB0)
  go_upto_region 5 with (go_at_call 22; refine (put18 S S 600 600 400 4 1 liv1 _ HO1.out (.inr rfl) (by decide) (by decide) (by decide) (by decide)).mono ?_; rintro e w2 ⟨rfl, ho, hf⟩; have HO2 : Hid (w2.ownsRow S 5 1 (.slice (some ⟨S, 0, none⟩) 600 600) 600 (bytesV liv2)) := hidden ho; have HB2 := hidden (HB1.out.trans (hf.below (le_of HS.out HB1.out) (fun k e => by rw [e]; exact Nat.le_refl _))); clear ho hf HO1 HB1)
  go_upto_region 6 with (go_at_call 22; refine (put18 S S 600 600 404 2 5 liv2 _ HO2.out (.inl rfl) (by decide) (by decide) (by decide) (by decide)).mono ?_; rintro e w3 ⟨rfl, ho, hf⟩; have HO3 : Hid (w3.ownsRow S 5 1 (.slice (some ⟨S, 0, none⟩) 600 600) 600 (bytesV liv3)) := hidden ho; have HB3 := hidden (HB2.out.trans (hf.below (le_of HS.out HB2.out) (fun k e => by rw [e]; exact Nat.le_refl _))); clear ho hf HO2 HB2)
  go_upto_region 7 with (go_at_call 22; refine (put18 S S 600 600 406 2 2 liv3 _ HO3.out (.inl rfl) (by decide) (by decide) (by decide) (by decide)).mono ?_; rintro e w4 ⟨rfl, ho, hf⟩; have HO4 : Hid (w4.ownsRow S 5 1 (.slice (some ⟨S, 0, none⟩) 600 600) 600 (bytesV liv4)) := hidden ho; have HB4 := hidden (HB3.out.trans (hf.below (le_of HS.out HB3.out) (fun k e => by rw [e]; exact Nat.le_refl _))); clear ho hf HO3 HB3)
  go_upto_region 8 with (go_at_call 22; refine (put18 S S 600 600 408 4 450 liv4 _ HO4.out (.inr rfl) (by decide) (by decide) (by decide) (by decide)).mono ?_; rintro e w5 ⟨rfl, ho, hf⟩; have HO5 : Hid (w5.ownsRow S 5 1 (.slice (some ⟨S, 0, none⟩) 600 600) 600 (bytesV liv5)) := hidden ho; have HB5 := hidden (HB4.out.trans (hf.below (le_of HS.out HB4.out) (fun k e => by rw [e]; exact Nat.le_refl _))); clear ho hf HO4 HB4)
  have HRD := hidden (own_reads HO5.out)
  go_upto_region 9 with (go_at_call 15; refine (laid18 _ _ _ _ _ HRD.out liv_ok).mono ?_; rintro e w6 ⟨m, d, g, rfl, hL, hb6⟩; have HM := hidden (hL.memr (lay_ok _ liv_ok _) (by rw [show (layB liv5).length = 2048 from lay_len _ _ (by decide)]; decide)); have HB6 := hidden (HB5.out.trans (hb6.mono (le_of HS.out HB5.out))); clear hL hb6 HB5 HO5 HRD)
  have hmk9 := mk9
  have hP : PRow (w6.alloc (.cells (wdV z9).toArray 26)) w6.heap.size z9 := PRow.new w6 _
  have hc2 := hP.cell 2 (by decide)
  have hf2 := hP.fz 2
  have HP : Hid (PRow ((w6.alloc (.cells (wdV z9).toArray 26)).setCell ⟨w6.heap.size, 2, none⟩ (.int .u32 9)) w6.heap.size livP) := hidden (hP.set 2 9)
  have hb : Below w6.heap.size w6 ((w6.alloc (.cells (wdV z9).toArray 26)).setCell ⟨w6.heap.size, 2, none⟩ (.int .u32 9)) := ((Below.refl _ _).alloc (Nat.le_refl _) _).setCell (p := ⟨w6.heap.size, 2, none⟩) (Nat.le_refl _) _
  replace HM := hidden (HM.out.later hb)
  have HB7 := hidden (HB6.out.trans (hb.mono (le_of HS.out HB6.out)))
  clear hb hP HB6
  generalize hZZ : (wdV z9).toArray = Z9 at *
  clear hZZ
  go_upto_region 12 with fail
  generalize w6.alloc (.cells Z9 26) = wB at *
  go_upto_region 13 with fail
  clear hc2 hf2 hmk9
  generalize wB.setCell ⟨w6.heap.size, 2, none⟩ (.int .u32 9) = w7 at *
  generalize w6.heap.size = P at *
  have hlv : ∀ z ∈ livP, z < 4294967296 := by decide
  have hb : Below w7.heap.size w7 (w7.alloc (.cells #[.int .u32 300, .int .u32 5] 26)) := (Below.refl _ _).alloc (Nat.le_refl _) _
  have HD := hidden (do_good m (layB liv5) 256 (some ⟨P, 0, none⟩) 9 livP 2 (some ⟨w7.heap.size, 0, none⟩) 2 2 [300, 5] _ (HM.out.later hb) ((HP.out.later hb).row hlv 9 (by decide)) (vrow2 w7 300 5 (by decide) (by decide)) (by decide) (by decide))
  rw [livA] at HD
  have HBX := hidden hb
  clear hb
  go_upto_region 14 with (go_at_call 20; refine HD.out.mono ?_; rintro e w8 ⟨rfl, hb8⟩; have HBY := hidden (HBX.out.trans (hb8.mono HBX.out.size)); replace HM := hidden (HM.out.later HBY.out); replace HP := hidden (HP.out.later HBY.out); have HB8 := hidden (HB7.out.trans (HBY.out.mono (le_of HS.out HB7.out))); clear hb8 HBX HBY HD HB7)
  have hb : Below w8.heap.size w8 (w8.alloc (.cells #[.int .u32 300, .int .u32 5] 26)) := (Below.refl _ _).alloc (Nat.le_refl _) _
  have HD := hidden (do_good m (layB liv5) 256 (some ⟨P, 0, none⟩) 9 livP 3 (some ⟨w8.heap.size, 0, none⟩) 2 2 [300, 5] _ (HM.out.later hb) ((HP.out.later hb).row hlv 9 (by decide)) (vrow2 w8 300 5 (by decide) (by decide)) (by decide) (by decide))
  rw [livB] at HD
  have HBX := hidden hb
  clear hb
  go_upto_region 15 with (go_at_call 20; refine HD.out.mono ?_; rintro e w9 ⟨rfl, hb8⟩; have HBY := hidden (HBX.out.trans (hb8.mono HBX.out.size)); replace HM := hidden (HM.out.later HBY.out); replace HP := hidden (HP.out.later HBY.out); have HB9 := hidden (HB8.out.trans (HBY.out.mono (le_of HS.out HB8.out))); clear hb8 HBX HBY HD HB8)
  have hb : Below w9.heap.size w9 (w9.alloc (.cells #[.int .u32 300, .int .u32 5] 26)) := (Below.refl _ _).alloc (Nat.le_refl _) _
  have HD := hidden (do_good m (layB liv5) 256 (some ⟨P, 0, none⟩) 9 livP 4 (some ⟨w9.heap.size, 0, none⟩) 2 2 [300, 5] _ (HM.out.later hb) ((HP.out.later hb).row hlv 9 (by decide)) (vrow2 w9 300 5 (by decide) (by decide)) (by decide) (by decide))
  rw [livC] at HD
  have HBX := hidden hb
  clear hb
  go_upto_region 16 with (go_at_call 20; refine HD.out.mono ?_; rintro e w10 ⟨rfl, hb8⟩; have HBY := hidden (HBX.out.trans (hb8.mono HBX.out.size)); replace HM := hidden (HM.out.later HBY.out); replace HP := hidden (HP.out.later HBY.out); have HB10 := hidden (HB9.out.trans (HBY.out.mono (le_of HS.out HB9.out))); clear hb8 HBX HBY HD HB9)
  have hb : Below w10.heap.size w10 (w10.alloc (.cells #[.int .u32 20, .int .u32 5] 26)) := (Below.refl _ _).alloc (Nat.le_refl _) _
  have HD := hidden (do_good m (layB liv5) 256 (some ⟨P, 0, none⟩) 9 livP 2 (some ⟨w10.heap.size, 0, none⟩) 2 2 [20, 5] _ (HM.out.later hb) ((HP.out.later hb).row hlv 9 (by decide)) (vrow2 w10 20 5 (by decide) (by decide)) (by decide) (by decide))
  rw [livD] at HD
  have HBX := hidden hb
  clear hb
  go_upto_region 17 with (go_at_call 20; refine HD.out.mono ?_; rintro e w11 ⟨rfl, hb8⟩; have HBY := hidden (HBX.out.trans (hb8.mono HBX.out.size)); replace HM := hidden (HM.out.later HBY.out); replace HP := hidden (HP.out.later HBY.out); have HB11 := hidden (HB10.out.trans (HBY.out.mono (le_of HS.out HB10.out))); clear hb8 HBX HBY HD HB10)
  go_upto_region 18 with (go_at_call 10; refine (new18 _).mono ?_; rintro e w12 ⟨T, mb, rfl, hT, hb12⟩; have HT := hidden hT; have HBT := hidden (HB11.out.trans (hb12.mono (le_of HS.out HB11.out))); have HS11 := hidden (le_of HS.out HB11.out); clear hT hb12 HB11)
  go_upto_region 19 with (go_at_call 12; refine (func18 _ T mb 0 z9 _ 40 3 _ HT.out (by decide) (by decide) (by decide) (by have := HT.out.base; have := (Array.getElem?_eq_some_iff.1 HT.out.box).1; omega)).mono ?_; rintro e w13 ⟨rfl, hT, hg⟩; have HBU := hidden (HBT.out.grown hg (le_of HS.out HBT.out) (fun k e => by cases e; have := HT.out.basem; have := HS11.out; omega)); have HT2 := hidden hT; clear hT hg HBT HT)
  have HAT := hidden (at18 _ T mb 1 z9 _ 40 w13 HT2.out (by decide))
  go_wp2_with (first
    | (go_at_call 19; refine (num18 _ _).mono ?_; rintro e w20 ⟨rfl, e9⟩; rw [e9]; clear e9)
    | (go_at_call 14; refine HAT.out.mono ?_; rintro e w20 ⟨rfl, e9⟩; rw [e9]; clear e9)
    | (go_at_call 23; refine (slip_find _).mono ?_; rintro e w20 ⟨⟨t, rfl, ht⟩, e9⟩; rw [e9]; clear e9)
    | fail)
  go_ret
  have ht2 : decide ((10 : Int) < (t.size : Int)) = true := decide_eq_true (by omega)
  refine ⟨by simp only [ht2]; rfl, ?_⟩
  rw [HS.out]
  exact HBU.out
end Go.Proofs.Ytpgppdkbkkljnaa
