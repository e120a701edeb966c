/- Two stacks of the program's, side by side; the walk of StackBack. -/
import Derived.Test.YtgmiemekcloknaaM10F
namespace Go.Proofs.Ytgmiemekcloknaa
open Go.RowKit
set_option maxHeartbeats 1000000
set_option maxRecDepth 100000
set_option linter.unusedVariables false

def TwoK (B m d : Nat) (w0 w : World) (s t : Ks) : Prop := ∃ v u, KAt B w m v s ∧ KAt B w d u t ∧ (∀ k, TK m v k → ¬ TK d u k) ∧ Below B w0 w ∧ B ≤ w.heap.size
theorem TwoK.swap {B m d : Nat} {w0 w : World} {s t : Ks} (r : TwoK B m d w0 w s t) : TwoK B d m w0 w t s := by
  obtain ⟨v, u, h1, h2, h4, h5, h6⟩ := r
  exact ⟨u, v, h2, h1, fun k e e' => h4 k e' e, h5, h6⟩
theorem TwoK.next {B m d : Nat} {w0 w w' : World} {v u : Value} {s t s' : Ks} (h1 : KAt B w m v s) (h2 : KAt B w d u t) (h4 : ∀ k, TK m v k → ¬ TK d u k) (h5 : Below B w0 w) (h6 : B ≤ w.heap.size) (l : LeftK B w w' m v s') : TwoK B m d w0 w' s' t := by
  obtain ⟨v', hp', f⟩ := l
  refine ⟨v', u, hp', ⟨h2.base, by rw [f.block d h2.lt (fun e => h4 d e (.inl rfl))]; exact h2.box, own8_fm f h2.row (fun k e e' => h4 k e' (.inr e))⟩, fun k hk e => ?_, h5.trans (f.below h6 (fun k e => (h1.low k e).1)), Nat.le_trans h6 f.size⟩
  rcases f.row k hk with h' | h'
  · exact h4 k h' e
  · have := (h2.low k e).2; omega
theorem TwoK.later {B m d : Nat} {w0 w w' : World} {s t : Ks} (r : TwoK B m d w0 w s t) (hb : Below w.heap.size w w') : TwoK B m d w0 w' s t := by
  obtain ⟨v, u, h1, h2, h4, h5, h6⟩ := r
  exact ⟨v, u, h1.later hb, h2.later hb, h4, h5.trans (hb.mono h6), Nat.le_trans h6 hb.size⟩
theorem TwoK.base {B m d : Nat} {w0 w : World} {s t : Ks} (r : TwoK B m d w0 w s t) : Below B w0 w := by
  obtain ⟨v, u, h1, h2, h4, h5, h6⟩ := r
  exact h5
theorem TwoK.new {B m : Nat} {w0 w : World} {s : Ks} (r : RunG B m w0 w s []) :
    Calls Try.prog 10 #[.int .i64 2048] w fun e w' => e = .returned (.tuple #[.pointer (some ⟨w.heap.size, 0, none⟩), .int .i64 0]) ∧ Hid (TwoK B m w.heap.size w0 w' s ⟨2048, [], 0, false⟩) := by
  obtain ⟨v, h1, h2, h3, hg⟩ := r
  refine (knew_any 2048 w (by omega) (by omega)).mono ?_
  rintro e w' ⟨rfl, hk, hb2⟩
  refine ⟨rfl, v, _, h1.later hb2, ⟨Nat.le_trans h3 hk.base, hk.box, own_base hk.row h3⟩, fun k e e' => ?_, h2.trans (hb2.mono h3), Nat.le_trans h3 hb2.size⟩
  have a1 := (h1.low k e).2
  have a2 := (hk.low k e').1
  omega

theorem TwoK.kStub {B m d : Nat} {w0 w : World} {s t : Ks} (r : TwoK B m d w0 w s t) (ok : OkK s) (x y z : Nat) (hx : x < 4294967296) (hy : y < 4294967296) (hz : z < 4294967296) :
    Calls Try.prog 27 #[.pointer (some ⟨m, 0, none⟩), .int .u32 x, .int .u32 y, .int .u32 z] w fun e w' => e = .returned (.int .i64 (stubUE s)) ∧ Hid (TwoK B m d w0 w' (stubS s x y z) t) := by
  obtain ⟨v, u, h1, h2, h4, h5, h6⟩ := r
  exact (kStub_any B m x y z v s w h1 h6 ok hx hy hz).mono (fun e w' hh => ⟨hh.1, TwoK.next h1 h2 h4 h5 h6 hh.2⟩)
theorem TwoK.kUnstub {B m d : Nat} {w0 w : World} {s t : Ks} (r : TwoK B m d w0 w s t) (ok : OkK s) :
    Calls Try.prog 20 #[.pointer (some ⟨m, 0, none⟩)] w fun e w' => e = .returned (.tuple #[.int .u32 (unV s 0), .int .u32 (unV s 4), .int .u32 (unV s 8), .int .i64 (stubE s)]) ∧ Hid (TwoK B m d w0 w' (unstubS s) t) := by
  obtain ⟨v, u, h1, h2, h4, h5, h6⟩ := r
  exact (kUnstub_any B m v s w h1 ok).mono (fun e w' hh => ⟨hh.1, TwoK.next h1 h2 h4 h5 h6 hh.2⟩)
theorem TwoK.kLeave {B m d : Nat} {w0 w : World} {s t : Ks} (r : TwoK B m d w0 w s t) (ok : OkK s) :
    Calls Try.prog 19 #[.pointer (some ⟨m, 0, none⟩)] w fun e w' => e = .returned (.int .i64 (leaveE s)) ∧ Hid (TwoK B m d w0 w' (leaveS s) t) := by
  obtain ⟨v, u, h1, h2, h4, h5, h6⟩ := r
  exact (kLeave_any B m v s w h1 ok).mono (fun e w' hh => ⟨hh.1, TwoK.next h1 h2 h4 h5 h6 hh.2⟩)
theorem TwoK.kLoad {B m d : Nat} {w0 w : World} {s t : Ks} (r : TwoK B m d w0 w s t) (ok : OkK s) (fa : Option Addr) (n fc : Nat) (zs : List Int) (hr : Reads w fa n fc zs) (hz : OkB zs) (hn : n ≤ 100000) :
    Calls Try.prog 13 #[.pointer (some ⟨m, 0, none⟩), .slice fa n fc] w fun e w' => e = .returned (.int .i64 (loadE s zs)) ∧ Hid (TwoK B m d w0 w' (loadS s zs) t) := by
  obtain ⟨v, u, h1, h2, h4, h5, h6⟩ := r
  exact (kLoad_any B m v s w h1 h6 ok.most fa n fc zs hr hz (by omega)).mono (fun e w' hh => ⟨hh.1, TwoK.next h1 h2 h4 h5 h6 hh.2⟩)
theorem TwoK.kFrame {B m d : Nat} {w0 w : World} {s t : Ks} (r : TwoK B m d w0 w s t) (ok : OkK s) :
    Calls Try.prog 24 #[.pointer (some ⟨m, 0, none⟩)] w fun e w' => e = .returned (.tuple #[.int .u32 s.fr, .bool s.on]) ∧ w' = w := by
  obtain ⟨v, u, h1, h2, h4, h5, h6⟩ := r
  obtain ⟨a, c, rfl, kc⟩ := h1.kc'
  exact kFrame_any m a c s w kc ok
theorem TwoK.kCount {B m d : Nat} {w0 w : World} {s t : Ks} (r : TwoK B m d w0 w s t) (ok : OkK s) :
    Calls Try.prog 34 #[.pointer (some ⟨m, 0, none⟩)] w fun e w' => e = .returned (.int .i64 (countV s)) ∧ Hid (TwoK B m d w0 w' s t) := by
  have r' := r
  obtain ⟨v, u, h1, h2, h4, h5, h6⟩ := r
  obtain ⟨a, c, rfl, kc⟩ := h1.kc'
  exact (kCount_any m a c s w kc ok).mono (fun e w' hh => ⟨hh.1, r'.later hh.2.below⟩)
theorem TwoK.kBytes {B m d : Nat} {w0 w : World} {s t : Ks} (r : TwoK B m d w0 w s t) (ok : OkK s) :
    Calls Try.prog 18 #[.pointer (some ⟨m, 0, none⟩)] w fun e w' => ∃ a' c', e = .returned (.slice a' s.bs.length c') ∧ Hid (Reads w' a' s.bs.length c' s.bs) ∧ Hid (TwoK B m d w0 w' s t) ∧ Hid (Below w.heap.size w w') := by
  have r' := r
  obtain ⟨v, u, h1, h2, h4, h5, h6⟩ := r
  refine (kBytes_any B m v s w h1 (by have := ok.sz; have := ok.most; omega)).mono ?_
  rintro e w' ⟨a', c', rfl, ho, hb⟩
  exact ⟨a', c', rfl, own_read8 (v := .slice a' s.bs.length c') ho, r'.later hb, hb⟩
theorem stub_on {s : Ks} (h : stubUE s = 0) : s.on = true := (lack_zero (roomFor_zero h).1).1
/-- a stack loaded with the bytes behind a stub is that stack -/
theorem load_back {s : Ks} (ok : OkK s) (hsz : s.size = 2048) (a b c : Nat) (h : stubUE s = 0) : loadE ⟨2048, [], 0, false⟩ (stubS s a b c).bs = 0 ∧ loadS ⟨2048, [], 0, false⟩ (stubS s a b c).bs = stubS s a b c := by
  have hon := stub_on h
  have hro := (roomFor_zero h).2
  have hb := ok.bd hon
  have hc := ok.cur hon
  have hcb := hc.fr.bd
  have hcl := hc.fr.len
  have hmo := ok.most
  have hss := ok.sz
  have he : endK s = s.fr + nu s.bs s.fr := rfl
  have e0 : stubS s a b c = { s with bs := s.bs ++ putStub a b c s.fr } := by unfold stubS; rw [if_pos h]
  have hl : (s.bs ++ putStub a b c s.fr).length = s.bs.length + 16 := by simp [putStub, putL]
  have hn : nu (s.bs ++ putStub a b c s.fr) ((s.bs ++ putStub a b c s.fr).length - 4) = s.fr := by
    have := nu_put (s.bs ++ (putL (a : Int) 4 ++ (putL (b : Int) 4 ++ putL (c : Int) 4))) [] s.fr (by omega)
    rw [hl]
    have e1 : s.bs ++ putStub a b c s.fr = s.bs ++ (putL (a : Int) 4 ++ (putL (b : Int) 4 ++ putL (c : Int) 4)) ++ (putL (s.fr : Int) 4 ++ []) := by simp [putStub]
    have e2 : (s.bs ++ (putL (a : Int) 4 ++ (putL (b : Int) 4 ++ putL (c : Int) 4))).length = s.bs.length + 16 - 4 := by simp [putL]
    rw [e2] at this
    rw [e1]
    exact this
  have hr : rightB (s.bs ++ putStub a b c s.fr) = true := by
    refine (rightB_iff _).2 ⟨by rw [hl]; have := ok.mod; omega, by omega, ?_⟩
    rw [hn, hl]
    exact hc.move (k := s.bs.length) (by rw [List.take_append_of_le_length (Nat.le_refl _)]) (by omega) (by omega) (by omega)
  have e2 : loadE ⟨2048, [], 0, false⟩ (s.bs ++ putStub a b c s.fr) = 0 := by
    unfold loadE
    rw [if_pos ⟨by simp only; omega, hr⟩]
  rw [e0]
  refine ⟨e2, ?_⟩
  unfold loadS
  simp only
  rw [if_pos e2, hn]
  obtain ⟨z, bs, fr, on⟩ := s
  simp only at hsz hon ⊢
  rw [hsz, hon]
/-- a round takes a stub and a frame -/
theorem back_less {s : Ks} (ok : OkK s) (h : stubE s = 0) : (leaveS (unstubS s)).bs.length + 28 ≤ s.bs.length := by
  have h1 := (stub_zero ok h).1
  have o1 := ok_unstub ok
  have e1 : unstubS s = ⟨s.size, s.bs.take (s.bs.length - 16), nu s.bs (s.bs.length - 4), true⟩ := by unfold unstubS; rw [if_pos h]
  have hon : (unstubS s).on = true := by rw [e1]
  have hb := o1.bd hon
  have hl : (unstubS s).bs.length = s.bs.length - 16 := by rw [e1]; simp
  have e2 : leaveE (unstubS s) = 0 := by
    unfold leaveE lackE
    rw [if_neg (by rw [hon]; simp), if_neg (by omega)]
  have e3 : (leaveS (unstubS s)).bs = (unstubS s).bs.take (unstubS s).fr := by unfold leaveS; rw [if_pos e2]
  rw [e3, List.length_take]
  omega

theorem stackBack_walk (ao : Option Addr) (len cap : Nat) (rs : List Ac) (a : Int) (w : World) (hA : IsActs w ao len cap rs) (ha : (Lit.int .u32 a).wf = true) :
    Calls Try.prog 7 #[.slice ao len cap, .int .u32 a] w fun e w' => e = .returned (.bool true) ∧ Below w.heap.size w w' := by
  have HLV : Hid (∀ w1, Below w.heap.size w w1 → Calls Try.prog 9 #[] w1 fun e w' => e = .returned (.bool true) ∧ Below w.heap.size w w') := fun w1 hb => (live_any w1).mono (fun e w' hh => ⟨hh.1, hb.trans (hh.2.mono hb.size)⟩)
  have HH := hidden (huge_any ao len cap rs w hA)
  have ha2 := bounds_u32 ha
  obtain ⟨x, rfl⟩ := Int.eq_ofNat_of_zero_le ha2.1
  have hx : x < 4294967296 := by omega
  cases hu : hugeB rs with
  | true =>
    rw [hu] at HH
    clear hA hu
    go_enter Try.func7, Try.ntmps7
    go_wp2_with (first | (go_at_call 21; refine HH.out.mono ?_; rintro e wh ⟨rfl, hbh⟩) | (go_at_call 9; refine (HLV.out _ hbh).mono ?_; rintro e wl ⟨rfl, hbl⟩))
    go_ret
    exact ⟨rfl, hbl⟩
  | false =>
  rw [hu] at HH
  have HBG := hidden (fun wh (hb : Below w.heap.size w wh) => begin_at ao len cap rs w wh hA hu hb)
  clear hA hu
  go_enter Try.func7, Try.ntmps7
  go_wp2_with (first | (go_at_call 21; refine HH.out.mono ?_; rintro e wh ⟨rfl, hbh⟩) | (go_at_call 22; refine (HBG.out _ hbh).mono ?_; rintro e wb ⟨m, rfl, s, RG, HO⟩) | (go_at_call 10; refine (TwoK.new RG.out).mono ?_; rintro e wn ⟨rfl, T0⟩) | (go_at_call 11; refine (num10 _ _).mono ?_; rintro e w9 ⟨rfl, e9⟩; rw [e9]; clear e9))
  have HST := hidden (T0.out.kStub HO.out.1 x x x hx hx hx)
  generalize wb.heap.size = d at *
  by_cases he : stubUE s = 0
  · obtain ⟨l1, l2⟩ := load_back HO.out.1 HO.out.2 x x x he
    have HOK : Hid (OkK (stubS s x x x)) := ok_stub HO.out.1 x x x
    have HLN : Hid ((stubS s x x x).bs.length ≤ 2048) := by
      have := HOK.out.sz
      have : (stubS s x x x).size = 2048 := (size_stub s x x x).trans HO.out.2
      show _ ≤ _
      omega
    rw [he] at HST
    have HOB := hidden HOK.out.okb
    have HLO := hidden (fun wx a' c' (T : TwoK w.heap.size m d w wx (stubS s x x x) ⟨2048, [], 0, false⟩) (hr : Reads wx a' (stubS s x x x).bs.length c' (stubS s x x x).bs) => by
      have := T.swap.kLoad (ok_new 2048 (by omega)) a' _ c' _ hr HOB.out (by have := HLN.out; omega)
      rw [l1, l2] at this
      exact this)
    have HBY := hidden (fun wx (T : TwoK w.heap.size m d w wx (stubS s x x x) ⟨2048, [], 0, false⟩) => T.kBytes HOK.out)
    clear l1 l2 he HO T0 RG
    generalize stubS s x x x = s1 at *
    refine HST.out.mono ?_
    rintro e ws ⟨rfl, T1⟩
    go_wp2_with (first | (go_at_call 11; refine (num10 _ _).mono ?_; rintro e w9 ⟨rfl, e9⟩; rw [e9]; clear e9) | (go_at_call 18; refine (HBY.out _ T1.out).mono ?_; rintro e wy ⟨a', c', rfl, HRD, T2, HBE⟩) | (go_at_call 13; refine (HLO.out _ _ _ T2.out HRD.out).mono ?_; rintro e wz ⟨rfl, T3⟩))
    have T4 := hidden T3.out.swap
    clear HST HLO HBY T1 T2 T3 HRD HBE
    go_loopw [8] (fun i wr => ∃ (k : Nat) (s : Ks), i = .int .i64 k ∧ s.bs.length + 28 * k ≤ 2048 ∧ Hid (TwoK w.heap.size m d w wr s s) ∧ Hid (OkK s)) (fun i _ => 600 - (intOf i).toNat)
    case atStart => exact ⟨0, s1, rfl, by have := HLN.out; omega, T4, HOK⟩
    case round =>
      clear T4 HOK HOB HLN
      obtain ⟨k, s, rfl, hk, T, HOK⟩ := hrel
      have d1 : (k : Int) < 600 := by omega
      have w5 : IntKind.i64.wrap ((k : Int) + 1) = (k : Int) + 1 := by rw [IntKind.wrap_i64]; omega
      have HO1 := hidden (ok_unstub HOK.out)
      have HO2 := hidden (ok_leave HO1.out)
      have HLE := hidden (back_less HOK.out)
      have H1 := hidden (T.out.kUnstub HOK.out)
      have H2 := hidden (fun wx (q : TwoK w.heap.size m d w wx (unstubS s) s) => q.swap.kUnstub HOK.out)
      have H3 := hidden (fun wx (q : TwoK w.heap.size d m w wx (unstubS s) (unstubS s)) => q.swap.kFrame HO1.out)
      have H4 := hidden (fun wx (q : TwoK w.heap.size d m w wx (unstubS s) (unstubS s)) => q.kFrame HO1.out)
      have H5 := hidden (fun wx (q : TwoK w.heap.size d m w wx (unstubS s) (unstubS s)) => q.swap.kCount HO1.out)
      have H6 := hidden (fun wx (q : TwoK w.heap.size m d w wx (unstubS s) (unstubS s)) => q.swap.kCount HO1.out)
      have H7 := hidden (fun wx (q : TwoK w.heap.size d m w wx (unstubS s) (unstubS s)) => q.swap.kBytes HO1.out)
      have H8 := hidden (fun wx (q : TwoK w.heap.size m d w wx (unstubS s) (unstubS s)) => q.swap.kBytes HO1.out)
      have H9 := hidden (fun a1 c1 a2 c2 wx (r1 : Reads wx a1 (unstubS s).bs.length c1 (unstubS s).bs) (r2 : Reads wx a2 (unstubS s).bs.length c2 (unstubS s).bs) => same_eq a1 a2 _ c1 _ c2 _ wx HO1.out.okb r1 r2)
      have H10 := hidden (fun wx (q : TwoK w.heap.size d m w wx (unstubS s) (unstubS s)) => q.swap.kLeave HO1.out)
      have H11 := hidden (fun wx (q : TwoK w.heap.size m d w wx (leaveS (unstubS s)) (unstubS s)) => q.swap.kLeave HO1.out)
      by_cases hf : stubE s = 0
      · have hle := HLE.out hf
        rw [hf] at H1 H2
        clear HLE hf HOK T HO1
        generalize unV s 0 = V0 at *
        generalize unV s 4 = V1 at *
        generalize unV s 8 = V2 at *
        generalize leaveE (unstubS s) = E2 at *
        generalize hs3 : leaveS (unstubS s) = s3 at *
        clear hs3
        generalize countV (unstubS s) = CV at *
        generalize unstubS s = s2 at *
        go_wp2_with (first | (go_at_call 11; refine (num10 _ _).mono ?_; rintro e w9 ⟨rfl, e9⟩; rw [e9]; clear e9) | (go_at_call 20; refine (H1.out).mono ?_; rintro e wA ⟨rfl, TA⟩; clear H1) | (go_at_call 20; refine (H2.out _ TA.out).mono ?_; rintro e wB ⟨rfl, TB⟩; clear H2) | (go_at_call 24; refine (H3.out _ TB.out).mono ?_; rintro e wC ⟨rfl, eC⟩; rw [eC]; clear eC H3) | (go_at_call 24; refine (H4.out _ TB.out).mono ?_; rintro e wD ⟨rfl, eD⟩; rw [eD]; clear eD H4) | (go_at_call 34; refine (H5.out _ TB.out).mono ?_; rintro e wE ⟨rfl, TC⟩; clear H5) | (go_at_call 34; refine (H6.out _ TC.out).mono ?_; rintro e wF ⟨rfl, TD⟩; clear H6) | (go_at_call 18; refine (H7.out _ TD.out).mono ?_; rintro e wG ⟨a1, c1, rfl, RA, TF, BA⟩; clear H7) | (go_at_call 18; refine (H8.out _ TF.out).mono ?_; rintro e wH ⟨a2, c2, rfl, RB, TG, BB⟩; have RA2 := hidden (RA.out.later BB.out); clear H8) | (go_at_call 17; refine (H9.out _ _ _ _ _ RA2.out RB.out).mono ?_; rintro e wI ⟨rfl, eI⟩; rw [eI]; clear eI H9) | (go_at_call 19; refine (H10.out _ TG.out).mono ?_; rintro e wJ ⟨rfl, TH⟩; clear H10) | (go_at_call 19; refine (H11.out _ TH.out).mono ?_; rintro e wK ⟨rfl, TE⟩; have HB1 := hidden TE.out.base; clear H11) | (go_at_call 9; refine (HLV.out _ HB1.out).mono ?_; rintro e wl ⟨rfl, hbl⟩))
        go_roundw
        case rel => exact ⟨k + 1, s3, int_eq (by omega), by omega, TE.out.swap, HO2⟩
        case measure => simp [intOf]; omega
      · have q1 : ¬ ((stubE s : Nat) : Int) = 0 := by omega
        clear HLE hf HOK T HO1
        generalize unV s 0 = V0 at *
        generalize unV s 4 = V1 at *
        generalize unV s 8 = V2 at *
        generalize stubE s = E1 at *
        generalize leaveE (unstubS s) = E2 at *
        generalize hs3 : leaveS (unstubS s) = s3 at *
        clear hs3
        generalize countV (unstubS s) = CV at *
        generalize unstubS s = s2 at *
        go_wp2_with (first | (go_at_call 11; refine (num10 _ _).mono ?_; rintro e w9 ⟨rfl, e9⟩; rw [e9]; clear e9) | (go_at_call 20; refine (H1.out).mono ?_; rintro e wA ⟨rfl, TA⟩; clear H1) | (go_at_call 20; refine (H2.out _ TA.out).mono ?_; rintro e wB ⟨rfl, TB⟩; clear H2) | (go_at_call 24; refine (H3.out _ TB.out).mono ?_; rintro e wC ⟨rfl, eC⟩; rw [eC]; clear eC H3) | (go_at_call 24; refine (H4.out _ TB.out).mono ?_; rintro e wD ⟨rfl, eD⟩; rw [eD]; clear eD H4) | (go_at_call 34; refine (H5.out _ TB.out).mono ?_; rintro e wE ⟨rfl, TC⟩; clear H5) | (go_at_call 34; refine (H6.out _ TC.out).mono ?_; rintro e wF ⟨rfl, TD⟩; clear H6) | (go_at_call 18; refine (H7.out _ TD.out).mono ?_; rintro e wG ⟨a1, c1, rfl, RA, TF, BA⟩; clear H7) | (go_at_call 18; refine (H8.out _ TF.out).mono ?_; rintro e wH ⟨a2, c2, rfl, RB, TG, BB⟩; have RA2 := hidden (RA.out.later BB.out); clear H8) | (go_at_call 17; refine (H9.out _ _ _ _ _ RA2.out RB.out).mono ?_; rintro e wI ⟨rfl, eI⟩; rw [eI]; clear eI H9) | (go_at_call 19; refine (H10.out _ TG.out).mono ?_; rintro e wJ ⟨rfl, TH⟩; clear H10) | (go_at_call 19; refine (H11.out _ TH.out).mono ?_; rintro e wK ⟨rfl, TE⟩; have HB1 := hidden TE.out.base; clear H11) | (go_at_call 9; refine (HLV.out _ HB1.out).mono ?_; rintro e wl ⟨rfl, hbl⟩))
        go_ret
        exact ⟨rfl, hbl⟩
  · have q1 : ¬ ((stubUE s : Nat) : Int) = 0 := by omega
    clear he HO T0 RG
    generalize stubUE s = E at *
    refine HST.out.mono ?_
    rintro e ws ⟨rfl, T1⟩
    have HB1 := hidden T1.out.base
    go_wp2_with (first | (go_at_call 11; refine (num10 _ _).mono ?_; rintro e w9 ⟨rfl, e9⟩; rw [e9]; clear e9) | (go_at_call 9; refine (HLV.out _ HB1.out).mono ?_; rintro e wl ⟨rfl, hbl⟩))
    go_ret
    exact ⟨rfl, hbl⟩
end Go.Proofs.Ytgmiemekcloknaa
