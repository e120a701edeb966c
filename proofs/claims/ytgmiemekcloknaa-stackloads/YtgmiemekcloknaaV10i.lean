/- The walk of StackLoads: which bytes are a stack is as the document says; what is loaded is there, and all of its frames can be left. -/
import Derived.Test.YtgmiemekcloknaaV10f
import Derived.Test.YtgmiemekcloknaaV10h
import Derived.Test.YtgmiemekcloknaaS10r
namespace Go.Proofs.Ytgmiemekcloknaa
open Go.RowKit
set_option maxHeartbeats 1000000
set_option maxRecDepth 100000
set_option linter.unusedVariables false

/-- bytes that are lent, with one more behind them -/
def LentAt (w : World) (g len : Nat) (zs : List Int) : Prop := ∀ i, i < len + 1 → w.cell? ⟨g, 0 + i, none⟩ = some (.int .u8 ((zs ++ [77]).getD i 0))
theorem LentAt.reads {w : World} {g len c : Nat} {zs : List Int} (h : LentAt w g len zs) (hl : zs.length = len) (hc : len + 1 ≤ c) : Reads w (some ⟨g, 0, none⟩) len c zs :=
  ⟨hl, by omega, .inr ⟨_, rfl, fun i hi => by
    have := h i (by omega)
    have e : (zs ++ [77]).getD i 0 = zs.getD i 0 := by simp [List.getD_eq_getElem?_getD, List.getElem?_append_left (show i < zs.length by omega)]
    rw [e] at this
    rw [plain_add]
    exact this⟩⟩
theorem LentAt.lt {w : World} {g len : Nat} {zs : List Int} (h : LentAt w g len zs) : g < w.heap.size := World.block_lt_of_cell? _ _ (h 0 (by omega))
theorem RunK.loadL {B m : Nat} {w0 w1 w2 : World} {s : Ks} (r : RunK B m w0 w1 s) (hs : s.size ≤ 65536) (g len c2 : Nat) (zs : List Int) (hb2 : Below w1.heap.size w1 w2) (hg : w1.heap.size ≤ g) (hc : LentAt w2 g len zs) (hc2 : len + 1 ≤ c2) (hz : OkB zs) (hl : zs.length = len) (hlen : len ≤ 1000000) :
    Calls Try.prog 13 #[.pointer (some ⟨m, 0, none⟩), .slice (some ⟨g, 0, none⟩) len c2] w2 fun e w' => e = .returned (.int .i64 (loadE s zs)) ∧ Hid (RunK B m w0 w' (loadS s zs)) ∧ Hid (LentAt w' g len zs) := by
  obtain ⟨v, h1, h2, h3⟩ := r
  have h1' := h1.later hb2
  refine (kLoad_any B m v s w2 h1' (Nat.le_trans h3 hb2.size) hs _ len c2 zs (hc.reads hl hc2) hz (by omega)).mono ?_
  rintro e w' ⟨rfl, hk⟩
  refine ⟨rfl, RunK.left h1' (h2.trans (hb2.mono h3)) (Nat.le_trans h3 hb2.size) hk, fun i hi => ?_⟩
  obtain ⟨v', _, f⟩ := hk
  rw [World.cell?_of_block (f.block g hc.lt (fun e => by have := (h1.low g e).2; omega))]
  exact hc i hi
theorem load_stub {s : Ks} {zs : List Int} (h : loadE s zs = 0) (hb : OkB zs) : loadS s zs = ⟨s.size, zs, nu zs (zs.length - 4), true⟩ ∧ stubE (loadS s zs) = 0 := by
  have e : loadS s zs = ⟨s.size, zs, nu zs (zs.length - 4), true⟩ := by unfold loadS; rw [if_pos h]
  refine ⟨e, ?_⟩
  rw [e]
  unfold loadE at h
  split at h
  · rename_i hr
    obtain ⟨h1, h2, h3⟩ := (rightB_iff zs).1 hr.2
    have hbd := h3.fr.bd
    unfold stubE cnt endK
    simp only [if_true]
    rw [if_neg (by omega)]
  · omega
theorem stackLoads_walk (size : Int) (a : Option Addr) (len cap : Nat) (zs : List Int) (w : World) (hsz : (Lit.int .i64 size).wf = true) (hb : IsRow .u8 w a len cap zs) :
    Calls Try.prog 3 #[.int .i64 size, .slice a len cap] w fun e w' => e = .returned (.bool true) ∧ Below w.heap.size w w' := by
  obtain ⟨hr, ho, hlen⟩ := reads_of_row hb
  have HLV : Hid (∀ w1, Below w.heap.size w w1 → Calls Try.prog 9 #[] w1 fun e w' => e = .returned (.bool true) ∧ Below w.heap.size w w') := fun w1 hb => (live_any w1).mono (fun e w' hh => ⟨hh.1, hb.trans (hh.2.mono hb.size)⟩)
  have hb0 := Below.refl w.heap.size w
  clear hb
  generalize zs.take len = ys at *
  by_cases h1 : size < 1
  · clear hr ho
    go_enter Try.func3, Try.ntmps3
    go_wp2_with (first | (go_at_call 9; refine (HLV.out _ hb0).mono ?_; rintro e wl ⟨rfl, hbl⟩))
    go_ret
    exact ⟨rfl, hbl⟩
  by_cases h2 : size > 8192
  · clear hr ho
    go_enter Try.func3, Try.ntmps3
    go_wp2_with (first | (go_at_call 9; refine (HLV.out _ hb0).mono ?_; rintro e wl ⟨rfl, hbl⟩))
    go_ret
    exact ⟨rfl, hbl⟩
  by_cases h3 : (len : Int) > 8192
  · clear hr ho
    go_enter Try.func3, Try.ntmps3
    go_wp2_with (first | (go_at_call 9; refine (HLV.out _ hb0).mono ?_; rintro e wl ⟨rfl, hbl⟩))
    go_ret
    exact ⟨rfl, hbl⟩
  obtain ⟨n, rfl⟩ : ∃ n : Nat, size = n := ⟨size.toNat, by omega⟩
  have hl := hr.1
  have HNW := hidden (RunK.new w.heap.size n w w (by omega) (by omega) (Below.refl _ _) (Nat.le_refl _))
  have HLE : Hid (∀ w1, Below w.heap.size w w1 → Calls Try.prog 12 #[.slice a len cap] w1 fun e w' => ∃ g c2, e = .returned (.slice (some ⟨g, 0, none⟩) len c2) ∧ Hid (len + 1 ≤ c2) ∧ Hid (w1.heap.size ≤ g) ∧ Hid (Below w1.heap.size w1 w') ∧ Hid (LentAt w' g len ys)) := fun w1 hb1 => lent_any a len cap ys w1 (hr.later hb1) (by omega)
  have HLD : Hid (∀ (w1 w2 : World) (g c2 : Nat), RunK w.heap.size w.heap.size w w1 ⟨n, [], 0, false⟩ → Below w1.heap.size w1 w2 → w1.heap.size ≤ g → LentAt w2 g len ys → len + 1 ≤ c2 → Calls Try.prog 13 #[.pointer (some ⟨w.heap.size, 0, none⟩), .slice (some ⟨g, 0, none⟩) len c2] w2 fun e w' => e = .returned (.int .i64 (loadE ⟨n, [], 0, false⟩ ys)) ∧ Hid (RunK w.heap.size w.heap.size w w' (loadS ⟨n, [], 0, false⟩ ys)) ∧ Hid (LentAt w' g len ys)) := fun w1 w2 g c2 r k1 k2 k3 k4 => RunK.loadL r (by simp only; omega) g len c2 ys k1 k2 k3 k4 ho hl (by omega)
  have HKP : Hid (∀ (w1 : World) (g c2 : Nat), Below w.heap.size w w1 → LentAt w1 g len ys → len + 1 ≤ c2 → Calls Try.prog 14 #[.slice (some ⟨g, 0, none⟩) len c2, .slice a len cap] w1 fun e w' => e = .returned (.bool true) ∧ w' = w1) := fun w1 g c2 k1 k2 k3 => kept_eq g len c2 a cap ys w1 ho (by omega) k3 k2 (hr.later k1)
  have HRI : Hid (∀ w1, Below w.heap.size w w1 → Calls Try.prog 15 #[.slice a len cap, .int .i64 n] w1 fun e w' => e = .returned (.bool (rightE ys n)) ∧ Hid (Below w1.heap.size w1 w')) := fun w1 hb1 => dright_any a len cap n ys w1 (hr.later hb1) ho (by omega) (by omega)
  have HSM : Hid (∀ (w1 : World) (a' : Option Addr) (c' : Nat), Below w.heap.size w w1 → Reads w1 a' len c' ys → Calls Try.prog 17 #[.slice a' len c', .slice a len cap] w1 fun e w' => e = .returned (.bool true) ∧ w' = w1) := fun w1 a' c' k1 k2 => same_eq a' a len c' len cap ys w1 ho k2 (hr.later k1)
  have hle : loadE ⟨n, [], 0, false⟩ ys = if rightE ys n = true then 0 else 102 := by
    unfold loadE rightE
    simp
  have d1 : ¬ (n : Int) < 1 := by omega
  have d2 : ¬ (n : Int) > 8192 := by omega
  clear h1 h2 hr
  have HLR : Hid (∀ (w1 : World) (s : Ks), RunK w.heap.size w.heap.size w w1 s → OkK s → (Calls Try.prog 19 #[.pointer (some ⟨w.heap.size, 0, none⟩)] w1 fun e w' => e = .returned (.int .i64 (leaveE s)) ∧ Hid (RunK w.heap.size w.heap.size w w' (leaveS s))) ∧ (Calls Try.prog 20 #[.pointer (some ⟨w.heap.size, 0, none⟩)] w1 fun e w' => e = .returned (.tuple #[.int .u32 (unV s 0), .int .u32 (unV s 4), .int .u32 (unV s 8), .int .i64 (stubE s)]) ∧ Hid (RunK w.heap.size w.heap.size w w' (unstubS s))) ∧ (Calls Try.prog 16 #[.pointer (some ⟨w.heap.size, 0, none⟩)] w1 fun e w' => e = .returned (.int .u32 s.bs.length) ∧ w' = w1)) := fun w1 s r ok => ⟨r.leave ok, r.unstub ok, r.top ok⟩
  cases hre : rightE ys n with
  | false =>
    rw [hre, if_neg (by decide)] at hle
    rw [hre] at HRI
    rw [hle] at HLD
    have els : loadS ⟨n, [], 0, false⟩ ys = ⟨n, [], 0, false⟩ := by unfold loadS; rw [if_neg (by rw [hle]; decide)]
    rw [els] at HLD
    have HTP : Hid (∀ (w1 : World), RunK w.heap.size w.heap.size w w1 ⟨n, [], 0, false⟩ → Calls Try.prog 16 #[.pointer (some ⟨w.heap.size, 0, none⟩)] w1 fun e w' => e = .returned (.int .u32 0) ∧ w' = w1) := fun w1 r => r.top (ok_new n (by omega))
    clear els hle ho HLR
    go_enter Try.func3, Try.ntmps3
    go_wp2_with (first | (go_at_call 10; refine HNW.out.mono ?_; rintro e w1 ⟨rfl, r1⟩; have R1 := hidden r1; have HB1 : Hid (Below w.heap.size w w1) := r1.choose_spec.2.1; clear r1) | (go_at_call 11; refine (num10 _ _).mono ?_; rintro e w9 ⟨rfl, e9⟩; rw [e9]; clear e9) | (go_at_call 12; refine (HLE.out _ HB1.out).mono ?_; rintro e w2 ⟨g, c2, rfl, K1, K2, K3, K4⟩) | (go_at_call 13; refine (HLD.out _ _ _ _ R1.out K3.out K2.out K4.out K1.out).mono ?_; rintro e w3 ⟨rfl, R3, K5⟩; have HB3 : Hid (Below w.heap.size w w3) := R3.out.choose_spec.2.1) | (go_at_call 14; refine (HKP.out _ _ _ HB3.out K5.out K1.out).mono ?_; rintro e w4 ⟨rfl, e4⟩; rw [e4]; clear e4) | (go_at_call 15; refine (HRI.out _ HB3.out).mono ?_; rintro e w5 ⟨rfl, K6⟩; have R5 := hidden (R3.out.later K6.out); have HB5 := hidden (HB3.out.trans (K6.out.mono HB3.out.size))) | (go_at_call 16; refine (HTP.out _ R5.out).mono ?_; rintro e w6 ⟨rfl, e6⟩; rw [e6]; clear e6) | (go_at_call 9; refine (HLV.out _ HB5.out).mono ?_; rintro e wl ⟨rfl, hbl⟩))
    go_ret
    exact ⟨rfl, hbl⟩
  | true =>
    rw [hre, if_pos rfl] at hle
    rw [hre] at HRI
    obtain ⟨els, est⟩ := load_stub hle ho
    have okl := ok_load (ok_new n (by omega)) ho (s := ⟨n, [], 0, false⟩)
    rw [hle] at HLD
    have hbl : (loadS ⟨n, [], 0, false⟩ ys).bs.length = len := by rw [els]; exact hl
    have hbs : (loadS ⟨n, [], 0, false⟩ ys).bs = ys := by rw [els]
    have hon : (loadS ⟨n, [], 0, false⟩ ys).on = true := by rw [els]
    generalize loadS ⟨n, [], 0, false⟩ ys = s0 at *
    have HBY : Hid (∀ w1, RunK w.heap.size w.heap.size w w1 s0 → Calls Try.prog 18 #[.pointer (some ⟨w.heap.size, 0, none⟩)] w1 fun e w' => ∃ a' c', e = .returned (.slice a' len c') ∧ Hid (Reads w' a' len c' ys) ∧ Hid (Below w1.heap.size w1 w')) := fun w1 r => by
      obtain ⟨v, k1, k2, k3⟩ := r
      refine (kBytes_any _ _ v s0 w1 k1 (by omega)).mono ?_
      rintro e w' ⟨a', c', rfl, ho', hb'⟩
      rw [hbl] at ho' ⊢
      refine ⟨a', c', rfl, ?_, hb'⟩
      rw [hbs] at ho'
      exact own_read8 (v := .slice a' len c') ho'
    clear els hle ho hbs
    have HOK := hidden okl
    have HST := hidden est
    have HON := hidden hon
    have HBL := hidden hbl
    clear okl est hon hbl
    go_enter Try.func3, Try.ntmps3
    go_wp2_with (first | (go_at_call 10; refine HNW.out.mono ?_; rintro e w1 ⟨rfl, r1⟩; have R1 := hidden r1; have HB1 : Hid (Below w.heap.size w w1) := r1.choose_spec.2.1; clear r1) | (go_at_call 11; refine (num10 _ _).mono ?_; rintro e w9 ⟨rfl, e9⟩; rw [e9]; clear e9) | (go_at_call 12; refine (HLE.out _ HB1.out).mono ?_; rintro e w2 ⟨g, c2, rfl, K1, K2, K3, K4⟩) | (go_at_call 13; refine (HLD.out _ _ _ _ R1.out K3.out K2.out K4.out K1.out).mono ?_; rintro e w3 ⟨rfl, R3, K5⟩; have HB3 : Hid (Below w.heap.size w w3) := R3.out.choose_spec.2.1) | (go_at_call 14; refine (HKP.out _ _ _ HB3.out K5.out K1.out).mono ?_; rintro e w4 ⟨rfl, e4⟩; rw [e4]; clear e4) | (go_at_call 15; refine (HRI.out _ HB3.out).mono ?_; rintro e w5 ⟨rfl, K6⟩; have R5 := hidden (R3.out.later K6.out); have HB5 := hidden (HB3.out.trans (K6.out.mono HB3.out.size))) | (go_at_call 18; refine (HBY.out _ R5.out).mono ?_; rintro e w6 ⟨a', c', rfl, K7, K8⟩; have R6 := hidden (R5.out.later K8.out); have HB6 := hidden (HB5.out.trans (K8.out.mono HB5.out.size))) | (go_at_call 17; refine (HSM.out _ _ _ HB6.out K7.out).mono ?_; rintro e w7 ⟨rfl, e7⟩; rw [e7]; clear e7))
    clear HNW HLE HLD HKP HRI HSM HBY R1 HB1 R3 HB3 R5 HB5 K1 K2 K3 K4 K5 K6 K7 K8
    go_loopw [9] (fun i wr => ∃ (k : Nat) (s : Ks), i = .int .i64 k ∧ Hid (RunK w.heap.size w.heap.size w wr s ∧ OkK s ∧ s.on = true ∧ (k = 0 → stubE s = 0)) ∧ Hid (s.bs.length + k ≤ len)) (fun i _ => len + 1 - (intOf i).toNat)
    case atStart => exact ⟨0, s0, rfl, ⟨R6.out, HOK.out, HON.out, fun _ => HST.out⟩, by have := HBL.out; show _ ≤ _; omega⟩
    case round =>
      clear R6 HB6 HOK HON HBL HST
      obtain ⟨k, s, rfl, HS, HLn⟩ := hrel
      have hbd := HS.out.2.1.bd HS.out.2.2.1
      have hln := HLn.out
      have d4 : (k : Int) ≤ (len : Int) := by omega
      have hwk : IntKind.i64.wrap ((k : Int) + 1) = (k : Int) + 1 := by rw [IntKind.wrap_i64]; omega
      by_cases hk0 : k = 0
      · have HU := hidden (HLR.out wr s HS.out.1 HS.out.2.1).2.1
        have est := HS.out.2.2.2 hk0
        rw [est] at HU
        have HN : Hid (∀ w1, RunK w.heap.size w.heap.size w w1 (unstubS s) → (RunK w.heap.size w.heap.size w w1 (unstubS s) ∧ OkK (unstubS s) ∧ (unstubS s).on = true ∧ (k + 1 = 0 → stubE (unstubS s) = 0)) ∧ (unstubS s).bs.length + (k + 1) ≤ len) := fun w1 r => by
          have e1 : (unstubS s).on = true ∧ (unstubS s).bs.length = s.bs.length - 16 := by unfold unstubS; rw [if_pos est]; simp
          have := stub_zero HS.out.2.1 est
          exact ⟨⟨r, ok_unstub HS.out.2.1, e1.1, fun h => by omega⟩, by omega⟩
        subst hk0
        clear est hbd hln HS
        generalize unV s 0 = u0 at *
        generalize unV s 4 = u4 at *
        generalize unV s 8 = u8 at *
        go_wp2_with (first | (go_at_call 20; refine HU.out.mono ?_; rintro e wA ⟨rfl, RA⟩) | (go_at_call 11; refine (num10 _ _).mono ?_; rintro e w9 ⟨rfl, e9⟩; rw [e9]; clear e9))
        go_roundw
        case rel => exact ⟨1, _, rfl, (HN.out _ RA.out).1, (HN.out _ RA.out).2⟩
        case measure => simp [intOf]
      · have dk : (k : Int) > 0 := by omega
        have e1 : leaveE s = 0 := by unfold leaveE lackE; rw [HS.out.2.2.1]; simp
        have els : leaveS s = ⟨s.size, s.bs.take s.fr, 0, false⟩ := by unfold leaveS; rw [if_pos e1]
        have HV := hidden (HLR.out wr s HS.out.1 HS.out.2.1).1
        rw [e1] at HV
        have ok1 := ok_leave HS.out.2.1
        have hln1 : (leaveS s).bs.length = s.fr := by rw [els]; simp; omega
        have hon1 : (leaveS s).on = false := by rw [els]
        generalize leaveS s = s1 at *
        have HU := hidden fun w1 (r : RunK w.heap.size w.heap.size w w1 s1) => (HLR.out w1 s1 r ok1).2.1
        by_cases hz : s1.bs = []
        · have e5 : stubE s1 = 5 := by unfold stubE; rw [hon1]; simp [hz]
          rw [e5] at HU
          have eun : unstubS s1 = s1 := by unfold unstubS; rw [if_neg (by rw [e5]; decide)]
          rw [eun] at HU
          have HT := hidden fun w1 (r : RunK w.heap.size w.heap.size w w1 s1) => (HLR.out w1 s1 r ok1).2.2
          have hl0 : s1.bs.length = 0 := by rw [hz]; rfl
          rw [hl0] at HT
          clear ok1 hz e5 eun hl0 els hbd hln HS hln1 hon1
          generalize unV s1 0 = u0 at *
          generalize unV s1 4 = u4 at *
          generalize unV s1 8 = u8 at *
          go_wp2_with (first | (go_at_call 19; refine HV.out.mono ?_; rintro e wB ⟨rfl, RB⟩) | (go_at_call 20; refine (HU.out _ RB.out).mono ?_; rintro e wA ⟨rfl, RA⟩; have HBA : Hid (Below w.heap.size w wA) := RA.out.choose_spec.2.1) | (go_at_call 16; refine (HT.out _ RA.out).mono ?_; rintro e wC ⟨rfl, eC⟩; rw [eC]; clear eC) | (go_at_call 11; refine (num10 _ _).mono ?_; rintro e w9 ⟨rfl, e9⟩; rw [e9]; clear e9) | (go_at_call 9; refine (HLV.out _ HBA.out).mono ?_; rintro e wl ⟨rfl, hbl⟩))
          go_ret
          exact ⟨rfl, hbl⟩
        · have e5 : stubE s1 = 0 := by unfold stubE; rw [hon1]; simp [hz]
          rw [e5] at HU
          have HN : Hid (∀ w1, RunK w.heap.size w.heap.size w w1 (unstubS s1) → (RunK w.heap.size w.heap.size w w1 (unstubS s1) ∧ OkK (unstubS s1) ∧ (unstubS s1).on = true ∧ (k + 1 = 0 → stubE (unstubS s1) = 0)) ∧ (unstubS s1).bs.length + (k + 1) ≤ len) := fun w1 r => by
            have e1 : (unstubS s1).on = true ∧ (unstubS s1).bs.length = s1.bs.length - 16 := by unfold unstubS; rw [if_pos e5]; simp
            have := stub_zero ok1 e5
            exact ⟨⟨r, ok_unstub ok1, e1.1, fun h => by omega⟩, by omega⟩
          clear ok1 hz e5 els hbd hln HS hln1 hon1
          generalize unV s1 0 = u0 at *
          generalize unV s1 4 = u4 at *
          generalize unV s1 8 = u8 at *
          go_wp2_with (first | (go_at_call 19; refine HV.out.mono ?_; rintro e wB ⟨rfl, RB⟩) | (go_at_call 20; refine (HU.out _ RB.out).mono ?_; rintro e wA ⟨rfl, RA⟩) | (go_at_call 11; refine (num10 _ _).mono ?_; rintro e w9 ⟨rfl, e9⟩; rw [e9]; clear e9))
          go_roundw
          case rel => exact ⟨k + 1, _, int_eq (by omega), (HN.out _ RA.out).1, (HN.out _ RA.out).2⟩
          case measure => simp [intOf]; omega
end Go.Proofs.Ytgmiemekcloknaa
