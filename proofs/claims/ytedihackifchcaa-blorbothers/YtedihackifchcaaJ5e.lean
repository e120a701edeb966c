/- Contracts of iff.idAt, iff.numberAt, iff.checkHead and iff.checkChunk, where they find no fault (and where the form's number is wrong). -/
import Derived.Test.YtedihackifchcaaJ5d
import Derived.Test.YtedihackifchcaaShelf5
namespace Go.Proofs.Ytedihackifchcaa
open Go.RowKit
set_option maxHeartbeats 1000000
set_option maxRecDepth 100000
set_option linter.unusedVariables false

/-- bytes at a place in memory -/
def Bs (w : World) (g o L : Nat) (zs : List Int) : Prop := zs.length = L ∧ ∀ i, i < L → w.cell? ⟨g, o + i, none⟩ = some (.int .u8 (zs.getD i 0))
/-- bytes as a text -/
def strA (zs : List Int) : ByteArray := ⟨(strB zs).toArray⟩
def seg (zs : List Int) (p n : Nat) : List Int := (zs.drop p).take n
theorem strB_idI (s : ByteArray) : strB (idI s) = s.data.toList := by
  unfold strB idI
  rw [List.map_map]
  refine List.map_id'' ?_ _
  intro b
  simp
theorem strA_idI (s : ByteArray) : strA (idI s) = s := by
  unfold strA
  rw [strB_idI]
theorem seg_okb {zs : List Int} (h : OkB zs) (p n : Nat) : OkB (seg zs p n) := fun c hc => h c (List.mem_of_mem_drop (List.mem_of_mem_take hc))
theorem seg_at (zs : List Int) (p n i : Nat) (h : i < n) (h2 : p + n ≤ zs.length) : (seg zs p n).getD i 0 = zs.getD (p + i) 0 := by
  unfold seg
  simp [List.getD_eq_getElem?_getD, h]
theorem seg_len (zs : List Int) (p n : Nat) (h2 : p + n ≤ zs.length) : (seg zs p n).length = n := by
  unfold seg
  simp; omega
theorem Bs.sub {w : World} {g o L : Nat} {zs : List Int} (h : Bs w g o L zs) (p n c : Nat) (hp : p + n ≤ L) (hc : n ≤ c) : Reads w (some ⟨g, o + p, none⟩) n c (seg zs p n) := by
  obtain ⟨h1, h2⟩ := h
  refine ⟨seg_len zs p n (by omega), hc, .inr ⟨_, rfl, fun i hi => ?_⟩⟩
  rw [plain_add, seg_at zs p n i hi (by omega), Nat.add_assoc]
  exact h2 (p + i) (by omega)
theorem Bs.later {w w' : World} {g o L : Nat} {zs : List Int} (h : Bs w g o L zs) (hb : Below w.heap.size w w') : Bs w' g o L zs := ⟨h.1, fun i hi => cellLater hb (h.2 i hi)⟩
theorem idAt_any (g o L cap p : Nat) (zs : List Int) (w : World) (h : Bs w g o L zs) (hb : OkB zs) (hp : p + 4 ≤ L) (hcap : L ≤ cap) (hm : L ≤ 100000000) :
    Calls Try.prog 63 #[.slice (some ⟨g, o, none⟩) L cap, .int .i64 (p : Int)] w fun e w' => e = .returned (.string (strA (seg zs p 4))) ∧ w' = w := by
  have e1 := conv_reads w _ _ _ _ (seg_okb hb p 4) (h.sub p 4 (cap - p) hp (by omega))
  have n1 : ¬ cap = p := by omega
  have e2 : ((p : Int) + 4).toNat = p + 4 := by omega
  have e3 : p + 4 - p = 4 := by omega
  have e4 : (p : Int) + 4 ≤ (cap : Int) := by omega
  have e5 : (p : Int) + 4 ≤ 9223372036854775807 := by omega
  clear h
  go_enter Try.func63, Try.ntmps63
  go_wp2
  go_ret
  exact ⟨rfl, rfl⟩
theorem numberAt_any (g o L cap p : Nat) (zs : List Int) (w : World) (h : Bs w g o L zs) (hb : OkB zs) (hp : p + 4 ≤ L) (hcap : L ≤ cap) (hm : L ≤ 100000000) :
    Calls Try.prog 67 #[.slice (some ⟨g, o, none⟩) L cap, .int .i64 (p : Int)] w fun e w' => e = .returned (.int .u32 (beV zs p 4)) ∧ w' = w := by
  have HB := hidden (be_any g o L cap zs p 4 w (Or.inr (Or.inr rfl)) (by omega) (by omega) (by omega) hcap h.2 hb)
  rw [Int.toNat_natCast] at HB
  clear h
  go_enter Try.func67, Try.ntmps67
  go_wp2_with (go_at_call 60; refine HB.out.mono ?_; rintro e w9 ⟨rfl, hw⟩; obtain rfl := hw.symm)
  go_ret
  exact ⟨rfl, rfl⟩
def FORM : ByteArray := ⟨#[70, 79, 82, 77]⟩
theorem checkHead_good (g o L cap : Nat) (zs : List Int) (w : World) (h : Bs w g o L zs) (hb : OkB zs) (hL : 12 ≤ L) (hm : L ≤ 4194304) (hcap : L ≤ cap)
    (h1 : strB (seg zs 0 4) = FORM.data.toList) (h2 : beV zs 4 4 = (L : Int) - 8) (h3 : IsId (strA (seg zs 8 4))) :
    Calls Try.prog 61 #[.slice (some ⟨g, o, none⟩) L cap] w fun e w' => e = .returned (.tuple #[.int .i64 0, .int .i64 0]) ∧ w' = w := by
  have hr := h.sub 0 4 cap (by omega) (by omega)
  rw [Nat.add_zero] at hr
  have e1 := conv_reads w _ _ _ _ (seg_okb hb 0 4) hr
  have HI := hidden (idAt_any g o L cap 8 zs w h hb (by omega) hcap (by omega))
  have HM := hidden (numberAt_any g o L cap 4 zs w h hb (by omega) hcap (by omega))
  have HT := idc_t h3
  have HP : Hid (∀ w, Calls Try.prog 66 #[.string ⟨#[70, 79, 82, 77]⟩, .string ⟨(strB (seg zs 0 4)).toArray⟩] w fun e w' => e = .returned (.bool true) ∧ w' = w) := hidden fun w => by
    have := Try.strings_HasPrefix ⟨#[70, 79, 82, 77]⟩ ⟨(strB (seg zs 0 4)).toArray⟩ w
    rw [show Lib.hasPrefix (⟨#[70, 79, 82, 77]⟩ : ByteArray).data.toList (⟨(strB (seg zs 0 4)).toArray⟩ : ByteArray).data.toList = true by rw [h1]; decide] at this
    exact this
  rw [h2] at HM
  have g1 : (L : Int) ≤ 4194304 := by omega
  have g2 : (12 : Int) ≤ (L : Int) := by omega
  have g3 : min (L : Int) 4 = 4 := by omega
  have g4 : (4 : Int) ≤ (cap : Int) := by omega
  clear h hr h1 h2 h3
  generalize seg zs 0 4 = S0 at *
  generalize seg zs 8 4 = S8 at *
  go_enter Try.func61, Try.ntmps61
  go_wp2_with (first | (go_at_call 66; refine (HP.out _).mono ?_; rintro e w9 ⟨rfl, hw⟩; obtain rfl := hw.symm) | (go_at_call 63; refine HI.out.mono ?_; rintro e w9 ⟨rfl, hw⟩; obtain rfl := hw.symm) | (go_at_call 67; refine HM.out.mono ?_; rintro e w9 ⟨rfl, hw⟩; obtain rfl := hw.symm) | (go_at_call 51; refine (HT.out _).mono ?_; rintro e w9 ⟨rfl, hw⟩; obtain rfl := hw.symm))
  go_ret2
  exact ⟨rfl, rfl⟩
theorem checkHead_size (g o L cap : Nat) (zs : List Int) (w : World) (h : Bs w g o L zs) (hb : OkB zs) (hL : 12 ≤ L) (hm : L ≤ 4194304) (hcap : L ≤ cap)
    (h1 : strB (seg zs 0 4) = FORM.data.toList) (h2 : beV zs 4 4 ≠ (L : Int) - 8) :
    Calls Try.prog 61 #[.slice (some ⟨g, o, none⟩) L cap] w fun e w' => e = .returned (.tuple #[.int .i64 51, .int .i64 4]) ∧ w' = w := by
  have hr := h.sub 0 4 cap (by omega) (by omega)
  rw [Nat.add_zero] at hr
  have e1 := conv_reads w _ _ _ _ (seg_okb hb 0 4) hr
  have HM := hidden (numberAt_any g o L cap 4 zs w h hb (by omega) hcap (by omega))
  have HP : Hid (∀ w, Calls Try.prog 66 #[.string ⟨#[70, 79, 82, 77]⟩, .string ⟨(strB (seg zs 0 4)).toArray⟩] w fun e w' => e = .returned (.bool true) ∧ w' = w) := hidden fun w => by
    have := Try.strings_HasPrefix ⟨#[70, 79, 82, 77]⟩ ⟨(strB (seg zs 0 4)).toArray⟩ w
    rw [show Lib.hasPrefix (⟨#[70, 79, 82, 77]⟩ : ByteArray).data.toList (⟨(strB (seg zs 0 4)).toArray⟩ : ByteArray).data.toList = true by rw [h1]; decide] at this
    exact this
  have h5 : (beV zs 4 4 != (L : Int) - 8) = true := by simpa using h2
  have g1 : (L : Int) ≤ 4194304 := by omega
  have g2 : (12 : Int) ≤ (L : Int) := by omega
  have g3 : min (L : Int) 4 = 4 := by omega
  have g4 : (4 : Int) ≤ (cap : Int) := by omega
  clear h hr h1 h2
  generalize seg zs 0 4 = S0 at *
  generalize beV zs 4 4 = V at *
  go_enter Try.func61, Try.ntmps61
  go_wp2_with (first | (go_at_call 66; refine (HP.out _).mono ?_; rintro e w9 ⟨rfl, hw⟩; obtain rfl := hw.symm) | (go_at_call 67; refine HM.out.mono ?_; rintro e w9 ⟨rfl, hw⟩; obtain rfl := hw.symm))
  go_ret2
  exact ⟨rfl, rfl⟩
theorem checkChunk_good (g o L cap p n : Nat) (zs : List Int) (w : World) (h : Bs w g o L zs) (hb : OkB zs) (hm : L ≤ 4194304) (hcap : L ≤ cap) (hp : p + 8 + n + n % 2 ≤ L)
    (h2 : beV zs (p + 4) 4 = (n : Int)) (h3 : IsId (strA (seg zs p 4))) (h4 : n % 2 = 1 → zs.getD (p + 8 + n) 0 = 0) :
    Calls Try.prog 62 #[.slice (some ⟨g, o, none⟩) L cap, .int .i64 (p : Int)] w fun e w' => e = .returned (.tuple #[.int .i64 (n : Int), .int .i64 0, .int .i64 0]) ∧ w' = w := by
  have HI := hidden (idAt_any g o L cap p zs w h hb (by omega) hcap (by omega))
  have HM := hidden (numberAt_any g o L cap (p + 4) zs w h hb (by omega) hcap (by omega))
  rw [h2, show ((p + 4 : Nat) : Int) = (p : Int) + 4 by omega] at HM
  have HT := idc_t h3
  have g1 : (p : Int) + 8 ≤ (L : Int) := by omega
  have g2 : (n : Int) ≤ (L : Int) - ((p : Int) + 8) := by omega
  have g3 : (L : Int) ≤ 4194304 := by omega
  have HC := hidden h.2
  have H4 := hidden h4
  clear h h2 h3 h4
  generalize seg zs p 4 = S0 at *
  by_cases hodd : n % 2 = 1
  · have k1 : ((n : Int) % 2 == 0) = false := by simp; omega
    have k2 : ((p : Int) + 8 + (n : Int) == (L : Int)) = false := by simp; omega
    have k3 := HC.out (p + 8 + n) (by omega)
    rw [H4.out hodd] at k3
    have k4 : ((p : Int) + 8 + (n : Int)).toNat = p + 8 + n := by omega
    have k5 : (p : Int) + 8 + (n : Int) < (L : Int) := by omega
    clear hodd
    go_enter Try.func62, Try.ntmps62
    go_wp2_with (first | (go_at_call 63; refine HI.out.mono ?_; rintro e w9 ⟨rfl, hw⟩; obtain rfl := hw.symm) | (go_at_call 67; refine HM.out.mono ?_; rintro e w9 ⟨rfl, hw⟩; obtain rfl := hw.symm) | (go_at_call 51; refine (HT.out _).mono ?_; rintro e w9 ⟨rfl, hw⟩; obtain rfl := hw.symm))
    go_ret3
    exact ⟨rfl, rfl⟩
  · have k1 : ((n : Int) % 2 == 0) = true := by simp; omega
    clear hodd
    go_enter Try.func62, Try.ntmps62
    go_wp2_with (first | (go_at_call 63; refine HI.out.mono ?_; rintro e w9 ⟨rfl, hw⟩; obtain rfl := hw.symm) | (go_at_call 67; refine HM.out.mono ?_; rintro e w9 ⟨rfl, hw⟩; obtain rfl := hw.symm) | (go_at_call 51; refine (HT.out _).mono ?_; rintro e w9 ⟨rfl, hw⟩; obtain rfl := hw.symm))
    go_ret3
    exact ⟨rfl, rfl⟩
end Go.Proofs.Ytedihackifchcaa
