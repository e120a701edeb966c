/- Contracts of the document's Id, number and Length (package grottoref05). -/
import Derived.Test.YtedihackifchcaaR6a
import Derived.Deep.QuietTactic
import Derived.BigQuiet
namespace Go.Proofs.Ytedihackifchcaa
open Go.RowKit
set_option maxHeartbeats 1000000
set_option maxRecDepth 100000
set_option linter.unusedVariables false

/-- how many of the first k bytes are letters -/
def cnt (s : ByteArray) : Nat → Nat
  | 0 => 0
  | k + 1 => cnt s k + (if h : k < s.size then (if 32 ≤ s[k].toNat ∧ s[k].toNat ≤ 126 then 1 else 0) else 0)
theorem cnt_le (s : ByteArray) : ∀ k, cnt s k ≤ k
  | 0 => Nat.le_refl _
  | k + 1 => by
    have := cnt_le s k
    unfold cnt
    split
    · split <;> omega
    · omega
theorem cnt_all (s : ByteArray) : ∀ k, k ≤ s.size → (cnt s k = k ↔ ∀ j (h : j < s.size), j < k → 32 ≤ s[j].toNat ∧ s[j].toNat ≤ 126)
  | 0, _ => ⟨fun _ j _ h => by omega, fun _ => rfl⟩
  | k + 1, hk => by
    have ih := cnt_all s k (by omega)
    have hl := cnt_le s k
    unfold cnt
    rw [dif_pos (show k < s.size by omega)]
    by_cases hg : 32 ≤ s[k].toNat ∧ s[k].toNat ≤ 126
    · rw [if_pos hg]
      constructor
      · intro h j hj hjk
        by_cases e : j = k
        · subst e; exact hg
        · exact ih.1 (by omega) j hj (by omega)
      · intro h
        have := ih.2 (fun j hj hjk => h j hj (by omega))
        omega
    · rw [if_neg hg]
      constructor
      · intro h; omega
      · intro h; exact absurd (h k (by omega) (by omega)) hg
theorem cnt_id (s : ByteArray) : (cnt s s.size = 4 ∧ s.size = 4) ↔ IsId s := by
  constructor
  · rintro ⟨h1, h2⟩
    refine ⟨h2, fun k hk => ?_⟩
    exact (cnt_all s s.size (Nat.le_refl _)).1 (by omega) k hk hk
  · intro h
    refine ⟨?_, h.1⟩
    have := (cnt_all s s.size (Nat.le_refl _)).2 (fun j hj _ => h.2 j hj)
    rw [this]; exact h.1
theorem rid_any (s : ByteArray) (w : World) (hs : s.size ≤ 281474976710656) :
    Calls Try.prog 40 #[.string s] w fun e w' => ((IsId s ∧ e = .returned (.bool true)) ∨ (¬ IsId s ∧ e = .returned (.bool false))) ∧ w' = w := by
  have hsi : (s.size : Int) ≤ 281474976710656 := by omega
  go_enter Try.func40, Try.ntmps40
  go_wp2
  go_loop [3, 4] (fun n i => ∃ k : Nat, k ≤ s.size ∧ i = .int .i64 k ∧ n = .int .i64 ((cnt s k : Nat) : Int)) (fun _ i => s.size - (intOf i).toNat)
  case atStart => exact ⟨0, by omega, rfl, rfl⟩
  case round =>
    obtain ⟨k, hk, rfl, rfl⟩ := hrel
    have hcl := cnt_le s k
    by_cases hlt : k < s.size
    · have hlt2 : (k : Int) < (s.size : Int) := by omega
      have hbyte : s[k].toNat < 256 := s[k].toNat_lt
      have HS : Hid (cnt s (k + 1) = cnt s k + (if 32 ≤ s[k].toNat ∧ s[k].toNat ≤ 126 then 1 else 0)) := hidden (by
        show cnt s k + _ = _
        rw [dif_pos hlt])
      generalize cnt s k = C at *
      have hci : (C : Int) ≤ 281474976710656 := by omega
      by_cases c1 : (32 : Int) ≤ (s[k].toNat : Int)
      · by_cases c2 : (s[k].toNat : Int) < 127
        · go_wp2
          go_round
          case rel => exact ⟨k + 1, by omega, by go_num, int_eq (by rw [HS.out, if_pos (by omega)]; omega)⟩
          case measure => simp [intOf]; omega
        · go_wp2
          go_round
          case rel => exact ⟨k + 1, by omega, by go_num, int_eq (by rw [HS.out, if_neg (by omega)]; omega)⟩
          case measure => simp [intOf]; omega
      · go_wp2
        go_round
        case rel => exact ⟨k + 1, by omega, by go_num, int_eq (by rw [HS.out, if_neg (by omega)]; omega)⟩
        case measure => simp [intOf]; omega
    · obtain rfl : k = s.size := by omega
      have HI := hidden (cnt_id s)
      generalize hC : cnt s s.size = C at *
      clear hC
      by_cases e1 : C = 4
      · have e1' : ((C : Int) == 4) = true := by simp; omega
        by_cases e2 : s.size = 4
        · have e2' : ((s.size : Int) == 4) = true := by simp; omega
          have HY := hidden (HI.out.1 ⟨e1, e2⟩)
          clear e1 e2 HI
          go_wp2
          go_ret
          exact ⟨.inl ⟨HY.out, rfl⟩, rfl⟩
        · have e2' : ((s.size : Int) == 4) = false := by simp; omega
          have HY : Hid (¬ IsId s) := hidden fun h => e2 h.1
          clear e1 e2 HI
          go_wp2
          go_ret
          exact ⟨.inr ⟨HY.out, rfl⟩, rfl⟩
      · have e1' : ((C : Int) == 4) = false := by simp; omega
        have HY : Hid (¬ IsId s) := hidden fun h => e1 (HI.out.2 h).1
        clear e1 HI
        go_wp2
        go_ret
        exact ⟨.inr ⟨HY.out, rfl⟩, rfl⟩
abbrev RIdC (s : ByteArray) (b : Bool) : Prop := Hid (∀ w, Calls Try.prog 40 #[.string s] w fun e w' => e = .returned (.bool b) ∧ w' = w)
theorem ridc_t {s : ByteArray} (h : IsId s) : RIdC s true := hidden fun w => (rid_any s w (by have := h.1; omega)).mono (by
  rintro e w' ⟨h' | h', hw⟩
  · exact ⟨h'.2, hw⟩
  · exact absurd h h'.1)
theorem ridc_f {s : ByteArray} (h : ¬ IsId s) (hs : s.size ≤ 281474976710656) : RIdC s false := hidden fun w => (rid_any s w hs).mono (by
  rintro e w' ⟨h' | h', hw⟩
  · exact absurd h'.1 h
  · exact ⟨h'.2, hw⟩)
theorem rbe4 (g o L cap p : Nat) (zs : List Int) (w : World) (h : Bs w g o L zs) (hb : OkB zs) (hp : p + 4 ≤ L) (hcap : L ≤ cap) (hm : L ≤ 1000012) :
    Calls Try.prog 26 #[.slice (some ⟨g, o, none⟩) L cap, .int .i64 (p : Int), .int .i64 4] w fun e w' => e = .returned (.tuple #[.int .u32 (beV zs p 4), .int .i64 0]) ∧ w' = w := by
  refine (rbe_any g o L cap zs p 4 w (Or.inr (Or.inr rfl)) (by omega) (by omega) (by omega) hcap h.2 hb).mono ?_
  rintro e w' ⟨h1, -, hw⟩
  have := h1 (by omega)
  rw [Int.toNat_natCast] at this
  exact ⟨this, hw⟩
theorem rnum_any (g o L cap p : Nat) (zs : List Int) (w : World) (h : Bs w g o L zs) (hb : OkB zs) (hp : p + 4 ≤ L) (hcap : L ≤ cap) (hm : L ≤ 1000012) :
    Calls Try.prog 45 #[.slice (some ⟨g, o, none⟩) L cap, .int .i64 (p : Int)] w fun e w' => e = .returned (.int .i64 (beV zs p 4)) ∧ w' = w := by
  have HB := hidden (rbe4 g o L cap p zs w h hb hp hcap hm)
  have hv := beV_bd zs p hb
  clear h
  generalize beV zs p 4 = V at *
  go_enter Try.func45, Try.ntmps45
  go_wp2_with (go_at_call 26; refine HB.out.mono ?_; rintro e w9 ⟨rfl, hw⟩; obtain rfl := hw.symm)
  go_ret
  exact ⟨rfl, rfl⟩
theorem rlen_any (a : Option Addr) (len cap : Nat) (cs : List Ck) (w : World) (hc : Cks w a len cap cs) (hs : sizes cs ≤ 10000000) (hl : len ≤ 2000) :
    Calls Try.prog 41 #[.slice a len cap] w fun e w' => e = .returned (.int .i64 ((sizes cs : Nat) : Int)) ∧ Below w.heap.size w w' := by
  have hlen := hc.1
  have hcap := hc.2.1
  have hle : ∀ k : Nat, sizes (cs.take k) ≤ 10000000 := fun k => Nat.le_trans (sizes_le cs k) hs
  have hck : ∀ k (h : k < cs.length), cs[k].l ≤ 10000000 := fun k h => by
    have h1 := hle (k + 1)
    rw [sizes_snoc cs k h] at h1
    unfold ckSize at h1
    omega
  have HC := hidden hc
  have HLE := hidden hle
  have HCK := hidden hck
  have hli : (len : Int) ≤ 2000 := by omega
  clear hc hle hck
  go_enter Try.func41, Try.ntmps41
  go_wp2
  go_loopw [3, 4] (fun n i w' => ∃ k : Nat, k ≤ len ∧ i = .int .i64 k ∧ n = .int .i64 ((sizes (cs.take k) : Nat) : Int) ∧ Below w.heap.size w w') (fun _ i _ => len - (intOf i).toNat)
  case atStart => exact ⟨0, by omega, rfl, rfl, Below.refl _ _⟩
  case round =>
    obtain ⟨k, hk, rfl, rfl, hbl⟩ := hrel
    have hs1 := hbl.size
    by_cases hlt : k < len
    · have hlt2 : (k : Int) < (len : Int) := by omega
      have hkc : k < cs.length := by omega
      obtain ⟨b, off, rfl, hcell⟩ := HC.out.at (by omega)
      have c1 := cellLater hbl (hcell k hkc).2
      clear hcell
      have hsn := hidden (sizes_snoc cs k hkc)
      have hl1 := HCK.out k hkc
      have hls := HLE.out k
      generalize cs[k] = c at *
      generalize sizes (cs.take k) = t at *
      have hr : (c.l : Int).tmod 2 = ((c.l % 2 : Nat) : Int) := by rw [Int.tmod_eq_emod_of_nonneg (by omega)]; omega
      have hr2 : c.l % 2 ≤ 1 := by omega
      have y1 : (t : Int) ≤ 10000000 := by omega
      have y2 : (c.l : Int) ≤ 10000000 := by omega
      have y4 : IntKind.i64.wrap ((t : Int) + 8) = (t : Int) + 8 := by rw [IntKind.wrap_i64]; omega
      have y5 : IntKind.i64.wrap ((t : Int) + 8 + (c.l : Int)) = (t : Int) + 8 + (c.l : Int) := by rw [IntKind.wrap_i64]; omega
      have y6 : IntKind.i64.wrap ((t : Int) + 8 + (c.l : Int) + ((c.l % 2 : Nat) : Int)) = (t : Int) + 8 + (c.l : Int) + ((c.l % 2 : Nat) : Int) := by rw [IntKind.wrap_i64]; omega
      have hi0 : (0 : Int) ≤ (k : Int) := by omega
      go_upto_region 5 with fail
      go_quiet (fail)
      go_wp2
      go_roundw
      case rel => exact ⟨k + 1, by omega, by go_num, int_eq (by rw [hsn.out]; unfold ckSize; omega), below_drewN hbl _⟩
      case measure => simp [intOf]; omega
    · obtain rfl : k = len := by omega
      have hse : cs.take k = cs := List.take_of_length_le (by omega)
      rw [hse]
      go_wp2
      go_ret
      exact ⟨rfl, hbl⟩
theorem u8_is (a : Int) (n : Nat) (h0 : 0 ≤ a) (h1 : a ≤ 255) (hn : n < 256) : UInt8.ofNat a.toNat = UInt8.ofNat n ↔ a = n := by
  constructor
  · intro h
    have := congrArg UInt8.toNat h
    rw [UInt8.toNat_ofNat', UInt8.toNat_ofNat'] at this
    omega
  · rintro rfl
    simp
/-- what begins as a form does, byte by byte -/
theorem pre_iff (zs : List Int) (hb : OkB zs) : preB zs = true ↔ ∀ i, i < 4 → i < zs.length → zs.getD i 0 = ([70, 79, 82, 77] : List Int).getD i 0 := by
  have hl : (strB (seg zs 0 (min zs.length 4))).length = min zs.length 4 := by simp [strB, seg]
  have hat : ∀ i, i < min zs.length 4 → (strB (seg zs 0 (min zs.length 4)))[i]? = some (UInt8.ofNat (zs.getD i 0).toNat) := fun i hi => by
    have h1 : i < zs.length := by omega
    simp only [strB, seg, List.drop_zero, List.getElem?_map, List.getElem?_take, List.getD_eq_getElem?_getD]
    rw [if_pos hi, List.getElem?_eq_getElem h1]
    rfl
  have hfo : ∀ i, i < 4 → ([70, 79, 82, 77] : List UInt8)[i]? = some (UInt8.ofNat (([70, 79, 82, 77] : List Int).getD i 0).toNat) := fun i hi => by
    match i, hi with
    | 0, _ => rfl
    | 1, _ => rfl
    | 2, _ => rfl
    | 3, _ => rfl
  have hfb : ∀ i, i < 4 → 0 ≤ ([70, 79, 82, 77] : List Int).getD i 0 ∧ ([70, 79, 82, 77] : List Int).getD i 0 ≤ 255 := fun i hi => by
    match i, hi with
    | 0, _ => exact ⟨by decide, by decide⟩
    | 1, _ => exact ⟨by decide, by decide⟩
    | 2, _ => exact ⟨by decide, by decide⟩
    | 3, _ => exact ⟨by decide, by decide⟩
  unfold preB Lib.hasPrefix
  rw [List.isPrefixOf_iff_prefix, List.prefix_iff_eq_take, hl]
  constructor
  · intro h i hi hil
    have e1 := hat i (by omega)
    rw [h, List.getElem?_take, if_pos (by omega), hfo i hi] at e1
    have h2 := okb_at hb i
    have h3 := hfb i hi
    obtain ⟨n, hn⟩ := Int.eq_ofNat_of_zero_le h3.1
    rw [hn] at e1 ⊢
    have e2 : UInt8.ofNat (zs.getD i 0).toNat = UInt8.ofNat n := by simpa using (Option.some.inj e1).symm
    exact (u8_is _ n h2.1 h2.2 (by omega)).1 e2
  · intro h
    apply List.ext_getElem?
    intro i
    by_cases hi : i < min zs.length 4
    · rw [hat i hi, List.getElem?_take, if_pos hi, hfo i (by omega), h i (by omega) (by omega)]
    · rw [List.getElem?_eq_none (by rw [hl]; omega), List.getElem?_eq_none (by rw [List.length_take]; simp; omega)]
end Go.Proofs.Ytedihackifchcaa
