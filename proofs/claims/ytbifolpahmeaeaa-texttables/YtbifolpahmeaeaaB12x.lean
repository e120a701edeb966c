/- Contract of package text's Pack for any alphabet. -/
import Derived.Test.YtbifolpahmeaeaaB12y
import Derived.Test.YtbifolpahmeaeaaB12f
namespace Go.Proofs.Ytbifolpahmeaeaa
open Go.RowKit Go.Maps
set_option maxHeartbeats 1000000
set_option maxRecDepth 100000
set_option linter.unusedVariables false

/-- the bits of the first k characters -/
def pkS (A l : List Nat) : Nat → List Int × Nat
  | 0 => ([], 0)
  | k + 1 => (1 :: way A.length (A.idxOf (l.getD k 0)) A.length).foldl stepS (pkS A l k)
theorem stepS_len (s : List Int × Nat) (bit : Nat) : (stepS s bit).1.length ≤ s.1.length + 1 := by
  show (stepB s.1 s.2 bit).length ≤ _
  unfold stepB
  split
  · simp
  · simp
theorem fold_len : ∀ (bs : List Nat) (s : List Int × Nat), (bs.foldl stepS s).1.length ≤ s.1.length + bs.length
  | [], s => by simp
  | b :: bs, s => by
    have h1 := fold_len bs (stepS s b)
    have h2 := stepS_len s b
    rw [List.foldl_cons, List.length_cons]
    omega
theorem way_len : ∀ f i n, (way f i n).length ≤ f
  | 0, _, _ => by simp [way]
  | f + 1, i, n => by
    unfold way
    split
    · simp
    · split
      · have := way_len f i (n / 2); simp; omega
      · have := way_len f (i - n / 2) (n - n / 2); simp; omega
theorem pkS_len (A l : List Nat) : ∀ k, (pkS A l k).1.length ≤ k * (A.length + 1)
  | 0 => by simp [pkS]
  | k + 1 => by
    have h1 := pkS_len A l k
    have h2 := fold_len (1 :: way A.length (A.idxOf (l.getD k 0)) A.length) (pkS A l k)
    have h3 := way_len A.length (A.idxOf (l.getD k 0)) A.length
    rw [List.length_cons] at h2
    rw [pkS, Nat.succ_mul]
    omega
theorem getD_idx (A : List Nat) (c : Nat) (h : c ∈ A) : A.idxOf c < A.length ∧ A.getD (A.idxOf c) 0 = c := by
  have h1 := List.idxOf_lt_length_of_mem h
  refine ⟨h1, ?_⟩
  rw [List.getD_eq_getElem?_getD, List.getElem?_eq_getElem h1]
  simp
theorem lit_injg {x : DataW Unit} {cc d : Int} (h1 : x = .lit (.int .i64 d)) (h : x = .lit (.int .i64 cc)) : cc = d := by
  rw [h1] at h
  injection h with h
  injection h with _ h
  exact h.symm
/-- what Pack answers -/
def pkE (A l : List Nat) : Nat := if plE A ≠ 0 then plE A else if ∀ c ∈ l, c ∈ A then 0 else 5
def pkL (A l : List Nat) : List Int := [225] ++ (stepS (pkS A l l.length) 0).1
def PkRet (w : World) (A l : List Nat) (r : Ending) (w' : World) : Prop :=
  Below w.heap.size w w' ∧ ((pkE A l ≠ 0 ∧ r = .returned (.tuple #[.slice none 0 0, .int .i64 (pkE A l : Nat)])) ∨ (pkE A l = 0 ∧ ∃ g c, r = .returned (.tuple #[.slice (some ⟨g, 0, none⟩) (1 + (stepS (pkS A l l.length) 0).1.length) c, .int .i64 0]) ∧ w.heap.size ≤ g ∧ Reads w' (some ⟨g, 0, none⟩) (1 + (stepS (pkS A l l.length) 0).1.length) c (pkL A l)))
theorem plE_ok {A : List Nat} (h : plE A = 0) : A.Nodup ∧ A.length ≤ 1024 := by
  unfold plE at h
  split at h
  · omega
  · split at h
    · rename_i h1 h2; exact ⟨h2, by omega⟩
    · omega
theorem tpack_all (a1 a2 : Option Addr) (n ln c1 c2 : Nat) (A l : List Nat) (w : World) (h1 : VRow w a1 n A) (h2 : VRow w a2 ln l) (hn : n ≤ 1000) (hl : ln ≤ 1000) :
    Calls Try.prog 9 #[.slice a1 n c1, .slice a2 ln c2] w (PkRet w A l) := by
  have hAl := h1.ln
  have hll := h2.ln
  have HPC := hidden (tplaces_any a1 n c1 A w h1 (by omega))
  by_cases hE : ¬ plE A = 0
  · have HE : Hid (pkE A l = plE A) := hidden (by unfold pkE; rw [if_pos hE])
    have HPD : Hid (∀ r w', PcRet w A n (plE A) r w' → r = .returned (.tuple #[.map none, .int .i64 (plE A : Nat)]) ∧ Hid (Below w.heap.size w w')) := hidden (fun r w' hh => by
      rcases hh with ⟨hb, ⟨_, e⟩ | ⟨h0, _⟩⟩
      · exact ⟨e, hidden hb⟩
      · exact absurd h0 hE)
    have HFIN : Hid (∀ w', Below w.heap.size w w' → PkRet w A l (.returned (.tuple #[.slice none 0 0, .int .i64 (plE A : Nat)])) w') := hidden (fun w' hb => ⟨hb, .inl ⟨by rw [HE.out]; exact hE, by rw [HE.out]⟩⟩)
    generalize hPQ : PkRet w A l = PQ at *
    clear hPQ HE h1 h2
    have g0 : ((plE A : Int) == 0) = false := by simp; omega
    have g3 : ¬ ((plE A : Nat) : Int) = 0 := by omega
    generalize plE A = EE at *
    go_enter Try.func9, Try.ntmps9
    go_wp2_with (first | (go_at_call 17; refine HPC.out.mono ?_; intro r w1 hpc; obtain ⟨rfl, HB1⟩ := HPD.out _ _ hpc; clear hpc))
    exact HFIN.out _ HB1.out
  replace hE : plE A = 0 := Decidable.not_not.1 hE
  rw [hE] at HPC
  obtain ⟨hnd, hA2⟩ := plE_ok hE
  have HPD : Hid (∀ r w', PcRet w A n 0 r w' → ∃ b, r = .returned (.tuple #[.map (some b), .int .i64 0]) ∧ Hid (w.heap.size ≤ b) ∧ Hid (w'.ownsMap (H := Unit) Try.prog 22 (plainElem Try.prog 3) b n (mapTo A n)) ∧ Hid (Below w.heap.size w w')) := fun r w' hh => by
    rcases hh with ⟨hb, ⟨h0, _⟩ | ⟨_, b, e, hb2, ho⟩⟩
    · exact absurd rfl h0
    · exact ⟨b, e, hb2, ho, hb⟩
  have HHAS : Hid (∀ c, Maps.has (mapTo A n) (.int .u32 ((c : Nat) : Int)) = decide (c ∈ A)) := hidden (fun c => by
    have := mapTo_has A c n (by omega)
    rwa [List.take_of_length_le (by omega)] at this)
  have HAT : Hid (∀ c, c ∈ A → ∀ z, (mapTo A n).atKey (.int .u32 ((c : Nat) : Int)) z = .lit (.int .i64 (A.idxOf c : Nat))) := hidden (fun c hc z => by
    obtain ⟨i1, i2⟩ := getD_idx A c hc
    exact mapTo_at A c (A.idxOf c) n (by omega) (by rw [List.take_of_length_le (by omega)]; exact hnd) (by omega) i2 z)
  have HID : Hid (∀ c, c ∈ A → A.idxOf c < n) := hidden (fun c hc => by have := (getD_idx A c hc).1; omega)
  have HNO : Hid (∀ j, j < ln → l.getD j 0 ∉ A → ∀ w', Below w.heap.size w w' → PkRet w A l (.returned (.tuple #[.slice none 0 0, .int .i64 5])) w') := hidden (fun j hj hc w' hb => by
    have e : pkE A l = 5 := by
      unfold pkE
      rw [if_neg (by rw [hE]; simp), if_neg (fun h => hc (h _ (by rw [List.getD_eq_getElem?_getD, List.getElem?_eq_getElem (by omega)]; simp)))]
    exact ⟨hb, .inl ⟨by rw [e]; omega, by rw [e]; rfl⟩⟩)
  have HYE : Hid ((∀ j, j < ln → l.getD j 0 ∈ A) → ∀ g c w', w.heap.size ≤ g → Reads w' (some ⟨g, 0, none⟩) (1 + (stepS (pkS A l ln) 0).1.length) c ([225] ++ (stepS (pkS A l ln) 0).1) → Below w.heap.size w w' → PkRet w A l (.returned (.tuple #[.slice (some ⟨g, 0, none⟩) (1 + (stepS (pkS A l ln) 0).1.length) c, .int .i64 0])) w') := hidden (fun hc g c w' hg hr hb => by
    have e : pkE A l = 0 := by
      unfold pkE
      rw [if_neg (by rw [hE]; simp), if_pos (fun x hx => by
        obtain ⟨j, hj, rfl⟩ := List.getElem_of_mem hx
        have := hc j (by omega)
        rwa [List.getD_eq_getElem?_getD, List.getElem?_eq_getElem hj] at this)]
    rw [← hll] at hr ⊢
    exact ⟨hb, .inr ⟨e, g, c, rfl, hg, hr⟩⟩)
  have HPL := hidden (fun k => pkS_len A l k)
  have HPS : Hid (∀ k, pkS A l (k + 1) = (1 :: way n (A.idxOf (l.getD k 0)) n).foldl stepS (pkS A l k)) := hidden (fun k => by rw [pkS, hAl])
  have hP0 : pkS A l 0 = ([], 0) := rfl
  have HV2 := hidden h2
  have HLL := hidden hll
  have HAL := hidden hAl
  generalize hPQ : PkRet w A l = PQ at *
  clear hPQ h1 h2 hE hll hAl hnd hA2
  go_enter Try.func9, Try.ntmps9
  go_upto_region 6 with (first | (go_at_call 17; refine HPC.out.mono ?_; intro r w1 hpc; obtain ⟨b, rfl, HBb, HO1, HB1⟩ := HPD.out _ _ hpc; clear hpc))
  have HBX : Hid (BRow w.heap.size (w1.alloc (.cells #[.slice none 0 0, .int .u64 0] 62)) w1.heap.size (.slice none 0 0) (pkS A l 0).1 (pkS A l 0).2) := ⟨heap_alloc_new _ _, World.ownsRow_nil _ _ _ _, (by show (0 : Nat) < 8; omega), fun h => absurd rfl h, HB1.out.size⟩
  have HO2 := hidden (HO1.out.alloc (.cells #[.slice none 0 0, .int .u64 0] 62))
  have HB2 : Hid (Below w.heap.size w (w1.alloc (.cells #[.slice none 0 0, .int .u64 0] 62))) := HB1.out.alloc HB1.out.size _
  generalize w1.alloc (.cells #[.slice none 0 0, .int .u64 0] 62) = w2 at *
  clear HO1 HB1 HPC HPD hP0
  generalize w1.heap.size = R at *
  go_loopw [23] (fun i wr => ∃ k : Nat, k ≤ ln ∧ i = .int .i64 k ∧ Hid (∀ j, j < k → l.getD j 0 ∈ A) ∧ Hid (∃ v, BRow w.heap.size wr R v (pkS A l k).1 (pkS A l k).2) ∧ Hid (wr.ownsMap (H := Unit) Try.prog 22 (plainElem Try.prog 3) b n (mapTo A n)) ∧ Hid (Below w.heap.size w wr)) (fun i _ => ln - (intOf i).toNat)
  case atStart => exact ⟨0, by omega, rfl, hidden (fun j hj => by omega), ⟨_, HBX.out⟩, HO2, HB2⟩
  case round =>
    clear HBX HO2 HB2
    obtain ⟨k, hk, rfl, HIN, HR, HO, HB⟩ := hrel
    by_cases hlt : k < ln
    · have d1 : (k : Int) < ln := by omega
      have d2 : (0 : Int) ≤ (k : Int) := by omega
      have d3 : ((k : Int)).toNat = k := by omega
      obtain ⟨bb, oo, e2, hc⟩ := (HV2.out.later HB.out).cells k hlt
      subst e2
      have HXB := hidden (show l.getD k 0 < 4294967296 from HV2.out.bd _ (by rw [List.getD_eq_getElem?_getD, List.getElem?_eq_getElem (by have := HLL.out; omega)]; simp))
      have HNK := hidden (HNO.out k hlt)
      have HPK := hidden (HPS.out k)
      have HIK : Hid (l.getD k 0 ∈ A → ∀ j, j < k + 1 → l.getD j 0 ∈ A) := hidden (fun h j hj => by
        by_cases e : j = k
        · subst e; exact h
        · exact HIN.out j (by omega))
      generalize l.getD k 0 = X at *
      have HKY : Hid (keyOf Try.prog 22 (.int .u32 (X : Int)) = some (.int .u32 (X : Int))) := key32 X HXB.out
      have hhas := HHAS.out X
      by_cases hX : X ∈ A
      · rw [decide_eq_true hX] at hhas
        have HATX := hidden (HAT.out X hX)
        have HIX := hidden (HID.out X hX)
        have HIN2 := hidden (HIK.out hX)
        generalize A.idxOf X = I at *
        have HAC : Hid (Calls Try.prog 25 #[.pointer (some ⟨R, 0, none⟩), .int .i64 I, .int .i64 n] wr fun r w' => r = .returned (.tuple #[]) ∧ Hid (∃ v, BRow w.heap.size w' R v (pkS A l (k + 1)).1 (pkS A l (k + 1)).2) ∧ Hid (w'.ownsMap (H := Unit) Try.prog 22 (plainElem Try.prog 3) b n (mapTo A n)) ∧ Hid (Below w.heap.size w w')) := by
          obtain ⟨v, hbr⟩ := HR.out
          have hlen : (pkS A l k).1.length + n ≤ 9000000 := by
            have h1 := HPL.out k
            rw [HAL.out] at h1
            have h2 : k * (n + 1) ≤ 1000 * 1001 := Nat.mul_le_mul (by omega) (by omega)
            omega
          refine (taddc_any w.heap.size R I n v (pkS A l k).1 (pkS A l k).2 wr hbr HB.out.size hlen HIX.out).mono ?_
          rintro r w' ⟨rfl, v', h3, h4⟩
          rw [show ((pkS A l k).1, (pkS A l k).2) = pkS A l k from rfl, ← HPK.out] at h3
          refine ⟨rfl, ⟨v', h3⟩, map_fm h4 HO.out ?_, HB.out.trans (h4.below HB.out.size ?_)⟩
          · rintro (e | e)
            · exact map_ne HO.out hbr.box e
            · exact map_own HO.out hbr.row e
          · rintro j (rfl | e)
            · exact hbr.base
            · exact (hbr.row.lt j e).1
        clear HNK HIK HIN HPK
        go_wp2_with (first | (at_lookup; refine wpList_lookup_own_ok_int _ rfl _ _ 49 rfl 22 3 .i64 law32 Try.underlying49 Try.underlying3 (zeroI _) b n _ rfl HO.out _ _ rfl HKY.out ?_; intro cc hat hwc; rw [hhas]; obtain rfl := lit_injg (HATX.out _) hat; clear hat hwc) | (go_at_call 25; refine HAC.out.mono ?_; rintro r w3 ⟨rfl, HR3, HO3, HB3⟩))
        go_roundw
        case rel => exact ⟨k + 1, by omega, by go_num, HIN2, HR3, HO3, HB3⟩
        case measure => simp [intOf]; omega
      · rw [decide_eq_false hX] at hhas
        have HF := hidden (HNK.out hX wr HB.out)
        clear HNK HIK HIN HPK
        go_wp2_with (first | (at_lookup; refine wpList_lookup_own_ok_int _ rfl _ _ 49 rfl 22 3 .i64 law32 Try.underlying49 Try.underlying3 (zeroI _) b n _ rfl HO.out _ _ rfl HKY.out ?_; intro cc hat hwc; rw [hhas]; clear hat hwc))
        exact HF.out
    · obtain rfl : k = ln := by omega
      have d1 : ¬ ((k : Int) < k) := by omega
      have HF := hidden (HYE.out HIN.out)
      have hlen : (pkS A l k).1.length ≤ 9000000 := by
        have h1 := HPL.out k
        rw [HAL.out] at h1
        have h2 : k * (n + 1) ≤ 1000 * 1001 := Nat.mul_le_mul (by omega) (by omega)
        omega
      have hlen2 := stepS_len (pkS A l k) 0
      generalize pkS A l k = S at *
      have HAC : Hid (Calls Try.prog 26 #[.pointer (some ⟨R, 0, none⟩), .int .u8 0] wr fun r w' => r = .returned (.tuple #[]) ∧ ∃ a' c', w'.cell? ⟨R, 0, none⟩ = some (.slice a' (stepS S 0).1.length c') ∧ Hid (Reads w' a' (stepS S 0).1.length c' (stepS S 0).1) ∧ Hid (Below w.heap.size w w')) := by
        obtain ⟨v, hbr⟩ := HR.out
        refine (tadd0 w.heap.size R v S wr hbr HB.out.size (by omega)).mono ?_
        rintro r w' ⟨rfl, v', h3, h4⟩
        have hrow := h3.row
        have hbox := h3.box
        obtain ⟨a', c', rfl⟩ := own_slice8 hrow
        refine ⟨rfl, a', c', by simp [World.cell?, hbox], own_read8 (v := .slice a' (stepS S 0).1.length c') hrow, HB.out.trans (h4.below HB.out.size ?_)⟩
        rintro j (rfl | e)
        · exact hbr.base
        · exact (hbr.row.lt j e).1
      have hlen3 : (stepS S 0).1.length ≤ 9000001 := by omega
      generalize (stepS S 0).1 = Z at *
      generalize hZL : Z.length = L at *
      clear hZL HR HIN hlen hlen2 HYE HNO
      go_wp2_with (first | (go_at_call 26; refine HAC.out.mono ?_; rintro r w3 ⟨rfl, a', c', q0, HRD, HB3⟩; have HOW : Hid ((w3.alloc (.cells #[.int .u8 225] 5)).ownsRow w3.heap.size 5 1 (.slice (some ⟨w3.heap.size, 0, none⟩) 1 1) 1 (bytesV [225])) := owns_new w3 w3.heap.size [225] (Nat.le_refl _) (by decide); have HRA := hidden (HRD.out.later ((Below.refl _ _).alloc (Nat.le_refl _) (.cells #[.int .u8 225] 5))); have q1 := cellLater ((Below.refl w3.heap.size w3).alloc (Nat.le_refl _) (.cells #[.int .u8 225] 5)) q0; have HBA : Hid (w3.heap.size ≤ (w3.alloc (.cells #[.int .u8 225] 5)).heap.size) := (by show _ ≤ _; simp)) | (at_builtin; refine wpList_appR rfl _ _ rfl w3.heap.size w3.heap.size 1 1 L c' a' [225] Z rfl rfl HOW.out HRA.out (by omega) HBA.out ?_; intro g5 c5 w5 ho5 f5; have HR5 := hidden (own_reads ho5); have HG5 : Hid (w.heap.size ≤ g5) := hidden (Nat.le_trans HB3.out.size (own_splice ho5).choose_spec.2.2.1); have HB5 : Hid (Below w.heap.size w w5) := HB3.out.trans ((((Below.refl _ _).alloc (Nat.le_refl _) (.cells #[.int .u8 225] 5)).trans (f5.out.below HBA.out (fun k e => (HOW.out.lt k e).1))).mono HB3.out.size); clear ho5 f5))
      exact HF.out g5 c5 w5 HG5.out HR5.out HB5.out
end Go.Proofs.Ytbifolpahmeaeaa
