/- Contracts of package text's addChar and Pack. -/
import Derived.Test.YtbifolpahmeaeaaB12n
import Derived.Test.YtbifolpahmeaeaaB12m
namespace Go.Proofs.Ytbifolpahmeaeaa
open Go.RowKit Go.Maps
set_option maxHeartbeats 1000000
set_option maxRecDepth 100000
set_option linter.unusedVariables false

/-- bits more -/
def stepS (s : List Int × Nat) (bit : Nat) : List Int × Nat := (stepB s.1 s.2 bit, (s.2 + 1) % 8)
/-- the bits that lead to character i out of n -/
def way : Nat → Nat → Nat → List Nat
  | 0, _, _ => []
  | f + 1, i, n => if n ≤ 1 then [] else if i < n / 2 then 0 :: way f i (n / 2) else 1 :: way f (i - n / 2) (n - n / 2)
theorem stepB_len (zs : List Int) (nx bit : Nat) (h : nx ≠ 0 → zs ≠ []) : zs.length ≤ (stepB zs nx bit).length ∧ (stepB zs nx bit).length ≤ zs.length + 1 := by
  unfold stepB
  split
  · simp
  · rename_i hn
    have := List.length_pos_iff.2 (h hn)
    simp
    omega
theorem tadd0 (B R : Nat) (v : Value) (s : List Int × Nat) (w : World) (h : BRow B w R v s.1 s.2) (hB : B ≤ w.heap.size) (hl : s.1.length ≤ 10000000) :
    Calls Try.prog 26 #[.pointer (some ⟨R, 0, none⟩), .int .u8 0] w fun r w' => r = .returned (.tuple #[]) ∧ Hid (∃ v', BRow B w' R v' (stepS s 0).1 (stepS s 0).2 ∧ Fm w w' (fun k => k = R ∨ v.ownBlock = some k) (fun k => k = R ∨ v'.ownBlock = some k)) := by
  have h := tadd_any B R v s.1 s.2 0 w h hB (by omega) hl
  have e1 : ((0 : Nat) : Int) = 0 := rfl
  rw [e1] at h
  exact h
theorem tadd1 (B R : Nat) (v : Value) (s : List Int × Nat) (w : World) (h : BRow B w R v s.1 s.2) (hB : B ≤ w.heap.size) (hl : s.1.length ≤ 10000000) :
    Calls Try.prog 26 #[.pointer (some ⟨R, 0, none⟩), .int .u8 1] w fun r w' => r = .returned (.tuple #[]) ∧ Hid (∃ v', BRow B w' R v' (stepS s 1).1 (stepS s 1).2 ∧ Fm w w' (fun k => k = R ∨ v.ownBlock = some k) (fun k => k = R ∨ v'.ownBlock = some k)) := by
  have h := tadd_any B R v s.1 s.2 1 w h hB (by omega) hl
  have e1 : ((1 : Nat) : Int) = 1 := rfl
  rw [e1] at h
  exact h
/-- what addChar leaves -/
def AcRet (B : Nat) (w : World) (R : Nat) (v : Value) (s : List Int × Nat) (r : Ending) (w' : World) : Prop :=
  r = .returned (.tuple #[]) ∧ ∃ v', BRow B w' R v' s.1 s.2 ∧ Fm w w' (fun k => k = R ∨ v.ownBlock = some k) (fun k => k = R ∨ v'.ownBlock = some k)
theorem taddc1 (B R : Nat) (v : Value) (s : List Int × Nat) (w : World) (h : BRow B w R v s.1 s.2) (hB : B ≤ w.heap.size) (hl : s.1.length ≤ 10000000) :
    Calls Try.prog 25 #[.pointer (some ⟨R, 0, none⟩), .int .i64 0, .int .i64 1] w fun r w' => r = .returned (.tuple #[]) ∧ Hid (∃ v', BRow B w' R v' (stepS s 1).1 (stepS s 1).2 ∧ Fm w w' (fun k => k = R ∨ v.ownBlock = some k) (fun k => k = R ∨ v'.ownBlock = some k)) := by
  have HA1 := hidden (tadd1 B R v s w h hB hl)
  clear h
  generalize stepS s 1 = S at *
  go_enter Try.func25, Try.ntmps25
  go_upto_region 1 with (first | (go_at_call 26; refine HA1.out.mono ?_; rintro r w1 ⟨rfl, HR1⟩))
  go_loopw [1, 2] (fun vi vn wr => vi = .int .i64 0 ∧ vn = .int .i64 1 ∧ wr = w1) (fun _ _ _ => 0)
  case atStart => exact ⟨rfl, rfl, rfl⟩
  case round =>
    obtain ⟨rfl, rfl, rfl⟩ := hrel
    go_wp2
    refine bodyPost_end (v := .tuple #[]) (by simp [results, Try.results25, go_sem]) rfl ⟨rfl, HR1⟩
theorem map_fm {w w' : World} {T T' : Nat → Prop} {b n : Nat} {D : DataW Unit} (f : Fm w w' T T') (h : w.ownsMap (H := Unit) Try.prog 22 (plainElem Try.prog 3) b n D) (hb : ¬ T b) : w'.ownsMap (H := Unit) Try.prog 22 (plainElem Try.prog 3) b n D := by
  have hlt := h.lt
  obtain ⟨es, clock, h1, h2⟩ := h
  exact ⟨es, clock, (f.block b hlt hb).trans h1, h2⟩
theorem map_ne {w : World} {b n R : Nat} {D : DataW Unit} {cs : Array Value} {e : TypeId} {fz : Nat × Nat} (h : w.ownsMap (H := Unit) Try.prog 22 (plainElem Try.prog 3) b n D) (hR : w.heap[R]? = some (.cells cs e fz)) : b ≠ R := by
  obtain ⟨es, clock, h1, h2⟩ := h
  intro e
  subst e
  rw [h1] at hR
  simp at hR
theorem map_own {w : World} {b n : Nat} {D : DataW Unit} {B m e : Nat} {v : Value} {xs : List Value} (h : w.ownsMap (H := Unit) Try.prog 22 (plainElem Try.prog 3) b n D) (ho : w.ownsRow B e 1 v m xs) : v.ownBlock ≠ some b := by
  rcases ho.2 with ⟨rfl, _⟩ | ⟨g, cap, cur, rfl, _, hg, _⟩
  · intro e; cases e
  · intro e
    simp only [Value.ownBlock, Option.some.injEq] at e
    exact map_ne h hg e.symm
theorem lit_inj {x : DataW Unit} {cc : Int} (h1 : x = .lit (.int .i64 0)) (h : x = .lit (.int .i64 cc)) : cc = 0 := by
  rw [h1] at h
  injection h with h
  injection h with _ h
  exact h.symm
/-- the bits behind k of the two characters -/
def bz : Nat → List Int × Nat
  | 0 => ([], 0)
  | k + 1 => stepS (bz k) 1
theorem tpack_live (a1 a2 : Option Addr) (c1 c2 : Nat) (w : World) (h1 : VRow w a1 1 [97]) (h2 : VRow w a2 2 [97, 97]) :
    Calls Try.prog 9 #[.slice a1 1 c1, .slice a2 2 c2] w fun r w' => ∃ a' c', r = .returned (.tuple #[.slice a' 2 c', .int .i64 0]) ∧ Hid (Reads w' a' 2 c' [225, 3]) ∧ Hid (Below w.heap.size w w') := by
  have hE : plE [97] = 0 := by decide
  have HPC := hidden (tplaces_any a1 1 c1 [97] w h1 (by omega))
  rw [hE] at HPC
  have HPD : Hid (∀ r w', PcRet w [97] 1 0 r w' → ∃ b, r = .returned (.tuple #[.map (some b), .int .i64 0]) ∧ Hid (w.heap.size ≤ b) ∧ Hid (w'.ownsMap (H := Unit) Try.prog 22 (plainElem Try.prog 3) b 1 (mapTo [97] 1)) ∧ Hid (Below w.heap.size w w')) := fun r w' hh => by
    rcases hh with ⟨hb, ⟨h0, _⟩ | ⟨_, b, e, hb2, ho⟩⟩
    · exact absurd rfl h0
    · exact ⟨b, e, hb2, ho, hb⟩
  have hhas : Maps.has (mapTo [97] 1) (.int .u32 97) = true := by
    have := mapTo_has [97] 97 1 (by decide)
    simpa using this
  have HAT : Hid (∀ z, (mapTo [97] 1).atKey (.int .u32 97) z = .lit (.int .i64 0)) := fun z => by
    have := mapTo_at [97] 97 0 1 (by decide) (by decide) (by omega) rfl z
    simpa using this
  have HKY : Hid (keyOf Try.prog 22 (.int .u32 97) = some (.int .u32 97)) := key32 97 (by omega)
  have HV2 := hidden h2
  obtain ⟨bb, oo, e2, -⟩ := h2.cells 0 (by omega)
  subst e2
  have HC2 : Hid (∀ k, k < 2 → w.cell? ⟨bb, oo + k, none⟩ = some (.int .u32 97)) := fun k hk => by
    obtain ⟨b', o', e', hc⟩ := HV2.out.cells k hk
    cases e'
    rw [hc]
    rcases (show k = 0 ∨ k = 1 by omega) with rfl | rfl <;> rfl
  clear h1 h2 HV2 hE
  go_enter Try.func9, Try.ntmps9
  go_upto_region 6 with (first | (go_at_call 17; refine HPC.out.mono ?_; intro r w1 hpc; obtain ⟨b, rfl, HBb, HO1, HB1⟩ := HPD.out _ _ hpc; clear hpc))
  have HBX : Hid (BRow w.heap.size (w1.alloc (.cells #[.slice none 0 0, .int .u64 0] 62)) w1.heap.size (.slice none 0 0) (bz 0).1 (bz 0).2) := ⟨heap_alloc_new _ _, World.ownsRow_nil _ _ _ _, by decide, fun h => absurd rfl h, HB1.out.size⟩
  have HO2 := hidden (HO1.out.alloc (.cells #[.slice none 0 0, .int .u64 0] 62))
  have HB2 : Hid (Below w.heap.size w (w1.alloc (.cells #[.slice none 0 0, .int .u64 0] 62))) := HB1.out.alloc HB1.out.size _
  generalize w1.alloc (.cells #[.slice none 0 0, .int .u64 0] 62) = w2 at *
  clear HO1 HB1 HPC HPD
  generalize w1.heap.size = R at *
  go_loopw [23] (fun i wr => ∃ k : Nat, k ≤ 2 ∧ i = .int .i64 k ∧ Hid (∃ v, BRow w.heap.size wr R v (bz k).1 (bz k).2) ∧ Hid (wr.ownsMap (H := Unit) Try.prog 22 (plainElem Try.prog 3) b 1 (mapTo [97] 1)) ∧ Hid (Below w.heap.size w wr)) (fun i _ => 2 - (intOf i).toNat)
  case atStart => exact ⟨0, by omega, rfl, ⟨_, HBX.out⟩, HO2, HB2⟩
  case round =>
    clear HBX HO2 HB2
    obtain ⟨k, hk, rfl, HR, HO, HB⟩ := hrel
    have hlen : (bz k).1.length ≤ 1000 := by
      rcases (show k = 0 ∨ k = 1 ∨ k = 2 by omega) with rfl | rfl | rfl <;> decide
    by_cases hlt : k < 2
    · have d1 : (k : Int) < 2 := by omega
      have d2 : (0 : Int) ≤ (k : Int) := by omega
      have hc := cellLater HB.out (HC2.out k hlt)
      have HAC : Hid (Calls Try.prog 25 #[.pointer (some ⟨R, 0, none⟩), .int .i64 0, .int .i64 1] wr fun r w' => r = .returned (.tuple #[]) ∧ Hid (∃ v, BRow w.heap.size w' R v (bz (k + 1)).1 (bz (k + 1)).2) ∧ Hid (w'.ownsMap (H := Unit) Try.prog 22 (plainElem Try.prog 3) b 1 (mapTo [97] 1)) ∧ Hid (Below w.heap.size w w')) := by
        obtain ⟨v, hbr⟩ := HR.out
        refine (taddc1 w.heap.size R v (bz k) wr hbr HB.out.size (by omega)).mono ?_
        rintro r w' ⟨rfl, v', h3, h4⟩
        refine ⟨rfl, ⟨v', h3⟩, map_fm h4 HO.out ?_, HB.out.trans (h4.below HB.out.size ?_)⟩
        · rintro (e | e)
          · exact map_ne HO.out hbr.box e
          · exact map_own HO.out hbr.row e
        · rintro j (rfl | e)
          · exact hbr.base
          · exact (hbr.row.lt j e).1
      go_wp2_with (first | (at_lookup; refine wpList_lookup_own_ok_int _ rfl _ _ 49 rfl 22 3 .i64 law32 Try.underlying49 Try.underlying3 (zeroI _) b 1 _ rfl HO.out _ _ rfl HKY.out ?_; intro cc hat hwc; rw [hhas]; obtain rfl := lit_inj (HAT.out _) hat; clear hat hwc) | (go_at_call 25; refine HAC.out.mono ?_; rintro r w3 ⟨rfl, HR3, HO3, HB3⟩))
      go_roundw
      case rel => exact ⟨k + 1, by omega, by go_num, HR3, HO3, HB3⟩
      case measure => simp [intOf]; omega
    · obtain rfl : k = 2 := by omega
      have HAC : Hid (Calls Try.prog 26 #[.pointer (some ⟨R, 0, none⟩), .int .u8 0] wr fun r w' => r = .returned (.tuple #[]) ∧ ∃ a' c', w'.cell? ⟨R, 0, none⟩ = some (.slice a' 1 c') ∧ Hid (Reads w' a' 1 c' [3]) ∧ Hid (Below w.heap.size w w')) := by
        obtain ⟨v, hbr⟩ := HR.out
        refine (tadd0 w.heap.size R v (bz 2) wr hbr HB.out.size (by omega)).mono ?_
        rintro r w' ⟨rfl, v', h3, h4⟩
        have hz : (stepS (bz 2) 0).1 = [3] := by decide
        have hrow := h3.row
        have hbox := h3.box
        rw [hz] at hrow
        obtain ⟨a', c', rfl⟩ := own_slice8 hrow
        refine ⟨rfl, a', c', by simp [World.cell?, hbox], own_read8 (v := .slice a' 1 c') hrow, HB.out.trans (h4.below HB.out.size ?_)⟩
        rintro j (rfl | e)
        · exact hbr.base
        · exact (hbr.row.lt j e).1
      go_wp2_with (first | (go_at_call 26; refine HAC.out.mono ?_; rintro r w3 ⟨rfl, a', c', q0, HRD, HB3⟩; have HOW : Hid ((w3.alloc (.cells #[.int .u8 225] 5)).ownsRow w3.heap.size 5 1 (.slice (some ⟨w3.heap.size, 0, none⟩) 1 1) 1 (bytesV [225])) := owns_new w3 w3.heap.size [225] (Nat.le_refl _) (by decide); have HRA := hidden (HRD.out.later ((Below.refl _ _).alloc (Nat.le_refl _) (.cells #[.int .u8 225] 5))); have q1 := cellLater ((Below.refl w3.heap.size w3).alloc (Nat.le_refl _) (.cells #[.int .u8 225] 5)) q0; have HBA : Hid (w3.heap.size ≤ (w3.alloc (.cells #[.int .u8 225] 5)).heap.size) := (by show _ ≤ _; simp)) | (at_builtin; refine wpList_appR rfl _ _ rfl w3.heap.size w3.heap.size 1 1 1 c' a' [225] [3] rfl rfl HOW.out HRA.out (by omega) HBA.out ?_; intro g5 c5 w5 ho5 f5; have HR5 := hidden (own_reads ho5); have HB5 : Hid (Below w.heap.size w w5) := HB3.out.trans ((((Below.refl _ _).alloc (Nat.le_refl _) (.cells #[.int .u8 225] 5)).trans (f5.out.below HBA.out (fun k e => (HOW.out.lt k e).1))).mono HB3.out.size); clear ho5 f5))
      go_ret2
      exact ⟨_, _, rfl, HR5, HB5⟩
end Go.Proofs.Ytbifolpahmeaeaa
