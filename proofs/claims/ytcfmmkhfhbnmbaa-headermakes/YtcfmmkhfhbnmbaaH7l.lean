/- The page's example (the laws' live). -/
import Derived.Test.YtcfmmkhfhbnmbaaH7k
import Derived.Lib.SlBytesConst
import Derived.Deep.OwnRows
namespace Go.Proofs.Ytcfmmkhfhbnmbaa
open Go.RowKit
set_option maxHeartbeats 1000000
set_option maxRecDepth 100000
set_option linter.unusedVariables false

theorem num7 (n : Int) (w : World) : Calls Try.prog 13 #[.int .i64 n] w fun e w' => e = .returned (.int .i64 n) ∧ w' = w := by
  go_enter Try.func13, Try.ntmps13
  go_wp2
  go_ret
  exact ⟨rfl, rfl⟩
theorem small_any (w : World) : Calls Try.prog 21 #[] w fun e w' => e = .returned (.agg #[.int .u32 196867, .int .u32 256, .int .u32 256, .int .u32 512, .int .u32 256, .int .u32 36, .int .u32 0, .int .u32 0]) ∧ Below w.heap.size w w' := by
  go_enter Try.func21, Try.ntmps21
  go_wp2
  refine bodyPost_ret (v := .agg #[.int .u32 196867, .int .u32 256, .int .u32 256, .int .u32 512, .int .u32 256, .int .u32 36, .int .u32 0, .int .u32 0]) (by simp [results, Try.results21, go_sem]) rfl ⟨rfl, ?_⟩
  exact (Below.refl _ _).alloc (Nat.le_refl _) _
theorem make_small (a : Option Addr) (w0 w : World) (hb : Below w0.heap.size w0 w) (h : Reads w a 220 220 zer) :
    Calls Try.prog 17 #[.agg #[.int .u32 196867, .int .u32 256, .int .u32 256, .int .u32 512, .int .u32 256, .int .u32 36, .int .u32 0, .int .u32 0], .slice a 220 220] w fun e w' => ∃ g c, e = .returned (.tuple #[.slice (some ⟨g, 0, none⟩) 256 c, .int .i64 0]) ∧ 256 ≤ c ∧ Bs w' g 0 256 (makeL hdS zer) ∧ Below w0.heap.size w0 w' := by
  refine (make_good 196867 256 256 512 256 36 0 0 a 220 220 zer w h zer_ok (by decide) 0 small_num).mono ?_
  rintro e w' ⟨r, rfl, ho, hb'⟩
  obtain ⟨g, c, rfl, hc, -⟩ := owned_shape ho (by decide)
  exact ⟨g, c, rfl, hc, own_bs ho, hb.trans (hb'.mono hb.size)⟩
theorem zeros_made (w : World) : Reads (w.alloc (.cells (madeCells #[.int .u8 0] 220) 5)) (some ⟨w.heap.size, 0, none⟩) 220 220 zer := by
  have e : madeCells #[.int .u8 0] 220 = (bytesV zer).toArray := by kernel_rfl
  rw [e]
  have := own_bs (owns_new w 0 zer (Nat.zero_le _) (by decide))
  exact this.reads 220 (Nat.le_refl _)
theorem live_a (w w2 : World) (o : Obj) (hb2 : Below w.drew.heap.size w.drew w2) : Below w.heap.size w (w2.alloc o) := by
  have h1 : Below w.heap.size w w2 := ((Below.refl w.heap.size w).drew).trans (hb2.mono (Nat.le_refl _))
  exact h1.alloc h1.size o
theorem live_b (w w2 : World) (o : Obj) (hb2 : Below (w.drew.alloc o).heap.size (w.drew.alloc o) w2) : Below w.heap.size w w2 := by
  have h1 : Below w.heap.size w (w.drew.alloc o) := ((Below.refl w.heap.size w).drew).alloc (Nat.le_refl _) o
  exact h1.trans (hb2.mono h1.size)
theorem marked_cell (w : World) (C : Array Value) (t : TypeId) (f : Nat × Nat) (i : Nat) : (w.alloc (.cells C t f)).cell? ⟨w.heap.size, i, none⟩ = C[i]? := by
  have hg : (w.alloc (.cells C t f)).heap[w.heap.size]? = some (.cells C t f) := heap_alloc_new _ _
  unfold World.cell?
  simp only
  rw [hg]
  rfl
theorem glux_reads (w : World) : Reads (w.alloc (.cells #[.int .u8 71, .int .u8 108, .int .u8 117, .int .u8 120] 5 (4, 4 + 1))) (some ⟨w.heap.size, 0, none⟩) 4 4 [71, 108, 117, 120] := by
  refine ⟨rfl, Nat.le_refl _, .inr ⟨_, rfl, fun i hi => ?_⟩⟩
  rw [plain_add, Nat.zero_add, marked_cell]
  match i, hi with
  | 0, _ => rfl
  | 1, _ => rfl
  | 2, _ => rfl
  | 3, _ => rfl
theorem live_any (w : World) : Calls Try.prog 9 #[] w fun e w' => e = .returned (.bool true) ∧ Below w.heap.size w w' := by
  have HSm := hidden fun w => small_any w
  have hmk : ∀ w, (Instr.makeSlice 22 (.int .i64 220) (.int .i64 220)).run Try.prog w = .ok (.slice (some ⟨w.heap.size, 0, none⟩) 220 220) (w.alloc (.cells (madeCells #[.int .u8 0] 220) 5)) := fun w => by
    have := run_make_row' (P := Try.prog) 22 5 (.int .u8 0) 1 Try.underlying22 info8 rfl .i64 .i64 220 (by omega) (by omega) w
    exact this
  have HZ := hidden fun w => zeros_made w
  have HMk := hidden fun a wx hb hr => make_small a w wx hb hr
  generalize hMC : madeCells #[Value.int .u8 0] 220 = MC at *
  clear hMC
  go_enter Try.func9, Try.ntmps9
  go_wp2_with fail
  go_region_held3 (fun w' => True) (trivial) (first | (go_at_call 21; refine (HSm.out _).mono ?_; rintro e w2 ⟨rfl, hb2⟩) | (go_at_call 17; refine (HMk.out _ _ (live_a w w2 _ hb2) (HZ.out _)).mono ?_; rintro e w5 ⟨g, c, rfl, hc, hBs, hb5⟩; clear hb2) | (go_at_call 17; refine (HMk.out _ _ (live_b w w2 _ hb2) ((HZ.out w.drew).later hb2)).mono ?_; rintro e w5 ⟨g, c, rfl, hc, hBs, hb5⟩; clear hb2) | fail)
  all_goals
    clear HSm hmk HZ HMk
    have HP1 := hidden (parse_any (some ⟨g, 0, none⟩) 256 c (makeL hdS zer) w5 (hBs.reads c hc) (makeL_ok hdS zer zer_ok) (by decide))
    rw [small_parse] at HP1
    have HBs := hidden hBs
    have HB := hidden hb5
    clear hBs hb5
    go_wp2_with fail
    refine HP1.out.mono ?_
    rintro e w6 ⟨rfl, hb6⟩
    replace HBs := hidden (HBs.out.later hb6)
    replace HB := hidden (HB.out.trans (hb6.mono HB.out.size))
    clear hb6 HP1
    go_upto_region 3 with fail
    change Code.wp _ _ _ _ (w6.alloc (.cells #[.int .u32 196867, .int .u32 256, .int .u32 256, .int .u32 512, .int .u32 256, .int .u32 36, .int .u32 0, .int .u32 1198488467] 27))
    have H3 := hidden (hd_fresh w6 ⟨196867, 256, 256, 512, 256, 36, 0, 1198488467⟩)
    replace HBs := hidden (HBs.out.later ((Below.refl _ _).alloc (Nat.le_refl _) (.cells #[.int .u32 196867, .int .u32 256, .int .u32 256, .int .u32 512, .int .u32 256, .int .u32 36, .int .u32 0, .int .u32 1198488467] 27)))
    replace HB := hidden (HB.out.alloc HB.out.size (.cells #[.int .u32 196867, .int .u32 256, .int .u32 256, .int .u32 512, .int .u32 256, .int .u32 36, .int .u32 0, .int .u32 1198488467] 27))
    generalize hB3 : w6.heap.size = B3 at *
    generalize w6.alloc (.cells #[.int .u32 196867, .int .u32 256, .int .u32 256, .int .u32 512, .int .u32 256, .int .u32 36, .int .u32 0, .int .u32 1198488467] 27) = w7 at *
    go_wp2_with fail
    refine (small_any _).mono ?_
    rintro e w8 ⟨rfl, hb8⟩
    replace HBs := hidden (HBs.out.later hb8)
    replace HB := hidden (HB.out.trans (hb8.mono HB.out.size))
    replace H3 := hidden (hd_of hb8 H3.out)
    clear hb8
    go_upto_region 4 with fail
    change Code.wp _ _ _ _ (w8.alloc (.cells #[.int .u32 196867, .int .u32 256, .int .u32 256, .int .u32 512, .int .u32 256, .int .u32 36, .int .u32 0, .int .u32 0] 27))
    go_upto_region 5 with fail
    change Code.wp _ _ _ _ (w8.alloc (.cells #[.int .u32 196867, .int .u32 256, .int .u32 256, .int .u32 512, .int .u32 256, .int .u32 36, .int .u32 0, .int .u32 1198488467] 27))
    have H6 := hidden (hd_fresh w8 ⟨196867, 256, 256, 512, 256, 36, 0, 1198488467⟩)
    replace HBs := hidden (HBs.out.later ((Below.refl _ _).alloc (Nat.le_refl _) (.cells #[.int .u32 196867, .int .u32 256, .int .u32 256, .int .u32 512, .int .u32 256, .int .u32 36, .int .u32 0, .int .u32 1198488467] 27)))
    replace H3 := hidden (hd_of ((Below.refl _ _).alloc (Nat.le_refl _) (.cells #[.int .u32 196867, .int .u32 256, .int .u32 256, .int .u32 512, .int .u32 256, .int .u32 36, .int .u32 0, .int .u32 1198488467] 27)) H3.out)
    replace HB := hidden (HB.out.alloc HB.out.size (.cells #[.int .u32 196867, .int .u32 256, .int .u32 256, .int .u32 512, .int .u32 256, .int .u32 36, .int .u32 0, .int .u32 1198488467] 27))
    generalize hB6 : w8.heap.size = B6 at *
    generalize w8.alloc (.cells #[.int .u32 196867, .int .u32 256, .int .u32 256, .int .u32 512, .int .u32 256, .int .u32 36, .int .u32 0, .int .u32 1198488467] 27) = w9 at *
    have hcv := Lib.run_convert_bytes_const (P := Try.prog) w9 22 5 #[.int .u8 71, .int .u8 108, .int .u8 117, .int .u8 120] 4 4 Try.underlying22 Try.underlying5
    have hsz : (#[.int .u8 71, .int .u8 108, .int .u8 117, .int .u8 120] : Array Value).size = 4 := rfl
    rw [hsz] at hcv
    clear hsz
    have HP2 := hidden (parse_any (some ⟨w9.heap.size, 0, none⟩) 4 4 [71, 108, 117, 120] (w9.alloc (.cells #[.int .u8 71, .int .u8 108, .int .u8 117, .int .u8 120] 5 (4, 4 + 1))) (glux_reads w9) (by unfold OkB; decide) (by decide))
    rw [glux_parse] at HP2
    go_wp2_with (go_at_call 11; refine HP2.out.mono ?_; rintro e w10 ⟨rfl, hb10⟩; refine Hid.out ?_)
    have hbm : Below w9.heap.size w9 (w9.alloc (.cells #[.int .u8 71, .int .u8 108, .int .u8 117, .int .u8 120] 5 (4, 4 + 1))) := (Below.refl _ _).alloc (Nat.le_refl _) _
    have hbn : Below w9.heap.size w9 w10 := hbm.trans (hb10.mono (by simp))
    replace HBs := hidden (HBs.out.later hbn)
    replace H3 := hidden (hd_of hbn H3.out)
    replace H6 := hidden (hd_of hbn H6.out)
    replace HB := hidden (HB.out.trans (hbn.mono HB.out.size))
    clear hbm hbn hb10 HP2 hcv
    refine hidden ?_
    go_upto_region 6 with fail
    have hbz : Below w10.heap.size w10 (w10.alloc (.cells #[.int .u32 hd0.v, .int .u32 hd0.ram, .int .u32 hd0.ext, .int .u32 hd0.en, .int .u32 hd0.st, .int .u32 hd0.start, .int .u32 hd0.tab, .int .u32 hd0.sum] 27)) := (Below.refl _ _).alloc (Nat.le_refl _) _
    replace HBs := hidden (HBs.out.later hbz)
    replace H3 := hidden (hd_of hbz H3.out)
    replace H6 := hidden (hd_of hbz H6.out)
    replace HB := hidden (HB.out.trans (hbz.mono HB.out.size))
    clear hbz
    generalize w10.heap.size = B10 at *
    generalize w10.alloc (.cells #[.int .u32 hd0.v, .int .u32 hd0.ram, .int .u32 hd0.ext, .int .u32 hd0.en, .int .u32 hd0.st, .int .u32 hd0.start, .int .u32 hd0.tab, .int .u32 hd0.sum] 27) = w11 at *
    have HSu : Hid (∀ n, Calls Try.prog 15 #[.slice (some ⟨g, 0, none⟩) 256 c] (w11.drewN n) fun e w' => e = .returned (.int .u32 1198488467) ∧ w' = w11.drewN n) := hidden fun n => by
      have := hsum_some g 0 256 c (makeL hdS zer) (w11.drewN n) (HBs.out.later (below_drewN (Below.refl _ _) n)) (makeL_ok hdS zer zer_ok) hc (by decide)
      rw [small_sumV] at this
      exact this
    have H31 := H3.out
    have H61 := H6.out
    unfold HdAt at H31 H61
    dsimp only at H31 H61
    obtain ⟨k0, k1, k2, k3, k4, k5, k6, k7, -⟩ := H31
    obtain ⟨l0, l1, l2, l3, l4, l5, l6, l7, -⟩ := H61
    clear HBs H3 H6
    go_quiet (first | (go_at_call 15; exact Calls.quiet_of_same (HSu.out _)) | (go_at_call 13; exact Calls.quiet_of_same (num7 _ _)))
    go_wp2
    go_ret
    exact ⟨rfl, below_drewN HB.out _⟩
end Go.Proofs.Ytcfmmkhfhbnmbaa
