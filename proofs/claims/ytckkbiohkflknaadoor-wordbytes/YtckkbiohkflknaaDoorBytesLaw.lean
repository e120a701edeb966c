/- The walk of WordBytes: for all bytes, places, numbers of bytes and words: which word the bytes say, and which bytes a word is, are as the page says; the bytes stay. -/
import Derived.Test.YtckkbiohkflknaaDoorTabs
import Derived.Test.YtckkbiohkflknaaDoorRefBytes
import Derived.Test.YtckkbiohkflknaaDoorRefPut
namespace Go.Proofs.YtckkbiohkflknaaDoor
open Go.RowKit
set_option maxHeartbeats 1000000

theorem isW_not {n : Int} (h : ¬ IsW n) : (n == 1) = false ∧ (n == 2) = false ∧ (n == 4) = false := by
  refine ⟨?_, ?_, ?_⟩
  · simpa using fun e => h (Or.inl e)
  · simpa using fun e => h (Or.inr (Or.inl e))
  · simpa using fun e => h (Or.inr (Or.inr e))
/-- both readings of bytes come to one answer -/
theorem be_both (a : Option Addr) (len cap : Nat) (zs : List Int) (at_ n : Int) (w0 : World) (hr0 : Reads w0 a len cap zs) (hlen : len ≤ 4096) (ha : at_ ≤ 9223372036854775807) (hb : OkB zs) :
    ∃ V E : Int,
      (∀ w g c2, len + 1 ≤ c2 → (∀ i, i < len + 1 → w.cell? ⟨g, 0 + i, none⟩ = some (.int .u8 ((zs ++ [77]).getD i 0))) →
        Calls Tryd.prog 11 #[.slice (some ⟨g, 0, none⟩) len c2, .int .i64 at_, .int .i64 n] w fun e w' => e = .returned (.tuple #[.int .u32 V, .int .i64 E]) ∧ w' = w) ∧
      (∀ w, Reads w a len cap zs → Calls Tryd.prog 12 #[.slice a len cap, .int .i64 at_, .int .i64 n] w fun e w' => e = .returned (.tuple #[.int .u32 V, .int .i64 E]) ∧ w' = w) := by
  by_cases hn : IsW n
  case neg =>
    obtain ⟨h1, h2, h4⟩ := isW_not hn
    exact ⟨0, 1, fun w g c2 _ _ => be_bad _ _ _ w h1 h2 h4, fun w _ => rbe_bad _ _ _ w h1 h2 h4⟩
  by_cases h0 : at_ < 0
  · exact ⟨0, 1, fun w g c2 _ _ => be_neg _ _ _ w hn h0, fun w _ => rbe_neg _ _ _ w hn h0⟩
  have hl63 : (len : Int) ≤ 9223372036854775807 := by omega
  have hn1 : 1 ≤ n ∧ n ≤ 4 := by rcases hn with h | h | h <;> omega
  by_cases hfar : (len : Int) ≤ at_
  · exact ⟨0, 2, fun w g c2 _ _ => be_short _ len c2 at_ n w hn (by omega) ha hl63 (by omega), fun w _ => rbe_far a len cap at_ n w hn (by omega) ha hfar⟩
  have hzl := hr0.1
  have hget : ∀ i, i < len → (zs ++ [77]).getD i 0 = zs.getD i 0 := fun i hi => by simp [List.getD_eq_getElem?_getD, List.getElem?_append_left (show i < zs.length by omega)]
  have hplain : ∀ w, Reads w a len cap zs → ∃ b off, a = some ⟨b, off, none⟩ ∧ ∀ i, i < len → w.cell? ⟨b, off + i, none⟩ = some (.int .u8 (zs.getD i 0)) := by
    intro w hr
    rcases hr.2.2 with ⟨_, h, _⟩ | ⟨x, hx, hc⟩
    · omega
    · obtain ⟨b, off, spot⟩ := x
      have hc0 := hc 0 (by omega)
      have hspot : spot = none := by simpa [Addr.add] using World.cell?_spot hc0
      subst hspot
      exact ⟨b, off, hx, fun i hi => by have := hc i hi; rwa [plain_add] at this⟩
  by_cases hs : at_ + n ≤ (len : Int)
  · refine ⟨beV zs at_.toNat n, 0, fun w g c2 hc2 hc => ?_, fun w hr => ?_⟩
    · exact be_any g 0 len c2 zs at_ n w hn (by omega) hs hl63 (by omega) (fun i hi => by rw [hc i (by omega), hget i hi]) hb
    · obtain ⟨b, off, rfl, hc⟩ := hplain w hr
      refine (rbe_any b off len cap zs at_ n w hn (by omega) (by omega) (by omega) hr.2.1 hc hb).mono ?_
      rintro e w' ⟨h1, _, h3⟩
      exact ⟨h1 hs, h3⟩
  · refine ⟨0, 2, fun w g c2 hc2 hc => be_short _ len c2 at_ n w hn (by omega) ha hl63 (by omega), fun w hr => ?_⟩
    obtain ⟨b, off, rfl, hc⟩ := hplain w hr
    refine (rbe_any b off len cap zs at_ n w hn (by omega) (by omega) (by omega) hr.2.1 hc hb).mono ?_
    rintro e w' ⟨_, h2, h3⟩
    exact ⟨h2 (by omega), h3⟩
theorem reads_of_row {w : World} {a : Option Addr} {len cap : Nat} {zs : List Int} (h : IsRow .u8 w a len cap zs) : Reads w a len cap (zs.take len) ∧ OkB (zs.take len) := by
  rcases h with ⟨rfl, rfl, rfl, rfl⟩ | ⟨x, rfl, hl, hm, hz, hcell, hwz⟩
  · exact ⟨reads_nil w, fun c hc => by cases hc⟩
  · refine ⟨⟨by simp; omega, hl, .inr ⟨x, rfl, fun i hi => ?_⟩⟩, fun c hc => ?_⟩
    · rw [hcell i (by omega)]
      simp [List.getD_eq_getElem?_getD, hi]
    · have := bounds_u8 (hwz c (List.mem_of_mem_take hc))
      exact this
theorem wordBytes_walk (a0 : Option Addr) (len0 cap0 : Nat) (z0 : List Int) (a1 a2 a3 : Int) (w : World) (w0 : IsRow .u8 w a0 len0 cap0 z0) (w1 : (Lit.int .i64 a1).wf = true) (_w2 : (Lit.int .i64 a2).wf = true) (w3 : (Lit.int .u32 a3).wf = true) (ht : Laid w) :
    Calls Tryd.prog 3 #[.slice a0 len0 cap0, .int .i64 a1, .int .i64 a2, .int .u32 a3] w fun e w' => e = .returned (.bool true) ∧ Below w.heap.size w w' := by
  have b1 := bounds_i64 w1
  have b3 := bounds_u32 w3
  have hmax : len0 ≤ maxLen := by
    rcases w0 with ⟨_, rfl, _, _⟩ | ⟨x, _, hl, hm, _⟩
    · exact Nat.zero_le _
    · omega
  unfold maxLen at hmax
  obtain ⟨hr, hok⟩ := reads_of_row w0
  clear w0 w1 _w2 w3
  by_cases hbig : 4096 < len0
  · have hb2 : (4096 : Int) < (len0 : Int) := by omega
    clear hr hok
    go_enter Tryd.func3, Tryd.ntmps3
    go_wp2_with (go_at_call 9; refine (live_any _ ht).mono ?_; rintro e w1 ⟨rfl, hb⟩)
    go_ret
    exact ⟨rfl, hb⟩
  have hlen : len0 ≤ 4096 := by omega
  have hlen2 : (len0 : Int) ≤ 4096 := by omega
  obtain ⟨V, E, CB, CR⟩ := be_both a0 len0 cap0 (z0.take len0) a1 a2 w hr hlen b1.2 hok
  have HB := hidden CB
  have HR := hidden CR
  have HRd := hidden hr
  have HOk := hidden hok
  have HPk := hidden (putL_bd a3 a2)
  clear CB CR hr hok
  generalize z0.take len0 = zs at *
  go_enter Tryd.func3, Tryd.ntmps3
  go_wp2_with fail
  refine (lent_any a0 len0 cap0 zs _ HRd.out hlen).mono ?_
  rintro e w1 ⟨g, c2, rfl, hc2, hg, hb1, hcell⟩
  have HC1 := hidden hcell
  have HR1 := hidden (HRd.out.later hb1)
  clear hcell
  go_wp2_with fail
  refine (HB.out _ g c2 hc2 HC1.out).mono ?_
  rintro e w1b ⟨rfl, hw⟩
  obtain rfl := hw.symm
  go_wp2_with fail
  refine (HR.out _ HR1.out).mono ?_
  rintro e w1b ⟨rfl, hw⟩
  obtain rfl := hw.symm
  go_wp2_with fail
  refine (put_reads a3 a2 _).mono ?_
  rintro e w2 ⟨p, l, c, rfl, hp, hb2⟩
  have HP2 := hidden hp
  clear hp
  go_wp2_with fail
  refine (num_any _ _).mono ?_
  rintro e w2b ⟨rfl, hw⟩
  obtain rfl := hw.symm
  go_wp2_with fail
  refine (rput_reads a3 a2 _ b3.1 b3.2).mono ?_
  rintro e w3 ⟨p2, l2, cc2, rfl, hp2, hb3⟩
  have HP3 := hidden hp2
  clear hp2
  have hs1 := hb1.size
  have hs2 := hb2.size
  have hs3 := hb3.size
  have hb13 : Below w1.heap.size w1 w3 := hb2.trans (hb3.mono hs2)
  have hb03 : Below w.heap.size w w3 := hb1.trans (hb13.mono hs1)
  go_wp2_with fail
  refine (same_eq p p2 l c l2 cc2 (putL a3 a2) _ HPk.out (HP2.out.later hb3) HP3.out).mono ?_
  rintro e w3b ⟨rfl, hw⟩
  obtain rfl := hw.symm
  go_wp2_with fail
  refine (kept_eq g len0 c2 a0 cap0 zs _ HOk.out hlen hc2 (fun i hi => cellLater hb13 (HC1.out i hi)) (HR1.out.later hb13)).mono ?_
  rintro e w3b ⟨rfl, hw⟩
  obtain rfl := hw.symm
  have HT : TabOK w3 := TabOK.below ht hb03 (Nat.le_refl _)
  go_wp2_with (go_at_call 9; refine (live_any _ HT).mono ?_; rintro e w5 ⟨rfl, hb5⟩)
  go_ret
  exact ⟨rfl, hb03.trans (hb5.mono hb03.size)⟩
end Go.Proofs.YtckkbiohkflknaaDoor
