/- A memory in order (OkM); contracts of Malloc and Free of package memory. Contracts of slices.Grow and slices.Concat over bytes, and of mayBeRam and loadHeap of package memory. Contract of Load of package memory. Contract of New of package memory, where the game is one. -/
import Derived.Test.YtpgppdkbkkljnaaY9H
import Derived.Lib.AppendZeros
import Derived.Handy
import Derived.Test.YtpgppdkbkkljnaaH7k
namespace Go.Proofs.Ytpgppdkbkkljnaa
open Go.RowKit
set_option maxHeartbeats 1000000
set_option maxRecDepth 100000
set_option linter.unusedVariables false

structure OkM (s : Ms) : Prop where
  r0 : 0 < s.ram
  rg : s.ram < s.game.length
  gl : s.game.length ≤ s.en
  en : s.en ≤ 1048576
  bl : s.ram ≤ s.bytes.length
  bm : s.bytes.length ≤ 1048576
  bp : s.bytes.length % 256 = 0
  pp : s.pf ≤ s.pt
  ptm : s.pt ≤ 8589934592
  okb : OkB s.bytes
  okg : OkB s.game
  hs : OkS s.hp
  most : s.hp.most = 1048576
  act : 0 < s.hp.bs.length → s.hp.en = s.bytes.length ∧ s.ram ≤ s.hp.start
theorem insB_pos (s : Hs) (n x : Nat) : 0 < (insB s n x).length := by rw [insB_len]; omega
/-- what Malloc makes of a heap in a memory of so many bytes -/
theorem malloc_facts {s t : Hs} {n x a : Nat} (ok : OkS s) (hm : s.most = 1048576) (hr : mallocR s n x = some (a, t)) (ha : 0 < s.bs.length → s.en = x) :
    0 < t.bs.length ∧ x ≤ t.en ∧ t.en ≤ 1048576 ∧ t.en % 256 = 0 ∧ t.most = 1048576 ∧ t.start = (if s.bs.length = 0 then x else s.start) := by
  have ok' := ok_malloc_to ok hr
  have hmost : t.most = s.most := by have := most_malloc s n x; unfold mallocS at this; rw [hr] at this; exact this
  have hpos : 0 < t.bs.length ∧ t.start = stR s x ∧ enR s x ≤ t.en := by
    unfold mallocR at hr
    split at hr
    · cases hr
    · split at hr
      · cases hr
      · split at hr
        · cases hr; exact ⟨insB_pos s n x, rfl, Nat.le_refl _⟩
        · split at hr
          · cases hr
          · cases hr
            refine ⟨insB_pos s n x, rfl, ?_⟩
            have := up_ge ((place n (stR s x) s.bs).2 + n)
            show enR s x ≤ up _
            omega
  obtain ⟨h1, h2, h3⟩ := hpos
  obtain ⟨k1, k2, k3, k4, k5⟩ := ok'.some h1
  refine ⟨h1, ?_, by rw [hmost, hm] at k4; exact k4, k3, by rw [hmost, hm], h2⟩
  unfold enR at h3
  by_cases hz : s.bs.length = 0
  · rw [if_pos hz] at h3; exact h3
  · rw [if_neg hz, ha (by omega)] at h3; exact h3
end Go.Proofs.Ytpgppdkbkkljnaa
namespace Go.Proofs.Ytpgppdkbkkljnaa
open Go.RowKit
set_option maxHeartbeats 1000000
set_option maxRecDepth 100000
set_option linter.unusedVariables false

def ramR (r en L : Nat) : Bool := decide (L ≤ 1048576 - r) && endR en (r + L)
end Go.Proofs.Ytpgppdkbkkljnaa
namespace Go.Proofs.Ytpgppdkbkkljnaa
open Go.RowKit
set_option maxHeartbeats 1000000
set_option maxRecDepth 100000
set_option linter.unusedVariables false

/-- what Load answers, and what it makes of a memory -/
def ldE (s : Ms) (zs : List Int) (x : Nat) (bs : List Bk) : Nat := if 4096 < bs.length then 4 else if ramR s.ram s.en zs.length = false then 1 else if loadE s.hp x (if bs.length = 0 then 0 else s.ram + zs.length) bs = 0 then 0 else 1
def ldS (s : Ms) (zs : List Int) (x : Nat) (bs : List Bk) : Ms := if ldE s zs x bs = 0 then { s with hp := loadS s.hp x (if bs.length = 0 then 0 else s.ram + zs.length) bs, bytes := carL s.pf s.pt s.bytes (s.game.take s.ram ++ zs) } else s
theorem MAt.newrow {B : Nat} {w w1 : World} {m gb gc bb bc h g c : Nat} {hv : Value} {s : Ms} {zs : List Int} (H : MAt B w m gb gc bb bc h hv s) (hb : Below w.heap.size w w1) (ho : w1.ownsRow w.heap.size 5 1 (.slice (some ⟨g, 0, none⟩) zs.length c) zs.length (bytesV zs)) (hB : B ≤ w.heap.size) :
    MAt B (w1.setCell ⟨m, 9, none⟩ (.slice (some ⟨g, 0, none⟩) zs.length c)) m gb gc g c h hv { s with bytes := zs } ∧ Fm w (w1.setCell ⟨m, 9, none⟩ (.slice (some ⟨g, 0, none⟩) zs.length c)) (Tch m h bb hv) (Tch m h g hv) := by
  have H1 := H.later hb
  have hgl := (ho.lt g rfl).1
  have hgb := (H.game.lt gb rfl).2
  have hmh : h ≠ m := fun e => H1.box.neh H1.heap.2.1 e.symm
  refine ⟨⟨H.base, H1.box.set9 _ zs, ownsRow_setCell_other H1.game (by simpa using H1.box.ne8 H1.game) _, ownsRow_setCell_other (own_base ho hB) (by simpa using H1.box.ne8 ho) _, ⟨H.heap.1, ?_, ownsRow_setCell_other H1.heap.2.2 (by simpa using H1.box.neb H1.heap.2.2) _⟩, by show gb ≠ g; omega⟩, ?_⟩
  · rw [heap_setCell_other _ _ _ _ (show h ≠ m from hmh)]; exact H1.heap.2.1
  · refine ⟨hb.os, hb.tape, hb.output, by simpa using hb.size, fun k hk hn => ?_, fun k e => ?_⟩
    · rw [heap_setCell_other _ _ _ _ (show k ≠ m from fun e => hn (.inl e))]; exact hb.block k hk
    · rcases e with e | e | e | e
      · exact .inl (.inl e)
      · exact .inr (by omega)
      · exact .inl (.inr (.inr (.inl e)))
      · exact .inl (.inr (.inr (.inr e)))
end Go.Proofs.Ytpgppdkbkkljnaa
namespace Go.Proofs.Ytpgppdkbkkljnaa
open Go.RowKit
set_option maxHeartbeats 1000000
set_option maxRecDepth 100000
set_option linter.unusedVariables false

theorem new_ok (a : Option Addr) (L cap : Nat) (zs : List Int) (w : World) (h : Reads w a L cap zs) (hb : OkB zs) (hL : L ≤ 1048576) (h0 : 0 < L) (v ext st start tab sm : Int) (R EN : Nat) (hp : parseH zs = (⟨v, R, ext, EN, st, start, tab, sm⟩, 0, 36)) (hen : EN ≤ 1048576) (hle : L ≤ EN) :
    Calls Try.prog 25 #[.slice a L cap] w fun e w' => ∃ m gb gc g h, e = .returned (.tuple #[.pointer (some ⟨m, 0, none⟩), .int .i64 0, .int .i64 36]) ∧ MAt w.heap.size w' m gb gc g EN h (.slice none 0 0) ⟨v, R, ext, EN, st, start, tab, sm, zs, zs ++ zer8 (EN - L), ⟨1048576, 0, 0, []⟩, 0, 0⟩ ∧ Below w.heap.size w w' := by
  have HP := hidden (parse_any a L cap zs w h hb (by omega))
  rw [hp] at HP
  have HR := hidden h
  have hzl := h.1
  clear h hp
  go_enter Try.func25, Try.ntmps25
  go_wp2_with fail
  refine HP.out.mono ?_
  rintro e w1 ⟨rfl, hb1⟩
  go_wp2_with fail
  have hb2 : Below w.heap.size w (w1.alloc (.cells #[.int .u32 v, .int .u32 (R : Int), .int .u32 ext, .int .u32 (EN : Int), .int .u32 st, .int .u32 start, .int .u32 tab, .int .u32 sm] 70)) := hb1.alloc hb1.size _
  have hbx : HBox (w1.alloc (.cells #[.int .u32 v, .int .u32 (R : Int), .int .u32 ext, .int .u32 (EN : Int), .int .u32 st, .int .u32 start, .int .u32 tab, .int .u32 sm] 70)) w1.heap.size ⟨v, R, ext, EN, st, start, tab, sm⟩ := HBox.new w1 ⟨v, R, ext, EN, st, start, tab, sm⟩
  obtain ⟨x0, x1, x2, x3, x4, x5, x6, x7⟩ := hbx.cells
  generalize w1.alloc (.cells #[.int .u32 v, .int .u32 (R : Int), .int .u32 ext, .int .u32 (EN : Int), .int .u32 st, .int .u32 start, .int .u32 tab, .int .u32 sm] 70) = w2 at *
  generalize w1.heap.size = H at *
  have HC := hidden (bclone_any a L cap zs w2.drew (HR.out.later (show Below w.heap.size w w2.drew from ⟨hb2.os, hb2.tape, hb2.output, hb2.size, hb2.block⟩)) (by omega))
  have HB2 := hidden hb2
  clear hb2 hb1 hbx
  go_region_held3 (fun w' => w'.cell? ⟨H, 0, none⟩ = some (.int .u32 v) ∧ w'.cell? ⟨H, 1, none⟩ = some (.int .u32 (R : Int)) ∧ w'.cell? ⟨H, 2, none⟩ = some (.int .u32 ext) ∧ w'.cell? ⟨H, 3, none⟩ = some (.int .u32 (EN : Int)) ∧ w'.cell? ⟨H, 4, none⟩ = some (.int .u32 st) ∧ w'.cell? ⟨H, 5, none⟩ = some (.int .u32 start) ∧ w'.cell? ⟨H, 6, none⟩ = some (.int .u32 tab) ∧ w'.cell? ⟨H, 7, none⟩ = some (.int .u32 sm)) (first | assumption | exact ⟨by assumption, by assumption, by assumption, by assumption, by assumption, by assumption, by assumption, by assumption⟩ | go_keep) (first | (go_at_call 41; refine HC.out.mono ?_; rintro e w3 ⟨a3, c3, rfl, ho3, hb3⟩; have k0 := cellLater hb3 x0; have k1 := cellLater hb3 x1; have k2 := cellLater hb3 x2; have k3 := cellLater hb3 x3; have k4 := cellLater hb3 x4; have k5 := cellLater hb3 x5; have k6 := cellLater hb3 x6; have k7 := cellLater hb3 x7; skip) | fail)
  all_goals (try go_wp2_with fail)
  obtain ⟨gb, cap3, e3, hcap3, hgb3⟩ := owned_shape ho3 h0
  cases e3
  have hb13 : Below w.heap.size w w3 := HB2.out.trans (show Below w.heap.size w2 w3 from ⟨hb3.os, hb3.tape, hb3.output, hb3.size, fun k hk => hb3.block k (by have := HB2.out.size; show k < w2.heap.size; omega)⟩)
  have ho3' := own_base (B := w.heap.size) ho3 (show w.heap.size ≤ w2.heap.size from HB2.out.size)
  have ho4 := ho3'.alloc (.cells #[.int .u32 v, .int .u32 (R : Int), .int .u32 ext, .int .u32 (EN : Int), .int .u32 st, .int .u32 start, .int .u32 tab, .int .u32 sm, .slice (some ⟨gb, 0, none⟩) L c3, .slice none 0 0, .pointer none, .int .u64 0, .int .u64 0] 87)
  have hbx : MBox (w3.alloc (.cells #[.int .u32 v, .int .u32 (R : Int), .int .u32 ext, .int .u32 (EN : Int), .int .u32 st, .int .u32 start, .int .u32 tab, .int .u32 sm, .slice (some ⟨gb, 0, none⟩) L c3, .slice none 0 0, .pointer none, .int .u64 0, .int .u64 0] 87)) w3.heap.size ⟨v, R, ext, EN, st, start, tab, sm, zs, [], ⟨0, 0, 0, []⟩, 0, 0⟩ (.slice (some ⟨gb, 0, none⟩) zs.length c3) (.slice none 0 0) (.pointer none) := by
    have := heap_alloc_new w3 (.cells #[.int .u32 v, .int .u32 (R : Int), .int .u32 ext, .int .u32 (EN : Int), .int .u32 st, .int .u32 start, .int .u32 tab, .int .u32 sm, .slice (some ⟨gb, 0, none⟩) L c3, .slice none 0 0, .pointer none, .int .u64 0, .int .u64 0] 87)
    unfold MBox
    rw [this, hzl]
    rfl
  have HRS := hidden (restart_new w.heap.size w3.heap.size gb c3 ⟨v, R, ext, EN, st, start, tab, sm, zs, [], ⟨0, 0, 0, []⟩, 0, 0⟩ (w3.alloc (.cells #[.int .u32 v, .int .u32 (R : Int), .int .u32 ext, .int .u32 (EN : Int), .int .u32 st, .int .u32 start, .int .u32 tab, .int .u32 sm, .slice (some ⟨gb, 0, none⟩) L c3, .slice none 0 0, .pointer none, .int .u64 0, .int .u64 0] 87)) hbx (by show (w3.alloc _).ownsRow w.heap.size 5 1 (.slice (some ⟨gb, 0, none⟩) zs.length c3) zs.length (bytesV zs); rw [hzl]; exact ho4) (by have := hb13.size; simp; omega) hb13.size (by show zs.length ≤ EN; omega) hen (by show 0 < EN; omega) rfl rfl)
  have HB13 := hidden hb13
  clear hbx ho4 ho3' hb13 ho3 hb3 x0 x1 x2 x3 x4 x5 x6 x7 k0 k1 k2 k3 k4 k5 k6 k7
  refine HRS.out.mono ?_
  rintro e w5 ⟨rfl, g, hh, H5, kp5⟩
  go_wp2
  refine bodyPost_ret (v := .tuple #[.pointer (some ⟨w3.heap.size, 0, none⟩), .int .i64 0, .int .i64 36]) (by simp [results, Try.results25, go_sem]) rfl ⟨w3.heap.size, gb, c3, g, hh, rfl, ?_, ?_⟩
  · have H5' := H5
    simp only [hzl] at H5'
    exact H5'
  · have hb := HB13.out
    refine ⟨kp5.os.trans hb.os, kp5.tape.trans hb.tape, kp5.output.trans hb.output, ?_, fun k hk => ?_⟩
    · have := kp5.size; have := hb.size; simp at *; omega
    · have hks := hb.size
      rw [kp5.block k (by simp; omega) (by omega), Go.heap_alloc_old _ _ (by omega)]
      exact hb.block k hk
end Go.Proofs.Ytpgppdkbkkljnaa
