/- Contracts of word.Number: a text that is some integer's digits is read as that integer, and any other text is none, wherever the library's errors and table read as their text lays them. -/
import Derived.Test.YtckkbiohkflknabDoorTabs
import Derived.Test.YtckkbiohkflknabDoorDigits
import Derived.Test.YtckkbiohkflknabDoorShelf2
import Derived.Shelf.Strconv.ErrVarParseInt
import Derived.Stop.LaidErr
import Derived.Lib.SmallJoins
namespace Go.Proofs.YtckkbiohkflknabDoor
open Go.RowKit
set_option maxHeartbeats 1000000

def ErrIs (n : String) (w : World) : Prop := ∃ tp p, w.var? Tryd.prog n = some #[.iface tp p]
/-- what the walks are told of the five listed variables -/
def Laid5 (w : World) : Prop := TabOK w ∧ ErrIs "strconv.ErrSyntax" w ∧ ErrIs "strconv.ErrRange" w
theorem gES : Tryd.prog.globalNamed "strconv.ErrSyntax" = some 0 := by kernel_rfl
theorem gER : Tryd.prog.globalNamed "strconv.ErrRange" = some 1 := by kernel_rfl
theorem Laid5.below {w w' : World} {B : Nat} (h : Laid5 w) (hb : Below B w w') (hB : w.heap.size ≤ B) : Laid5 w' := by
  obtain ⟨h1, ⟨t2, p2, h2⟩, ⟨t3, p3, h3⟩⟩ := h
  exact ⟨h1.below hb hB, ⟨t2, p2, Go.Joins.var_stays gES h2 hb hB⟩, ⟨t3, p3, Go.Joins.var_stays gER h3 hb hB⟩⟩

/-- ParseInt at a text that is no int32's: some number, and an error that is not nil -/
theorem parse_bad (s : ByteArray) (hlim : s.size ≤ 281474976710656) (h : ∀ v, Lib.parseIntB 32 s.data.toList ≠ .ok v) (w : World) (hl : Laid5 w) :
    Calls Tryd.prog 20 #[.string s, .int .i64 10, .int .i64 32] w fun e w' => ∃ x N, e = .returned (.tuple #[.int .i64 x, .iface 56 (.pointer (some ⟨N, 0, none⟩))]) ∧ Below w.heap.size w w' := by
  obtain ⟨_, ⟨t2, p2, h2⟩, ⟨t3, p3, h3⟩⟩ := hl
  cases hh : Lib.parseIntB 32 s.data.toList with
  | ok v => exact absurd hh (h v)
  | range =>
    refine (Any.strconv_ParseInt_10_at32_range_var Tryd.laysC174 s hlim hh t3 p3 w h3).mono ?_
    rintro e w' ⟨N, he, _, _, hb⟩
    exact ⟨_, N, he, hb⟩
  | _ =>
    refine (Any.strconv_ParseInt_10_at32_syntax_var Tryd.laysC174 s hlim hh t2 p2 w h2).mono ?_
    rintro e w' ⟨N, he, _, _, hb⟩
    exact ⟨_, N, he, hb⟩
theorem parse_ok (s : ByteArray) (hmax : s.size ≤ 281474976710656) (v : Int) (h : Lib.parseIntB 32 s.data.toList = .ok v) (w : World) :
    Calls Tryd.prog 20 #[.string s, .int .i64 10, .int .i64 32] w fun e w' => e = .returned (.tuple #[.int .i64 v, .nilIface]) ∧ Below w.heap.size w w' := by
  refine (Tryd.strconv_ParseInt_10_at32_ok s (by omega) v h w).mono ?_
  rintro e w' ⟨he, hw⟩
  refine ⟨he, ?_⟩
  rcases hw with rfl | ⟨t, rfl⟩
  · exact Below.refl _ _
  · exact Lib.bytesWorld_below _ _ _
theorem str_of (s : ByteArray) (l : List UInt8) (h : l = s.data.toList) : s = ⟨l.toArray⟩ := by subst h; rfl
theorem mod_back (v : Int) (h0 : -2147483648 ≤ v) (h1 : v ≤ 2147483647) : wrap32 (v % 4294967296) = v := by unfold wrap32; omega

theorem number_yes (s : ByteArray) (hlim : s.size ≤ 281474976710656) (v : Int) (h0 : -2147483648 ≤ v) (h1 : v ≤ 2147483647) (h : Lib.itoa v = s.data.toList) (w : World) (hl : Laid5 w) :
    Calls Tryd.prog 7 #[.string s] w fun e w' => e = .returned (.tuple #[.int .u32 (v % 4294967296), .bool true]) ∧ Below w.heap.size w w' := by
  have hp := parse_itoa v h0 h1
  rw [h] at hp
  have hs : Hid (Lib.itoa (wrap32 (v % 4294967296)) = s.data.toList) := by rw [mod_back v h0 h1]; exact h
  have hs2 : (⟨(Lib.itoa (wrap32 (v % 4294967296))).toArray⟩ : ByteArray) = s := by rw [hs.out]
  have HP := hidden hp
  clear hp h
  go_enter Tryd.func7, Tryd.ntmps7
  go_wp2_with (first | (go_at_call 20; refine (parse_ok s hlim v HP.out _).mono ?_; rintro e w1 ⟨rfl, hb1⟩) | (go_at_call 9; refine (dec_any _ _ ((hl.below hb1 (Nat.le_refl _)).1)).mono ?_; rintro e w2 ⟨rfl, hb2⟩))
  go_ret2
  exact ⟨rfl, hb1.trans (hb2.mono hb1.size)⟩
theorem number_no (s : ByteArray) (hlim : s.size ≤ 281474976710656) (h : ∀ v : Int, -2147483648 ≤ v → v ≤ 2147483647 → Lib.itoa v ≠ s.data.toList) (w : World) (hl : Laid5 w) :
    Calls Tryd.prog 7 #[.string s] w fun e w' => e = .returned (.tuple #[.int .u32 0, .bool false]) ∧ Below w.heap.size w w' := by
  by_cases hp : ∃ v, Lib.parseIntB 32 s.data.toList = .ok v
  · obtain ⟨v, hp⟩ := hp
    obtain ⟨h0, h1⟩ := parse_range _ _ hp
    have hne := h v h0 h1
    have hs2 : (Lib.itoa (wrap32 (v % 4294967296)) == s.toList) = false := by
      rw [mod_back v h0 h1, beq_eq_false_iff_ne, ByteArray.toList_eq]
      exact hne
    have HP := hidden hp
    clear hp h hne
    go_enter Tryd.func7, Tryd.ntmps7
    go_wp2_with (first | (go_at_call 20; refine (parse_ok s hlim v HP.out _).mono ?_; rintro e w1 ⟨rfl, hb1⟩) | (go_at_call 9; refine (dec_any _ _ ((hl.below hb1 (Nat.le_refl _)).1)).mono ?_; rintro e w2 ⟨rfl, hb2⟩))
    go_ret2
    exact ⟨rfl, hb1.trans (hb2.mono hb1.size)⟩
  · have hq : Hid (∀ v, Lib.parseIntB 32 s.data.toList ≠ .ok v) := fun v hv => hp ⟨v, hv⟩
    clear hp h
    go_enter Tryd.func7, Tryd.ntmps7
    go_wp2_with (go_at_call 20; refine (parse_bad s hlim hq.out _ hl).mono ?_; rintro e w1 ⟨x, N, rfl, hb1⟩)
    go_ret2
    exact ⟨rfl, hb1⟩
end Go.Proofs.YtckkbiohkflknabDoor
