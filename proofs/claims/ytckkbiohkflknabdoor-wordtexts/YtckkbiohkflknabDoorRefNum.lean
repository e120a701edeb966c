/- Contract of the document's own Number (package grottoref01): a text of at most 4096 bytes that is some integer's digits is read as that integer, and any other text is none. -/
import Derived.Test.YtckkbiohkflknabDoorRefText
import Derived.Test.YtckkbiohkflknabDoorNumMath
namespace Go.Proofs.YtckkbiohkflknabDoor
open Go.RowKit
set_option maxHeartbeats 1000000

theorem numR_false (s : ByteArray) (w : World) (hpos : 0 < s.size) (h45 : ((s[0].toNat : Int) == 45) = false) (hone : ((0 : Int) == (s.size : Int)) = false) (h11 : (s.size : Int) ≤ 11) :
    Calls Tryd.prog 8 #[.string s] w fun e w' => NumPost s.data.toList e ∧ Below w.heap.size w w' := by
  have hz3 : (0 : Int) < (s.size : Int) := by omega
  have hsh : Hid (∀ v : Int, Lib.itoa v = s.data.toList → 0 ≤ v ∧ s.data.toList.drop 0 = Lib.decDigits v.natAbs) := hidden fun v h => (shape s hpos v h).2 h45
  have hge : 0 ≤ s.size := by omega
  go_enter Tryd.func8, Tryd.ntmps8
  go_wp2
  go_loop [4, 7] (fun n i => ∃ k : Nat, 0 ≤ k ∧ k ≤ s.size ∧ i = .int .i64 k ∧ allDig (seg s 0 k) ∧ n = .int .i64 (dval 0 (seg s 0 k))) (fun _ i => s.size - (intOf i).toNat)
  case atStart => exact ⟨0, Nat.le_refl _, hge, rfl, (by rw [seg_start]; exact allDig_nil), (by rw [seg_start]; rfl)⟩
  case round =>
    obtain ⟨k, hk0, hk, rfl, hd, rfl⟩ := hrel
    have hbd := seg_bd s 0 k hd (by omega)
    have HD := hidden hd
    clear hd
    by_cases hlt : k < s.size
    · have hsn := hidden (seg_snoc s 0 k hk0 hlt)
      have hbyte : s[k].toNat < 256 := s[k].toNat_lt
      by_cases hc : 48 ≤ s[k].toNat ∧ s[k].toNat ≤ 57
      · obtain ⟨hc1, hc2⟩ := hc
        have hnd := hidden (snoc_dig s 0 k hk0 hlt HD.out ⟨hc1, hc2⟩)
        have c1 : (48 : Int) ≤ (s[k].toNat : Int) := by omega
        have c2 : (s[k].toNat : Int) ≤ 57 := by omega
        have hv : Hid (dval 0 (seg s 0 (k + 1)) = dval 0 (seg s 0 k) * 10 + (s[k].toNat - 48)) := by rw [hsn.out, dval_append]; rfl
        generalize dval 0 (seg s 0 k) = D at hv hbd ⊢
        go_wp2
        go_round
        case rel => exact ⟨k + 1, by omega, by omega, by go_num, hnd.out, int_eq (by rw [hv.out]; omega)⟩
        case measure => simp [intOf]; omega
      · have hno : Hid (∀ v : Int, -2147483648 ≤ v → v ≤ 2147483647 → Lib.itoa v ≠ s.data.toList) := hidden fun v _ _ e => by
          have h2 := (hsh.out v e).2
          have h3 := seg_mem s 0 k hk0 hlt
          rw [h2] at h3
          exact hc (dec_dig _ _ h3)
        by_cases hc1 : 48 ≤ s[k].toNat
        · have c1 : ¬ (s[k].toNat : Int) < 48 := by omega
          have c2 : (57 : Int) < (s[k].toNat : Int) := by omega
          go_wp2
          go_ret2
          exact ⟨Or.inr ⟨hno.out, rfl⟩, Below.refl _ _⟩
        · have c1 : (s[k].toNat : Int) < 48 := by omega
          go_wp2
          go_ret2
          exact ⟨Or.inr ⟨hno.out, rfl⟩, Below.refl _ _⟩
    · obtain rfl : k = s.size := by omega
      have hse := seg_end s 0
      have hval : Hid (∀ v : Int, Lib.itoa v = s.data.toList → v = ((dval 0 (seg s 0 s.size) : Nat) : Int)) := hidden fun v e => by
        obtain ⟨h1, h2⟩ := hsh.out v e
        rw [hse, h2, dval_dec]
        omega
      clear hse
      generalize hD : dval 0 (seg s 0 s.size) = D at hval hbd ⊢
      clear hD
      by_cases r1 : (D : Int) < -2147483648
      · have hno : Hid (∀ v : Int, -2147483648 ≤ v → v ≤ 2147483647 → Lib.itoa v ≠ s.data.toList) := hidden fun v h0 h1 e => by
          have := hval.out v e
          omega
        clear hval hsh
        go_wp2
        go_ret2
        exact ⟨Or.inr ⟨hno.out, rfl⟩, Below.refl _ _⟩
      by_cases r2 : 2147483648 ≤ (D : Int)
      · have hno : Hid (∀ v : Int, -2147483648 ≤ v → v ≤ 2147483647 → Lib.itoa v ≠ s.data.toList) := hidden fun v h0 h1 e => by
          have := hval.out v e
          omega
        clear hval hsh
        go_wp2
        go_ret2
        exact ⟨Or.inr ⟨hno.out, rfl⟩, Below.refl _ _⟩
      have hmb := mod_back ((D : Int)) (by omega) (by omega)
      by_cases he : Lib.itoa ((D : Int)) = s.data.toList
      · have he2 : Lib.itoa (wrap32 ((D : Int) % 4294967296)) = s.toList := by rw [hmb, he, tl]
        have hyes : Hid (Lib.itoa ((D : Int)) = s.data.toList) := he
        clear he hmb hval hsh
        go_wp2_with (first | (go_at_call 21; refine (of_any _ _).mono ?_; rintro e w1 ⟨rfl, hw⟩; obtain rfl := hw.symm) | (go_at_call 10; refine (decR_any _ _ (by omega) (by omega)).mono ?_; rintro e w1 ⟨rfl, hb⟩))
        go_ret2
        exact ⟨Or.inl ⟨_, by omega, by omega, hyes.out, rfl⟩, hb⟩
      · have he2 : (Lib.itoa (wrap32 ((D : Int) % 4294967296)) == s.toList) = false := by rw [hmb, tl, beq_eq_false_iff_ne]; exact he
        have hno : Hid (∀ v : Int, -2147483648 ≤ v → v ≤ 2147483647 → Lib.itoa v ≠ s.data.toList) := hidden fun v h0 h1 e => by
          have := hval.out v e
          rw [this] at e
          exact he e
        clear he hmb hval hsh
        go_wp2_with (first | (go_at_call 21; refine (of_any _ _).mono ?_; rintro e w1 ⟨rfl, hw⟩; obtain rfl := hw.symm) | (go_at_call 10; refine (decR_any _ _ (by omega) (by omega)).mono ?_; rintro e w1 ⟨rfl, hb⟩))
        go_ret2
        exact ⟨Or.inr ⟨hno.out, rfl⟩, hb⟩

theorem numR_true (s : ByteArray) (w : World) (hpos : 0 < s.size) (h45 : ((s[0].toNat : Int) == 45) = true) (hone : ((1 : Int) == (s.size : Int)) = false) (h11 : (s.size : Int) ≤ 11) :
    Calls Tryd.prog 8 #[.string s] w fun e w' => NumPost s.data.toList e ∧ Below w.heap.size w w' := by
  have hz3 : (0 : Int) < (s.size : Int) := by omega
  have hsh : Hid (∀ v : Int, Lib.itoa v = s.data.toList → v < 0 ∧ s.data.toList.drop 1 = Lib.decDigits v.natAbs) := hidden fun v h => (shape s hpos v h).1 h45
  have hge : 1 ≤ s.size := by omega
  go_enter Tryd.func8, Tryd.ntmps8
  go_wp2
  go_loop [4, 7] (fun n i => ∃ k : Nat, 1 ≤ k ∧ k ≤ s.size ∧ i = .int .i64 k ∧ allDig (seg s 1 k) ∧ n = .int .i64 (dval 0 (seg s 1 k))) (fun _ i => s.size - (intOf i).toNat)
  case atStart => exact ⟨1, Nat.le_refl _, hge, rfl, (by rw [seg_start]; exact allDig_nil), (by rw [seg_start]; rfl)⟩
  case round =>
    obtain ⟨k, hk0, hk, rfl, hd, rfl⟩ := hrel
    have hbd := seg_bd s 1 k hd (by omega)
    have HD := hidden hd
    clear hd
    by_cases hlt : k < s.size
    · have hsn := hidden (seg_snoc s 1 k hk0 hlt)
      have hbyte : s[k].toNat < 256 := s[k].toNat_lt
      by_cases hc : 48 ≤ s[k].toNat ∧ s[k].toNat ≤ 57
      · obtain ⟨hc1, hc2⟩ := hc
        have hnd := hidden (snoc_dig s 1 k hk0 hlt HD.out ⟨hc1, hc2⟩)
        have c1 : (48 : Int) ≤ (s[k].toNat : Int) := by omega
        have c2 : (s[k].toNat : Int) ≤ 57 := by omega
        have hv : Hid (dval 0 (seg s 1 (k + 1)) = dval 0 (seg s 1 k) * 10 + (s[k].toNat - 48)) := by rw [hsn.out, dval_append]; rfl
        generalize dval 0 (seg s 1 k) = D at hv hbd ⊢
        go_wp2
        go_round
        case rel => exact ⟨k + 1, by omega, by omega, by go_num, hnd.out, int_eq (by rw [hv.out]; omega)⟩
        case measure => simp [intOf]; omega
      · have hno : Hid (∀ v : Int, -2147483648 ≤ v → v ≤ 2147483647 → Lib.itoa v ≠ s.data.toList) := hidden fun v _ _ e => by
          have h2 := (hsh.out v e).2
          have h3 := seg_mem s 1 k hk0 hlt
          rw [h2] at h3
          exact hc (dec_dig _ _ h3)
        by_cases hc1 : 48 ≤ s[k].toNat
        · have c1 : ¬ (s[k].toNat : Int) < 48 := by omega
          have c2 : (57 : Int) < (s[k].toNat : Int) := by omega
          go_wp2
          go_ret2
          exact ⟨Or.inr ⟨hno.out, rfl⟩, Below.refl _ _⟩
        · have c1 : (s[k].toNat : Int) < 48 := by omega
          go_wp2
          go_ret2
          exact ⟨Or.inr ⟨hno.out, rfl⟩, Below.refl _ _⟩
    · obtain rfl : k = s.size := by omega
      have hse := seg_end s 1
      have hval : Hid (∀ v : Int, Lib.itoa v = s.data.toList → v = -((dval 0 (seg s 1 s.size) : Nat) : Int)) := hidden fun v e => by
        obtain ⟨h1, h2⟩ := hsh.out v e
        rw [hse, h2, dval_dec]
        omega
      clear hse
      generalize hD : dval 0 (seg s 1 s.size) = D at hval hbd ⊢
      clear hD
      by_cases r1 : -(D : Int) < -2147483648
      · have hno : Hid (∀ v : Int, -2147483648 ≤ v → v ≤ 2147483647 → Lib.itoa v ≠ s.data.toList) := hidden fun v h0 h1 e => by
          have := hval.out v e
          omega
        clear hval hsh
        go_wp2
        go_ret2
        exact ⟨Or.inr ⟨hno.out, rfl⟩, Below.refl _ _⟩
      by_cases r2 : 2147483648 ≤ -(D : Int)
      · have hno : Hid (∀ v : Int, -2147483648 ≤ v → v ≤ 2147483647 → Lib.itoa v ≠ s.data.toList) := hidden fun v h0 h1 e => by
          have := hval.out v e
          omega
        clear hval hsh
        go_wp2
        go_ret2
        exact ⟨Or.inr ⟨hno.out, rfl⟩, Below.refl _ _⟩
      have hmb := mod_back (-(D : Int)) (by omega) (by omega)
      by_cases he : Lib.itoa (-(D : Int)) = s.data.toList
      · have he2 : Lib.itoa (wrap32 (-(D : Int) % 4294967296)) = s.toList := by rw [hmb, he, tl]
        have hyes : Hid (Lib.itoa (-(D : Int)) = s.data.toList) := he
        clear he hmb hval hsh
        go_wp2_with (first | (go_at_call 21; refine (of_any _ _).mono ?_; rintro e w1 ⟨rfl, hw⟩; obtain rfl := hw.symm) | (go_at_call 10; refine (decR_any _ _ (by omega) (by omega)).mono ?_; rintro e w1 ⟨rfl, hb⟩))
        go_ret2
        exact ⟨Or.inl ⟨_, by omega, by omega, hyes.out, rfl⟩, hb⟩
      · have he2 : (Lib.itoa (wrap32 (-(D : Int) % 4294967296)) == s.toList) = false := by rw [hmb, tl, beq_eq_false_iff_ne]; exact he
        have hno : Hid (∀ v : Int, -2147483648 ≤ v → v ≤ 2147483647 → Lib.itoa v ≠ s.data.toList) := hidden fun v h0 h1 e => by
          have := hval.out v e
          rw [this] at e
          exact he e
        clear he hmb hval hsh
        go_wp2_with (first | (go_at_call 21; refine (of_any _ _).mono ?_; rintro e w1 ⟨rfl, hw⟩; obtain rfl := hw.symm) | (go_at_call 10; refine (decR_any _ _ (by omega) (by omega)).mono ?_; rintro e w1 ⟨rfl, hb⟩))
        go_ret2
        exact ⟨Or.inr ⟨hno.out, rfl⟩, hb⟩

theorem numR_any (s : ByteArray) (w : World) (hs : s.size ≤ 4096) :
    Calls Tryd.prog 8 #[.string s] w fun e w' => NumPost s.data.toList e ∧ Below w.heap.size w w' := by
  by_cases hz : s.size = 0
  · have hz2 : ((s.size : Int) == 0) = true := by simp [hz]
    have hz3 : ¬ (0 : Int) < (s.size : Int) := by omega
    have hno : Hid (∀ v : Int, -2147483648 ≤ v → v ≤ 2147483647 → Lib.itoa v ≠ s.data.toList) := hidden fun v _ _ e => by
      have h1 : s.data.toList.length = 0 := by simpa using hz
      rw [← e] at h1
      unfold Lib.itoa at h1
      split at h1
      · simp at h1
      · exact dec_ne _ (List.length_eq_zero_iff.1 h1)
    go_enter Tryd.func8, Tryd.ntmps8
    go_wp2
    go_ret2
    exact ⟨Or.inr ⟨hno.out, rfl⟩, Below.refl _ _⟩
  have hpos : 0 < s.size := by omega
  have hz3 : (0 : Int) < (s.size : Int) := by omega
  have hzz : ((0 : Int) == (s.size : Int)) = false := by simp; omega
  by_cases h11 : 11 < s.size
  · have hno := hidden (not_long s h11)
    have hbig : (11 : Int) < (s.size : Int) := by omega
    have hone : ((1 : Int) == (s.size : Int)) = false := by simp; omega
    cases h45 : ((s[0].toNat : Int) == 45)
    all_goals
      go_enter Tryd.func8, Tryd.ntmps8
      go_wp2
      go_ret2
      exact ⟨Or.inr ⟨hno.out, rfl⟩, Below.refl _ _⟩
  cases h45 : ((s[0].toNat : Int) == 45)
  · exact numR_false s w hpos h45 hzz (by omega)
  · by_cases h1 : s.size = 1
    · have hone : ((1 : Int) == (s.size : Int)) = true := by simp [h1]
      have hno : Hid (∀ v : Int, -2147483648 ≤ v → v ≤ 2147483647 → Lib.itoa v ≠ s.data.toList) := hidden fun v _ _ e => by
        have h2 := ((shape s hpos v e).1 h45).2
        have h3 : (s.data.toList.drop 1).length = 0 := by simp; omega
        rw [h2] at h3
        exact dec_ne _ (List.length_eq_zero_iff.1 h3)
      go_enter Tryd.func8, Tryd.ntmps8
      go_wp2
      go_ret2
      exact ⟨Or.inr ⟨hno.out, rfl⟩, Below.refl _ _⟩
    · exact numR_true s w hpos h45 (by simp; omega) (by omega)
theorem numR_yes (s : ByteArray) (w : World) (hs : s.size ≤ 4096) (v : Int) (h0 : -2147483648 ≤ v) (h1 : v ≤ 2147483647) (h : Lib.itoa v = s.data.toList) :
    Calls Tryd.prog 8 #[.string s] w fun e w' => e = .returned (.tuple #[.int .u32 (v % 4294967296), .bool true]) ∧ Below w.heap.size w w' := by
  refine (numR_any s w hs).mono ?_
  rintro e w' ⟨hp, hb⟩
  refine ⟨?_, hb⟩
  rcases hp with ⟨u, _, _, hu, he⟩ | ⟨hno, _⟩
  · obtain rfl := itoa_inj u v (hu.trans h.symm)
    exact he
  · exact absurd h (hno v h0 h1)
theorem numR_no (s : ByteArray) (w : World) (hs : s.size ≤ 4096) (h : ∀ v : Int, -2147483648 ≤ v → v ≤ 2147483647 → Lib.itoa v ≠ s.data.toList) :
    Calls Tryd.prog 8 #[.string s] w fun e w' => e = .returned (.tuple #[.int .u32 0, .bool false]) ∧ Below w.heap.size w w' := by
  refine (numR_any s w hs).mono ?_
  rintro e w' ⟨hp, hb⟩
  refine ⟨?_, hb⟩
  rcases hp with ⟨u, u0, u1, hu, he⟩ | ⟨_, he⟩
  · exact absurd hu (h u u0 u1)
  · exact he
end Go.Proofs.YtckkbiohkflknabDoor
