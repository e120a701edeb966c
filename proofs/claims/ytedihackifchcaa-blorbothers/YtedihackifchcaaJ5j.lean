/- What was read as a row of chunks; iff.Find, and iff.Parse where the form's number is wrong. -/
import Derived.Test.YtedihackifchcaaJ5i
namespace Go.Proofs.Ytedihackifchcaa
open Go.RowKit
set_option maxHeartbeats 1000000
set_option maxRecDepth 100000
set_option linter.unusedVariables false

theorem cksV_at : ∀ (ks : List Ck) (i : Nat) (h : i < ks.length), (cksV ks)[i * 2]? = some (.string ks[i].id) ∧ (cksV ks)[i * 2 + 1]? = some (.slice ks[i].a ks[i].l ks[i].c)
  | k :: ks, 0, _ => ⟨rfl, rfl⟩
  | k :: ks, i + 1, h => by
    have e : cksV (k :: ks) = .string k.id :: .slice k.a k.l k.c :: cksV ks := rfl
    have := cksV_at ks i (by simpa using h)
    rw [e, show (i + 1) * 2 = i * 2 + 1 + 1 by omega]
    simpa using this
theorem reads_own {w : World} {B n : Nat} {a : Option Addr} {l c : Nat} {d : List Int} (h : w.ownsRow B 5 1 (.slice a l c) n (bytesV d)) : Reads w a n c d ∧ l = n := by
  have hl : (bytesV d).length = n * 1 := h.1
  have hd : d.length = n := by simpa [bytesV] using hl
  rcases h.2 with ⟨e, rfl⟩ | ⟨g, cap, cur, e, hb, hg, hn, hm, hs, ht⟩
  · cases e
    exact ⟨⟨hd, Nat.le_refl _, .inl ⟨rfl, rfl, rfl⟩⟩, rfl⟩
  · have e' := e
    simp only [Value.slice.injEq] at e'
    obtain ⟨rfl, rfl, rfl⟩ := e'
    refine ⟨⟨hd, hn, .inr ⟨_, rfl, fun i hi => ?_⟩⟩, rfl⟩
    exact h.cells (g := g) rfl i _ (bytesV_at d i (by omega))
theorem got_cks {B n : Nat} {w : World} {ao : Option Addr} {cv : Nat} {ks : List Ck} (h : Got B w (.slice ao n cv) ks) (hn : ks.length = n) (hok : ∀ k ∈ ks, OkB k.d) : Cks w ao n cv ks := by
  obtain ⟨h1, h2⟩ := h
  refine ⟨hn, ?_, ?_, fun k hk => ⟨(reads_own (h2 k hk)).1, hok k hk⟩⟩
  · rcases h1.2 with ⟨e, h0⟩ | ⟨g, cap, cur, e, hb, hg, hnc, hm, hs, ht⟩
    · simp only [Value.slice.injEq] at e; omega
    · simp only [Value.slice.injEq] at e; omega
  · rcases h1.2 with ⟨e, h0⟩ | ⟨g, cap, cur, e, hb, hg, hnc, hm, hs, ht⟩
    · exact .inl (by omega)
    · simp only [Value.slice.injEq] at e
      obtain ⟨rfl, -, -⟩ := e
      refine .inr ⟨g, 0, rfl, fun i hi => ?_⟩
      have hc := cksV_at ks i hi
      have e1 := h1.cells (g := g) rfl (i * 2) _ hc.1
      have e2 := h1.cells (g := g) rfl (i * 2 + 1) _ hc.2
      rw [plain_add] at e1 e2
      exact ⟨e1, by rwa [← Nat.add_assoc] at e2⟩
theorem parse_size (g o L cap : Nat) (zs : List Int) (w : World) (h : Bs w g o L zs) (hok : OkB zs) (hL : 12 ≤ L) (hm : L ≤ 4194304) (hcap : L ≤ cap)
    (h1 : strB (seg zs 0 4) = FORM.data.toList) (h2 : beV zs 4 4 ≠ (L : Int) - 8) : Calls Try.prog 56 #[.slice (some ⟨g, o, none⟩) L cap] w fun e w' => e = .returned (.tuple #[.string ⟨#[]⟩, .slice none 0 0, .int .i64 51, .int .i64 4]) ∧ w' = w := by
  have HH := hidden (checkHead_size g o L cap zs w h hok hL hm hcap h1 h2)
  clear h h1 h2
  go_enter Try.func56, Try.ntmps56
  go_wp2_with (go_at_call 61; refine HH.out.mono ?_; rintro e w9 ⟨rfl, hw⟩; obtain rfl := hw.symm)
  refine bodyPost_ret (v := .tuple #[.string ⟨#[]⟩, .slice none 0 0, .int .i64 51, .int .i64 4]) (by simp [results, Try.results56, go_sem]) rfl ?_
  exact ⟨rfl, rfl⟩
end Go.Proofs.Ytedihackifchcaa
