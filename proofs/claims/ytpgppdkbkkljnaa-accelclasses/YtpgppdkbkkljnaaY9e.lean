/- Contract of carry of package memory. -/
import Derived.Test.YtpgppdkbkkljnaaY9A
import Derived.Deep.RegionLaw
namespace Go.Proofs.Ytpgppdkbkkljnaa
open Go.RowKit
set_option maxHeartbeats 1000000
set_option maxRecDepth 100000
set_option linter.unusedVariables false
theorem below_dd {B : Nat} {w wa : World} (h : Below B w wa) : Below B w wa.drew.drew := ⟨h.os, h.tape, h.output, h.size, h.block⟩
theorem fm_grown {w wa w1 : World} {g : Nat} (hb : Below w.heap.size w wa) (h : wa.grownBy w1 (some g)) : Fm w w1 (fun x => x = g) (fun x => x = g) :=
  ⟨h.os.trans hb.os, h.tape.trans hb.tape, h.output.trans hb.output, Nat.le_trans hb.size h.size, fun k hk hn => by rw [h.block k (by have := hb.size; omega) (fun e => hn (by cases e; rfl))]; exact hb.block k hk, fun x hx => .inl hx⟩

theorem carry_0 (b o E L2 t c g c2 f : Nat) (zs ys : List Int) (B : Nat) (w : World) (hr : Bs w b o E zs) (hc : E ≤ c) (ho : w.ownsRow B 5 1 (.slice (some ⟨g, 0, none⟩) L2 c2) L2 (bytesV ys)) (hL : E ≤ 4294967296) (hL2 : L2 ≤ 4294967296)
    (hl : E ≤ L2) (hq : t ≤ E) (hft : f < t) (hp : t ≤ 8589934592) :
    Calls Try.prog 75 #[.agg #[.int .u64 f, .int .u64 t], .slice (some ⟨b, o, none⟩) E c, .slice (some ⟨g, 0, none⟩) L2 c2] w fun e w' => e = .returned (.tuple #[]) ∧ w'.ownsRow B 5 1 (.slice (some ⟨g, 0, none⟩) L2 c2) L2 (bytesV (splice ys f (seg zs f (t - f)))) ∧ Fm w w' (fun x => x = g) (fun x => x = g) := by
  obtain ⟨cur, h1, h2, h3, h4, h5, h6, h7⟩ := own8_cur ho
  obtain ⟨curx, x1, x2, x3, x4, x5, hsp⟩ := own_splice ho
  have hb1 : Below w.heap.size w (w.alloc (.cells #[.int .u64 f, .int .u64 t] 85)) := (Below.refl _ _).alloc (Nat.le_refl _) _
  have hgl : g < w.heap.size := (Array.getElem?_eq_some_iff.1 x1).1
  have HG := hidden (show ((w.alloc (.cells #[.int .u64 f, .int .u64 t] 85)).drew).heap[g]? = some (.cells curx.toArray 5 (0, 0)) from (hb1.block g hgl).trans x1)
  have hsl : (seg zs f (t - f)).length = t - f := seg_len _ _ _ (by rw [hr.1]; omega)
  have hbl : (bytesV (seg zs f (t - f))).length = t - f := by simp [bytesV, hsl]
  have HS := hidden (show ∀ j v, (bytesV (seg zs f (t - f)))[j]? = some v → ((w.alloc (.cells #[.int .u64 f, .int .u64 t] 85)).drew).cell? ((⟨b, o + f, none⟩ : Addr).add j) = some v from ((hr.later hb1).sub f (t - f) (t - f) (by omega) (Nat.le_refl _)).news)
  have HSP := hidden hsp
  have HSL := hidden hsl
  have HBL := hidden hbl
  have HX := hidden x2
  have q1 : (E : Int) ≤ (L2 : Int) ∨ (L2 : Int) ≤ (E : Int) := by omega
  have q2 : (f : Int) ≤ (E : Int) := by omega
  have q4 : ¬ E = f := by omega
  have q5 : ¬ L2 = f := by omega
  have q6 : ¬ c = f := by omega
  have q7 : ¬ c2 = f := by omega
  have q8 : t ≤ c := by omega
  have q9 : t ≤ c2 := by omega
  have q10 : f ≤ t := by omega
  clear hsp hsl hbl ho hr h1 h2 h5 h6 h7 h4 x1 x2 hb1 q1
  go_enter Try.func75, Try.ntmps75
  go_wp2
  go_region
  all_goals (try go_wp2)
  go_region_law (refine step_copyk 1 rfl (.tmp 26) (.tmp 30) 50 50 rfl 5 Try.underlying50 info8s g f (t - f) (c2 - f) ⟨b, o + f, none⟩ (t - f) (c - f) (by simp [Act.eval, Act.put]) (by simp [Act.eval, Act.put]) curx 5 HG.out (bytesV (seg zs f (t - f))) (t - f) (by show min _ _ = _; omega) (by rw [HBL.out]; omega) HS.out (by have := HX.out; rw [HBL.out]; omega) (bytesV_one _) ?_; intro w1 HG1 HW1)
  go_wp2
  refine bodyPost_end (v := .tuple #[]) (by simp [results, Try.results75, go_sem]) rfl ⟨rfl, HSP.out _ _ _ (by rw [HSL.out]; omega) HG1.out, ?_⟩
  exact fm_grown (show Below w.heap.size w ((w.alloc (.cells #[.int .u64 f, .int .u64 t] 85)).drew.drew) from below_dd ((Below.refl _ _).alloc (Nat.le_refl _) _)) HW1.out
theorem carry_1 (b o E L2 pt c g c2 f : Nat) (zs ys : List Int) (B : Nat) (w : World) (hr : Bs w b o E zs) (hc : E ≤ c) (ho : w.ownsRow B 5 1 (.slice (some ⟨g, 0, none⟩) L2 c2) L2 (bytesV ys)) (hL : E ≤ 4294967296) (hL2 : L2 ≤ 4294967296)
    (hl : E ≤ L2) (hq : E < pt) (hft : f < E) (hp : pt ≤ 8589934592) :
    Calls Try.prog 75 #[.agg #[.int .u64 f, .int .u64 pt], .slice (some ⟨b, o, none⟩) E c, .slice (some ⟨g, 0, none⟩) L2 c2] w fun e w' => e = .returned (.tuple #[]) ∧ w'.ownsRow B 5 1 (.slice (some ⟨g, 0, none⟩) L2 c2) L2 (bytesV (splice ys f (seg zs f (E - f)))) ∧ Fm w w' (fun x => x = g) (fun x => x = g) := by
  obtain ⟨cur, h1, h2, h3, h4, h5, h6, h7⟩ := own8_cur ho
  obtain ⟨curx, x1, x2, x3, x4, x5, hsp⟩ := own_splice ho
  have hb1 : Below w.heap.size w (w.alloc (.cells #[.int .u64 f, .int .u64 pt] 85)) := (Below.refl _ _).alloc (Nat.le_refl _) _
  have hgl : g < w.heap.size := (Array.getElem?_eq_some_iff.1 x1).1
  have HG := hidden (show ((w.alloc (.cells #[.int .u64 f, .int .u64 pt] 85)).drew).heap[g]? = some (.cells curx.toArray 5 (0, 0)) from (hb1.block g hgl).trans x1)
  have hsl : (seg zs f (E - f)).length = E - f := seg_len _ _ _ (by rw [hr.1]; omega)
  have hbl : (bytesV (seg zs f (E - f))).length = E - f := by simp [bytesV, hsl]
  have HS := hidden (show ∀ j v, (bytesV (seg zs f (E - f)))[j]? = some v → ((w.alloc (.cells #[.int .u64 f, .int .u64 pt] 85)).drew).cell? ((⟨b, o + f, none⟩ : Addr).add j) = some v from ((hr.later hb1).sub f (E - f) (E - f) (by omega) (Nat.le_refl _)).news)
  have HSP := hidden hsp
  have HSL := hidden hsl
  have HBL := hidden hbl
  have HX := hidden x2
  have q1 : (E : Int) ≤ (L2 : Int) ∨ (L2 : Int) ≤ (E : Int) := by omega
  have q2 : (f : Int) ≤ (E : Int) := by omega
  have q4 : ¬ E = f := by omega
  have q5 : ¬ L2 = f := by omega
  have q6 : ¬ c = f := by omega
  have q7 : ¬ c2 = f := by omega
  have q8 : E ≤ c := by omega
  have q9 : E ≤ c2 := by omega
  have q10 : f ≤ E := by omega
  clear hsp hsl hbl ho hr h1 h2 h5 h6 h7 h4 x1 x2 hb1 q1
  go_enter Try.func75, Try.ntmps75
  go_wp2
  go_region
  all_goals (try go_wp2)
  go_region_law (refine step_copyk 1 rfl (.tmp 26) (.tmp 30) 50 50 rfl 5 Try.underlying50 info8s g f (E - f) (c2 - f) ⟨b, o + f, none⟩ (E - f) (c - f) (by simp [Act.eval, Act.put]) (by simp [Act.eval, Act.put]) curx 5 HG.out (bytesV (seg zs f (E - f))) (E - f) (by show min _ _ = _; omega) (by rw [HBL.out]; omega) HS.out (by have := HX.out; rw [HBL.out]; omega) (bytesV_one _) ?_; intro w1 HG1 HW1)
  go_wp2
  refine bodyPost_end (v := .tuple #[]) (by simp [results, Try.results75, go_sem]) rfl ⟨rfl, HSP.out _ _ _ (by rw [HSL.out]; omega) HG1.out, ?_⟩
  exact fm_grown (show Below w.heap.size w ((w.alloc (.cells #[.int .u64 f, .int .u64 pt] 85)).drew.drew) from below_dd ((Below.refl _ _).alloc (Nat.le_refl _) _)) HW1.out
theorem carry_2 (b o E L t c g c2 f : Nat) (zs ys : List Int) (B : Nat) (w : World) (hr : Bs w b o L zs) (hc : L ≤ c) (ho : w.ownsRow B 5 1 (.slice (some ⟨g, 0, none⟩) E c2) E (bytesV ys)) (hL : L ≤ 4294967296) (hL2 : E ≤ 4294967296)
    (hl : E < L) (hq : t ≤ E) (hft : f < t) (hp : t ≤ 8589934592) :
    Calls Try.prog 75 #[.agg #[.int .u64 f, .int .u64 t], .slice (some ⟨b, o, none⟩) L c, .slice (some ⟨g, 0, none⟩) E c2] w fun e w' => e = .returned (.tuple #[]) ∧ w'.ownsRow B 5 1 (.slice (some ⟨g, 0, none⟩) E c2) E (bytesV (splice ys f (seg zs f (t - f)))) ∧ Fm w w' (fun x => x = g) (fun x => x = g) := by
  obtain ⟨cur, h1, h2, h3, h4, h5, h6, h7⟩ := own8_cur ho
  obtain ⟨curx, x1, x2, x3, x4, x5, hsp⟩ := own_splice ho
  have hb1 : Below w.heap.size w (w.alloc (.cells #[.int .u64 f, .int .u64 t] 85)) := (Below.refl _ _).alloc (Nat.le_refl _) _
  have hgl : g < w.heap.size := (Array.getElem?_eq_some_iff.1 x1).1
  have HG := hidden (show ((w.alloc (.cells #[.int .u64 f, .int .u64 t] 85)).drew).heap[g]? = some (.cells curx.toArray 5 (0, 0)) from (hb1.block g hgl).trans x1)
  have hsl : (seg zs f (t - f)).length = t - f := seg_len _ _ _ (by rw [hr.1]; omega)
  have hbl : (bytesV (seg zs f (t - f))).length = t - f := by simp [bytesV, hsl]
  have HS := hidden (show ∀ j v, (bytesV (seg zs f (t - f)))[j]? = some v → ((w.alloc (.cells #[.int .u64 f, .int .u64 t] 85)).drew).cell? ((⟨b, o + f, none⟩ : Addr).add j) = some v from ((hr.later hb1).sub f (t - f) (t - f) (by omega) (Nat.le_refl _)).news)
  have HSP := hidden hsp
  have HSL := hidden hsl
  have HBL := hidden hbl
  have HX := hidden x2
  have q1 : (L : Int) ≤ (E : Int) ∨ (E : Int) ≤ (L : Int) := by omega
  have q2 : (f : Int) ≤ (E : Int) := by omega
  have q4 : ¬ L = f := by omega
  have q5 : ¬ E = f := by omega
  have q6 : ¬ c = f := by omega
  have q7 : ¬ c2 = f := by omega
  have q8 : t ≤ c := by omega
  have q9 : t ≤ c2 := by omega
  have q10 : f ≤ t := by omega
  clear hsp hsl hbl ho hr h1 h2 h5 h6 h7 h4 x1 x2 hb1 q1
  go_enter Try.func75, Try.ntmps75
  go_wp2
  go_region
  all_goals (try go_wp2)
  go_region_law (refine step_copyk 1 rfl (.tmp 26) (.tmp 30) 50 50 rfl 5 Try.underlying50 info8s g f (t - f) (c2 - f) ⟨b, o + f, none⟩ (t - f) (c - f) (by simp [Act.eval, Act.put]) (by simp [Act.eval, Act.put]) curx 5 HG.out (bytesV (seg zs f (t - f))) (t - f) (by show min _ _ = _; omega) (by rw [HBL.out]; omega) HS.out (by have := HX.out; rw [HBL.out]; omega) (bytesV_one _) ?_; intro w1 HG1 HW1)
  go_wp2
  refine bodyPost_end (v := .tuple #[]) (by simp [results, Try.results75, go_sem]) rfl ⟨rfl, HSP.out _ _ _ (by rw [HSL.out]; omega) HG1.out, ?_⟩
  exact fm_grown (show Below w.heap.size w ((w.alloc (.cells #[.int .u64 f, .int .u64 t] 85)).drew.drew) from below_dd ((Below.refl _ _).alloc (Nat.le_refl _) _)) HW1.out
theorem carry_3 (b o E L pt c g c2 f : Nat) (zs ys : List Int) (B : Nat) (w : World) (hr : Bs w b o L zs) (hc : L ≤ c) (ho : w.ownsRow B 5 1 (.slice (some ⟨g, 0, none⟩) E c2) E (bytesV ys)) (hL : L ≤ 4294967296) (hL2 : E ≤ 4294967296)
    (hl : E < L) (hq : E < pt) (hft : f < E) (hp : pt ≤ 8589934592) :
    Calls Try.prog 75 #[.agg #[.int .u64 f, .int .u64 pt], .slice (some ⟨b, o, none⟩) L c, .slice (some ⟨g, 0, none⟩) E c2] w fun e w' => e = .returned (.tuple #[]) ∧ w'.ownsRow B 5 1 (.slice (some ⟨g, 0, none⟩) E c2) E (bytesV (splice ys f (seg zs f (E - f)))) ∧ Fm w w' (fun x => x = g) (fun x => x = g) := by
  obtain ⟨cur, h1, h2, h3, h4, h5, h6, h7⟩ := own8_cur ho
  obtain ⟨curx, x1, x2, x3, x4, x5, hsp⟩ := own_splice ho
  have hb1 : Below w.heap.size w (w.alloc (.cells #[.int .u64 f, .int .u64 pt] 85)) := (Below.refl _ _).alloc (Nat.le_refl _) _
  have hgl : g < w.heap.size := (Array.getElem?_eq_some_iff.1 x1).1
  have HG := hidden (show ((w.alloc (.cells #[.int .u64 f, .int .u64 pt] 85)).drew).heap[g]? = some (.cells curx.toArray 5 (0, 0)) from (hb1.block g hgl).trans x1)
  have hsl : (seg zs f (E - f)).length = E - f := seg_len _ _ _ (by rw [hr.1]; omega)
  have hbl : (bytesV (seg zs f (E - f))).length = E - f := by simp [bytesV, hsl]
  have HS := hidden (show ∀ j v, (bytesV (seg zs f (E - f)))[j]? = some v → ((w.alloc (.cells #[.int .u64 f, .int .u64 pt] 85)).drew).cell? ((⟨b, o + f, none⟩ : Addr).add j) = some v from ((hr.later hb1).sub f (E - f) (E - f) (by omega) (Nat.le_refl _)).news)
  have HSP := hidden hsp
  have HSL := hidden hsl
  have HBL := hidden hbl
  have HX := hidden x2
  have q1 : (L : Int) ≤ (E : Int) ∨ (E : Int) ≤ (L : Int) := by omega
  have q2 : (f : Int) ≤ (E : Int) := by omega
  have q4 : ¬ L = f := by omega
  have q5 : ¬ E = f := by omega
  have q6 : ¬ c = f := by omega
  have q7 : ¬ c2 = f := by omega
  have q8 : E ≤ c := by omega
  have q9 : E ≤ c2 := by omega
  have q10 : f ≤ E := by omega
  clear hsp hsl hbl ho hr h1 h2 h5 h6 h7 h4 x1 x2 hb1 q1
  go_enter Try.func75, Try.ntmps75
  go_wp2
  go_region
  all_goals (try go_wp2)
  go_region_law (refine step_copyk 1 rfl (.tmp 26) (.tmp 30) 50 50 rfl 5 Try.underlying50 info8s g f (E - f) (c2 - f) ⟨b, o + f, none⟩ (E - f) (c - f) (by simp [Act.eval, Act.put]) (by simp [Act.eval, Act.put]) curx 5 HG.out (bytesV (seg zs f (E - f))) (E - f) (by show min _ _ = _; omega) (by rw [HBL.out]; omega) HS.out (by have := HX.out; rw [HBL.out]; omega) (bytesV_one _) ?_; intro w1 HG1 HW1)
  go_wp2
  refine bodyPost_end (v := .tuple #[]) (by simp [results, Try.results75, go_sem]) rfl ⟨rfl, HSP.out _ _ _ (by rw [HSL.out]; omega) HG1.out, ?_⟩
  exact fm_grown (show Below w.heap.size w ((w.alloc (.cells #[.int .u64 f, .int .u64 pt] 85)).drew.drew) from below_dd ((Below.refl _ _).alloc (Nat.le_refl _) _)) HW1.out
theorem carry_z0ayy (a : Addr) (E L2 pf pt g : Nat) (ys : List Int) (B : Nat) (w : World) (hc : E ≤ E) (ho : w.ownsRow B 5 1 (.slice (some ⟨g, 0, none⟩) L2 E) L2 (bytesV ys)) (hL : E ≤ 4294967296) (hL2 : L2 ≤ 4294967296)
    (hl : E ≤ L2) (hq : E < pf) (hq2 : pf ≤ pt) (hp : pt ≤ 8589934592)   :
    Calls Try.prog 75 #[.agg #[.int .u64 pf, .int .u64 pt], .slice (some a) E E, .slice (some ⟨g, 0, none⟩) L2 E] w fun e w' => e = .returned (.tuple #[]) ∧ w'.ownsRow B 5 1 (.slice (some ⟨g, 0, none⟩) L2 E) L2 (bytesV ys) ∧ Below w.heap.size w w' := by
  obtain ⟨cur, h1, h2, h3, h4, h5, h6, h7⟩ := own8_cur ho
  have hb1 : Below w.heap.size w ((w.alloc (.cells #[.int .u64 pf, .int .u64 pt] 85)).drew.drew) := below_dd ((Below.refl _ _).alloc (Nat.le_refl _) _)
  have HO := hidden (own_later ho hb1)
  have HB := hidden hb1
  have q8 : E ≤ E := by omega
  have q9 : E ≤ E := by omega
  have q11 : E < pt := by omega
  clear ho hb1 h1 h2 h4 h5 h6 h7
  go_enter Try.func75, Try.ntmps75
  go_wp2
  go_region
  all_goals (try go_wp2)
  go_region_law (refine step_copy0 rfl (.tmp 26) (.tmp 30) rfl (by simp [Act.eval, Act.put]; exact ⟨_, _, ⟨rfl, rfl⟩, _, _, ⟨rfl, rfl⟩, .inl rfl⟩) ?_)
  all_goals (try go_wp2)
  all_goals (refine bodyPost_end (v := .tuple #[]) (by simp [results, Try.results75, go_sem]) rfl ⟨rfl, HO.out, HB.out⟩)

theorem carry_z0ayn (a : Addr) (E L2 pf pt c g : Nat) (ys : List Int) (B : Nat) (w : World) (hc : E ≤ c) (ho : w.ownsRow B 5 1 (.slice (some ⟨g, 0, none⟩) L2 E) L2 (bytesV ys)) (hL : E ≤ 4294967296) (hL2 : L2 ≤ 4294967296)
    (hl : E ≤ L2) (hq : E < pf) (hq2 : pf ≤ pt) (hp : pt ≤ 8589934592)  (n2 : ¬ c = E) :
    Calls Try.prog 75 #[.agg #[.int .u64 pf, .int .u64 pt], .slice (some a) E c, .slice (some ⟨g, 0, none⟩) L2 E] w fun e w' => e = .returned (.tuple #[]) ∧ w'.ownsRow B 5 1 (.slice (some ⟨g, 0, none⟩) L2 E) L2 (bytesV ys) ∧ Below w.heap.size w w' := by
  obtain ⟨cur, h1, h2, h3, h4, h5, h6, h7⟩ := own8_cur ho
  have hb1 : Below w.heap.size w ((w.alloc (.cells #[.int .u64 pf, .int .u64 pt] 85)).drew.drew) := below_dd ((Below.refl _ _).alloc (Nat.le_refl _) _)
  have HO := hidden (own_later ho hb1)
  have HB := hidden hb1
  have q8 : E ≤ c := by omega
  have q9 : E ≤ E := by omega
  have q11 : E < pt := by omega
  clear ho hb1 h1 h2 h4 h5 h6 h7
  go_enter Try.func75, Try.ntmps75
  go_wp2
  go_region
  all_goals (try go_wp2)
  go_region_law (refine step_copy0 rfl (.tmp 26) (.tmp 30) rfl (by simp [Act.eval, Act.put]; exact ⟨_, _, ⟨rfl, rfl⟩, _, _, ⟨rfl, rfl⟩, .inl rfl⟩) ?_)
  all_goals (try go_wp2)
  all_goals (refine bodyPost_end (v := .tuple #[]) (by simp [results, Try.results75, go_sem]) rfl ⟨rfl, HO.out, HB.out⟩)

theorem carry_z0any (a : Addr) (E L2 pf pt c2 g : Nat) (ys : List Int) (B : Nat) (w : World) (hc : E ≤ E) (ho : w.ownsRow B 5 1 (.slice (some ⟨g, 0, none⟩) L2 c2) L2 (bytesV ys)) (hL : E ≤ 4294967296) (hL2 : L2 ≤ 4294967296)
    (hl : E ≤ L2) (hq : E < pf) (hq2 : pf ≤ pt) (hp : pt ≤ 8589934592) (n1 : ¬ c2 = E)  :
    Calls Try.prog 75 #[.agg #[.int .u64 pf, .int .u64 pt], .slice (some a) E E, .slice (some ⟨g, 0, none⟩) L2 c2] w fun e w' => e = .returned (.tuple #[]) ∧ w'.ownsRow B 5 1 (.slice (some ⟨g, 0, none⟩) L2 c2) L2 (bytesV ys) ∧ Below w.heap.size w w' := by
  obtain ⟨cur, h1, h2, h3, h4, h5, h6, h7⟩ := own8_cur ho
  have hb1 : Below w.heap.size w ((w.alloc (.cells #[.int .u64 pf, .int .u64 pt] 85)).drew.drew) := below_dd ((Below.refl _ _).alloc (Nat.le_refl _) _)
  have HO := hidden (own_later ho hb1)
  have HB := hidden hb1
  have q8 : E ≤ E := by omega
  have q9 : E ≤ c2 := by omega
  have q11 : E < pt := by omega
  clear ho hb1 h1 h2 h4 h5 h6 h7
  go_enter Try.func75, Try.ntmps75
  go_wp2
  go_region
  all_goals (try go_wp2)
  go_region_law (refine step_copy0 rfl (.tmp 26) (.tmp 30) rfl (by simp [Act.eval, Act.put]; exact ⟨_, _, ⟨rfl, rfl⟩, _, _, ⟨rfl, rfl⟩, .inl rfl⟩) ?_)
  all_goals (try go_wp2)
  all_goals (refine bodyPost_end (v := .tuple #[]) (by simp [results, Try.results75, go_sem]) rfl ⟨rfl, HO.out, HB.out⟩)

theorem carry_z0ann (a : Addr) (E L2 pf pt c2 c g : Nat) (ys : List Int) (B : Nat) (w : World) (hc : E ≤ c) (ho : w.ownsRow B 5 1 (.slice (some ⟨g, 0, none⟩) L2 c2) L2 (bytesV ys)) (hL : E ≤ 4294967296) (hL2 : L2 ≤ 4294967296)
    (hl : E ≤ L2) (hq : E < pf) (hq2 : pf ≤ pt) (hp : pt ≤ 8589934592) (n1 : ¬ c2 = E) (n2 : ¬ c = E) :
    Calls Try.prog 75 #[.agg #[.int .u64 pf, .int .u64 pt], .slice (some a) E c, .slice (some ⟨g, 0, none⟩) L2 c2] w fun e w' => e = .returned (.tuple #[]) ∧ w'.ownsRow B 5 1 (.slice (some ⟨g, 0, none⟩) L2 c2) L2 (bytesV ys) ∧ Below w.heap.size w w' := by
  obtain ⟨cur, h1, h2, h3, h4, h5, h6, h7⟩ := own8_cur ho
  have hb1 : Below w.heap.size w ((w.alloc (.cells #[.int .u64 pf, .int .u64 pt] 85)).drew.drew) := below_dd ((Below.refl _ _).alloc (Nat.le_refl _) _)
  have HO := hidden (own_later ho hb1)
  have HB := hidden hb1
  have q8 : E ≤ c := by omega
  have q9 : E ≤ c2 := by omega
  have q11 : E < pt := by omega
  clear ho hb1 h1 h2 h4 h5 h6 h7
  go_enter Try.func75, Try.ntmps75
  go_wp2
  go_region
  all_goals (try go_wp2)
  go_region_law (refine step_copy0 rfl (.tmp 26) (.tmp 30) rfl (by simp [Act.eval, Act.put]; exact ⟨_, _, ⟨rfl, rfl⟩, _, _, ⟨rfl, rfl⟩, .inl rfl⟩) ?_)
  all_goals (try go_wp2)
  all_goals (refine bodyPost_end (v := .tuple #[]) (by simp [results, Try.results75, go_sem]) rfl ⟨rfl, HO.out, HB.out⟩)

theorem carry_z0byy (a : Addr) (E L2 f g : Nat) (ys : List Int) (B : Nat) (w : World) (hc : E ≤ f) (ho : w.ownsRow B 5 1 (.slice (some ⟨g, 0, none⟩) L2 f) L2 (bytesV ys)) (hL : E ≤ 4294967296) (hL2 : L2 ≤ 4294967296)
    (hl : E ≤ L2) (hq : f ≤ E)   :
    Calls Try.prog 75 #[.agg #[.int .u64 f, .int .u64 f], .slice (some a) E f, .slice (some ⟨g, 0, none⟩) L2 f] w fun e w' => e = .returned (.tuple #[]) ∧ w'.ownsRow B 5 1 (.slice (some ⟨g, 0, none⟩) L2 f) L2 (bytesV ys) ∧ Below w.heap.size w w' := by
  obtain ⟨cur, h1, h2, h3, h4, h5, h6, h7⟩ := own8_cur ho
  have hb1 : Below w.heap.size w ((w.alloc (.cells #[.int .u64 f, .int .u64 f] 85)).drew.drew) := below_dd ((Below.refl _ _).alloc (Nat.le_refl _) _)
  have HO := hidden (own_later ho hb1)
  have HB := hidden hb1
  have q8 : f ≤ f := by omega
  have q9 : f ≤ f := by omega
  skip
  clear ho hb1 h1 h2 h4 h5 h6 h7
  go_enter Try.func75, Try.ntmps75
  go_wp2
  go_region
  all_goals (try go_wp2)
  go_region_law (refine step_copy0 rfl (.tmp 26) (.tmp 30) rfl (by simp [Act.eval, Act.put]; exact ⟨_, _, ⟨rfl, rfl⟩, _, _, ⟨rfl, rfl⟩, .inl rfl⟩) ?_)
  all_goals (try go_wp2)
  all_goals (refine bodyPost_end (v := .tuple #[]) (by simp [results, Try.results75, go_sem]) rfl ⟨rfl, HO.out, HB.out⟩)

theorem carry_z0byn (a : Addr) (E L2 f c g : Nat) (ys : List Int) (B : Nat) (w : World) (hc : E ≤ c) (ho : w.ownsRow B 5 1 (.slice (some ⟨g, 0, none⟩) L2 f) L2 (bytesV ys)) (hL : E ≤ 4294967296) (hL2 : L2 ≤ 4294967296)
    (hl : E ≤ L2) (hq : f ≤ E)  (n2 : ¬ c = f) :
    Calls Try.prog 75 #[.agg #[.int .u64 f, .int .u64 f], .slice (some a) E c, .slice (some ⟨g, 0, none⟩) L2 f] w fun e w' => e = .returned (.tuple #[]) ∧ w'.ownsRow B 5 1 (.slice (some ⟨g, 0, none⟩) L2 f) L2 (bytesV ys) ∧ Below w.heap.size w w' := by
  obtain ⟨cur, h1, h2, h3, h4, h5, h6, h7⟩ := own8_cur ho
  have hb1 : Below w.heap.size w ((w.alloc (.cells #[.int .u64 f, .int .u64 f] 85)).drew.drew) := below_dd ((Below.refl _ _).alloc (Nat.le_refl _) _)
  have HO := hidden (own_later ho hb1)
  have HB := hidden hb1
  have q8 : f ≤ c := by omega
  have q9 : f ≤ f := by omega
  skip
  clear ho hb1 h1 h2 h4 h5 h6 h7
  go_enter Try.func75, Try.ntmps75
  go_wp2
  go_region
  all_goals (try go_wp2)
  go_region_law (refine step_copy0 rfl (.tmp 26) (.tmp 30) rfl (by simp [Act.eval, Act.put]; exact ⟨_, _, ⟨rfl, rfl⟩, _, _, ⟨rfl, rfl⟩, .inl rfl⟩) ?_)
  all_goals (try go_wp2)
  all_goals (refine bodyPost_end (v := .tuple #[]) (by simp [results, Try.results75, go_sem]) rfl ⟨rfl, HO.out, HB.out⟩)

theorem carry_z0bny (a : Addr) (E L2 f c2 g : Nat) (ys : List Int) (B : Nat) (w : World) (hc : E ≤ f) (ho : w.ownsRow B 5 1 (.slice (some ⟨g, 0, none⟩) L2 c2) L2 (bytesV ys)) (hL : E ≤ 4294967296) (hL2 : L2 ≤ 4294967296)
    (hl : E ≤ L2) (hq : f ≤ E) (n1 : ¬ c2 = f)  :
    Calls Try.prog 75 #[.agg #[.int .u64 f, .int .u64 f], .slice (some a) E f, .slice (some ⟨g, 0, none⟩) L2 c2] w fun e w' => e = .returned (.tuple #[]) ∧ w'.ownsRow B 5 1 (.slice (some ⟨g, 0, none⟩) L2 c2) L2 (bytesV ys) ∧ Below w.heap.size w w' := by
  obtain ⟨cur, h1, h2, h3, h4, h5, h6, h7⟩ := own8_cur ho
  have hb1 : Below w.heap.size w ((w.alloc (.cells #[.int .u64 f, .int .u64 f] 85)).drew.drew) := below_dd ((Below.refl _ _).alloc (Nat.le_refl _) _)
  have HO := hidden (own_later ho hb1)
  have HB := hidden hb1
  have q8 : f ≤ f := by omega
  have q9 : f ≤ c2 := by omega
  skip
  clear ho hb1 h1 h2 h4 h5 h6 h7
  go_enter Try.func75, Try.ntmps75
  go_wp2
  go_region
  all_goals (try go_wp2)
  go_region_law (refine step_copy0 rfl (.tmp 26) (.tmp 30) rfl (by simp [Act.eval, Act.put]; exact ⟨_, _, ⟨rfl, rfl⟩, _, _, ⟨rfl, rfl⟩, .inl rfl⟩) ?_)
  all_goals (try go_wp2)
  all_goals (refine bodyPost_end (v := .tuple #[]) (by simp [results, Try.results75, go_sem]) rfl ⟨rfl, HO.out, HB.out⟩)

theorem carry_z0bnn (a : Addr) (E L2 f c2 c g : Nat) (ys : List Int) (B : Nat) (w : World) (hc : E ≤ c) (ho : w.ownsRow B 5 1 (.slice (some ⟨g, 0, none⟩) L2 c2) L2 (bytesV ys)) (hL : E ≤ 4294967296) (hL2 : L2 ≤ 4294967296)
    (hl : E ≤ L2) (hq : f ≤ E) (n1 : ¬ c2 = f) (n2 : ¬ c = f) :
    Calls Try.prog 75 #[.agg #[.int .u64 f, .int .u64 f], .slice (some a) E c, .slice (some ⟨g, 0, none⟩) L2 c2] w fun e w' => e = .returned (.tuple #[]) ∧ w'.ownsRow B 5 1 (.slice (some ⟨g, 0, none⟩) L2 c2) L2 (bytesV ys) ∧ Below w.heap.size w w' := by
  obtain ⟨cur, h1, h2, h3, h4, h5, h6, h7⟩ := own8_cur ho
  have hb1 : Below w.heap.size w ((w.alloc (.cells #[.int .u64 f, .int .u64 f] 85)).drew.drew) := below_dd ((Below.refl _ _).alloc (Nat.le_refl _) _)
  have HO := hidden (own_later ho hb1)
  have HB := hidden hb1
  have q8 : f ≤ c := by omega
  have q9 : f ≤ c2 := by omega
  skip
  clear ho hb1 h1 h2 h4 h5 h6 h7
  go_enter Try.func75, Try.ntmps75
  go_wp2
  go_region
  all_goals (try go_wp2)
  go_region_law (refine step_copy0 rfl (.tmp 26) (.tmp 30) rfl (by simp [Act.eval, Act.put]; exact ⟨_, _, ⟨rfl, rfl⟩, _, _, ⟨rfl, rfl⟩, .inl rfl⟩) ?_)
  all_goals (try go_wp2)
  all_goals (refine bodyPost_end (v := .tuple #[]) (by simp [results, Try.results75, go_sem]) rfl ⟨rfl, HO.out, HB.out⟩)

theorem carry_z0cyy (a : Addr) (E L2 pt g : Nat) (ys : List Int) (B : Nat) (w : World) (hc : E ≤ E) (ho : w.ownsRow B 5 1 (.slice (some ⟨g, 0, none⟩) L2 E) L2 (bytesV ys)) (hL : E ≤ 4294967296) (hL2 : L2 ≤ 4294967296)
    (hl : E ≤ L2) (hq : E < pt) (hp : pt ≤ 8589934592)   :
    Calls Try.prog 75 #[.agg #[.int .u64 E, .int .u64 pt], .slice (some a) E E, .slice (some ⟨g, 0, none⟩) L2 E] w fun e w' => e = .returned (.tuple #[]) ∧ w'.ownsRow B 5 1 (.slice (some ⟨g, 0, none⟩) L2 E) L2 (bytesV ys) ∧ Below w.heap.size w w' := by
  obtain ⟨cur, h1, h2, h3, h4, h5, h6, h7⟩ := own8_cur ho
  have hb1 : Below w.heap.size w ((w.alloc (.cells #[.int .u64 E, .int .u64 pt] 85)).drew.drew) := below_dd ((Below.refl _ _).alloc (Nat.le_refl _) _)
  have HO := hidden (own_later ho hb1)
  have HB := hidden hb1
  have q8 : E ≤ E := by omega
  have q9 : E ≤ E := by omega
  have q11 : E < pt := by omega
  clear ho hb1 h1 h2 h4 h5 h6 h7
  go_enter Try.func75, Try.ntmps75
  go_wp2
  go_region
  all_goals (try go_wp2)
  go_region_law (refine step_copy0 rfl (.tmp 26) (.tmp 30) rfl (by simp [Act.eval, Act.put]; exact ⟨_, _, ⟨rfl, rfl⟩, _, _, ⟨rfl, rfl⟩, .inl rfl⟩) ?_)
  all_goals (try go_wp2)
  all_goals (refine bodyPost_end (v := .tuple #[]) (by simp [results, Try.results75, go_sem]) rfl ⟨rfl, HO.out, HB.out⟩)

theorem carry_z0cyn (a : Addr) (E L2 pt c g : Nat) (ys : List Int) (B : Nat) (w : World) (hc : E ≤ c) (ho : w.ownsRow B 5 1 (.slice (some ⟨g, 0, none⟩) L2 E) L2 (bytesV ys)) (hL : E ≤ 4294967296) (hL2 : L2 ≤ 4294967296)
    (hl : E ≤ L2) (hq : E < pt) (hp : pt ≤ 8589934592)  (n2 : ¬ c = E) :
    Calls Try.prog 75 #[.agg #[.int .u64 E, .int .u64 pt], .slice (some a) E c, .slice (some ⟨g, 0, none⟩) L2 E] w fun e w' => e = .returned (.tuple #[]) ∧ w'.ownsRow B 5 1 (.slice (some ⟨g, 0, none⟩) L2 E) L2 (bytesV ys) ∧ Below w.heap.size w w' := by
  obtain ⟨cur, h1, h2, h3, h4, h5, h6, h7⟩ := own8_cur ho
  have hb1 : Below w.heap.size w ((w.alloc (.cells #[.int .u64 E, .int .u64 pt] 85)).drew.drew) := below_dd ((Below.refl _ _).alloc (Nat.le_refl _) _)
  have HO := hidden (own_later ho hb1)
  have HB := hidden hb1
  have q8 : E ≤ c := by omega
  have q9 : E ≤ E := by omega
  have q11 : E < pt := by omega
  clear ho hb1 h1 h2 h4 h5 h6 h7
  go_enter Try.func75, Try.ntmps75
  go_wp2
  go_region
  all_goals (try go_wp2)
  go_region_law (refine step_copy0 rfl (.tmp 26) (.tmp 30) rfl (by simp [Act.eval, Act.put]; exact ⟨_, _, ⟨rfl, rfl⟩, _, _, ⟨rfl, rfl⟩, .inl rfl⟩) ?_)
  all_goals (try go_wp2)
  all_goals (refine bodyPost_end (v := .tuple #[]) (by simp [results, Try.results75, go_sem]) rfl ⟨rfl, HO.out, HB.out⟩)

theorem carry_z0cny (a : Addr) (E L2 pt c2 g : Nat) (ys : List Int) (B : Nat) (w : World) (hc : E ≤ E) (ho : w.ownsRow B 5 1 (.slice (some ⟨g, 0, none⟩) L2 c2) L2 (bytesV ys)) (hL : E ≤ 4294967296) (hL2 : L2 ≤ 4294967296)
    (hl : E ≤ L2) (hq : E < pt) (hp : pt ≤ 8589934592) (n1 : ¬ c2 = E)  :
    Calls Try.prog 75 #[.agg #[.int .u64 E, .int .u64 pt], .slice (some a) E E, .slice (some ⟨g, 0, none⟩) L2 c2] w fun e w' => e = .returned (.tuple #[]) ∧ w'.ownsRow B 5 1 (.slice (some ⟨g, 0, none⟩) L2 c2) L2 (bytesV ys) ∧ Below w.heap.size w w' := by
  obtain ⟨cur, h1, h2, h3, h4, h5, h6, h7⟩ := own8_cur ho
  have hb1 : Below w.heap.size w ((w.alloc (.cells #[.int .u64 E, .int .u64 pt] 85)).drew.drew) := below_dd ((Below.refl _ _).alloc (Nat.le_refl _) _)
  have HO := hidden (own_later ho hb1)
  have HB := hidden hb1
  have q8 : E ≤ E := by omega
  have q9 : E ≤ c2 := by omega
  have q11 : E < pt := by omega
  clear ho hb1 h1 h2 h4 h5 h6 h7
  go_enter Try.func75, Try.ntmps75
  go_wp2
  go_region
  all_goals (try go_wp2)
  go_region_law (refine step_copy0 rfl (.tmp 26) (.tmp 30) rfl (by simp [Act.eval, Act.put]; exact ⟨_, _, ⟨rfl, rfl⟩, _, _, ⟨rfl, rfl⟩, .inl rfl⟩) ?_)
  all_goals (try go_wp2)
  all_goals (refine bodyPost_end (v := .tuple #[]) (by simp [results, Try.results75, go_sem]) rfl ⟨rfl, HO.out, HB.out⟩)

theorem carry_z0cnn (a : Addr) (E L2 pt c2 c g : Nat) (ys : List Int) (B : Nat) (w : World) (hc : E ≤ c) (ho : w.ownsRow B 5 1 (.slice (some ⟨g, 0, none⟩) L2 c2) L2 (bytesV ys)) (hL : E ≤ 4294967296) (hL2 : L2 ≤ 4294967296)
    (hl : E ≤ L2) (hq : E < pt) (hp : pt ≤ 8589934592) (n1 : ¬ c2 = E) (n2 : ¬ c = E) :
    Calls Try.prog 75 #[.agg #[.int .u64 E, .int .u64 pt], .slice (some a) E c, .slice (some ⟨g, 0, none⟩) L2 c2] w fun e w' => e = .returned (.tuple #[]) ∧ w'.ownsRow B 5 1 (.slice (some ⟨g, 0, none⟩) L2 c2) L2 (bytesV ys) ∧ Below w.heap.size w w' := by
  obtain ⟨cur, h1, h2, h3, h4, h5, h6, h7⟩ := own8_cur ho
  have hb1 : Below w.heap.size w ((w.alloc (.cells #[.int .u64 E, .int .u64 pt] 85)).drew.drew) := below_dd ((Below.refl _ _).alloc (Nat.le_refl _) _)
  have HO := hidden (own_later ho hb1)
  have HB := hidden hb1
  have q8 : E ≤ c := by omega
  have q9 : E ≤ c2 := by omega
  have q11 : E < pt := by omega
  clear ho hb1 h1 h2 h4 h5 h6 h7
  go_enter Try.func75, Try.ntmps75
  go_wp2
  go_region
  all_goals (try go_wp2)
  go_region_law (refine step_copy0 rfl (.tmp 26) (.tmp 30) rfl (by simp [Act.eval, Act.put]; exact ⟨_, _, ⟨rfl, rfl⟩, _, _, ⟨rfl, rfl⟩, .inl rfl⟩) ?_)
  all_goals (try go_wp2)
  all_goals (refine bodyPost_end (v := .tuple #[]) (by simp [results, Try.results75, go_sem]) rfl ⟨rfl, HO.out, HB.out⟩)

theorem carry_z1ayn (a : Addr) (E L pf pt c g : Nat) (ys : List Int) (B : Nat) (w : World) (hc : L ≤ c) (ho : w.ownsRow B 5 1 (.slice (some ⟨g, 0, none⟩) E E) E (bytesV ys)) (hL : L ≤ 4294967296) (hL2 : E ≤ 4294967296)
    (hl : E < L) (hq : E < pf) (hq2 : pf ≤ pt) (hp : pt ≤ 8589934592)  (n2 : ¬ c = E) :
    Calls Try.prog 75 #[.agg #[.int .u64 pf, .int .u64 pt], .slice (some a) L c, .slice (some ⟨g, 0, none⟩) E E] w fun e w' => e = .returned (.tuple #[]) ∧ w'.ownsRow B 5 1 (.slice (some ⟨g, 0, none⟩) E E) E (bytesV ys) ∧ Below w.heap.size w w' := by
  obtain ⟨cur, h1, h2, h3, h4, h5, h6, h7⟩ := own8_cur ho
  have hb1 : Below w.heap.size w ((w.alloc (.cells #[.int .u64 pf, .int .u64 pt] 85)).drew.drew) := below_dd ((Below.refl _ _).alloc (Nat.le_refl _) _)
  have HO := hidden (own_later ho hb1)
  have HB := hidden hb1
  have q8 : E ≤ c := by omega
  have q9 : E ≤ E := by omega
  have q11 : E < pt := by omega
  clear ho hb1 h1 h2 h4 h5 h6 h7
  go_enter Try.func75, Try.ntmps75
  go_wp2
  go_region
  all_goals (try go_wp2)
  go_region_law (refine step_copy0 rfl (.tmp 26) (.tmp 30) rfl (by simp [Act.eval, Act.put]; exact ⟨_, _, ⟨rfl, rfl⟩, _, _, ⟨rfl, rfl⟩, .inl rfl⟩) ?_)
  all_goals (try go_wp2)
  all_goals (refine bodyPost_end (v := .tuple #[]) (by simp [results, Try.results75, go_sem]) rfl ⟨rfl, HO.out, HB.out⟩)

theorem carry_z1ann (a : Addr) (E L pf pt c2 c g : Nat) (ys : List Int) (B : Nat) (w : World) (hc : L ≤ c) (ho : w.ownsRow B 5 1 (.slice (some ⟨g, 0, none⟩) E c2) E (bytesV ys)) (hL : L ≤ 4294967296) (hL2 : E ≤ 4294967296)
    (hl : E < L) (hq : E < pf) (hq2 : pf ≤ pt) (hp : pt ≤ 8589934592) (n1 : ¬ c2 = E) (n2 : ¬ c = E) :
    Calls Try.prog 75 #[.agg #[.int .u64 pf, .int .u64 pt], .slice (some a) L c, .slice (some ⟨g, 0, none⟩) E c2] w fun e w' => e = .returned (.tuple #[]) ∧ w'.ownsRow B 5 1 (.slice (some ⟨g, 0, none⟩) E c2) E (bytesV ys) ∧ Below w.heap.size w w' := by
  obtain ⟨cur, h1, h2, h3, h4, h5, h6, h7⟩ := own8_cur ho
  have hb1 : Below w.heap.size w ((w.alloc (.cells #[.int .u64 pf, .int .u64 pt] 85)).drew.drew) := below_dd ((Below.refl _ _).alloc (Nat.le_refl _) _)
  have HO := hidden (own_later ho hb1)
  have HB := hidden hb1
  have q8 : E ≤ c := by omega
  have q9 : E ≤ c2 := by omega
  have q11 : E < pt := by omega
  clear ho hb1 h1 h2 h4 h5 h6 h7
  go_enter Try.func75, Try.ntmps75
  go_wp2
  go_region
  all_goals (try go_wp2)
  go_region_law (refine step_copy0 rfl (.tmp 26) (.tmp 30) rfl (by simp [Act.eval, Act.put]; exact ⟨_, _, ⟨rfl, rfl⟩, _, _, ⟨rfl, rfl⟩, .inl rfl⟩) ?_)
  all_goals (try go_wp2)
  all_goals (refine bodyPost_end (v := .tuple #[]) (by simp [results, Try.results75, go_sem]) rfl ⟨rfl, HO.out, HB.out⟩)

theorem carry_z1byn (a : Addr) (E L f c g : Nat) (ys : List Int) (B : Nat) (w : World) (hc : L ≤ c) (ho : w.ownsRow B 5 1 (.slice (some ⟨g, 0, none⟩) E f) E (bytesV ys)) (hL : L ≤ 4294967296) (hL2 : E ≤ 4294967296)
    (hl : E < L) (hq : f ≤ E)  (n2 : ¬ c = f) :
    Calls Try.prog 75 #[.agg #[.int .u64 f, .int .u64 f], .slice (some a) L c, .slice (some ⟨g, 0, none⟩) E f] w fun e w' => e = .returned (.tuple #[]) ∧ w'.ownsRow B 5 1 (.slice (some ⟨g, 0, none⟩) E f) E (bytesV ys) ∧ Below w.heap.size w w' := by
  obtain ⟨cur, h1, h2, h3, h4, h5, h6, h7⟩ := own8_cur ho
  have hb1 : Below w.heap.size w ((w.alloc (.cells #[.int .u64 f, .int .u64 f] 85)).drew.drew) := below_dd ((Below.refl _ _).alloc (Nat.le_refl _) _)
  have HO := hidden (own_later ho hb1)
  have HB := hidden hb1
  have q8 : f ≤ c := by omega
  have q9 : f ≤ f := by omega
  skip
  clear ho hb1 h1 h2 h4 h5 h6 h7
  go_enter Try.func75, Try.ntmps75
  go_wp2
  go_region
  all_goals (try go_wp2)
  go_region_law (refine step_copy0 rfl (.tmp 26) (.tmp 30) rfl (by simp [Act.eval, Act.put]; exact ⟨_, _, ⟨rfl, rfl⟩, _, _, ⟨rfl, rfl⟩, .inl rfl⟩) ?_)
  all_goals (try go_wp2)
  all_goals (refine bodyPost_end (v := .tuple #[]) (by simp [results, Try.results75, go_sem]) rfl ⟨rfl, HO.out, HB.out⟩)

theorem carry_z1bnn (a : Addr) (E L f c2 c g : Nat) (ys : List Int) (B : Nat) (w : World) (hc : L ≤ c) (ho : w.ownsRow B 5 1 (.slice (some ⟨g, 0, none⟩) E c2) E (bytesV ys)) (hL : L ≤ 4294967296) (hL2 : E ≤ 4294967296)
    (hl : E < L) (hq : f ≤ E) (n1 : ¬ c2 = f) (n2 : ¬ c = f) :
    Calls Try.prog 75 #[.agg #[.int .u64 f, .int .u64 f], .slice (some a) L c, .slice (some ⟨g, 0, none⟩) E c2] w fun e w' => e = .returned (.tuple #[]) ∧ w'.ownsRow B 5 1 (.slice (some ⟨g, 0, none⟩) E c2) E (bytesV ys) ∧ Below w.heap.size w w' := by
  obtain ⟨cur, h1, h2, h3, h4, h5, h6, h7⟩ := own8_cur ho
  have hb1 : Below w.heap.size w ((w.alloc (.cells #[.int .u64 f, .int .u64 f] 85)).drew.drew) := below_dd ((Below.refl _ _).alloc (Nat.le_refl _) _)
  have HO := hidden (own_later ho hb1)
  have HB := hidden hb1
  have q8 : f ≤ c := by omega
  have q9 : f ≤ c2 := by omega
  skip
  clear ho hb1 h1 h2 h4 h5 h6 h7
  go_enter Try.func75, Try.ntmps75
  go_wp2
  go_region
  all_goals (try go_wp2)
  go_region_law (refine step_copy0 rfl (.tmp 26) (.tmp 30) rfl (by simp [Act.eval, Act.put]; exact ⟨_, _, ⟨rfl, rfl⟩, _, _, ⟨rfl, rfl⟩, .inl rfl⟩) ?_)
  all_goals (try go_wp2)
  all_goals (refine bodyPost_end (v := .tuple #[]) (by simp [results, Try.results75, go_sem]) rfl ⟨rfl, HO.out, HB.out⟩)

theorem carry_z1cyn (a : Addr) (E L pt c g : Nat) (ys : List Int) (B : Nat) (w : World) (hc : L ≤ c) (ho : w.ownsRow B 5 1 (.slice (some ⟨g, 0, none⟩) E E) E (bytesV ys)) (hL : L ≤ 4294967296) (hL2 : E ≤ 4294967296)
    (hl : E < L) (hq : E < pt) (hp : pt ≤ 8589934592)  (n2 : ¬ c = E) :
    Calls Try.prog 75 #[.agg #[.int .u64 E, .int .u64 pt], .slice (some a) L c, .slice (some ⟨g, 0, none⟩) E E] w fun e w' => e = .returned (.tuple #[]) ∧ w'.ownsRow B 5 1 (.slice (some ⟨g, 0, none⟩) E E) E (bytesV ys) ∧ Below w.heap.size w w' := by
  obtain ⟨cur, h1, h2, h3, h4, h5, h6, h7⟩ := own8_cur ho
  have hb1 : Below w.heap.size w ((w.alloc (.cells #[.int .u64 E, .int .u64 pt] 85)).drew.drew) := below_dd ((Below.refl _ _).alloc (Nat.le_refl _) _)
  have HO := hidden (own_later ho hb1)
  have HB := hidden hb1
  have q8 : E ≤ c := by omega
  have q9 : E ≤ E := by omega
  have q11 : E < pt := by omega
  clear ho hb1 h1 h2 h4 h5 h6 h7
  go_enter Try.func75, Try.ntmps75
  go_wp2
  go_region
  all_goals (try go_wp2)
  go_region_law (refine step_copy0 rfl (.tmp 26) (.tmp 30) rfl (by simp [Act.eval, Act.put]; exact ⟨_, _, ⟨rfl, rfl⟩, _, _, ⟨rfl, rfl⟩, .inl rfl⟩) ?_)
  all_goals (try go_wp2)
  all_goals (refine bodyPost_end (v := .tuple #[]) (by simp [results, Try.results75, go_sem]) rfl ⟨rfl, HO.out, HB.out⟩)

theorem carry_z1cnn (a : Addr) (E L pt c2 c g : Nat) (ys : List Int) (B : Nat) (w : World) (hc : L ≤ c) (ho : w.ownsRow B 5 1 (.slice (some ⟨g, 0, none⟩) E c2) E (bytesV ys)) (hL : L ≤ 4294967296) (hL2 : E ≤ 4294967296)
    (hl : E < L) (hq : E < pt) (hp : pt ≤ 8589934592) (n1 : ¬ c2 = E) (n2 : ¬ c = E) :
    Calls Try.prog 75 #[.agg #[.int .u64 E, .int .u64 pt], .slice (some a) L c, .slice (some ⟨g, 0, none⟩) E c2] w fun e w' => e = .returned (.tuple #[]) ∧ w'.ownsRow B 5 1 (.slice (some ⟨g, 0, none⟩) E c2) E (bytesV ys) ∧ Below w.heap.size w w' := by
  obtain ⟨cur, h1, h2, h3, h4, h5, h6, h7⟩ := own8_cur ho
  have hb1 : Below w.heap.size w ((w.alloc (.cells #[.int .u64 E, .int .u64 pt] 85)).drew.drew) := below_dd ((Below.refl _ _).alloc (Nat.le_refl _) _)
  have HO := hidden (own_later ho hb1)
  have HB := hidden hb1
  have q8 : E ≤ c := by omega
  have q9 : E ≤ c2 := by omega
  have q11 : E < pt := by omega
  clear ho hb1 h1 h2 h4 h5 h6 h7
  go_enter Try.func75, Try.ntmps75
  go_wp2
  go_region
  all_goals (try go_wp2)
  go_region_law (refine step_copy0 rfl (.tmp 26) (.tmp 30) rfl (by simp [Act.eval, Act.put]; exact ⟨_, _, ⟨rfl, rfl⟩, _, _, ⟨rfl, rfl⟩, .inl rfl⟩) ?_)
  all_goals (try go_wp2)
  all_goals (refine bodyPost_end (v := .tuple #[]) (by simp [results, Try.results75, go_sem]) rfl ⟨rfl, HO.out, HB.out⟩)

theorem carry_nil (L2 c2 g : Nat) (ys : List Int) (B : Nat) (w : World) (ho : w.ownsRow B 5 1 (.slice (some ⟨g, 0, none⟩) L2 c2) L2 (bytesV ys)) (hL2 : L2 ≤ 4294967296) (h0 : 0 < L2) :
    Calls Try.prog 75 #[.agg #[.int .u64 0, .int .u64 0], .slice none 0 0, .slice (some ⟨g, 0, none⟩) L2 c2] w fun e w' => e = .returned (.tuple #[]) ∧ w'.ownsRow B 5 1 (.slice (some ⟨g, 0, none⟩) L2 c2) L2 (bytesV ys) ∧ Below w.heap.size w w' := by
  obtain ⟨cur, h1, h2, h3, h4, h5, h6, h7⟩ := own8_cur ho
  have hb1 : Below w.heap.size w ((w.alloc (.cells #[.int .u64 0, .int .u64 0] 85)).drew.drew) := below_dd ((Below.refl _ _).alloc (Nat.le_refl _) _)
  have HO := hidden (own_later ho hb1)
  have HB := hidden hb1
  have n1 : ¬ c2 = 0 := by omega
  clear ho hb1 h1 h2 h4 h5 h6 h7
  go_enter Try.func75, Try.ntmps75
  go_wp2
  go_region
  all_goals (try go_wp2)
  go_region_law (refine step_copy0 rfl (.tmp 26) (.tmp 30) rfl (by simp [Act.eval, Act.put]; exact ⟨_, _, ⟨rfl, rfl⟩, _, _, ⟨rfl, rfl⟩, .inl rfl⟩) ?_)
  all_goals (try go_wp2)
  all_goals (refine bodyPost_end (v := .tuple #[]) (by simp [results, Try.results75, go_sem]) rfl ⟨rfl, HO.out, HB.out⟩)

end Go.Proofs.Ytpgppdkbkkljnaa
