/- Contract of iff.appendChunk: the chunk's letters, number, data and the byte that makes it even are laid behind what is there. -/
import Derived.Test.YtedihackifchcaaJ5b
import Derived.Lib.AppendStr
namespace Go.Proofs.Ytedihackifchcaa
open Go.RowKit
set_option maxHeartbeats 1000000
set_option linter.unusedVariables false

/-- a text's bytes as numbers -/
def idI (s : ByteArray) : List Int := s.data.toList.map fun b => (b.toNat : Int)
theorem idI_cells (s : ByteArray) : Lib.strCells s = bytesV (idI s) := by simp [Lib.strCells, idI, bytesV]
theorem idI_len (s : ByteArray) : (idI s).length = s.size := by simp [idI]
theorem idI_ok (s : ByteArray) : OkB (idI s) := by
  intro c hc
  obtain ⟨b, _, rfl⟩ := List.mem_map.1 hc
  have := b.toNat_lt
  omega
/-- a chunk's bytes in a form -/
def ckL (s : ByteArray) (l : Nat) (d : List Int) : List Int := idI s ++ (putL l 4 ++ (d ++ if l % 2 = 1 then [0] else []))
/-- a box that holds a chunk -/
def Box (w : World) (g : Nat) (s : ByteArray) (a : Option Addr) (l c : Nat) : Prop := w.heap[g]? = some (.cells #[.string s, .slice a l c] 56 (0, 0))
theorem Box.new (w : World) (s : ByteArray) (a : Option Addr) (l c : Nat) : Box (w.alloc (.cells #[.string s, .slice a l c] 56)) w.heap.size s a l c := heap_alloc_new _ _
theorem Box.lt {w : World} {g : Nat} {s : ByteArray} {a : Option Addr} {l c : Nat} (h : Box w g s a l c) : g < w.heap.size := by
  unfold Box at h
  exact (Array.getElem?_eq_some_iff.1 h).1
theorem Box.grown {w w' : World} {g : Nat} {s : ByteArray} {a : Option Addr} {l c : Nat} {row : Option Nat} (h : Box w g s a l c) (hg : w.grownBy w' row) (hne : row ≠ some g) : Box w' g s a l c :=
  (hg.block g h.lt (fun e => hne e.symm)).trans h
theorem Box.alloc {w : World} {g : Nat} {s : ByteArray} {a : Option Addr} {l c : Nat} (h : Box w g s a l c) (o : Obj) : Box (w.alloc o) g s a l c :=
  h.grown (World.grownBy_alloc w o none) (by simp)
theorem Box.ne {w : World} {g : Nat} {s : ByteArray} {a : Option Addr} {l c : Nat} (h : Box w g s a l c) {base n : Nat} {v : Value} {xs : List Value} (ho : w.ownsRow base 5 1 v n xs) : v.ownBlock ≠ some g := by
  intro e
  rcases ho.2 with ⟨rfl, _⟩ | ⟨g', cap, cur, rfl, _, hg, _⟩
  · cases e
  · have e' : g' = g := by simpa [Value.ownBlock] using e
    subst e'
    unfold Box at h
    rw [h] at hg
    simp at hg
theorem Box.cells {w : World} {g : Nat} {s : ByteArray} {a : Option Addr} {l c : Nat} (h : Box w g s a l c) : w.cell? ⟨g, 0, none⟩ = some (.string s) ∧ w.cell? ⟨g, 1, none⟩ = some (.slice a l c) := by
  unfold Box at h
  simp [World.cell?, h]
theorem grow_step {w0 w w1 : World} {v : Value} {g n : Nat} {s : ByteArray} {a : Option Addr} {l c : Nat} {xs : List Value} (hX : Box w g s a l c) (hb : Below w0.heap.size w0 w) (ho : w.ownsRow w0.heap.size 5 1 v n xs) (hg : w.grownBy w1 v.ownBlock) :
    Box w1 g s a l c ∧ Below w0.heap.size w0 w1 := ⟨hX.grown hg (hX.ne ho), hb.grown hg hb.size (fun k hk => (ho.lt k hk).1)⟩
/-- what appendChunk leaves -/
def AppRet (w0 : World) (s : ByteArray) (l : Nat) (d : List Int) (n : Nat) (zs : List Int) (e : Ending) (w' : World) : Prop :=
  ∃ v', e = .returned v' ∧ w'.ownsRow w0.heap.size 5 1 v' (n + s.size + 4 + l + l % 2) (bytesV (zs ++ ckL s l d)) ∧ Below w0.heap.size w0 w'
theorem appendChunk_some (s : ByteArray) (x : Addr) (l c : Nat) (d : List Int) (v : Value) (n : Nat) (zs : List Int) (w0 w : World) (hb : Below w0.heap.size w0 w) (hown : w.ownsRow w0.heap.size 5 1 v n (bytesV zs))
    (hr : Reads w0 (some x) l c d) (hs : s.size ≤ 100000) (hn : n + l ≤ 100000000) :
    Calls Try.prog 55 #[v, .agg #[.string s, .slice (some x) l c]] w (AppRet w0 s l d n zs) := by
  obtain ⟨i0, hi, hz0, hz1, hz2⟩ := info_parts info8
  have hdl := hr.1
  have HN := hidden hr.news
  clear hr
  have hs0 := hb.size
  have hL : (l : Int) < 4294967296 := by omega
  have hl0 : (0 : Int) ≤ (l : Int) := by omega
  have HX := hidden (Box.new w s (some x) l c)
  have HO := hidden (hown.alloc (.cells #[.string s, .slice (some x) l c] 56))
  have hb1 := hb.alloc hs0 (.cells #[.string s, .slice (some x) l c] 56)
  clear hown hb
  go_enter Try.func55, Try.ntmps55
  go_wp2_with (at_builtin; refine Lib.wpList_append_own_string _ rfl (.tmp 5) (.tmp 7) 22 9 rfl w0.heap.size 5 i0 Try.underlying22 Try.underlying9 hi hz0 hz1 hz2 _ _ _ rfl HO.out s rfl (by unfold maxLen; omega) (by omega) (by simp; omega) ?_; intro v1 w1 hown1 hgrow1 hiff1; clear hiff1; refine Hid.out ?_)
  replace hgrow1 : (w.alloc (.cells #[.string s, .slice (some x) l c] 56)).grownBy w1 v.ownBlock := hgrow1
  obtain ⟨hX1, hb2⟩ := grow_step HX.out hb1 HO.out hgrow1
  rw [idI_cells, bytesV_append] at hown1
  obtain ⟨c0, c1⟩ := hX1.cells
  have hs2 := hb2.size
  have hgl := hX1.lt
  clear HX HO hb1 hgrow1
  generalize w.heap.size = g at *
  have HX := hidden (hX1.alloc (.cells (bytesV (putL l 4)).toArray 5))
  have HO := hidden (hown1.alloc (.cells (bytesV (putL l 4)).toArray 5))
  have hb3 := hb2.alloc hs2 (.cells (bytesV (putL l 4)).toArray 5)
  have HN2 := hidden (new_cell w1 (putL l 4) (show 4 ≤ maxLen by decide))
  clear hX1 hown1 hb2
  refine hidden ?_
  go_wp2_with (first | (go_at_call 48; refine (putn_4 _ _).mono ?_; rintro e w9 ⟨rfl, hw⟩; subst hw) | (at_builtin; refine wpList_append_own _ rfl (.tmp 9) (.tmp 14) 22 rfl w0.heap.size 5 i0 (.int .u8 0) 1 1 Try.underlying22 hi hz0 hz1 hz2 rfl (by decide) _ _ _ rfl HO.out ⟨w1.heap.size, 0, none⟩ 4 4 (bytesV (putL l 4)) rfl rfl HN2.out (bytesV_one _) (by unfold maxLen; omega) (by omega) (by simp; omega) ?_; intro v2 w2 hown2 hgrow2 hiff2; clear hiff2; refine Hid.out ?_))
  replace hgrow2 : (w1.alloc (.cells (bytesV (putL l 4)).toArray 5)).grownBy w2 v1.ownBlock := hgrow2
  obtain ⟨hX2, hb4⟩ := grow_step HX.out hb3 HO.out hgrow2
  rw [bytesV_append] at hown2
  obtain ⟨d0, d1⟩ := hX2.cells
  have hs3 := hb4.size
  have HO2 := hidden hown2
  have HX2 := hidden hX2
  have HN3 : Hid (∀ j u, (bytesV d)[j]? = some u → w2.cell? (x.add j) = some u) := hidden fun j u h => cellLater hb4 (HN.out j u h)
  clear HX HO hb3 hgrow2 hown2 hX2 HN2 c0 c1 hgl
  refine hidden ?_
  go_wp2_with (at_builtin; refine wpList_append_own _ rfl (.tmp 16) (.tmp 18) 22 rfl w0.heap.size 5 i0 (.int .u8 0) 1 1 Try.underlying22 hi hz0 hz1 hz2 rfl (by decide) _ _ _ rfl HO2.out x l c (bytesV d) rfl (by simp [bytesV, hdl]) HN3.out (bytesV_one _) (by unfold maxLen; omega) (by omega) (by omega) ?_; intro v3 w3 hown3 hgrow3 hiff3; clear hiff3; refine Hid.out ?_)
  replace hgrow3 : w2.grownBy w3 v2.ownBlock := hgrow3
  obtain ⟨hX3, hb5⟩ := grow_step HX2.out hb4 HO2.out hgrow3
  rw [bytesV_append] at hown3
  obtain ⟨e0, e1⟩ := hX3.cells
  have hs4 := hb5.size
  clear HX2 HO2 hb4 hgrow3 HN3 d0 d1 HN
  by_cases hodd : l % 2 = 1
  · have HO3 := hidden (hown3.alloc (.cells #[.int .u8 0] 5))
    have HN4 := hidden (new_cell w3 [0] (by decide))
    have hb6 := hb5.alloc hs4 (.cells #[.int .u8 0] 5)
    clear hown3 hb5 hX3
    have h1 : ((l : Int) % 2 == 1) = true := by simp; omega
    have HOD := hidden hodd
    clear hodd
    refine hidden ?_
    go_wp2_with (at_builtin; refine wpList_append_own _ rfl (.tmp 25) (.tmp 26) 22 rfl w0.heap.size 5 i0 (.int .u8 0) 1 1 Try.underlying22 hi hz0 hz1 hz2 rfl (by decide) _ _ _ rfl HO3.out ⟨w3.heap.size, 0, none⟩ 1 1 (bytesV [0]) rfl rfl HN4.out (bytesV_one _) (by unfold maxLen; omega) (by omega) (by simp; omega) ?_; intro v4 w4 hown4 hgrow4 hiff4; clear hiff4; refine Hid.out ?_)
    replace hgrow4 : (w3.alloc (.cells #[.int .u8 0] 5)).grownBy w4 v3.ownBlock := hgrow4
    have hb7 : Below w0.heap.size w0 w4 := hb6.grown hgrow4 hb6.size (fun k hk => (HO3.out.lt k hk).1)
    rw [bytesV_append] at hown4
    have HO4 := hidden hown4
    clear hown4 hgrow4 HO3 HN4
    refine hidden ?_
    go_wp2
    go_ret
    refine ⟨v4, rfl, ?_, hb7⟩
    have := HO4.out
    rw [HOD.out]
    unfold ckL
    rw [if_pos HOD.out]
    simpa only [List.append_assoc] using this
  · have HO3 := hidden hown3
    clear hown3 hX3
    have h1 : ((l : Int) % 2 == 1) = false := by simp; omega
    have HOD := hidden hodd
    clear hodd
    refine hidden ?_
    go_wp2
    go_ret
    refine ⟨v3, rfl, ?_, hb5⟩
    have := HO3.out
    rw [show l % 2 = 0 by have := HOD.out; omega]
    unfold ckL
    rw [if_neg HOD.out]
    simpa only [List.append_assoc, List.append_nil, Nat.add_zero] using this
theorem appendChunk_none (s : ByteArray) (v : Value) (n : Nat) (zs : List Int) (w0 w : World) (hb : Below w0.heap.size w0 w) (hown : w.ownsRow w0.heap.size 5 1 v n (bytesV zs))
    (hs : s.size ≤ 100000) (hn : n ≤ 100000000) :
    Calls Try.prog 55 #[v, .agg #[.string s, .slice none 0 0]] w (AppRet w0 s 0 [] n zs) := by
  obtain ⟨i0, hi, hz0, hz1, hz2⟩ := info_parts info8
  have hs0 := hb.size
  have HX := hidden (Box.new w s none 0 0)
  have HO := hidden (hown.alloc (.cells #[.string s, .slice none 0 0] 56))
  have hb1 := hb.alloc hs0 (.cells #[.string s, .slice none 0 0] 56)
  clear hown hb
  go_enter Try.func55, Try.ntmps55
  go_wp2_with (at_builtin; refine Lib.wpList_append_own_string _ rfl (.tmp 5) (.tmp 7) 22 9 rfl w0.heap.size 5 i0 Try.underlying22 Try.underlying9 hi hz0 hz1 hz2 _ _ _ rfl HO.out s rfl (by unfold maxLen; omega) (by omega) (by simp; omega) ?_; intro v1 w1 hown1 hgrow1 hiff1; clear hiff1; refine Hid.out ?_)
  replace hgrow1 : (w.alloc (.cells #[.string s, .slice none 0 0] 56)).grownBy w1 v.ownBlock := hgrow1
  obtain ⟨hX1, hb2⟩ := grow_step HX.out hb1 HO.out hgrow1
  rw [idI_cells, bytesV_append] at hown1
  obtain ⟨c0, c1⟩ := hX1.cells
  have hs2 := hb2.size
  have hgl := hX1.lt
  clear HX HO hb1 hgrow1
  generalize w.heap.size = g at *
  have HX := hidden (hX1.alloc (.cells (bytesV (putL 0 4)).toArray 5))
  have HO := hidden (hown1.alloc (.cells (bytesV (putL 0 4)).toArray 5))
  have hb3 := hb2.alloc hs2 (.cells (bytesV (putL 0 4)).toArray 5)
  have HN2 := hidden (new_cell w1 (putL 0 4) (show 4 ≤ maxLen by decide))
  clear hX1 hown1 hb2
  refine hidden ?_
  go_wp2_with (first | (go_at_call 48; refine (putn_4 _ _).mono ?_; rintro e w9 ⟨rfl, hw⟩; subst hw) | (at_builtin; refine wpList_append_own _ rfl (.tmp 9) (.tmp 14) 22 rfl w0.heap.size 5 i0 (.int .u8 0) 1 1 Try.underlying22 hi hz0 hz1 hz2 rfl (by decide) _ _ _ rfl HO.out ⟨w1.heap.size, 0, none⟩ 4 4 (bytesV (putL 0 4)) rfl rfl HN2.out (bytesV_one _) (by unfold maxLen; omega) (by omega) (by simp; omega) ?_; intro v2 w2 hown2 hgrow2 hiff2; clear hiff2; refine Hid.out ?_))
  replace hgrow2 : (w1.alloc (.cells (bytesV (putL 0 4)).toArray 5)).grownBy w2 v1.ownBlock := hgrow2
  obtain ⟨hX2, hb4⟩ := grow_step HX.out hb3 HO.out hgrow2
  rw [bytesV_append] at hown2
  obtain ⟨d0, d1⟩ := hX2.cells
  have hs3 := hb4.size
  have HO2 := hidden hown2
  have HX2 := hidden hX2
  clear HX HO hb3 hgrow2 hown2 hX2 HN2 c0 c1 hgl
  refine hidden ?_
  go_wp2_with (at_builtin; refine wpList_append_own_none rfl (.tmp 16) (.tmp 18) 22 rfl w0.heap.size 5 i0 1 Try.underlying22 hi _ _ _ rfl HO2.out rfl ?_)
  go_ret
  refine ⟨v2, rfl, ?_, hb4⟩
  have := HO2.out
  unfold ckL
  rw [if_neg (by decide)]
  simpa only [List.append_assoc, List.append_nil, Nat.add_zero, List.nil_append, Nat.zero_mod, Int.ofNat_zero, Int.natCast_zero] using this
theorem appendChunk_any (s : ByteArray) (a : Option Addr) (l c : Nat) (d : List Int) (v : Value) (n : Nat) (zs : List Int) (w0 w : World) (hb : Below w0.heap.size w0 w) (hown : w.ownsRow w0.heap.size 5 1 v n (bytesV zs))
    (hr : Reads w0 a l c d) (hs : s.size ≤ 100000) (hn : n + l ≤ 100000000) :
    Calls Try.prog 55 #[v, .agg #[.string s, .slice a l c]] w (AppRet w0 s l d n zs) := by
  cases a with
  | some x => exact appendChunk_some s x l c d v n zs w0 w hb hown hr hs hn
  | none =>
    obtain ⟨h1, -, h | ⟨x, hx, -⟩⟩ := hr
    · obtain ⟨-, rfl, rfl⟩ := h
      obtain rfl := List.eq_nil_of_length_eq_zero h1
      exact appendChunk_none s v n zs w0 w hb hown hs (by omega)
    · cases hx
end Go.Proofs.Ytedihackifchcaa
