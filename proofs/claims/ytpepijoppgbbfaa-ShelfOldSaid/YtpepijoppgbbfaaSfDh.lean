/- shelf: New, Put, Drop, Get, Next, Len. -/
import Derived.Test.YtpepijoppgbbfaaSfDg
import Derived.Laws.CopyOwn
namespace Go.Proofs.Ytpepijoppgbbfaa.Shf
open Go.RowKit Go.Proofs.Ytpepijoppgbbfaa.Gr

theorem ShelfAt.tree {w : World} {S : Array Value} {l : List Th} (h : ShelfAt w.heap.size w S l) : ∃ p T, S = #[.pointer p] ∧ IsTr w.heap.size w p T ∧ T.list = l ∧ SortedL l := h
theorem ShelfAt.of {w : World} {p : Option Addr} {l : List Th} (h : TreeOf w p l) (hs : SortedL l) : ShelfAt w.heap.size w #[.pointer p] l := by
  obtain ⟨T, hT, hl⟩ := h
  exact ⟨p, T, rfl, hT, hl, hs⟩

set_option maxRecDepth 100000 in
set_option maxHeartbeats 1600000 in
theorem code_NewS (w : World) : Calls Try.prog 8 #[] w fun e w' => ∃ S, e = .returned (.agg S) ∧ ShelfAt w'.heap.size w' S [] ∧ Below w.heap.size w w' := by
  go_enter Try.func8, Try.ntmps8
  go_wp2_with fail
  exact bodyPost_ret (results_cell_row (p := 0) (ty := 24) Try.results8 _ _ w.heap.size 24 #[.pointer none] (0, 0) _ rfl (heap_alloc_new _ _) Try.underlying24 rfl shelf_info) rfl ⟨_, rfl, ShelfAt.of (TreeOf.leaf _) sorted_nil, (Below.refl _ _).alloc (Nat.le_refl _) _⟩

set_option maxRecDepth 100000 in
set_option maxHeartbeats 1600000 in
theorem code_LenS (S : Array Value) (l : List Th) (w : World) (hS : ShelfAt w.heap.size w S l) (hl : l.length ≤ 10000000000) :
    Calls Try.prog 19 #[.agg S] w fun e w' => e = .returned (.int .i64 (l.length : Int)) ∧ Below w.heap.size w w' := by
  obtain ⟨p, T, rfl, hT, hTl, hs⟩ := hS
  have hb1 : Below w.heap.size w (w.alloc (.cells #[.pointer p] 24)) := (Below.refl _ _).alloc (Nat.le_refl _) _
  obtain ⟨n, hn⟩ : ∃ n : Int, (l.length : Int) + 1 = n := ⟨_, rfl⟩
  have HW := Lib.hid (code_weight p l _ ⟨T, hT.go hb1, hTl⟩ (by omega))
  rw [hn] at HW
  have hw : IntKind.i64.wrap (n - 1) = (l.length : Int) := by rw [wrap_in _ (by omega) (by omega)]; omega
  have HB1 := Lib.hid hb1
  clear hT hTl hs hn hl hb1
  go_enter Try.func19, Try.ntmps19
  go_wp2_with fail
  refine HW.out.mono ?_
  rintro e w2 ⟨rfl, hb2⟩
  have HB2 := Lib.hid (HB1.out.trans (hb2.mono HB1.out.size))
  clear hb2
  go_wp2_with fail
  go_ret
  exact ⟨rfl, HB2.out⟩

set_option maxRecDepth 100000 in
set_option maxHeartbeats 1600000 in
theorem code_PutS (S : Array Value) (l : List Th) (k : ByteArray) (z : Nat) (w : World) (hS : ShelfAt w.heap.size w S l) (hl : l.length ≤ 10000000000) :
    Calls Try.prog 9 #[.agg S, .string k, .int .u64 z] w fun e w' => ∃ S', e = .returned (.agg S') ∧ ShelfAt w'.heap.size w' S' (putL l k z) ∧ Below w.heap.size w w' := by
  obtain ⟨p, T, rfl, hT, rfl, hs⟩ := hS
  have HT := Lib.hid hT
  have HS := Lib.hid hs
  have HL := Lib.hid hl
  clear hT hs hl
  go_enter Try.func9, Try.ntmps9
  go_wp2_with fail
  obtain ⟨W3, hW3⟩ : ∃ W, (((w.alloc (.cells #[.pointer p] 24)).alloc (.cells #[.pointer none] 24)).alloc (.cells #[.string k, .int .u64 z, .pointer none, .pointer none, .int .i64 1] 59)) = W := ⟨_, rfl⟩
  have hb3 : Below w.heap.size w W3 := by rw [← hW3]; exact (((Below.refl _ _).alloc (Nat.le_refl _) _).alloc (by simp) _).alloc (by simp; omega) _
  have h1 : W3.heap[w.heap.size + 1]? = some (.cells #[.pointer none] 24 (0, 0)) := by
    rw [← hW3]
    exact (Below.heap_alloc _ _ (w.heap.size + 1) (by simp)).trans (heap_alloc2_new w _ _)
  have h2 : W3.heap[w.heap.size + 1 + 1]? = some (.cells #[.string k, .int .u64 z, .pointer none, .pointer none, .int .i64 1] 59 (0, 0)) := by
    rw [← hW3]
    have h := heap_alloc2_new (w.alloc (.cells #[.pointer p] 24)) (.cells #[.pointer none] 24) (.cells #[.string k, .int .u64 z, .pointer none, .pointer none, .int .i64 1] 59)
    rw [show (w.alloc (.cells #[.pointer p] 24)).heap.size = w.heap.size + 1 by simp] at h
    exact h
  rw [hW3]
  clear hW3
  have hlt := (Array.getElem?_eq_some_iff.1 h2).1
  have HG := Lib.hid (show w.heap.size ≤ w.heap.size + 1 by omega)
  have hlt1 := (Array.getElem?_eq_some_iff.1 h1).1
  obtain ⟨g6, hg6⟩ : ∃ x, w.heap.size + 1 = x := ⟨_, rfl⟩
  rw [hg6] at h1 h2 hlt hlt1 HG
  rw [hg6]
  obtain ⟨g7, hg7⟩ : ∃ x, g6 + 1 = x := ⟨_, rfl⟩
  rw [hg7] at h2 hlt
  rw [hg7]
  have H1 := Lib.hid h1
  have HB3 := Lib.hid hb3
  have ht : TreeOf W3 (some ⟨g7, 0, none⟩) [(k, z)] := ⟨.node k z .leaf .leaf, ⟨g7, none, none, rfl, hlt, h2, rfl, rfl⟩, rfl⟩
  have HP := Lib.hid (code_put g7 k z _ _ _ T p W3 (HT.out.below hb3 hb3.size) HS.out (by have := HL.out; simpa only [Tr.many] using this) ht ⟨h2⟩)
  have HL1 := Lib.hid hlt1
  clear h1 h2 hb3 ht hlt hlt1 hg6 hg7
  refine HP.out.mono ?_
  rintro e w4 ⟨v, rfl, ⟨q, rfl, hq⟩, hb4⟩
  have HQ := Lib.hid hq
  have H14 := Lib.hid ((hb4.block g6 HL1.out).trans H1.out)
  have HB4 := Lib.hid (HB3.out.trans (hb4.mono HB3.out.size))
  clear hq hb4
  go_wp2_with (refine wpList_store_row rfl 24 (.tmp 6) (.tmp 14) rfl g6 #[.pointer q] rfl rfl 24 zeroS H14.out shelf_info rfl (by simp [Value.oneCell']) ?_)
  refine bodyPost_ret (results_cell_row (p := 6) (ty := 24) Try.results9 _ _ g6 24 #[.pointer q] (0, 0) _ rfl (setRow_heap _ _ _ _ _ _ H14.out) Try.underlying24 rfl shelf_info) rfl ⟨_, rfl, ?_, below_setRow HB4.out HG.out _⟩
  have hs := ShelfAt.of HQ.out (sorted_put T.list k z HS.out)
  have := hs.store (C := #[.pointer q]) H14.out
  simpa using this

set_option maxRecDepth 100000 in
set_option maxHeartbeats 1600000 in
theorem code_DropS (S : Array Value) (l : List Th) (k : ByteArray) (w : World) (hS : ShelfAt w.heap.size w S l) (hl : l.length ≤ 10000000000) :
    Calls Try.prog 11 #[.agg S, .string k] w fun e w' => ∃ S', e = .returned (.agg S') ∧ ShelfAt w'.heap.size w' S' (dropL l k) ∧ Below w.heap.size w w' := by
  obtain ⟨p, T, rfl, hT, rfl, hs⟩ := hS
  have HT := Lib.hid hT
  have HS := Lib.hid hs
  have HL := Lib.hid hl
  clear hT hs hl
  go_enter Try.func11, Try.ntmps11
  go_wp2_with fail
  obtain ⟨W3, hW3⟩ : ∃ W, ((w.alloc (.cells #[.pointer p] 24)).alloc (.cells #[.pointer none] 24)) = W := ⟨_, rfl⟩
  have hb3 : Below w.heap.size w W3 := by rw [← hW3]; exact ((Below.refl _ _).alloc (Nat.le_refl _) _).alloc (by simp) _
  have h1 : W3.heap[w.heap.size + 1]? = some (.cells #[.pointer none] 24 (0, 0)) := by
    rw [← hW3]
    exact heap_alloc2_new w _ _
  rw [hW3]
  clear hW3
  have HG := Lib.hid (show w.heap.size ≤ w.heap.size + 1 by omega)
  have hlt1 := (Array.getElem?_eq_some_iff.1 h1).1
  obtain ⟨g6, hg6⟩ : ∃ x, w.heap.size + 1 = x := ⟨_, rfl⟩
  rw [hg6] at h1 hlt1 HG
  rw [hg6]
  have H1 := Lib.hid h1
  have HB3 := Lib.hid hb3
  have HP := Lib.hid (code_drop k T p W3 (HT.out.below hb3 hb3.size) HS.out (by have := HL.out; simpa only [Tr.many] using this))
  have HL1 := Lib.hid hlt1
  clear h1 hb3 hlt1 hg6
  refine HP.out.mono ?_
  rintro e w4 ⟨v, rfl, ⟨q, rfl, hq⟩, hb4⟩
  have HQ := Lib.hid hq
  have H14 := Lib.hid ((hb4.block g6 HL1.out).trans H1.out)
  have HB4 := Lib.hid (HB3.out.trans (hb4.mono HB3.out.size))
  clear hq hb4
  go_wp2_with (refine wpList_store_row rfl 24 (.tmp 4) (.tmp 9) rfl g6 #[.pointer q] rfl rfl 24 zeroS H14.out shelf_info rfl (by simp [Value.oneCell']) ?_)
  refine bodyPost_ret (results_cell_row (p := 4) (ty := 24) Try.results11 _ _ g6 24 #[.pointer q] (0, 0) _ rfl (setRow_heap _ _ _ _ _ _ H14.out) Try.underlying24 rfl shelf_info) rfl ⟨_, rfl, ?_, below_setRow HB4.out HG.out _⟩
  have hs := ShelfAt.of HQ.out (sorted_drop T.list k HS.out)
  have := hs.store (C := #[.pointer q]) H14.out
  simpa using this

set_option maxRecDepth 100000 in
set_option maxHeartbeats 1600000 in
theorem code_GetS (S : Array Value) (l : List Th) (k : ByteArray) (w : World) (hS : ShelfAt w.heap.size w S l) (_hl : l.length ≤ 10000000000) :
    Calls Try.prog 10 #[.agg S, .string k] w fun e w' => e = .returned (.tuple #[.int .u64 ((getL l k).getD 0 : Nat), .bool (getL l k).isSome]) ∧ Below w.heap.size w w' := by
  obtain ⟨p, T, rfl, hT, hTl, hs⟩ := hS
  have hb1 : Below w.heap.size w (w.alloc (.cells #[.pointer p] 24)) := (Below.refl _ _).alloc (Nat.le_refl _) _
  have HF := Lib.hid (code_from p l k _ ⟨T, hT.go hb1, hTl⟩ hs)
  have HB1 := Lib.hid hb1
  have hgn := get_next l k
  obtain ⟨o, ho⟩ : ∃ o, nextL l k = o := ⟨_, rfl⟩
  obtain ⟨gv, hgv⟩ : ∃ o, getL l k = o := ⟨_, rfl⟩
  rw [ho] at HF hgn
  rw [hgv] at hgn ⊢
  have HGN := Lib.hid hgn
  clear hT hTl hs hb1 ho hgv hgn
  go_enter Try.func10, Try.ntmps10
  go_wp2_with fail
  refine HF.out.mono ?_
  rintro e w2 ⟨q, rfl, hq, hb2⟩
  have HB2 := Lib.hid (HB1.out.trans (hb2.mono HB1.out.size))
  clear hb2
  cases o with
  | none =>
    obtain rfl : q = none := hq
    obtain rfl : gv = none := HGN.out
    clear HGN
    go_wp2_with fail
    refine bodyPost_ret (v := .tuple #[.int .u64 0, .bool false]) (by simp [results, Try.results10, go_sem]) rfl ⟨rfl, HB2.out⟩
  | some x =>
    obtain ⟨g, a, b, c, rfl, hg⟩ := hq
    have c0 : w2.cell? ⟨g, 0, none⟩ = some (.string x.1) := by rw [Lib.cell_of_heap hg.cells]; rfl
    have c1 : w2.cell? ⟨g, 1, none⟩ = some (.int .u64 x.2) := by rw [Lib.cell_of_heap hg.cells]; rfl
    clear hg
    obtain ⟨xk, xv⟩ := x
    dsimp only at c0 c1
    by_cases he : xk = k
    · subst he
      obtain rfl : gv = some xv := HGN.out.trans (if_pos rfl)
      clear HGN
      go_wp2_with fail
      refine bodyPost_ret (v := .tuple #[.int .u64 xv, .bool true]) (by simp [results, Try.results10, go_sem]) rfl ⟨rfl, HB2.out⟩
    · have hbe : (xk.toList == k.toList) = false := by rw [same_eq]; exact decide_eq_false he
      obtain rfl : gv = none := HGN.out.trans (if_neg he)
      clear HGN
      go_wp2_with fail
      refine bodyPost_ret (v := .tuple #[.int .u64 0, .bool false]) (by simp [results, Try.results10, go_sem]) rfl ⟨rfl, HB2.out⟩

set_option maxRecDepth 100000 in
set_option maxHeartbeats 1600000 in
theorem code_NextS (S : Array Value) (l : List Th) (k : ByteArray) (w : World) (hS : ShelfAt w.heap.size w S l) (_hl : l.length ≤ 10000000000) :
    Calls Try.prog 12 #[.agg S, .string k] w fun e w' => e = .returned (nextV (nextL l k)) ∧ Below w.heap.size w w' := by
  obtain ⟨p, T, rfl, hT, hTl, hs⟩ := hS
  have hb1 : Below w.heap.size w (w.alloc (.cells #[.pointer p] 24)) := (Below.refl _ _).alloc (Nat.le_refl _) _
  have HF := Lib.hid (code_from p l k _ ⟨T, hT.go hb1, hTl⟩ hs)
  have HB1 := Lib.hid hb1
  obtain ⟨o, ho⟩ : ∃ o, nextL l k = o := ⟨_, rfl⟩
  rw [ho] at HF ⊢
  clear hT hTl hs hb1 ho
  go_enter Try.func12, Try.ntmps12
  go_wp2_with fail
  refine HF.out.mono ?_
  rintro e w2 ⟨q, rfl, hq, hb2⟩
  have HB2 := Lib.hid (HB1.out.trans (hb2.mono HB1.out.size))
  clear hb2
  cases o with
  | none =>
    obtain rfl : q = none := hq
    go_wp2_with fail
    refine bodyPost_ret (v := .tuple #[.string ⟨#[]⟩, .int .u64 0, .bool false]) (by simp [results, Try.results12, go_sem]) rfl ⟨rfl, HB2.out⟩
  | some x =>
    obtain ⟨g, a, b, c, rfl, hg⟩ := hq
    have c0 : w2.cell? ⟨g, 0, none⟩ = some (.string x.1) := by rw [Lib.cell_of_heap hg.cells]; rfl
    have c1 : w2.cell? ⟨g, 1, none⟩ = some (.int .u64 x.2) := by rw [Lib.cell_of_heap hg.cells]; rfl
    clear hg
    obtain ⟨xk, xv⟩ := x
    dsimp only at c0 c1
    go_upto_region 5 with (fail)
    go_quiet (fail)
    go_wp2_with fail
    refine bodyPost_ret (v := .tuple #[.string xk, .int .u64 xv, .bool true]) (by simp [results, Try.results12, go_sem]) rfl ⟨rfl, below_drewN HB2.out _⟩

end Go.Proofs.Ytpepijoppgbbfaa.Shf
