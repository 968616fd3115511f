/- shelf: works. -/
import Derived.Test.YtpepijoppgbbfaaSfI
import Derived.Deep.WholeRow
namespace Go.Proofs.Ytpepijoppgbbfaa.Shf
open Go.RowKit Go.Shelf Go.Proofs.Ytpepijoppgbbfaa.Gr

/-- What an operation leaves. -/
inductive FactT where
  | val (v : Value)
  | things (L : List Th)
def FactT.holds : FactT → Value → World → Prop
  | .val v0, v, _ => v = v0
  | .things L, v, w => KT.At w v L
theorem FactT.kept (f : FactT) (v : Value) (w w' : World) (h : f.holds v w) (hb : Below w.heap.size w w') : f.holds v w' := by
  cases f with
  | val v0 => exact h
  | things L => exact Kind.At.kept h hb

/-- A struct's load under a guard that holds, in a region that draws nothing. -/
theorem wpList_load_row_g {P : Program} {ops : Array Oper} {rest : List Oper} {o : Oper} {a : Act} {w : World} {Q : Exit → Act → World → Prop} (hw : Region.wanted o (yielded ops a.tmps) = true) (ty : TypeId) (x : Operand) (ho : o.op = .load ty x)
    (g : Nat) (hx : a.eval x = .pointer (some ⟨g, 0, none⟩)) (t : TypeId) (cs : Array Value) (fr : Nat × Nat) (d : TypeDesc) (hg : w.heap[g]? = some (.cells cs t fr))
    (hu : P.underlying ty = some d) (hd : (match d with | .struct _ | .array _ _ => true | _ => false) = true) (hi : (P.info? ty).map (·.size) = some cs.size)
    (h : wpList P ops Q rest (a.put o.dst (.agg cs)) w) : wpList P ops Q (o :: rest) a w :=
  wpList_step fun K hK => by
    rw [if_pos hw]
    exact wp_load_row ty x ho g hx t cs fr d hg hu hd hi (hK _ _ h)

abbrev keyK : ByteArray := ⟨#[107]⟩
abbrev keyB : ByteArray := ⟨#[98]⟩
theorem works_two : putL (putL [] keyK 1) keyB 2 = [(keyB, 2), (keyK, 1)] := by decide
theorem works_one : dropL [(keyB, 2), (keyK, 1)] keyK = [(keyB, 2)] := by decide

/-- A literal of things. -/
theorem at_lit (w : World) (L : List Th) (h0 : 0 < L.length) : KT.At (w.alloc (.cells (KT.flat L).toArray 55)) (.slice (some ⟨w.heap.size, 0, none⟩) L.length L.length) L :=
  Or.inr ⟨w.heap.size, 0, L.length, rfl, h0, Nat.le_refl _, fun j u hj => by
    rw [Nat.zero_add, Lib.cell_of_heap (heap_alloc_new w _), List.getElem?_toArray]
    exact hj⟩

set_option maxRecDepth 100000 in
set_option maxHeartbeats 6400000 in
theorem works_any (w : World) : Calls Try.prog 13 #[] w fun e w' => e = .returned (.bool true) ∧ Below w.heap.size w w' := by
  have HN := Lib.hid (fun w => code_NewS w)
  have HP1 := Lib.hid (fun S w (h : ShelfAt w.heap.size w S []) => show Calls Try.prog 9 #[.agg S, .string keyK, .int .u64 1] w fun e w' => ∃ S', e = .returned (.agg S') ∧ ShelfAt w'.heap.size w' S' (putL [] keyK 1) ∧ Below w.heap.size w w' from code_PutS S [] keyK 1 w h (by simp))
  have HP2 := Lib.hid (fun S w (h : ShelfAt w.heap.size w S (putL [] keyK 1)) => show Calls Try.prog 9 #[.agg S, .string keyB, .int .u64 2] w fun e w' => ∃ S', e = .returned (.agg S') ∧ ShelfAt w'.heap.size w' S' (putL (putL [] keyK 1) keyB 2) ∧ Below w.heap.size w w' from code_PutS S _ keyB 2 w h (by decide))
  have HD := Lib.hid (fun S w (h : ShelfAt w.heap.size w S [(keyB, 2), (keyK, 1)]) => code_DropS S _ keyK w h (by decide))
  simp only [works_two] at HP2
  simp only [works_one] at HD
  have HI2 := Lib.hid (fun S v w hS hM => ref_is S [(keyB, 2), (keyK, 1)] v w hS hM (by decide))
  have HI1 := Lib.hid (fun S v w hS hM => ref_is S [(keyB, 2)] v w hS hM (by decide))
  go_enter Try.func13, Try.ntmps13
  go_wp2_with fail
  refine (HN.out _).mono ?_
  rintro e w1 ⟨S0, rfl, hS0, hb1⟩
  go_wp2_with fail
  refine (HP1.out _ _ hS0).mono ?_
  rintro e w2 ⟨S1, rfl, hS1, hb2⟩
  go_wp2_with fail
  refine (HP2.out _ _ hS1).mono ?_
  rintro e w3 ⟨S2, rfl, hS2, hb3⟩
  have HB3 := Lib.hid ((hb1.trans (hb2.mono hb1.size)).trans (hb3.mono (hb1.trans (hb2.mono hb1.size)).size))
  have HR2 := Lib.hid hS2.row
  have HS2 := Lib.hid hS2
  clear hS0 hS1 hS2 hb1 hb2 hb3 HN HP1 HP2
  go_upto_region 2 with (refine wpList_store_row rfl 24 (.tmp 1) (.tmp 5) rfl w3.heap.size S2 rfl rfl 24 _ (heap_alloc_new _ _) HR2.out.info HR2.out.size.symm HR2.out.one ?_; rw [World.setRow_alloc_new])
  have hb4 : Below w3.heap.size w3 (w3.alloc (.cells S2 24)) := (Below.refl _ _).alloc (Nat.le_refl _) _
  have h1 := heap_alloc_new w3 (.cells S2 24)
  have hs4 : (w3.alloc (.cells S2 24)).heap.size = w3.heap.size + 1 := by simp
  generalize w3.alloc (.cells S2 24) = w4 at hb4 h1 hs4 ⊢
  obtain ⟨g1, hg1⟩ : ∃ g, w3.heap.size = g := ⟨_, rfl⟩
  have HS4 := Lib.hid (HS2.out.below hb4 hb4.size)
  have HB4 := Lib.hid (HB3.out.trans (hb4.mono HB3.out.size))
  rw [hg1] at h1 hs4
  rw [hg1]
  have H14 := Lib.hid h1
  have HL4 := Lib.hid (show g1 < w4.heap.size by omega)
  clear hb4 h1 hs4 hg1 HB3 HS2
  go_wp2_with (refine wpList_load_row rfl 24 (.tmp 1) rfl g1 rfl 24 S2 (0, 0) _ H14.out Try.underlying24 rfl HR2.out.info ?_)
  refine (HD.out _ _ HS4.out).mono ?_
  rintro e w5 ⟨S3, rfl, hS3, hb5⟩
  have HR3 := Lib.hid hS3.row
  have HS25 := Lib.hid (HS4.out.below hb5 hb5.size)
  have HS35 := Lib.hid hS3
  have H15 := Lib.hid ((hb5.block g1 HL4.out).trans H14.out)
  have HB5 := Lib.hid (HB4.out.trans (hb5.mono HB4.out.size))
  have HL5 := Lib.hid (Nat.lt_of_lt_of_le HL4.out hb5.size)
  clear hS3 hb5 H14 HL4 HB4 HS4 HD
  go_upto_region 3 with (refine wpList_store_row rfl 24 (.tmp 2) (.tmp 7) rfl w5.heap.size S3 rfl rfl 24 _ (heap_alloc_new _ _) HR3.out.info HR3.out.size.symm HR3.out.one ?_; rw [World.setRow_alloc_new])
  have hb6 : Below w5.heap.size w5 (w5.alloc (.cells S3 24)) := (Below.refl _ _).alloc (Nat.le_refl _) _
  have h2 := heap_alloc_new w5 (.cells S3 24)
  have hs6 : (w5.alloc (.cells S3 24)).heap.size = w5.heap.size + 1 := by simp
  generalize w5.alloc (.cells S3 24) = W at hb6 h2 hs6 ⊢
  obtain ⟨g2, hg2⟩ : ∃ g, w5.heap.size = g := ⟨_, rfl⟩
  have HS2W := Lib.hid (HS25.out.below hb6 hb6.size)
  have HS3W := Lib.hid (HS35.out.below hb6 hb6.size)
  have HBW := Lib.hid (HB5.out.trans (hb6.mono HB5.out.size))
  have H1W := Lib.hid ((hb6.block g1 HL5.out).trans H15.out)
  rw [hg2] at h2 hs6 HL5
  rw [hg2]
  have H2W := Lib.hid h2
  have HLT := Lib.hid (show g1 < W.heap.size ∧ g2 < W.heap.size by have := HL5.out; omega)
  clear hb6 h2 hs6 hg2 HB5 HS25 HS35 H15 HL5
  go_wp2_with (first
    | (refine wpList_load_row rfl 24 (.tmp 1) rfl g1 rfl 24 S2 (0, 0) _ H1W.out Try.underlying24 rfl HR2.out.info ?_))
  have hb8 := (Below.refl W.heap.size W).alloc (Nat.le_refl _) (.cells #[.string keyB, .int .u64 2, .string keyK, .int .u64 1] 55)
  refine (HI2.out S2 _ _ (HS2W.out.below hb8 hb8.size) (at_lit W [(keyB, 2), (keyK, 1)] (by decide))).mono ?_
  rintro e w9 ⟨rfl, hb9⟩
  have hb9' := hb8.trans (hb9.mono hb8.size)
  have H29 := Lib.hid ((hb9'.block g2 HLT.out.2).trans H2W.out)
  have HS39 := Lib.hid (HS3W.out.below hb9' hb9'.size)
  have HB9 := Lib.hid (HBW.out.trans (hb9'.mono HBW.out.size))
  clear hb8 hb9 hb9'
  go_wp2_with (first
    | (refine wpList_load_row_g rfl 24 (.tmp 2) rfl g2 rfl 24 S3 (0, 0) _ H29.out Try.underlying24 rfl HR3.out.info ?_))
  have hb10 := (Below.refl w9.heap.size w9).alloc (Nat.le_refl _) (.cells #[.string keyB, .int .u64 2] 55)
  refine (HI1.out S3 _ _ (HS39.out.below hb10 hb10.size) (at_lit w9 [(keyB, 2)] (by decide))).mono ?_
  rintro e w11 ⟨rfl, hb11⟩
  have hb11' := hb10.trans (hb11.mono hb10.size)
  have HB11 := Lib.hid (HB9.out.trans (hb11'.mono HB9.out.size))
  clear hb10 hb11 hb11'
  go_wp2_with fail
  go_ret
  exact ⟨rfl, HB11.out⟩

end Go.Proofs.Ytpepijoppgbbfaa.Shf
