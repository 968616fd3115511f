/- disk: the document's New. -/
import Derived.Test.YtoacnhiophgfcaaDkY
import Derived.Deep.Cut
namespace Go.Proofs.Ytoacnhiophgfcaa.Dk
open Go.RowKit Go.Proofs.Ytoacnhiophgfcaa.Gr
theorem ks_info : (Try.prog.info? 9).map (fun i => (i.zero, i.size, i.bytes)) = some (some (.string ⟨#[]⟩), 1, 16) := by kernel_rfl
def blank : List Value := List.replicate 64 (.string ⟨#[]⟩)
theorem run_make_texts (w : World) : (Instr.makeSlice 44 (.int .i64 64) (.int .i64 64)).run Try.prog w = .ok (.slice (some ⟨w.heap.size, 0, none⟩) 64 64) (w.alloc (.cells blank.toArray 9)) := by
  obtain ⟨i0, hi0, hz0, hz1, hz2⟩ := info_parts ks_info
  have h := run_make (P := Try.prog) w 44 9 i0 _ Try.underlying44 hi0 hz0 .i64 .i64 64 64 (by omega) (Int.le_refl _) (by rw [hz2]; omega) (by omega)
  rw [hz1] at h
  have e : madeCells (Value.string ⟨#[]⟩).cells (Int.toNat 64 * 1) = blank.toArray := by kernel_rfl
  rw [e] at h
  exact h
theorem blank_row {w : World} {g : Nat} (h : w.heap[g]? = some (.cells blank.toArray 9 (0, 0))) : SRow w g 64 newS.now := ⟨⟨[], h.trans (by rfl)⟩, rfl, Nat.le_refl _⟩
theorem new_world (w : World) (B : Nat) (hB : B ≤ w.heap.size) (na sa : Nat) (h1 : na = w.heap.size ∨ na = w.heap.size + 1) (h2 : sa = w.heap.size ∨ sa = w.heap.size + 1) (h3 : na ≠ sa) {W : World}
    (hW : W = (((w.alloc (.cells blank.toArray 9)).alloc (.cells blank.toArray 9)).alloc (.cells #[.slice (some ⟨na, 0, none⟩) 64 64, .slice (some ⟨sa, 0, none⟩) 64 64, .slice none 0 0, .int .i64 0, .int .i64 (-1), .bool false] 47)).drew) :
    RefAt B W (w.heap.size + 1 + 1) newS ∧ Below w.heap.size w W := by
  subst hW
  have b1 : Below w.heap.size w (w.alloc (.cells blank.toArray 9)) := (Below.refl _ _).alloc (Nat.le_refl _) _
  have b2 : Below w.heap.size w ((w.alloc (.cells blank.toArray 9)).alloc (.cells blank.toArray 9)) := b1.trans (((Below.refl _ _).alloc (Nat.le_refl _) _).mono b1.size)
  have hb := b2.trans (((Below.refl _ _).alloc (Nat.le_refl _) (.cells #[.slice (some ⟨na, 0, none⟩) 64 64, .slice (some ⟨sa, 0, none⟩) 64 64, .slice none 0 0, .int .i64 0, .int .i64 (-1), .bool false] 47)).mono b2.size)
  have hrow : ∀ g, g = w.heap.size ∨ g = w.heap.size + 1 → ((((w.alloc (.cells blank.toArray 9)).alloc (.cells blank.toArray 9)).alloc (.cells #[.slice (some ⟨na, 0, none⟩) 64 64, .slice (some ⟨sa, 0, none⟩) 64 64, .slice none 0 0, .int .i64 0, .int .i64 (-1), .bool false] 47)).drew).heap[g]? = some (.cells blank.toArray 9 (0, 0)) := fun g hg => by
    show (((w.alloc (.cells blank.toArray 9)).alloc (.cells blank.toArray 9)).alloc _).heap[g]? = _
    rw [heap_alloc_old _ _ (by simp; omega)]
    rcases hg with rfl | rfl
    · rw [heap_alloc_old _ _ (by simp)]
      exact heap_alloc_new w _
    · have := heap_alloc_new (w.alloc (.cells blank.toArray 9)) (.cells blank.toArray 9)
      simpa using this
  refine ⟨⟨na, 64, sa, 64, .slice none 0 0, -1, ⟨?_, blank_row (hrow na h1), blank_row (hrow sa h2), Kind.Own.nil _ _, h3, by omega, by omega, by omega⟩, fun _ => Or.inl ⟨rfl, by decide, by decide⟩⟩, hb.drew⟩
  have := heap_alloc_new ((w.alloc (.cells blank.toArray 9)).alloc (.cells blank.toArray 9)) (.cells #[.slice (some ⟨na, 0, none⟩) 64 64, .slice (some ⟨sa, 0, none⟩) 64 64, .slice none 0 0, .int .i64 0, .int .i64 (-1), .bool false] 47)
  rw [show ((w.alloc (.cells blank.toArray 9)).alloc (.cells blank.toArray 9)).heap.size = w.heap.size + 1 + 1 by simp] at this
  exact this
set_option maxRecDepth 100000 in
theorem ref_New (w : World) (B : Nat) (hB : B ≤ w.heap.size) : Calls Try.prog 23 #[] w fun e w' => ∃ r, e = .returned (.pointer (some ⟨r, 0, none⟩)) ∧ RefAt B w' r newS ∧ Below w.heap.size w w' := by
  have hmk := run_make_texts
  have HB := Lib.hid hB
  clear hB
  go_enter Try.func23, Try.ntmps23
  go_upto_region 1 with (fail)
  go_region
  all_goals
    go_wp2_with fail
    go_ret
    first
      | exact ⟨_, rfl, new_world w B HB.out _ _ (Or.inl rfl) (Or.inr rfl) (by omega) rfl⟩
      | exact ⟨_, rfl, new_world w B HB.out _ _ (Or.inr rfl) (Or.inl rfl) (by omega) rfl⟩
end Go.Proofs.Ytoacnhiophgfcaa.Dk
