/- reel: what the statements ask of a reel, whatever code it is. -/
import Derived.Test.YtepcfmigkhacgaaDoorG1
import Derived.Test.YtepcfmigkhacgaaDoorDkL
import Derived.Test.YtepcfmigkhacgaaDoorReB
namespace Go.Proofs.YtepcfmigkhacgaaDoor.Rl
open Go.RowKit Go.Proofs.YtepcfmigkhacgaaDoor.Gr Go.Proofs.YtepcfmigkhacgaaDoor.Frame Go.Proofs.YtepcfmigkhacgaaDoor.Dk

/-- None of the document's own types. -/
def Plain (t : TypeId) : Prop := t ≠ 57 ∧ t ≠ 104 ∧ t ≠ 59
/-- Blocks that are of other types. -/
def Typed (F : Nat → Prop) (w : World) : Prop := ∀ k, F k → ∀ cs t fz, w.heap[k]? = some (.cells cs t fz) → Plain t
/-- Reels: where they lie, and what their calls answer and leave. -/
structure Reels where
  /-- A reel in block q, on the disk in block g, all of it and of its disk in the blocks F. -/
  At : (Nat → Prop) → World → Nat → Nat → St → List Tx → Nat → Prop
  lt : ∀ {F w q g S all rs}, At F w q g S all rs → ∀ k, F k → k < w.heap.size
  typed : ∀ {F w q g S all rs}, At F w q g S all rs → Typed F w
  kept : ∀ {F w q g S all rs} {G : Nat → Prop} {w' : World}, At F w q g S all rs → Frm G w w' → (∀ k, F k → ¬ G k) → At F w' q g S all rs
  disk : ∀ {F w q g S all rs}, At F w q g S all rs → ∃ lv, DAt w g lv S ∧ (∀ k, foot g lv k → F k) ∧ ∀ w' lv' T, Dk.Left w g lv T w' lv' → T.now = S.now → ∃ F', At F' w' q g T all rs ∧ ∀ k, F' k → F k ∨ w.heap.size ≤ k
  opens : ∀ (w : World) (g : Nat) (lv : Value) (S : St) (n : Nat), DAt w g lv S → GoodN n S → n ≤ 1000000 → Tab w → (∀ k, foot g lv k → 0 < k) →
    Calls Tryd.prog 9 #[.pointer (some ⟨g, 0, none⟩)] w fun e w' => Frm (foot g lv) w w' ∧
      (((openS S).1 = 0 ∧ ∃ q F, e = .returned (.tuple #[.pointer (some ⟨q, 0, none⟩), .int .i64 0]) ∧ At F w' q g (openS S).2.1 (openS S).2.2 (openS S).2.2.length ∧ ∀ k, F k → foot g lv k ∨ w.heap.size ≤ k) ∨
        ((openS S).1 ≠ 0 ∧ e = .returned (.tuple #[.pointer none, .int .i64 (openS S).1]) ∧ ∃ lv', Dk.Left w g lv (openS S).2.1 w' lv'))
  appends : ∀ {F w q g S all rs} (n : Nat) (s : ByteArray), At F w q g S all rs → GoodN n S → n ≤ 1000000 → Tab w → (∀ k, F k → 0 < k) → s.size ≤ maxLen →
    Calls Tryd.prog 11 #[.pointer (some ⟨q, 0, none⟩), .string s] w fun e w' => e = .returned (.int .i64 (appendR S all s.data.toList).1) ∧ Frm F w w' ∧ ∃ F', At F' w' q g (appendR S all s.data.toList).2.1 (appendR S all s.data.toList).2.2 rs ∧ ∀ k, F' k → F k ∨ w.heap.size ≤ k
  syncs : ∀ {F w q g S all rs} (n : Nat), At F w q g S all rs → GoodN n S → n ≤ 1000000 →
    Calls Tryd.prog 15 #[.pointer (some ⟨q, 0, none⟩)] w fun e w' => e = .returned (.int .i64 (syncR all.length 64 0 S rs).1) ∧ Frm F w w' ∧ ∃ F', At F' w' q g (syncR all.length 64 0 S rs).2.1 all (syncR all.length 64 0 S rs).2.2 ∧ ∀ k, F' k → F k ∨ w.heap.size ≤ k
  gets : ∀ {F w q g S all rs} (i : Int), At F w q g S all rs → Tab w → Calls Tryd.prog 14 #[.pointer (some ⟨q, 0, none⟩), .int .i64 i] w fun e w' => e = .returned (.tuple #[.string (bs (getR S all i).1), .int .i64 (getR S all i).2]) ∧ Below w.heap.size w w'
  lens : ∀ {F w q g S all rs}, At F w q g S all rs → Calls Tryd.prog 12 #[.pointer (some ⟨q, 0, none⟩)] w fun e w' => e = .returned (.int .i64 (all.length : Nat)) ∧ w' = w
  sures : ∀ {F w q g S all rs}, At F w q g S all rs → Calls Tryd.prog 13 #[.pointer (some ⟨q, 0, none⟩)] w fun e w' => e = .returned (.int .i64 (rs : Nat)) ∧ w' = w
  openNil : ∀ w : World, Calls Tryd.prog 9 #[.pointer none] w fun e w' => e = .returned (.tuple #[.pointer none, .int .i64 1]) ∧ Below w.heap.size w w'
  appendNil : ∀ (s : ByteArray) (w : World), Calls Tryd.prog 11 #[.pointer none, .string s] w fun e w' => e = .returned (.int .i64 1) ∧ Below w.heap.size w w'
  syncNil : ∀ w : World, Calls Tryd.prog 15 #[.pointer none] w fun e w' => e = .returned (.int .i64 1) ∧ Below w.heap.size w w'
  getNil : ∀ (i : Int) (w : World), Calls Tryd.prog 14 #[.pointer none, .int .i64 i] w fun e w' => e = .returned (.tuple #[.string ⟨#[]⟩, .int .i64 1]) ∧ Below w.heap.size w w'
  lenNil : ∀ w : World, Calls Tryd.prog 12 #[.pointer none] w fun e w' => e = .returned (.int .i64 0) ∧ Below w.heap.size w w'
  sureNil : ∀ w : World, Calls Tryd.prog 13 #[.pointer none] w fun e w' => e = .returned (.int .i64 0) ∧ Below w.heap.size w w'

theorem good_appendR {n : Nat} {S : St} (h : GoodN n S) (all : List Tx) (s : Tx) : GoodN (n + 1) (Rl.appendR S all s).2.1 := by
  have h1 := h.append ((all.length / 8 : Nat) : Int) (bt (frameL s))
  unfold Rl.appendR
  split
  · exact h.mono (by omega)
  split
  · exact h.mono (by omega)
  split <;> exact h1
theorem good_syncR {m : Nat} : ∀ (k f : Nat) (n : Nat) (S : St) (rs : Nat), GoodN n S → GoodN (n + k) (Rl.syncR m k f S rs).2.1
  | 0, _, _, _, _, h => h
  | k + 1, f, n, S, rs, h => by
    rw [Rl.syncR]
    split
    · split
      · have := good_syncR (m := m) k (f + 1) (n + 1) (syncerS S f).2 (min (8 * f + 8) m) (h.sync f)
        rwa [show n + (k + 1) = n + 1 + k by omega]
      · exact (h.sync f).mono (by omega)
    · exact (good_syncR (m := m) k (f + 1) n S rs h).mono (by omega)
theorem good_cutAll {last size : Nat} : ∀ (L : List Nat) (n : Nat) (S : St), GoodN n S → GoodN (n + L.length) (Rl.cutAll last size L S).2
  | [], _, _, h => h
  | f :: L, n, S, h => by
    rw [Rl.cutAll]
    split
    · exact (h.cut f _).mono (by simp)
    · have := good_cutAll (last := last) (size := size) L (n + 1) _ (h.cut f ((left last size f : Nat) : Int))
      rwa [List.length_cons, show n + (L.length + 1) = n + 1 + L.length by omega]
theorem good_syncAll : ∀ (L : List Nat) (n : Nat) (S : St), GoodN n S → GoodN (n + L.length) (Rl.syncAll L S).2
  | [], _, _, h => h
  | f :: L, n, S, h => by
    rw [Rl.syncAll]
    split
    · exact (h.sync f).mono (by simp)
    · have := good_syncAll L (n + 1) _ (h.sync f)
      rwa [List.length_cons, show n + (L.length + 1) = n + 1 + L.length by omega]
theorem needL_len (N : List ByteArray) (last size : Nat) : (needL N last size).length ≤ 64 := by
  have := List.length_filter_le (fun f => decide (last ≤ f ∧ left last size f < (fileN N f).length)) (List.range 64)
  rw [List.length_range] at this
  exact this
theorem good_openN {last size n : Nat} {S : St} (h : GoodN n S) (L : List Nat) (hL : L.length ≤ 64) : GoodN (n + 128) (Rl.openN S last size L).2 := by
  unfold Rl.openN
  have h1 := good_cutAll (last := last) (size := size) L n S h
  split
  · exact h1.mono (by omega)
  · exact (good_syncAll L _ _ h1).mono (by omega)
theorem good_openS {n : Nat} {S : St} (h : GoodN n S) : GoodN (n + 128) (Rl.openS S).2.1 := by
  unfold Rl.openS
  split
  · split
    · exact good_openN h _ (needL_len _ _ _)
    · exact good_openN h _ (needL_len _ _ _)
  · exact h.mono (by omega)
theorem Frm.tab {F : Nat → Prop} {w w' : World} (h : Frm F w w') (h0 : ∀ k, F k → 0 < k) (ht : Tab w) : Tab w' := by
  have hlt : 0 < w.heap.size := by
    have := ht 0 (by omega)
    exact World.block_lt_of_cell? w _ this
  intro i hi
  have h1 : w'.heap[0]? = w.heap[0]? := h.block 0 hlt (fun hf => absurd (h0 0 hf) (by omega))
  rw [World.cell?_of_block (a := ⟨0, i, none⟩) h1]
  exact ht i hi
end Go.Proofs.YtepcfmigkhacgaaDoor.Rl
