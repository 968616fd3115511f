/- disk: what a disk is in plain words; how it lies in memory. -/
import Derived.Test.YtoacnhiophgfcaaProg
import Derived.Test.YtoacnhiophgfcaaGr
import Derived.Laws.CopyOwn
import Derived.Lib.SmallJoins
import Derived.Laws.Tables
import Derived.Laws.Rows
namespace Go.Proofs.Ytoacnhiophgfcaa.Dk
open Go.RowKit Go.Proofs.Ytoacnhiophgfcaa.Gr

/-- A change: bytes put at a place, or a cut to it. -/
structure Ch where
  file : Nat
  at_ : Nat
  cut : Bool
  s : ByteArray
/-- A disk. -/
structure St where
  now : List ByteArray
  sure : List ByteArray
  loose : List Ch
  on : Bool
  lasts : Int
  ops : Nat

def opS (S : St) : Int × St :=
  if S.lasts = 0 then (100, { S with ops := S.ops + 1, on := false })
  else if 0 < S.lasts then (0, { S with ops := S.ops + 1, lasts := S.lasts - 1 })
  else (0, { S with ops := S.ops + 1 })

/-- How many bytes a file has. -/
def sizeS (S : St) (f : Nat) : Nat := (S.now.getD f ⟨#[]⟩).size

def St.vals (S : St) (lv : Value) : List Value := S.now.map .string ++ (S.sure.map .string ++ [lv, .bool S.on, .int .i64 S.lasts, .int .i64 S.ops])

/-- A change among others. -/
def KC : Kind Try.prog Ch where
  T := 61
  size := 4
  bytes := 40
  zero := .agg #[.int .i64 0, .int .i64 0, .bool false, .string ⟨#[]⟩]
  enc c := [.int .i64 c.file, .int .i64 c.at_, .bool c.cut, .string c.s]
  info := by kernel_rfl
  zsize := rfl
  pos := by decide
  len _ := rfl
  one x u hu := by simp at hu; rcases hu with rfl | rfl | rfl | rfl <;> rfl

/-- A disk in block g, whose row of loose changes is lv. -/
structure DAt (w : World) (g : Nat) (lv : Value) (S : St) : Prop where
  heap : w.heap[g]? = some (.cells (S.vals lv).toArray 58 (0, 0))
  now : S.now.length = 64
  sure : S.sure.length = 64
  own : KC.Own 0 lv S.loose w

theorem disk_info : (Try.prog.info? 58).map (·.size) = some 132 := by kernel_rfl
theorem vals_len {S : St} {lv : Value} (h1 : S.now.length = 64) (h2 : S.sure.length = 64) : (S.vals lv).length = 132 := by
  simp [St.vals, h1, h2]
theorem cell_row {w : World} {g : Nat} {L : List Value} {t : TypeId} {fr : Nat × Nat} (h : w.heap[g]? = some (.cells L.toArray t fr)) {i : Nat} {v : Value} (hv : L[i]? = some v) : w.cell? ⟨g, i, none⟩ = some v := by
  rw [Lib.cell_of_heap h, List.getElem?_toArray]
  exact hv
theorem vals_now (S : St) (lv : Value) {f : Nat} {s : ByteArray} (h : S.now[f]? = some s) : (S.vals lv)[f]? = some (.string s) := by
  unfold St.vals
  rw [List.getElem?_append_left (by rw [List.length_map]; exact (List.getElem?_eq_some_iff.1 h).1), List.getElem?_map, h]
  rfl
theorem vals_sure (S : St) (lv : Value) (h1 : S.now.length = 64) {f : Nat} {s : ByteArray} (h : S.sure[f]? = some s) : (S.vals lv)[64 + f]? = some (.string s) := by
  unfold St.vals
  rw [List.getElem?_append_right (by rw [List.length_map]; omega), List.length_map, h1, Nat.add_sub_cancel_left, List.getElem?_append_left (by rw [List.length_map]; exact (List.getElem?_eq_some_iff.1 h).1), List.getElem?_map, h]
  rfl
theorem vals_rest (S : St) (lv : Value) (h1 : S.now.length = 64) (h2 : S.sure.length = 64) (j : Nat) : (S.vals lv)[128 + j]? = [lv, .bool S.on, .int .i64 S.lasts, .int .i64 S.ops][j]? := by
  unfold St.vals
  rw [List.getElem?_append_right (by rw [List.length_map]; omega), List.length_map, h1, List.getElem?_append_right (by rw [List.length_map]; omega), List.length_map, h2, show 128 + j - 64 - 64 = j by omega]

section
variable {w : World} {g : Nat} {lv : Value} {S : St}
theorem DAt.cNow (h : DAt w g lv S) {f : Nat} {s : ByteArray} (hf : S.now[f]? = some s) : w.cell? ⟨g, f, none⟩ = some (.string s) := cell_row h.heap (vals_now S lv hf)
theorem DAt.cSure (h : DAt w g lv S) {f : Nat} {s : ByteArray} (hf : S.sure[f]? = some s) : w.cell? ⟨g, 64 + f, none⟩ = some (.string s) := cell_row h.heap (vals_sure S lv h.now hf)
theorem DAt.cLoose (h : DAt w g lv S) : w.cell? ⟨g, 128, none⟩ = some lv := cell_row h.heap (vals_rest S lv h.now h.sure 0)
theorem DAt.cOn (h : DAt w g lv S) : w.cell? ⟨g, 129, none⟩ = some (.bool S.on) := cell_row h.heap (vals_rest S lv h.now h.sure 1)
theorem DAt.cLasts (h : DAt w g lv S) : w.cell? ⟨g, 130, none⟩ = some (.int .i64 S.lasts) := cell_row h.heap (vals_rest S lv h.now h.sure 2)
theorem DAt.cOps (h : DAt w g lv S) : w.cell? ⟨g, 131, none⟩ = some (.int .i64 S.ops) := cell_row h.heap (vals_rest S lv h.now h.sure 3)
theorem DAt.lt (h : DAt w g lv S) : g < w.heap.size := (Array.getElem?_eq_some_iff.1 h.heap).1
theorem DAt.fz (h : DAt w g lv S) (i : Nat) : w.frozen? ⟨g, i, none⟩ = false := by simp [World.frozen?, h.heap]
theorem DAt.file (h : DAt w g lv S) {f : Nat} (hf : f < 64) : S.now[f]? = some (S.now.getD f ⟨#[]⟩) := by
  rw [List.getD_eq_getElem?_getD, List.getElem?_eq_getElem (by rw [h.now]; exact hf)]
  rfl
theorem DAt.fileS (h : DAt w g lv S) {f : Nat} (hf : f < 64) : S.sure[f]? = some (S.sure.getD f ⟨#[]⟩) := by
  rw [List.getD_eq_getElem?_getD, List.getElem?_eq_getElem (by rw [h.sure]; exact hf)]
  rfl
end

theorem own_type {α : Type} {P : Program} {K : Kind P α} {B : Nat} {w : World} {v : Value} {L : List α} (h : K.Own B v L w) (k : Nat) (hk : v.ownBlock = some k) : ∃ cs, w.heap[k]? = some (.cells cs K.T (0, 0)) := by
  rcases h.2 with ⟨rfl, _⟩ | ⟨g, cap, cur, rfl, _, hg, _, _, _, _⟩
  · simp [Value.ownBlock] at hk
  · simp [Value.ownBlock] at hk
    subst hk
    exact ⟨cur, hg⟩
theorem DAt.ne {w : World} {g : Nat} {lv : Value} {S : St} (h : DAt w g lv S) : lv.ownBlock ≠ some g := fun e => by
  obtain ⟨cs, hc⟩ := own_type h.own g e
  rw [h.heap] at hc
  simp at hc
  exact absurd hc.2 (by decide)

/-- What is there of old, but for some blocks, is as it was. -/
structure Frm (F : Nat → Prop) (w w' : World) : Prop where
  os : w'.os = w.os
  tape : w'.tape = w.tape
  output : w'.output = w.output
  size : w.heap.size ≤ w'.heap.size
  block : ∀ k, k < w.heap.size → ¬ F k → w'.heap[k]? = w.heap[k]?
theorem Frm.refl (F : Nat → Prop) (w : World) : Frm F w w := ⟨rfl, rfl, rfl, Nat.le_refl _, fun _ _ _ => rfl⟩
theorem Frm.trans {F G : Nat → Prop} {a b c : World} (h : Frm F a b) (k : Frm G b c) (hG : ∀ i, G i → F i ∨ a.heap.size ≤ i) : Frm F a c :=
  ⟨k.os.trans h.os, k.tape.trans h.tape, k.output.trans h.output, Nat.le_trans h.size k.size, fun i hi hn => (k.block i (Nat.lt_of_lt_of_le hi h.size) (fun hg => by
    rcases hG i hg with hf | hf
    · exact hn hf
    · omega)).trans (h.block i hi hn)⟩
theorem Frm.mono {F G : Nat → Prop} {a b : World} (h : Frm F a b) (hG : ∀ i, F i → G i) : Frm G a b :=
  ⟨h.os, h.tape, h.output, h.size, fun k hk hn => h.block k hk (fun hf => hn (hG k hf))⟩
theorem Frm.of_below {F : Nat → Prop} {a b : World} (h : Below a.heap.size a b) : Frm F a b := ⟨h.os, h.tape, h.output, h.size, fun k hk _ => h.block k hk⟩
theorem Frm.below {F : Nat → Prop} {a b : World} {B : Nat} (h : Frm F a b) (hB : B ≤ a.heap.size) (hF : ∀ k, F k → B ≤ k) : Below B a b :=
  ⟨h.os, h.tape, h.output, h.size, fun k hk => h.block k (by omega) (fun hf => by have := hF k hf; omega)⟩
theorem Frm.setRow {F : Nat → Prop} {a b : World} (h : Frm F a b) {g : Nat} (hg : F g ∨ a.heap.size ≤ g) (cs : Array Value) : Frm F a (b.setRow g cs) :=
  ⟨h.os, h.tape, h.output, by rw [setRow_size]; exact h.size, fun k hk hn => by
    rw [setRow_other _ _ _ _ (fun e => by subst e; rcases hg with hg | hg; exact hn hg; omega)]
    exact h.block k hk hn⟩
theorem Frm.grown {F : Nat → Prop} {a b c : World} {row : Option Nat} (h : Frm F a b) (hg : b.grownBy c row) (hr : ∀ k, row = some k → F k ∨ a.heap.size ≤ k) : Frm F a c :=
  ⟨hg.os.trans h.os, hg.tape.trans h.tape, hg.output.trans h.output, Nat.le_trans h.size hg.size, fun k hk hn => by
    rw [hg.block k (Nat.lt_of_lt_of_le hk h.size) (fun e => by rcases hr k e.symm with h | h; exact hn h; omega)]
    exact h.block k hk hn⟩
theorem Frm.drew {F : Nat → Prop} {a w : World} (h : Frm F a w) : Frm F a w.drew := ⟨h.os, h.tape, h.output, h.size, h.block⟩

/-- The blocks of a disk. -/
def foot (g : Nat) (lv : Value) (k : Nat) : Prop := k = g ∨ lv.ownBlock = some k
/-- What a call leaves of a disk, and of all else. -/
structure Left (w : World) (g : Nat) (lv : Value) (S : St) (w' : World) (lv' : Value) : Prop where
  at_ : DAt w' g lv' S
  frm : Frm (foot g lv) w w'
  foot : ∀ k, lv'.ownBlock = some k → lv.ownBlock = some k ∨ w.heap.size ≤ k
theorem Left.refl {w : World} {g : Nat} {lv : Value} {S : St} (h : DAt w g lv S) : Left w g lv S w lv := ⟨h, Frm.refl _ _, fun _ h => Or.inl h⟩
theorem Left.trans {w w1 w2 : World} {g : Nat} {lv lv1 lv2 : Value} {S T : St} (h : Left w g lv S w1 lv1) (k : Left w1 g lv1 T w2 lv2) : Left w g lv T w2 lv2 :=
  ⟨k.at_, h.frm.trans k.frm (fun i hi => by
    rcases hi with hi | hi
    · exact Or.inl (Or.inl hi)
    · rcases h.foot i hi with h1 | h1
      · exact Or.inl (Or.inr h1)
      · exact Or.inr h1), fun i hi => by
    rcases k.foot i hi with h1 | h1
    · exact h.foot i h1
    · exact Or.inr (Nat.le_trans h.frm.size h1)⟩
/-- A disk stays what it is where nothing of its own is touched. -/
theorem DAt.kept {F : Nat → Prop} {w w' : World} {g : Nat} {lv : Value} {S : St} (h : DAt w g lv S) (hf : Frm F w w') (hg : ¬ F g) (hl : ∀ k, lv.ownBlock = some k → ¬ F k) : DAt w' g lv S :=
  ⟨(hf.block g h.lt hg).trans h.heap, h.now, h.sure, by
    have ho := h.own
    rcases ho.2 with ⟨rfl, h0⟩ | ⟨b, cap, cur, rfl, hb, hc, h1, h2, h3, h4⟩
    · exact ⟨ho.1, Or.inl ⟨rfl, h0⟩⟩
    · exact ⟨ho.1, Or.inr ⟨b, cap, cur, rfl, hb, (hf.block b (Array.getElem?_eq_some_iff.1 hc).1 (hl b rfl)).trans hc, h1, h2, h3, h4⟩⟩⟩
end Go.Proofs.Ytoacnhiophgfcaa.Dk
