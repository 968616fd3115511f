/- deed: deeds in memory; the document's number, count, hash, amount, Spot. -/
import Derived.Test.YtdgaoebjbhomdaaDoorGr
import Derived.Test.YtdgaoebjbhomdaaDoorDeN
import Derived.Test.YtdgaoebjbhomdaaDoorM3
import Derived.Test.YtdgaoebjbhomdaaDoorQFt
import Derived.Deep.Upon
namespace Go.Proofs.YtdgaoebjbhomdaaDoor.Tree
open Go.RowKit Go.Proofs.YtdgaoebjbhomdaaDoor.Sha
structure Row32 (C : Array Value) : Prop where
  size : C.size = 32
  one : C.all (·.oneCell') = true
  info : (Tryd.prog.info? 29).map (·.size) = some C.size
theorem row32 (h : List UInt8) (hl : h.length = 32) : Row32 (valsB h).toArray :=
  ⟨by rw [valsB_size, hl], by simp [valsB, Value.oneCell'], by rw [valsB_size, hl]; exact info_hash⟩
theorem zero32 : #[Value.int .u8 0, Value.int .u8 0, Value.int .u8 0, Value.int .u8 0, Value.int .u8 0, Value.int .u8 0, Value.int .u8 0, Value.int .u8 0, Value.int .u8 0, Value.int .u8 0, Value.int .u8 0, Value.int .u8 0, Value.int .u8 0, Value.int .u8 0, Value.int .u8 0, Value.int .u8 0, Value.int .u8 0, Value.int .u8 0, Value.int .u8 0, Value.int .u8 0, Value.int .u8 0, Value.int .u8 0, Value.int .u8 0, Value.int .u8 0, Value.int .u8 0, Value.int .u8 0, Value.int .u8 0, Value.int .u8 0, Value.int .u8 0, Value.int .u8 0, Value.int .u8 0, Value.int .u8 0] = (List.replicate 32 (Value.int .u8 0)).toArray := rfl
theorem zero32_size : (List.replicate 32 (Value.int .u8 0)).toArray.size = 32 := rfl
end Go.Proofs.YtdgaoebjbhomdaaDoor.Tree
namespace Go.Proofs.YtdgaoebjbhomdaaDoor.Deed
open Go.RowKit Go.Proofs.YtdgaoebjbhomdaaDoor.Sha Go.Proofs.YtdgaoebjbhomdaaDoor.Tree Go.Proofs.YtdgaoebjbhomdaaDoor.Gr Go.Proofs.YtdgaoebjbhomdaaDoor.Digit

theorem valsB_one (l : List UInt8) : ∀ u ∈ valsB l, u.oneCell' = true := fun u hu => by
  unfold valsB at hu
  obtain ⟨b, _, rfl⟩ := List.mem_map.1 hu
  rfl
theorem valsB_32 (h : H32) : (valsB h.1).length = 32 := by simp [valsB, h.2]
abbrev nV (n : UInt64) : Value := .int .u64 (n.toNat : Int)
abbrev z32 : List Value := List.replicate 32 (Value.int .u8 0)
def KIn : Kind Tryd.prog InD where
  T := 43
  size := 33
  bytes := 40
  zero := .agg (z32 ++ [Value.int .u64 0]).toArray
  enc x := valsB x.tx.1 ++ [nV x.ix]
  info := by kernel_rfl
  zsize := rfl
  pos := by decide
  len x := by rw [List.length_append, valsB_32]; rfl
  one x u hu := by
    rcases List.mem_append.1 hu with h | h
    · exact valsB_one _ u h
    · simp at h; subst h; rfl
def KOut : Kind Tryd.prog OutD where
  T := 52
  size := 65
  bytes := 72
  zero := .agg (z32 ++ (z32 ++ [Value.int .u64 0])).toArray
  enc x := valsB x.to_.1 ++ (valsB x.st.1 ++ [nV x.am])
  info := by kernel_rfl
  zsize := rfl
  pos := by decide
  len x := by simp only [List.length_append, valsB_32]; rfl
  one x u hu := by
    simp only [List.mem_append] at hu
    rcases hu with h | h | h
    · exact valsB_one _ u h
    · exact valsB_one _ u h
    · simp at h; subst h; rfl
def cellsD (t : DeedD) (i o c p s : Value) : Array Value := #[i, o, nV t.fee, nV t.from_, nV t.until_, c, p, s]
theorem range_left {w : World} {b o : Nat} {xs ys : List Value} (h : w.rangeAt b o (xs ++ ys)) : w.rangeAt b o xs := fun j v hv => h j v (by
  rw [List.getElem?_append_left (List.getElem?_eq_some_iff.1 hv).1]
  exact hv)
theorem range_right {w : World} {b o : Nat} {xs ys : List Value} (h : w.rangeAt b o (xs ++ ys)) (n : Nat) (hn : xs.length = n) : w.rangeAt b (o + n) ys := fun j v hv => by
  have := h (n + j) v (by rw [← hn, List.getElem?_append_right (by omega), Nat.add_sub_cancel_left]; exact hv)
  rw [← Nat.add_assoc] at this
  exact this
theorem range_cell {w : World} {b o : Nat} {x : Value} {xs : List Value} (h : w.rangeAt b o (x :: xs)) : w.cell? ⟨b, o, none⟩ = some x := h 0 x rfl
theorem range_tail {w : World} {b o : Nat} {x : Value} {xs : List Value} (h : w.rangeAt b o (x :: xs)) : w.rangeAt b (o + 1) xs := range_right (xs := [x]) h 1 rfl
/-- A box's cells. -/
theorem range_box (w : World) (cs : List Value) (t : TypeId) : (w.alloc (.cells cs.toArray t)).rangeAt w.heap.size 0 cs := fun j v hv => by
  rw [Nat.zero_add, Lib.cell_of_heap (heap_alloc_new w _), List.getElem?_toArray]
  exact hv
/-- A thing of a row. -/
theorem range_at {P : Program} {α : Type} {K : Kind P α} {w : World} {g o : Nat} {L : List α} (hr : w.rangeAt g o (K.flat L)) {i : Nat} {x : α} (hi : L[i]? = some x) : w.rangeAt g (o + i * K.size) (K.enc x) := fun j v hv => by
  have := range_thing hr hi hv
  rw [Nat.add_assoc]
  exact this
theorem In_parts {w : World} {b o : Nat} {x : InD} (h : w.rangeAt b o (KIn.enc x)) : w.rangeAt b o (valsB x.tx.1) ∧ w.cell? ⟨b, o + 32, none⟩ = some (nV x.ix) :=
  ⟨range_left h, range_cell (range_right h 32 (valsB_32 _))⟩
theorem Out_parts {w : World} {b o : Nat} {x : OutD} (h : w.rangeAt b o (KOut.enc x)) : w.rangeAt b o (valsB x.to_.1) ∧ w.rangeAt b (o + 32) (valsB x.st.1) ∧ w.cell? ⟨b, o + 64, none⟩ = some (nV x.am) :=
  ⟨range_left h, range_left (range_right h 32 (valsB_32 _)), range_cell (range_right (range_right h 32 (valsB_32 _)) 32 (valsB_32 _))⟩
structure CertAt (w : World) (g o : Nat) (x : CertD) : Prop where
  kind : w.cell? ⟨g, o, none⟩ = some (.int .u8 (x.kind.toNat : Int))
  key : w.rangeAt g (o + 1) (valsB x.key.1)
  pool : w.rangeAt g (o + 33) (valsB x.pool.1)
  a : w.cell? ⟨g, o + 65, none⟩ = some (nV x.a)
  b : w.cell? ⟨g, o + 66, none⟩ = some (nV x.b)
  c : w.cell? ⟨g, o + 67, none⟩ = some (nV x.c)
theorem info_h (h : H32) : (Tryd.prog.info? 29).map (·.size) = some (valsB h.1).length := by rw [valsB_32]; exact info_hash

/-! ### Leaf functions -/
abbrev bs (l : List UInt8) : ByteArray := ⟨l.toArray⟩
end Go.Proofs.YtdgaoebjbhomdaaDoor.Deed

namespace Go.Proofs.YtdgaoebjbhomdaaDoor.Deed
open Go.RowKit Go.Proofs.YtdgaoebjbhomdaaDoor.Sha Go.Proofs.YtdgaoebjbhomdaaDoor.Tree Go.Proofs.YtdgaoebjbhomdaaDoor.Gr Go.Proofs.YtdgaoebjbhomdaaDoor.Digit

/-- An array in the middle of a row, read in a region that draws and whose callees make memory. -/
theorem quiet_load_mid {P : Program} {op : Oper} {a : Act} {W : World} {K : Act → Prop} (ty : TypeId) (x : Operand) (ho : op.op = .load ty x) (b o : Nat) (hx : a.eval x = .pointer (some ⟨b, o, none⟩)) (cs : List Value) (d : TypeDesc)
    (hW : W.rangeAt b o cs) (hu : P.underlying ty = some d) (hd : d.isRow = true) (hi : (P.info? ty).map (·.size) = some cs.length)
    (h : K (a.put op.dst (.agg cs.toArray))) : op.quiet P a (fun w' => ∃ p : Regrown, w' = Sort.grow (redrawn W p.d) p.os) K := by
  refine ⟨.agg cs.toArray, ?_, h⟩
  rintro w' ⟨p, rfl⟩
  unfold Oper.quietAt execOp
  have hr : (Sort.grow (redrawn W p.d) p.os).rangeAt b o cs := fun j v hv => cell_regrown (hW j v hv) p.d p.os
  simp only [ho, hx, Instr.loadAt, Instr.sureAddr, Sem.run_bind, Sem.run_pure, Result.andThen_ok, run_loadVar_mid _ b o ty cs d hr hu hd hi]
  exact ⟨rfl, rfl⟩

theorem bs_size (l : List UInt8) : (bs l).size = l.length := by show l.toArray.size = _; simp
abbrev hV (h : H32) : Value := .agg (valsB h.1).toArray
theorem ref_bytesH (h : H32) (w : World) : Calls Tryd.prog 33 #[hV h] w fun e w' => e = .returned (.string (bs h.1)) ∧ Below w.heap.size w w' := bytes_any h.1 h.2 w
theorem ref_eightB (n : UInt64) (w : World) : Calls Tryd.prog 34 #[nV n] w fun e w' => e = .returned (.string (bs (eightL n.toNat))) ∧ Below w.heap.size w w' := refEight_any n.toNat w (by have := n.toNat_lt; omega)
end Go.Proofs.YtdgaoebjbhomdaaDoor.Deed

namespace Go.Proofs.YtdgaoebjbhomdaaDoor.Deed
open Go.RowKit Go.Proofs.YtdgaoebjbhomdaaDoor.Sha Go.Proofs.YtdgaoebjbhomdaaDoor.Tree Go.Proofs.YtdgaoebjbhomdaaDoor.Gr Go.Proofs.YtdgaoebjbhomdaaDoor.Digit

/-- The cells of a deed's box. -/
structure CellsD (w : World) (g : Nat) (t : DeedD) (i o c p s : Value) : Prop where
  c0 : w.cell? ⟨g, 0, none⟩ = some i
  c1 : w.cell? ⟨g, 1, none⟩ = some o
  c2 : w.cell? ⟨g, 2, none⟩ = some (nV t.fee)
  c3 : w.cell? ⟨g, 3, none⟩ = some (nV t.from_)
  c4 : w.cell? ⟨g, 4, none⟩ = some (nV t.until_)
  c5 : w.cell? ⟨g, 5, none⟩ = some c
  c6 : w.cell? ⟨g, 6, none⟩ = some p
  c7 : w.cell? ⟨g, 7, none⟩ = some s
/-- A new variable of a kind. -/
theorem wpList_alloc_kind {P : Program} {α : Type} {K : Kind P α} {ops : Array Oper} {rest : List Oper} {o : Oper} {a : Act} {w : World} {Q : Exit → Act → World → Prop} (hgd : o.guard = none) (ho : o.op = .alloc K.T)
    (h : ∀ w', w'.heap[w.heap.size]? = some (.cells K.zero.cells K.T (0, 0)) → Below w.heap.size w w' → wpList P ops Q rest (a.put o.dst (.pointer (some ⟨w.heap.size, 0, none⟩))) w') : wpList P ops Q (o :: rest) a w := by
  obtain ⟨ie, hie, hq⟩ := Option.map_eq_some_iff.1 K.info
  simp only [Prod.mk.injEq] at hq
  obtain ⟨hz, hsz, hby⟩ := hq
  have h2 := h (w.alloc (.cells K.zero.cells K.T)) (heap_alloc_new w _) ((Below.refl _ _).alloc (Nat.le_refl _) _)
  refine wpList_plain hgd fun _ hK => ?_
  unfold Oper.wp execOp
  have hzr : (zeroValue K.T).run P w = .ok K.zero w := by simp [zeroValue, typeInfo, hie, hz]
  simp only [ho, Instr.alloc, Sem.run_bind, hzr, Result.andThen_ok, newVar, newRow, run_newObj_alloc, Sem.run_pure]
  exact hK _ _ h2

theorem flat_le {α : Type} (f : α → List UInt8) (m : Nat) (hf : ∀ x, (f x).length ≤ m) : ∀ L : List α, (L.flatMap f).length ≤ L.length * m
  | [] => by simp
  | x :: L => by
    have := flat_le f m hf L
    have := hf x
    rw [List.flatMap_cons, List.length_append, List.length_cons, Nat.add_mul]
    omega
theorem nL_len (n : UInt64) : (nL n).length ≤ 10 := putL_len _
theorem inL_len (x : InD) : (inL x).length ≤ 42 := by
  have := nL_len x.ix
  unfold inL
  rw [List.length_append, x.tx.2]
  omega
theorem outL_len (x : OutD) : (outL x).length ≤ 74 := by
  have := nL_len x.am
  unfold outL
  rw [List.length_append, List.length_append, x.to_.2, x.st.2]
  omega
theorem payL_len (x : PayD) : (payL x).length ≤ 42 := by
  have := nL_len x.am
  unfold payL
  rw [List.length_append, x.key.2]
  omega
theorem certL_len (x : CertD) : (certL x).length ≤ 95 := by
  have := nL_len x.a
  have := nL_len x.b
  have := nL_len x.c
  unfold certL
  simp only [List.length_cons, List.length_append, x.key.2, x.pool.2]
  omega
theorem take_flat {α : Type} (f : α → List UInt8) (L : List α) (k : Nat) (x : α) (h : L[k]? = some x) : (L.take (k + 1)).flatMap f = (L.take k).flatMap f ++ f x := by
  rw [List.take_add_one, h]
  simp
theorem bs_app (l m : List UInt8) : bs l ++ bs m = bs (l ++ m) := ByteArray.mk_append_mk l m

inductive FactE where
  | val (v : Value)
  | one (b : UInt8)
def FactE.holds : FactE → Value → World → Prop
  | .val v0, v, _ => v = v0
  | .one b, v, w => ∃ g, v = .slice (some ⟨g, 0, none⟩) 1 1 ∧ w.cell? ⟨g, 0, none⟩ = some (.int .u8 (b.toNat : Int))
theorem FactE.kept (f : FactE) (v : Value) (w w' : World) (h : f.holds v w) (hb : Below w.heap.size w w') : f.holds v w' := by
  cases f with
  | val v0 => exact h
  | one b =>
    obtain ⟨g, h1, h2⟩ := h
    exact ⟨g, h1, (hb.cell (World.block_lt_of_cell? _ _ h2)).trans h2⟩
theorem FactE.conv {b : UInt8} {v : Value} {w : World} (h : (FactE.one b).holds v w) : (convert 109 9 v).run Tryd.prog w = .ok (.string (bs [b])) w := by
  obtain ⟨g, rfl, h2⟩ := h
  have hr := run_convert_bytes_arg w 109 5 Tryd.underlying109 Tryd.underlying5 g 0 1 1 [(b.toNat : Int)] rfl (fun i hi => by
    obtain rfl : i = 0 := by omega
    exact h2) 9 Tryd.underlying9
  rw [hr]
  simp [strOfNums]
theorem wp_build_byte {o : Oper} {a : Act} {w : World} {R : Act → World → Prop} {Q : Exit → Act → World → Prop} (x : Operand) (ho : o.op = .buildSlice 109 1 #[(0, x)]) (b : UInt8) (hx : a.eval x = .int .u8 (b.toNat : Int))
    (h : ∀ v w', (FactE.one b).holds v w' → Below w.heap.size w w' → R (a.put o.dst v) w') : o.wp Tryd.prog a w R Q := by
  obtain ⟨ie, hie, hq⟩ := Option.map_eq_some_iff.1 info8
  simp only [Prod.mk.injEq] at hq
  obtain ⟨hz, hsz, hby⟩ := hq
  have hr0 : Array.range 1 = #[0] := Array.ext' (by rw [Array.toList_range]; rfl)
  refine wp_buildSlice 109 5 1 _ ho #[.int .u8 (b.toNat : Int)] ie (.int .u8 0) Tryd.underlying109 hie hz (by rw [hsz]; decide) (by rw [hsz]; decide) (by rw [hsz]; simp [hx, Instr.fill, Value.cells, hr0]) ?_
  refine h _ _ ⟨w.heap.size, rfl, ?_⟩ ((Below.refl _ _).alloc (Nat.le_refl _) _)
  rw [Lib.cell_of_heap (heap_alloc_new w _)]
  rfl
end Go.Proofs.YtdgaoebjbhomdaaDoor.Deed

namespace Go.Proofs.YtdgaoebjbhomdaaDoor.Deed
open Go.RowKit Go.Proofs.YtdgaoebjbhomdaaDoor.Sha Go.Proofs.YtdgaoebjbhomdaaDoor.Tree Go.Proofs.YtdgaoebjbhomdaaDoor.Gr Go.Proofs.YtdgaoebjbhomdaaDoor.Digit

/-- What is there of old, but for some blocks, is as it was. -/
structure Frm (F : Nat → Prop) (w w' : World) : Prop where
  os : w'.os = w.os
  tape : w'.tape = w.tape
  output : w'.output = w.output
  size : w.heap.size ≤ w'.heap.size
  block : ∀ k, k < w.heap.size → ¬ F k → w'.heap[k]? = w.heap[k]?
theorem Frm.refl (F : Nat → Prop) (w : World) : Frm F w w := ⟨rfl, rfl, rfl, Nat.le_refl _, fun _ _ _ => rfl⟩
theorem Frm.trans {F G : Nat → Prop} {a b c : World} (h : Frm F a b) (k : Frm G b c) (hG : ∀ i, G i → F i ∨ a.heap.size ≤ i) : Frm F a c :=
  ⟨k.os.trans h.os, k.tape.trans h.tape, k.output.trans h.output, Nat.le_trans h.size k.size, fun i hi hn => (k.block i (Nat.lt_of_lt_of_le hi h.size) (fun hg => by
    rcases hG i hg with hf | hf
    · exact hn hf
    · omega)).trans (h.block i hi hn)⟩
theorem Frm.mono {F G : Nat → Prop} {a b : World} (h : Frm F a b) (hG : ∀ i, F i → G i) : Frm G a b :=
  ⟨h.os, h.tape, h.output, h.size, fun k hk hn => h.block k hk (fun hf => hn (hG k hf))⟩
theorem Frm.of_below {F : Nat → Prop} {a b : World} (h : Below a.heap.size a b) : Frm F a b := ⟨h.os, h.tape, h.output, h.size, fun k hk _ => h.block k hk⟩
theorem Frm.below {F : Nat → Prop} {a b : World} {B : Nat} (h : Frm F a b) (hB : B ≤ a.heap.size) (hF : ∀ k, F k → B ≤ k) : Below B a b :=
  ⟨h.os, h.tape, h.output, h.size, fun k hk => h.block k (by omega) (fun hf => by have := hF k hf; omega)⟩
theorem Frm.setRow {F : Nat → Prop} {a b : World} (h : Frm F a b) {g : Nat} (hg : F g ∨ a.heap.size ≤ g) (cs : Array Value) : Frm F a (b.setRow g cs) :=
  ⟨h.os, h.tape, h.output, by rw [setRow_size]; exact h.size, fun k hk hn => by
    rw [setRow_other _ _ _ _ (fun e => by subst e; rcases hg with hg | hg; exact hn hg; omega)]
    exact h.block k hk hn⟩
theorem Frm.grown {F : Nat → Prop} {a b c : World} {row : Option Nat} (h : Frm F a b) (hg : b.grownBy c row) (hr : ∀ k, row = some k → F k ∨ a.heap.size ≤ k) : Frm F a c :=
  ⟨hg.os.trans h.os, hg.tape.trans h.tape, hg.output.trans h.output, Nat.le_trans h.size hg.size, fun k hk hn => by
    rw [hg.block k (Nat.lt_of_lt_of_le hk h.size) (fun e => by rcases hr k e.symm with h | h; exact hn h; omega)]
    exact h.block k hk hn⟩
theorem Frm.drew {F : Nat → Prop} {a w : World} (h : Frm F a w) : Frm F a w.drew := ⟨h.os, h.tape, h.output, h.size, h.block⟩

theorem Frm.setCell {F : Nat → Prop} {a b : World} (h : Frm F a b) {g i : Nat} {cs : Array Value} {t : TypeId} {fz : Nat × Nat} (hg : b.heap[g]? = some (.cells cs t fz)) (hn : F g ∨ a.heap.size ≤ g) (v : Value) : Frm F a (b.setCell ⟨g, i, none⟩ v) := by
  rw [setCell_eq_setRow b g i _ _ _ _ hg]
  exact h.setRow hn _
theorem Frm.alloc {F : Nat → Prop} {a b : World} (h : Frm F a b) (o : Obj) : Frm F a (b.alloc o) :=
  h.trans (Frm.of_below ((Below.refl _ _).alloc (Nat.le_refl _) _) (F := fun _ => False)) (fun _ h => h.elim)
theorem Frm.then_below {F : Nat → Prop} {a b c : World} (h : Frm F a b) (hb : Below b.heap.size b c) : Frm F a c :=
  h.trans (Frm.of_below hb (F := fun _ => False)) (fun _ h => h.elim)

/-- A type's zero. -/
structure ZeroOf (P : Program) (T : TypeId) (Z : Array Value) : Prop where
  built : P.built T [] = some Z
  info : (P.info? T).map (fun i => (i.zero, i.size)) = some (some (.agg Z), Z.size)
  one : Z.all (·.oneCell') = true
/-- A new variable, noughts all. -/
theorem wpList_zero_var {P : Program} {T : TypeId} {Z : Array Value} (hZ : ZeroOf P T Z) {ops : Array Oper} {rest : List Oper} {o1 o2 o3 : Oper} {a : Act} {w : World} {Q : Exit → Act → World → Prop} (x y : Operand)
    (g1 : o1.guard = none) (g2 : o2.guard = none) (g3 : o3.guard = none) (ho1 : o1.op = .build T #[]) (ho2 : o2.op = .alloc T) (ho3 : o3.op = .store T x y)
    (hx : ∀ v, ((a.put o1.dst (.agg Z)).put o2.dst v).eval x = v) (hy : ∀ v, ((a.put o1.dst (.agg Z)).put o2.dst v).eval y = .agg Z)
    (h : ∀ w', w'.heap[w.heap.size]? = some (.cells Z T (0, 0)) → w'.heap.size = w.heap.size + 1 → Below w.heap.size w w' → wpList P ops Q rest (((a.put o1.dst (.agg Z)).put o2.dst (.pointer (some ⟨w.heap.size, 0, none⟩))).put o3.dst undef) w') : wpList P ops Q (o1 :: o2 :: o3 :: rest) a w := by
  obtain ⟨ie, hie, hq⟩ := Option.map_eq_some_iff.1 hZ.info
  simp only [Prod.mk.injEq] at hq
  obtain ⟨hz, hsz⟩ := hq
  have hb : P.built T ((#[] : Array (Nat × Operand)).map fun (i, x) => (i, a.eval x)).toList = some Z := by simpa using hZ.built
  refine wpList_build g1 T #[] ho1 (by rw [hb]; rfl) ?_
  rw [hb, Option.getD_some]
  refine wpList_plain g2 fun _ hK => ?_
  unfold Oper.wp execOp
  have hzr : (zeroValue T).run P w = .ok (.agg Z) w := by simp [zeroValue, typeInfo, hie, hz]
  simp only [ho2, Instr.alloc, Sem.run_bind, hzr, Result.andThen_ok, newVar, newRow, run_newObj_alloc, Sem.run_pure]
  refine hK _ _ ?_
  have hh : (w.alloc (.cells Z T)).heap[w.heap.size]? = some (.cells Z T (0, 0)) := heap_alloc_new w _
  refine wpList_store_row g3 T x y ho3 w.heap.size Z (hx _) (hy _) T Z hh (by rw [hie, Option.map_some, hsz]) rfl hZ.one ?_
  refine h _ (setRow_heap _ _ _ _ _ _ hh) (by rw [setRow_size]; simp) (below_setRow ((Below.refl _ _).alloc (Nat.le_refl _) _) (Nat.le_refl _) _)
def zHash : Array Value := z32.toArray
theorem zeroHash : ZeroOf Tryd.prog 29 zHash := ⟨by kernel_rfl, by kernel_rfl, all_oneCell_toArray (fun v hv => by rw [List.eq_of_mem_replicate hv]; rfl)⟩

/-- A reader in memory. -/
def RAt (w : World) (q : Nat) (r : Rd) : Prop := w.heap[q]? = some (.cells #[.string (bs r.1), .bool r.2] 62 (0, 0))
theorem RAt.lt {w : World} {q : Nat} {r : Rd} (h : RAt w q r) : q < w.heap.size := (Array.getElem?_eq_some_iff.1 h).1
theorem RAt.c0 {w : World} {q : Nat} {r : Rd} (h : RAt w q r) : w.cell? ⟨q, 0, none⟩ = some (.string (bs r.1)) := by
  rw [Lib.cell_of_heap h]
  rfl
theorem RAt.c1 {w : World} {q : Nat} {r : Rd} (h : RAt w q r) : w.cell? ⟨q, 1, none⟩ = some (.bool r.2) := by
  rw [Lib.cell_of_heap h]
  rfl
theorem RAt.free {w : World} {q : Nat} {r : Rd} (h : RAt w q r) (i : Nat) : w.frozen? ⟨q, i, none⟩ = false := by simp [World.frozen?, show w.heap[q]? = _ from h]
theorem RAt.kept {w w' : World} {q : Nat} {r : Rd} (h : RAt w q r) {F : Nat → Prop} (hf : Frm F w w') (hF : ¬ F q) : RAt w' q r := (hf.block q h.lt hF).trans h
theorem RAt.below {w w' : World} {q : Nat} {r : Rd} (h : RAt w q r) (hb : Below w.heap.size w w') : RAt w' q r := (hb.block q h.lt).trans h
theorem RAt.bad {w : World} {q : Nat} {r : Rd} (h : RAt w q r) : RAt (w.setCell ⟨q, 1, none⟩ (.bool false)) q (r.1, false) := by
  unfold RAt
  rw [setCell_eq_setRow w q 1 _ _ _ _ h, setRow_heap _ _ _ _ _ _ h]
  rfl
theorem RAt.on {w : World} {q : Nat} {r : Rd} (h : RAt w q r) (l : List UInt8) : RAt (w.setCell ⟨q, 0, none⟩ (.string (bs l))) q (l, r.2) := by
  unfold RAt
  rw [setCell_eq_setRow w q 0 _ _ _ _ h, setRow_heap _ _ _ _ _ _ h]
  rfl
abbrev atQ (q : Nat) : Nat → Prop := fun k => k = q
theorem bs_toList (l : List UInt8) : (bs l).data.toList = l := by simp
theorem bs_drop (l : List UInt8) (n : Nat) : (bs l).extract n l.length = bs (l.drop n) := by
  apply ByteArray.ext
  rw [ByteArray.data_extract]
  apply Array.ext'
  simp
  rw [List.take_of_length_le (by simp)]
theorem refTake_bs (l : List UInt8) (w : World) (hs : l.length ≤ 1099511627776) : Calls Tryd.prog 59 #[.string (bs l)] w fun e w' => e = .returned (.tuple #[.int .u64 (takeL l).1, .int .i64 (takeL l).2.1, .int .i64 (takeL l).2.2]) ∧ Below w.heap.size w w' := by
  have h := refTake_any (bs l) w (by rw [bs_size]; omega)
  rw [bs_toList] at h
  exact h
theorem takeL_ok {l : List UInt8} {n z : Nat} (h : takeL l = (n, z, 0)) : n < 18446744073709551616 ∧ z ≤ l.length := by
  obtain ⟨_, h2, h3, h4, h5⟩ := takeL_one l n z h
  exact ⟨by omega, by omega⟩

set_option maxRecDepth 100000 in
set_option maxHeartbeats 800000 in
theorem ref_Number {w : World} {q : Nat} {r : Rd} (hr : RAt w q r) (hs : r.1.length ≤ 1099511627776) :
    Calls Tryd.prog 24 #[.pointer (some ⟨q, 0, none⟩)] w fun e w' => e = .returned (nV (numR r).1) ∧ RAt w' q (numR r).2 ∧ Frm (atQ q) w w' := by
  obtain ⟨l, b⟩ := r
  have HR := Lib.hid hr
  have c0 := hr.c0
  simp only at hs c0
  have HT := Lib.hid (fun w => refTake_bs l w hs)
  unfold numR
  simp only
  obtain ⟨n, z, e, hT⟩ : ∃ n z e, takeL l = (n, z, e) := ⟨_, _, _, rfl⟩
  rw [hT] at HT ⊢
  simp only at HT ⊢
  obtain ⟨S, hS⟩ : ∃ S, bs l = S := ⟨_, rfl⟩
  rw [hS] at HT c0
  have HS := Lib.hid hS
  have hSn : S.size = l.length := by rw [← hS, bs_size]
  by_cases he : e = 0
  · subst he
    obtain ⟨h1, h2⟩ := takeL_ok hT
    rw [if_pos rfl]
    have HN := Lib.hid (show nV (UInt64.ofNat n) = .int .u64 n by unfold nV; rw [UInt64.toNat_ofNat', Nat.mod_eq_of_lt h1])
    have hz0 : (0 : Int) ≤ (z : Int) := by omega
    have hz1 : (z : Int) ≤ (S.size : Int) := by omega
    go_enter Tryd.func24, Tryd.ntmps24
    go_wp2_with (refine (HT.out _).mono ?_; rintro e w1 ⟨rfl, hb1⟩; have HR1 := Lib.hid (HR.out.below hb1); have c01 := HR1.out.c0; rw [HS.out] at c01; have hf1 := HR1.out.free)
    go_ret
    exact ⟨by rw [HN.out]; rfl, by rw [← HS.out, bs_drop]; exact HR1.out.on _, Frm.setCell (F := atQ q) (Frm.of_below hb1) HR1.out (Or.inl rfl) _⟩
  · rw [if_neg he]
    have hei : ((e : Int) == 0) = false := by simp; omega
    go_enter Tryd.func24, Tryd.ntmps24
    go_wp2_with (refine (HT.out _).mono ?_; rintro e w1 ⟨rfl, hb1⟩; have HR1 := Lib.hid (HR.out.below hb1); have c11 := HR1.out.c1; have hf1 := HR1.out.free)
    go_ret
    exact ⟨rfl, HR1.out.bad, Frm.setCell (F := atQ q) (Frm.of_below hb1) HR1.out (Or.inl rfl) _⟩
theorem numR_le (r : Rd) : (numR r).2.1.length ≤ r.1.length := by
  unfold numR
  split
  · exact Nat.le_trans (by simp) (Nat.le_refl _)
  · exact Nat.le_refl _
set_option maxRecDepth 100000 in
set_option maxHeartbeats 800000 in
theorem ref_Count {w : World} {q : Nat} {r : Rd} (hr : RAt w q r) (hs : r.1.length ≤ 1099511627776) (most : Nat) :
    Calls Tryd.prog 26 #[.pointer (some ⟨q, 0, none⟩), .int .u64 most] w fun e w' => e = .returned (.int .u64 (countR most r).1) ∧ RAt w' q (countR most r).2 ∧ Frm (atQ q) w w' := by
  have HN := Lib.hid (ref_Number hr hs)
  unfold countR
  obtain ⟨n, r1, hR⟩ : ∃ n r1, numR r = (n, r1) := ⟨_, _, rfl⟩
  rw [hR] at HN ⊢
  simp only at HN ⊢
  obtain ⟨m, hm⟩ : ∃ m, n.toNat = m := ⟨_, rfl⟩
  unfold nV at HN
  rw [hm] at HN ⊢
  by_cases h : most < m
  · rw [if_pos h]
    have hi : (most : Int) < (m : Int) := by omega
    go_enter Tryd.func26, Tryd.ntmps26
    go_wp2_with (refine HN.out.mono ?_; rintro e w1 ⟨rfl, hr1, hf1⟩; have HR1 := Lib.hid hr1; have HF1 := Lib.hid hf1; clear hf1; have c1 := HR1.out.c1; have hf := HR1.out.free; clear hr1)
    go_ret
    exact ⟨rfl, HR1.out.bad, Frm.setCell (F := atQ q) HF1.out HR1.out (Or.inl rfl) _⟩
  · rw [if_neg h]
    have hi : ¬ (most : Int) < (m : Int) := by omega
    go_enter Tryd.func26, Tryd.ntmps26
    go_wp2_with (refine HN.out.mono ?_; rintro e w1 ⟨rfl, hr1, hf1⟩; have HR1 := Lib.hid hr1; have HF1 := Lib.hid hf1; clear hf1 hr1)
    go_ret
    exact ⟨rfl, HR1.out, HF1.out⟩

theorem bs_take (l : List UInt8) (n : Nat) : (bs l).extract 0 n = bs (l.take n) := by
  apply ByteArray.ext
  rw [ByteArray.data_extract]
  apply Array.ext'
  simp
theorem made8 (n : Nat) (hn : n ≤ 100000) (w : World) : ∃ w', (Instr.makeSlice 109 (.int .i64 n) (.int .i64 n)).run Tryd.prog w = .ok (.slice (some ⟨w.heap.size, 0, none⟩) n n) w' ∧ Below w.heap.size w w' ∧
    (convert 109 9 (.slice (some ⟨w.heap.size, 0, none⟩) n n)).run Tryd.prog w' = .ok (.string (bs (List.replicate n 0))) w' := by
  obtain ⟨i0, hi, hz0, hz1, hz2⟩ := info_parts info8
  have hr := run_makeSlice w 109 5 i0 (.int .u8 0) Tryd.underlying109 hi hz0 .i64 .i64 n n (by omega) (Int.le_refl _) (by rw [hz1]; simp; omega) (by rw [hz2]; omega) (by omega)
  simp only [Int.toNat_natCast] at hr
  refine ⟨_, hr, (Below.refl _ _).alloc (Nat.le_refl _) _, ?_⟩
  have hc := conv_row (w.alloc (.cells (madeCells (Value.int .u8 0).cells (n * i0.size)) 5)) w.heap.size n n (List.replicate n 0) (by simp) (fun i hlt => by
    rw [Lib.cell_of_heap (heap_alloc_new w _)]
    simp [madeCells, hz1, hlt, Value.cells, List.getD, Nat.mod_one])
  rw [hc]
  have : strOfNums (List.replicate n 0) = bs (List.replicate n 0) := by
    unfold strOfNums
    simp
  rw [this]
set_option maxRecDepth 100000 in
set_option maxHeartbeats 800000 in
theorem ref_Text {w : World} {q : Nat} {r : Rd} (hr : RAt w q r) (hs : r.1.length ≤ 1099511627776) (n : Nat) (hn : n ≤ 100000) :
    Calls Tryd.prog 60 #[.pointer (some ⟨q, 0, none⟩), .int .i64 n] w fun e w' => e = .returned (.string (bs (textR n r).1)) ∧ RAt w' q (textR n r).2 ∧ Frm (atQ q) w w' := by
  obtain ⟨l, b⟩ := r
  have HR := Lib.hid hr
  have c0 := hr.c0
  have c1 := hr.c1
  have hf := hr.free
  simp only at hs c0 c1
  unfold textR
  simp only
  obtain ⟨S, hS⟩ : ∃ S, bs l = S := ⟨_, rfl⟩
  rw [hS] at c0
  have HS := Lib.hid hS
  have hSn : S.size = l.length := by rw [← hS, bs_size]
  clear hr
  by_cases h : l.length < n
  · rw [if_pos h]
    have hi : (l.length : Int) < (n : Int) := by omega
    have hn0 : (0 : Int) ≤ (n : Int) := by omega
    obtain ⟨w2, hm2, hb2, hc2⟩ := made8 n hn (w.setCell ⟨q, 1, none⟩ (.bool false))
    have HR1 := Lib.hid HR.out.bad
    have HF1 := Lib.hid (Frm.setCell (F := atQ q) (Frm.refl _ w) (i := 1) HR.out (Or.inl rfl) (.bool false))
    have hsz : (w.setCell ⟨q, 1, none⟩ (.bool false)).heap.size = w.heap.size := by simp
    rw [hsz] at hm2 hc2
    have HB2 := Lib.hid hb2
    clear hb2
    go_enter Tryd.func60, Tryd.ntmps60
    go_wp2_with fail
    go_ret
    exact ⟨rfl, HR1.out.below HB2.out, HF1.out.then_below HB2.out⟩
  · rw [if_neg h]
    have hi : ¬ (l.length : Int) < (n : Int) := by omega
    have hn0 : (0 : Int) ≤ (n : Int) := by omega
    have hn1 : (n : Int) ≤ (l.length : Int) := by omega
    go_enter Tryd.func60, Tryd.ntmps60
    go_wp2_with fail
    go_ret
    exact ⟨by rw [← HS.out, bs_take]; rfl, by rw [← HS.out, bs_drop]; exact HR.out.on _, Frm.setCell (F := atQ q) (Frm.refl _ w) HR.out (Or.inl rfl) _⟩
/-- A hash that is half read. -/
def halfB (s : List UInt8) (k : Nat) : List UInt8 := s.take k ++ List.replicate (32 - k) 0
theorem halfB_len (s : List UInt8) (hs : s.length = 32) (k : Nat) (hk : k ≤ 32) : (halfB s k).length = 32 := by
  unfold halfB
  rw [List.length_append, List.length_take, List.length_replicate]
  omega
theorem halfB_set (s : List UInt8) (hs : s.length = 32) (k : Nat) (b : UInt8) (hb : s[k]? = some b) : (halfB s k).set k b = halfB s (k + 1) := by
  have hk : k < 32 := by rw [← hs]; exact (List.getElem?_eq_some_iff.1 hb).1
  unfold halfB
  rw [List.set_append_right _ _ (by rw [List.length_take]; omega), List.length_take, Nat.min_eq_left (by omega), Nat.sub_self, show 32 - k = (32 - (k + 1)) + 1 by omega, List.replicate_succ, List.set_cons_zero, List.take_add_one, hb]
  simp
theorem half_zero (s : List UInt8) : (valsB (halfB s 0)).toArray = zHash := rfl
theorem valsB_set (l : List UInt8) (k : Nat) (b : UInt8) : (valsB l).toArray.setIfInBounds k (.int .u8 (b.toNat : Int)) = (valsB (l.set k b)).toArray := by
  apply Array.ext'
  simp [valsB, List.map_set]
set_option maxRecDepth 100000 in
set_option maxHeartbeats 1600000 in
theorem ref_HashR {w : World} {q : Nat} {r : Rd} (hr : RAt w q r) (hs : r.1.length ≤ 1099511627776) :
    Calls Tryd.prog 25 #[.pointer (some ⟨q, 0, none⟩)] w fun e w' => e = .returned (hV (hashR r).1) ∧ RAt w' q (hashR r).2 ∧ Frm (atQ q) w w' := by
  obtain ⟨h1, h2⟩ := hashR_text r
  have HRW := Lib.hid (row32 (hashR r).1.1 (hashR r).1.2)
  unfold hV
  rw [h1] at HRW
  rw [h1, h2]
  have HT := Lib.hid (fun (w' : World) (h : RAt w' q r) => ref_Text h hs 32 (by omega))
  have hlen := textR_len 32 r
  obtain ⟨x, r1, hX⟩ : ∃ x r1, textR 32 r = (x, r1) := ⟨_, _, rfl⟩
  rw [hX] at HT hlen HRW ⊢
  simp only at HT hlen HRW ⊢
  have HL := Lib.hid hlen
  have HR := Lib.hid hr
  clear h1 h2 hX
  go_enter Tryd.func25, Tryd.ntmps25
  go_upto_region 1 with (fail)
  rw [zero32]
  obtain ⟨Z, hZ⟩ : ∃ Z, (List.replicate 32 (Value.int .u8 0)).toArray = Z := ⟨_, rfl⟩
  have HZS := Lib.hid (show Z.size = 32 by rw [← hZ]; rfl)
  rw [hZ]
  clear hZ
  have HZ := Lib.hid (heap_alloc_new w (.cells Z 29))
  have HFW := Lib.hid (show Frm (atQ q) w (w.alloc (.cells Z 29)) from (Frm.refl _ _).alloc _)
  have HRW0 := Lib.hid (show RAt (w.alloc (.cells Z 29)) q r from HR.out.below ((Below.refl _ _).alloc (Nat.le_refl _) _))
  have HS0 := Lib.hid (show (w.alloc (.cells Z 29)).heap.size = w.heap.size + 1 by simp)
  have HQ := Lib.hid HR.out.lt
  generalize w.alloc (.cells Z 29) = W at HZ HFW HRW0 HS0 ⊢
  obtain ⟨g, hg⟩ : ∃ g, w.heap.size = g := ⟨_, rfl⟩
  have HG := Lib.hid hg
  rw [hg] at HZ HS0 HQ
  rw [hg]
  clear hg hr hlen
  go_wp2_with (first
    | (refine (HT.out W HRW0.out).mono ?_; rintro e w1 ⟨rfl, hr1, hf1⟩; have HR1 := Lib.hid hr1; have HF1 := Lib.hid hf1; clear hr1 hf1)
    | (refine wpList_zero_var zeroHash (.tmp 4) (.tmp 8) rfl rfl rfl rfl rfl rfl (fun _ => rfl) (fun _ => rfl) ?_; intro w2 hw2 hs2 hb2; have HW2 := Lib.hid hw2; have HS2 := Lib.hid hs2; have HB2 := Lib.hid hb2; clear hw2 hs2 hb2))
  obtain ⟨g4, hg4⟩ : ∃ g, w1.heap.size = g := ⟨_, rfl⟩
  have HG4 := Lib.hid hg4
  rw [hg4] at HW2 HS2 HB2
  rw [hg4]
  clear hg4
  have HF2 := Lib.hid (show Frm (atQ q) w w2 from (HFW.out.trans HF1.out (fun _ h => Or.inl h)).then_below (HG4.out ▸ HB2.out))
  have HR2 := Lib.hid (show RAt w2 q r1 from HR1.out.below (HG4.out ▸ HB2.out))
  have HGL := Lib.hid (show g < g4 ∧ w.heap.size ≤ g by have := HF1.out.size; have := HS0.out; have := HG.out; have := HG4.out; omega)
  have HZ2 := Lib.hid (show w2.heap[g]? = some (.cells Z 29 (0, 0)) from (HB2.out.block g HGL.out.1).trans ((HF1.out.block g (by rw [HS0.out]; omega) (fun e => by have := HQ.out; omega)).trans HZ.out))
  go_loopw [5] (fun i wr => ∃ k : Nat, k ≤ 32 ∧ i = .int .i64 k ∧ wr.heap[g4]? = some (.cells (valsB (halfB x k)).toArray 29 (0, 0)) ∧ RAt wr q r1 ∧ wr.heap[g]? = some (.cells Z 29 (0, 0)) ∧ Frm (atQ q) w wr) (fun i _ => 32 - (intOf i).toNat)
  case atStart => exact ⟨0, by omega, rfl, by rw [HW2.out, half_zero], HR2.out, HZ2.out, HF2.out⟩
  case round =>
    obtain ⟨k, hk, rfl, hrow, hrd, hz, hfr⟩ := hrel
    have HROW := Lib.hid hrow
    have HRD := Lib.hid hrd
    have HZR := Lib.hid hz
    have HFR := Lib.hid hfr
    clear hrow hrd hz hfr
    by_cases hlt : k < 32
    · obtain ⟨b, hb⟩ : ∃ b, x[k]? = some b := ⟨x[k]'(by have := HL.out; omega), List.getElem?_eq_getElem _⟩
      have hk0 : (0 : Int) ≤ (k : Int) := by omega
      have hk32 : (k : Int) < 32 := by omega
      have hkx : k < x.length := by have := HL.out; omega
      have hkxi : (k : Int) < (x.length : Int) := by omega
      have hbk : ∀ h : k < (bs x).size, (bs x)[k] = b := fun h => by
        have h1 : x[k] = b := by
          have := hb
          rw [List.getElem?_eq_getElem hkx] at this
          exact Option.some.inj this
        rw [← h1]
        rfl
      obtain ⟨b0, hb0⟩ : ∃ b, (halfB x k)[k]? = some b := ⟨(halfB x k)[k]'(by rw [halfB_len x HL.out k hk]; omega), List.getElem?_eq_getElem _⟩
      have hc : wr.cell? ⟨g4, k, none⟩ = some (.int .u8 (b0.toNat : Int)) := by
        rw [Lib.cell_of_heap HROW.out]
        simp [valsB, hb0]
      have hfz : wr.frozen? ⟨g4, k, none⟩ = false := by simp [World.frozen?, HROW.out]
      have HSET := Lib.hid (show (wr.setCell ⟨g4, k, none⟩ (.int .u8 (b.toNat : Int))).heap[g4]? = some (.cells (valsB (halfB x (k + 1))).toArray 29 (0, 0)) by
        rw [setCell_eq_setRow wr g4 k _ _ _ _ HROW.out, setRow_heap _ _ _ _ _ _ HROW.out, valsB_set, halfB_set x HL.out k b hb])
      have HFN := Lib.hid (show Frm (fun i => i = g4) wr (wr.setCell ⟨g4, k, none⟩ (.int .u8 (b.toNat : Int))) from Frm.setCell (F := fun i => i = g4) (Frm.refl _ wr) HROW.out (Or.inl rfl) _)
      clear hb hb0
      go_wp2_with fail
      go_roundw
      case rel =>
        simp only [hbk] at *
        exact ⟨k + 1, by omega, by go_num, HSET.out, HRD.out.kept HFN.out (fun e => by have := HQ.out; have := HGL.out; have := HG.out; omega), (HFN.out.block g (Array.getElem?_eq_some_iff.1 HZR.out).1 (fun e => by have := HGL.out; omega)).trans HZR.out, HFR.out.trans HFN.out (fun i hi => Or.inr (by have := HGL.out; omega))⟩
      case measure => simp [intOf]; omega
    · obtain rfl : k = 32 := by omega
      have HE := Lib.hid (show halfB x 32 = x by unfold halfB; rw [List.take_of_length_le (by have := HL.out; omega)]; simp)
      rw [HE.out] at HROW
      go_wp2_with (first
        | (refine wpList_load_row rfl 29 (.tmp 4) rfl g4 rfl 29 (valsB x).toArray (0, 0) _ HROW.out Tryd.underlying29 rfl HRW.out.info ?_)
        | (refine wpList_store_row rfl 29 (.tmp 2) (.tmp 18) rfl g (valsB x).toArray rfl rfl 29 Z HZR.out HRW.out.info (by rw [HZS.out, HRW.out.size]) HRW.out.one ?_))
      refine bodyPost_ret (results_cell_row (p := 2) (ty := 29) Tryd.results25 _ _ g 29 (valsB x).toArray (0, 0) _ rfl (setRow_heap _ _ _ _ _ _ HZR.out) Tryd.underlying29 rfl HRW.out.info) rfl ⟨rfl, ?_, ?_⟩
      · exact HRD.out.kept (Frm.setRow (F := fun i => i = g) (Frm.refl _ wr) (Or.inl rfl) _) (fun e => by have := HQ.out; omega)
      · exact HFR.out.setRow (Or.inr (by have := HG.out; omega)) _
end Go.Proofs.YtdgaoebjbhomdaaDoor.Deed

namespace Go.Proofs.YtdgaoebjbhomdaaDoor.Deed
open Go.RowKit Go.Proofs.YtdgaoebjbhomdaaDoor.Sha Go.Proofs.YtdgaoebjbhomdaaDoor.Tree Go.Proofs.YtdgaoebjbhomdaaDoor.Gr Go.Proofs.YtdgaoebjbhomdaaDoor.Digit

theorem Frm.set {F : Nat → Prop} {a b : World} (h : Frm F a b) (x : Addr) (hx : F x.block ∨ a.heap.size ≤ x.block) (v : Value) : Frm F a (b.setCell x v) :=
  ⟨h.os, h.tape, h.output, by simp [World.setCell]; exact h.size, fun k hk hn => by
    rw [Below.heap_setCell _ _ _ _ (fun e => by subst e; rcases hx with hx | hx; exact hn hx; omega)]
    exact h.block k hk hn⟩
theorem Frm.setCells {F : Nat → Prop} {a : World} (g : Nat) (hg : F g ∨ a.heap.size ≤ g) : ∀ (vs : List Value) (o : Nat) (b : World), Frm F a b → Frm F a (b.setCells g o vs)
  | [], _, _, h => h
  | v :: r, o, _, h => Frm.setCells g hg r (o + 1) _ (h.set ⟨g, o, none⟩ hg v)
theorem size_setCells (g : Nat) : ∀ (vs : List Value) (o : Nat) (b : World), (b.setCells g o vs).heap.size = b.heap.size
  | [], _, _ => rfl
  | v :: r, o, b => by
    rw [World.setCells, size_setCells g r]
    simp [World.setCell]
/-- A variable that is filled: n cells are there, the first are these. -/
structure Var (w : World) (X n : Nat) (cs : List Value) : Prop where
  there : w.there X 0 n
  range : w.rangeAt X 0 cs
  lt : X < w.heap.size
theorem Var.new {w : World} {X : Nat} {Z : Array Value} {T : TypeId} (h : w.heap[X]? = some (.cells Z T (0, 0))) : Var w X Z.size [] :=
  ⟨fun j hj => ⟨by rw [Nat.zero_add, Lib.cell_of_heap h, Array.getElem?_eq_getElem hj]; rfl, by simp [World.frozen?, h]⟩, fun j v hv => by simp at hv, (Array.getElem?_eq_some_iff.1 h).1⟩
theorem Var.frm {w w' : World} {X n : Nat} {cs : List Value} (h : Var w X n cs) {F : Nat → Prop} (hf : Frm F w w') (hF : ¬ F X) : Var w' X n cs := by
  have hb := hf.block X h.lt hF
  refine ⟨fun j hj => ?_, fun j v hv => ?_, Nat.lt_of_lt_of_le h.lt hf.size⟩
  · rw [World.cell?_of_block (a := ⟨X, 0 + j, none⟩) hb, World.frozen?_of_block (a := ⟨X, 0 + j, none⟩) hb]
    exact h.there j hj
  · rw [World.cell?_of_block (a := ⟨X, 0 + j, none⟩) hb]
    exact h.range j v hv
theorem Var.below {w w' : World} {X n : Nat} {cs : List Value} (h : Var w X n cs) (hb : Below w.heap.size w w') : Var w' X n cs := h.frm (F := fun _ => False) (Frm.of_below hb) id
theorem Var.room {w : World} {X n : Nat} {cs : List Value} (h : Var w X n cs) (o k : Nat) (hk : o + k ≤ n) : w.there X o k := fun j hj => by
  have := h.there (o + j) (by omega)
  rwa [Nat.zero_add] at this
theorem Var.row {w : World} {X n : Nat} {cs : List Value} (h : Var w X n cs) (vs : List Value) (o : Nat) (ho : cs.length = o) (hn : o + vs.length ≤ n) : Var (w.setCells X o vs) X n (cs ++ vs) := by
  subst ho
  refine ⟨World.there_setCells h.there _ _ _, fun j v hv => ?_, by rw [size_setCells]; exact h.lt⟩
  by_cases hj : j < cs.length
  · rw [List.getElem?_append_left hj] at hv
    exact World.rangeAt_setCells_apart h.range X cs.length vs (Or.inr (Or.inl (by omega))) j v hv
  · rw [List.getElem?_append_right (by omega)] at hv
    have := World.rangeAt_setCells_same w X cs.length vs (h.room _ _ hn) _ _ hv
    rwa [show cs.length + (j - cs.length) = 0 + j by omega] at this
theorem Var.cell {w : World} {X n : Nat} {cs : List Value} (h : Var w X n cs) (v : Value) (o : Nat) (ho : cs.length = o) (hn : o + 1 ≤ n) : Var (w.setCell ⟨X, o, none⟩ v) X n (cs ++ [v]) := h.row [v] o ho hn
theorem Var.some {w : World} {X n : Nat} {cs : List Value} (h : Var w X n cs) (o : Nat) (hn : o < n) : (∃ v, w.cell? ⟨X, o, none⟩ = some v) ∧ w.frozen? ⟨X, o, none⟩ = false := by
  have := h.there o hn
  rw [Nat.zero_add] at this
  exact ⟨Option.isSome_iff_exists.1 this.1, this.2⟩
/-- What lies behind the part that is filled is as it was. -/
structure Fill (w : World) (X : Nat) (Z cs : List Value) : Prop extends Var w X Z.length cs where
  rest : ∀ j v, cs.length ≤ j → Z[j]? = Option.some v → w.cell? ⟨X, j, none⟩ = Option.some v
theorem Fill.new {w : World} {X : Nat} {Z : List Value} {T : TypeId} (h : w.heap[X]? = Option.some (.cells Z.toArray T (0, 0))) : Fill w X Z [] :=
  ⟨by have := Var.new h; rwa [List.size_toArray] at this, fun j v _ hv => by rw [Lib.cell_of_heap h, List.getElem?_toArray]; exact hv⟩
theorem Fill.frm {w w' : World} {X : Nat} {Z cs : List Value} (h : Fill w X Z cs) {F : Nat → Prop} (hf : Frm F w w') (hF : ¬ F X) : Fill w' X Z cs :=
  ⟨h.toVar.frm hf hF, fun j v hj hv => by rw [World.cell?_of_block (a := ⟨X, j, none⟩) (hf.block X h.lt hF)]; exact h.rest j v hj hv⟩
theorem Fill.row {w : World} {X : Nat} {Z cs : List Value} (h : Fill w X Z cs) (vs : List Value) (o : Nat) (ho : cs.length = o) (hn : o + vs.length ≤ Z.length) : Fill (w.setCells X o vs) X Z (cs ++ vs) :=
  ⟨h.toVar.row vs o ho hn, fun j v hj hv => by
    rw [List.length_append] at hj
    rw [World.cell?_setCells_out X vs o w ⟨X, j, none⟩ (fun _ _ => Or.inr (by show o + vs.length ≤ j; omega))]
    exact h.rest j v (by omega) hv⟩
theorem Fill.cell {w : World} {X : Nat} {Z cs : List Value} (h : Fill w X Z cs) (v : Value) (o : Nat) (ho : cs.length = o) (hn : o + 1 ≤ Z.length) : Fill (w.setCell ⟨X, o, none⟩ v) X Z (cs ++ [v]) := h.row [v] o ho hn
theorem Fill.old {w : World} {X : Nat} {Z cs : List Value} (h : Fill w X Z cs) (o : Nat) (v : Value) (ho : cs.length = o) (hv : Z[o]? = Option.some v) : w.cell? ⟨X, o, none⟩ = Option.some v ∧ w.frozen? ⟨X, o, none⟩ = false :=
  ⟨h.rest o v (by omega) hv, (h.toVar.some o (List.getElem?_eq_some_iff.1 hv).1).2⟩
end Go.Proofs.YtdgaoebjbhomdaaDoor.Deed
