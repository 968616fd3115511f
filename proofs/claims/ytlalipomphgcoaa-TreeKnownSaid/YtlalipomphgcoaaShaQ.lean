/- Hashes: held against each other, read back from their digits; loads in a region that draws. -/
import Derived.Test.YtlalipomphgcoaaShaRd
import Derived.Lib.QuietBelow
import Derived.Stop.BytesEq
namespace Go.Proofs.Ytlalipomphgcoaa.Sha
open Go.RowKit

theorem valsB_cell (h : List UInt8) : valsB h = h.map Extern.Stop.cell := rfl

theorem eqIn_hash (a b : List UInt8) (ha : a.length = 32) (hb : b.length = 32) (w : World) :
    (Op.equalIn 10000 23 (.agg (valsB a).toArray) (.agg (valsB b).toArray)).run Try.prog w = .ok (a == b) w := by
  rw [valsB_cell, valsB_cell]
  exact run_equalIn_bytes w 9998 23 5 32 Try.underlying23 Try.underlying5 Try.sizeOf5 a b ha hb

theorem loadFrom_row (w : World) (g n : Nat) (t : TypeId) (cs : Array Value) (fr : Nat × Nat) (hg : w.heap[g]? = some (.cells cs t fr)) (hn : cs.size = n) :
    (loadCellsFrom ⟨g, 0, none⟩ 0 n #[]).run Try.prog w = .ok cs w := by
  subst hn
  have := run_loadCells_list (P := Try.prog) w ⟨g, 0, none⟩ cs.toList (fun j v hv => by
    have hadd : (⟨g, 0, none⟩ : Addr).add j = ⟨g, j, none⟩ := by unfold Addr.add; split <;> simp_all
    rw [hadd, cell_of_row w g j cs t fr hg]
    simpa using hv)
  simpa [loadCells] using this

theorem heap_regrown {W : World} {g : Nat} {o : Obj} (h : W.heap[g]? = some o) (d : Nat) (os : Array Obj) : (Sort.grow (redrawn W d) os).heap[g]? = some o := by
  rw [(below_regrown W d os).block g (Array.getElem?_eq_some_iff.1 h).1]
  exact h

/-- A whole array's load, in a region that draws and whose callees make memory. -/
theorem quiet_load_row {P : Program} {o : Oper} {a : Act} {W : World} {K : Act → Prop} (ty : TypeId) (x : Operand) (ho : o.op = .load ty x) (g : Nat) (hx : a.eval x = .pointer (some ⟨g, 0, none⟩)) (t : TypeId) (cs : Array Value) (fr : Nat × Nat) (d : TypeDesc)
    (hW : W.heap[g]? = some (.cells cs t fr)) (hu : P.underlying ty = some d) (hd : (match d with | .struct _ | .array _ _ => true | _ => false) = true) (hi : (P.info? ty).map (·.size) = some cs.size)
    (h : K (a.put o.dst (.agg cs))) : o.quiet P a (fun w' => ∃ p : Regrown, w' = Sort.grow (redrawn W p.d) p.os) K := by
  refine ⟨.agg cs, ?_, h⟩
  rintro w' ⟨p, rfl⟩
  unfold Oper.quietAt execOp
  simp only [ho, hx, Instr.loadAt, Instr.sureAddr, Sem.run_bind, Sem.run_pure, Result.andThen_ok, run_loadVar_row _ g t ty cs fr d (heap_regrown hW p.d p.os) hu hd hi]
  exact ⟨rfl, rfl⟩

/-- A whole array's load under a guard that holds, in a region that draws nothing. -/
theorem wpList_load_row_g {P : Program} {ops : Array Oper} {rest : List Oper} {o : Oper} {a : Act} {w : World} {Q : Exit → Act → World → Prop} (hw : Region.wanted o (yielded ops a.tmps) = true) (ty : TypeId) (x : Operand) (ho : o.op = .load ty x)
    (g : Nat) (hx : a.eval x = .pointer (some ⟨g, 0, none⟩)) (t : TypeId) (cs : Array Value) (fr : Nat × Nat) (d : TypeDesc) (hg : w.heap[g]? = some (.cells cs t fr))
    (hu : P.underlying ty = some d) (hd : (match d with | .struct _ | .array _ _ => true | _ => false) = true) (hi : (P.info? ty).map (·.size) = some cs.size)
    (h : wpList P ops Q rest (a.put o.dst (.agg cs)) w) : wpList P ops Q (o :: rest) a w :=
  wpList_step fun K hK => by
    rw [if_pos hw]
    exact wp_load_row ty x ho g hx t cs fr d hg hu hd hi (hK _ _ h)
/-- .. and an array that is built of constants. -/
theorem wpList_build_g {P : Program} {ops : Array Oper} {rest : List Oper} {o : Oper} {a : Act} {w : World} {Q : Exit → Act → World → Prop} (hw : Region.wanted o (yielded ops a.tmps) = true) (t : TypeId) (parts : Array (Nat × Operand)) (ho : o.op = .build t parts) (C : Array Value)
    (hf : P.built t (parts.map fun (i, x) => (i, a.eval x)).toList = some C) (h : wpList P ops Q rest (a.put o.dst (.agg C)) w) : wpList P ops Q (o :: rest) a w :=
  wpList_step fun K hK => by
    rw [if_pos hw]
    refine wp_build t parts ho (by rw [hf]; rfl) ?_
    rw [hf]
    exact hK _ _ h

theorem unhex_hex (h : List UInt8) : unhex (hexL h) = h := by
  induction h with
  | nil => rfl
  | cons b h ih =>
    rw [hexL, unhex, ih]
    have h1 := valD_hexD ⟨b.toNat / 16, by have := b.toNat_lt; omega⟩
    have h2 := valD_hexD ⟨b.toNat % 16, by omega⟩
    simp only at h1 h2
    rw [h1, h2]
    congr 1
    apply UInt8.toNat_inj.1
    rw [UInt8.toNat_ofNat']
    have := b.toNat_lt
    omega
theorem hex_all (h : List UInt8) : (hexL h).all isHex = true := by
  induction h with
  | nil => rfl
  | cons b h ih =>
    have h1 := valD_hexD ⟨b.toNat / 16, by have := b.toNat_lt; omega⟩
    have h2 := valD_hexD ⟨b.toNat % 16, by omega⟩
    simp only at h1 h2
    simp [hexL, isHex, h1, h2, ih]
    omega
theorem read_hex (h : List UInt8) (hl : h.length = 32) : readF (hexL h) = (h, 0) := by
  unfold readF
  rw [if_pos ⟨by rw [hexL_length, hl], hex_all h⟩, unhex_hex]
theorem hexL_inj {a b : List UInt8} (h : hexL a = hexL b) : a = b := by rw [← unhex_hex a, h, unhex_hex]

end Go.Proofs.Ytlalipomphgcoaa.Sha
