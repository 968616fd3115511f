/- equality of structs that hold arrays, by their fields. -/
import Derived.Test.YtdgaoebjbhomdaaDoorM6
namespace Go.Proofs.YtdgaoebjbhomdaaDoor.Deed
open Go.RowKit Go.Proofs.YtdgaoebjbhomdaaDoor.Sha Go.Proofs.YtdgaoebjbhomdaaDoor.Tree Go.Proofs.YtdgaoebjbhomdaaDoor.Gr Go.Proofs.YtdgaoebjbhomdaaDoor.Digit
theorem eqFields_cons {P : Program} (w : World) (d : Nat) (xs ys : Array Value) (f : Field) (fs : List Field) (hn : f.name ≠ "_") {a b : Value} {r q : Bool}
    (ha : (part f.type xs f.offset).run P w = .ok a w) (hb : (part f.type ys f.offset).run P w = .ok b w) (he : (Op.equalIn d f.type a b).run P w = .ok r w) (hq : (Op.eqFields d xs ys fs).run P w = .ok q w) :
    (Op.eqFields d xs ys (f :: fs)).run P w = .ok (r && q) w := by
  rw [Op.eqFields, if_pos hn]
  simp only [Sem.run_bind, ha, hb, he, Result.andThen_ok]
  cases r
  · simp
  · simpa using hq
theorem extract_mid (l m r : List Value) (o n : Nat) (ho : l.length = o) (hn : o + m.length = n) : (l ++ (m ++ r)).toArray.extract o n = m.toArray := by
  subst ho hn
  apply Array.ext'
  rw [Array.toList_extract]
  simp [List.extract]
theorem part_agg {w : World} (T : TypeId) (n : Nat) (hu : ((Tryd.prog.underlying T).map fun d => match d with | .struct _ | .array _ _ => true | _ => false) = some true) (hi : (Tryd.prog.info? T).map (·.size) = some n) (cs : Array Value) (o : Nat) :
    (part T cs o).run Tryd.prog w = .ok (.agg (cs.extract o (o + n))) w := by
  cases h1 : Tryd.prog.underlying T with
  | none => simp [h1] at hu
  | some d =>
    cases h2 : Tryd.prog.info? T with
    | none => simp [h2] at hi
    | some i =>
      simp only [h1, h2, Option.map_some, Option.some.injEq] at hu hi
      have ha : (isAgg T).run Tryd.prog w = .ok true w := by
        simp [isAgg, run_underlying h1]
        cases d <;> simp_all
      simp [part, ha, sizeOf, typeInfo, h2, hi]
theorem part_one {w : World} (T : TypeId) (hu : ((Tryd.prog.underlying T).map fun d => match d with | .struct _ | .array _ _ => true | _ => false) = some false) (cs : Array Value) (o : Nat) (v : Value) (hc : cs[o]? = some v) :
    (part T cs o).run Tryd.prog w = .ok v w := by
  cases h1 : Tryd.prog.underlying T with
  | none => simp [h1] at hu
  | some d =>
    simp only [h1, Option.map_some, Option.some.injEq] at hu
    have ha : (isAgg T).run Tryd.prog w = .ok false w := by
      simp [isAgg, run_underlying h1]
      cases d <;> simp_all
    simp [part, ha, hc]
theorem eq_num (d : Nat) (x y : UInt64) (w : World) : (Op.equalIn (d + 1) 22 (nV x) (nV y)).run Tryd.prog w = .ok (decide (x = y)) w := by
  unfold nV
  rw [run_equalIn_int w d 22 .u64 .u64 _ _ Tryd.underlying22]
  congr 1
  by_cases h : x = y
  · subst h; simp
  · have : x.toNat ≠ y.toNat := fun e => h (UInt64.toNat_inj.1 e)
    simp [h]
    omega
theorem eq_str (d : Nat) (x y : ByteArray) (w : World) : (Op.equalIn (d + 1) 9 (.string x) (.string y)).run Tryd.prog w = .ok (decide (x = y)) w := by
  rw [run_equalIn_string w d 9 x y Tryd.underlying9]
  congr 1
  by_cases h : x = y
  · subst h; simp
  · have : x.toList ≠ y.toList := fun e => h (by rw [ByteArray.toList_eq, ByteArray.toList_eq] at e; exact ByteArray.ext (Array.ext' e))
    simp [h, this]
theorem eq_hashD (d : Nat) (x y : H32) (w : World) : (Op.equalIn (d + 2) 29 (.agg (valsB x.1).toArray) (.agg (valsB y.1).toArray)).run Tryd.prog w = .ok (decide (x = y)) w := by
  rw [valsB_cell, valsB_cell, run_equalIn_bytes w d 29 5 32 Tryd.underlying29 Tryd.underlying5 Tryd.sizeOf5 x.1 y.1 x.2 y.2]
  congr 1
  by_cases h : x = y
  · subst h; simp
  · have : x.1 ≠ y.1 := fun e => h (Subtype.ext e)
    simp [h, this]
theorem part_h (w : World) (l r : List Value) (x : H32) (o : Nat) (ho : l.length = o) : (part 29 (l ++ (valsB x.1 ++ r)).toArray o).run Tryd.prog w = .ok (.agg (valsB x.1).toArray) w := by
  rw [part_agg 29 32 (by kernel_rfl) (by kernel_rfl), extract_mid l (valsB x.1) r o (o + 32) ho (by rw [valsB_32])]
theorem part_n (w : World) (l r : List Value) (x : UInt64) (o : Nat) (ho : l.length = o) : (part 22 (l ++ (nV x :: r)).toArray o).run Tryd.prog w = .ok (nV x) w :=
  part_one 22 (by kernel_rfl) _ o _ (by subst ho; simp)
theorem part_s (w : World) (l r : List Value) (x : ByteArray) (o : Nat) (ho : l.length = o) : (part 9 (l ++ (.string x :: r)).toArray o).run Tryd.prog w = .ok (.string x) w :=
  part_one 9 (by kernel_rfl) _ o _ (by subst ho; simp)
end Go.Proofs.YtdgaoebjbhomdaaDoor.Deed
