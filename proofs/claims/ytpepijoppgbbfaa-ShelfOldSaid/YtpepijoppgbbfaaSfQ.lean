/- shelf: arguments that came in: slices of things. -/
import Derived.Test.YtpepijoppgbbfaaSfL4
import Derived.ProofKit
import Derived.OpenShut
import Derived.Deep.Slices
import Derived.Deep.Fields
namespace Go.Proofs.Ytpepijoppgbbfaa.Shf
open Go.RowKit Go.ChangeShapes Go.WideShapes Go.Deep Go.Proofs.Ytpepijoppgbbfaa.Gr

instance : Inhabited OpT := ⟨⟨0, 0, ⟨#[]⟩, 0⟩⟩
section
variable {H : Type} {enc : TypeId × Value → H} {P : Program} {w : World} {base : Nat} {spare : Nat → Bool} {held : Bool}

theorem open_kind {α : Type} [Inhabited α] {K : Kind P α} {good : α → Prop} {t : TypeId} (ht : P.underlying t = some (.slice K.T)) (hC : P.cellsOf K.T = K.size)
    (hel : ∀ (fuel : Nat) (cs : List Value) (x : DataW H × List MemPlace), DataW.trod enc P w base spare held fuel K.T cs = some x → ∃ y, cs = K.enc y ∧ good y) {r : Reach} {b0 : Nat} {v : Value} {d : DataW H} {p : List MemPlace}
    (hv : Value.okWide P w r b0 t v) (h : DataW.Trod enc P w base spare held t v d p) : ∃ L : List α, K.At w v L ∧ L.length ≤ 9223372036854775807 ∧ ∀ y ∈ L, good y := by
  obtain ⟨a, len, cap, rfl⟩ := okWide_slice ht hv
  obtain ⟨fuel, hf⟩ := h
  rcases open_slice ht hf with ⟨hcs, _⟩ | ⟨x, l, c, m, n, D, Pl, hcs, _, hl, hm, hmm, _, hi⟩
  · simp [Value.cells] at hcs
    obtain ⟨rfl, rfl, rfl⟩ := hcs
    exact ⟨[], Kind.At.nil _ _, by simp, fun y hy => by simp at hy⟩
  · simp [Value.cells] at hcs
    obtain ⟨rfl, rfl, rfl⟩ := hcs
    have hlm : len ≤ m := by rw [hmm]; split <;> omega
    have hlM : len ≤ 9223372036854775807 := by unfold maxLen at hm; omega
    have hall : ∀ i, i < len → ∃ y : α, good y ∧ ∀ j : Nat, j < K.size → w.cell? ((x.add (i * K.size)).add j) = (K.enc y)[j]? := fun i hil => by
      obtain ⟨cs', h1, h2⟩ := hi i (by omega)
      rw [hC] at h1
      obtain ⟨_, _, h3⟩ := World.cells?_some h1
      obtain ⟨y, hy, hg⟩ := hel _ _ _ h2
      exact ⟨y, hg, fun j hj => by rw [h3 j hj, hy]⟩
    by_cases h0 : len = 0
    · subst h0
      exact ⟨[], Kind.At.nil _ _, by simp, fun y hy => by simp at hy⟩
    · obtain ⟨g, o, sp⟩ := x
      have hsp : sp = none := by
        obtain ⟨y, _, h⟩ := hall 0 (by omega)
        have h1 := h 0 K.pos
        have hlt : 0 < (K.enc y).length := by rw [K.len]; exact K.pos
        rw [List.getElem?_eq_getElem hlt] at h1
        simp only [Addr.add, Nat.zero_mul, if_true] at h1
        cases sp with
        | none => rfl
        | some k =>
          unfold World.cell? at h1
          simp only [Option.isSome_some, if_true] at h1
          split at h1 <;> simp at h1
      subst hsp
      obtain ⟨f, hfs⟩ := choose_lt hall
      refine ⟨(List.range len).map f, Or.inr ⟨g, o, cap, by simp, by simp; omega, by simpa using hl, fun j u hj => ?_⟩, by simpa using hlM, fun y hy => ?_⟩
      · have hj' := (List.getElem?_eq_some_iff.1 hj).1
        rw [K.flat_len, List.length_map, List.length_range] at hj'
        have hi : j / K.size < len := Nat.div_lt_of_lt_mul (by rw [Nat.mul_comm]; exact hj')
        have hr : j % K.size < K.size := Nat.mod_lt _ K.pos
        have hje : j / K.size * K.size + j % K.size = j := by rw [Nat.mul_comm]; exact Nat.div_add_mod j K.size
        have hy : ((List.range len).map f)[j / K.size]? = some (f (j / K.size)) := by rw [List.getElem?_map, List.getElem?_range hi]; rfl
        have hu : (K.enc (f (j / K.size)))[j % K.size]? = some u := by
          have hlt : j % K.size < (K.enc (f (j / K.size))).length := by rw [K.len]; exact hr
          have h2 := K.flat_at _ (j / K.size) _ (j % K.size) _ hy (List.getElem?_eq_getElem hlt)
          rw [hje, hj] at h2
          rw [List.getElem?_eq_getElem hlt]
          exact h2.symm
        have h5 := (hfs _ hi).2 _ hr
        rw [Addr.add_mid, Addr.add_mid, Nat.add_assoc, hje] at h5
        rw [h5]
        exact hu
      · obtain ⟨i, hil, rfl⟩ := List.mem_map.1 hy
        rw [List.mem_range] at hil
        exact (hfs i hil).1
end

section
variable {H : Type} {enc : TypeId × Value → H} {w : World} {base : Nat} {spare : Nat → Bool} {held : Bool}
theorem open_keys {r : Reach} {b0 : Nat} {v : Value} {d : DataW H} {p : List MemPlace} (hv : Value.okWide Try.prog w r b0 48 v) (h : DataW.Trod enc Try.prog w base spare held 48 v d p) :
    ∃ L : List ByteArray, KS.At w v L ∧ L.length ≤ 9223372036854775807 ∧ ∀ y ∈ L, y.size ≤ 9223372036854775807 :=
  open_kind (K := KS) Try.underlying48 (by kernel_rfl) (fun fuel cs x hf => by
    obtain ⟨s, e, _, hs⟩ := DataW.trod_string Try.underlying9 hf
    exact ⟨s, e, by unfold maxLen at hs; omega⟩) hv h
theorem open_nums {r : Reach} {b0 : Nat} {v : Value} {d : DataW H} {p : List MemPlace} (hv : Value.okWide Try.prog w r b0 49 v) (h : DataW.Trod enc Try.prog w base spare held 49 v d p) :
    ∃ L : List Int, KI.At w v L ∧ L.length ≤ 9223372036854775807 ∧ ∀ y ∈ L, (Lit.int .i64 y).wf = true :=
  open_kind (K := KI) Try.underlying49 (by kernel_rfl) (fun fuel cs x hf => by
    obtain ⟨n, e, _, hn⟩ := DataW.trod_int Try.underlying3 hf
    exact ⟨n, e, hn⟩) hv h
theorem open_script {r : Reach} {b0 : Nat} {v : Value} {d : DataW H} {p : List MemPlace} (hv : Value.okWide Try.prog w r b0 34 v) (h : DataW.Trod enc Try.prog w base spare held 34 v d p) :
    ∃ L : List OpT, KO.At w v L ∧ L.length ≤ 9223372036854775807 ∧ ∀ y ∈ L, (Lit.int .i64 y.n).wf = true :=
  open_kind (K := KO) Try.underlying34 (by kernel_rfl) (fun fuel cs x hf => by
    obtain ⟨xs, n, _, _, hlen, hxl, hfd⟩ := DataW.trod_struct Try.underlying39 hf
    rw [show Try.prog.cellsOf 39 = 4 by kernel_rfl] at hlen
    obtain ⟨y0, f0⟩ : ∃ y, DataW.trod enc Try.prog w base spare held n 3 ((cs.drop 0).take (Try.prog.cellsOf 3)) = some y := ⟨_, (hfd 0 _ rfl).trans (List.getElem?_eq_getElem (by rw [hxl]; decide))⟩
    obtain ⟨y1, f1⟩ : ∃ y, DataW.trod enc Try.prog w base spare held n 3 ((cs.drop 1).take (Try.prog.cellsOf 3)) = some y := ⟨_, (hfd 1 _ rfl).trans (List.getElem?_eq_getElem (by rw [hxl]; decide))⟩
    obtain ⟨y2, f2⟩ : ∃ y, DataW.trod enc Try.prog w base spare held n 9 ((cs.drop 2).take (Try.prog.cellsOf 9)) = some y := ⟨_, (hfd 2 _ rfl).trans (List.getElem?_eq_getElem (by rw [hxl]; decide))⟩
    obtain ⟨y3, f3⟩ : ∃ y, DataW.trod enc Try.prog w base spare held n 26 ((cs.drop 3).take (Try.prog.cellsOf 26)) = some y := ⟨_, (hfd 3 _ rfl).trans (List.getElem?_eq_getElem (by rw [hxl]; decide))⟩
    rw [show Try.prog.cellsOf 3 = 1 by kernel_rfl] at f0 f1
    rw [show Try.prog.cellsOf 9 = 1 by kernel_rfl] at f2
    rw [show Try.prog.cellsOf 26 = 1 by kernel_rfl] at f3
    obtain ⟨a0, e0, _, _⟩ := DataW.trod_int Try.underlying3 f0
    obtain ⟨a1, e1, _, w1⟩ := DataW.trod_int Try.underlying3 f1
    obtain ⟨a2, e2, _, _⟩ := DataW.trod_string Try.underlying9 f2
    obtain ⟨a3, e3, _, w3⟩ := DataW.trod_int Try.underlying26 f3
    have h3 : 0 ≤ a3 := (bounds_u64 w3).1
    refine ⟨⟨a0, a1, a2, a3.toNat⟩, ?_, w1⟩
    have sp : ∀ i, cs.drop i = (cs.drop i).take 1 ++ cs.drop (i + 1) := fun i => by
      rw [← List.drop_drop]; exact (List.take_append_drop 1 (cs.drop i)).symm
    rw [show cs = cs.drop 0 from rfl, sp 0, sp (0 + 1), sp (0 + 1 + 1), sp (0 + 1 + 1 + 1), e0, e1, e2, e3, List.drop_of_length_le (by omega)]
    show _ = [Value.int .i64 a0, .int .i64 a1, .string a2, .int .u64 ((a3.toNat : Nat) : Int)]
    rw [Int.toNat_of_nonneg h3]
    rfl) hv h
end

theorem law_ShelfPlays (v0 : Value) (a0 : List OpT) (w : World) (w0 : KO.At w v0 a0) (x0 : a0.length ≤ 9223372036854775807) :
    Calls Try.prog 4 #[v0] w fun e w' => e = .returned (.bool true) ∧ Below w.heap.size w w' := plays_any v0 a0 w w0 x0
theorem law_ShelfEarly (v0 : Value) (a0 : List ByteArray) (a1 : Int) (w : World) (w0 : KS.At w v0 a0) (x0 : a0.length ≤ 9223372036854775807) :
    Calls Try.prog 7 #[v0, .int .i64 a1] w fun e w' => e = .returned (.bool true) ∧ Below w.heap.size w w' := early_any v0 a0 a1 w w0 x0
theorem law_ShelfOne (v0 v1 : Value) (a0 : List ByteArray) (a1 : List Int) (w : World) (w0 : KS.At w v0 a0) (x0 : a0.length ≤ 9223372036854775807) (y0 : ∀ y ∈ a0, y.size ≤ 9223372036854775807) (w1 : KI.At w v1 a1) (x1 : a1.length ≤ 9223372036854775807) :
    Calls Try.prog 6 #[v0, v1] w fun e w' => e = .returned (.bool true) ∧ Below w.heap.size w w' := one_any v0 v1 a0 a1 w w0 w1 x0 x1 y0

end Go.Proofs.Ytpepijoppgbbfaa.Shf
