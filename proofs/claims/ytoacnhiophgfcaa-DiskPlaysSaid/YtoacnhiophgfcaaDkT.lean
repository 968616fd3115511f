/- disk: arguments that came in: scripts, and what each keeps. -/
import Derived.Test.YtoacnhiophgfcaaDkS
import Derived.ProofKit
import Derived.OpenShut
import Derived.Deep.Slices
import Derived.Deep.Fields
namespace Go.Proofs.Ytoacnhiophgfcaa.Dk
open Go.RowKit Go.ChangeShapes Go.WideShapes Go.Deep Go.Proofs.Ytoacnhiophgfcaa.Gr

instance : Inhabited OpT := ⟨⟨0, 0, 0, 0, ⟨#[]⟩, none, 0, 0⟩⟩
section
variable {H : Type} {enc : TypeId × Value → H} {P : Program} {w : World} {base : Nat} {spare : Nat → Bool} {held : Bool}

theorem open_row {α : Type} [Inhabited α] {K : Kind P α} {good : α → Prop} {t : TypeId} (ht : P.underlying t = some (.slice K.T)) (hC : P.cellsOf K.T = K.size)
    (hel : ∀ (fuel : Nat) (cs : List Value) (x : DataW H × List MemPlace), DataW.trod enc P w base spare held fuel K.T cs = some x → ∃ y, cs = K.enc y ∧ good y) {fuel : Nat} {cs : List Value} {x : DataW H × List MemPlace}
    (hf : DataW.trod enc P w base spare held fuel t cs = some x) : ∃ (a : Option Addr) (len cap : Nat) (L : List α), cs = [.slice a len cap] ∧ K.At w (.slice a len cap) L ∧ L.length ≤ 9223372036854775807 ∧ ∀ y ∈ L, good y := by
  rcases open_slice ht hf with ⟨hcs, _⟩ | ⟨x, len, cap, m, n, D, Pl, hcs, _, hl, hm, hmm, _, hi⟩
  · exact ⟨none, 0, 0, [], hcs, Kind.At.nil _ _, by simp, fun y hy => by simp at hy⟩
  · refine ⟨some x, len, cap, ?_⟩
    have hlm : len ≤ m := by rw [hmm]; split <;> omega
    have hlM : len ≤ 9223372036854775807 := by unfold maxLen at hm; omega
    have hall : ∀ i, i < len → ∃ y : α, good y ∧ ∀ j : Nat, j < K.size → w.cell? ((x.add (i * K.size)).add j) = (K.enc y)[j]? := fun i hil => by
      obtain ⟨cs', h1, h2⟩ := hi i (by omega)
      rw [hC] at h1
      obtain ⟨_, _, h3⟩ := World.cells?_some h1
      obtain ⟨y, hy, hg⟩ := hel _ _ _ h2
      exact ⟨y, hg, fun j hj => by rw [h3 j hj, hy]⟩
    by_cases h0 : len = 0
    · subst h0
      exact ⟨[], hcs, Kind.At.nil _ _, by simp, fun y hy => by simp at hy⟩
    · obtain ⟨g, o, sp⟩ := x
      have hsp : sp = none := by
        obtain ⟨y, _, h⟩ := hall 0 (by omega)
        have h1 := h 0 K.pos
        have hlt : 0 < (K.enc y).length := by rw [K.len]; exact K.pos
        rw [List.getElem?_eq_getElem hlt] at h1
        simp only [Addr.add, Nat.zero_mul, if_true] at h1
        cases sp with
        | none => rfl
        | some k =>
          unfold World.cell? at h1
          simp only [Option.isSome_some, if_true] at h1
          split at h1 <;> simp at h1
      subst hsp
      obtain ⟨f, hfs⟩ := choose_lt hall
      refine ⟨(List.range len).map f, hcs, Or.inr ⟨g, o, cap, by simp, by simp; omega, by simpa using hl, fun j u hj => ?_⟩, by simpa using hlM, fun y hy => ?_⟩
      · have hj' := (List.getElem?_eq_some_iff.1 hj).1
        rw [K.flat_len, List.length_map, List.length_range] at hj'
        have hi : j / K.size < len := Nat.div_lt_of_lt_mul (by rw [Nat.mul_comm]; exact hj')
        have hr : j % K.size < K.size := Nat.mod_lt _ K.pos
        have hje : j / K.size * K.size + j % K.size = j := by rw [Nat.mul_comm]; exact Nat.div_add_mod j K.size
        have hy : ((List.range len).map f)[j / K.size]? = some (f (j / K.size)) := by rw [List.getElem?_map, List.getElem?_range hi]; rfl
        have hu : (K.enc (f (j / K.size)))[j % K.size]? = some u := by
          have hlt : j % K.size < (K.enc (f (j / K.size))).length := by rw [K.len]; exact hr
          have h2 := K.flat_at _ (j / K.size) _ (j % K.size) _ hy (List.getElem?_eq_getElem hlt)
          rw [hje, hj] at h2
          rw [List.getElem?_eq_getElem hlt]
          exact h2.symm
        have h5 := (hfs _ hi).2 _ hr
        rw [Addr.add_mid, Addr.add_mid, Nat.add_assoc, hje] at h5
        rw [h5]
        exact hu
      · obtain ⟨i, hil, rfl⟩ := List.mem_map.1 hy
        rw [List.mem_range] at hil
        exact (hfs i hil).1
theorem open_kind {α : Type} [Inhabited α] {K : Kind P α} {good : α → Prop} {t : TypeId} (ht : P.underlying t = some (.slice K.T)) (hC : P.cellsOf K.T = K.size)
    (hel : ∀ (fuel : Nat) (cs : List Value) (x : DataW H × List MemPlace), DataW.trod enc P w base spare held fuel K.T cs = some x → ∃ y, cs = K.enc y ∧ good y) {r : Reach} {b0 : Nat} {v : Value} {d : DataW H} {p : List MemPlace}
    (hv : Value.okWide P w r b0 t v) (h : DataW.Trod enc P w base spare held t v d p) : ∃ L : List α, K.At w v L ∧ L.length ≤ 9223372036854775807 ∧ ∀ y ∈ L, good y := by
  obtain ⟨a, len, cap, rfl⟩ := okWide_slice ht hv
  obtain ⟨fuel, hf⟩ := h
  obtain ⟨a', l', c', L, hcs, h1⟩ := open_row ht hC hel hf
  simp [Value.cells] at hcs
  obtain ⟨rfl, rfl, rfl⟩ := hcs
  exact ⟨L, h1⟩
end

section
variable {H : Type} {enc : TypeId × Value → H} {w : World} {base : Nat} {spare : Nat → Bool} {held : Bool}
theorem open_num (fuel : Nat) (cs : List Value) (x : DataW H × List MemPlace) (hf : DataW.trod enc Try.prog w base spare held fuel 3 cs = some x) : ∃ y : Int, cs = KI.enc y ∧ (Lit.int .i64 y).wf = true := by
  obtain ⟨n, e, _, hn⟩ := DataW.trod_int Try.underlying3 hf
  exact ⟨n, e, hn⟩
theorem open_nums {r : Reach} {b0 : Nat} {v : Value} {d : DataW H} {p : List MemPlace} (hv : Value.okWide Try.prog w r b0 33 v) (h : DataW.Trod enc Try.prog w base spare held 33 v d p) :
    ∃ L : List Int, KI.At w v L ∧ L.length ≤ 9223372036854775807 ∧ ∀ y ∈ L, (Lit.int .i64 y).wf = true :=
  open_kind (K := KI) Try.underlying33 (by kernel_rfl) open_num hv h
/-- What a script's call holds can be read. -/
def OpOk (w : World) (y : OpT) : Prop := (Lit.int .i64 y.kind).wf = true ∧ (Lit.int .i64 y.file).wf = true ∧ (Lit.int .i64 y.at_).wf = true ∧ (Lit.int .i64 y.n).wf = true ∧ y.s.size ≤ 9223372036854775807 ∧ ∃ ns : List Int, KI.At w (.slice y.kA y.kN y.kC) ns ∧ ns.length ≤ 9223372036854775807 ∧ ∀ z ∈ ns, (Lit.int .i64 z).wf = true
theorem open_script {r : Reach} {b0 : Nat} {v : Value} {d : DataW H} {p : List MemPlace} (hv : Value.okWide Try.prog w r b0 36 v) (h : DataW.Trod enc Try.prog w base spare held 36 v d p) :
    ∃ L : List OpT, KO.At w v L ∧ L.length ≤ 9223372036854775807 ∧ ∀ y ∈ L, OpOk w y :=
  open_kind (K := KO) Try.underlying36 (by kernel_rfl) (fun fuel cs x hf => by
    obtain ⟨xs, n, _, _, hlen, hxl, hfd⟩ := DataW.trod_struct Try.underlying41 hf
    rw [show Try.prog.cellsOf 41 = 6 by kernel_rfl] at hlen
    obtain ⟨y0, f0⟩ : ∃ y, DataW.trod enc Try.prog w base spare held n 3 ((cs.drop 0).take (Try.prog.cellsOf 3)) = some y := ⟨_, (hfd 0 _ rfl).trans (List.getElem?_eq_getElem (by rw [hxl]; decide))⟩
    obtain ⟨y1, f1⟩ : ∃ y, DataW.trod enc Try.prog w base spare held n 3 ((cs.drop 1).take (Try.prog.cellsOf 3)) = some y := ⟨_, (hfd 1 _ rfl).trans (List.getElem?_eq_getElem (by rw [hxl]; decide))⟩
    obtain ⟨y2, f2⟩ : ∃ y, DataW.trod enc Try.prog w base spare held n 3 ((cs.drop 2).take (Try.prog.cellsOf 3)) = some y := ⟨_, (hfd 2 _ rfl).trans (List.getElem?_eq_getElem (by rw [hxl]; decide))⟩
    obtain ⟨y3, f3⟩ : ∃ y, DataW.trod enc Try.prog w base spare held n 3 ((cs.drop 3).take (Try.prog.cellsOf 3)) = some y := ⟨_, (hfd 3 _ rfl).trans (List.getElem?_eq_getElem (by rw [hxl]; decide))⟩
    obtain ⟨y4, f4⟩ : ∃ y, DataW.trod enc Try.prog w base spare held n 9 ((cs.drop 4).take (Try.prog.cellsOf 9)) = some y := ⟨_, (hfd 4 _ rfl).trans (List.getElem?_eq_getElem (by rw [hxl]; decide))⟩
    obtain ⟨y5, f5⟩ : ∃ y, DataW.trod enc Try.prog w base spare held n 33 ((cs.drop 5).take (Try.prog.cellsOf 33)) = some y := ⟨_, (hfd 5 _ rfl).trans (List.getElem?_eq_getElem (by rw [hxl]; decide))⟩
    rw [show Try.prog.cellsOf 3 = 1 by kernel_rfl] at f0 f1 f2 f3
    rw [show Try.prog.cellsOf 9 = 1 by kernel_rfl] at f4
    rw [show Try.prog.cellsOf 33 = 1 by kernel_rfl] at f5
    obtain ⟨a0, e0, _, w0⟩ := DataW.trod_int Try.underlying3 f0
    obtain ⟨a1, e1, _, w1⟩ := DataW.trod_int Try.underlying3 f1
    obtain ⟨a2, e2, _, w2⟩ := DataW.trod_int Try.underlying3 f2
    obtain ⟨a3, e3, _, w3⟩ := DataW.trod_int Try.underlying3 f3
    obtain ⟨a4, e4, _, w4⟩ := DataW.trod_string Try.underlying9 f4
    obtain ⟨ka, kn, kc, ns, e5, hk, hkl, hkw⟩ := open_row (K := KI) Try.underlying33 (by kernel_rfl) open_num f5
    refine ⟨⟨a0, a1, a2, a3, a4, ka, kn, kc⟩, ?_, w0, w1, w2, w3, by unfold maxLen at w4; exact w4, ns, hk, hkl, hkw⟩
    have sp : ∀ i, cs.drop i = (cs.drop i).take 1 ++ cs.drop (i + 1) := fun i => by
      rw [← List.drop_drop]; exact (List.take_append_drop 1 (cs.drop i)).symm
    rw [show cs = cs.drop 0 from rfl, sp 0, sp (0 + 1), sp (0 + 1 + 1), sp (0 + 1 + 1 + 1), sp (0 + 1 + 1 + 1 + 1), sp (0 + 1 + 1 + 1 + 1 + 1), e0, e1, e2, e3, e4, e5, List.drop_of_length_le (by omega)]
    rfl) hv h
end

theorem law_DiskSure (v0 v1 v3 : Value) (a0 a1 : List OpT) (a2 : Int) (a3 : List Int) (w : World) (w0 : KO.At w v0 a0) (x0 : a0.length ≤ 9223372036854775807) (w1 : KO.At w v1 a1) (x1 : a1.length ≤ 9223372036854775807) (w3 : KI.At w v3 a3) (_x3 : a3.length ≤ 9223372036854775807) :
    Calls Try.prog 6 #[v0, v1, .int .i64 a2, v3] w fun e w' => e = .returned (.bool true) ∧ Below w.heap.size w w' := sure_any v0 v1 v3 a0 a1 a3 a2 w w0 w1 w3 x0 x1

end Go.Proofs.Ytoacnhiophgfcaa.Dk
