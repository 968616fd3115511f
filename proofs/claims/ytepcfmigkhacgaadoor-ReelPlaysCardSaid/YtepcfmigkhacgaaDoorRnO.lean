/- reel: what the listed variable gives; arguments that came in. -/
import Derived.Test.YtepcfmigkhacgaaDoorRmI
import Derived.Test.YtepcfmigkhacgaaDoorRows
import Derived.ProofKit
import Derived.OpenShut
import Derived.Deep.Slices
import Derived.Deep.Fields
import Derived.LaidMore
import Derived.MakeChecks
namespace Go.Proofs.YtepcfmigkhacgaaDoor.Rl
open Go.RowKit Go.ChangeShapes Go.WideShapes Go.Deep Go.Proofs.YtepcfmigkhacgaaDoor.Gr Go.Proofs.YtepcfmigkhacgaaDoor.Frame Go.Proofs.YtepcfmigkhacgaaDoor.Dk

abbrev laidL : List (String × DataW Unit) := [("mintage/frame.added", Rows.laid_mintage_frame_added)]
theorem gAdded : Tryd.prog.globalNamed "mintage/frame.added" = some 0 := by kernel_rfl
theorem tAdded : (Tryd.prog.globals[0]?).map (·.type) = some 127 := by kernel_rfl
theorem added_at : ∀ i, i < 16 → ∀ d, (match (Rows.laid_mintage_frame_added : DataW Unit) with | .agg l => l | _ => [])[i]? = some d → d = .lit (.int .u32 ((tabN.getD i 0 : Nat) : Int)) := by
  intro i hi d h
  have e : (match (Rows.laid_mintage_frame_added : DataW Unit) with | .agg l => l | _ => []) = (List.range 16).map fun i => (.lit (.int .u32 ((tabN.getD i 0 : Nat) : Int)) : DataW Unit) := rfl
  rw [e, List.getElem?_map, List.getElem?_range hi] at h
  simpa using h.symm
set_option maxRecDepth 100000 in
/-- The listed variable's cells. -/
theorem of_laid {W : World} (h : laidMetH Tryd.prog laidL W) : Tab W := by
  rw [MakeChecks.laidMetH_plain _ _ _ (by kernel_rfl)] at h
  obtain ⟨ps, ⟨g0, t0, cs0, f0, p0, q0, hg0, ht0, hv0, hd0, _, _⟩, _, _⟩ := h
  obtain rfl := Option.some.inj (gAdded.symm.trans hg0)
  obtain rfl := Option.some.inj (tAdded.symm.trans ht0)
  obtain ⟨xs, m, rfl, hx, hlen, hn, hel⟩ := DataW.trod_array Tryd.underlying127 hd0
  have c1 : Tryd.prog.cellsOf 111 = 1 := by kernel_rfl
  simp only [Prod.mk.injEq] at hx
  intro i hi
  have hE := hel i hi
  rw [c1, Nat.mul_one, List.getElem?_eq_getElem (by omega)] at hE
  obtain ⟨k, e1, e2, _⟩ := DataW.trod_int Tryd.underlying111 hE
  have hd : (match (Rows.laid_mintage_frame_added : DataW Unit) with | .agg l => l | _ => [])[i]? = some (xs[i]'(by omega)).1 := by
    rw [hx.1]
    show (xs.map (·.1))[i]? = _
    rw [List.getElem?_map, List.getElem?_eq_getElem (by omega)]
    rfl
  have hk := added_at i hi _ hd
  rw [e2] at hk
  have hk' : k = ((tabN.getD i 0 : Nat) : Int) := by
    have := DataW.lit.inj hk
    simpa using this
  subst hk'
  rw [World.var?_cell hg0 hv0 i]
  have h2 : ((cs0.toList.drop i).take 1)[0]? = some (Value.int .u32 ((tabN.getD i 0 : Nat) : Int)) := by rw [e1]; rfl
  simpa using h2


instance : Inhabited OpR := ⟨⟨0, 0, ⟨#[]⟩, none, 0, 0⟩⟩
section
variable {H : Type} {enc : TypeId × Value → H} {P : Program} {w : World} {base : Nat} {spare : Nat → Bool} {held : Bool}

theorem open_row {α : Type} [Inhabited α] {K : Kind P α} {good : α → Prop} {t : TypeId} (ht : P.underlying t = some (.slice K.T)) (hC : P.cellsOf K.T = K.size)
    (hel : ∀ (fuel : Nat) (cs : List Value) (x : DataW H × List MemPlace), DataW.trod enc P w base spare held fuel K.T cs = some x → ∃ y, cs = K.enc y ∧ good y) {fuel : Nat} {cs : List Value} {x : DataW H × List MemPlace}
    (hf : DataW.trod enc P w base spare held fuel t cs = some x) : ∃ (a : Option Addr) (len cap : Nat) (L : List α), cs = [.slice a len cap] ∧ K.At w (.slice a len cap) L ∧ L.length ≤ 9223372036854775807 ∧ ∀ y ∈ L, good y := by
  rcases open_slice ht hf with ⟨hcs, _⟩ | ⟨x, len, cap, m, n, D, Pl, hcs, _, hl, hm, hmm, _, hi⟩
  · exact ⟨none, 0, 0, [], hcs, Kind.At.nil _ _, by simp, fun y hy => by simp at hy⟩
  · refine ⟨some x, len, cap, ?_⟩
    have hlm : len ≤ m := by rw [hmm]; split <;> omega
    have hlM : len ≤ 9223372036854775807 := by unfold maxLen at hm; omega
    have hall : ∀ i, i < len → ∃ y : α, good y ∧ ∀ j : Nat, j < K.size → w.cell? ((x.add (i * K.size)).add j) = (K.enc y)[j]? := fun i hil => by
      obtain ⟨cs', h1, h2⟩ := hi i (by omega)
      rw [hC] at h1
      obtain ⟨_, _, h3⟩ := World.cells?_some h1
      obtain ⟨y, hy, hg⟩ := hel _ _ _ h2
      exact ⟨y, hg, fun j hj => by rw [h3 j hj, hy]⟩
    by_cases h0 : len = 0
    · subst h0
      exact ⟨[], hcs, Kind.At.nil _ _, by simp, fun y hy => by simp at hy⟩
    · obtain ⟨g, o, sp⟩ := x
      have hsp : sp = none := by
        obtain ⟨y, _, h⟩ := hall 0 (by omega)
        have h1 := h 0 K.pos
        have hlt : 0 < (K.enc y).length := by rw [K.len]; exact K.pos
        rw [List.getElem?_eq_getElem hlt] at h1
        simp only [Addr.add, Nat.zero_mul, if_true] at h1
        cases sp with
        | none => rfl
        | some k =>
          unfold World.cell? at h1
          simp only [Option.isSome_some, if_true] at h1
          split at h1 <;> simp at h1
      subst hsp
      obtain ⟨f, hfs⟩ := choose_lt hall
      refine ⟨(List.range len).map f, hcs, Or.inr ⟨g, o, cap, by simp, by simp; omega, by simpa using hl, fun j u hj => ?_⟩, by simpa using hlM, fun y hy => ?_⟩
      · have hj' := (List.getElem?_eq_some_iff.1 hj).1
        rw [K.flat_len, List.length_map, List.length_range] at hj'
        have hi : j / K.size < len := Nat.div_lt_of_lt_mul (by rw [Nat.mul_comm]; exact hj')
        have hr : j % K.size < K.size := Nat.mod_lt _ K.pos
        have hje : j / K.size * K.size + j % K.size = j := by rw [Nat.mul_comm]; exact Nat.div_add_mod j K.size
        have hy : ((List.range len).map f)[j / K.size]? = some (f (j / K.size)) := by rw [List.getElem?_map, List.getElem?_range hi]; rfl
        have hu : (K.enc (f (j / K.size)))[j % K.size]? = some u := by
          have hlt : j % K.size < (K.enc (f (j / K.size))).length := by rw [K.len]; exact hr
          have h2 := K.flat_at _ (j / K.size) _ (j % K.size) _ hy (List.getElem?_eq_getElem hlt)
          rw [hje, hj] at h2
          rw [List.getElem?_eq_getElem hlt]
          exact h2.symm
        have h5 := (hfs _ hi).2 _ hr
        rw [Addr.add_mid, Addr.add_mid, Nat.add_assoc, hje] at h5
        rw [h5]
        exact hu
      · obtain ⟨i, hil, rfl⟩ := List.mem_map.1 hy
        rw [List.mem_range] at hil
        exact (hfs i hil).1
theorem open_kind {α : Type} [Inhabited α] {K : Kind P α} {good : α → Prop} {t : TypeId} (ht : P.underlying t = some (.slice K.T)) (hC : P.cellsOf K.T = K.size)
    (hel : ∀ (fuel : Nat) (cs : List Value) (x : DataW H × List MemPlace), DataW.trod enc P w base spare held fuel K.T cs = some x → ∃ y, cs = K.enc y ∧ good y) {r : Reach} {b0 : Nat} {v : Value} {d : DataW H} {p : List MemPlace}
    (hv : Value.okWide P w r b0 t v) (h : DataW.Trod enc P w base spare held t v d p) : ∃ L : List α, K.At w v L ∧ L.length ≤ 9223372036854775807 ∧ ∀ y ∈ L, good y := by
  obtain ⟨a, len, cap, rfl⟩ := okWide_slice ht hv
  obtain ⟨fuel, hf⟩ := h
  obtain ⟨a', l', c', L, hcs, h1⟩ := open_row ht hC hel hf
  simp [Value.cells] at hcs
  obtain ⟨rfl, rfl, rfl⟩ := hcs
  exact ⟨L, h1⟩
end

section
variable {H : Type} {enc : TypeId × Value → H} {w : World} {base : Nat} {spare : Nat → Bool} {held : Bool}
theorem open_num (fuel : Nat) (cs : List Value) (x : DataW H × List MemPlace) (hf : DataW.trod enc Tryd.prog w base spare held fuel 3 cs = some x) : ∃ y : Int, cs = KI.enc y ∧ (Lit.int .i64 y).wf = true := by
  obtain ⟨n, e, _, hn⟩ := DataW.trod_int Tryd.underlying3 hf
  exact ⟨n, e, hn⟩
set_option maxRecDepth 100000 in
theorem open_nums {r : Reach} {b0 : Nat} {v : Value} {d : DataW H} {p : List MemPlace} (hv : Value.okWide Tryd.prog w r b0 35 v) (h : DataW.Trod enc Tryd.prog w base spare held 35 v d p) :
    ∃ L : List Int, KI.At w v L ∧ L.length ≤ 9223372036854775807 ∧ ∀ y ∈ L, (Lit.int .i64 y).wf = true :=
  open_kind (K := KI) Tryd.underlying35 (by kernel_rfl) open_num hv h
set_option maxRecDepth 100000 in
theorem open_script {r : Reach} {b0 : Nat} {v : Value} {d : DataW H} {p : List MemPlace} (hv : Value.okWide Tryd.prog w r b0 37 v) (h : DataW.Trod enc Tryd.prog w base spare held 37 v d p) :
    ∃ L : List OpR, KE.At w v L ∧ L.length ≤ 9223372036854775807 ∧ ∀ y ∈ L, OpROk w y :=
  open_kind (K := KE) Tryd.underlying37 (by kernel_rfl) (fun fuel cs x hf => by
    obtain ⟨xs, n, _, _, hlen, hxl, hfd⟩ := DataW.trod_struct Tryd.underlying45 hf
    rw [show Tryd.prog.cellsOf 45 = 4 by kernel_rfl] at hlen
    obtain ⟨y0, f0⟩ : ∃ y, DataW.trod enc Tryd.prog w base spare held n 3 ((cs.drop 0).take (Tryd.prog.cellsOf 3)) = some y := ⟨_, (hfd 0 _ rfl).trans (List.getElem?_eq_getElem (by rw [hxl]; decide))⟩
    obtain ⟨y1, f1⟩ : ∃ y, DataW.trod enc Tryd.prog w base spare held n 3 ((cs.drop 1).take (Tryd.prog.cellsOf 3)) = some y := ⟨_, (hfd 1 _ rfl).trans (List.getElem?_eq_getElem (by rw [hxl]; decide))⟩
    obtain ⟨y2, f2⟩ : ∃ y, DataW.trod enc Tryd.prog w base spare held n 9 ((cs.drop 2).take (Tryd.prog.cellsOf 9)) = some y := ⟨_, (hfd 2 _ rfl).trans (List.getElem?_eq_getElem (by rw [hxl]; decide))⟩
    obtain ⟨y3, f3⟩ : ∃ y, DataW.trod enc Tryd.prog w base spare held n 35 ((cs.drop 3).take (Tryd.prog.cellsOf 35)) = some y := ⟨_, (hfd 3 _ rfl).trans (List.getElem?_eq_getElem (by rw [hxl]; decide))⟩
    rw [show Tryd.prog.cellsOf 3 = 1 by kernel_rfl] at f0 f1
    rw [show Tryd.prog.cellsOf 9 = 1 by kernel_rfl] at f2
    rw [show Tryd.prog.cellsOf 35 = 1 by kernel_rfl] at f3
    obtain ⟨a0, e0, _, _⟩ := DataW.trod_int Tryd.underlying3 f0
    obtain ⟨a1, e1, _, _⟩ := DataW.trod_int Tryd.underlying3 f1
    obtain ⟨a2, e2, _, w2⟩ := DataW.trod_string Tryd.underlying9 f2
    obtain ⟨ka, kn, kc, ns, e3, hk, _, hkw⟩ := open_row (K := KI) Tryd.underlying35 (by kernel_rfl) open_num f3
    refine ⟨⟨a0, a1, a2, ka, kn, kc⟩, ?_, by unfold maxLen at w2; exact w2, ns, hk, hkw⟩
    have sp : ∀ i, cs.drop i = (cs.drop i).take 1 ++ cs.drop (i + 1) := fun i => by
      rw [← List.drop_drop]; exact (List.take_append_drop 1 (cs.drop i)).symm
    rw [show cs = cs.drop 0 from rfl, sp 0, sp (0 + 1), sp (0 + 1 + 1), sp (0 + 1 + 1 + 1), e0, e1, e2, e3, List.drop_of_length_le (by omega)]
    rfl) hv h
set_option maxRecDepth 100000 in
theorem open_texts {H : Type} {enc : TypeId × Value → H} {w : World} {base : Nat} {spare : Nat → Bool} {held : Bool} {r : Reach} {b0 : Nat} {v : Value} {d : DataW H} {p : List MemPlace} (hv : Value.okWide Tryd.prog w r b0 54 v) (h : DataW.Trod enc Tryd.prog w base spare held 54 v d p) :
    ∃ L : List ByteArray, KT.At w v L ∧ L.length ≤ 9223372036854775807 ∧ ∀ y ∈ L, y.size ≤ 9223372036854775807 :=
  open_kind (K := KT) Tryd.underlying54 (by kernel_rfl) (fun fuel cs x hf => by
    obtain ⟨s, e, _, hs⟩ := DataW.trod_string Tryd.underlying9 hf
    exact ⟨s, e, by unfold maxLen at hs; omega⟩) hv h

/-- What the reach says of texts that are the first argument. -/
theorem sized_texts0 {ts : List TypeId} {v : Value} {d : DataW H} {p : List MemPlace} {gs : List (DataW H)} {L : List ByteArray} (hat : KT.At w v L) (h : DataW.Trod enc Tryd.prog w base spare held 54 v d p)
    (hsz : (DataW.weightsEach Tryd.prog ([54] ++ ts) ([d] ++ gs)).all (· ≤ reachBytes) = true) : L.length ≤ 8796093022208 := by
  obtain ⟨a, c, rfl, _⟩ := hat.form
  obtain ⟨fuel, hf⟩ := h
  have hb : Tryd.prog.bytesOf 9 = 16 := by kernel_rfl
  rcases DataW.trod_slice Tryd.underlying54 hf with ⟨hcs, _⟩ | ⟨a', len, cap, elems, rest, n, _, hcs, hx, _, _, _, hlen, _⟩
  · simp [Value.cells] at hcs
    omega
  · simp [Value.cells] at hcs
    simp only [Prod.mk.injEq] at hx
    have h1 := List.all_eq_true.1 hsz ((elems.length + rest.length) * 16) (by
      rw [hx.1]
      simp [DataW.weightsEach, DataW.weights, Tryd.underlying54, hb])
    have h2 : (elems.length + rest.length) * 16 ≤ 140737488351232 := of_decide_eq_true h1
    omega
end
end Go.Proofs.YtepcfmigkhacgaaDoor.Rl
