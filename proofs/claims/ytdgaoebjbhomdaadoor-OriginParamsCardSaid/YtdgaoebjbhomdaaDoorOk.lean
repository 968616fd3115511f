/- Arguments that came in: things of any kind, read field by field. -/
import Derived.Test.YtdgaoebjbhomdaaDoorGr
import Derived.Test.YtdgaoebjbhomdaaDoorM1
import Derived.ProofKit
import Derived.OpenShut
import Derived.Deep.Slices
import Derived.Deep.Fields
namespace Go.Proofs.YtdgaoebjbhomdaaDoor.Ok
open Go.RowKit Go.ChangeShapes Go.WideShapes Go.Deep Go.Proofs.YtdgaoebjbhomdaaDoor.Gr

section
variable {H : Type} {enc : TypeId × Value → H} {P : Program} {w : World} {base : Nat} {spare : Nat → Bool} {held : Bool}

theorem open_row {α : Type} [Inhabited α] {K : Kind P α} {good : α → Prop} {t : TypeId} (ht : P.underlying t = some (.slice K.T)) (hC : P.cellsOf K.T = K.size)
    (hel : ∀ (fuel : Nat) (cs : List Value) (x : DataW H × List MemPlace), DataW.trod enc P w base spare held fuel K.T cs = some x → ∃ y, cs = K.enc y ∧ good y) {fuel : Nat} {cs : List Value} {x : DataW H × List MemPlace}
    (hf : DataW.trod enc P w base spare held fuel t cs = some x) : ∃ (a : Option Addr) (len cap : Nat) (L : List α), cs = [.slice a len cap] ∧ K.At w (.slice a len cap) L ∧ L.length ≤ 9223372036854775807 ∧ ∀ y ∈ L, good y := by
  rcases open_slice ht hf with ⟨hcs, _⟩ | ⟨x, len, cap, m, n, D, Pl, hcs, _, hl, hm, hmm, _, hi⟩
  · exact ⟨none, 0, 0, [], hcs, Kind.At.nil _ _, by simp, fun y hy => by simp at hy⟩
  · refine ⟨some x, len, cap, ?_⟩
    have hlm : len ≤ m := by rw [hmm]; split <;> omega
    have hlM : len ≤ 9223372036854775807 := by unfold maxLen at hm; omega
    have hall : ∀ i, i < len → ∃ y : α, good y ∧ ∀ j : Nat, j < K.size → w.cell? ((x.add (i * K.size)).add j) = (K.enc y)[j]? := fun i hil => by
      obtain ⟨cs', h1, h2⟩ := hi i (by omega)
      rw [hC] at h1
      obtain ⟨_, _, h3⟩ := World.cells?_some h1
      obtain ⟨y, hy, hg⟩ := hel _ _ _ h2
      exact ⟨y, hg, fun j hj => by rw [h3 j hj, hy]⟩
    by_cases h0 : len = 0
    · subst h0
      exact ⟨[], hcs, Kind.At.nil _ _, by simp, fun y hy => by simp at hy⟩
    · obtain ⟨g, o, sp⟩ := x
      have hsp : sp = none := by
        obtain ⟨y, _, h⟩ := hall 0 (by omega)
        have h1 := h 0 K.pos
        have hlt : 0 < (K.enc y).length := by rw [K.len]; exact K.pos
        rw [List.getElem?_eq_getElem hlt] at h1
        simp only [Addr.add, Nat.zero_mul, if_true] at h1
        cases sp with
        | none => rfl
        | some k =>
          unfold World.cell? at h1
          simp only [Option.isSome_some, if_true] at h1
          split at h1 <;> simp at h1
      subst hsp
      obtain ⟨f, hfs⟩ := choose_lt hall
      refine ⟨(List.range len).map f, hcs, Or.inr ⟨g, o, cap, by simp, by simp; omega, by simpa using hl, fun j u hj => ?_⟩, by simpa using hlM, fun y hy => ?_⟩
      · have hj' := (List.getElem?_eq_some_iff.1 hj).1
        rw [K.flat_len, List.length_map, List.length_range] at hj'
        have hi : j / K.size < len := Nat.div_lt_of_lt_mul (by rw [Nat.mul_comm]; exact hj')
        have hr : j % K.size < K.size := Nat.mod_lt _ K.pos
        have hje : j / K.size * K.size + j % K.size = j := by rw [Nat.mul_comm]; exact Nat.div_add_mod j K.size
        have hy : ((List.range len).map f)[j / K.size]? = some (f (j / K.size)) := by rw [List.getElem?_map, List.getElem?_range hi]; rfl
        have hu : (K.enc (f (j / K.size)))[j % K.size]? = some u := by
          have hlt : j % K.size < (K.enc (f (j / K.size))).length := by rw [K.len]; exact hr
          have h2 := K.flat_at _ (j / K.size) _ (j % K.size) _ hy (List.getElem?_eq_getElem hlt)
          rw [hje, hj] at h2
          rw [List.getElem?_eq_getElem hlt]
          exact h2.symm
        have h5 := (hfs _ hi).2 _ hr
        rw [Addr.add_mid, Addr.add_mid, Nat.add_assoc, hje] at h5
        rw [h5]
        exact hu
      · obtain ⟨i, hil, rfl⟩ := List.mem_map.1 hy
        rw [List.mem_range] at hil
        exact (hfs i hil).1
theorem open_kind {α : Type} [Inhabited α] {K : Kind P α} {good : α → Prop} {t : TypeId} (ht : P.underlying t = some (.slice K.T)) (hC : P.cellsOf K.T = K.size)
    (hel : ∀ (fuel : Nat) (cs : List Value) (x : DataW H × List MemPlace), DataW.trod enc P w base spare held fuel K.T cs = some x → ∃ y, cs = K.enc y ∧ good y) {r : Reach} {b0 : Nat} {v : Value} {d : DataW H} {p : List MemPlace}
    (hv : Value.okWide P w r b0 t v) (h : DataW.Trod enc P w base spare held t v d p) : ∃ L : List α, K.At w v L ∧ L.length ≤ 9223372036854775807 ∧ ∀ y ∈ L, good y := by
  obtain ⟨a, len, cap, rfl⟩ := okWide_slice ht hv
  obtain ⟨fuel, hf⟩ := h
  obtain ⟨a', l', c', L, hcs, h1⟩ := open_row ht hC hel hf
  simp [Value.cells] at hcs
  obtain ⟨rfl, rfl, rfl⟩ := hcs
  exact ⟨L, h1⟩

/-- What cells of a type that can be read are. -/
def Reads (enc : TypeId × Value → H) (P : Program) (w : World) (base : Nat) (spare : Nat → Bool) (held : Bool) (T : TypeId) (good : List Value → Prop) : Prop :=
  ∀ (fuel : Nat) (cs : List Value) (x : DataW H × List MemPlace), DataW.trod enc P w base spare held fuel T cs = some x → good cs
theorem mapM_bytes {e : TypeId} (he : P.underlying e = some (.int .u8)) {m c : Nat} {cs : List Value} : ∀ (L : List Nat) (xs : List (DataW H × List MemPlace)),
    L.mapM (fun i => DataW.trod enc P w base spare held m e ((cs.drop (i * c)).take c)) = some xs →
    ∃ a : List UInt8, a.length = L.length ∧ ∀ (j i : Nat), L[j]? = some i → ∃ b, a[j]? = some b ∧ (cs.drop (i * c)).take c = [.int .u8 (b.toNat : Int)]
  | [], xs, _ => ⟨[], rfl, fun j i h => by simp at h⟩
  | i :: L, xs, h => by
    rw [List.mapM_cons] at h
    simp only [bind, Option.bind_eq_some_iff, pure, Option.some.injEq] at h
    obtain ⟨y, hy, ys, hys, rfl⟩ := h
    obtain ⟨a, hl, ha⟩ := mapM_bytes he L ys hys
    obtain ⟨n, ea, rfl, wa⟩ := DataW.trod_int he hy
    have hn : 0 ≤ n ∧ n < 256 := by
      have := bounds_u8 wa
      omega
    refine ⟨UInt8.ofNat n.toNat :: a, by simp [hl], fun j k hj => ?_⟩
    match j, hj with
    | 0, hj =>
      simp at hj
      subst hj
      refine ⟨_, rfl, ?_⟩
      rw [ea, UInt8.toNat_ofNat', Nat.mod_eq_of_lt (by omega)]
      congr 2
      omega
    | j + 1, hj => exact ha j k (by simpa using hj)
/-- A hash. -/
theorem reads_hash {e u : TypeId} (he : P.underlying e = some (.array 32 u)) (hu : P.underlying u = some (.int .u8)) (hC : P.cellsOf e = 32) (hc : P.cellsOf u = 1) :
    Reads enc P w base spare held e fun cs => ∃ a : List UInt8, a.length = 32 ∧ cs = Sha.valsB a := by
  intro fuel cs x hf
  cases fuel with
  | zero => simp [DataW.trod] at hf
  | succ m =>
    rw [DataW.trod_step] at hf
    unfold DataW.trodStep at hf
    simp only [he] at hf
    split at hf
    · rename_i hlen
      simp only [Option.map_eq_some_iff] at hf
      obtain ⟨ys, hy, _⟩ := hf
      rw [hc] at hy
      obtain ⟨a, hl, ha⟩ := mapM_bytes hu _ ys hy
      rw [List.length_range] at hl
      refine ⟨a, hl, List.ext_getElem? fun j => ?_⟩
      have hcl : cs.length = 32 := by rw [hC] at hlen; simpa using hlen
      by_cases hj : j < 32
      · obtain ⟨b, hb, hcell⟩ := ha j j (by simp [hj])
        have h1 : ((cs.drop (j * 1)).take 1)[0]? = some (.int .u8 (b.toNat : Int)) := by rw [hcell]; rfl
        have h2 : (Sha.valsB a)[j]? = some (.int .u8 (b.toNat : Int)) := by simp [Sha.valsB, hb]
        rw [h2]
        simpa using h1
      · rw [List.getElem?_eq_none (by omega), List.getElem?_eq_none (by simp [Sha.valsB]; omega)]
    · cases hf
/-- A number of 64 bits. -/
theorem reads_u64 {e : TypeId} (he : P.underlying e = some (.int .u64)) : Reads enc P w base spare held e fun cs => ∃ n : UInt64, cs = [.int .u64 (n.toNat : Int)] := by
  intro fuel cs x hf
  obtain ⟨n, e, _, hn⟩ := DataW.trod_int he hf
  have hb : 0 ≤ n ∧ n < 18446744073709551616 := by
    simp [Lit.wf, IntKind.min, IntKind.max, IntKind.bits, IntKind.signed] at hn
    omega
  refine ⟨UInt64.ofNat n.toNat, ?_⟩
  rw [e, UInt64.toNat_ofNat', Nat.mod_eq_of_lt (by omega)]
  congr 2
  omega
theorem reads_bool {e : TypeId} (he : P.underlying e = some .bool) : Reads enc P w base spare held e fun cs => ∃ b : Bool, cs = [.bool b] := by
  intro fuel cs x hf
  obtain ⟨b, e, _⟩ := DataW.trod_bool he hf
  exact ⟨b, e⟩
theorem reads_string {e : TypeId} (he : P.underlying e = some .string) : Reads enc P w base spare held e fun cs => ∃ b : ByteArray, cs = [.string b] ∧ b.size ≤ maxLen := by
  intro fuel cs x hf
  obtain ⟨b, e, _, hb⟩ := DataW.trod_string he hf
  exact ⟨b, e, hb⟩
/-- A slice of things. -/
theorem reads_slice {α : Type} [Inhabited α] {K : Kind P α} {t : TypeId} (ht : P.underlying t = some (.slice K.T)) (hC : P.cellsOf K.T = K.size) (hel : Reads enc P w base spare held K.T fun cs => ∃ y, cs = K.enc y) :
    Reads enc P w base spare held t fun cs => ∃ (a : Option Addr) (len cap : Nat) (L : List α), cs = [.slice a len cap] ∧ K.At w (.slice a len cap) L ∧ L.length ≤ 9223372036854775807 := by
  intro fuel cs x hf
  obtain ⟨a, l, c, L, h1, h2, h3, _⟩ := open_row (K := K) (good := fun _ => True) ht hC (fun f cs x h => by obtain ⟨y, hy⟩ := hel f cs x h; exact ⟨y, hy, trivial⟩) hf
  exact ⟨a, l, c, L, h1, h2, h3⟩
/-- The fields of a struct. -/
theorem reads_struct {T : TypeId} {fs : Array Field} (ht : P.underlying T = some (.struct fs)) {fuel : Nat} {cs : List Value} {x : DataW H × List MemPlace} (hf : DataW.trod enc P w base spare held fuel T cs = some x) :
    cs.length = P.cellsOf T ∧ ∀ (i : Nat) (t : TypeId) (o n : Nat) (good : List Value → Prop), (fs[i]?).map (fun f => (f.type, f.offset)) = some (t, o) → P.cellsOf t = n → Reads enc P w base spare held t good → good ((cs.drop o).take n) := by
  obtain ⟨xs, n, _, _, hlen, hxl, hfd⟩ := DataW.trod_struct ht hf
  refine ⟨hlen, fun i t o k good hi hk hr => ?_⟩
  obtain ⟨f, hif, hq⟩ := Option.map_eq_some_iff.1 hi
  simp only [Prod.mk.injEq] at hq
  obtain ⟨rfl, rfl⟩ := hq
  subst hk
  have hil := (Array.getElem?_eq_some_iff.1 hif).1
  obtain ⟨y, hy⟩ : ∃ y, xs[i]? = some y := ⟨_, List.getElem?_eq_getElem (by omega)⟩
  exact hr n _ y ((hfd i f hif).trans hy)
/-- Cells, piece by piece. -/
theorem pieces2 {cs : List Value} {a b : Nat} {x y : List Value} (hl : cs.length = a + b) (h1 : (cs.drop 0).take a = x) (h2 : (cs.drop a).take b = y) : cs = x ++ y := by
  subst h1 h2
  rw [List.drop_zero, List.take_of_length_le (i := b) (by rw [List.length_drop]; omega), List.take_append_drop]
theorem pieces3 {cs : List Value} {a b c : Nat} {x y z : List Value} (hl : cs.length = a + b + c) (h1 : (cs.drop 0).take a = x) (h2 : (cs.drop a).take b = y) (h3 : (cs.drop (a + b)).take c = z) : cs = x ++ (y ++ z) := by
  have h4 : cs.drop a = y ++ z := pieces2 (a := b) (b := c) (by rw [List.length_drop]; omega) (by rw [List.drop_zero]; exact h2) (by rw [List.drop_drop]; exact h3)
  subst h1
  rw [← h4, List.drop_zero, List.take_append_drop]
theorem pieces4 {cs : List Value} {a b c d : Nat} {x y z u : List Value} (hl : cs.length = a + b + c + d) (h1 : (cs.drop 0).take a = x) (h2 : (cs.drop a).take b = y) (h3 : (cs.drop (a + b)).take c = z) (h4 : (cs.drop (a + b + c)).take d = u) : cs = x ++ (y ++ (z ++ u)) := by
  have h5 : cs.drop a = y ++ (z ++ u) := pieces3 (a := b) (b := c) (c := d) (by rw [List.length_drop]; omega) (by rw [List.drop_zero]; exact h2) (by rw [List.drop_drop]; exact h3) (by rw [List.drop_drop, show a + (b + c) = a + b + c by omega]; exact h4)
  subst h1
  rw [← h5, List.drop_zero, List.take_append_drop]
/-- A struct that came in by value. -/
theorem open_val {T : TypeId} {fs : Array Field} (ht : P.underlying T = some (.struct fs)) {good : List Value → Prop} (hr : Reads enc P w base spare held T good) {r : Reach} {b0 : Nat} {v : Value} {d : DataW H} {p : List MemPlace}
    (hv : Value.okWide P w r b0 T v) (h : DataW.Trod enc P w base spare held T v d p) : ∃ cs : List Value, v = .agg cs.toArray ∧ good cs := by
  simp only [Value.okWide, ht] at hv
  obtain ⟨cs, rfl, _, _⟩ := hv
  obtain ⟨fuel, hf⟩ := h
  exact ⟨cs.toList, by simp, hr fuel _ _ (by simpa [Value.cells] using hf)⟩
theorem open_things {α : Type} [Inhabited α] {K : Kind P α} {t : TypeId} (ht : P.underlying t = some (.slice K.T)) (hC : P.cellsOf K.T = K.size) (hel : Reads enc P w base spare held K.T fun cs => ∃ y, cs = K.enc y) {r : Reach} {b0 : Nat} {v : Value} {d : DataW H} {p : List MemPlace}
    (hv : Value.okWide P w r b0 t v) (h : DataW.Trod enc P w base spare held t v d p) : ∃ L : List α, K.At w v L ∧ L.length ≤ 9223372036854775807 := by
  obtain ⟨L, h1, h2, _⟩ := open_kind (K := K) (good := fun _ => True) ht hC (fun f cs x h => by obtain ⟨y, hy⟩ := hel f cs x h; exact ⟨y, hy, trivial⟩) hv h
  exact ⟨L, h1, h2⟩
/-- A slice of structs of any make: its form, and where each of them lies. -/
theorem open_rows {t e : TypeId} {n : Nat} (ht : P.underlying t = some (.slice e)) (hC : P.cellsOf e = n) (hn : 0 < n) {good : List Value → Prop} (hel : Reads enc P w base spare held e fun cs => cs.length = n ∧ good cs) {r : Reach} {b0 : Nat} {v : Value} {d : DataW H} {p : List MemPlace}
    (hv : Value.okWide P w r b0 t v) (h : DataW.Trod enc P w base spare held t v d p) : ∃ (a : Option Addr) (len cap : Nat), v = .slice a len cap ∧ len ≤ 9223372036854775807 ∧ len ≤ cap ∧
      ∀ i, i < len → ∃ g o, a = some ⟨g, o, none⟩ ∧ ∃ cs, good cs ∧ w.rangeAt g (o + i * n) cs := by
  obtain ⟨a, len, cap, rfl⟩ := okWide_slice ht hv
  obtain ⟨fuel, hf⟩ := h
  refine ⟨a, len, cap, rfl, ?_⟩
  rcases open_slice ht hf with ⟨hcs, _⟩ | ⟨x, l, c, m, k, D, Pl, hcs, _, hl, hm, hmm, _, hi⟩
  · simp [Value.cells] at hcs
    obtain ⟨rfl, rfl, rfl⟩ := hcs
    exact ⟨by omega, by omega, fun i hi => by omega⟩
  · simp [Value.cells] at hcs
    obtain ⟨rfl, rfl, rfl⟩ := hcs
    have hlm : len ≤ m := by rw [hmm]; split <;> omega
    have hlM : len ≤ 9223372036854775807 := by unfold maxLen at hm; omega
    refine ⟨hlM, hl, fun i hil => ?_⟩
    obtain ⟨cs', h1, h2⟩ := hi i (by omega)
    rw [hC] at h1
    obtain ⟨_, _, h3⟩ := World.cells?_some h1
    obtain ⟨hcl, hg⟩ := hel _ _ _ h2
    obtain ⟨g, o, sp⟩ := x
    have hsp : sp = none := by
      obtain ⟨c0, g1, _⟩ := hi 0 (by omega)
      rw [hC] at g1
      obtain ⟨_, hl0, g3⟩ := World.cells?_some g1
      have g4 := g3 0 hn
      rw [List.getElem?_eq_getElem (by omega)] at g4
      simp only [Addr.add, Nat.zero_mul, if_true] at g4
      cases sp with
      | none => rfl
      | some k =>
        unfold World.cell? at g4
        simp only [Option.isSome_some, if_true] at g4
        split at g4 <;> simp at g4
    subst hsp
    refine ⟨g, o, rfl, cs', hg, fun j u hj => ?_⟩
    have hjl := (List.getElem?_eq_some_iff.1 hj).1
    have h4 := h3 j (by omega)
    rw [hj, Addr.add_mid, Addr.add_mid] at h4
    exact h4
end
end Go.Proofs.YtdgaoebjbhomdaaDoor.Ok
