/- Arguments that came in: a slice of hashes. -/
import Derived.Test.YtpifjeghoapjbaaOpen
import Derived.Test.YtpifjeghoapjbaaM5
import Derived.Deep.Slices
import Derived.Deep.Fields
namespace Go.Proofs.Ytpifjeghoapjbaa.Opened
open Go.RowKit Go.ChangeShapes Go.WideShapes Go.Deep

section
variable {H : Type} {enc : TypeId × Value → H} {P : Program} {w : World} {base : Nat} {spare : Nat → Bool} {held : Bool}

theorem open_array32 {e u : TypeId} (he : P.underlying e = some (.array 32 u)) (hu : P.underlying u = some (.int .u8)) (hC : P.cellsOf e = 32) (hc : P.cellsOf u = 1) {fuel : Nat} {cs : List Value} {x : DataW H × List MemPlace}
    (hf : DataW.trod enc P w base spare held fuel e cs = some x) : ∃ a : List UInt8, a.length = 32 ∧ ∀ j : Nat, cs[j]? = (Sha.valsB a)[j]? := by
  cases fuel with
  | zero => simp [DataW.trod] at hf
  | succ m =>
    rw [DataW.trod_step] at hf
    unfold DataW.trodStep at hf
    simp only [he] at hf
    split at hf
    · rename_i hlen
      simp only [Option.map_eq_some_iff] at hf
      obtain ⟨ys, hy, _⟩ := hf
      rw [hc] at hy
      obtain ⟨a, hl, ha⟩ := mapM_bytes hu _ ys hy
      rw [List.length_range] at hl
      refine ⟨a, hl, fun j => ?_⟩
      have hcl : cs.length = 32 := by rw [hC] at hlen; simpa using hlen
      by_cases hj : j < 32
      · obtain ⟨b, hb, hcell⟩ := ha j j (by simp [hj])
        have h1 : ((cs.drop (j * 1)).take 1)[0]? = some (.int .u8 (b.toNat : Int)) := by rw [hcell]; rfl
        have h2 : (Sha.valsB a)[j]? = some (.int .u8 (b.toNat : Int)) := by simp [Sha.valsB, hb]
        rw [h2]
        simpa using h1
      · rw [List.getElem?_eq_none (by omega), List.getElem?_eq_none (by simp [Sha.valsB]; omega)]
    · cases hf
theorem open_hashes {t e u : TypeId} (ht : P.underlying t = some (.slice e)) (he : P.underlying e = some (.array 32 u)) (hu : P.underlying u = some (.int .u8)) (hC : P.cellsOf e = 32) (hc : P.cellsOf u = 1) {r : Reach} {b0 : Nat} {v : Value} {d : DataW H} {p : List MemPlace}
    (hv : Value.okWide P w r b0 t v) (h : DataW.Trod enc P w base spare held t v d p) : ∃ L : List (List UInt8), Tree.Hashes w v L ∧ Tree.H32 L ∧ L.length ≤ maxLen := by
  obtain ⟨a, len, cap, rfl⟩ := okWide_slice ht hv
  obtain ⟨fuel, hf⟩ := h
  rcases open_slice ht hf with ⟨hcs, _⟩ | ⟨x, l, c, m, n, D, Pl, hcs, _, hl, hm, hmm, _, hi⟩
  · simp [Value.cells] at hcs
    obtain ⟨rfl, rfl, rfl⟩ := hcs
    exact ⟨[], Or.inl ⟨_, _, rfl, rfl⟩, fun h hh => by simp at hh, by simp⟩
  · simp [Value.cells] at hcs
    obtain ⟨rfl, rfl, rfl⟩ := hcs
    have hlm : len ≤ m := by rw [hmm]; split <;> omega
    have hall : ∀ i, i < len → ∃ y : List UInt8, y.length = 32 ∧ ∀ j : Nat, j < 32 → w.cell? ((x.add (i * 32)).add j) = (Sha.valsB y)[j]? := fun i hil => by
      obtain ⟨cs', h1, h2⟩ := hi i (by omega)
      rw [hC] at h1
      obtain ⟨_, _, h3⟩ := World.cells?_some h1
      obtain ⟨y, hy, h4⟩ := open_array32 he hu hC hc h2
      exact ⟨y, hy, fun j hj => by rw [h3 j hj, h4 j]⟩
    by_cases h0 : len = 0
    · subst h0
      exact ⟨[], Or.inl ⟨_, _, rfl, rfl⟩, fun h hh => by simp at hh, by simp⟩
    · obtain ⟨g, o, sp⟩ := x
      have hsp : sp = none := by
        obtain ⟨y, hy, h⟩ := hall 0 (by omega)
        have h1 := h 0 (by omega)
        have hlt : 0 < (Sha.valsB y).length := by rw [Tree.valsB_len, hy]; omega
        rw [List.getElem?_eq_getElem hlt] at h1
        simp only [Addr.add, Nat.zero_mul, if_true] at h1
        cases sp with
        | none => rfl
        | some k =>
          unfold World.cell? at h1
          simp only [Option.isSome_some, if_true] at h1
          split at h1 <;> simp at h1
      subst hsp
      have hch : ∃ f : Nat → List UInt8, ∀ i, i < len → (f i).length = 32 ∧ ∀ j : Nat, j < 32 → w.cell? (((⟨g, o, none⟩ : Addr).add (i * 32)).add j) = (Sha.valsB (f i))[j]? := by
        refine ⟨fun i => if h : i < len then (hall i h).choose else [], fun i hil => ?_⟩
        simp only [dif_pos hil]
        exact (hall i hil).choose_spec
      obtain ⟨f, hfs⟩ := hch
      refine ⟨(List.range len).map f, Or.inr ⟨g, o, cap, by simp, by simp; omega, fun i y hy j v hv => ?_⟩, fun y hy => ?_, by simp; omega⟩
      · rw [List.getElem?_map] at hy
        by_cases hil : i < len
        · rw [List.getElem?_range hil] at hy
          simp at hy
          subst hy
          have hj := (List.getElem?_eq_some_iff.1 hv).1
          rw [Tree.valsB_len, (hfs i hil).1] at hj
          have h5 := (hfs i hil).2 j hj
          rw [Addr.add_mid, Addr.add_mid] at h5
          rw [h5]
          exact hv
        · rw [List.getElem?_eq_none (by simpa using hil)] at hy
          simp at hy
      · obtain ⟨i, hil, rfl⟩ := List.mem_map.1 hy
        rw [List.mem_range] at hil
        exact (hfs i hil).1
theorem open_cap {t e : TypeId} (ht : P.underlying t = some (.slice e)) {r : Reach} {b0 : Nat} {v : Value} {d : DataW H} {p : List MemPlace}
    (hv : Value.okWide P w r b0 t v) (h : DataW.Trod enc P w base spare held t v d p) : ∃ a l c, v = .slice a l c ∧ l ≤ c := by
  obtain ⟨a, len, cap, rfl⟩ := okWide_slice ht hv
  obtain ⟨fuel, hf⟩ := h
  rcases open_slice ht hf with ⟨hcs, _⟩ | ⟨x, l, c, m, n, D, Pl, hcs, _, hl, _, _, _, _⟩
  · simp [Value.cells] at hcs
    obtain ⟨rfl, rfl, rfl⟩ := hcs
    exact ⟨_, _, _, rfl, Nat.le_refl _⟩
  · simp [Value.cells] at hcs
    obtain ⟨rfl, rfl, rfl⟩ := hcs
    exact ⟨_, _, _, rfl, hl⟩
end

end Go.Proofs.Ytpifjeghoapjbaa.Opened
