/- Arguments that came in: a hash by value, a slice of texts. -/
import Derived.Test.YtogpnfgjdnccdaaM4
import Derived.ProofKit
import Derived.OpenShut
import Derived.Deep.Strs
namespace Go.Proofs.Ytogpnfgjdnccdaa.Opened
open Go.RowKit Go.ChangeShapes Go.WideShapes Go.Deep

section
variable {H : Type} {enc : TypeId × Value → H} {P : Program} {w : World} {base : Nat} {spare : Nat → Bool} {held : Bool}

theorem mapM_bytes {e : TypeId} (he : P.underlying e = some (.int .u8)) {m c : Nat} {cs : List Value} : ∀ (L : List Nat) (xs : List (DataW H × List MemPlace)),
    L.mapM (fun i => DataW.trod enc P w base spare held m e ((cs.drop (i * c)).take c)) = some xs →
    ∃ a : List UInt8, a.length = L.length ∧ ∀ (j i : Nat), L[j]? = some i → ∃ b, a[j]? = some b ∧ (cs.drop (i * c)).take c = [.int .u8 (b.toNat : Int)]
  | [], xs, _ => ⟨[], rfl, fun j i h => by simp at h⟩
  | i :: L, xs, h => by
    rw [List.mapM_cons] at h
    simp only [bind, Option.bind_eq_some_iff, pure, Option.some.injEq] at h
    obtain ⟨y, hy, ys, hys, rfl⟩ := h
    obtain ⟨a, hl, ha⟩ := mapM_bytes he L ys hys
    obtain ⟨n, ea, rfl, wa⟩ := DataW.trod_int he hy
    have hn : 0 ≤ n ∧ n < 256 := by
      have := bounds_u8 wa
      omega
    refine ⟨UInt8.ofNat n.toNat :: a, by simp [hl], fun j k hj => ?_⟩
    match j, hj with
    | 0, hj =>
      simp at hj
      subst hj
      refine ⟨_, rfl, ?_⟩
      rw [ea, UInt8.toNat_ofNat', Nat.mod_eq_of_lt (by omega)]
      congr 2
      omega
    | j + 1, hj => exact ha j k (by simpa using hj)

theorem open_hash {t e : TypeId} (ht : P.underlying t = some (.array 32 e)) (he : P.underlying e = some (.int .u8)) (hC : P.cellsOf t = 32) (hc : P.cellsOf e = 1) {r : Reach} {b0 : Nat} {v : Value} {d : DataW H} {p : List MemPlace}
    (hv : Value.okWide P w r b0 t v) (h : DataW.Trod enc P w base spare held t v d p) : ∃ a : List UInt8, a.length = 32 ∧ v = .agg (Sha.valsB a).toArray := by
  simp only [Value.okWide, ht] at hv
  obtain ⟨cs, rfl, hsz, _⟩ := hv
  rw [hC] at hsz
  obtain ⟨fuel, hf⟩ := h
  cases fuel with
  | zero => simp [DataW.trod] at hf
  | succ m =>
    rw [DataW.trod_step] at hf
    unfold DataW.trodStep at hf
    simp only [ht, Value.cells] at hf
    rw [if_pos (by rw [hC]; simpa using hsz)] at hf
    simp only [Option.map_eq_some_iff] at hf
    obtain ⟨ys, hy, _⟩ := hf
    rw [hc] at hy
    obtain ⟨a, hl, ha⟩ := mapM_bytes he _ ys hy
    rw [List.length_range] at hl
    refine ⟨a, hl, ?_⟩
    congr 1
    apply Array.ext_getElem?
    intro j
    by_cases hj : j < 32
    · obtain ⟨b, hb, hcell⟩ := ha j j (by simp [hj])
      rw [Sha.valsB_get a j b hb]
      have h1 : ((cs.toList.drop (j * 1)).take 1)[0]? = some (.int .u8 (b.toNat : Int)) := by rw [hcell]; rfl
      simpa using h1
    · rw [Array.getElem?_eq_none (by omega), Array.getElem?_eq_none (by rw [Sha.valsB_size]; omega)]

theorem open_texts {t e : TypeId} (ht : P.underlying t = some (.slice e)) (he : P.underlying e = some .string) (hc : P.cellsOf e = 1) {r : Reach} {b0 : Nat} {v : Value} {d : DataW H} {p : List MemPlace}
    (hv : Value.okWide P w r b0 t v) (h : DataW.Trod enc P w base spare held t v d p) : ∃ Q : List ByteArray, Sha.Texts w v Q ∧ (∀ s ∈ Q, s.size ≤ maxLen) ∧ Q.length ≤ maxLen := by
  obtain ⟨a, len, cap, rfl⟩ := okWide_slice ht hv
  obtain ⟨fuel, hf⟩ := h
  rcases open_strs ht he hc hf with ⟨hcs, _⟩ | ⟨x, l, c, m, Sx, hcs, _, hl, hm, hmm, _, hcell⟩
  · simp [Value.cells] at hcs
    obtain ⟨rfl, rfl, rfl⟩ := hcs
    exact ⟨[], Or.inl ⟨_, _, rfl, rfl⟩, by simp, by simp⟩
  · simp [Value.cells] at hcs
    obtain ⟨rfl, rfl, rfl⟩ := hcs
    have hlm : len ≤ m := by rw [hmm]; split <;> omega
    by_cases h0 : len = 0
    · subst h0
      exact ⟨[], Or.inl ⟨_, _, rfl, rfl⟩, by simp, by simp⟩
    · obtain ⟨g, o, sp⟩ := x
      have hsp : sp = none := by
        have h := (hcell 0 (by omega)).1
        simp only [Addr.add, if_true] at h
        cases sp with
        | none => rfl
        | some k =>
          unfold World.cell? at h
          simp only [Option.isSome_some, if_true] at h
          split at h <;> simp at h
      subst hsp
      refine ⟨(List.range len).map Sx, Or.inr ⟨g, o, cap, by simp, by simp; omega, fun i s hs => ?_⟩, ?_, by simp; omega⟩
      · rw [List.getElem?_map] at hs
        by_cases hi : i < len
        · rw [List.getElem?_range hi] at hs
          simp at hs
          subst hs
          have h := (hcell i (by omega)).1
          have e : (⟨g, o, none⟩ : Addr).add i = ⟨g, o + i, none⟩ := by
            unfold Addr.add
            split
            · rename_i hz
              subst hz
              rfl
            · rfl
          rw [e] at h
          exact h
        · rw [List.getElem?_eq_none (by simpa using hi)] at hs
          simp at hs
      · intro s hs
        obtain ⟨i, hi, rfl⟩ := List.mem_map.1 hs
        rw [List.mem_range] at hi
        exact (hcell i (by omega)).2
end

end Go.Proofs.Ytogpnfgjdnccdaa.Opened
