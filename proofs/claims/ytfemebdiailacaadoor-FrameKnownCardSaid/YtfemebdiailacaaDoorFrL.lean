/- frame: what the listed variable gives; arguments that came in; the six statements' laws. -/
import Derived.Test.YtfemebdiailacaaDoorFrJ
import Derived.Test.YtfemebdiailacaaDoorFrK
import Derived.Test.YtfemebdiailacaaDoorRows
import Derived.ProofKit
import Derived.OpenShut
import Derived.Deep.Slices
import Derived.LaidMore
import Derived.MakeChecks
namespace Go.Proofs.YtfemebdiailacaaDoor.Frame
open Go.RowKit Go.ChangeShapes Go.WideShapes Go.Deep Go.Proofs.YtfemebdiailacaaDoor.Gr

abbrev laidL : List (String × DataW Unit) := [("mintage/frame.added", Rows.laid_mintage_frame_added)]
theorem gAdded : Tryd.prog.globalNamed "mintage/frame.added" = some 0 := by kernel_rfl
theorem tAdded : (Tryd.prog.globals[0]?).map (·.type) = some 60 := by kernel_rfl
theorem added_at : ∀ i, i < 16 → ∀ d, (match (Rows.laid_mintage_frame_added : DataW Unit) with | .agg l => l | _ => [])[i]? = some d → d = .lit (.int .u32 ((tabN.getD i 0 : Nat) : Int)) := by
  intro i hi d h
  have e : (match (Rows.laid_mintage_frame_added : DataW Unit) with | .agg l => l | _ => []) = (List.range 16).map fun i => (.lit (.int .u32 ((tabN.getD i 0 : Nat) : Int)) : DataW Unit) := rfl
  rw [e, List.getElem?_map, List.getElem?_range hi] at h
  simpa using h.symm
/-- The listed variable's cells. -/
theorem of_laid {W : World} (h : laidMetH Tryd.prog laidL W) : Tab W := by
  rw [MakeChecks.laidMetH_plain _ _ _ (by kernel_rfl)] at h
  obtain ⟨ps, ⟨g0, t0, cs0, f0, p0, q0, hg0, ht0, hv0, hd0, _, _⟩, _, _⟩ := h
  obtain rfl := Option.some.inj (gAdded.symm.trans hg0)
  obtain rfl := Option.some.inj (tAdded.symm.trans ht0)
  obtain ⟨xs, m, rfl, hx, hlen, hn, hel⟩ := DataW.trod_array Tryd.underlying60 hd0
  have c1 : Tryd.prog.cellsOf 32 = 1 := by kernel_rfl
  simp only [Prod.mk.injEq] at hx
  intro i hi
  have hE := hel i hi
  rw [c1, Nat.mul_one, List.getElem?_eq_getElem (by omega)] at hE
  obtain ⟨k, e1, e2, _⟩ := DataW.trod_int Tryd.underlying32 hE
  have hd : (match (Rows.laid_mintage_frame_added : DataW Unit) with | .agg l => l | _ => [])[i]? = some (xs[i]'(by omega)).1 := by
    rw [hx.1]
    show (xs.map (·.1))[i]? = _
    rw [List.getElem?_map, List.getElem?_eq_getElem (by omega)]
    rfl
  have hk := added_at i hi _ hd
  rw [e2] at hk
  have hk' : k = ((tabN.getD i 0 : Nat) : Int) := by
    have := DataW.lit.inj hk
    simpa using this
  subst hk'
  rw [World.var?_cell hg0 hv0 i]
  have h2 : ((cs0.toList.drop i).take 1)[0]? = some (Value.int .u32 ((tabN.getD i 0 : Nat) : Int)) := by rw [e1]; rfl
  simpa using h2

section
variable {H : Type} {enc : TypeId × Value → H} {P : Program} {w : World} {base : Nat} {spare : Nat → Bool} {held : Bool}
theorem mapM_bytes {e : TypeId} (he : P.underlying e = some (.int .u8)) {m c : Nat} {cs : List Value} : ∀ (L : List Nat) (xs : List (DataW H × List MemPlace)),
    L.mapM (fun i => DataW.trod enc P w base spare held m e ((cs.drop (i * c)).take c)) = some xs →
    ∃ a : List UInt8, a.length = L.length ∧ ∀ (j i : Nat), L[j]? = some i → ∃ b, a[j]? = some b ∧ (cs.drop (i * c)).take c = [.int .u8 (b.toNat : Int)]
  | [], xs, _ => ⟨[], rfl, fun j i h => by simp at h⟩
  | i :: L, xs, h => by
    rw [List.mapM_cons] at h
    simp only [bind, Option.bind_eq_some_iff, pure, Option.some.injEq] at h
    obtain ⟨y, hy, ys, hys, rfl⟩ := h
    obtain ⟨a, hl, ha⟩ := mapM_bytes he L ys hys
    obtain ⟨n, ea, rfl, wa⟩ := DataW.trod_int he hy
    have hn : 0 ≤ n ∧ n < 256 := by
      have := bounds_u8 wa
      omega
    refine ⟨UInt8.ofNat n.toNat :: a, by simp [hl], fun j k hj => ?_⟩
    match j, hj with
    | 0, hj =>
      simp at hj
      subst hj
      refine ⟨_, rfl, ?_⟩
      rw [ea, UInt8.toNat_ofNat', Nat.mod_eq_of_lt (by omega)]
      congr 2
      omega
    | j + 1, hj => exact ha j k (by simpa using hj)
theorem open_four {t e : TypeId} (ht : P.underlying t = some (.array 4 e)) (he : P.underlying e = some (.int .u8)) (hC : P.cellsOf t = 4) (hc : P.cellsOf e = 1) {r : Reach} {b0 : Nat} {v : Value} {d : DataW H} {p : List MemPlace}
    (hv : Value.okWide P w r b0 t v) (h : DataW.Trod enc P w base spare held t v d p) : ∃ c0 c1 c2 c3 : UInt8, v = .agg #[.int .u8 (c0.toNat : Int), .int .u8 (c1.toNat : Int), .int .u8 (c2.toNat : Int), .int .u8 (c3.toNat : Int)] := by
  simp only [Value.okWide, ht] at hv
  obtain ⟨cs, rfl, hsz, _⟩ := hv
  rw [hC] at hsz
  obtain ⟨fuel, hf⟩ := h
  cases fuel with
  | zero => simp [DataW.trod] at hf
  | succ m =>
    rw [DataW.trod_step] at hf
    unfold DataW.trodStep at hf
    simp only [ht, Value.cells] at hf
    rw [if_pos (by rw [hC]; simpa using hsz)] at hf
    simp only [Option.map_eq_some_iff] at hf
    obtain ⟨ys, hy, _⟩ := hf
    rw [hc] at hy
    obtain ⟨a, hl, ha⟩ := mapM_bytes he _ ys hy
    rw [List.length_range] at hl
    have hg : ∀ j, j < 4 → ∃ b : UInt8, cs[j]? = some (.int .u8 (b.toNat : Int)) := fun j hj => by
      obtain ⟨b, hb, hcell⟩ := ha j j (by simp [hj])
      have h1 : ((cs.toList.drop (j * 1)).take 1)[0]? = some (.int .u8 (b.toNat : Int)) := by rw [hcell]; rfl
      exact ⟨b, by simpa using h1⟩
    obtain ⟨c0, h0⟩ := hg 0 (by omega)
    obtain ⟨c1, h1⟩ := hg 1 (by omega)
    obtain ⟨c2, h2⟩ := hg 2 (by omega)
    obtain ⟨c3, h3⟩ := hg 3 (by omega)
    refine ⟨c0, c1, c2, c3, ?_⟩
    congr 1
    apply Array.ext_getElem?
    intro j
    match j with
    | 0 => exact h0
    | 1 => exact h1
    | 2 => exact h2
    | 3 => exact h3
    | j + 4 => rw [Array.getElem?_eq_none (by omega), Array.getElem?_eq_none (by simp)]
theorem open_kind {α : Type} [Inhabited α] {K : Kind P α} {good : α → Prop} {t : TypeId} (ht : P.underlying t = some (.slice K.T)) (hC : P.cellsOf K.T = K.size)
    (hel : ∀ (fuel : Nat) (cs : List Value) (x : DataW H × List MemPlace), DataW.trod enc P w base spare held fuel K.T cs = some x → ∃ y, cs = K.enc y ∧ good y) {r : Reach} {b0 : Nat} {v : Value} {d : DataW H} {p : List MemPlace}
    (hv : Value.okWide P w r b0 t v) (h : DataW.Trod enc P w base spare held t v d p) : ∃ L : List α, K.At w v L ∧ L.length ≤ 9223372036854775807 ∧ ∀ y ∈ L, good y := by
  obtain ⟨a, len, cap, rfl⟩ := okWide_slice ht hv
  obtain ⟨fuel, hf⟩ := h
  rcases open_slice ht hf with ⟨hcs, _⟩ | ⟨x, l, c, m, n, D, Pl, hcs, _, hl, hm, hmm, _, hi⟩
  · simp [Value.cells] at hcs
    obtain ⟨rfl, rfl, rfl⟩ := hcs
    exact ⟨[], Kind.At.nil _ _, by simp, fun y hy => by simp at hy⟩
  · simp [Value.cells] at hcs
    obtain ⟨rfl, rfl, rfl⟩ := hcs
    have hlm : len ≤ m := by rw [hmm]; split <;> omega
    have hlM : len ≤ 9223372036854775807 := by unfold maxLen at hm; omega
    have hall : ∀ i, i < len → ∃ y : α, good y ∧ ∀ j : Nat, j < K.size → w.cell? ((x.add (i * K.size)).add j) = (K.enc y)[j]? := fun i hil => by
      obtain ⟨cs', h1, h2⟩ := hi i (by omega)
      rw [hC] at h1
      obtain ⟨_, _, h3⟩ := World.cells?_some h1
      obtain ⟨y, hy, hg⟩ := hel _ _ _ h2
      exact ⟨y, hg, fun j hj => by rw [h3 j hj, hy]⟩
    by_cases h0 : len = 0
    · subst h0
      exact ⟨[], Kind.At.nil _ _, by simp, fun y hy => by simp at hy⟩
    · obtain ⟨g, o, sp⟩ := x
      have hsp : sp = none := by
        obtain ⟨y, _, h⟩ := hall 0 (by omega)
        have h1 := h 0 K.pos
        have hlt : 0 < (K.enc y).length := by rw [K.len]; exact K.pos
        rw [List.getElem?_eq_getElem hlt] at h1
        simp only [Addr.add, Nat.zero_mul, if_true] at h1
        cases sp with
        | none => rfl
        | some k =>
          unfold World.cell? at h1
          simp only [Option.isSome_some, if_true] at h1
          split at h1 <;> simp at h1
      subst hsp
      obtain ⟨f, hfs⟩ := choose_lt hall
      refine ⟨(List.range len).map f, Or.inr ⟨g, o, cap, by simp, by simp; omega, by simpa using hl, fun j u hj => ?_⟩, by simpa using hlM, fun y hy => ?_⟩
      · have hj' := (List.getElem?_eq_some_iff.1 hj).1
        rw [K.flat_len, List.length_map, List.length_range] at hj'
        have hi : j / K.size < len := Nat.div_lt_of_lt_mul (by rw [Nat.mul_comm]; exact hj')
        have hr : j % K.size < K.size := Nat.mod_lt _ K.pos
        have hje : j / K.size * K.size + j % K.size = j := by rw [Nat.mul_comm]; exact Nat.div_add_mod j K.size
        have hy : ((List.range len).map f)[j / K.size]? = some (f (j / K.size)) := by rw [List.getElem?_map, List.getElem?_range hi]; rfl
        have hu : (K.enc (f (j / K.size)))[j % K.size]? = some u := by
          have hlt : j % K.size < (K.enc (f (j / K.size))).length := by rw [K.len]; exact hr
          have h2 := K.flat_at _ (j / K.size) _ (j % K.size) _ hy (List.getElem?_eq_getElem hlt)
          rw [hje, hj] at h2
          rw [List.getElem?_eq_getElem hlt]
          exact h2.symm
        have h5 := (hfs _ hi).2 _ hr
        rw [Addr.add_mid, Addr.add_mid, Nat.add_assoc, hje] at h5
        rw [h5]
        exact hu
      · obtain ⟨i, hil, rfl⟩ := List.mem_map.1 hy
        rw [List.mem_range] at hil
        exact (hfs i hil).1
end
theorem open_texts {H : Type} {enc : TypeId × Value → H} {w : World} {base : Nat} {spare : Nat → Bool} {held : Bool} {r : Reach} {b0 : Nat} {v : Value} {d : DataW H} {p : List MemPlace} (hv : Value.okWide Tryd.prog w r b0 28 v) (h : DataW.Trod enc Tryd.prog w base spare held 28 v d p) :
    ∃ L : List ByteArray, KT.At w v L ∧ L.length ≤ 9223372036854775807 ∧ ∀ y ∈ L, y.size ≤ 9223372036854775807 :=
  open_kind (K := KT) Tryd.underlying28 (by kernel_rfl) (fun fuel cs x hf => by
    obtain ⟨s, e, _, hs⟩ := DataW.trod_string Tryd.underlying9 hf
    exact ⟨s, e, by unfold maxLen at hs; omega⟩) hv h

/-- What the reach says of a text that is the second argument. -/
theorem sized_text1 {H : Type} {P : Program} {t0 t1 : TypeId} {ts : List TypeId} {d0 : DataW H} {s : ByteArray} {gs : List (DataW H)}
    (h : (DataW.weightsEach P ([t0, t1] ++ ts) ([d0, .lit (.string s.data.toList)] ++ gs)).all (· ≤ reachBytes) = true) : s.size ≤ 140737488351232 := by
  have h1 := List.all_eq_true.1 h s.data.toList.length (by simp [DataW.weightsEach, DataW.weights])
  rw [len_data] at h1
  exact of_decide_eq_true h1
theorem law_FrameKnown (w : World) (h : laidMetH Tryd.prog laidL w) :
    Calls Tryd.prog 3 #[] w fun e w' => e = .returned (.bool true) ∧ Below w.heap.size w w' := known_any w (of_laid h)
theorem law_FramePuts (a0 : ByteArray) (w : World) (w0 : a0.size ≤ maxLen) (h : laidMetH Tryd.prog laidL w) :
    Calls Tryd.prog 4 #[.string a0] w fun e w' => e = .returned (.bool true) ∧ Below w.heap.size w w' := puts_any a0 w w0 (of_laid h)
theorem law_FrameTakes (a0 : ByteArray) (a1 : Int) (w : World) (w0 : a0.size ≤ maxLen) (h : laidMetH Tryd.prog laidL w) :
    Calls Tryd.prog 5 #[.string a0, .int .i64 a1] w fun e w' => e = .returned (.bool true) ∧ Below w.heap.size w w' := takes_any a0 a1 w w0 (of_laid h)
theorem law_FrameBack (v0 : Value) (a0 : List ByteArray) (a1 : ByteArray) (w : World) (w0 : KT.At w v0 a0) (x0 : a0.length ≤ 9223372036854775807) (y0 : ∀ y ∈ a0, y.size ≤ 9223372036854775807) (s1 : a1.size ≤ 140737488351232) (h : laidMetH Tryd.prog laidL w) :
    Calls Tryd.prog 6 #[v0, .string a1] w fun e w' => e = .returned (.bool true) ∧ Below w.heap.size w w' := back_any v0 a0 a1 w w0 x0 y0 s1 (of_laid h)
theorem law_FrameTorn (a0 : ByteArray) (a1 a2 : Int) (a3 : ByteArray) (w : World) (w0 : a0.size ≤ maxLen) (w3 : a3.size ≤ maxLen) (h : laidMetH Tryd.prog laidL w) :
    Calls Tryd.prog 7 #[.string a0, .int .i64 a1, .int .i64 a2, .string a3] w fun e w' => e = .returned (.bool true) ∧ Below w.heap.size w w' := torn_any a0 a1 a2 a3 w w0 w3 (of_laid h)
theorem law_FrameSpoilt (a0 : ByteArray) (a1 : Int) (c0 c1 c2 c3 : UInt8) (w : World) (w0 : a0.size ≤ maxLen) (h : laidMetH Tryd.prog laidL w) :
    Calls Tryd.prog 8 #[.string a0, .int .i64 a1, .agg #[.int .u8 (c0.toNat : Int), .int .u8 (c1.toNat : Int), .int .u8 (c2.toNat : Int), .int .u8 (c3.toNat : Int)]] w fun e w' => e = .returned (.bool true) ∧ Below w.heap.size w w' := spoilt_any a0 a1 c0 c1 c2 c3 w w0 (of_laid h)
end Go.Proofs.YtfemebdiailacaaDoor.Frame
