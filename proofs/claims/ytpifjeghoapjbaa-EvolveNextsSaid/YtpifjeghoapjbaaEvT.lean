/- Arguments that came in: a key. -/
import Derived.Test.YtpifjeghoapjbaaTrO
import Derived.Test.YtpifjeghoapjbaaM6
namespace Go.Proofs.Ytpifjeghoapjbaa.Opened
open Go.RowKit Go.ChangeShapes Go.WideShapes Go.Deep

section
variable {H : Type} {enc : TypeId × Value → H} {P : Program} {w : World} {base : Nat} {spare : Nat → Bool} {held : Bool}

theorem open_hashesF {t e u : TypeId} (ht : P.underlying t = some (.slice e)) (he : P.underlying e = some (.array 32 u)) (hu : P.underlying u = some (.int .u8)) (hC : P.cellsOf e = 32) (hc : P.cellsOf u = 1) {fuel : Nat} {cs : List Value} {y : DataW H × List MemPlace}
    (hf : DataW.trod enc P w base spare held fuel t cs = some y) : ∃ (a : Option Addr) (len cap : Nat) (L : List (List UInt8)), cs = [.slice a len cap] ∧ Tree.Hashes w (.slice a len cap) L ∧ Tree.H32 L ∧ len ≤ cap ∧ len ≤ maxLen := by
  rcases open_slice ht hf with ⟨hcs, _⟩ | ⟨x, len, cap, m, n, D, Pl, hcs, _, hl, hm, hmm, _, hi⟩
  · exact ⟨none, 0, 0, [], hcs, Or.inl ⟨_, _, rfl, rfl⟩, fun h hh => by simp at hh, Nat.le_refl _, by simp⟩
  · have hlm : len ≤ m := by rw [hmm]; split <;> omega
    have hlM : len ≤ maxLen := Nat.le_trans hl hm
    have hall : ∀ i, i < len → ∃ y : List UInt8, y.length = 32 ∧ ∀ j : Nat, j < 32 → w.cell? ((x.add (i * 32)).add j) = (Sha.valsB y)[j]? := fun i hil => by
      obtain ⟨cs', h1, h2⟩ := hi i (by omega)
      rw [hC] at h1
      obtain ⟨_, _, h3⟩ := World.cells?_some h1
      obtain ⟨y, hy, h4⟩ := open_array32 he hu hC hc h2
      exact ⟨y, hy, fun j hj => by rw [h3 j hj, h4 j]⟩
    by_cases h0 : len = 0
    · subst h0
      exact ⟨some x, 0, cap, [], hcs, Or.inl ⟨_, _, rfl, rfl⟩, fun h hh => by simp at hh, hl, hlM⟩
    · obtain ⟨g, o, sp⟩ := x
      have hsp : sp = none := by
        obtain ⟨y, hy, h⟩ := hall 0 (by omega)
        have h1 := h 0 (by omega)
        have hlt : 0 < (Sha.valsB y).length := by rw [Tree.valsB_len, hy]; omega
        rw [List.getElem?_eq_getElem hlt] at h1
        simp only [Addr.add, Nat.zero_mul, if_true] at h1
        cases sp with
        | none => rfl
        | some k =>
          unfold World.cell? at h1
          simp only [Option.isSome_some, if_true] at h1
          split at h1 <;> simp at h1
      subst hsp
      have hch : ∃ f : Nat → List UInt8, ∀ i, i < len → (f i).length = 32 ∧ ∀ j : Nat, j < 32 → w.cell? (((⟨g, o, none⟩ : Addr).add (i * 32)).add j) = (Sha.valsB (f i))[j]? := by
        refine ⟨fun i => if h : i < len then (hall i h).choose else [], fun i hil => ?_⟩
        simp only [dif_pos hil]
        exact (hall i hil).choose_spec
      obtain ⟨f, hfs⟩ := hch
      refine ⟨some ⟨g, o, none⟩, len, cap, (List.range len).map f, hcs, Or.inr ⟨g, o, cap, by simp, by simp; omega, fun i y hy j v hv => ?_⟩, fun y hy => ?_, hl, hlM⟩
      · rw [List.getElem?_map] at hy
        by_cases hil : i < len
        · rw [List.getElem?_range hil] at hy
          simp at hy
          subst hy
          have hj := (List.getElem?_eq_some_iff.1 hv).1
          rw [Tree.valsB_len, (hfs i hil).1] at hj
          have h5 := (hfs i hil).2 j hj
          rw [Addr.add_mid, Addr.add_mid] at h5
          rw [h5]
          exact hv
        · rw [List.getElem?_eq_none (by simpa using hil)] at hy
          simp at hy
      · obtain ⟨i, hil, rfl⟩ := List.mem_map.1 hy
        rw [List.mem_range] at hil
        exact (hfs i hil).1

set_option maxRecDepth 100000 in
theorem open_ev {w : World} {r : Reach} {b0 : Nat} {v : Value} {d : DataW H} {p : List MemPlace}
    (hv : Value.okWide Try.prog w r b0 26 v) (h : DataW.Trod enc Try.prog w base spare held 26 v d p) :
    ∃ (dd pp : Int) (leaf : List UInt8) (ar : Option Addr) (nr cr : Nat) (as_ : Option Addr) (ns cs : Nat) (R S : List (List UInt8)), v = .agg (Evolve.evRow dd pp leaf (.slice ar nr cr) (.slice as_ ns cs)) ∧ (Lit.int .i64 dd).wf = true ∧ (Lit.int .i64 pp).wf = true ∧ leaf.length = 32 ∧
      Tree.Hashes w (.slice ar nr cr) R ∧ Tree.H32 R ∧ nr ≤ cr ∧ nr ≤ maxLen ∧ Tree.Hashes w (.slice as_ ns cs) S ∧ Tree.H32 S ∧ ns ≤ cs ∧ ns ≤ maxLen := by
  have ht := Try.underlying26
  simp only [Value.okWide, ht] at hv
  obtain ⟨cs, rfl, hsz, _⟩ := hv
  rw [show Try.prog.cellsOf 26 = 36 by kernel_rfl] at hsz
  obtain ⟨fuel, hf⟩ := h
  obtain ⟨xs, n, _, _, _, hxl, hfd⟩ := DataW.trod_struct ht hf
  obtain ⟨l, hl⟩ : ∃ l, cs.toList = l := ⟨_, rfl⟩
  have hll : l.length = 36 := by rw [← hl, Array.length_toList, hsz]
  have hcs : cs = l.toArray := by rw [← hl]
  simp only [Value.cells] at hfd
  rw [hl] at hfd
  obtain ⟨y0, f0⟩ : ∃ y, DataW.trod enc Try.prog w base spare held n 3 ((l.drop 0).take (Try.prog.cellsOf 3)) = some y := ⟨_, (hfd 0 _ rfl).trans (List.getElem?_eq_getElem (by rw [hxl]; decide))⟩
  obtain ⟨y1, f1⟩ : ∃ y, DataW.trod enc Try.prog w base spare held n 3 ((l.drop 1).take (Try.prog.cellsOf 3)) = some y := ⟨_, (hfd 1 _ rfl).trans (List.getElem?_eq_getElem (by rw [hxl]; decide))⟩
  obtain ⟨y2, f2⟩ : ∃ y, DataW.trod enc Try.prog w base spare held n 23 ((l.drop 2).take (Try.prog.cellsOf 23)) = some y := ⟨_, (hfd 2 _ rfl).trans (List.getElem?_eq_getElem (by rw [hxl]; decide))⟩
  obtain ⟨y3, f3⟩ : ∃ y, DataW.trod enc Try.prog w base spare held n 24 ((l.drop 34).take (Try.prog.cellsOf 24)) = some y := ⟨_, (hfd 3 _ rfl).trans (List.getElem?_eq_getElem (by rw [hxl]; decide))⟩
  obtain ⟨y4, f4⟩ : ∃ y, DataW.trod enc Try.prog w base spare held n 24 ((l.drop 35).take (Try.prog.cellsOf 24)) = some y := ⟨_, (hfd 4 _ rfl).trans (List.getElem?_eq_getElem (by rw [hxl]; decide))⟩
  rw [show Try.prog.cellsOf 3 = 1 by kernel_rfl] at f0 f1
  rw [show Try.prog.cellsOf 23 = 32 by kernel_rfl] at f2
  rw [show Try.prog.cellsOf 24 = 1 by kernel_rfl] at f3 f4
  clear hfd
  obtain ⟨dd, e0, _, w0⟩ := DataW.trod_int Try.underlying3 f0
  obtain ⟨pp, e1, _, w1⟩ := DataW.trod_int Try.underlying3 f1
  obtain ⟨leaf, hleaf, hat⟩ := open_array32 Try.underlying23 Try.underlying5 (by kernel_rfl) (by kernel_rfl) f2
  obtain ⟨ar, nr, cr, R, e3, hR, h32R, hcr, hmr⟩ := open_hashesF Try.underlying24 Try.underlying23 Try.underlying5 (by kernel_rfl) (by kernel_rfl) f3
  obtain ⟨as_, ns, cs2, S, e4, hS, h32S, hcs2, hms⟩ := open_hashesF Try.underlying24 Try.underlying23 Try.underlying5 (by kernel_rfl) (by kernel_rfl) f4
  have e2 : (l.drop 2).take 32 = Sha.valsB leaf := List.ext_getElem? hat
  have sp : ∀ i n, l.drop i = (l.drop i).take n ++ l.drop (i + n) := fun i n => by
    rw [← List.drop_drop]; exact (List.take_append_drop n (l.drop i)).symm
  have hlist : l = [Value.int .i64 dd, .int .i64 pp] ++ Sha.valsB leaf ++ [.slice ar nr cr, .slice as_ ns cs2] := by
    have h0 : l = l.drop 0 := rfl
    rw [h0, sp 0 1, sp (0 + 1) 1, sp (0 + 1 + 1) 32, sp (0 + 1 + 1 + 32) 1, sp (0 + 1 + 1 + 32 + 1) 1, e0, e1, e2, e3, e4, List.drop_of_length_le (by omega)]
    simp
  exact ⟨dd, pp, leaf, ar, nr, cr, as_, ns, cs2, R, S, by rw [hcs, hlist]; rfl, w0, w1, hleaf, hR, h32R, hcr, hmr, hS, h32S, hcs2, hms⟩
end
end Go.Proofs.Ytpifjeghoapjbaa.Opened
